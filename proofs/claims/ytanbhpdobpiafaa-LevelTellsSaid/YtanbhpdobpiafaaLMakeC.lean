/- The contract of level's Make. -/
import Derived.Test.YtanbhpdobpiafaaLMakeB
namespace Go.Proofs.Ytanbhpdobpiafaa
open Go.RowKit

theorem set4 {W : World} {g : Nat} {u0 u1 u2 u3 : Value} {t : TypeId} (h : W.heap[g]? = some (.cells #[u0, u1, u2, u3] t (0, 0))) (v0 v1 v2 v3 : Value) :
    ((((W.setCell ⟨g, 0, none⟩ v0).setCell ⟨g, 1, none⟩ v1).setCell ⟨g, 2, none⟩ v2).setCell ⟨g, 3, none⟩ v3).heap[g]? = some (.cells #[v0, v1, v2, v3] t (0, 0)) := by
  simp only [World.setCell, Array.getElem?_modify, if_true, h]
  rfl
theorem below4 {B : Nat} {w W : World} (h : Below B w W) {g : Nat} (hg : B ≤ g) (v0 v1 v2 v3 : Value) :
    Below B w ((((W.setCell ⟨g, 0, none⟩ v0).setCell ⟨g, 1, none⟩ v1).setCell ⟨g, 2, none⟩ v2).setCell ⟨g, 3, none⟩ v3) :=
  (((h.setCell (p := ⟨g, 0, none⟩) hg v0).setCell (p := ⟨g, 1, none⟩) hg v1).setCell (p := ⟨g, 2, none⟩) hg v2).setCell (p := ⟨g, 3, none⟩) hg v3

set_option maxRecDepth 100000 in
set_option maxHeartbeats 2000000 in
theorem make_whole (K S : Int) (A : Option Addr) (n c : Nat) (LL : List (List Int)) (w : World) (h : IntsLL w w.heap.size A n LL) (_hn : n ≤ 5000) (hmay : MayP K S n) (hw : wholeB K = true) :
    Calls Try.prog 26 #[.int .i64 K, .int .i64 S, .slice A n c] w (MakePost w K S LL) := by
  have HM := fun W => may_any K S n W
  rw [pB_t hmay] at HM
  have hkk := wholeB_iff.1 hw
  have hmp : mkPos K LL = [] := by unfold mkPos; rw [if_neg (by omega)]
  have hmc : mkCrd K LL = [] := by unfold mkCrd; rw [if_neg (by omega)]
  have hE : makeE K S LL = lvF K S [] [] n := by rw [makeE_lv (by omega), hmp, hmc, h.1]
  have HC := fun W => lvCheck_any K S n none none 0 0 0 0 [] [] W Ints.nil_ (by omega) Ints.nil_ (by omega)
  rw [← hE] at HC
  have z0 := lvBelow w (lvO 0 0 none 0 0 none 0 0)
  have z1 := z0.alloc z0.size (lvO K S none 0 0 none 0 0)
  have q1 := zz_one w (lvO 0 0 none 0 0 none 0 0) (lvO K S none 0 0 none 0 0)
  have q2 := zz_two w (lvO 0 0 none 0 0 none 0 0) (lvO K S none 0 0 none 0 0)
  obtain ⟨E, hEE⟩ : ∃ E, makeE K S LL = E := ⟨_, rfl⟩
  rw [hEE] at HC
  have HEE := Lib.hid hEE
  have HMP := Lib.hid hmp
  have HMC := Lib.hid hmc
  have k1 : (K == 1) = false := by simp; omega
  have k2 : (K == 2) = false := by simp; omega
  have k3 : (K == 3) = false := by simp; omega
  clear hmay hkk hmp hmc hE hw hEE
  by_cases h0 : E = 0
  · have HE0 := Lib.hid h0
    subst h0
    go_enter Try.func26, Try.ntmps26
    go_wp2_with (first | (go_at_call 39; refine (HM _).mono ?_; rintro x w1 ⟨rfl, rfl⟩) | (go_at_call 20; refine (HC _).mono ?_; rintro x w1 ⟨rfl, hb1⟩; have hb2 := z1.trans (hb1.mono z1.size); have r1 := oKeep hb1 q1; have r2 := oKeep hb1 q2; obtain ⟨l0, l1, l2, l3, m0, m1, m2, m3⟩ := lvCells r2; obtain ⟨p0, p1, p2, p3, f0, f1, f2, f3⟩ := lvCells r1))
    obtain ⟨t0, t1, t2, t3, _⟩ := lvCells (set4 r1 (.int .i64 K) (.int .i64 S) (.slice none 0 0) (.slice none 0 0))
    refine bodyPost_ret (v := .tuple #[lvV K S none 0 0 none 0 0, .int .i64 0]) (by simp [results, Try.results26, go_sem, t0, t1, t2, t3]) rfl (.inl ⟨HEE.out, none, 0, none, 0, ret_of (by rw [HMP.out, HMC.out]; rfl), by rw [HMP.out]; exact OwnI.nil_ _ _ _, by rw [HMC.out]; exact OwnI.nil_ _ _ _, ?_⟩)
    exact below4 hb2 (Nat.le_refl _) _ _ _ _
  · have e1 : (E == 0) = false := by simpa using h0
    have e2 : (E != 0) = true := by simpa using h0
    go_enter Try.func26, Try.ntmps26
    go_wp2_with (first | (go_at_call 39; refine (HM _).mono ?_; rintro x w1 ⟨rfl, rfl⟩) | (go_at_call 20; refine (HC _).mono ?_; rintro x w1 ⟨rfl, hb1⟩; have hb2 := z1.trans (hb1.mono z1.size); have r1 := oKeep hb1 q1; have r2 := oKeep hb1 q2; obtain ⟨l0, l1, l2, l3, m0, m1, m2, m3⟩ := lvCells r2; obtain ⟨p0, p1, p2, p3, f0, f1, f2, f3⟩ := lvCells r1))
    obtain ⟨t0, t1, t2, t3, _⟩ := lvCells (set4 r1 (.int .i64 0) (.int .i64 0) (.slice none 0 0) (.slice none 0 0))
    refine bodyPost_ret (v := .tuple #[lvV 0 0 none 0 0 none 0 0, .int .i64 E]) (by simp [results, Try.results26, go_sem, t0, t1, t2, t3]) rfl (.inr ⟨by rw [HEE.out]; exact h0, ret_of (by rw [HEE.out]), ?_⟩)
    exact below4 hb2 (Nat.le_refl _) _ _ _ _
end Go.Proofs.Ytanbhpdobpiafaa
