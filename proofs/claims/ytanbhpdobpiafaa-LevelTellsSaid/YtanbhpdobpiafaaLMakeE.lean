/- The contract of level's Make at single levels, and at all. -/
import Derived.Test.YtanbhpdobpiafaaLMakeD
namespace Go.Proofs.Ytanbhpdobpiafaa
open Go.RowKit

set_option maxRecDepth 100000 in
set_option maxHeartbeats 2000000 in
theorem make_single (S : Int) (A : Option Addr) (n c : Nat) (LL : List (List Int)) (w : World) (h : IntsLL w w.heap.size A n LL) (hn : n ≤ 5000) (hLb : ∀ L ∈ LL, L.length ≤ 9223372036854775807) (hmay : MayP 3 S n) :
    Calls Try.prog 26 #[.int .i64 3, .int .i64 S, .slice A n c] w (MakePost w 3 S LL) := by
  have HM := fun W => may_any 3 S n W
  rw [pB_t hmay] at HM
  have hmp : mkPos 3 LL = [] := by unfold mkPos; rw [if_neg (by omega)]
  have hmc : mkCrd 3 LL = LL.flatten := by unfold mkCrd; rw [if_pos (by omega)]
  have hE : AllOne LL → makeE 3 S LL = lvF 3 S [] LL.flatten n := fun ha => by rw [makeE_lv (fun _ => ha), hmp, hmc, h.1]
  have hfl : AllOne LL → LL.flatten.length = n := fun ha => by rw [allOne_flat ha, h.1]
  have z0 := lvBelow w (lvO 0 0 none 0 0 none 0 0)
  have z1 := z0.alloc z0.size (lvO 3 S none 0 0 none 0 0)
  have q1 := zz_one w (lvO 0 0 none 0 0 none 0 0) (lvO 3 S none 0 0 none 0 0)
  have q2 := zz_two w (lvO 0 0 none 0 0 none 0 0) (lvO 3 S none 0 0 none 0 0)
  have HJ := ones_any A n c LL _ ((h.below z1).more z1.size) hn hLb
  have hws : ((w.alloc (lvO 0 0 none 0 0 none 0 0)).alloc (lvO 3 S none 0 0 none 0 0)).heap.size = w.heap.size + 1 + 1 := by simp
  have HEE := Lib.hid hE
  have HMP := Lib.hid hmp
  have HMC := Lib.hid hmc
  have HFL := Lib.hid hfl
  have HWS := Lib.hid hws
  clear hmay hmp hmc hE hws hfl
  go_enter Try.func26, Try.ntmps26
  go_wp2_with (go_at_call 39; refine (HM _).mono ?_; rintro x w1 ⟨rfl, rfl⟩)
  refine HJ.mono ?_
  rintro x w2 (⟨hao, A2, c2, rfl, HO2, hb1⟩ | ⟨hao, rfl, hb1⟩)
  · have hb2 := z1.trans (hb1.mono z1.size)
    have r1 := oKeep hb1 q1
    have r2 := oKeep hb1 q2
    obtain ⟨l0, l1, l2, l3, m0, m1, m2, m3⟩ := lvCells r2
    have r3 := keep1 r1 (g := w.heap.size + 1) (by omega) 3 (.slice A2 n c2)
    have r4 := set1 r2 (.slice A2 n c2)
    have hO2 := HO2.setBelow (a := ⟨w.heap.size + 1, 3, none⟩) (by rw [HWS.out]; exact Nat.lt_succ_self _) (.slice A2 n c2)
    have hb3 := hb2.setCell (p := ⟨w.heap.size + 1, 3, none⟩) (Nat.le_succ _) (.slice A2 n c2)
    have HG : Hid (w.heap.size ≤ ((w.alloc (lvO 0 0 none 0 0 none 0 0)).alloc (lvO 3 S none 0 0 none 0 0)).heap.size) := by unfold Hid; rw [HWS.out]; omega
    obtain ⟨W3, hW3⟩ : ∃ W3, (w2.setCell ⟨w.heap.size + 1, 3, none⟩ (.slice A2 n c2)) = W3 := ⟨_, rfl⟩
    rw [hW3] at r3 r4 hO2 hb3
    have i2 := hO2.ints
    have HFN := Lib.hid (HFL.out hao)
    rw [HFN.out] at i2
    have HC := lvCheck_any 3 S n none A2 0 0 n c2 [] LL.flatten W3 Ints.nil_ (by omega) i2 (by omega)
    rw [← HEE.out hao] at HC
    obtain ⟨E, hEE⟩ : ∃ E, makeE 3 S LL = E := ⟨_, rfl⟩
    rw [hEE] at HC
    have HEV := Lib.hid hEE
    have H3 := Lib.hid hW3
    clear hEE hW3 HEE HJ HO2 i2 r1 hao
    by_cases h0 : E = 0
    · subst h0
      go_wp2_with fail
      rw [H3.out]
      refine HC.mono ?_
      rintro x w5 ⟨rfl, hb5⟩
      have hb6 := hb3.trans (hb5.mono hb3.size)
      have t5 := oKeep hb5 r4
      have t6 := oKeep hb5 r3
      obtain ⟨a0, a1, a2, a3, n0, n1, n2, n3⟩ := lvCells t5
      obtain ⟨p0, p1, p2, p3, f0, f1, f2, f3⟩ := lvCells t6
      have hO4 := Lib.hid (hO2.below hb5 (Nat.le_refl _))
      clear hO2
      go_wp2_with fail
      obtain ⟨t0, t1, t2, t3, _⟩ := lvCells (set4 t6 (.int .i64 3) (.int .i64 S) (.slice none 0 0) (.slice A2 n c2))
      refine bodyPost_ret (v := .tuple #[lvV 3 S none 0 0 A2 n c2, .int .i64 0]) (by simp [results, Try.results26, go_sem, t0, t1, t2, t3]) rfl (.inl ⟨HEV.out, none, 0, A2, c2, ret_of (by rw [HMP.out, HMC.out, HFN.out]; rfl), ?_, ?_, below4 hb6 (Nat.le_refl _) _ _ _ _⟩)
      · rw [HMP.out]; exact OwnI.nil_ _ _ _
      · rw [HMC.out]
        exact ((((hO4.out.setBelow (a := ⟨w.heap.size, 0, none⟩) (by rw [HWS.out]; exact Nat.lt_succ_of_lt (Nat.lt_succ_self _)) _).setBelow (a := ⟨w.heap.size, 1, none⟩) (by rw [HWS.out]; exact Nat.lt_succ_of_lt (Nat.lt_succ_self _)) _).setBelow (a := ⟨w.heap.size, 2, none⟩) (by rw [HWS.out]; exact Nat.lt_succ_of_lt (Nat.lt_succ_self _)) _).setBelow (a := ⟨w.heap.size, 3, none⟩) (by rw [HWS.out]; exact Nat.lt_succ_of_lt (Nat.lt_succ_self _)) _).mono HG.out
    · have e1 : (E == 0) = false := by simpa using h0
      have e2 : (E != 0) = true := by simpa using h0
      have H0 := Lib.hid h0
      clear h0
      go_wp2_with fail
      rw [H3.out]
      refine HC.mono ?_
      rintro x w5 ⟨rfl, hb5⟩
      have hb6 := hb3.trans (hb5.mono hb3.size)
      have t6 := oKeep hb5 r3
      obtain ⟨p0, p1, p2, p3, f0, f1, f2, f3⟩ := lvCells t6
      clear hO2
      go_wp2_with fail
      obtain ⟨t0, t1, t2, t3, _⟩ := lvCells (set4 t6 (.int .i64 0) (.int .i64 0) (.slice none 0 0) (.slice none 0 0))
      exact bodyPost_ret (v := .tuple #[lvV 0 0 none 0 0 none 0 0, .int .i64 E]) (by simp [results, Try.results26, go_sem, t0, t1, t2, t3]) rfl (.inr ⟨by rw [HEV.out]; exact H0.out, ret_of (by rw [HEV.out]), below4 hb6 (Nat.le_refl _) _ _ _ _⟩)
  · have hb2 := z1.trans (hb1.mono z1.size)
    have r1 := oKeep hb1 q1
    have r2 := oKeep hb1 q2
    obtain ⟨l0, l1, l2, l3, m0, m1, m2, m3⟩ := lvCells r2
    have r3 := keep1 r1 (g := w.heap.size + 1) (by omega) 3 (.slice none 0 0)
    have hb3 := hb2.setCell (p := ⟨w.heap.size + 1, 3, none⟩) (Nat.le_succ _) (.slice none 0 0)
    have HE2 := Lib.hid (makeE_one (S := S) hao)
    obtain ⟨p0, p1, p2, p3, f0, f1, f2, f3⟩ := lvCells r3
    clear hao
    go_wp2_with fail
    obtain ⟨t0, t1, t2, t3, _⟩ := lvCells (set4 r3 (.int .i64 0) (.int .i64 0) (.slice none 0 0) (.slice none 0 0))
    exact bodyPost_ret (v := .tuple #[lvV 0 0 none 0 0 none 0 0, .int .i64 1]) (by simp [results, Try.results26, go_sem, t0, t1, t2, t3]) rfl (.inr ⟨by rw [HE2.out]; decide, ret_of (by rw [HE2.out]), below4 hb3 (Nat.le_refl _) _ _ _ _⟩)

theorem make_any (K S : Int) (A : Option Addr) (n c : Nat) (LL : List (List Int)) (w : World) (h : IntsLL w w.heap.size A n LL) (hn : n ≤ 5000) (hLb : ∀ L ∈ LL, L.length ≤ 9223372036854775807) :
    Calls Try.prog 26 #[.int .i64 K, .int .i64 S, .slice A n c] w (MakePost w K S LL) := by
  by_cases hmay : MayP K S n
  · by_cases h1 : K = 1
    · subst h1; exact make_p1 S A n c LL w h hn hLb hmay
    by_cases h2 : K = 2
    · subst h2; exact make_p2 S A n c LL w h hn hLb hmay
    by_cases h3 : K = 3
    · subst h3; exact make_single S A n c LL w h hn hLb hmay
    exact make_whole K S A n c LL w h hn hmay (wholeB_iff.2 (by have := hmay.1; omega))
  · exact make_notMay K S A n c LL w h hn hmay
end Go.Proofs.Ytanbhpdobpiafaa
