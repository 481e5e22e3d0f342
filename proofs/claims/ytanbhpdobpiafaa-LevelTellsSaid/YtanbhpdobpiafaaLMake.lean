/- The contracts of level's joined and ones. -/
import Derived.Test.YtanbhpdobpiafaaLApp
import Derived.Test.YtanbhpdobpiafaaLMakeM
import Derived.Test.YtanbhpdobpiafaaLRows
import Derived.Test.YtanbhpdobpiafaaLLeaf
namespace Go.Proofs.Ytanbhpdobpiafaa
open Go.RowKit

theorem Apart.symm {A B : Option Addr} (h : Apart A B) : Apart B A := fun g hb ha => h g ha hb
theorem Apart.grow {w : World} {base c : Nat} {e : TypeId} {A B B' : Option Addr} {xs : List Int} (h : Apart A B) (ho : OwnI w base e A c xs) {s : Nat} (hs : w.heap.size ≤ s) (hw : ∀ g, B' = some ⟨g, 0, none⟩ → B = some ⟨g, 0, none⟩ ∨ s ≤ g) : Apart A B' := by
  intro g ha hb
  rcases hw g hb with hh | hh
  · exact h g ha hh
  · subst ha; have := ho.ltL; omega
theorem lenTo_flat (LL : List (List Int)) (k : Nat) : (LL.take k).flatten.length = lenTo LL k := rfl

def JoinPost (w : World) (LL : List (List Int)) (n : Nat) (x : Ending) (w' : World) : Prop :=
  (lenTo LL n ≤ 65536 ∧ ∃ A1 c1 A2 c2, x = .returned (.tuple #[.slice A1 (n + 1) c1, .slice A2 (lenTo LL n) c2, .int .i64 0]) ∧ OwnI w' w.heap.size 3 A1 c1 (posTo LL n) ∧ OwnI w' w.heap.size 3 A2 c2 LL.flatten ∧ Below w.heap.size w w') ∨
  (65536 < lenTo LL n ∧ x = .returned (.tuple #[.slice none 0 0, .slice none 0 0, .int .i64 2]) ∧ Below w.heap.size w w')

set_option maxRecDepth 100000 in
set_option maxHeartbeats 2000000 in
theorem joined_any (A : Option Addr) (n c : Nat) (LL : List (List Int)) (w : World) (h : IntsLL w w.heap.size A n LL) (hn : n ≤ 5000) (hLb : ∀ L ∈ LL, L.length ≤ 9223372036854775807) :
    Calls Try.prog 47 #[.slice A n c] w (JoinPost w LL n) := by
  obtain ⟨i0, hi0, hz0, hz1, hz2⟩ := info_parts infoInt
  have HLL : Hid (LL.length = n) := h.1
  have HLB := Lib.hid hLb
  have HP0 : Hid ((posTo LL 0) = [0]) := rfl
  clear hLb
  go_enter Try.func47, Try.ntmps47
  go_wp2_with (at_builtin; refine wpList_appendWhere _ rfl (.tmp 7) (.tmp 8) 22 rfl w.heap.size 3 i0 Try.underlying22 hi0 hz0 hz1 hz2 none (some ⟨w.heap.size, 0, none⟩) 0 1 1 (w.heap.size + 1) 0 1 [] [0] rfl rfl (OwnI.nil_ _ _ _) rfl rfl (src_new w (by omega)) (by omega) (by simp) ?_; intro A1 c1 w1 HO1 HG1 _)
  have hb1 := ((Below.refl _ w).alloc (Nat.le_refl _) (.cells #[.int .i64 0] 3)).grown HG1 (by simp) (fun k e => by cases e)
  have HOP := Lib.hid HO1
  clear HG1 HO1
  go_loopw [2, 3, 12] (fun v u i wr => ∃ (A1 A2 : Option Addr) (c1 c2 k s : Nat), v = .slice A1 (k + 1) c1 ∧ u = .slice A2 s c2 ∧ i = .int .i64 (k : Int) ∧ k ≤ n ∧ s ≤ 65536 ∧ Hid (lenTo LL k = s) ∧ Hid (OwnI wr w.heap.size 3 A1 c1 (posTo LL k)) ∧ Hid (OwnI wr w.heap.size 3 A2 c2 (LL.take k).flatten) ∧ Hid (Apart A1 A2) ∧ Below w.heap.size w wr) (fun _ _ i _ => n - (intOf i).toNat)
  case atStart => exact ⟨A1, none, c1, 0, 0, 0, rfl, rfl, rfl, Nat.zero_le _, Nat.zero_le _, rfl, HOP, by unfold Hid; simp only [List.take_zero, List.flatten_nil]; exact OwnI.nil_ _ _ _, (by unfold Hid; intro g _ hh; cases hh), hb1⟩
  case round =>
    clear hb1 HOP
    obtain ⟨A1, A2, c1, c2, k, s, rfl, rfl, rfl, hk, hs, HS, HO1, HO2, HAP, hb⟩ := hrel
    by_cases hlt : k < n
    · obtain ⟨b, off, L, aL, cL, rfl, _, HX, hc, hcap, hI⟩ := (h.below hb).at_ hlt
      have hLm := HLB.out L (List.mem_of_getElem? HX.out)
      have hLs := lenTo_succ HX.out
      have hfs := flat_succ HX.out
      obtain ⟨lL, hlL⟩ : ∃ l, L.length = l := ⟨_, rfl⟩
      rw [hlL] at hc hcap hI hLm hLs
      rw [HS.out] at hLs
      have HLS := Lib.hid hLs
      have HFS := Lib.hid hfs
      have HLL2 := Lib.hid hlL
      have hsz := hb.size
      clear hLs hfs hlL
      by_cases hroom : lL ≤ 65536 - s
      · have d1 : decide ((65536 : Int) - (s : Int) < (lL : Int)) = false := decide_eq_false (by omega)
        have d2 : ¬ (65536 : Int) - (s : Int) < (lL : Int) := by omega
        have e1 : IntKind.i64.wrap ((65536 : Int) - (s : Int)) = (65536 : Int) - (s : Int) := by rw [IntWalk.i64_in _ (by omega)]
        have HN1 : Hid ((LL.take k).flatten.length = s) := HS
        have HPL : Hid ((posTo LL k).length = k + 1) := posTo_length LL k
        have HFSN := Lib.hid (posTo_succ LL k)
        have hsl : s + lL ≤ 65536 := by omega
        have hfit : -9223372036854775808 ≤ ((s + lL : Nat) : Int) ∧ ((s + lL : Nat) : Int) ≤ 9223372036854775807 := by omega
        go_wp2_with (first | (at_builtin; refine wpList_appendWhere _ rfl (.tmp 22) (.tmp 23) 22 rfl w.heap.size 3 i0 Try.underlying22 hi0 hz0 hz1 hz2 A2 aL c2 lL cL w.heap.size s (s + lL) (LL.take k).flatten L rfl rfl HO2.out HN1.out rfl hI (by omega) hsz ?_; intro A4 c4 w4 HO4 HG4 HW4; have HO4' := Lib.hid HO4; have HO1' := Lib.hid (HO1.out.grownL HG4 (fun g hg => own_block_neL HO2.out HN1.out (HAP.out g hg))); have hbA := below_app hb HG4 HO2.out HN1.out hsz; have HAP4 := Lib.hid (HAP.out.grow HO1.out (Nat.le_refl _) HW4); have hsz4 := hbA.size; clear HO4 HG4 HW4) | (at_builtin; refine wpList_appendWhere _ rfl (.tmp 25) (.tmp 28) 22 rfl w.heap.size 3 i0 Try.underlying22 hi0 hz0 hz1 hz2 A1 (some ⟨w4.heap.size, 0, none⟩) c1 1 1 (w4.heap.size + 1) (k + 1) (k + 1 + 1) (posTo LL k) [((s + lL : Nat) : Int)] rfl rfl (HO1'.out.alloc _) HPL.out rfl (src_new w4 hfit) (by omega) (by simp; omega) ?_; intro A6 c6 w6 HO6 HG6 HW6))
        have HO6' := Lib.hid HO6
        have hsz5 : w.heap.size ≤ (w4.alloc (.cells #[.int .i64 ((s + lL : Nat) : Int)] 3)).heap.size := by simp; omega
        have HO5' := Lib.hid ((HO4'.out.alloc (.cells #[.int .i64 ((s + lL : Nat) : Int)] 3)).grownL HG6 (fun g hg => own_block_neL HO1'.out HPL.out (HAP4.out.symm g hg)))
        have hbB := below_app (hbA.alloc hsz4 _) HG6 (HO1'.out.alloc _) HPL.out hsz5
        have HAP6 := Lib.hid ((HAP4.out.symm.grow HO4'.out (by simp) HW6).symm)
        clear HO6 HG6 HW6
        go_wp2
        go_roundw
        case rel => exact ⟨A6, A4, c6, c4, k + 1, s + lL, rfl, rfl, by go_num, by omega, hsl, HLS, by unfold Hid; rw [HFSN.out, HLS.out]; exact HO6'.out, by unfold Hid; rw [HFS.out]; exact HO5'.out, HAP6, hbB⟩
        case measure => simp [intOf]; omega
      · have d1 : decide ((65536 : Int) - (s : Int) < (lL : Int)) = true := decide_eq_true (by omega)
        have d2 : (65536 : Int) - (s : Int) < (lL : Int) := by omega
        have e1 : IntKind.i64.wrap ((65536 : Int) - (s : Int)) = (65536 : Int) - (s : Int) := by rw [IntWalk.i64_in _ (by omega)]
        have HF : Hid (65536 < lenTo LL n) := by unfold Hid; have := lenTo_le LL (i := k + 1) (j := n) (by omega); have := HLS.out; omega
        go_wp2
        go_ret3
        exact .inr ⟨HF.out, rfl, hb⟩
    · have HK : Hid (k = n) := by unfold Hid; omega
      have HF : Hid (lenTo LL n = s) := by unfold Hid; rw [← HK.out]; exact HS.out
      have HFL : Hid (LL.flatten = (LL.take k).flatten) := by unfold Hid; rw [List.take_of_length_le (by rw [HLL.out]; omega)]
      go_wp2
      go_ret3
      exact .inl ⟨by rw [HF.out]; exact hs, A1, c1, A2, c2, ret_of (by rw [HF.out, ← HK.out]; rfl), by rw [← HK.out]; exact HO1.out, by rw [HFL.out]; exact HO2.out, hb⟩
end Go.Proofs.Ytanbhpdobpiafaa
