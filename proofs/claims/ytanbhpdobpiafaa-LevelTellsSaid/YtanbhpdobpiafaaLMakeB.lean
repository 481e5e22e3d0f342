/- The contracts of level's ones and Make. -/
import Derived.Test.YtanbhpdobpiafaaLMake
import Derived.Test.YtanbhpdobpiafaaLParent
namespace Go.Proofs.Ytanbhpdobpiafaa
open Go.RowKit

def OnesPost (w : World) (LL : List (List Int)) (n : Nat) (x : Ending) (w' : World) : Prop :=
  (AllOne LL ∧ ∃ A2 c2, x = .returned (.tuple #[.slice A2 n c2, .int .i64 0]) ∧ OwnI w' w.heap.size 3 A2 c2 LL.flatten ∧ Below w.heap.size w w') ∨
  (¬ AllOne LL ∧ x = .returned (.tuple #[.slice none 0 0, .int .i64 1]) ∧ Below w.heap.size w w')
set_option maxRecDepth 100000 in
set_option maxHeartbeats 2000000 in
theorem ones_any (A : Option Addr) (n c : Nat) (LL : List (List Int)) (w : World) (h : IntsLL w w.heap.size A n LL) (hn : n ≤ 5000) (hLb : ∀ L ∈ LL, L.length ≤ 9223372036854775807) :
    Calls Try.prog 48 #[.slice A n c] w (OnesPost w LL n) := by
  obtain ⟨i0, hi0, hz0, hz1, hz2⟩ := info_parts infoInt
  have HLL : Hid (LL.length = n) := h.1
  have HLB := Lib.hid hLb
  clear hLb
  go_enter Try.func48, Try.ntmps48
  go_wp2
  go_loopw [4, 9] (fun u i wr => ∃ (A2 : Option Addr) (c2 k : Nat), u = .slice A2 k c2 ∧ i = .int .i64 (k : Int) ∧ k ≤ n ∧ Hid (AllOne (LL.take k)) ∧ Hid ((LL.take k).flatten.length = k) ∧ Hid (OwnI wr w.heap.size 3 A2 c2 (LL.take k).flatten) ∧ Below w.heap.size w wr) (fun _ i _ => n - (intOf i).toNat)
  case atStart => exact ⟨none, 0, 0, rfl, rfl, Nat.zero_le _, (by unfold Hid; intro L hL; simp at hL), by unfold Hid; simp, by unfold Hid; simp only [List.take_zero, List.flatten_nil]; exact OwnI.nil_ _ _ _, Below.refl _ _⟩
  case round =>
    obtain ⟨A2, c2, k, rfl, rfl, hk, HAO, HLK, HO2, hb⟩ := hrel
    by_cases hlt : k < n
    · obtain ⟨b, off, L, aL, cL, rfl, _, HX, hc, hcap, hI⟩ := (h.below hb).at_ hlt
      have hLm := HLB.out L (List.mem_of_getElem? HX.out)
      have hfs := flat_succ HX.out
      have hsz := hb.size
      by_cases h1 : L.length = 1
      · rw [h1] at hc hcap hI
        obtain ⟨b2, off2, y, rfl, _, HY, hcy, hy1, hy2⟩ := hI.at_ (k := 0) (by omega)
        rw [Nat.add_zero] at hcy
        have hLy : L = [y] := by
          match L, h1 with
          | [v], _ => have := HY.out; simp at this; rw [this]
        rw [hLy] at hfs
        have HFS := Lib.hid hfs
        have HLL1 : Hid ((LL.take (k + 1)).flatten.length = k + 1) := by unfold Hid; rw [hfs, List.length_append, HLK.out]; rfl
        have HAO2 : Hid (AllOne (LL.take (k + 1))) := by
          unfold Hid; intro M hM
          rw [take_succ_of HX.out] at hM
          rcases List.mem_append.1 hM with hM | hM
          · exact HAO.out M hM
          · simp at hM; rw [hM]; exact h1
        clear hfs hLy h1 hLm
        go_wp2_with (at_builtin; refine wpList_appendWhere _ rfl (.tmp 16) (.tmp 20) 22 rfl w.heap.size 3 i0 Try.underlying22 hi0 hz0 hz1 hz2 A2 (some ⟨wr.heap.size, 0, none⟩) c2 1 1 (wr.heap.size + 1) k (k + 1) (LL.take k).flatten [y] rfl rfl (HO2.out.alloc _) HLK.out rfl (src_new wr ⟨hy1, hy2⟩) (by omega) (by simp; omega) ?_; intro A4 c4 w4 HO4 HG4 _; have HO4' := Lib.hid HO4; have hbA := below_app (hb.alloc hsz _) HG4 (HO2.out.alloc _) HLK.out (by simp; omega); clear HO4 HG4)
        go_roundw
        case rel => exact ⟨A4, c4, k + 1, rfl, by go_num, by omega, HAO2, HLL1, by unfold Hid; rw [HFS.out]; exact HO4'.out, hbA⟩
        case measure => simp [intOf]; omega
      · have HF : Hid (¬ AllOne LL) := fun hh => h1 (hh L (List.mem_of_getElem? HX.out))
        obtain ⟨lL, hlL⟩ : ∃ l, L.length = l := ⟨_, rfl⟩
        rw [hlL] at hc hLm h1
        have e1 : ((lL : Int) == 1) = false := by simp; omega
        have e2 : ((lL : Int) != 1) = true := by simp; omega
        clear hlL hfs
        go_wp2
        go_ret2
        exact .inr ⟨HF.out, rfl, hb⟩
    · have HK : Hid (k = n) := by unfold Hid; omega
      have HFL : Hid (LL = LL.take k) := by unfold Hid; rw [List.take_of_length_le (by rw [HLL.out]; omega)]
      go_wp2
      go_ret2
      exact .inl ⟨by rw [HFL.out]; exact HAO.out, A2, c2, ret_of (by rw [← HK.out]; rfl), by have := HO2.out; rw [← HFL.out] at this; exact this, hb⟩

/-- what Make tells -/
def MakePost (w : World) (K S : Int) (LL : List (List Int)) (x : Ending) (w' : World) : Prop :=
  (makeE K S LL = 0 ∧ ∃ A1 c1 A2 c2, x = .returned (.tuple #[lvV K S A1 (mkPos K LL).length c1 A2 (mkCrd K LL).length c2, .int .i64 0]) ∧ OwnI w' w.heap.size 3 A1 c1 (mkPos K LL) ∧ OwnI w' w.heap.size 3 A2 c2 (mkCrd K LL) ∧ Below w.heap.size w w') ∨
  (makeE K S LL ≠ 0 ∧ x = .returned (.tuple #[lvV 0 0 none 0 0 none 0 0, .int .i64 (makeE K S LL)]) ∧ Below w.heap.size w w')
set_option maxRecDepth 100000 in
set_option maxHeartbeats 2000000 in
theorem make_notMay (K S : Int) (A : Option Addr) (n c : Nat) (LL : List (List Int)) (w : World) (h : IntsLL w w.heap.size A n LL) (_hn : n ≤ 5000) (hmay : ¬ MayP K S n) :
    Calls Try.prog 26 #[.int .i64 K, .int .i64 S, .slice A n c] w (MakePost w K S LL) := by
  have HM := fun W => may_any K S n W
  rw [pB_f hmay] at HM
  have HF : Hid (makeE K S LL = 1) := by unfold Hid; exact makeE_notMay (by rw [h.1]; exact hmay)
  have z0 := lvBelow w (lvO 0 0 none 0 0 none 0 0)
  clear hmay
  go_enter Try.func26, Try.ntmps26
  go_wp2_with (go_at_call 39; refine (HM _).mono ?_; rintro x w1 ⟨rfl, rfl⟩)
  refine bodyPost_ret (v := .tuple #[lvV 0 0 none 0 0 none 0 0, .int .i64 1]) (by simp [results, Try.results26, go_sem]) rfl (.inr ⟨by rw [HF.out]; decide, by rw [HF.out], ?_⟩)
  exact z0
end Go.Proofs.Ytanbhpdobpiafaa
