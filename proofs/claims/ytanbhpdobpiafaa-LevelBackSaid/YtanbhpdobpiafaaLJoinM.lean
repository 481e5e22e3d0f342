/- Plain facts of levels that are made of groups behind one another; Make's contract where it is well, and where it is not. -/
import Derived.Test.YtanbhpdobpiafaaLFew
import Derived.Test.YtanbhpdobpiafaaLHeads
namespace Go.Proofs.Ytanbhpdobpiafaa
open Go.RowKit

theorem make_ok (K S : Int) (A : Option Addr) (n c : Nat) (LL : List (List Int)) (w : World) (h : IntsLL w w.heap.size A n LL) (hn : n ≤ 5000) (hLb : ∀ L ∈ LL, L.length ≤ 9223372036854775807) (hE : makeE K S LL = 0) :
    Calls Try.prog 26 #[.int .i64 K, .int .i64 S, .slice A n c] w fun x w' => ∃ A1 n1 c1 A2 m1 c2, x = .returned (.tuple #[lvV K S A1 n1 c1 A2 m1 c2, .int .i64 0]) ∧ LvI w' A1 n1 A2 m1 (mkPos K LL) (mkCrd K LL) ∧ m1 ≤ c2 ∧ m1 ≤ 65536 ∧ Below w.heap.size w w' := by
  refine (make_any K S A n c LL w h hn hLb).mono ?_
  rintro x w' (⟨_, A1, c1, A2, c2, rfl, HO1, HO2, hb⟩ | ⟨hne, _⟩)
  · have h0 := (makeE_ok hE).2.2
    obtain ⟨b, hbb, HL⟩ := lok_of h0
    have hc := HL.crd
    have hp : (mkPos K LL).length ≤ 1048577 := by
      by_cases hk : K = 1 ∨ K = 2
      · rw [HL.posLen hk]; have := HL.ahead; omega
      · rw [HL.posNil hk]; omega
    exact ⟨A1, _, c1, A2, _, c2, rfl, ⟨HO1.ints, HO2.ints, by omega, by omega⟩, HO2.len_cap, hc, hb⟩
  · exact absurd hE hne
theorem make_bad (K S E : Int) (A : Option Addr) (n c : Nat) (LL : List (List Int)) (w : World) (h : IntsLL w w.heap.size A n LL) (hn : n ≤ 5000) (hLb : ∀ L ∈ LL, L.length ≤ 9223372036854775807) (hE : makeE K S LL = E) (h0 : E ≠ 0) :
    Calls Try.prog 26 #[.int .i64 K, .int .i64 S, .slice A n c] w fun x w' => x = .returned (.tuple #[lvV 0 0 none 0 0 none 0 0, .int .i64 E]) ∧ Below w.heap.size w w' := by
  refine (make_any K S A n c LL w h hn hLb).mono ?_
  rintro x w' (⟨he, _⟩ | ⟨_, rfl, hb⟩)
  · exact absurd (hE.symm.trans he) h0
  · exact ⟨by rw [hE], hb⟩

section
variable {K S : Int} {AA BB : List (List Int)}
theorem lenTo_left {p : Nat} (hp : p ≤ AA.length) : lenTo (AA ++ BB) p = lenTo AA p := by unfold lenTo; rw [List.take_append_of_le_length hp]
theorem lenTo_right (p : Nat) : lenTo (AA ++ BB) (AA.length + p) = AA.flatten.length + lenTo BB p := by
  unfold lenTo; rw [List.take_length_add_append, List.flatten_append, List.length_append]
theorem mkCrd_append : mkCrd K (AA ++ BB) = mkCrd K AA ++ mkCrd K BB := by
  unfold mkCrd; split
  · rw [List.flatten_append]
  · rfl
theorem tot_mk {LL : List (List Int)} (h : makeE K S LL = 0) : totN K S (mkCrd K LL) LL.length = if wholeB K = true then LL.length * S.toNat else LL.flatten.length := by
  unfold totN
  split
  · rfl
  · have hk := (makeE_ok h).1.1
    rename_i hw
    have hw' := wholeB_not.1 (by simpa using hw)
    unfold mkCrd; rw [if_pos (by omega)]
/-- from where on the others are numbered -/
theorem off_join (ha : makeE K S AA = 0) (_hz : makeE K S (AA ++ BB) = 0) {p : Nat} (hp : p ≤ BB.length) : offN K S (mkPos K (AA ++ BB)) (AA.length + p) = totN K S (mkCrd K AA) AA.length + offN K S (mkPos K BB) p := by
  rw [tot_mk ha]
  unfold offN
  by_cases hw : wholeB K = true
  · rw [if_pos hw, if_pos hw, if_pos hw, Nat.add_mul]
  · rw [if_neg hw, if_neg hw, if_neg hw]
    by_cases h3 : K = 3
    · rw [if_pos h3, if_pos h3, allOne_flat ((makeE_ok ha).2.1 h3)]
    · have hk := (makeE_ok ha).1.1
      have hw' := wholeB_not.1 (by simpa using hw)
      have h12 : K = 1 ∨ K = 2 := by omega
      rw [if_neg h3, if_neg h3]
      unfold mkPos
      rw [if_pos h12, if_pos h12, posTo_at (by rw [List.length_append]; omega), posTo_at hp, lenTo_right]
      simp only [Option.getD_some]
      omega
theorem at_join (ha : makeE K S AA = 0) (k : Nat) : atN K S (mkCrd K (AA ++ BB)) (totN K S (mkCrd K AA) AA.length + k) = atN K S (mkCrd K BB) k := by
  rw [tot_mk ha]
  unfold atN
  by_cases hw : wholeB K = true
  · rw [if_pos hw, if_pos hw, if_pos hw]
    have hs := (makeE_ok ha).1.2.2.1
    have e : ((AA.length * S.toNat + k : Nat) : Int) = (k : Int) + (AA.length : Int) * S := by
      rw [Int.natCast_add, Int.natCast_mul, Int.toNat_of_nonneg hs]; omega
    rw [e, Int.add_mul_emod_self_right]
  · rw [if_neg hw, if_neg hw, if_neg hw]
    have hk := (makeE_ok ha).1.1
    have hw' := wholeB_not.1 (by simpa using hw)
    unfold mkCrd
    rw [if_pos (by omega), if_pos (by omega), List.flatten_append, List.getElem?_append_right (by omega), Nat.add_sub_cancel_left]
theorem tot_join (ha : makeE K S AA = 0) (hb : makeE K S BB = 0) (hz : makeE K S (AA ++ BB) = 0) : totN K S (mkCrd K (AA ++ BB)) (AA.length + BB.length) = totN K S (mkCrd K AA) AA.length + totN K S (mkCrd K BB) BB.length := by
  have := tot_mk hz
  rw [List.length_append] at this
  rw [this, tot_mk ha, tot_mk hb]
  split
  · rw [Nat.add_mul]
  · rw [List.flatten_append, List.length_append]
theorem kids_join (ha : makeE K S AA = 0) (hz : makeE K S (AA ++ BB) = 0) {p : Nat} (hp : p < BB.length) :
    kids K S (mkPos K (AA ++ BB)) (mkCrd K (AA ++ BB)) (AA.length + p) = (kids K S (mkPos K BB) (mkCrd K BB) p).map fun x => (x.1, x.2 + ((totN K S (mkCrd K AA) AA.length : Nat) : Int)) := by
  have h1 := off_join ha hz (p := p) (by omega)
  have h2 := off_join ha hz (p := p + 1) (by omega)
  rw [← Nat.add_assoc] at h2
  unfold kids kidsUpto
  rw [h1, h2, List.map_map]
  have e : totN K S (mkCrd K AA) AA.length + offN K S (mkPos K BB) (p + 1) - (totN K S (mkCrd K AA) AA.length + offN K S (mkPos K BB) p) = offN K S (mkPos K BB) (p + 1) - offN K S (mkPos K BB) p := by omega
  rw [e]
  refine List.map_congr_left (fun i _ => ?_)
  simp only [Function.comp]
  rw [Nat.add_assoc, at_join ha]
  congr 1
  omega
end
end Go.Proofs.Ytanbhpdobpiafaa
