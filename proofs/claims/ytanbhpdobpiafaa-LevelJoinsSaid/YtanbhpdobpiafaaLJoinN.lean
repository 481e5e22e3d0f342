/- A level that may be made of groups and others behind them may be made of either. Nothing is claimed of the program here. -/
import Derived.Test.YtanbhpdobpiafaaLJoinM
namespace Go.Proofs.Ytanbhpdobpiafaa
open Go.RowKit

theorem posTo_get {LL : List (List Int)} {k p : Nat} {x : Int} (h : (posTo LL k)[p]? = some x) : p ≤ k ∧ x = ((lenTo LL p : Nat) : Int) := by
  have hp := (List.getElem?_eq_some_iff.1 h).1
  rw [posTo_length] at hp
  rw [posTo_at (by omega)] at h
  injection h with h
  exact ⟨by omega, h.symm⟩
theorem make_split {K S : Int} {AA BB : List (List Int)} (h : makeE K S (AA ++ BB) = 0) : makeE K S AA = 0 ∧ makeE K S BB = 0 := by
  obtain ⟨hm, h3, h0⟩ := makeE_ok h
  obtain ⟨_, _, hc, hn, hi, hr⟩ := lvF_pos h0
  have ha3 : K = 3 → AllOne AA := fun e L hL => h3 e L (List.mem_append_left _ hL)
  have hb3 : K = 3 → AllOne BB := fun e L hL => h3 e L (List.mem_append_right _ hL)
  rw [List.length_append] at hm
  have hcz : mkCrd K (AA ++ BB) = mkCrd K AA ++ mkCrd K BB := mkCrd_append
  rw [hcz] at hc hn hi hr
  rw [List.length_append] at hc
  obtain ⟨hk, hk4, hs0, hs1, hl0, hl1⟩ := hm
  have hma : manyF K S (mkCrd K AA) AA.length ≤ 1048576 ∧ manyF K S (mkCrd K BB) BB.length ≤ 1048576 := by
    unfold manyF at hn ⊢
    split
    · rename_i hw
      rw [if_pos hw, List.length_append] at hn
      have e : (((AA.length + BB.length : Nat) : Int)) * S = (AA.length : Int) * S + (BB.length : Int) * S := by rw [Int.natCast_add, Int.add_mul]
      have p1 : 0 ≤ (AA.length : Int) * S := Int.mul_nonneg (by omega) hs0
      have p2 : 0 ≤ (BB.length : Int) * S := Int.mul_nonneg (by omega) hs0
      rw [e] at hn
      omega
    · omega
  refine ⟨?_, ?_⟩
  · rw [makeE_lv ha3]
    refine lvF_zero ⟨⟨hk, hk4, hs0, hs1, by omega, by omega⟩, mk_told ha3, by omega, hma.1, fun y hy => hi y (List.mem_append_left _ hy), fun h12 p hp n x z u v hx hz h1 h2 hu hv => ?_⟩
    have hmp : mkPos K AA = posTo AA AA.length := by unfold mkPos; rw [if_pos h12]
    have hmz : mkPos K (AA ++ BB) = posTo (AA ++ BB) (AA ++ BB).length := by unfold mkPos; rw [if_pos h12]
    rw [hmp] at hx hz
    obtain ⟨hp1, rfl⟩ := posTo_get hx
    obtain ⟨hp2, rfl⟩ := posTo_get hz
    refine hr h12 p (by rw [List.length_append]; omega) n _ _ u v (by rw [hmz, posTo_at (by rw [List.length_append]; omega), lenTo_left hp1]) (by rw [hmz, posTo_at (by rw [List.length_append]; omega), lenTo_left hp2]) h1 h2 ?_ ?_
    · rw [List.getElem?_append_left (List.getElem?_eq_some_iff.1 hu).1]; exact hu
    · rw [List.getElem?_append_left (List.getElem?_eq_some_iff.1 hv).1]; exact hv
  · rw [makeE_lv hb3]
    refine lvF_zero ⟨⟨hk, hk4, hs0, hs1, by omega, by omega⟩, mk_told hb3, by omega, hma.2, fun y hy => hi y (List.mem_append_right _ hy), fun h12 p hp n x z u v hx hz h1 h2 hu hv => ?_⟩
    have hmp : mkPos K BB = posTo BB BB.length := by unfold mkPos; rw [if_pos h12]
    have hmz : mkPos K (AA ++ BB) = posTo (AA ++ BB) (AA ++ BB).length := by unfold mkPos; rw [if_pos h12]
    have hfa : (mkCrd K AA).length = AA.flatten.length := by unfold mkCrd; rw [if_pos (by omega)]
    rw [hmp] at hx hz
    obtain ⟨hp1, rfl⟩ := posTo_get hx
    obtain ⟨hp2, rfl⟩ := posTo_get hz
    refine hr h12 (AA.length + p) (by rw [List.length_append]; omega) (AA.flatten.length + n) _ _ u v (by rw [hmz, posTo_at (by rw [List.length_append]; omega), lenTo_right]) (by rw [hmz, Nat.add_assoc, posTo_at (by rw [List.length_append]; omega), lenTo_right]) (by omega) (by omega) ?_ ?_
    · rw [List.getElem?_append_right (by omega), hfa]
      have e : AA.flatten.length + n - 1 - AA.flatten.length = n - 1 := by omega
      rw [e]; exact hu
    · rw [List.getElem?_append_right (by omega), hfa, Nat.add_sub_cancel_left]; exact hv
end Go.Proofs.Ytanbhpdobpiafaa
