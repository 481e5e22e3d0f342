/- coo.turned. -/
import Derived.Test.YtapbcmhkipaecaaPEApp
namespace Go.Proofs.Ytapbcmhkipaecaa
open Go.RowKit

/-- numbers in another order -/
def turnL (os xs : List Int) : List Int := os.map (pickE xs)
theorem turnL_len (os xs : List Int) : (turnL os xs).length = os.length := by unfold turnL; simp
theorem turnL_fits {os xs : List Int} (h : ∀ x ∈ xs, -9223372036854775808 ≤ x ∧ x ≤ 9223372036854775807) : ∀ x ∈ turnL os xs, -9223372036854775808 ≤ x ∧ x ≤ 9223372036854775807 := by
  intro x hx
  unfold turnL at hx
  obtain ⟨m, _, rfl⟩ := List.mem_map.1 hx
  unfold pickE
  rw [List.getD_eq_getElem?_getD]
  cases hq : xs[m.toNat]? with
  | none => simp
  | some y => exact h y (List.mem_of_getElem? hq)
set_option maxRecDepth 100000 in
set_option maxHeartbeats 2000000 in
theorem turned_any (A Ao : Option Addr) (n c ro co : Nat) (xs os : List Int) (w : World) (h : Ints w w.heap.size A n xs) (ho : Ints w w.heap.size Ao ro os) (hro : ro ≤ 100000) (hin : ∀ m ∈ os, 0 ≤ m ∧ m < n) :
    Calls Try.prog 57 #[.slice A n c, .slice Ao ro co] w fun x w' => ∃ g, x = .returned (.slice (some ⟨g, 0, none⟩) ro ro) ∧ OwnI w' w.heap.size 3 (some ⟨g, 0, none⟩) ro (turnL os xs) ∧ Below w.heap.size w w' := by
  obtain ⟨i0, hi0, hz0, hz1, hz2⟩ := info_parts infoInt
  have hmk := fun W => run_makeAll (P := Try.prog) 22 3 i0 Try.underlying22 hi0 hz0 hz1 hz2 ro (by omega) W
  have hs1 : w.heap.size ≤ w.heap.size := Nat.le_refl _
  have hown := own_made w 3 ro w.heap.size hs1 hro
  have HOW := Lib.hid hown
  have hbm := (Below.refl w.heap.size w).alloc (Nat.le_refl _) (.cells (madeCells #[.int .i64 0] ro) 3)
  have HBM := Lib.hid hbm
  have HTL : Hid ((turnL os xs).length = ro) := by unfold Hid; rw [turnL_len]; exact ho.1
  have HIN := Lib.hid hin
  clear hown hbm hin
  go_enter Try.func57, Try.ntmps57
  go_wp2
  go_loopw [13] (fun v wr => ∃ k : Nat, v = .int .i64 (k : Int) ∧ k ≤ ro ∧ Hid (OwnI wr w.heap.size 3 (some ⟨w.heap.size, 0, none⟩) ro ((turnL os xs).take k ++ List.replicate (ro - k) 0)) ∧ Hid (Below w.heap.size w wr)) (fun v _ => ro - (intOf v).toNat)
  case atStart => exact ⟨0, rfl, Nat.zero_le _, by unfold Hid; simpa using HOW.out, HBM⟩
  case round =>
    clear HOW HBM hmk
    obtain ⟨k, rfl, hk, HO, HB⟩ := hrel
    by_cases hlt : k < ro
    · have hb := HB.out
      obtain ⟨bm, om, m, rfl, _, HM, hcm, _, _⟩ := (ho.below hb).at_ hlt
      have hin := HIN.out m (List.mem_of_getElem? HM.out)
      obtain ⟨bx, ox, vx, rfl, _, HVX, hcx, hx1, hx2⟩ := (h.below hb).at_ (k := m.toNat) (by omega)
      have hm0 : 0 ≤ m := hin.1
      have hmx : m < n := hin.2
      have htk : (turnL os xs)[k]? = some vx := by unfold turnL; rw [List.getElem?_map, HM.out]; show some (pickE xs m) = _; rw [pickE_of HVX.out]
      have hz : ((turnL os xs).take k ++ List.replicate (ro - k) 0)[k]? = some (0 : Int) := by
        rw [List.getElem?_append_right (by rw [List.length_take, HTL.out]; omega), List.length_take, HTL.out, Nat.min_eq_left (by omega), Nat.sub_self, List.getElem?_replicate_of_lt (by omega)]
      obtain ⟨hcz, hfz⟩ := HO.out.cell_ hz
      have hset := HO.out.set_ k vx ⟨hx1, hx2⟩
      rw [fill_set HTL.out htk] at hset
      have HS := Lib.hid hset
      have HB2 := Lib.hid (hb.setCell (p := ⟨w.heap.size, k, none⟩) hs1 (.int .i64 vx))
      have hkn : (k : Int) < (ro : Int) := by omega
      have hk0 : (0 : Int) ≤ (k : Int) := by omega
      clear hz hset htk hin hb
      go_wp2
      go_roundw
      case rel => exact ⟨k + 1, by go_num, by omega, HS, HB2⟩
      case measure => simp [intOf]; omega
    · obtain rfl : k = ro := by omega
      have hfull : (turnL os xs).take k ++ List.replicate (k - k) 0 = turnL os xs := by rw [Nat.sub_self, List.replicate_zero, List.append_nil, List.take_of_length_le (Nat.le_of_eq HTL.out)]
      have HF : Hid (OwnI wr w.heap.size 3 (some ⟨w.heap.size, 0, none⟩) k (turnL os xs)) := by unfold Hid; rw [← hfull]; exact HO.out
      clear hfull
      go_wp2
      go_ret
      exact ⟨_, rfl, HF.out, HB.out⟩
end Go.Proofs.Ytapbcmhkipaecaa
