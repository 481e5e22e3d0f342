/- The document's without: a list without the one at a place. -/
import Derived.Test.YtbicdbheclldcaaRefOps
namespace Go.Proofs.Ytbicdbheclldcaa
open Go.RowKit

theorem erase_same {xs : List Int} {k : Nat} {x : Int} (hx : xs[k]? = some x) : (xs.take (k + 1)).eraseIdx k = (xs.take k).eraseIdx k := by
  have hk := (List.getElem?_eq_some_iff.1 hx).1
  rw [take_succ_of hx, List.eraseIdx_append_of_length_le (by rw [List.length_take]; omega), List.length_take, Nat.min_eq_left (by omega), Nat.sub_self, List.eraseIdx_cons_zero, List.append_nil]
  rw [List.eraseIdx_of_length_le (by rw [List.length_take]; omega)]
theorem erase_more {xs : List Int} {k md : Nat} {x : Int} (hx : xs[k]? = some x) (hne : k ≠ md) : (xs.take (k + 1)).eraseIdx md = (xs.take k).eraseIdx md ++ [x] := by
  have hk := (List.getElem?_eq_some_iff.1 hx).1
  rw [take_succ_of hx]
  rcases Nat.lt_or_ge md k with h | h
  · rw [List.eraseIdx_append_of_lt_length (by rw [List.length_take]; omega)]
  · rw [List.eraseIdx_of_length_le (by rw [List.length_append, List.length_take]; simp; omega), List.eraseIdx_of_length_le (by rw [List.length_take]; omega)]

set_option maxRecDepth 100000 in
set_option maxHeartbeats 2000000 in
theorem without_any (A : Option Addr) (n c md : Nat) (xs : List Int) (w : World) (h : Ints w w.heap.size A n xs) (hn : n ≤ 1000) (_ : md ≤ 1000) :
    Calls Try.prog 70 #[.slice A n c, .int .i64 (md : Int)] w fun e w' => ∃ A' c', e = .returned (.slice A' (xs.eraseIdx md).length c') ∧ OwnI w' w.heap.size 3 A' c' (xs.eraseIdx md) ∧ Below w.heap.size w w' := by
  have HL := Lib.hid h.1
  obtain ⟨i0, hi0, hz0, hz1, hz2⟩ := info_parts infoInt
  go_enter Try.func70, Try.ntmps70
  go_wp2
  go_loopw [5, 10] (fun s i wr => ∃ (k p : Nat) (A' : Option Addr) (c' : Nat), k ≤ n ∧ i = .int .i64 k ∧ s = .slice A' p c' ∧ Hid (((xs.take k).eraseIdx md).length = p) ∧ p ≤ k ∧ OwnI wr w.heap.size 3 A' c' ((xs.take k).eraseIdx md) ∧ Below w.heap.size w wr) (fun _ i _ => n - (intOf i).toNat)
  case atStart => exact ⟨0, 0, none, 0, Nat.zero_le _, rfl, rfl, by unfold Hid; simp, Nat.le_refl _, by simpa using OwnI.nil_ w _ _, Below.refl _ _⟩
  case round =>
    obtain ⟨k, p, A', c', hk, rfl, rfl, HP, hpk, HO, hT⟩ := hrel
    by_cases hlt : k < n
    · obtain ⟨b, off, x, rfl, hbb, HX, hcx, hx1, hx2⟩ := (h.below hT).at_ hlt
      by_cases hkm : k = md
      · have d1 : ((k : Int) == (md : Int)) = true := by simp; omega
        have d2 : ((k : Int) != (md : Int)) = false := by simp; omega
        have HN : Hid ((xs.take (k + 1)).eraseIdx md = (xs.take k).eraseIdx md) := by unfold Hid; rw [← hkm]; exact erase_same HX.out
        clear hkm
        go_wp2_with fail
        go_roundw
        case rel => exact ⟨k + 1, p, A', c', by omega, by go_num, rfl, by rw [HN.out]; exact HP, by omega, by rw [HN.out]; exact HO, hT⟩
        case measure => simp [intOf]; omega
      · have d1 : ((k : Int) == (md : Int)) = false := by simp; omega
        have d2 : ((k : Int) != (md : Int)) = true := by simp; omega
        have HN : Hid ((xs.take (k + 1)).eraseIdx md = (xs.take k).eraseIdx md ++ [x]) := by unfold Hid; exact erase_more HX.out hkm
        have hsz := hT.size
        have hxx : -9223372036854775808 ≤ x ∧ x ≤ 9223372036854775807 := ⟨hx1, hx2⟩
        clear hkm
        go_wp2_with (at_builtin; refine wpList_appendInts _ rfl (.tmp 18) (.tmp 20) 22 rfl w.heap.size 3 i0 Try.underlying22 hi0 hz0 hz1 hz2 A' (some ⟨wr.heap.size, 0, none⟩) c' 1 1 (wr.heap.size + 1) p (p + 1) ((xs.take k).eraseIdx md) [x] rfl rfl (HO.alloc _) HP.out rfl (src_new wr hxx) (by omega) (by rw [World.size_alloc]; omega) ?_; intro A3 c3 w3 HO3 HG3)
        have hb3 := below_app (hT.alloc hT.size (.cells #[.int .i64 x] 3)) HG3 (HO.alloc (.cells #[.int .i64 x] 3)) HP.out (by rw [World.size_alloc]; omega)
        go_roundw
        case rel => exact ⟨k + 1, p + 1, A3, c3, by omega, by go_num, rfl, by unfold Hid; rw [HN.out, List.length_append, HP.out]; rfl, by omega, by rw [HN.out]; exact HO3, hb3⟩
        case measure => simp [intOf]; omega
    · obtain rfl : k = n := by omega
      have hfull : xs.take k = xs := List.take_of_length_le (by rw [HL.out]; omega)
      rw [hfull] at HP HO
      have HP2 := HP.out
      subst HP2
      clear hfull
      go_wp2_with fail
      go_ret
      exact ⟨A', c', rfl, HO, hT⟩
end Go.Proofs.Ytbicdbheclldcaa
