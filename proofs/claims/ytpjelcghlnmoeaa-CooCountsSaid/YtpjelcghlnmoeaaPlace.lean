/- The contracts of the document's place and Coord. -/
import Derived.Test.YtpjelcghlnmoeaaNumber
import Derived.Test.YtpjelcghlnmoeaaMathb
namespace Go.Proofs.Ytpjelcghlnmoeaa
open Go.RowKit

set_option maxRecDepth 100000 in
theorem infoInt : (Try.prog.info? 3).map (fun i => (i.zero, i.size, i.bytes)) = some (some (.int .i64 0), 1, 8) := by kernel_rfl
set_option maxRecDepth 100000 in
theorem infoInt64 : (Try.prog.info? 2).map (fun i => (i.zero, i.size, i.bytes)) = some (some (.int .i64 0), 1, 8) := by kernel_rfl

set_option maxRecDepth 100000 in
theorem place_any (A : Option Addr) (n c : Nat) (xs : List Int) (v : Int) (w : World) (h : Ints w w.heap.size A n xs) (hn : n ≤ 100000) (hp : ∀ x ∈ xs, 1 ≤ x) (hv : 0 ≤ v) (hv2 : v ≤ 9223372036854775807) :
    Calls Try.prog 83 #[.slice A n c, .int .i64 v] w fun e w' => ∃ A' c', e = .returned (.slice A' n c') ∧ OwnI w' w.heap.size 3 A' c' (placeR xs v) ∧ Below w.heap.size w w' := by
  have HL : Hid (xs.length = n) := h.1
  have hpb : ∀ x ∈ placeR xs v, -9223372036854775808 ≤ x ∧ x ≤ 9223372036854775807 := by
    intro x hx
    obtain ⟨k, hk, rfl⟩ := List.getElem_of_mem hx
    have hk' : k < xs.length := by rw [← placeR_length xs v]; exact hk
    have h1 := placeR_at (n := v) (List.getElem?_eq_getElem hk')
    rw [List.getElem?_eq_getElem hk] at h1
    injection h1 with h1
    rw [h1]
    have h2 := hp _ (List.getElem_mem hk')
    have h3 := h.2.1 _ (List.getElem_mem hk')
    have h4 := Int.emod_nonneg (v / prodI (xs.drop (k + 1))) (b := xs[k]) (by omega)
    have h5 := Int.emod_lt_of_pos (v / prodI (xs.drop (k + 1))) (b := xs[k]) (by omega)
    omega
  obtain ⟨i0, hi0, hz0, hz1, hz2⟩ := info_parts infoInt
  go_enter Try.func83, Try.ntmps83
  go_wp2_with (at_make; refine wpList_make_full _ rfl (.tmp 8) (.tmp 8) 22 rfl w.heap.size 3 i0 _ 1 Try.underlying22 hi0 hz0 hz1 _ _ _ _ n rfl rfl rfl rfl (by rw [hz2]; omega) (by unfold maxLen; omega) (Nat.le_refl _) ?_; intro w1 hown hg)
  have hB : Below w.heap.size w w1 := (Below.refl _ _).grown hg (Nat.le_refl _) (fun k e => by cases e)
  have HO : Hid (w1.ownsRow w.heap.size 3 1 (.slice (some ⟨w.heap.size, 0, none⟩) n n) n ((List.replicate (n - 0) 0 ++ (placeR xs v).drop (n - 0)).map (Value.int .i64))) := by
    unfold Hid
    rw [List.drop_of_length_le (by rw [placeR_length, HL.out]; omega), List.append_nil, List.map_replicate, Nat.sub_zero]
    simpa [Value.cells, toList_madeCells_one] using hown
  clear hown hg
  go_loopw [1, 6] (fun m i wr => ∃ (k : Nat) (j q : Int), k ≤ n ∧ j = (n : Int) - 1 - k ∧ i = .int .i64 j ∧ m = .int .i64 q ∧ 0 ≤ q ∧ q ≤ 9223372036854775807 ∧ Hid (q = v / prodI (xs.drop (n - k))) ∧
      Hid (wr.ownsRow w.heap.size 3 1 (.slice (some ⟨w.heap.size, 0, none⟩) n n) n ((List.replicate (n - k) 0 ++ (placeR xs v).drop (n - k)).map (Value.int .i64))) ∧ Below w.heap.size w wr)
    (fun _ i _ => (intOf i + 1).toNat)
  case atStart => exact ⟨0, (n : Int) - 1, v, Nat.zero_le _, by omega, rfl, rfl, hv, hv2, by unfold Hid; rw [List.drop_of_length_le (by rw [HL.out]; omega)]; simp [prodI], HO, hB⟩
  case round =>
    obtain ⟨k, j, q, hk, hj, rfl, rfl, hq0, hq1, HQ, HO, hB⟩ := hrel
    by_cases hlt : k < n
    · have h' := h.below hB
      obtain ⟨b, off, x, rfl, hbb, HX, hc, hx1, hx2⟩ := h'.at_ (k := n - 1 - k) (by omega)
      have hx0 : 1 ≤ x := hp x (List.mem_of_getElem? HX.out)
      have hj0 : 0 ≤ j := by omega
      have hj1 : j < n := by omega
      have HE : Hid (j.toNat = n - 1 - k) := by unfold Hid; omega
      have hcj : wr.cell? ⟨b, off + j.toNat, none⟩ = some (.int .i64 x) := by rw [HE.out]; exact hc
      have hlen : j.toNat < n := by omega
      obtain ⟨u, hu⟩ : ∃ u, ((List.replicate (n - k) 0 ++ (placeR xs v).drop (n - k)).map (Value.int .i64))[j.toNat]? = some u := by
        refine ⟨_, List.getElem?_eq_getElem ?_⟩
        have := HO.out.1; omega
      have hcell : wr.cell? ⟨w.heap.size, j.toNat, none⟩ = some u := (HO.out.cellAt j.toNat (by omega)).trans hu
      have hfr := HO.out.frozenAt j.toNat
      have hother : (wr.setCell ⟨w.heap.size, j.toNat, none⟩ (.int .i64 (q % x))).cell? ⟨b, off + j.toNat, none⟩ = some (.int .i64 x) :=
        (World.cell?_setCell_other wr _ ⟨b, off + j.toNat, none⟩ _ (fun e => by injection e with e _; omega)).trans hcj
      have hst := (HO.out.stored j.toNat (.int .i64 (q % x))).1
      have e1 : n - 1 - k + 1 = n - k := by omega
      have HS : Hid ((wr.setCell ⟨w.heap.size, j.toNat, none⟩ (.int .i64 (q % x))).ownsRow w.heap.size 3 1 (.slice (some ⟨w.heap.size, 0, none⟩) n n) n ((List.replicate (n - (k + 1)) 0 ++ (placeR xs v).drop (n - (k + 1))).map (Value.int .i64))) := by
        unfold Hid
        rw [← back_set (v := q % x) hlt (by rw [placeR_at HX.out, e1, HQ.out]), List.map_set, ← HE.out]
        exact hst
      have HQ' : Hid (q / x = v / prodI (xs.drop (n - (k + 1)))) := by
        unfold Hid
        have e : n - (k + 1) = n - 1 - k := by omega
        rw [e, prodI_drop HX.out, e1, HQ.out, Int.ediv_ediv_of_nonneg (by have := prodI_pos (xs := xs.drop (n - k)) (fun y hy => hp y (List.mem_of_mem_drop hy)); omega), Int.mul_comm]
      have hq2 : 0 ≤ q / x := Int.ediv_nonneg hq0 (by omega)
      have hq3 : q / x ≤ q := Int.ediv_le_self _ hq0
      have hB' := hB.setCell (p := ⟨w.heap.size, j.toNat, none⟩) (Nat.le_refl _) (.int .i64 (q % x))
      have HJ := Lib.hid hj
      clear hst hu e1 hj HO hc h h' HQ
      go_wp2
      go_roundw
      case rel => exact ⟨k + 1, j - 1, q / x, by omega, by have := HJ.out; omega, rfl, rfl, hq2, by omega, HQ', HS, hB'⟩
      case measure => simp [intOf]; omega
    · have hk' : k = n := by omega
      have hj1 : j < 0 := by omega
      have HF : Hid (OwnI wr w.heap.size 3 (some ⟨w.heap.size, 0, none⟩) n (placeR xs v)) := by
        have := HO.out
        rw [hk', Nat.sub_self, List.drop_zero] at this
        exact ⟨by rw [placeR_length, HL.out]; simpa using this, hpb⟩
      clear hk' HO hj
      go_wp2
      go_ret
      exact ⟨_, _, rfl, HF.out, hB⟩

set_option maxRecDepth 100000 in
theorem refCoord_any (A : Option Addr) (n c : Nat) (xs : List Int) (v : Int) (w : World) (h : Ints w w.heap.size A n xs) (hn : n ≤ 9223372036854775807) (hv1 : -9223372036854775808 ≤ v) (hv2 : v ≤ 9223372036854775807) :
    Calls Try.prog 64 #[.slice A n c, .int .i64 v] w fun e w' => ∃ A' c', e = .returned (.tuple #[.slice A' (coordF xs v).1.length c', .int .i64 (coordF xs v).2]) ∧ OwnI w' w.heap.size 3 A' c' (coordF xs v).1 ∧ Below w.heap.size w w' := by
  have HC := refCells_any A n c xs w w.heap.size h hn
  by_cases hcf : (cellsF xs).2 = 0
  · have h5 : n ≤ 100000 := by have := (cellsF_ok hcf).1; have := h.1; omega
    obtain ⟨N, hN⟩ : ∃ N, (cellsF xs).1 = N := ⟨_, rfl⟩
    by_cases hv : 0 ≤ v ∧ v < N
    · have HP := place_any A n c xs v w h h5 (cellsF_nz hcf (by rw [hN]; omega)) hv.1 hv2
      have HF : Hid (coordF xs v = (placeR xs v, 0)) := by unfold Hid coordF; rw [if_pos hcf, hN, if_pos hv]
      have HL : Hid ((placeR xs v).length = n) := by unfold Hid; rw [placeR_length]; exact h.1
      rw [hcf, hN] at HC
      have hv3 := hv.1
      have hv4 := hv.2
      clear hcf hN hv
      go_enter Try.func64, Try.ntmps64
      go_wp2_with (first | (go_at_call 53; refine HC.mono ?_; rintro e w' ⟨rfl, rfl⟩) | (go_at_call 83; refine HP.mono ?_; rintro e w' ⟨A', c', rfl, ho, hb⟩; have HO := Lib.hid ho; clear ho))
      go_ret2
      exact ⟨A', c', by rw [HF.out]; dsimp only; rw [HL.out]; rfl, by rw [HF.out]; exact HO.out, hb⟩
    · have HF : Hid (coordF xs v = ([], 3)) := by unfold Hid coordF; rw [if_pos hcf, hN, if_neg hv]
      rw [hcf, hN] at HC
      clear hcf hN
      by_cases hv0 : v < 0
      · clear hv
        go_enter Try.func64, Try.ntmps64
        go_wp2_with (go_at_call 53; refine HC.mono ?_; rintro e w' ⟨rfl, rfl⟩)
        go_ret2
        exact ⟨none, 0, by rw [HF.out]; rfl, by rw [HF.out]; exact OwnI.nil_ _ _ _, Below.refl _ _⟩
      · have hv3 : N ≤ v := by omega
        clear hv
        go_enter Try.func64, Try.ntmps64
        go_wp2_with (go_at_call 53; refine HC.mono ?_; rintro e w' ⟨rfl, rfl⟩)
        go_ret2
        exact ⟨none, 0, by rw [HF.out]; rfl, by rw [HF.out]; exact OwnI.nil_ _ _ _, Below.refl _ _⟩
  · have HF : Hid (coordF xs v = ([], (cellsF xs).2)) := by unfold Hid coordF; rw [if_neg hcf]
    obtain ⟨N, hN⟩ : ∃ N, (cellsF xs).1 = N := ⟨_, rfl⟩
    obtain ⟨E, hE⟩ : ∃ E, (cellsF xs).2 = E := ⟨_, rfl⟩
    rw [hN, hE] at HC
    rw [hE] at hcf HF
    have he1 : (E == 0) = false := by simpa using hcf
    have he2 : (E != 0) = true := by simpa using hcf
    clear hN hE hcf
    go_enter Try.func64, Try.ntmps64
    go_wp2_with (go_at_call 53; refine HC.mono ?_; rintro e w' ⟨rfl, rfl⟩)
    go_ret2
    exact ⟨none, 0, by rw [HF.out]; rfl, by rw [HF.out]; exact OwnI.nil_ _ _ _, Below.refl _ _⟩
end Go.Proofs.Ytpjelcghlnmoeaa
