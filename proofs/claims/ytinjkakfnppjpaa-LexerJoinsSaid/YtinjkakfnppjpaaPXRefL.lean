/- The document's Lines: tokens cut into lines. -/
import Derived.Test.YtinjkakfnppjpaaG4
import Derived.IntWalk
namespace Go.Proofs.Ytinjkakfnppjpaa
open Go.RowKit

set_option maxRecDepth 100000 in
set_option maxHeartbeats 8000000 in
theorem refLines_any (A : Option Addr) (n c : Nat) (L : List Tk) (w : World) (h : Toks w w.heap.size A n L) (hn : n ≤ 100000) : Calls Try.prog 17 #[.slice A n c] w (LinesP w (linesL L)) := by
  by_cases h0 : n = 0
  · subst h0
    have hL : Hid (linesL L = []) := by
      unfold Hid linesL
      rw [if_pos (List.eq_nil_of_length_eq_zero h.1)]
    go_enter Try.func17, Try.ntmps17
    go_wp2
    go_ret
    exact ⟨none, 0, 0, [], rfl, rfl, by rw [hL.out]; rfl, RowsK.nil_ _ _, Below.refl _ _⟩
  · have h1 : ((n : Int) == 0) = false := by rw [beq_eq_false_iff_ne]; omega
    obtain ⟨R, HR⟩ : ∃ R, Hid (linesL L = R) := ⟨_, Lib.hid rfl⟩
    have HI0 : Hid (linesK [] [] (L.drop 0) = R) := by
      unfold Hid
      rw [← HR.out]
      unfold linesL
      rw [if_neg (fun e => h0 (by rw [← h.1, e]; rfl)), List.drop_zero]
    have HN := Lib.hid h.1
    rw [HR.out]
    clear h0 HR
    go_enter Try.func17, Try.ntmps17
    go_wp2
    go_loopw [3, 12] (fun v i wr => ∃ (k gH ch P : Nat) (rs : List RowK) (r : RowK), k ≤ n ∧ i = .int .i64 k ∧ v = .slice (some ⟨gH, 0, none⟩) (P + 1) ch ∧ Hid (rs.length = P) ∧ P ≤ k ∧ r.L.length ≤ k ∧ Hid (linesK (rs.map (·.L)) r.L (L.drop k) = R) ∧ Hid (RowsK wr w.heap.size (some ⟨gH, 0, none⟩) ch (rs ++ [r])) ∧ Hid (Below w.heap.size w wr)) (fun _ i _ => n - (intOf i).toNat)
    case atStart => exact ⟨0, w.heap.size, 1, 0, [], ⟨none, 0, []⟩, Nat.zero_le _, rfl, rfl, rfl, Nat.le_refl _, Nat.le_refl _, HI0, RowsK.one w _ (Nat.le_refl _), (Below.refl _ _).alloc (Nat.le_refl _) _⟩
    case round =>
      obtain ⟨k, gH, ch, P, rs, ⟨rA, rc, rL⟩, hk, rfl, rfl, HP, hPk, hrk, HC, HRW, HB⟩ := hrel
      dsimp only at hrk HC
      by_cases hlt : k < n
      · obtain ⟨b, off, x, rfl, hbl, HX, hc0, hc1, hc2, _⟩ := (h.on HB.out (Nat.le_refl _)).at_ hlt
        have hbw : w.heap.size ≤ wr.heap.size := HB.out.size
        have hdr := drop_cons HX.out
        obtain ⟨w1, hw1⟩ : ∃ w1, wr.alloc (.cells #[.int .i64 x.k, .string x.s, .int .i64 x.n] 35) = w1 := ⟨_, rfl⟩
        by_cases h4 : x.k = 4
        · have HC2 : Hid (linesK ((rs ++ [(⟨rA, rc, rL⟩ : RowK)]).map (·.L)) [] (L.drop (k + 1)) = R) := by
            unfold Hid
            rw [← HC.out, hdr, linesK_line h4, List.map_append]
            rfl
          have b4 : (x.k == 4) = true := by rw [beq_iff_eq]; exact h4
          have HW1 : Hid (RowsK (wr.alloc (.cells #[.int .i64 x.k, .string x.s, .int .i64 x.n] 35)) w.heap.size (some ⟨gH, 0, none⟩) ch (rs ++ [(⟨rA, rc, rL⟩ : RowK)])) := HRW.out.alloc _
          have HB1 : Hid (Below w.heap.size w (wr.alloc (.cells #[.int .i64 x.k, .string x.s, .int .i64 x.n] 35))) := HB.out.alloc hbw _
          have HP1 : Hid ((rs ++ [(⟨rA, rc, rL⟩ : RowK)]).length = P + 1) := Lib.hid (by rw [List.length_append, HP.out]; rfl)
          clear hw1 hdr h4 HC HI0
          go_wp2_with (at_builtin; refine wpList_appendNew rfl (.tmp 19) (.tmp 20) rfl w.heap.size (some ⟨gH, 0, none⟩) ch (P + 1) (P + 1 + 1) (wr.heap.size + 1) (rs ++ [(⟨rA, rc, rL⟩ : RowK)]) (size_allocE _ _) rfl rfl HW1.out HP1.out rfl (by omega) HB1.out.size ?_; intro g' c' w4 HR4 HB4)
          go_roundw
          case rel => exact ⟨k + 1, g', c', P + 1, rs ++ [(⟨rA, rc, rL⟩ : RowK)], ⟨none, 0, []⟩, by omega, by go_num, rfl, HP1, by omega, Nat.zero_le _, HC2, HR4, HB4 _ _ (Nat.le_refl _) HB1.out⟩
          case measure => simp [intOf]; omega
        · have HC2 : Hid (linesK (rs.map (·.L)) (rL ++ [x]) (L.drop (k + 1)) = R) := by
            unfold Hid
            rw [← HC.out, hdr, linesK_on h4]
          have b4 : (x.k == 4) = false := by rw [beq_eq_false_iff_ne]; exact h4
          obtain ⟨q0, q1, q2⟩ : w1.cell? ⟨wr.heap.size, 0, none⟩ = some (.int .i64 x.k) ∧ w1.cell? ⟨wr.heap.size, 1, none⟩ = some (.string x.s) ∧ w1.cell? ⟨wr.heap.size, 2, none⟩ = some (.int .i64 x.n) := by
            rw [← hw1]
            exact boxCells (box_new wr x)
          obtain ⟨p, hp⟩ : ∃ p, rL.length = p := ⟨_, rfl⟩
          rw [hp] at hrk
          have hbw1 : w.heap.size ≤ w1.heap.size := by rw [← hw1]; exact Nat.le_trans hbw (size_allocT _ _)
          have HR1 : RowsK w1 w.heap.size (some ⟨gH, 0, none⟩) ch (rs ++ [(⟨rA, rc, rL⟩ : RowK)]) := by rw [← hw1]; exact HRW.out.alloc _
          have HB1 : Hid (Below w.heap.size w w1) := by unfold Hid; rw [← hw1]; exact HB.out.alloc hbw _
          obtain ⟨hc, hf⟩ := HR1.hdr_at (k := P) (r := ⟨rA, rc, rL⟩) (by rw [← HP.out]; simp)
          simp only [RowK.hdr, hp] at hc
          have HRA : Hid (RowsK (w1.alloc (.cells #[.int .i64 x.k, .string x.s, .int .i64 x.n] 35)).drew w.heap.size (some ⟨gH, 0, none⟩) ch (rs ++ [(⟨rA, rc, rL⟩ : RowK)])) := (HR1.alloc _).drew
          have HOA : Hid (OwnT (w1.alloc (.cells #[.int .i64 x.k, .string x.s, .int .i64 x.n] 35)).drew w.heap.size rA rc rL) := HRA.out.ins ⟨rA, rc, rL⟩ (by simp)
          have HBX : Hid (∃ fz, (w1.alloc (.cells #[.int .i64 x.k, .string x.s, .int .i64 x.n] 35)).drew.heap[w1.heap.size]? = some (.cells #[.int .i64 x.k, .string x.s, .int .i64 x.n] 35 fz)) := ⟨_, heap_allocT w1 _⟩
          have HSZ : Hid ((w1.alloc (.cells #[.int .i64 x.k, .string x.s, .int .i64 x.n] 35)).drew.heap.size = w1.heap.size + 1) := size_allocE _ _
          have HZA : Hid (w.heap.size ≤ (w1.alloc (.cells #[.int .i64 x.k, .string x.s, .int .i64 x.n] 35)).drew.heap.size) := Nat.le_trans hbw1 (size_allocT _ _)
          have HBA : Hid (Below w.heap.size w (w1.alloc (.cells #[.int .i64 x.k, .string x.s, .int .i64 x.n] 35)).drew) := (HB1.out.alloc hbw1 _).drew
          have hc2 := fun o => cellPastT hc o
          have HpL := Lib.hid hp
          have hl1 : p + 1 ≤ 1000000 := by omega
          have hPw : IntKind.i64.wrap (P : Int) = (P : Int) := IntWalk.i64_in _ (by omega)
          have hPP : (P : Int) < (P : Int) + 1 := by omega
          clear hdr h4 HC HI0 HR1 hp
          go_wp2_with fail
          go_region_law (refine step_appendTokL rfl (.tmp 31) (.tmp 33) rfl w.heap.size rA rc p (p + 1) w1.heap.size (w1.heap.size + 1) x rL rfl rfl HBX.out HOA.out HpL.out rfl hl1 HZA.out HSZ.out ?_; intro g4 c4 w4 HO4 HG4 HL4; have hL5 : (Value.slice rA p rc).ownBlock = some g4 ∨ g4 = (w1.alloc (.cells #[.int .i64 x.k, .string x.s, .int .i64 x.n] 35)).drew.heap.size := (by rw [HSZ.out]; exact HL4); obtain ⟨key1, l4, m4, key2⟩ := RowsK.lastP HRA.out HpL.out HP.out HO4 HG4 hL5; have K1 := Lib.hid key1; have K2 := Lib.hid (key2 _ _ (Nat.le_refl _) HBA.out); clear key1 key2 hL5 HL4 HG4 HO4)
          all_goals (
            go_wp2_with fail
            go_roundw
            case rel => exact ⟨k + 1, gH, ch, P, rs, ⟨some ⟨g4, 0, none⟩, c4, rL ++ [x]⟩, by omega, by go_num, rfl, HP, by omega, by simp only [List.length_append, List.length_singleton]; rw [HpL.out]; omega, HC2, K1, K2⟩
            case measure => simp [intOf]; omega)
      · obtain rfl : n = k := by omega
        have HC2 : Hid ((rs ++ [(⟨rA, rc, rL⟩ : RowK)]).map (·.L) = R) := by
          unfold Hid
          rw [← HC.out, List.drop_of_length_le (by rw [HN.out]; omega), linesK, List.map_append]
          rfl
        clear hlt HC HI0
        go_wp2
        go_ret
        exact ⟨_, P + 1, ch, rs ++ [(⟨rA, rc, rL⟩ : RowK)], rfl, by rw [List.length_append, HP.out]; rfl, HC2.out, HRW.out, HB.out⟩
end Go.Proofs.Ytinjkakfnppjpaa
