/- The contract of box.At. -/
import Derived.Test.YtpjelcghlnmoeaaFrom
import Derived.Test.YtpjelcghlnmoeaaInside
import Derived.Test.YtpjelcghlnmoeaaMath
import Derived.Test.YtpjelcghlnmoeaaRound
import Derived.Test.YtpjelcghlnmoeaaNumber
namespace Go.Proofs.Ytpjelcghlnmoeaa
open Go.RowKit Go.Shelf
attribute [local go_sem] Oper.semAt_some

theorem at_round {W w : World} {v : Value} {a a' : Int} {z : Int} (hc : W.cell? ⟨w.heap.size + 1, 0, none⟩ = some (.int .i64 a)) (hf : W.frozen? ⟨w.heap.size + 1, 0, none⟩ = false) (hcb : W.cell? ⟨w.heap.size, 0, none⟩ = some v) (hB : Below w.heap.size w W) (ha : a' = z) :
    KeepsOthers W (W.setCell ⟨w.heap.size + 1, 0, none⟩ (.int .i64 a')).drew ∧ KeepBox (w.heap.size + 1 + 1) w.heap.size W (W.setCell ⟨w.heap.size + 1, 0, none⟩ (.int .i64 a')).drew ∧
      ((W.setCell ⟨w.heap.size + 1, 0, none⟩ (.int .i64 a')).drew.cell? ⟨w.heap.size + 1, 0, none⟩ = some (.int .i64 z) ∧ (W.setCell ⟨w.heap.size + 1, 0, none⟩ (.int .i64 a')).drew.frozen? ⟨w.heap.size + 1, 0, none⟩ = false ∧
        (W.setCell ⟨w.heap.size + 1, 0, none⟩ (.int .i64 a')).drew.cell? ⟨w.heap.size, 0, none⟩ = some v) ∧ Below w.heap.size w (W.setCell ⟨w.heap.size + 1, 0, none⟩ (.int .i64 a')).drew := by
  subst ha
  refine ⟨(KeepsOthers.setCell _ _ _).trans (KeepsOthers.drew _), (KeepBox.of_setCell (p := ⟨w.heap.size + 1, 0, none⟩) (by simp) (by simp) _).drew, ⟨?_, ?_, ?_⟩, (hB.setCell (p := ⟨w.heap.size + 1, 0, none⟩) (by simp) _).drew⟩
  · exact World.cell?_setCell_same' _ _ _ (by rw [hc]; rfl)
  · rw [frozen_drew_own, World.frozen?_setCell]; exact hf
  · exact (World.cell?_setCell_other W _ ⟨w.heap.size, 0, none⟩ _ (by simp)).trans hcb

set_option maxRecDepth 100000 in
set_option maxHeartbeats 2000000 in
theorem at_in (n : Nat) (hn : 3 ≤ n) (A A2 : Option Addr) (r r2 c c2 : Nat) (xs cs : List Int) (w : World) (h : Ints w w.heap.size A r xs) (h2 : Ints w w.heap.size A2 r2 cs) (hr : r ≤ 9223372036854775807) (hr2 : r2 ≤ 9223372036854775807)
   (hcf : (cellsF xs).2 = 0) (hin : insideF xs cs = true) :
    CallsIn Fence.wide n Try.prog 52 #[.slice A r c, .slice A2 r2 c2] w fun e w' => e = .returned (.tuple #[.int .i64 (numR xs cs), .int .i64 0]) ∧ Below w.heap.size w w' := by
  have h1 : 1 ≤ n := by omega
  have hI := inn_of_insideF hin
  have hr5 : r ≤ 100000 := by have := (cellsF_ok hcf).1; have := h.1; omega
  obtain ⟨N, hN⟩ : ∃ N, (cellsF xs).1 = N := ⟨_, rfl⟩
  have HC := fun W (hW : Ints W w.heap.size A r xs) => callsIn_wide (n := n - 1) |>.2 (cells_any A r c xs W w.heap.size hW hr)
  rw [hcf, hN] at HC
  have HI := fun W (hW : Ints W w.heap.size A r xs) (hW2 : Ints W w.heap.size A2 r2 cs) => callsIn_wide (n := n - 1) |>.2 (inside_any A A2 r r2 c c2 xs cs W w.heap.size hW hW2 hr5 hr2)
  rw [hin] at HI
  have HF := fun W => fromBehind_in (n - 1) A r c W
  refine callsIn_of_wp_marks Try.func52 rfl trivial ?_ rfl
  simp only [Try.ntmps52, List.size_toArray, List.length_cons, List.length_nil, Nat.reduceAdd, Nat.reduceSub, Array.replicate_succ, Array.replicate_zero, List.push_toArray, List.append_toArray, List.nil_append, List.cons_append]
  gi_wp2_with (first | (refine ⟨trivial, ?_⟩; gi_at_call 51; refine (HC _ (h.alloc (Nat.le_refl _) _)).mono ?_; rintro e w' ⟨rfl, rfl⟩) | (refine ⟨trivial, ?_⟩; gi_at_call 78; refine (HI _ (h.alloc (Nat.le_refl _) _) (h2.alloc (Nat.le_refl _) _)).mono ?_; rintro e w' ⟨rfl, rfl⟩) | (refine ⟨trivial, ?_⟩; gi_at_call 79; refine (HF _).mono ?_; rintro e w' ⟨rfl, rfl⟩))
  have hM := cellsF_ok_pos hcf hI.pos
  have HL := Lib.hid h.1
  have HL2 := Lib.hid h2.1
  have cb := newCell w (.slice A2 r2 c2) 22
  have cn := newCell (w.alloc (.cells #[.slice A2 r2 c2] 22)) (.int .i64 0) 3
  have cs_ := newCell ((w.alloc (.cells #[.slice A2 r2 c2] 22)).alloc (.cells #[.int .i64 0] 3)) (.slice A r c) 22
  simp only [World.size_alloc] at cn cs_
  have hB0 : Below w.heap.size w (((w.alloc (.cells #[.slice A2 r2 c2] 22)).alloc (.cells #[.int .i64 0] 3)).alloc (.cells #[.slice A r c] 22)) := (((Below.refl _ w).alloc (Nat.le_refl _) _).alloc (by simp) _).alloc (by simp; omega) _
  refine wpIn_rangeFunc_ownF rfl h1 (gf := 92) (lb := #[.pointer (some ⟨w.heap.size + 1 + 1, 0, none⟩)]) rfl trivial (enters_of Try.func92 (by kernel_rfl) rfl)
    (fromBehind_stops (n - 1) (by omega) (fun x => 0 ≤ x.1 ∧ x.1 < r) (w.heap.size + 1 + 1) w.heap.size A r c xs hr5 (fun k hk => ⟨by dsimp only; omega, by dsimp only; omega⟩) _ (by simp) (by simp; omega) cs_.1 (h.below hB0)) KeepBox.trans (keepBox_b (by simp; omega) (by simp)) (Below.refl _ _) (fun _ => rfl)
    (fun pre W => (W.cell? ⟨w.heap.size + 1, 0, none⟩ = some (.int .i64 (atSum cs (pre.map (·.1)))) ∧ W.frozen? ⟨w.heap.size + 1, 0, none⟩ = false ∧ W.cell? ⟨w.heap.size, 0, none⟩ = some (.slice A2 r2 c2)) ∧ Below w.heap.size w W)
    (fun _ _ _ => False)
    (OwnFrom.and (Own.from (fun s A B row hs hg hr => ⟨cell_kept hs.1 hg hr, (frozen_kept hs.1 hg hr).trans hs.2.1, cell_kept hs.2.2 hg hr⟩) _) (ownFrom_below (Nat.le_refl _) (by simp; omega)))
    (fun _ _ _ _ _ hs _ _ => hs)
    ⟨⟨cellPast _ cn.1, frozenPast _ cn.1 cn.2, cellPast _ (cellPast _ cb.1)⟩, hB0⟩
    (fun x => { tmps := #[.slice A r c, .slice A2 r2 c2, undef, .pointer (some ⟨w.heap.size, 0, none⟩), .int .i64 0, .int .i64 0, .int .i64 N, .int .i64 0, .pointer (some ⟨w.heap.size + 1, 0, none⟩), .int .i64 x.1.1, .int .i64 x.1.2,
          .tuple #[.int .i64 N, .int .i64 0], .slice A r c, .tuple #[.int .i64 N, .int .i64 0], .int .i64 N, .int .i64 0, .int .i64 0, .bool false, undef, .slice A r c, .slice A2 r2 c2, .bool true, .bool false, .slice A r c,
          .func (.func 92) #[] #[.pointer (some ⟨w.heap.size + 1 + 1, 0, none⟩)], .int .i64 x.1.1, .int .i64 x.1.2, undef, undef, undef, undef, undef, undef, undef, undef, undef], defers := [] }) ?assign ?body ?done ?stop
  case assign =>
    intro l x W K hK
    gi_wp2
    exact hK
  case body =>
    rintro l pre ⟨⟨j, q⟩, hj0, hj1⟩ W ⟨⟨hc, hf, hcb⟩, hB⟩ _
    dsimp only at hj0 hj1 hc ⊢
    have h2' := h2.below hB
    have hj2 : j < r2 := by have := hI.len; rw [HL.out, HL2.out] at this; omega
    obtain ⟨b, off, y, rfl, hbb, HY, hcy, hy1, hy2⟩ := h2'.at_ (k := j.toNat) (by omega)
    obtain ⟨a, ha⟩ : ∃ a, atSum cs (pre.map (·.1)) = a := ⟨_, rfl⟩
    rw [ha] at hc
    have HA := Lib.hid ha
    clear ha HC HI HF cb cn cs_ hB0 h2
    have hmx : Try.prog.follows .mixedOrders = true := by kernel_rfl
    gi_wp2
    refine wpIn_region_still_tail_round 8 hmx (by kernel_rfl) (by kernel_rfl) (by rintro ⟨_, _, hh⟩; exact hh) ?_
    simp only [List.take_succ_cons, List.take_zero, List.drop_succ_cons, List.drop_zero]
    repeat still_step
    refine wpStill_nil ?_
    change wpList _ _ _ _ _ W.drew
    go_wp2
    exact at_round hc hf hcb hB (by rw [List.map_append]; show _ = atSum cs (pre.map (·.1) ++ [(j, q)]); rw [atSum_snoc, HA.out]; simp only [HY.out, Option.getD_some])
  case done =>
    rintro D ys W hD hys ⟨⟨hc, _, _⟩, hB⟩ hK
    rw [hys] at hc
    have hfin := atSum_comes hI hM.2 r (by rw [HL.out]; omega)
    rw [HL.out, Nat.sub_self, List.drop_zero, List.drop_zero] at hfin
    rw [hfin] at hc
    clear hfin hys
    gi_wp2
    refine ⟨by simp, .inl ⟨_, _, rfl, run_takeDeferred hK, ?_⟩⟩
    exact ⟨_, results_tmp2 rfl _ _ _, rfl, hB.trans (belowK_b (w := w) (Nat.le_refl _) W D _ _ (by simp at hD; omega) hK rfl rfl)⟩
  case stop =>
    rintro D c pre W _ _ h _
    exact h.elim

set_option maxRecDepth 100000 in
theorem at_any (A A2 : Option Addr) (r r2 c c2 : Nat) (xs cs : List Int) (w : World) (h : Ints w w.heap.size A r xs) (h2 : Ints w w.heap.size A2 r2 cs) (hr : r ≤ 9223372036854775807) (hr2 : r2 ≤ 9223372036854775807) :
    Calls Try.prog 52 #[.slice A r c, .slice A2 r2 c2] w fun e w' => e = .returned (.tuple #[.int .i64 (atF xs cs).1, .int .i64 (atF xs cs).2]) ∧ Below w.heap.size w w' := by
  have HC := fun W (hW : Ints W w.heap.size A r xs) => cells_any A r c xs W w.heap.size hW hr
  have hB1 : ∀ o, Below w.heap.size w (w.alloc o) := fun o => (Below.refl _ w).alloc (Nat.le_refl _) _
  by_cases hcf : (cellsF xs).2 = 0
  · by_cases hin : insideF xs cs = true
    · have HF : atF xs cs = (numR xs cs, 0) := by unfold atF; rw [if_pos hcf, if_pos hin]
      rw [HF]
      exact callsIn_wide.1 (at_in 3 (Nat.le_refl _) A A2 r r2 c c2 xs cs w h h2 hr hr2 hcf hin)
    · have hin' : insideF xs cs = false := by simpa using hin
      have h5 : r ≤ 100000 := by have := (cellsF_ok hcf).1; have := h.1; omega
      have HF : Hid (atF xs cs = (0, 3)) := by unfold Hid atF; rw [if_pos hcf, if_neg hin]
      have HI := fun W (hW : Ints W w.heap.size A r xs) (hW2 : Ints W w.heap.size A2 r2 cs) => inside_any A A2 r r2 c c2 xs cs W w.heap.size hW hW2 h5 hr2
      obtain ⟨N, hN⟩ : ∃ N, (cellsF xs).1 = N := ⟨_, rfl⟩
      rw [hcf, hN] at HC
      rw [hin'] at HI
      clear hcf hN hin hin'
      go_enter Try.func52, Try.ntmps52
      go_wp2_with (first | (go_at_call 51; refine (HC _ (h.alloc (Nat.le_refl _) _)).mono ?_; rintro e w' ⟨rfl, rfl⟩) | (go_at_call 78; refine (HI _ (h.alloc (Nat.le_refl _) _) (h2.alloc (Nat.le_refl _) _)).mono ?_; rintro e w' ⟨rfl, rfl⟩))
      go_ret2
      exact ⟨by rw [HF.out]; rfl, hB1 _⟩
  · have HF : Hid (atF xs cs = (0, (cellsF xs).2)) := by unfold Hid atF; rw [if_neg hcf]
    obtain ⟨N, hN⟩ : ∃ N, (cellsF xs).1 = N := ⟨_, rfl⟩
    obtain ⟨E, hE⟩ : ∃ E, (cellsF xs).2 = E := ⟨_, rfl⟩
    rw [hN, hE] at HC
    rw [hE] at hcf HF
    have he1 : (E == 0) = false := by simpa using hcf
    have he2 : (E != 0) = true := by simpa using hcf
    clear hN hE hcf
    go_enter Try.func52, Try.ntmps52
    go_wp2_with (go_at_call 51; refine (HC _ (h.alloc (Nat.le_refl _) _)).mono ?_; rintro e w' ⟨rfl, rfl⟩)
    go_ret2
    exact ⟨by rw [HF.out]; rfl, hB1 _⟩
end Go.Proofs.Ytpjelcghlnmoeaa
