/- What box.Sum calls: slices.Grow from nothing, slices.Concat of two lists, box.stepOf. -/
import Derived.Test.YtbicdbheclldcaaOnes
import Derived.Test.YtbicdbheclldcaaBoth
import Derived.Lib.Walk
import Derived.Lib.SliceRun
import Derived.Lib.AppendZerosOnto
namespace Go.Proofs.Ytbicdbheclldcaa
open Go.RowKit Go.Shelf
attribute [local go_sem] Oper.semAt_some

set_option maxRecDepth 100000 in
set_option maxHeartbeats 2000000 in
theorem growNil_any (n : Nat) (hn : n ≤ 100000) (w : World) :
    Calls Try.prog 97 #[.slice none 0 0, .int .i64 n] w fun e w' => ∃ A c, e = .returned (.slice A 0 c) ∧ OwnI w' w.heap.size 3 A c [] ∧ Below w.heap.size w w' := by
  rcases Nat.eq_zero_or_pos n with rfl | h0
  · go_enter Try.func97, Try.ntmps97
    go_wp2
    go_ret
    exact ⟨none, 0, rfl, OwnI.nil_ _ _ _, Below.refl _ _⟩
  · obtain ⟨i0, hi0, hz0, hz1, hz2⟩ := info_parts infoInt
    have hrz : ∀ ty, (Builtin.append_ #[22, 3] ty #[.slice none 0 0, .int .i64 (n : Int)]).run Try.prog w =
        .ok (.slice (some ⟨w.heap.size, 0, none⟩) n (grownCap w n 0 3)) (w.drew.alloc (.cells (([] : List Value).toArray ++ Builtin.zeroCells (Value.int .i64 0).cells n ++ Builtin.zeroCells (Value.int .i64 0).cells (grownCap w n 0 3 - n)) 3)) := fun ty => by
      have h := Lib.run_append_grow_zeros w 22 3 ty 3 i0 (.int .i64 0) .i64 .i64 Try.underlying22 Try.underlying3 hi0 hz0 none 0 0 [] (run_firstCells_none w.drew i0.size 0 0 0) n (by omega) (by omega) (by omega) (by omega)
        (by rw [hz2]; omega) (by rw [Nat.zero_add]; exact growslice_fits (by omega) (by rw [hz2]; omega))
      rw [Nat.zero_add] at h
      exact h
    have hGn : n ≤ grownCap w n 0 3 := grownCap_ge w _ _ _
    have hGm := grownCap_le_maxLen w n 0 3 (by unfold maxLen; omega)
    obtain ⟨G, hG⟩ : ∃ G, G = grownCap w n 0 3 := ⟨_, rfl⟩
    rw [← hG] at hrz hGn hGm
    have hG63 : G ≤ 9223372036854775807 := by unfold maxLen at hGm; omega
    have HG := Lib.hid hGm
    clear hG hGm
    have hd1 : decide ((n : Int) < 0) = false := by simp
    have hd2 : decide ((0 : Int) < (n : Int)) = true := by simp <;> omega
    go_enter Try.func97, Try.ntmps97
    go_wp2_with (at_builtin; refine Lib.wpList_append_run _ rfl _ _ _ _ rfl _ _ rfl rfl _ _ (hrz _) ?_)
    go_ret
    refine ⟨_, _, rfl, ⟨⟨by simp, .inr ⟨w.heap.size, G, _, rfl, Nat.le_refl _, heap_alloc_new w.drew _, Nat.zero_le _, HG.out, ?_, by simp⟩⟩, by simp⟩, (Below.refl _ w).drew.alloc (Nat.le_refl _) _⟩
    simp [Builtin.zeroCells]
    omega

set_option maxRecDepth 100000 in
set_option maxHeartbeats 2000000 in
theorem concat_two (g : Nat) (A A2 : Option Addr) (n c n2 c2 : Nat) (xs ys : List Int) (w : World) (hg0 : w.cell? ⟨g, 0, none⟩ = some (.slice A n c)) (hg1 : w.cell? ⟨g, 1, none⟩ = some (.slice A2 n2 c2)) (hgw : g < w.heap.size)
    (h : Ints w w.heap.size A n xs) (h2 : Ints w w.heap.size A2 n2 ys) (hn : n ≤ 1000) (hn2 : n2 ≤ 1000) :
    Calls Try.prog 68 #[.slice (some ⟨g, 0, none⟩) 2 2] w fun e w' => ∃ A' c', e = .returned (.slice A' (n + n2) c') ∧ OwnI w' w.heap.size 3 A' c' (xs ++ ys) ∧ Below w.heap.size w w' := by
  obtain ⟨i0, hi0, hz0, hz1, hz2⟩ := info_parts infoInt
  have HG := fun W => growNil_any (n + n2) (by omega) W
  have HL := Lib.hid h.1
  have HL2 := Lib.hid h2.1
  go_enter Try.func68, Try.ntmps68
  go_wp2
  go_loop [3, 11] (fun s i => (i = .int .i64 0 ∧ s = .int .i64 0) ∨ (i = .int .i64 1 ∧ s = .int .i64 n) ∨ (i = .int .i64 2 ∧ s = .int .i64 ((n + n2 : Nat) : Int))) (fun _ i => (2 - intOf i).toNat)
  case atStart => exact .inl ⟨rfl, rfl⟩
  case round =>
    rcases hrel with ⟨rfl, rfl⟩ | ⟨rfl, rfl⟩ | ⟨rfl, rfl⟩
    · go_wp2
      go_round
      case rel => exact .inr (.inl ⟨rfl, by go_num⟩)
      case measure => simp [intOf]
    · go_wp2
      go_round
      case rel => exact .inr (.inr ⟨rfl, by go_num⟩)
      case measure => simp [intOf]
    · go_wp2_with (go_at_call 97; refine (HG _).mono ?_; rintro e w1 ⟨A0, c0, rfl, HO, hb1⟩)
      go_loopw [6, 27] (fun s i wr => (i = .int .i64 0 ∧ ∃ A' c', s = .slice A' 0 c' ∧ OwnI wr w.heap.size 3 A' c' [] ∧ Below w.heap.size w wr) ∨ (i = .int .i64 1 ∧ ∃ A' c', s = .slice A' n c' ∧ OwnI wr w.heap.size 3 A' c' xs ∧ Below w.heap.size w wr) ∨
        (i = .int .i64 2 ∧ ∃ A' c', s = .slice A' (n + n2) c' ∧ OwnI wr w.heap.size 3 A' c' (xs ++ ys) ∧ Below w.heap.size w wr)) (fun _ i _ => (2 - intOf i).toNat)
      case atStart => exact .inl ⟨rfl, A0, c0, rfl, HO, hb1⟩
      case round =>
        rcases hrel with ⟨rfl, A', c', rfl, HO', hb2⟩ | ⟨rfl, A', c', rfl, HO', hb2⟩ | ⟨rfl, A', c', rfl, HO', hb2⟩
        · have k0 := (hb2.cell (p := ⟨g, 0, none⟩) hgw).trans hg0
          have h' := h.below hb2
          have hsz := hb2.size
          clear hg0 hg1
          go_wp2_with (at_builtin; refine wpList_appendInts _ rfl (.tmp 31) (.tmp 32) 22 rfl w.heap.size 3 i0 Try.underlying22 hi0 hz0 hz1 hz2 A' A c' n c w.heap.size 0 n [] xs rfl rfl HO' rfl (Nat.zero_add _) h' (by omega) hsz ?_; intro A3 c3 w3 HO3 HG3)
          rw [List.nil_append] at HO3
          have hb3 := below_app hb2 HG3 HO' rfl hsz
          go_roundw
          case rel => exact .inr (.inl ⟨rfl, A3, c3, rfl, HO3, hb3⟩)
          case measure => simp [intOf]
        · have k1 := (hb2.cell (p := ⟨g, 1, none⟩) hgw).trans hg1
          have h2' := h2.below hb2
          have hsz := hb2.size
          clear hg0 hg1
          go_wp2_with (at_builtin; refine wpList_appendInts _ rfl (.tmp 31) (.tmp 32) 22 rfl w.heap.size 3 i0 Try.underlying22 hi0 hz0 hz1 hz2 A' A2 c' n2 c2 w.heap.size n (n + n2) xs ys rfl rfl HO' HL.out rfl h2' (by omega) hsz ?_; intro A3 c3 w3 HO3 HG3)
          have hb3 := below_app hb2 HG3 HO' HL.out hsz
          go_roundw
          case rel => exact .inr (.inr ⟨rfl, A3, c3, rfl, HO3, hb3⟩)
          case measure => simp [intOf]
        · go_wp2
          go_ret
          exact ⟨A', c', rfl, HO', hb2⟩

set_option maxRecDepth 100000 in
set_option maxHeartbeats 2000000 in
theorem stepOf_in (n : Nat) (hn : 3 ≤ n) (A : Option Addr) (r c mode : Nat) (xs : List Int) (w : World) (h : Ints w w.heap.size A r xs) (hr : r ≤ 100000) (hm : mode < r) :
    CallsIn Fence.wide n Try.prog 69 #[.slice A r c, .int .i64 mode] w fun e w' => e = .returned (.int .i64 (backs xs (r - 1 - mode))) ∧ Below w.heap.size w w' := by
  have h1 : 1 ≤ n := by omega
  have HF := fun W => fromBehind_in (n - 1) A r c W
  have HL := Lib.hid h.1
  obtain ⟨q0, hq0⟩ : ∃ q, backs xs (r - 1 - mode) = q := ⟨_, rfl⟩
  rw [hq0]
  have HQ := Lib.hid hq0
  clear hq0
  refine callsIn_of_wp_marks Try.func69 rfl trivial ?_ rfl
  simp only [Try.ntmps69, List.size_toArray, List.length_cons, List.length_nil, Nat.reduceAdd, Nat.reduceSub, Array.replicate_succ, Array.replicate_zero, List.push_toArray, List.append_toArray, List.nil_append, List.cons_append]
  gi_wp2_with (refine ⟨trivial, ?_⟩; gi_at_call 93; refine (HF _).mono ?_; rintro e w' ⟨rfl, rfl⟩)
  have cb := newCell w (.int .i64 mode) 3
  have cn := newCell (w.alloc (.cells #[.int .i64 mode] 3)) (.int .i64 0) 3
  have cs_ := newCell ((w.alloc (.cells #[.int .i64 mode] 3)).alloc (.cells #[.int .i64 0] 3)) (.slice A r c) 22
  simp only [World.size_alloc] at cn cs_
  have hB0 : Below w.heap.size w (((w.alloc (.cells #[.int .i64 mode] 3)).alloc (.cells #[.int .i64 0] 3)).alloc (.cells #[.slice A r c] 22)) := (((Below.refl _ w).alloc (Nat.le_refl _) _).alloc (by simp) _).alloc (by simp; omega) _
  refine wpIn_rangeFunc_ownF rfl h1 (gf := 106) (lb := #[.pointer (some ⟨w.heap.size + 1 + 1, 0, none⟩)]) rfl trivial (enters_of Try.func106 (by kernel_rfl) rfl)
    (fromBehind_stops (n - 1) (by omega) (fun x => ∃ k, k < r ∧ x = ((r : Int) - 1 - k, backs xs k)) (w.heap.size + 1 + 1) w.heap.size A r c xs hr (fun k hk => ⟨k, hk, rfl⟩) _ (by simp) (by simp; omega) cs_.1 (h.below hB0)) KeepBox.trans (keepBox_b (by simp; omega) (by simp)) (Below.refl _ _) (fun _ => rfl)
    (fun pre W => ((∀ y ∈ pre, y.1.1 ≠ (mode : Int)) ∧ W.cell? ⟨w.heap.size + 1, 0, none⟩ = some (.int .i64 0) ∧ W.frozen? ⟨w.heap.size + 1, 0, none⟩ = false ∧ W.cell? ⟨w.heap.size, 0, none⟩ = some (.int .i64 mode)) ∧ Below w.heap.size w W)
    (fun c _ W => (c = .ret ∧ W.cell? ⟨w.heap.size + 1, 0, none⟩ = some (.int .i64 q0)) ∧ Below w.heap.size w W)
    (OwnFrom.and (Own.from (fun s A B row hs hg hr => ⟨hs.1, cell_kept hs.2.1 hg hr, (frozen_kept hs.2.1 hg hr).trans hs.2.2.1, cell_kept hs.2.2.2 hg hr⟩) _) (ownFrom_below (Nat.le_refl _) (by simp; omega)))
    (fun c => OwnFrom.and (Own.from (fun s A B row hs hg hr => ⟨hs.1, cell_kept hs.2 hg hr⟩) _) (ownFrom_below (Nat.le_refl _) (by simp; omega)))
    ⟨⟨by simp, cellPast _ cn.1, frozenPast _ cn.1 cn.2, cellPast _ (cellPast _ cb.1)⟩, hB0⟩
    (fun x => { tmps := #[.slice A r c, .int .i64 mode, undef, .pointer (some ⟨w.heap.size, 0, none⟩), .pointer (some ⟨w.heap.size + 1, 0, none⟩), .int .i64 x.1.1, .int .i64 x.1.2, .slice A r c,
          .func (.func 106) #[] #[.pointer (some ⟨w.heap.size + 1 + 1, 0, none⟩)], .int .i64 x.1.1, .int .i64 x.1.2, undef, undef, undef, undef], defers := [] }) ?assign ?body ?done ?stop
  case assign =>
    intro l x W K hK
    gi_wp2
    exact hK
  case body =>
    rintro l pre ⟨⟨j, q⟩, hjq⟩ W ⟨⟨hp, hc, hf, hcb⟩, hB⟩ _
    dsimp only
    clear HF cb cn cs_ hB0
    by_cases hj : j = (mode : Int)
    · have hq : q = q0 := by
        obtain ⟨k, hk, e⟩ := hjq
        injection e with e1 e2
        have : k = r - 1 - mode := by omega
        rw [e2, this, HQ.out]
      subst hq
      subst hj
      gi_wp2
      exact ⟨KeepsOthers.setCell _ _ _, ⟨rfl, World.cell?_setCell_same' _ _ _ (by rw [hc]; rfl)⟩, hB.setCell (p := ⟨w.heap.size + 1, 0, none⟩) (by simp) _⟩
    · have hd : (j == (mode : Int)) = false := by simpa using hj
      have HJ := Lib.hid hj
      have HP := Lib.hid hp
      clear hj hp
      gi_wp2
      exact ⟨KeepsOthers.refl _, KeepBox.refl _ _ _, ⟨fun y hy => (List.mem_append.1 hy).elim (HP.out y) (fun e => by simp at e; subst e; exact HJ.out), hc, hf, hcb⟩, hB⟩
  case done =>
    rintro D ys W hD hys ⟨⟨hne, _, _, _⟩, _⟩ _
    exfalso
    have hin : ((r : Int) - 1 - ((r - 1 - mode : Nat) : Int), backs xs (r - 1 - mode)) ∈ comes xs r := by
      unfold comes; rw [HL.out]; exact List.mem_map.2 ⟨r - 1 - mode, List.mem_range.2 (by omega), rfl⟩
    rw [← hys] at hin
    obtain ⟨y, hy, e⟩ := List.mem_map.1 hin
    exact hne y hy (by rw [e]; dsimp only; omega)
  case stop =>
    rintro D c pre W hD _ ⟨⟨rfl, hcr⟩, hB⟩ hK
    gi_wp2
    refine ⟨by simp, .inl ⟨_, _, rfl, run_takeDeferred hK, ?_⟩⟩
    have hc5 := cell_kept hcr (grownBy_putObj' _ D (.deferred none)) (fun r e => by cases e; exact ⟨_, hK, rfl⟩)
    refine ⟨.int .i64 q0, ?_, rfl, hB.trans (belowK_b (w := w) (Nat.le_refl _) W D _ _ (by simp at hD; omega) hK rfl rfl)⟩
    simp [results, Try.results69, go_sem, hc5]
set_option maxRecDepth 100000 in
theorem stepOf_any (A : Option Addr) (r c mode : Nat) (xs : List Int) (w : World) (h : Ints w w.heap.size A r xs) (hr : r ≤ 100000) (hm : mode < r) :
    Calls Try.prog 69 #[.slice A r c, .int .i64 mode] w fun e w' => e = .returned (.int .i64 (backs xs (r - 1 - mode))) ∧ Below w.heap.size w w' :=
  callsIn_wide.1 (stepOf_in 3 (Nat.le_refl _) A r c mode xs w h hr hm)
end Go.Proofs.Ytbicdbheclldcaa
