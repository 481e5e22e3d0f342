/- The contracts of slices.Clone at []int and slices.Equal at []int and []int64, of box.laid and the document's Check's length part, of box.Zero. -/
import Derived.Test.YtpfabbapfmfmmaaG2
import Derived.Deep.RegionWith
import Derived.WalkSpells
import Derived.Test.YtpfabbapfmfmmaaG1
namespace Go.Proofs.Ytpfabbapfmfmmaa
open Go.RowKit

set_option maxRecDepth 100000 in
theorem equalInt_any (A A2 : Option Addr) (n n2 c c2 : Nat) (xs ys : List Int) (w : World) (B : Nat) (h : Ints w B A n xs) (h2 : Ints w B A2 n2 ys) (hn : n ≤ 100000) (hn2 : n2 ≤ 9223372036854775807) :
    Calls Try.prog 48 #[.slice A n c, .slice A2 n2 c2] w fun e w' => e = .returned (.bool (decide (xs = ys))) ∧ ∃ m, w' = w.drewN m := by
  have HL : Hid (xs.length = n) := h.1
  have HL2 : Hid (ys.length = n2) := h2.1
  by_cases hne : n = n2
  · subst hne
    go_enter Try.func48, Try.ntmps48
    go_wp2
    go_loopw [13] (fun i wr => ∃ (k m : Nat), k ≤ n ∧ i = .int .i64 k ∧ wr = w.drewN m ∧ Hid (xs.take k = ys.take k)) (fun i _ => n - (intOf i).toNat)
    case atStart => exact ⟨0, 0, Nat.zero_le _, rfl, rfl, by unfold Hid; simp⟩
    case round =>
      obtain ⟨k, m, hk, rfl, rfl, HK⟩ := hrel
      by_cases hlt : k < n
      · obtain ⟨b, off, x, rfl, _, HX, hc, hx1, hx2⟩ := h.at_ hlt
        obtain ⟨b2, off2, y, rfl, _, HY, hc2, hy1, hy2⟩ := h2.at_ hlt
        have hk0 : (0 : Int) ≤ k := by omega
        have hk1 : (k : Int) < n := by omega
        by_cases hxy : x = y
        · have HN : Hid (xs.take (k + 1) = ys.take (k + 1)) := by unfold Hid; rw [take_succ_of HX.out, take_succ_of HY.out, HK.out, hxy]
          have e1 : (x == y) = true := by simpa using hxy
          have e2 : (x != y) = false := by simpa using hxy
          clear hxy
          go_wp2
          go_quiet (fail)
          go_wp2
          go_roundw
          case rel => exact ⟨k + 1, _, by omega, by go_num, rfl, HN⟩
          case measure => simp [intOf]; omega
        · have HF : Hid (decide (xs = ys) = false) := by
            unfold Hid; rw [decide_eq_false]; intro e; subst e
            have := HX.out; rw [HY.out] at this; exact hxy (by injection this with this; exact this.symm)
          have e1 : (x == y) = false := by simpa using hxy
          have e2 : (x != y) = true := by simpa using hxy
          go_wp2
          go_quiet (fail)
          go_wp2
          go_ret
          exact ⟨by rw [HF.out]; rfl, _, World.drewN_drewN _ _ _⟩
      · have HF : Hid (decide (xs = ys) = true) := by
          unfold Hid; rw [decide_eq_true]; have := HK.out
          rwa [List.take_of_length_le (by rw [HL.out]; omega), List.take_of_length_le (by rw [HL2.out]; omega)] at this
        go_wp2
        go_ret
        exact ⟨by rw [HF.out]; rfl, _, rfl⟩
  · have HF : Hid (decide (xs = ys) = false) := by unfold Hid; rw [decide_eq_false]; intro e; subst e; exact hne (by rw [← HL.out, ← HL2.out])
    have hne1 : ((n : Int) == (n2 : Int)) = false := by simp; omega
    have hne2 : ((n : Int) != (n2 : Int)) = true := by simp; omega
    go_enter Try.func48, Try.ntmps48
    go_wp2
    go_ret
    exact ⟨by rw [HF.out]; rfl, 0, rfl⟩

set_option maxRecDepth 100000 in
theorem equalInt64_any (A A2 : Option Addr) (n n2 c c2 : Nat) (xs ys : List Int) (w : World) (B : Nat) (h : Ints w B A n xs) (h2 : Ints w B A2 n2 ys) (hn : n ≤ 100000) (hn2 : n2 ≤ 9223372036854775807) :
    Calls Try.prog 65 #[.slice A n c, .slice A2 n2 c2] w fun e w' => e = .returned (.bool (decide (xs = ys))) ∧ ∃ m, w' = w.drewN m := by
  have HL : Hid (xs.length = n) := h.1
  have HL2 : Hid (ys.length = n2) := h2.1
  by_cases hne : n = n2
  · subst hne
    go_enter Try.func65, Try.ntmps65
    go_wp2
    go_loopw [13] (fun i wr => ∃ (k m : Nat), k ≤ n ∧ i = .int .i64 k ∧ wr = w.drewN m ∧ Hid (xs.take k = ys.take k)) (fun i _ => n - (intOf i).toNat)
    case atStart => exact ⟨0, 0, Nat.zero_le _, rfl, rfl, by unfold Hid; simp⟩
    case round =>
      obtain ⟨k, m, hk, rfl, rfl, HK⟩ := hrel
      by_cases hlt : k < n
      · obtain ⟨b, off, x, rfl, _, HX, hc, hx1, hx2⟩ := h.at_ hlt
        obtain ⟨b2, off2, y, rfl, _, HY, hc2, hy1, hy2⟩ := h2.at_ hlt
        have hk0 : (0 : Int) ≤ k := by omega
        have hk1 : (k : Int) < n := by omega
        by_cases hxy : x = y
        · have HN : Hid (xs.take (k + 1) = ys.take (k + 1)) := by unfold Hid; rw [take_succ_of HX.out, take_succ_of HY.out, HK.out, hxy]
          have e1 : (x == y) = true := by simpa using hxy
          have e2 : (x != y) = false := by simpa using hxy
          clear hxy
          go_wp2
          go_quiet (fail)
          go_wp2
          go_roundw
          case rel => exact ⟨k + 1, _, by omega, by go_num, rfl, HN⟩
          case measure => simp [intOf]; omega
        · have HF : Hid (decide (xs = ys) = false) := by
            unfold Hid; rw [decide_eq_false]; intro e; subst e
            have := HX.out; rw [HY.out] at this; exact hxy (by injection this with this; exact this.symm)
          have e1 : (x == y) = false := by simpa using hxy
          have e2 : (x != y) = true := by simpa using hxy
          go_wp2
          go_quiet (fail)
          go_wp2
          go_ret
          exact ⟨by rw [HF.out]; rfl, _, World.drewN_drewN _ _ _⟩
      · have HF : Hid (decide (xs = ys) = true) := by
          unfold Hid; rw [decide_eq_true]; have := HK.out
          rwa [List.take_of_length_le (by rw [HL.out]; omega), List.take_of_length_le (by rw [HL2.out]; omega)] at this
        go_wp2
        go_ret
        exact ⟨by rw [HF.out]; rfl, _, rfl⟩
  · have HF : Hid (decide (xs = ys) = false) := by unfold Hid; rw [decide_eq_false]; intro e; subst e; exact hne (by rw [← HL.out, ← HL2.out])
    have hne1 : ((n : Int) == (n2 : Int)) = false := by simp; omega
    have hne2 : ((n : Int) != (n2 : Int)) = true := by simp; omega
    go_enter Try.func65, Try.ntmps65
    go_wp2
    go_ret
    exact ⟨by rw [HF.out]; rfl, 0, rfl⟩

/-- how many cells, of what can be laid out -/
def laidF (xs : List Int) : Int × Int := if (cellsF xs).2 = 0 then if 65536 < (cellsF xs).1 then (0, 2) else ((cellsF xs).1, 0) else (0, (cellsF xs).2)
set_option maxRecDepth 100000 in
theorem laid_any (A : Option Addr) (n c : Nat) (xs : List Int) (w : World) (B : Nat) (h : Ints w B A n xs) (hn : n ≤ 9223372036854775807) :
    Calls Try.prog 82 #[.slice A n c] w fun e w' => e = .returned (.tuple #[.int .i64 (laidF xs).1, .int .i64 (laidF xs).2]) ∧ w = w' := by
  have HC := cells_any A n c xs w B h hn
  obtain ⟨N, hN⟩ : ∃ N, (cellsF xs).1 = N := ⟨_, rfl⟩
  by_cases hcf : (cellsF xs).2 = 0
  · by_cases hb : 65536 < N
    · have HF : Hid (laidF xs = (0, 2)) := by unfold Hid laidF; rw [if_pos hcf, hN, if_pos hb]
      rw [hcf, hN] at HC
      clear hcf hN
      go_enter Try.func82, Try.ntmps82
      go_wp2_with (go_at_call 51; refine HC.mono ?_; rintro e w' ⟨rfl, rfl⟩)
      go_ret2
      exact ⟨by rw [HF.out]; rfl, rfl⟩
    · have HF : Hid (laidF xs = (N, 0)) := by unfold Hid laidF; rw [if_pos hcf, hN, if_neg hb]
      rw [hcf, hN] at HC
      clear hcf hN
      go_enter Try.func82, Try.ntmps82
      go_wp2_with (go_at_call 51; refine HC.mono ?_; rintro e w' ⟨rfl, rfl⟩)
      go_ret2
      exact ⟨by rw [HF.out]; rfl, rfl⟩
  · have HF : Hid (laidF xs = (0, (cellsF xs).2)) := by unfold Hid laidF; rw [if_neg hcf]
    obtain ⟨E, hE⟩ : ∃ E, (cellsF xs).2 = E := ⟨_, rfl⟩
    rw [hN, hE] at HC
    rw [hE] at hcf HF
    have he1 : (E == 0) = false := by simpa using hcf
    have he2 : (E != 0) = true := by simpa using hcf
    clear hN hE hcf
    go_enter Try.func82, Try.ntmps82
    go_wp2_with (go_at_call 51; refine HC.mono ?_; rintro e w' ⟨rfl, rfl⟩)
    go_ret2
    exact ⟨by rw [HF.out]; rfl, rfl⟩

theorem laidF_nonneg {xs : List Int} : 0 ≤ (laidF xs).1 ∧ (laidF xs).1 ≤ 65536 := by
  unfold laidF
  split
  · rename_i h
    split
    · simp
    · have h0 := (cellsF_ok h).2
      by_cases hz : (cellsF xs).1 = 0
      · simp [hz]
      · have := cellsF_nz h hz
        have := (cellsF_ok_pos h this).1
        have := prodI_pos (cellsF_nz h hz)
        dsimp only; omega
  · simp
theorem laidF_ok {xs : List Int} (h : (laidF xs).2 = 0) : (cellsF xs).2 = 0 ∧ (laidF xs).1 = (cellsF xs).1 := by
  unfold laidF at h ⊢
  split at h
  · rename_i hc
    split at h
    · simp at h
    · rename_i hb; rw [if_pos hc, if_neg hb]; exact ⟨hc, rfl⟩
  · rename_i hc; exact absurd h hc

theorem emptyRow (w : World) (e : TypeId) : (w.alloc (.cells #[] e)).ownsRow w.heap.size e 1 (.slice (some ⟨w.heap.size, 0, none⟩) 0 0) 0 [] :=
  ⟨by simp, .inr ⟨w.heap.size, 0, #[], rfl, Nat.le_refl _, heap_alloc_new w _, Nat.le_refl _, by unfold maxLen; omega, by simp, by simp⟩⟩
theorem ints_one (xs : List Int) : ∀ u ∈ xs.map (Value.int .i64), u.oneCell' = true := by
  intro u hu
  rw [List.mem_map] at hu
  obtain ⟨x, _, rfl⟩ := hu
  rfl
theorem Ints.cells_ {w : World} {B n : Nat} {ad : Addr} {xs : List Int} (h : Ints w B (some ad) n xs) : ∀ j u, (xs.map (Value.int .i64))[j]? = some u → w.cell? (ad.add j) = some u := by
  intro j u hu
  rw [List.getElem?_map, Option.map_eq_some_iff] at hu
  obtain ⟨x, hx, rfl⟩ := hu
  have hj : j < n := by have := (List.getElem?_eq_some_iff.1 hx).1; have := h.1; omega
  obtain ⟨b, off, e, hb, hc⟩ := h.2.2 (by omega)
  injection e with e
  subst e
  have := hc j x hx
  by_cases h0 : j = 0
  · subst h0; simpa [Addr.add] using this
  · simpa [Addr.add, h0] using this
theorem Ints.cells_alloc {w : World} {B n : Nat} {ad : Addr} {xs : List Int} (h : Ints w B (some ad) n xs) (hB : B ≤ w.heap.size) (o : Obj) : ∀ j u, (xs.map (Value.int .i64))[j]? = some u → (w.alloc o).cell? (ad.add j) = some u := (h.alloc hB o).cells_
theorem row_form {w : World} {base n : Nat} {e : TypeId} {v : Value} {ys : List Value} (h : w.ownsRow base e 1 v n ys) : ∃ A c, v = .slice A n c := by
  rcases h.2 with ⟨rfl, rfl⟩ | ⟨g, cap, cur, rfl, _⟩
  · exact ⟨_, _, rfl⟩
  · exact ⟨_, _, rfl⟩

set_option maxRecDepth 100000 in
/-- slices.Clone -/
theorem clone_any (A : Option Addr) (n c : Nat) (xs : List Int) (w : World) (B : Nat) (h : Ints w B A n xs) (hB : B ≤ w.heap.size) (hn : n ≤ 100000) :
    Calls Try.prog 61 #[.slice A n c] w fun e w' => ∃ A' c', e = .returned (.slice A' n c') ∧ OwnI w' w.heap.size 3 A' c' xs ∧ Below w.heap.size w w' := by
  have HL : Hid (xs.length = n) := h.1
  obtain ⟨i0, hi0, hz0, hz1, hz2⟩ := info_parts infoInt
  rcases Option.eq_none_or_eq_some A with rfl | ⟨ad, rfl⟩
  · obtain rfl : n = 0 := by
      rcases Nat.eq_zero_or_pos n with h0 | h0
      · exact h0
      · obtain ⟨b, off, e, _⟩ := h.2.2 h0; cases e
    obtain rfl : xs = [] := List.eq_nil_of_length_eq_zero h.1
    have hq := Lib.run_eql_slice_nil (P := Try.prog) (w := w)
    go_enter Try.func61, Try.ntmps61
    go_wp2
    go_ret
    exact ⟨none, 0, rfl, OwnI.nil_ _ _ _, Below.refl _ _⟩
  · have hq := Lib.run_eql_slice_nil (P := Try.prog) (w := w)
    go_enter Try.func61, Try.ntmps61
    go_wp2_with (at_builtin; refine wpList_append_own _ rfl (.tmp 5) (.tmp 6) 22 rfl w.heap.size 3 i0 (.int .i64 0) 1 8 Try.underlying22 hi0 hz0 hz1 hz2 rfl (by decide) _ 0 [] rfl (emptyRow w 3) ad n c (xs.map (Value.int .i64)) rfl (by rw [List.length_map, HL.out, Nat.mul_one]) (h.cells_alloc hB _) (ints_one xs) (by unfold maxLen; omega) (by omega) (by simp) ?_; intro v' w1 hown hg _; obtain ⟨A', c', rfl⟩ := row_form hown)
    go_ret
    refine ⟨A', c', rfl, ⟨?_, h.2.1⟩, ((Below.refl _ w).alloc (Nat.le_refl _) _).grown hg (by simp) (fun k e => Nat.le_of_eq (Option.some.inj e))⟩
    rw [HL.out]; simpa using hown

/-- box.Zero -/
def zeroF (xs : List Int) : (List Int × List Int) × Int := if (laidF xs).2 = 0 then ((xs, List.replicate (laidF xs).1.toNat 0), 0) else (([], []), (laidF xs).2)

set_option maxRecDepth 100000 in
theorem zero_err (A : Option Addr) (n c : Nat) (xs : List Int) (w : World) (h : Ints w w.heap.size A n xs) (hn : n ≤ 9223372036854775807) (he : (laidF xs).2 ≠ 0) :
    Calls Try.prog 58 #[.slice A n c] w fun e w' => e = .returned (.tuple #[.agg #[.slice none 0 0, .slice none 0 0], .int .i64 (laidF xs).2]) ∧ Below w.heap.size w w' := by
  have HC := fun W (hW : Ints W w.heap.size A n xs) => laid_any A n c xs W w.heap.size hW hn
  obtain ⟨N, hN⟩ : ∃ N, (laidF xs).1 = N := ⟨_, rfl⟩
  obtain ⟨E, hE⟩ : ∃ E, (laidF xs).2 = E := ⟨_, rfl⟩
  rw [hN, hE] at HC
  rw [hE] at he ⊢
  have he1 : (E == 0) = false := by simpa using he
  have he2 : (E != 0) = true := by simpa using he
  clear hN hE he
  go_enter Try.func58, Try.ntmps58
  go_wp2_with (go_at_call 82; refine (HC _ (h.alloc (Nat.le_refl _) _)).mono ?_; rintro e w' ⟨rfl, rfl⟩)
  exact bodyPost_ret (v := .tuple #[.agg #[.slice none 0 0, .slice none 0 0], .int .i64 E]) (by simp [results, Try.results58, go_sem]) rfl ⟨rfl, (Below.refl _ _).alloc (Nat.le_refl _) _⟩

theorem run_makeAll {P : Program} (t e : TypeId) (i : TypeInfo) (ht : P.underlying t = some (.slice e)) (hi : P.info? e = some i) (hz : i.zero = some (.int .i64 0)) (h1 : i.size = 1) (h2 : i.bytes = 8) (n : Nat) (hn : n ≤ 100000) (w : World) :
    (Instr.makeSlice t (.int .i64 (n : Int)) (.int .i64 (n : Int))).run P w = .ok (.slice (some ⟨w.heap.size, 0, none⟩) n n) (w.alloc (.cells (madeCells #[.int .i64 0] n) e)) := by
  have hr := run_make (P := P) w t e i (.int .i64 0) ht hi hz .i64 .i64 n n (by omega) (by omega) (by rw [h2]; omega) (by omega)
  simp only [Int.toNat_natCast, h1, Nat.mul_one] at hr
  exact hr
theorem own_made (w : World) (e : TypeId) (n base : Nat) (hb : base ≤ w.heap.size) (hn : n ≤ 100000) : OwnI (w.alloc (.cells (madeCells #[.int .i64 0] n) e)) base e (some ⟨w.heap.size, 0, none⟩) n (List.replicate n 0) := by
  refine ⟨⟨by simp, .inr ⟨w.heap.size, n, madeCells #[.int .i64 0] n, by simp, hb, heap_alloc_new w _, by simp, by unfold maxLen; omega, ?_, ?_⟩⟩, by simp⟩
  · have := congrArg List.length (toList_madeCells_one (.int .i64 0) n); simpa using this
  · rw [toList_madeCells_one]; simp

theorem zfacts {w W w1 : World} {u v : Value} {t : TypeId} (hb : Below W.heap.size W w1) (hW : Below (w.heap.size + 1) (w.alloc (.cells #[u, v] t)) W := by first | exact Below.refl _ _ | exact (Below.refl _ _).drew | exact ((Below.refl _ _).alloc (by simp) _).drew) :
    w.heap.size < w1.heap.size ∧ w1.cell? ⟨w.heap.size, 0, none⟩ = some u ∧ w1.cell? ⟨w.heap.size, 1, none⟩ = some v ∧ w1.frozen? ⟨w.heap.size, 0, none⟩ = false ∧ w1.frozen? ⟨w.heap.size, 1, none⟩ = false := by
  have h2 := hW.trans (hb.mono (by have := hW.size; simpa using this))
  have hh : (w.alloc (.cells #[u, v] t)).heap[w.heap.size]? = some (.cells #[u, v] t (0, 0)) := heap_alloc_new w _
  have h1 : w1.heap[w.heap.size]? = some (.cells #[u, v] t (0, 0)) := (h2.block w.heap.size (by omega)).trans hh
  refine ⟨by have := h2.size; simp at this; omega, ?_, ?_, ?_, ?_⟩
  · simpa using cell_of_row _ _ 0 _ t (0, 0) h1
  · simpa using cell_of_row _ _ 1 _ t (0, 0) h1
  · simp [World.frozen?, h1]
  · simp [World.frozen?, h1]

theorem zcells {w1 : World} {g : Nat} {u v a b : Value} (k0 : w1.cell? ⟨g, 0, none⟩ = some u) (k1 : w1.cell? ⟨g, 1, none⟩ = some v) :
    ((w1.setCell ⟨g, 0, none⟩ a).setCell ⟨g, 1, none⟩ b).cell? ⟨g, 0, none⟩ = some a ∧ ((w1.setCell ⟨g, 0, none⟩ a).setCell ⟨g, 1, none⟩ b).cell? ⟨g, 1, none⟩ = some b := by
  have h0 : (w1.setCell ⟨g, 0, none⟩ a).cell? ⟨g, 0, none⟩ = some a := World.cell?_setCell_same' _ _ _ (by rw [k0]; rfl)
  have h1 : (w1.setCell ⟨g, 0, none⟩ a).cell? ⟨g, 1, none⟩ = some v := (World.cell?_setCell_other w1 _ ⟨g, 1, none⟩ _ (by simp)).trans k1
  exact ⟨(World.cell?_setCell_other _ _ ⟨g, 0, none⟩ _ (by simp)).trans h0, World.cell?_setCell_same' _ _ _ (by rw [h1]; rfl)⟩
theorem OwnI.setBelow {w : World} {base : Nat} {e : TypeId} {A : Option Addr} {c : Nat} {xs : List Int} (h : OwnI w base e A c xs) {a : Addr} (ha : a.block < base) (u : Value) : OwnI (w.setCell a u) base e A c xs := ⟨ownsRow_setCell_below h.1 ha u, h.2⟩
theorem OwnI.drew {w : World} {base : Nat} {e : TypeId} {A : Option Addr} {c : Nat} {xs : List Int} (h : OwnI w base e A c xs) : OwnI w.drew base e A c xs := h
theorem OwnI.alloc {w : World} {base : Nat} {e : TypeId} {A : Option Addr} {c : Nat} {xs : List Int} (h : OwnI w base e A c xs) (o : Obj) : OwnI (w.alloc o) base e A c xs := ⟨h.1.alloc o, h.2⟩

set_option maxRecDepth 100000 in
theorem zero_ok (A : Option Addr) (n c : Nat) (xs : List Int) (N : Nat) (w : World) (h : Ints w w.heap.size A n xs) (hn : n ≤ 100000) (he : (laidF xs).2 = 0) (hN : (laidF xs).1 = N) (hN2 : N ≤ 65536) :
    Calls Try.prog 58 #[.slice A n c] w fun e w' => ∃ A1 c1 A2 c2, e = .returned (.tuple #[.agg #[.slice A1 n c1, .slice A2 N c2], .int .i64 0]) ∧ OwnI w' w.heap.size 3 A1 c1 xs ∧ OwnI w' w.heap.size 2 A2 c2 (List.replicate N 0) ∧ Below w.heap.size w w' := by
  have HC := fun W (hW : Ints W w.heap.size A n xs) => laid_any A n c xs W w.heap.size hW (by omega)
  rw [hN, he] at HC
  have HK := fun W (hW : Ints W w.heap.size A n xs) (hs : w.heap.size ≤ W.heap.size) => clone_any A n c xs W w.heap.size hW hs hn
  obtain ⟨i0, hi0, hz0, hz1, hz2⟩ := info_parts infoInt64
  have hmk := fun W => run_makeAll (P := Try.prog) 39 2 i0 Try.underlying39 hi0 hz0 hz1 hz2 N (by omega) W
  clear hN he
  go_enter Try.func58, Try.ntmps58
  go_wp2_with (go_at_call 82; refine (HC _ (h.alloc (Nat.le_refl _) _)).mono ?_; rintro e w' ⟨rfl, rfl⟩)
  go_region_with (go_at_call 61; refine (HK _ (by first | exact h.alloc (Nat.le_refl _) _ | exact (h.alloc (Nat.le_refl _) _).alloc (by simp) _) (by simp; try omega)).mono ?_; rintro e w1 ⟨A1, c1, rfl, HO, HB⟩; obtain ⟨hs1, k0, k1, f0, f1⟩ := zfacts HB)
  all_goals go_wp2
  · obtain ⟨e0, e1⟩ := zcells (a := .slice A1 n c1) (b := .slice (some ⟨w1.heap.size, 0, none⟩) N N) k0 k1
    have e2 := fun o => cellPast o e0
    have e3 := fun o => cellPast o e1
    refine bodyPost_ret (v := .tuple #[.agg #[.slice A1 n c1, .slice (some ⟨w1.heap.size, 0, none⟩) N N], .int .i64 0]) (by simp [results, Try.results58, go_sem, e2, e3]) rfl ⟨A1, c1, _, _, rfl, ?_, ?_, ?_⟩
    · exact (((HO.setBelow (a := ⟨w.heap.size, 0, none⟩) (by simp) _).setBelow (a := ⟨w.heap.size, 1, none⟩) (by simp) _).alloc _).mono (by simp)
    · have := own_made ((w1.setCell ⟨w.heap.size, 0, none⟩ (.slice A1 n c1)).setCell ⟨w.heap.size, 1, none⟩ (.slice (some ⟨w1.heap.size, 0, none⟩) N N)) 2 N w.heap.size (by simp; omega) (by omega)
      simpa using this
    · exact ((((((Below.refl _ w).alloc (Nat.le_refl _) _).drew).trans (HB.mono (by simp))).setCell (p := ⟨w.heap.size, 0, none⟩) (Nat.le_refl _) _).setCell (p := ⟨w.heap.size, 1, none⟩) (Nat.le_refl _) _).alloc (by simp; omega) _
  · obtain ⟨e0, e1⟩ := zcells (a := .slice A1 n c1) (b := .slice (some ⟨w.heap.size + 1, 0, none⟩) N N) k0 k1
    refine bodyPost_ret (v := .tuple #[.agg #[.slice A1 n c1, .slice (some ⟨w.heap.size + 1, 0, none⟩) N N], .int .i64 0]) (by simp [results, Try.results58, go_sem, e0, e1]) rfl ⟨A1, c1, _, _, rfl, ?_, ?_, ?_⟩
    · exact ((HO.setBelow (a := ⟨w.heap.size, 0, none⟩) (by simp; omega) _).setBelow (a := ⟨w.heap.size, 1, none⟩) (by simp; omega) _).mono (by simp; omega)
    · have := own_made (w.alloc (.cells #[.slice none 0 0, .slice none 0 0] 41)) 2 N (w.heap.size + 1) (by simp) (by omega)
      rw [World.size_alloc] at this
      exact (((this.drew.below HB (Nat.le_refl _)).setBelow (a := ⟨w.heap.size, 0, none⟩) (by simp) _).setBelow (a := ⟨w.heap.size, 1, none⟩) (by simp) _).mono (by omega)
    · exact ((((((Below.refl _ w).alloc (Nat.le_refl _) _).alloc (by simp) _).drew).trans (HB.mono (by simp; omega))).setCell (p := ⟨w.heap.size, 0, none⟩) (Nat.le_refl _) _).setCell (p := ⟨w.heap.size, 1, none⟩) (Nat.le_refl _) _
end Go.Proofs.Ytpfabbapfmfmmaa
/- The contract of box.Coord. -/
namespace Go.Proofs.Ytpfabbapfmfmmaa
open Go.RowKit Go.Shelf
attribute [local go_sem] Oper.semAt_some

/-- what box.Coord has written when the pairs pre have come -/
def coSet (xs : List Int) (v : Int) (pre : List (Int × Int)) : List Int := pre.foldl (fun l x => l.set x.1.toNat (v / x.2 % (xs[x.1.toNat]?.getD 0))) (List.replicate xs.length 0)
theorem coSet_snoc (xs : List Int) (v : Int) (pre : List (Int × Int)) (x : Int × Int) : coSet xs v (pre ++ [x]) = (coSet xs v pre).set x.1.toNat (v / x.2 % (xs[x.1.toNat]?.getD 0)) := by simp [coSet]
theorem coSet_length (xs : List Int) (v : Int) (pre : List (Int × Int)) : (coSet xs v pre).length = xs.length := by
  unfold coSet
  suffices h : ∀ l : List Int, (pre.foldl (fun l x => l.set x.1.toNat (v / x.2 % (xs[x.1.toNat]?.getD 0))) l).length = l.length by rw [h]; simp
  induction pre with
  | nil => simp
  | cons x pre ih => intro l; rw [List.foldl_cons, ih]; simp
theorem coSet_comes {xs : List Int} (v : Int) (hp : ∀ x ∈ xs, 1 ≤ x) (hM : prodI xs ≤ 4611686018427387903) (k : Nat) (hk : k ≤ xs.length) : coSet xs v (comes xs k) = List.replicate (xs.length - k) 0 ++ (placeR xs v).drop (xs.length - k) := by
  induction k with
  | zero => rw [List.drop_of_length_le (by rw [placeR_length]; omega)]; simp [coSet, comes]
  | succ k ih =>
    have hx : xs[xs.length - 1 - k]? = some (xs[xs.length - 1 - k]'(by omega)) := List.getElem?_eq_getElem (by omega)
    have e3 : ((xs.length : Int) - 1 - k).toNat = xs.length - 1 - k := by omega
    have e2 : xs.length - 1 - k + 1 = xs.length - k := by omega
    rw [comes_succ, coSet_snoc, ih (by omega)]
    simp only [e3]
    rw [back_set (by omega)]
    rw [placeR_at hx, e2, backs_eq hp hM k (by omega), hx]; rfl
theorem own_row {A B : World} {row : Option Nat} {base n c g : Nat} {e : TypeId} {ys : List Value} (hs : A.ownsRow base e 1 (.slice (some ⟨g, 0, none⟩) n c) n ys) (hg : A.grownBy B row) (hr : ∀ r, row = some r → ∃ o : Obj, A.heap[r]? = some o ∧ o.isCells = false) :
    B.ownsRow base e 1 (.slice (some ⟨g, 0, none⟩) n c) n ys := by
  refine hs.kept hg (.inr fun e => ?_)
  obtain ⟨o, ho, hc⟩ := hr g e.symm
  rcases hs.2 with ⟨h', _⟩ | ⟨g', cap, cur, h', _, hh, _⟩
  · simp at h'
  · simp only [Value.slice.injEq, Option.some.injEq, Addr.mk.injEq, and_true, true_and] at h'
    obtain ⟨rfl, _⟩ := h'
    rw [hh] at ho
    injection ho with ho
    subst ho
    cases hc

theorem wpIn_makeFull {F : Fence} {m : Nat} {P : Program} (w : World) {ops : Array Oper} {rest : List Oper} {o : Oper} {a : Act} {Q : Exit → Act → World → Prop}
    (hg : o.guard = none) (l c : Operand) (t : TypeId) (hop : o.op = Op.makeSlice t l c)
    (base : Nat) (e : TypeId) (i : TypeInfo) (z : Value) (size : Nat) (h1 : P.underlying t = some (.slice e)) (h2 : P.info? e = some i) (h3 : i.zero = some z) (h4 : i.size = size)
    (kl kc : IntKind) (L C : Int) (n : Nat) (hl : a.eval l = .int kl L) (hc : a.eval c = .int kc C) (hL : L = (n : Int)) (hC : C = (n : Int)) (b2 : i.bytes * n ≤ 281474976710656) (b3 : n ≤ maxLen) (b4 : base ≤ w.heap.size)
    (hK : ∀ w', w'.ownsRow base e size (.slice (some ⟨w.heap.size, 0, none⟩) n n) n (madeCells z.cells (n * size)).toList → w.grownBy w' none → wpListIn F m P ops Q rest (a.put o.dst (.slice (some ⟨w.heap.size, 0, none⟩) n n)) w') :
    wpListIn F m P ops Q (o :: rest) a w := by
  refine wpListIn_plain hg fun K hK' => ?_
  obtain ⟨w', hrun, r1, r2⟩ := run_make_full (P := P) w base t e i z size h1 h2 h3 h4 kl kc n b2 b3 b4
  subst hL
  subst hC
  unfold Oper.wpIn
  refine ⟨?_, ?_⟩
  · simp [Oper.about, hop]
  · rw [Oper.semAt_plain F _ _ (by rw [hop]; intro c hc'; cases hc')]
    simp [execOp, hop, hl, hc, hrun, Result.andThen]
    exact hK' _ _ (hK w' r1 r2)

theorem mk_facts {w w1 : World} {u v : Value} {t t' : TypeId} (hg : ((w.alloc (.cells #[u] t)).alloc (.cells #[v] t')).grownBy w1 none) :
    Below (w.heap.size + 1 + 1) ((w.alloc (.cells #[u] t)).alloc (.cells #[v] t')) w1 ∧ w.heap.size + 1 + 1 ≤ w1.heap.size ∧ w1.cell? ⟨w.heap.size, 0, none⟩ = some u ∧ w1.cell? ⟨w.heap.size + 1, 0, none⟩ = some v := by
  have hb : Below (w.heap.size + 1 + 1) ((w.alloc (.cells #[u] t)).alloc (.cells #[v] t')) w1 := (Below.refl _ _).grown hg (by simp) (fun k e => by cases e)
  have c := newCell (w.alloc (.cells #[u] t)) v t'
  rw [World.size_alloc] at c
  refine ⟨hb, by simpa using hb.size, ?_, ?_⟩
  · exact (hb.cell (p := ⟨w.heap.size, 0, none⟩) (by simp; omega)).trans (cellPast _ (newCell w u t).1)
  · exact (hb.cell (p := ⟨w.heap.size + 1, 0, none⟩) (by simp)).trans c.1

theorem co_round {W w : World} {z : Value} {v1 v2 v3 : Value} {k g base e size n : Nat} {v : Value} {ys : List Value} (h1 : W.cell? ⟨g, 0, none⟩ = some v1) (h2 : W.cell? ⟨w.heap.size, 0, none⟩ = some v2) (h3 : W.cell? ⟨w.heap.size + 1, 0, none⟩ = some v3) (hB : Below w.heap.size w W)
    (hg : w.heap.size + 1 + 1 < g) (hr : (W.setCell ⟨w.heap.size + 1 + 1, k, none⟩ z).ownsRow base e size v n ys) :
    KeepsOthers W (W.setCell ⟨w.heap.size + 1 + 1, k, none⟩ z).drew ∧ KeepBox (g + 1) w.heap.size W (W.setCell ⟨w.heap.size + 1 + 1, k, none⟩ z).drew ∧
      ((W.setCell ⟨w.heap.size + 1 + 1, k, none⟩ z).drew.cell? ⟨g, 0, none⟩ = some v1 ∧ (W.setCell ⟨w.heap.size + 1 + 1, k, none⟩ z).drew.cell? ⟨w.heap.size, 0, none⟩ = some v2 ∧ (W.setCell ⟨w.heap.size + 1 + 1, k, none⟩ z).drew.cell? ⟨w.heap.size + 1, 0, none⟩ = some v3 ∧
        (W.setCell ⟨w.heap.size + 1 + 1, k, none⟩ z).drew.ownsRow base e size v n ys) ∧ Below w.heap.size w (W.setCell ⟨w.heap.size + 1 + 1, k, none⟩ z).drew := by
  refine ⟨(KeepsOthers.setCell _ _ _).trans (KeepsOthers.drew _), (KeepBox.of_setCell (p := ⟨w.heap.size + 1 + 1, k, none⟩) (by simp; omega) (by simp; omega) _).drew, ⟨?_, ?_, ?_, hr⟩, (hB.setCell (p := ⟨w.heap.size + 1 + 1, k, none⟩) (by simp; omega) _).drew⟩
  · exact (World.cell?_setCell_other W _ ⟨g, 0, none⟩ _ (by simp)).trans h1
  · exact (World.cell?_setCell_other W _ ⟨w.heap.size, 0, none⟩ _ (by simp)).trans h2
  · exact (World.cell?_setCell_other W _ ⟨w.heap.size + 1, 0, none⟩ _ (by simp)).trans h3

set_option maxRecDepth 100000 in
set_option maxHeartbeats 2000000 in
theorem coord_in (n : Nat) (hn : 3 ≤ n) (A : Option Addr) (r c : Nat) (xs : List Int) (v N : Int) (w : World) (h : Ints w w.heap.size A r xs) (hr : r ≤ 9223372036854775807)
   (hcf : (cellsF xs).2 = 0) (hN : (cellsF xs).1 = N) (hv0 : 0 ≤ v) (hvN : v < N) :
    CallsIn Fence.wide n Try.prog 62 #[.slice A r c, .int .i64 v] w fun e w' => ∃ A' c', e = .returned (.tuple #[.slice A' r c', .int .i64 0]) ∧ OwnI w' w.heap.size 3 A' c' (placeR xs v) ∧ Below w.heap.size w w' := by
  have h1 : 1 ≤ n := by omega
  have hp : ∀ x ∈ xs, 1 ≤ x := cellsF_nz hcf (by rw [hN]; omega)
  have hr5 : r ≤ 100000 := by have := (cellsF_ok hcf).1; have := h.1; omega
  have hM := cellsF_ok_pos hcf hp
  rw [hN] at hM
  have HC := fun W (hW : Ints W w.heap.size A r xs) => callsIn_wide (n := n - 1) |>.2 (cells_any A r c xs W w.heap.size hW hr)
  rw [hcf, hN] at HC
  have HF := fun W => fromBehind_in (n - 1) A r c W
  have HL := Lib.hid h.1
  have hvM : v ≤ 4611686018427387903 := by omega
  have hM2 := hM.2
  have HM1 := Lib.hid hM.1
  clear hcf hN hM
  have hv9 : decide (v < 0) = false := by simp; omega
  have hv8 : decide (N ≤ v) = false := by simp; omega
  obtain ⟨i0, hi0, hz0, hz1, hz2⟩ := info_parts infoInt
  refine callsIn_of_wp_marks Try.func62 rfl trivial ?_ rfl
  simp only [Try.ntmps62, List.size_toArray, List.length_cons, List.length_nil, Nat.reduceAdd, Nat.reduceSub, Array.replicate_succ, Array.replicate_zero, List.push_toArray, List.append_toArray, List.nil_append, List.cons_append]
  gi_wp2_with (first | (refine ⟨trivial, ?_⟩; gi_at_call 51; refine (HC _ ((h.alloc (Nat.le_refl _) _).alloc (by simp) _)).mono ?_; rintro e w' ⟨rfl, rfl⟩) | (gi_at_make; refine wpIn_makeFull _ rfl (.tmp 27) (.tmp 27) 22 rfl w.heap.size 3 i0 _ 1 Try.underlying22 hi0 hz0 hz1 _ _ _ _ r rfl rfl rfl rfl (by rw [hz2]; omega) (by unfold maxLen; omega) (by simp; omega) ?_; intro w1 hown hg; obtain ⟨hB1, hsz1, c2, c3⟩ := mk_facts hg; have d2 := fun o => cellPast o c2; have d3 := fun o => cellPast o c3) | (refine ⟨trivial, ?_⟩; gi_at_call 79; refine (HF _).mono ?_; rintro e w' ⟨rfl, rfl⟩))
  have hown2 : w1.ownsRow w.heap.size 3 1 (.slice (some ⟨w.heap.size + 1 + 1, 0, none⟩) r r) r ((coSet xs v []).map (Value.int .i64)) := by
    have : coSet xs v [] = List.replicate r 0 := by unfold coSet; rw [List.foldl_nil, HL.out]
    rw [this, List.map_replicate]
    simpa [Value.cells, toList_madeCells_one] using hown
  have hw1 : Below w.heap.size w w1 := (((Below.refl _ w).alloc (Nat.le_refl _) _).alloc (by simp) _).trans (hB1.mono (by omega))
  have cn := newCell w1 (.slice (some ⟨w.heap.size + 1 + 1, 0, none⟩) r r) 22
  have cs_ := newCell (w1.alloc (.cells #[.slice (some ⟨w.heap.size + 1 + 1, 0, none⟩) r r] 22)) (.slice A r c) 22
  simp only [World.size_alloc] at cs_
  have hB0 : Below w.heap.size w ((w1.alloc (.cells #[.slice (some ⟨w.heap.size + 1 + 1, 0, none⟩) r r] 22)).alloc (.cells #[.slice A r c] 22)) := (hw1.alloc (by omega) _).alloc (by simp; omega) _
  have hsz2 : w.heap.size + 1 + 1 < w1.heap.size := by simpa using (hown.lt _ rfl).2
  clear hown hg hB1 HC HF
  refine wpIn_rangeFunc_ownF rfl h1 (gf := 92) (lb := #[.pointer (some ⟨w1.heap.size + 1, 0, none⟩)]) rfl trivial (enters_of Try.func92 (by kernel_rfl) rfl)
    (fromBehind_stops (n - 1) (by omega) (fun x => (0 ≤ x.1 ∧ x.1 < r) ∧ 1 ≤ x.2) (w1.heap.size + 1) w.heap.size A r c xs hr5 (fun k hk => ⟨⟨by dsimp only; omega, by dsimp only; omega⟩, (backs_pos hp hM2 k (by rw [HL.out]; omega)).1⟩) _ (by simp) (by simp; omega) cs_.1 (h.below hB0)) KeepBox.trans (keepBox_b (by simp; omega) (by simp)) (Below.refl _ _) (fun _ => rfl)
    (fun pre W => (W.cell? ⟨w1.heap.size, 0, none⟩ = some (.slice (some ⟨w.heap.size + 1 + 1, 0, none⟩) r r) ∧ W.cell? ⟨w.heap.size, 0, none⟩ = some (.slice A r c) ∧ W.cell? ⟨w.heap.size + 1, 0, none⟩ = some (.int .i64 v) ∧
      W.ownsRow w.heap.size 3 1 (.slice (some ⟨w.heap.size + 1 + 1, 0, none⟩) r r) r ((coSet xs v (pre.map (·.1))).map (Value.int .i64))) ∧ Below w.heap.size w W)
    (fun _ _ _ => False)
    (OwnFrom.and (Own.from (fun s A B row hs hg hr => ⟨cell_kept hs.1 hg hr, cell_kept hs.2.1 hg hr, cell_kept hs.2.2.1 hg hr, own_row hs.2.2.2 hg hr⟩) _) (ownFrom_below (Nat.le_refl _) (by simp; omega)))
    (fun _ _ _ _ _ hs _ _ => hs)
    ⟨⟨cellPast _ cn.1, cellPast _ (d2 _), cellPast _ (d3 _), (hown2.alloc _).alloc _⟩, hB0⟩
    (fun x => { tmps := #[.slice A r c, .int .i64 v, .pointer (some ⟨w.heap.size, 0, none⟩), .pointer (some ⟨w.heap.size + 1, 0, none⟩), .slice none 0 0, .int .i64 0, .int .i64 N, .int .i64 0, .pointer (some ⟨w1.heap.size, 0, none⟩), .int .i64 x.1.1, .int .i64 x.1.2,
          .tuple #[.int .i64 N, .int .i64 0], .slice A r c, .tuple #[.int .i64 N, .int .i64 0], .int .i64 N, .int .i64 0, .int .i64 0, .bool false, undef, .int .i64 v, .bool false, .bool false, .int .i64 v, .int .i64 N, .bool false, .bool false, .slice A r c, .int .i64 r,
          .slice (some ⟨w.heap.size + 1 + 1, 0, none⟩) r r, .slice A r c, .func (.func 92) #[] #[.pointer (some ⟨w1.heap.size + 1, 0, none⟩)], .int .i64 x.1.1, .int .i64 x.1.2, undef, undef, undef, undef, undef, undef, undef, undef, undef, undef, undef, undef], defers := [] }) ?assign ?body ?done ?stop
  case assign =>
    intro l x W K hK
    gi_wp2
    exact hK
  case body =>
    rintro l pre ⟨⟨j, q⟩, ⟨hj0, hj1⟩, hq⟩ W ⟨⟨hcc, hcs, hcn, hrow⟩, hB⟩ _
    dsimp only at hj0 hj1 hq ⊢
    have h' := h.below hB
    obtain ⟨b, off, x, rfl, hbb, HX, hcx, hx1, hx2⟩ := h'.at_ (k := j.toNat) (by omega)
    have hx0 : 1 ≤ x := hp x (List.mem_of_getElem? HX.out)
    obtain ⟨u, hu⟩ : ∃ u, ((coSet xs v (pre.map (·.1))).map (Value.int .i64))[j.toNat]? = some u := by
      refine ⟨_, List.getElem?_eq_getElem ?_⟩
      rw [List.length_map, coSet_length, HL.out]; omega
    have hcell : W.cell? ⟨w.heap.size + 1 + 1, j.toNat, none⟩ = some u := (hrow.cellAt j.toNat (by omega)).trans hu
    have hfr := hrow.frozenAt j.toNat
    have HR := Lib.hid hrow
    clear hu cn cs_ hB0 h h' hp d2 d3 c2 c3 hw1 hown2 hrow
    have hq00 : ¬ q = 0 := by omega
    have hx00 : ¬ x = 0 := by omega
    obtain ⟨d, hd⟩ : ∃ d, v / q = d := ⟨_, rfl⟩
    have hd0 : 0 ≤ d := by rw [← hd]; exact Int.ediv_nonneg hv0 (by omega)
    have hd1 : d ≤ v := by rw [← hd]; exact Int.ediv_le_self _ hv0
    have he1 : IntKind.i64.wrap (v.tdiv q) = d := by rw [Int.tdiv_eq_ediv_of_nonneg hv0, hd, wrap_eq]; exact IntWalk.wrap64_in _ ⟨by omega, by omega⟩
    have he2 : IntKind.i64.wrap (d.tmod x) = d % x := by
      have hz0 := Int.emod_nonneg d hx00
      have hz1 := Int.emod_lt_of_pos d (b := x) (by omega)
      rw [Int.tmod_eq_emod_of_nonneg hd0, wrap_eq]; exact IntWalk.wrap64_in _ ⟨by omega, by omega⟩
    have HZ : Hid (v / q = d) := hd
    clear hd
    have hmx : Try.prog.follows .mixedOrders = true := by kernel_rfl
    gi_wp2
    refine wpIn_region_still_tail_round 11 hmx (by kernel_rfl) (by kernel_rfl) (by rintro ⟨_, _, hh⟩; exact hh) ?_
    simp only [List.take_succ_cons, List.take_zero, List.drop_succ_cons, List.drop_zero]
    repeat still_step
    refine wpStill_nil ?_
    change wpList _ _ _ _ _ W.drew
    go_wp2
    have HS := HR.out.stored j.toNat (.int .i64 (d % x))
    rw [← List.map_set] at HS
    exact co_round hcc hcs hcn hB hsz2 (by
      rw [List.map_append]; show (W.setCell _ _).ownsRow _ _ _ _ _ ((coSet xs v (pre.map (·.1) ++ [(j, q)])).map _)
      rw [coSet_snoc]; simp only [HX.out, Option.getD_some]; rw [HZ.out]; exact HS.1)
  case done =>
    rintro D ys W hD hys ⟨⟨hcc, _, _, hrow⟩, hB⟩ hK
    rw [hys] at hrow
    have hfin := coSet_comes v hp hM2 r (by rw [HL.out]; omega)
    rw [HL.out, Nat.sub_self, List.drop_zero] at hfin
    rw [hfin] at hrow
    clear hfin hys
    gi_wp2
    refine ⟨by simp, .inl ⟨_, _, rfl, run_takeDeferred hK, ?_⟩⟩
    refine ⟨_, results_tmp2 rfl _ _ _, _, _, rfl, ⟨?_, ?_⟩, hB.trans (belowK_b (w := w) (Nat.le_refl _) W D _ _ (by simp at hD; omega) hK rfl rfl)⟩
    · rw [placeR_length, HL.out]; exact own_row (by simpa using hrow) (grownBy_putObj' _ D (.deferred none)) (fun r e => by cases e; exact ⟨_, hK, rfl⟩)
    · exact placeR_fits hp (fun x hx => (h.2.1 x hx).2) v
  case stop =>
    rintro D c pre W _ _ h _
    exact h.elim

set_option maxRecDepth 100000 in
theorem coord_any (A : Option Addr) (r c : Nat) (xs : List Int) (v : Int) (w : World) (h : Ints w w.heap.size A r xs) (hr : r ≤ 9223372036854775807) :
    Calls Try.prog 62 #[.slice A r c, .int .i64 v] w fun e w' => ∃ A' c', e = .returned (.tuple #[.slice A' (coordF xs v).1.length c', .int .i64 (coordF xs v).2]) ∧ OwnI w' w.heap.size 3 A' c' (coordF xs v).1 ∧ Below w.heap.size w w' := by
  have HC := fun W (hW : Ints W w.heap.size A r xs) => cells_any A r c xs W w.heap.size hW hr
  have hB1 : ∀ o1 o2, Below w.heap.size w ((w.alloc o1).alloc o2) := fun o1 o2 => ((Below.refl _ w).alloc (Nat.le_refl _) _).alloc (by simp) _
  by_cases hcf : (cellsF xs).2 = 0
  · obtain ⟨N, hN⟩ : ∃ N, (cellsF xs).1 = N := ⟨_, rfl⟩
    by_cases hv : 0 ≤ v ∧ v < N
    · have HF : coordF xs v = (placeR xs v, 0) := by unfold coordF; rw [if_pos hcf, hN, if_pos hv]
      have hl : (placeR xs v).length = r := by rw [placeR_length]; exact h.1
      refine (callsIn_wide.1 (coord_in 3 (Nat.le_refl _) A r c xs v N w h hr hcf hN hv.1 hv.2)).mono ?_
      rintro e w' ⟨A', c', rfl, ho, hb⟩
      exact ⟨A', c', by rw [HF]; dsimp only; rw [hl], by rw [HF]; exact ho, hb⟩
    · have HF : Hid (coordF xs v = ([], 3)) := by unfold Hid coordF; rw [if_pos hcf, hN, if_neg hv]
      rw [hcf, hN] at HC
      clear hcf hN
      by_cases hv0 : v < 0
      · have hd : decide (v < 0) = true := by simpa using hv0
        clear hv
        go_enter Try.func62, Try.ntmps62
        go_wp2_with (go_at_call 51; refine (HC _ ((h.alloc (Nat.le_refl _) _).alloc (by simp) _)).mono ?_; rintro e w' ⟨rfl, rfl⟩)
        go_ret2
        exact ⟨none, 0, by rw [HF.out]; rfl, by rw [HF.out]; exact OwnI.nil_ _ _ _, hB1 _ _⟩
      · have hd : decide (v < 0) = false := by simpa using hv0
        have hv3 : N ≤ v := by omega
        have hd2 : decide (N ≤ v) = true := by simpa using hv3
        clear hv
        go_enter Try.func62, Try.ntmps62
        go_wp2_with (go_at_call 51; refine (HC _ ((h.alloc (Nat.le_refl _) _).alloc (by simp) _)).mono ?_; rintro e w' ⟨rfl, rfl⟩)
        go_ret2
        exact ⟨none, 0, by rw [HF.out]; rfl, by rw [HF.out]; exact OwnI.nil_ _ _ _, hB1 _ _⟩
  · have HF : Hid (coordF xs v = ([], (cellsF xs).2)) := by unfold Hid coordF; rw [if_neg hcf]
    obtain ⟨N, hN⟩ : ∃ N, (cellsF xs).1 = N := ⟨_, rfl⟩
    obtain ⟨E, hE⟩ : ∃ E, (cellsF xs).2 = E := ⟨_, rfl⟩
    rw [hN, hE] at HC
    rw [hE] at hcf HF
    have he1 : (E == 0) = false := by simpa using hcf
    have he2 : (E != 0) = true := by simpa using hcf
    clear hN hE hcf
    go_enter Try.func62, Try.ntmps62
    go_wp2_with (go_at_call 51; refine (HC _ ((h.alloc (Nat.le_refl _) _).alloc (by simp) _)).mono ?_; rintro e w' ⟨rfl, rfl⟩)
    go_ret2
    exact ⟨none, 0, by rw [HF.out]; rfl, by rw [HF.out]; exact OwnI.nil_ _ _ _, hB1 _ _⟩
end Go.Proofs.Ytpfabbapfmfmmaa
/- The contract of the statements' live: the chapter's examples hold, and nothing that lay there has turned. -/
namespace Go.Proofs.Ytpfabbapfmfmmaa
open Go.RowKit

theorem Ints.of_new (W : World) (e : TypeId) (xs : List Int) (hb : ∀ x ∈ xs, -9223372036854775808 ≤ x ∧ x ≤ 9223372036854775807) :
    Ints (W.alloc (.cells (xs.map (Value.int .i64)).toArray e)) (W.heap.size + 1) (some ⟨W.heap.size, 0, none⟩) xs.length xs := by
  refine ⟨rfl, hb, fun _ => ⟨W.heap.size, 0, rfl, by omega, fun k x hx => ?_⟩⟩
  have h : (W.alloc (.cells (xs.map (Value.int .i64)).toArray e)).heap[W.heap.size]? = some (.cells (xs.map (Value.int .i64)).toArray e (0, 0)) := heap_alloc_new W _
  have := cell_of_row _ _ k _ e (0, 0) h
  rw [Nat.zero_add, this]
  simp [hx]

theorem live_at (w : World) : Calls Try.prog 52 #[.slice (some ⟨w.heap.size, 0, none⟩) 2 2, .slice (some ⟨w.heap.size + 1, 0, none⟩) 2 2] ((w.alloc (.cells #[.int .i64 2, .int .i64 3] 3)).alloc (.cells #[.int .i64 1, .int .i64 2] 3))
    fun e w' => e = .returned (.tuple #[.int .i64 5, .int .i64 0]) ∧ Below (w.heap.size + 1 + 1) ((w.alloc (.cells #[.int .i64 2, .int .i64 3] 3)).alloc (.cells #[.int .i64 1, .int .i64 2] 3)) w' := by
  have h1 := ((Ints.of_new w 3 [2, 3] (by simp)).alloc (by simp) (.cells #[.int .i64 1, .int .i64 2] 3)).more (B' := w.heap.size + 1 + 1) (by omega)
  have h2 := Ints.of_new (w.alloc (.cells #[.int .i64 2, .int .i64 3] 3)) 3 [1, 2] (by simp)
  rw [World.size_alloc] at h2
  have := at_any _ _ 2 2 2 2 [2, 3] [1, 2] ((w.alloc (.cells #[.int .i64 2, .int .i64 3] 3)).alloc (.cells #[.int .i64 1, .int .i64 2] 3)) (by simpa using h1) (by simpa using h2) (by omega) (by omega)
  have e : atF [2, 3] [1, 2] = (5, 0) := by decide
  rw [e] at this
  simpa using this
theorem live_zero (w : World) : Calls Try.prog 58 #[.slice (some ⟨w.heap.size, 0, none⟩) 1 1] (w.alloc (.cells #[.int .i64 2] 3))
    fun e w' => ∃ A1 c1 A2 c2, e = .returned (.tuple #[.agg #[.slice A1 1 c1, .slice A2 2 c2], .int .i64 0]) ∧ Below (w.heap.size + 1) (w.alloc (.cells #[.int .i64 2] 3)) w' := by
  have h1 := Ints.of_new w 3 [2] (by simp)
  have := zero_ok _ 1 1 [2] 2 (w.alloc (.cells #[.int .i64 2] 3)) (by simpa using h1) (by omega) (by decide) (by decide) (by omega)
  refine this.mono ?_
  rintro e w' ⟨A1, c1, A2, c2, rfl, _, _, hb⟩
  exact ⟨A1, c1, A2, c2, rfl, by simpa using hb⟩

end Go.Proofs.Ytpfabbapfmfmmaa
/- purflelaw01.BoxPlaces returns true at every input, and nothing that lay there has turned. -/
namespace Go.Proofs.Ytpfabbapfmfmmaa
open Go.RowKit

theorem below_drewN {B : Nat} {w W : World} (h : Below B w W) (m : Nat) : Below B w (W.drewN m) := ⟨h.os, h.tape, h.output, h.size, h.block⟩
theorem coordF_len {xs : List Int} {v : Int} : (coordF xs v).1.length ≤ 4 := by
  unfold coordF
  split
  · rename_i h
    split
    · rw [placeR_length]; exact (cellsF_ok h).1
    · simp
  · simp

end Go.Proofs.Ytpfabbapfmfmmaa
