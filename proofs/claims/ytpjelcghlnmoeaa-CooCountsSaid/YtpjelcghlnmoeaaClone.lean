/- The contracts of slices.Clone at []int and slices.Equal at []int and []int64, of box.laid and the document's Check's length part, of box.Zero. -/
import Derived.Test.YtpjelcghlnmoeaaPlace
import Derived.Deep.RegionWith
import Derived.WalkSpells
import Derived.Test.YtpjelcghlnmoeaaFrom
namespace Go.Proofs.Ytpjelcghlnmoeaa
open Go.RowKit

set_option maxRecDepth 100000 in
theorem equalInt_any (A A2 : Option Addr) (n n2 c c2 : Nat) (xs ys : List Int) (w : World) (B : Nat) (h : Ints w B A n xs) (h2 : Ints w B A2 n2 ys) (hn : n ≤ 100000) (hn2 : n2 ≤ 9223372036854775807) :
    Calls Try.prog 48 #[.slice A n c, .slice A2 n2 c2] w fun e w' => e = .returned (.bool (decide (xs = ys))) ∧ ∃ m, w' = w.drewN m := by
  have HL : Hid (xs.length = n) := h.1
  have HL2 : Hid (ys.length = n2) := h2.1
  by_cases hne : n = n2
  · subst hne
    go_enter Try.func48, Try.ntmps48
    go_wp2
    go_loopw [13] (fun i wr => ∃ (k m : Nat), k ≤ n ∧ i = .int .i64 k ∧ wr = w.drewN m ∧ Hid (xs.take k = ys.take k)) (fun i _ => n - (intOf i).toNat)
    case atStart => exact ⟨0, 0, Nat.zero_le _, rfl, rfl, by unfold Hid; simp⟩
    case round =>
      obtain ⟨k, m, hk, rfl, rfl, HK⟩ := hrel
      by_cases hlt : k < n
      · obtain ⟨b, off, x, rfl, _, HX, hc, hx1, hx2⟩ := h.at_ hlt
        obtain ⟨b2, off2, y, rfl, _, HY, hc2, hy1, hy2⟩ := h2.at_ hlt
        have hk0 : (0 : Int) ≤ k := by omega
        have hk1 : (k : Int) < n := by omega
        by_cases hxy : x = y
        · have HN : Hid (xs.take (k + 1) = ys.take (k + 1)) := by unfold Hid; rw [take_succ_of HX.out, take_succ_of HY.out, HK.out, hxy]
          have e1 : (x == y) = true := by simpa using hxy
          have e2 : (x != y) = false := by simpa using hxy
          clear hxy
          go_wp2
          go_quiet (fail)
          go_wp2
          go_roundw
          case rel => exact ⟨k + 1, _, by omega, by go_num, rfl, HN⟩
          case measure => simp [intOf]; omega
        · have HF : Hid (decide (xs = ys) = false) := by
            unfold Hid; rw [decide_eq_false]; intro e; subst e
            have := HX.out; rw [HY.out] at this; exact hxy (by injection this with this; exact this.symm)
          have e1 : (x == y) = false := by simpa using hxy
          have e2 : (x != y) = true := by simpa using hxy
          go_wp2
          go_quiet (fail)
          go_wp2
          go_ret
          exact ⟨by rw [HF.out]; rfl, _, World.drewN_drewN _ _ _⟩
      · have HF : Hid (decide (xs = ys) = true) := by
          unfold Hid; rw [decide_eq_true]; have := HK.out
          rwa [List.take_of_length_le (by rw [HL.out]; omega), List.take_of_length_le (by rw [HL2.out]; omega)] at this
        go_wp2
        go_ret
        exact ⟨by rw [HF.out]; rfl, _, rfl⟩
  · have HF : Hid (decide (xs = ys) = false) := by unfold Hid; rw [decide_eq_false]; intro e; subst e; exact hne (by rw [← HL.out, ← HL2.out])
    have hne1 : ((n : Int) == (n2 : Int)) = false := by simp; omega
    have hne2 : ((n : Int) != (n2 : Int)) = true := by simp; omega
    go_enter Try.func48, Try.ntmps48
    go_wp2
    go_ret
    exact ⟨by rw [HF.out]; rfl, 0, rfl⟩

set_option maxRecDepth 100000 in
theorem equalInt64_any (A A2 : Option Addr) (n n2 c c2 : Nat) (xs ys : List Int) (w : World) (B : Nat) (h : Ints w B A n xs) (h2 : Ints w B A2 n2 ys) (hn : n ≤ 100000) (hn2 : n2 ≤ 9223372036854775807) :
    Calls Try.prog 65 #[.slice A n c, .slice A2 n2 c2] w fun e w' => e = .returned (.bool (decide (xs = ys))) ∧ ∃ m, w' = w.drewN m := by
  have HL : Hid (xs.length = n) := h.1
  have HL2 : Hid (ys.length = n2) := h2.1
  by_cases hne : n = n2
  · subst hne
    go_enter Try.func65, Try.ntmps65
    go_wp2
    go_loopw [13] (fun i wr => ∃ (k m : Nat), k ≤ n ∧ i = .int .i64 k ∧ wr = w.drewN m ∧ Hid (xs.take k = ys.take k)) (fun i _ => n - (intOf i).toNat)
    case atStart => exact ⟨0, 0, Nat.zero_le _, rfl, rfl, by unfold Hid; simp⟩
    case round =>
      obtain ⟨k, m, hk, rfl, rfl, HK⟩ := hrel
      by_cases hlt : k < n
      · obtain ⟨b, off, x, rfl, _, HX, hc, hx1, hx2⟩ := h.at_ hlt
        obtain ⟨b2, off2, y, rfl, _, HY, hc2, hy1, hy2⟩ := h2.at_ hlt
        have hk0 : (0 : Int) ≤ k := by omega
        have hk1 : (k : Int) < n := by omega
        by_cases hxy : x = y
        · have HN : Hid (xs.take (k + 1) = ys.take (k + 1)) := by unfold Hid; rw [take_succ_of HX.out, take_succ_of HY.out, HK.out, hxy]
          have e1 : (x == y) = true := by simpa using hxy
          have e2 : (x != y) = false := by simpa using hxy
          clear hxy
          go_wp2
          go_quiet (fail)
          go_wp2
          go_roundw
          case rel => exact ⟨k + 1, _, by omega, by go_num, rfl, HN⟩
          case measure => simp [intOf]; omega
        · have HF : Hid (decide (xs = ys) = false) := by
            unfold Hid; rw [decide_eq_false]; intro e; subst e
            have := HX.out; rw [HY.out] at this; exact hxy (by injection this with this; exact this.symm)
          have e1 : (x == y) = false := by simpa using hxy
          have e2 : (x != y) = true := by simpa using hxy
          go_wp2
          go_quiet (fail)
          go_wp2
          go_ret
          exact ⟨by rw [HF.out]; rfl, _, World.drewN_drewN _ _ _⟩
      · have HF : Hid (decide (xs = ys) = true) := by
          unfold Hid; rw [decide_eq_true]; have := HK.out
          rwa [List.take_of_length_le (by rw [HL.out]; omega), List.take_of_length_le (by rw [HL2.out]; omega)] at this
        go_wp2
        go_ret
        exact ⟨by rw [HF.out]; rfl, _, rfl⟩
  · have HF : Hid (decide (xs = ys) = false) := by unfold Hid; rw [decide_eq_false]; intro e; subst e; exact hne (by rw [← HL.out, ← HL2.out])
    have hne1 : ((n : Int) == (n2 : Int)) = false := by simp; omega
    have hne2 : ((n : Int) != (n2 : Int)) = true := by simp; omega
    go_enter Try.func65, Try.ntmps65
    go_wp2
    go_ret
    exact ⟨by rw [HF.out]; rfl, 0, rfl⟩

/-- how many cells, of what can be laid out -/
def laidF (xs : List Int) : Int × Int := if (cellsF xs).2 = 0 then if 65536 < (cellsF xs).1 then (0, 2) else ((cellsF xs).1, 0) else (0, (cellsF xs).2)
set_option maxRecDepth 100000 in
theorem laid_any (A : Option Addr) (n c : Nat) (xs : List Int) (w : World) (B : Nat) (h : Ints w B A n xs) (hn : n ≤ 9223372036854775807) :
    Calls Try.prog 82 #[.slice A n c] w fun e w' => e = .returned (.tuple #[.int .i64 (laidF xs).1, .int .i64 (laidF xs).2]) ∧ w = w' := by
  have HC := cells_any A n c xs w B h hn
  obtain ⟨N, hN⟩ : ∃ N, (cellsF xs).1 = N := ⟨_, rfl⟩
  by_cases hcf : (cellsF xs).2 = 0
  · by_cases hb : 65536 < N
    · have HF : Hid (laidF xs = (0, 2)) := by unfold Hid laidF; rw [if_pos hcf, hN, if_pos hb]
      rw [hcf, hN] at HC
      clear hcf hN
      go_enter Try.func82, Try.ntmps82
      go_wp2_with (go_at_call 51; refine HC.mono ?_; rintro e w' ⟨rfl, rfl⟩)
      go_ret2
      exact ⟨by rw [HF.out]; rfl, rfl⟩
    · have HF : Hid (laidF xs = (N, 0)) := by unfold Hid laidF; rw [if_pos hcf, hN, if_neg hb]
      rw [hcf, hN] at HC
      clear hcf hN
      go_enter Try.func82, Try.ntmps82
      go_wp2_with (go_at_call 51; refine HC.mono ?_; rintro e w' ⟨rfl, rfl⟩)
      go_ret2
      exact ⟨by rw [HF.out]; rfl, rfl⟩
  · have HF : Hid (laidF xs = (0, (cellsF xs).2)) := by unfold Hid laidF; rw [if_neg hcf]
    obtain ⟨E, hE⟩ : ∃ E, (cellsF xs).2 = E := ⟨_, rfl⟩
    rw [hN, hE] at HC
    rw [hE] at hcf HF
    have he1 : (E == 0) = false := by simpa using hcf
    have he2 : (E != 0) = true := by simpa using hcf
    clear hN hE hcf
    go_enter Try.func82, Try.ntmps82
    go_wp2_with (go_at_call 51; refine HC.mono ?_; rintro e w' ⟨rfl, rfl⟩)
    go_ret2
    exact ⟨by rw [HF.out]; rfl, rfl⟩

theorem laidF_nonneg {xs : List Int} : 0 ≤ (laidF xs).1 ∧ (laidF xs).1 ≤ 65536 := by
  unfold laidF
  split
  · rename_i h
    split
    · simp
    · have h0 := (cellsF_ok h).2
      by_cases hz : (cellsF xs).1 = 0
      · simp [hz]
      · have := cellsF_nz h hz
        have := (cellsF_ok_pos h this).1
        have := prodI_pos (cellsF_nz h hz)
        dsimp only; omega
  · simp
theorem laidF_ok {xs : List Int} (h : (laidF xs).2 = 0) : (cellsF xs).2 = 0 ∧ (laidF xs).1 = (cellsF xs).1 := by
  unfold laidF at h ⊢
  split at h
  · rename_i hc
    split at h
    · simp at h
    · rename_i hb; rw [if_pos hc, if_neg hb]; exact ⟨hc, rfl⟩
  · rename_i hc; exact absurd h hc

theorem emptyRow (w : World) (e : TypeId) : (w.alloc (.cells #[] e)).ownsRow w.heap.size e 1 (.slice (some ⟨w.heap.size, 0, none⟩) 0 0) 0 [] :=
  ⟨by simp, .inr ⟨w.heap.size, 0, #[], rfl, Nat.le_refl _, heap_alloc_new w _, Nat.le_refl _, by unfold maxLen; omega, by simp, by simp⟩⟩
theorem ints_one (xs : List Int) : ∀ u ∈ xs.map (Value.int .i64), u.oneCell' = true := by
  intro u hu
  rw [List.mem_map] at hu
  obtain ⟨x, _, rfl⟩ := hu
  rfl
theorem Ints.cells_ {w : World} {B n : Nat} {ad : Addr} {xs : List Int} (h : Ints w B (some ad) n xs) : ∀ j u, (xs.map (Value.int .i64))[j]? = some u → w.cell? (ad.add j) = some u := by
  intro j u hu
  rw [List.getElem?_map, Option.map_eq_some_iff] at hu
  obtain ⟨x, hx, rfl⟩ := hu
  have hj : j < n := by have := (List.getElem?_eq_some_iff.1 hx).1; have := h.1; omega
  obtain ⟨b, off, e, hb, hc⟩ := h.2.2 (by omega)
  injection e with e
  subst e
  have := hc j x hx
  by_cases h0 : j = 0
  · subst h0; simpa [Addr.add] using this
  · simpa [Addr.add, h0] using this
theorem Ints.cells_alloc {w : World} {B n : Nat} {ad : Addr} {xs : List Int} (h : Ints w B (some ad) n xs) (hB : B ≤ w.heap.size) (o : Obj) : ∀ j u, (xs.map (Value.int .i64))[j]? = some u → (w.alloc o).cell? (ad.add j) = some u := (h.alloc hB o).cells_
theorem row_form {w : World} {base n : Nat} {e : TypeId} {v : Value} {ys : List Value} (h : w.ownsRow base e 1 v n ys) : ∃ A c, v = .slice A n c := by
  rcases h.2 with ⟨rfl, rfl⟩ | ⟨g, cap, cur, rfl, _⟩
  · exact ⟨_, _, rfl⟩
  · exact ⟨_, _, rfl⟩

set_option maxRecDepth 100000 in
/-- slices.Clone -/
theorem clone_any (A : Option Addr) (n c : Nat) (xs : List Int) (w : World) (B : Nat) (h : Ints w B A n xs) (hB : B ≤ w.heap.size) (hn : n ≤ 100000) :
    Calls Try.prog 61 #[.slice A n c] w fun e w' => ∃ A' c', e = .returned (.slice A' n c') ∧ OwnI w' w.heap.size 3 A' c' xs ∧ Below w.heap.size w w' := by
  have HL : Hid (xs.length = n) := h.1
  obtain ⟨i0, hi0, hz0, hz1, hz2⟩ := info_parts infoInt
  rcases Option.eq_none_or_eq_some A with rfl | ⟨ad, rfl⟩
  · obtain rfl : n = 0 := by
      rcases Nat.eq_zero_or_pos n with h0 | h0
      · exact h0
      · obtain ⟨b, off, e, _⟩ := h.2.2 h0; cases e
    obtain rfl : xs = [] := List.eq_nil_of_length_eq_zero h.1
    have hq := Lib.run_eql_slice_nil (P := Try.prog) (w := w)
    go_enter Try.func61, Try.ntmps61
    go_wp2
    go_ret
    exact ⟨none, 0, rfl, OwnI.nil_ _ _ _, Below.refl _ _⟩
  · have hq := Lib.run_eql_slice_nil (P := Try.prog) (w := w)
    go_enter Try.func61, Try.ntmps61
    go_wp2_with (at_builtin; refine wpList_append_own _ rfl (.tmp 5) (.tmp 6) 22 rfl w.heap.size 3 i0 (.int .i64 0) 1 8 Try.underlying22 hi0 hz0 hz1 hz2 rfl (by decide) _ 0 [] rfl (emptyRow w 3) ad n c (xs.map (Value.int .i64)) rfl (by rw [List.length_map, HL.out, Nat.mul_one]) (h.cells_alloc hB _) (ints_one xs) (by unfold maxLen; omega) (by omega) (by simp) ?_; intro v' w1 hown hg _; obtain ⟨A', c', rfl⟩ := row_form hown)
    go_ret
    refine ⟨A', c', rfl, ⟨?_, h.2.1⟩, ((Below.refl _ w).alloc (Nat.le_refl _) _).grown hg (by simp) (fun k e => Nat.le_of_eq (Option.some.inj e))⟩
    rw [HL.out]; simpa using hown

/-- box.Zero -/
def zeroF (xs : List Int) : (List Int × List Int) × Int := if (laidF xs).2 = 0 then ((xs, List.replicate (laidF xs).1.toNat 0), 0) else (([], []), (laidF xs).2)

set_option maxRecDepth 100000 in
theorem zero_err (A : Option Addr) (n c : Nat) (xs : List Int) (w : World) (h : Ints w w.heap.size A n xs) (hn : n ≤ 9223372036854775807) (he : (laidF xs).2 ≠ 0) :
    Calls Try.prog 58 #[.slice A n c] w fun e w' => e = .returned (.tuple #[.agg #[.slice none 0 0, .slice none 0 0], .int .i64 (laidF xs).2]) ∧ Below w.heap.size w w' := by
  have HC := fun W (hW : Ints W w.heap.size A n xs) => laid_any A n c xs W w.heap.size hW hn
  obtain ⟨N, hN⟩ : ∃ N, (laidF xs).1 = N := ⟨_, rfl⟩
  obtain ⟨E, hE⟩ : ∃ E, (laidF xs).2 = E := ⟨_, rfl⟩
  rw [hN, hE] at HC
  rw [hE] at he ⊢
  have he1 : (E == 0) = false := by simpa using he
  have he2 : (E != 0) = true := by simpa using he
  clear hN hE he
  go_enter Try.func58, Try.ntmps58
  go_wp2_with (go_at_call 82; refine (HC _ (h.alloc (Nat.le_refl _) _)).mono ?_; rintro e w' ⟨rfl, rfl⟩)
  exact bodyPost_ret (v := .tuple #[.agg #[.slice none 0 0, .slice none 0 0], .int .i64 E]) (by simp [results, Try.results58, go_sem]) rfl ⟨rfl, (Below.refl _ _).alloc (Nat.le_refl _) _⟩

theorem run_makeAll {P : Program} (t e : TypeId) (i : TypeInfo) (ht : P.underlying t = some (.slice e)) (hi : P.info? e = some i) (hz : i.zero = some (.int .i64 0)) (h1 : i.size = 1) (h2 : i.bytes = 8) (n : Nat) (hn : n ≤ 100000) (w : World) :
    (Instr.makeSlice t (.int .i64 (n : Int)) (.int .i64 (n : Int))).run P w = .ok (.slice (some ⟨w.heap.size, 0, none⟩) n n) (w.alloc (.cells (madeCells #[.int .i64 0] n) e)) := by
  have hr := run_make (P := P) w t e i (.int .i64 0) ht hi hz .i64 .i64 n n (by omega) (by omega) (by rw [h2]; omega) (by omega)
  simp only [Int.toNat_natCast, h1, Nat.mul_one] at hr
  exact hr
theorem own_made (w : World) (e : TypeId) (n base : Nat) (hb : base ≤ w.heap.size) (hn : n ≤ 100000) : OwnI (w.alloc (.cells (madeCells #[.int .i64 0] n) e)) base e (some ⟨w.heap.size, 0, none⟩) n (List.replicate n 0) := by
  refine ⟨⟨by simp, .inr ⟨w.heap.size, n, madeCells #[.int .i64 0] n, by simp, hb, heap_alloc_new w _, by simp, by unfold maxLen; omega, ?_, ?_⟩⟩, by simp⟩
  · have := congrArg List.length (toList_madeCells_one (.int .i64 0) n); simpa using this
  · rw [toList_madeCells_one]; simp

theorem zfacts {w W w1 : World} {u v : Value} {t : TypeId} (hb : Below W.heap.size W w1) (hW : Below (w.heap.size + 1) (w.alloc (.cells #[u, v] t)) W := by first | exact Below.refl _ _ | exact (Below.refl _ _).drew | exact ((Below.refl _ _).alloc (by simp) _).drew) :
    w.heap.size < w1.heap.size ∧ w1.cell? ⟨w.heap.size, 0, none⟩ = some u ∧ w1.cell? ⟨w.heap.size, 1, none⟩ = some v ∧ w1.frozen? ⟨w.heap.size, 0, none⟩ = false ∧ w1.frozen? ⟨w.heap.size, 1, none⟩ = false := by
  have h2 := hW.trans (hb.mono (by have := hW.size; simpa using this))
  have hh : (w.alloc (.cells #[u, v] t)).heap[w.heap.size]? = some (.cells #[u, v] t (0, 0)) := heap_alloc_new w _
  have h1 : w1.heap[w.heap.size]? = some (.cells #[u, v] t (0, 0)) := (h2.block w.heap.size (by omega)).trans hh
  refine ⟨by have := h2.size; simp at this; omega, ?_, ?_, ?_, ?_⟩
  · simpa using cell_of_row _ _ 0 _ t (0, 0) h1
  · simpa using cell_of_row _ _ 1 _ t (0, 0) h1
  · simp [World.frozen?, h1]
  · simp [World.frozen?, h1]

theorem zcells {w1 : World} {g : Nat} {u v a b : Value} (k0 : w1.cell? ⟨g, 0, none⟩ = some u) (k1 : w1.cell? ⟨g, 1, none⟩ = some v) :
    ((w1.setCell ⟨g, 0, none⟩ a).setCell ⟨g, 1, none⟩ b).cell? ⟨g, 0, none⟩ = some a ∧ ((w1.setCell ⟨g, 0, none⟩ a).setCell ⟨g, 1, none⟩ b).cell? ⟨g, 1, none⟩ = some b := by
  have h0 : (w1.setCell ⟨g, 0, none⟩ a).cell? ⟨g, 0, none⟩ = some a := World.cell?_setCell_same' _ _ _ (by rw [k0]; rfl)
  have h1 : (w1.setCell ⟨g, 0, none⟩ a).cell? ⟨g, 1, none⟩ = some v := (World.cell?_setCell_other w1 _ ⟨g, 1, none⟩ _ (by simp)).trans k1
  exact ⟨(World.cell?_setCell_other _ _ ⟨g, 0, none⟩ _ (by simp)).trans h0, World.cell?_setCell_same' _ _ _ (by rw [h1]; rfl)⟩
theorem OwnI.setBelow {w : World} {base : Nat} {e : TypeId} {A : Option Addr} {c : Nat} {xs : List Int} (h : OwnI w base e A c xs) {a : Addr} (ha : a.block < base) (u : Value) : OwnI (w.setCell a u) base e A c xs := ⟨ownsRow_setCell_below h.1 ha u, h.2⟩
theorem OwnI.drew {w : World} {base : Nat} {e : TypeId} {A : Option Addr} {c : Nat} {xs : List Int} (h : OwnI w base e A c xs) : OwnI w.drew base e A c xs := h
theorem OwnI.alloc {w : World} {base : Nat} {e : TypeId} {A : Option Addr} {c : Nat} {xs : List Int} (h : OwnI w base e A c xs) (o : Obj) : OwnI (w.alloc o) base e A c xs := ⟨h.1.alloc o, h.2⟩

set_option maxRecDepth 100000 in
theorem zero_ok (A : Option Addr) (n c : Nat) (xs : List Int) (N : Nat) (w : World) (h : Ints w w.heap.size A n xs) (hn : n ≤ 100000) (he : (laidF xs).2 = 0) (hN : (laidF xs).1 = N) (hN2 : N ≤ 65536) :
    Calls Try.prog 58 #[.slice A n c] w fun e w' => ∃ A1 c1 A2 c2, e = .returned (.tuple #[.agg #[.slice A1 n c1, .slice A2 N c2], .int .i64 0]) ∧ OwnI w' w.heap.size 3 A1 c1 xs ∧ OwnI w' w.heap.size 2 A2 c2 (List.replicate N 0) ∧ Below w.heap.size w w' := by
  have HC := fun W (hW : Ints W w.heap.size A n xs) => laid_any A n c xs W w.heap.size hW (by omega)
  rw [hN, he] at HC
  have HK := fun W (hW : Ints W w.heap.size A n xs) (hs : w.heap.size ≤ W.heap.size) => clone_any A n c xs W w.heap.size hW hs hn
  obtain ⟨i0, hi0, hz0, hz1, hz2⟩ := info_parts infoInt64
  have hmk := fun W => run_makeAll (P := Try.prog) 39 2 i0 Try.underlying39 hi0 hz0 hz1 hz2 N (by omega) W
  clear hN he
  go_enter Try.func58, Try.ntmps58
  go_wp2_with (go_at_call 82; refine (HC _ (h.alloc (Nat.le_refl _) _)).mono ?_; rintro e w' ⟨rfl, rfl⟩)
  go_region_with (go_at_call 61; refine (HK _ (by first | exact h.alloc (Nat.le_refl _) _ | exact (h.alloc (Nat.le_refl _) _).alloc (by simp) _) (by simp; try omega)).mono ?_; rintro e w1 ⟨A1, c1, rfl, HO, HB⟩; obtain ⟨hs1, k0, k1, f0, f1⟩ := zfacts HB)
  all_goals go_wp2
  · obtain ⟨e0, e1⟩ := zcells (a := .slice A1 n c1) (b := .slice (some ⟨w1.heap.size, 0, none⟩) N N) k0 k1
    have e2 := fun o => cellPast o e0
    have e3 := fun o => cellPast o e1
    refine bodyPost_ret (v := .tuple #[.agg #[.slice A1 n c1, .slice (some ⟨w1.heap.size, 0, none⟩) N N], .int .i64 0]) (by simp [results, Try.results58, go_sem, e2, e3]) rfl ⟨A1, c1, _, _, rfl, ?_, ?_, ?_⟩
    · exact (((HO.setBelow (a := ⟨w.heap.size, 0, none⟩) (by simp) _).setBelow (a := ⟨w.heap.size, 1, none⟩) (by simp) _).alloc _).mono (by simp)
    · have := own_made ((w1.setCell ⟨w.heap.size, 0, none⟩ (.slice A1 n c1)).setCell ⟨w.heap.size, 1, none⟩ (.slice (some ⟨w1.heap.size, 0, none⟩) N N)) 2 N w.heap.size (by simp; omega) (by omega)
      simpa using this
    · exact ((((((Below.refl _ w).alloc (Nat.le_refl _) _).drew).trans (HB.mono (by simp))).setCell (p := ⟨w.heap.size, 0, none⟩) (Nat.le_refl _) _).setCell (p := ⟨w.heap.size, 1, none⟩) (Nat.le_refl _) _).alloc (by simp; omega) _
  · obtain ⟨e0, e1⟩ := zcells (a := .slice A1 n c1) (b := .slice (some ⟨w.heap.size + 1, 0, none⟩) N N) k0 k1
    refine bodyPost_ret (v := .tuple #[.agg #[.slice A1 n c1, .slice (some ⟨w.heap.size + 1, 0, none⟩) N N], .int .i64 0]) (by simp [results, Try.results58, go_sem, e0, e1]) rfl ⟨A1, c1, _, _, rfl, ?_, ?_, ?_⟩
    · exact ((HO.setBelow (a := ⟨w.heap.size, 0, none⟩) (by simp; omega) _).setBelow (a := ⟨w.heap.size, 1, none⟩) (by simp; omega) _).mono (by simp; omega)
    · have := own_made (w.alloc (.cells #[.slice none 0 0, .slice none 0 0] 41)) 2 N (w.heap.size + 1) (by simp) (by omega)
      rw [World.size_alloc] at this
      exact (((this.drew.below HB (Nat.le_refl _)).setBelow (a := ⟨w.heap.size, 0, none⟩) (by simp) _).setBelow (a := ⟨w.heap.size, 1, none⟩) (by simp) _).mono (by omega)
    · exact ((((((Below.refl _ w).alloc (Nat.le_refl _) _).alloc (by simp) _).drew).trans (HB.mono (by simp; omega))).setCell (p := ⟨w.heap.size, 0, none⟩) (Nat.le_refl _) _).setCell (p := ⟨w.heap.size, 1, none⟩) (Nat.le_refl _) _
end Go.Proofs.Ytpjelcghlnmoeaa
