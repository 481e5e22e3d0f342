/- How the program follows ways through code: what it lays ahead. -/
import Derived.Test.YtmnadieblhdcpaaDoorG23
import Derived.Test.YtmnadieblhdcpaaDoorG16
namespace Go.Proofs.YtmnadieblhdcpaaDoor
open Go.RowKit

theorem info8z : (Tryd.prog.info? 60).map (fun i => (i.zero, i.size, i.bytes)) = some (some (.agg (arA noR)), 128, 128) := by kernel_rfl
theorem flat_noR (n : Nat) : (List.replicate n noR).flatten = List.replicate (n * 128) false := by
  unfold noR
  rw [List.flatten_replicate_replicate]
theorem run_make8 (n : Nat) (hn : n ≤ 100000) (w : World) :
    (Instr.makeSlice 55 (.int .i64 (n : Int)) (.int .i64 (n : Int))).run Tryd.prog w = .ok (.slice (some ⟨w.heap.size, 0, none⟩) n n) (w.alloc (.cells (arA (List.replicate n noR).flatten) 60)) := by
  obtain ⟨i, hi, hz, h1, h2⟩ := info_parts info8z
  have hr := run_make (P := Tryd.prog) w 55 60 i (.agg (arA noR)) Tryd.underlying55 hi hz .i64 .i64 n n (by omega) (by omega) (by rw [h2]; omega) (by omega)
  simp only [Int.toNat_natCast, h1] at hr
  have he : madeCells (Value.agg (arA noR)).cells (n * 128) = arA (List.replicate n noR).flatten := by
    show madeCells (arA noR) (n * 128) = _
    rw [flat_noR]
    unfold madeCells
    apply Array.ext
    · simp [arA_size]
    · intro k h1 h2
      have h8 : (arA noR).size = 128 := by rw [arA_size, noR_len]
      have hk : k % 128 < 128 := Nat.mod_lt _ (by decide)
      have hv : (arA noR)[k % 128]? = some (.bool false) := arA_at (by unfold noR; rw [List.getElem?_replicate, if_pos hk])
      simp only [Array.getElem_map, Array.getElem_range, h8]
      rw [getElem!_def, hv]
      simp [arA]
  rw [he] at hr
  exact hr
/-- marks and rows are laid, and boxes for them -/
structure MkJ (W : World) (n : Nat) (F : Nat → Value) (D : Nat → Bool) (vs : Nat → Value) (w' : World) : Prop where
  bel : Below W.heap.size W w'
  vals : ∀ i, i < 7 → i ≠ 3 → D i = true → vs i = F i
  m3 : D 3 = true → ∃ g, vs 3 = .slice (some ⟨g, 0, none⟩) n n ∧ W.heap.size ≤ g ∧ BoB w' g (List.replicate n false)
  m7 : D 7 = true → ∃ g, vs 7 = .slice (some ⟨g, 0, none⟩) n n ∧ W.heap.size ≤ g ∧ RwB w' g (List.replicate n noR)
  b8 : D 8 = true → ∃ g, vs 8 = .pointer (some ⟨g, 0, none⟩) ∧ W.heap.size ≤ g ∧ w'.heap[g]? = some (.cells #[if D 10 = true then vs 3 else .slice none 0 0] 27 (0, 0))
  b9 : D 9 = true → ∃ g, vs 9 = .pointer (some ⟨g, 0, none⟩) ∧ W.heap.size ≤ g ∧ w'.heap[g]? = some (.cells #[if D 11 = true then vs 7 else .slice none 0 0] 55 (0, 0))
  o10 : D 10 = true → D 3 = true ∧ D 8 = true
  o11 : D 11 = true → D 7 = true ∧ D 9 = true
section
variable {W w' w'' : World} {n : Nat} {F : Nat → Value} {D D' : Nat → Bool} {vs : Nat → Value}
/-- an operation that is none of the six: nothing new -/
theorem MkJ.other (h : MkJ W n F D vs w') {i : Nat} (hi : i ≠ 3 ∧ i ≠ 7 ∧ i ≠ 8 ∧ i ≠ 9 ∧ i ≠ 10 ∧ i ≠ 11) (hD : ∀ j, j ≠ i → D' j = D j) : MkJ W n F D' (fun j => if j = i then F i else vs j) w' := by
  obtain ⟨i3, i7, i8, i9, i10, i11⟩ := hi
  refine ⟨h.bel, fun j hj j3 hd => ?_, ?_, ?_, ?_, ?_, ?_, ?_⟩
  · by_cases e : j = i
    · subst e; exact if_pos rfl
    · show (if j = i then F i else vs j) = _
      rw [if_neg e]
      exact h.vals j hj j3 (by rw [← hD j e]; exact hd)
  · rw [hD 3 i3.symm, if_neg i3.symm]; exact h.m3
  · rw [hD 7 i7.symm, if_neg i7.symm]; exact h.m7
  · rw [hD 8 i8.symm, hD 10 i10.symm, if_neg i8.symm, if_neg i3.symm]; exact h.b8
  · rw [hD 9 i9.symm, hD 11 i11.symm, if_neg i9.symm, if_neg i7.symm]; exact h.b9
  · rw [hD 10 i10.symm, hD 3 i3.symm, hD 8 i8.symm]; exact h.o10
  · rw [hD 11 i11.symm, hD 7 i7.symm, hD 9 i9.symm]; exact h.o11
/-- a new block: which of the four it is -/
theorem MkJ.fresh (h : MkJ W n F D vs w') {i : Nat} {u : Value} {ob : Obj} (hi : i = 3 ∨ i = 7 ∨ i = 8 ∨ i = 9) (hDi : D i = false) (hD : ∀ j, j ≠ i → D' j = D j)
    (h3 : i = 3 → u = .slice (some ⟨w'.heap.size, 0, none⟩) n n ∧ BoB (w'.alloc ob) w'.heap.size (List.replicate n false))
    (h7 : i = 7 → u = .slice (some ⟨w'.heap.size, 0, none⟩) n n ∧ RwB (w'.alloc ob) w'.heap.size (List.replicate n noR))
    (h8 : i = 8 → u = .pointer (some ⟨w'.heap.size, 0, none⟩) ∧ (w'.alloc ob).heap[w'.heap.size]? = some (.cells #[.slice none 0 0] 27 (0, 0)))
    (h9 : i = 9 → u = .pointer (some ⟨w'.heap.size, 0, none⟩) ∧ (w'.alloc ob).heap[w'.heap.size]? = some (.cells #[.slice none 0 0] 55 (0, 0))) :
    MkJ W n F D' (fun j => if j = i then u else vs j) (w'.alloc ob) := by
  have hb : Below w'.heap.size w' (w'.alloc ob) := lvBelow w' ob
  have hsz := h.bel.size
  have n10 : i = 3 ∨ i = 8 → D 10 = false := by
    intro hh
    cases e : D 10 with
    | false => rfl
    | true =>
      obtain ⟨e3, e8⟩ := h.o10 e
      rcases hh with rfl | rfl
      · rw [e3] at hDi; cases hDi
      · rw [e8] at hDi; cases hDi
  have n11 : i = 7 ∨ i = 9 → D 11 = false := by
    intro hh
    cases e : D 11 with
    | false => rfl
    | true =>
      obtain ⟨e3, e8⟩ := h.o11 e
      rcases hh with rfl | rfl
      · rw [e3] at hDi; cases hDi
      · rw [e8] at hDi; cases hDi
  have k3 : i ≠ 3 → D' 3 = true → ∃ g, (if 3 = i then u else vs 3) = .slice (some ⟨g, 0, none⟩) n n ∧ W.heap.size ≤ g ∧ BoB (w'.alloc ob) g (List.replicate n false) := fun e hd => by
    rw [hD 3 e.symm] at hd
    obtain ⟨g, a1, a2, a3⟩ := h.m3 hd
    exact ⟨g, by rw [if_neg e.symm]; exact a1, a2, keep_b hb a3⟩
  have k7 : i ≠ 7 → D' 7 = true → ∃ g, (if 7 = i then u else vs 7) = .slice (some ⟨g, 0, none⟩) n n ∧ W.heap.size ≤ g ∧ RwB (w'.alloc ob) g (List.replicate n noR) := fun e hd => by
    rw [hD 7 e.symm] at hd
    obtain ⟨g, a1, a2, a3⟩ := h.m7 hd
    exact ⟨g, by rw [if_neg e.symm]; exact a1, a2, keep_b hb a3⟩
  have k8 : i ≠ 8 → D' 8 = true → ∃ g, (if 8 = i then u else vs 8) = .pointer (some ⟨g, 0, none⟩) ∧ W.heap.size ≤ g ∧ (w'.alloc ob).heap[g]? = some (.cells #[if D' 10 = true then (if 3 = i then u else vs 3) else .slice none 0 0] 27 (0, 0)) := fun e hd => by
    rw [hD 8 e.symm] at hd
    obtain ⟨g, a1, a2, a3⟩ := h.b8 hd
    refine ⟨g, by rw [if_neg e.symm]; exact a1, a2, ?_⟩
    rw [hD 10 (by omega)]
    by_cases e3 : i = 3
    · rw [n10 (.inl e3)] at a3 ⊢
      exact keep_b hb a3
    · rw [if_neg (Ne.symm e3)]
      exact keep_b hb a3
  have k9 : i ≠ 9 → D' 9 = true → ∃ g, (if 9 = i then u else vs 9) = .pointer (some ⟨g, 0, none⟩) ∧ W.heap.size ≤ g ∧ (w'.alloc ob).heap[g]? = some (.cells #[if D' 11 = true then (if 7 = i then u else vs 7) else .slice none 0 0] 55 (0, 0)) := fun e hd => by
    rw [hD 9 e.symm] at hd
    obtain ⟨g, a1, a2, a3⟩ := h.b9 hd
    refine ⟨g, by rw [if_neg e.symm]; exact a1, a2, ?_⟩
    rw [hD 11 (by omega)]
    by_cases e3 : i = 7
    · rw [n11 (.inl e3)] at a3 ⊢
      exact keep_b hb a3
    · rw [if_neg (Ne.symm e3)]
      exact keep_b hb a3
  refine ⟨h.bel.trans (hb.mono hsz), fun j hj j3 hd => ?_, fun hd => ?_, fun hd => ?_, fun hd => ?_, fun hd => ?_, fun hd => ?_, fun hd => ?_⟩
  · have e : j ≠ i := by omega
    show (if j = i then u else vs j) = _
    rw [if_neg e]
    exact h.vals j hj j3 (by rw [← hD j e]; exact hd)
  · by_cases e : i = 3
    · obtain ⟨a1, a2⟩ := h3 e
      exact ⟨_, by rw [if_pos e.symm]; exact a1, hsz, a2⟩
    · exact k3 e hd
  · by_cases e : i = 7
    · obtain ⟨a1, a2⟩ := h7 e
      exact ⟨_, by rw [if_pos e.symm]; exact a1, hsz, a2⟩
    · exact k7 e hd
  · by_cases e : i = 8
    · obtain ⟨a1, a2⟩ := h8 e
      refine ⟨_, by rw [if_pos e.symm]; exact a1, hsz, ?_⟩
      rw [hD 10 (by omega), n10 (.inr e)]
      exact a2
    · exact k8 e hd
  · by_cases e : i = 9
    · obtain ⟨a1, a2⟩ := h9 e
      refine ⟨_, by rw [if_pos e.symm]; exact a1, hsz, ?_⟩
      rw [hD 11 (by omega), n11 (.inr e)]
      exact a2
    · exact k9 e hd
  · rw [hD 10 (by omega)] at hd
    obtain ⟨e3, e8⟩ := h.o10 hd
    have x3 : i ≠ 3 := fun e => by rw [n10 (.inl e)] at hd; cases hd
    have x8 : i ≠ 8 := fun e => by rw [n10 (.inr e)] at hd; cases hd
    exact ⟨by rw [hD 3 x3.symm]; exact e3, by rw [hD 8 x8.symm]; exact e8⟩
  · rw [hD 11 (by omega)] at hd
    obtain ⟨e3, e8⟩ := h.o11 hd
    have x3 : i ≠ 7 := fun e => by rw [n11 (.inl e)] at hd; cases hd
    have x8 : i ≠ 9 := fun e => by rw [n11 (.inr e)] at hd; cases hd
    exact ⟨by rw [hD 7 x3.symm]; exact e3, by rw [hD 9 x8.symm]; exact e8⟩
theorem MkJ.put10 (h : MkJ W n F D vs w') (hDi : D 10 = false) (hD3 : D 3 = true) (hD8 : D 8 = true) {g : Nat} (hg : vs 8 = .pointer (some ⟨g, 0, none⟩)) (u : Value) (hD : ∀ j, j ≠ 10 → D' j = D j) (hDs : D' 10 = true) : MkJ W n F D' (fun j => if j = 10 then u else vs j) (w'.setCell ⟨g, 0, none⟩ (vs 3)) := by
  obtain ⟨g', a1, a2, a3⟩ := h.b8 hD8
  rw [hg] at a1
  injection a1 with a1; injection a1 with a1; injection a1 with a1
  subst a1
  rw [hDi, if_neg (show ¬(false = true) by decide)] at a3
  have hot : ∀ k, k ≠ g → (w'.setCell ⟨g, 0, none⟩ (vs 3)).heap[k]? = w'.heap[k]? := fun k hk => heap_setCell_other w' _ k _ hk
  refine ⟨h.bel.setCell (p := ⟨g, 0, none⟩) a2 _, fun j hj j3 hd => ?_, fun hd => ?_, fun hd => ?_, fun hd => ?_, fun hd => ?_, fun _ => ?_, fun hd => ?_⟩
  · have e : j ≠ 10 := by omega
    show (if j = 10 then u else vs j) = _
    rw [if_neg e]
    exact h.vals j hj j3 (by rw [← hD j e]; exact hd)
  · rw [hD 3 (by decide)] at hd
    obtain ⟨q, b1, b2, b3⟩ := h.m3 hd
    exact ⟨q, by rw [if_neg (by decide)]; exact b1, b2, (hot q (heap_ne b3 a3 (by decide))).trans b3⟩
  · rw [hD 7 (by decide)] at hd
    obtain ⟨q, b1, b2, b3⟩ := h.m7 hd
    exact ⟨q, by rw [if_neg (by decide)]; exact b1, b2, (hot q (heap_ne b3 a3 (by decide))).trans b3⟩
  · refine ⟨g, by rw [if_neg (by decide)]; exact hg, a2, ?_⟩
    have hst : (w'.setCell ⟨g, 0, none⟩ (vs 3)).heap[g]? = some (.cells #[vs 3] 27 (0, 0)) := by rw [heap_setCell_same w' g 0 _ _ _ a3]; rfl
    rw [hst]
    rw [if_pos hDs, if_neg (show ¬ (3 = 10) by decide)]
  · rw [hD 9 (by decide)] at hd
    obtain ⟨q, b1, b2, b3⟩ := h.b9 hd
    refine ⟨q, by rw [if_neg (by decide)]; exact b1, b2, ?_⟩
    rw [hD 11 (by decide)]
    exact (hot q (heap_ne b3 a3 (by decide))).trans b3
  · rw [hD 3 (by decide), hD 8 (by decide)]; exact ⟨hD3, hD8⟩
  · rw [hD 11 (by decide)] at hd
    rw [hD 7 (by decide), hD 9 (by decide)]
    exact h.o11 hd
theorem MkJ.put11 (h : MkJ W n F D vs w') (hDi : D 11 = false) (hD7 : D 7 = true) (hD9 : D 9 = true) {g : Nat} (hg : vs 9 = .pointer (some ⟨g, 0, none⟩)) (u : Value) (hD : ∀ j, j ≠ 11 → D' j = D j) (hDs : D' 11 = true) : MkJ W n F D' (fun j => if j = 11 then u else vs j) (w'.setCell ⟨g, 0, none⟩ (vs 7)) := by
  obtain ⟨g', a1, a2, a3⟩ := h.b9 hD9
  rw [hg] at a1
  injection a1 with a1; injection a1 with a1; injection a1 with a1
  subst a1
  rw [hDi, if_neg (show ¬(false = true) by decide)] at a3
  have hot : ∀ k, k ≠ g → (w'.setCell ⟨g, 0, none⟩ (vs 7)).heap[k]? = w'.heap[k]? := fun k hk => heap_setCell_other w' _ k _ hk
  refine ⟨h.bel.setCell (p := ⟨g, 0, none⟩) a2 _, fun j hj j3 hd => ?_, fun hd => ?_, fun hd => ?_, fun hd => ?_, fun hd => ?_, fun hd => ?_, fun _ => ?_⟩
  · have e : j ≠ 11 := by omega
    show (if j = 11 then u else vs j) = _
    rw [if_neg e]
    exact h.vals j hj j3 (by rw [← hD j e]; exact hd)
  · rw [hD 3 (by decide)] at hd
    obtain ⟨q, b1, b2, b3⟩ := h.m3 hd
    exact ⟨q, by rw [if_neg (by decide)]; exact b1, b2, (hot q (heap_ne b3 a3 (by decide))).trans b3⟩
  · rw [hD 7 (by decide)] at hd
    obtain ⟨q, b1, b2, b3⟩ := h.m7 hd
    exact ⟨q, by rw [if_neg (by decide)]; exact b1, b2, (hot q (heap_ne b3 a3 (by decide))).trans b3⟩
  · rw [hD 8 (by decide)] at hd
    obtain ⟨q, b1, b2, b3⟩ := h.b8 hd
    refine ⟨q, by rw [if_neg (by decide)]; exact b1, b2, ?_⟩
    rw [hD 10 (by decide)]
    exact (hot q (heap_ne b3 a3 (by decide))).trans b3
  · refine ⟨g, by rw [if_neg (by decide)]; exact hg, a2, ?_⟩
    have hst : (w'.setCell ⟨g, 0, none⟩ (vs 7)).heap[g]? = some (.cells #[vs 7] 55 (0, 0)) := by rw [heap_setCell_same w' g 0 _ _ _ a3]; rfl
    rw [hst]
    rw [if_pos hDs, if_neg (show ¬ (7 = 11) by decide)]
  · rw [hD 10 (by decide)] at hd
    rw [hD 3 (by decide), hD 8 (by decide)]
    exact h.o10 hd
  · rw [hD 7 (by decide), hD 9 (by decide)]; exact ⟨hD7, hD9⟩
theorem MkJ.same (h : MkJ W n F D vs w') (hD : ∀ i, i < 12 → D i = D' i) : MkJ W n F D' vs w' := by
  refine ⟨h.bel, fun j hj j3 hd => h.vals j hj j3 (by rw [hD j (by omega)]; exact hd), ?_, ?_, ?_, ?_, ?_, ?_⟩
  · rw [← hD 3 (by decide)]; exact h.m3
  · rw [← hD 7 (by decide)]; exact h.m7
  · rw [← hD 8 (by decide), ← hD 10 (by decide)]; exact h.b8
  · rw [← hD 9 (by decide), ← hD 11 (by decide)]; exact h.b9
  · rw [← hD 10 (by decide), ← hD 3 (by decide), ← hD 8 (by decide)]; exact h.o10
  · rw [← hD 11 (by decide), ← hD 7 (by decide), ← hD 9 (by decide)]; exact h.o11
end
theorem take_own {w : World} {base c : Nat} {e : TypeId} {A : Option Addr} {xs : List Int} (h : OwnI w base e A c xs) (h0 : 0 < xs.length) (m : Nat) (hm : m ≤ xs.length) : OwnI w base e A c (xs.take m) := by
  refine ⟨⟨by simp, ?_⟩, fun x hx => h.2 x (List.mem_of_mem_take hx)⟩
  rcases h.1.2 with ⟨h1, h2⟩ | ⟨q, cap, cur, h1, h2, h3, h4, h5, h6, h7⟩
  · omega
  · injection h1 with h1 _ h1c
    have hl : (xs.take m).length = m := by rw [List.length_take]; omega
    refine .inr ⟨q, cap, cur, by rw [h1, h1c], h2, h3, by rw [hl]; omega, h5, h6, ?_⟩
    rw [hl, List.map_take, ← h7, List.take_take, Nat.mul_one, Nat.mul_one, Nat.min_eq_left hm]
theorem run_takeI {w : World} {A : Option Addr} {n c k : Nat} (hk : k ≤ n) (hc : n ≤ c) : (Instr.slice 34 (.slice A n c) none (some (.int .i64 (k : Int))) none).run Tryd.prog w = .ok (.slice A k c) w := by
  obtain ⟨i0, hi0, hz0, hz1, hz2⟩ := info_parts infoInt
  rw [run_slice_h w 34 A n c (by kernel_rfl) .i64 (k : Int) (by omega) (by omega)]
  have hs : (sizeOf (Tryd.prog.elem 34)).run Tryd.prog w = .ok 1 w := by
    have he : Tryd.prog.elem 34 = 3 := by kernel_rfl
    rw [he]; simp [sizeOf, typeInfo, hi0, hz1]
  simp only [Result.andThen, sliced, hs, Int.toNat_natCast, Nat.zero_mul, Nat.sub_zero]
  have : (if c = 0 then A else A.map (·.add 0)) = A := by
    split
    · rfl
    · cases A <;> simp [Addr.add]
  rw [this]
theorem below_dF {B : Nat} {w W : World} (h : Below B w W) (m : Nat) : Below B w (W.drewN m) := ⟨h.os, h.tape, h.output, h.size, h.block⟩
/-- where follow's variables lie, beside what came in -/
structure FolO (q : Cq) (w : World) (b : FolB) (W : World) : Prop where
  bel : Below w.heap.size w W
  bx : W.heap[w.heap.size]? = some q.obj
  lo : w.heap.size < b.bR ∧ w.heap.size < b.bA ∧ w.heap.size < b.bO ∧ w.heap.size < b.gR ∧ w.heap.size < b.gA ∧ w.heap.size < b.base
theorem FolO.on {q : Cq} {w W W' : World} {b : FolB} (h : FolO q w b W) (hb : Below W.heap.size W W') : FolO q w b W' := ⟨h.bel.trans (hb.mono h.bel.size), keep_b hb h.bx, h.lo⟩
/-- a block that a step keeps -/
theorem KeptF.at_ {b : FolB} {A : Option Addr} {w w' : World} (h : KeptF b A w w') {k : Nat} {ob : Obj} (hk : w.heap[k]? = some ob) (h1 : k ≠ b.gR) (h2 : k ≠ b.gA) (h3 : k ≠ b.bO) (h4 : ∀ g, A = some ⟨g, 0, none⟩ → k ≠ g) : w'.heap[k]? = some ob :=
  (h.blk k (lt_of_heap hk) h1 h2 h3 h4).trans hk
theorem FolO.kept {q : Cq} {w W W' : World} {b : FolB} {A : Option Addr} {c : Nat} {xs : List Int} (h : FolO q w b W) (hO : OwnI W b.base 3 A c xs) (hk : KeptF b A W W') : FolO q w b W' := by
  obtain ⟨l1, l2, l3, l4, l5, l6⟩ := h.lo
  have hA : ∀ g, A = some ⟨g, 0, none⟩ → b.base ≤ g := fun g e => by
    rw [e] at hO
    exact hO.ltL.1
  have hk2 : ∀ k, k ≤ w.heap.size → W'.heap[k]? = W.heap[k]? := fun k hk3 => hk.blk k (by have := lt_of_heap h.bx; omega) (by omega) (by omega) (by omega) fun g e => by
    have := hA g e
    omega
  exact ⟨⟨hk.os.trans h.bel.os, hk.tape.trans h.bel.tape, hk.output.trans h.bel.output, Nat.le_trans h.bel.size hk.size, fun k hk3 => (hk2 k (by omega)).trans (h.bel.block k hk3)⟩, (hk2 _ (Nat.le_refl _)).trans h.bx, h.lo⟩
/-- one is taken off the pile -/
theorem FolW.pop {b : FolB} {W : World} {o : List Bool} {rows : List (List Bool)} {A : Option Addr} {c i p : Nat} {op : List Nat} (h : FolW b W o rows A c (op ++ [i])) (hp : op.length = p) : FolW b (W.setCell ⟨b.bO, 0, none⟩ (.slice A p c)) o rows A c op ∧ KeptF b A W (W.setCell ⟨b.bO, 0, none⟩ (.slice A p c)) := by
  subst hp
  obtain ⟨n1, n2, n3, n4, n5, n6, n7, n8, n9⟩ := h.ne
  have hot : ∀ k, k ≠ b.bO → (W.setCell ⟨b.bO, 0, none⟩ (.slice A op.length c)).heap[k]? = W.heap[k]? := fun k hk => heap_setCell_other W _ k _ hk
  have hst : (W.setCell ⟨b.bO, 0, none⟩ (.slice A op.length c)).heap[b.bO]? = some (.cells #[.slice A op.length c] 34 (0, 0)) := by rw [heap_setCell_same W b.bO 0 _ _ _ h.hbO]; rfl
  have hl : (opI (op ++ [i])).length = op.length + 1 := by rw [opI_len, List.length_append]; rfl
  have hO : OwnI W b.base 3 A c (opI op) := by
    have := take_own h.own (by omega) op.length (by omega)
    rwa [opI_app, List.take_append_of_le_length (by rw [opI_len]; exact Nat.le_refl _), List.take_of_length_le (by rw [opI_len]; exact Nat.le_refl _)] at this
  refine ⟨⟨(hot _ n8.symm).trans h.hbR, (hot _ n9.symm).trans h.hbA, hst, (hot _ n6.symm).trans h.mR, (hot _ n7.symm).trans h.mA, hO.far h.lt.2.2.1 0 _, h.lt, by rw [World.size_setCell]; exact h.sz⟩, ⟨rfl, rfl, rfl, by rw [World.size_setCell]; exact Nat.le_refl _, fun k _ _ _ h3 _ => hot k h3⟩⟩
/-- values that are told, and a box that is laid, and then stored to -/
structure BoxF (W0 : World) (N p s : Nat) (F : Nat → Value) (z st : Obj) (D : Nat → Bool) (vs : Nat → Value) (w' : World) : Prop where
  bel : Below W0.heap.size W0 w'
  vals : ∀ i, i < N → i ≠ p → i ≠ s → D i = true → vs i = F i
  sp : D s = true → D p = true
  box : D p = true → ∃ g, vs p = .pointer (some ⟨g, 0, none⟩) ∧ W0.heap.size ≤ g ∧ w'.heap[g]? = some (if D s then st else z)
section
variable {W0 w' w'' : World} {N p s : Nat} {F : Nat → Value} {z st : Obj} {D D' : Nat → Bool} {vs : Nat → Value}
theorem BoxF.step (h : BoxF W0 N p s F z st D vs w') {i : Nat} (hp : i ≠ p) (hs : i ≠ s) (hb : Below w'.heap.size w' w'') (hD : ∀ j, j ≠ i → D' j = D j) : BoxF W0 N p s F z st D' (fun j => if j = i then F i else vs j) w'' := by
  refine ⟨h.bel.trans (hb.mono h.bel.size), fun j hj jp js hd => ?_, fun hd => ?_, fun hd => ?_⟩
  · by_cases e : j = i
    · subst e; exact if_pos rfl
    · show (if j = i then F i else vs j) = _
      rw [if_neg e]
      exact h.vals j hj jp js (by rw [← hD j e]; exact hd)
  · rw [hD s (Ne.symm hs)] at hd
    rw [hD p (Ne.symm hp)]
    exact h.sp hd
  · rw [hD p (Ne.symm hp)] at hd
    obtain ⟨g, h1, h2, h3⟩ := h.box hd
    refine ⟨g, ?_, h2, ?_⟩
    · show (if p = i then F i else vs p) = _
      rw [if_neg (Ne.symm hp)]; exact h1
    · rw [hD s (Ne.symm hs)]
      exact keep_b hb h3
theorem BoxF.alloc_ (h : BoxF W0 N p s F z st D vs w') (hps : p ≠ s) (hDp : D p = false) {cs : Array Value} {t : TypeId} (hz : z = .cells cs t (0, 0)) (hD : ∀ j, j ≠ p → D' j = D j) : BoxF W0 N p s F z st D' (fun j => if j = p then .pointer (some ⟨w'.heap.size, 0, none⟩) else vs j) (w'.alloc (.cells cs t)) := by
  have hs0 : D s = false := by
    cases e : D s
    · rfl
    · rw [h.sp e] at hDp; cases hDp
  refine ⟨h.bel.alloc h.bel.size _, fun j hj jp js hd => ?_, fun hd => ?_, fun _ => ⟨w'.heap.size, if_pos rfl, h.bel.size, ?_⟩⟩
  · show (if j = p then _ else vs j) = _
    rw [if_neg jp]
    exact h.vals j hj jp js (by rw [← hD j jp]; exact hd)
  · rw [hD s (Ne.symm hps), hs0] at hd; cases hd
  · rw [hD s (Ne.symm hps), hs0, hz]
    exact heap_alloc_new w' _
theorem BoxF.store_ (h : BoxF W0 N p s F z st D vs w') (hps : p ≠ s) (hDp : D p = true) {g : Nat} (hg : vs p = .pointer (some ⟨g, 0, none⟩)) (u : Value) (hb : W0.heap.size ≤ g → Below W0.heap.size W0 w' → Below W0.heap.size W0 w'') (hst : w''.heap[g]? = some st) (hD : ∀ j, j ≠ s → D' j = D j) (hDs : D' s = true) : BoxF W0 N p s F z st D' (fun j => if j = s then u else vs j) w'' := by
  obtain ⟨g2, h1, h2, h3⟩ := h.box hDp
  rw [hg] at h1
  injection h1 with h1; injection h1 with h1; injection h1 with h1
  subst h1
  refine ⟨hb h2 h.bel, fun j hj jp js hd => ?_, fun _ => by rw [hD p hps]; exact hDp, fun _ => ⟨g, ?_, h2, ?_⟩⟩
  · show (if j = s then u else vs j) = _
    rw [if_neg js]
    exact h.vals j hj jp js (by rw [← hD j js]; exact hd)
  · show (if p = s then u else vs p) = _
    rw [if_neg hps]; exact hg
  · rw [hDs, if_pos rfl]; exact hst
theorem BoxF.same (h : BoxF W0 N p s F z st D vs w') (hp : p < N) (hs : s < N) (hD : ∀ i, i < N → D i = D' i) : BoxF W0 N p s F z st D' vs w' := by
  refine ⟨h.bel, fun j hj jp js hd => h.vals j hj jp js (by rw [hD j hj]; exact hd), fun hd => ?_, fun hd => ?_⟩
  · rw [← hD s hs] at hd; rw [← hD p hp]; exact h.sp hd
  · rw [← hD p hp] at hd; rw [← hD s hs]; exact h.box hd
end
end Go.Proofs.YtmnadieblhdcpaaDoor
