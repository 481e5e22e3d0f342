/- How the program follows ways through code: what it lays ahead. -/
import Derived.Test.YtgkngimeokhhgaaGreatDoorG20
namespace Go.Proofs.YtgkngimeokhhgaaGreatDoor
open Go.RowKit

set_option maxRecDepth 100000 in
theorem info8z : (Tryz.prog.info? 116).map (fun i => (i.zero, i.size, i.bytes)) = some (some (.agg (arA noR)), 128, 128) := by kernel_rfl
theorem flat_noR (n : Nat) : (List.replicate n noR).flatten = List.replicate (n * 128) false := by
  unfold noR
  rw [List.flatten_replicate_replicate]
theorem run_make8 (n : Nat) (hn : n ≤ 100000) (w : World) :
    (Instr.makeSlice 109 (.int .i64 (n : Int)) (.int .i64 (n : Int))).run Tryz.prog w = .ok (.slice (some ⟨w.heap.size, 0, none⟩) n n) (w.alloc (.cells (arA (List.replicate n noR).flatten) 116)) := by
  obtain ⟨i, hi, hz, h1, h2⟩ := info_parts info8z
  have hr := run_make (P := Tryz.prog) w 109 116 i (.agg (arA noR)) Tryz.underlying109 hi hz .i64 .i64 n n (by omega) (by omega) (by rw [h2]; omega) (by omega)
  simp only [Int.toNat_natCast, h1] at hr
  have he : madeCells (Value.agg (arA noR)).cells (n * 128) = arA (List.replicate n noR).flatten := by
    show madeCells (arA noR) (n * 128) = _
    rw [flat_noR]
    unfold madeCells
    apply Array.ext
    · simp [arA_size]
    · intro k h1 h2
      have h8 : (arA noR).size = 128 := by rw [arA_size, noR_len]
      have hk : k % 128 < 128 := Nat.mod_lt _ (by decide)
      have hv : (arA noR)[k % 128]? = some (.bool false) := arA_at (by unfold noR; rw [List.getElem?_replicate, if_pos hk])
      simp only [Array.getElem_map, Array.getElem_range, h8]
      rw [getElem!_def, hv]
      simp [arA]
  rw [he] at hr
  exact hr
/-- marks and rows are laid, and boxes for them -/
structure MkJ (W : World) (n : Nat) (F : Nat → Value) (D : Nat → Bool) (vs : Nat → Value) (w' : World) : Prop where
  bel : Below W.heap.size W w'
  vals : ∀ i, i < 7 → i ≠ 3 → D i = true → vs i = F i
  m3 : D 3 = true → ∃ g, vs 3 = .slice (some ⟨g, 0, none⟩) n n ∧ W.heap.size ≤ g ∧ BoB w' g (List.replicate n false)
  m7 : D 7 = true → ∃ g, vs 7 = .slice (some ⟨g, 0, none⟩) n n ∧ W.heap.size ≤ g ∧ RwB w' g (List.replicate n noR)
  b8 : D 8 = true → ∃ g, vs 8 = .pointer (some ⟨g, 0, none⟩) ∧ W.heap.size ≤ g ∧ w'.heap[g]? = some (.cells #[if D 10 = true then vs 3 else .slice none 0 0] 108 (0, 0))
  b9 : D 9 = true → ∃ g, vs 9 = .pointer (some ⟨g, 0, none⟩) ∧ W.heap.size ≤ g ∧ w'.heap[g]? = some (.cells #[if D 11 = true then vs 7 else .slice none 0 0] 109 (0, 0))
  o10 : D 10 = true → D 3 = true ∧ D 8 = true
  o11 : D 11 = true → D 7 = true ∧ D 9 = true
section
variable {W w' w'' : World} {n : Nat} {F : Nat → Value} {D D' : Nat → Bool} {vs : Nat → Value}
/-- an operation that is none of the six: nothing new -/
theorem MkJ.other (h : MkJ W n F D vs w') {i : Nat} (hi : i ≠ 3 ∧ i ≠ 7 ∧ i ≠ 8 ∧ i ≠ 9 ∧ i ≠ 10 ∧ i ≠ 11) (hD : ∀ j, j ≠ i → D' j = D j) : MkJ W n F D' (fun j => if j = i then F i else vs j) w' := by
  obtain ⟨i3, i7, i8, i9, i10, i11⟩ := hi
  refine ⟨h.bel, fun j hj j3 hd => ?_, ?_, ?_, ?_, ?_, ?_, ?_⟩
  · by_cases e : j = i
    · subst e; exact if_pos rfl
    · show (if j = i then F i else vs j) = _
      rw [if_neg e]
      exact h.vals j hj j3 (by rw [← hD j e]; exact hd)
  · rw [hD 3 i3.symm, if_neg i3.symm]; exact h.m3
  · rw [hD 7 i7.symm, if_neg i7.symm]; exact h.m7
  · rw [hD 8 i8.symm, hD 10 i10.symm, if_neg i8.symm, if_neg i3.symm]; exact h.b8
  · rw [hD 9 i9.symm, hD 11 i11.symm, if_neg i9.symm, if_neg i7.symm]; exact h.b9
  · rw [hD 10 i10.symm, hD 3 i3.symm, hD 8 i8.symm]; exact h.o10
  · rw [hD 11 i11.symm, hD 7 i7.symm, hD 9 i9.symm]; exact h.o11
/-- a new block: which of the four it is -/
theorem MkJ.fresh (h : MkJ W n F D vs w') {i : Nat} {u : Value} {ob : Obj} (hi : i = 3 ∨ i = 7 ∨ i = 8 ∨ i = 9) (hDi : D i = false) (hD : ∀ j, j ≠ i → D' j = D j)
    (h3 : i = 3 → u = .slice (some ⟨w'.heap.size, 0, none⟩) n n ∧ BoB (w'.alloc ob) w'.heap.size (List.replicate n false))
    (h7 : i = 7 → u = .slice (some ⟨w'.heap.size, 0, none⟩) n n ∧ RwB (w'.alloc ob) w'.heap.size (List.replicate n noR))
    (h8 : i = 8 → u = .pointer (some ⟨w'.heap.size, 0, none⟩) ∧ (w'.alloc ob).heap[w'.heap.size]? = some (.cells #[.slice none 0 0] 108 (0, 0)))
    (h9 : i = 9 → u = .pointer (some ⟨w'.heap.size, 0, none⟩) ∧ (w'.alloc ob).heap[w'.heap.size]? = some (.cells #[.slice none 0 0] 109 (0, 0))) :
    MkJ W n F D' (fun j => if j = i then u else vs j) (w'.alloc ob) := by
  have hb : Below w'.heap.size w' (w'.alloc ob) := lvBelow w' ob
  have hsz := h.bel.size
  have n10 : i = 3 ∨ i = 8 → D 10 = false := by
    intro hh
    cases e : D 10 with
    | false => rfl
    | true =>
      obtain ⟨e3, e8⟩ := h.o10 e
      rcases hh with rfl | rfl
      · rw [e3] at hDi; cases hDi
      · rw [e8] at hDi; cases hDi
  have n11 : i = 7 ∨ i = 9 → D 11 = false := by
    intro hh
    cases e : D 11 with
    | false => rfl
    | true =>
      obtain ⟨e3, e8⟩ := h.o11 e
      rcases hh with rfl | rfl
      · rw [e3] at hDi; cases hDi
      · rw [e8] at hDi; cases hDi
  have k3 : i ≠ 3 → D' 3 = true → ∃ g, (if 3 = i then u else vs 3) = .slice (some ⟨g, 0, none⟩) n n ∧ W.heap.size ≤ g ∧ BoB (w'.alloc ob) g (List.replicate n false) := fun e hd => by
    rw [hD 3 e.symm] at hd
    obtain ⟨g, a1, a2, a3⟩ := h.m3 hd
    exact ⟨g, by rw [if_neg e.symm]; exact a1, a2, keep_b hb a3⟩
  have k7 : i ≠ 7 → D' 7 = true → ∃ g, (if 7 = i then u else vs 7) = .slice (some ⟨g, 0, none⟩) n n ∧ W.heap.size ≤ g ∧ RwB (w'.alloc ob) g (List.replicate n noR) := fun e hd => by
    rw [hD 7 e.symm] at hd
    obtain ⟨g, a1, a2, a3⟩ := h.m7 hd
    exact ⟨g, by rw [if_neg e.symm]; exact a1, a2, keep_b hb a3⟩
  have k8 : i ≠ 8 → D' 8 = true → ∃ g, (if 8 = i then u else vs 8) = .pointer (some ⟨g, 0, none⟩) ∧ W.heap.size ≤ g ∧ (w'.alloc ob).heap[g]? = some (.cells #[if D' 10 = true then (if 3 = i then u else vs 3) else .slice none 0 0] 108 (0, 0)) := fun e hd => by
    rw [hD 8 e.symm] at hd
    obtain ⟨g, a1, a2, a3⟩ := h.b8 hd
    refine ⟨g, by rw [if_neg e.symm]; exact a1, a2, ?_⟩
    rw [hD 10 (by omega)]
    by_cases e3 : i = 3
    · rw [n10 (.inl e3)] at a3 ⊢
      exact keep_b hb a3
    · rw [if_neg (Ne.symm e3)]
      exact keep_b hb a3
  have k9 : i ≠ 9 → D' 9 = true → ∃ g, (if 9 = i then u else vs 9) = .pointer (some ⟨g, 0, none⟩) ∧ W.heap.size ≤ g ∧ (w'.alloc ob).heap[g]? = some (.cells #[if D' 11 = true then (if 7 = i then u else vs 7) else .slice none 0 0] 109 (0, 0)) := fun e hd => by
    rw [hD 9 e.symm] at hd
    obtain ⟨g, a1, a2, a3⟩ := h.b9 hd
    refine ⟨g, by rw [if_neg e.symm]; exact a1, a2, ?_⟩
    rw [hD 11 (by omega)]
    by_cases e3 : i = 7
    · rw [n11 (.inl e3)] at a3 ⊢
      exact keep_b hb a3
    · rw [if_neg (Ne.symm e3)]
      exact keep_b hb a3
  refine ⟨h.bel.trans (hb.mono hsz), fun j hj j3 hd => ?_, fun hd => ?_, fun hd => ?_, fun hd => ?_, fun hd => ?_, fun hd => ?_, fun hd => ?_⟩
  · have e : j ≠ i := by omega
    show (if j = i then u else vs j) = _
    rw [if_neg e]
    exact h.vals j hj j3 (by rw [← hD j e]; exact hd)
  · by_cases e : i = 3
    · obtain ⟨a1, a2⟩ := h3 e
      exact ⟨_, by rw [if_pos e.symm]; exact a1, hsz, a2⟩
    · exact k3 e hd
  · by_cases e : i = 7
    · obtain ⟨a1, a2⟩ := h7 e
      exact ⟨_, by rw [if_pos e.symm]; exact a1, hsz, a2⟩
    · exact k7 e hd
  · by_cases e : i = 8
    · obtain ⟨a1, a2⟩ := h8 e
      refine ⟨_, by rw [if_pos e.symm]; exact a1, hsz, ?_⟩
      rw [hD 10 (by omega), n10 (.inr e)]
      exact a2
    · exact k8 e hd
  · by_cases e : i = 9
    · obtain ⟨a1, a2⟩ := h9 e
      refine ⟨_, by rw [if_pos e.symm]; exact a1, hsz, ?_⟩
      rw [hD 11 (by omega), n11 (.inr e)]
      exact a2
    · exact k9 e hd
  · rw [hD 10 (by omega)] at hd
    obtain ⟨e3, e8⟩ := h.o10 hd
    have x3 : i ≠ 3 := fun e => by rw [n10 (.inl e)] at hd; cases hd
    have x8 : i ≠ 8 := fun e => by rw [n10 (.inr e)] at hd; cases hd
    exact ⟨by rw [hD 3 x3.symm]; exact e3, by rw [hD 8 x8.symm]; exact e8⟩
  · rw [hD 11 (by omega)] at hd
    obtain ⟨e3, e8⟩ := h.o11 hd
    have x3 : i ≠ 7 := fun e => by rw [n11 (.inl e)] at hd; cases hd
    have x8 : i ≠ 9 := fun e => by rw [n11 (.inr e)] at hd; cases hd
    exact ⟨by rw [hD 7 x3.symm]; exact e3, by rw [hD 9 x8.symm]; exact e8⟩
theorem MkJ.put10 (h : MkJ W n F D vs w') (hDi : D 10 = false) (hD3 : D 3 = true) (hD8 : D 8 = true) {g : Nat} (hg : vs 8 = .pointer (some ⟨g, 0, none⟩)) (u : Value) (hD : ∀ j, j ≠ 10 → D' j = D j) (hDs : D' 10 = true) : MkJ W n F D' (fun j => if j = 10 then u else vs j) (w'.setCell ⟨g, 0, none⟩ (vs 3)) := by
  obtain ⟨g', a1, a2, a3⟩ := h.b8 hD8
  rw [hg] at a1
  injection a1 with a1; injection a1 with a1; injection a1 with a1
  subst a1
  rw [hDi, if_neg (show ¬(false = true) by decide)] at a3
  have hot : ∀ k, k ≠ g → (w'.setCell ⟨g, 0, none⟩ (vs 3)).heap[k]? = w'.heap[k]? := fun k hk => heap_setCell_other w' _ k _ hk
  refine ⟨h.bel.setCell (p := ⟨g, 0, none⟩) a2 _, fun j hj j3 hd => ?_, fun hd => ?_, fun hd => ?_, fun hd => ?_, fun hd => ?_, fun _ => ?_, fun hd => ?_⟩
  · have e : j ≠ 10 := by omega
    show (if j = 10 then u else vs j) = _
    rw [if_neg e]
    exact h.vals j hj j3 (by rw [← hD j e]; exact hd)
  · rw [hD 3 (by decide)] at hd
    obtain ⟨q, b1, b2, b3⟩ := h.m3 hd
    exact ⟨q, by rw [if_neg (by decide)]; exact b1, b2, (hot q (heap_ne b3 a3 (by decide))).trans b3⟩
  · rw [hD 7 (by decide)] at hd
    obtain ⟨q, b1, b2, b3⟩ := h.m7 hd
    exact ⟨q, by rw [if_neg (by decide)]; exact b1, b2, (hot q (heap_ne b3 a3 (by decide))).trans b3⟩
  · refine ⟨g, by rw [if_neg (by decide)]; exact hg, a2, ?_⟩
    have hst : (w'.setCell ⟨g, 0, none⟩ (vs 3)).heap[g]? = some (.cells #[vs 3] 108 (0, 0)) := by rw [heap_setCell_same w' g 0 _ _ _ a3]; rfl
    rw [hst]
    rw [if_pos hDs, if_neg (show ¬ (3 = 10) by decide)]
  · rw [hD 9 (by decide)] at hd
    obtain ⟨q, b1, b2, b3⟩ := h.b9 hd
    refine ⟨q, by rw [if_neg (by decide)]; exact b1, b2, ?_⟩
    rw [hD 11 (by decide)]
    exact (hot q (heap_ne b3 a3 (by decide))).trans b3
  · rw [hD 3 (by decide), hD 8 (by decide)]; exact ⟨hD3, hD8⟩
  · rw [hD 11 (by decide)] at hd
    rw [hD 7 (by decide), hD 9 (by decide)]
    exact h.o11 hd
theorem MkJ.put11 (h : MkJ W n F D vs w') (hDi : D 11 = false) (hD7 : D 7 = true) (hD9 : D 9 = true) {g : Nat} (hg : vs 9 = .pointer (some ⟨g, 0, none⟩)) (u : Value) (hD : ∀ j, j ≠ 11 → D' j = D j) (hDs : D' 11 = true) : MkJ W n F D' (fun j => if j = 11 then u else vs j) (w'.setCell ⟨g, 0, none⟩ (vs 7)) := by
  obtain ⟨g', a1, a2, a3⟩ := h.b9 hD9
  rw [hg] at a1
  injection a1 with a1; injection a1 with a1; injection a1 with a1
  subst a1
  rw [hDi, if_neg (show ¬(false = true) by decide)] at a3
  have hot : ∀ k, k ≠ g → (w'.setCell ⟨g, 0, none⟩ (vs 7)).heap[k]? = w'.heap[k]? := fun k hk => heap_setCell_other w' _ k _ hk
  refine ⟨h.bel.setCell (p := ⟨g, 0, none⟩) a2 _, fun j hj j3 hd => ?_, fun hd => ?_, fun hd => ?_, fun hd => ?_, fun hd => ?_, fun hd => ?_, fun _ => ?_⟩
  · have e : j ≠ 11 := by omega
    show (if j = 11 then u else vs j) = _
    rw [if_neg e]
    exact h.vals j hj j3 (by rw [← hD j e]; exact hd)
  · rw [hD 3 (by decide)] at hd
    obtain ⟨q, b1, b2, b3⟩ := h.m3 hd
    exact ⟨q, by rw [if_neg (by decide)]; exact b1, b2, (hot q (heap_ne b3 a3 (by decide))).trans b3⟩
  · rw [hD 7 (by decide)] at hd
    obtain ⟨q, b1, b2, b3⟩ := h.m7 hd
    exact ⟨q, by rw [if_neg (by decide)]; exact b1, b2, (hot q (heap_ne b3 a3 (by decide))).trans b3⟩
  · rw [hD 8 (by decide)] at hd
    obtain ⟨q, b1, b2, b3⟩ := h.b8 hd
    refine ⟨q, by rw [if_neg (by decide)]; exact b1, b2, ?_⟩
    rw [hD 10 (by decide)]
    exact (hot q (heap_ne b3 a3 (by decide))).trans b3
  · refine ⟨g, by rw [if_neg (by decide)]; exact hg, a2, ?_⟩
    have hst : (w'.setCell ⟨g, 0, none⟩ (vs 7)).heap[g]? = some (.cells #[vs 7] 109 (0, 0)) := by rw [heap_setCell_same w' g 0 _ _ _ a3]; rfl
    rw [hst]
    rw [if_pos hDs, if_neg (show ¬ (7 = 11) by decide)]
  · rw [hD 10 (by decide)] at hd
    rw [hD 3 (by decide), hD 8 (by decide)]
    exact h.o10 hd
  · rw [hD 7 (by decide), hD 9 (by decide)]; exact ⟨hD7, hD9⟩
theorem MkJ.same (h : MkJ W n F D vs w') (hD : ∀ i, i < 12 → D i = D' i) : MkJ W n F D' vs w' := by
  refine ⟨h.bel, fun j hj j3 hd => h.vals j hj j3 (by rw [hD j (by omega)]; exact hd), ?_, ?_, ?_, ?_, ?_, ?_⟩
  · rw [← hD 3 (by decide)]; exact h.m3
  · rw [← hD 7 (by decide)]; exact h.m7
  · rw [← hD 8 (by decide), ← hD 10 (by decide)]; exact h.b8
  · rw [← hD 9 (by decide), ← hD 11 (by decide)]; exact h.b9
  · rw [← hD 10 (by decide), ← hD 3 (by decide), ← hD 8 (by decide)]; exact h.o10
  · rw [← hD 11 (by decide), ← hD 7 (by decide), ← hD 9 (by decide)]; exact h.o11
end
theorem take_own {w : World} {base c : Nat} {e : TypeId} {A : Option Addr} {xs : List Int} (h : OwnI w base e A c xs) (h0 : 0 < xs.length) (m : Nat) (hm : m ≤ xs.length) : OwnI w base e A c (xs.take m) := by
  refine ⟨⟨by simp, ?_⟩, fun x hx => h.2 x (List.mem_of_mem_take hx)⟩
  rcases h.1.2 with ⟨h1, h2⟩ | ⟨q, cap, cur, h1, h2, h3, h4, h5, h6, h7⟩
  · omega
  · injection h1 with h1 _ h1c
    have hl : (xs.take m).length = m := by rw [List.length_take]; omega
    refine .inr ⟨q, cap, cur, by rw [h1, h1c], h2, h3, by rw [hl]; omega, h5, h6, ?_⟩
    rw [hl, List.map_take, ← h7, List.take_take, Nat.mul_one, Nat.mul_one, Nat.min_eq_left hm]
set_option maxRecDepth 100000 in
theorem run_takeI {w : World} {A : Option Addr} {n c k : Nat} (hk : k ≤ n) (hc : n ≤ c) : (Instr.slice 36 (.slice A n c) none (some (.int .i64 (k : Int))) none).run Tryz.prog w = .ok (.slice A k c) w := by
  obtain ⟨i0, hi0, hz0, hz1, hz2⟩ := info_parts infoInt
  rw [run_slice_h w 36 A n c (by kernel_rfl) .i64 (k : Int) (by omega) (by omega)]
  have hs : (sizeOf (Tryz.prog.elem 36)).run Tryz.prog w = .ok 1 w := by
    have he : Tryz.prog.elem 36 = 3 := by kernel_rfl
    rw [he]; simp [sizeOf, typeInfo, hi0, hz1]
  simp only [Result.andThen, sliced, hs, Int.toNat_natCast, Nat.zero_mul, Nat.sub_zero]
  have : (if c = 0 then A else A.map (·.add 0)) = A := by
    split
    · rfl
    · cases A <;> simp [Addr.add]
  rw [this]
theorem below_dF {B : Nat} {w W : World} (h : Below B w W) (m : Nat) : Below B w (W.drewN m) := ⟨h.os, h.tape, h.output, h.size, h.block⟩
/-- where follow's variables lie, beside what came in -/
structure FolO (q : Cq) (w : World) (b : FolB) (W : World) : Prop where
  bel : Below w.heap.size w W
  bx : W.heap[w.heap.size]? = some q.obj
  lo : w.heap.size < b.bR ∧ w.heap.size < b.bA ∧ w.heap.size < b.bO ∧ w.heap.size < b.gR ∧ w.heap.size < b.gA ∧ w.heap.size < b.base
theorem FolO.on {q : Cq} {w W W' : World} {b : FolB} (h : FolO q w b W) (hb : Below W.heap.size W W') : FolO q w b W' := ⟨h.bel.trans (hb.mono h.bel.size), keep_b hb h.bx, h.lo⟩
/-- a block that a step keeps -/
theorem KeptF.at_ {b : FolB} {A : Option Addr} {w w' : World} (h : KeptF b A w w') {k : Nat} {ob : Obj} (hk : w.heap[k]? = some ob) (h1 : k ≠ b.gR) (h2 : k ≠ b.gA) (h3 : k ≠ b.bO) (h4 : ∀ g, A = some ⟨g, 0, none⟩ → k ≠ g) : w'.heap[k]? = some ob :=
  (h.blk k (lt_of_heap hk) h1 h2 h3 h4).trans hk
theorem FolO.kept {q : Cq} {w W W' : World} {b : FolB} {A : Option Addr} {c : Nat} {xs : List Int} (h : FolO q w b W) (hO : OwnI W b.base 3 A c xs) (hk : KeptF b A W W') : FolO q w b W' := by
  obtain ⟨l1, l2, l3, l4, l5, l6⟩ := h.lo
  have hA : ∀ g, A = some ⟨g, 0, none⟩ → b.base ≤ g := fun g e => by
    rw [e] at hO
    exact hO.ltL.1
  have hk2 : ∀ k, k ≤ w.heap.size → W'.heap[k]? = W.heap[k]? := fun k hk3 => hk.blk k (by have := lt_of_heap h.bx; omega) (by omega) (by omega) (by omega) fun g e => by
    have := hA g e
    omega
  exact ⟨⟨hk.os.trans h.bel.os, hk.tape.trans h.bel.tape, hk.output.trans h.bel.output, Nat.le_trans h.bel.size hk.size, fun k hk3 => (hk2 k (by omega)).trans (h.bel.block k hk3)⟩, (hk2 _ (Nat.le_refl _)).trans h.bx, h.lo⟩
/-- one is taken off the pile -/
theorem FolW.pop {b : FolB} {W : World} {o : List Bool} {rows : List (List Bool)} {A : Option Addr} {c i p : Nat} {op : List Nat} (h : FolW b W o rows A c (op ++ [i])) (hp : op.length = p) : FolW b (W.setCell ⟨b.bO, 0, none⟩ (.slice A p c)) o rows A c op ∧ KeptF b A W (W.setCell ⟨b.bO, 0, none⟩ (.slice A p c)) := by
  subst hp
  obtain ⟨n1, n2, n3, n4, n5, n6, n7, n8, n9⟩ := h.ne
  have hot : ∀ k, k ≠ b.bO → (W.setCell ⟨b.bO, 0, none⟩ (.slice A op.length c)).heap[k]? = W.heap[k]? := fun k hk => heap_setCell_other W _ k _ hk
  have hst : (W.setCell ⟨b.bO, 0, none⟩ (.slice A op.length c)).heap[b.bO]? = some (.cells #[.slice A op.length c] 36 (0, 0)) := by rw [heap_setCell_same W b.bO 0 _ _ _ h.hbO]; rfl
  have hl : (opI (op ++ [i])).length = op.length + 1 := by rw [opI_len, List.length_append]; rfl
  have hO : OwnI W b.base 3 A c (opI op) := by
    have := take_own h.own (by omega) op.length (by omega)
    rwa [opI_app, List.take_append_of_le_length (by rw [opI_len]; exact Nat.le_refl _), List.take_of_length_le (by rw [opI_len]; exact Nat.le_refl _)] at this
  refine ⟨⟨(hot _ n8.symm).trans h.hbR, (hot _ n9.symm).trans h.hbA, hst, (hot _ n6.symm).trans h.mR, (hot _ n7.symm).trans h.mA, hO.far h.lt.2.2.1 0 _, h.lt, by rw [World.size_setCell]; exact h.sz⟩, ⟨rfl, rfl, rfl, by rw [World.size_setCell]; exact Nat.le_refl _, fun k _ _ _ h3 _ => hot k h3⟩⟩
/-- values that are told, and a box that is laid, and then stored to -/
structure BoxF (W0 : World) (N p s : Nat) (F : Nat → Value) (z st : Obj) (D : Nat → Bool) (vs : Nat → Value) (w' : World) : Prop where
  bel : Below W0.heap.size W0 w'
  vals : ∀ i, i < N → i ≠ p → i ≠ s → D i = true → vs i = F i
  sp : D s = true → D p = true
  box : D p = true → ∃ g, vs p = .pointer (some ⟨g, 0, none⟩) ∧ W0.heap.size ≤ g ∧ w'.heap[g]? = some (if D s then st else z)
section
variable {W0 w' w'' : World} {N p s : Nat} {F : Nat → Value} {z st : Obj} {D D' : Nat → Bool} {vs : Nat → Value}
theorem BoxF.step (h : BoxF W0 N p s F z st D vs w') {i : Nat} (hp : i ≠ p) (hs : i ≠ s) (hb : Below w'.heap.size w' w'') (hD : ∀ j, j ≠ i → D' j = D j) : BoxF W0 N p s F z st D' (fun j => if j = i then F i else vs j) w'' := by
  refine ⟨h.bel.trans (hb.mono h.bel.size), fun j hj jp js hd => ?_, fun hd => ?_, fun hd => ?_⟩
  · by_cases e : j = i
    · subst e; exact if_pos rfl
    · show (if j = i then F i else vs j) = _
      rw [if_neg e]
      exact h.vals j hj jp js (by rw [← hD j e]; exact hd)
  · rw [hD s (Ne.symm hs)] at hd
    rw [hD p (Ne.symm hp)]
    exact h.sp hd
  · rw [hD p (Ne.symm hp)] at hd
    obtain ⟨g, h1, h2, h3⟩ := h.box hd
    refine ⟨g, ?_, h2, ?_⟩
    · show (if p = i then F i else vs p) = _
      rw [if_neg (Ne.symm hp)]; exact h1
    · rw [hD s (Ne.symm hs)]
      exact keep_b hb h3
theorem BoxF.alloc_ (h : BoxF W0 N p s F z st D vs w') (hps : p ≠ s) (hDp : D p = false) {cs : Array Value} {t : TypeId} (hz : z = .cells cs t (0, 0)) (hD : ∀ j, j ≠ p → D' j = D j) : BoxF W0 N p s F z st D' (fun j => if j = p then .pointer (some ⟨w'.heap.size, 0, none⟩) else vs j) (w'.alloc (.cells cs t)) := by
  have hs0 : D s = false := by
    cases e : D s
    · rfl
    · rw [h.sp e] at hDp; cases hDp
  refine ⟨h.bel.alloc h.bel.size _, fun j hj jp js hd => ?_, fun hd => ?_, fun _ => ⟨w'.heap.size, if_pos rfl, h.bel.size, ?_⟩⟩
  · show (if j = p then _ else vs j) = _
    rw [if_neg jp]
    exact h.vals j hj jp js (by rw [← hD j jp]; exact hd)
  · rw [hD s (Ne.symm hps), hs0] at hd; cases hd
  · rw [hD s (Ne.symm hps), hs0, hz]
    exact heap_alloc_new w' _
theorem BoxF.store_ (h : BoxF W0 N p s F z st D vs w') (hps : p ≠ s) (hDp : D p = true) {g : Nat} (hg : vs p = .pointer (some ⟨g, 0, none⟩)) (u : Value) (hb : W0.heap.size ≤ g → Below W0.heap.size W0 w' → Below W0.heap.size W0 w'') (hst : w''.heap[g]? = some st) (hD : ∀ j, j ≠ s → D' j = D j) (hDs : D' s = true) : BoxF W0 N p s F z st D' (fun j => if j = s then u else vs j) w'' := by
  obtain ⟨g2, h1, h2, h3⟩ := h.box hDp
  rw [hg] at h1
  injection h1 with h1; injection h1 with h1; injection h1 with h1
  subst h1
  refine ⟨hb h2 h.bel, fun j hj jp js hd => ?_, fun _ => by rw [hD p hps]; exact hDp, fun _ => ⟨g, ?_, h2, ?_⟩⟩
  · show (if j = s then u else vs j) = _
    rw [if_neg js]
    exact h.vals j hj jp js (by rw [← hD j js]; exact hd)
  · show (if p = s then u else vs p) = _
    rw [if_neg hps]; exact hg
  · rw [hDs, if_pos rfl]; exact hst
theorem BoxF.same (h : BoxF W0 N p s F z st D vs w') (hp : p < N) (hs : s < N) (hD : ∀ i, i < N → D i = D' i) : BoxF W0 N p s F z st D' vs w' := by
  refine ⟨h.bel, fun j hj jp js hd => h.vals j hj jp js (by rw [hD j hj]; exact hd), fun hd => ?_, fun hd => ?_⟩
  · rw [← hD s hs] at hd; rw [← hD p hp]; exact h.sp hd
  · rw [← hD p hp] at hd; rw [← hD s hs]; exact h.box hd
end
end Go.Proofs.YtgkngimeokhhgaaGreatDoor
/- The contract of follow: all ways through code are gone. -/
namespace Go.Proofs.YtgkngimeokhhgaaGreatDoor
open Go.RowKit

def FollowP (q : Cq) (w : World) (e : Ending) (w' : World) : Prop := ∃ gR gA rows, e = .returned (.tuple #[.slice (some ⟨gR, 0, none⟩) q.n q.n, .slice (some ⟨gA, 0, none⟩) q.n q.n]) ∧ w.heap.size ≤ gR ∧ w.heap.size ≤ gA ∧ BoB w' gR (reachB q.cd (-1)) ∧ RwB w' gA rows ∧ FolD q.cd (reachB q.cd (-1)) rows ∧ Below w.heap.size w w'
set_option maxRecDepth 100000 in
set_option maxHeartbeats 8000000 in
theorem follow_any (q : Cq) (w : World) (hq : q.In w) (hm : q.cd.may = true) (hS : ShT w) : Calls Tryz.prog 71 #[q.val] w (FollowP q w) := by
  obtain ⟨R, A, I, P, n, c, l⟩ := q
  have hmx : Tryz.prog.follows .mixedOrders = true := by kernel_rfl
  obtain ⟨i2, hi2, hx0, hx1, hx2⟩ := info_parts infoBo
  have HQ := Lib.hid hq
  have HM := Lib.hid hm
  have HS := Lib.hid hS
  have HLN : Hid (l.length = n) := hq.len
  obtain ⟨⟨_, _, _, _, _, _, hl0, hl1⟩, _⟩ := Cd.may_parts hm
  have hl0 : 1 ≤ l.length := hl0
  have hl1 : l.length ≤ 4096 := hl1
  rw [HLN.out] at hl0 hl1
  obtain ⟨W0, hW0⟩ : ∃ W, w.alloc (Cq.obj ⟨R, A, I, P, n, c, l⟩) = W := ⟨_, rfl⟩
  obtain ⟨g0, hg0⟩ : ∃ z, w.heap.size = z := ⟨_, rfl⟩
  have HB0 : Hid (Below w.heap.size w W0) := by rw [← hW0]; exact lvBelow w _
  have HX0 : Hid (W0.heap[g0]? = some (Cq.obj ⟨R, A, I, P, n, c, l⟩)) := by rw [← hW0, ← hg0]; exact heap_alloc_new w _
  have HG0 := Lib.hid hg0
  clear hq hm hS
  go_enter Tryz.func71, Tryz.ntmps71
  go_upto_region 1 with fail
  try rw [hW0]
  try rw [hg0]
  clear hW0 hg0
  let F : Nat → Value := fun i => match i with
    | 0 => .pointer (some ⟨g0, 3, none⟩)
    | 1 => .slice P n c
    | 2 => .int .i64 (n : Int)
    | 4 => .pointer (some ⟨g0, 3, none⟩)
    | 5 => .slice P n c
    | 6 => .int .i64 (n : Int)
    | _ => undef
  refine wp_region_joint (MkJ W0 n F) hmx (by kernel_rfl) (by kernel_rfl) ?_ ?_ ?_ ?_
  · intro D vs hD
    exact ⟨(Below.refl _ _).drew, fun i hi _ hd => (by rw [hD i (by show i < 12; omega)] at hd; cases hd), fun hd => (by rw [hD 3 (by decide)] at hd; cases hd), fun hd => (by rw [hD 7 (by decide)] at hd; cases hd), fun hd => (by rw [hD 8 (by decide)] at hd; cases hd), fun hd => (by rw [hD 9 (by decide)] at hd; cases hd), fun hd => (by rw [hD 10 (by decide)] at hd; cases hd), fun hd => (by rw [hD 11 (by decide)] at hd; cases hd)⟩
  · intro i o9 ho D vs w2 hJ hDi hd K hK
    have hi : i < 12 := (List.getElem?_eq_some_iff.1 ho).1
    generalize hlit : putV vs 0 _ _ = z at hK ⊢
    simp only [List.map_cons, List.map_nil, putV, Act.put, List.setIfInBounds_toArray, List.set_cons_succ, List.set_cons_zero] at hlit
    subst hlit
    rcases (by omega : i = 0 ∨ i = 1 ∨ i = 2 ∨ i = 3 ∨ i = 4 ∨ i = 5 ∨ i = 6 ∨ i = 7 ∨ i = 8 ∨ i = 9 ∨ i = 10 ∨ i = 11) with rfl | rfl | rfl | rfl | rfl | rfl | rfl | rfl | rfl | rfl | rfl | rfl
    · -- 0
      obtain rfl := Option.some.inj ho
      clear ho hd hi
      go_simp
      exact hK _ (F 0) _ (fun j => j == 0 || D j) (by simp [Act.put]; try rfl) (fun j hj => by simp [hj]) (by simp) (hJ.other (by decide) (fun j hj => by simp [hj]))
    · -- 1
      obtain rfl := Option.some.inj ho
      have v0 : vs 0 = F 0 := hJ.vals 0 (by decide) (by decide) (hd 0 (by kernel_rfl))
      obtain ⟨_, _, _, cc, _⟩ := lvCells (keep_b hJ.bel HX0.out)
      clear ho hd hi
      dsimp only [F] at v0
      go_simp
      exact hK _ (F 1) _ (fun j => j == 1 || D j) (by simp [Act.put, v0]; try rfl) (fun j hj => by simp [hj]) (by simp) (hJ.other (by decide) (fun j hj => by simp [hj]))
    · -- 2
      obtain rfl := Option.some.inj ho
      have v1 : vs 1 = F 1 := hJ.vals 1 (by decide) (by decide) (hd 1 (by kernel_rfl))
      clear ho hd hi
      dsimp only [F] at v1
      go_simp
      exact hK _ (F 2) _ (fun j => j == 2 || D j) (by simp [Act.put, v1]; try rfl) (fun j hj => by simp [hj]) (by simp) (hJ.other (by decide) (fun j hj => by simp [hj]))
    · -- 3
      obtain rfl := Option.some.inj ho
      have v2 : vs 2 = F 2 := hJ.vals 2 (by decide) (by decide) (hd 2 (by kernel_rfl))
      have hmk := run_makeBo (P := Tryz.prog) 108 4 i2 Tryz.underlying108 hi2 hx0 hx1 hx2 n (by omega) w2
      clear ho hd hi
      dsimp only [F] at v2
      go_simp
      exact hK _ (.slice (some ⟨w2.heap.size, 0, none⟩) n n) _ (fun j => j == 3 || D j) (by simp [Act.put, v2]; try rfl) (fun j hj => by simp [hj]) (by simp) (hJ.fresh (i := 3) (by decide) hDi (fun j hj => by simp [hj]) (fun _ => ⟨rfl, BoB.made w2 n⟩) (fun e => absurd e (by decide)) (fun e => absurd e (by decide)) (fun e => absurd e (by decide)))
    · -- 4
      obtain rfl := Option.some.inj ho
      clear ho hd hi
      go_simp
      exact hK _ (F 4) _ (fun j => j == 4 || D j) (by simp [Act.put]; try rfl) (fun j hj => by simp [hj]) (by simp) (hJ.other (by decide) (fun j hj => by simp [hj]))
    · -- 5
      obtain rfl := Option.some.inj ho
      have v4 : vs 4 = F 4 := hJ.vals 4 (by decide) (by decide) (hd 4 (by kernel_rfl))
      obtain ⟨_, _, _, cc, _⟩ := lvCells (keep_b hJ.bel HX0.out)
      clear ho hd hi
      dsimp only [F] at v4
      go_simp
      exact hK _ (F 5) _ (fun j => j == 5 || D j) (by simp [Act.put, v4]; try rfl) (fun j hj => by simp [hj]) (by simp) (hJ.other (by decide) (fun j hj => by simp [hj]))
    · -- 6
      obtain rfl := Option.some.inj ho
      have v5 : vs 5 = F 5 := hJ.vals 5 (by decide) (by decide) (hd 5 (by kernel_rfl))
      clear ho hd hi
      dsimp only [F] at v5
      go_simp
      exact hK _ (F 6) _ (fun j => j == 6 || D j) (by simp [Act.put, v5]; try rfl) (fun j hj => by simp [hj]) (by simp) (hJ.other (by decide) (fun j hj => by simp [hj]))
    · -- 7
      obtain rfl := Option.some.inj ho
      have v6 : vs 6 = F 6 := hJ.vals 6 (by decide) (by decide) (hd 6 (by kernel_rfl))
      have hmk := run_make8 n (by omega) w2
      clear ho hd hi
      dsimp only [F] at v6
      go_simp
      exact hK _ (.slice (some ⟨w2.heap.size, 0, none⟩) n n) _ (fun j => j == 7 || D j) (by simp [Act.put, v6]; try rfl) (fun j hj => by simp [hj]) (by simp) (hJ.fresh (i := 7) (by decide) hDi (fun j hj => by simp [hj]) (fun e => absurd e (by decide)) (fun _ => ⟨rfl, heap_alloc_new w2 _⟩) (fun e => absurd e (by decide)) (fun e => absurd e (by decide)))
    · -- 8
      obtain rfl := Option.some.inj ho
      clear ho hd hi
      go_simp
      exact hK _ (.pointer (some ⟨w2.heap.size, 0, none⟩)) _ (fun j => j == 8 || D j) (by simp [Act.put]; try rfl) (fun j hj => by simp [hj]) (by simp) (hJ.fresh (i := 8) (by decide) hDi (fun j hj => by simp [hj]) (fun e => absurd e (by decide)) (fun e => absurd e (by decide)) (fun _ => ⟨rfl, heap_alloc_new w2 _⟩) (fun e => absurd e (by decide)))
    · -- 9
      obtain rfl := Option.some.inj ho
      clear ho hd hi
      go_simp
      exact hK _ (.pointer (some ⟨w2.heap.size, 0, none⟩)) _ (fun j => j == 9 || D j) (by simp [Act.put]; try rfl) (fun j hj => by simp [hj]) (by simp) (hJ.fresh (i := 9) (by decide) hDi (fun j hj => by simp [hj]) (fun e => absurd e (by decide)) (fun e => absurd e (by decide)) (fun e => absurd e (by decide)) (fun _ => ⟨rfl, heap_alloc_new w2 _⟩))
    · -- 10
      obtain rfl := Option.some.inj ho
      have hD3 := hd 3 (by kernel_rfl)
      have hD8 := hd 8 (by kernel_rfl)
      obtain ⟨g3, v3, _, _⟩ := hJ.m3 hD3
      obtain ⟨g8, v8, _, hg8⟩ := hJ.b8 hD8
      obtain ⟨cc, cf⟩ := one_cell hg8
      rw [hDi, if_neg (show ¬(false = true) by decide)] at cc
      have hh := hJ.put10 (D' := fun j => j == 10 || D j) hDi hD3 hD8 v8 undef (fun j hj => by simp [hj]) (by simp)
      rw [v3] at hh
      clear ho hd hi
      go_simp
      exact hK _ undef _ (fun j => j == 10 || D j) (by simp [Act.put, v3, v8]; try rfl) (fun j hj => by simp [hj]) (by simp) hh
    · -- 11
      obtain rfl := Option.some.inj ho
      have hD7 := hd 7 (by kernel_rfl)
      have hD9 := hd 9 (by kernel_rfl)
      obtain ⟨g7, v7, _, _⟩ := hJ.m7 hD7
      obtain ⟨g9, v9, _, hg9⟩ := hJ.b9 hD9
      obtain ⟨cc, cf⟩ := one_cell hg9
      rw [hDi, if_neg (show ¬(false = true) by decide)] at cc
      have hh := hJ.put11 (D' := fun j => j == 11 || D j) hDi hD7 hD9 v9 undef (fun j hj => by simp [hj]) (by simp)
      rw [v7] at hh
      clear ho hd hi
      go_simp
      exact hK _ undef _ (fun j => j == 11 || D j) (by simp [Act.put, v7, v9]; try rfl) (fun j hj => by simp [hj]) (by simp) hh
  · intro D vs w2 hJ hall
    obtain ⟨g3, v3, l3, m3⟩ := hJ.m3 (hall 3 (by decide))
    obtain ⟨g7, v7, l7, m7⟩ := hJ.m7 (hall 7 (by decide))
    obtain ⟨g8, v8, l8, m8⟩ := hJ.b8 (hall 8 (by decide))
    obtain ⟨g9, v9, l9, m9⟩ := hJ.b9 (hall 9 (by decide))
    rw [if_pos (hall 10 (by decide)), v3] at m8
    rw [if_pos (hall 11 (by decide)), v7] at m9
    have v0 : vs 0 = F 0 := hJ.vals 0 (by decide) (by decide) (hall 0 (by decide))
    have v1 : vs 1 = F 1 := hJ.vals 1 (by decide) (by decide) (hall 1 (by decide))
    have v2 : vs 2 = F 2 := hJ.vals 2 (by decide) (by decide) (hall 2 (by decide))
    have v4 : vs 4 = F 4 := hJ.vals 4 (by decide) (by decide) (hall 4 (by decide))
    have v5 : vs 5 = F 5 := hJ.vals 5 (by decide) (by decide) (hall 5 (by decide))
    have v6 : vs 6 = F 6 := hJ.vals 6 (by decide) (by decide) (hall 6 (by decide))
    dsimp only [F] at v0 v1 v2 v4 v5 v6
    have HB2 := Lib.hid (HB0.out.trans (hJ.bel.mono HB0.out.size))
    have HX2 := Lib.hid (keep_b hJ.bel HX0.out)
    have hsz0 : w.heap.size < W0.heap.size := by rw [HG0.out]; exact lt_of_heap HX0.out
    generalize hlit : putV vs 0 _ _ = z
    simp only [List.map_cons, List.map_nil, putV, Act.put, List.setIfInBounds_toArray, List.set_cons_succ, List.set_cons_zero] at hlit
    rw [v0, v1, v2, v3, v4, v5, v6, v7, v8, v9] at hlit
    subst hlit
    clear hJ hall v0 v1 v2 v3 v4 v5 v6 v7 v8 v9 hi2 hx0 hx1 hx2
    clear F
    obtain ⟨W3, hW3⟩ : ∃ W, w2.alloc (.cells #[.slice none 0 0] 36) = W := ⟨_, rfl⟩
    obtain ⟨g6, hg6⟩ : ∃ z, w2.heap.size = z := ⟨_, rfl⟩
    have hb3 : Below w2.heap.size w2 W3 := by rw [← hW3]; exact lvBelow _ _
    have hs3 : W3.heap.size = g6 + 1 := by rw [← hW3, World.size_alloc, hg6]
    have hn3 : W3.heap[g6]? = some (.cells #[.slice none 0 0] 36 (0, 0)) := by rw [← hW3, ← hg6]; exact heap_alloc_new w2 _
    have q3 := lt_of_heap m3
    have q7 := lt_of_heap m7
    have q8 := lt_of_heap m8
    have q9 := lt_of_heap m9
    have q2 := lt_of_heap HX2.out
    obtain ⟨b, hb⟩ : ∃ b : FolB, b = ⟨g8, g9, g6, g3, g7, g6 + 1, n⟩ := ⟨_, rfl⟩
    have HFW : Hid (FolW b W3 (List.replicate n false) (List.replicate n noR) none 0 []) := by
      rw [hb]
      exact ⟨keep_b hb3 m8, keep_b hb3 m9, hn3, keep_b hb3 m3, keep_b hb3 m7, OwnI.nil_ _ _ _, ⟨by show g8 < g6 + 1; omega, by show g9 < g6 + 1; omega, by show g6 < g6 + 1; omega, by show g3 < g6 + 1; omega, by show g7 < g6 + 1; omega⟩, by show g6 + 1 ≤ _; omega⟩
    have HFO : Hid (FolO ⟨R, A, I, P, n, c, l⟩ w b W3) := by
      refine ⟨HB2.out.trans (hb3.mono HB2.out.size), keep_b hb3 (by rw [HG0.out]; exact HX2.out), ?_⟩
      rw [hb]
      exact ⟨by show w.heap.size < g8; omega, by show w.heap.size < g9; omega, by show w.heap.size < g6; omega, by show w.heap.size < g3; omega, by show w.heap.size < g7; omega, by show w.heap.size < g6 + 1; omega⟩
    have e8 : g8 = b.bR := by rw [hb]
    have e9 : g9 = b.bA := by rw [hb]
    have e6 : g6 = b.bO := by rw [hb]
    have HE3 : Hid (g3 = b.gR ∧ g7 = b.gA ∧ n = b.n) := by rw [hb]; exact ⟨rfl, rfl, rfl⟩
    clear hb3 hs3 hn3 q3 q7 q8 q9 q2 m3 m7 m8 m9 l3 l7 l8 l9 hb hsz0
    have hmf : ∀ (fn : Fn) (first cap : Array Value) (w : World), (Instr.makeFunc fn first cap).run Tryz.prog w = .ok (.func fn first cap) w := fun _ _ _ _ => rfl
    have hz := zero8
    try rw [e8]
    try rw [e9]
    go_upto_region 3 with fail
    try rw [hW3]
    try rw [hg6]
    try rw [e6]
    clear hW3 hg6 e8 e9 e6
    go_wp2_with fail
    have hC := come_any b 0 noR (List.replicate n false) (List.replicate n noR) none 0 [] W3 HFW.out (by rw [List.length_replicate]; exact HE3.out.2.2) (by rw [List.length_replicate]; exact HE3.out.2.2) (fun s hs => by rw [(List.mem_replicate.1 hs).2]; exact noR_len) noR_len (by have := HE3.out.2.2; omega) (by have := HE3.out.2.2; omega) (by simp)
    rw [show ((0 : Nat) : Int) = 0 from rfl] at hC
    (with_reducible refine hC.mono ?_)
    rintro e w4 ⟨rfl, A4, c4, hk4, -, hcase⟩
    obtain ⟨hF4, hP4⟩ : FolW b w4 ((List.replicate n false).set 0 true) ((List.replicate n noR).set 0 noR) A4 c4 [0] ∧ 0 = 0 := by
      rcases hcase with ⟨h0, -⟩ | ⟨v, s, t, hv, hs, ht, -, hF⟩
      · rw [List.getElem?_replicate, if_pos (by omega)] at h0
        cases h0
      · rw [List.getElem?_replicate, if_pos (by omega)] at hv
        injection hv with hv
        subst hv
        rw [if_neg (by decide)] at ht
        subst ht
        exact ⟨hF, rfl⟩
    obtain ⟨cd, hcd⟩ : ∃ cd, Cq.cd ⟨R, A, I, P, n, c, l⟩ = cd := ⟨_, rfl⟩
    have HCL : Hid (cd.l = l) := by rw [← hcd]; rfl
    have HML : Hid (cd.may = true) := by rw [← hcd]; exact HM
    have HCN : Hid (cd.l.length = n) := by unfold Hid; rw [HCL.out]; exact HLN.out
    have HI4 : Hid (FolI cd ((List.replicate n false).set 0 true) ((List.replicate n noR).set 0 noR) [0] (fun _ => False)) := by rw [← HCN.out]; exact FolI.start HML.out
    have HW4 := Lib.hid hF4
    have HO4 := Lib.hid (HFO.out.kept HFW.out.own hk4)
    have HCD := Lib.hid hcd
    have HBN : Hid (b.n = n) := Lib.hid HE3.out.2.2.symm
    have hbn : b.n ≤ 4096 := by rw [HBN.out]; exact hl1
    clear hC hcase hF4 hP4 hk4 hmf hcd HFW HFO HB2 HX2
    obtain ⟨o4, ho4⟩ : ∃ o, (List.replicate n false).set 0 true = o := ⟨_, rfl⟩
    obtain ⟨r4, hr4⟩ : ∃ o, (List.replicate n noR).set 0 noR = o := ⟨_, rfl⟩
    rw [ho4, hr4] at HI4 HW4
    clear ho4 hr4
    go_wp2_with fail
    go_loopg [8] (2 * potF o4 r4 + 1) (fun k _ wr => ∃ (o : List Bool) (rows : List (List Bool)) (A1 : Option Addr) (c1 : Nat) (op : List Nat), Hid (FolI cd o rows op (fun _ => False)) ∧ Hid (FolW b wr o rows A1 c1 op) ∧ Hid (FolO ⟨R, A, I, P, n, c, l⟩ w b wr) ∧ Hid (2 * potF o rows + op.length ≤ k))
    case atStart => exact ⟨o4, r4, A4, c4, [0], HI4, HW4, HO4, by unfold Hid; simp⟩
    case round =>
      obtain ⟨o, rows, A1, c1, op, HI, HW, HO, HG⟩ := hrel
      clear HI4 HW4 HO4
      rcases List.eq_nil_or_concat op with hop | ⟨op1, i, hop⟩
      · subst hop
        obtain ⟨k0, _⟩ := one_cell HW.out.hbO
        obtain ⟨k1, _⟩ := one_cell HW.out.hbR
        obtain ⟨k2, _⟩ := one_cell HW.out.hbA
        rw [List.length_nil] at k0
        go_upto_region 14 with fail
        go_quiet (fail)
        go_wp2_with fail
        go_ret2
        have HD := HI.out.done HML.out
        obtain ⟨_, _, _, l4, l5, _⟩ := HO.out.lo
        refine ⟨b.gR, b.gA, rows, by rw [HBN.out]; rfl, by omega, by omega, ?_, HW.out.mA, ?_, below_dF HO.out.bel _⟩
        · rw [HCD.out, ← HD.o_]; exact HW.out.mR
        · rw [HCD.out, ← HD.o_]; exact HD
      rw [List.concat_eq_append] at hop
      subst hop
      obtain ⟨p, hp⟩ : ∃ p, op1.length = p := ⟨_, rfl⟩
      have hpot := HI.out.pot
      rw [HCN.out, List.length_append, List.length_singleton, hp] at hpot
      have hp6 : p ≤ 600000 := by omega
      have hoi : o[i]? = some true := HI.out.on i (List.mem_append_right _ (List.mem_singleton.2 rfl))
      have hin : i < n := by rw [← HCN.out, ← HI.out.lo]; exact (List.getElem?_eq_some_iff.1 hoi).1
      obtain ⟨r, hr⟩ : ∃ r, rows[i]? = some r := ⟨_, List.getElem?_eq_getElem (by rw [HI.out.la, HCN.out]; exact hin)⟩
      obtain ⟨x9, hx9⟩ : ∃ x, cd.l[i]? = some x := ⟨_, List.getElem?_eq_getElem (by rw [HCN.out]; exact hin)⟩
      have HJ0 := Lib.hid (HI.out.pop hx9 hr)
      have HR8 : Hid (r.length = 128) := HI.out.l8 r (List.mem_of_getElem? hr)
      have HRI := Lib.hid hr
      have HXI := Lib.hid hx9
      have HL8 := Lib.hid HI.out.l8
      have HRN : Hid (rows.length = b.n) := by unfold Hid; rw [HI.out.la, HCN.out, HBN.out]
      have HPP := Lib.hid hp
      obtain ⟨hW5, hK5⟩ := HW.out.pop hp
      have HW5 := Lib.hid hW5
      have HO5 := Lib.hid (HO.out.kept HW.out.own hK5)
      have HGP : Hid (2 * potF o rows + p + 1 ≤ gk) := by
        have := HG.out
        rw [List.length_append, List.length_singleton, hp] at this
        unfold Hid; omega
      obtain ⟨gO, hgO, k9⟩ := own_at15 HW.out.own (k := p) (x := (i : Int)) (by rw [opI_app, List.getElem?_append_right (by rw [opI_len]; omega), opI_len, hp, Nat.sub_self]; rfl)
      obtain ⟨k0, kf⟩ := one_cell HW.out.hbO
      rw [List.length_append, List.length_singleton, hp] at k0
      subst hgO
      have hcap : p + 1 ≤ c1 := by
        have := HW.out.own.len_cap
        rw [opI_len, List.length_append, List.length_singleton, hp] at this
        exact this
      have hsl : ∀ W, (Instr.slice 36 (.slice (some ⟨gO, 0, none⟩) (p + 1) c1) none (some (.int .i64 (p : Int))) none).run Tryz.prog W = .ok (.slice (some ⟨gO, 0, none⟩) p c1) W := fun W => run_takeI (by omega) hcap
      have l0 : (0 : Int) < (p : Int) + 1 := by omega
      have l1 : (p : Int) < (p : Int) + 1 := by omega
      have l2 : (0 : Int) ≤ (p : Int) := by omega
      clear hpot hoi hr hx9 hp hW5 hK5 hcap
      go_upto_region 8 with fail
      obtain ⟨W5, hW5⟩ : ∃ W, wr.setCell ⟨b.bO, 0, none⟩ (.slice (some ⟨gO, 0, none⟩) p c1) = W := ⟨_, rfl⟩
      rw [hW5] at HW5 HO5
      try rw [hW5]
      clear hW5 k0 kf k9 hsl l0 l1 l2 HW HO HI HG
      obtain ⟨bl, off, x, hPA, hbl, hxl, hy, hxo⟩ := (HQ.out.on HO5.out.bel).ins.at_ hin
      have hPA : P = some ⟨bl, off, none⟩ := hPA
      have hxe : x9 = x := by
        have h1 := HXI.out
        rw [HCL.out] at h1
        have h2 : l[i]? = some x := hxl.out
        rw [h1] at h2
        injection h2
      subst hxe
      have HBL := Lib.hid hbl
      have HY : Hid (CellsJ W5 bl (off + i * 5) x9) := hy
      have HXO := Lib.hid hxo
      have hxm := (Cd.may_parts HML.out).2.1 x9 (List.mem_of_getElem? HXI.out)
      have hR128 := (Cd.may_parts HML.out).1.2.1
      have HWS : Hid (setsJ x9 = true → 0 ≤ writesJ x9 ∧ writesJ x9 < 128) := fun hs => by
        have := sets_in hxm hs
        omega
      have HBR : Hid ((behR x9 r).length = 128) := by unfold Hid; rw [behR_len]; exact HR8.out
      have hiz : (i : Int) < (n : Int) := by omega
      have hib : (i : Int) < (b.n : Int) := by rw [HBN.out]; exact hiz
      have hi0 : (0 : Int) ≤ (i : Int) := by omega
      subst hPA
      clear hxl hy hbl hxo hxm hR128
      let F : Nat → Value := fun j => match j with
        | 0 => .slice (some ⟨b.gA, 0, none⟩) b.n b.n
        | 1 => .int .i64 (i : Int)
        | 2 => .pointer (some ⟨b.gA, i * 128, none⟩)
        | 3 => .agg (arA r)
        | 4 => .pointer (some ⟨g0, 3, none⟩)
        | 5 => .slice (some ⟨bl, off, none⟩) n c
        | 6 => .int .i64 (i : Int)
        | 7 => .pointer (some ⟨bl, off + i * 5, none⟩)
        | 8 => x9.val
        | 9 => .agg (arA (behR x9 r))
        | _ => undef
      refine wp_region_joint (BoxF W5 12 10 11 F (.cells (arA noR) 116 (0, 0)) (.cells (arA (behR x9 r)) 116 (0, 0))) hmx (by kernel_rfl) (by kernel_rfl) ?_ ?_ ?_ ?_
      · intro D vs hD
        exact ⟨(Below.refl _ _).drew, fun i hi _ _ hd => (by rw [hD i hi] at hd; cases hd), fun hd => (by rw [hD 11 (by decide)] at hd; cases hd), fun hd => (by rw [hD 10 (by decide)] at hd; cases hd)⟩
      · intro i8 o9 ho D vs w2 hJ hDi hd K hK
        have hi : i8 < 12 := (List.getElem?_eq_some_iff.1 ho).1
        generalize hlit : putV vs 0 _ _ = z at hK ⊢
        simp only [List.map_cons, List.map_nil, putV, Act.put, List.setIfInBounds_toArray, List.set_cons_succ, List.set_cons_zero] at hlit
        subst hlit
        rcases (by omega : i8 = 0 ∨ i8 = 1 ∨ i8 = 2 ∨ i8 = 3 ∨ i8 = 4 ∨ i8 = 5 ∨ i8 = 6 ∨ i8 = 7 ∨ i8 = 8 ∨ i8 = 9 ∨ i8 = 10 ∨ i8 = 11) with rfl | rfl | rfl | rfl | rfl | rfl | rfl | rfl | rfl | rfl | rfl | rfl
        · -- 0
          obtain rfl := Option.some.inj ho
          obtain ⟨cc, _⟩ := one_cell (HW5.out.on hJ.bel).hbA
          clear ho hd hi
          go_simp
          exact hK _ (F 0) _ (fun j => j == 0 || D j) (by simp [Act.put]; try rfl) (fun j hj => by simp [hj]) (by simp) (hJ.step (by decide) (by decide) (Below.refl _ _) (fun j hj => by simp [hj]))
        · -- 1
          obtain rfl := Option.some.inj ho
          clear ho hd hi
          go_simp
          exact hK _ (F 1) _ (fun j => j == 1 || D j) (by simp [Act.put]; try rfl) (fun j hj => by simp [hj]) (by simp) (hJ.step (by decide) (by decide) (Below.refl _ _) (fun j hj => by simp [hj]))
        · -- 2
          obtain rfl := Option.some.inj ho
          have v0 : vs 0 = F 0 := hJ.vals 0 (by decide) (by decide) (by decide) (hd 0 (by kernel_rfl))
          have v1 : vs 1 = F 1 := hJ.vals 1 (by decide) (by decide) (by decide) (hd 1 (by kernel_rfl))
          clear ho hd hi
          dsimp only [F] at v0
          dsimp only [F] at v1
          go_simp
          exact hK _ (F 2) _ (fun j => j == 2 || D j) (by simp [Act.put, v0, v1]; try rfl) (fun j hj => by simp [hj]) (by simp) (hJ.step (by decide) (by decide) (Below.refl _ _) (fun j hj => by simp [hj]))
        · -- 3
          obtain rfl := Option.some.inj ho
          have v2 : vs 2 = F 2 := hJ.vals 2 (by decide) (by decide) (by decide) (hd 2 (by kernel_rfl))
          clear ho hd hi
          dsimp only [F] at v2
          rw [if_pos (by simp only [Region.wanted])]
          refine wp_load_mid 116 (.tmp 40) rfl b.gA (i * 128) v2 (r.map Value.bool) _ ((HW5.out.on hJ.bel).mA.range HL8.out HRI.out) under8 rfl (by rw [List.length_map, HR8.out]; exact info8) ?_
          exact hK _ (F 3) _ (fun j => j == 3 || D j) rfl (fun j hj => by simp [hj]) (by simp) (hJ.step (by decide) (by decide) (Below.refl _ _) (fun j hj => by simp [hj]))
        · -- 4
          obtain rfl := Option.some.inj ho
          clear ho hd hi
          go_simp
          exact hK _ (F 4) _ (fun j => j == 4 || D j) (by simp [Act.put]; try rfl) (fun j hj => by simp [hj]) (by simp) (hJ.step (by decide) (by decide) (Below.refl _ _) (fun j hj => by simp [hj]))
        · -- 5
          obtain rfl := Option.some.inj ho
          have v4 : vs 4 = F 4 := hJ.vals 4 (by decide) (by decide) (by decide) (hd 4 (by kernel_rfl))
          obtain ⟨_, _, _, cc, _⟩ := lvCells (HO5.out.on hJ.bel).bx
          rw [HG0.out] at cc
          clear ho hd hi
          dsimp only [F] at v4
          go_simp
          exact hK _ (F 5) _ (fun j => j == 5 || D j) (by simp [Act.put, v4]; try rfl) (fun j hj => by simp [hj]) (by simp) (hJ.step (by decide) (by decide) (Below.refl _ _) (fun j hj => by simp [hj]))
        · -- 6
          obtain rfl := Option.some.inj ho
          clear ho hd hi
          go_simp
          exact hK _ (F 6) _ (fun j => j == 6 || D j) (by simp [Act.put]; try rfl) (fun j hj => by simp [hj]) (by simp) (hJ.step (by decide) (by decide) (Below.refl _ _) (fun j hj => by simp [hj]))
        · -- 7
          obtain rfl := Option.some.inj ho
          have v5 : vs 5 = F 5 := hJ.vals 5 (by decide) (by decide) (by decide) (hd 5 (by kernel_rfl))
          have v6 : vs 6 = F 6 := hJ.vals 6 (by decide) (by decide) (by decide) (hd 6 (by kernel_rfl))
          clear ho hd hi
          dsimp only [F] at v5
          dsimp only [F] at v6
          go_simp
          exact hK _ (F 7) _ (fun j => j == 7 || D j) (by simp [Act.put, v5, v6]; try rfl) (fun j hj => by simp [hj]) (by simp) (hJ.step (by decide) (by decide) (Below.refl _ _) (fun j hj => by simp [hj]))
        · -- 8
          obtain rfl := Option.some.inj ho
          have v7 : vs 7 = F 7 := hJ.vals 7 (by decide) (by decide) (by decide) (hd 7 (by kernel_rfl))
          have y0 := (hJ.bel.cell HBL.out).trans HY.out.c0
          have y1 := (hJ.bel.cell HBL.out).trans HY.out.c1
          have y2 := (hJ.bel.cell HBL.out).trans HY.out.c2
          have y3 := (hJ.bel.cell HBL.out).trans HY.out.c3
          have y4 := (hJ.bel.cell HBL.out).trans HY.out.c4
          clear ho hd hi
          dsimp only [F] at v7
          go_simp
          exact hK _ (F 8) _ (fun j => j == 8 || D j) (by simp [Act.put, v7]; try rfl) (fun j hj => by simp [hj]) (by simp) (hJ.step (by decide) (by decide) (Below.refl _ _) (fun j hj => by simp [hj]))
        · -- 9
          obtain rfl := Option.some.inj ho
          have v3 : vs 3 = F 3 := hJ.vals 3 (by decide) (by decide) (by decide) (hd 3 (by kernel_rfl))
          have v8 : vs 8 = F 8 := hJ.vals 8 (by decide) (by decide) (by decide) (hd 8 (by kernel_rfl))
          clear ho hd hi
          dsimp only [F] at v3
          dsimp only [F] at v8
          go_simp
          go_at_call 89
          refine (behR_any x9 r w2 HXO.out HR8.out HWS.out (HS.out.on ((HO5.out.on hJ.bel).bel))).mono ?_
          rintro e wf ⟨rfl, hbf⟩
          exact hK _ (F 9) _ (fun j => j == 9 || D j) (by simp [Act.put, v3, v8]; try rfl) (fun j hj => by simp [hj]) (by simp) (hJ.step (by decide) (by decide) hbf (fun j hj => by simp [hj]))
        · -- 10
          obtain rfl := Option.some.inj ho
          clear ho hd hi
          go_simp
          exact hK _ (.pointer (some ⟨w2.heap.size, 0, none⟩)) _ (fun j => j == 10 || D j) (by simp [Act.put]; try rfl) (fun j hj => by simp [hj]) (by simp) (hJ.alloc_ (by decide) hDi rfl (fun j hj => by simp [hj]))
        · -- 11
          obtain rfl := Option.some.inj ho
          have v9 : vs 9 = F 9 := hJ.vals 9 (by decide) (by decide) (by decide) (hd 9 (by kernel_rfl))
          have hD10 := hd 10 (by kernel_rfl)
          obtain ⟨g, v10, hgn, hgh⟩ := hJ.box hD10
          rw [hDi, if_neg (show ¬(false = true) by decide)] at hgh
          clear ho hd hi
          dsimp only [F] at v9
          rw [if_pos (by simp only [Region.wanted])]
          refine wp_store_row 116 (.tmp 9) (.tmp 47) rfl g (arA (behR x9 r)) v10 v9 _ _ hgh (by rw [arA_size, HBR.out]; exact info8) (by rw [arA_size, arA_size, HBR.out, noR_len]) (arA_one _) ?_
          exact hK _ undef _ (fun j => j == 11 || D j) rfl (fun j hj => by simp [hj]) (by simp) (hJ.store_ (by decide) hD10 v10 undef (fun h1 h2 => below_setRow h2 h1 _) (setRow_heap w2 g _ _ _ _ hgh) (fun j hj => by simp [hj]) (by simp))
      · intro D vs w6 hJ hall
        obtain ⟨g9, v10, hgn, hgh⟩ := hJ.box (hall 10 (by decide))
        rw [if_pos (hall 11 (by decide))] at hgh
        have v0 : vs 0 = F 0 := hJ.vals 0 (by decide) (by decide) (by decide) (hall 0 (by decide))
        have v1 : vs 1 = F 1 := hJ.vals 1 (by decide) (by decide) (by decide) (hall 1 (by decide))
        have v2 : vs 2 = F 2 := hJ.vals 2 (by decide) (by decide) (by decide) (hall 2 (by decide))
        have v3 : vs 3 = F 3 := hJ.vals 3 (by decide) (by decide) (by decide) (hall 3 (by decide))
        have v4 : vs 4 = F 4 := hJ.vals 4 (by decide) (by decide) (by decide) (hall 4 (by decide))
        have v5 : vs 5 = F 5 := hJ.vals 5 (by decide) (by decide) (by decide) (hall 5 (by decide))
        have v6 : vs 6 = F 6 := hJ.vals 6 (by decide) (by decide) (by decide) (hall 6 (by decide))
        have v7 : vs 7 = F 7 := hJ.vals 7 (by decide) (by decide) (by decide) (hall 7 (by decide))
        have v8 : vs 8 = F 8 := hJ.vals 8 (by decide) (by decide) (by decide) (hall 8 (by decide))
        have v9 : vs 9 = F 9 := hJ.vals 9 (by decide) (by decide) (by decide) (hall 9 (by decide))
        dsimp only [F] at v0 v1 v2 v3 v4 v5 v6 v7 v8 v9
        have HW6 := Lib.hid (HW5.out.on hJ.bel)
        have HO6 := Lib.hid (HO5.out.on hJ.bel)
        have HB9 : Hid (ArB w6 g9 (behR x9 r)) := hgh
        have HG9 : Hid (b.base ≤ g9) := Nat.le_trans HW5.out.sz hgn
        have HY6 : Hid (CellsJ w6 bl (off + i * 5) x9) := ⟨(hJ.bel.cell HBL.out).trans HY.out.c0, (hJ.bel.cell HBL.out).trans HY.out.c1, (hJ.bel.cell HBL.out).trans HY.out.c2, (hJ.bel.cell HBL.out).trans HY.out.c3, (hJ.bel.cell HBL.out).trans HY.out.c4⟩
        generalize hlit : putV vs 0 _ _ = z
        simp only [List.map_cons, List.map_nil, putV, Act.put, List.setIfInBounds_toArray, List.set_cons_succ, List.set_cons_zero] at hlit
        rw [v0, v1, v2, v3, v4, v5, v6, v7, v8, v9, v10] at hlit
        subst hlit
        clear hJ hall v0 v1 v2 v3 v4 v5 v6 v7 v8 v9 v10 hgh hgn
        clear F
        obtain ⟨_, _, _, cc, _⟩ := lvCells HO6.out.bx
        rw [HG0.out] at cc
        obtain ⟨y0, y1, y2, y3, y4⟩ := HY6.out
        have hNx := codeNext_any x9 (i : Int) w6 HXO.out ⟨by omega, by omega⟩ (HS.out.on HO6.out.bel)
        unfold NextP at hNx
        obtain ⟨nx, hnx⟩ : ∃ z, nextJ x9 (i : Int) = z := ⟨_, rfl⟩
        have hnx2 : nx.length ≤ 2 := by rw [← hnx]; exact next_two15 x9 i
        rw [hnx] at hNx
        have HNX := Lib.hid hnx
        have HMX : Hid (∀ k ∈ nx, 0 ≤ k ∧ k < n) := by
          have h := Cd.next_in HML.out (i := i) (x := x9) HXI.out
          rw [hnx, HCN.out] at h
          exact h
        obtain ⟨m, hm⟩ : ∃ m, nx.length = m := ⟨_, rfl⟩
        rw [hm] at hNx hnx2
        have HML2 := Lib.hid hm
        clear hnx hm
        go_upto_region 9 with fail
        go_wp2_with fail
        (with_reducible refine hNx.mono ?_)
        rintro e w7 ⟨A7, c7, rfl, hO7, hb7⟩
        have HW7 := Lib.hid (HW6.out.on hb7)
        have HO7 := Lib.hid (HO6.out.on hb7)
        have HB7 : Hid (ArB w7 g9 (behR x9 r)) := keep_b hb7 HB9.out
        have HN7 := Lib.hid hO7
        have HA7 : Hid (∀ g, (some ⟨gO, 0, none⟩ : Option Addr) = some ⟨g, 0, none⟩ → A7 ≠ some ⟨g, 0, none⟩) := fun g hg e => by
          have h1 := HW6.out.own
          rw [hg] at h1
          have h2 := hO7
          rw [e] at h2
          have := h1.ltL
          have := h2.ltL
          omega
        have HS6 : Hid (b.base ≤ w6.heap.size) := HW6.out.sz
        clear hb7 hO7 hNx cc y0 y1 y2 y3 y4 HY6 HB9 HW6 HO6
        go_wp2_with fail
        go_loopw [56] (fun a wr => ∃ (j : Nat) (o : List Bool) (rows : List (List Bool)) (A1 : Option Addr) (c1 : Nat) (op : List Nat), j ≤ m ∧ a = .int .i64 j ∧ Hid (FolJ cd o rows op i x9 r j) ∧ Hid (FolW b wr o rows A1 c1 op) ∧ Hid (FolO ⟨R, A, I, some ⟨bl, off, none⟩, n, c, l⟩ w b wr) ∧ Hid (ArB wr g9 (behR x9 r)) ∧ Hid (OwnI wr w6.heap.size 3 A7 c7 nx) ∧ Hid (∀ g, A1 = some ⟨g, 0, none⟩ → A7 ≠ some ⟨g, 0, none⟩) ∧ Hid (2 * potF o rows + op.length + 1 ≤ gk)) (fun a _ => m - (intOf a).toNat)
        case atStart => exact ⟨0, o, rows, _, c1, op1, Nat.zero_le _, rfl, HJ0, HW7, HO7, HB7, HN7, HA7, by unfold Hid; rw [HPP.out]; exact HGP.out⟩
        case round =>
          clear HJ0 HW7 HO7 HB7 HN7 HA7 HGP HRI HL8 HRN HR8
          obtain ⟨j, o2, rows2, A2, c2, op2, hj, rfl, HJ, HW, HO, HB, HN, HA, HG⟩ := hrel
          by_cases hjm : j < m
          case neg =>
            obtain rfl : j = m := by omega
            have HI2 := Lib.hid (HJ.out.close (by rw [HNX.out]; exact HML2.out.symm))
            have hgk : 1 ≤ gk := by have := HG.out; omega
            go_wp2_with fail
            go_roundg (gk - 1)
            case measure => omega
            case rel => exact ⟨o2, rows2, A2, c2, op2, HI2, HW, HO, by have := HG.out; unfold Hid; omega⟩
          obtain ⟨z, hz⟩ : ∃ z, nx[j]? = some z := ⟨_, List.getElem?_eq_getElem (by rw [HML2.out]; exact hjm)⟩
          have hzb := HMX.out z (List.mem_of_getElem? hz)
          obtain ⟨k, rfl⟩ : ∃ k : Nat, z = (k : Int) := ⟨z.toNat, by omega⟩
          have hkn : k < n := by omega
          have hjj : (j : Int) < (m : Int) := by omega
          have HZ : Hid ((nextJ x9 (i : Int))[j]? = some (k : Int)) := by unfold Hid; rw [HNX.out]; exact hz
          obtain ⟨g7, hg7, z0⟩ := own_at15 HN.out hz
          subst hg7
          have hpot := HJ.out.base.pot
          rw [HCN.out] at hpot
          have hC := come_any b k (behR x9 r) o2 rows2 A2 c2 op2 wr HW.out (by rw [HJ.out.base.lo, HCN.out, HBN.out]) (by rw [HJ.out.base.la, HCN.out, HBN.out]) HJ.out.base.l8 HBR.out (by rw [HBN.out]; exact hkn) hbn (by omega)
          have HC := Lib.hid hC
          clear hC hpot hz hzb
          go_upto_region 12 with fail
          clear z0
          go_wp2_with (refine wpList_load_row rfl 116 (.tmp 9) rfl g9 rfl _ _ _ _ HB.out under8 rfl (by rw [arA_size, HBR.out]; exact info8) ?_; simp only [Act.put, List.setIfInBounds_toArray, List.set_cons_succ, List.set_cons_zero])
          (with_reducible refine HC.out.mono ?_)
          rintro e w9 ⟨rfl, A9, c9, hk9, hA9, hcase⟩
          obtain ⟨_, l2, _, l4, l5, l6⟩ := HO.out.lo
          have HO9 := Lib.hid (HO.out.kept HW.out.own hk9)
          have hgi := HG9.out
          have hlt := HW.out.lt
          have hin6 := HS6.out
          have hAo : ∀ g, A2 = some ⟨g, 0, none⟩ → ∃ cur fr, wr.heap[g]? = some (.cells cur 3 fr) := fun g hg => by
            rcases HW.out.own.1.2 with ⟨h1, _⟩ | ⟨g', cap, cur, h1, _, h3, _⟩
            · injection h1 with h1; rw [hg] at h1; cases h1
            · injection h1 with h1
              rw [hg] at h1
              injection h1 with h1; injection h1 with h1
              subst h1
              exact ⟨_, _, h3⟩
          have HB9 : Hid (ArB w9 g9 (behR x9 r)) := hk9.at_ HB.out (by omega) (by omega) (by omega) fun g hg => by
            obtain ⟨cur, fr, h3⟩ := hAo g hg
            exact heap_ne HB.out h3 (by decide)
          have hlt7 := HN.out.ltL
          have HN9 : Hid (OwnI w9 w6.heap.size 3 (some ⟨g7, 0, none⟩) c7 nx) := own_same HN.out fun g hg => by
            injection hg with hg; injection hg with hg
            subst hg
            exact hk9.blk g7 hlt7.2 (by omega) (by omega) (by omega) fun g hg e => HA.out g hg (by rw [e])
          have HA9 : Hid (∀ g, A9 = some ⟨g, 0, none⟩ → (some ⟨g7, 0, none⟩ : Option Addr) ≠ some ⟨g, 0, none⟩) := fun g hg => by
            rcases hA9 g hg with h1 | h1
            · exact HA.out g h1
            · intro e
              injection e with e; injection e with e
              omega
          have HK9 : Hid ((∃ o3 rows3 op3, FolJ cd o3 rows3 op3 i x9 r (j + 1) ∧ FolW b w9 o3 rows3 A9 c9 op3 ∧ 2 * potF o3 rows3 + op3.length + 1 ≤ gk)) := by
            have hgg := HG.out
            rcases hcase with ⟨h0, ⟨s, h1, h2⟩, rfl, rfl, h3⟩ | ⟨v, s, t, h0, h1, h2, h3, h4⟩
            · exact ⟨o2, rows2, op2, HJ.out.stay HZ.out h0 h1 h2, h3, hgg⟩
            · obtain ⟨a1, a2⟩ := HJ.out.push HML.out HZ.out h0 h1 h2 h3
              refine ⟨_, _, _, a1, h4, ?_⟩
              rw [List.length_append, List.length_singleton]
              omega
          clear hcase hA9 hk9 hAo hgi hlt hin6 hlt7 HC l2 l4 l5 l6
          obtain ⟨o3, rows3, op3, hJ3, hW3, hG3⟩ := HK9.out
          have HJ3 := Lib.hid hJ3
          have HW3 := Lib.hid hW3
          have HG3 := Lib.hid hG3
          clear hJ3 hW3 hG3 HK9
          go_wp2_with fail
          go_roundw
          case rel => exact ⟨j + 1, o3, rows3, A9, c9, op3, by omega, by go_num, HJ3, HW3, HO9, HB9, HN9, HA9, HG3⟩
          case measure => simp [intOf]; omega
      · exact fun D D' vs w' hD h => h.same (by decide) (by decide) hD
  · exact fun D D' vs w' hD h => h.same hD
end Go.Proofs.YtgkngimeokhhgaaGreatDoor
