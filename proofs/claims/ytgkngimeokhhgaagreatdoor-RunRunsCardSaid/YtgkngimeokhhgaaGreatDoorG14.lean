/- Lists of numbers of the call's own, in a slice of the call's own, that are written to in any order; no two share a block. -/
import Derived.Test.YtgkngimeokhhgaaGreatDoorG4
import Derived.Test.YtgkngimeokhhgaaGreatDoorG3
import Derived.Test.YtgkngimeokhhgaaGreatDoorG13
import Derived.Test.YtgkngimeokhhgaaGreatDoorG5
namespace Go.Proofs.YtgkngimeokhhgaaGreatDoor
open Go.RowKit

structure RowN where
  A : Option Addr
  c : Nat
  L : List Int
def RowN.hdr (r : RowN) : Value := .slice r.A r.L.length r.c
structure RowsN (w : World) (base g : Nat) (rs : List RowN) : Prop where
  rows : w.ownsRow base 36 1 (.slice (some ⟨g, 0, none⟩) rs.length rs.length) rs.length (rs.map RowN.hdr)
  ins : ∀ r ∈ rs, OwnI w base 3 r.A r.c r.L
  apart : ∀ (i j : Nat) (r s : RowN), i ≠ j → rs[i]? = some r → rs[j]? = some s → ∀ g, r.A = some ⟨g, 0, none⟩ → s.A ≠ some ⟨g, 0, none⟩
theorem run_makeRo {P : Program} (t e : TypeId) (i : TypeInfo) (ht : P.underlying t = some (.slice e)) (hi : P.info? e = some i) (hz : i.zero = some (.slice none 0 0)) (h1 : i.size = 1) (h2 : i.bytes = 24) (n : Nat) (hn : n ≤ 100000) (w : World) :
    (Instr.makeSlice t (.int .i64 (n : Int)) (.int .i64 (n : Int))).run P w = .ok (.slice (some ⟨w.heap.size, 0, none⟩) n n) (w.alloc (.cells (Array.replicate n (Value.slice none 0 0)) e)) := by
  have hr := run_make (P := P) w t e i (.slice none 0 0) ht hi hz .i64 .i64 n n (by omega) (by omega) (by rw [h2]; omega) (by omega)
  simp only [Int.toNat_natCast, h1, Nat.mul_one] at hr
  have he : (madeCells #[.slice none 0 0] n) = Array.replicate n (Value.slice none 0 0) := by
    apply Array.ext'
    rw [toList_madeCells_one]
    simp
  have hr2 : (Instr.makeSlice t (.int .i64 (n : Int)) (.int .i64 (n : Int))).run P w = .ok (.slice (some ⟨w.heap.size, 0, none⟩) n n) (w.alloc (.cells (madeCells #[.slice none 0 0] n) e)) := hr
  rw [he] at hr2
  exact hr2
section
variable {w w' w4 : World} {base g : Nat} {rs : List RowN}
theorem RowsN.made (w : World) (base n : Nat) (hb : base ≤ w.heap.size) (hn : n ≤ 100000) : RowsN (w.alloc (.cells (Array.replicate n (Value.slice none 0 0)) 36)) base w.heap.size (List.replicate n ⟨none, 0, []⟩) := by
  refine ⟨?_, fun r hr => ?_, fun i j r s _ hr _ g hA => ?_⟩
  · rw [List.length_replicate, List.map_replicate]
    exact ⟨by simp, .inr ⟨w.heap.size, n, Array.replicate n (Value.slice none 0 0), rfl, hb, heap_alloc_new w _, Nat.le_refl _, by unfold maxLen; omega, by simp, by simp [RowN.hdr]⟩⟩
  · rw [(List.mem_replicate.1 hr).2]
    exact OwnI.nil_ _ _ _
  · have := (List.mem_replicate.1 (List.mem_of_getElem? hr)).2
    rw [this] at hA
    cases hA
theorem RowsN.heap (h : RowsN w base g rs) : base ≤ g ∧ ∃ cur, w.heap[g]? = some (.cells cur 36 (0, 0)) := by
  rcases h.rows.2 with ⟨h1, _⟩ | ⟨g', cap, cur, h1, h2, h3, _⟩
  · injection h1 with h1; cases h1
  · injection h1 with h1; injection h1 with h1; injection h1 with h1
    subst h1
    exact ⟨h2, cur, h3⟩
theorem RowsN.below {B : Nat} (h : RowsN w base g rs) (hb : Below B w w') (hB : w.heap.size ≤ B) : RowsN w' base g rs :=
  ⟨World.ownsRow.kept h.rows ⟨hb.os, hb.tape, hb.output, hb.size, fun i hi _ => hb.block i (by omega)⟩ (row := none) (by cases hh : (Value.slice (some ⟨g, 0, none⟩) rs.length rs.length).ownBlock with | none => exact .inl rfl | some k => exact .inr (by simp)), fun s hs => (h.ins s hs).below hb hB, h.apart⟩
theorem RowsN.at_ {i : Nat} {r : RowN} (h : RowsN w base g rs) (hr : rs[i]? = some r) : w.cell? ⟨g, i, none⟩ = some r.hdr ∧ w.frozen? ⟨g, i, none⟩ = false := by
  have hk := (List.getElem?_eq_some_iff.1 hr).1
  exact ⟨(h.rows.cellAt i (by simpa using hk)).trans (by rw [List.getElem?_map, hr]; rfl), h.rows.frozenAt i⟩
/-- lists stay over what is written to a slice of slices -/
theorem OwnI.past_rowsN {base' c' : Nat} {A : Option Addr} {xs : List Int} {cur : Array Value} (hO : OwnI w base' 3 A c' xs) (hg : w.heap[g]? = some (.cells cur 36 (0, 0))) (hG : w.grownBy w' (some g)) : OwnI w' base' 3 A c' xs := by
  refine hO.grownL hG fun k e => ?_
  intro e2
  injection e2 with e2
  subst e2
  rcases hO.1.2 with ⟨h1, _⟩ | ⟨g', cap, cur2, h1, _, h3, _⟩
  · injection h1 with h1; rw [e] at h1; cases h1
  · injection h1 with h1
    rw [e] at h1
    injection h1 with h1; injection h1 with h1
    subst h1
    rw [hg] at h3
    injection h3 with h3; injection h3 with _ h3
    exact absurd h3 (by decide)
/-- the i-th list has a number more -/
theorem RowsN.put {i : Nat} {r : RowN} {v : Int} {c4 : Nat} {A4 : Option Addr} (h : RowsN w base g rs) (hr : rs[i]? = some r) (hO : OwnI w4 base 3 A4 c4 (r.L ++ [v])) (hG : w.grownBy w4 (Value.slice r.A r.L.length r.c).ownBlock) (hl : ∀ b, A4 = some ⟨b, 0, none⟩ → r.A = some ⟨b, 0, none⟩ ∨ w.heap.size ≤ b) :
    RowsN (w4.setCell ⟨g, i, none⟩ (.slice A4 (r.L.length + 1) c4)) base g (rs.set i ⟨A4, c4, r.L ++ [v]⟩) ∧ w4.cell? ⟨g, i, none⟩ = some r.hdr ∧ w4.frozen? ⟨g, i, none⟩ = false ∧ (∀ B w0, B ≤ base → Below B w0 w → Below B w0 (w4.setCell ⟨g, i, none⟩ (.slice A4 (r.L.length + 1) c4))) ∧
      (∀ (b : Nat) (cs : Array Value) (t : TypeId), w.heap[b]? = some (.cells cs t (0, 0)) → t ≠ 3 → t ≠ 36 → (w4.setCell ⟨g, i, none⟩ (.slice A4 (r.L.length + 1) c4)).heap[b]? = some (.cells cs t (0, 0))) := by
  have hrm := List.mem_of_getElem? hr
  have hrO := h.ins r hrm
  have hil := (List.getElem?_eq_some_iff.1 hr).1
  obtain ⟨hbg, cur, hg⟩ := h.heap
  have hltg := (Array.getElem?_eq_some_iff.1 hg).1
  -- the row's own block is of numbers
  have hrb : ∀ b, (Value.slice r.A r.L.length r.c).ownBlock = some b → base ≤ b ∧ ∃ cs, w.heap[b]? = some (.cells cs 3 (0, 0)) := by
    intro b hb
    rcases hrO.1.2 with ⟨h1, _⟩ | ⟨g', cap, cur2, h1, h2, h3, _⟩
    · rw [h1] at hb; cases hb
    · rw [h1] at hb
      simp only [Value.ownBlock, Option.some.injEq] at hb
      subst hb
      exact ⟨h2, cur2, h3⟩
  have hne : some g ≠ (Value.slice r.A r.L.length r.c).ownBlock := by
    intro e
    obtain ⟨_, cs, h2⟩ := hrb g e.symm
    rw [hg] at h2
    injection h2 with h2; injection h2 with _ h2
    exact absurd h2 (by decide)
  have hg4 : w4.heap[g]? = some (.cells cur 36 (0, 0)) := (hG.block g hltg hne).trans hg
  have hrows4 : w4.ownsRow base 36 1 (.slice (some ⟨g, 0, none⟩) rs.length rs.length) rs.length (rs.map RowN.hdr) :=
    World.ownsRow.kept h.rows hG (.inr (by simpa [Value.ownBlock] using hne))
  obtain ⟨hst, hgs⟩ := hrows4.stored i (.slice A4 (r.L.length + 1) c4)
  have hothers : ∀ j s, j ≠ i → rs[j]? = some s → OwnI w4 base 3 s.A s.c s.L := by
    intro j s hj hs
    refine (h.ins s (List.mem_of_getElem? hs)).grownL hG fun b e e2 => ?_
    rcases hrO.1.2 with ⟨h1, _⟩ | ⟨g', cap, cur2, h1, _⟩
    · rw [h1] at e2; cases e2
    · rw [h1] at e2
      simp only [Value.ownBlock, Option.some.injEq] at e2
      subst e2
      injection h1 with h1
      exact h.apart j i s r hj hs hr b e h1
  refine ⟨⟨?_, fun s hs => ?_, fun a b s t hab hs ht k hk => ?_⟩, ?_, hrows4.frozenAt _, fun B w0 hB hb0 => ?_, fun b cs t hb h1 h2 => ?_⟩
  · rw [List.length_set, List.map_set]
    have e : RowN.hdr ⟨A4, c4, r.L ++ [v]⟩ = .slice A4 (r.L.length + 1) c4 := by simp [RowN.hdr]
    rw [e]
    exact hst
  · obtain ⟨j, hj⟩ := List.getElem?_of_mem hs
    by_cases e : i = j
    · subst e
      rw [List.getElem?_set_self hil] at hj
      injection hj with hj
      subst hj
      exact hO.past_rowsN hg4 hgs
    · rw [List.getElem?_set_ne e] at hj
      exact (hothers j s (Ne.symm e) hj).past_rowsN hg4 hgs
  · have hnew : ∀ j s, j ≠ i → rs[j]? = some s → ∀ k, s.A = some ⟨k, 0, none⟩ → A4 ≠ some ⟨k, 0, none⟩ := by
      intro j s hj hs k hk e
      rcases hl k e with h1 | h1
      · exact h.apart j i s r hj hs hr k hk h1
      · have hsO := h.ins s (List.mem_of_getElem? hs)
        rw [hk] at hsO
        have := hsO.ltL.2
        omega
    by_cases ea : a = i
    · subst ea
      rw [List.getElem?_set_self hil] at hs
      injection hs with hs
      subst hs
      rw [List.getElem?_set_ne hab] at ht
      intro e
      exact hnew b t (Ne.symm hab) ht k e hk
    · rw [List.getElem?_set_ne (Ne.symm ea)] at hs
      by_cases eb : b = i
      · subst eb
        rw [List.getElem?_set_self hil] at ht
        injection ht with ht
        subst ht
        exact hnew a s ea hs k hk
      · rw [List.getElem?_set_ne (Ne.symm eb)] at ht
        exact h.apart a b s t hab hs ht k hk
  · exact (hrows4.cellAt i (by simpa using hil)).trans (by rw [List.getElem?_map, hr]; rfl)
  · have hb4 : Below B w0 w4 := hb0.grown hG (by omega) fun k hk => Nat.le_trans hB (hrb k hk).1
    exact hb4.setCell (by show B ≤ g; omega) _
  · have hlt := (Array.getElem?_eq_some_iff.1 hb).1
    have n1 : some b ≠ (Value.slice r.A r.L.length r.c).ownBlock := by
      intro e
      obtain ⟨_, cs2, h3⟩ := hrb b e.symm
      rw [hb] at h3
      injection h3 with h3; injection h3 with _ h3
      exact h1 h3
    have n2 : b ≠ g := by
      intro e
      subst e
      rw [hg] at hb
      injection hb with hb; injection hb with _ hb
      exact h2 hb.symm
    exact (Below.heap_setCell _ ⟨g, i, none⟩ _ _ n2).trans ((hG.block b hlt n1).trans hb)
/-- lists of the call's own read as lists -/
theorem RowsN.reads (h : RowsN w base g rs) : IntsLL w w.heap.size (some ⟨g, 0, none⟩) rs.length (rs.map (·.L)) := by
  obtain ⟨_, cur, hg⟩ := h.heap
  refine ⟨by simp, fun _ => ⟨g, 0, rfl, lt_of_heap hg, fun k L hL => ?_⟩⟩
  rw [List.getElem?_map, Option.map_eq_some_iff] at hL
  obtain ⟨r, hr, rfl⟩ := hL
  have hO := h.ins r (List.mem_of_getElem? hr)
  rw [Nat.zero_add]
  exact ⟨r.A, r.c, (h.at_ hr).1, OwnI.len_cap hO, hO.ints⟩
end
end Go.Proofs.YtgkngimeokhhgaaGreatDoor
/- What the document's valid tells, as calls' ends; which registers are surely set, register by register. -/
namespace Go.Proofs.YtgkngimeokhhgaaGreatDoor
open Go.RowKit

noncomputable def reachC (c : Cd) : List Bool := if c.may then reachB c (-1) else []
noncomputable def setC (c : Cd) : List (List Int) := if c.may then setsN c else []
noncomputable def unsetC (c : Cd) : List Int := if c.may then (unsetN c).map (fun n : Nat => (n : Int)) else []
noncomputable def loopsC (c : Cd) : List Int := if c.may then (loopsN c).map (fun n : Nat => (n : Int)) else []
def ReachP (q : Cq) (w : World) (e : Ending) (w' : World) : Prop := ∃ A n c, e = .returned (.tuple #[.slice A n c, .int .i64 q.cd.e]) ∧ Bools w' w'.heap.size A n (reachC q.cd) ∧ Below w.heap.size w w'
def SetP (q : Cq) (w : World) (e : Ending) (w' : World) : Prop := ∃ A n c, e = .returned (.tuple #[.slice A n c, .int .i64 q.cd.e]) ∧ IntsLL w' w'.heap.size A n (setC q.cd) ∧ n ≤ c ∧ Below w.heap.size w w'
def UnsetP (q : Cq) (w : World) (e : Ending) (w' : World) : Prop := ∃ A n c, e = .returned (.tuple #[.slice A n c, .int .i64 q.cd.e]) ∧ Ints w' w'.heap.size A n (unsetC q.cd) ∧ Below w.heap.size w w'
def LoopsP (q : Cq) (w : World) (e : Ending) (w' : World) : Prop := ∃ A n c, e = .returned (.tuple #[.slice A n c, .int .i64 q.cd.e]) ∧ Ints w' w'.heap.size A n (loopsC q.cd) ∧ Below w.heap.size w w'
def ValidP (q : Cq) (w : World) (e : Ending) (w' : World) : Prop := e = .returned (.int .i64 (validE q.cd)) ∧ Below w.heap.size w w'
theorem Cd.e_yes {c : Cd} (h : c.may = true) : c.e = 0 := by unfold Cd.e; rw [h]; rfl
theorem Cd.e_no {c : Cd} (h : c.may = false) : c.e = 1 := by unfold Cd.e; rw [h]; rfl
open Classical in
/-- those of the first k registers that are surely set -/
noncomputable def setK (c : Cd) (k : Nat) (i : Nat) : List Int := ((List.range k).filter fun (n : Nat) => decide (Way c.l (-1) i ∧ ¬ Way c.l (n : Int) i)).map fun (n : Nat) => (n : Int)
theorem setK_all (c : Cd) (i : Nat) : setK c c.R.toNat i = setN c i := rfl
theorem setK_yes {c : Cd} {k i : Nat} (h1 : Way c.l (-1) i) (h2 : ¬ Way c.l (k : Int) i) : setK c (k + 1) i = setK c k i ++ [(k : Int)] := by
  unfold setK
  rw [List.range_succ, List.filter_append, List.map_append]
  congr 1
  rw [List.filter_cons_of_pos (by simpa using ⟨h1, h2⟩)]; rfl
theorem setK_no {c : Cd} {k i : Nat} (h : ¬ (Way c.l (-1) i ∧ ¬ Way c.l (k : Int) i)) : setK c (k + 1) i = setK c k i := by
  unfold setK
  rw [List.range_succ, List.filter_append, List.map_append, List.filter_cons_of_neg (by simpa using h)]
  simp
theorem setK_len (c : Cd) (k i : Nat) : (setK c k i).length ≤ k := by
  unfold setK
  rw [List.length_map]
  refine Nat.le_trans (List.length_filter_le _ _) ?_
  simp
/-- the lists ahead of instruction i have what is told of register k, too -/
structure SetI (c : Cd) (k i : Nat) (rs : List RowN) : Prop where
  len : rs.length = c.l.length
  at_ : ∀ (j : Nat) (r : RowN), rs[j]? = some r → r.L = setK c (if j < i then k + 1 else k) j
theorem SetI.start (c : Cd) {n : Nat} (hn : c.l.length = n) : SetI c 0 0 (List.replicate n ⟨none, 0, []⟩) :=
  ⟨by simp [hn], fun j r hr => by rw [(List.mem_replicate.1 (List.mem_of_getElem? hr)).2, if_neg (by omega)]; rfl⟩
theorem SetI.next {c : Cd} {k n : Nat} {rs : List RowN} (hn : c.l.length = n) (h : SetI c k n rs) : SetI c (k + 1) 0 rs := by
  refine ⟨h.len, fun j r hr => ?_⟩
  have hj : j < n := by have := (List.getElem?_eq_some_iff.1 hr).1; rw [h.len, hn] at this; exact this
  rw [if_neg (by omega), h.at_ j r hr, if_pos hj]
theorem SetI.skip {c : Cd} {k i : Nat} {rs : List RowN} (h : SetI c k i rs) (hw : ¬ (Way c.l (-1) i ∧ ¬ Way c.l (k : Int) i)) : SetI c k (i + 1) rs := by
  refine ⟨h.len, fun j r hr => ?_⟩
  rw [h.at_ j r hr]
  by_cases e : j = i
  · subst e
    rw [if_neg (by omega), if_pos (by omega), setK_no hw]
  · by_cases h2 : j < i
    · rw [if_pos h2, if_pos (by omega)]
    · rw [if_neg h2, if_neg (by omega)]
theorem SetI.put {c : Cd} {k i c4 : Nat} {A4 : Option Addr} {r : RowN} {rs : List RowN} (h : SetI c k i rs) (hr : rs[i]? = some r) (h1 : Way c.l (-1) i) (h2 : ¬ Way c.l (k : Int) i) : SetI c k (i + 1) (rs.set i ⟨A4, c4, r.L ++ [(k : Int)]⟩) := by
  refine ⟨by rw [List.length_set]; exact h.len, fun j s hs => ?_⟩
  by_cases e : i = j
  · subst e
    rw [List.getElem?_set_self (List.getElem?_eq_some_iff.1 hr).1] at hs
    injection hs with hs
    subst hs
    show r.L ++ [(k : Int)] = _
    rw [if_pos (by omega), setK_yes h1 h2, h.at_ i r hr, if_neg (by omega)]
  · rw [List.getElem?_set_ne e] at hs
    rw [h.at_ j s hs]
    by_cases h3 : j < i
    · rw [if_pos h3, if_pos (by omega)]
    · rw [if_neg h3, if_neg (by omega)]
theorem SetI.done {c : Cd} {rs : List RowN} (h : SetI c c.R.toNat 0 rs) : rs.map (·.L) = setsN c := by
  apply List.ext_getElem?
  intro j
  unfold setsN
  by_cases hj : j < c.l.length
  · have hjr : j < rs.length := by rw [h.len]; exact hj
    rw [List.getElem?_map, List.getElem?_map, List.getElem?_range hj, List.getElem?_eq_getElem hjr]
    simp only [Option.map_some, Option.some.injEq]
    rw [h.at_ j _ (List.getElem?_eq_getElem hjr), if_neg (by omega)]
    exact setK_all c j
  · rw [List.getElem?_eq_none (by simp [h.len]; omega), List.getElem?_eq_none (by simp; omega)]
open Classical in
theorem reachB_at {c : Cd} {but : Int} {i : Nat} (hi : i < c.l.length) : (reachB c but)[i]? = some (decide (Way c.l but i)) := by
  unfold reachB
  rw [List.getElem?_map, List.getElem?_range hi]; rfl
theorem reachB_len (c : Cd) (but : Int) : (reachB c but).length = c.l.length := by simp [reachB]
theorem reachB_iff {c : Cd} {but : Int} {i : Nat} {v : Bool} (h : (reachB c but)[i]? = some v) : v = true ↔ Way c.l but i := by
  have hi : i < c.l.length := by have := (List.getElem?_eq_some_iff.1 h).1; rwa [reachB_len] at this
  rw [reachB_at hi] at h
  injection h with h
  rw [← h]
  simp
theorem reachB_get {c : Cd} (but : Int) {i : Nat} (hi : i < c.l.length) : ∃ v, (reachB c but)[i]? = some v := ⟨_, reachB_at hi⟩
end Go.Proofs.YtgkngimeokhhgaaGreatDoor
/- The document's Reach, and Set. -/
namespace Go.Proofs.YtgkngimeokhhgaaGreatDoor
open Go.RowKit

set_option maxRecDepth 100000 in
set_option maxHeartbeats 4000000 in
theorem refReach15_any (q : Cq) (w : World) (hq : q.In w) : Calls Tryz.prog 79 #[q.val] w (ReachP q w) := by
  have HQ := Lib.hid hq
  obtain ⟨R, A, I, P, n, c, l⟩ := q
  have HLN : Hid (l.length = n) := hq.len
  obtain ⟨W0, hW0⟩ : ∃ W, w.alloc (Cq.obj ⟨R, A, I, P, n, c, l⟩) = W := ⟨_, rfl⟩
  have HB0 : Hid (Below w.heap.size w W0) := by rw [← hW0]; exact lvBelow w _
  have HX0 : Hid (W0.heap[w.heap.size]? = some (Cq.obj ⟨R, A, I, P, n, c, l⟩)) := by rw [← hW0]; exact heap_alloc_new w _
  have hC := refCheck14_any ⟨R, A, I, P, n, c, l⟩ W0 (hq.on HB0.out)
  unfold CkP at hC
  obtain ⟨k0, k1, k2, k3, _⟩ := lvCells HX0.out
  clear hq
  cases hm : Cd.may (Cq.cd ⟨R, A, I, P, n, c, l⟩) with
  | false =>
    have HE := Lib.hid (Cd.e_no hm)
    have HD : Hid (reachC (Cq.cd ⟨R, A, I, P, n, c, l⟩) = []) := by unfold Hid reachC; rw [hm]; rfl
    rw [HE.out] at hC
    clear hm
    go_enter Tryz.func79, Tryz.ntmps79
    go_wp2_with fail
    try rw [hW0]
    refine hC.mono ?_
    rintro e w1 ⟨rfl, hb⟩
    have HB1 := Lib.hid (HB0.out.trans (hb.mono HB0.out.size))
    clear hb hC k0 k1 k2 k3
    go_wp2_with fail
    go_ret2
    exact ⟨none, 0, 0, by rw [HE.out]; rfl, by rw [HD.out]; exact Bools.nil_, HB1.out⟩
  | true =>
    have HE := Lib.hid (Cd.e_yes hm)
    have HD : Hid (reachC (Cq.cd ⟨R, A, I, P, n, c, l⟩) = reachB (Cq.cd ⟨R, A, I, P, n, c, l⟩) (-1)) := by unfold Hid reachC; rw [hm]; rfl
    have HM := Lib.hid hm
    rw [HE.out] at hC
    clear hm
    go_enter Tryz.func79, Tryz.ntmps79
    go_wp2_with fail
    try rw [hW0]
    refine hC.mono ?_
    rintro e w1 ⟨rfl, hb⟩
    have HB1 := Lib.hid (HB0.out.trans (hb.mono HB0.out.size))
    have HX1 := Lib.hid (keep_b hb HX0.out)
    clear hb hC k0 k1 k2 k3
    obtain ⟨k0, k1, k2, k3, _⟩ := lvCells HX1.out
    go_wp2_with fail
    refine (refReachI_any ⟨R, A, I, P, n, c, l⟩ (-1) w1 (HQ.out.on HB1.out) HM.out).mono ?_
    rintro e w2 ⟨g, rfl, _, hO, hb⟩
    have HB2 := Lib.hid (HB1.out.trans (hb.mono HB1.out.size))
    have HO := Lib.hid hO
    clear hb hO k0 k1 k2 k3
    go_wp2_with fail
    go_ret2
    exact ⟨some ⟨g, 0, none⟩, n, n, by rw [HE.out]; rfl, by rw [HD.out]; exact HO.out.bools ((reachB_len _ _).trans HLN.out), HB2.out⟩
/-- where the variables of Set lie -/
structure SetW (w w1 : World) (q : Cq) (g : Nat) (W : World) (rs : List RowN) : Prop where
  bel : Below w.heap.size w W
  bel1 : Below w1.heap.size w1 W
  lt : w.heap.size < w1.heap.size
  bx : W.heap[w.heap.size]? = some q.obj
  rows : RowsN W w1.heap.size g rs
theorem SetW.on {w w1 W W' : World} {q : Cq} {g : Nat} {rs : List RowN} (h : SetW w w1 q g W rs) (hb : Below W.heap.size W W') : SetW w w1 q g W' rs :=
  ⟨h.bel.trans (hb.mono h.bel.size), h.bel1.trans (hb.mono h.bel1.size), h.lt, keep_b hb h.bx, h.rows.below hb (Nat.le_refl _)⟩
theorem SetW.put {w w1 W w4 : World} {q : Cq} {g i c4 p : Nat} {A4 : Option Addr} {rs : List RowN} {r : RowN} {v : Int} (h : SetW w w1 q g W rs) (hr : rs[i]? = some r) (hp : r.L.length = p) (hO : OwnI w4 w1.heap.size 3 A4 c4 (r.L ++ [v])) (hG : W.grownBy w4 (Value.slice r.A p r.c).ownBlock) (hl : ∀ b, A4 = some ⟨b, 0, none⟩ → r.A = some ⟨b, 0, none⟩ ∨ W.heap.size ≤ b) :
    SetW w w1 q g (w4.setCell ⟨g, i, none⟩ (.slice A4 (p + 1) c4)) (rs.set i ⟨A4, c4, r.L ++ [v]⟩) ∧ w4.cell? ⟨g, i, none⟩ = some (.slice r.A p r.c) ∧ w4.frozen? ⟨g, i, none⟩ = false ∧ (∀ bw bs, BoB W bw bs → BoB (w4.setCell ⟨g, i, none⟩ (.slice A4 (p + 1) c4)) bw bs) := by
  subst hp
  obtain ⟨h1, h2, h3, h4, h5⟩ := h.rows.put hr hO hG hl
  have := h.lt
  exact ⟨⟨h4 _ _ (by omega) h.bel, h4 _ _ (Nat.le_refl _) h.bel1, h.lt, h5 _ _ _ h.bx (by decide) (by decide), h1⟩, h2, h3, fun bw bs hb => h5 _ _ _ hb (by decide) (by decide)⟩
set_option maxRecDepth 100000 in
set_option maxHeartbeats 8000000 in
theorem refSet15_any (q : Cq) (w : World) (hq : q.In w) : Calls Tryz.prog 80 #[q.val] w (SetP q w) := by
  have HQ := Lib.hid hq
  obtain ⟨R, A, I, P, n, c, l⟩ := q
  have HLN : Hid (l.length = n) := hq.len
  obtain ⟨W0, hW0⟩ : ∃ W, w.alloc (Cq.obj ⟨R, A, I, P, n, c, l⟩) = W := ⟨_, rfl⟩
  have HB0 : Hid (Below w.heap.size w W0) := by rw [← hW0]; exact lvBelow w _
  have HX0 : Hid (W0.heap[w.heap.size]? = some (Cq.obj ⟨R, A, I, P, n, c, l⟩)) := by rw [← hW0]; exact heap_alloc_new w _
  have hC := refReach15_any ⟨R, A, I, P, n, c, l⟩ W0 (hq.on HB0.out)
  unfold ReachP at hC
  obtain ⟨k0, k1, k2, k3, _⟩ := lvCells HX0.out
  clear hq
  cases hm : Cd.may (Cq.cd ⟨R, A, I, P, n, c, l⟩) with
  | false =>
    have HE := Lib.hid (Cd.e_no hm)
    have HD : Hid (setC (Cq.cd ⟨R, A, I, P, n, c, l⟩) = []) := by unfold Hid setC; rw [hm]; rfl
    rw [HE.out] at hC
    clear hm
    go_enter Tryz.func80, Tryz.ntmps80
    go_wp2_with fail
    try rw [hW0]
    refine hC.mono ?_
    rintro e w1 ⟨A1, n1, c1, rfl, _, hb⟩
    have HB1 := Lib.hid (HB0.out.trans (hb.mono HB0.out.size))
    clear hb hC k0 k1 k2 k3
    go_wp2_with fail
    go_ret2
    exact ⟨none, 0, 0, by rw [HE.out]; rfl, by rw [HD.out]; exact IntsLL.nil_ _ _ _, Nat.le_refl _, HB1.out⟩
  | true =>
    have HE := Lib.hid (Cd.e_yes hm)
    have HD : Hid (setC (Cq.cd ⟨R, A, I, P, n, c, l⟩) = setsN (Cq.cd ⟨R, A, I, P, n, c, l⟩)) := by unfold Hid setC; rw [hm]; rfl
    have HRC : Hid (reachC (Cq.cd ⟨R, A, I, P, n, c, l⟩) = reachB (Cq.cd ⟨R, A, I, P, n, c, l⟩) (-1)) := by unfold Hid reachC; rw [hm]; rfl
    have HM := Lib.hid hm
    obtain ⟨⟨hR0, hR1, _, _, _, _, hl0, hl1⟩, _⟩ := Cd.may_parts hm
    have hR0 : 0 ≤ R := hR0
    have hR1 : R ≤ 128 := hR1
    have hl0 : 1 ≤ l.length := hl0
    have hl1 : l.length ≤ 4096 := hl1
    rw [HLN.out] at hl0 hl1
    obtain ⟨K, rfl⟩ : ∃ K : Nat, R = (K : Int) := ⟨R.toNat, by omega⟩
    obtain ⟨i2, hi2, hx0, hx1, hx2⟩ := info_parts infoRow
    have hmk := fun W => run_makeRo (P := Tryz.prog) 123 36 i2 Tryz.underlying123 hi2 hx0 hx1 hx2 n (by omega) W
    rw [HE.out, HRC.out] at hC
    clear hm
    go_enter Tryz.func80, Tryz.ntmps80
    go_wp2_with fail
    try rw [hW0]
    refine hC.mono ?_
    rintro e w1 ⟨A1, n1, c1, rfl, hO, hb⟩
    have HB1 := Lib.hid (HB0.out.trans (hb.mono HB0.out.size))
    have HX1 := Lib.hid (keep_b hb HX0.out)
    have hn1 : n1 = n := by rw [← hO.1, reachB_len]; exact HLN.out
    subst hn1
    have HO := Lib.hid hO
    clear hb hC hO k0 k1 k2 k3 hW0
    obtain ⟨k0, k1, k2, k3, _⟩ := lvCells HX1.out
    obtain ⟨W2, hW2⟩ : ∃ W, w1.alloc (.cells (Array.replicate n1 (Value.slice none 0 0)) 36) = W := ⟨_, rfl⟩
    obtain ⟨g, hg⟩ : ∃ z, w1.heap.size = z := ⟨_, rfl⟩
    have hb2 : Below w1.heap.size w1 W2 := by rw [← hW2]; exact lvBelow _ _
    have HB2 := Lib.hid (HB1.out.trans (hb2.mono HB1.out.size))
    have HX2 := Lib.hid (keep_b hb2 HX1.out)
    have HC2 := Lib.hid hb2
    have HRW : Hid (RowsN W2 w1.heap.size g (List.replicate n1 ⟨none, 0, []⟩)) := by rw [← hg, ← hW2]; exact RowsN.made w1 w1.heap.size n1 (Nat.le_refl _) (by omega)
    have HW2 := Lib.hid hW2
    have HGG := Lib.hid hg
    clear hW2 hg hb2
    go_upto_region 5 with fail
    rw [HW2.out, HGG.out]
    clear k0 k1 k2 k3 hmk HW2
    obtain ⟨k0, k1, k2, k3, _⟩ := lvCells HX2.out
    go_wp2_with fail
    clear k0 k1 k2 k3
    have HW0 : Hid (SetW w w1 ⟨(K : Int), A, I, P, n1, c, l⟩ g W2 (List.replicate n1 ⟨none, 0, []⟩)) := ⟨HB2.out, HC2.out, lt_of_heap HX1.out, HX2.out, HRW.out⟩
    obtain ⟨i1, hi1, hy0, hy1, hy2⟩ := info_parts infoInt
    obtain ⟨cd, hcd⟩ : ∃ cd, Cq.cd ⟨(K : Int), A, I, P, n1, c, l⟩ = cd := ⟨_, rfl⟩
    have HCL : Hid (cd.l.length = n1) := by rw [← hcd]; exact HLN
    have HCR : Hid (cd.R.toNat = K) := by rw [← hcd]; exact Int.toNat_natCast K
    have HRI : Hid (∀ (b : Int) (W : World), Below w.heap.size w W → W.heap[w.heap.size]? = some (Cq.obj ⟨(K : Int), A, I, P, n1, c, l⟩) → Calls Tryz.prog 94 #[Cq.val ⟨(K : Int), A, I, P, n1, c, l⟩, .int .i64 b] W (RchP ⟨(K : Int), A, I, P, n1, c, l⟩ b W)) := fun b W hb _ => refReachI_any _ b W (HQ.out.on hb) HM.out
    rw [hcd] at HO HD HE
    have HSI0 : Hid (SetI cd 0 0 (List.replicate n1 ⟨none, 0, []⟩)) := SetI.start cd HCL.out
    have HCD := Lib.hid hcd
    clear hcd HGG
    go_loopw [24] (fun a wr => ∃ (k : Nat) (rs : List RowN), k ≤ K ∧ a = .int .i64 k ∧ Hid (SetI cd k 0 rs) ∧ Hid (SetW w w1 ⟨(K : Int), A, I, P, n1, c, l⟩ g wr rs)) (fun a _ => K - (intOf a).toNat)
    case atStart => exact ⟨0, _, Nat.zero_le _, rfl, HSI0, HW0⟩
    case round =>
      obtain ⟨k, rs, hk, rfl, HS, HW⟩ := hrel
      by_cases hkK : k < K
      case neg =>
        obtain rfl : k = K := by omega
        have HDN : Hid (rs.map (·.L) = setsN cd) := SetI.done (by rw [HCR.out]; exact HS.out)
        have HLL : Hid (rs.length = n1) := Lib.hid (HS.out.len.trans HCL.out)
        go_wp2_with fail
        go_ret2
        have hrd := HW.out.rows.reads
        rw [HDN.out, HLL.out] at hrd
        exact ⟨some ⟨g, 0, none⟩, n1, n1, by rw [HCD.out, HE.out]; rfl, by rw [HCD.out, HD.out]; exact hrd, Nat.le_refl _, HW.out.bel⟩
      have hkk : (k : Int) < (K : Int) := by omega
      obtain ⟨k0, k1, k2, k3, _⟩ := lvCells HW.out.bx
      have hRC := HRI.out (k : Int) wr HW.out.bel HW.out.bx
      obtain ⟨wo, rfl⟩ : ∃ wo : World, wo = wr := ⟨_, rfl⟩
      unfold RchP at hRC
      rw [HCD.out] at hRC
      go_wp2_with fail
      (with_reducible refine hRC.mono ?_)
      rintro e w5 ⟨gw, rfl, _, hOw, hb⟩
      have HW5 := Lib.hid (HW.out.on hb)
      have HOW := Lib.hid hOw
      clear hb hOw hRC k0 k1 k2 k3
      obtain ⟨k0, k1, k2, k3, _⟩ := lvCells HW5.out.bx
      go_wp2_with fail
      clear k0 k1 k2 k3
      go_loopw [33] (fun a wr => ∃ (i : Nat) (rs : List RowN), i ≤ n1 ∧ a = .int .i64 i ∧ Hid (SetI cd k i rs) ∧ Hid (SetW w w1 ⟨(K : Int), A, I, P, n1, c, l⟩ g wr rs) ∧ Hid (BoB wr gw (reachB cd (k : Int)))) (fun a _ => n1 - (intOf a).toNat)
      case atStart => exact ⟨0, rs, Nat.zero_le _, rfl, HS, HW5, HOW⟩
      case round =>
        obtain ⟨i, rs, hi, rfl, HS, HW, HOW⟩ := hrel
        by_cases hin : i < n1
        case neg =>
          obtain rfl : i = n1 := by omega
          have HS2 : Hid (SetI cd (k + 1) 0 rs) := SetI.next HCL.out HS.out
          go_wp2_with fail
          go_roundw
          case rel => exact ⟨k + 1, rs, by omega, by go_num, HS2, HW⟩
          case measure => simp [intOf]; omega
        have hii : (i : Int) < (n1 : Int) := by omega
        obtain ⟨ba, offa, v, hA1, _, hv, v0⟩ := (HO.out.keep fun p hp => HW.out.bel1.cell hp).at_ hin
        subst hA1
        have hic : i < cd.l.length := by rw [HCL.out]; exact hin
        have hv2 := reachB_iff hv.out
        obtain ⟨u, hu⟩ := reachB_get (c := cd) (k : Int) hic
        have hu2 := reachB_iff hu
        obtain ⟨u0, _⟩ := HOW.out.at_ hu
        have HU := Lib.hid hu2
        have HV := Lib.hid hv2
        clear hv hu hu2 hv2
        cases v with
        | false =>
          have HS2 : Hid (SetI cd k (i + 1) rs) := HS.out.skip (fun h => absurd h.1 (fun hw => by have := HV.out.2 hw; cases this))
          go_wp2_with fail
          go_roundw
          case rel => exact ⟨i + 1, rs, by omega, by go_num, HS2, HW, HOW⟩
          case measure => simp [intOf]; omega
        | true =>
          cases u with
          | true =>
            have HS2 : Hid (SetI cd k (i + 1) rs) := HS.out.skip (fun h => absurd (HU.out.1 rfl) h.2)
            go_wp2_with fail
            go_roundw
            case rel => exact ⟨i + 1, rs, by omega, by go_num, HS2, HW, HOW⟩
            case measure => simp [intOf]; omega
          | false =>
            obtain ⟨r, hr⟩ : ∃ r, rs[i]? = some r := ⟨_, List.getElem?_eq_getElem (by rw [HS.out.len]; exact hic)⟩
            have hrL : r.L.length ≤ k := by rw [HS.out.at_ i r hr, if_neg (by omega)]; exact setK_len _ _ _
            have HRR := Lib.hid hr
            obtain ⟨rv, _⟩ := HW.out.rows.at_ hr
            have HRO : Hid (OwnI wr w1.heap.size 3 r.A r.c r.L) := HW.out.rows.ins r (List.mem_of_getElem? hr)
            obtain ⟨p, hp⟩ : ∃ p, r.L.length = p := ⟨_, rfl⟩
            have HPL := Lib.hid hp
            have hrv : wr.cell? ⟨g, i, none⟩ = some (.slice r.A p r.c) := by rw [rv, ← hp]; rfl
            rw [hp] at hrL
            have hsz : w1.heap.size ≤ wr.heap.size := HW.out.bel1.size
            have HWA : Hid (SetW w w1 ⟨(K : Int), A, I, P, n1, c, l⟩ g (wr.alloc (.cells #[.int .i64 (k : Int)] 3)) rs) := HW.out.on (lvBelow _ _)
            have HOA : Hid (BoB (wr.alloc (.cells #[.int .i64 (k : Int)] 3)) gw (reachB cd (k : Int))) := HOW.out.keep (lvBelow _ _)
            clear hr rv hp
            go_wp2_with (at_builtin; refine wpList_appendWhere _ rfl (.tmp 52) (.tmp 54) 36 rfl w1.heap.size 3 i1 Tryz.underlying36 hi1 hy0 hy1 hy2 r.A (some ⟨wr.heap.size, 0, none⟩) r.c 1 1 (wr.heap.size + 1) p (p + 1) r.L [(k : Int)] rfl rfl (HRO.out.alloc _) HPL.out rfl (src_new wr ⟨by omega, by omega⟩) (by omega) (by simp; omega) ?_; intro A4 c4 w4 hO4 hG4 hL4; obtain ⟨P1, P2, P3, P4⟩ := HWA.out.put HRR.out HPL.out hO4 hG4 hL4; have HP1 := Lib.hid P1; have HP4 := Lib.hid P4; clear P1 P4 hO4 hG4 hL4)
            have HS2 : Hid (SetI cd k (i + 1) (rs.set i ⟨A4, c4, r.L ++ [(k : Int)]⟩)) := HS.out.put HRR.out (HV.out.1 rfl) (fun hw => by have := HU.out.2 hw; cases this)
            have HOW4 : Hid (BoB (w4.setCell ⟨g, i, none⟩ (.slice A4 (p + 1) c4)) gw (reachB cd (k : Int))) := HP4.out _ _ HOA.out
            go_roundw
            case rel => exact ⟨i + 1, _, by omega, by go_num, HS2, HP1, HOW4⟩
            case measure => simp [intOf]; omega
end Go.Proofs.YtgkngimeokhhgaaGreatDoor
/- Lists of places that are told by a mark; the document's 'is a number in a list'. -/
namespace Go.Proofs.YtgkngimeokhhgaaGreatDoor
open Go.RowKit

/-- those of the first i places that are marked -/
def flN (p : Nat → Bool) (i : Nat) : List Int := ((List.range i).filter p).map fun n : Nat => (n : Int)
theorem flN_yes {p : Nat → Bool} {i : Nat} (h : p i = true) : flN p (i + 1) = flN p i ++ [(i : Int)] := by
  unfold flN
  rw [List.range_succ, List.filter_append, List.map_append]
  simp [h]
theorem flN_no {p : Nat → Bool} {i : Nat} (h : p i = false) : flN p (i + 1) = flN p i := by
  unfold flN
  rw [List.range_succ, List.filter_append, List.map_append]
  simp [h]
open Classical in
noncomputable def unsetB (c : Cd) (i : Nat) : Bool := decide (Way c.l (-1) i ∧ ∃ x, c.l[i]? = some x ∧ ∃ r ∈ readsJ x, r ∉ setN c i)
theorem unset_fl (c : Cd) : (unsetN c).map (fun n : Nat => (n : Int)) = flN (unsetB c) c.l.length := rfl
theorem unsetB_of {c : Cd} {i : Nat} {x : Ji} {b : Bool} (hx : c.l[i]? = some x) (h : b = true ↔ Way c.l (-1) i ∧ ∃ r ∈ readsJ x, r ∉ setN c i) : unsetB c i = b := by
  have : unsetB c i = true ↔ b = true := by
    rw [h]
    unfold unsetB
    simp only [decide_eq_true_eq]
    constructor
    · rintro ⟨h1, y, hy, h2⟩
      rw [hx] at hy
      injection hy with hy
      subst hy
      exact ⟨h1, h2⟩
    · rintro ⟨h1, h2⟩
      exact ⟨h1, x, hx, h2⟩
  cases b <;> cases h2 : unsetB c i <;> simp_all
theorem setsN_at {c : Cd} {i : Nat} {L : List Int} (h : (setsN c)[i]? = some L) : L = setN c i := by
  unfold setsN at h
  rw [List.getElem?_map] at h
  cases hr : (List.range c.l.length)[i]? with
  | none => rw [hr] at h; cases h
  | some j =>
    rw [hr] at h
    have hj : j = i := by
      have h2 := (List.getElem?_eq_some_iff.1 hr)
      obtain ⟨h3, h4⟩ := h2
      simpa using h4.symm
    subst hj
    simpa using h.symm
theorem setsN_len (c : Cd) : (setsN c).length = c.l.length := by simp [setsN]
theorem setN_len (c : Cd) (i : Nat) : (setN c i).length ≤ c.R.toNat := setK_len c _ i
set_option maxRecDepth 100000 in
set_option maxHeartbeats 4000000 in
theorem refIn15_any (A : Option Addr) (n c : Nat) (xs : List Int) (v : Int) (w : World) (h : Ints w w.heap.size A n xs) (hn : n ≤ 9223372036854775807) : Calls Tryz.prog 82 #[.slice A n c, .int .i64 v] w fun e w' => e = .returned (.bool (decide (v ∈ xs))) ∧ Below w.heap.size w w' := by
  have HL : Hid (xs.length = n) := h.1
  go_enter Tryz.func82, Tryz.ntmps82
  go_wp2_with fail
  go_loopw [9] (fun a wr => ∃ k : Nat, k ≤ n ∧ a = .int .i64 k ∧ Hid (∀ j : Nat, j < k → xs[j]? ≠ some v) ∧ wr = w) (fun a _ => n - (intOf a).toNat)
  case atStart => exact ⟨0, Nat.zero_le _, rfl, fun j hj => absurd hj (by omega), rfl⟩
  case round =>
    obtain ⟨k, hk, rfl, HK, rfl⟩ := hrel
    by_cases hlt : k < n
    · obtain ⟨b, off, x, rfl, _, hx, x0⟩ := h.at_ hlt
      have hki : (k : Int) < (n : Int) := by omega
      by_cases hv : x = v
      · have e0 : (x == v) = true := by simpa using hv
        have HM : Hid (v ∈ xs) := by unfold Hid; rw [← hv]; exact List.mem_of_getElem? hx
        clear hv hx
        go_wp2_with fail
        go_ret
        exact ⟨by rw [decide_eq_true HM.out]; rfl, Below.refl _ _⟩
      · have e0 : (x == v) = false := by simpa using hv
        have HK2 : Hid (∀ j : Nat, j < k + 1 → xs[j]? ≠ some v) := fun j hj => by
          by_cases e : j = k
          · subst e; rw [hx]; intro e2; injection e2 with e2; exact hv e2
          · exact HK.out j (by omega)
        clear hv hx
        go_wp2_with fail
        go_roundw
        case rel => exact ⟨k + 1, by omega, by go_num, HK2, by first | trivial | rfl⟩
        case measure => simp [intOf]; omega
    · obtain rfl : k = n := by omega
      have HM : Hid (v ∉ xs) := fun hm => by
        obtain ⟨j, hj⟩ := List.getElem?_of_mem hm
        exact HK.out j (by have := (List.getElem?_eq_some_iff.1 hj).1; have := HL.out; omega) hj
      go_wp2_with fail
      go_ret
      exact ⟨by rw [decide_eq_false HM.out]; rfl, Below.refl _ _⟩
end Go.Proofs.YtgkngimeokhhgaaGreatDoor
/- The document's Unset. -/
namespace Go.Proofs.YtgkngimeokhhgaaGreatDoor
open Go.RowKit

/-- where the variables of Unset and of Loops lie: what is read stays -/
structure UnW (w w2 : World) (q : Cq) (W : World) : Prop where
  bel : Below w.heap.size w W
  bel2 : Below w2.heap.size w2 W
  bx : W.heap[w.heap.size]? = some q.obj
theorem UnW.on {w w2 W W' : World} {q : Cq} (h : UnW w w2 q W) (hb : Below W.heap.size W W') : UnW w w2 q W' :=
  ⟨h.bel.trans (hb.mono h.bel.size), h.bel2.trans (hb.mono h.bel2.size), keep_b hb h.bx⟩
theorem UnW.app {w w2 W w4 : World} {q : Cq} {c p : Nat} {A : Option Addr} {xs : List Int} (h : UnW w w2 q W) (hlt : w.heap.size < w2.heap.size) (ho : OwnI W w2.heap.size 3 A c xs) (hG : W.grownBy w4 (Value.slice A p c).ownBlock) : UnW w w2 q w4 := by
  have hr : ∀ k, (Value.slice A p c).ownBlock = some k → w2.heap.size ≤ k := by
    intro k hk
    rcases ho.1.2 with ⟨h1, _⟩ | ⟨g', cap, cur, h1, h2, _⟩
    · injection h1 with h1; rw [h1] at hk; cases hk
    · injection h1 with h1
      rw [h1] at hk
      simp only [Value.ownBlock, Option.some.injEq] at hk
      omega
  have hsz := h.bel2.size
  refine ⟨h.bel.grown hG h.bel.size fun k hk => by have := hr k hk; omega, h.bel2.grown hG hsz hr, (hG.block _ (by omega) fun e => ?_).trans h.bx⟩
  have := hr _ e.symm
  omega
set_option maxRecDepth 100000 in
set_option maxHeartbeats 8000000 in
theorem refUnset15_any (q : Cq) (w : World) (hq : q.In w) : Calls Tryz.prog 59 #[q.val] w (UnsetP q w) := by
  have HQ := Lib.hid hq
  obtain ⟨R, A, I, P, n, c, l⟩ := q
  have HLN : Hid (l.length = n) := hq.len
  obtain ⟨W0, hW0⟩ : ∃ W, w.alloc (Cq.obj ⟨R, A, I, P, n, c, l⟩) = W := ⟨_, rfl⟩
  have HB0 : Hid (Below w.heap.size w W0) := by rw [← hW0]; exact lvBelow w _
  have HX0 : Hid (W0.heap[w.heap.size]? = some (Cq.obj ⟨R, A, I, P, n, c, l⟩)) := by rw [← hW0]; exact heap_alloc_new w _
  have hC := refReach15_any ⟨R, A, I, P, n, c, l⟩ W0 (hq.on HB0.out)
  unfold ReachP at hC
  obtain ⟨k0, k1, k2, k3, _⟩ := lvCells HX0.out
  clear hq
  cases hm : Cd.may (Cq.cd ⟨R, A, I, P, n, c, l⟩) with
  | false =>
    have HE := Lib.hid (Cd.e_no hm)
    have HD : Hid (unsetC (Cq.cd ⟨R, A, I, P, n, c, l⟩) = []) := by unfold Hid unsetC; rw [hm]; rfl
    rw [HE.out] at hC
    clear hm
    go_enter Tryz.func59, Tryz.ntmps59
    go_wp2_with fail
    try rw [hW0]
    refine hC.mono ?_
    rintro e w1 ⟨A1, n1, c1, rfl, _, hb⟩
    have HB1 := Lib.hid (HB0.out.trans (hb.mono HB0.out.size))
    clear hb hC k0 k1 k2 k3
    go_wp2_with fail
    go_ret2
    exact ⟨none, 0, 0, by rw [HE.out]; rfl, by rw [HD.out]; exact OwnI.ints (OwnI.nil_ _ 0 3), HB1.out⟩
  | true =>
    have HE := Lib.hid (Cd.e_yes hm)
    have HD : Hid (unsetC (Cq.cd ⟨R, A, I, P, n, c, l⟩) = (unsetN (Cq.cd ⟨R, A, I, P, n, c, l⟩)).map (fun n : Nat => (n : Int))) := by unfold Hid unsetC; rw [hm]; rfl
    have HRC : Hid (reachC (Cq.cd ⟨R, A, I, P, n, c, l⟩) = reachB (Cq.cd ⟨R, A, I, P, n, c, l⟩) (-1)) := by unfold Hid reachC; rw [hm]; rfl
    have HSC : Hid (setC (Cq.cd ⟨R, A, I, P, n, c, l⟩) = setsN (Cq.cd ⟨R, A, I, P, n, c, l⟩)) := by unfold Hid setC; rw [hm]; rfl
    have HM := Lib.hid hm
    obtain ⟨⟨hR0, hR1, _, _, _, _, hl0, hl1⟩, _⟩ := Cd.may_parts hm
    have hR0 : 0 ≤ R := hR0
    have hR1 : R ≤ 128 := hR1
    have hl1 : l.length ≤ 4096 := hl1
    rw [HLN.out] at hl1
    have HXO : Hid (∀ x ∈ l, x.ok) := HQ.out.ins.2.1
    obtain ⟨i1, hi1, hy0, hy1, hy2⟩ := info_parts infoInt
    rw [HE.out, HRC.out] at hC
    clear hm
    go_enter Tryz.func59, Tryz.ntmps59
    go_wp2_with fail
    try rw [hW0]
    refine hC.mono ?_
    rintro e w1 ⟨A1, n1, c1, rfl, hO, hb⟩
    have HB1 := Lib.hid (HB0.out.trans (hb.mono HB0.out.size))
    have HX1 := Lib.hid (keep_b hb HX0.out)
    have hn1 : n1 = n := by rw [← hO.1, reachB_len]; exact HLN.out
    subst hn1
    have HO1 := Lib.hid hO
    clear hb hC hO k0 k1 k2 k3 hW0
    have hC2 := refSet15_any ⟨R, A, I, P, n1, c, l⟩ w1 (HQ.out.on HB1.out)
    unfold SetP at hC2
    rw [HE.out, HSC.out] at hC2
    obtain ⟨k0, k1, k2, k3, _⟩ := lvCells HX1.out
    go_wp2_with fail
    refine hC2.mono ?_
    rintro e w2 ⟨A2, n2, c2, rfl, hO2, _, hb⟩
    have HB2 := Lib.hid (HB1.out.trans (hb.mono HB1.out.size))
    have HX2 := Lib.hid (keep_b hb HX1.out)
    have hn2 : n2 = n1 := by rw [← hO2.1, setsN_len]; exact HLN.out
    subst hn2
    have HO := Lib.hid (HO1.out.on hb)
    have HS2 := Lib.hid hO2
    clear hb hC2 hO2 k0 k1 k2 k3 HO1
    obtain ⟨k0, k1, k2, k3, _⟩ := lvCells HX2.out
    have HLT : Hid (w.heap.size < w2.heap.size) := lt_of_heap HX2.out
    have HW2 : Hid (UnW w w2 ⟨R, A, I, P, n2, c, l⟩ w2) := ⟨HB2.out, Below.refl _ _, HX2.out⟩
    obtain ⟨cd, hcd⟩ : ∃ cd, Cq.cd ⟨R, A, I, P, n2, c, l⟩ = cd := ⟨_, rfl⟩
    have HCL : Hid (cd.l.length = n2) := by rw [← hcd]; exact HLN
    have HCE : Hid (cd.l = l) := by rw [← hcd]; rfl
    have HRR : Hid (cd.R.toNat ≤ 128) := by rw [← hcd]; exact Lib.hid (by show R.toNat ≤ 128; omega)
    rw [hcd] at HO HD HE HM HS2
    have HCD := Lib.hid hcd
    clear hcd
    go_wp2_with fail
    clear k0 k1 k2 k3
    go_loopw [8, 30] (fun v a wr => ∃ (i p : Nat) (A' : Option Addr) (c' : Nat), i ≤ n2 ∧ a = .int .i64 i ∧ v = .slice A' p c' ∧ p ≤ i ∧ Hid ((flN (unsetB cd) i).length = p) ∧ Hid (OwnI wr w2.heap.size 3 A' c' (flN (unsetB cd) i)) ∧ Hid (UnW w w2 ⟨R, A, I, P, n2, c, l⟩ wr)) (fun _ a _ => n2 - (intOf a).toNat)
    case atStart => exact ⟨0, 0, none, 0, Nat.zero_le _, rfl, rfl, Nat.le_refl _, rfl, OwnI.nil_ _ _ _, HW2⟩
    case round =>
      obtain ⟨i, p, A', c', hi, rfl, rfl, hpi, HPL, HO4, HW⟩ := hrel
      by_cases hin : i < n2
      case neg =>
        obtain rfl : i = n2 := by omega
        go_wp2_with fail
        go_ret2
        have hrd := HO4.out.ints
        rw [HPL.out] at hrd
        refine ⟨A', p, c', by rw [HCD.out, HE.out]; rfl, ?_, HW.out.bel⟩
        rw [HCD.out, HD.out]
        rw [← HCL.out] at hrd
        exact hrd
      have hii : (i : Int) < (n2 : Int) := by omega
      obtain ⟨b, off, x, hA, hbb, HX, ⟨y0, y1, y2, y3, y4⟩, hxo⟩ := ((HQ.out.on HW.out.bel).ins).at_ hin
      subst hA
      have HXC : Hid (cd.l[i]? = some x) := by unfold Hid; rw [HCE.out]; exact HX.out
      have HXK := Lib.hid hxo
      obtain ⟨W4, hW4⟩ : ∃ W, wr.alloc x.obj = W := ⟨_, rfl⟩
      obtain ⟨g4, hg4⟩ : ∃ z, wr.heap.size = z := ⟨_, rfl⟩
      have hb4 : Below wr.heap.size wr W4 := by rw [← hW4]; exact lvBelow _ _
      have HW4 := Lib.hid (HW.out.on hb4)
      have HO5 := Lib.hid (HO4.out.below hb4 (Nat.le_refl _))
      have HY4 : Hid (W4.heap[g4]? = some x.obj) := by rw [← hW4, ← hg4]; exact newJ wr x
      have HWQ := Lib.hid hW4
      clear hbb hxo hb4 hW4 HX
      go_upto_region 9 with fail
      try rw [HWQ.out]
      try rw [hg4]
      clear hg4 HWQ y0 y1 y2 y3 y4
      obtain ⟨⟨y0, y1, y2, y3, y4⟩, _⟩ := box_cellsJ HY4.out
      have hNx := refReads_any x W4 HXK.out
      unfold ReadsP at hNx
      have hnx2 : (readsJ x).length ≤ 3 := readsJ_length x
      obtain ⟨nx, hnx⟩ : ∃ z, readsJ x = z := ⟨_, rfl⟩
      rw [hnx] at hNx hnx2
      have HNX := Lib.hid hnx
      obtain ⟨m, hm⟩ : ∃ m, nx.length = m := ⟨_, rfl⟩
      rw [hm] at hNx hnx2
      have HML := Lib.hid hm
      clear hnx hm
      go_wp2_with fail
      (with_reducible refine hNx.mono ?_)
      rintro e w6 ⟨A6, c6, rfl, hO6, hb⟩
      have HW6 := Lib.hid (HW4.out.on hb)
      have HO7 := Lib.hid (HO5.out.below hb (Nat.le_refl _))
      have HN6 := Lib.hid hO6
      obtain ⟨ba, offa, v, hA1, _, hv, _⟩ := (HO.out.keep fun p hp => HW6.out.bel2.cell hp).at_ hin
      subst hA1
      have HV := Lib.hid (reachB_iff hv.out)
      have HVA := hv
      clear hb hO6 hNx y0 y1 y2 y3 y4
      go_wp2_with fail
      go_loopw [11, 38] (fun bv a wr => ∃ (j : Nat) (bb : Bool), j ≤ m ∧ a = .int .i64 j ∧ bv = .bool bb ∧ Hid (bb = true ↔ Way cd.l (-1) i ∧ ∃ j2, j2 < j ∧ ∃ r, nx[j2]? = some r ∧ r ∉ setN cd i) ∧ Hid (OwnI wr W4.heap.size 3 A6 c6 nx) ∧ Hid (OwnI wr w2.heap.size 3 A' c' (flN (unsetB cd) i)) ∧ Hid (UnW w w2 ⟨R, A, I, some ⟨b, off, none⟩, n2, c, l⟩ wr)) (fun _ a _ => m - (intOf a).toNat)
      case atStart => exact ⟨0, false, Nat.zero_le _, rfl, rfl, ⟨fun h => (by cases h), fun h => (by obtain ⟨_, j2, h2, _⟩ := h; omega)⟩, HN6, HO7, HW6⟩
      case round =>
        obtain ⟨j, bb, hj, rfl, rfl, HBB, HN, HOU, HW7⟩ := hrel
        by_cases hjm : j < m
        case neg =>
          obtain rfl : j = m := by omega
          have HB : Hid (unsetB cd i = bb) := unsetB_of HXC.out (by
            rw [HBB.out, HNX.out]
            constructor
            · rintro ⟨h1, j2, _, r, h3, h4⟩
              exact ⟨h1, r, List.mem_of_getElem? h3, h4⟩
            · rintro ⟨h1, r, h3, h4⟩
              obtain ⟨j2, h5⟩ := List.mem_iff_getElem?.1 h3
              exact ⟨h1, j2, by have := (List.getElem?_eq_some_iff.1 h5).1; have := HML.out; omega, r, h5, h4⟩)
          cases bb with
          | false =>
            have HFL : Hid (flN (unsetB cd) (i + 1) = flN (unsetB cd) i) := flN_no HB.out
            go_wp2_with fail
            go_roundw
            case rel => exact ⟨i + 1, p, A', c', by omega, by go_num, rfl, by omega, by rw [HFL.out]; exact HPL, by rw [HFL.out]; exact HOU, HW7⟩
            case measure => simp [intOf]; omega
          | true =>
            have HFL : Hid (flN (unsetB cd) (i + 1) = flN (unsetB cd) i ++ [(i : Int)]) := flN_yes HB.out
            have hsz : w2.heap.size ≤ wr.heap.size := HW7.out.bel2.size
            have HWA : Hid (UnW w w2 ⟨R, A, I, some ⟨b, off, none⟩, n2, c, l⟩ (wr.alloc (.cells #[.int .i64 (i : Int)] 3))) := HW7.out.on (lvBelow _ _)
            go_wp2_with (at_builtin; refine wpList_appendWhere _ rfl (.tmp 60) (.tmp 62) 36 rfl w2.heap.size 3 i1 Tryz.underlying36 hi1 hy0 hy1 hy2 A' (some ⟨wr.heap.size, 0, none⟩) c' 1 1 (wr.heap.size + 1) p (p + 1) (flN (unsetB cd) i) [(i : Int)] rfl rfl (HOU.out.alloc _) HPL.out rfl (src_new wr ⟨by omega, by omega⟩) (by omega) (by simp; omega) ?_; intro A8 c8 w8 hO8 hG8 _; have HO8 := Lib.hid hO8; have HW8 := Lib.hid (HWA.out.app HLT.out (HOU.out.alloc _) hG8); clear hO8 hG8)
            go_roundw
            case rel => exact ⟨i + 1, p + 1, A8, c8, by omega, by go_num, rfl, by omega, by unfold Hid; rw [HFL.out, List.length_append, HPL.out]; rfl, by rw [HFL.out]; exact HO8, HW8⟩
            case measure => simp [intOf]; omega
        obtain ⟨z, hz⟩ : ∃ z, nx[j]? = some z := ⟨_, List.getElem?_eq_getElem (by rw [HML.out]; exact hjm)⟩
        have hjj : (j : Int) < (m : Int) := by omega
        obtain ⟨g6, rfl, z0⟩ := own_at15 HN.out hz
        have HZ := Lib.hid hz
        obtain ⟨ba2, offa2, v2, hA2, _, hv2, v0⟩ := (HO.out.keep fun p hp => HW7.out.bel2.cell hp).at_ hin
        injection hA2 with hA2; injection hA2 with hA2 hA3
        subst hA2; subst hA3
        have hvv : v2 = v := by have h1 := hv2.out; rw [HVA.out] at h1; injection h1 with h1; exact h1.symm
        subst hvv
        clear hz hv2
        cases bb with
        | true =>
          have HB2 : Hid (true = true ↔ Way cd.l (-1) i ∧ ∃ j2, j2 < j + 1 ∧ ∃ r, nx[j2]? = some r ∧ r ∉ setN cd i) := ⟨fun _ => by
            obtain ⟨h1, j2, h2, h3⟩ := HBB.out.1 rfl
            exact ⟨h1, j2, by omega, h3⟩, fun _ => rfl⟩
          go_wp2_with fail
          go_roundw
          case rel => exact ⟨j + 1, true, by omega, by go_num, rfl, by first | exact HB2 | exact Lib.hid (by simpa using HB2.out), HN, HOU, HW7⟩
          case measure => simp [intOf]; omega
        | false =>
          cases v2 with
          | false =>
            have HB2 : Hid (false = true ↔ Way cd.l (-1) i ∧ ∃ j2, j2 < j + 1 ∧ ∃ r, nx[j2]? = some r ∧ r ∉ setN cd i) := ⟨fun h => (by cases h), fun h => by
              have := HV.out.2 h.1
              cases this⟩
            go_wp2_with fail
            go_roundw
            case rel => exact ⟨j + 1, false, by omega, by go_num, rfl, by first | exact HB2 | exact Lib.hid (by simpa using HB2.out), HN, HOU, HW7⟩
            case measure => simp [intOf]; omega
          | true =>
            obtain ⟨bs, offs, L, a9, c9, hA4, _, hL, s0, _, hLI⟩ := (HS2.out.below HW7.out.bel2).at_ hin
            subst hA4
            have hLs : L = setN cd i := setsN_at hL.out
            have hIn := refIn15_any a9 L.length c9 L z wr (hLI.more HW7.out.bel2.size) (by rw [hLs]; have := setN_len cd i; have := HRR.out; omega)
            rw [hLs] at hIn s0
            obtain ⟨sl, hsl⟩ : ∃ k, (setN cd i).length = k := ⟨_, rfl⟩
            rw [hsl] at hIn s0
            clear hLI hLs hL hsl
            by_cases hd : z ∉ setN cd i
            · rw [decide_eq_false hd] at hIn
              have HB2 : Hid (true = true ↔ Way cd.l (-1) i ∧ ∃ j2, j2 < j + 1 ∧ ∃ r, nx[j2]? = some r ∧ r ∉ setN cd i) := ⟨fun _ => ⟨HV.out.1 rfl, j, by omega, z, HZ.out, hd⟩, fun _ => rfl⟩
              clear hd
              go_wp2_with fail
              (with_reducible refine hIn.mono ?_)
              rintro e w9 ⟨rfl, hb⟩
              have HN9 := Lib.hid (HN.out.below hb (Nat.le_refl _))
              have HOU9 := Lib.hid (HOU.out.below hb (Nat.le_refl _))
              have HW9 := Lib.hid (HW7.out.on hb)
              clear hb hIn
              go_wp2_with fail
              go_roundw
              case rel => exact ⟨j + 1, true, by omega, by go_num, rfl, by first | exact HB2 | exact Lib.hid (by simpa using HB2.out), HN9, HOU9, HW9⟩
              case measure => simp [intOf]; omega
            · rw [decide_eq_true (Classical.not_not.1 hd)] at hIn
              have HB2 : Hid (false = true ↔ Way cd.l (-1) i ∧ ∃ j2, j2 < j + 1 ∧ ∃ r, nx[j2]? = some r ∧ r ∉ setN cd i) := ⟨fun h => (by cases h), fun h => by
                obtain ⟨h1, j2, h2, r, h3, h4⟩ := h
                by_cases e : j2 = j
                · subst e
                  rw [HZ.out] at h3
                  injection h3 with h3
                  subst h3
                  exact absurd h4 hd
                · exact absurd (HBB.out.2 ⟨h1, j2, by omega, r, h3, h4⟩) (by decide)⟩
              clear hd
              go_wp2_with fail
              (with_reducible refine hIn.mono ?_)
              rintro e w9 ⟨rfl, hb⟩
              have HN9 := Lib.hid (HN.out.below hb (Nat.le_refl _))
              have HOU9 := Lib.hid (HOU.out.below hb (Nat.le_refl _))
              have HW9 := Lib.hid (HW7.out.on hb)
              clear hb hIn
              go_wp2_with fail
              go_roundw
              case rel => exact ⟨j + 1, false, by omega, by go_num, rfl, by first | exact HB2 | exact Lib.hid (by simpa using HB2.out), HN9, HOU9, HW9⟩
              case measure => simp [intOf]; omega
end Go.Proofs.YtgkngimeokhhgaaGreatDoor
/- Loops, whose answer lies in blocks of the call's own. -/
namespace Go.Proofs.YtgkngimeokhhgaaGreatDoor
open Go.RowKit

def LoopsF (q : Cq) (w : World) (e : Ending) (w' : World) : Prop := ∃ A n c, e = .returned (.tuple #[.slice A n c, .int .i64 q.cd.e]) ∧ Ints w' w'.heap.size A n (loopsC q.cd) ∧ (∀ b o, A = some ⟨b, o, none⟩ → w.heap.size ≤ b) ∧ Below w.heap.size w w'
theorem LoopsF.plain {q : Cq} {w w' : World} {e : Ending} (h : LoopsF q w e w') : LoopsP q w e w' := by
  obtain ⟨A, n, c, h1, h2, _, h3⟩ := h
  exact ⟨A, n, c, h1, h2, h3⟩
/-- what changed is one block -/
structure OffG (g : Nat) (w w' : World) : Prop where
  size : w.heap.size ≤ w'.heap.size
  block : ∀ b, b ≠ g → w'.heap[b]? = w.heap[b]?
section
variable {g n B : Nat} {w w' : World} {A : Option Addr}
theorem OffG.refl (g : Nat) (w : World) : OffG g w w := ⟨Nat.le_refl _, fun _ _ => rfl⟩
theorem OffG.set (h : OffG g w w') (o : Nat) (v : Value) : OffG g w (w'.setCell ⟨g, o, none⟩ v) :=
  ⟨Nat.le_trans h.size ((Below.refl g w').setCell (p := ⟨g, o, none⟩) (Nat.le_refl _) v).size, fun b hb => (Below.heap_setCell _ ⟨g, o, none⟩ _ _ hb).trans (h.block b hb)⟩
theorem OffG.cell (h : OffG g w w') {p : Addr} (hp : p.block ≠ g) : w'.cell? p = w.cell? p := World.cell?_of_block (h.block _ hp)
end
/-- a block of instructions, from the i-th on as they were -/
def RestJ (w : World) (g i : Nat) (l : List Ji) : Prop := ∃ cs : List Value, w.heap[g]? = some (.cells cs.toArray 70 (0, 0)) ∧ ∀ k x, i ≤ k → l[k]? = some x → ∀ j, j < 5 → cs[5 * k + j]? = some (.int .i64 (x.at j))
theorem RestJ.at_ {w : World} {g i : Nat} {l : List Ji} (h : RestJ w g i l) {x : Ji} (hx : l[i]? = some x) : CellsJ w g (i * 5) x ∧ w.frozen? ⟨g, i * 5, none⟩ = false := by
  obtain ⟨cs, hg, hc⟩ := h
  have e : i * 5 = 5 * i := by omega
  have hb := fun j hj => (blk_cell hg (hc i x (Nat.le_refl _) hx j hj)).1
  have hf := (blk_cell hg (hc i x (Nat.le_refl _) hx 0 (by omega))).2
  rw [e]
  exact ⟨⟨hb 0 (by omega), hb 1 (by omega), hb 2 (by omega), hb 3 (by omega), hb 4 (by omega)⟩, hf⟩
theorem RestJ.put {w : World} {g i : Nat} {l : List Ji} (h : RestJ w g i l) (v : Value) : RestJ (w.setCell ⟨g, i * 5, none⟩ v) g (i + 1) l := by
  obtain ⟨cs, hg, hc⟩ := h
  refine ⟨cs.set (i * 5) v, set_j hg _, fun k x hk hx j hj => ?_⟩
  rw [List.getElem?_set_ne (by omega)]
  exact hc k x (by omega) hx j hj
theorem OwnJ.rest {w : World} {base c : Nat} {A : Option Addr} {l : List Ji} (h : OwnJ w base A c l) (h0 : 0 < l.length) : ∃ g, A = some ⟨g, 0, none⟩ ∧ base ≤ g ∧ g < w.heap.size ∧ RestJ w g 0 l := by
  rcases h.2 with ⟨_, h1⟩ | ⟨g, cap, cur, hv, hb, hg, _, _, _, hr⟩
  · omega
  · have hA : A = some ⟨g, 0, none⟩ := by injection hv
    refine ⟨g, hA, hb, (Array.getElem?_eq_some_iff.1 hg).1, cur.toList, by simpa using hg, fun k x _ hx j hj => ?_⟩
    have c1 := cellsJ_at hx hj
    rw [← hr, List.getElem?_take] at c1
    split at c1
    · exact c1
    · cases c1
theorem OwnJ.far {w : World} {base c : Nat} {A : Option Addr} {l : List Ji} (h : OwnJ w base A c l) : ∀ b o, A = some ⟨b, o, none⟩ → base ≤ b := fun b o hA => by
  rcases h.heap with h1 | ⟨g, cur, h1, h2, _⟩
  · rw [hA] at h1; cases h1
  · rw [hA] at h1
    injection h1 with h1; injection h1 with h1
    omega
end Go.Proofs.YtgkngimeokhhgaaGreatDoor
