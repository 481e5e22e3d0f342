/- Lists of numbers of the call's own, in a slice of the call's own, that are written to in any order; no two share a block. -/
import Derived.Test.YtgkngimeokhhgaaGreatDoorG4
import Derived.Test.YtgkngimeokhhgaaGreatDoorG3
namespace Go.Proofs.YtgkngimeokhhgaaGreatDoor
open Go.RowKit

structure RowU where
  A : Option Addr
  c : Nat
  L : List Int
def RowU.hdr (r : RowU) : Value := .slice r.A r.L.length r.c
structure RowsU (w : World) (base g : Nat) (rs : List RowU) : Prop where
  rows : w.ownsRow base 28 1 (.slice (some ⟨g, 0, none⟩) rs.length rs.length) rs.length (rs.map RowU.hdr)
  ins : ∀ r ∈ rs, OwnI w base 2 r.A r.c r.L
  apart : ∀ (i j : Nat) (r s : RowU), i ≠ j → rs[i]? = some r → rs[j]? = some s → ∀ g, r.A = some ⟨g, 0, none⟩ → s.A ≠ some ⟨g, 0, none⟩
theorem run_makeRu {P : Program} (t e : TypeId) (i : TypeInfo) (ht : P.underlying t = some (.slice e)) (hi : P.info? e = some i) (hz : i.zero = some (.slice none 0 0)) (h1 : i.size = 1) (h2 : i.bytes = 24) (n : Nat) (hn : n ≤ 100000) (w : World) :
    (Instr.makeSlice t (.int .i64 (n : Int)) (.int .i64 (n : Int))).run P w = .ok (.slice (some ⟨w.heap.size, 0, none⟩) n n) (w.alloc (.cells (Array.replicate n (Value.slice none 0 0)) e)) := by
  have hr := run_make (P := P) w t e i (.slice none 0 0) ht hi hz .i64 .i64 n n (by omega) (by omega) (by rw [h2]; omega) (by omega)
  simp only [Int.toNat_natCast, h1, Nat.mul_one] at hr
  have he : (madeCells #[.slice none 0 0] n) = Array.replicate n (Value.slice none 0 0) := by
    apply Array.ext'
    rw [toList_madeCells_one]
    simp
  have hr2 : (Instr.makeSlice t (.int .i64 (n : Int)) (.int .i64 (n : Int))).run P w = .ok (.slice (some ⟨w.heap.size, 0, none⟩) n n) (w.alloc (.cells (madeCells #[.slice none 0 0] n) e)) := hr
  rw [he] at hr2
  exact hr2
section
variable {w w' w4 : World} {base g : Nat} {rs : List RowU}
theorem RowsU.made (w : World) (base n : Nat) (hb : base ≤ w.heap.size) (hn : n ≤ 100000) : RowsU (w.alloc (.cells (Array.replicate n (Value.slice none 0 0)) 28)) base w.heap.size (List.replicate n ⟨none, 0, []⟩) := by
  refine ⟨?_, fun r hr => ?_, fun i j r s _ hr _ g hA => ?_⟩
  · rw [List.length_replicate, List.map_replicate]
    exact ⟨by simp, .inr ⟨w.heap.size, n, Array.replicate n (Value.slice none 0 0), rfl, hb, heap_alloc_new w _, Nat.le_refl _, by unfold maxLen; omega, by simp, by simp [RowU.hdr]⟩⟩
  · rw [(List.mem_replicate.1 hr).2]
    exact OwnI.nil_ _ _ _
  · have := (List.mem_replicate.1 (List.mem_of_getElem? hr)).2
    rw [this] at hA
    cases hA
theorem RowsU.heap (h : RowsU w base g rs) : base ≤ g ∧ ∃ cur, w.heap[g]? = some (.cells cur 28 (0, 0)) := by
  rcases h.rows.2 with ⟨h1, _⟩ | ⟨g', cap, cur, h1, h2, h3, _⟩
  · injection h1 with h1; cases h1
  · injection h1 with h1; injection h1 with h1; injection h1 with h1
    subst h1
    exact ⟨h2, cur, h3⟩
theorem RowsU.below {B : Nat} (h : RowsU w base g rs) (hb : Below B w w') (hB : w.heap.size ≤ B) : RowsU w' base g rs :=
  ⟨World.ownsRow.kept h.rows ⟨hb.os, hb.tape, hb.output, hb.size, fun i hi _ => hb.block i (by omega)⟩ (row := none) (by cases hh : (Value.slice (some ⟨g, 0, none⟩) rs.length rs.length).ownBlock with | none => exact .inl rfl | some k => exact .inr (by simp)), fun s hs => (h.ins s hs).below hb hB, h.apart⟩
theorem RowsU.at_ {i : Nat} {r : RowU} (h : RowsU w base g rs) (hr : rs[i]? = some r) : w.cell? ⟨g, i, none⟩ = some r.hdr ∧ w.frozen? ⟨g, i, none⟩ = false := by
  have hk := (List.getElem?_eq_some_iff.1 hr).1
  exact ⟨(h.rows.cellAt i (by simpa using hk)).trans (by rw [List.getElem?_map, hr]; rfl), h.rows.frozenAt i⟩
/-- lists stay over what is written to a slice of slices -/
theorem OwnI.past_rowsU {base' c' : Nat} {A : Option Addr} {xs : List Int} {cur : Array Value} (hO : OwnI w base' 2 A c' xs) (hg : w.heap[g]? = some (.cells cur 28 (0, 0))) (hG : w.grownBy w' (some g)) : OwnI w' base' 2 A c' xs := by
  refine hO.grownL hG fun k e => ?_
  intro e2
  injection e2 with e2
  subst e2
  rcases hO.1.2 with ⟨h1, _⟩ | ⟨g', cap, cur2, h1, _, h3, _⟩
  · injection h1 with h1; rw [e] at h1; cases h1
  · injection h1 with h1
    rw [e] at h1
    injection h1 with h1; injection h1 with h1
    subst h1
    rw [hg] at h3
    injection h3 with h3; injection h3 with _ h3
    exact absurd h3 (by decide)
/-- one number of the i-th list is another -/
theorem RowsU.cell {i k : Nat} {r : RowU} {v : Int} (h : RowsU w base g rs) (hr : rs[i]? = some r) (hk : k < r.L.length) (hv : -9223372036854775808 ≤ v ∧ v ≤ 9223372036854775807) :
    ∃ b, r.A = some ⟨b, 0, none⟩ ∧ base ≤ b ∧ b ≠ g ∧ w.frozen? ⟨b, k, none⟩ = false ∧ RowsU (w.setCell ⟨b, k, none⟩ (.int .i64 v)) base g (rs.set i ⟨r.A, r.c, r.L.set k v⟩) := by
  have hrm := List.mem_of_getElem? hr
  have hrO := h.ins r hrm
  have hil := (List.getElem?_eq_some_iff.1 hr).1
  obtain ⟨hbg, cur, hg⟩ := h.heap
  obtain ⟨b, hA, hb, cur2, hgb⟩ : ∃ b, r.A = some ⟨b, 0, none⟩ ∧ base ≤ b ∧ ∃ cs, w.heap[b]? = some (.cells cs 2 (0, 0)) := by
    rcases hrO.1.2 with ⟨_, h0⟩ | ⟨g', cap, cur2, h1, h2, h3, _⟩
    · omega
    · injection h1 with h1
      exact ⟨g', h1, h2, cur2, h3⟩
  have hne : b ≠ g := fun e => by
    rw [e, hg] at hgb
    injection hgb with hgb; injection hgb with _ hgb
    exact absurd hgb (by decide)
  have hO2 : OwnI w base 2 (some ⟨b, 0, none⟩) r.c r.L := by rw [← hA]; exact hrO
  have hgs : w.grownBy (w.setCell ⟨b, k, none⟩ (.int .i64 v)) (some b) := (World.ownsRow.stored hO2.1 k (.int .i64 v)).2
  refine ⟨b, hA, hb, hne, hO2.1.frozenAt k, ⟨?_, fun s hs => ?_, fun x y s t hxy hs ht q hq => ?_⟩⟩
  · rw [List.length_set, List.map_set]
    have e : RowU.hdr ⟨r.A, r.c, r.L.set k v⟩ = r.hdr := by simp [RowU.hdr]
    have e2 : (rs.map RowU.hdr).set i r.hdr = rs.map RowU.hdr := by
      apply List.ext_getElem?
      intro j
      by_cases hj : i = j
      · subst hj
        rw [List.getElem?_set_self (by simpa using hil), List.getElem?_map, hr]; rfl
      · rw [List.getElem?_set_ne hj]
    rw [e, e2]
    exact World.ownsRow.kept h.rows hgs (.inr (by simpa [Value.ownBlock] using hne.symm))
  · obtain ⟨j, hj⟩ := List.getElem?_of_mem hs
    by_cases e : i = j
    · subst e
      rw [List.getElem?_set_self hil] at hj
      injection hj with hj
      subst hj
      show OwnI _ base 2 r.A r.c (r.L.set k v)
      rw [hA]
      exact hO2.set_ k v hv
    · rw [List.getElem?_set_ne e] at hj
      refine (h.ins s (List.mem_of_getElem? hj)).grownL hgs fun q hq e2 => ?_
      injection e2 with e2
      subst e2
      exact h.apart j i s r (Ne.symm e) hj hr q hq hA
  · have hsame : ∀ (j : Nat) (s : RowU), (rs.set i ⟨r.A, r.c, r.L.set k v⟩)[j]? = some s → ∃ s0 : RowU, rs[j]? = some s0 ∧ s0.A = s.A := by
      intro j s hj
      by_cases e : i = j
      · subst e
        rw [List.getElem?_set_self hil] at hj
        injection hj with hj
        subst hj
        exact ⟨r, hr, rfl⟩
      · rw [List.getElem?_set_ne e] at hj
        exact ⟨s, hj, rfl⟩
    obtain ⟨s0, hs0, es⟩ := hsame x s hs
    obtain ⟨t0, ht0, et⟩ := hsame y t ht
    rw [← et]
    exact h.apart x y s0 t0 hxy hs0 ht0 q (by rw [es]; exact hq)
/-- the i-th list has a number more -/
theorem RowsU.put {i : Nat} {r : RowU} {v : Int} {c4 : Nat} {A4 : Option Addr} (h : RowsU w base g rs) (hr : rs[i]? = some r) (hO : OwnI w4 base 2 A4 c4 (r.L ++ [v])) (hG : w.grownBy w4 (Value.slice r.A r.L.length r.c).ownBlock) (hl : ∀ b, A4 = some ⟨b, 0, none⟩ → r.A = some ⟨b, 0, none⟩ ∨ w.heap.size ≤ b) :
    RowsU (w4.setCell ⟨g, i, none⟩ (.slice A4 (r.L.length + 1) c4)) base g (rs.set i ⟨A4, c4, r.L ++ [v]⟩) ∧ w4.cell? ⟨g, i, none⟩ = some r.hdr ∧ w4.frozen? ⟨g, i, none⟩ = false ∧ (∀ B w0, B ≤ base → Below B w0 w → Below B w0 (w4.setCell ⟨g, i, none⟩ (.slice A4 (r.L.length + 1) c4))) ∧
      (∀ (b : Nat) (cs : Array Value) (t : TypeId), w.heap[b]? = some (.cells cs t (0, 0)) → t ≠ 2 → t ≠ 28 → (w4.setCell ⟨g, i, none⟩ (.slice A4 (r.L.length + 1) c4)).heap[b]? = some (.cells cs t (0, 0))) := by
  have hrm := List.mem_of_getElem? hr
  have hrO := h.ins r hrm
  have hil := (List.getElem?_eq_some_iff.1 hr).1
  obtain ⟨hbg, cur, hg⟩ := h.heap
  have hltg := (Array.getElem?_eq_some_iff.1 hg).1
  -- the row's own block is of numbers
  have hrb : ∀ b, (Value.slice r.A r.L.length r.c).ownBlock = some b → base ≤ b ∧ ∃ cs, w.heap[b]? = some (.cells cs 2 (0, 0)) := by
    intro b hb
    rcases hrO.1.2 with ⟨h1, _⟩ | ⟨g', cap, cur2, h1, h2, h3, _⟩
    · rw [h1] at hb; cases hb
    · rw [h1] at hb
      simp only [Value.ownBlock, Option.some.injEq] at hb
      subst hb
      exact ⟨h2, cur2, h3⟩
  have hne : some g ≠ (Value.slice r.A r.L.length r.c).ownBlock := by
    intro e
    obtain ⟨_, cs, h2⟩ := hrb g e.symm
    rw [hg] at h2
    injection h2 with h2; injection h2 with _ h2
    exact absurd h2 (by decide)
  have hg4 : w4.heap[g]? = some (.cells cur 28 (0, 0)) := (hG.block g hltg hne).trans hg
  have hrows4 : w4.ownsRow base 28 1 (.slice (some ⟨g, 0, none⟩) rs.length rs.length) rs.length (rs.map RowU.hdr) :=
    World.ownsRow.kept h.rows hG (.inr (by simpa [Value.ownBlock] using hne))
  obtain ⟨hst, hgs⟩ := hrows4.stored i (.slice A4 (r.L.length + 1) c4)
  have hothers : ∀ j s, j ≠ i → rs[j]? = some s → OwnI w4 base 2 s.A s.c s.L := by
    intro j s hj hs
    refine (h.ins s (List.mem_of_getElem? hs)).grownL hG fun b e e2 => ?_
    rcases hrO.1.2 with ⟨h1, _⟩ | ⟨g', cap, cur2, h1, _⟩
    · rw [h1] at e2; cases e2
    · rw [h1] at e2
      simp only [Value.ownBlock, Option.some.injEq] at e2
      subst e2
      injection h1 with h1
      exact h.apart j i s r hj hs hr b e h1
  refine ⟨⟨?_, fun s hs => ?_, fun a b s t hab hs ht k hk => ?_⟩, ?_, hrows4.frozenAt _, fun B w0 hB hb0 => ?_, fun b cs t hb h1 h2 => ?_⟩
  · rw [List.length_set, List.map_set]
    have e : RowU.hdr ⟨A4, c4, r.L ++ [v]⟩ = .slice A4 (r.L.length + 1) c4 := by simp [RowU.hdr]
    rw [e]
    exact hst
  · obtain ⟨j, hj⟩ := List.getElem?_of_mem hs
    by_cases e : i = j
    · subst e
      rw [List.getElem?_set_self hil] at hj
      injection hj with hj
      subst hj
      exact hO.past_rowsU hg4 hgs
    · rw [List.getElem?_set_ne e] at hj
      exact (hothers j s (Ne.symm e) hj).past_rowsU hg4 hgs
  · have hnew : ∀ j s, j ≠ i → rs[j]? = some s → ∀ k, s.A = some ⟨k, 0, none⟩ → A4 ≠ some ⟨k, 0, none⟩ := by
      intro j s hj hs k hk e
      rcases hl k e with h1 | h1
      · exact h.apart j i s r hj hs hr k hk h1
      · have hsO := h.ins s (List.mem_of_getElem? hs)
        rw [hk] at hsO
        have := hsO.ltL.2
        omega
    by_cases ea : a = i
    · subst ea
      rw [List.getElem?_set_self hil] at hs
      injection hs with hs
      subst hs
      rw [List.getElem?_set_ne hab] at ht
      intro e
      exact hnew b t (Ne.symm hab) ht k e hk
    · rw [List.getElem?_set_ne (Ne.symm ea)] at hs
      by_cases eb : b = i
      · subst eb
        rw [List.getElem?_set_self hil] at ht
        injection ht with ht
        subst ht
        exact hnew a s ea hs k hk
      · rw [List.getElem?_set_ne (Ne.symm eb)] at ht
        exact h.apart a b s t hab hs ht k hk
  · exact (hrows4.cellAt i (by simpa using hil)).trans (by rw [List.getElem?_map, hr]; rfl)
  · have hb4 : Below B w0 w4 := hb0.grown hG (by omega) fun k hk => Nat.le_trans hB (hrb k hk).1
    exact hb4.setCell (by show B ≤ g; omega) _
  · have hlt := (Array.getElem?_eq_some_iff.1 hb).1
    have n1 : some b ≠ (Value.slice r.A r.L.length r.c).ownBlock := by
      intro e
      obtain ⟨_, cs2, h3⟩ := hrb b e.symm
      rw [hb] at h3
      injection h3 with h3; injection h3 with _ h3
      exact h1 h3
    have n2 : b ≠ g := by
      intro e
      subst e
      rw [hg] at hb
      injection hb with hb; injection hb with _ hb
      exact h2 hb.symm
    exact (Below.heap_setCell _ ⟨g, i, none⟩ _ _ n2).trans ((hG.block b hlt n1).trans hb)
/-- the i-th list is a new one -/
theorem RowsU.fresh {i n' : Nat} {r : RowU} {L' : List Int} {c4 : Nat} {A4 : Option Addr} (h : RowsU w base g rs) (hr : rs[i]? = some r) (hO : OwnI w4 base 2 A4 c4 L') (hn : L'.length = n') (hG : w.grownBy w4 none) (hl : ∀ b, A4 = some ⟨b, 0, none⟩ → w.heap.size ≤ b) :
    RowsU (w4.setCell ⟨g, i, none⟩ (.slice A4 n' c4)) base g (rs.set i ⟨A4, c4, L'⟩) ∧ w4.cell? ⟨g, i, none⟩ = some r.hdr ∧ w4.frozen? ⟨g, i, none⟩ = false ∧ (∀ B w0, B ≤ base → Below B w0 w → Below B w0 (w4.setCell ⟨g, i, none⟩ (.slice A4 n' c4))) ∧
      (∀ (b : Nat) (cs : Array Value) (t : TypeId), w.heap[b]? = some (.cells cs t (0, 0)) → t ≠ 28 → (w4.setCell ⟨g, i, none⟩ (.slice A4 n' c4)).heap[b]? = some (.cells cs t (0, 0))) := by
  have hil := (List.getElem?_eq_some_iff.1 hr).1
  obtain ⟨hbg, cur, hg⟩ := h.heap
  have hltg := (Array.getElem?_eq_some_iff.1 hg).1
  have hne : some g ≠ (none : Option Nat) := by simp
  have hg4 : w4.heap[g]? = some (.cells cur 28 (0, 0)) := (hG.block g hltg hne).trans hg
  have hrows4 : w4.ownsRow base 28 1 (.slice (some ⟨g, 0, none⟩) rs.length rs.length) rs.length (rs.map RowU.hdr) :=
    World.ownsRow.kept h.rows hG (.inr (by simp [Value.ownBlock]))
  obtain ⟨hst, hgs⟩ := hrows4.stored i (.slice A4 n' c4)
  have hothers : ∀ j s, j ≠ i → rs[j]? = some s → OwnI w4 base 2 s.A s.c s.L := by
    intro j s hj hs
    refine (h.ins s (List.mem_of_getElem? hs)).grownL hG fun b e e2 => by cases e2
  refine ⟨⟨?_, fun s hs => ?_, fun a b s t hab hs ht k hk => ?_⟩, ?_, hrows4.frozenAt _, fun B w0 hB hb0 => ?_, fun b cs t hb h2 => ?_⟩
  · rw [List.length_set, List.map_set]
    have e : RowU.hdr ⟨A4, c4, L'⟩ = .slice A4 n' c4 := by simp [RowU.hdr, hn]
    rw [e]
    exact hst
  · obtain ⟨j, hj⟩ := List.getElem?_of_mem hs
    by_cases e : i = j
    · subst e
      rw [List.getElem?_set_self hil] at hj
      injection hj with hj
      subst hj
      exact hO.past_rowsU hg4 hgs
    · rw [List.getElem?_set_ne e] at hj
      exact (hothers j s (Ne.symm e) hj).past_rowsU hg4 hgs
  · have hnew : ∀ j s, j ≠ i → rs[j]? = some s → ∀ k, s.A = some ⟨k, 0, none⟩ → A4 ≠ some ⟨k, 0, none⟩ := by
      intro j s hj hs k hk e
      have h1 := hl k e
      have hsO := h.ins s (List.mem_of_getElem? hs)
      rw [hk] at hsO
      have := hsO.ltL.2
      omega
    by_cases ea : a = i
    · subst ea
      rw [List.getElem?_set_self hil] at hs
      injection hs with hs
      subst hs
      rw [List.getElem?_set_ne hab] at ht
      intro e
      exact hnew b t (Ne.symm hab) ht k e hk
    · rw [List.getElem?_set_ne (Ne.symm ea)] at hs
      by_cases eb : b = i
      · subst eb
        rw [List.getElem?_set_self hil] at ht
        injection ht with ht
        subst ht
        exact hnew a s ea hs k hk
      · rw [List.getElem?_set_ne (Ne.symm eb)] at ht
        exact h.apart a b s t hab hs ht k hk
  · exact (hrows4.cellAt i (by simpa using hil)).trans (by rw [List.getElem?_map, hr]; rfl)
  · have hb4 : Below B w0 w4 := hb0.grown hG (by omega) fun k hk => (by cases hk)
    exact hb4.setCell (by show B ≤ g; omega) _
  · have hlt := (Array.getElem?_eq_some_iff.1 hb).1
    have n1 : some b ≠ (none : Option Nat) := by simp
    have n2 : b ≠ g := by
      intro e
      subst e
      rw [hg] at hb
      injection hb with hb; injection hb with _ hb
      exact h2 hb.symm
    exact (Below.heap_setCell _ ⟨g, i, none⟩ _ _ n2).trans ((hG.block b hlt n1).trans hb)
/-- lists of the call's own read as lists -/
theorem RowsU.reads (h : RowsU w base g rs) : IntsLL w w.heap.size (some ⟨g, 0, none⟩) rs.length (rs.map (·.L)) := by
  obtain ⟨_, cur, hg⟩ := h.heap
  refine ⟨by simp, fun _ => ⟨g, 0, rfl, lt_of_heap hg, fun k L hL => ?_⟩⟩
  rw [List.getElem?_map, Option.map_eq_some_iff] at hL
  obtain ⟨r, hr, rfl⟩ := hL
  have hO := h.ins r (List.mem_of_getElem? hr)
  rw [Nat.zero_add]
  exact ⟨r.A, r.c, (h.at_ hr).1, OwnI.len_cap hO, hO.ints⟩
end
end Go.Proofs.YtgkngimeokhhgaaGreatDoor
/- Which instructions are reached, which registers are surely set: plain mathematics. Nothing is claimed of the program here. -/
namespace Go.Proofs.YtgkngimeokhhgaaGreatDoor
open Go.RowKit

/-- an instruction is reached without going through one that sets a register (below 0: through all) -/
inductive Way (l : List Ji) (but : Int) : Nat → Prop
  | start : Way l but 0
  | step {i k : Nat} {x : Ji} : Way l but i → l[i]? = some x → ¬(setsJ x = true ∧ writesJ x = but) → (k : Int) ∈ nextJ x i → Way l but k
theorem Way.more {l : List Ji} {but : Int} {i : Nat} (hx : ∀ x ∈ l, ¬(setsJ x = true ∧ writesJ x = -1)) (h : Way l but i) : Way l (-1) i := by
  induction h with
  | start => exact .start
  | step _ hl _ hk ih => exact .step ih hl (hx _ (List.mem_of_getElem? hl)) hk
/-- where an instruction that may be goes on -/
theorem next_in {R A : Int} {n : Nat} {x : Ji} {i : Nat} (hm : mayJ R A n x = true) (hi : i < n) (hn : n ≤ 4096) (hl : i + 1 < n ∨ x.op = 0 ∨ x.op = 10) : ∀ k ∈ nextJ x i, 0 ≤ k ∧ k < n := by
  obtain ⟨⟨h0, h1⟩, h2, _⟩ := mayJ_parts hm
  intro k hk
  have i0 := h2 0 (by omega)
  have i2 := h2 2 (by omega)
  have hw : wrap64 ((i : Int) + 1) = (i : Int) + 1 := by unfold wrap64; omega
  unfold nextJ at hk
  rw [hw] at hk
  obtain ⟨op, a, b, c, m⟩ := x
  dsimp only at h0 h1 hk hl
  unfold InB at i0 i2
  rcases op_cases h0 h1 with rfl | rfl | rfl | rfl | rfl | rfl | rfl | rfl | rfl | rfl | rfl | rfl | rfl
  all_goals simp [kJ, kindsJ, limJ, Ji.f] at i0 i2 hk hl
  all_goals first
    | (subst hk; omega)
    | (rcases hk with rfl | rfl <;> omega)
/-- an instruction of code that may be goes on within it -/
theorem Cd.next_in {c : Cd} (h : c.may = true) {i : Nat} {x : Ji} (hx : c.l[i]? = some x) : ∀ k ∈ nextJ x i, 0 ≤ k ∧ k < c.l.length := by
  obtain ⟨⟨_, _, _, _, _, _, n0, n1⟩, h2, y, hy, hy2⟩ := Cd.may_parts h
  have hi := (List.getElem?_eq_some_iff.1 hx).1
  refine Go.Proofs.YtgkngimeokhhgaaGreatDoor.next_in (h2 x (List.mem_of_getElem? hx)) hi n1 ?_
  by_cases hl : i + 1 < c.l.length
  · exact .inl hl
  · right
    rw [List.getLast?_eq_getElem?, show c.l.length - 1 = i by omega, hx] at hy
    injection hy with hy
    rw [hy]; exact hy2
theorem Way.lt {c : Cd} (h : c.may = true) {but : Int} {i : Nat} (hw : Way c.l but i) : i < c.l.length := by
  cases hw with
  | start => obtain ⟨⟨_, _, _, _, _, _, n0, n1⟩, _⟩ := Cd.may_parts h; omega
  | step _ hl _ hk => have := c.next_in h hl _ hk; omega
theorem mem_kJ {ks : List UInt8} {i : Nat} {k : UInt8} (h : ks[i]? = some k) : ks.getD i 32 = k := by rw [List.getD_eq_getElem?_getD, h]; rfl
/-- registers of an instruction that may be -/
theorem reads_in {R A L : Int} {x : Ji} (h : mayJ R A L x = true) : ∀ r ∈ readsJ x, 0 ≤ r ∧ r < R := by
  intro r hr
  obtain ⟨i, h1, h2⟩ := readsG_mem _ _ r hr
  obtain ⟨_, h3, _⟩ := mayJ_parts h
  have hi : i < 3 := (List.getElem?_eq_some_iff.1 h2).1
  have := h3 i hi
  unfold InB at this
  rw [mem_kJ h1, List.getD_eq_getElem?_getD, h2] at this
  exact this
theorem sets_in {R A L : Int} {x : Ji} (h : mayJ R A L x = true) (hs : setsJ x = true) : 0 ≤ writesJ x ∧ writesJ x < R := by
  obtain ⟨_, h3, _⟩ := mayJ_parts h
  have := h3 0 (by omega)
  have hk : (kJ x.op)[0]? = some 119 := by
    unfold setsJ at hs
    rw [List.head?_eq_getElem?] at hs
    exact eq_of_beq hs
  unfold InB at this
  rw [mem_kJ hk] at this
  unfold writesJ
  rw [if_pos hs]
  exact this
theorem Cd.no_minus {c : Cd} (h : c.may = true) : ∀ x ∈ c.l, ¬(setsJ x = true ∧ writesJ x = -1) := by
  intro x hx ⟨h1, h2⟩
  have := sets_in ((Cd.may_parts h).2.1 x hx) h1
  omega
theorem Way.all_ {c : Cd} (h : c.may = true) {but : Int} {i : Nat} (hw : Way c.l but i) : Way c.l (-1) i := hw.more (c.no_minus h)
theorem Way.on {c : Cd} (h : c.may = true) {i k : Nat} {x : Ji} (hw : Way c.l (-1) i) (hx : c.l[i]? = some x) (hk : (k : Int) ∈ nextJ x i) : Way c.l (-1) k :=
  .step hw hx (c.no_minus h x (List.mem_of_getElem? hx)) hk
open Classical in
/-- which instructions are reached -/
noncomputable def reachB (c : Cd) (but : Int) : List Bool := (List.range c.l.length).map fun i => decide (Way c.l but i)
open Classical in
/-- which registers are surely set ahead of an instruction -/
noncomputable def setN (c : Cd) (i : Nat) : List Int := ((List.range c.R.toNat).filter fun (n : Nat) => decide (Way c.l (-1) i ∧ ¬ Way c.l (n : Int) i)).map fun (n : Nat) => (n : Int)
noncomputable def setsN (c : Cd) : List (List Int) := (List.range c.l.length).map (setN c)
theorem mem_setN {c : Cd} {i : Nat} {n : Int} : n ∈ setN c i ↔ 0 ≤ n ∧ n < c.R ∧ Way c.l (-1) i ∧ ¬ Way c.l n i := by
  unfold setN
  rw [List.mem_map]
  constructor
  · rintro ⟨m, hm, rfl⟩
    rw [List.mem_filter, List.mem_range] at hm
    have := hm.2
    simp only [decide_eq_true_eq] at this
    exact ⟨by omega, by omega, this.1, this.2⟩
  · rintro ⟨h0, h1, h2, h3⟩
    refine ⟨n.toNat, ?_, by omega⟩
    rw [List.mem_filter, List.mem_range]
    refine ⟨by omega, ?_⟩
    simp only [decide_eq_true_eq]
    refine ⟨h2, ?_⟩
    rwa [Int.toNat_of_nonneg h0]
open Classical in
/-- the instructions that ask for what is not surely set -/
noncomputable def unsetN (c : Cd) : List Nat := (List.range c.l.length).filter fun i => decide (Way c.l (-1) i ∧ ∃ x, c.l[i]? = some x ∧ ∃ r ∈ readsJ x, r ∉ setN c i)
/-- the error of code that is checked -/
noncomputable def validE (c : Cd) : Int := if c.may = false then 1 else if unsetN c ≠ [] then 7 else if c.l.any (fun x => (x.op == 7 || x.op == 9) && decide (x.a < c.I)) then 3 else 0
open Classical in
noncomputable def loopsN (c : Cd) : List Nat := (List.range c.l.length).filter fun i => decide (Way c.l (-1) i ∧ ∃ x, c.l[i]? = some x ∧ ∃ k ∈ nextJ x i, k ≤ (i : Int))
/-- where one way has come to, and what was set on it -/
structure Goes (c : Cd) (at_ : Nat) (was : Int → Bool) : Prop where
  way : Way c.l (-1) at_
  set_ : ∀ n, 0 ≤ n → n < c.R → was n = false → Way c.l n at_
theorem Goes.start (c : Cd) : Goes c 0 (fun _ => false) := ⟨.start, fun _ _ _ _ => .start⟩
theorem Goes.was {c : Cd} {at_ : Nat} {was : Int → Bool} (h : Goes c at_ was) : ∀ n ∈ setN c at_, was n = true := by
  intro n hn
  obtain ⟨h0, h1, _, h3⟩ := mem_setN.1 hn
  cases e : was n with
  | true => rfl
  | false => exact absurd (h.set_ n h0 h1 e) h3
theorem Goes.reads {c : Cd} (hf : unsetN c = []) {at_ : Nat} {was : Int → Bool} (h : Goes c at_ was) {x : Ji} (hx : c.l[at_]? = some x) : ∀ r ∈ readsJ x, was r = true := by
  intro r hr
  refine h.was r ?_
  apply Classical.byContradiction
  intro hn
  have : at_ ∈ unsetN c := by
    unfold unsetN
    rw [List.mem_filter, List.mem_range]
    exact ⟨(List.getElem?_eq_some_iff.1 hx).1, by simp only [decide_eq_true_eq]; exact ⟨h.way, x, hx, r, hr, hn⟩⟩
  rw [hf] at this
  cases this
/-- what was set, with what an instruction sets -/
def wasX (x : Ji) (was : Int → Bool) : Int → Bool := fun n => if setsJ x = true ∧ writesJ x = n then true else was n
theorem Goes.step {c : Cd} (hm : c.may = true) {at_ k : Nat} {was : Int → Bool} (h : Goes c at_ was) {x : Ji} (hx : c.l[at_]? = some x) (hk : (k : Int) ∈ nextJ x at_) : Goes c k (wasX x was) := by
  refine ⟨h.way.on hm hx hk, fun n h0 h1 hn => ?_⟩
  unfold wasX at hn
  split at hn
  · cases hn
  · rename_i hs
    exact .step (h.set_ n h0 h1 hn) hx hs hk
end Go.Proofs.YtgkngimeokhhgaaGreatDoor
/- Code without what is not reached: plain mathematics. Nothing is claimed of the program here. -/
namespace Go.Proofs.YtgkngimeokhhgaaGreatDoor
open Go.RowKit

open Classical in
noncomputable def wayB (c : Cd) (i : Nat) : Bool := decide (Way c.l (-1) i)
/-- how many are reached ahead of one -/
noncomputable def rk (c : Cd) (i : Nat) : Nat := ((List.range i).filter (wayB c)).length
def zJi : Ji := ⟨0, 0, 0, 0, 0⟩
section
variable {c : Cd}
end
section
variable {c : Cd} (h : c.may = true)
include h
end
end Go.Proofs.YtgkngimeokhhgaaGreatDoor
/- Code that runs, step by step, as plain lists; what more steps and more room do, and fewer. -/
namespace Go.Proofs.YtgkngimeokhhgaaGreatDoor
open Go.RowKit

/-- where code stands: its place, its registers, its arrays, how many steps, how many numbers were pushed -/
structure Ms where
  at_ : Nat
  R : List Int
  A : List (List Int)
  st : Nat
  ce : Nat
def Ms.r (s : Ms) (i : Int) : Int := s.R.getD i.toNat 0
def Ms.a (s : Ms) (i : Int) : List Int := s.A.getD i.toNat []
def Ms.put (s : Ms) (i v : Int) : Ms := { s with R := s.R.set i.toNat v }
def Ms.arr (s : Ms) (i : Int) (l : List Int) : Ms := { s with A := s.A.set i.toNat l }
def Ms.goto_ (s : Ms) (i : Int) : Ms := { s with at_ := i.toNat }
/-- one instruction, once its step is counted -/
def doM (s : Ms) (x : Ji) (cells : Int) : Except Int Ms :=
  if x.op = 1 then .ok (s.put x.a x.n)
  else if x.op = 2 then .ok (s.put x.a (s.r x.b))
  else if x.op = 3 then .ok (s.put x.a (wrap64 (s.r x.b + s.r x.c)))
  else if x.op = 4 then .ok (s.put x.a (wrap64 (s.r x.b - s.r x.c)))
  else if x.op = 5 then .ok (s.put x.a (wrap64 (s.r x.b * s.r x.c)))
  else if x.op = 6 then
    if s.r x.c < 0 ∨ ((s.a x.b).length : Int) ≤ s.r x.c then .error 3 else .ok (s.put x.a ((s.a x.b).getD (s.r x.c).toNat 0))
  else if x.op = 7 then
    if s.r x.b < 0 ∨ ((s.a x.a).length : Int) ≤ s.r x.b then .error 3 else .ok (s.arr x.a ((s.a x.a).set (s.r x.b).toNat (s.r x.c)))
  else if x.op = 8 then .ok (s.put x.a ((s.a x.b).length : Int))
  else if x.op = 9 then
    if cells ≤ (s.ce : Int) then .error 10 else .ok { s.arr x.a (s.a x.a ++ [s.r x.b]) with ce := s.ce + 1 }
  else if x.op = 10 then .ok (s.goto_ x.a)
  else if x.op = 11 then .ok (if s.r x.a < s.r x.b then s.goto_ x.c else s)
  else if x.op = 12 then .ok (if s.r x.a = s.r x.b then s.goto_ x.c else s)
  else .ok s
def Ms.tick (s : Ms) : Ms := { s with at_ := s.at_ + 1, st := s.st + 1 }
def stepM (s : Ms) (x : Ji) (cells : Int) : Except Int Ms := doM s.tick x cells
/-- code from where it stands, with so many steps left: where it ends, and the way there -/
def goM (c : Cd) (cells : Int) : Nat → Ms → Except Int (Ms × List Nat)
  | 0, _ => .error 9
  | k + 1, s => match stepM s (c.l.getD s.at_ zJi) cells with
    | .error e => .error e
    | .ok s2 => if (c.l.getD s.at_ zJi).op = 0 then .ok (s2, [s.at_]) else match goM c cells k s2 with
      | .error e => .error e
      | .ok zp => .ok (zp.1, s.at_ :: zp.2)
def startM (c : Cd) (ins : List (List Int)) : Ms := ⟨0, List.replicate c.R.toNat 0, ins ++ List.replicate (c.A.toNat - ins.length) [], 0, 0⟩
noncomputable def runM (c : Cd) (fuel cells : Int) (ins : List (List Int)) : Except Int (Ms × List Nat) :=
  if validE c ≠ 0 then .error (validE c) else if fuel < 0 ∨ cells < 0 ∨ (ins.length : Int) ≠ c.I then .error 1 else goM c cells fuel.toNat (startM c ins)

/-- what a step does, and keeps: it counts one, pushes one at most, and no array comes or goes -/
theorem doM_cases (s : Ms) (x : Ji) (cells : Int) :
    ((x.op = 6 ∨ x.op = 7) ∧ ∀ cells2, doM s x cells2 = .error 3) ∨ (x.op = 9 ∧ cells ≤ (s.ce : Int) ∧ doM s x cells = .error 10) ∨
    (x.op = 9 ∧ ¬ cells ≤ (s.ce : Int) ∧ doM s x cells = .ok { s.arr x.a (s.a x.a ++ [s.r x.b]) with ce := s.ce + 1 }) ∨
    (x.op ≠ 9 ∧ ∃ z, (∀ cells2, doM s x cells2 = .ok z) ∧ z.st = s.st ∧ z.R.length = s.R.length ∧ z.A.length = s.A.length ∧ z.ce = s.ce) := by
  by_cases e1 : x.op = 1
  · exact .inr (.inr (.inr ⟨by omega, s.put x.a x.n, fun _ => (by unfold doM; rw [if_pos e1]), rfl, by simp [Ms.put], rfl, rfl⟩))
  by_cases e2 : x.op = 2
  · exact .inr (.inr (.inr ⟨by omega, s.put x.a (s.r x.b), fun _ => (by unfold doM; rw [if_neg e1, if_pos e2]), rfl, by simp [Ms.put], rfl, rfl⟩))
  by_cases e3 : x.op = 3
  · exact .inr (.inr (.inr ⟨by omega, s.put x.a (wrap64 (s.r x.b + s.r x.c)), fun _ => (by unfold doM; rw [if_neg e1, if_neg e2, if_pos e3]), rfl, by simp [Ms.put], rfl, rfl⟩))
  by_cases e4 : x.op = 4
  · exact .inr (.inr (.inr ⟨by omega, s.put x.a (wrap64 (s.r x.b - s.r x.c)), fun _ => (by unfold doM; rw [if_neg e1, if_neg e2, if_neg e3, if_pos e4]), rfl, by simp [Ms.put], rfl, rfl⟩))
  by_cases e5 : x.op = 5
  · exact .inr (.inr (.inr ⟨by omega, s.put x.a (wrap64 (s.r x.b * s.r x.c)), fun _ => (by unfold doM; rw [if_neg e1, if_neg e2, if_neg e3, if_neg e4, if_pos e5]), rfl, by simp [Ms.put], rfl, rfl⟩))
  by_cases e6 : x.op = 6
  · by_cases e : s.r x.c < 0 ∨ ((s.a x.b).length : Int) ≤ s.r x.c
    · exact .inl ⟨by omega, fun _ => (by unfold doM; rw [if_neg e1, if_neg e2, if_neg e3, if_neg e4, if_neg e5, if_pos e6, if_pos e])⟩
    · exact .inr (.inr (.inr ⟨by omega, s.put x.a ((s.a x.b).getD (s.r x.c).toNat 0), fun _ => (by unfold doM; rw [if_neg e1, if_neg e2, if_neg e3, if_neg e4, if_neg e5, if_pos e6, if_neg e]), rfl, by simp [Ms.put], by simp [Ms.put], rfl⟩))
  by_cases e7 : x.op = 7
  · by_cases e : s.r x.b < 0 ∨ ((s.a x.a).length : Int) ≤ s.r x.b
    · exact .inl ⟨by omega, fun _ => (by unfold doM; rw [if_neg e1, if_neg e2, if_neg e3, if_neg e4, if_neg e5, if_neg e6, if_pos e7, if_pos e])⟩
    · exact .inr (.inr (.inr ⟨by omega, s.arr x.a ((s.a x.a).set (s.r x.b).toNat (s.r x.c)), fun _ => (by unfold doM; rw [if_neg e1, if_neg e2, if_neg e3, if_neg e4, if_neg e5, if_neg e6, if_pos e7, if_neg e]), rfl, by simp [Ms.arr], by simp [Ms.arr], rfl⟩))
  by_cases e8 : x.op = 8
  · exact .inr (.inr (.inr ⟨by omega, s.put x.a ((s.a x.b).length : Int), fun _ => (by unfold doM; rw [if_neg e1, if_neg e2, if_neg e3, if_neg e4, if_neg e5, if_neg e6, if_neg e7, if_pos e8]), rfl, by simp [Ms.put], rfl, rfl⟩))
  by_cases e9 : x.op = 9
  · by_cases e : cells ≤ (s.ce : Int)
    · exact .inr (.inl ⟨e9, e, by unfold doM; rw [if_neg e1, if_neg e2, if_neg e3, if_neg e4, if_neg e5, if_neg e6, if_neg e7, if_neg e8, if_pos e9, if_pos e]⟩)
    · exact .inr (.inr (.inl ⟨e9, e, by unfold doM; rw [if_neg e1, if_neg e2, if_neg e3, if_neg e4, if_neg e5, if_neg e6, if_neg e7, if_neg e8, if_pos e9, if_neg e]⟩))
  by_cases e10 : x.op = 10
  · exact .inr (.inr (.inr ⟨by omega, s.goto_ x.a, fun _ => (by unfold doM; rw [if_neg e1, if_neg e2, if_neg e3, if_neg e4, if_neg e5, if_neg e6, if_neg e7, if_neg e8, if_neg e9, if_pos e10]), rfl, rfl, rfl, rfl⟩))
  by_cases e11 : x.op = 11
  · by_cases e : s.r x.a < s.r x.b
    · exact .inr (.inr (.inr ⟨by omega, s.goto_ x.c, fun _ => (by unfold doM; rw [if_neg e1, if_neg e2, if_neg e3, if_neg e4, if_neg e5, if_neg e6, if_neg e7, if_neg e8, if_neg e9, if_neg e10, if_pos e11, if_pos e]), rfl, rfl, rfl, rfl⟩))
    · exact .inr (.inr (.inr ⟨by omega, s, fun _ => (by unfold doM; rw [if_neg e1, if_neg e2, if_neg e3, if_neg e4, if_neg e5, if_neg e6, if_neg e7, if_neg e8, if_neg e9, if_neg e10, if_pos e11, if_neg e]), rfl, rfl, rfl, rfl⟩))
  by_cases e12 : x.op = 12
  · by_cases e : s.r x.a = s.r x.b
    · exact .inr (.inr (.inr ⟨by omega, s.goto_ x.c, fun _ => (by unfold doM; rw [if_neg e1, if_neg e2, if_neg e3, if_neg e4, if_neg e5, if_neg e6, if_neg e7, if_neg e8, if_neg e9, if_neg e10, if_neg e11, if_pos e12, if_pos e]), rfl, rfl, rfl, rfl⟩))
    · exact .inr (.inr (.inr ⟨by omega, s, fun _ => (by unfold doM; rw [if_neg e1, if_neg e2, if_neg e3, if_neg e4, if_neg e5, if_neg e6, if_neg e7, if_neg e8, if_neg e9, if_neg e10, if_neg e11, if_pos e12, if_neg e]), rfl, rfl, rfl, rfl⟩))
  exact .inr (.inr (.inr ⟨by omega, s, fun _ => (by unfold doM; rw [if_neg e1, if_neg e2, if_neg e3, if_neg e4, if_neg e5, if_neg e6, if_neg e7, if_neg e8, if_neg e9, if_neg e10, if_neg e11, if_neg e12]), rfl, rfl, rfl, rfl⟩))
theorem doM_keeps {s z : Ms} {x : Ji} {cells : Int} (h : doM s x cells = .ok z) : z.st = s.st ∧ z.R.length = s.R.length ∧ z.A.length = s.A.length ∧ s.ce ≤ z.ce ∧ z.ce = s.ce + (if x.op = 9 then 1 else 0) ∧ (s.ce ≤ cells → z.ce ≤ cells) := by
  rcases doM_cases s x cells with ⟨_, h1⟩ | ⟨_, _, h1⟩ | ⟨e, h2, h1⟩ | ⟨e, z2, h1, k1, k2, k3, k4⟩
  · rw [h1] at h; cases h
  · rw [h1] at h; cases h
  · rw [h1] at h
    injection h with h
    subst h
    rw [if_pos e]
    refine ⟨rfl, rfl, by simp [Ms.arr], Nat.le_succ _, rfl, fun h3 => ?_⟩
    show ((s.ce + 1 : Nat) : Int) ≤ cells
    omega
  · rw [h1] at h
    injection h with h
    subst h
    rw [if_neg e]
    exact ⟨k1, k2, k3, by omega, by omega, fun h3 => by omega⟩
theorem doM_errors {s : Ms} {x : Ji} {cells e : Int} (h : doM s x cells = .error e) : (e = 3 ∧ (x.op = 6 ∨ x.op = 7)) ∨ (e = 10 ∧ x.op = 9 ∧ cells ≤ s.ce) := by
  rcases doM_cases s x cells with ⟨h2, h1⟩ | ⟨h2, h3, h1⟩ | ⟨_, h2, h1⟩ | ⟨_, z2, h1, _⟩
  · rw [h1] at h; injection h with h; exact .inl ⟨h.symm, h2⟩
  · rw [h1] at h; injection h with h; exact .inr ⟨h.symm, h2, h3⟩
  · rw [h1] at h; cases h
  · rw [h1] at h; cases h
/-- more room does no harm; nor does less, if it is enough -/
theorem doM_room {s z : Ms} {x : Ji} {cells cells2 : Int} (h : doM s x cells = .ok z) (h2 : (z.ce : Int) ≤ cells2) : doM s x cells2 = .ok z := by
  rcases doM_cases s x cells with ⟨_, h1⟩ | ⟨_, _, h1⟩ | ⟨e, _, h1⟩ | ⟨_, z2, h1, _⟩
  · rw [h1] at h; cases h
  · rw [h1] at h; cases h
  · rw [h1] at h
    injection h with h
    subst h
    have h2 : ((s.ce + 1 : Nat) : Int) ≤ cells2 := h2
    rcases doM_cases s x cells2 with ⟨h3, _⟩ | ⟨_, h3, _⟩ | ⟨_, _, h4⟩ | ⟨h3, _⟩
    · omega
    · omega
    · exact h4
    · exact absurd e h3
  · rw [h1] at h
    injection h with h
    subst h
    exact h1 _
/-- less room than it took -/
theorem doM_short {s z : Ms} {x : Ji} {cells cells2 : Int} (h : doM s x cells = .ok z) (h1 : (s.ce : Int) ≤ cells2) : doM s x cells2 = .ok z ∨ (doM s x cells2 = .error 10 ∧ cells2 < z.ce) := by
  by_cases h3 : (z.ce : Int) ≤ cells2
  · exact .inl (doM_room h h3)
  · refine .inr ⟨?_, by omega⟩
    have hk := (doM_keeps h).2.2.2.2.1
    split at hk
    · rename_i e
      rcases doM_cases s x cells2 with ⟨h4, _⟩ | ⟨_, _, h5⟩ | ⟨_, h4, _⟩ | ⟨h4, _⟩
      · omega
      · exact h5
      · omega
      · exact absurd e h4
    · omega
section
variable {c : Cd} {cells : Int}
theorem goM_keeps : ∀ {k : Nat} {s z : Ms} {p : List Nat}, goM c cells k s = .ok (z, p) → z.st = s.st + p.length ∧ 1 ≤ p.length ∧ p.length ≤ k ∧ z.A.length = s.A.length ∧ s.ce ≤ z.ce ∧ (s.ce ≤ cells → z.ce ≤ cells)
  | 0, _, _, _, h => by cases h
  | k + 1, s, z, p, h => by
    unfold goM at h
    split at h
    · cases h
    · rename_i s2 hs
      obtain ⟨a1, _, a3, a4, _, a6⟩ := doM_keeps (s := s.tick) hs
      have b1 : s2.st = s.st + 1 := a1
      have b4 : s.ce ≤ s2.ce := a4
      have b6 : (s.ce : Int) ≤ cells → (s2.ce : Int) ≤ cells := a6
      split at h
      · injection h with h; injection h with h1 h2
        subst h1; subst h2
        exact ⟨b1, by simp, by simp, a3, b4, b6⟩
      · split at h
        · cases h
        · rename_i z2 p2 hg
          injection h with h; injection h with h1 h2
          subst h1; subst h2
          obtain ⟨d1, d2, d3, d4, d5, d6⟩ := goM_keeps hg
          simp only [List.length_cons]
          exact ⟨by omega, by omega, by omega, d4.trans a3, by omega, fun h => d6 (b6 h)⟩
/-- with less room than it took it runs out of it -/
theorem goM_short {cells2 : Int} : ∀ {k k2 : Nat} {s z : Ms} {p : List Nat}, goM c cells k s = .ok (z, p) → p.length ≤ k2 → (s.ce : Int) ≤ cells2 → cells2 < z.ce → goM c cells2 k2 s = .error 10
  | 0, _, _, _, _, h, _, _, _ => by cases h
  | k + 1, 0, s, z, p, h, h2, _, _ => by have := (goM_keeps h).2.1; omega
  | k + 1, k2 + 1, s, z, p, h, h2, h3, h4 => by
    unfold goM at h ⊢
    split at h
    · cases h
    · rename_i s2 hs
      rcases doM_short (cells2 := cells2) hs h3 with hs2 | ⟨hs2, _⟩
      · have hs3 : stepM s (c.l.getD s.at_ zJi) cells2 = .ok s2 := hs2
        rw [hs3]
        split at h
        · rename_i h0
          injection h with h; injection h with h1 h5
          subst h1; subst h5
          have hk := (doM_keeps hs).2.2.2.2.1
          rw [h0] at hk
          have hk2 : s2.ce = s.ce := by simpa [Ms.tick] using hk
          omega
        · rename_i h0
          split at h
          · cases h
          · rename_i z2 p2 hg
            injection h with h; injection h with h1 h5
            subst h1; subst h5
            simp only [h0, if_false]
            have hc2 : (s2.ce : Int) ≤ cells2 := ((doM_keeps hs2).2.2.2.2.2) h3
            rw [goM_short hg (by simp only [List.length_cons] at h2; omega) hc2 h4]
      · have hs3 : stepM s (c.l.getD s.at_ zJi) cells2 = .error 10 := hs2
        rw [hs3]
/-- what can be wrong -/
theorem goM_errors : ∀ {k : Nat} {s : Ms} {e : Int}, goM c cells k s = .error e → e = 9 ∨ e = 10 ∨ (e = 3 ∧ ∃ x : Ji, x ∈ c.l ∧ (x.op = 6 ∨ x.op = 7))
  | 0, _, _, h => by injection h with h; exact .inl h.symm
  | k + 1, s, e, h => by
    unfold goM at h
    split at h
    · rename_i e2 hs
      injection h with h
      subst h
      rcases doM_errors hs with ⟨h1, h2⟩ | ⟨h1, _⟩
      · refine .inr (.inr ⟨h1, c.l.getD s.at_ zJi, ?_, h2⟩)
        by_cases hl : s.at_ < c.l.length
        · rw [List.getD_eq_getElem?_getD, List.getElem?_eq_getElem hl]; exact List.getElem_mem hl
        · rw [List.getD_eq_getElem?_getD, List.getElem?_eq_none (by omega)] at h2
          simp [zJi] at h2
      · exact .inr (.inl h1)
    · split at h
      · cases h
      · split at h
        · rename_i hg
          injection h with h
          subst h
          exact goM_errors hg
        · cases h
end
end Go.Proofs.YtgkngimeokhhgaaGreatDoor
/- The way that code goes when it runs; code without loops ends. -/
namespace Go.Proofs.YtgkngimeokhhgaaGreatDoor
open Go.RowKit

/-- where a step goes -/
theorem doM_at {s z : Ms} {x : Ji} {cells : Int} (h : doM s x cells = .ok z) : (x.op = 10 ∧ z.at_ = x.a.toNat) ∨ (x.op ≠ 10 ∧ z.at_ = s.at_) ∨ ((x.op = 11 ∨ x.op = 12) ∧ z.at_ = x.c.toNat) := by
  by_cases e1 : x.op = 1
  · unfold doM at h; rw [if_pos e1] at h; injection h with h; subst h; exact .inr (.inl ⟨by omega, rfl⟩)
  by_cases e2 : x.op = 2
  · unfold doM at h; rw [if_neg e1, if_pos e2] at h; injection h with h; subst h; exact .inr (.inl ⟨by omega, rfl⟩)
  by_cases e3 : x.op = 3
  · unfold doM at h; rw [if_neg e1, if_neg e2, if_pos e3] at h; injection h with h; subst h; exact .inr (.inl ⟨by omega, rfl⟩)
  by_cases e4 : x.op = 4
  · unfold doM at h; rw [if_neg e1, if_neg e2, if_neg e3, if_pos e4] at h; injection h with h; subst h; exact .inr (.inl ⟨by omega, rfl⟩)
  by_cases e5 : x.op = 5
  · unfold doM at h; rw [if_neg e1, if_neg e2, if_neg e3, if_neg e4, if_pos e5] at h; injection h with h; subst h; exact .inr (.inl ⟨by omega, rfl⟩)
  by_cases e6 : x.op = 6
  · by_cases e : s.r x.c < 0 ∨ ((s.a x.b).length : Int) ≤ s.r x.c
    · unfold doM at h; rw [if_neg e1, if_neg e2, if_neg e3, if_neg e4, if_neg e5, if_pos e6, if_pos e] at h; cases h
    · unfold doM at h; rw [if_neg e1, if_neg e2, if_neg e3, if_neg e4, if_neg e5, if_pos e6, if_neg e] at h; injection h with h; subst h; exact .inr (.inl ⟨by omega, rfl⟩)
  by_cases e7 : x.op = 7
  · by_cases e : s.r x.b < 0 ∨ ((s.a x.a).length : Int) ≤ s.r x.b
    · unfold doM at h; rw [if_neg e1, if_neg e2, if_neg e3, if_neg e4, if_neg e5, if_neg e6, if_pos e7, if_pos e] at h; cases h
    · unfold doM at h; rw [if_neg e1, if_neg e2, if_neg e3, if_neg e4, if_neg e5, if_neg e6, if_pos e7, if_neg e] at h; injection h with h; subst h; exact .inr (.inl ⟨by omega, rfl⟩)
  by_cases e8 : x.op = 8
  · unfold doM at h; rw [if_neg e1, if_neg e2, if_neg e3, if_neg e4, if_neg e5, if_neg e6, if_neg e7, if_pos e8] at h; injection h with h; subst h; exact .inr (.inl ⟨by omega, rfl⟩)
  by_cases e9 : x.op = 9
  · by_cases e : cells ≤ (s.ce : Int)
    · unfold doM at h; rw [if_neg e1, if_neg e2, if_neg e3, if_neg e4, if_neg e5, if_neg e6, if_neg e7, if_neg e8, if_pos e9, if_pos e] at h; cases h
    · unfold doM at h; rw [if_neg e1, if_neg e2, if_neg e3, if_neg e4, if_neg e5, if_neg e6, if_neg e7, if_neg e8, if_pos e9, if_neg e] at h; injection h with h; subst h; exact .inr (.inl ⟨by omega, rfl⟩)
  by_cases e10 : x.op = 10
  · unfold doM at h; rw [if_neg e1, if_neg e2, if_neg e3, if_neg e4, if_neg e5, if_neg e6, if_neg e7, if_neg e8, if_neg e9, if_pos e10] at h; injection h with h; subst h; exact .inl ⟨e10, rfl⟩
  by_cases e11 : x.op = 11
  · by_cases e : s.r x.a < s.r x.b
    · unfold doM at h; rw [if_neg e1, if_neg e2, if_neg e3, if_neg e4, if_neg e5, if_neg e6, if_neg e7, if_neg e8, if_neg e9, if_neg e10, if_pos e11, if_pos e] at h; injection h with h; subst h; exact .inr (.inr ⟨.inl e11, rfl⟩)
    · unfold doM at h; rw [if_neg e1, if_neg e2, if_neg e3, if_neg e4, if_neg e5, if_neg e6, if_neg e7, if_neg e8, if_neg e9, if_neg e10, if_pos e11, if_neg e] at h; injection h with h; subst h; exact .inr (.inl ⟨by omega, rfl⟩)
  by_cases e12 : x.op = 12
  · by_cases e : s.r x.a = s.r x.b
    · unfold doM at h; rw [if_neg e1, if_neg e2, if_neg e3, if_neg e4, if_neg e5, if_neg e6, if_neg e7, if_neg e8, if_neg e9, if_neg e10, if_neg e11, if_pos e12, if_pos e] at h; injection h with h; subst h; exact .inr (.inr ⟨.inr e12, rfl⟩)
    · unfold doM at h; rw [if_neg e1, if_neg e2, if_neg e3, if_neg e4, if_neg e5, if_neg e6, if_neg e7, if_neg e8, if_neg e9, if_neg e10, if_neg e11, if_pos e12, if_neg e] at h; injection h with h; subst h; exact .inr (.inl ⟨by omega, rfl⟩)
  unfold doM at h; rw [if_neg e1, if_neg e2, if_neg e3, if_neg e4, if_neg e5, if_neg e6, if_neg e7, if_neg e8, if_neg e9, if_neg e10, if_neg e11, if_neg e12] at h; injection h with h; subst h; exact .inr (.inl ⟨e10, rfl⟩)
theorem jump_in {R A : Int} {n : Nat} {x : Ji} (h : mayJ R A n x = true) : (x.op = 10 → 0 ≤ x.a ∧ x.a < n) ∧ (x.op = 11 ∨ x.op = 12 → 0 ≤ x.c ∧ x.c < n) := by
  obtain ⟨⟨h0, h1⟩, h2, _⟩ := mayJ_parts h
  have i0 := h2 0 (by omega)
  have i2 := h2 2 (by omega)
  unfold InB at i0 i2
  obtain ⟨op, a, b, cc, m⟩ := x
  dsimp only at h0 h1
  refine ⟨fun e => ?_, fun e => ?_⟩
  · dsimp only at e
    subst e
    simp [kJ, kindsJ, limJ, Ji.f] at i0
    exact i0
  · dsimp only at e
    rcases e with rfl | rfl <;> simp [kJ, kindsJ, limJ, Ji.f] at i2 <;> exact i2
theorem stepM_next {R A : Int} {n : Nat} {s z : Ms} {x : Ji} {cells : Int} (hx : mayJ R A n x = true) (hi : s.at_ < 100000) (h : stepM s x cells = .ok z) (h0 : x.op ≠ 0) : (z.at_ : Int) ∈ nextJ x s.at_ := by
  obtain ⟨⟨g0, g1⟩, _⟩ := mayJ_parts hx
  obtain ⟨j0, j1⟩ := jump_in hx
  have hw : wrap64 ((s.at_ : Int) + 1) = (s.at_ : Int) + 1 := by unfold wrap64; omega
  unfold nextJ
  rw [hw, if_neg (by omega)]
  rcases doM_at h with ⟨e, h1⟩ | ⟨e, h1⟩ | ⟨e, h1⟩
  · rw [if_pos e, h1]
    have := j0 e
    simp; omega
  · rw [if_neg e, h1]
    have e2 : (s.tick.at_ : Int) = (s.at_ : Int) + 1 := by show ((s.at_ + 1 : Nat) : Int) = _; omega
    rw [e2]
    split <;> simp
  · rw [if_neg (by omega), if_pos e, h1]
    have := j1 e
    simp; omega
section
variable {c : Cd} {cells : Int} (hm : c.may = true)
include hm
theorem may_get {i : Nat} (hi : i < c.l.length) : mayJ c.R c.A c.l.length (c.l.getD i zJi) = true ∧ c.l[i]? = some (c.l.getD i zJi) := by
  have e : c.l[i]? = some c.l[i] := List.getElem?_eq_getElem hi
  rw [List.getD_eq_getElem?_getD, e]
  exact ⟨(Cd.may_parts hm).2.1 _ (List.getElem_mem hi), rfl⟩
theorem small_at {i : Nat} (hw : Way c.l (-1) i) : i < c.l.length ∧ i < 100000 := by
  have h1 := Way.lt hm hw
  obtain ⟨⟨_, _, _, _, _, _, _, h2⟩, _⟩ := Cd.may_parts hm
  omega
end
end Go.Proofs.YtgkngimeokhhgaaGreatDoor
/- What holds wherever code stands that runs: how many registers and arrays there are, what numbers they hold, how long the arrays are. -/
namespace Go.Proofs.YtgkngimeokhhgaaGreatDoor
open Go.RowKit

def I64 (v : Int) : Prop := -9223372036854775808 ≤ v ∧ v ≤ 9223372036854775807
theorem I64.wrap (v : Int) : I64 (wrap64 v) := by unfold I64 wrap64; omega
theorem I64.zero : I64 0 := by unfold I64; omega
/-- with at most M numbers in each list that was handed in -/
structure MsOk (c : Cd) (M : Nat) (s : Ms) : Prop where
  rl : s.R.length = c.R.toNat
  al : s.A.length = c.A.toNat
  rv : ∀ v ∈ s.R, I64 v
  av : ∀ l ∈ s.A, ∀ v ∈ l, I64 v
  ll : ∀ l ∈ s.A, l.length ≤ M + s.ce
section
variable {c : Cd} {M : Nat} {s : Ms}
theorem getD_mem {α : Type} {l : List α} {i : Nat} {d : α} : l.getD i d ∈ l ∨ l.getD i d = d := by
  rw [List.getD_eq_getElem?_getD]
  by_cases h : i < l.length
  · rw [List.getElem?_eq_getElem h]; exact .inl (List.getElem_mem h)
  · rw [List.getElem?_eq_none (by omega)]; exact .inr rfl
theorem MsOk.r (h : MsOk c M s) (i : Int) : I64 (s.r i) := by
  rcases getD_mem (l := s.R) (i := i.toNat) (d := 0) with h1 | h1
  · exact h.rv _ h1
  · show I64 (s.R.getD i.toNat 0); rw [h1]; exact .zero
theorem MsOk.a (h : MsOk c M s) (i : Int) : (∀ v ∈ s.a i, I64 v) ∧ (s.a i).length ≤ M + s.ce := by
  rcases getD_mem (l := s.A) (i := i.toNat) (d := []) with h1 | h1
  · exact ⟨h.av _ h1, h.ll _ h1⟩
  · show (∀ v ∈ s.A.getD i.toNat [], I64 v) ∧ (s.A.getD i.toNat []).length ≤ _
    rw [h1]
    exact ⟨fun v hv => (by cases hv), Nat.zero_le _⟩
theorem MsOk.cell (h : MsOk c M s) (i : Int) (k : Nat) : I64 ((s.a i).getD k 0) := by
  rcases getD_mem (l := s.a i) (i := k) (d := 0) with h1 | h1
  · exact (h.a i).1 _ h1
  · rw [h1]; exact .zero
theorem MsOk.put (h : MsOk c M s) (i : Int) {v : Int} (hv : I64 v) : MsOk c M (s.put i v) :=
  ⟨by show (s.R.set i.toNat v).length = _; rw [List.length_set]; exact h.rl, h.al, fun u hu => by
    rcases List.mem_or_eq_of_mem_set hu with h1 | h1
    · exact h.rv u h1
    · rw [h1]; exact hv, h.av, h.ll⟩
theorem MsOk.arr (h : MsOk c M s) (i : Int) {l : List Int} (k : Nat) (hl : ∀ v ∈ l, I64 v) (hn : l.length ≤ M + k) (hk : s.ce ≤ k) : MsOk c M { s.arr i l with ce := k } :=
  ⟨h.rl, by show (s.A.set i.toNat l).length = _; rw [List.length_set]; exact h.al, h.rv, fun m hm => by
    rcases List.mem_or_eq_of_mem_set hm with h1 | h1
    · exact h.av m h1
    · rw [h1]; exact hl, fun m hm => by
    rcases List.mem_or_eq_of_mem_set hm with h1 | h1
    · have := h.ll m h1
      show m.length ≤ M + k
      omega
    · rw [h1]; exact hn⟩
theorem MsOk.goto_ (h : MsOk c M s) (i : Int) : MsOk c M (s.goto_ i) := ⟨h.rl, h.al, h.rv, h.av, h.ll⟩
theorem MsOk.tick (h : MsOk c M s) : MsOk c M s.tick := ⟨h.rl, h.al, h.rv, h.av, h.ll⟩
theorem MsOk.do_ {x : Ji} {z : Ms} {cells : Int} (h : MsOk c M s) (hx : x.ok) (hM : M + s.ce ≤ 1000000) (hd : doM s x cells = .ok z) : MsOk c M z := by
  by_cases e1 : x.op = 1
  · unfold doM at hd; rw [if_pos e1] at hd; injection hd with hd; subst hd; exact h.put _ hx.n
  by_cases e2 : x.op = 2
  · unfold doM at hd; rw [if_neg e1, if_pos e2] at hd; injection hd with hd; subst hd; exact h.put _ (h.r _)
  by_cases e3 : x.op = 3
  · unfold doM at hd; rw [if_neg e1, if_neg e2, if_pos e3] at hd; injection hd with hd; subst hd; exact h.put _ (.wrap _)
  by_cases e4 : x.op = 4
  · unfold doM at hd; rw [if_neg e1, if_neg e2, if_neg e3, if_pos e4] at hd; injection hd with hd; subst hd; exact h.put _ (.wrap _)
  by_cases e5 : x.op = 5
  · unfold doM at hd; rw [if_neg e1, if_neg e2, if_neg e3, if_neg e4, if_pos e5] at hd; injection hd with hd; subst hd; exact h.put _ (.wrap _)
  by_cases e6 : x.op = 6
  · by_cases e : s.r x.c < 0 ∨ ((s.a x.b).length : Int) ≤ s.r x.c
    · unfold doM at hd; rw [if_neg e1, if_neg e2, if_neg e3, if_neg e4, if_neg e5, if_pos e6, if_pos e] at hd; cases hd
    · unfold doM at hd; rw [if_neg e1, if_neg e2, if_neg e3, if_neg e4, if_neg e5, if_pos e6, if_neg e] at hd; injection hd with hd; subst hd; exact h.put _ (h.cell _ _)
  by_cases e7 : x.op = 7
  · by_cases e : s.r x.b < 0 ∨ ((s.a x.a).length : Int) ≤ s.r x.b
    · unfold doM at hd; rw [if_neg e1, if_neg e2, if_neg e3, if_neg e4, if_neg e5, if_neg e6, if_pos e7, if_pos e] at hd; cases hd
    · unfold doM at hd; rw [if_neg e1, if_neg e2, if_neg e3, if_neg e4, if_neg e5, if_neg e6, if_pos e7, if_neg e] at hd; injection hd with hd; subst hd
      exact h.arr x.a s.ce (fun v hv => by
        rcases List.mem_or_eq_of_mem_set hv with h1 | h1
        · exact (h.a x.a).1 v h1
        · rw [h1]; exact h.r _) (by rw [List.length_set]; exact (h.a x.a).2) (Nat.le_refl _)
  by_cases e8 : x.op = 8
  · unfold doM at hd; rw [if_neg e1, if_neg e2, if_neg e3, if_neg e4, if_neg e5, if_neg e6, if_neg e7, if_pos e8] at hd; injection hd with hd; subst hd; exact h.put _ (by have := (h.a x.b).2; unfold I64; omega)
  by_cases e9 : x.op = 9
  · by_cases e : cells ≤ (s.ce : Int)
    · unfold doM at hd; rw [if_neg e1, if_neg e2, if_neg e3, if_neg e4, if_neg e5, if_neg e6, if_neg e7, if_neg e8, if_pos e9, if_pos e] at hd; cases hd
    · unfold doM at hd; rw [if_neg e1, if_neg e2, if_neg e3, if_neg e4, if_neg e5, if_neg e6, if_neg e7, if_neg e8, if_pos e9, if_neg e] at hd; injection hd with hd; subst hd
      exact h.arr x.a (s.ce + 1) (fun v hv => by
        rcases List.mem_append.1 hv with h1 | h1
        · exact (h.a x.a).1 v h1
        · rw [List.mem_singleton.1 h1]; exact h.r _) (by have := (h.a x.a).2; rw [List.length_append]; simp; omega) (Nat.le_succ _)
  by_cases e10 : x.op = 10
  · unfold doM at hd; rw [if_neg e1, if_neg e2, if_neg e3, if_neg e4, if_neg e5, if_neg e6, if_neg e7, if_neg e8, if_neg e9, if_pos e10] at hd; injection hd with hd; subst hd; exact h.goto_ _
  by_cases e11 : x.op = 11
  · by_cases e : s.r x.a < s.r x.b
    · unfold doM at hd; rw [if_neg e1, if_neg e2, if_neg e3, if_neg e4, if_neg e5, if_neg e6, if_neg e7, if_neg e8, if_neg e9, if_neg e10, if_pos e11, if_pos e] at hd; injection hd with hd; subst hd; exact h.goto_ _
    · unfold doM at hd; rw [if_neg e1, if_neg e2, if_neg e3, if_neg e4, if_neg e5, if_neg e6, if_neg e7, if_neg e8, if_neg e9, if_neg e10, if_pos e11, if_neg e] at hd; injection hd with hd; subst hd; exact h
  by_cases e12 : x.op = 12
  · by_cases e : s.r x.a = s.r x.b
    · unfold doM at hd; rw [if_neg e1, if_neg e2, if_neg e3, if_neg e4, if_neg e5, if_neg e6, if_neg e7, if_neg e8, if_neg e9, if_neg e10, if_neg e11, if_pos e12, if_pos e] at hd; injection hd with hd; subst hd; exact h.goto_ _
    · unfold doM at hd; rw [if_neg e1, if_neg e2, if_neg e3, if_neg e4, if_neg e5, if_neg e6, if_neg e7, if_neg e8, if_neg e9, if_neg e10, if_neg e11, if_pos e12, if_neg e] at hd; injection hd with hd; subst hd; exact h
  unfold doM at hd; rw [if_neg e1, if_neg e2, if_neg e3, if_neg e4, if_neg e5, if_neg e6, if_neg e7, if_neg e8, if_neg e9, if_neg e10, if_neg e11, if_neg e12] at hd; injection hd with hd; subst hd; exact h
/-- where code begins -/
theorem MsOk.start {ins : List (List Int)} (hA : ins.length ≤ c.A.toNat) (hv : ∀ l ∈ ins, ∀ v ∈ l, I64 v) (hl : ∀ l ∈ ins, l.length ≤ M) : MsOk c M (startM c ins) := by
  refine ⟨by simp [startM], by simp [startM]; omega, fun v hv => ?_, fun l hm => ?_, fun l hm => ?_⟩
  · rw [(List.mem_replicate.1 hv).2]; exact .zero
  · rcases List.mem_append.1 hm with h1 | h1
    · exact hv l h1
    · rw [(List.mem_replicate.1 h1).2]; intro v h; cases h
  · rcases List.mem_append.1 hm with h1 | h1
    · exact Nat.le_trans (hl l h1) (Nat.le_add_right _ _)
    · rw [(List.mem_replicate.1 h1).2]; exact Nat.zero_le _
end
end Go.Proofs.YtgkngimeokhhgaaGreatDoor
