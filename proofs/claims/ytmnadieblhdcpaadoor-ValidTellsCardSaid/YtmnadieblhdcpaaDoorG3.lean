/- The contract of the document's Zero. -/
import Derived.Test.YtmnadieblhdcpaaDoorG2
import Derived.Laws.AppendOwnNone
import Derived.Deep.RegionLaw
import Derived.Deep.DeepCutAuto
import Derived.Test.YtmnadieblhdcpaaDoorG1
import Derived.StillTailTactics
import Derived.Deep.RegionHeld3
import Derived.Lib.Walk
import Derived.Lib.SliceRun
import Derived.Lib.AppendZerosOnto
namespace Go.Proofs.YtmnadieblhdcpaaDoor
open Go.RowKit

theorem run_appendNil {P : Program} (w : World) (base : Nat) (t ty e : TypeId) (i : TypeInfo) (ht : P.underlying t = some (.slice e)) (hi : P.info? e = some i) (v : Value) (n : Nat) (xs : List Value) (hown : w.ownsRow base e 1 v n xs) (c : Nat) :
    (Builtin.append_ #[t, t] ty #[v, .slice none 0 c]).run P w = .ok v w := by
  rcases hown.2 with ⟨rfl, rfl⟩ | ⟨g, cap, cur, rfl, _, _, hnc, _⟩ <;> simp [Builtin.append_, run_underlying ht, sizeOf, typeInfo, Builtin.lenOf, Builtin.firstCells, *, storeCells]

/-- append onto a slice of the call's own, from whatever slice of integers -/
theorem run_appendInts {P : Program} (w : World) (base : Nat) (t ty e : TypeId) (i : TypeInfo) (ht : P.underlying t = some (.slice e)) (hi : P.info? e = some i) (hz : i.zero = some (.int .i64 0)) (h1 : i.size = 1) (h2 : i.bytes = 8)
    (A A2 : Option Addr) (c m c2 B : Nat) (xs ys : List Int) (ho : OwnI w base e A c xs) (hs : Ints w B A2 m ys) (hl : xs.length + m ≤ 1000000) (hb : base ≤ w.heap.size) :
    ∃ A' c' w', (Builtin.append_ #[t, t] ty #[.slice A xs.length c, .slice A2 m c2]).run P w = .ok (.slice A' (xs.length + m) c') w' ∧ OwnI w' base e A' c' (xs ++ ys) ∧ w.grownBy w' (Value.slice A xs.length c).ownBlock := by
  have hlen := hs.1
  have hfit : ∀ x ∈ xs ++ ys, -9223372036854775808 ≤ x ∧ x ≤ 9223372036854775807 := by
    intro x hx
    rcases List.mem_append.1 hx with hx | hx
    · exact ho.2 x hx
    · exact hs.2.1 x hx
  rcases Option.eq_none_or_eq_some A2 with rfl | ⟨ad, rfl⟩
  · obtain rfl : m = 0 := by
      rcases Nat.eq_zero_or_pos m with h0 | h0
      · exact h0
      · obtain ⟨b, off, e', _⟩ := hs.2.2 h0; cases e'
    obtain rfl : ys = [] := List.eq_nil_of_length_eq_zero hlen
    have hrun := run_appendNil (P := P) w base t ty e i ht hi (.slice A xs.length c) xs.length (xs.map (Value.int .i64)) ho.1 c2
    exact ⟨A, c, w, by simpa using hrun, by simpa using ho, World.grownBy.refl w _⟩
  · obtain ⟨v', w', hr, h3, h4, _⟩ := run_append_own (P := P) w base t ty e i (.int .i64 0) 1 8 ht hi hz h1 h2 rfl (by decide) (.slice A xs.length c) xs.length (xs.map (Value.int .i64)) ho.1 ad m c2 (ys.map (Value.int .i64)) (by rw [List.length_map, hlen, Nat.mul_one]) hs.cells_ (ints_one ys) (by unfold maxLen; omega) (by omega) hb
    obtain ⟨A', c', rfl⟩ := row_form h3
    refine ⟨A', c', w', hr, ⟨?_, hfit⟩, h4⟩
    rw [List.length_append, hlen, List.map_append]
    exact h3

theorem step_appendInts {P : Program} {ops : Array Oper} {o : Oper} {a : Act} {w : World} {K : Act → World → Prop} {Q : Exit → Act → World → Prop} {E : Prop}
    (hg : o.guard = none) (s x : Operand) (t : TypeId) (hop : o.op = Op.call { callee := Callee.builtin Builtin.append, args := #[s, x], argTypes := #[t, t] })
    (base : Nat) (e : TypeId) (i : TypeInfo) (ht : P.underlying t = some (.slice e)) (hi : P.info? e = some i) (hz : i.zero = some (.int .i64 0)) (h1 : i.size = 1) (h2 : i.bytes = 8)
    (A A2 : Option Addr) (c m c2 B p r : Nat) (xs ys : List Int) (hs : a.eval s = .slice A p c) (hx : a.eval x = .slice A2 m c2) (ho : OwnI w base e A c xs) (hp : xs.length = p) (hr : p + m = r) (hi2 : Ints w B A2 m ys) (hl : r ≤ 1000000) (hb : base ≤ w.heap.size)
    (hK : ∀ A' c' w', OwnI w' base e A' c' (xs ++ ys) → w.grownBy w' (Value.slice A p c).ownBlock → K (a.put o.dst (.slice A' r c')) w') :
    if Region.wanted o (yielded ops a.tmps) = true then Oper.wp P o a w K Q else E := by
  have hw : Region.wanted o (yielded ops a.tmps) = true := by simp [Region.wanted, hg]
  rw [if_pos hw]
  subst hp
  subst hr
  obtain ⟨A', c', w', hrun, ho', hb'⟩ := run_appendInts (P := P) w base t o.type e i ht hi hz h1 h2 A A2 c m c2 B xs ys ho hi2 hl hb
  unfold Oper.wp
  simp [execOp, hop, resolve, invoke, builtin, hs, hx, hrun, Result.andThen]
  exact hK _ _ _ ho' hb'

theorem below_of_none {W w1 : World} (hg : W.grownBy w1 none) : Below W.heap.size W w1 := (Below.refl _ _).grown hg (Nat.le_refl _) (fun k e => by cases e)

end Go.Proofs.YtmnadieblhdcpaaDoor
/- purflelaw01.BoxOne returns true at every input, and nothing that lay there has turned: the place of a number has that number; the next number's place is the next one. -/
namespace Go.Proofs.YtmnadieblhdcpaaDoor
open Go.RowKit

/-- the next place, the last mode first; whether it went around -/
def inc : List Int → List Int → List Int × Bool
  | s :: l, c :: d => if (inc l d).2 = true then (if c + 1 < s then ((c + 1) :: (inc l d).1, false) else (0 :: (inc l d).1, true)) else (c :: (inc l d).1, false)
  | _, _ => ([], true)
theorem inc_spec {xs cs : List Int} (h : Inn xs cs) : Inn xs (inc xs cs).1 ∧ ((inc xs cs).2 = false → numR xs (inc xs cs).1 = numR xs cs + 1) ∧ ((inc xs cs).2 = true → numR xs (inc xs cs).1 = 0 ∧ numR xs cs = prodI xs - 1) := by
  induction xs generalizing cs with
  | nil => cases cs with
    | nil => simp [inc, Inn, numR, prodI]
    | cons _ _ => exact h.elim
  | cons s l ih => cases cs with
    | nil => exact h.elim
    | cons c d =>
      obtain ⟨i1, i2, i3⟩ := ih h.2.2
      have h0 := h.1
      have h1 := h.2.1
      by_cases hc : (inc l d).2 = true
      · obtain ⟨j1, j2⟩ := i3 hc
        by_cases hs : c + 1 < s
        · simp only [inc, hc, hs, if_true]
          refine ⟨⟨by omega, hs, i1⟩, fun _ => ?_, fun hh => (by cases hh)⟩
          simp only [numR]
          rw [j1, j2, Int.add_mul]
          omega
        · simp only [inc, hc, hs, if_true, if_false]
          refine ⟨⟨by omega, by omega, i1⟩, fun hh => (by cases hh), fun _ => ?_⟩
          simp only [numR, prodI]
          rw [j1, j2]
          obtain rfl : c = s - 1 := by omega
          rw [Int.sub_mul]
          omega
      · simp only [inc, hc, if_false, Bool.false_eq_true]
        refine ⟨⟨h0, h1, i1⟩, fun _ => ?_, fun hh => (by cases hh)⟩
        simp only [numR]
        rw [i2 (by simpa using hc)]
        omega
theorem placeR_numR {xs cs : List Int} (h : Inn xs cs) : placeR xs (numR xs cs) = cs := by
  suffices hh : ∀ q : Int, placeR xs (q * prodI xs + numR xs cs) = cs by simpa using hh 0
  induction xs generalizing cs with
  | nil => cases cs with
    | nil => simp [placeR]
    | cons _ _ => exact h.elim
  | cons s l ih => cases cs with
    | nil => exact h.elim
    | cons c d =>
      intro q
      have hb := h.2.2.bound
      have hp : 1 ≤ prodI l := by omega
      have h0 := h.1
      have h1 := h.2.1
      have e : q * (s * prodI l) + (c * prodI l + numR l d) = (q * s + c) * prodI l + numR l d := by rw [Int.add_mul, Int.mul_assoc]; omega
      simp only [placeR, numR, prodI]
      rw [e, ih h.2.2 (q * s + c)]
      congr 1
      rw [Int.add_comm, Int.add_mul_ediv_right _ _ (by omega), Int.ediv_eq_zero_of_lt hb.1 hb.2, Int.zero_add, Int.add_comm, Int.add_mul_emod_self_right]
      exact Int.emod_eq_of_lt h0 h1
theorem inc_drop {xs cs : List Int} {k : Nat} {x y : Int} (hx : xs[k]? = some x) (hy : cs[k]? = some y) (hc : (inc (xs.drop (k + 1)) (cs.drop (k + 1))).2 = true) :
    inc (xs.drop k) (cs.drop k) = if y + 1 < x then ((y + 1) :: (inc (xs.drop (k + 1)) (cs.drop (k + 1))).1, false) else (0 :: (inc (xs.drop (k + 1)) (cs.drop (k + 1))).1, true) := by
  rw [drop_of hx, drop_of hy, inc, if_pos hc]
theorem inc_out {xs cs e : List Int} (hl : xs.length = cs.length) (k : Nat) (hk : k ≤ xs.length) (h : inc (xs.drop k) (cs.drop k) = (e, false)) : inc xs cs = (cs.take k ++ e, false) := by
  induction k generalizing xs cs with
  | zero => simpa using h
  | succ k ih => cases xs with
    | nil => simp at hk
    | cons s l => cases cs with
      | nil => simp at hl
      | cons c d =>
        have := ih (xs := l) (cs := d) (by simpa using hl) (by simpa using hk) (by simpa using h)
        rw [inc, this]
        simp
/-- the list when the last k places have gone around -/
def gone (cs : List Int) (k : Nat) : List Int := cs.take (cs.length - k) ++ List.replicate k 0
theorem gone_length {cs : List Int} {k : Nat} (hk : k ≤ cs.length) : (gone cs k).length = cs.length := by simp [gone]; omega
theorem gone_at {cs : List Int} {k i : Nat} (hi : i < cs.length - k) : (gone cs k)[i]? = cs[i]? := by
  unfold gone
  rw [List.getElem?_append_left (by rw [List.length_take]; omega), List.getElem?_take, if_pos hi]
theorem gone_set {cs : List Int} {k : Nat} (hk : k < cs.length) (v : Int) : (gone cs k).set (cs.length - 1 - k) v = cs.take (cs.length - 1 - k) ++ v :: List.replicate k 0 := by
  unfold gone
  have e : cs.length - k = cs.length - 1 - k + 1 := by omega
  have hx : cs[cs.length - 1 - k]? = some (cs[cs.length - 1 - k]'(by omega)) := List.getElem?_eq_getElem (by omega)
  rw [e, take_succ_of hx, List.append_assoc, List.set_append_right _ _ (by rw [List.length_take]; omega)]
  congr 1
  rw [List.length_take, Nat.min_eq_left (by omega), Nat.sub_self]
  rfl
theorem gone_succ {cs : List Int} {k : Nat} (hk : k < cs.length) : (gone cs k).set (cs.length - 1 - k) 0 = gone cs (k + 1) := by
  rw [gone_set hk]
  unfold gone
  have e : cs.length - (k + 1) = cs.length - 1 - k := by omega
  rw [e, List.replicate_succ]

theorem insideF_of_inn {xs cs : List Int} (h : Inn xs cs) : insideF xs cs = true := by
  induction xs generalizing cs with
  | nil => cases cs with
    | nil => rfl
    | cons _ _ => exact h.elim
  | cons s l ih => cases cs with
    | nil => exact h.elim
    | cons c d =>
      have := ih h.2.2
      have h0 := h.1
      have h1 := h.2.1
      simp [insideF, badAt] at this ⊢
      exact ⟨this.1, ⟨by omega, by omega⟩, this.2⟩
theorem cellsF_err {xs : List Int} (h : (cellsF xs).2 ≠ 0) : (cellsF xs).1 = 0 := by
  unfold cellsF at h ⊢
  split
  · rfl
  · rename_i h1
    rw [if_neg h1] at h
    split
    · rfl
    · rename_i h2
      rw [if_neg h2] at h
      have key : ∀ (l : List Int) (q : Int), (cellsGo l q).2 ≠ 0 → (cellsGo l q).1 = 0 := by
        intro l
        induction l with
        | nil => intro q hq; simp [cellsGo] at hq
        | cons s l ih =>
          intro q hq
          unfold cellsGo at hq ⊢
          split
          · rfl
          · rename_i hb; rw [if_neg hb] at hq; exact ih _ hq
      exact key _ _ h
theorem lt_of_cell' {w : World} {a : Addr} {v : Value} (h : w.cell? a = some v) : a.block < w.heap.size := by
  rcases Nat.lt_or_ge a.block w.heap.size with hlt | hge
  · exact hlt
  · have : w.heap[a.block]? = none := Array.getElem?_eq_none hge
    simp [World.cell?, this] at h
theorem OwnI.some_ {w : World} {base : Nat} {e : TypeId} {A : Option Addr} {c : Nat} {xs : List Int} (h : OwnI w base e A c xs) (hp : 0 < xs.length) : ∃ g, A = some ⟨g, 0, none⟩ ∧ base ≤ g ∧ g < w.heap.size := by
  rcases h.1.2 with ⟨_, h0⟩ | ⟨g, cap, cur, hv, hb, _⟩
  · omega
  · have hA : A = some ⟨g, 0, none⟩ := by injection hv
    subst hA
    exact ⟨g, rfl, hb, (h.1.lt g rfl).2⟩
theorem OwnI.set_ {w : World} {base g : Nat} {e : TypeId} {c : Nat} {xs : List Int} (h : OwnI w base e (some ⟨g, 0, none⟩) c xs) (j : Nat) (v : Int) (hv : -9223372036854775808 ≤ v ∧ v ≤ 9223372036854775807) :
    OwnI (w.setCell ⟨g, j, none⟩ (.int .i64 v)) base e (some ⟨g, 0, none⟩) c (xs.set j v) := by
  refine ⟨?_, fun x hx => ?_⟩
  · have := (h.1.stored j (.int .i64 v)).1
    rw [← List.map_set] at this
    rw [List.length_set]
    exact this
  · rcases List.mem_or_eq_of_mem_set hx with hx | rfl
    · exact h.2 x hx
    · exact hv
theorem OwnI.far {w : World} {base g : Nat} {e : TypeId} {A : Option Addr} {c : Nat} {xs : List Int} (h : OwnI w base e A c xs) (hg : g < base) (j : Nat) (u : Value) : OwnI (w.setCell ⟨g, j, none⟩ u) base e A c xs :=
  ⟨ownsRow_setCell_below h.1 (a := ⟨g, j, none⟩) hg u, h.2⟩
theorem OwnI.cell_ {w : World} {base g k : Nat} {e : TypeId} {c : Nat} {xs : List Int} {x : Int} (h : OwnI w base e (some ⟨g, 0, none⟩) c xs) (hx : xs[k]? = some x) : w.cell? ⟨g, k, none⟩ = some (.int .i64 x) ∧ w.frozen? ⟨g, k, none⟩ = false := by
  have hk := (List.getElem?_eq_some_iff.1 hx).1
  exact ⟨(h.1.cellAt k (by omega)).trans (by simp [hx]), h.1.frozenAt k⟩

end Go.Proofs.YtmnadieblhdcpaaDoor
/- purflelaw01.BoxOnes returns true at every input where each slice's capacity is no less than its length, and nothing that lay there has turned. -/
namespace Go.Proofs.YtmnadieblhdcpaaDoor
open Go.RowKit

/-- v laid into l ahead of place k -/
def ins (l : List Int) (k : Nat) (v : Int) : List Int := l.take k ++ v :: l.drop k
theorem ins_zero (l : List Int) (v : Int) : ins l 0 v = v :: l := by simp [ins]
theorem ins_succ (x : Int) (l : List Int) (k : Nat) (v : Int) : ins (x :: l) (k + 1) v = x :: ins l k v := by simp [ins]
theorem ins_prod (l : List Int) (k : Nat) : prodI (ins l k 1) = prodI l := by
  unfold ins; rw [prodI_append, prodI_split l k]; simp [prodI]
theorem ins_any (l : List Int) (k : Nat) (v : Int) (p : Int → Bool) (hv : p v = false) : (ins l k v).any p = l.any p := by
  unfold ins
  rw [List.any_append, List.any_cons, hv, Bool.false_or, ← List.any_append, List.take_append_drop]
theorem ins_length {l : List Int} {k : Nat} (hk : k ≤ l.length) (v : Int) : (ins l k v).length = l.length + 1 := by simp [ins]; omega
theorem ins_num {xs cs : List Int} (h : xs.length = cs.length) (k : Nat) (hk : k ≤ xs.length) : numR (ins xs k 1) (ins cs k 0) = numR xs cs := by
  induction k generalizing xs cs with
  | zero => rw [ins_zero, ins_zero]; simp [numR]
  | succ k ih => cases xs with
    | nil => simp at hk
    | cons s l => cases cs with
      | nil => simp at h
      | cons c d =>
        rw [ins_succ, ins_succ]
        simp only [numR]
        rw [ins_prod, ih (by simpa using h) (by simpa using hk)]
theorem ins_zip {xs cs : List Int} (h : xs.length = cs.length) (k : Nat) (hk : k ≤ xs.length) : ((ins cs k 0).zip (ins xs k 1)).any badAt = (cs.zip xs).any badAt := by
  induction k generalizing xs cs with
  | zero => rw [ins_zero, ins_zero]; simp [badAt]
  | succ k ih => cases xs with
    | nil => simp at hk
    | cons s l => cases cs with
      | nil => simp at h
      | cons c d =>
        rw [ins_succ, ins_succ, List.zip_cons_cons, List.any_cons, ih (by simpa using h) (by simpa using hk), List.zip_cons_cons, List.any_cons]
theorem ins_inside {xs cs : List Int} (h : xs.length = cs.length) (k : Nat) (hk : k ≤ xs.length) : insideF (ins xs k 1) (ins cs k 0) = insideF xs cs := by
  unfold insideF
  rw [ins_zip h k hk, ins_length hk, ins_length (by omega)]
  simp
/-- Cells hangs on little -/
theorem cellsF_same {xs ys : List Int} (h1 : xs.length ≤ 4) (h2 : ys.length ≤ 4) (hn : (xs.any fun s => decide (s < 0)) = (ys.any fun s => decide (s < 0))) (hz : (xs.any fun s => s == 0) = (ys.any fun s => s == 0)) (hp : prodI xs = prodI ys) : cellsF xs = cellsF ys := by
  by_cases ha : (xs.any fun s => decide (s < 0)) = true
  · have hb := ha; rw [hn] at hb
    unfold cellsF; rw [if_pos (.inr ha), if_pos (.inr hb)]
  · have ha' : (xs.any fun s => decide (s < 0)) = false := by cases hh : (xs.any fun s => decide (s < 0)) with | false => rfl | true => exact absurd hh ha
    have hb' := ha'; rw [hn] at hb'
    by_cases hc : (xs.any fun s => s == 0) = true
    · have hd := hc; rw [hz] at hd
      have e1 : cellsF xs = (0, 0) := by unfold cellsF; rw [if_neg (by rw [ha']; simp; omega), if_pos hc]
      have e2 : cellsF ys = (0, 0) := by unfold cellsF; rw [if_neg (by rw [hb']; simp; omega), if_pos hd]
      rw [e1, e2]
    · have hc' : (xs.any fun s => s == 0) = false := by cases hh : (xs.any fun s => s == 0) with | false => rfl | true => exact absurd hh hc
      have hd' := hc'; rw [hz] at hd'
      rw [cellsF_pos (pos_of_any ha' hc') h1, cellsF_pos (pos_of_any hb' hd') h2, hp]
theorem ins_cells {xs : List Int} (h : xs.length ≤ 3) (k : Nat) (hk : k ≤ xs.length) : cellsF (ins xs k 1) = cellsF xs :=
  cellsF_same (by rw [ins_length hk]; omega) (by omega) (ins_any _ _ _ _ (by simp)) (ins_any _ _ _ _ (by simp)) (ins_prod xs k)
theorem prodI_reverse (xs : List Int) : prodI xs.reverse = prodI xs := by
  induction xs with
  | nil => rfl
  | cons s l ih => rw [List.reverse_cons, prodI_append, ih]; simp [prodI, Int.mul_comm]
theorem rev_cells {xs : List Int} (h : xs.length ≤ 3) : cellsF xs.reverse = cellsF xs :=
  cellsF_same (by simp; omega) (by omega) List.any_reverse List.any_reverse (prodI_reverse xs)
theorem ins_at {xs cs : List Int} (h : xs.length = cs.length) (h3 : xs.length ≤ 3) (k : Nat) (hk : k ≤ xs.length) : atF (ins xs k 1) (ins cs k 0) = atF xs cs := by
  unfold atF
  rw [ins_cells h3 k hk, ins_inside h k hk, ins_num h k hk]

theorem Ints.take_ {w : World} {B n k : Nat} {A : Option Addr} {xs : List Int} (h : Ints w B A n xs) (hk : k ≤ n) : Ints w B A k (xs.take k) := by
  obtain ⟨hl, hb, hc⟩ := h
  refine ⟨by rw [List.length_take]; omega, fun x hx => hb x (List.mem_of_mem_take hx), fun h0 => ?_⟩
  obtain ⟨b, off, e, hB, hx⟩ := hc (by omega)
  refine ⟨b, off, e, hB, fun j x hj => hx j x ?_⟩
  rw [List.getElem?_take] at hj
  split at hj
  · exact hj
  · cases hj
theorem Ints.drop_ {w : World} {B n k c : Nat} {A : Option Addr} {xs : List Int} (h : Ints w B A n xs) (hk : k ≤ n) (hc : n ≤ c) : Ints w B (if c = k then A else A.map (·.add (k * 1))) (n - k) (xs.drop k) := by
  obtain ⟨hl, hb, hcc⟩ := h
  refine ⟨by rw [List.length_drop]; omega, fun x hx => hb x (List.mem_of_mem_drop hx), fun h0 => ?_⟩
  obtain ⟨b, off, rfl, hB, hx⟩ := hcc (by omega)
  rw [if_neg (by omega)]
  refine ⟨b, off + k, ?_, hB, fun j x hj => ?_⟩
  · by_cases hk0 : k = 0
    · subst hk0; simp [Addr.add]
    · simp [Addr.add, hk0]
  · rw [List.getElem?_drop] at hj
    have := hx (k + j) x hj
    rwa [Nat.add_assoc]
set_option maxRecDepth 100000 in
theorem run_take {w : World} (A : Option Addr) (n c k : Nat) (hk : k ≤ n) (hc : n ≤ c) : (Instr.slice 34 (.slice A n c) none (some (.int .i64 (k : Int))) none).run Tryd.prog w = .ok (.slice A k c) w := by
  obtain ⟨i0, hi0, hz0, hz1, hz2⟩ := info_parts infoInt
  rw [run_slice_h w 34 A n c (by kernel_rfl) .i64 (k : Int) (by omega) (by omega)]
  have hs : (sizeOf (Tryd.prog.elem 34)).run Tryd.prog w = .ok 1 w := by
    have he : Tryd.prog.elem 34 = 3 := by kernel_rfl
    rw [he]; simp [sizeOf, typeInfo, hi0, hz1]
  rw [hs]
  simp only [Result.andThen, sliced, Int.toNat_natCast, Nat.zero_mul, Nat.sub_zero]
  have : (if c = 0 then A else A.map (·.add 0)) = A := by
    split
    · rfl
    · cases A <;> simp [Addr.add]
  rw [this]
set_option maxRecDepth 100000 in
theorem run_drop {w : World} (A : Option Addr) (n c k : Nat) (hk : k ≤ n) : (Instr.slice 34 (.slice A n c) (some (.int .i64 (k : Int))) none none).run Tryd.prog w = .ok (.slice (if c = k then A else A.map (·.add (k * 1))) (n - k) (c - k)) w := by
  obtain ⟨i0, hi0, hz0, hz1, hz2⟩ := info_parts infoInt
  rw [run_slice_l w 34 A n c (by kernel_rfl) .i64 (k : Int) (by omega) (by omega)]
  have hs : (sizeOf (Tryd.prog.elem 34)).run Tryd.prog w = .ok 1 w := by
    have he : Tryd.prog.elem 34 = 3 := by kernel_rfl
    rw [he]; simp [sizeOf, typeInfo, hi0, hz1]
  rw [hs]
  simp only [Result.andThen, sliced, Int.toNat_natCast]

/-- the list when q places have been turned round -/
def turned (xs : List Int) (q : Nat) : List Int := xs.reverse.take q ++ xs.drop q
theorem turned_length {xs : List Int} {q : Nat} (hq : q ≤ xs.length) : (turned xs q).length = xs.length := by simp [turned]; omega
theorem turned_set {xs : List Int} {q : Nat} {x : Int} (hq : q < xs.length) (hx : xs[xs.length - 1 - q]? = some x) : (turned xs q).set q x = turned xs (q + 1) := by
  unfold turned
  have hr : xs.reverse[q]? = some x := by rw [List.getElem?_reverse hq]; exact hx
  have hd : xs[q]? = some (xs[q]'hq) := List.getElem?_eq_getElem hq
  rw [take_succ_of hr, drop_of hd, List.set_append_right _ _ (by rw [List.length_take, List.length_reverse]; omega), List.length_take, List.length_reverse, Nat.min_eq_left (by omega), Nat.sub_self, List.set_cons_zero, List.append_assoc]
  rfl
theorem wpList_appendInts {P : Program} (w : World) {ops : Array Oper} {rest : List Oper} {o : Oper} {a : Act} {Q : Exit → Act → World → Prop}
    (hg : o.guard = none) (s x : Operand) (t : TypeId) (hop : o.op = Op.call { callee := Callee.builtin Builtin.append, args := #[s, x], argTypes := #[t, t] })
    (base : Nat) (e : TypeId) (i : TypeInfo) (ht : P.underlying t = some (.slice e)) (hi : P.info? e = some i) (hz : i.zero = some (.int .i64 0)) (h1 : i.size = 1) (h2 : i.bytes = 8)
    (A A2 : Option Addr) (c m c2 B p r : Nat) (xs ys : List Int) (hs : a.eval s = .slice A p c) (hx : a.eval x = .slice A2 m c2) (ho : OwnI w base e A c xs) (hp : xs.length = p) (hr : p + m = r) (hi2 : Ints w B A2 m ys) (hl : r ≤ 1000000) (hb : base ≤ w.heap.size)
    (hK : ∀ A' c' w', OwnI w' base e A' c' (xs ++ ys) → w.grownBy w' (Value.slice A p c).ownBlock → wpList P ops Q rest (a.put o.dst (.slice A' r c')) w') : wpList P ops Q (o :: rest) a w := by
  refine wpList_plain hg fun K hK' => ?_
  subst hp
  subst hr
  obtain ⟨A', c', w', hrun, ho', hb'⟩ := run_appendInts (P := P) w base t o.type e i ht hi hz h1 h2 A A2 c m c2 B xs ys ho hi2 hl hb
  unfold Oper.wp
  simp [execOp, hop, resolve, invoke, builtin, hs, hx, hrun, Result.andThen]
  exact hK' _ _ (hK _ _ _ ho' hb')
theorem src_new {v : Int} {t : TypeId} (w : World) (hv : -9223372036854775808 ≤ v ∧ v ≤ 9223372036854775807) : Ints (w.alloc (.cells #[.int .i64 v] t)) (w.heap.size + 1) (some ⟨w.heap.size, 0, none⟩) 1 [v] := Ints.of_new w t [v] (by simpa using hv)
theorem src_one {v : Int} {t : TypeId} {w w2 : World} (hb : Below (w.alloc (.cells #[.int .i64 v] t)).drew.heap.size (w.alloc (.cells #[.int .i64 v] t)).drew w2) (hv : -9223372036854775808 ≤ v ∧ v ≤ 9223372036854775807) : Ints w2 w2.heap.size (some ⟨w.heap.size, 0, none⟩) 1 [v] := by
  have h1 : Ints (w.alloc (.cells #[.int .i64 v] t)).drew (w.heap.size + 1) (some ⟨w.heap.size, 0, none⟩) 1 [v] := src_new w hv
  have hs : w.heap.size + 1 ≤ (w.alloc (.cells #[.int .i64 v] t)).drew.heap.size := by
    have : (w.alloc (.cells #[.int .i64 v] t)).heap.size = w.heap.size + 1 := World.size_alloc _ _
    exact Nat.le_of_eq this.symm
  exact (h1.below (hb.mono hs)).more (Nat.le_trans hs hb.size)
theorem below_app {w1 W w3 : World} {base p c : Nat} {e : TypeId} {A : Option Addr} {xs : List Int} (hb : Below base w1 W) (hg : W.grownBy w3 (Value.slice A p c).ownBlock) (ho : OwnI W base e A c xs) (hp : xs.length = p) (hs : base ≤ W.heap.size) : Below base w1 w3 := by
  subst hp
  exact hb.grown hg hs (fun k hk => (ho.1.lt k hk).1)
theorem len_take {w : World} {B n k : Nat} {A : Option Addr} {xs : List Int} (h : Ints w B A n xs) (hk : k ≤ n) : ([] ++ xs.take k : List Int).length = k := by
  have := h.1; simp; omega
theorem len_take1 {w : World} {B n k : Nat} {A : Option Addr} {xs : List Int} {v : Int} (h : Ints w B A n xs) (hk : k ≤ n) : ([] ++ xs.take k ++ [v] : List Int).length = k + 1 := by
  have := h.1; simp; omega

end Go.Proofs.YtmnadieblhdcpaaDoor
/- Slices of entries: when one reads as a list of places and numbers. -/
namespace Go.Proofs.YtmnadieblhdcpaaDoor
open Go.RowKit

/-- an entry: its place's header, the place, the number -/
structure Ent where
  A : Option Addr
  n : Nat
  c : Nat
  cs : List Int
  v : Int
/-- the header (A, n) leads to the entries es, in blocks below B -/
def Ents (w : World) (B : Nat) (A : Option Addr) (n : Nat) (es : List Ent) : Prop :=
  es.length = n ∧ (∀ x ∈ es, Ints w B x.A x.n x.cs ∧ x.n ≤ 9223372036854775807 ∧ x.n ≤ x.c ∧ -9223372036854775808 ≤ x.v ∧ x.v ≤ 9223372036854775807) ∧
  (0 < n → ∃ b off, A = some ⟨b, off, none⟩ ∧ b < B ∧ ∀ (k : Nat) (x : Ent), es[k]? = some x → w.cell? ⟨b, off + 2 * k, none⟩ = some (.slice x.A x.n x.c) ∧ w.cell? ⟨b, off + 2 * k + 1, none⟩ = some (.int .i64 x.v))
section
variable {w w' : World} {B B' n : Nat} {A : Option Addr} {es : List Ent}
theorem Ents.nil_ : Ents w B A 0 [] := ⟨rfl, by simp, fun h => absurd h (by omega)⟩
theorem Ents.len (h : Ents w B A n es) : es.length = n := h.1
theorem Ents.keep (h : Ents w B A n es) (hk : ∀ p : Addr, p.block < B → w'.cell? p = w.cell? p) : Ents w' B A n es := by
  obtain ⟨hl, hb, hc⟩ := h
  refine ⟨hl, fun x hx => ⟨(hb x hx).1.keep hk, (hb x hx).2⟩, fun hn => ?_⟩
  obtain ⟨b, off, e, hB, hx⟩ := hc hn
  exact ⟨b, off, e, hB, fun k x hx' => ⟨(hk _ hB).trans (hx k x hx').1, (hk _ hB).trans (hx k x hx').2⟩⟩
theorem Ents.more (h : Ents w B A n es) (hB : B ≤ B') : Ents w B' A n es := by
  obtain ⟨hl, hb, hc⟩ := h
  refine ⟨hl, fun x hx => ⟨(hb x hx).1.more hB, (hb x hx).2⟩, fun hn => ?_⟩
  obtain ⟨b, off, e, hB', hx⟩ := hc hn
  exact ⟨b, off, e, by omega, hx⟩
theorem Ents.below (h : Ents w B A n es) (hb : Below B w w') : Ents w' B A n es := h.keep fun _ hp => hb.cell hp
theorem Ents.at_ {k : Nat} (h : Ents w B A n es) (hk : k < n) :
    ∃ b off x, A = some ⟨b, off, none⟩ ∧ b < B ∧ Hid (es[k]? = some x) ∧ w.cell? ⟨b, off + 2 * k, none⟩ = some (.slice x.A x.n x.c) ∧ w.cell? ⟨b, off + 2 * k + 1, none⟩ = some (.int .i64 x.v) ∧ Ints w B x.A x.n x.cs ∧ x.n ≤ 9223372036854775807 ∧ x.n ≤ x.c ∧ -9223372036854775808 ≤ x.v ∧ x.v ≤ 9223372036854775807 := by
  obtain ⟨hl, hb, hc⟩ := h
  obtain ⟨b, off, rfl, hB, hx⟩ := hc (by omega)
  have hk' : k < es.length := by omega
  have hm := hb _ (List.getElem_mem hk')
  have hx' := hx k _ (List.getElem?_eq_getElem hk')
  exact ⟨b, off, es[k], rfl, hB, List.getElem?_eq_getElem hk', hx'.1, hx'.2, hm.1, hm.2.1, hm.2.2.1, hm.2.2.2.1, hm.2.2.2.2⟩
theorem Ents.take_ {k : Nat} (h : Ents w B A n es) (hk : k ≤ n) : Ents w B A k (es.take k) := by
  obtain ⟨hl, hb, hc⟩ := h
  refine ⟨by rw [List.length_take]; omega, fun x hx => hb x (List.mem_of_mem_take hx), fun h0 => ?_⟩
  obtain ⟨b, off, e, hB, hx⟩ := hc (by omega)
  refine ⟨b, off, e, hB, fun j x hj => hx j x ?_⟩
  rw [List.getElem?_take] at hj
  split at hj
  · exact hj
  · cases hj
theorem Ents.drop_ {k c : Nat} (h : Ents w B A n es) (hk : k ≤ n) (hc : n ≤ c) : Ents w B (if c = k then A else A.map (·.add (k * 2))) (n - k) (es.drop k) := by
  obtain ⟨hl, hb, hcc⟩ := h
  refine ⟨by rw [List.length_drop]; omega, fun x hx => hb x (List.mem_of_mem_drop hx), fun h0 => ?_⟩
  obtain ⟨b, off, rfl, hB, hx⟩ := hcc (by omega)
  rw [if_neg (by omega)]
  refine ⟨b, off + 2 * k, ?_, hB, fun j x hj => ?_⟩
  · by_cases hk0 : k = 0
    · subst hk0; simp [Addr.add]
    · have h2 : ¬ k * 2 = 0 := by omega
      simp [Addr.add, h2, Nat.mul_comm]
  · rw [List.getElem?_drop] at hj
    have := hx (k + j) x hj
    rw [show off + 2 * k + 2 * j = off + 2 * (k + j) by omega]
    exact this
end
end Go.Proofs.YtmnadieblhdcpaaDoor
/- purflelaw01.BoxCells returns true at every input, and nothing that lay there has turned. -/
namespace Go.Proofs.YtmnadieblhdcpaaDoor
open Go.RowKit Go.Sort

def zS (xs : List Int) : List Int := if (laidF xs).2 = 0 then xs else []
def zV (xs : List Int) : List Int := if (laidF xs).2 = 0 then List.replicate (laidF xs).1.toNat 0 else []

theorem zS_len (xs : List Int) : (zS xs).length ≤ 4 := by
  unfold zS; split
  · rename_i h; exact (cellsF_ok (laidF_ok h).1).1
  · simp
theorem zV_len (xs : List Int) : (zV xs).length ≤ 65536 := by
  unfold zV; split
  · have := laidF_nonneg (xs := xs); rw [List.length_replicate]; omega
  · simp

end Go.Proofs.YtmnadieblhdcpaaDoor
/- What box.both leaves behind the statement that makes the sum's tensor, in each order of its three operations. -/
namespace Go.Proofs.YtmnadieblhdcpaaDoor
open Go.RowKit

theorem OwnI.apart {w : World} {base g bt : Nat} {e : TypeId} {c : Nat} {xs : List Int} (h : OwnI w base e (some ⟨g, 0, none⟩) c xs) (hne : g ≠ bt) (j : Nat) (u : Value) : OwnI (w.setCell ⟨bt, j, none⟩ u) base e (some ⟨g, 0, none⟩) c xs := by
  refine ⟨h.1.kept (row := some bt) ⟨rfl, rfl, rfl, by simp [World.setCell], fun i hi hn => Below.heap_setCell w ⟨bt, j, none⟩ u i (fun e => hn (by rw [e]))⟩ ?_, h.2⟩
  right
  simp only [Value.ownBlock]
  intro he
  injection he with he
  exact hne he
/-- what the statement that makes the sum's tensor leaves -/
def BothCut (w0 wx : World) (bt gv : Nat) (A1 : Option Addr) (c1 : Nat) (xs : List Int) (n m : Nat) : Prop :=
  bt ≠ gv ∧ w0.heap.size ≤ bt ∧ w0.heap.size ≤ gv ∧ wx.cell? ⟨bt, 0, none⟩ = some (.slice A1 n c1) ∧ wx.cell? ⟨bt, 1, none⟩ = some (.slice (some ⟨gv, 0, none⟩) m m) ∧ OwnI wx w0.heap.size 3 A1 c1 xs ∧
    OwnI wx w0.heap.size 2 (some ⟨gv, 0, none⟩) m (List.replicate m 0) ∧ Below w0.heap.size w0 wx
theorem pair_new (w : World) (u v : Value) (t : TypeId) : (w.alloc (.cells #[u, v] t)).cell? ⟨w.heap.size, 0, none⟩ = some u ∧ (w.alloc (.cells #[u, v] t)).cell? ⟨w.heap.size, 1, none⟩ = some v := by
  have k := heap_alloc_new w (.cells #[u, v] t)
  exact ⟨(cell_of_row _ _ 0 _ t (0, 0) k).trans (by simp), (cell_of_row _ _ 1 _ t (0, 0) k).trans (by simp)⟩
/-- the two cells of a block that was there before a quiet call -/
theorem pair_kept {W w1 : World} {u v : Value} {t : TypeId} {g : Nat} (hb : Below W.heap.size W w1) (h : W.heap[g]? = some (.cells #[u, v] t (0, 0))) : w1.cell? ⟨g, 0, none⟩ = some u ∧ w1.cell? ⟨g, 1, none⟩ = some v := by
  have k := (hb.block g (Array.getElem?_eq_some_iff.1 h).1).trans h
  exact ⟨(cell_of_row _ _ 0 _ t (0, 0) k).trans (by simp), (cell_of_row _ _ 1 _ t (0, 0) k).trans (by simp)⟩
section
variable {w0 w : World} {A1 : Option Addr} {c1 n m : Nat} {xs : List Int} {d : TypeId} {u v : Value}
theorem cut_one (hm : m ≤ 100000) (HO : OwnI w w0.drew.heap.size 3 A1 c1 xs) (HB : Below w0.heap.size w0 w) :
    BothCut w0 ((w.alloc (.cells (madeCells #[.int .i64 0] m) 2)).alloc (.cells #[.slice A1 n c1, .slice (some ⟨w.heap.size, 0, none⟩) m m] d)) (w.heap.size + 1) w.heap.size A1 c1 xs n m := by
  have hs : w0.heap.size ≤ w.heap.size := HB.size
  have hp := pair_new (w.alloc (.cells (madeCells #[.int .i64 0] m) 2)) (.slice A1 n c1) (.slice (some ⟨w.heap.size, 0, none⟩) m m) d
  rw [World.size_alloc] at hp
  exact ⟨by omega, by omega, hs, hp.1, hp.2, (HO.alloc _).alloc _, (own_made w _ m _ hs hm).alloc _, (HB.alloc hs _).alloc (by rw [World.size_alloc]; omega) _⟩
theorem cut_two (hm : m ≤ 100000) (HO : OwnI w w0.drew.heap.size 3 A1 c1 xs) (HB : Below w0.heap.size w0 w) :
    BothCut w0 ((w.alloc (.cells #[.slice A1 n c1, .slice (some ⟨w.heap.size + 1, 0, none⟩) m m] d)).alloc (.cells (madeCells #[.int .i64 0] m) 2)) w.heap.size (w.heap.size + 1) A1 c1 xs n m := by
  have hs : w0.heap.size ≤ w.heap.size := HB.size
  have hp := pair_new w (.slice A1 n c1) (.slice (some ⟨w.heap.size + 1, 0, none⟩) m m) d
  have ho := own_made (w.alloc (.cells #[.slice A1 n c1, .slice (some ⟨w.heap.size + 1, 0, none⟩) m m] d)) 2 m w0.heap.size (by rw [World.size_alloc]; omega) hm
  rw [World.size_alloc] at ho
  exact ⟨by omega, hs, by omega, cellPast _ hp.1, cellPast _ hp.2, (HO.alloc _).alloc _, ho, (HB.alloc hs _).alloc (by rw [World.size_alloc]; omega) _⟩
theorem cut_three (hm : m ≤ 100000) (HO : OwnI w (w0.alloc (.cells (madeCells #[.int .i64 0] m) 2)).drew.heap.size 3 A1 c1 xs)
    (HB : Below (w0.alloc (.cells (madeCells #[.int .i64 0] m) 2)).drew.heap.size (w0.alloc (.cells (madeCells #[.int .i64 0] m) 2)).drew w) (H5 : Below w0.heap.size w0 w) :
    BothCut w0 (w.alloc (.cells #[.slice A1 n c1, .slice (some ⟨w0.heap.size, 0, none⟩) m m] d)) w.heap.size w0.heap.size A1 c1 xs n m := by
  have hz : (w0.alloc (.cells (madeCells #[.int .i64 0] m) 2)).drew.heap.size = w0.heap.size + 1 := World.size_alloc _ _
  have hs : w0.heap.size + 1 ≤ w.heap.size := by rw [← hz]; exact HB.size
  have hp := pair_new w (.slice A1 n c1) (.slice (some ⟨w0.heap.size, 0, none⟩) m m) d
  exact ⟨by omega, by omega, Nat.le_refl _, hp.1, hp.2, (HO.mono (by rw [hz]; omega)).alloc _, ((own_made w0 _ m _ (Nat.le_refl _) hm).drew.below HB (Nat.le_refl _)).alloc _, H5.alloc (by omega) _⟩
theorem cut_four (hm : m ≤ 100000) (HO : OwnI w ((w0.alloc (.cells (madeCells #[.int .i64 0] m) 2)).alloc (.cells #[u, v] d)).drew.heap.size 3 A1 c1 xs)
    (HB : Below ((w0.alloc (.cells (madeCells #[.int .i64 0] m) 2)).alloc (.cells #[u, v] d)).drew.heap.size ((w0.alloc (.cells (madeCells #[.int .i64 0] m) 2)).alloc (.cells #[u, v] d)).drew w) (H5 : Below w0.heap.size w0 w) :
    BothCut w0 ((w.setCell ⟨w0.heap.size + 1, 0, none⟩ (.slice A1 n c1)).setCell ⟨w0.heap.size + 1, 1, none⟩ (.slice (some ⟨w0.heap.size, 0, none⟩) m m)) (w0.heap.size + 1) w0.heap.size A1 c1 xs n m := by
  have hz : ((w0.alloc (.cells (madeCells #[.int .i64 0] m) 2)).alloc (.cells #[u, v] d)).drew.heap.size = w0.heap.size + 1 + 1 := by
    show ((w0.alloc _).alloc _).heap.size = _
    rw [World.size_alloc, World.size_alloc]
  have hk := heap_alloc_new (w0.alloc (.cells (madeCells #[.int .i64 0] m) 2)) (.cells #[u, v] d)
  rw [World.size_alloc] at hk
  have hp := pair_kept (W := ((w0.alloc (.cells (madeCells #[.int .i64 0] m) 2)).alloc (.cells #[u, v] d)).drew) HB hk
  have hq := zcells (a := .slice A1 n c1) (b := .slice (some ⟨w0.heap.size, 0, none⟩) m m) hp.1 hp.2
  have hr : OwnI w w0.heap.size 2 (some ⟨w0.heap.size, 0, none⟩) m (List.replicate m 0) := ((own_made w0 _ m _ (Nat.le_refl _) hm).alloc _).drew.below HB (Nat.le_refl _)
  exact ⟨by omega, by omega, Nat.le_refl _, hq.1, hq.2, ((HO.far (by rw [hz]; omega) _ _).far (by rw [hz]; omega) _ _).mono (by rw [hz]; omega), (hr.apart (by omega) _ _).apart (by omega) _ _, (H5.setCell (by show _ ≤ w0.heap.size + 1; omega) _).setCell (by show _ ≤ w0.heap.size + 1; omega) _⟩
theorem cut_five (hm : m ≤ 100000) (HO : OwnI w (w0.alloc (.cells #[u, v] d)).drew.heap.size 3 A1 c1 xs)
    (HB : Below (w0.alloc (.cells #[u, v] d)).drew.heap.size (w0.alloc (.cells #[u, v] d)).drew w) (H5 : Below w0.heap.size w0 w) :
    BothCut w0 (((w.setCell ⟨w0.heap.size, 0, none⟩ (.slice A1 n c1)).setCell ⟨w0.heap.size, 1, none⟩ (.slice (some ⟨w.heap.size, 0, none⟩) m m)).alloc (.cells (madeCells #[.int .i64 0] m) 2)) w0.heap.size w.heap.size A1 c1 xs n m := by
  have hz : (w0.alloc (.cells #[u, v] d)).drew.heap.size = w0.heap.size + 1 := World.size_alloc _ _
  have hs : w0.heap.size + 1 ≤ w.heap.size := by rw [← hz]; exact HB.size
  have hp := pair_kept (W := (w0.alloc (.cells #[u, v] d)).drew) HB (heap_alloc_new w0 _)
  have hq := zcells (a := .slice A1 n c1) (b := .slice (some ⟨w.heap.size, 0, none⟩) m m) hp.1 hp.2
  have hsz : ((w.setCell ⟨w0.heap.size, 0, none⟩ (.slice A1 n c1)).setCell ⟨w0.heap.size, 1, none⟩ (.slice (some ⟨w.heap.size, 0, none⟩) m m)).heap.size = w.heap.size := by simp [World.setCell]
  have ho := own_made ((w.setCell ⟨w0.heap.size, 0, none⟩ (.slice A1 n c1)).setCell ⟨w0.heap.size, 1, none⟩ (.slice (some ⟨w.heap.size, 0, none⟩) m m)) 2 m w0.heap.size (by rw [hsz]; omega) hm
  rw [hsz] at ho
  exact ⟨by omega, Nat.le_refl _, by omega, cellPast _ hq.1, cellPast _ hq.2, (((HO.far (by rw [hz]; omega) _ _).far (by rw [hz]; omega) _ _).mono (by rw [hz]; omega)).alloc _, ho, ((H5.setCell (Nat.le_refl _) _).setCell (Nat.le_refl _) _).alloc (by rw [hsz]; omega) _⟩
theorem cut_six (hm : m ≤ 100000) (HO : OwnI w ((w0.alloc (.cells #[u, v] d)).alloc (.cells (madeCells #[.int .i64 0] m) 2)).drew.heap.size 3 A1 c1 xs)
    (HB : Below ((w0.alloc (.cells #[u, v] d)).alloc (.cells (madeCells #[.int .i64 0] m) 2)).drew.heap.size ((w0.alloc (.cells #[u, v] d)).alloc (.cells (madeCells #[.int .i64 0] m) 2)).drew w) (H5 : Below w0.heap.size w0 w) :
    BothCut w0 ((w.setCell ⟨w0.heap.size, 0, none⟩ (.slice A1 n c1)).setCell ⟨w0.heap.size, 1, none⟩ (.slice (some ⟨w0.heap.size + 1, 0, none⟩) m m)) w0.heap.size (w0.heap.size + 1) A1 c1 xs n m := by
  have hz : ((w0.alloc (.cells #[u, v] d)).alloc (.cells (madeCells #[.int .i64 0] m) 2)).drew.heap.size = w0.heap.size + 1 + 1 := by
    show ((w0.alloc _).alloc _).heap.size = _
    rw [World.size_alloc, World.size_alloc]
  have hk := (Below.heap_alloc (w0.alloc (.cells #[u, v] d)) (.cells (madeCells #[.int .i64 0] m) 2) w0.heap.size (by rw [World.size_alloc]; omega)).trans (heap_alloc_new w0 (.cells #[u, v] d))
  have hp := pair_kept (W := ((w0.alloc (.cells #[u, v] d)).alloc (.cells (madeCells #[.int .i64 0] m) 2)).drew) HB hk
  have hq := zcells (a := .slice A1 n c1) (b := .slice (some ⟨w0.heap.size + 1, 0, none⟩) m m) hp.1 hp.2
  have hr := own_made (w0.alloc (.cells #[u, v] d)) 2 m w0.heap.size (by rw [World.size_alloc]; omega) hm
  rw [World.size_alloc] at hr
  have hr := hr.drew.below HB (Nat.le_refl _)
  exact ⟨by omega, Nat.le_refl _, by omega, hq.1, hq.2, ((HO.far (by rw [hz]; omega) _ _).far (by rw [hz]; omega) _ _).mono (by rw [hz]; omega), (hr.apart (by omega) _ _).apart (by omega) _ _, (H5.setCell (Nat.le_refl _) _).setCell (Nat.le_refl _) _⟩
end
end Go.Proofs.YtmnadieblhdcpaaDoor
/- The contract of box.both at each closure that box hands it (Add's, Mul's, Scale's), where both tensors may be and have one shape; and where they may not. -/
namespace Go.Proofs.YtmnadieblhdcpaaDoor
open Go.RowKit

theorem OwnI.other {w : World} {base gv : Nat} {e e' : TypeId} {A : Option Addr} {c : Nat} {xs : List Int} {cs : Array Value} {fr : Nat × Nat} (h : OwnI w base e A c xs) (hg : w.heap[gv]? = some (.cells cs e' fr)) (hne : e ≠ e') (j : Nat) (u : Value) : OwnI (w.setCell ⟨gv, j, none⟩ u) base e A c xs := by
  refine ⟨h.1.kept (row := some gv) ⟨rfl, rfl, rfl, by simp [World.setCell], fun i hi hn => Below.heap_setCell w ⟨gv, j, none⟩ u i (fun e => hn (by rw [e]))⟩ ?_, h.2⟩
  rcases h.1.2 with ⟨h1, _⟩ | ⟨g, cap, cur, h1, _, hh, _⟩
  · left; rw [h1]; rfl
  · right
    rw [h1]
    intro he
    have hgg : g = gv := by injection he
    subst hgg
    rw [hh] at hg
    injection hg with hg
    injection hg with _ ht _
    exact hne ht
theorem OwnI.other_ {w : World} {base base2 gv c2 : Nat} {e e' : TypeId} {A : Option Addr} {c : Nat} {xs zs : List Int} (h : OwnI w base e A c xs) (h2 : OwnI w base2 e' (some ⟨gv, 0, none⟩) c2 zs) (hne : e ≠ e') (j : Nat) (u : Value) : OwnI (w.setCell ⟨gv, j, none⟩ u) base e A c xs := by
  rcases h2.1.2 with ⟨h1, _⟩ | ⟨g, cap, cur, h1, _, hh, _⟩
  · injection h1 with h1
    cases h1
  · injection h1 with h1
    injection h1 with h1
    injection h1 with h1
    subst h1
    exact h.other hh hne j u
theorem wrap64_range (n : Int) : -9223372036854775808 ≤ wrap64 n ∧ wrap64 n ≤ 9223372036854775807 := by unfold wrap64; omega
theorem fill_set {Z : List Int} {m k : Nat} {v : Int} (hZ : Z.length = m) (hv : Z[k]? = some v) : (Z.take k ++ List.replicate (m - k) 0).set k v = Z.take (k + 1) ++ List.replicate (m - (k + 1)) 0 := by
  have hk : k < Z.length := (List.getElem?_eq_some_iff.1 hv).1
  rw [take_succ_of hv, show m - k = (m - (k + 1)) + 1 by omega, List.replicate_succ, List.set_append_right _ _ (by rw [List.length_take]; omega), List.length_take, Nat.min_eq_left (by omega), Nat.sub_self]
  simp
theorem zf_core {W w1 : World} {u v : Value} {t : TypeId} {g : Nat} (h : W.heap[g]? = some (.cells #[u, v] t (0, 0))) (hb : Below W.heap.size W w1) :
    w1.cell? ⟨g, 0, none⟩ = some u ∧ w1.cell? ⟨g, 1, none⟩ = some v ∧ w1.frozen? ⟨g, 0, none⟩ = false ∧ w1.frozen? ⟨g, 1, none⟩ = false ∧ g < w1.heap.size := by
  have k := (hb.block g (Array.getElem?_eq_some_iff.1 h).1).trans h
  exact ⟨by simpa using cell_of_row _ _ 0 _ t (0, 0) k, by simpa using cell_of_row _ _ 1 _ t (0, 0) k, by simp [World.frozen?, k], by simp [World.frozen?, k], Nat.lt_of_lt_of_le (Array.getElem?_eq_some_iff.1 h).1 hb.size⟩
theorem far_two {W : World} {g g' : Nat} {u v a b : Value} (hne : g < g') (h0 : W.cell? ⟨g, 0, none⟩ = some u) (h1 : W.cell? ⟨g, 1, none⟩ = some v) :
    ((W.setCell ⟨g', 0, none⟩ a).setCell ⟨g', 1, none⟩ b).cell? ⟨g, 0, none⟩ = some u ∧ ((W.setCell ⟨g', 0, none⟩ a).setCell ⟨g', 1, none⟩ b).cell? ⟨g, 1, none⟩ = some v :=
  ⟨(World.cell?_setCell_other _ _ ⟨g, 0, none⟩ _ (by simp)).trans ((World.cell?_setCell_other _ _ ⟨g, 0, none⟩ _ (by simp <;> omega)).trans h0),
   (World.cell?_setCell_other _ _ ⟨g, 1, none⟩ _ (by simp <;> omega)).trans ((World.cell?_setCell_other _ _ ⟨g, 1, none⟩ _ (by simp <;> omega)).trans h1)⟩
theorem far_two_past {W : World} {g g' : Nat} {u v a b : Value} (hne : g < g') (h0 : W.cell? ⟨g, 0, none⟩ = some u) (h1 : W.cell? ⟨g, 1, none⟩ = some v) (o : Obj) :
    (((W.setCell ⟨g', 0, none⟩ a).setCell ⟨g', 1, none⟩ b).alloc o).cell? ⟨g, 0, none⟩ = some u ∧ (((W.setCell ⟨g', 0, none⟩ a).setCell ⟨g', 1, none⟩ b).alloc o).cell? ⟨g, 1, none⟩ = some v :=
  ⟨cellPast _ (far_two hne h0 h1).1, cellPast _ (far_two hne h0 h1).2⟩
theorem zf_pair {W w1 : World} {u v : Value} {t : TypeId} {g : Nat} (hb : Below W.heap.size W w1) (h : W.heap[g]? = some (.cells #[u, v] t (0, 0))) :
    w1.cell? ⟨g, 0, none⟩ = some u ∧ w1.cell? ⟨g, 1, none⟩ = some v ∧ w1.frozen? ⟨g, 0, none⟩ = false ∧ w1.frozen? ⟨g, 1, none⟩ = false ∧ g < w1.heap.size := zf_core h hb
theorem zf_two (w : World) (o o' : Obj) : ((w.alloc o).alloc o').heap[w.heap.size]? = some o := (Below.heap_alloc _ o' _ (by simp)).trans (heap_alloc_new w o)
theorem zf_snd (w : World) (o o' : Obj) : ((w.alloc o').alloc o).heap[w.heap.size + 1]? = some o := by
  have := heap_alloc_new (w.alloc o') o; rwa [World.size_alloc] at this
theorem zfa {w w1 : World} {u v : Value} {t : TypeId} (hb : Below (w.alloc (.cells #[u, v] t)).drew.heap.size (w.alloc (.cells #[u, v] t)).drew w1) :
    w1.cell? ⟨w.heap.size, 0, none⟩ = some u ∧ w1.cell? ⟨w.heap.size, 1, none⟩ = some v ∧ w1.frozen? ⟨w.heap.size, 0, none⟩ = false ∧ w1.frozen? ⟨w.heap.size, 1, none⟩ = false ∧ w.heap.size < w1.heap.size :=
  zf_core (W := (w.alloc (.cells #[u, v] t)).drew) (heap_alloc_new w _) hb
theorem zfb {w w1 : World} {u v : Value} {t : TypeId} {o : Obj} (hb : Below ((w.alloc (.cells #[u, v] t)).alloc o).drew.heap.size ((w.alloc (.cells #[u, v] t)).alloc o).drew w1) :
    w1.cell? ⟨w.heap.size, 0, none⟩ = some u ∧ w1.cell? ⟨w.heap.size, 1, none⟩ = some v ∧ w1.frozen? ⟨w.heap.size, 0, none⟩ = false ∧ w1.frozen? ⟨w.heap.size, 1, none⟩ = false ∧ w.heap.size < w1.heap.size :=
  zf_core (W := ((w.alloc (.cells #[u, v] t)).alloc o).drew) ((Below.heap_alloc _ o _ (by simp)).trans (heap_alloc_new w (.cells #[u, v] t))) hb
theorem zfc {w w1 : World} {u v : Value} {t : TypeId} {o : Obj} (hb : Below ((w.alloc o).alloc (.cells #[u, v] t)).drew.heap.size ((w.alloc o).alloc (.cells #[u, v] t)).drew w1) :
    w1.cell? ⟨w.heap.size + 1, 0, none⟩ = some u ∧ w1.cell? ⟨w.heap.size + 1, 1, none⟩ = some v ∧ w1.frozen? ⟨w.heap.size + 1, 0, none⟩ = false ∧ w1.frozen? ⟨w.heap.size + 1, 1, none⟩ = false ∧ w.heap.size + 1 < w1.heap.size := by
  have := zf_core (W := ((w.alloc o).alloc (.cells #[u, v] t)).drew) (heap_alloc_new (w.alloc o) (.cells #[u, v] t)) hb
  rw [World.size_alloc] at this
  exact this
theorem zf0 {w w1 : World} (_ : Below w.drew.heap.size w.drew w1) (_ : w = w := rfl) : True := trivial
theorem zf1 {w w1 : World} {z : Array Value} {m : Nat} {t : TypeId} (_ : Below (w.alloc (.cells (madeCells z m) t)).drew.heap.size (w.alloc (.cells (madeCells z m) t)).drew w1) : True := trivial
theorem newPair (w : World) (u v : Value) (t : TypeId) (o : Obj) : ((w.alloc (.cells #[u, v] t)).alloc o).cell? ⟨w.heap.size, 0, none⟩ = some u ∧ ((w.alloc (.cells #[u, v] t)).alloc o).cell? ⟨w.heap.size, 1, none⟩ = some v ∧
    ((w.alloc (.cells #[u, v] t)).alloc o).frozen? ⟨w.heap.size, 0, none⟩ = false ∧ ((w.alloc (.cells #[u, v] t)).alloc o).frozen? ⟨w.heap.size, 1, none⟩ = false := by
  have k : ((w.alloc (.cells #[u, v] t)).alloc o).heap[w.heap.size]? = some (.cells #[u, v] t (0, 0)) := (Below.heap_alloc _ o _ (by simp)).trans (heap_alloc_new w (.cells #[u, v] t))
  exact ⟨(cell_of_row _ _ 0 _ t (0, 0) k).trans (by simp), (cell_of_row _ _ 1 _ t (0, 0) k).trans (by simp), by simp [World.frozen?, k], by simp [World.frozen?, k]⟩
theorem three_boxes {w w1 : World} {a b c d e f : Value} {t : TypeId} (hb : Below (w.heap.size + 1 + 1 + 1) (((w.alloc (.cells #[a, b] t)).alloc (.cells #[c, d] t)).alloc (.cells #[e, f] t)) w1) :
    (w1.cell? ⟨w.heap.size, 0, none⟩ = some a ∧ w1.cell? ⟨w.heap.size, 1, none⟩ = some b ∧ w1.cell? ⟨w.heap.size + 1, 0, none⟩ = some c ∧ w1.cell? ⟨w.heap.size + 1, 1, none⟩ = some d) ∧
      w1.cell? ⟨w.heap.size + 1 + 1, 0, none⟩ = some e ∧ w1.cell? ⟨w.heap.size + 1 + 1, 1, none⟩ = some f ∧ w1.frozen? ⟨w.heap.size + 1 + 1, 0, none⟩ = false ∧ w1.frozen? ⟨w.heap.size + 1 + 1, 1, none⟩ = false := by
  have h0 := two_boxes (w := w) (a := a) (b := b) (c := c) (d := d) (t := t) (w1 := w1) (((Below.refl _ _).alloc (Nat.le_refl _) _).trans (hb.mono (by simp)))
  have h3 : (((w.alloc (.cells #[a, b] t)).alloc (.cells #[c, d] t)).alloc (.cells #[e, f] t)).heap[w.heap.size + 1 + 1]? = some (.cells #[e, f] t (0, 0)) := by
    have := heap_alloc_new ((w.alloc (.cells #[a, b] t)).alloc (.cells #[c, d] t)) (.cells #[e, f] t); simpa using this
  have k := (hb.block (w.heap.size + 1 + 1) (by omega)).trans h3
  exact ⟨h0, by simpa using cell_of_row _ _ 0 _ t (0, 0) k, by simpa using cell_of_row _ _ 1 _ t (0, 0) k, by simp [World.frozen?, k], by simp [World.frozen?, k]⟩
end Go.Proofs.YtmnadieblhdcpaaDoor
/- What box.Sum calls: slices.Grow from nothing, slices.Concat of two lists, box.stepOf. -/
namespace Go.Proofs.YtmnadieblhdcpaaDoor
open Go.RowKit Go.Shelf
attribute [local go_sem] Oper.semAt_some

end Go.Proofs.YtmnadieblhdcpaaDoor
/- Sums and products of 64-bit cells make a ring. -/
namespace Go.Proofs.YtmnadieblhdcpaaDoor
open Go.RowKit

def addL (a b : List Int) : List Int := List.zipWith (fun x y => wrap64 (x + y)) a b
def mulL (a b : List Int) : List Int := List.zipWith (fun x y => wrap64 (x * y)) a b
def negL (a : List Int) : List Int := List.zipWith (fun x _ => wrap64 (x * (-1))) a a
theorem wrap64_more (a k : Int) : wrap64 (a + k * 18446744073709551616) = wrap64 a := by unfold wrap64; omega
theorem wrap64_off (a : Int) : ∃ k : Int, wrap64 a = a + k * 18446744073709551616 := ⟨-((a + 9223372036854775808) / 18446744073709551616), by unfold wrap64; omega⟩
theorem wrap_add_l (a b : Int) : wrap64 (wrap64 a + b) = wrap64 (a + b) := by
  obtain ⟨k, hk⟩ := wrap64_off a
  rw [hk, show a + k * 18446744073709551616 + b = a + b + k * 18446744073709551616 by omega, wrap64_more]
theorem wrap_add_r (a b : Int) : wrap64 (a + wrap64 b) = wrap64 (a + b) := by rw [Int.add_comm, wrap_add_l, Int.add_comm]
theorem wrap_mul_l (a b : Int) : wrap64 (wrap64 a * b) = wrap64 (a * b) := by
  obtain ⟨k, hk⟩ := wrap64_off a
  rw [hk, Int.add_mul, Int.mul_assoc, Int.mul_comm 18446744073709551616 b, ← Int.mul_assoc, wrap64_more]
theorem wrap_mul_r (a b : Int) : wrap64 (a * wrap64 b) = wrap64 (a * b) := by rw [Int.mul_comm, wrap_mul_l, Int.mul_comm]
theorem addL_comm : ∀ a b : List Int, addL a b = addL b a
  | [], [] => rfl
  | [], _ :: _ => rfl
  | _ :: _, [] => rfl
  | x :: a, y :: b => by have := addL_comm a b; simp only [addL, List.zipWith_cons_cons] at this ⊢; rw [this, Int.add_comm]
theorem mulL_comm : ∀ a b : List Int, mulL a b = mulL b a
  | [], [] => rfl
  | [], _ :: _ => rfl
  | _ :: _, [] => rfl
  | x :: a, y :: b => by have := mulL_comm a b; simp only [mulL, List.zipWith_cons_cons] at this ⊢; rw [this, Int.mul_comm]
theorem addL_assoc : ∀ a b c : List Int, addL (addL a b) c = addL a (addL b c)
  | [], _, _ => by simp [addL]
  | _ :: _, [], _ => by simp [addL]
  | _ :: _, _ :: _, [] => by simp [addL]
  | x :: a, y :: b, z :: c => by have := addL_assoc a b c; simp only [addL, List.zipWith_cons_cons] at this ⊢; rw [this, wrap_add_l, wrap_add_r, Int.add_assoc]
theorem mulL_assoc : ∀ a b c : List Int, mulL (mulL a b) c = mulL a (mulL b c)
  | [], _, _ => by simp [mulL]
  | _ :: _, [], _ => by simp [mulL]
  | _ :: _, _ :: _, [] => by simp [mulL]
  | x :: a, y :: b, z :: c => by have := mulL_assoc a b c; simp only [mulL, List.zipWith_cons_cons] at this ⊢; rw [this, wrap_mul_l, wrap_mul_r, Int.mul_assoc]
theorem mulL_addL : ∀ a b c : List Int, mulL a (addL b c) = addL (mulL a b) (mulL a c)
  | [], _, _ => by simp [mulL, addL]
  | _ :: _, [], _ => by simp [mulL, addL]
  | _ :: _, _ :: _, [] => by simp [mulL, addL]
  | x :: a, y :: b, z :: c => by have := mulL_addL a b c; simp only [mulL, addL, List.zipWith_cons_cons] at this ⊢; rw [this, wrap_mul_r, wrap_add_l, wrap_add_r, Int.mul_add]
theorem addL_negL : ∀ a : List Int, addL a (negL a) = List.replicate a.length 0
  | [] => rfl
  | x :: a => by
    have := addL_negL a
    simp only [addL, negL, List.zipWith_cons_cons, List.length_cons, List.replicate_succ] at this ⊢
    rw [this, wrap_add_r, show x + x * (-1) = 0 by omega, show wrap64 0 = 0 by unfold wrap64; omega]
theorem addL_zero : ∀ (a : List Int), (∀ x ∈ a, -9223372036854775808 ≤ x ∧ x ≤ 9223372036854775807) → addL a (List.replicate a.length 0) = a
  | [], _ => rfl
  | x :: a, h => by
    have := addL_zero a fun y hy => h y (List.mem_cons_of_mem _ hy)
    simp only [addL, List.zipWith_cons_cons, List.length_cons, List.replicate_succ] at this ⊢
    have hx := h x (List.mem_cons_self ..)
    rw [this, Int.add_zero, show wrap64 x = x by unfold wrap64; omega]
theorem addL_length {a b : List Int} {m : Nat} (ha : a.length = m) (hb : b.length = m) : (addL a b).length = m := by simp [addL, ha, hb]
theorem mulL_length {a b : List Int} {m : Nat} (ha : a.length = m) (hb : b.length = m) : (mulL a b).length = m := by simp [mulL, ha, hb]
theorem negL_length {a : List Int} {m : Nat} (ha : a.length = m) : (negL a).length = m := by simp [negL, ha]
end Go.Proofs.YtmnadieblhdcpaaDoor
