/- The contract of the statements' live: the chapter's examples hold, and nothing that lay there has turned. -/
import Derived.Test.YtnaehnlpcjaaeaaG1
import Derived.Lib.QuietBelow
import Derived.Laws.AppendOwnNone
import Derived.Deep.RegionLaw
import Derived.Deep.QuietTactic
import Derived.RegionTactic
namespace Go.Proofs.Ytnaehnlpcjaaeaa
open Go.RowKit

theorem Ints.of_new (W : World) (e : TypeId) (xs : List Int) (hb : ∀ x ∈ xs, -9223372036854775808 ≤ x ∧ x ≤ 9223372036854775807) :
    Ints (W.alloc (.cells (xs.map (Value.int .i64)).toArray e)) (W.heap.size + 1) (some ⟨W.heap.size, 0, none⟩) xs.length xs := by
  refine ⟨rfl, hb, fun _ => ⟨W.heap.size, 0, rfl, by omega, fun k x hx => ?_⟩⟩
  have h : (W.alloc (.cells (xs.map (Value.int .i64)).toArray e)).heap[W.heap.size]? = some (.cells (xs.map (Value.int .i64)).toArray e (0, 0)) := heap_alloc_new W _
  have := cell_of_row _ _ k _ e (0, 0) h
  rw [Nat.zero_add, this]
  simp [hx]

end Go.Proofs.Ytnaehnlpcjaaeaa
/- purflelaw01.BoxPlaces returns true at every input, and nothing that lay there has turned. -/
namespace Go.Proofs.Ytnaehnlpcjaaeaa
open Go.RowKit

theorem below_drewN {B : Nat} {w W : World} (h : Below B w W) (m : Nat) : Below B w (W.drewN m) := ⟨h.os, h.tape, h.output, h.size, h.block⟩
theorem coordF_len {xs : List Int} {v : Int} : (coordF xs v).1.length ≤ 4 := by
  unfold coordF
  split
  · rename_i h
    split
    · rw [placeR_length]; exact (cellsF_ok h).1
    · simp
  · simp

end Go.Proofs.Ytnaehnlpcjaaeaa
/- The contracts of box.Check and the document's Check, of few, of box.Same, the document's Equals and Same, of box.Get and the document's Get. -/
namespace Go.Proofs.Ytnaehnlpcjaaeaa
open Go.RowKit

/-- Check, of a shape and how many numbers there are -/
def checkF (xs : List Int) (m : Nat) : Int := if (laidF xs).2 = 0 then if (m : Int) = (laidF xs).1 then 0 else 1 else (laidF xs).2

theorem checkF_err {xs : List Int} {m : Nat} (h : (cellsF xs).2 ≠ 0) : checkF xs m = (cellsF xs).2 := by
  unfold checkF laidF; rw [if_neg h]; exact if_neg h
theorem checkF_large {xs : List Int} {m : Nat} (h : (cellsF xs).2 = 0) (h2 : 65536 < (cellsF xs).1) : checkF xs m = 2 := by
  unfold checkF laidF; rw [if_pos h, if_pos h2]; rfl
theorem checkF_fit {xs : List Int} {m : Nat} (h : (cellsF xs).2 = 0) (h2 : ¬ 65536 < (cellsF xs).1) : checkF xs m = if (m : Int) = (cellsF xs).1 then 0 else 1 := by
  unfold checkF laidF; rw [if_pos h, if_neg h2]; rfl

/-- a dense tensor's header, and what it holds -/
structure Hdr where
  A : Option Addr
  n : Nat
  c : Nat
  B : Option Addr
  m : Nat
  e : Nat
def Hdr.val (d : Hdr) : Value := .agg #[.slice d.A d.n d.c, .slice d.B d.m d.e]
def fewF (l : List Hdr) : Bool := l.all fun d => decide (d.n ≤ 20) && decide (d.m ≤ 70000)
/-- a block that holds tensors' headers one behind the other -/
def Hdrs (w : World) (g : Nat) (l : List Hdr) : Prop := ∀ (k : Nat) (d : Hdr), l[k]? = some d → w.cell? ⟨g, k * 2, none⟩ = some (.slice d.A d.n d.c) ∧ w.cell? ⟨g, k * 2 + 1, none⟩ = some (.slice d.B d.m d.e)

theorem two_boxes {w w1 : World} {a b c d : Value} {t : TypeId} (hb : Below ((w.alloc (.cells #[a, b] t)).alloc (.cells #[c, d] t)).heap.size ((w.alloc (.cells #[a, b] t)).alloc (.cells #[c, d] t)) w1) :
    w1.cell? ⟨w.heap.size, 0, none⟩ = some a ∧ w1.cell? ⟨w.heap.size, 1, none⟩ = some b ∧ w1.cell? ⟨w.heap.size + 1, 0, none⟩ = some c ∧ w1.cell? ⟨w.heap.size + 1, 1, none⟩ = some d := by
  have h0 : (w.alloc (.cells #[a, b] t)).heap[w.heap.size]? = some (.cells #[a, b] t (0, 0)) := heap_alloc_new w _
  have h1 : ((w.alloc (.cells #[a, b] t)).alloc (.cells #[c, d] t)).heap[w.heap.size]? = some (.cells #[a, b] t (0, 0)) := (Below.heap_alloc _ _ _ (by simp)).trans h0
  have h2 : ((w.alloc (.cells #[a, b] t)).alloc (.cells #[c, d] t)).heap[w.heap.size + 1]? = some (.cells #[c, d] t (0, 0)) := by
    have := heap_alloc_new (w.alloc (.cells #[a, b] t)) (.cells #[c, d] t); rwa [World.size_alloc] at this
  have k1 := (hb.block w.heap.size (by simp; omega)).trans h1
  have k2 := (hb.block (w.heap.size + 1) (by simp)).trans h2
  refine ⟨?_, ?_, ?_, ?_⟩
  · simpa using cell_of_row _ _ 0 _ t (0, 0) k1
  · simpa using cell_of_row _ _ 1 _ t (0, 0) k1
  · simpa using cell_of_row _ _ 0 _ t (0, 0) k2
  · simpa using cell_of_row _ _ 1 _ t (0, 0) k2

/-- box.Same -/
def sameF (xs : List Int) (m : Nat) (xs2 ys ys2 : List Int) : Bool := decide (checkF xs m = 0) && decide (xs = xs2) && decide (ys = ys2)

end Go.Proofs.Ytnaehnlpcjaaeaa
/- The contracts of the document's Same, of box.Get and the document's Get. -/
namespace Go.Proofs.Ytnaehnlpcjaaeaa
open Go.RowKit

/-- Get -/
def getF (xs : List Int) (m : Nat) (ys cs : List Int) : Int × Int := if checkF xs m = 0 then if (atF xs cs).2 = 0 then (ys.getD (atF xs cs).1.toNat 0, 0) else (0, (atF xs cs).2) else (0, checkF xs m)
theorem checkF_ok {xs : List Int} {m : Nat} (h : checkF xs m = 0) : (cellsF xs).2 = 0 ∧ (m : Int) = (cellsF xs).1 ∧ m ≤ 65536 := by
  unfold checkF at h
  split at h
  · rename_i h1
    split at h
    · rename_i h2
      have ha := laidF_ok h1
      have hb := laidF_nonneg (xs := xs)
      exact ⟨ha.1, by omega, by omega⟩
    · simp at h
  · rename_i h1; exact absurd h h1
theorem atF_ok {xs cs : List Int} (h : (atF xs cs).2 = 0) : (cellsF xs).2 = 0 ∧ Inn xs cs ∧ (atF xs cs).1 = numR xs cs ∧ prodI xs = (cellsF xs).1 := by
  unfold atF at h ⊢
  split at h
  · rename_i h1
    split at h
    · rename_i h2
      have hI := inn_of_insideF h2
      rw [if_pos h1, if_pos h2]
      exact ⟨h1, hI, rfl, (cellsF_ok_pos h1 hI.pos).1.symm⟩
    · simp at h
  · rename_i h1; exact absurd h h1
theorem one_box {w w1 : World} {a b : Value} {t : TypeId} (hb : Below (w.alloc (.cells #[a, b] t)).heap.size (w.alloc (.cells #[a, b] t)) w1) :
    w1.cell? ⟨w.heap.size, 0, none⟩ = some a ∧ w1.cell? ⟨w.heap.size, 1, none⟩ = some b := by
  have h0 : (w.alloc (.cells #[a, b] t)).heap[w.heap.size]? = some (.cells #[a, b] t (0, 0)) := heap_alloc_new w _
  have k1 := (hb.block w.heap.size (by simp)).trans h0
  exact ⟨by simpa using cell_of_row _ _ 0 _ t (0, 0) k1, by simpa using cell_of_row _ _ 1 _ t (0, 0) k1⟩

end Go.Proofs.Ytnaehnlpcjaaeaa
/- The contract of the document's Zero. -/
namespace Go.Proofs.Ytnaehnlpcjaaeaa
open Go.RowKit

theorem run_appendNil {P : Program} (w : World) (base : Nat) (t ty e : TypeId) (i : TypeInfo) (ht : P.underlying t = some (.slice e)) (hi : P.info? e = some i) (v : Value) (n : Nat) (xs : List Value) (hown : w.ownsRow base e 1 v n xs) (c : Nat) :
    (Builtin.append_ #[t, t] ty #[v, .slice none 0 c]).run P w = .ok v w := by
  rcases hown.2 with ⟨rfl, rfl⟩ | ⟨g, cap, cur, rfl, _, _, hnc, _⟩ <;> simp [Builtin.append_, run_underlying ht, sizeOf, typeInfo, Builtin.lenOf, Builtin.firstCells, *, storeCells]

/-- append onto a slice of the call's own, from whatever slice of integers -/
theorem run_appendInts {P : Program} (w : World) (base : Nat) (t ty e : TypeId) (i : TypeInfo) (ht : P.underlying t = some (.slice e)) (hi : P.info? e = some i) (hz : i.zero = some (.int .i64 0)) (h1 : i.size = 1) (h2 : i.bytes = 8)
    (A A2 : Option Addr) (c m c2 B : Nat) (xs ys : List Int) (ho : OwnI w base e A c xs) (hs : Ints w B A2 m ys) (hl : xs.length + m ≤ 1000000) (hb : base ≤ w.heap.size) :
    ∃ A' c' w', (Builtin.append_ #[t, t] ty #[.slice A xs.length c, .slice A2 m c2]).run P w = .ok (.slice A' (xs.length + m) c') w' ∧ OwnI w' base e A' c' (xs ++ ys) ∧ w.grownBy w' (Value.slice A xs.length c).ownBlock := by
  have hlen := hs.1
  have hfit : ∀ x ∈ xs ++ ys, -9223372036854775808 ≤ x ∧ x ≤ 9223372036854775807 := by
    intro x hx
    rcases List.mem_append.1 hx with hx | hx
    · exact ho.2 x hx
    · exact hs.2.1 x hx
  rcases Option.eq_none_or_eq_some A2 with rfl | ⟨ad, rfl⟩
  · obtain rfl : m = 0 := by
      rcases Nat.eq_zero_or_pos m with h0 | h0
      · exact h0
      · obtain ⟨b, off, e', _⟩ := hs.2.2 h0; cases e'
    obtain rfl : ys = [] := List.eq_nil_of_length_eq_zero hlen
    have hrun := run_appendNil (P := P) w base t ty e i ht hi (.slice A xs.length c) xs.length (xs.map (Value.int .i64)) ho.1 c2
    exact ⟨A, c, w, by simpa using hrun, by simpa using ho, World.grownBy.refl w _⟩
  · obtain ⟨v', w', hr, h3, h4, _⟩ := run_append_own (P := P) w base t ty e i (.int .i64 0) 1 8 ht hi hz h1 h2 rfl (by decide) (.slice A xs.length c) xs.length (xs.map (Value.int .i64)) ho.1 ad m c2 (ys.map (Value.int .i64)) (by rw [List.length_map, hlen, Nat.mul_one]) hs.cells_ (ints_one ys) (by unfold maxLen; omega) (by omega) hb
    obtain ⟨A', c', rfl⟩ := row_form h3
    refine ⟨A', c', w', hr, ⟨?_, hfit⟩, h4⟩
    rw [List.length_append, hlen, List.map_append]
    exact h3

theorem step_appendInts {P : Program} {ops : Array Oper} {o : Oper} {a : Act} {w : World} {K : Act → World → Prop} {Q : Exit → Act → World → Prop} {E : Prop}
    (hg : o.guard = none) (s x : Operand) (t : TypeId) (hop : o.op = Op.call { callee := Callee.builtin Builtin.append, args := #[s, x], argTypes := #[t, t] })
    (base : Nat) (e : TypeId) (i : TypeInfo) (ht : P.underlying t = some (.slice e)) (hi : P.info? e = some i) (hz : i.zero = some (.int .i64 0)) (h1 : i.size = 1) (h2 : i.bytes = 8)
    (A A2 : Option Addr) (c m c2 B p r : Nat) (xs ys : List Int) (hs : a.eval s = .slice A p c) (hx : a.eval x = .slice A2 m c2) (ho : OwnI w base e A c xs) (hp : xs.length = p) (hr : p + m = r) (hi2 : Ints w B A2 m ys) (hl : r ≤ 1000000) (hb : base ≤ w.heap.size)
    (hK : ∀ A' c' w', OwnI w' base e A' c' (xs ++ ys) → w.grownBy w' (Value.slice A p c).ownBlock → K (a.put o.dst (.slice A' r c')) w') :
    if Region.wanted o (yielded ops a.tmps) = true then Oper.wp P o a w K Q else E := by
  have hw : Region.wanted o (yielded ops a.tmps) = true := by simp [Region.wanted, hg]
  rw [if_pos hw]
  subst hp
  subst hr
  obtain ⟨A', c', w', hrun, ho', hb'⟩ := run_appendInts (P := P) w base t o.type e i ht hi hz h1 h2 A A2 c m c2 B xs ys ho hi2 hl hb
  unfold Oper.wp
  simp [execOp, hop, resolve, invoke, builtin, hs, hx, hrun, Result.andThen]
  exact hK _ _ _ ho' hb'

theorem below_of_none {W w1 : World} (hg : W.grownBy w1 none) : Below W.heap.size W w1 := (Below.refl _ _).grown hg (Nat.le_refl _) (fun k e => by cases e)

end Go.Proofs.Ytnaehnlpcjaaeaa
/- Plain facts on orders of a few numbers: lists of integers that have each number once; inverses, turns, ranks, cycles. No program. -/
namespace Go.Proofs.Ytnaehnlpcjaaeaa
open Go.RowKit

/-- is a list an order of at most twelve numbers -/
def permB (p : List Int) : Bool := decide (p.length ≤ 12) && (p.all fun x => decide (0 ≤ x ∧ x < p.length)) && decide p.Nodup
def ordF (p : List Int) : Int := if permB p = true then 0 else 1
def pick (l : List Int) (x : Int) : Int := l.getD x.toNat 0
def turnL (l p : List Int) : List Int := p.map (pick l)
def plainL (n : Nat) : List Int := (List.range n).map Int.ofNat
def invL (p : List Int) : List Int := (List.range p.length).map fun k : Nat => ((p.idxOf (k : Int) : Nat) : Int)
/-- how many of the numbers behind are less than the first -/
def lessC (x : Int) (l : List Int) : Nat := (l.filter fun y => decide (y < x)).length
def lessL : List Int → List Int
  | [] => []
  | x :: l => (lessC x l : Int) :: lessL l
def fact : Nat → Nat
  | 0 => 1
  | n + 1 => (n + 1) * fact n
def rankL : List Int → Nat
  | [] => 0
  | x :: l => lessC x l * fact l.length + rankL l
def invsL : List Int → Nat
  | [] => 0
  | x :: l => lessC x l + invsL l
def nthL : Nat → List Int → Nat → List Int
  | 0, _, _ => []
  | m + 1, l, k => l.getD (k / fact m) 0 :: nthL m (l.eraseIdx (k / fact m)) (k % fact m)

structure Perm_ (p : List Int) : Prop where
  len : p.length ≤ 12
  inn : ∀ x ∈ p, 0 ≤ x ∧ x < p.length
  nodup : p.Nodup
theorem permB_iff {p : List Int} : permB p = true ↔ Perm_ p := by
  unfold permB
  simp only [Bool.and_eq_true, decide_eq_true_eq, List.all_eq_true]
  exact ⟨fun ⟨⟨a, b⟩, c⟩ => ⟨a, b, c⟩, fun h => ⟨⟨h.len, h.inn⟩, h.nodup⟩⟩
theorem ordF_ok {p : List Int} : ordF p = 0 ↔ Perm_ p := by
  rw [← permB_iff]; unfold ordF; split <;> simp_all
theorem ordF_no {p : List Int} (h : ¬ Perm_ p) : ordF p = 1 := by
  unfold ordF; rw [if_neg]; rw [permB_iff]; exact h
theorem ordF_yes {p : List Int} (h : Perm_ p) : ordF p = 0 := ordF_ok.2 h

/-- the marks of what was seen -/
def seenC (l : List Int) : List Value := (List.range 12).map fun i : Nat => Value.bool (l.contains (i : Int))
theorem seenC_nil : seenC [] = List.replicate 12 (Value.bool false) := by rfl
theorem seenC_at {l : List Int} {i : Nat} (h : i < 12) : (seenC l)[i]? = some (.bool (l.contains (i : Int))) := by
  unfold seenC; simp [h]
theorem seenC_set (l : List Int) {i : Nat} (h : i < 12) : (seenC l).set i (.bool true) = seenC (l ++ [(i : Int)]) := by
  apply List.ext_getElem?
  intro j
  rw [List.getElem?_set]
  unfold seenC
  by_cases hj : j < 12
  · by_cases hij : i = j
    · subst hij; simp [hj]
    · simp [hj, hij]; omega
  · simp [hj]; omega
theorem nodup_snoc {l : List Int} {x : Int} (h : l.Nodup) (hx : x ∉ l) : (l ++ [x]).Nodup := by
  rw [List.nodup_append]; refine ⟨h, by simp, ?_⟩; intro a ha b hb; simp at hb; subst hb; exact fun e => hx (e ▸ ha)

/-! ### Lists that are filled from the front -/
theorem fill_len {R : List Int} {n k : Nat} (hR : R.length = n) (hk : k ≤ n) : (R.take k ++ List.replicate (n - k) 0).length = n := by simp; omega
theorem fill_set {R : List Int} {n k : Nat} {x : Int} (hx : R[k]? = some x) (hR : R.length = n) : (R.take k ++ List.replicate (n - k) 0).set k x = R.take (k + 1) ++ List.replicate (n - (k + 1)) 0 := by
  have hk := (List.getElem?_eq_some_iff.1 hx).1
  have e : n - k = n - (k + 1) + 1 := by omega
  have e1 : (R.take k).length = k := by simp; omega
  rw [e, List.replicate_succ, List.set_append_right _ _ (by omega), e1, Nat.sub_self, List.set_cons_zero, take_succ_of hx, List.append_assoc]
  rfl
theorem fill_at {R : List Int} {n k : Nat} (hR : R.length = n) (hk : k < n) : (R.take k ++ List.replicate (n - k) 0)[k]? = some 0 := by
  rw [List.getElem?_append_right (by rw [List.length_take]; omega), List.getElem?_replicate, if_pos (by rw [List.length_take]; omega)]
theorem fill_done {R : List Int} {n : Nat} (hR : R.length = n) : R.take n ++ List.replicate (n - n) 0 = R := by
  rw [List.take_of_length_le (by omega)]; simp

/-! ### Places -/
theorem idxOf_of {p : List Int} {k : Nat} {x : Int} (hx : p[k]? = some x) (hn : x ∉ p.take k) : p.idxOf x = k := by
  have e : p = p.take k ++ x :: p.drop (k + 1) := by rw [← drop_of hx, List.take_append_drop]
  have hk := (List.getElem?_eq_some_iff.1 hx).1
  rw [e, List.idxOf_append, if_neg hn]
  simp; omega
theorem idxOf_at {p : List Int} {x : Int} (h : x ∈ p) : p[p.idxOf x]? = some x := by
  have hlt := List.idxOf_lt_length_iff.2 h
  rw [List.getElem?_eq_getElem hlt, List.getElem_idxOf]
theorem nodup_idx {p : List Int} (h : p.Nodup) {k : Nat} {x : Int} (hx : p[k]? = some x) : p.idxOf x = k := by
  refine idxOf_of hx fun hm => ?_
  have h3 : (p.take (k + 1)).Nodup := h.sublist (List.take_sublist _ _)
  rw [take_succ_of hx, List.nodup_append] at h3
  exact h3.2.2 x hm x (by simp) rfl

theorem plainL_length (n : Nat) : (plainL n).length = n := by simp [plainL]
theorem plainL_at {n k : Nat} (h : k < n) : (plainL n)[k]? = some (k : Int) := by simp [plainL, h]
theorem turnL_length (l p : List Int) : (turnL l p).length = p.length := by simp [turnL]
theorem invL_length (p : List Int) : (invL p).length = p.length := by simp [invL]
theorem invL_at {p : List Int} {k : Nat} (h : k < p.length) : (invL p)[k]? = some ((p.idxOf (k : Int) : Nat) : Int) := by simp [invL, h]
theorem lessL_length (p : List Int) : (lessL p).length = p.length := by induction p with | nil => rfl | cons x l ih => simp [lessL, ih]
theorem lessL_at {p : List Int} {k : Nat} {x : Int} (h : p[k]? = some x) : (lessL p)[k]? = some (lessC x (p.drop (k + 1)) : Int) := by
  induction p generalizing k with
  | nil => simp at h
  | cons y l ih => cases k with
    | zero => simp at h; subst h; simp [lessL]
    | succ k => simpa [lessL] using ih (by simpa using h)
theorem lessC_le (x : Int) (l : List Int) : lessC x l ≤ l.length := List.length_filter_le _ _
theorem lessC_snoc (x y : Int) (l : List Int) : lessC x (l ++ [y]) = lessC x l + if y < x then 1 else 0 := by
  unfold lessC; rw [List.filter_append, List.length_append]
  by_cases h : y < x <;> simp [h]
theorem fact_pos (n : Nat) : 0 < fact n := by induction n with | zero => decide | succ n ih => exact Nat.mul_pos (by omega) ih
theorem fact_mono {n m : Nat} (h : n ≤ m) : fact n ≤ fact m := by
  induction h with
  | refl => exact Nat.le_refl _
  | step h ih => rename_i m; refine Nat.le_trans ih ?_; show fact m ≤ (m + 1) * fact m; exact Nat.le_mul_of_pos_left _ (by omega)
theorem fact_12 : fact 12 = 479001600 := by decide
theorem fact_le {n : Nat} (h : n ≤ 12) : fact n ≤ 479001600 := by rw [← fact_12]; exact fact_mono h
/-- an order has each number once -/
theorem Perm_.mem {p : List Int} (h : Perm_ p) {k : Nat} (hk : k < p.length) : (k : Int) ∈ p := by
  -- as many different numbers below the length as there are
  have key : ∀ (n : Nat) (l : List Int), l.Nodup → (∀ x ∈ l, 0 ≤ x ∧ x < n) → l.length ≤ n ∧ (l.length = n → ∀ k : Nat, k < n → (k : Int) ∈ l) := by
    intro n
    induction n with
    | zero => intro l _ h2; cases l with | nil => simp | cons x l => have := h2 x (by simp); omega
    | succ n ih =>
      intro l h1 h2
      have hn : (l.erase (n : Int)).Nodup := h1.erase _
      have hb : ∀ x ∈ l.erase (n : Int), 0 ≤ x ∧ x < n := by
        intro x hx
        have hx2 := (List.Nodup.mem_erase_iff h1).1 hx
        have := h2 x hx2.2
        have hne := hx2.1
        omega
      obtain ⟨i1, i2⟩ := ih _ hn hb
      by_cases hm : (n : Int) ∈ l
      · rw [List.length_erase_of_mem hm] at i1 i2
        have hpos : 0 < l.length := List.length_pos_of_mem hm
        refine ⟨by omega, fun e k hk => ?_⟩
        by_cases hkn : k = n
        · subst hkn; exact hm
        · exact List.mem_of_mem_erase (i2 (by omega) k (by omega))
      · rw [List.erase_of_not_mem hm] at i1 i2
        exact ⟨by omega, fun e => by omega⟩
  exact (key p.length p h.nodup h.inn).2 rfl k hk
theorem turnL_at {l p : List Int} {k : Nat} {x y : Int} (h : p[k]? = some x) (hy : l[x.toNat]? = some y) : (turnL l p)[k]? = some y := by
  simp [turnL, pick, h, hy]

theorem rankL_lt (p : List Int) : rankL p < fact p.length := by
  induction p with
  | nil => decide
  | cons x l ih =>
    simp only [rankL, List.length_cons, fact]
    have h1 := lessC_le x l
    have h2 : lessC x l * fact l.length ≤ l.length * fact l.length := Nat.mul_le_mul_right _ h1
    rw [Nat.add_mul, Nat.one_mul]
    omega
theorem rankL_drop {p : List Int} {k : Nat} {x : Int} (h : p[k]? = some x) : rankL (p.drop k) = lessC x (p.drop (k + 1)) * fact (p.length - (k + 1)) + rankL (p.drop (k + 1)) := by
  rw [drop_of h]; simp [rankL]
theorem invsL_drop {p : List Int} {k : Nat} {x : Int} (h : p[k]? = some x) : invsL (p.drop k) = lessC x (p.drop (k + 1)) + invsL (p.drop (k + 1)) := by
  rw [drop_of h]; simp [invsL]
theorem invsL_le (p : List Int) : invsL p ≤ p.length * p.length := by
  induction p with
  | nil => decide
  | cons x l ih =>
    simp only [invsL, List.length_cons]
    have h1 := lessC_le x l
    rw [Nat.add_mul, Nat.mul_add]
    omega
def rankF (p : List Int) : Int × Int := if ordF p = 0 then (rankL p, 0) else (0, 1)
def oddB (p : List Int) : Bool := invsL p % 2 == 1
def oddF (p : List Int) : Bool × Int := if ordF p = 0 then (oddB p, 0) else (false, 1)
end Go.Proofs.Ytnaehnlpcjaaeaa
/- The contract of perm.Check. -/
namespace Go.Proofs.Ytnaehnlpcjaaeaa
open Go.RowKit

theorem blk_cell {w : World} {g i : Nat} {cs : List Value} {t : TypeId} {v : Value} (h : w.heap[g]? = some (.cells cs.toArray t (0, 0))) (hv : cs[i]? = some v) : w.cell? ⟨g, i, none⟩ = some v ∧ w.frozen? ⟨g, i, none⟩ = false :=
  ⟨(cell_of_row _ _ _ _ _ _ h).trans (by simpa using hv), by simp [World.frozen?, h]⟩
theorem blk_set {w : World} {g i : Nat} {cs : List Value} {t : TypeId} (h : w.heap[g]? = some (.cells cs.toArray t (0, 0))) (v : Value) : (w.setCell ⟨g, i, none⟩ v).heap[g]? = some (.cells (cs.set i v).toArray t (0, 0)) := by
  rw [heap_setCell_same _ _ _ _ _ _ h]; simp

end Go.Proofs.Ytnaehnlpcjaaeaa
/- Slices of slices of integers: how they read, those of the call's own, and one more behind them. -/
namespace Go.Proofs.Ytnaehnlpcjaaeaa
open Go.RowKit

set_option maxRecDepth 100000 in
theorem infoRow : (Try.prog.info? 25).map (fun i => (i.zero, i.size, i.bytes)) = some (some (.slice none 0 0), 1, 24) := by kernel_rfl

/-- the header (A, n) leads to slices that read as the lists LL -/
def IntsLL (w : World) (B : Nat) (A : Option Addr) (n : Nat) (LL : List (List Int)) : Prop :=
  LL.length = n ∧ (0 < n → ∃ b off, A = some ⟨b, off, none⟩ ∧ b < B ∧ ∀ (k : Nat) (L : List Int), LL[k]? = some L → ∃ a c, w.cell? ⟨b, off + k, none⟩ = some (.slice a L.length c) ∧ L.length ≤ c ∧ Ints w B a L.length L)
theorem IntsLL.at_ {w : World} {B n k : Nat} {A : Option Addr} {LL : List (List Int)} (h : IntsLL w B A n LL) (hk : k < n) :
    ∃ b off L a c, A = some ⟨b, off, none⟩ ∧ b < B ∧ Hid (LL[k]? = some L) ∧ w.cell? ⟨b, off + k, none⟩ = some (.slice a L.length c) ∧ L.length ≤ c ∧ Ints w B a L.length L := by
  obtain ⟨hl, hc⟩ := h
  obtain ⟨b, off, rfl, hB, hx⟩ := hc (by omega)
  have hk' : k < LL.length := by omega
  obtain ⟨a, c, h1, h2, h3⟩ := hx k _ (List.getElem?_eq_getElem hk')
  exact ⟨b, off, LL[k], a, c, rfl, hB, List.getElem?_eq_getElem hk', h1, h2, h3⟩
theorem IntsLL.below {w w' : World} {B n : Nat} {A : Option Addr} {LL : List (List Int)} (h : IntsLL w B A n LL) (hb : Below B w w') : IntsLL w' B A n LL := by
  refine ⟨h.1, fun h0 => ?_⟩
  obtain ⟨b, off, rfl, hB, hx⟩ := h.2 h0
  refine ⟨b, off, rfl, hB, fun k L hL => ?_⟩
  obtain ⟨a, c, h1, h2, h3⟩ := hx k L hL
  exact ⟨a, c, (hb.cell (p := ⟨b, off + k, none⟩) hB).trans h1, h2, h3.below hb⟩
theorem IntsLL.more {w : World} {B B' n : Nat} {A : Option Addr} {LL : List (List Int)} (h : IntsLL w B A n LL) (hb : B ≤ B') : IntsLL w B' A n LL := by
  refine ⟨h.1, fun h0 => ?_⟩
  obtain ⟨b, off, rfl, hB, hx⟩ := h.2 h0
  refine ⟨b, off, rfl, by omega, fun k L hL => ?_⟩
  obtain ⟨a, c, h1, h2, h3⟩ := hx k L hL
  exact ⟨a, c, h1, h2, h3.more hb⟩
theorem IntsLL.nil_ (w : World) (B : Nat) (A : Option Addr) : IntsLL w B A 0 [] := ⟨rfl, fun h => absurd h (by omega)⟩

/-- the heads of slices of the call's own -/
def HeadsOK (w : World) (base : Nat) : List Value → List (List Int) → Prop
  | [], [] => True
  | v :: vs, L :: LL => (∃ a c, v = .slice a L.length c ∧ OwnI w base 3 a c L) ∧ HeadsOK w base vs LL
  | _, _ => False
theorem HeadsOK.len {w : World} {base : Nat} {vs : List Value} {LL : List (List Int)} (h : HeadsOK w base vs LL) : vs.length = LL.length := by
  induction vs generalizing LL with
  | nil => cases LL with | nil => rfl | cons L LL => exact h.elim
  | cons v vs ih => cases LL with | nil => exact h.elim | cons L LL => simp [ih h.2]
theorem HeadsOK.at_ {w : World} {base k : Nat} {vs : List Value} {LL : List (List Int)} {L : List Int} (h : HeadsOK w base vs LL) (hk : LL[k]? = some L) : ∃ a c, vs[k]? = some (.slice a L.length c) ∧ OwnI w base 3 a c L := by
  induction vs generalizing LL k with
  | nil => cases LL with | nil => simp at hk | cons L LL => exact h.elim
  | cons v vs ih => cases LL with
    | nil => exact h.elim
    | cons L' LL => cases k with
      | zero => simp at hk; subst hk; obtain ⟨a, c, rfl, ho⟩ := h.1; exact ⟨a, c, rfl, ho⟩
      | succ k => exact ih h.2 (by simpa using hk)
theorem HeadsOK.map {w w' : World} {base base' : Nat} {vs : List Value} {LL : List (List Int)} (h : HeadsOK w base vs LL) (hm : ∀ a c L, OwnI w base 3 a c L → OwnI w' base' 3 a c L) : HeadsOK w' base' vs LL := by
  induction vs generalizing LL with
  | nil => cases LL with | nil => trivial | cons L LL => exact h.elim
  | cons v vs ih => cases LL with
    | nil => exact h.elim
    | cons L LL => obtain ⟨⟨a, c, e, ho⟩, h2⟩ := h; exact ⟨⟨a, c, e, hm _ _ _ ho⟩, ih h2⟩
theorem HeadsOK.snoc {w : World} {base c : Nat} {a : Option Addr} {vs : List Value} {LL : List (List Int)} {L : List Int} (h : HeadsOK w base vs LL) (ho : OwnI w base 3 a c L) : HeadsOK w base (vs ++ [.slice a L.length c]) (LL ++ [L]) := by
  induction vs generalizing LL with
  | nil => cases LL with | nil => exact ⟨⟨a, c, rfl, ho⟩, trivial⟩ | cons L LL => exact h.elim
  | cons v vs ih => cases LL with
    | nil => exact h.elim
    | cons L LL => exact ⟨h.1, ih h.2⟩

/-- a slice of the call's own, of slices of the call's own -/
def OwnLL (w : World) (base : Nat) (A : Option Addr) (c : Nat) (LL : List (List Int)) : Prop :=
  ∃ vs, w.ownsRow base 25 1 (.slice A LL.length c) LL.length vs ∧ HeadsOK w base vs LL
theorem OwnLL.nil_ (w : World) (base : Nat) : OwnLL w base none 0 [] := ⟨[], w.ownsRow_nil base _ 1, trivial⟩
theorem OwnI.len_cap {w : World} {base : Nat} {e : TypeId} {A : Option Addr} {c : Nat} {xs : List Int} (h : OwnI w base e A c xs) : xs.length ≤ c := by
  rcases h.1.2 with ⟨hv, h0⟩ | ⟨g', cap, cur, hv, hb, hh, hc, _⟩
  · omega
  · injection hv with h1 h2 h3; omega
theorem OwnLL.ints {w : World} {base : Nat} {A : Option Addr} {c : Nat} {LL : List (List Int)} (h : OwnLL w base A c LL) : IntsLL w w.heap.size A LL.length LL := by
  obtain ⟨vs, hr, hh⟩ := h
  refine ⟨rfl, fun h0 => ?_⟩
  rcases hr.2 with ⟨_, h1⟩ | ⟨g, cap, cur, hv, _, hg, _⟩
  · omega
  have hA : A = some ⟨g, 0, none⟩ := by injection hv
  subst hA
  have hlt : g < w.heap.size := (hr.lt g rfl).2
  refine ⟨g, 0, rfl, hlt, fun k L hL => ?_⟩
  obtain ⟨a, c2, h1, h2⟩ := hh.at_ hL
  have hk := (List.getElem?_eq_some_iff.1 h1).1
  refine ⟨a, c2, ?_, h2.len_cap, h2.ints⟩
  rw [Nat.zero_add]
  exact (hr.cellAt k (by rw [← hh.len]; omega)).trans h1
theorem OwnLL.below {w w' : World} {base B : Nat} {A : Option Addr} {c : Nat} {LL : List (List Int)} (h : OwnLL w base A c LL) (hb : Below B w w') (hB : w.heap.size ≤ B) : OwnLL w' base A c LL := by
  obtain ⟨vs, hr, hh⟩ := h
  refine ⟨vs, ?_, hh.map fun a c L ho => ho.below hb hB⟩
  exact hr.kept ⟨hb.os, hb.tape, hb.output, hb.size, fun i hi _ => hb.block i (by omega)⟩ (row := none) (by cases hh : (Value.slice A LL.length c).ownBlock with | none => exact .inl rfl | some k => exact .inr (by simp))
theorem OwnLL.mono {w : World} {base base' : Nat} {A : Option Addr} {c : Nat} {LL : List (List Int)} (h : OwnLL w base A c LL) (hb : base' ≤ base) : OwnLL w base' A c LL := by
  obtain ⟨vs, hr, hh⟩ := h
  refine ⟨vs, ⟨hr.1, ?_⟩, hh.map fun a c L ho => ho.mono hb⟩
  rcases hr.2 with hh | ⟨g, cap, cur, h1, h2, h3⟩
  · exact .inl hh
  · exact .inr ⟨g, cap, cur, h1, by omega, h3⟩
theorem OwnLL.alloc {w : World} {base : Nat} {A : Option Addr} {c : Nat} {LL : List (List Int)} (h : OwnLL w base A c LL) (o : Obj) : OwnLL (w.alloc o) base A c LL := by
  obtain ⟨vs, hr, hh⟩ := h
  exact ⟨vs, hr.alloc o, hh.map fun a c L ho => ho.alloc o⟩

/-- one more -/
theorem wpList_appendRow {ops : Array Oper} {rest : List Oper} {o : Oper} {a : Act} {w : World} {Q : Exit → Act → World → Prop}
    (hg : o.guard = none) (s x : Operand) (hop : o.op = Op.call { callee := Callee.builtin Builtin.append, args := #[s, x], argTypes := #[22, 22] })
    (base : Nat) (i : TypeInfo) (hi : Try.prog.info? 25 = some i) (hz : i.zero = some (.slice none 0 0)) (h1 : i.size = 1) (h2 : i.bytes = 24)
    (A : Option Addr) (c p r c2 c3 : Nat) (a2 : Option Addr) (LL : List (List Int)) (L : List Int) (hs : a.eval s = .slice A p c) (hx : a.eval x = .slice (some ⟨w.heap.size, 0, none⟩) 1 1)
    (ho : OwnLL w base A c LL) (hL : OwnI w base 3 a2 c2 L) (hc3 : L.length = c3) (hp : LL.length = p) (hr : p + 1 = r) (hl : r ≤ 1000000) (hb : base ≤ w.heap.size)
    (hK : ∀ A' c' w', OwnLL w' base A' c' (LL ++ [L]) → Below base w w' → wpList Try.prog ops Q rest (a.put o.dst (.slice A' r c')) w') :
    wpList Try.prog ops Q (o :: rest) a (w.alloc (.cells #[.slice a2 c3 c2] 25)) := by
  obtain ⟨vs, hrow, hh⟩ := ho
  subst hp
  subst hr
  subst hc3
  have hbk : ∀ k, (Value.slice A LL.length c).ownBlock = some k → ∃ cs, w.heap[k]? = some (.cells cs 25 (0, 0)) := by
    intro k hk
    rcases hrow.2 with ⟨hv, _⟩ | ⟨g, cap, cur, hv, _, hg, _⟩
    · rw [hv] at hk; cases hk
    · rw [hv] at hk; injection hk with hk; subst hk; exact ⟨cur, hg⟩
  refine wpList_append_own _ hg s x 22 hop base 25 i (.slice none 0 0) 1 24 Try.underlying22 hi hz h1 h2 rfl (by decide) _ LL.length vs hs (hrow.alloc _) ⟨w.heap.size, 0, none⟩ 1 1 [.slice a2 L.length c2] hx rfl ?_ (by simp [Value.oneCell']) (by unfold maxLen; omega) (by omega) (by simp; omega) ?_
  · intro j u hj
    cases j with
    | zero => simp at hj; subst hj; simp [Addr.add]
    | succ j => simp at hj
  · intro v' w' hown hgr _
    obtain ⟨A', c', rfl⟩ := row_form hown
    have hgr2 : w.grownBy w' (Value.slice A LL.length c).ownBlock := (World.grownBy_alloc w _ _).trans hgr
    refine hK A' c' w' ⟨vs ++ [.slice a2 L.length c2], by simpa using hown, ?_⟩ ?_
    · refine (hh.snoc hL).map fun a c L ho => ⟨ho.1.kept hgr2 ?_, ho.2⟩
      cases hob : (Value.slice a L.length c).ownBlock with
      | none => exact .inl rfl
      | some k =>
        right
        intro e
        obtain ⟨cs, hcs⟩ := hbk k e.symm
        rcases ho.1.2 with ⟨hv, _⟩ | ⟨g, cap, cur, hv, _, hg2, _⟩
        · rw [hv] at hob; cases hob
        · rw [hv] at hob; injection hob with hob; subst hob
          have := hcs.symm.trans hg2
          injection this with this; injection this with _ this _
          exact absurd this (by decide)
    · refine (Below.refl _ w).grown hgr2 hb (fun k hk => (hrow.lt k hk).1)
end Go.Proofs.Ytnaehnlpcjaaeaa
/- How the methods of merge's heaps are found. -/
namespace Go.Proofs.Ytnaehnlpcjaaeaa
open Go.RowKit

/-- how a method is found: its path from the dynamic type, the function, whether it takes a pointer -/
def MethF (t : TypeId) (name : String) (p : List (TypeId × Nat × Bool)) (f : FuncId) (ptr : Bool) : Prop := (Try.prog.info? t).map (fun i => (i.methods.find? (fun m => m.name == name)).map fun m => (m.path.toList.map (fun s => (s.struct, s.index, s.deref)), m.func)) = some (some (p, some (f, ptr)))
set_option maxRecDepth 100000 in
theorem hm_len : MethF 44 "Len" [(50, 0, true)] 26 false := by unfold MethF; kernel_rfl
set_option maxRecDepth 100000 in
theorem hm_swap : MethF 44 "Swap" [(50, 0, true)] 76 false := by unfold MethF; kernel_rfl
set_option maxRecDepth 100000 in
theorem hm_push : MethF 44 "Push" [(50, 0, true)] 75 true := by unfold MethF; kernel_rfl
set_option maxRecDepth 100000 in
theorem hm_pop : MethF 44 "Pop" [(50, 0, true)] 74 true := by unfold MethF; kernel_rfl
set_option maxRecDepth 100000 in
theorem hm_less : MethF 44 "Less" [] 73 true := by unfold MethF; kernel_rfl
set_option maxRecDepth 100000 in
theorem qm_len : MethF 73 "Len" [(62, 0, true)] 26 false := by unfold MethF; kernel_rfl
set_option maxRecDepth 100000 in
theorem qm_less : MethF 73 "Less" [(62, 0, true)] 77 false := by unfold MethF; kernel_rfl
theorem methF_parts {t : TypeId} {name : String} {p : List (TypeId × Nat × Bool)} {f : FuncId} {ptr : Bool} (h : MethF t name p f ptr) : ∃ i m, Try.prog.info? t = some i ∧ i.methods.find? (fun m => m.name == name) = some m ∧ (m.path.toList.map fun s => (s.struct, s.index, s.deref)) = p ∧ m.func = some (f, ptr) := by
  unfold MethF at h
  rw [Option.map_eq_some_iff] at h
  obtain ⟨i, h1, h2⟩ := h
  rw [Option.map_eq_some_iff] at h2
  obtain ⟨m, h3, h4⟩ := h2
  injection h4 with h4 h5
  exact ⟨i, m, h1, h3, h4, h5⟩
theorem run_meth_val {t st : TypeId} {name : String} {f : FuncId} {fs : Array Field} {fd : Field} {e : TypeId} (hm : MethF t name [(st, 0, true)] f false) (hs : Try.prog.underlying st = some (.struct fs)) (hf : fs[0]? = some fd) (ho : fd.offset = 0) (ht : Try.prog.underlying fd.type = some (.slice e)) (_ : ∃ el, Try.prog.underlying t = some (.pointer el)) (w : World) (hz : (sizeOf fd.type).run Try.prog w = .ok 1 w) (g n c : Nat) (A : Option Addr) (h : w.cell? ⟨g, 0, none⟩ = some (.slice A n c)) (k : Nat) :
    Sem.run Try.prog (method (k + 1) t (.pointer (some ⟨g, 0, none⟩)) name) w = .ok (f, .slice A n c) w := by
  obtain ⟨i, m, h1, h2, h3, h4⟩ := methF_parts hm
  obtain ⟨s, hs1, hs2⟩ : ∃ s, m.path.toList = [s] ∧ (s.struct, s.index, s.deref) = (st, 0, true) := by
    rw [List.map_eq_cons_iff] at h3
    obtain ⟨s, l, h5, h6, h7⟩ := h3
    rw [List.map_eq_nil_iff] at h7
    subst h7
    exact ⟨s, h5, h6⟩
  injection hs2 with e1 e2
  injection e2 with e2 e3
  unfold method
  simp [go_sem, typeInfo, h1, h2, hs1, h4, follow, e1, e2, e3, Place.get, asAddr, run_underlying hs, hf, fieldPlace, ho, receiverAt, run_underlying ht, loadVar, hz, isAgg, h]
theorem run_meth_ptr {t st : TypeId} {name : String} {f : FuncId} {fs : Array Field} {fd : Field} {e : TypeId} (hm : MethF t name [(st, 0, true)] f true) (hs : Try.prog.underlying st = some (.struct fs)) (hf : fs[0]? = some fd) (ho : fd.offset = 0) (ht : Try.prog.underlying fd.type = some (.slice e)) (w : World) (hz : (sizeOf fd.type).run Try.prog w = .ok 1 w) (g : Nat) (k : Nat) :
    Sem.run Try.prog (method (k + 1) t (.pointer (some ⟨g, 0, none⟩)) name) w = .ok (f, .pointer (some ⟨g, 0, none⟩)) w := by
  obtain ⟨i, m, h1, h2, h3, h4⟩ := methF_parts hm
  obtain ⟨s, hs1, hs2⟩ : ∃ s, m.path.toList = [s] ∧ (s.struct, s.index, s.deref) = (st, 0, true) := by
    rw [List.map_eq_cons_iff] at h3
    obtain ⟨s, l, h5, h6, h7⟩ := h3
    rw [List.map_eq_nil_iff] at h7
    subst h7
    exact ⟨s, h5, h6⟩
  injection hs2 with e1 e2
  injection e2 with e2 e3
  unfold method
  simp [go_sem, typeInfo, h1, h2, hs1, h4, follow, e1, e2, e3, Place.get, asAddr, run_underlying hs, hf, fieldPlace, ho, receiverAt, run_underlying ht, hz]
set_option maxRecDepth 100000 in
theorem infoNums : (Try.prog.info? 48).map (fun i => (i.zero, i.size, i.bytes)) = some (some (.slice none 0 0), 1, 24) := by kernel_rfl
theorem size_nums (w : World) : (sizeOf 48).run Try.prog w = .ok 1 w := by
  obtain ⟨i0, hi0, hz0, hz1, hz2⟩ := info_parts infoNums
  simp [sizeOf, typeInfo, hi0, hz1]
/-- a heap's methods are found: of either kind (T: its pointer's type, S: its own) -/
structure HeapT (T S : TypeId) : Prop where
  len : MethF T "Len" [(S, 0, true)] 26 false
  swap : MethF T "Swap" [(S, 0, true)] 76 false
  push : MethF T "Push" [(S, 0, true)] 75 true
  pop : MethF T "Pop" [(S, 0, true)] 74 true
  str : ∃ fs fd, Try.prog.underlying S = some (.struct fs) ∧ fs[0]? = some fd ∧ fd.offset = 0 ∧ fd.type = 48
  ptr : ∃ el, Try.prog.underlying T = some (.pointer el)
set_option maxRecDepth 100000 in
theorem heads_t : HeapT 44 50 := by
  refine ⟨?_, ?_, ?_, ?_, ⟨_, _, Try.underlying50, rfl, rfl, rfl⟩, ⟨_, Try.underlying44⟩⟩
  all_goals (unfold MethF; kernel_rfl)
set_option maxRecDepth 100000 in
theorem queue_t : HeapT 73 62 := by
  refine ⟨?_, ?_, ?_, ?_, ⟨_, _, Try.underlying62, rfl, rfl, rfl⟩, ⟨_, Try.underlying73⟩⟩
  all_goals (unfold MethF; kernel_rfl)
section
variable {T S : TypeId}
theorem HeapT.runLen (h : HeapT T S) (w : World) (g n c : Nat) (A : Option Addr) (hc : w.cell? ⟨g, 0, none⟩ = some (.slice A n c)) (k : Nat) : Sem.run Try.prog (method (k + 1) T (.pointer (some ⟨g, 0, none⟩)) "Len") w = .ok (26, .slice A n c) w := by
  obtain ⟨fs, fd, h1, h2, h3, h4⟩ := h.str
  exact run_meth_val h.len h1 h2 h3 (by rw [h4]; exact Try.underlying48) h.ptr w (by rw [h4]; exact size_nums w) g n c A hc k
theorem HeapT.runSwap (h : HeapT T S) (w : World) (g n c : Nat) (A : Option Addr) (hc : w.cell? ⟨g, 0, none⟩ = some (.slice A n c)) (k : Nat) : Sem.run Try.prog (method (k + 1) T (.pointer (some ⟨g, 0, none⟩)) "Swap") w = .ok (76, .slice A n c) w := by
  obtain ⟨fs, fd, h1, h2, h3, h4⟩ := h.str
  exact run_meth_val h.swap h1 h2 h3 (by rw [h4]; exact Try.underlying48) h.ptr w (by rw [h4]; exact size_nums w) g n c A hc k
theorem HeapT.runPush (h : HeapT T S) (w : World) (g : Nat) (k : Nat) : Sem.run Try.prog (method (k + 1) T (.pointer (some ⟨g, 0, none⟩)) "Push") w = .ok (75, .pointer (some ⟨g, 0, none⟩)) w := by
  obtain ⟨fs, fd, h1, h2, h3, h4⟩ := h.str
  exact run_meth_ptr h.push h1 h2 h3 (by rw [h4]; exact Try.underlying48) w (by rw [h4]; exact size_nums w) g k
theorem HeapT.runPop (h : HeapT T S) (w : World) (g : Nat) (k : Nat) : Sem.run Try.prog (method (k + 1) T (.pointer (some ⟨g, 0, none⟩)) "Pop") w = .ok (74, .pointer (some ⟨g, 0, none⟩)) w := by
  obtain ⟨fs, fd, h1, h2, h3, h4⟩ := h.str
  exact run_meth_ptr h.pop h1 h2 h3 (by rw [h4]; exact Try.underlying48) w (by rw [h4]; exact size_nums w) g k
end
theorem run_meth_self {t el : TypeId} {name : String} {f : FuncId} (hm : MethF t name [] f true) (hu : Try.prog.underlying t = some (.pointer el)) (w : World) (v : Value) (k : Nat) : Sem.run Try.prog (method (k + 1) t v name) w = .ok (f, v) w := by
  obtain ⟨i, m, h1, h2, h3, h4⟩ := methF_parts hm
  rw [List.map_eq_nil_iff] at h3
  unfold method
  simp [go_sem, typeInfo, h1, h2, h3, h4, follow, Place.get, receiverAt, run_underlying hu]
end Go.Proofs.Ytnaehnlpcjaaeaa
/- purflelaw01.BoxOne returns true at every input, and nothing that lay there has turned: the place of a number has that number; the next number's place is the next one. -/
namespace Go.Proofs.Ytnaehnlpcjaaeaa
open Go.RowKit

/-- the next place, the last mode first; whether it went around -/
def inc : List Int → List Int → List Int × Bool
  | s :: l, c :: d => if (inc l d).2 = true then (if c + 1 < s then ((c + 1) :: (inc l d).1, false) else (0 :: (inc l d).1, true)) else (c :: (inc l d).1, false)
  | _, _ => ([], true)
theorem inc_spec {xs cs : List Int} (h : Inn xs cs) : Inn xs (inc xs cs).1 ∧ ((inc xs cs).2 = false → numR xs (inc xs cs).1 = numR xs cs + 1) ∧ ((inc xs cs).2 = true → numR xs (inc xs cs).1 = 0 ∧ numR xs cs = prodI xs - 1) := by
  induction xs generalizing cs with
  | nil => cases cs with
    | nil => simp [inc, Inn, numR, prodI]
    | cons _ _ => exact h.elim
  | cons s l ih => cases cs with
    | nil => exact h.elim
    | cons c d =>
      obtain ⟨i1, i2, i3⟩ := ih h.2.2
      have h0 := h.1
      have h1 := h.2.1
      by_cases hc : (inc l d).2 = true
      · obtain ⟨j1, j2⟩ := i3 hc
        by_cases hs : c + 1 < s
        · simp only [inc, hc, hs, if_true]
          refine ⟨⟨by omega, hs, i1⟩, fun _ => ?_, fun hh => (by cases hh)⟩
          simp only [numR]
          rw [j1, j2, Int.add_mul]
          omega
        · simp only [inc, hc, hs, if_true, if_false]
          refine ⟨⟨by omega, by omega, i1⟩, fun hh => (by cases hh), fun _ => ?_⟩
          simp only [numR, prodI]
          rw [j1, j2]
          obtain rfl : c = s - 1 := by omega
          rw [Int.sub_mul]
          omega
      · simp only [inc, hc, if_false, Bool.false_eq_true]
        refine ⟨⟨h0, h1, i1⟩, fun _ => ?_, fun hh => (by cases hh)⟩
        simp only [numR]
        rw [i2 (by simpa using hc)]
        omega
theorem placeR_numR {xs cs : List Int} (h : Inn xs cs) : placeR xs (numR xs cs) = cs := by
  suffices hh : ∀ q : Int, placeR xs (q * prodI xs + numR xs cs) = cs by simpa using hh 0
  induction xs generalizing cs with
  | nil => cases cs with
    | nil => simp [placeR]
    | cons _ _ => exact h.elim
  | cons s l ih => cases cs with
    | nil => exact h.elim
    | cons c d =>
      intro q
      have hb := h.2.2.bound
      have hp : 1 ≤ prodI l := by omega
      have h0 := h.1
      have h1 := h.2.1
      have e : q * (s * prodI l) + (c * prodI l + numR l d) = (q * s + c) * prodI l + numR l d := by rw [Int.add_mul, Int.mul_assoc]; omega
      simp only [placeR, numR, prodI]
      rw [e, ih h.2.2 (q * s + c)]
      congr 1
      rw [Int.add_comm, Int.add_mul_ediv_right _ _ (by omega), Int.ediv_eq_zero_of_lt hb.1 hb.2, Int.zero_add, Int.add_comm, Int.add_mul_emod_self_right]
      exact Int.emod_eq_of_lt h0 h1
theorem inc_drop {xs cs : List Int} {k : Nat} {x y : Int} (hx : xs[k]? = some x) (hy : cs[k]? = some y) (hc : (inc (xs.drop (k + 1)) (cs.drop (k + 1))).2 = true) :
    inc (xs.drop k) (cs.drop k) = if y + 1 < x then ((y + 1) :: (inc (xs.drop (k + 1)) (cs.drop (k + 1))).1, false) else (0 :: (inc (xs.drop (k + 1)) (cs.drop (k + 1))).1, true) := by
  rw [drop_of hx, drop_of hy, inc, if_pos hc]
theorem inc_out {xs cs e : List Int} (hl : xs.length = cs.length) (k : Nat) (hk : k ≤ xs.length) (h : inc (xs.drop k) (cs.drop k) = (e, false)) : inc xs cs = (cs.take k ++ e, false) := by
  induction k generalizing xs cs with
  | zero => simpa using h
  | succ k ih => cases xs with
    | nil => simp at hk
    | cons s l => cases cs with
      | nil => simp at hl
      | cons c d =>
        have := ih (xs := l) (cs := d) (by simpa using hl) (by simpa using hk) (by simpa using h)
        rw [inc, this]
        simp
/-- the list when the last k places have gone around -/
def gone (cs : List Int) (k : Nat) : List Int := cs.take (cs.length - k) ++ List.replicate k 0
theorem gone_length {cs : List Int} {k : Nat} (hk : k ≤ cs.length) : (gone cs k).length = cs.length := by simp [gone]; omega
theorem gone_at {cs : List Int} {k i : Nat} (hi : i < cs.length - k) : (gone cs k)[i]? = cs[i]? := by
  unfold gone
  rw [List.getElem?_append_left (by rw [List.length_take]; omega), List.getElem?_take, if_pos hi]
theorem gone_set {cs : List Int} {k : Nat} (hk : k < cs.length) (v : Int) : (gone cs k).set (cs.length - 1 - k) v = cs.take (cs.length - 1 - k) ++ v :: List.replicate k 0 := by
  unfold gone
  have e : cs.length - k = cs.length - 1 - k + 1 := by omega
  have hx : cs[cs.length - 1 - k]? = some (cs[cs.length - 1 - k]'(by omega)) := List.getElem?_eq_getElem (by omega)
  rw [e, take_succ_of hx, List.append_assoc, List.set_append_right _ _ (by rw [List.length_take]; omega)]
  congr 1
  rw [List.length_take, Nat.min_eq_left (by omega), Nat.sub_self]
  rfl
theorem gone_succ {cs : List Int} {k : Nat} (hk : k < cs.length) : (gone cs k).set (cs.length - 1 - k) 0 = gone cs (k + 1) := by
  rw [gone_set hk]
  unfold gone
  have e : cs.length - (k + 1) = cs.length - 1 - k := by omega
  rw [e, List.replicate_succ]

theorem insideF_of_inn {xs cs : List Int} (h : Inn xs cs) : insideF xs cs = true := by
  induction xs generalizing cs with
  | nil => cases cs with
    | nil => rfl
    | cons _ _ => exact h.elim
  | cons s l ih => cases cs with
    | nil => exact h.elim
    | cons c d =>
      have := ih h.2.2
      have h0 := h.1
      have h1 := h.2.1
      simp [insideF, badAt] at this ⊢
      exact ⟨this.1, ⟨by omega, by omega⟩, this.2⟩
theorem cellsF_err {xs : List Int} (h : (cellsF xs).2 ≠ 0) : (cellsF xs).1 = 0 := by
  unfold cellsF at h ⊢
  split
  · rfl
  · rename_i h1
    rw [if_neg h1] at h
    split
    · rfl
    · rename_i h2
      rw [if_neg h2] at h
      have key : ∀ (l : List Int) (q : Int), (cellsGo l q).2 ≠ 0 → (cellsGo l q).1 = 0 := by
        intro l
        induction l with
        | nil => intro q hq; simp [cellsGo] at hq
        | cons s l ih =>
          intro q hq
          unfold cellsGo at hq ⊢
          split
          · rfl
          · rename_i hb; rw [if_neg hb] at hq; exact ih _ hq
      exact key _ _ h
theorem lt_of_cell' {w : World} {a : Addr} {v : Value} (h : w.cell? a = some v) : a.block < w.heap.size := by
  rcases Nat.lt_or_ge a.block w.heap.size with hlt | hge
  · exact hlt
  · have : w.heap[a.block]? = none := Array.getElem?_eq_none hge
    simp [World.cell?, this] at h
theorem OwnI.some_ {w : World} {base : Nat} {e : TypeId} {A : Option Addr} {c : Nat} {xs : List Int} (h : OwnI w base e A c xs) (hp : 0 < xs.length) : ∃ g, A = some ⟨g, 0, none⟩ ∧ base ≤ g ∧ g < w.heap.size := by
  rcases h.1.2 with ⟨_, h0⟩ | ⟨g, cap, cur, hv, hb, _⟩
  · omega
  · have hA : A = some ⟨g, 0, none⟩ := by injection hv
    subst hA
    exact ⟨g, rfl, hb, (h.1.lt g rfl).2⟩
theorem OwnI.set_ {w : World} {base g : Nat} {e : TypeId} {c : Nat} {xs : List Int} (h : OwnI w base e (some ⟨g, 0, none⟩) c xs) (j : Nat) (v : Int) (hv : -9223372036854775808 ≤ v ∧ v ≤ 9223372036854775807) :
    OwnI (w.setCell ⟨g, j, none⟩ (.int .i64 v)) base e (some ⟨g, 0, none⟩) c (xs.set j v) := by
  refine ⟨?_, fun x hx => ?_⟩
  · have := (h.1.stored j (.int .i64 v)).1
    rw [← List.map_set] at this
    rw [List.length_set]
    exact this
  · rcases List.mem_or_eq_of_mem_set hx with hx | rfl
    · exact h.2 x hx
    · exact hv
theorem OwnI.far {w : World} {base g : Nat} {e : TypeId} {A : Option Addr} {c : Nat} {xs : List Int} (h : OwnI w base e A c xs) (hg : g < base) (j : Nat) (u : Value) : OwnI (w.setCell ⟨g, j, none⟩ u) base e A c xs :=
  ⟨ownsRow_setCell_below h.1 (a := ⟨g, j, none⟩) hg u, h.2⟩
theorem OwnI.cell_ {w : World} {base g k : Nat} {e : TypeId} {c : Nat} {xs : List Int} {x : Int} (h : OwnI w base e (some ⟨g, 0, none⟩) c xs) (hx : xs[k]? = some x) : w.cell? ⟨g, k, none⟩ = some (.int .i64 x) ∧ w.frozen? ⟨g, k, none⟩ = false := by
  have hk := (List.getElem?_eq_some_iff.1 hx).1
  exact ⟨(h.1.cellAt k (by omega)).trans (by simp [hx]), h.1.frozenAt k⟩

end Go.Proofs.Ytnaehnlpcjaaeaa
/- The methods of merge's numbers. -/
namespace Go.Proofs.Ytnaehnlpcjaaeaa
open Go.RowKit

theorem wrap_natM (n : Nat) (h : n ≤ 1000000) : IntKind.i64.wrap (n : Int) = n := by rw [wrap_eq]; exact IntWalk.wrap64_in _ ⟨by omega, by omega⟩
set_option maxRecDepth 100000 in
theorem numLen (A : Option Addr) (n c : Nat) (w : World) : Calls Try.prog 26 #[.slice A n c] w fun e w' => e = .returned (.int .i64 n) ∧ w = w' := by
  go_enter Try.func26, Try.ntmps26
  go_wp2
  go_ret
  exact ⟨rfl, rfl⟩
set_option maxRecDepth 100000 in
theorem numLess (A : Option Addr) (n c i j : Nat) (ns : List Int) (w : World) (B : Nat) (h : Ints w B A n ns) (x y : Int) (hx : ns[i]? = some x) (hy : ns[j]? = some y) (R : Bool) (HR : Hid (decide (x < y) = R)) : Calls Try.prog 77 #[.slice A n c, .int .i64 i, .int .i64 j] w fun e w' => e = .returned (.bool R) ∧ ∃ m, w' = w.drewN m := by
  have hin : i < n := by have := (List.getElem?_eq_some_iff.1 hx).1; have := h.1; omega
  have hjn : j < n := by have := (List.getElem?_eq_some_iff.1 hy).1; have := h.1; omega
  obtain ⟨b, off, x', rfl, _, HX, hc, _, _⟩ := h.at_ hin
  obtain ⟨b', off', y', hA, _, HY, hc', _, _⟩ := h.at_ hjn
  injection hA with hA
  injection hA with e1 e2
  subst e1 e2
  have ex : x' = x := by have := HX.out; rw [hx] at this; injection this with this; exact this.symm
  have ey : y' = y := by have := HY.out; rw [hy] at this; injection this with this; exact this.symm
  rw [ex] at hc
  rw [ey] at hc'
  have HD : Hid (decide (x < y) = R) := HR
  have i0 : (0 : Int) ≤ (i : Int) := by omega
  have i1 : (i : Int) < (n : Int) := by omega
  have j0 : (0 : Int) ≤ (j : Int) := by omega
  have j1 : (j : Int) < (n : Int) := by omega
  clear ex ey HX HY hx hy
  go_enter Try.func77, Try.ntmps77
  go_wp2
  go_quiet (fail)
  go_wp2
  go_ret
  exact ⟨by rw [← HD.out]; rfl, _, rfl⟩
def swapL (ns : List Int) (i j : Nat) (x y : Int) : List Int := (ns.set i y).set j x
set_option maxRecDepth 100000 in
set_option maxHeartbeats 2000000 in
theorem numSwap (A : Option Addr) (n c i j base : Nat) (ns : List Int) (w : World) (h : OwnI w base 3 A c ns) (hn : ns.length = n) (x y : Int) (hx : ns[i]? = some x) (hy : ns[j]? = some y) (hb : base ≤ w.heap.size) : Calls Try.prog 76 #[.slice A n c, .int .i64 i, .int .i64 j] w fun e w' => e = .returned (.tuple #[]) ∧ OwnI w' base 3 A c (swapL ns i j x y) ∧ Below base w w' ∧ ∀ b, A ≠ some ⟨b, 0, none⟩ → w'.heap[b]? = w.heap[b]? := by
  have hin : i < n := by have := (List.getElem?_eq_some_iff.1 hx).1; omega
  have hjn : j < n := by have := (List.getElem?_eq_some_iff.1 hy).1; omega
  obtain ⟨g, rfl, hg⟩ : ∃ g, A = some ⟨g, 0, none⟩ ∧ base ≤ g := by
    rcases h.1.2 with ⟨_, h2⟩ | ⟨g, cap, cur, h1, h2, _⟩
    · omega
    · injection h1 with h1; exact ⟨g, h1, h2⟩
  obtain ⟨ci, fi⟩ := h.cell_ hx
  obtain ⟨cj, fj⟩ := h.cell_ hy
  have hxb := h.2 x (List.mem_of_getElem? hx)
  have hyb := h.2 y (List.mem_of_getElem? hy)
  have h1 := h.set_ i y hyb
  have hy1 : ∃ z, (ns.set i y)[j]? = some z := ⟨_, List.getElem?_eq_getElem (by rw [List.length_set]; omega)⟩
  obtain ⟨z, hz⟩ := hy1
  obtain ⟨cz, fz⟩ := h1.cell_ hz
  have h2 := h1.set_ j x hxb
  have hbl := ((Below.refl w.heap.size w).mono hb).setCell (p := ⟨g, i, none⟩) hg (.int .i64 y)
  have hbl2 := hbl.setCell (p := ⟨g, j, none⟩) hg (.int .i64 x)
  have HO := Lib.hid h2
  have HBL := Lib.hid hbl2
  have i0 : (0 : Int) ≤ (i : Int) := by omega
  have i1 : (i : Int) < (n : Int) := by omega
  have j0 : (0 : Int) ≤ (j : Int) := by omega
  have j1 : (j : Int) < (n : Int) := by omega
  clear h h1 h2 hbl hbl2 hx hy hz
  go_enter Try.func76, Try.ntmps76
  go_wp2
  go_region
  all_goals (try go_wp2)
  all_goals go_end0
  all_goals exact ⟨rfl, HO.out, HBL.out.drew, fun b hb => ((Below.heap_setCell _ ⟨g, j, none⟩ (.int .i64 x) b (fun e => hb (by first | (rw [e]) | (rw [← e])))).trans (Below.heap_setCell w ⟨g, i, none⟩ (.int .i64 y) b (fun e => hb (by first | (rw [e]) | (rw [← e])))))⟩
/-- a heap: its block g holds its numbers' header and what else it has; the numbers are its own, in blocks from base on -/
structure HeapB (w : World) (g base : Nat) (S : TypeId) (rest : List Value) (A : Option Addr) (c : Nat) (ns : List Int) : Prop where
  box : w.heap[g]? = some (.cells (Value.slice A ns.length c :: rest).toArray S (0, 0))
  own : OwnI w base 3 A c ns
  lt : g < base
  sz : base ≤ w.heap.size
section
variable {w w' : World} {g base c : Nat} {S : TypeId} {rest : List Value} {A : Option Addr} {ns : List Int}
theorem HeapB.cell (h : HeapB w g base S rest A c ns) : w.cell? ⟨g, 0, none⟩ = some (.slice A ns.length c) := by
  have := cell_of_row _ _ 0 _ _ (0, 0) h.box
  rw [this]; simp
theorem HeapB.frozen (h : HeapB w g base S rest A c ns) : w.frozen? ⟨g, 0, none⟩ = false := by simp [World.frozen?, h.box]
theorem HeapB.restAt (h : HeapB w g base S rest A c ns) {k : Nat} {v : Value} (hv : rest[k]? = some v) : w.cell? ⟨g, k + 1, none⟩ = some v := by
  have := cell_of_row _ _ (k + 1) _ _ (0, 0) h.box
  rw [this]; simpa using hv
theorem HeapB.drewN (h : HeapB w g base S rest A c ns) (m : Nat) : HeapB (w.drewN m) g base S rest A c ns := ⟨h.box, h.own, h.lt, h.sz⟩
theorem blk_set0 {v : Value} {vs : List Value} (h : w.heap[g]? = some (.cells (v :: vs).toArray S (0, 0))) (u : Value) : (w.setCell ⟨g, 0, none⟩ u).heap[g]? = some (.cells (u :: vs).toArray S (0, 0)) := by
  simp only [World.setCell, Array.getElem?_modify, h]
  simp
end
/-- but for block g and the numbers' own block all is as it was; where the numbers lie then -/
structure FarB (w w' : World) (g base : Nat) (A A' : Option Addr) : Prop where
  os : w'.os = w.os
  tape : w'.tape = w.tape
  output : w'.output = w.output
  size : w.heap.size ≤ w'.heap.size
  low : ∀ b, b < base → b ≠ g → w'.heap[b]? = w.heap[b]?
  mid : ∀ b, b < w.heap.size → b ≠ g → A ≠ some ⟨b, 0, none⟩ → w'.heap[b]? = w.heap[b]?
  wher : ∀ q, A' = some ⟨q, 0, none⟩ → A = some ⟨q, 0, none⟩ ∨ w.heap.size ≤ q
theorem FarB.trans {w w' w2 : World} {g base : Nat} {A A' A2 : Option Addr} (h : FarB w w' g base A A') (h2 : FarB w' w2 g base A' A2) : FarB w w2 g base A A2 :=
  ⟨h2.os.trans h.os, h2.tape.trans h.tape, h2.output.trans h.output, Nat.le_trans h.size h2.size, fun b hb hne => (h2.low b hb hne).trans (h.low b hb hne), fun b hb hne hA => (h2.mid b (Nat.lt_of_lt_of_le hb h.size) hne (fun e => by rcases h.wher b e with e2 | e2; exact hA e2; omega)).trans (h.mid b hb hne hA), fun q hq => by
    rcases h2.wher q hq with e | e
    · exact h.wher q e
    · exact .inr (Nat.le_trans h.size e)⟩
theorem FarB.below {w w' : World} {g base B : Nat} {A A' : Option Addr} (h : FarB w w' g base A A') (hB : B ≤ g) (hg : g < base) : Below B w w' := ⟨h.os, h.tape, h.output, h.size, fun b hb => h.low b (by omega) (by omega)⟩
theorem FarB.set {w : World} {g base : Nat} {A : Option Addr} (i : Nat) (v : Value) : FarB w (w.setCell ⟨g, i, none⟩ v) g base A A :=
  ⟨rfl, rfl, rfl, by simp, fun b _ hne => Below.heap_setCell _ ⟨g, i, none⟩ _ _ (fun e => hne (by first | exact e.symm | exact e)), fun b _ hne _ => Below.heap_setCell _ ⟨g, i, none⟩ _ _ (fun e => hne (by first | exact e.symm | exact e)), fun _ hq => .inl hq⟩
theorem FarB.drewN {w w' : World} {g base : Nat} {A A' : Option Addr} (h : FarB w w' g base A A') (m : Nat) : FarB w (w'.drewN m) g base A A' := ⟨h.os, h.tape, h.output, h.size, h.low, h.mid, h.wher⟩
theorem FarB.refl (w : World) (g base : Nat) (A : Option Addr) : FarB w w g base A A := ⟨rfl, rfl, rfl, Nat.le_refl _, fun _ _ _ => rfl, fun _ _ _ _ => rfl, fun _ hq => .inl hq⟩
end Go.Proofs.Ytnaehnlpcjaaeaa
