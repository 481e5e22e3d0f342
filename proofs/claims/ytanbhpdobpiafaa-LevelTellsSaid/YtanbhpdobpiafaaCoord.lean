/- The contract of box.Coord. -/
import Derived.Test.YtanbhpdobpiafaaAt
import Derived.Test.YtanbhpdobpiafaaPlace
import Derived.Test.YtanbhpdobpiafaaRound
namespace Go.Proofs.Ytanbhpdobpiafaa
open Go.RowKit Go.Shelf
attribute [local go_sem] Oper.semAt_some

/-- what box.Coord has written when the pairs pre have come -/
def coSet (xs : List Int) (v : Int) (pre : List (Int × Int)) : List Int := pre.foldl (fun l x => l.set x.1.toNat (v / x.2 % (xs[x.1.toNat]?.getD 0))) (List.replicate xs.length 0)
theorem coSet_snoc (xs : List Int) (v : Int) (pre : List (Int × Int)) (x : Int × Int) : coSet xs v (pre ++ [x]) = (coSet xs v pre).set x.1.toNat (v / x.2 % (xs[x.1.toNat]?.getD 0)) := by simp [coSet]
theorem coSet_length (xs : List Int) (v : Int) (pre : List (Int × Int)) : (coSet xs v pre).length = xs.length := by
  unfold coSet
  suffices h : ∀ l : List Int, (pre.foldl (fun l x => l.set x.1.toNat (v / x.2 % (xs[x.1.toNat]?.getD 0))) l).length = l.length by rw [h]; simp
  induction pre with
  | nil => simp
  | cons x pre ih => intro l; rw [List.foldl_cons, ih]; simp
theorem coSet_comes {xs : List Int} (v : Int) (hp : ∀ x ∈ xs, 1 ≤ x) (hM : prodI xs ≤ 4611686018427387903) (k : Nat) (hk : k ≤ xs.length) : coSet xs v (comes xs k) = List.replicate (xs.length - k) 0 ++ (placeR xs v).drop (xs.length - k) := by
  induction k with
  | zero => rw [List.drop_of_length_le (by rw [placeR_length]; omega)]; simp [coSet, comes]
  | succ k ih =>
    have hx : xs[xs.length - 1 - k]? = some (xs[xs.length - 1 - k]'(by omega)) := List.getElem?_eq_getElem (by omega)
    have e3 : ((xs.length : Int) - 1 - k).toNat = xs.length - 1 - k := by omega
    have e2 : xs.length - 1 - k + 1 = xs.length - k := by omega
    rw [comes_succ, coSet_snoc, ih (by omega)]
    simp only [e3]
    rw [back_set (by omega)]
    rw [placeR_at hx, e2, backs_eq hp hM k (by omega), hx]; rfl
theorem own_row {A B : World} {row : Option Nat} {base n c g : Nat} {e : TypeId} {ys : List Value} (hs : A.ownsRow base e 1 (.slice (some ⟨g, 0, none⟩) n c) n ys) (hg : A.grownBy B row) (hr : ∀ r, row = some r → ∃ o : Obj, A.heap[r]? = some o ∧ o.isCells = false) :
    B.ownsRow base e 1 (.slice (some ⟨g, 0, none⟩) n c) n ys := by
  refine hs.kept hg (.inr fun e => ?_)
  obtain ⟨o, ho, hc⟩ := hr g e.symm
  rcases hs.2 with ⟨h', _⟩ | ⟨g', cap, cur, h', _, hh, _⟩
  · simp at h'
  · simp only [Value.slice.injEq, Option.some.injEq, Addr.mk.injEq, and_true, true_and] at h'
    obtain ⟨rfl, _⟩ := h'
    rw [hh] at ho
    injection ho with ho
    subst ho
    cases hc

theorem wpIn_makeFull {F : Fence} {m : Nat} {P : Program} (w : World) {ops : Array Oper} {rest : List Oper} {o : Oper} {a : Act} {Q : Exit → Act → World → Prop}
    (hg : o.guard = none) (l c : Operand) (t : TypeId) (hop : o.op = Op.makeSlice t l c)
    (base : Nat) (e : TypeId) (i : TypeInfo) (z : Value) (size : Nat) (h1 : P.underlying t = some (.slice e)) (h2 : P.info? e = some i) (h3 : i.zero = some z) (h4 : i.size = size)
    (kl kc : IntKind) (L C : Int) (n : Nat) (hl : a.eval l = .int kl L) (hc : a.eval c = .int kc C) (hL : L = (n : Int)) (hC : C = (n : Int)) (b2 : i.bytes * n ≤ 281474976710656) (b3 : n ≤ maxLen) (b4 : base ≤ w.heap.size)
    (hK : ∀ w', w'.ownsRow base e size (.slice (some ⟨w.heap.size, 0, none⟩) n n) n (madeCells z.cells (n * size)).toList → w.grownBy w' none → wpListIn F m P ops Q rest (a.put o.dst (.slice (some ⟨w.heap.size, 0, none⟩) n n)) w') :
    wpListIn F m P ops Q (o :: rest) a w := by
  refine wpListIn_plain hg fun K hK' => ?_
  obtain ⟨w', hrun, r1, r2⟩ := run_make_full (P := P) w base t e i z size h1 h2 h3 h4 kl kc n b2 b3 b4
  subst hL
  subst hC
  unfold Oper.wpIn
  refine ⟨?_, ?_⟩
  · simp [Oper.about, hop]
  · rw [Oper.semAt_plain F _ _ (by rw [hop]; intro c hc'; cases hc')]
    simp [execOp, hop, hl, hc, hrun, Result.andThen]
    exact hK' _ _ (hK w' r1 r2)

theorem mk_facts {w w1 : World} {u v : Value} {t t' : TypeId} (hg : ((w.alloc (.cells #[u] t)).alloc (.cells #[v] t')).grownBy w1 none) :
    Below (w.heap.size + 1 + 1) ((w.alloc (.cells #[u] t)).alloc (.cells #[v] t')) w1 ∧ w.heap.size + 1 + 1 ≤ w1.heap.size ∧ w1.cell? ⟨w.heap.size, 0, none⟩ = some u ∧ w1.cell? ⟨w.heap.size + 1, 0, none⟩ = some v := by
  have hb : Below (w.heap.size + 1 + 1) ((w.alloc (.cells #[u] t)).alloc (.cells #[v] t')) w1 := (Below.refl _ _).grown hg (by simp) (fun k e => by cases e)
  have c := newCell (w.alloc (.cells #[u] t)) v t'
  rw [World.size_alloc] at c
  refine ⟨hb, by simpa using hb.size, ?_, ?_⟩
  · exact (hb.cell (p := ⟨w.heap.size, 0, none⟩) (by simp; omega)).trans (cellPast _ (newCell w u t).1)
  · exact (hb.cell (p := ⟨w.heap.size + 1, 0, none⟩) (by simp)).trans c.1

theorem co_round {W w : World} {z : Value} {v1 v2 v3 : Value} {k g base e size n : Nat} {v : Value} {ys : List Value} (h1 : W.cell? ⟨g, 0, none⟩ = some v1) (h2 : W.cell? ⟨w.heap.size, 0, none⟩ = some v2) (h3 : W.cell? ⟨w.heap.size + 1, 0, none⟩ = some v3) (hB : Below w.heap.size w W)
    (hg : w.heap.size + 1 + 1 < g) (hr : (W.setCell ⟨w.heap.size + 1 + 1, k, none⟩ z).ownsRow base e size v n ys) :
    KeepsOthers W (W.setCell ⟨w.heap.size + 1 + 1, k, none⟩ z).drew ∧ KeepBox (g + 1) w.heap.size W (W.setCell ⟨w.heap.size + 1 + 1, k, none⟩ z).drew ∧
      ((W.setCell ⟨w.heap.size + 1 + 1, k, none⟩ z).drew.cell? ⟨g, 0, none⟩ = some v1 ∧ (W.setCell ⟨w.heap.size + 1 + 1, k, none⟩ z).drew.cell? ⟨w.heap.size, 0, none⟩ = some v2 ∧ (W.setCell ⟨w.heap.size + 1 + 1, k, none⟩ z).drew.cell? ⟨w.heap.size + 1, 0, none⟩ = some v3 ∧
        (W.setCell ⟨w.heap.size + 1 + 1, k, none⟩ z).drew.ownsRow base e size v n ys) ∧ Below w.heap.size w (W.setCell ⟨w.heap.size + 1 + 1, k, none⟩ z).drew := by
  refine ⟨(KeepsOthers.setCell _ _ _).trans (KeepsOthers.drew _), (KeepBox.of_setCell (p := ⟨w.heap.size + 1 + 1, k, none⟩) (by simp; omega) (by simp; omega) _).drew, ⟨?_, ?_, ?_, hr⟩, (hB.setCell (p := ⟨w.heap.size + 1 + 1, k, none⟩) (by simp; omega) _).drew⟩
  · exact (World.cell?_setCell_other W _ ⟨g, 0, none⟩ _ (by simp)).trans h1
  · exact (World.cell?_setCell_other W _ ⟨w.heap.size, 0, none⟩ _ (by simp)).trans h2
  · exact (World.cell?_setCell_other W _ ⟨w.heap.size + 1, 0, none⟩ _ (by simp)).trans h3

end Go.Proofs.Ytanbhpdobpiafaa
