/- Worlds in which numbers alone differ; lists whose numbers may be written. -/
import Derived.Test.YtpfabbapfmfmmaaG15
import Derived.Lib.QuietBelow
namespace Go.Proofs.Ytpfabbapfmfmmaa
open Go.RowKit

/-- all cells of the first world stand in the second one; those that hold numbers hold numbers -/
structure Num (w w' : World) : Prop where
  int : ∀ p v, w.cell? p = some (.int .i64 v) → ∃ v', w'.cell? p = some (.int .i64 v')
  other : ∀ p u, w.cell? p = some u → (∀ v, u ≠ .int .i64 v) → w'.cell? p = some u
  frozen : ∀ b o cs t, w.heap[b]? = some (.cells cs t (0, 0)) → w'.frozen? ⟨b, o, none⟩ = false
theorem frozen_of {w : World} {b o : Nat} {cs : Array Value} {t : TypeId} (h : w.heap[b]? = some (.cells cs t (0, 0))) : w.frozen? ⟨b, o, none⟩ = false := by
  simp [World.frozen?, h]
theorem Num.refl (w : World) : Num w w := ⟨fun _ v h => ⟨v, h⟩, fun _ _ h _ => h, fun _ _ _ _ h => frozen_of h⟩
theorem Num.below {w w' w2 : World} (h : Num w w') (hb : Below w'.heap.size w' w2) (hk : ∀ b, b < w.heap.size → b < w'.heap.size) : Num w w2 :=
  ⟨fun p v hp => by obtain ⟨v', h'⟩ := h.int p v hp; exact ⟨v', (hb.cell (block_lt_of_cell h')).trans h'⟩, fun p u hp hu => by have h' := h.other p u hp hu; exact (hb.cell (block_lt_of_cell h')).trans h',
   fun b o cs t hh => by
    have h1 := h.frozen b o cs t hh
    have hlt := hk b (lt_of_heap hh)
    rw [← h1]
    simp only [World.frozen?, hb.block b hlt]⟩
theorem Num.set {w w' : World} (h : Num w w') {p : Addr} {v : Int} (hp : w'.cell? p = some (.int .i64 v)) (u : Int) : Num w (w'.setCell p (.int .i64 u)) :=
  ⟨fun q x hq => by
    by_cases e : p = q
    · subst e; exact ⟨u, World.cell?_setCell_same _ _ _ hp⟩
    · obtain ⟨v', h'⟩ := h.int q x hq
      exact ⟨v', (World.cell?_setCell_other _ _ _ _ e).trans h'⟩, fun q x hq hx => by
    have h' := h.other q x hq hx
    have e : p ≠ q := by
      rintro rfl
      rw [hp] at h'
      injection h' with h'
      exact hx v h'.symm
    exact (World.cell?_setCell_other _ _ _ _ e).trans h', fun b o cs t hh => by rw [World.frozen?_setCell]; exact h.frozen b o cs t hh⟩
/-- a cell that holds a number, in a block from base on that may be written -/
def IntC (w : World) (base b o : Nat) : Prop := base ≤ b ∧ (∃ v, w.cell? ⟨b, o, none⟩ = some (.int .i64 v)) ∧ ∃ cs t, w.heap[b]? = some (.cells cs t (0, 0))
/-- a list whose numbers may be written -/
def WrL (w : World) (base : Nat) (B : Option Addr) (m : Nat) (es : List Ent) : Prop :=
  es.length = m ∧ (∀ x ∈ es, x.n ≤ 100000 ∧ ∀ j, j < x.n → ∃ b off, x.A = some ⟨b, off, none⟩ ∧ IntC w base b (off + j)) ∧
  ∀ k x, es[k]? = some x → ∃ b off, B = some ⟨b, off, none⟩ ∧ w.cell? ⟨b, off + 2 * k, none⟩ = some (.slice x.A x.n x.c) ∧ IntC w base b (off + 2 * k + 1)
theorem CooV.wr {w : World} {A B : Option Addr} {n m base : Nat} {xs : List Int} {es : List Ent} (h : CooV w A n B m xs es) (hf : FarC w base A B es) (hn : ∀ x ∈ es, x.n ≤ 100000) : WrL w base B m es := by
  refine ⟨h.2.1, fun x hx => ⟨hn x hx, fun j hj => ?_⟩, fun k x hk => ?_⟩
  · obtain ⟨b, off, y, hA, _, _, hc, _, _⟩ := (h.2.2.1 x hx).1.at_ hj
    have := hf.2.2 x hx b off hA
    exact ⟨b, off, hA, this.1, ⟨y, hc⟩, this.2⟩
  · have hkl := (List.getElem?_eq_some_iff.1 hk).1
    obtain ⟨b, off, hB, _, hx⟩ := h.2.2.2 (by have := h.2.1; omega)
    have hq := hf.2.1 (by intro e; rw [e] at hkl; simp at hkl) b off hB
    exact ⟨b, off, hB, (hx k x hk).1, hq.1, ⟨_, (hx k x hk).2⟩, hq.2⟩
theorem IntC.num {w w' : World} {base b o : Nat} (h : IntC w base b o) (hn : Num w w') : base ≤ b ∧ (∃ v, w'.cell? ⟨b, o, none⟩ = some (.int .i64 v)) ∧ w'.frozen? ⟨b, o, none⟩ = false := by
  obtain ⟨h1, ⟨v, h2⟩, cs, t, h3⟩ := h
  exact ⟨h1, hn.int _ v h2, hn.frozen b o cs t h3⟩
theorem Num.size {w w' : World} (h : Below w.heap.size w w') : Num w w' := (Num.refl w).below h fun _ hb => hb
theorem IntC.below {w w' : World} {base b o : Nat} (h : IntC w base b o) (hb : Below w.heap.size w w') : IntC w' base b o := by
  obtain ⟨h1, ⟨v, h2⟩, cs, t, h3⟩ := h
  exact ⟨h1, ⟨v, (hb.cell (lt_of_heap h3)).trans h2⟩, cs, t, heapAt hb h3⟩
theorem WrL.below {w w' : World} {base m : Nat} {B : Option Addr} {es : List Ent} (h : WrL w base B m es) (hb : Below w.heap.size w w') : WrL w' base B m es :=
  ⟨h.1, fun x hx => ⟨(h.2.1 x hx).1, fun j hj => by obtain ⟨b, off, e, hi⟩ := (h.2.1 x hx).2 j hj; exact ⟨b, off, e, hi.below hb⟩⟩, fun k x hk => by
    obtain ⟨b, off, e, h1, h2⟩ := h.2.2 k x hk
    obtain ⟨_, _, cs, t, h3⟩ := id h2
    exact ⟨b, off, e, (hb.cell (lt_of_heap h3)).trans h1, h2.below hb⟩⟩
theorem slice_ne {A : Option Addr} {n c : Nat} : ∀ v : Int, Value.slice A n c ≠ .int .i64 v := fun v e => by cases e
/-- one of the lists into which is written -/
def OneW (w : World) (base g k : Nat) : Prop := ∃ A n c B m e zs, w.cell? ⟨g, k * 2, none⟩ = some (.slice A n c) ∧ w.cell? ⟨g, k * 2 + 1, none⟩ = some (.slice B m e) ∧ WrL w base B m zs ∧ m ≤ 100000
end Go.Proofs.Ytpfabbapfmfmmaa
