/- What a copy of a stored tensor is, while it is made, and then. -/
import Derived.Test.YtfimnmdcbnfhfaaPVF1
import Derived.Test.YtfimnmdcbnfhfaaPVOwnL
namespace Go.Proofs.Ytfimnmdcbnfhfaa
open Go.RowKit

/-- all blocks but those of levels and of tensors are as they were -/
def KeepC (w w' : World) : Prop := ∀ (b : Nat) (cur : Array Value) (t : TypeId), t ≠ 63 → t ≠ 34 → w.heap[b]? = some (.cells cur t (0, 0)) → w'.heap[b]? = w.heap[b]?
theorem KeepC.refl (w : World) : KeepC w w := fun _ _ _ _ _ _ => rfl
theorem KeepC.trans {w w' w'' : World} (h : KeepC w w') (h' : KeepC w' w'') : KeepC w w'' := fun b cur t h1 h2 hb => by
  have e := h b cur t h1 h2 hb
  rw [← e]
  exact h' b cur t h1 h2 (e.trans hb)
theorem KeepC.of_below {w w' : World} (h : Below w.heap.size w w') : KeepC w w' := fun b _ _ _ _ hb => h.block b (lt_of_heap hb)
theorem KeepC.of_set {w : World} {g : Nat} {p : Addr} {cs : Array Value} {t : TypeId} (hg : w.heap[g]? = some (.cells cs t (0, 0))) (ht : t = 63 ∨ t = 34) (hp : p.block = g) (v : Value) : KeepC w (w.setCell p v) := by
  intro b cur t' h1 h2 hb
  refine Below.heap_setCell w p v b ?_
  intro e
  rw [hp] at e
  subst e
  rw [hg] at hb
  injection hb with hb
  injection hb with _ hb
  rcases ht with ht | ht
  · exact h1 (by rw [← hb, ht])
  · exact h2 (by rw [← hb, ht])
theorem KeepC.of_app {w w' : World} {base c p : Nat} {A : Option Addr} {L : List Lv} (hS : OwnV w base A c L) (hg : w.grownBy w' (Value.slice A p c).ownBlock) : KeepC w w' := by
  intro b cur t h1 _ hb
  have := hS.ty_kept hb h1 hg
  rw [this, hb]
theorem ownI_blk {w : World} {base c b : Nat} {e : TypeId} {A : Option Addr} {xs : List Int} (h : OwnI w base e A c xs) (hA : A = some ⟨b, 0, none⟩) : ∃ cur, w.heap[b]? = some (.cells cur e (0, 0)) ∧ base ≤ b := by
  subst hA
  rcases h.1.2 with ⟨h1, _⟩ | ⟨g, cap, cur, h1, h2, h3, _⟩
  · cases h1
  · injection h1 with h1
    injection h1 with h1
    injection h1 with h1
    subst h1
    exact ⟨cur, h3, h2⟩
theorem OwnI.keepC {w w' : World} {base c : Nat} {e : TypeId} {A : Option Addr} {xs : List Int} (h : OwnI w base e A c xs) (h1 : e ≠ 63) (h2 : e ≠ 34) (hk : KeepC w w') : OwnI w' base e A c xs :=
  ownI_same h fun b hb => by
    obtain ⟨cur, hc, _⟩ := ownI_blk h hb
    exact hk b cur e h1 h2 hc
theorem OwnS.keepC {w w' : World} {base c : Nat} {A : Option Addr} {xs : List Sp} (h : OwnS w base A c xs) (hk : KeepC w w') : OwnS w' base A c xs :=
  h.same fun b hb => by
    rcases h.heap with h1 | ⟨g, cur, h1, _, h3⟩
    · rw [h1] at hb; cases hb
    · rw [h1] at hb
      injection hb with hb
      injection hb with hb
      subst hb
      exact hk g cur _ (by decide) (by decide) h3
/-- a level whose lists are of the call's own, in blocks from lo on below hi -/
structure LvO (w : World) (lo hi : Nat) (l : Lv) : Prop where
  pos : OwnI w lo 3 l.A l.c l.xs
  crd : OwnI w lo 3 l.B l.e l.ys
  posHi : ∀ b, l.A = some ⟨b, 0, none⟩ → b < hi
  crdHi : ∀ b, l.B = some ⟨b, 0, none⟩ → b < hi
  apart : ∀ b, l.A = some ⟨b, 0, none⟩ → l.B ≠ some ⟨b, 0, none⟩
  n0 : l.xs.length = l.n
  m0 : l.ys.length = l.m
  k0 : -9223372036854775808 ≤ l.k ∧ l.k ≤ 9223372036854775807
  s0 : -9223372036854775808 ≤ l.s ∧ l.s ≤ 9223372036854775807
  n1 : l.n ≤ 3000
  m1 : l.m ≤ 3000
theorem LvO.keepC {w w' : World} {lo hi : Nat} {l : Lv} (h : LvO w lo hi l) (hk : KeepC w w') : LvO w' lo hi l :=
  ⟨h.pos.keepC (by decide) (by decide) hk, h.crd.keepC (by decide) (by decide) hk, h.posHi, h.crdHi, h.apart, h.n0, h.m0, h.k0, h.s0, h.n1, h.m1⟩
theorem LvO.in_ {w : World} {lo hi : Nat} {l : Lv} (h : LvO w lo hi l) : l.In w w.heap.size := by
  have hp := h.pos.ints
  have hc := h.crd.ints
  have c1 := h.pos.cap
  have c2 := h.crd.cap
  have n1 := h.n1
  have m1 := h.m1
  rw [h.n0] at hp c1
  rw [h.m0] at hc c2
  exact ⟨h.k0, h.s0, hp, hc, by omega, by omega, c1, c2⟩
/-- a level as another one -/
def sameLv (l m : Lv) : Prop := l.k = m.k ∧ l.s = m.s ∧ l.n = m.n ∧ l.m = m.m ∧ l.xs = m.xs ∧ l.ys = m.ys
structure CopyI (w0 : World) (t : Ten) (g : Nat) (A1 : Option Addr) (c1 : Nat) (A2 : Option Addr) (c2 : Nat) (A3 : Option Addr) (c3 : Nat) (k : Nat) (A4 : Option Addr) (c4 : Nat) (ls' : List Lv) (f : Nat → Nat) (wr : World) : Prop where
  bel : Below w0.heap.size w0 wr
  gg : w0.heap.size ≤ g
  box : wr.heap[g]? = some (.cells #[.slice A1 t.n c1, .slice A2 t.fn c2, .slice A4 k c4, .slice A3 t.vn c3] 34 (0, 0))
  i1 : OwnI wr w0.heap.size 3 A1 c1 t.xs
  i2 : OwnS wr w0.heap.size A2 c2 t.fs
  i3 : OwnI wr w0.heap.size 2 A3 c3 t.vs
  i4 : OwnV wr w0.heap.size A4 c4 ls'
  len : ls'.length = k
  rel : ∀ (j : Nat) (l : Lv), ls'[j]? = some l → ∃ m, t.ls[j]? = some m ∧ sameLv l m
  f0 : ∀ b, A1 = some ⟨b, 0, none⟩ → b < f 0
  fb : w0.heap.size ≤ f 0
  fm : ∀ j, f j ≤ f (j + 1)
  fk : f k ≤ wr.heap.size
  rows : ∀ (j : Nat) (l : Lv), ls'[j]? = some l → LvO wr (f j) (f (j + 1)) l
/-- the copy -/
abbrev copyT (t : Ten) (A1 : Option Addr) (c1 : Nat) (A2 : Option Addr) (c2 : Nat) (A3 : Option Addr) (c3 : Nat) (A4 : Option Addr) (c4 : Nat) (ls' : List Lv) : Ten := ⟨A1, t.n, c1, t.xs, A2, t.fn, c2, t.fs, A4, t.ln, c4, ls', A3, t.vn, c3, t.vs⟩
section
variable {w0 wr : World} {t : Ten} {g : Nat} {A1 A2 A3 A4 : Option Addr} {c1 c2 c3 c4 k : Nat} {ls' : List Lv} {f : Nat → Nat}
/-- over a world in which nothing that lay there is turned -/
theorem CopyI.below {w' : World} (h : CopyI w0 t g A1 c1 A2 c2 A3 c3 k A4 c4 ls' f wr) (hb : Below wr.heap.size wr w') : CopyI w0 t g A1 c1 A2 c2 A3 c3 k A4 c4 ls' f w' :=
  ⟨h.bel.trans (hb.mono h.bel.size), h.gg, keep_b hb h.box, h.i1.below hb (Nat.le_refl _), h.i2.below hb (Nat.le_refl _), h.i3.below hb (Nat.le_refl _), h.i4.below hb (Nat.le_refl _), h.len, h.rel, h.f0, h.fb, h.fm, Nat.le_trans h.fk hb.size, fun j l hl => (h.rows j l hl).keepC (KeepC.of_below hb)⟩
/-- the copy's own slices read as a tensor -/
theorem CopyI.in_ {w : World} (h : CopyI w0 t g A1 c1 A2 c2 A3 c3 k A4 c4 ls' f wr) (ht : t.In w w.heap.size) (hk : k = t.ln) : (copyT t A1 c1 A2 c2 A3 c3 A4 c4 ls').In wr wr.heap.size := by
  have e1 := h.i1.ints
  have e3 := h.i3.ints
  have e2 := h.i2.specs ht.form.2.1
  have e4 := h.i4.lvs fun x hx => by
    obtain ⟨j, hj⟩ := List.mem_iff_getElem?.1 hx
    exact (h.rows j x hj).in_
  have k1 := h.i1.cap
  have k2 := h.i2.lenCap
  have k3 := h.i3.cap
  have k4 := h.i4.lenCap
  rw [ht.shape.1] at e1 k1
  rw [ht.vals.1] at e3 k3
  rw [ht.form.1] at e2 k2
  rw [h.len, hk] at e4 k4
  exact ⟨e1, e2, e4, e3, k1, k2, k4, k3, ht.n1, ht.f1, ht.l1, ht.v1⟩
end
end Go.Proofs.Ytfimnmdcbnfhfaa
