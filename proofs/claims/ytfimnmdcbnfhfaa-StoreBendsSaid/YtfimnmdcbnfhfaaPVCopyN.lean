/- One level more is copied. -/
import Derived.Test.YtfimnmdcbnfhfaaPVCopyM
import Derived.Test.YtfimnmdcbnfhfaaG14
namespace Go.Proofs.Ytfimnmdcbnfhfaa
open Go.RowKit

theorem lv_set2 {w : World} {g : Nat} {u v x y z : Value} {t : TypeId} (h : w.heap[g]? = some (.cells #[u, v, x, y] t (0, 0))) : (w.setCell ⟨g, 2, none⟩ z).heap[g]? = some (.cells #[u, v, z, y] t (0, 0)) := by
  rw [heap_setCell_same w g 2 _ _ z h]; simp
theorem lv_set3 {w : World} {g : Nat} {u v x y z : Value} {t : TypeId} (h : w.heap[g]? = some (.cells #[u, v, x, y] t (0, 0))) : (w.setCell ⟨g, 3, none⟩ z).heap[g]? = some (.cells #[u, v, x, z] t (0, 0)) := by
  rw [heap_setCell_same w g 3 _ _ z h]; simp
theorem ownV_lt {w : World} {base c b : Nat} {A : Option Addr} {L : List Lv} (h : OwnV w base A c L) (hA : A = some ⟨b, 0, none⟩) : base ≤ b ∧ b < w.heap.size := by
  rcases h.heap with h1 | ⟨g, cur, h1, h2, h3⟩
  · rw [h1] at hA; cases hA
  · rw [h1] at hA
    injection hA with hA
    injection hA with hA
    subst hA
    exact ⟨h2, lt_of_heap h3⟩
theorem ownV_off {w : World} {base c q : Nat} {t : TypeId} {A : Option Addr} {L : List Lv} {cs : Array Value} (h : OwnV w base A c L) (hq : w.heap[q]? = some (.cells cs t (0, 0))) (ht : t ≠ 63) : ∀ b, A = some ⟨b, 0, none⟩ → b ≠ q := by
  intro b hb e'
  subst e'
  rcases h.heap with h1 | ⟨g, cur, h1, _, h3⟩
  · rw [h1] at hb; cases hb
  · rw [h1] at hb
    injection hb with hb
    injection hb with hb
    subst hb
    rw [hq] at h3
    injection h3 with h3
    injection h3 with _ h3
    exact ht h3
section
variable {w0 wr : World} {t : Ten} {g : Nat} {A1 A2 A3 A4 : Option Addr} {c1 c2 c3 c4 k : Nat} {ls' : List Lv} {f : Nat → Nat}
/-- over a world in which the copy's own blocks are as they were -/
theorem CopyI.other {w' : World} (h : CopyI w0 t g A1 c1 A2 c2 A3 c3 k A4 c4 ls' f wr) (hb : Below w0.heap.size w0 w') (hs : wr.heap.size ≤ w'.heap.size) (hk : KeepC wr w') (hx : w'.heap[g]? = wr.heap[g]?) (hv : ∀ b, A4 = some ⟨b, 0, none⟩ → w'.heap[b]? = wr.heap[b]?) : CopyI w0 t g A1 c1 A2 c2 A3 c3 k A4 c4 ls' f w' :=
  ⟨hb, h.gg, hx.trans h.box, h.i1.keepC (by decide) (by decide) hk, h.i2.keepC hk, h.i3.keepC (by decide) (by decide) hk, h.i4.same hv, h.len, h.rel, h.f0, h.fb, h.fm, Nat.le_trans h.fk hs, fun j l hl => (h.rows j l hl).keepC hk⟩
/-- where a level is being copied: its variable at lb -/
structure MidW (wr w' : World) (lb : Nat) (u v x y : Value) : Prop where
  size : wr.heap.size ≤ w'.heap.size
  keep : ∀ b, b < lb → w'.heap[b]? = wr.heap[b]?
  keepC : KeepC wr w'
  box : w'.heap[lb]? = some (.cells #[u, v, x, y] 63 (0, 0))
  bel : Below lb wr w'
theorem MidW.start {u v x y : Value} (wr : World) : MidW wr (wr.alloc (.cells #[u, v, x, y] 63)) wr.heap.size u v x y := by
  have hb := lvBelow wr (.cells #[u, v, x, y] 63)
  exact ⟨hb.size, fun b hb' => hb.block b hb', KeepC.of_below hb, heap_alloc_new _ _, hb⟩
theorem MidW.below {w' w'' : World} {lb : Nat} {u v x y : Value} (h : MidW wr w' lb u v x y) (hl : lb = wr.heap.size) (hb : Below w'.heap.size w' w'') : MidW wr w'' lb u v x y :=
  ⟨Nat.le_trans h.size hb.size, fun b hb' => (hb.block b (by have := h.size; omega)).trans (h.keep b hb'), h.keepC.trans (KeepC.of_below hb), keep_b hb h.box, h.bel.trans (hb.mono (by have := h.size; omega))⟩
theorem MidW.set2 {w' : World} {lb : Nat} {u v x y : Value} (h : MidW wr w' lb u v x y) (z : Value) : MidW wr (w'.setCell ⟨lb, 2, none⟩ z) lb u v z y :=
  ⟨by have h2 := h.size; rw [World.size_setCell]; exact h2, fun b hb => (Below.heap_setCell _ _ _ _ (by show b ≠ lb; omega)).trans (h.keep b hb), h.keepC.trans (KeepC.of_set h.box (.inl rfl) rfl z), lv_set2 h.box, h.bel.setCell (p := ⟨lb, 2, none⟩) (Nat.le_refl _) z⟩
theorem MidW.set3 {w' : World} {lb : Nat} {u v x y : Value} (h : MidW wr w' lb u v x y) (z : Value) : MidW wr (w'.setCell ⟨lb, 3, none⟩ z) lb u v x z :=
  ⟨by have h2 := h.size; rw [World.size_setCell]; exact h2, fun b hb => (Below.heap_setCell _ _ _ _ (by show b ≠ lb; omega)).trans (h.keep b hb), h.keepC.trans (KeepC.of_set h.box (.inl rfl) rfl z), lv_set3 h.box, h.bel.setCell (p := ⟨lb, 3, none⟩) (Nat.le_refl _) z⟩
/-- the copy so far, while a level is being copied -/
theorem CopyI.mid {w' : World} {u v x y : Value} (h : CopyI w0 t g A1 c1 A2 c2 A3 c3 k A4 c4 ls' f wr) (hm : MidW wr w' wr.heap.size u v x y) : CopyI w0 t g A1 c1 A2 c2 A3 c3 k A4 c4 ls' f w' :=
  h.other (h.bel.trans (hm.bel.mono h.bel.size)) hm.size hm.keepC (hm.keep g (lt_of_heap h.box)) fun b hb => hm.keep b (ownV_lt h.i4 hb).2
theorem CopyI.step {w5 w6 : World} {lo : Nat} {A7 : Option Addr} {c7 : Nat} {y l : Lv} (h : CopyI w0 t g A1 c1 A2 c2 A3 c3 k A4 c4 ls' f w5) (hlo : f k ≤ lo) (hy : LvO w5 lo w5.heap.size y) (hl : t.ls[k]? = some l) (hsm : sameLv y l)
    (HO7 : OwnV w6 w0.heap.size A7 c7 (ls' ++ [y])) (HG7 : w5.grownBy w6 (Value.slice A4 k c4).ownBlock) :
    CopyI w0 t g A1 c1 A2 c2 A3 c3 (k + 1) A7 c7 (ls' ++ [y]) (fun j => if j ≤ k then f j else w5.heap.size) (w6.setCell ⟨g, 2, none⟩ (.slice A7 (k + 1) c7)) := by
  have hk6 := KeepC.of_app h.i4 HG7
  have hb6 := h.i4.ty_kept h.box (by decide) HG7
  have hk7 : KeepC w6 (w6.setCell ⟨g, 2, none⟩ (.slice A7 (k + 1) c7)) := KeepC.of_set hb6 (.inr rfl) rfl _
  have hkk := hk6.trans hk7
  have hgr : Below w0.heap.size w0 w6 := h.bel.grown HG7 h.bel.size (fun b hb => (World.ownsRow.lt h.i4 b (by rw [h.len]; exact hb)).1)
  have hsz : w5.heap.size ≤ w6.heap.size := HG7.size
  have hlen := h.len
  refine ⟨hgr.setCell (p := ⟨g, 2, none⟩) h.gg _, h.gg, by rw [lv_set2 hb6], h.i1.keepC (by decide) (by decide) hkk, h.i2.keepC hkk, h.i3.keepC (by decide) (by decide) hkk, HO7.same fun b hb => Below.heap_setCell _ _ _ _ (ownV_off HO7 hb6 (by decide) b hb), by rw [List.length_append, hlen]; rfl, fun j x hx => ?_, fun b hb => ?_, by rw [if_pos (Nat.zero_le _)]; exact h.fb, fun j => ?_, ?_, fun j x hx => ?_⟩
  · rw [List.getElem?_append] at hx
    split at hx
    · exact h.rel j x hx
    · next hj =>
      have hj0 : j - ls'.length = 0 := by
        have := (List.getElem?_eq_some_iff.1 hx).1
        simp at this; omega
      rw [hj0] at hx
      simp at hx
      subst hx
      obtain rfl : j = k := by omega
      exact ⟨l, hl, hsm⟩
  · rw [if_pos (Nat.zero_le _)]; exact h.f0 b hb
  · by_cases e1 : j + 1 ≤ k
    · rw [if_pos (by omega), if_pos e1]; exact h.fm j
    · by_cases e2 : j ≤ k
      · rw [if_pos e2, if_neg e1]
        obtain rfl : j = k := by omega
        exact h.fk
      · rw [if_neg e2, if_neg e1]; exact Nat.le_refl _
  · rw [if_neg (by omega), World.size_setCell]; exact hsz
  · rw [List.getElem?_append] at hx
    split at hx
    · next hj =>
      rw [if_pos (by omega), if_pos (by omega)]
      exact (h.rows j x hx).keepC hkk
    · next hj =>
      have hj0 : j - ls'.length = 0 := by
        have := (List.getElem?_eq_some_iff.1 hx).1
        simp at this; omega
      rw [hj0] at hx
      simp at hx
      subst hx
      obtain rfl : j = k := by omega
      rw [if_pos (Nat.le_refl _), if_neg (by omega)]
      have hy' := hy.keepC hkk
      exact ⟨hy'.pos.mono hlo, hy'.crd.mono hlo, hy'.posHi, hy'.crdHi, hy'.apart, hy'.n0, hy'.m0, hy'.k0, hy'.s0, hy'.n1, hy'.m1⟩
end
end Go.Proofs.Ytfimnmdcbnfhfaa
