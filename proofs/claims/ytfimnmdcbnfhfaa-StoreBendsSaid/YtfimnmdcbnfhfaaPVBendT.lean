/- Copies that are bent read as tensors. -/
import Derived.Test.YtfimnmdcbnfhfaaPVBendM
import Derived.Test.YtfimnmdcbnfhfaaPVCopy
namespace Go.Proofs.Ytfimnmdcbnfhfaa
open Go.RowKit

theorem ten_own {w : World} {b : Nat} {t : Ten} {A1 A2 A4 A7 : Option Addr} {c1 c2 c4 c7 v : Nat} {ls' : List Lv} {vs' : List Int} {w0 : World} (ht : t.In w0 w0.heap.size) (i1 : OwnI w b 3 A1 c1 t.xs) (i2 : OwnS w b A2 c2 t.fs) (i4 : OwnV w b A4 c4 ls') (len : ls'.length = t.ln) (rows : ∀ x ∈ ls', x.In w w.heap.size) (iv : Ints w w.heap.size A7 v vs') (hvc : v ≤ c7) (hv1 : v ≤ 100000) :
    Ten.In w w.heap.size ⟨A1, t.n, c1, t.xs, A2, t.fn, c2, t.fs, A4, t.ln, c4, ls', A7, v, c7, vs'⟩ := by
  have e1 := i1.ints
  have e2 := i2.specs ht.form.2.1
  have e4 := i4.lvs rows
  have k1 := i1.cap
  have k2 := i2.lenCap
  have k4 := i4.lenCap
  rw [ht.shape.1] at e1 k1
  rw [ht.form.1] at e2 k2
  rw [len] at e4 k4
  exact ⟨e1, e2, e4, iv, k1, k2, k4, hvc, ht.n1, ht.f1, ht.l1, hv1⟩
section
variable {w0 wr : World} {t : Ten} {g : Nat} {A1 A2 A3 A4 : Option Addr} {c1 c2 c3 c4 k : Nat} {ls' : List Lv} {f : Nat → Nat}
theorem CopyI.same (h : CopyI w0 t g A1 c1 A2 c2 A3 c3 k A4 c4 ls' f wr) (hk : k = t.ln) (hl : t.ls.length = t.ln) : SameLs t.ls ls' := by
  refine ⟨h.len.trans (hk.trans hl.symm), fun j l m h1 h2 => ?_⟩
  obtain ⟨m', h3, e1, e2, _, _, e5, e6⟩ := h.rel j l h1
  rw [h2] at h3
  cases h3
  exact ⟨e1, e2, e5, e6⟩
theorem CopyI.rowsT {w' : World} {ty : TypeId} (h : CopyI w0 t g A1 c1 A2 c2 A3 c3 k A4 c4 ls' f wr) (h1 : 3 ≠ ty) (hk : KeepT ty wr w') : ∀ x ∈ ls', x.In w' w'.heap.size := fun x hx => by
  obtain ⟨j, hj⟩ := List.mem_iff_getElem?.1 hx
  exact ((h.rows j x hj).keepT h1 hk).in_
/-- numbers in place of the copy's -/
theorem CopyI.vals {w' : World} {A7 : Option Addr} {c7 v : Nat} {vs' : List Int} {wt : World} (ht : t.In wt wt.heap.size) (h : CopyI w0 t g A1 c1 A2 c2 A3 c3 t.ln A4 c4 ls' f wr) (hk : KeepT 2 wr w') (iv : Ints w' w'.heap.size A7 v vs') (hvc : v ≤ c7) (hv1 : v ≤ 100000) :
    Ten.In w' w'.heap.size ⟨A1, t.n, c1, t.xs, A2, t.fn, c2, t.fs, A4, t.ln, c4, ls', A7, v, c7, vs'⟩ :=
  ten_own ht (h.i1.keepT (by decide) hk) (h.i2.keepT (by decide) hk) (h.i4.keepT (by decide) hk) h.len (h.rowsT (by decide) hk) iv hvc hv1
theorem CopyI.vals2 {w' w'' : World} {A7 : Option Addr} {c7 v : Nat} {vs' : List Int} {wt : World} (ht : t.In wt wt.heap.size) (h : CopyI w0 t g A1 c1 A2 c2 A3 c3 t.ln A4 c4 ls' f wr) (hk : KeepT 2 wr w') (hk2 : KeepT 34 w' w'') (iv : Ints w'' w''.heap.size A7 v vs') (hvc : v ≤ c7) (hv1 : v ≤ 100000) :
    Ten.In w'' w''.heap.size ⟨A1, t.n, c1, t.xs, A2, t.fn, c2, t.fs, A4, t.ln, c4, ls', A7, v, c7, vs'⟩ :=
  ten_own ht ((h.i1.keepT (by decide) hk).keepT (by decide) hk2) ((h.i2.keepT (by decide) hk).keepT (by decide) hk2) ((h.i4.keepT (by decide) hk).keepT (by decide) hk2) h.len (fun x hx => by
    obtain ⟨j, hj⟩ := List.mem_iff_getElem?.1 hx
    exact (((h.rows j x hj).keepT (by decide) hk).keepT (by decide) hk2).in_) iv hvc hv1
theorem CopyI.rebase {w3 : World} (h : CopyI w0 t g A1 c1 A2 c2 A3 c3 k A4 c4 ls' f wr) (hb : Below w3.heap.size w3 wr) (hs : w3.heap.size ≤ w0.heap.size) : CopyI w3 t g A1 c1 A2 c2 A3 c3 k A4 c4 ls' f wr :=
  ⟨hb, Nat.le_trans hs h.gg, h.box, h.i1.mono hs, h.i2.mono hs, h.i3.mono hs, h.i4.mono hs, h.len, h.rel, h.f0, Nat.le_trans hs h.fb, h.fm, h.fk, h.rows⟩
/-- over a write into a tensor's variable -/
theorem CopyI.tset {w' : World} {q : Nat} {cs : Array Value} (h : CopyI w0 t g A1 c1 A2 c2 A3 c3 k A4 c4 ls' f wr) (hq : wr.heap[q]? = some (.cells cs 34 (0, 0))) (hg : g ≠ q) (hb : Below w0.heap.size w0 w') (hs : wr.heap.size ≤ w'.heap.size) (ho : ∀ b, b ≠ q → w'.heap[b]? = wr.heap[b]?) : CopyI w0 t g A1 c1 A2 c2 A3 c3 k A4 c4 ls' f w' :=
  h.other hb hs (fun b cur ty _ h2 hb' => ho b fun e => by subst e; rw [hq] at hb'; injection hb' with hb'; injection hb' with _ hb'; exact h2 hb'.symm) (ho g hg) fun b hb' => ho b (ownV_off h.i4 hq (by decide) b hb')
/-- another size of a level -/
theorem CopyI.size_ {wt : World} {b R : Nat} {l : Lv} {z : Int} (ht : t.In wt wt.heap.size) (h : CopyI w0 t g A1 c1 A2 c2 A3 c3 t.ln (some ⟨b, 0, none⟩) c4 ls' f wr) (hl : ls'[R]? = some l) (hz : -9223372036854775808 ≤ z ∧ z ≤ 9223372036854775807) :
    Ten.In (wr.setCell ⟨b, 4 * R + 1, none⟩ (.int .i64 z)) (wr.setCell ⟨b, 4 * R + 1, none⟩ (.int .i64 z)).heap.size ⟨A1, t.n, c1, t.xs, A2, t.fn, c2, t.fs, some ⟨b, 0, none⟩, t.ln, c4, ls'.set R { l with s := z }, A3, t.vn, c3, t.vs⟩ := by
  have hb : ∃ cur, wr.heap[b]? = some (.cells cur 63 (0, 0)) := by
    rcases h.i4.heap with h1 | ⟨g', cur, h1, _, h3⟩
    · cases h1
    · injection h1 with h1; injection h1 with h1; subst h1; exact ⟨cur, h3⟩
  obtain ⟨cur, hb⟩ := hb
  have hk : KeepT 63 wr (wr.setCell ⟨b, 4 * R + 1, none⟩ (.int .i64 z)) := KeepT.of_set hb rfl _
  have e3 := (h.i3.keepT (by decide) hk).ints
  have k3 := h.i3.cap
  rw [ht.vals.1] at e3 k3
  refine ten_own ht (h.i1.keepT (by decide) hk) (h.i2.keepT (by decide) hk) (h.i4.set1 hl z) (by rw [List.length_set]; exact h.len) (fun x hx => ?_) e3 k3 ht.v1
  rcases List.mem_or_eq_of_mem_set hx with hx | rfl
  · exact h.rowsT (by decide) hk x hx
  · have hi := h.rowsT (by decide) hk l (List.mem_of_getElem? hl)
    exact ⟨hi.k0, hz, hi.pos, hi.crd, hi.n1, hi.m1, hi.nc, hi.me⟩
theorem cellsV_ys (ls : List Lv) (R : Nat) (l : Lv) (h : ls[R]? = some l) (ys : List Int) : cellsV (ls.set R { l with ys := ys }) = cellsV ls := by
  induction ls generalizing R with
  | nil => rfl
  | cons y ls ih =>
    cases R with
    | zero => simp at h; subst h; rfl
    | succ R => rw [List.set_cons_succ, cellsV, cellsV, ih R (by simpa using h)]
/-- the blocks of levels behind -/
theorem CopyI.mono_f (h : CopyI w0 t g A1 c1 A2 c2 A3 c3 k A4 c4 ls' f wr) {i j : Nat} (hij : i ≤ j) : f i ≤ f j := by
  induction j with
  | zero => obtain rfl : i = 0 := by omega
            exact Nat.le_refl _
  | succ j ih =>
    by_cases e : i = j + 1
    · subst e; exact Nat.le_refl _
    · exact Nat.le_trans (ih (by omega)) (h.fm j)
set_option maxRecDepth 100000 in
theorem run_take64 {w : World} (A : Option Addr) (n c k : Nat) (hk : k ≤ n) (hc : n ≤ c) : (Instr.slice 32 (.slice A n c) none (some (.int .i64 (k : Int))) none).run Try.prog w = .ok (.slice A k c) w := by
  obtain ⟨i0, hi0, hz0, hz1, hz2⟩ := info_parts infoInt64
  rw [run_slice_h w 32 A n c (by kernel_rfl) .i64 (k : Int) (by omega) (by omega)]
  have hs : (sizeOf (Try.prog.elem 32)).run Try.prog w = .ok 1 w := by
    have he : Try.prog.elem 32 = 2 := by kernel_rfl
    rw [he]; simp [sizeOf, typeInfo, hi0, hz1]
  rw [hs]
  simp only [Result.andThen, sliced, Int.toNat_natCast, Nat.zero_mul, Nat.sub_zero]
  have : (if c = 0 then A else A.map (·.add 0)) = A := by
    split
    · rfl
    · cases A <;> simp [Addr.add]
  rw [this]
/-- another place of a level's child -/
theorem CopyI.crd_ {wt : World} {q R i : Nat} {l : Lv} {z : Int} (ht : t.In wt wt.heap.size) (h : CopyI w0 t g A1 c1 A2 c2 A3 c3 t.ln A4 c4 ls' f wr) (hl : ls'[R]? = some l) (hq : l.B = some ⟨q, 0, none⟩) (hz : -9223372036854775808 ≤ z ∧ z ≤ 9223372036854775807) :
    Ten.In (wr.setCell ⟨q, i, none⟩ (.int .i64 z)) (wr.setCell ⟨q, i, none⟩ (.int .i64 z)).heap.size ⟨A1, t.n, c1, t.xs, A2, t.fn, c2, t.fs, A4, t.ln, c4, ls'.set R { l with ys := l.ys.set i z }, A3, t.vn, c3, t.vs⟩ := by
  have hLO := h.rows R l hl
  obtain ⟨cur, hb, hqlo⟩ := ownI_blk hLO.crd hq
  have hk : KeepT 3 wr (wr.setCell ⟨q, i, none⟩ (.int .i64 z)) := KeepT.of_set hb rfl _
  have hqhi := hLO.crdHi q hq
  have hoth : ∀ {base c : Nat} {A : Option Addr} {xs : List Int}, OwnI wr base 3 A c xs → (∀ b, A = some ⟨b, 0, none⟩ → b ≠ q) → OwnI (wr.setCell ⟨q, i, none⟩ (.int .i64 z)) base 3 A c xs := fun ho hne => ownI_same ho fun b hb' => Below.heap_setCell _ _ _ _ (hne b hb')
  have e3 := (h.i3.keepT (by decide) hk).ints
  have k3 := h.i3.cap
  rw [ht.vals.1] at e3 k3
  have i4 : OwnV (wr.setCell ⟨q, i, none⟩ (.int .i64 z)) w0.heap.size A4 c4 (ls'.set R { l with ys := l.ys.set i z }) := by
    have := h.i4.keepT (by decide) hk
    unfold OwnV at this ⊢
    rw [List.length_set, cellsV_ys ls' R l hl]
    exact this
  refine ten_own ht (hoth h.i1 fun b hb' => ?_) (h.i2.keepT (by decide) hk) i4 (by rw [List.length_set]; exact h.len) (fun x hx => ?_) e3 k3 ht.v1
  · have h1 := h.f0 b hb'
    have h2 := h.mono_f (Nat.zero_le R)
    omega
  · obtain ⟨j, hj⟩ := List.mem_iff_getElem?.1 hx
    by_cases e : j = R
    · subst e
      rw [List.getElem?_set_self (by have := (List.getElem?_eq_some_iff.1 hl).1; exact this)] at hj
      cases hj
      have hpos := hoth hLO.pos fun b hb' e' => by subst e'; exact hLO.apart b hb' hq
      have hcrd : OwnI (wr.setCell ⟨q, i, none⟩ (.int .i64 z)) (f j) 3 l.B l.e (l.ys.set i z) := by
        have := hLO.crd
        rw [hq] at this ⊢
        exact this.set_ i z hz
      exact LvO.in_ (lo := f j) (hi := f (j + 1)) ⟨hpos, hcrd, hLO.posHi, hLO.crdHi, hLO.apart, hLO.n0, (List.length_set ..).trans hLO.m0, hLO.k0, hLO.s0, hLO.n1, hLO.m1⟩
    · rw [List.getElem?_set_ne (by omega)] at hj
      have hX := h.rows j x hj
      have hne : ∀ b, f j ≤ b → b < f (j + 1) → b ≠ q := by
        intro b h1 h2 e'
        subst e'
        rcases Nat.lt_or_ge j R with h3 | h3
        · have := h.mono_f (show j + 1 ≤ R by omega); omega
        · have := h.mono_f (show R + 1 ≤ j by omega); omega
      have hpos := hoth hX.pos fun b hb' => hne b (ownI_blk hX.pos hb').choose_spec.2 (hX.posHi b hb')
      have hcrd := hoth hX.crd fun b hb' => hne b (ownI_blk hX.crd hb').choose_spec.2 (hX.crdHi b hb')
      exact LvO.in_ (lo := f j) (hi := f (j + 1)) ⟨hpos, hcrd, hX.posHi, hX.crdHi, hX.apart, hX.n0, hX.m0, hX.k0, hX.s0, hX.n1, hX.m1⟩
end
/-- a copy's own slices, but its numbers -/
structure OwnX (w : World) (b : Nat) (t : Ten) (A1 : Option Addr) (c1 : Nat) (A2 : Option Addr) (c2 : Nat) (A4 : Option Addr) (c4 : Nat) (ls' : List Lv) : Prop where
  i1 : OwnI w b 3 A1 c1 t.xs
  i2 : OwnS w b A2 c2 t.fs
  i4 : OwnV w b A4 c4 ls'
  len : ls'.length = t.ln
  rows : ∀ x ∈ ls', ∃ lo hi, LvO w lo hi x
section
variable {w w' : World} {b : Nat} {t : Ten} {A1 A2 A4 : Option Addr} {c1 c2 c4 : Nat} {ls' : List Lv}
theorem CopyI.ownX {w0 wr : World} {g : Nat} {A3 : Option Addr} {c3 : Nat} {f : Nat → Nat} (h : CopyI w0 t g A1 c1 A2 c2 A3 c3 t.ln A4 c4 ls' f wr) : OwnX wr w0.heap.size t A1 c1 A2 c2 A4 c4 ls' :=
  ⟨h.i1, h.i2, h.i4, h.len, fun x hx => by
    obtain ⟨j, hj⟩ := List.mem_iff_getElem?.1 hx
    exact ⟨_, _, h.rows j x hj⟩⟩
theorem OwnX.keepT {ty : TypeId} (h : OwnX w b t A1 c1 A2 c2 A4 c4 ls') (h1 : 3 ≠ ty) (h2 : 66 ≠ ty) (h3 : 63 ≠ ty) (hk : KeepT ty w w') : OwnX w' b t A1 c1 A2 c2 A4 c4 ls' :=
  ⟨h.i1.keepT h1 hk, h.i2.keepT h2 hk, h.i4.keepT h3 hk, h.len, fun x hx => by
    obtain ⟨lo, hi, h5⟩ := h.rows x hx
    exact ⟨lo, hi, h5.keepT h1 hk⟩⟩
theorem OwnX.below (h : OwnX w b t A1 c1 A2 c2 A4 c4 ls') (hb : Below w.heap.size w w') : OwnX w' b t A1 c1 A2 c2 A4 c4 ls' :=
  ⟨h.i1.below hb (Nat.le_refl _), h.i2.below hb (Nat.le_refl _), h.i4.below hb (Nat.le_refl _), h.len, fun x hx => by
    obtain ⟨lo, hi, h5⟩ := h.rows x hx
    exact ⟨lo, hi, h5.keepC (KeepC.of_below hb)⟩⟩
theorem OwnX.in_ {wt : World} {A7 : Option Addr} {c7 v : Nat} {vs' : List Int} (h : OwnX w b t A1 c1 A2 c2 A4 c4 ls') (ht : t.In wt wt.heap.size) (iv : Ints w w.heap.size A7 v vs') (hvc : v ≤ c7) (hv1 : v ≤ 100000) :
    Ten.In w w.heap.size ⟨A1, t.n, c1, t.xs, A2, t.fn, c2, t.fs, A4, t.ln, c4, ls', A7, v, c7, vs'⟩ :=
  ten_own ht h.i1 h.i2 h.i4 h.len (fun x hx => by
    obtain ⟨lo, hi, h5⟩ := h.rows x hx
    exact h5.in_) iv hvc hv1
end
end Go.Proofs.Ytfimnmdcbnfhfaa
