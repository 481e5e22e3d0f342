/- store.Read: all entries of a stored tensor, in order. -/
import Derived.Test.YteepiifhmbcciaaG12
import Derived.Laws.EntriesVeiled
import Derived.Deep.DeepCutAuto
import Derived.Deep.RegionHeld3
import Derived.Deep.RegionLaw
import Derived.Shelf.Sort.Plain
import Derived.Shelf.Slices.In.SortNone
import Derived.Test.YteepiifhmbcciaaG1
import Derived.Test.YteepiifhmbcciaaProg
import Derived.Test.YteepiifhmbcciaaG2
import Derived.RangeFuncBox
import Derived.RangeFuncWrites
import Derived.Maps.AppendAt
import Derived.Sort.OwnSortedInts
import Derived.Test.YteepiifhmbcciaaG9
import Derived.Test.YteepiifhmbcciaaG10
import Derived.Lib.QuietBelow
namespace Go.Proofs.Yteepiifhmbcciaa
open Go.RowKit

theorem heapPast_ {w : World} {g : Nat} {v : Obj} (o : Obj) (h : w.heap[g]? = some v) : (w.alloc o).heap[g]? = some v := (Below.heap_alloc w o g (lt_of_heap h)).trans h
theorem down_all (b : RB) (t : Ten) (hT : Tok t.xs t.fs t.ls) (hv : t.vn = ahN t.ls t.ln) : ∀ j k, k + j = t.ln → DownAt b t k := by
  intro j
  induction j with
  | zero => intro k hk; rw [Nat.add_zero] at hk; subst hk; exact down_last b t hT hv
  | succ j ih => intro k hk; exact down_node b t hT k (by omega) (ih (k + 1) (by omega))
theorem loN_all {ls : List Lv} (j : Nat) : ∀ k, k + j = ls.length → levE ls ls.length = 0 → loN (ls.drop k) (ahN ls k) = ahN ls ls.length := by
  induction j with
  | zero =>
    intro k hk _
    rw [Nat.add_zero] at hk
    subst hk
    rw [List.drop_of_length_le (Nat.le_refl _)]; rfl
  | succ j ih =>
    intro k hk he
    obtain ⟨l, hl⟩ : ∃ l, ls[k]? = some l := ⟨_, List.getElem?_eq_getElem (by omega)⟩
    have hL := lok_at he (by omega) hl
    rw [loN_drop hl, hL.last, ← ahN_succ hl]
    exact ih (k + 1) (by omega) he
theorem tenE_tok {t : Ten} (h : tenE t = 0) (hl : t.ls.length = t.ln) : Tok t.xs t.fs t.ls := by
  obtain ⟨h1, h2, h3, _, h5⟩ := tenE_small h
  exact ⟨h1, h2, by rw [hl]; exact h3, h5⟩
def ReadPost (w : World) (t : Ten) (e : Ending) (w' : World) : Prop :=
  Below w.heap.size w w' ∧ ((tenE t ≠ 0 ∧ e = .returned (.tuple #[.agg #[.slice none 0 0, .slice none 0 0], .int .i64 (tenE t)])) ∨ (tenE t = 0 ∧ ∃ (A1 : Option Addr) (c1 : Nat) (A3 : Option Addr) (c3 : Nat) (Ts : List Ent), e = .returned (.tuple #[.agg #[.slice A1 t.n c1, .slice A3 t.vn c3], .int .i64 0]) ∧ OwnI w' w.heap.size 3 A1 c1 t.xs ∧ OwnE w' w.heap.size A3 c3 Ts ∧ (∀ x ∈ Ts, OwnP w' w.heap.size x) ∧ Ts.map keyE = entK t t.vn))
theorem OwnI.keepF {bx gc base c : Nat} {A : Option Addr} {xs : List Int} {w w' : World} (h : OwnI w base 3 A c xs) (hk : KeepF bx gc w w') (hne : ∀ b, A = some ⟨b, 0, none⟩ → b ≠ bx ∧ b ≠ gc) : OwnI w' base 3 A c xs := by
  refine ⟨⟨h.1.1, ?_⟩, h.2⟩
  rcases h.1.2 with hh | ⟨g, cap, cur, h1, h2, h3, h4⟩
  · exact .inl hh
  · have hA : A = some ⟨g, 0, none⟩ := by injection h1
    obtain ⟨n1, n2⟩ := hne g hA
    exact .inr ⟨g, cap, cur, h1, h2, hk.2 _ _ _ h3 (by decide) n1 n2, h4⟩
theorem ownE_mono {w : World} {base base' c : Nat} {A : Option Addr} {L : List Ent} (h : OwnE w base A c L) (hb : base' ≤ base) : OwnE w base' A c L := by
  refine ⟨h.1, ?_⟩
  rcases h.2 with hh | ⟨g, cap, cur, h1, h2, h3⟩
  · exact .inl hh
  · exact .inr ⟨g, cap, cur, h1, by omega, h3⟩
theorem OwnI.blk {w : World} {base c : Nat} {e : TypeId} {A : Option Addr} {xs : List Int} (h : OwnI w base e A c xs) : ∀ b, A = some ⟨b, 0, none⟩ → b < w.heap.size := by
  intro b hb
  rcases h.1.2 with ⟨h1, _⟩ | ⟨g, cap, cur, h1, h2, h3, h4⟩
  · rw [hb] at h1; injection h1 with h1; cases h1
  · rw [hb] at h1
    injection h1 with h1
    injection h1 with h1
    injection h1 with h1
    subst h1
    exact lt_of_heap h3
theorem loN_zero {ls : List Lv} (j : Nat) : ∀ k, k + j = ls.length → levE ls ls.length = 0 → loN (ls.drop k) 0 = 0 := by
  induction j with
  | zero =>
    intro k hk _
    rw [List.drop_of_length_le (by omega)]; rfl
  | succ j ih =>
    intro k hk he
    obtain ⟨l, hl⟩ : ∃ l, ls[k]? = some l := ⟨_, List.getElem?_eq_getElem (by omega)⟩
    rw [loN_drop hl, (lok_at he (by omega) hl).first]
    exact ih (k + 1) (by omega) he
/-- behind the list that is made -/
structure R4 (w1 w : World) (t : Ten) (bx : Nat) (A1 A3 : Option Addr) (c1 c3 : Nat) : Prop where
  bel : Below w1.heap.size w1 w
  box : w.heap[bx]? = some (.cells #[.slice A1 t.n c1, .slice A3 0 c3] 36 (0, 0))
  shp : OwnI w w1.heap.size 3 A1 c1 t.xs
  ents : OwnE w w1.heap.size A3 c3 []
  new : w1.heap.size ≤ bx
/-- behind the place and the steps -/
structure R5 (w1 w : World) (t : Ten) (bs bc gc gs : Nat) : Prop where
  bel : Below w1.heap.size w1 w
  sc : w.heap[bc]? = some (.cells #[.slice (some ⟨gc, 0, none⟩) t.n t.n] 22 (0, 0))
  ss : w.heap[bs]? = some (.cells #[.slice (some ⟨gs, 0, none⟩) t.fn t.fn] 22 (0, 0))
  cur : w.heap[gc]? = some (.cells (List.replicate t.n (.int .i64 0)).toArray 3 (0, 0))
  sg : w.heap[gs]? = some (.cells (stC (stepK t.fs t.fn)).toArray 3 (0, 0))
  new : w1.heap.size ≤ bc ∧ w1.heap.size ≤ bs ∧ w1.heap.size ≤ gc ∧ w1.heap.size ≤ gs ∧ gc ≠ gs
def zcE (N : Nat) : Array Value := madeCells #[.slice none 0 0, .int .i64 0] (N * 2)
theorem run_makeE0 (N : Nat) (hN : N ≤ 100000) (w : World) :
    (Instr.makeSlice 34 (.int .i64 0) (.int .i64 (N : Int))).run Try.prog w = .ok (.slice (some ⟨w.heap.size, 0, none⟩) 0 N) (w.alloc (.cells (zcE N) 53)) := by
  obtain ⟨i0, hi0, hz0, hz1, hz2⟩ := info_parts infoEnt
  have hr := run_make (P := Try.prog) w 34 53 i0 _ Try.underlying34 hi0 hz0 .i64 .i64 0 N (by omega) (by omega) (by rw [hz2]; omega) (by omega)
  simp only [Int.toNat_natCast, hz1] at hr
  exact hr
theorem ownE_made (w : World) (base N : Nat) (hb : base ≤ w.heap.size) (hN : N ≤ 100000) : OwnE (w.alloc (.cells (zcE N) 53)) base (some ⟨w.heap.size, 0, none⟩) N [] :=
  World.ownsRow_made w _ N hb (by unfold maxLen; omega) (by unfold zcE; rw [size_madeCells])
theorem ownE_made2 (w : World) (o : Obj) (base N : Nat) (hb : base ≤ w.heap.size) (hN : N ≤ 100000) : OwnE ((w.alloc o).alloc (.cells (zcE N) 53)) base (some ⟨w.heap.size + 1, 0, none⟩) N [] := by
  have := ownE_made (w.alloc o) base N (by simp; omega) hN
  rwa [World.size_alloc] at this
theorem ownE_below {w w' : World} {base c : Nat} {A : Option Addr} {L : List Ent} (h : OwnE w base A c L) (hb : Below w.heap.size w w') : OwnE w' base A c L :=
  World.ownsRow.kept h ⟨hb.os, hb.tape, hb.output, hb.size, fun i hi _ => hb.block i hi⟩ (row := none) (by cases hh : (Value.slice A L.length c).ownBlock with | none => exact .inl rfl | some k => exact .inr (by simp))
theorem ownE_belowD {w w' : World} {base c : Nat} {A : Option Addr} {L : List Ent} (h : OwnE w base A c L) (hb : Below w.drew.heap.size w.drew w') : OwnE w' base A c L := ownE_below (w := w.drew) h hb
theorem R4.of_new {w1 wz : World} {t : Ten} {A1 A3 : Option Addr} {c1 c3 q : Nat} (hq : wz.heap.size = q) (h1 : OwnI wz w1.heap.size 3 A1 c1 t.xs) (h2 : OwnE wz w1.heap.size A3 c3 []) (hb : Below w1.heap.size w1 wz) :
    R4 w1 (wz.alloc (.cells #[.slice A1 t.n c1, .slice A3 0 c3] 36)) t q A1 A3 c1 c3 := by
  subst hq
  exact ⟨hb.alloc hb.size _, heap_alloc_new _ _, h1.alloc _, World.ownsRow.alloc h2 _, hb.size⟩
theorem R4.of_two {w1 wz : World} {t : Ten} {A1 : Option Addr} {c1 : Nat} (h1 : OwnI wz w1.heap.size 3 A1 c1 t.xs) (hv : t.vn ≤ 100000) (hb : Below w1.heap.size w1 wz) :
    R4 w1 ((wz.alloc (.cells #[.slice A1 t.n c1, .slice (some ⟨wz.heap.size + 1, 0, none⟩) 0 t.vn] 36)).alloc (.cells (zcE t.vn) 53)) t wz.heap.size A1 (some ⟨wz.heap.size + 1, 0, none⟩) c1 t.vn :=
  ⟨(hb.alloc hb.size _).alloc (by have := hb.size; simp; omega) _, heapPast_ _ (heap_alloc_new _ _), (h1.alloc _).alloc _, ownE_made2 wz _ _ _ hb.size hv, hb.size⟩
theorem R4.of_set {w1 wz : World} {t : Ten} {A1 A3 : Option Addr} {c1 c3 bx : Nat} {u v : Value} (hz : wz.heap[bx]? = some (.cells #[u, v] 36 (0, 0))) (hn : w1.heap.size ≤ bx) (h1 : OwnI wz w1.heap.size 3 A1 c1 t.xs) (h2 : OwnE wz w1.heap.size A3 c3 []) (hb : Below w1.heap.size w1 wz) :
    R4 w1 ((wz.setCell ⟨bx, 0, none⟩ (.slice A1 t.n c1)).setCell ⟨bx, 1, none⟩ (.slice A3 0 c3)) t bx A1 A3 c1 c3 := by
  obtain ⟨k1, k2⟩ := set_two wz bx u v (.slice A1 t.n c1) (.slice A3 0 c3) _ hz
  exact ⟨hb.grown k2 hb.size (fun k hk => by injection hk with hk; omega), k1, ⟨h1.1.kept k2 (rows_ne h1.1 hz (by decide)), h1.2⟩, World.ownsRow.kept h2 k2 (rows_ne h2 hz (by decide)), hn⟩
/-- the closure's beginning -/
theorem read_start {w w1 wd wc W : World} {t : Ten} {bx bs bc gc gs : Nat} {A1 A3 : Option Addr} {c1 c3 : Nat} (ht : t.In w w.heap.size) (hw1 : Below w.heap.size w w1) (hs1 : w.heap.size + 2 ≤ w1.heap.size) (hbt : w1.heap[w.heap.size]? = some t.obj) (h4 : R4 w1 wd t bx A1 A3 c1 c3) (h5 : R5 wd wc t bs bc gc gs)
    (b : RB) (hb : b = ⟨w.heap.size, wc.heap.size + 1, w.heap.size, bx, bc, bs, wc.heap.size, gc, gs, A1, c1⟩) (hW : W = wc.alloc (.cells #[b.fn] 67)) :
    b.Fix t W ∧ b.Dyn t W (cN t.n t.fs t.ls 0 0) [] A3 c3 := by
  subst hb
  subst hW
  have hal : Below wc.heap.size wc (wc.alloc (.cells #[(⟨w.heap.size, wc.heap.size + 1, w.heap.size, bx, bc, bs, wc.heap.size, gc, gs, A1, c1⟩ : RB).fn] 67)) := (Below.refl _ _).alloc (Nat.le_refl _) _
  have z4 := h4.bel.size
  have z5 := h5.bel.size
  have hx := lt_of_heap h4.box
  have hgc := lt_of_heap h5.cur
  obtain ⟨n1, n2, n3, n4, n5⟩ := h5.new
  have n0 := h4.new
  have ne1 : bc ≠ gc := by
    intro e
    have h1 := h5.sc
    rw [e, h5.cur] at h1
    injection h1 with h1
    injection h1 with _ h1
    exact absurd h1 (by decide)
  have ne2 : bs ≠ gc := by
    intro e
    have h1 := h5.ss
    rw [e, h5.cur] at h1
    injection h1 with h1
    injection h1 with _ h1
    exact absurd h1 (by decide)
  have hwd := hw1.trans (h4.bel.mono (by omega))
  have hwc := hwd.trans (h5.bel.mono (by omega))
  have k1 := fun (g : Nat) (o : Obj) (h : wc.heap[g]? = some o) => keep_b hal h
  have k4 := fun (g : Nat) (o : Obj) (h : wd.heap[g]? = some o) => k1 g o (keep_b h5.bel h)
  refine ⟨⟨ht.below (hwc.trans (hal.mono (by omega))), k4 _ _ (keep_b h4.bel hbt), k1 _ _ h5.sc, k1 _ _ h5.ss, k1 _ _ h5.sg, heap_alloc_new _ _, ⟨by show w.heap.size ≤ gc; omega, by show w.heap.size ≤ bx; omega, by show gc < wc.heap.size + 1; omega, by show bx < wc.heap.size + 1; omega, by simp⟩, ?_⟩, ⟨?_, k4 _ _ h4.box, ?_, fun x hx => by cases hx⟩⟩
  · show w.heap.size ≠ bx ∧ w.heap.size ≠ gc ∧ bc ≠ bx ∧ bc ≠ gc ∧ bs ≠ bx ∧ bs ≠ gc ∧ gs ≠ bx ∧ gs ≠ gc ∧ wc.heap.size ≠ bx ∧ wc.heap.size ≠ gc ∧ gc ≠ bx
    refine ⟨by omega, by omega, by omega, ne1, by omega, ne2, by omega, fun e => n5 e.symm, by omega, by omega, by omega⟩
  · have hz : stC (cN t.n t.fs t.ls 0 0) = List.replicate t.n (.int .i64 0) := by unfold stC; simp [cN]
    rw [hz]
    exact k1 _ _ h5.cur
  · exact ownE_mono (ownE_below (ownE_below h4.ents h5.bel) hal) (show w.heap.size ≤ w1.heap.size by omega)
set_option maxRecDepth 100000 in
set_option maxHeartbeats 8000000 in
theorem read_any (t : Ten) (w : World) (ht : t.In w w.heap.size) (hE : tenE t = 0) :
    Calls Try.prog 11 #[t.val] w (ReadPost w t) := by
  have z0 := lvBelow w t.obj
  have z1 := z0.alloc z0.size (.cells #[.slice none 0 0, .slice none 0 0] 36)
  have HC := stCheck_any t ((w.alloc t.obj).alloc (.cells #[.slice none 0 0, .slice none 0 0] 36)) (ht.on z1)
  rw [hE] at HC
  have b1 := zf_two w t.obj (.cells #[.slice none 0 0, .slice none 0 0] 36)
  have b2 := zf_snd w (.cells #[.slice none 0 0, .slice none 0 0] 36) t.obj
  obtain ⟨k0, k1, k2, k3, _⟩ := lvCells b1
  have hv1 := ht.v1
  have hn1 := ht.n1
  go_enter Try.func11, Try.ntmps11
  go_wp2_with fail
  refine HC.mono ?_
  rintro e w1 ⟨rfl, hb1⟩
  have hbt := (hb1.block w.heap.size (by simp; omega)).trans b1
  obtain ⟨m0, m1, m2, m3, _⟩ := lvCells hbt
  have hlt0 := lt_of_heap hbt
  have hT1 := ht.on (z1.trans (hb1.mono z1.size))
  have HT1 := Lib.hid hT1
  have HTw := Lib.hid ht
  have HTok := Lib.hid (tenE_tok hE ht.lvs.1)
  have HVN := Lib.hid (tenE_small hE).2.2.2.1
  have HBT1 := Lib.hid hbt
  have HLo : Hid ([] = entK t (loN (t.ls.drop 0) 0) ∧ loN (t.ls.drop 0) (0 + 1) = t.vn) := by
    have hl := ht.lvs.1
    have he : levE t.ls t.ls.length = 0 := by rw [hl]; exact (tenE_small hE).2.2.1
    have h1 := loN_zero t.ls.length 0 (by omega) he
    have h2 := loN_all t.ls.length 0 (by omega) he
    rw [hl, ← (tenE_small hE).2.2.2.1] at h2
    exact ⟨by rw [h1]; rfl, h2⟩
  have HE := Lib.hid hE
  clear k0 k1 k2 k3
  go_upto_region 4 with fail
  go_cut [5] (fun s wx => ∃ bx A1 A3 c1 c3, s = .pointer (some ⟨bx, 0, none⟩) ∧ R4 w1 wx t bx A1 A3 c1 c3)
  case first =>
    have hr1 := (Below.refl w1.heap.size w1)
    have hmk := fun W => run_makeE0 t.vn hv1 W
    have HK : Hid (∀ W, Below w1.heap.size w1 W → Calls Try.prog 34 #[.slice t.A t.n t.c] W fun e w' => ∃ A6 c6, e = .returned (.slice A6 t.n c6) ∧ OwnI w' w1.heap.size 3 A6 c6 t.xs ∧ Below W.heap.size W w' ∧ Below w1.heap.size w1 w') := fun W hW => (clone_any t.A t.n t.c t.xs W W.heap.size ((HT1.out.shape.below hW).more hW.size) (Nat.le_refl _) hn1).mono fun e w' ⟨A6, c6, h1, h2, h3⟩ => ⟨A6, c6, h1, h2.mono hW.size, h3, hW.trans (h3.mono hW.size)⟩
    have q0 := fun (W : World) (o : Obj) => (newPair W (.slice none 0 0) (.slice none 0 0) 36 o).1
    have q1 := fun (W : World) (o : Obj) => (newPair W (.slice none 0 0) (.slice none 0 0) 36 o).2.1
    have q2 := fun (W : World) (o : Obj) => (newPair W (.slice none 0 0) (.slice none 0 0) 36 o).2.2.1
    have q3 := fun (W : World) (o : Obj) => (newPair W (.slice none 0 0) (.slice none 0 0) 36 o).2.2.2
    have p0 := fun (W : World) (o : Obj) => (pair_cells (zf_snd W (.cells #[.slice none 0 0, .slice none 0 0] 36) o)).1
    have p1 := fun (W : World) (o : Obj) => (pair_cells (zf_snd W (.cells #[.slice none 0 0, .slice none 0 0] 36) o)).2.1
    have p2 := fun (W : World) (o : Obj) => (pair_cells (zf_snd W (.cells #[.slice none 0 0, .slice none 0 0] 36) o)).2.2.1
    have p3 := fun (W : World) (o : Obj) => (pair_cells (zf_snd W (.cells #[.slice none 0 0, .slice none 0 0] 36) o)).2.2.2
    have K0 := fun o => cellPast o m0
    have K1 := fun o => cellPast o m3
    have K2 := fun o o2 => cellPast o2 (cellPast o m0)
    have K3 := fun o o2 => cellPast o2 (cellPast o m3)
    clear hb1 b1 b2 z0 z1 HC hT1 ht hE m1 m2
    go_region_law (go_simp; go_at_call 34; refine (HK.out _ ?b0).mono ?_; (case b0 => first | exact hr1 | exact hr1.drew | exact hr1.alloc (Nat.le_refl _) _ | exact (hr1.alloc (Nat.le_refl _) _).drew | exact (hr1.alloc (Nat.le_refl _) _).alloc (by simp) _ | exact ((hr1.alloc (Nat.le_refl _) _).alloc (by simp) _).drew); rintro x w6 ⟨A6, c6, rfl, HT6, HB, HB0⟩; have yi0 := (HB0.cell (p := ⟨w.heap.size, 0, none⟩) hlt0).trans m0; have yi1 := (HB0.cell (p := ⟨w.heap.size, 3, none⟩) hlt0).trans m3; have Y0 := fun o => cellPast o yi0; have Y1 := fun o => cellPast o yi1; have Y2 := fun o o2 => cellPast o2 (cellPast o yi0); have Y3 := fun o o2 => cellPast o2 (cellPast o yi1); have si := HB0.size; first | (have zi := (HB.block w1.heap.size (by simp)).trans (heap_alloc_new w1 (.cells #[.slice none 0 0, .slice none 0 0] 36)); obtain ⟨t0, t1, t2, t3⟩ := pair_cells zi; have T0 := fun o => cellPast o t0; have T1 := fun o => cellPast o t1; have T2 := fun o => frozenPast o t0 t2; have T3 := fun o => frozenPast o t1 t3) | (have zi := (HB.block w1.heap.size (by simp; omega)).trans (heapPast_ (.cells (zcE t.vn) 53) (heap_alloc_new w1 (.cells #[.slice none 0 0, .slice none 0 0] 36))); obtain ⟨t0, t1, t2, t3⟩ := pair_cells zi; have T0 := fun o => cellPast o t0; have T1 := fun o => cellPast o t1; have T2 := fun o => frozenPast o t0 t2; have T3 := fun o => frozenPast o t1 t3) | (have zi := (HB.block (w1.heap.size + 1) (by simp)).trans (zf_snd w1 (.cells #[.slice none 0 0, .slice none 0 0] 36) (.cells (zcE t.vn) 53)); obtain ⟨t0, t1, t2, t3⟩ := pair_cells zi; have T0 := fun o => cellPast o t0; have T1 := fun o => cellPast o t1; have T2 := fun o => frozenPast o t0 t2; have T3 := fun o => frozenPast o t1 t3) | skip)
    all_goals go_wp2_with fail
    all_goals go_meet
    all_goals first
      | exact ⟨_, _, _, _, _, rfl, R4.of_new (World.size_alloc w6 _) (HT6.alloc _) (ownE_made w6 _ _ HB0.size hv1) (HB0.alloc HB0.size _)⟩
      | exact ⟨_, _, _, _, _, rfl, R4.of_two HT6 hv1 HB0⟩
      | exact ⟨_, _, _, _, _, rfl, R4.of_new rfl HT6 (ownE_below (ownE_made w1 _ _ (Nat.le_refl _) hv1) HB) HB0⟩
      | exact ⟨_, _, _, _, _, rfl, R4.of_set zi (by omega) HT6 (ownE_below (World.ownsRow.alloc (ownE_made w1 _ _ (Nat.le_refl _) hv1) _) HB) HB0⟩
      | exact ⟨_, _, _, _, _, rfl, R4.of_set zi (by omega) HT6 (ownE_below (ownE_made2 w1 _ _ _ (Nat.le_refl _) hv1) HB) HB0⟩
      | exact ⟨_, _, _, _, _, rfl, R4.of_new rfl HT6 (ownE_belowD (ownE_made w1 _ _ (Nat.le_refl _) hv1) HB) HB0⟩
      | exact ⟨_, _, _, _, _, rfl, R4.of_set zi (by omega) HT6 (ownE_belowD (World.ownsRow.alloc (ownE_made w1 _ _ (Nat.le_refl _) hv1) _) HB) HB0⟩
      | exact ⟨_, _, _, _, _, rfl, R4.of_set zi (by omega) HT6 (ownE_belowD (ownE_made2 w1 _ _ _ (Nat.le_refl _) hv1) HB) HB0⟩
      | exact ⟨_, _, _, _, _, rfl, R4.of_set (heapPast_ _ zi) (by omega) (HT6.alloc _) (ownE_made w6 _ _ HB0.size hv1) (HB0.alloc HB0.size _)⟩
  case rest =>
    obtain ⟨bx, A1, A3, c1, c3, rfl, h4⟩ := hcut
    have hwb := h4.bel
    have hbt4 := (hwb.block w.heap.size hlt0).trans hbt
    obtain ⟨n0, n1, n2, n3, _⟩ := lvCells hbt4
    have hlt4 := lt_of_heap hbt4
    have HT4 := Lib.hid (HT1.out.on hwb)
    have HR4 := Lib.hid h4
    have HW1 := Lib.hid (z1.trans (hb1.mono z1.size))
    have hszw1 : w.heap.size + 2 ≤ w1.heap.size := by have := hb1.size; simp at this; omega
    have HB2 := Lib.hid ((hb1.block (w.heap.size + 1) (by simp)).trans b2)
    have hf1 := ht.f1
    obtain ⟨wd, rfl⟩ : ∃ W : World, W = wc := ⟨_, rfl⟩
    have hbt5 := hbt4
    clear m0 m1 m2 m3 hbt hbt4 h4 hb1 b1 b2 z0 z1 HC hT1 hE ht
    go_upto_region 5 with fail
    go_cut [6, 7] (fun s c wx => ∃ bs bc gc gs, s = .pointer (some ⟨bs, 0, none⟩) ∧ c = .pointer (some ⟨bc, 0, none⟩) ∧ R5 wd wx t bs bc gc gs)
    case first =>
      have HK : Hid (∀ W, Below wd.heap.size wd W → Calls Try.prog 35 #[.slice t.F t.fn t.fc] W fun e w' => ∃ g, e = .returned (.slice (some ⟨g, 0, none⟩) t.fn t.fn) ∧ w'.heap[g]? = some (.cells (stC (stepK t.fs t.fn)).toArray 3 (0, 0)) ∧ W.heap.size = g ∧ Below W.heap.size W w' ∧ Below wd.heap.size wd w') := fun W hW => (steps_any t.F t.fn t.fc t.fs W ((HT4.out.form.on hW (Nat.le_refl _)).more hW.size) hf1).mono fun e w' ⟨h1, h2, h3⟩ => ⟨_, h1, h2, rfl, h3, hW.trans (h3.mono hW.size)⟩
      have hcl : ∀ W, Below wd.heap.size wd W → W.cell? ⟨w.heap.size, 0, none⟩ = some (.slice t.A t.n t.c) ∧ W.cell? ⟨w.heap.size, 1, none⟩ = some (.slice t.F t.fn t.fc) := fun W hW => ⟨(hW.cell (p := ⟨w.heap.size, 0, none⟩) hlt4).trans n0, (hW.cell (p := ⟨w.heap.size, 1, none⟩) hlt4).trans n1⟩
      have HCL := Lib.hid hcl
      have hmx : Try.prog.follows .mixedOrders = true := by kernel_rfl
      clear n0 n1 n2 n3 hcl
      refine wp_region_inv (fun a0 L a' w' => ∃ v23 v24 v25 v26 v27 v28 v29 v6 v7 : Value, a' = (Act.put (Act.put (Act.put (Act.put (Act.put (Act.put (Act.put (Act.put (Act.put a0 (some 23) v23) (some 24) v24) (some 25) v25) (some 26) v26) (some 27) v27) (some 28) v28) (some 29) v29) (some 6) v6) (some 7) v7) ∧ F5 wd t w.heap.size L v23 v24 v25 v26 v27 v28 v29 v6 v7 w') hmx (by kernel_rfl) ?_ ?_ ?_
      · refine ⟨u23, u24, u25, u26, u27, u28, u29, undef, undef, by simp [Act.put], ?_⟩
        have hno : ∀ k, k < 11 → ¬ on (Array.replicate 11 false) k := fun k hk h => by unfold on at h; simp [hk] at h
        exact ⟨(Below.refl _ _).drew, fun h => absurd h (hno 0 (by omega)), fun h => absurd h (hno 1 (by omega)), fun h => absurd h (hno 2 (by omega)), fun h => absurd h (hno 3 (by omega)), fun h => absurd h (hno 4 (by omega)), fun h => absurd h (hno 5 (by omega)), fun h => absurd h (hno 6 (by omega)), fun h => absurd h (hno 7 (by omega)), fun h => absurd h (hno 8 (by omega)), fun h => absurd h (hno 9 (by omega)), fun h => absurd h (hno 10 (by omega))⟩
      · rintro L a' w' ⟨v23, v24, v25, v26, v27, v28, v29, v6, v7, rfl, F⟩ hall
        have hon : ∀ k, k < 11 → on L k := fun k hk => by
          exact hall k hk
        obtain ⟨gs, rfl, h5, h6⟩ := F.f2 (hon 2 (by omega))
        obtain ⟨gc, rfl, h8, h9, h10⟩ := F.f6 (hon 6 (by omega))
        obtain ⟨bs, rfl, h2, _, _⟩ := F.f7 (hon 7 (by omega))
        obtain ⟨bc, rfl, h3, _⟩ := F.f8 (hon 8 (by omega))
        have h11 := (F.f9 (hon 9 (by omega))).2.2 bs rfl
        have h12 := (F.f10 (hon 10 (by omega))).2.2 bc rfl
        have HH : Hid (R5 wd w' t bs bc gc gs) := ⟨F.bel, h12, h11, h9, h6, h3, h2, h8, h5, h10 (hon 2 (by omega)) gs rfl⟩
        simp [Act.put]
        clear h11 h12 h9 h6 h10
        go_wp2_with fail
        go_meet
        exact ⟨bs, bc, gc, gs, rfl, rfl, HH.out⟩
      · rintro L a' w' i ⟨v23, v24, v25, v26, v27, v28, v29, v6, v7, rfl, F⟩ hi
        obtain ⟨_, oi, hoi, _⟩ := mem_ready.1 hi
        have hi11 := (Array.getElem?_eq_some_iff.1 hoi).1
        obtain ⟨n0, n1⟩ := HCL.out w' F.bel
        have hii : i < 11 := hi11
        clear hi11
        rcases (by omega : i = 0 ∨ i = 1 ∨ i = 2 ∨ i = 3 ∨ i = 4 ∨ i = 5 ∨ i = 6 ∨ i = 7 ∨ i = 8 ∨ i = 9 ∨ i = 10) with rfl | rfl | rfl | rfl | rfl | rfl | rfl | rfl | rfl | rfl | rfl
        · -- 0
          refine wpOp_of hoi (fun K hK => ?_)
          simp only [List.getElem?_toArray, List.getElem?_cons_zero, Option.some.injEq] at hoi
          subst hoi
          simp only [Act.put]
          go_simp
          refine hK _ _ ⟨_, _, _, _, _, _, _, _, _, ?_, F.s0⟩
          simp [Act.put]
        · -- 1
          obtain rfl := F.f0 (ready_at hi rfl 0 (by kernel_rfl))
          refine wpOp_of hoi (fun K hK => ?_)
          simp only [List.getElem?_toArray, List.getElem?_cons_succ, List.getElem?_cons_zero, Option.some.injEq] at hoi
          subst hoi
          simp only [Act.put]
          go_simp
          refine hK _ _ ⟨_, _, _, _, _, _, _, _, _, ?_, F.s1⟩
          simp [Act.put]
        · -- 2
          obtain rfl := F.f1 (ready_at hi rfl 1 (by kernel_rfl))
          have hun := not_on (mem_ready.1 hi).1
          refine wpOp_of hoi (fun K hK => ?_)
          simp only [List.getElem?_toArray, List.getElem?_cons_succ, List.getElem?_cons_zero, Option.some.injEq] at hoi
          subst hoi
          simp only [Act.put]
          go_simp
          go_at_call 35
          refine (HK.out _ F.bel).mono ?_
          rintro e w6 ⟨g, rfl, hst, hg, hb, hb0⟩
          have hz := F.bel.size
          refine hK _ _ ⟨_, _, _, _, _, _, _, _, _, ?_, (F.world hb).s2 hun (by omega) hst (fun gc e h => by obtain ⟨gc', h1, h2, h3, _⟩ := F.f6 h; rw [h1] at e; injection e with e; injection e with e; injection e with e; subst e; have := lt_of_heap h3; omega)⟩
          simp [Act.put]
        · -- 3
          refine wpOp_of hoi (fun K hK => ?_)
          simp only [List.getElem?_toArray, List.getElem?_cons_succ, List.getElem?_cons_zero, Option.some.injEq] at hoi
          subst hoi
          simp only [Act.put]
          go_simp
          refine hK _ _ ⟨_, _, _, _, _, _, _, _, _, ?_, F.s3⟩
          simp [Act.put]
        · -- 4
          obtain rfl := F.f3 (ready_at hi rfl 3 (by kernel_rfl))
          refine wpOp_of hoi (fun K hK => ?_)
          simp only [List.getElem?_toArray, List.getElem?_cons_succ, List.getElem?_cons_zero, Option.some.injEq] at hoi
          subst hoi
          simp only [Act.put]
          go_simp
          refine hK _ _ ⟨_, _, _, _, _, _, _, _, _, ?_, F.s4⟩
          simp [Act.put]
        · -- 5
          obtain rfl := F.f4 (ready_at hi rfl 4 (by kernel_rfl))
          refine wpOp_of hoi (fun K hK => ?_)
          simp only [List.getElem?_toArray, List.getElem?_cons_succ, List.getElem?_cons_zero, Option.some.injEq] at hoi
          subst hoi
          simp only [Act.put]
          go_simp
          refine hK _ _ ⟨_, _, _, _, _, _, _, _, _, ?_, F.s5⟩
          simp [Act.put]
        · -- 6
          obtain ⟨e1, e2, e3⟩ : oi.op = .makeSlice 22 (.tmp 28) (.tmp 28) ∧ oi.guard = none ∧ oi.dst = some 29 := by
            rw [← Option.some.inj hoi]
            exact ⟨rfl, rfl, rfl⟩
          have q5 := F.f5 (ready_at hi rfl 5 (by kernel_rfl))
          subst q5
          have hun := not_on (mem_ready.1 hi).1
          refine wpOp_of hoi (fun K hK => ?_)
          clear hoi hi
          refine step_make e2 (.tmp 28) t.n e1 (by simp [Act.put, Act.eval]) hn1 ?_
          intro w7 g hg hb hn7
          rw [e3]
          have hz := F.bel.size
          refine hK _ _ ⟨_, _, _, _, _, _, _, _, _, ?_, (F.world hb).s6 hun (by omega) hn7 (fun gs e h => by obtain ⟨gs', h1, h2, h3⟩ := F.f2 h; rw [h1] at e; injection e with e; injection e with e; injection e with e; subst e; have := lt_of_heap h3; omega)⟩
          simp [Act.put]
        · -- 7
          have hun := not_on (mem_ready.1 hi).1
          refine wpOp_of hoi (fun K hK => ?_)
          simp only [List.getElem?_toArray, List.getElem?_cons_succ, List.getElem?_cons_zero, Option.some.injEq] at hoi
          subst hoi
          refine step_box rfl rfl ?_
          intro w7 g hg hb hn7
          have hz := F.bel.size
          refine hK _ _ ⟨_, _, _, _, _, _, _, _, _, ?_, (F.world hb).s7 hun (by omega) hn7 (fun h e => by obtain ⟨bc, h1, h2, y, h3⟩ := F.f8 h; rw [h1] at e; injection e with e; injection e with e; injection e with e; subst e; have := lt_of_heap h3; omega)⟩
          simp [Act.put]
        · -- 8
          have hun := not_on (mem_ready.1 hi).1
          refine wpOp_of hoi (fun K hK => ?_)
          simp only [List.getElem?_toArray, List.getElem?_cons_succ, List.getElem?_cons_zero, Option.some.injEq] at hoi
          subst hoi
          refine step_box rfl rfl ?_
          intro w7 g hg hb hn7
          have hz := F.bel.size
          refine hK _ _ ⟨_, _, _, _, _, _, _, _, _, ?_, (F.world hb).s8 hun (by omega) hn7 (fun bs e h => by obtain ⟨bs', h1, h2, ⟨y, h3⟩, _⟩ := F.f7 h; rw [h1] at e; injection e with e; injection e with e; injection e with e; subst e; have := lt_of_heap h3; omega)⟩
          simp [Act.put]
        · -- 9
          obtain ⟨e1, e2, e3⟩ : oi.op = .store 22 (.tmp 6) (.tmp 25) ∧ oi.guard = none ∧ oi.dst = none := by
            rw [← Option.some.inj hoi]
            exact ⟨rfl, rfl, rfl⟩
          have o2 := ready_at hi rfl 2 (by kernel_rfl)
          have o7 := ready_at hi rfl 7 (by kernel_rfl)
          obtain ⟨bs, hq1, h2, ⟨y, h3⟩, h4⟩ := F.f7 o7
          obtain ⟨gs, hq2, h5, h6⟩ := F.f2 o2
          subst hq1
          subst hq2
          refine wpOp_of hoi (fun K hK => ?_)
          clear hoi hi
          refine step_store1 e2 (.tmp 6) (.tmp 25) e1 bs (by simp [Act.put, Act.eval]) y h3 (some ⟨gs, 0, none⟩) t.fn t.fn (by simp [Act.put, Act.eval]) ?_
          intro w8 hn8 hb8 ho8
          rw [e3]
          refine hK _ _ ⟨_, _, _, _, _, _, _, _, _, ?_, F.s9 rfl o2 o7 h3 hn8 (F.bel.trans (hb8 _ h2)) ho8 (fun b hb h => by intro e; subst e; exact h4 h hb)⟩
          simp [Act.put]
        · -- 10
          obtain ⟨e1, e2, e3⟩ : oi.op = .store 22 (.tmp 7) (.tmp 29) ∧ oi.guard = none ∧ oi.dst = none := by
            rw [← Option.some.inj hoi]
            exact ⟨rfl, rfl, rfl⟩
          have o6 := ready_at hi rfl 6 (by kernel_rfl)
          have o8 := ready_at hi rfl 8 (by kernel_rfl)
          obtain ⟨bc, hq1, h2, y, h3⟩ := F.f8 o8
          obtain ⟨gc, hq2, h5, h6, h7⟩ := F.f6 o6
          subst hq1
          subst hq2
          refine wpOp_of hoi (fun K hK => ?_)
          clear hoi hi
          refine step_store1 e2 (.tmp 7) (.tmp 29) e1 bc (by simp [Act.put, Act.eval]) y h3 (some ⟨gc, 0, none⟩) t.n t.n (by simp [Act.put, Act.eval]) ?_
          intro w8 hn8 hb8 ho8
          rw [e3]
          refine hK _ _ ⟨_, _, _, _, _, _, _, _, _, ?_, F.s10 rfl o6 o8 h3 hn8 (F.bel.trans (hb8 _ h2)) ho8 (fun b hb h => by intro e; subst e; obtain ⟨bs, k1, _, _, k4⟩ := F.f7 h; rw [hb] at k1; injection k1 with k1; injection k1 with k1; injection k1 with k1; subst k1; exact k4 o8 rfl)⟩
          simp [Act.put]
    case rest =>
      obtain ⟨bs, bc, gc, gs, rfl, rfl, h5⟩ := hcut
      obtain ⟨B, hB⟩ : ∃ b : RB, b = ⟨w.heap.size, wc.heap.size + 1, w.heap.size, bx, bc, bs, wc.heap.size, gc, gs, A1, c1⟩ := ⟨_, rfl⟩
      obtain ⟨hFx, hDy⟩ := read_start HTw.out HW1.out hszw1 HBT1.out HR4.out h5 B hB rfl
      obtain ⟨W8, hW8⟩ : ∃ W : World, wc.alloc (.cells #[.func (.func 36) #[] #[.pointer (some ⟨w.heap.size, 0, none⟩), .pointer (some ⟨bx, 0, none⟩), .pointer (some ⟨bc, 0, none⟩), .pointer (some ⟨bs, 0, none⟩), .pointer (some ⟨wc.heap.size, 0, none⟩)]] 67) = W := ⟨_, rfl⟩
      have hfn : B.fn = .func (.func 36) #[] #[.pointer (some ⟨w.heap.size, 0, none⟩), .pointer (some ⟨bx, 0, none⟩), .pointer (some ⟨bc, 0, none⟩), .pointer (some ⟨bs, 0, none⟩), .pointer (some ⟨wc.heap.size, 0, none⟩)] := by rw [hB]
      rw [hfn, hW8] at hFx hDy
      have hsd := hFx.sd
      have hDA := down_all B t HTok.out HVN.out t.ln 0 (by omega) 0 W8 [] A3 c3 (by show 0 < 1; omega) ⟨hFx, hDy, HLo.out.1⟩
      rw [HLo.out.2] at hDA
      have hB1 : B.bt = w.heap.size ∧ B.bx = bx ∧ B.bc = bc ∧ B.bs = bs ∧ B.bd = wc.heap.size ∧ B.B0 = w.heap.size ∧ B.B1 = wc.heap.size + 1 ∧ B.A1 = A1 ∧ B.c1 = c1 ∧ B.gc = gc := by rw [hB]; exact ⟨rfl, rfl, rfl, rfl, rfl, rfl, rfl, rfl, rfl, rfl⟩
      rw [hB1.1, hB1.2.1, hB1.2.2.1, hB1.2.2.2.1, hB1.2.2.2.2.1, show ((0 : Nat) : Int) = 0 from rfl] at hDA
      rw [hB1.2.2.2.2.1, hfn] at hsd
      have y8 := (blk_cell (i := 0) hsd rfl).1
      have HB1 := Lib.hid hB1
      have HH5 := Lib.hid h5
      have HWB : Hid (Below wc.heap.size wc W8) := by unfold Hid; rw [← hW8]; exact (Below.refl _ _).alloc (Nat.le_refl _) _
      have HDA := Lib.hid hDA
      have HFx := Lib.hid hFx
      obtain ⟨wq, rfl⟩ : ∃ W : World, W = wc := ⟨_, rfl⟩
      have HW8 := Lib.hid hW8
      clear hFx hDy hDA hsd hB hfn h5 hB1 hW8 n0 n1 n2 n3
      go_upto_region 8 with fail
      rw [HW8.out]
      go_wp2_with fail
      refine HDA.out.mono ?_
      rintro e w9 ⟨rfl, Ts, A9, c9, hD9, hK9, hb9, hkf9⟩
      obtain ⟨z1, z2, z3, z4, z5, z6, z7, z8, z9, z10⟩ := HB1.out
      have hTl : Ts.length = t.vn := by have := congrArg List.length hK9; rw [List.length_map, entK_length] at this; exact this
      have hbx9 := hD9.box
      rw [z2, z8, z9, hTl] at hbx9
      rw [z6] at hb9
      rw [z2, z10] at hkf9
      have hnew4 := HR4.out.new
      have hnew5 := HH5.out.new
      have zs4 := HR4.out.bel.size
      have zs5 := HH5.out.bel.size
      have zs8 := HWB.out.size
      have hbr := hkf9.2 _ _ _ (keep_b HWB.out (keep_b HH5.out.bel (keep_b HR4.out.bel HB2.out))) (by decide) (by omega) (by omega)
      have hA9 : OwnI w9 w.heap.size 3 A1 c1 t.xs := by
        have h1 := (HR4.out.shp.below HH5.out.bel (Nat.le_refl _)).below HWB.out (Nat.le_refl _)
        refine (h1.keepF hkf9 fun b hb => ?_).mono (by omega)
        have h2 := HR4.out.shp.blk b hb
        have h3 := HR4.out.box
        have h4 : b ≠ bx := by
          intro e
          subst e
          subst hb
          obtain ⟨_, _ | ⟨g, cap, cur, k1, _, k3, _⟩⟩ := HR4.out.shp.1
          · rename_i hh; have := hh.1; cases this
          · injection k1 with k1
            injection k1 with k1
            injection k1 with k1
            subst k1
            rw [h3] at k3
            injection k3 with k3
            injection k3 with _ k3
            exact absurd k3 (by decide)
        exact ⟨h4, by omega⟩
      obtain ⟨x0, x1, xf0, xf1⟩ := pair_cells hbx9
      obtain ⟨r0, r1, rf0, rf1⟩ := pair_cells hbr
      have HA9 := Lib.hid hA9
      have HBR := Lib.hid hbr
      have HD9 := Lib.hid hD9
      have HK9 := Lib.hid hK9
      have HTL := Lib.hid hTl
      have HB9 : Hid (Below w.heap.size w w9) := (((HW1.out.trans (HR4.out.bel.mono (by omega))).trans (HH5.out.bel.mono (by omega))).trans (HWB.out.mono (by omega))).trans hb9
      have HZ : Hid (B.B0 = w.heap.size ∧ w.heap.size ≤ B.B1) := ⟨z6, by omega⟩
      clear hA9 hbr hD9 hK9 hTl hbx9 hb9 hkf9 z1 z2 z3 z4 z5 z6 z7 z8 z9 z10
      go_wp2_with fail
      have hres := set_two w9 (w.heap.size + 1) _ _ (.slice A1 t.n c1) (.slice A9 t.vn c9) _ HBR.out
      obtain ⟨s0, s1, _, _⟩ := pair_cells hres.1
      obtain ⟨wz, hwz⟩ : ∃ wz, (w9.setCell ⟨w.heap.size + 1, 0, none⟩ (.slice A1 t.n c1)).setCell ⟨w.heap.size + 1, 1, none⟩ (.slice A9 t.vn c9) = wz := ⟨_, rfl⟩
      rw [hwz] at hres s0 s1 ⊢
      refine bodyPost_ret (v := .tuple #[.agg #[.slice A1 t.n c1, .slice A9 t.vn c9], .int .i64 0]) (by simp [results, Try.results11, go_sem, s0, s1]) rfl ⟨HB9.out.grown hres.2 HB9.out.size (fun k hk => by injection hk with hk; omega), .inr ⟨HE.out, A1, c1, A9, c9, Ts, rfl, ⟨HA9.out.1.kept hres.2 (rows_ne HA9.out.1 HBR.out (by decide)), HA9.out.2⟩, ?_, ?_, HK9.out⟩⟩
      · have := HD9.out.own
        rw [HZ.out.1] at this
        exact World.ownsRow.kept this hres.2 (rows_ne this HBR.out (by decide))
      · intro x hx
        have hq := HD9.out.pl x hx
        exact ⟨(show OwnI wz B.B1 3 x.A x.c x.cs from ⟨hq.1.1.kept hres.2 (rows_ne hq.1.1 HBR.out (by decide)), hq.1.2⟩).mono HZ.out.2, hq.2⟩
end Go.Proofs.Yteepiifhmbcciaa
/- store.Read, where the tensor may not be; and in one. -/
namespace Go.Proofs.Yteepiifhmbcciaa
open Go.RowKit

set_option maxRecDepth 100000 in
theorem read_err (t : Ten) (w : World) (ht : t.In w w.heap.size) (hE : tenE t ≠ 0) :
    Calls Try.prog 11 #[t.val] w (ReadPost w t) := by
  have z0 := lvBelow w t.obj
  have z1 := z0.alloc z0.size (.cells #[.slice none 0 0, .slice none 0 0] 36)
  have HC := stCheck_any t ((w.alloc t.obj).alloc (.cells #[.slice none 0 0, .slice none 0 0] 36)) (ht.on z1)
  obtain ⟨E, hE2⟩ : ∃ E, tenE t = E := ⟨_, rfl⟩
  rw [hE2] at HC hE
  have HEE := Lib.hid hE2
  have HE := Lib.hid hE
  have e1 : (E != 0) = true := by simpa using hE
  have b1 := zf_two w t.obj (.cells #[.slice none 0 0, .slice none 0 0] 36)
  have b2 := zf_snd w (.cells #[.slice none 0 0, .slice none 0 0] 36) t.obj
  obtain ⟨k0, k1, k2, k3, _⟩ := lvCells b1
  clear hE2 hE
  go_enter Try.func11, Try.ntmps11
  go_wp2_with fail
  refine HC.mono ?_
  rintro e w1 ⟨rfl, hb1⟩
  have HB := Lib.hid (z1.trans (hb1.mono z1.size))
  have hbr := (hb1.block (w.heap.size + 1) (by simp)).trans b2
  obtain ⟨r0, r1, rf0, rf1⟩ := pair_cells hbr
  have HBR := Lib.hid hbr
  clear hbr hb1 b1 b2 z0 z1 HC k0 k1 k2 k3
  go_wp2_with fail
  have hres := set_two w1 (w.heap.size + 1) _ _ (.slice none 0 0) (.slice none 0 0) _ HBR.out
  obtain ⟨s0, s1, _, _⟩ := pair_cells hres.1
  obtain ⟨wz, hwz⟩ : ∃ wz, (w1.setCell ⟨w.heap.size + 1, 0, none⟩ (.slice none 0 0)).setCell ⟨w.heap.size + 1, 1, none⟩ (.slice none 0 0) = wz := ⟨_, rfl⟩
  rw [hwz] at hres s0 s1 ⊢
  exact bodyPost_ret (v := .tuple #[.agg #[.slice none 0 0, .slice none 0 0], .int .i64 E]) (by simp [results, Try.results11, go_sem, s0, s1]) rfl ⟨HB.out.grown hres.2 HB.out.size (fun k hk => by injection hk with hk; omega), .inl ⟨by rw [HEE.out]; exact HE.out, by rw [HEE.out]⟩⟩
theorem stRead_any (t : Ten) (w : World) (ht : t.In w w.heap.size) : Calls Try.prog 11 #[t.val] w (ReadPost w t) := by
  by_cases h : tenE t = 0
  · exact read_any t w ht h
  · exact read_err t w ht h
end Go.Proofs.Yteepiifhmbcciaa
/- slices.Sort at []int, laid out of the library's contract. -/
namespace Go.Proofs.Yteepiifhmbcciaa
open Go.Shelf
end Go.Proofs.Yteepiifhmbcciaa
/- slices.Values, AppendSeq, Collect, Sorted at []int: a new slice that holds the numbers in order. -/
namespace Go.Proofs.Yteepiifhmbcciaa
open Go.RowKit Go.Shelf
attribute [local go_sem] Oper.semAt_some

theorem rowI_form {w : World} {base n : Nat} {e : TypeId} {v : Value} {ys : List Value} (h : w.ownsRow base e 1 v n ys) : ∃ A c, v = .slice A n c := by
  rcases h.2 with ⟨rfl, rfl⟩ | ⟨g, cap, cur, rfl, _⟩
  · exact ⟨_, _, rfl⟩
  · exact ⟨_, _, rfl⟩

/-- the numbers in order -/
def sortI (xs : List Int) : List Int := xs.mergeSort fun x y => decide (x ≤ y)
theorem sortI_perm (xs : List Int) : (sortI xs).Perm xs := List.mergeSort_perm _ _
theorem sortI_nil : sortI [] = [] := by unfold sortI; exact List.mergeSort_nil
theorem sortI_len (xs : List Int) : (sortI xs).length = xs.length := (sortI_perm xs).length_eq

end Go.Proofs.Yteepiifhmbcciaa
/- coo.Count, and the document's, where they have no error. -/
namespace Go.Proofs.Yteepiifhmbcciaa
open Go.RowKit

/-- the number that entry k has in a mode -/
def modeAt (es : List Ent) (md k : Nat) : Nat := ((es[k]?.getD ⟨none, 0, 0, [], 0⟩).cs.getD md 0).toNat
/-- of each place how many -/
def countV (xs : List Int) (md : Nat) (es : List Ent) : List Int := scat (modeAt es md) (xs.getD md 0).toNat (List.replicate es.length 1)
theorem cooF_parts {xs : List Int} {es : List Ent} (h : cooF xs es = 0) : (cellsF xs).2 = 0 ∧ es.length ≤ 65536 ∧ ∀ x ∈ es, insideF xs x.cs = true := by
  unfold cooF at h
  split at h
  · rename_i h1
    split at h
    · simp at h
    · rename_i h2
      split at h
      · rename_i h3; exact ⟨h1, by omega, fun x hx => List.all_eq_true.1 h3 x hx⟩
      · simp at h
  · rename_i h1; exact absurd h h1

/-- of a list that may be, a part may be -/
theorem cooF_take {xs : List Int} {es : List Ent} (h : cooF xs es = 0) (k : Nat) : cooF xs (es.take k) = 0 := by
  obtain ⟨h1, h2, h3⟩ := cooF_parts h
  unfold cooF
  rw [if_pos h1, if_neg (by rw [List.length_take]; omega), if_pos]
  exact List.all_eq_true.2 fun x hx => h3 x (List.mem_of_mem_take hx)
theorem cooF_drop {xs : List Int} {es : List Ent} (h : cooF xs es = 0) (k : Nat) : cooF xs (es.drop k) = 0 := by
  obtain ⟨h1, h2, h3⟩ := cooF_parts h
  unfold cooF
  rw [if_pos h1, if_neg (by rw [List.length_drop]; omega), if_pos]
  exact List.all_eq_true.2 fun x hx => h3 x (List.mem_of_mem_drop hx)
end Go.Proofs.Yteepiifhmbcciaa
/- coo.Sort where no order is named. -/
namespace Go.Proofs.Yteepiifhmbcciaa

section
open Go.RowKit
/-- the plain order -/
def iotaL (n : Nat) : List Int := (List.range n).map fun (k : Nat) => (k : Int)
theorem iotaL_len (n : Nat) : (iotaL n).length = n := by simp [iotaL]
theorem iotaL_at {n k : Nat} (h : k < n) : (iotaL n)[k]? = some (k : Int) := by
  unfold iotaL; rw [List.getElem?_map, List.getElem?_range h]; rfl

end

section
open Go.RowKit
def ltK (os : List Int) (a b : List Int × Int × Nat) : Bool := decide (cmpE os a.1 b.1 < 0)
def insK (os : List Int) (P : List (List Int × Int × Nat)) (x : List Int × Int × Nat) : List (List Int × Int × Nat) := (P.reverse.dropWhile (ltK os x)).reverse ++ x :: (P.reverse.takeWhile (ltK os x)).reverse
/-- the insertion sort of places and numbers alone -/
def sortK (os : List Int) (l : List (List Int × Int × Nat)) : List (List Int × Int × Nat) := l.foldl (insK os) []
theorem insE_key (os : List Int) (P : List Ent) (x : Ent) : (insE os P x).map keyE = insK os (P.map keyE) (keyE x) := by
  unfold insE insK
  have e : ltE os x = ltK os (keyE x) ∘ keyE := rfl
  have h1 : (P.map keyE).reverse.takeWhile (ltK os (keyE x)) = (P.reverse.takeWhile (ltK os (keyE x) ∘ keyE)).map keyE := by rw [← List.map_reverse, List.takeWhile_map]
  have h2 : (P.map keyE).reverse.dropWhile (ltK os (keyE x)) = (P.reverse.dropWhile (ltK os (keyE x) ∘ keyE)).map keyE := by rw [← List.map_reverse, List.dropWhile_map]
  rw [h1, h2, e, List.map_append, List.map_cons, List.map_reverse, List.map_reverse]
theorem sortE_key (os : List Int) (l : List Ent) : (sortE os l).map keyE = sortK os (l.map keyE) := by
  have key : ∀ (l P : List Ent), (l.foldl (insE os) P).map keyE = (l.map keyE).foldl (insK os) (P.map keyE) := by
    intro l
    induction l with
    | nil => intro P; rfl
    | cons x l ih => intro P; rw [List.foldl_cons, ih, insE_key]; rfl
  exact key l []
theorem key_len {xs : List Int} {es : List Ent} (h : cooF xs es = 0) (hl : ∀ y ∈ es, y.cs.length = y.n) : ∀ y ∈ es, y.n = xs.length := fun y hy => by
  have := (cooF_parts h).2.2 y hy
  unfold insideF at this
  rw [Bool.and_eq_true] at this
  rw [← hl y hy]
  exact of_decide_eq_true this.1
theorem keys_mem {Ds es : List Ent} (h : Ds.map keyE = es.map keyE) {x : Ent} (hx : x ∈ Ds) : ∃ y ∈ es, keyE x = keyE y := by
  have : keyE x ∈ es.map keyE := by rw [← h]; exact List.mem_map_of_mem hx
  obtain ⟨y, hy, e⟩ := List.mem_map.1 this
  exact ⟨y, hy, e.symm⟩
theorem NewE.below {w w' : World} {base g : Nat} {x : Ent} (h : NewE w base g x) (hb : Below w.heap.size w w') : NewE w' base g x := h.grown (grown_below' (grown_same w g) hb)
end
end Go.Proofs.Yteepiifhmbcciaa
/- coo.modesBy where an order is named. -/
namespace Go.Proofs.Yteepiifhmbcciaa
open Go.RowKit

theorem below_dN {B : Nat} {w W : World} (h : Below B w W) (m : Nat) : Below B w (W.drewN m) := ⟨h.os, h.tape, h.output, h.size, h.block⟩
/-- the order of the modes that is meant -/
def ordL (n : Nat) (os : List Int) : List Int := if os = [] then iotaL n else os
/-- whether an order is one -/
def OrdOk (n : Nat) (os : List Int) : Prop := os = [] ∨ sortI os = iotaL n
instance (n : Nat) (os : List Int) : Decidable (OrdOk n os) := by unfold OrdOk; infer_instance
theorem ordL_perm {n : Nat} {os : List Int} (h : OrdOk n os) : (ordL n os).Perm (iotaL n) := by
  unfold ordL
  split
  · exact List.Perm.refl _
  · rename_i h0
    rcases h with h | h
    · exact absurd h h0
    · rw [← h]; exact (sortI_perm os).symm
theorem ordL_len {n : Nat} {os : List Int} (h : OrdOk n os) : (ordL n os).length = n := by rw [(ordL_perm h).length_eq, iotaL_len]
theorem ordL_mem {n : Nat} {os : List Int} (h : OrdOk n os) {m : Int} (hm : m ∈ ordL n os) : 0 ≤ m ∧ m < n := by
  have := (ordL_perm h).mem_iff.1 hm
  unfold iotaL at this
  obtain ⟨k, hk, rfl⟩ := List.mem_map.1 this
  have := List.mem_range.1 hk
  omega

end Go.Proofs.Yteepiifhmbcciaa
/- coo.Sort by any order, at any number of entries; its errors. -/
namespace Go.Proofs.Yteepiifhmbcciaa
open Go.RowKit

/-- the errors of Sort and Join -/
def sortE' (xs os : List Int) (n : Nat) (es : List Ent) : Int := if cooF xs es = 0 then if OrdOk n os then 0 else 1 else cooF xs es
end Go.Proofs.Yteepiifhmbcciaa
/- coo.Join where no order is named. -/
namespace Go.Proofs.Yteepiifhmbcciaa

section
open Go.RowKit
/-- one more behind a joined list -/
def joinStep (acc : List (List Int × Int × Nat)) (t : List Int × Int × Nat) : List (List Int × Int × Nat) :=
  match acc.getLast? with
  | some z => if z.1 = t.1 then acc.dropLast ++ [(z.1, wrap64 (z.2.1 + t.2.1), z.2.2)] else acc ++ [t]
  | none => [t]
def joinK (l : List (List Int × Int × Nat)) : List (List Int × Int × Nat) := l.foldl joinStep []
theorem joinK_snoc (l : List (List Int × Int × Nat)) (t : List Int × Int × Nat) : joinK (l ++ [t]) = joinStep (joinK l) t := by unfold joinK; rw [List.foldl_append]; rfl
theorem joinStep_none (t : List Int × Int × Nat) : joinStep [] t = [t] := rfl
theorem joinStep_same {L : List (List Int × Int × Nat)} {z t : List Int × Int × Nat} (h : z.1 = t.1) : joinStep (L ++ [z]) t = L ++ [(z.1, wrap64 (z.2.1 + t.2.1), z.2.2)] := by
  unfold joinStep; rw [List.getLast?_concat]; simp only [if_pos h, List.dropLast_concat]
theorem joinStep_other {L : List (List Int × Int × Nat)} {z t : List Int × Int × Nat} (h : ¬ z.1 = t.1) : joinStep (L ++ [z]) t = L ++ [z] ++ [t] := by
  unfold joinStep; rw [List.getLast?_concat]; simp only [if_neg h]

theorem wpList_appendEnt {ops : Array Oper} {rest : List Oper} {o : Oper} {a : Act} {w : World} {Q : Exit → Act → World → Prop}
    (hg : o.guard = none) (s x : Operand) (hop : o.op = Op.call { callee := Callee.builtin Builtin.append, args := #[s, x], argTypes := #[34, 34] })
    (base : Nat) (A : Option Addr) (c p r : Nat) (y : Ent) (L : List Ent) (hs : a.eval s = .slice A p c) (hx : a.eval x = .slice (some ⟨w.heap.size, 0, none⟩) 1 1)
    (ho : OwnE w base A c L) (hp : L.length = p) (hr : p + 1 = r) (hl : r ≤ 1000000) (hb : base ≤ w.heap.size)
    (hK : ∀ A' c' w', OwnE w' base A' c' (L ++ [y]) → Below base w w' → wpList Try.prog ops Q rest (a.put o.dst (.slice A' r c')) w') :
    wpList Try.prog ops Q (o :: rest) a (w.alloc (.cells #[.slice y.A y.n y.c, .int .i64 y.v] 53)) := by
  obtain ⟨i, hi, hz, h1, h2⟩ := info_parts infoEnt
  subst hp
  subst hr
  refine wpList_append_own _ hg s x 34 hop base 53 i (.agg #[.slice none 0 0, .int .i64 0]) 2 32 Try.underlying34 hi hz h1 h2 (by rfl) (by decide) _ L.length (cellsE L) hs (World.ownsRow.alloc ho _) ⟨w.heap.size, 0, none⟩ 1 1 [.slice y.A y.n y.c, .int .i64 y.v] hx rfl ?_ (by simp [Value.oneCell']) (by unfold maxLen; omega) (by omega) (by simp; omega) ?_
  · intro j u hj
    match j, hj with
    | 0, hj => simp at hj; subst hj; simp [Addr.add]
    | 1, hj => simp at hj; subst hj; simp [Addr.add]
    | j + 2, hj => simp at hj
  · intro v' w' hown hgr _
    obtain ⟨A', c', rfl⟩ : ∃ A' c', v' = .slice A' (L.length + 1) c' := by
      rcases hown.2 with ⟨rfl, h0⟩ | ⟨g, cap, cur, rfl, _⟩
      · omega
      · exact ⟨_, _, rfl⟩
    have hgr2 : w.grownBy w' (Value.slice A L.length c).ownBlock := (World.grownBy_alloc w _ _).trans hgr
    refine hK A' c' w' ?_ ((Below.refl _ w).grown hgr2 hb (fun k hk => (World.ownsRow.lt ho k hk).1))
    unfold OwnE
    rw [List.length_append, cellsE_append]
    exact hown
theorem OwnE.setV {w : World} {base g k c : Nat} {es : List Ent} (h : OwnE w base (some ⟨g, 0, none⟩) c es) {z : Ent} (hz : es[k]? = some z) (v : Int) :
    OwnE (w.setCell ⟨g, k * 2 + 1, none⟩ (.int .i64 v)) base (some ⟨g, 0, none⟩) c (es.set k ⟨z.A, z.n, z.c, z.cs, v⟩) := by
  have hk := (List.getElem?_eq_some_iff.1 hz).1
  have hl := cellsE_length es
  have e : cellsE (es.set k ⟨z.A, z.n, z.c, z.cs, v⟩) = (cellsE es).set (k * 2 + 1) (.int .i64 v) := by
    rw [← cellsE_set (x := ⟨z.A, z.n, z.c, z.cs, v⟩) hk, Nat.mul_comm k 2]
    congr 1
    obtain ⟨h3, h4⟩ := List.getElem?_eq_some_iff.1 (cellsE_at hz).1
    dsimp only
    conv => lhs; rw [← h4]
    rw [List.set_getElem_self]
  unfold OwnE
  rw [e, List.length_set]
  exact (World.ownsRow.stored h (k * 2 + 1) (.int .i64 v)).1
end

section
open Go.RowKit Go.Sort
theorem equalI_bel (A A2 : Option Addr) (n n2 c c2 : Nat) (xs ys : List Int) (w : World) (h : Ints w w.heap.size A n xs) (h2 : Ints w w.heap.size A2 n2 ys) (hn : n ≤ 100000) (hn2 : n2 ≤ 9223372036854775807) :
    Calls Try.prog 29 #[.slice A n c, .slice A2 n2 c2] w fun e w' => e = .returned (.bool (decide (xs = ys))) ∧ Below w.heap.size w w' :=
  (equalInt_any A A2 n n2 c c2 xs ys w w.heap.size h h2 hn hn2).mono fun e w' ⟨he, m, hm⟩ => ⟨he, by subst hm; exact below_drewN (Below.refl _ _) m⟩
/-- an entry whose place is one of theirs -/
def OfE (es : List Ent) (x : Ent) : Prop := (∃ y ∈ es, x.A = y.A ∧ x.n = y.n ∧ x.c = y.c ∧ x.cs = y.cs) ∧ -9223372036854775808 ≤ x.v ∧ x.v ≤ 9223372036854775807
theorem OwnE.cell_ {w : World} {base g c k : Nat} {es : List Ent} (h : OwnE w base (some ⟨g, 0, none⟩) c es) {z : Ent} (hz : es[k]? = some z) :
    (w.cell? ⟨g, k * 2, none⟩ = some (.slice z.A z.n z.c) ∧ w.frozen? ⟨g, k * 2, none⟩ = false) ∧ w.cell? ⟨g, k * 2 + 1, none⟩ = some (.int .i64 z.v) ∧ w.frozen? ⟨g, k * 2 + 1, none⟩ = false := by
  obtain ⟨g', post, e, _, hr⟩ := OwnE.row h (by have := (List.getElem?_eq_some_iff.1 hz).1; omega)
  injection e with e; injection e with e; subst e
  exact blk_ent hr hz
theorem OwnE.block_ {w : World} {base c : Nat} {A : Option Addr} {es : List Ent} (h : OwnE w base A c es) (hn : 0 < es.length) : ∃ g, A = some ⟨g, 0, none⟩ ∧ base ≤ g ∧ g < w.heap.size := by
  obtain ⟨g, post, e, hb, hr⟩ := OwnE.row h hn
  exact ⟨g, e, hb, hr.lt⟩

end
end Go.Proofs.Yteepiifhmbcciaa
/- coo.Join by any order, at any number of entries. -/
namespace Go.Proofs.Yteepiifhmbcciaa
open Go.RowKit Go.Sort

end Go.Proofs.Yteepiifhmbcciaa
