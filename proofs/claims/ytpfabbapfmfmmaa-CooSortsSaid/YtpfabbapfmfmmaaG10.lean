/- coo.clone: the list is the same, and shares nothing. -/
import Derived.Test.YtpfabbapfmfmmaaG9
import Derived.Test.YtpfabbapfmfmmaaG3
import Derived.Test.YtpfabbapfmfmmaaG5
import Derived.Deep.DeepCutAuto
import Derived.Deep.RegionHeld3
import Derived.Deep.RegionLaw
import Derived.Test.YtpfabbapfmfmmaaG6
namespace Go.Proofs.Ytpfabbapfmfmmaa

section
open Go.RowKit
set_option maxRecDepth 100000 in
theorem infoEnt : (Try.prog.info? 37).map (fun i => (i.zero, i.size, i.bytes)) = some (some (.agg #[.slice none 0 0, .int .i64 0]), 2, 32) := by kernel_rfl
/-- a slice of the call's own, of entries -/
def OwnE (w : World) (base : Nat) (A : Option Addr) (c : Nat) (es : List Ent) : Prop := w.ownsRow base 37 2 (.slice A es.length c) es.length (cellsE es)
theorem OwnE.nil_ (w : World) (base : Nat) : OwnE w base none 0 [] := w.ownsRow_nil base _ 2
theorem cellsE_one (es : List Ent) : ∀ u ∈ cellsE es, u.oneCell' = true := by
  induction es with
  | nil => intro u hu; cases hu
  | cons x es ih =>
    intro u hu
    simp only [cellsE, List.mem_cons] at hu
    rcases hu with rfl | rfl | hu
    · rfl
    · rfl
    · exact ih u hu
theorem Ents.cells {w : World} {B n : Nat} {ad : Addr} {es : List Ent} (h : Ents w B (some ad) n es) : ∀ (j : Nat) (u : Value), (cellsE es)[j]? = some u → w.cell? (ad.add j) = some u := by
  intro j u hu
  have hj := (List.getElem?_eq_some_iff.1 hu).1
  rw [cellsE_length] at hj
  obtain ⟨hl, _, hc⟩ := h
  obtain ⟨b, off, e, _, hx⟩ := hc (by omega)
  injection e with e
  subst e
  have hk : j / 2 < es.length := by omega
  have hx' := hx (j / 2) _ (List.getElem?_eq_getElem hk)
  have hce := cellsE_at (List.getElem?_eq_getElem hk)
  have hadd : (Addr.add ⟨b, off, none⟩ j : Addr) = ⟨b, off + j, none⟩ := by
    by_cases h0 : j = 0
    · subst h0; simp [Addr.add]
    · simp [Addr.add, h0]
  rw [hadd]
  rcases Nat.mod_two_eq_zero_or_one j with hm | hm
  · obtain ⟨k, rfl⟩ : ∃ k, j = 2 * k := ⟨j / 2, by omega⟩
    have e : 2 * k / 2 = k := by omega
    simp only [e] at hx' hce
    rw [hce.1] at hu
    injection hu with hu
    subst hu
    exact hx'.1
  · obtain ⟨k, rfl⟩ : ∃ k, j = 2 * k + 1 := ⟨j / 2, by omega⟩
    have e : (2 * k + 1) / 2 = k := by omega
    simp only [e] at hx' hce
    rw [hce.2] at hu
    injection hu with hu
    subst hu
    rw [← Nat.add_assoc]
    exact hx'.2
theorem emptyRow2 (w : World) (e : TypeId) : (w.alloc (.cells #[] e)).ownsRow w.heap.size e 2 (.slice (some ⟨w.heap.size, 0, none⟩) 0 0) 0 [] :=
  ⟨by simp, .inr ⟨w.heap.size, 0, #[], rfl, Nat.le_refl _, heap_alloc_new w _, Nat.le_refl _, by unfold maxLen; omega, by simp, by simp⟩⟩
theorem rowE_form {w : World} {base n : Nat} {e : TypeId} {v : Value} {ys : List Value} (h : w.ownsRow base e 2 v n ys) : ∃ A c, v = .slice A n c := by
  rcases h.2 with ⟨rfl, rfl⟩ | ⟨g, cap, cur, rfl, _⟩
  · exact ⟨_, _, rfl⟩
  · exact ⟨_, _, rfl⟩
theorem OwnE.row {w : World} {base c : Nat} {A : Option Addr} {es : List Ent} (h : OwnE w base A c es) (hn : 0 < es.length) : ∃ g post, A = some ⟨g, 0, none⟩ ∧ base ≤ g ∧ RowE w g es post := by
  rcases h.2 with ⟨_, h1⟩ | ⟨g, cap, cur, hv, hb, hg, _, _, _, hr⟩
  · omega
  · have hA : A = some ⟨g, 0, none⟩ := by injection hv
    refine ⟨g, cur.toList.drop (cellsE es).length, hA, hb, ?_⟩
    unfold RowE
    have hl : (cellsE es).length = es.length * 2 := by rw [cellsE_length]; omega
    have hcur : cellsE es ++ cur.toList.drop (cellsE es).length = cur.toList := by rw [hl]; rw [← hr]; exact List.take_append_drop _ _
    rw [hg, hcur]

set_option maxRecDepth 100000 in
set_option maxHeartbeats 1000000 in
theorem cloneE_any (A : Option Addr) (n c : Nat) (es : List Ent) (w : World) (B : Nat) (h : Ents w B A n es) (hB : B ≤ w.heap.size) (hn : n ≤ 100000) :
    Calls Try.prog 70 #[.slice A n c] w fun e w' => ∃ A' c', e = .returned (.slice A' n c') ∧ OwnE w' w.heap.size A' c' es ∧ Below w.heap.size w w' := by
  have HL : Hid (es.length = n) := h.1
  obtain ⟨i0, hi0, hz0, hz1, hz2⟩ := info_parts infoEnt
  rcases Option.eq_none_or_eq_some A with rfl | ⟨ad, rfl⟩
  · obtain rfl : n = 0 := by
      rcases Nat.eq_zero_or_pos n with h0 | h0
      · exact h0
      · obtain ⟨b, off, e, _⟩ := h.2.2 h0; cases e
    obtain rfl : es = [] := List.eq_nil_of_length_eq_zero h.1
    have hq := Lib.run_eql_slice_nil (P := Try.prog) (w := w)
    go_enter Try.func70, Try.ntmps70
    go_wp2
    go_ret
    exact ⟨none, 0, rfl, OwnE.nil_ _ _, Below.refl _ _⟩
  · have hq := Lib.run_eql_slice_nil (P := Try.prog) (w := w)
    have hce := fun o => ((h.more hB).below ((Below.refl _ w).alloc (Nat.le_refl _) o)).cells
    go_enter Try.func70, Try.ntmps70
    go_wp2_with (at_builtin; refine wpList_append_own _ rfl (.tmp 5) (.tmp 6) 23 rfl w.heap.size 37 i0 (.agg #[.slice none 0 0, .int .i64 0]) 2 32 Try.underlying23 hi0 hz0 hz1 hz2 rfl (by decide) _ 0 [] rfl (emptyRow2 w 37) ad n c (cellsE es) rfl (by rw [cellsE_length, HL.out]; omega) (hce _) (cellsE_one es) (by unfold maxLen; omega) (by omega) (by simp) ?_; intro v' w1 hown hg _; obtain ⟨A', c', rfl⟩ := rowE_form hown)
    go_ret
    refine ⟨A', c', rfl, ?_, ((Below.refl _ w).alloc (Nat.le_refl _) _).grown hg (by simp) (fun k e => Nat.le_of_eq (Option.some.inj e))⟩
    unfold OwnE
    rw [HL.out]; simpa using hown
end

section
open Go.RowKit
/-- what stands behind the two clones: a new list whose shape, and whose entries' row are new; the entries' places are the old ones -/
structure CloCut (W0 wx : World) (bt : Nat) (A1 A2 : Option Addr) (c1 c2 n m : Nat) (xs : List Int) (es : List Ent) : Prop where
  box : wx.heap[bt]? = some (.cells #[.slice A1 n c1, .slice A2 m c2] 25 (0, 0))
  new : W0.heap.size ≤ bt
  shp : OwnI wx W0.heap.size 3 A1 c1 xs
  ents : OwnE wx W0.heap.size A2 c2 es
  bel : Below W0.heap.size W0 wx
theorem pair_cells {w : World} {g : Nat} {u v : Value} {t : TypeId} (h : w.heap[g]? = some (.cells #[u, v] t (0, 0))) : w.cell? ⟨g, 0, none⟩ = some u ∧ w.cell? ⟨g, 1, none⟩ = some v ∧ w.frozen? ⟨g, 0, none⟩ = false ∧ w.frozen? ⟨g, 1, none⟩ = false :=
  ⟨(cell_of_row _ _ 0 _ t (0, 0) h).trans (by simp), (cell_of_row _ _ 1 _ t (0, 0) h).trans (by simp), by simp [World.frozen?, h], by simp [World.frozen?, h]⟩
theorem lt_of_heap {w : World} {g : Nat} {o : Obj} (h : w.heap[g]? = some o) : g < w.heap.size := (Array.getElem?_eq_some_iff.1 h).1
theorem rows_ne {w : World} {base g size n : Nat} {e e' : TypeId} {v : Value} {xs : List Value} {cs : Array Value} {fr : Nat × Nat} (h : w.ownsRow base e size v n xs) (hg : w.heap[g]? = some (.cells cs e' fr)) (hne : e ≠ e') : v.ownBlock = none ∨ v.ownBlock ≠ some g := by
  right
  intro hq
  rcases h.2 with ⟨h1, _⟩ | ⟨g', cap, cur, h1, _, hh, _⟩
  · rw [h1] at hq; cases hq
  · rw [h1] at hq
    have : g' = g := by simpa [Value.ownBlock] using hq
    subst this
    rw [hg] at hh
    injection hh with hh
    injection hh with _ hh
    exact hne hh.symm
theorem set_two (w : World) (g : Nat) (u v a b : Value) (t : TypeId) (h : w.heap[g]? = some (.cells #[u, v] t (0, 0))) :
    ((w.setCell ⟨g, 0, none⟩ a).setCell ⟨g, 1, none⟩ b).heap[g]? = some (.cells #[a, b] t (0, 0)) ∧ w.grownBy ((w.setCell ⟨g, 0, none⟩ a).setCell ⟨g, 1, none⟩ b) (some g) := by
  refine ⟨?_, grownBy_setE (grownBy_setE (grown_same w g) _ _) _ _⟩
  have h1 := blkE_set (i := 0) (cs := [u, v]) h a
  have h2 := blkE_set (i := 1) h1 b
  simpa using h2
theorem cut_set {W0 wz : World} {bt : Nat} {A1 A2 : Option Addr} {c1 c2 n m : Nat} {xs : List Int} {es : List Ent} {u v : Value} (hz : wz.heap[bt]? = some (.cells #[u, v] 25 (0, 0))) (hn : W0.heap.size ≤ bt) (h1 : OwnI wz W0.heap.size 3 A1 c1 xs) (h2 : OwnE wz W0.heap.size A2 c2 es) (hb : Below W0.heap.size W0 wz) :
    CloCut W0 ((wz.setCell ⟨bt, 0, none⟩ (.slice A1 n c1)).setCell ⟨bt, 1, none⟩ (.slice A2 m c2)) bt A1 A2 c1 c2 n m xs es := by
  obtain ⟨k1, k2⟩ := set_two wz bt u v (.slice A1 n c1) (.slice A2 m c2) _ hz
  refine ⟨k1, hn, ⟨?_, h1.2⟩, ?_, hb.grown k2 hb.size (fun k hk => by injection hk with hk; omega)⟩
  · exact h1.1.kept k2 (rows_ne h1.1 hz (by decide))
  · exact World.ownsRow.kept h2 k2 (rows_ne h2 hz (by decide))
theorem cut_new {W0 wz : World} {A1 A2 : Option Addr} {c1 c2 n m : Nat} {xs : List Int} {es : List Ent} (h1 : OwnI wz W0.heap.size 3 A1 c1 xs) (h2 : OwnE wz W0.heap.size A2 c2 es) (hb : Below W0.heap.size W0 wz) :
    CloCut W0 (wz.alloc (.cells #[.slice A1 n c1, .slice A2 m c2] 25)) wz.heap.size A1 A2 c1 c2 n m xs es :=
  ⟨heap_alloc_new _ _, hb.size, h1.alloc _, World.ownsRow.alloc h2 _, hb.alloc hb.size _⟩
/-- the entries' places and numbers, but for where the places lie -/
def keyE (x : Ent) : List Int × Int × Nat := (x.cs, x.v, x.n)
/-- an entry whose place is the call's own, outside of block g -/
def NewE (w : World) (base g : Nat) (x : Ent) : Prop := IntsOff w g x.A x.n x.cs ∧ (∀ b off, x.A = some ⟨b, off, none⟩ → base ≤ b ∧ b < w.heap.size ∧ ∃ cs t, w.heap[b]? = some (.cells cs t (0, 0))) ∧ x.n ≤ x.c ∧ -9223372036854775808 ≤ x.v ∧ x.v ≤ 9223372036854775807
/-- entries of the call's own, whose places are so too -/
def NewEs (w : World) (base : Nat) (A : Option Addr) (c : Nat) (es : List Ent) : Prop := es = [] ∨ ∃ g post, A = some ⟨g, 0, none⟩ ∧ base ≤ g ∧ RowE w g es post ∧ (∀ x ∈ es, NewE w base g x) ∧ es.length ≤ c
theorem NewE.grown {w wr : World} {base g : Nat} {x : Ent} (h : NewE w base g x) (hg : w.grownBy wr (some g)) : NewE wr base g x := ⟨⟨h.1.grown hg, h.1.2⟩, fun b off e => ⟨(h.2.1 b off e).1, Nat.lt_of_lt_of_le (h.2.1 b off e).2.1 hg.size, by obtain ⟨cs, t, hc⟩ := (h.2.1 b off e).2.2; exact ⟨cs, t, (hg.block b (h.2.1 b off e).2.1 (by intro e2; injection e2 with e2; exact h.1.2 b off e e2)).trans hc⟩⟩, h.2.2⟩
theorem Ints.grown_lt {w wr : World} {B g n : Nat} {A : Option Addr} {xs : List Int} (h : Ints w B A n xs) (hg : w.grownBy wr (some g)) (hB : B ≤ g) (hs : B ≤ w.heap.size) : Ints wr B A n xs :=
  h.keep fun p hp => by
    have := hg.block p.block (by omega) (by intro e; injection e with e; omega)
    simp only [World.cell?, this]
theorem OwnI.newE {w : World} {base g c : Nat} {A : Option Addr} {cs : List Int} {v : Int} (h : OwnI w base 3 A c cs) (hg : g < base) (hv : -9223372036854775808 ≤ v ∧ v ≤ 9223372036854775807) : NewE w base g ⟨A, cs.length, c, cs, v⟩ := by
  refine ⟨⟨h.ints, ?_⟩, ?_, ?_, hv⟩
  all_goals
    dsimp only
    rcases h.1.2 with ⟨h1, h2⟩ | ⟨g', cap, cur, h1, h2, hh, h4, _⟩
  · intro b off e; injection h1 with h1; rw [h1] at e; cases e
  · intro b off e; injection h1 with h1; rw [h1] at e; injection e with e; injection e with e; omega
  · intro b off e; injection h1 with h1; rw [h1] at e; cases e
  · intro b off e; injection h1 with h1 h1b; subst h1; injection e with e; injection e with e; subst e; exact ⟨h2, (h.1.lt g' rfl).2, _, _, hh⟩
  · omega
  · injection h1 with _ _ h1; omega
theorem NewE.far {w wr : World} {base g q : Nat} {x : Ent} (h : NewE w base g x) (hg : w.grownBy wr (some q)) (hq : q < base) : NewE wr base g x := by
  refine ⟨⟨⟨h.1.1.1, h.1.1.2.1, fun h0 => ?_⟩, h.1.2⟩, fun b off e => ⟨(h.2.1 b off e).1, Nat.lt_of_lt_of_le (h.2.1 b off e).2.1 hg.size, by obtain ⟨cs, t, hc⟩ := (h.2.1 b off e).2.2; exact ⟨cs, t, (hg.block b (h.2.1 b off e).2.1 (by have := (h.2.1 b off e).1; intro e2; injection e2 with e2; omega)).trans hc⟩⟩, h.2.2⟩
  obtain ⟨b, off, e, hB, hx⟩ := h.1.1.2.2 h0
  have hb := (h.2.1 b off e).1
  exact ⟨b, off, e, Nat.lt_of_lt_of_le hB hg.size, fun k y hy => hg.cell (hx k y hy) (fun e => by injection e with e; dsimp only at e; omega)⟩
theorem NewE.mono {w : World} {base base' g : Nat} {x : Ent} (h : NewE w base g x) (hb : base' ≤ base) : NewE w base' g x := ⟨h.1, fun b off e => ⟨Nat.le_trans hb (h.2.1 b off e).1, (h.2.1 b off e).2⟩, h.2.2⟩
theorem RowE.head {w : World} {g k : Nat} {M : List Ent} {post : List Value} (h : RowE w g M post) {y : Ent} (hy : M[k]? = some y) (A : Option Addr) (c : Nat) : RowE (w.setCell ⟨g, k * 2, none⟩ (.slice A y.n c)) g (M.set k ⟨A, y.n, c, y.cs, y.v⟩) post := by
  have hk := (List.getElem?_eq_some_iff.1 hy).1
  have hl := cellsE_length M
  unfold RowE
  refine (blkE_set h _).trans ?_
  rw [List.set_append_left _ _ (by omega), Nat.mul_comm k 2, ← cellsE_set (x := ⟨A, y.n, c, y.cs, y.v⟩) hk]
  have h2 : ((cellsE M).set (2 * k) (.slice A y.n c))[2 * k + 1]? = some (.int .i64 y.v) := by
    rw [List.getElem?_set_ne (by omega)]; exact (cellsE_at hy).2
  obtain ⟨h3, h4⟩ := List.getElem?_eq_some_iff.1 h2
  dsimp only
  conv => rhs; rw [← h4]
  rw [List.set_getElem_self]
theorem set_head {Ds R : List Ent} {k : Nat} (y x : Ent) (h : Ds.length = k) : (Ds ++ y :: R).set k x = Ds ++ [x] ++ R := by
  subst h
  rw [List.set_append_right _ _ (Nat.le_refl _), Nat.sub_self, List.set_cons_zero]
  simp
theorem OwnE.below {w w' : World} {base B : Nat} {A : Option Addr} {c : Nat} {es : List Ent} (h : OwnE w base A c es) (hb : Below B w w') (hB : w.heap.size ≤ B) : OwnE w' base A c es :=
  World.ownsRow.kept h ⟨hb.os, hb.tape, hb.output, hb.size, fun i hi _ => hb.block i (by omega)⟩ (row := none) (by cases hh : (Value.slice A es.length c).ownBlock with | none => exact .inl rfl | some k => exact .inr (by simp))
theorem OwnE.mono {w : World} {base base' : Nat} {A : Option Addr} {c : Nat} {es : List Ent} (h : OwnE w base A c es) (hb : base' ≤ base) : OwnE w base' A c es := by
  refine ⟨h.1, ?_⟩
  rcases h.2 with hh | ⟨g, cap, cur, h1, h2, h3⟩
  · exact .inl hh
  · exact .inr ⟨g, cap, cur, h1, by omega, h3⟩

set_option maxRecDepth 100000 in
set_option maxHeartbeats 4000000 in
theorem cooClone_any (A B : Option Addr) (n c m e : Nat) (xs : List Int) (es : List Ent) (w : World) (h : Ints w w.heap.size A n xs) (hn : n ≤ 100000) (hv : Ents w w.heap.size B m es) (hm : m ≤ 65536) (hyn : ∀ y ∈ es, y.n ≤ 100000) :
    Calls Try.prog 44 #[.agg #[.slice A n c, .slice B m e]] w fun x w' => ∃ A1 c1 A2 c2 Ds, x = .returned (.agg #[.slice A1 n c1, .slice A2 m c2]) ∧ OwnI w' w.heap.size 3 A1 c1 xs ∧ NewEs w' w.heap.size A2 c2 Ds ∧ Ds.map keyE = es.map keyE ∧ Below w.heap.size w w' := by
  have z0 := (Below.refl w.heap.size w).alloc (Nat.le_refl _) (.cells #[.slice A n c, .slice B m e] 25)
  have z1 := z0.alloc z0.size (.cells #[.slice none 0 0, .slice none 0 0] 25)
  have b1 := zf_two w (.cells #[.slice A n c, .slice B m e] 25) (.cells #[.slice none 0 0, .slice none 0 0] 25)
  have b2 := zf_snd w (.cells #[.slice none 0 0, .slice none 0 0] 25) (.cells #[.slice A n c, .slice B m e] 25)
  obtain ⟨W0, hW0⟩ : ∃ W0, (w.alloc (.cells #[.slice A n c, .slice B m e] 25)).alloc (.cells #[.slice none 0 0, .slice none 0 0] 25) = W0 := ⟨_, rfl⟩
  rw [hW0] at z1 b1 b2
  have H0 := Lib.hid hW0
  have hlt0 := lt_of_heap b1
  have hlt1 := lt_of_heap b2
  obtain ⟨k0, k1, _, _⟩ := pair_cells b1
  have hI := (h.more (Nat.le_refl _)).below z1
  have hE := hv.below z1
  clear z0 hW0
  go_enter Try.func44, Try.ntmps44
  go_upto_region 1 with fail
  rw [H0.out]
  go_cut [3] (fun s wx => ∃ bt A1 c1 A2 c2, s = .pointer (some ⟨bt, 0, none⟩) ∧ CloCut W0 wx bt A1 A2 c1 c2 n m xs es)
  case first =>
    have HK := fun W (hb : Below W0.heap.size W0 W) => (clone_any A n c xs W w.heap.size (hI.below (hb.mono z1.size)) (Nat.le_trans z1.size hb.size) (by omega)).mono (R' := fun e w' => ∃ A' c', e = .returned (.slice A' n c') ∧ OwnI w' W.heap.size 3 A' c' xs ∧ Below W.heap.size W w' ∧ Below W0.heap.size W0 w') fun e w' ⟨A', c', h1, h2, h3⟩ => ⟨A', c', h1, h2, h3, hb.trans (h3.mono hb.size)⟩
    have HL := fun W (hb : Below W0.heap.size W0 W) => (cloneE_any B m e es W w.heap.size (hE.below (hb.mono z1.size)) (Nat.le_trans z1.size hb.size) (by omega)).mono (R' := fun e w' => ∃ A' c', e = .returned (.slice A' m c') ∧ OwnE w' W.heap.size A' c' es ∧ Below W.heap.size W w' ∧ Below W0.heap.size W0 w') fun e w' ⟨A', c', h1, h2, h3⟩ => ⟨A', c', h1, h2, h3, hb.trans (h3.mono hb.size)⟩
    have q0 := fun (W : World) (o : Obj) => (newPair W (.slice none 0 0) (.slice none 0 0) 25 o).1
    have q1 := fun (W : World) (o : Obj) => (newPair W (.slice none 0 0) (.slice none 0 0) 25 o).2.1
    have q2 := fun (W : World) (o : Obj) => (newPair W (.slice none 0 0) (.slice none 0 0) 25 o).2.2.1
    have q3 := fun (W : World) (o : Obj) => (newPair W (.slice none 0 0) (.slice none 0 0) 25 o).2.2.2
    go_region_held3 (fun w' => w'.cell? ⟨w.heap.size, 0, none⟩ = some (.slice A n c) ∧ w'.cell? ⟨w.heap.size, 1, none⟩ = some (.slice B m e))
      (first | go_keep | (with_reducible exact ⟨k0, k1⟩) | (with_reducible exact ⟨yi0, yi1⟩) | (with_reducible exact ⟨ye0, ye1⟩) | (with_reducible exact ⟨cellPast _ k0, cellPast _ k1⟩) | (with_reducible exact ⟨cellPast _ yi0, cellPast _ yi1⟩) | (with_reducible exact ⟨cellPast _ ye0, cellPast _ ye1⟩) | exact far_two (by omega) yi0 yi1 | exact far_two (by omega) ye0 ye1 | exact far_two (by omega) (cellPast _ yi0) (cellPast _ yi1) | exact far_two (by omega) (cellPast _ ye0) (cellPast _ ye1))
      (first | (go_at_call 61; refine (HK _ ?b0).mono ?_; (case b0 => first | exact Below.refl _ _ | exact (Below.refl _ _).drew | exact ((Below.refl _ _).alloc (Nat.le_refl _) _).drew | exact (Below.refl _ _).alloc (Nat.le_refl _) _ | exact HD0 | exact HD0.alloc HD0.size _); rintro x w6 ⟨A1, c1, rfl, HO, HB, HB0⟩; have yi0 := (HB0.cell (p := ⟨w.heap.size, 0, none⟩) hlt0).trans k0; have yi1 := (HB0.cell (p := ⟨w.heap.size, 1, none⟩) hlt0).trans k1; have si := HB0.size; first | (have zi := (HB.block _ (lt_of_heap ze)).trans ze; obtain ⟨t0, t1, u0, u1⟩ := pair_cells zi) | (have zi := (HB.block W0.heap.size (by simp)).trans (heap_alloc_new W0 (.cells #[.slice none 0 0, .slice none 0 0] 25)); obtain ⟨t0, t1, u0, u1⟩ := pair_cells zi) | (have zi := (HB.block w8.heap.size (by simp)).trans (heap_alloc_new w8 (.cells #[.slice none 0 0, .slice none 0 0] 25)); obtain ⟨t0, t1, u0, u1⟩ := pair_cells zi) | skip) |
        (go_at_call 70; refine (HL _ ?b1).mono ?_; (case b1 => first | exact Below.refl _ _ | exact (Below.refl _ _).drew | exact ((Below.refl _ _).alloc (Nat.le_refl _) _).drew | exact (Below.refl _ _).alloc (Nat.le_refl _) _ | exact HB0 | exact HB0.alloc HB0.size _); rintro x w8 ⟨A2, c2, rfl, HE, HD, HD0⟩; have ye0 := (HD0.cell (p := ⟨w.heap.size, 0, none⟩) hlt0).trans k0; have ye1 := (HD0.cell (p := ⟨w.heap.size, 1, none⟩) hlt0).trans k1; have se := HD0.size; first | (have ze := (HD.block _ (lt_of_heap zi)).trans zi; obtain ⟨t0, t1, u0, u1⟩ := pair_cells ze) | (have ze := (HD.block W0.heap.size (by simp)).trans (heap_alloc_new W0 (.cells #[.slice none 0 0, .slice none 0 0] 25)); obtain ⟨t0, t1, u0, u1⟩ := pair_cells ze) | (have ze := (HD.block w6.heap.size (by simp)).trans (heap_alloc_new w6 (.cells #[.slice none 0 0, .slice none 0 0] 25)); obtain ⟨t0, t1, u0, u1⟩ := pair_cells ze) | skip))
    all_goals go_wp2_with fail
    all_goals go_meet
    · exact ⟨_, _, _, _, _, rfl, cut_new ((HO.below HD (Nat.le_refl _)).mono (Nat.le_refl _)) (HE.mono HB0.size) HD0⟩
    · exact ⟨_, _, _, _, _, rfl, cut_set ze HB0.size (((HO.alloc _).below HD (Nat.le_refl _)).mono (Nat.le_refl _)) (HE.mono (by have := HB0.size; simp; omega)) HD0⟩
    · exact ⟨_, _, _, _, _, rfl, cut_set ze (Nat.le_refl _) ((HO.below HD (Nat.le_refl _)).mono (by simp)) (HE.mono HB0.size) HD0⟩
  case rest =>
    obtain ⟨bt, A1, c1, A2, c2, rfl, hcut⟩ := hcut
    obtain ⟨p0, p1, _, _⟩ := pair_cells hcut.box
    have hes : es.length = m := hv.1
    have hrv := (hcut.bel.block (w.heap.size + 1) hlt1).trans b2
    obtain ⟨v0, v1, vf0, vf1⟩ := pair_cells hrv
    have hbw := z1.trans (hcut.bel.mono z1.size)
    have hbt : w.heap.size + 1 < bt := by have := hcut.new; omega
    rcases Nat.eq_zero_or_pos m with hm0 | hm0
    · subst hm0
      have hes0 : es = [] := List.eq_nil_of_length_eq_zero hes
      have HCUT := Lib.hid hcut
      clear hcut
      go_wp2_with fail
      go_loopw [15] (fun v wr => v = .int .i64 0 ∧ wr = wc) (fun _ _ => 0)
      case atStart => exact ⟨rfl, rfl⟩
      case round =>
        obtain ⟨rfl, rfl⟩ := hrel
        go_wp2_with fail
        have hres := set_two wr (w.heap.size + 1) _ _ (.slice A1 n c1) (.slice A2 0 c2) _ hrv
        obtain ⟨r0, r1, _, _⟩ := pair_cells hres.1
        obtain ⟨wz, hwz⟩ : ∃ wz, (wr.setCell ⟨w.heap.size + 1, 0, none⟩ (.slice A1 n c1)).setCell ⟨w.heap.size + 1, 1, none⟩ (.slice A2 0 c2) = wz := ⟨_, rfl⟩
        rw [hwz] at hres r0 r1 ⊢
        refine bodyPost_ret (v := .agg #[.slice A1 n c1, .slice A2 0 c2]) (by simp [results, Try.results44, go_sem, r0, r1]) rfl ⟨A1, c1, A2, c2, [], rfl, ?_, .inl rfl, by rw [hes0], hbw.grown hres.2 hbw.size (fun k hk => by injection hk with hk; omega)⟩
        exact ⟨((HCUT.out.shp.mono z1.size).1.kept hres.2 (rows_ne HCUT.out.shp.1 hrv (by decide))), HCUT.out.shp.2⟩
    · obtain ⟨g, post, rfl, hgb, hrow⟩ := hcut.ents.row (by omega)
      have hgbt : bt ≠ g := by
        rintro rfl
        have e := hrow
        unfold RowE at e
        rw [hcut.box] at e
        injection e with e
        injection e with _ e
        exact absurd e (by decide)
      have hcl : es.length ≤ c2 := by
        rcases hcut.ents.2 with ⟨_, h1⟩ | ⟨g', cap, cur, h1, _, _, h4, _⟩
        · omega
        · injection h1 with _ _ h1; omega
      have HSRC : Hid (∀ y ∈ es, Ints wc w.heap.size y.A y.n y.cs ∧ -9223372036854775808 ≤ y.v ∧ y.v ≤ 9223372036854775807) := fun y hy => ⟨(hE.2.1 y hy).1.below (hcut.bel.mono z1.size), (hE.2.1 y hy).2.2.2⟩
      have HYN := Lib.hid hyn
      have HL := Lib.hid hes
      have HROW := Lib.hid hrow
      have HCUT := Lib.hid hcut
      have HRV := Lib.hid hrv
      have hszc := hbw.size
      clear hcut hrow hE hI hyn hes hv h hrv p0 v0 v1 vf0 vf1 k0 k1
      go_wp2_with fail
      go_loopw [15] (fun v wr => ∃ (k : Nat) (Ds : List Ent), v = .int .i64 (k : Int) ∧ k ≤ m ∧ Hid (Ds.length = k) ∧ Hid (Ds.map keyE = (es.take k).map keyE) ∧ Hid (∀ x ∈ Ds, NewE wr W0.heap.size g x) ∧ Hid (RowE wr g (Ds ++ es.drop k) post) ∧ Hid (wc.grownBy wr (some g))) (fun v _ => m - (intOf v).toNat)
      case atStart => exact ⟨0, [], rfl, Nat.zero_le _, rfl, by unfold Hid; simp, (fun x hx => by cases hx), by unfold Hid; simpa using HROW.out, Lib.hid (grown_same wc g)⟩
      case round =>
        clear p1
        obtain ⟨k, Ds, rfl, hk, HD, HK, HN, HR, HG⟩ := hrel
        have hbx := (HG.out.block bt (lt_of_heap HCUT.out.box) (by intro e; injection e with e; omega)).trans HCUT.out.box
        obtain ⟨p0, p1, _, _⟩ := pair_cells hbx
        have hltb := lt_of_heap hbx
        by_cases hlt : k < m
        · obtain ⟨y, hy⟩ : ∃ y, es[k]? = some y := ⟨_, List.getElem?_eq_getElem (by rw [HL.out]; exact hlt)⟩
          have hym := List.mem_of_getElem? hy
          have hdr : es.drop k = y :: es.drop (k + 1) := drop_of hy
          have hR := HR.out
          rw [hdr] at hR
          have hMk : (Ds ++ y :: es.drop (k + 1))[k]? = some y := by rw [List.getElem?_append_right (by rw [HD.out]; exact Nat.le_refl _), HD.out, Nat.sub_self]; rfl
          obtain ⟨⟨a1, a2⟩, _, _⟩ := blk_ent hR hMk
          have hsrc := (HSRC.out y hym).1.grown_lt HG.out (by omega) (by omega)
          have hszr := HG.out.size
          have HKC := fun W (hb : Below wr.heap.size wr W) => (clone_any y.A y.n y.c y.cs W w.heap.size (hsrc.below (hb.mono (by omega))) (by have := hb.size; omega) (HYN.out y hym)).mono (R' := fun e w' => ∃ A' c', e = .returned (.slice A' y.n c') ∧ OwnI w' W.heap.size 3 A' c' y.cs ∧ Below W.heap.size W w' ∧ Below wr.heap.size wr w') fun e w' ⟨A', c', h1, h2, h3⟩ => ⟨A', c', h1, h2, h3, hb.trans (h3.mono hb.size)⟩
          have hkn : (k : Int) < (m : Int) := by omega
          have hk0 : (0 : Int) ≤ (k : Int) := by omega
          have HMK := Lib.hid hMk
          have HRR := Lib.hid hR
          have HY := Lib.hid hy
          have HVB := Lib.hid (HSRC.out y hym).2
          have HYL : Hid (y.cs.length = y.n) := hsrc.1
          clear hMk hR hy hdr hsrc
          go_wp2_with fail
          go_region_law (go_simp; go_at_call 61; refine (HKC _ ?b0).mono ?_; (case b0 => first | exact Below.refl _ _ | exact (Below.refl _ _).drew); rintro x w6 ⟨A', c', rfl, HO, HB, HB0⟩; have yb := (HB0.cell (p := ⟨bt, 1, none⟩) hltb).trans p1; obtain ⟨⟨x1, x2⟩, _, _⟩ := blk_ent (HRR.out.below HB0) HMK.out)
          all_goals
            have HGQ := grown_below' HG.out HB0
            have hset := (HRR.out.below HB0).head HMK.out A' c'
            rw [set_head y _ HD.out] at hset
            have HST := Lib.hid hset
            have hgs := grownBy_setE (grown_same w6 g) (k * 2) (.slice A' y.n c')
            have HGS := Lib.hid (grown_trans HGQ hgs)
            have hglt := HRR.out.lt
            have HNX : Hid (∀ z ∈ Ds ++ [⟨A', y.n, c', y.cs, y.v⟩], NewE (w6.setCell ⟨g, k * 2, none⟩ (.slice A' y.n c')) W0.heap.size g z) := by
              unfold Hid
              intro z hz
              rcases List.mem_append.1 hz with hz | hz
              · exact (HN.out z hz).grown (grown_trans (grown_below' (grown_same wr g) HB0) hgs)
              · rw [List.mem_singleton.1 hz]
                have q := (HO.newE (g := g) (v := y.v) hglt HVB.out).mono (base' := W0.heap.size) (by have := HCUT.out.bel.size; simp at *; omega)
                rw [HYL.out] at q
                exact q.grown hgs
            obtain ⟨w7, hw7⟩ : ∃ w7, w6.setCell ⟨g, k * 2, none⟩ (.slice A' y.n c') = w7 := ⟨_, rfl⟩
            rw [hw7] at HST HGS HNX ⊢
            clear hset hgs HGQ hw7
            go_wp2_with fail
            go_roundw
            case rel => exact ⟨k + 1, Ds ++ [⟨A', y.n, c', y.cs, y.v⟩], by go_num, by omega, by unfold Hid; rw [List.length_append, HD.out]; rfl, by unfold Hid; rw [List.map_append, HK.out, take_succ_of HY.out, List.map_append]; rfl, HNX, HST, HGS⟩
            case measure => simp [intOf]; omega
        · obtain rfl : k = m := by omega
          have hrv := (HG.out.block (w.heap.size + 1) (by have := HCUT.out.bel.size; omega) (by intro e; injection e with e; omega)).trans HRV.out
          obtain ⟨v0, v1, vf0, vf1⟩ := pair_cells hrv
          have HRV2 := Lib.hid hrv
          clear hrv
          go_wp2_with fail
          have hres := set_two wr (w.heap.size + 1) _ _ (.slice A1 n c1) (.slice (some ⟨g, 0, none⟩) k c2) _ HRV2.out
          obtain ⟨r0, r1, _, _⟩ := pair_cells hres.1
          obtain ⟨wz, hwz⟩ : ∃ wz, (wr.setCell ⟨w.heap.size + 1, 0, none⟩ (.slice A1 n c1)).setCell ⟨w.heap.size + 1, 1, none⟩ (.slice (some ⟨g, 0, none⟩) k c2) = wz := ⟨_, rfl⟩
          rw [hwz] at hres r0 r1 ⊢
          refine bodyPost_ret (v := .agg #[.slice A1 n c1, .slice (some ⟨g, 0, none⟩) k c2]) (by simp [results, Try.results44, go_sem, r0, r1]) rfl ⟨A1, c1, some ⟨g, 0, none⟩, c2, Ds, rfl, ?_, ?_, ?_, ?_⟩
          · have q1 := HCUT.out.shp.1.kept HG.out (rows_ne HCUT.out.shp.1 HROW.out (by decide))
            exact OwnI.mono (w := wz) (base := W0.heap.size) ⟨q1.kept hres.2 (rows_ne q1 HRV2.out (by decide)), HCUT.out.shp.2⟩ z1.size
          · refine .inr ⟨g, post, rfl, by omega, ?_, fun x hx => ((HN.out x hx).far hres.2 hlt1).mono (by omega), by rw [HD.out, ← HL.out]; exact hcl⟩
            have q := HR.out
            rw [List.drop_of_length_le (Nat.le_of_eq HL.out), List.append_nil] at q
            exact (hres.2.block g q.lt (by intro e; injection e with e; omega)).trans q
          · rw [HK.out, List.take_of_length_le (Nat.le_of_eq HL.out)]
          · have q := hbw.grown HG.out hbw.size (fun k hk => by injection hk with hk; omega)
            exact q.grown hres.2 q.size (fun k hk => by injection hk with hk; omega)
end
end Go.Proofs.Ytpfabbapfmfmmaa
/- coo.Count, and the document's, where they have no error. -/
namespace Go.Proofs.Ytpfabbapfmfmmaa
open Go.RowKit

/-- the number that entry k has in a mode -/
def modeAt (es : List Ent) (md k : Nat) : Nat := ((es[k]?.getD ⟨none, 0, 0, [], 0⟩).cs.getD md 0).toNat
/-- of each place how many -/
def countV (xs : List Int) (md : Nat) (es : List Ent) : List Int := scat (modeAt es md) (xs.getD md 0).toNat (List.replicate es.length 1)
theorem cooF_parts {xs : List Int} {es : List Ent} (h : cooF xs es = 0) : (cellsF xs).2 = 0 ∧ es.length ≤ 65536 ∧ ∀ x ∈ es, insideF xs x.cs = true := by
  unfold cooF at h
  split at h
  · rename_i h1
    split at h
    · simp at h
    · rename_i h2
      split at h
      · rename_i h3; exact ⟨h1, by omega, fun x hx => List.all_eq_true.1 h3 x hx⟩
      · simp at h
  · rename_i h1; exact absurd h h1

set_option maxRecDepth 100000 in
set_option maxHeartbeats 2000000 in
theorem cooCount_ok (A B : Option Addr) (n c m e md : Nat) (xs : List Int) (es : List Ent) (w : World) (h : Ints w w.heap.size A n xs) (hn : n ≤ 9223372036854775807) (hv : Ents w w.heap.size B m es) (hm : m ≤ 9223372036854775807) (hck : cooF xs es = 0) (hmd : md < n) (hsz : xs.getD md 0 ≤ 65536) :
    Calls Try.prog 33 #[.agg #[.slice A n c, .slice B m e], .int .i64 (md : Int)] w fun x w' => ∃ A1 c1, x = .returned (.tuple #[.slice A1 (countV xs md es).length c1, .int .i64 0]) ∧ OwnI w' w.heap.size 3 A1 c1 (countV xs md es) ∧ Below w.heap.size w w' := by
  have HC := fun W (hb : Below w.heap.size w W) => cooCheck_any A B n c m e xs es W ((h.below hb).more hb.size) hn ((hv.below hb).more hb.size) hm
  rw [hck] at HC
  obtain ⟨p1, p2, p3⟩ := cooF_parts hck
  have HL := Lib.hid h.1
  have HL2 := Lib.hid hv.1
  have hm65 : m ≤ 65536 := by rw [← hv.1]; exact p2
  have hB0 : Below w.heap.size w (w.alloc (.cells #[.slice A n c, .slice B m e] 25)) := (Below.refl _ w).alloc (Nat.le_refl _) _
  have z0 := heap_alloc_new w (.cells #[.slice A n c, .slice B m e] 25)
  obtain ⟨b, off, x, rfl, hbb, HX, hcx, hx1, hx2⟩ := h.at_ hmd
  have hx0 : 0 ≤ x := (cellsF_ok p1).2 x (List.mem_of_getElem? HX.out)
  have hgx : xs.getD md 0 = x := by simp [List.getD, HX.out]
  rw [hgx] at hsz
  obtain ⟨M, rfl⟩ : ∃ M : Nat, x = (M : Int) := ⟨x.toNat, by omega⟩
  obtain ⟨i0, hi0, hz0, hz1, hz2⟩ := info_parts infoInt
  have hmk := fun W => run_makeAll (P := Try.prog) 22 3 i0 Try.underlying22 hi0 hz0 hz1 hz2 M (by omega) W
  have d1 : decide ((md : Int) < 0) = false := by simp
  have d2 : decide (n ≤ md) = false := by simp; omega
  have d3 : decide (65536 < (M : Int)) = false := by simp; omega
  have HP := Lib.hid p3
  have HM : Hid ((xs.getD md 0).toNat = M) := by unfold Hid; rw [hgx]; omega
  have hmk0 : (0 : Int) ≤ (md : Int) := by omega
  have hmk1 : (md : Int) < (n : Int) := by omega
  clear hck p1 p2 p3 hgx
  go_enter Try.func33, Try.ntmps33
  go_wp2_with (go_at_call 23; refine (HC _ hB0).mono ?_; rintro y w1 ⟨rfl, hb1⟩; have hT := hB0.trans (hb1.mono hB0.size); replace z0 := dKeep hb1 z0; obtain ⟨k0, k1, _, _⟩ := dCells z0; have hcx1 := (hT.cell (p := ⟨b, off + md, none⟩) hbb).trans hcx; have k2 := fun o => cellPast o k1)
  have HO := own_made w1 3 M w.heap.size hT.size (by omega)
  have HO0 : OwnI (w1.alloc (.cells (madeCells #[.int .i64 0] M) 3)) w.heap.size 3 (some ⟨w1.heap.size, 0, none⟩) M (scat (modeAt es md) M ((List.replicate m 1).take 0)) := by rw [List.take_zero, scat_nil]; exact HO
  have zz := (Below.heap_alloc w1 (.cells (madeCells #[.int .i64 0] M) 3) _ (Array.getElem?_eq_some_iff.1 z0).1).trans z0
  have hT0 := hT.alloc hT.size (.cells (madeCells #[.int .i64 0] M) 3)
  have hgs := hT.size
  clear k0 k1 k2 HO hcx1 z0 hT hb1 hmk HC
  go_loopw [39] (fun i wr => ∃ q : Nat, q ≤ m ∧ i = .int .i64 q ∧ OwnI wr w.heap.size 3 (some ⟨w1.heap.size, 0, none⟩) M (scat (modeAt es md) M ((List.replicate m 1).take q)) ∧ wr.heap[w.heap.size]? = some (.cells #[.slice (some ⟨b, off, none⟩) n c, .slice B m e] 25 (0, 0)) ∧ Below w.heap.size w wr) (fun i _ => m - (intOf i).toNat)
  case atStart => exact ⟨0, Nat.zero_le _, rfl, HO0, zz, hT0⟩
  case round =>
    clear HO0 zz hT0
    obtain ⟨q, hq, rfl, HO, z0, hT⟩ := hrel
    obtain ⟨k0, k1, _, _⟩ := dCells z0
    by_cases hlt : q < m
    · obtain ⟨b2, off2, y, rfl, hb2, HY, hc0, hc1, iy, hy1, hy2, hy3, hy4⟩ := (hv.below hT).at_ hlt
      have hin := inn_of_insideF (HP.out y (List.mem_of_getElem? HY.out))
      have hyn : y.n = n := by rw [← iy.1, ← hin.len, HL.out]
      have hc2 : wr.cell? ⟨b2, off2 + q * 2, none⟩ = some (.slice y.A y.n y.c) := by rw [Nat.mul_comm q 2]; exact hc0
      have hc3 : wr.cell? ⟨b2, off2 + q * 2 + 1, none⟩ = some (.int .i64 y.v) := by rw [Nat.mul_comm q 2]; exact hc1
      have hmode : modeAt es md q = (y.cs.getD md 0).toNat := by unfold modeAt; rw [HY.out]; rfl
      obtain ⟨yA, yn, yc, ycs, yv⟩ := y
      dsimp only at hc0 hc1 hc2 hc3 iy hy1 hy2 hy3 hy4 hin hyn hmode
      subst hyn
      obtain ⟨b3, off3, cj, rfl, hb3, HJ, hcj, hj1, hj2⟩ := iy.at_ (k := md) hmd
      have hjb := hin.at_ HX.out HJ.out
      have hgd : ycs.getD md 0 = cj := by simp [List.getD, HJ.out]
      obtain ⟨j, rfl⟩ : ∃ j : Nat, cj = (j : Int) := ⟨cj.toNat, by omega⟩
      rw [hgd, Int.toNat_natCast] at hmode
      have hjM : j < M := by omega
      obtain ⟨x0, hx0'⟩ : ∃ x0, (scat (modeAt es md) M ((List.replicate m 1).take q))[modeAt es md q]? = some x0 := ⟨_, scat_at _ (by rw [hmode]; exact hjM)⟩
      have hstep := scat_step (V := List.replicate m 1) (k := q) (v := 1) (by rw [List.getElem?_replicate, if_pos hlt]) hx0'
      rw [hmode] at hx0' hstep
      obtain ⟨v, hvv⟩ : ∃ v, wrap64 (x0 + 1) = v := ⟨_, rfl⟩
      have hv1 : IntKind.i64.wrap (x0 + 1) = v := by rw [wrap_eq, hvv]
      have hvr := wrap64_range (x0 + 1)
      rw [hvv] at hstep hvr
      have HOa := HO.alloc (.cells #[.slice (some ⟨b3, off3, none⟩) yn yc, .int .i64 yv] 37)
      obtain ⟨hcz, hfz⟩ := HOa.cell_ hx0'
      have hset := HOa.set_ j v hvr
      rw [← hstep] at hset
      have hcj2 := fun o => cellPast o hcj
      have z1 := (Below.heap_alloc wr (.cells #[.slice (some ⟨b3, off3, none⟩) yn yc, .int .i64 yv] 37) _ (Array.getElem?_eq_some_iff.1 z0).1).trans z0
      have n0 := HOa.ne z1 (by decide)
      have y0 := (Below.heap_setCell _ ⟨w1.heap.size, j, none⟩ (.int .i64 v) _ (fun e => n0 (by rw [e]))).trans z1
      have hT2 := (hT.alloc hT.size (.cells #[.slice (some ⟨b3, off3, none⟩) yn yc, .int .i64 yv] 37)).setCell (p := ⟨w1.heap.size, j, none⟩) (by show w.heap.size ≤ w1.heap.size; exact hgs) (.int .i64 v)
      have hj0 : (0 : Int) ≤ (j : Int) := by omega
      have hj3 : (j : Int) < (M : Int) := by omega
      clear hmode hx0' hstep hvv hgd HO HOa z0 z1 n0 hin
      go_wp2_with fail
      go_roundw
      case rel => exact ⟨q + 1, by omega, by go_num, hset, y0, hT2⟩
      case measure => simp [intOf]; omega
    · obtain rfl : q = m := by omega
      rw [List.take_of_length_le (by simp)] at HO
      have hcv : scat (modeAt es md) M (List.replicate q 1) = countV xs md es := by unfold countV; rw [HM.out, HL2.out]
      rw [hcv] at HO
      have hl : (countV xs md es).length = M := by rw [← hcv, scat_length]
      have HH := Lib.hid hl
      clear hcv hl
      go_wp2_with fail
      go_ret2
      exact ⟨_, _, by rw [HH.out]; rfl, HO, hT⟩
set_option maxRecDepth 100000 in
set_option maxHeartbeats 2000000 in
theorem refCooCount_ok (A B : Option Addr) (n c m e md : Nat) (xs : List Int) (es : List Ent) (w : World) (h : Ints w w.heap.size A n xs) (hn : n ≤ 9223372036854775807) (hv : Ents w w.heap.size B m es) (hm : m ≤ 9223372036854775807) (hck : cooF xs es = 0) (hmd : md < n) (hsz : xs.getD md 0 ≤ 65536) :
    Calls Try.prog 34 #[.agg #[.slice A n c, .slice B m e], .int .i64 (md : Int)] w fun x w' => ∃ A1 c1, x = .returned (.tuple #[.slice A1 (countV xs md es).length c1, .int .i64 0]) ∧ OwnI w' w.heap.size 3 A1 c1 (countV xs md es) ∧ Below w.heap.size w w' := by
  have HC := fun W (hb : Below w.heap.size w W) => refCooCheck_any A B n c m e xs es W ((h.below hb).more hb.size) hn ((hv.below hb).more hb.size) hm
  rw [hck] at HC
  obtain ⟨p1, p2, p3⟩ := cooF_parts hck
  have HL := Lib.hid h.1
  have HL2 := Lib.hid hv.1
  have hm65 : m ≤ 65536 := by rw [← hv.1]; exact p2
  have hB0 : Below w.heap.size w (w.alloc (.cells #[.slice A n c, .slice B m e] 25)) := (Below.refl _ w).alloc (Nat.le_refl _) _
  have z0 := heap_alloc_new w (.cells #[.slice A n c, .slice B m e] 25)
  obtain ⟨b, off, x, rfl, hbb, HX, hcx, hx1, hx2⟩ := h.at_ hmd
  have hx0 : 0 ≤ x := (cellsF_ok p1).2 x (List.mem_of_getElem? HX.out)
  have hgx : xs.getD md 0 = x := by simp [List.getD, HX.out]
  rw [hgx] at hsz
  obtain ⟨M, rfl⟩ : ∃ M : Nat, x = (M : Int) := ⟨x.toNat, by omega⟩
  obtain ⟨i0, hi0, hz0, hz1, hz2⟩ := info_parts infoInt
  have hmk := fun W => run_makeAll (P := Try.prog) 22 3 i0 Try.underlying22 hi0 hz0 hz1 hz2 M (by omega) W
  have d1 : decide ((md : Int) < 0) = false := by simp
  have d2 : decide (n ≤ md) = false := by simp; omega
  have d3 : decide (65536 < (M : Int)) = false := by simp; omega
  have HP := Lib.hid p3
  have HM : Hid ((xs.getD md 0).toNat = M) := by unfold Hid; rw [hgx]; omega
  have hmk0 : (0 : Int) ≤ (md : Int) := by omega
  have hmk1 : (md : Int) < (n : Int) := by omega
  clear hck p1 p2 p3 hgx
  go_enter Try.func34, Try.ntmps34
  go_wp2_with (go_at_call 24; refine (HC _ hB0).mono ?_; rintro y w1 ⟨rfl, hb1⟩; have hT := hB0.trans (hb1.mono hB0.size); replace z0 := dKeep hb1 z0; obtain ⟨k0, k1, _, _⟩ := dCells z0; have hcx1 := (hT.cell (p := ⟨b, off + md, none⟩) hbb).trans hcx; have k2 := fun o => cellPast o k1)
  have HO := own_made w1 3 M w.heap.size hT.size (by omega)
  have HO0 : OwnI (w1.alloc (.cells (madeCells #[.int .i64 0] M) 3)) w.heap.size 3 (some ⟨w1.heap.size, 0, none⟩) M (scat (modeAt es md) M ((List.replicate m 1).take 0)) := by rw [List.take_zero, scat_nil]; exact HO
  have zz := (Below.heap_alloc w1 (.cells (madeCells #[.int .i64 0] M) 3) _ (Array.getElem?_eq_some_iff.1 z0).1).trans z0
  have hT0 := hT.alloc hT.size (.cells (madeCells #[.int .i64 0] M) 3)
  have hgs := hT.size
  clear k0 k1 k2 HO hcx1 z0 hT hb1 hmk HC
  go_loopw [39] (fun i wr => ∃ q : Nat, q ≤ m ∧ i = .int .i64 q ∧ OwnI wr w.heap.size 3 (some ⟨w1.heap.size, 0, none⟩) M (scat (modeAt es md) M ((List.replicate m 1).take q)) ∧ wr.heap[w.heap.size]? = some (.cells #[.slice (some ⟨b, off, none⟩) n c, .slice B m e] 25 (0, 0)) ∧ Below w.heap.size w wr) (fun i _ => m - (intOf i).toNat)
  case atStart => exact ⟨0, Nat.zero_le _, rfl, HO0, zz, hT0⟩
  case round =>
    clear HO0 zz hT0
    obtain ⟨q, hq, rfl, HO, z0, hT⟩ := hrel
    obtain ⟨k0, k1, _, _⟩ := dCells z0
    by_cases hlt : q < m
    · obtain ⟨b2, off2, y, rfl, hb2, HY, hc0, hc1, iy, hy1, hy2, hy3, hy4⟩ := (hv.below hT).at_ hlt
      have hin := inn_of_insideF (HP.out y (List.mem_of_getElem? HY.out))
      have hyn : y.n = n := by rw [← iy.1, ← hin.len, HL.out]
      have hc2 : wr.cell? ⟨b2, off2 + q * 2, none⟩ = some (.slice y.A y.n y.c) := by rw [Nat.mul_comm q 2]; exact hc0
      have hc3 : wr.cell? ⟨b2, off2 + q * 2 + 1, none⟩ = some (.int .i64 y.v) := by rw [Nat.mul_comm q 2]; exact hc1
      have hmode : modeAt es md q = (y.cs.getD md 0).toNat := by unfold modeAt; rw [HY.out]; rfl
      obtain ⟨yA, yn, yc, ycs, yv⟩ := y
      dsimp only at hc0 hc1 hc2 hc3 iy hy1 hy2 hy3 hy4 hin hyn hmode
      subst hyn
      obtain ⟨b3, off3, cj, rfl, hb3, HJ, hcj, hj1, hj2⟩ := iy.at_ (k := md) hmd
      have hjb := hin.at_ HX.out HJ.out
      have hgd : ycs.getD md 0 = cj := by simp [List.getD, HJ.out]
      obtain ⟨j, rfl⟩ : ∃ j : Nat, cj = (j : Int) := ⟨cj.toNat, by omega⟩
      rw [hgd, Int.toNat_natCast] at hmode
      have hjM : j < M := by omega
      obtain ⟨x0, hx0'⟩ : ∃ x0, (scat (modeAt es md) M ((List.replicate m 1).take q))[modeAt es md q]? = some x0 := ⟨_, scat_at _ (by rw [hmode]; exact hjM)⟩
      have hstep := scat_step (V := List.replicate m 1) (k := q) (v := 1) (by rw [List.getElem?_replicate, if_pos hlt]) hx0'
      rw [hmode] at hx0' hstep
      obtain ⟨v, hvv⟩ : ∃ v, wrap64 (x0 + 1) = v := ⟨_, rfl⟩
      have hv1 : IntKind.i64.wrap (x0 + 1) = v := by rw [wrap_eq, hvv]
      have hvr := wrap64_range (x0 + 1)
      rw [hvv] at hstep hvr
      have HOa := HO.alloc (.cells #[.slice (some ⟨b3, off3, none⟩) yn yc, .int .i64 yv] 37)
      obtain ⟨hcz, hfz⟩ := HOa.cell_ hx0'
      have hset := HOa.set_ j v hvr
      rw [← hstep] at hset
      have hcj2 := fun o => cellPast o hcj
      have z1 := (Below.heap_alloc wr (.cells #[.slice (some ⟨b3, off3, none⟩) yn yc, .int .i64 yv] 37) _ (Array.getElem?_eq_some_iff.1 z0).1).trans z0
      have n0 := HOa.ne z1 (by decide)
      have y0 := (Below.heap_setCell _ ⟨w1.heap.size, j, none⟩ (.int .i64 v) _ (fun e => n0 (by rw [e]))).trans z1
      have hT2 := (hT.alloc hT.size (.cells #[.slice (some ⟨b3, off3, none⟩) yn yc, .int .i64 yv] 37)).setCell (p := ⟨w1.heap.size, j, none⟩) (by show w.heap.size ≤ w1.heap.size; exact hgs) (.int .i64 v)
      have hj0 : (0 : Int) ≤ (j : Int) := by omega
      have hj3 : (j : Int) < (M : Int) := by omega
      clear hmode hx0' hstep hvv hgd HO HOa z0 z1 n0 hin
      go_wp2_with fail
      go_roundw
      case rel => exact ⟨q + 1, by omega, by go_num, hset, y0, hT2⟩
      case measure => simp [intOf]; omega
    · obtain rfl : q = m := by omega
      rw [List.take_of_length_le (by simp)] at HO
      have hcv : scat (modeAt es md) M (List.replicate q 1) = countV xs md es := by unfold countV; rw [HM.out, HL2.out]
      rw [hcv] at HO
      have hl : (countV xs md es).length = M := by rw [← hcv, scat_length]
      have HH := Lib.hid hl
      clear hcv hl
      go_wp2_with fail
      go_ret2
      exact ⟨_, _, by rw [HH.out]; rfl, HO, hT⟩
/-- of a list that may be, a part may be -/
theorem cooF_take {xs : List Int} {es : List Ent} (h : cooF xs es = 0) (k : Nat) : cooF xs (es.take k) = 0 := by
  obtain ⟨h1, h2, h3⟩ := cooF_parts h
  unfold cooF
  rw [if_pos h1, if_neg (by rw [List.length_take]; omega), if_pos]
  exact List.all_eq_true.2 fun x hx => h3 x (List.mem_of_mem_take hx)
theorem cooF_drop {xs : List Int} {es : List Ent} (h : cooF xs es = 0) (k : Nat) : cooF xs (es.drop k) = 0 := by
  obtain ⟨h1, h2, h3⟩ := cooF_parts h
  unfold cooF
  rw [if_pos h1, if_neg (by rw [List.length_drop]; omega), if_pos]
  exact List.all_eq_true.2 fun x hx => h3 x (List.mem_of_mem_drop hx)
set_option maxRecDepth 100000 in
set_option maxHeartbeats 2000000 in
theorem cooCount_large (A B : Option Addr) (n c m e md : Nat) (xs : List Int) (es : List Ent) (w : World) (h : Ints w w.heap.size A n xs) (hn : n ≤ 9223372036854775807) (hv : Ents w w.heap.size B m es) (hm : m ≤ 9223372036854775807) (hck : cooF xs es = 0) (hmd : md < n) (hsz : 65536 < xs.getD md 0) :
    Calls Try.prog 33 #[.agg #[.slice A n c, .slice B m e], .int .i64 (md : Int)] w fun x w' => x = .returned (.tuple #[.slice none 0 0, .int .i64 2]) ∧ Below w.heap.size w w' := by
  have HC := fun W (hb : Below w.heap.size w W) => cooCheck_any A B n c m e xs es W ((h.below hb).more hb.size) hn ((hv.below hb).more hb.size) hm
  rw [hck] at HC
  have hB0 : Below w.heap.size w (w.alloc (.cells #[.slice A n c, .slice B m e] 25)) := (Below.refl _ w).alloc (Nat.le_refl _) _
  have z0 := heap_alloc_new w (.cells #[.slice A n c, .slice B m e] 25)
  obtain ⟨b, off, x, rfl, hbb, HX, hcx, hx1, hx2⟩ := h.at_ hmd
  have hgx : xs.getD md 0 = x := by simp [List.getD, HX.out]
  rw [hgx] at hsz
  have d1 : decide ((md : Int) < 0) = false := by simp
  have d2 : decide (n ≤ md) = false := by simp; omega
  have d3 : decide (65536 < x) = true := by simpa using hsz
  have hmk0 : (0 : Int) ≤ (md : Int) := by omega
  have hmk1 : (md : Int) < (n : Int) := by omega
  clear hck hgx
  go_enter Try.func33, Try.ntmps33
  go_wp2_with (go_at_call 23; refine (HC _ hB0).mono ?_; rintro y w1 ⟨rfl, hb1⟩; have hT := hB0.trans (hb1.mono hB0.size); replace z0 := dKeep hb1 z0; obtain ⟨k0, k1, _, _⟩ := dCells z0; have hcx1 := (hT.cell (p := ⟨b, off + md, none⟩) hbb).trans hcx)
  go_ret2
  exact ⟨rfl, hT⟩
end Go.Proofs.Ytpfabbapfmfmmaa
