/- How a slice of specs that came in reads. -/
import Derived.Test.YteepiifhmbcciaaG26
import Derived.Test.YteepiifhmbcciaaG5
import Derived.Deep.Slices
import Derived.Deep.Fields
import Derived.Test.YteepiifhmbcciaaG16
namespace Go.Proofs.Yteepiifhmbcciaa
open Go.ChangeShapes Go.WideShapes Go.ChangeAt Go.RowKit Go.Deep

section
variable {H : Type} {enc : TypeId × Value → H} {w : World} {base : Nat} {spare : Nat → Bool} {held : Bool}
set_option maxRecDepth 100000 in
/-- one spec's cells -/
theorem open_spec {f0 f1 f2 : Field} {fuel : Nat} {a : Addr} {cs : List Value} {x : DataW H × List MemPlace} (hs : Try.prog.underlying 60 = some (.struct #[f0, f1, f2])) (hone : oneCellFields Try.prog #[f0, f1, f2] = true) (ht0 : f0.type = 3) (ht1 : f1.type = 3) (ht2 : f2.type = 3) (hl : cs.length = 3)
    (hc : ∀ i, i < 3 → w.cell? (a.add i) = cs[i]?) (h : DataW.trod enc Try.prog w base spare held fuel 60 cs = some x) :
    ∃ y : Sp, w.cell? (a.add 0) = some (.int .i64 y.k) ∧ w.cell? (a.add 1) = some (.int .i64 y.m) ∧ w.cell? (a.add 2) = some (.int .i64 y.s) ∧ y.ok := by
  obtain ⟨ys, k, _, _, _, hyl, hf⟩ := DataW.trod_struct hs h
  match cs, hl with
  | [v0, v1, v2], _ =>
    match ys, hyl with
    | [y0, y1, y2], _ =>
      obtain ⟨o0, k0⟩ := hone_of hone 0 f0 rfl
      obtain ⟨o1, k1⟩ := hone_of hone 1 f1 rfl
      obtain ⟨o2, k2⟩ := hone_of hone 2 f2 rfl
      have h0 := hf 0 f0 rfl
      have h1 := hf 1 f1 rfl
      have h2 := hf 2 f2 rfl
      rw [o0, k0, ht0] at h0
      rw [o1, k1, ht1] at h1
      rw [o2, k2, ht2] at h2
      simp only [List.drop_zero, List.take_succ_cons, List.take_zero, List.drop_succ_cons, List.getElem?_cons_zero, List.getElem?_cons_succ] at h0 h1 h2
      obtain ⟨u0, e0, _, hw0⟩ := DataW.trod_int Try.underlying3 h0
      obtain ⟨u1, e1, _, hw1⟩ := DataW.trod_int Try.underlying3 h1
      obtain ⟨u2, e2, _, hw2⟩ := DataW.trod_int Try.underlying3 h2
      simp only [List.cons.injEq, and_true] at e0 e1 e2
      subst e0 e1 e2
      have b0 := wf_bounds hw0
      have b1 := wf_bounds hw1
      have b2 := wf_bounds hw2
      refine ⟨⟨u0, u1, u2⟩, ?_, ?_, ?_, ⟨b0.1, b0.2, b1.1, b1.2, b2.1, b2.2⟩⟩
      · have := hc 0 (by omega); rw [this]; rfl
      · have := hc 1 (by omega); rw [this]; rfl
      · have := hc 2 (by omega); rw [this]; rfl
set_option maxRecDepth 100000 in
/-- a []api.Spec that came in -/
theorem open_specs {v : Value} {d : DataW H} {p : List MemPlace} (hf : ∃ a n c, v = .slice a n c) (h : DataW.Trod enc Try.prog w base spare held 23 v d p) :
    ∃ A n c fs, v = .slice A n c ∧ Specs w w.heap.size A n fs ∧ n ≤ 9223372036854775807 ∧ n ≤ c := by
  obtain ⟨a0, len0, cap0, rfl⟩ := hf
  obtain ⟨fuel, hf⟩ := h
  rcases open_slice Try.underlying23 hf with ⟨hcs, _⟩ | ⟨x, l, c, m, k, D, Pl, hcs, _, hl, hm, hmm, _, hi⟩
  · simp [Value.cells] at hcs
    obtain ⟨rfl, rfl, rfl⟩ := hcs
    exact ⟨none, 0, 0, [], rfl, Specs.nil_, by omega, Nat.le_refl _⟩
  · simp [Value.cells] at hcs
    obtain ⟨rfl, rfl, rfl⟩ := hcs
    have hC : Try.prog.cellsOf 60 = 3 := by kernel_rfl
    have key : ∀ i, i < len0 → ∃ y : Sp, w.cell? ((x.add (i * 3)).add 0) = some (.int .i64 y.k) ∧ w.cell? ((x.add (i * 3)).add 1) = some (.int .i64 y.m) ∧ w.cell? ((x.add (i * 3)).add 2) = some (.int .i64 y.s) ∧ y.ok := by
      intro i hil
      have hml : len0 ≤ m := by rw [hmm]; split <;> omega
      obtain ⟨cs', hc, ht'⟩ := hi i (by omega)
      rw [hC] at hc
      obtain ⟨_, hlen, hat⟩ := World.cells?_some hc
      exact open_spec Try.underlying60 (by kernel_rfl) (by kernel_rfl) (by kernel_rfl) (by kernel_rfl) hlen hat ht'
    refine ⟨_, _, _, (List.range len0).map fun i => if hh : i < len0 then Classical.choose (key i hh) else ⟨0, 0, 0⟩, rfl, ⟨by simp, ?_, ?_⟩, by unfold maxLen at hm; omega, hl⟩
    · intro y hy
      rw [List.mem_map] at hy
      obtain ⟨i, hir, rfl⟩ := hy
      have hil := List.mem_range.1 hir
      rw [dif_pos hil]
      exact (Classical.choose_spec (key i hil)).2.2.2
    · intro h0
      obtain ⟨b, off, spot⟩ := x
      have hs := (Classical.choose_spec (key 0 h0)).1
      have hspot : spot = none := by simpa [Addr.add] using World.cell?_spot hs
      subst hspot
      have hlt : b < w.heap.size := by have := lt_of_cell hs; simpa [Addr.add] using this
      refine ⟨b, off, rfl, hlt, fun q y hy => ?_⟩
      rw [List.getElem?_map, Option.map_eq_some_iff] at hy
      obtain ⟨i, hir, hiy⟩ := hy
      have hq : q < len0 := by have := (List.getElem?_eq_some_iff.1 hir).1; simpa using this
      have hqi : i = q := by have := (List.getElem?_eq_some_iff.1 hir).2; simpa using this.symm
      subst hqi
      rw [dif_pos hq] at hiy
      have hk := Classical.choose_spec (key i hq)
      rw [hiy] at hk
      obtain ⟨k0, k1, k2, _⟩ := hk
      rw [add_two, add_two] at k0 k1 k2
      exact ⟨k0, k1, k2⟩
end
end Go.Proofs.Yteepiifhmbcciaa
/- How a stored tensor that came in reads. -/
namespace Go.Proofs.Yteepiifhmbcciaa
open Go.ChangeShapes Go.WideShapes Go.ChangeAt Go.RowKit Go.Deep

section
variable {H : Type} {enc : TypeId × Value → H} {w : World} {base : Nat} {spare : Nat → Bool} {held : Bool}
set_option maxRecDepth 100000 in
/-- one level's cells -/
theorem open_lev {f0 f1 f2 f3 : Field} {fuel : Nat} {a : Addr} {cs : List Value} {x : DataW H × List MemPlace} (hs : Try.prog.underlying 57 = some (.struct #[f0, f1, f2, f3])) (hone : oneCellFields Try.prog #[f0, f1, f2, f3] = true) (ht0 : f0.type = 3) (ht1 : f1.type = 3) (ht2 : f2.type = 22) (ht3 : f3.type = 22) (hl : cs.length = 4)
    (hc : ∀ i, i < 4 → w.cell? (a.add i) = cs[i]?) (h : DataW.trod enc Try.prog w base spare held fuel 57 cs = some x) :
    ∃ y : Lv, w.cell? (a.add 0) = some (.int .i64 y.k) ∧ w.cell? (a.add 1) = some (.int .i64 y.s) ∧ w.cell? (a.add 2) = some (.slice y.A y.n y.c) ∧ w.cell? (a.add 3) = some (.slice y.B y.m y.e) ∧ LvR.In w w.heap.size y := by
  obtain ⟨ys, k, _, _, _, hyl, hf⟩ := DataW.trod_struct hs h
  match cs, hl with
  | [v0, v1, v2, v3], _ =>
    match ys, hyl with
    | [y0, y1, y2, y3], _ =>
      obtain ⟨o0, k0⟩ := hone_of hone 0 f0 rfl
      obtain ⟨o1, k1⟩ := hone_of hone 1 f1 rfl
      obtain ⟨o2, k2⟩ := hone_of hone 2 f2 rfl
      obtain ⟨o3, k3⟩ := hone_of hone 3 f3 rfl
      have h0 := hf 0 f0 rfl
      have h1 := hf 1 f1 rfl
      have h2 := hf 2 f2 rfl
      have h3 := hf 3 f3 rfl
      rw [o0, k0, ht0] at h0
      rw [o1, k1, ht1] at h1
      rw [o2, k2, ht2] at h2
      rw [o3, k3, ht3] at h3
      simp only [List.drop_zero, List.take_succ_cons, List.take_zero, List.drop_succ_cons, List.getElem?_cons_zero, List.getElem?_cons_succ] at h0 h1 h2 h3
      obtain ⟨u0, e0, _, hw0⟩ := DataW.trod_int Try.underlying3 h0
      obtain ⟨u1, e1, _, hw1⟩ := DataW.trod_int Try.underlying3 h1
      obtain ⟨a2, l2, c2, e2⟩ := Go.Joins.slice_form Try.underlying22 h2
      obtain ⟨a3, l3, c3, e3⟩ := Go.Joins.slice_form Try.underlying22 h3
      simp only [List.cons.injEq, and_true] at e0 e1 e2 e3
      subst e0 e1 e2 e3
      have t2 : DataW.Trod enc Try.prog w base spare held 22 (.slice a2 l2 c2) y2.1 y2.2 := ⟨k, h2⟩
      have t3 : DataW.Trod enc Try.prog w base spare held 22 (.slice a3 l3 c3) y3.1 y3.2 := ⟨k, h3⟩
      obtain ⟨A, n, c, zs, f2', i2, b2, g2⟩ := open_numsc Try.underlying22 Try.underlying3 (by kernel_rfl) ⟨_, _, _, rfl⟩ t2
      obtain ⟨B, m, e, us, f3', i3, b3, g3⟩ := open_numsc Try.underlying22 Try.underlying3 (by kernel_rfl) ⟨_, _, _, rfl⟩ t3
      refine ⟨⟨u0, u1, A, n, c, B, m, e, zs, us⟩, ?_, ?_, ?_, ?_, ⟨wf_bounds hw0, wf_bounds hw1, i2, i3, b2, b3, g2, g3⟩⟩
      · have := hc 0 (by omega); rw [this]; rfl
      · have := hc 1 (by omega); rw [this]; rfl
      · have := hc 2 (by omega); rw [this, ← f2']; rfl
      · have := hc 3 (by omega); rw [this, ← f3']; rfl
set_option maxRecDepth 100000 in
/-- a []api.Level that came in -/
theorem open_levs {v : Value} {d : DataW H} {p : List MemPlace} (hf : ∃ a n c, v = .slice a n c) (h : DataW.Trod enc Try.prog w base spare held 24 v d p) :
    ∃ A n c ls, v = .slice A n c ∧ LvsR w w.heap.size A n ls ∧ n ≤ 9223372036854775807 ∧ n ≤ c := by
  obtain ⟨a0, len0, cap0, rfl⟩ := hf
  obtain ⟨fuel, hf⟩ := h
  rcases open_slice Try.underlying24 hf with ⟨hcs, _⟩ | ⟨x, l, c, m, k, D, Pl, hcs, _, hl, hm, hmm, _, hi⟩
  · simp [Value.cells] at hcs
    obtain ⟨rfl, rfl, rfl⟩ := hcs
    exact ⟨none, 0, 0, [], rfl, LvsR.nil_, by omega, Nat.le_refl _⟩
  · simp [Value.cells] at hcs
    obtain ⟨rfl, rfl, rfl⟩ := hcs
    have hC : Try.prog.cellsOf 57 = 4 := by kernel_rfl
    have key : ∀ i, i < len0 → ∃ y : Lv, w.cell? ((x.add (i * 4)).add 0) = some (.int .i64 y.k) ∧ w.cell? ((x.add (i * 4)).add 1) = some (.int .i64 y.s) ∧ w.cell? ((x.add (i * 4)).add 2) = some (.slice y.A y.n y.c) ∧ w.cell? ((x.add (i * 4)).add 3) = some (.slice y.B y.m y.e) ∧ LvR.In w w.heap.size y := by
      intro i hil
      have hml : len0 ≤ m := by rw [hmm]; split <;> omega
      obtain ⟨cs', hc, ht'⟩ := hi i (by omega)
      rw [hC] at hc
      obtain ⟨_, hlen, hat⟩ := World.cells?_some hc
      exact open_lev Try.underlying57 (by kernel_rfl) (by kernel_rfl) (by kernel_rfl) (by kernel_rfl) (by kernel_rfl) hlen hat ht'
    refine ⟨_, _, _, (List.range len0).map fun i => if hh : i < len0 then Classical.choose (key i hh) else ⟨0, 0, none, 0, 0, none, 0, 0, [], []⟩, rfl, ⟨by simp, ?_, ?_⟩, by unfold maxLen at hm; omega, hl⟩
    · intro y hy
      rw [List.mem_map] at hy
      obtain ⟨i, hir, rfl⟩ := hy
      have hil := List.mem_range.1 hir
      rw [dif_pos hil]
      exact (Classical.choose_spec (key i hil)).2.2.2.2
    · intro h0
      obtain ⟨b, off, spot⟩ := x
      have hs := (Classical.choose_spec (key 0 h0)).1
      have hspot : spot = none := by simpa [Addr.add] using World.cell?_spot hs
      subst hspot
      have hlt : b < w.heap.size := by have := lt_of_cell hs; simpa [Addr.add] using this
      refine ⟨b, off, rfl, hlt, fun q y hy => ?_⟩
      rw [List.getElem?_map, Option.map_eq_some_iff] at hy
      obtain ⟨i, hir, hiy⟩ := hy
      have hq : q < len0 := by have := (List.getElem?_eq_some_iff.1 hir).1; simpa using this
      have hqi : i = q := by have := (List.getElem?_eq_some_iff.1 hir).2; simpa using this.symm
      subst hqi
      rw [dif_pos hq] at hiy
      have hk := Classical.choose_spec (key i hq)
      rw [hiy] at hk
      obtain ⟨k0, k1, k2, k3, _⟩ := hk
      rw [add_two, add_two] at k0 k1 k2 k3
      exact ⟨k0, k1, k2, k3⟩
set_option maxRecDepth 100000 in
/-- a stored tensor that came in -/
theorem open_tensor {r : Reach} {b0 : Nat} {v : Value} {d : DataW H} {p : List MemPlace} (hv : Value.okWide Try.prog w r b0 27 v) (h : DataW.Trod enc Try.prog w base spare held 27 v d p) :
    ∃ t : Ten, v = t.val ∧ TenR.In w w.heap.size t := by
  obtain ⟨v0, v1, v2, v3, y0, y1, y2, y3, k, rfl, _, _, h0, h1, h2, h3⟩ := Go.Joins.open_agg4 Try.underlying27 (by kernel_rfl) (by kernel_rfl) hv h
  obtain ⟨a0, l0, c0, e0⟩ := Go.Joins.slice_form Try.underlying22 h0
  obtain ⟨a1, l1, c1, e1⟩ := Go.Joins.slice_form Try.underlying23 h1
  obtain ⟨a2, l2, c2, e2⟩ := Go.Joins.slice_form Try.underlying24 h2
  obtain ⟨a3, l3, c3, e3⟩ := Go.Joins.slice_form Try.underlying25 h3
  simp only [List.cons.injEq, and_true] at e0 e1 e2 e3
  have t0 : DataW.Trod enc Try.prog w base spare held 22 v0 y0.1 y0.2 := ⟨k, by rw [e0] at h0 ⊢; exact h0⟩
  have t1 : DataW.Trod enc Try.prog w base spare held 23 v1 y1.1 y1.2 := ⟨k, by rw [e1] at h1 ⊢; exact h1⟩
  have t2 : DataW.Trod enc Try.prog w base spare held 24 v2 y2.1 y2.2 := ⟨k, by rw [e2] at h2 ⊢; exact h2⟩
  have t3 : DataW.Trod enc Try.prog w base spare held 25 v3 y3.1 y3.2 := ⟨k, by rw [e3] at h3 ⊢; exact h3⟩
  obtain ⟨A, n, c, xs, f0, i0, b0, g0⟩ := open_numsc Try.underlying22 Try.underlying3 (by kernel_rfl) ⟨_, _, _, e0⟩ t0
  obtain ⟨F, fn, fc, fs, f1, i1, b1, g1⟩ := open_specs ⟨_, _, _, e1⟩ t1
  obtain ⟨L, ln, lc, ls, f2, i2, b2, g2⟩ := open_levs ⟨_, _, _, e2⟩ t2
  obtain ⟨V, vn, vc, vs, f3, i3, b3, g3⟩ := open_numsc Try.underlying25 Try.underlying2 (by kernel_rfl) ⟨_, _, _, e3⟩ t3
  exact ⟨⟨A, n, c, xs, F, fn, fc, fs, L, ln, lc, ls, V, vn, vc, vs⟩, by rw [f0, f1, f2, f3], ⟨i0, i1, i2, i3, g0, g1, g2, g3, b0, b1, b2, b3⟩⟩
end
end Go.Proofs.Yteepiifhmbcciaa
