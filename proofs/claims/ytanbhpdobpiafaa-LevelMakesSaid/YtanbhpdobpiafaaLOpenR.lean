/- How a slice of slices of integers that came in reads. -/
import Derived.Test.YtanbhpdobpiafaaOpenc
import Derived.Test.YtanbhpdobpiafaaLRows
import Derived.Deep.Slices
import Derived.Deep.Fields
import Derived.SizedLaws
namespace Go.Proofs.Ytanbhpdobpiafaa
open Go.ChangeShapes Go.WideShapes Go.ChangeAt Go.RowKit Go.Deep

section
variable {H : Type} {enc : TypeId × Value → H} {w : World} {base : Nat} {spare : Nat → Bool} {held : Bool}
set_option maxRecDepth 100000 in
theorem bytesInt : Try.prog.bytesOf 3 = 8 := by kernel_rfl
set_option maxRecDepth 100000 in
theorem bytesRow : Try.prog.bytesOf 22 = 24 := by kernel_rfl
theorem weightsAll_mem {P : Program} {t : TypeId} {d : DataW H} {x : Nat} : ∀ {ds : List (DataW H)}, d ∈ ds → x ∈ d.weights P t → x ∈ DataW.weightsAll P t ds
  | d' :: r, hm, hx => by
    rcases List.mem_cons.1 hm with rfl | hm
    · simp [DataW.weightsAll, hx]
    · simp [DataW.weightsAll, weightsAll_mem hm hx]
set_option maxRecDepth 100000 in
theorem one_row {fuel : Nat} {a : Addr} {cs : List Value} {x : DataW H × List MemPlace} (hl : cs.length = 1) (hc : ∀ i, i < 1 → w.cell? (a.add i) = cs[i]?) (h : DataW.trod enc Try.prog w base spare held fuel 22 cs = some x) (hw : ∀ y ∈ x.1.weights Try.prog 22, y ≤ reachBytes) :
    ∃ (A : Option Addr) (n c : Nat) (L : List Int), w.cell? a = some (.slice A n c) ∧ Ints w w.heap.size A n L ∧ n ≤ 17592186044416 ∧ n ≤ c := by
  match cs, hl with
  | [v], _ =>
    obtain ⟨a0, l0, c0, e0⟩ := Go.Joins.slice_form Try.underlying22 h
    simp only [List.cons.injEq, and_true] at e0
    subst e0
    obtain ⟨A, n, c, L, f, i, b, g⟩ := open_numsc Try.underlying22 Try.underlying3 (by kernel_rfl) ⟨_, _, _, rfl⟩ (⟨fuel, h⟩ : DataW.Trod enc Try.prog w base spare held 22 (.slice a0 l0 c0) x.1 x.2)
    have hn : n ≤ 17592186044416 := by
      rcases open_slice Try.underlying22 h with ⟨hcs, _⟩ | ⟨x0, l, c, m, k, D, Pl, hcs, _, _, _, hmm, hx, _⟩
      · simp only [List.cons.injEq, and_true] at hcs
        rw [f] at hcs
        injection hcs with _ hcs _
        omega
      · simp only [List.cons.injEq, and_true] at hcs
        rw [f] at hcs
        injection hcs with _ hcs _
        have := hw ((((List.range l).map D).length + ((List.range (m - l)).map fun j => D (l + j)).length) * Try.prog.bytesOf 3) (by rw [hx]; simp [DataW.weights, Try.underlying22])
        rw [bytesInt] at this
        simp only [List.length_map, List.length_range, reachBytes] at this
        omega
    refine ⟨A, n, c, L, ?_, i, hn, g⟩
    have := hc 0 (by omega)
    rw [← f]
    simpa [Addr.add] using this
theorem add_one_ (b off i : Nat) : (Addr.add ⟨b, off, none⟩ i : Addr) = ⟨b, off + i, none⟩ := by
  by_cases h : i = 0
  · subst h; simp [Addr.add]
  · simp [Addr.add, h]
set_option maxRecDepth 100000 in
/-- a [][]int that came in -/
theorem open_rows {v : Value} {d : DataW H} {p : List MemPlace} (hf : ∃ a n c, v = .slice a n c) (h : DataW.Trod enc Try.prog w base spare held 42 v d p) (hw : ∀ y ∈ d.weights Try.prog 42, y ≤ reachBytes) :
    ∃ A n c LL, v = .slice A n c ∧ IntsLL w w.heap.size A n LL ∧ n ≤ 5864062014805 ∧ n ≤ c ∧ ∀ L ∈ LL, L.length ≤ 17592186044416 := by
  obtain ⟨a0, len0, cap0, rfl⟩ := hf
  obtain ⟨fuel, hf⟩ := h
  rcases open_slice Try.underlying42 hf with ⟨hcs, _⟩ | ⟨x, l, c, m, k, D, Pl, hcs, _, hl, hm, hmm, hx, hi⟩
  · simp [Value.cells] at hcs
    obtain ⟨rfl, rfl, rfl⟩ := hcs
    exact ⟨none, 0, 0, [], rfl, IntsLL.nil_ _ _ _, by omega, Nat.le_refl _, by simp⟩
  · simp [Value.cells] at hcs
    obtain ⟨rfl, rfl, rfl⟩ := hcs
    have hC : Try.prog.cellsOf 22 = 1 := by kernel_rfl
    have key : ∀ i, i < len0 → ∃ (L : List Int) (A : Option Addr) (n c : Nat), w.cell? (x.add i) = some (.slice A n c) ∧ Ints w w.heap.size A n L ∧ n ≤ 17592186044416 ∧ n ≤ c := by
      intro i hil
      have hml : len0 ≤ m := by rw [hmm]; split <;> omega
      obtain ⟨cs', hc, ht'⟩ := hi i (by omega)
      rw [hC, Nat.mul_one] at hc
      obtain ⟨_, hlen, hat⟩ := World.cells?_some hc
      obtain ⟨A, n, c, L, h1, h2, h3, h4⟩ := one_row hlen hat ht' (fun y hy => hw y (by
        have hd : d = .slice ((List.range len0).map D) ((List.range (m - len0)).map fun j => D (len0 + j)) := by injection hx
        rw [hd]
        simp only [DataW.weights, Try.underlying42]
        exact List.mem_cons_of_mem _ (List.mem_append_left _ (weightsAll_mem (d := D i) (List.mem_map.2 ⟨i, List.mem_range.2 hil, rfl⟩) hy))))
      exact ⟨L, A, n, c, h1, h2, h3, h4⟩
    have hmax : len0 ≤ 5864062014805 := by
      have hd : d = .slice ((List.range len0).map D) ((List.range (m - len0)).map fun j => D (len0 + j)) := by injection hx
      have := hw ((((List.range len0).map D).length + ((List.range (m - len0)).map fun j => D (len0 + j)).length) * Try.prog.bytesOf 22) (by rw [hd]; simp [DataW.weights, Try.underlying42])
      rw [bytesRow] at this
      simp only [List.length_map, List.length_range, reachBytes] at this
      omega
    refine ⟨_, _, _, (List.range len0).map fun i => if hh : i < len0 then Classical.choose (key i hh) else [], rfl, ⟨by simp, fun h0 => ?_⟩, hmax, hl, fun L hL => ?_⟩
    · obtain ⟨b, off, spot⟩ := x
      obtain ⟨A, n, c, hs, _⟩ := Classical.choose_spec (key 0 h0)
      have hspot : spot = none := by simpa [Addr.add] using World.cell?_spot hs
      subst hspot
      have hlt : b < w.heap.size := by have := lt_of_cell hs; simpa [Addr.add] using this
      refine ⟨b, off, rfl, hlt, fun q y hy => ?_⟩
      rw [List.getElem?_map, Option.map_eq_some_iff] at hy
      obtain ⟨i, hir, hiy⟩ := hy
      have hq : q < len0 := by have := (List.getElem?_eq_some_iff.1 hir).1; simpa using this
      have hqi : i = q := by have := (List.getElem?_eq_some_iff.1 hir).2; simpa using this.symm
      subst hqi
      rw [dif_pos hq] at hiy
      obtain ⟨A, n, c, h1, h2, h3, h4⟩ := Classical.choose_spec (key i hq)
      rw [hiy] at h2
      have hyl := h2.1
      subst hyl
      rw [add_one_] at h1
      exact ⟨A, c, h1, h4, h2⟩
    · rw [List.mem_map] at hL
      obtain ⟨i, hir, rfl⟩ := hL
      have hil := List.mem_range.1 hir
      rw [dif_pos hil]
      obtain ⟨A, n, c, _, h2, h3, _⟩ := Classical.choose_spec (key i hil)
      rw [h2.1]; exact h3
end
end Go.Proofs.Ytanbhpdobpiafaa
