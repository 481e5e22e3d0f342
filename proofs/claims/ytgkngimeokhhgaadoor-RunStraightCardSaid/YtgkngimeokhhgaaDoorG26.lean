/- How a slice of slices of int64s that came in reads. -/
import Derived.Test.YtgkngimeokhhgaaDoorG25
import Derived.Test.YtgkngimeokhhgaaDoorG5
import Derived.Deep.Slices
import Derived.Deep.Fields
import Derived.SizedLaws
import Derived.Test.YtgkngimeokhhgaaDoorG2
import Derived.Test.YtgkngimeokhhgaaDoorG4
import Derived.Test.YtgkngimeokhhgaaDoorG1
import Derived.Test.YtgkngimeokhhgaaDoorG10
import Derived.BigFrame
namespace Go.Proofs.YtgkngimeokhhgaaDoor
open Go.ChangeShapes Go.WideShapes Go.ChangeAt Go.RowKit Go.Deep

section
variable {H : Type} {enc : TypeId × Value → H} {w : World} {base : Nat} {spare : Nat → Bool} {held : Bool}
set_option maxRecDepth 100000 in
theorem bytesI6 : Tryd.prog.bytesOf 2 = 8 := by kernel_rfl
set_option maxRecDepth 100000 in
theorem bytesRow6 : Tryd.prog.bytesOf 50 = 24 := by kernel_rfl
theorem wAll_mem6 {P : Program} {t : TypeId} {d : DataW H} {x : Nat} : ∀ {ds : List (DataW H)}, d ∈ ds → x ∈ d.weights P t → x ∈ DataW.weightsAll P t ds
  | d' :: r, hm, hx => by
    rcases List.mem_cons.1 hm with rfl | hm
    · simp [DataW.weightsAll, hx]
    · simp [DataW.weightsAll, wAll_mem6 hm hx]
set_option maxRecDepth 100000 in
theorem one_row6 {fuel : Nat} {a : Addr} {cs : List Value} {x : DataW H × List MemPlace} (hl : cs.length = 1) (hc : ∀ i, i < 1 → w.cell? (a.add i) = cs[i]?) (h : DataW.trod enc Tryd.prog w base spare held fuel 50 cs = some x) (hw : ∀ y ∈ x.1.weights Tryd.prog 50, y ≤ reachBytes) :
    ∃ (A : Option Addr) (n c : Nat) (L : List Int), w.cell? a = some (.slice A n c) ∧ Ints w w.heap.size A n L ∧ n ≤ 17592186044416 ∧ n ≤ c := by
  match cs, hl with
  | [v], _ =>
    obtain ⟨a0, l0, c0, e0⟩ := Go.Joins.slice_form Tryd.underlying50 h
    simp only [List.cons.injEq, and_true] at e0
    subst e0
    obtain ⟨A, n, c, L, f, i, b, g⟩ := open_numsc Tryd.underlying50 Tryd.underlying2 (by kernel_rfl) ⟨_, _, _, rfl⟩ (⟨fuel, h⟩ : DataW.Trod enc Tryd.prog w base spare held 50 (.slice a0 l0 c0) x.1 x.2)
    have hn : n ≤ 17592186044416 := by
      rcases open_slice Tryd.underlying50 h with ⟨hcs, _⟩ | ⟨x0, l, c, m, k, D, Pl, hcs, _, _, _, hmm, hx, _⟩
      · simp only [List.cons.injEq, and_true] at hcs
        rw [f] at hcs
        injection hcs with _ hcs _
        omega
      · simp only [List.cons.injEq, and_true] at hcs
        rw [f] at hcs
        injection hcs with _ hcs _
        have := hw ((((List.range l).map D).length + ((List.range (m - l)).map fun j => D (l + j)).length) * Tryd.prog.bytesOf 2) (by rw [hx]; simp [DataW.weights, Tryd.underlying50])
        rw [bytesI6] at this
        simp only [List.length_map, List.length_range, reachBytes] at this
        omega
    refine ⟨A, n, c, L, ?_, i, hn, g⟩
    have := hc 0 (by omega)
    rw [← f]
    simpa [Addr.add] using this
theorem add_one6 (b off i : Nat) : (Addr.add ⟨b, off, none⟩ i : Addr) = ⟨b, off + i, none⟩ := by
  by_cases h : i = 0
  · subst h; simp [Addr.add]
  · simp [Addr.add, h]
set_option maxRecDepth 100000 in
/-- a [][]int64 that came in -/
theorem open_rows6 {v : Value} {d : DataW H} {p : List MemPlace} (hf : ∃ a n c, v = .slice a n c) (h : DataW.Trod enc Tryd.prog w base spare held 25 v d p) (hw : ∀ y ∈ d.weights Tryd.prog 25, y ≤ reachBytes) :
    ∃ A n c LL, v = .slice A n c ∧ IntsLL w w.heap.size A n LL ∧ n ≤ 5864062014805 ∧ n ≤ c ∧ ∀ L ∈ LL, L.length ≤ 17592186044416 := by
  obtain ⟨a0, len0, cap0, rfl⟩ := hf
  obtain ⟨fuel, hf⟩ := h
  rcases open_slice Tryd.underlying25 hf with ⟨hcs, _⟩ | ⟨x, l, c, m, k, D, Pl, hcs, _, hl, hm, hmm, hx, hi⟩
  · simp [Value.cells] at hcs
    obtain ⟨rfl, rfl, rfl⟩ := hcs
    exact ⟨none, 0, 0, [], rfl, IntsLL.nil_ _ _ _, by omega, Nat.le_refl _, by simp⟩
  · simp [Value.cells] at hcs
    obtain ⟨rfl, rfl, rfl⟩ := hcs
    have hC : Tryd.prog.cellsOf 50 = 1 := by kernel_rfl
    have key : ∀ i, i < len0 → ∃ (L : List Int) (A : Option Addr) (n c : Nat), w.cell? (x.add i) = some (.slice A n c) ∧ Ints w w.heap.size A n L ∧ n ≤ 17592186044416 ∧ n ≤ c := by
      intro i hil
      have hml : len0 ≤ m := by rw [hmm]; split <;> omega
      obtain ⟨cs', hc, ht'⟩ := hi i (by omega)
      rw [hC, Nat.mul_one] at hc
      obtain ⟨_, hlen, hat⟩ := World.cells?_some hc
      obtain ⟨A, n, c, L, h1, h2, h3, h4⟩ := one_row6 hlen hat ht' (fun y hy => hw y (by
        have hd : d = .slice ((List.range len0).map D) ((List.range (m - len0)).map fun j => D (len0 + j)) := by injection hx
        rw [hd]
        simp only [DataW.weights, Tryd.underlying25]
        exact List.mem_cons_of_mem _ (List.mem_append_left _ (wAll_mem6 (d := D i) (List.mem_map.2 ⟨i, List.mem_range.2 hil, rfl⟩) hy))))
      exact ⟨L, A, n, c, h1, h2, h3, h4⟩
    have hmax : len0 ≤ 5864062014805 := by
      have hd : d = .slice ((List.range len0).map D) ((List.range (m - len0)).map fun j => D (len0 + j)) := by injection hx
      have := hw ((((List.range len0).map D).length + ((List.range (m - len0)).map fun j => D (len0 + j)).length) * Tryd.prog.bytesOf 50) (by rw [hd]; simp [DataW.weights, Tryd.underlying25])
      rw [bytesRow6] at this
      simp only [List.length_map, List.length_range, reachBytes] at this
      omega
    refine ⟨_, _, _, (List.range len0).map fun i => if hh : i < len0 then Classical.choose (key i hh) else [], rfl, ⟨by simp, fun h0 => ?_⟩, hmax, hl, fun L hL => ?_⟩
    · obtain ⟨b, off, spot⟩ := x
      obtain ⟨A, n, c, hs, _⟩ := Classical.choose_spec (key 0 h0)
      have hspot : spot = none := by simpa [Addr.add] using World.cell?_spot hs
      subst hspot
      have hlt : b < w.heap.size := by have := lt_of_cell hs; simpa [Addr.add] using this
      refine ⟨b, off, rfl, hlt, fun q y hy => ?_⟩
      rw [List.getElem?_map, Option.map_eq_some_iff] at hy
      obtain ⟨i, hir, hiy⟩ := hy
      have hq : q < len0 := by have := (List.getElem?_eq_some_iff.1 hir).1; simpa using this
      have hqi : i = q := by have := (List.getElem?_eq_some_iff.1 hir).2; simpa using this.symm
      subst hqi
      rw [dif_pos hq] at hiy
      obtain ⟨A, n, c, h1, h2, h3, h4⟩ := Classical.choose_spec (key i hq)
      rw [hiy] at h2
      have hyl := h2.1
      subst hyl
      rw [add_one6] at h1
      exact ⟨A, c, h1, h4, h2⟩
    · rw [List.mem_map] at hL
      obtain ⟨i, hir, rfl⟩ := hL
      have hil := List.mem_range.1 hir
      rw [dif_pos hil]
      obtain ⟨A, n, c, _, h2, h3, _⟩ := Classical.choose_spec (key i hil)
      rw [h2.1]; exact h3
end
end Go.Proofs.YtgkngimeokhhgaaDoor
/- How a slice of entries that came in reads. -/
namespace Go.Proofs.YtgkngimeokhhgaaDoor
open Go.ChangeShapes Go.WideShapes Go.ChangeAt Go.RowKit Go.Deep

section
variable {H : Type} {enc : TypeId × Value → H} {w : World} {base : Nat} {spare : Nat → Bool} {held : Bool}
theorem add_two (b off i : Nat) : (Addr.add ⟨b, off, none⟩ i : Addr) = ⟨b, off + i, none⟩ := by
  by_cases h : i = 0
  · subst h; simp [Addr.add]
  · simp [Addr.add, h]
end
end Go.Proofs.YtgkngimeokhhgaaDoor
/- How code, and an instruction, that came in read. -/
namespace Go.Proofs.YtgkngimeokhhgaaDoor
open Go.ChangeShapes Go.WideShapes Go.ChangeAt Go.RowKit Go.Deep

theorem list5 {α : Type} {l : List α} (h : l.length = 5) : ∃ a b c d e, l = [a, b, c, d, e] := by
  match l, h with
  | [a, b, c, d, e], _ => exact ⟨a, b, c, d, e, rfl⟩
theorem array5 {α : Type} {cs : Array α} (h : cs.size = 5) : ∃ a b c d e, cs = #[a, b, c, d, e] := by
  obtain ⟨l⟩ := cs
  match l, h with
  | [a, b, c, d, e], _ => exact ⟨a, b, c, d, e, rfl⟩
section
variable {H : Type} {enc : TypeId × Value → H} {w : World} {base : Nat} {spare : Nat → Bool} {held : Bool}
set_option maxRecDepth 100000 in
/-- five cells that read as an instruction -/
theorem open_ins5 {f0 f1 f2 f3 f4 : Field} {fuel : Nat} {v0 v1 v2 v3 v4 : Value} {x : DataW H × List MemPlace} (hs : Tryd.prog.underlying 35 = some (.struct #[f0, f1, f2, f3, f4])) (hone : oneCellFields Tryd.prog #[f0, f1, f2, f3, f4] = true) (ht0 : f0.type = 3) (ht1 : f1.type = 3) (ht2 : f2.type = 3) (ht3 : f3.type = 3) (ht4 : f4.type = 2)
    (h : DataW.trod enc Tryd.prog w base spare held fuel 35 [v0, v1, v2, v3, v4] = some x) :
    ∃ y : Ji, v0 = .int .i64 y.op ∧ v1 = .int .i64 y.a ∧ v2 = .int .i64 y.b ∧ v3 = .int .i64 y.c ∧ v4 = .int .i64 y.n ∧ y.ok := by
  obtain ⟨ys, k, _, _, _, hyl, hf⟩ := DataW.trod_struct hs h
  obtain ⟨y0, y1, y2, y3, y4, rfl⟩ := list5 hyl
  obtain ⟨o0, k0⟩ := hone_of hone 0 f0 rfl
  obtain ⟨o1, k1⟩ := hone_of hone 1 f1 rfl
  obtain ⟨o2, k2⟩ := hone_of hone 2 f2 rfl
  obtain ⟨o3, k3⟩ := hone_of hone 3 f3 rfl
  obtain ⟨o4, k4⟩ := hone_of hone 4 f4 rfl
  have h0 := hf 0 f0 rfl
  have h1 := hf 1 f1 rfl
  have h2 := hf 2 f2 rfl
  have h3 := hf 3 f3 rfl
  have h4 := hf 4 f4 rfl
  rw [o0, k0, ht0] at h0
  rw [o1, k1, ht1] at h1
  rw [o2, k2, ht2] at h2
  rw [o3, k3, ht3] at h3
  rw [o4, k4, ht4] at h4
  simp only [List.drop_zero, List.take_succ_cons, List.take_zero, List.drop_succ_cons, List.getElem?_cons_zero, List.getElem?_cons_succ] at h0 h1 h2 h3 h4
  obtain ⟨u0, e0, _, hw0⟩ := DataW.trod_int Tryd.underlying3 h0
  obtain ⟨u1, e1, _, hw1⟩ := DataW.trod_int Tryd.underlying3 h1
  obtain ⟨u2, e2, _, hw2⟩ := DataW.trod_int Tryd.underlying3 h2
  obtain ⟨u3, e3, _, hw3⟩ := DataW.trod_int Tryd.underlying3 h3
  obtain ⟨u4, e4, _, hw4⟩ := DataW.trod_int Tryd.underlying2 h4
  simp only [List.cons.injEq, and_true] at e0 e1 e2 e3 e4
  subst e0 e1 e2 e3 e4
  exact ⟨⟨u0, u1, u2, u3, u4⟩, rfl, rfl, rfl, rfl, rfl, ⟨wf_bounds hw0, wf_bounds hw1, wf_bounds hw2, wf_bounds hw3, wf_bounds hw4⟩⟩
set_option maxRecDepth 100000 in
/-- an instruction that came in -/
theorem open_ins {r : Reach} {b0 : Nat} {v : Value} {d : DataW H} {p : List MemPlace} (hv : Value.okWide Tryd.prog w r b0 35 v) (h : DataW.Trod enc Tryd.prog w base spare held 35 v d p) : ∃ y : Ji, v = y.val ∧ y.ok := by
  obtain ⟨cs, rfl, hsz⟩ := okWide_struct Tryd.underlying35 hv
  have hC : Tryd.prog.cellsOf 35 = 5 := by kernel_rfl
  obtain ⟨v0, v1, v2, v3, v4, rfl⟩ := array5 (hsz.trans hC)
  obtain ⟨fuel, hf⟩ := h
  obtain ⟨y, rfl, rfl, rfl, rfl, rfl, hy⟩ := open_ins5 Tryd.underlying35 (by kernel_rfl) (by kernel_rfl) (by kernel_rfl) (by kernel_rfl) (by kernel_rfl) (by kernel_rfl) hf
  exact ⟨y, rfl, hy⟩
set_option maxRecDepth 100000 in
/-- a []api.Ins that came in -/
theorem open_inss {v : Value} {d : DataW H} {p : List MemPlace} (hf : ∃ a n c, v = .slice a n c) (h : DataW.Trod enc Tryd.prog w base spare held 22 v d p) :
    ∃ A n c l, v = .slice A n c ∧ Jis w w.heap.size A n l ∧ n ≤ 9223372036854775807 ∧ n ≤ c := by
  obtain ⟨a0, len0, cap0, rfl⟩ := hf
  obtain ⟨fuel, hf⟩ := h
  rcases open_slice Tryd.underlying22 hf with ⟨hcs, _⟩ | ⟨x, l, c, m, k, D, Pl, hcs, _, hl, hm, hmm, _, hi⟩
  · simp [Value.cells] at hcs
    obtain ⟨rfl, rfl, rfl⟩ := hcs
    exact ⟨none, 0, 0, [], rfl, Jis.nil_, by omega, Nat.le_refl _⟩
  · simp [Value.cells] at hcs
    obtain ⟨rfl, rfl, rfl⟩ := hcs
    have hC : Tryd.prog.cellsOf 35 = 5 := by kernel_rfl
    have key : ∀ i, i < len0 → ∃ y : Ji, (∀ j, j < 5 → w.cell? ((x.add (i * 5)).add j) = some (.int .i64 (y.at j))) ∧ y.ok := by
      intro i hil
      have hml : len0 ≤ m := by rw [hmm]; split <;> omega
      obtain ⟨cs', hc, ht'⟩ := hi i (by omega)
      rw [hC] at hc
      obtain ⟨_, hlen, hat⟩ := World.cells?_some hc
      obtain ⟨v0, v1, v2, v3, v4, rfl⟩ := list5 hlen
      obtain ⟨y, rfl, rfl, rfl, rfl, rfl, hy⟩ := open_ins5 Tryd.underlying35 (by kernel_rfl) (by kernel_rfl) (by kernel_rfl) (by kernel_rfl) (by kernel_rfl) (by kernel_rfl) ht'
      refine ⟨y, fun j hj => ?_, hy⟩
      rw [hat j hj]
      match j, hj with
      | 0, _ => rfl
      | 1, _ => rfl
      | 2, _ => rfl
      | 3, _ => rfl
      | 4, _ => rfl
    refine ⟨_, _, _, (List.range len0).map fun i => if hh : i < len0 then Classical.choose (key i hh) else ⟨0, 0, 0, 0, 0⟩, rfl, ⟨by simp, ?_, ?_⟩, by unfold maxLen at hm; omega, hl⟩
    · intro y hy
      rw [List.mem_map] at hy
      obtain ⟨i, hir, rfl⟩ := hy
      have hil := List.mem_range.1 hir
      rw [dif_pos hil]
      exact (Classical.choose_spec (key i hil)).2
    · intro h0
      obtain ⟨b, off, spot⟩ := x
      have hs := (Classical.choose_spec (key 0 h0)).1 0 (by omega)
      have hspot : spot = none := by simpa [Addr.add] using World.cell?_spot hs
      subst hspot
      have hlt : b < w.heap.size := by have := lt_of_cell hs; simpa [Addr.add] using this
      refine ⟨b, off, rfl, hlt, fun q y hy j hj => ?_⟩
      rw [List.getElem?_map, Option.map_eq_some_iff] at hy
      obtain ⟨i, hir, hiy⟩ := hy
      have hq : q < len0 := by have := (List.getElem?_eq_some_iff.1 hir).1; simpa using this
      have hqi : i = q := by have := (List.getElem?_eq_some_iff.1 hir).2; simpa using this.symm
      subst hqi
      rw [dif_pos hq] at hiy
      have hk := (Classical.choose_spec (key i hq)).1 j hj
      rw [hiy] at hk
      rw [add_two, add_two] at hk
      exact hk
set_option maxRecDepth 100000 in
/-- code that came in -/
theorem open_code {r : Reach} {b0 : Nat} {v : Value} {d : DataW H} {p : List MemPlace} (hv : Value.okWide Tryd.prog w r b0 24 v) (h : DataW.Trod enc Tryd.prog w base spare held 24 v d p) :
    ∃ q : Cq, v = q.val ∧ q.In w := by
  obtain ⟨v0, v1, v2, v3, y0, y1, y2, y3, k, rfl, _, _, h0, h1, h2, h3⟩ := Go.Joins.open_agg4 Tryd.underlying24 (by kernel_rfl) (by kernel_rfl) hv h
  obtain ⟨R, e0, _, hw0⟩ := DataW.trod_int Tryd.underlying3 h0
  obtain ⟨A, e1, _, hw1⟩ := DataW.trod_int Tryd.underlying3 h1
  obtain ⟨I, e2, _, hw2⟩ := DataW.trod_int Tryd.underlying3 h2
  obtain ⟨a3, l3, c3, e3⟩ := Go.Joins.slice_form Tryd.underlying22 h3
  simp only [List.cons.injEq, and_true] at e0 e1 e2 e3
  have t3 : DataW.Trod enc Tryd.prog w base spare held 22 v3 y3.1 y3.2 := ⟨k, by rw [e3] at h3 ⊢; exact h3⟩
  obtain ⟨P, n, c, l, f3, i3, b3, g3⟩ := open_inss ⟨_, _, _, e3⟩ t3
  exact ⟨⟨R, A, I, P, n, c, l⟩, by rw [e0, e1, e2, f3], ⟨i3, wf_bounds hw0, wf_bounds hw1, wf_bounds hw2, b3, g3⟩⟩
end
end Go.Proofs.YtgkngimeokhhgaaDoor
/- append of a whole list of instructions. -/
namespace Go.Proofs.YtgkngimeokhhgaaDoor
open Go.RowKit

theorem Jis.cells {w : World} {B n : Nat} {ad : Addr} {es : List Ji} (h : Jis w B (some ad) n es) : ∀ (j : Nat) (u : Value), (cellsJ es)[j]? = some u → w.cell? (ad.add j) = some u := by
  intro j u hu
  have hj := (List.getElem?_eq_some_iff.1 hu).1
  rw [cellsJ_length] at hj
  obtain ⟨hl, _, hc⟩ := h
  obtain ⟨b, off, e, _, hx⟩ := hc (by omega)
  injection e with e
  subst e
  have hk : j / 5 < es.length := by omega
  have hx' := hx (j / 5) _ (List.getElem?_eq_getElem hk) (j % 5) (by omega)
  have hce := cellsJ_at (List.getElem?_eq_getElem hk) (i := j % 5) (by omega)
  have hadd : (Addr.add ⟨b, off, none⟩ j : Addr) = ⟨b, off + j, none⟩ := by
    by_cases h0 : j = 0
    · subst h0; simp [Addr.add]
    · simp [Addr.add, h0]
  rw [show 5 * (j / 5) + j % 5 = j by omega, hu] at hce
  rw [show off + j / 5 * 5 + j % 5 = off + j by omega] at hx'
  rw [hadd, hx', hce]
theorem cellsJ_one (ss : List Ji) : ∀ u ∈ cellsJ ss, u.oneCell' = true := by
  induction ss with
  | nil => simp [cellsJ]
  | cons x ss ih =>
    intro u hu
    simp only [cellsJ, List.mem_cons] at hu
    rcases hu with rfl | rfl | rfl | rfl | rfl | hu
    all_goals first | (simp [Value.oneCell']; done) | exact ih u hu
theorem run_appendNilJ (w : World) (base : Nat) (ty : TypeId) (v : Value) (n : Nat) (xs : List Value) (hown : w.ownsRow base 35 5 v n xs) (c : Nat) :
    (Builtin.append_ #[22, 22] ty #[v, .slice none 0 c]).run Tryd.prog w = .ok v w := by
  obtain ⟨i, hi, hz, h1, h2⟩ := info_parts infoIns
  have ht := Tryd.underlying22
  rcases hown.2 with ⟨rfl, rfl⟩ | ⟨g, cap, cur, rfl, _, _, hnc, _⟩ <;> simp [Builtin.append_, run_underlying ht, sizeOf, typeInfo, Builtin.lenOf, Builtin.firstCells, *, storeCells]
theorem run_appendJs (w : World) (base : Nat) (ty : TypeId) (A A2 : Option Addr) (c m c2 B : Nat) (xs ys : List Ji) (ho : OwnJ w base A c xs) (hs : Jis w B A2 m ys) (hl : xs.length + m ≤ 1000000) (hb : base ≤ w.heap.size) :
    ∃ A' c' w', (Builtin.append_ #[22, 22] ty #[.slice A xs.length c, .slice A2 m c2]).run Tryd.prog w = .ok (.slice A' (xs.length + m) c') w' ∧ OwnJ w' base A' c' (xs ++ ys) ∧ w.grownBy w' (Value.slice A xs.length c).ownBlock := by
  obtain ⟨i, hi, hz, h1, h2⟩ := info_parts infoIns
  have hlen := hs.1
  rcases Option.eq_none_or_eq_some A2 with rfl | ⟨ad, rfl⟩
  · obtain rfl : m = 0 := by
      rcases Nat.eq_zero_or_pos m with h0 | h0
      · exact h0
      · obtain ⟨b, off, e', _⟩ := hs.2.2 h0; cases e'
    obtain rfl : ys = [] := List.eq_nil_of_length_eq_zero hlen
    have hrun := run_appendNilJ w base ty (.slice A xs.length c) xs.length (cellsJ xs) ho c2
    exact ⟨A, c, w, by simpa using hrun, by simpa using ho, World.grownBy.refl w _⟩
  · obtain ⟨v', w', hr, h3, h4, _⟩ := run_append_own (P := Tryd.prog) w base 22 ty 35 i (.agg #[.int .i64 0, .int .i64 0, .int .i64 0, .int .i64 0, .int .i64 0]) 5 40 Tryd.underlying22 hi hz h1 h2 rfl (by decide) (.slice A xs.length c) xs.length (cellsJ xs) ho ad m c2 (cellsJ ys) (by rw [cellsJ_length, hlen]; omega) hs.cells (cellsJ_one ys) (by unfold maxLen; omega) (by omega) hb
    obtain ⟨A', c', rfl⟩ : ∃ A' c', v' = .slice A' (xs.length + m) c' := by
      rcases h3.2 with ⟨rfl, h0⟩ | ⟨g, cap, cur, rfl, _⟩
      · rw [h0]; exact ⟨_, _, rfl⟩
      · exact ⟨_, _, rfl⟩
    refine ⟨A', c', w', hr, ?_, h4⟩
    unfold OwnJ
    rw [List.length_append, hlen, cellsJ_append]
    exact h3
theorem wpList_appendJs {ops : Array Oper} {rest : List Oper} {o : Oper} {a : Act} {w : World} {Q : Exit → Act → World → Prop}
    (hg : o.guard = none) (s x : Operand) (hop : o.op = Op.call { callee := Callee.builtin Builtin.append, args := #[s, x], argTypes := #[22, 22] })
    (base : Nat) (A A2 : Option Addr) (c m c2 B p r : Nat) (xs ys : List Ji) (hs : a.eval s = .slice A p c) (hx : a.eval x = .slice A2 m c2) (ho : OwnJ w base A c xs) (hp : xs.length = p) (hr : p + m = r) (hi2 : Jis w B A2 m ys) (hl : r ≤ 1000000) (hb : base ≤ w.heap.size)
    (hK : ∀ A' c' w', OwnJ w' base A' c' (xs ++ ys) → w.grownBy w' (Value.slice A p c).ownBlock → wpList Tryd.prog ops Q rest (a.put o.dst (.slice A' r c')) w') :
    wpList Tryd.prog ops Q (o :: rest) a w := by
  refine wpList_plain hg fun _ hK' => ?_
  subst hp
  subst hr
  obtain ⟨A', c', w', hrun, ho', hb'⟩ := run_appendJs w base o.type A A2 c m c2 B xs ys ho hi2 hl hb
  unfold Oper.wp
  simp [execOp, hop, resolve, invoke, builtin, hs, hx, hrun, Result.andThen]
  exact hK' _ _ (hK _ _ _ ho' hb')
end Go.Proofs.YtgkngimeokhhgaaDoor
