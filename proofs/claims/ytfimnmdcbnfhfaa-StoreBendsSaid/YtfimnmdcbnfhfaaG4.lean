/- The contract of the document's Zero. -/
import Derived.Test.YtfimnmdcbnfhfaaG3
import Derived.Laws.AppendOwnNone
import Derived.Deep.RegionLaw
import Derived.Test.YtfimnmdcbnfhfaaG2
import Derived.Test.YtfimnmdcbnfhfaaProg
import Derived.Test.YtfimnmdcbnfhfaaG1
import Derived.BigQuiet
import Derived.Deep.QuietTactic
import Derived.Below
import Derived.IntWalk
namespace Go.Proofs.Ytfimnmdcbnfhfaa
open Go.RowKit

theorem run_appendNil {P : Program} (w : World) (base : Nat) (t ty e : TypeId) (i : TypeInfo) (ht : P.underlying t = some (.slice e)) (hi : P.info? e = some i) (v : Value) (n : Nat) (xs : List Value) (hown : w.ownsRow base e 1 v n xs) (c : Nat) :
    (Builtin.append_ #[t, t] ty #[v, .slice none 0 c]).run P w = .ok v w := by
  rcases hown.2 with ⟨rfl, rfl⟩ | ⟨g, cap, cur, rfl, _, _, hnc, _⟩ <;> simp [Builtin.append_, run_underlying ht, sizeOf, typeInfo, Builtin.lenOf, Builtin.firstCells, *, storeCells]

/-- append onto a slice of the call's own, from whatever slice of integers -/
theorem run_appendInts {P : Program} (w : World) (base : Nat) (t ty e : TypeId) (i : TypeInfo) (ht : P.underlying t = some (.slice e)) (hi : P.info? e = some i) (hz : i.zero = some (.int .i64 0)) (h1 : i.size = 1) (h2 : i.bytes = 8)
    (A A2 : Option Addr) (c m c2 B : Nat) (xs ys : List Int) (ho : OwnI w base e A c xs) (hs : Ints w B A2 m ys) (hl : xs.length + m ≤ 1000000) (hb : base ≤ w.heap.size) :
    ∃ A' c' w', (Builtin.append_ #[t, t] ty #[.slice A xs.length c, .slice A2 m c2]).run P w = .ok (.slice A' (xs.length + m) c') w' ∧ OwnI w' base e A' c' (xs ++ ys) ∧ w.grownBy w' (Value.slice A xs.length c).ownBlock := by
  have hlen := hs.1
  have hfit : ∀ x ∈ xs ++ ys, -9223372036854775808 ≤ x ∧ x ≤ 9223372036854775807 := by
    intro x hx
    rcases List.mem_append.1 hx with hx | hx
    · exact ho.2 x hx
    · exact hs.2.1 x hx
  rcases Option.eq_none_or_eq_some A2 with rfl | ⟨ad, rfl⟩
  · obtain rfl : m = 0 := by
      rcases Nat.eq_zero_or_pos m with h0 | h0
      · exact h0
      · obtain ⟨b, off, e', _⟩ := hs.2.2 h0; cases e'
    obtain rfl : ys = [] := List.eq_nil_of_length_eq_zero hlen
    have hrun := run_appendNil (P := P) w base t ty e i ht hi (.slice A xs.length c) xs.length (xs.map (Value.int .i64)) ho.1 c2
    exact ⟨A, c, w, by simpa using hrun, by simpa using ho, World.grownBy.refl w _⟩
  · obtain ⟨v', w', hr, h3, h4, _⟩ := run_append_own (P := P) w base t ty e i (.int .i64 0) 1 8 ht hi hz h1 h2 rfl (by decide) (.slice A xs.length c) xs.length (xs.map (Value.int .i64)) ho.1 ad m c2 (ys.map (Value.int .i64)) (by rw [List.length_map, hlen, Nat.mul_one]) hs.cells_ (ints_one ys) (by unfold maxLen; omega) (by omega) hb
    obtain ⟨A', c', rfl⟩ := row_form h3
    refine ⟨A', c', w', hr, ⟨?_, hfit⟩, h4⟩
    rw [List.length_append, hlen, List.map_append]
    exact h3

theorem step_appendInts {P : Program} {ops : Array Oper} {o : Oper} {a : Act} {w : World} {K : Act → World → Prop} {Q : Exit → Act → World → Prop} {E : Prop}
    (hg : o.guard = none) (s x : Operand) (t : TypeId) (hop : o.op = Op.call { callee := Callee.builtin Builtin.append, args := #[s, x], argTypes := #[t, t] })
    (base : Nat) (e : TypeId) (i : TypeInfo) (ht : P.underlying t = some (.slice e)) (hi : P.info? e = some i) (hz : i.zero = some (.int .i64 0)) (h1 : i.size = 1) (h2 : i.bytes = 8)
    (A A2 : Option Addr) (c m c2 B p r : Nat) (xs ys : List Int) (hs : a.eval s = .slice A p c) (hx : a.eval x = .slice A2 m c2) (ho : OwnI w base e A c xs) (hp : xs.length = p) (hr : p + m = r) (hi2 : Ints w B A2 m ys) (hl : r ≤ 1000000) (hb : base ≤ w.heap.size)
    (hK : ∀ A' c' w', OwnI w' base e A' c' (xs ++ ys) → w.grownBy w' (Value.slice A p c).ownBlock → K (a.put o.dst (.slice A' r c')) w') :
    if Region.wanted o (yielded ops a.tmps) = true then Oper.wp P o a w K Q else E := by
  have hw : Region.wanted o (yielded ops a.tmps) = true := by simp [Region.wanted, hg]
  rw [if_pos hw]
  subst hp
  subst hr
  obtain ⟨A', c', w', hrun, ho', hb'⟩ := run_appendInts (P := P) w base t o.type e i ht hi hz h1 h2 A A2 c m c2 B xs ys ho hi2 hl hb
  unfold Oper.wp
  simp [execOp, hop, resolve, invoke, builtin, hs, hx, hrun, Result.andThen]
  exact hK _ _ _ ho' hb'

theorem below_of_none {W w1 : World} (hg : W.grownBy w1 none) : Below W.heap.size W w1 := (Below.refl _ _).grown hg (Nat.le_refl _) (fun k e => by cases e)

set_option maxRecDepth 100000 in
/-- the document's Zero: an error's end -/
theorem refZero_err (A : Option Addr) (n c : Nat) (xs : List Int) (w : World) (h : Ints w w.heap.size A n xs) (hn : n ≤ 9223372036854775807) (he : (laidF xs).2 ≠ 0) :
    Calls Try.prog 56 #[.slice A n c] w fun e w' => e = .returned (.tuple #[.agg #[.slice none 0 0, .slice none 0 0], .int .i64 (laidF xs).2]) ∧ Below w.heap.size w w' := by
  have HC := fun W (hW : Ints W w.heap.size A n xs) => refCells_any A n c xs W w.heap.size hW hn
  obtain ⟨N, hN⟩ : ∃ N, (cellsF xs).1 = N := ⟨_, rfl⟩
  obtain ⟨E, hE⟩ : ∃ E, (cellsF xs).2 = E := ⟨_, rfl⟩
  rw [hN, hE] at HC
  by_cases h0 : E = 0
  · by_cases hl : 65536 < N
    · have HF : (laidF xs).2 = 2 := by unfold laidF; rw [hE, if_pos h0, hN, if_pos hl]
      rw [HF]
      clear hN hE he HF
      subst h0
      go_enter Try.func56, Try.ntmps56
      go_wp2_with (go_at_call 41; refine (HC _ (h.alloc (Nat.le_refl _) _)).mono ?_; rintro e w' ⟨rfl, rfl⟩)
      exact bodyPost_ret (v := .tuple #[.agg #[.slice none 0 0, .slice none 0 0], .int .i64 2]) (by simp [results, Try.results56, go_sem]) rfl ⟨rfl, (Below.refl _ _).alloc (Nat.le_refl _) _⟩
    · exfalso
      apply he
      unfold laidF; rw [hE, if_pos h0, hN, if_neg hl]
  · have HF : (laidF xs).2 = E := by unfold laidF; rw [hE, if_neg h0]
    rw [HF]
    have he1 : (E == 0) = false := by simpa using h0
    have he2 : (E != 0) = true := by simpa using h0
    clear hN hE he h0 HF
    go_enter Try.func56, Try.ntmps56
    go_wp2_with (go_at_call 41; refine (HC _ (h.alloc (Nat.le_refl _) _)).mono ?_; rintro e w' ⟨rfl, rfl⟩)
    exact bodyPost_ret (v := .tuple #[.agg #[.slice none 0 0, .slice none 0 0], .int .i64 E]) (by simp [results, Try.results56, go_sem]) rfl ⟨rfl, (Below.refl _ _).alloc (Nat.le_refl _) _⟩

set_option maxRecDepth 100000 in
set_option maxHeartbeats 1000000 in
theorem refZero_ok (A : Option Addr) (n c : Nat) (xs : List Int) (N : Nat) (w : World) (h : Ints w w.heap.size A n xs) (hn : n ≤ 100000) (he : (laidF xs).2 = 0) (hN : (laidF xs).1 = N) (hN2 : N ≤ 65536) :
    Calls Try.prog 56 #[.slice A n c] w fun e w' => ∃ A1 c1 A2 c2, e = .returned (.tuple #[.agg #[.slice A1 n c1, .slice A2 N c2], .int .i64 0]) ∧ OwnI w' w.heap.size 3 A1 c1 xs ∧ OwnI w' w.heap.size 2 A2 c2 (List.replicate N 0) ∧ Below w.heap.size w w' := by
  have HC := fun W (hW : Ints W w.heap.size A n xs) => refCells_any A n c xs W w.heap.size hW (by omega)
  have hok := laidF_ok he
  rw [hok.1, ← hok.2, hN] at HC
  obtain ⟨i0, hi0, hz0, hz1, hz2⟩ := info_parts infoInt64
  obtain ⟨i1, hi1, hy0, hy1, hy2⟩ := info_parts infoInt
  have hmk := fun W => run_makeAll (P := Try.prog) 32 2 i0 Try.underlying32 hi0 hz0 hz1 hz2 N (by omega) W
  have hlN : decide (65536 < (N : Int)) = false := by simp; omega
  clear hN he hok
  go_enter Try.func56, Try.ntmps56
  go_wp2_with (go_at_call 41; refine (HC _ (h.alloc (Nat.le_refl _) _)).mono ?_; rintro e w' ⟨rfl, rfl⟩)
  go_region_law (refine step_appendInts rfl (.const (.slice none 0 0)) (.tmp 18) 22 rfl (w.heap.size + 1) 3 i1 Try.underlying22 hi1 hy0 hy1 hy2 none A 0 n c w.heap.size 0 n [] xs rfl rfl (OwnI.nil_ _ _ _) rfl (Nat.zero_add _) (by first | exact h.alloc (Nat.le_refl _) _ | exact (h.alloc (Nat.le_refl _) _).alloc (by simp) _) (by omega) (by simp; try omega) ?_; intro A1 c1 w1 HO HG; have HB := below_of_none HG; obtain ⟨hs1, k0, k1, f0, f1⟩ := zfacts HB)
  all_goals go_wp2
  · obtain ⟨e0, e1⟩ := zcells (a := .slice A1 n c1) (b := .slice (some ⟨w1.heap.size, 0, none⟩) N N) k0 k1
    have e2 := fun o => cellPast o e0
    have e3 := fun o => cellPast o e1
    refine bodyPost_ret (v := .tuple #[.agg #[.slice A1 n c1, .slice (some ⟨w1.heap.size, 0, none⟩) N N], .int .i64 0]) (by simp [results, Try.results56, go_sem, e2, e3]) rfl ⟨A1, c1, _, _, rfl, ?_, ?_, ?_⟩
    · exact (((HO.setBelow (a := ⟨w.heap.size, 0, none⟩) (by simp) _).setBelow (a := ⟨w.heap.size, 1, none⟩) (by simp) _).alloc _).mono (by simp)
    · have := own_made ((w1.setCell ⟨w.heap.size, 0, none⟩ (.slice A1 n c1)).setCell ⟨w.heap.size, 1, none⟩ (.slice (some ⟨w1.heap.size, 0, none⟩) N N)) 2 N w.heap.size (by simp; omega) (by omega)
      simpa using this
    · exact ((((((Below.refl _ w).alloc (Nat.le_refl _) _).drew).trans (HB.mono (by simp))).setCell (p := ⟨w.heap.size, 0, none⟩) (Nat.le_refl _) _).setCell (p := ⟨w.heap.size, 1, none⟩) (Nat.le_refl _) _).alloc (by simp; omega) _
  · obtain ⟨e0, e1⟩ := zcells (a := .slice A1 n c1) (b := .slice (some ⟨w.heap.size + 1, 0, none⟩) N N) k0 k1
    refine bodyPost_ret (v := .tuple #[.agg #[.slice A1 n c1, .slice (some ⟨w.heap.size + 1, 0, none⟩) N N], .int .i64 0]) (by simp [results, Try.results56, go_sem, e0, e1]) rfl ⟨A1, c1, _, _, rfl, ?_, ?_, ?_⟩
    · exact ((HO.setBelow (a := ⟨w.heap.size, 0, none⟩) (by simp) _).setBelow (a := ⟨w.heap.size, 1, none⟩) (by simp) _).mono (by simp)
    · have := own_made (w.alloc (.cells #[.slice none 0 0, .slice none 0 0] 45)) 2 N (w.heap.size + 1) (by simp) (by omega)
      rw [World.size_alloc] at this
      exact (((this.drew.below HB (Nat.le_refl _)).setBelow (a := ⟨w.heap.size, 0, none⟩) (by simp) _).setBelow (a := ⟨w.heap.size, 1, none⟩) (by simp) _).mono (by omega)
    · exact ((((((Below.refl _ w).alloc (Nat.le_refl _) _).alloc (by simp) _).drew).trans (HB.mono (by simp; omega))).setCell (p := ⟨w.heap.size, 0, none⟩) (Nat.le_refl _) _).setCell (p := ⟨w.heap.size, 1, none⟩) (Nat.le_refl _) _
end Go.Proofs.Ytfimnmdcbnfhfaa
/- The contract of perm.Check. -/
namespace Go.Proofs.Ytfimnmdcbnfhfaa
open Go.RowKit

theorem blk_cell {w : World} {g i : Nat} {cs : List Value} {t : TypeId} {v : Value} (h : w.heap[g]? = some (.cells cs.toArray t (0, 0))) (hv : cs[i]? = some v) : w.cell? ⟨g, i, none⟩ = some v ∧ w.frozen? ⟨g, i, none⟩ = false :=
  ⟨(cell_of_row _ _ _ _ _ _ h).trans (by simpa using hv), by simp [World.frozen?, h]⟩
theorem blk_set {w : World} {g i : Nat} {cs : List Value} {t : TypeId} (h : w.heap[g]? = some (.cells cs.toArray t (0, 0))) (v : Value) : (w.setCell ⟨g, i, none⟩ v).heap[g]? = some (.cells (cs.set i v).toArray t (0, 0)) := by
  rw [heap_setCell_same _ _ _ _ _ _ h]; simp

end Go.Proofs.Ytfimnmdcbnfhfaa
/- The contracts of level's smallest functions: Whole, many, inside, span, place, may, IsSorted; of the document's Whole and many. -/
namespace Go.Proofs.Ytfimnmdcbnfhfaa
open Go.RowKit

/-- a level as a value -/
abbrev lvV (K S : Int) (A : Option Addr) (n c : Nat) (B : Option Addr) (m e : Nat) : Value := .agg #[.int .i64 K, .int .i64 S, .slice A n c, .slice B m e]
/-- the block that a level is laid in -/
abbrev lvO (K S : Int) (A : Option Addr) (n c : Nat) (B : Option Addr) (m e : Nat) : Obj := .cells #[.int .i64 K, .int .i64 S, .slice A n c, .slice B m e] 63
theorem lvBelow (w : World) (o : Obj) : Below w.heap.size w (w.alloc o) := (Below.refl _ _).alloc (Nat.le_refl _) _
theorem kinds (K : Int) : K = 0 ∨ K = 1 ∨ K = 2 ∨ K = 3 ∨ K = 4 ∨ ((K == 0) = false ∧ (K == 1) = false ∧ (K == 2) = false ∧ (K == 3) = false ∧ (K == 4) = false ∧ wholeB K = false) := by
  simp [wholeB]; omega
theorem oKeep {w1 w2 : World} {g : Nat} {o : Obj} (h : Below w1.heap.size w1 w2) (hg : w1.heap[g]? = some o) : w2.heap[g]? = some o := (h.block g (Array.getElem?_eq_some_iff.1 hg).1).trans hg
theorem oNew {w1 w2 : World} {o : Obj} (h : Below (w1.alloc o).heap.size (w1.alloc o) w2) : w2.heap[w1.heap.size]? = some o := (h.block w1.heap.size (by simp)).trans (heap_alloc_new w1 o)
/-- the cells of a level's block -/
theorem lvCells {W : World} {g : Nat} {u v x y : Value} {t : TypeId} (h : W.heap[g]? = some (.cells #[u, v, x, y] t (0, 0))) :
    W.cell? ⟨g, 0, none⟩ = some u ∧ W.cell? ⟨g, 1, none⟩ = some v ∧ W.cell? ⟨g, 2, none⟩ = some x ∧ W.cell? ⟨g, 3, none⟩ = some y ∧ W.frozen? ⟨g, 0, none⟩ = false ∧ W.frozen? ⟨g, 1, none⟩ = false ∧ W.frozen? ⟨g, 2, none⟩ = false ∧ W.frozen? ⟨g, 3, none⟩ = false :=
  ⟨by simpa using cell_of_row _ _ 0 _ t (0, 0) h, by simpa using cell_of_row _ _ 1 _ t (0, 0) h, by simpa using cell_of_row _ _ 2 _ t (0, 0) h, by simpa using cell_of_row _ _ 3 _ t (0, 0) h, by simp [World.frozen?, h], by simp [World.frozen?, h], by simp [World.frozen?, h], by simp [World.frozen?, h]⟩
theorem ret_of {v u : Value} (h : v = u) : Ending.returned v = Ending.returned u := by rw [h]

set_option maxRecDepth 100000 in
theorem whole_any (K S : Int) (A B : Option Addr) (n c m e : Nat) (w : World) :
    Calls Try.prog 78 #[lvV K S A n c B m e] w fun x w' => x = .returned (.bool (wholeB K)) ∧ Below w.heap.size w w' := by
  rcases kinds K with rfl | rfl | rfl | rfl | rfl | ⟨k0, k1, k2, k3, k4, HW⟩
  all_goals try
    go_enter Try.func78, Try.ntmps78
    go_wp2
    go_ret
    first | exact ⟨rfl, lvBelow _ _⟩ | exact ⟨ret_of (by rw [HW]; rfl), lvBelow _ _⟩

set_option maxRecDepth 100000 in
theorem refWhole_any (K S : Int) (A B : Option Addr) (n c m e : Nat) (w : World) :
    Calls Try.prog 96 #[lvV K S A n c B m e] w fun x w' => x = .returned (.bool (wholeB K)) ∧ Below w.heap.size w w' := by
  rcases kinds K with rfl | rfl | rfl | rfl | rfl | ⟨k0, k1, k2, k3, k4, HW⟩
  all_goals try
    go_enter Try.func96, Try.ntmps96
    go_wp2
    go_ret
    first | exact ⟨rfl, lvBelow _ _⟩ | exact ⟨ret_of (by rw [HW]; rfl), lvBelow _ _⟩

set_option maxRecDepth 100000 in
theorem lvInside_any (K S : Int) (A B : Option Addr) (n c m e : Nat) (y : Int) (w : World) :
    Calls Try.prog 103 #[lvV K S A n c B m e, .int .i64 y] w fun x w' => x = .returned (.bool (decide (0 ≤ y) && decide (y < S))) ∧ Below w.heap.size w w' := by
  by_cases hy : 0 ≤ y
  · have hd : decide (0 ≤ y) = true := by simpa using hy
    rw [hd, Bool.true_and]
    go_enter Try.func103, Try.ntmps103
    go_wp2
    go_ret
    exact ⟨rfl, lvBelow _ _⟩
  · have hd : decide (0 ≤ y) = false := by simpa using hy
    rw [hd, Bool.false_and]
    clear hy
    go_enter Try.func103, Try.ntmps103
    go_wp2
    go_ret
    exact ⟨rfl, lvBelow _ _⟩

set_option maxRecDepth 100000 in
set_option maxHeartbeats 1000000 in
theorem may_any (K S a : Int) (w : World) :
    Calls Try.prog 100 #[.int .i64 K, .int .i64 S, .int .i64 a] w fun x w' => x = .returned (.bool (pB (MayP K S a))) ∧ w = w' := by
  by_cases hg : 0 ≤ S ∧ S ≤ 2147483648 ∧ 0 ≤ a ∧ a ≤ 1048576
  · obtain ⟨h1, h2, h3, h4⟩ := hg
    have d1 : decide (0 ≤ S) = true := by simpa using h1
    have d2 : decide (S ≤ 2147483648) = true := by simpa using h2
    have d3 : decide (0 ≤ a) = true := by simpa using h3
    have d4 : decide (a ≤ 1048576) = true := by simpa using h4
    by_cases hS : S < 1
    · have d5 : decide (S < 1) = true := by simpa using hS
      rcases kinds K with rfl | rfl | rfl | rfl | rfl | ⟨k0, k1, k2, k3, k4, HW⟩
      · have HF : Hid (pB (MayP 0 S a) = true) := pB_t (by unfold MayP; omega)
        clear h1 h2 h3 h4 hS
        go_enter Try.func100, Try.ntmps100
        go_wp2
        go_ret
        exact ⟨ret_of (by rw [HF.out]; rfl), rfl⟩
      · have HF : Hid (pB (MayP 1 S a) = true) := pB_t (by unfold MayP; omega)
        clear h1 h2 h3 h4 hS
        go_enter Try.func100, Try.ntmps100
        go_wp2
        go_ret
        exact ⟨ret_of (by rw [HF.out]; rfl), rfl⟩
      · have HF : Hid (pB (MayP 2 S a) = true) := pB_t (by unfold MayP; omega)
        clear h1 h2 h3 h4 hS
        go_enter Try.func100, Try.ntmps100
        go_wp2
        go_ret
        exact ⟨ret_of (by rw [HF.out]; rfl), rfl⟩
      · have HF : Hid (pB (MayP 3 S a) = true) := pB_t (by unfold MayP; omega)
        clear h1 h2 h3 h4 hS
        go_enter Try.func100, Try.ntmps100
        go_wp2
        go_ret
        exact ⟨ret_of (by rw [HF.out]; rfl), rfl⟩
      · have HF : Hid (pB (MayP 4 S a) = false) := pB_f (by unfold MayP; omega)
        clear h1 h2 h3 h4 hS
        go_enter Try.func100, Try.ntmps100
        go_wp2
        go_ret
        exact ⟨ret_of (by rw [HF.out]; rfl), rfl⟩
      · have HF : Hid (pB (MayP K S a) = false) := pB_f (by simp at k0 k1 k2 k3 k4; unfold MayP; omega)
        clear h1 h2 h3 h4 hS HW
        go_enter Try.func100, Try.ntmps100
        go_wp2
        go_ret
        exact ⟨ret_of (by rw [HF.out]; rfl), rfl⟩
    · have d5 : decide (S < 1) = false := by simpa using hS
      rcases kinds K with rfl | rfl | rfl | rfl | rfl | ⟨k0, k1, k2, k3, k4, HW⟩
      · have HF : Hid (pB (MayP 0 S a) = true) := pB_t (by unfold MayP; omega)
        clear h1 h2 h3 h4 hS
        go_enter Try.func100, Try.ntmps100
        go_wp2
        go_ret
        exact ⟨ret_of (by rw [HF.out]; rfl), rfl⟩
      · have HF : Hid (pB (MayP 1 S a) = true) := pB_t (by unfold MayP; omega)
        clear h1 h2 h3 h4 hS
        go_enter Try.func100, Try.ntmps100
        go_wp2
        go_ret
        exact ⟨ret_of (by rw [HF.out]; rfl), rfl⟩
      · have HF : Hid (pB (MayP 2 S a) = true) := pB_t (by unfold MayP; omega)
        clear h1 h2 h3 h4 hS
        go_enter Try.func100, Try.ntmps100
        go_wp2
        go_ret
        exact ⟨ret_of (by rw [HF.out]; rfl), rfl⟩
      · have HF : Hid (pB (MayP 3 S a) = true) := pB_t (by unfold MayP; omega)
        clear h1 h2 h3 h4 hS
        go_enter Try.func100, Try.ntmps100
        go_wp2
        go_ret
        exact ⟨ret_of (by rw [HF.out]; rfl), rfl⟩
      · have HF : Hid (pB (MayP 4 S a) = true) := pB_t (by unfold MayP; omega)
        clear h1 h2 h3 h4 hS
        go_enter Try.func100, Try.ntmps100
        go_wp2
        go_ret
        exact ⟨ret_of (by rw [HF.out]; rfl), rfl⟩
      · have HF : Hid (pB (MayP K S a) = false) := pB_f (by simp at k0 k1 k2 k3 k4; unfold MayP; omega)
        clear h1 h2 h3 h4 hS HW
        go_enter Try.func100, Try.ntmps100
        go_wp2
        go_ret
        exact ⟨ret_of (by rw [HF.out]; rfl), rfl⟩
  · have HF : Hid (pB (MayP K S a) = false) := pB_f (by unfold MayP; omega)
    have hor : S < 0 ∨ (0 ≤ S ∧ 2147483648 < S) ∨ (0 ≤ S ∧ S ≤ 2147483648 ∧ a < 0) ∨ (0 ≤ S ∧ S ≤ 2147483648 ∧ 0 ≤ a ∧ 1048576 < a) := by omega
    clear hg
    have hS : decide (S < 1) = true ∨ decide (S < 1) = false := by cases decide (S < 1) <;> simp
    rcases hor with h1 | ⟨h1, h2⟩ | ⟨h1, h2, h3⟩ | ⟨h1, h2, h3, h4⟩
    · have d1 : decide (0 ≤ S) = false := by simp; omega
      clear h1
      rcases hS with d5 | d5
      all_goals
        rcases kinds K with rfl | rfl | rfl | rfl | rfl | ⟨k0, k1, k2, k3, k4, HW⟩
        all_goals try clear HW
        all_goals
          go_enter Try.func100, Try.ntmps100
          go_wp2
          go_ret
          exact ⟨ret_of (by rw [HF.out]; rfl), rfl⟩
    · have d1 : decide (0 ≤ S) = true := by simp; omega
      have d2 : decide (S ≤ 2147483648) = false := by simp; omega
      clear h1 h2
      rcases hS with d5 | d5
      all_goals
        rcases kinds K with rfl | rfl | rfl | rfl | rfl | ⟨k0, k1, k2, k3, k4, HW⟩
        all_goals try clear HW
        all_goals
          go_enter Try.func100, Try.ntmps100
          go_wp2
          go_ret
          exact ⟨ret_of (by rw [HF.out]; rfl), rfl⟩
    · have d1 : decide (0 ≤ S) = true := by simp; omega
      have d2 : decide (S ≤ 2147483648) = true := by simp; omega
      have d3 : decide (0 ≤ a) = false := by simp; omega
      clear h1 h2 h3
      rcases hS with d5 | d5
      all_goals
        rcases kinds K with rfl | rfl | rfl | rfl | rfl | ⟨k0, k1, k2, k3, k4, HW⟩
        all_goals try clear HW
        all_goals
          go_enter Try.func100, Try.ntmps100
          go_wp2
          go_ret
          exact ⟨ret_of (by rw [HF.out]; rfl), rfl⟩
    · have d1 : decide (0 ≤ S) = true := by simp; omega
      have d2 : decide (S ≤ 2147483648) = true := by simp; omega
      have d3 : decide (0 ≤ a) = true := by simp; omega
      have d4 : decide (a ≤ 1048576) = false := by simp; omega
      clear h1 h2 h3 h4
      rcases hS with d5 | d5
      all_goals
        rcases kinds K with rfl | rfl | rfl | rfl | rfl | ⟨k0, k1, k2, k3, k4, HW⟩
        all_goals try clear HW
        all_goals
          go_enter Try.func100, Try.ntmps100
          go_wp2
          go_ret
          exact ⟨ret_of (by rw [HF.out]; rfl), rfl⟩
end Go.Proofs.Ytfimnmdcbnfhfaa
/- The contracts of level's many, span and place, and of slices.IsSorted at []int. -/
namespace Go.Proofs.Ytfimnmdcbnfhfaa
open Go.RowKit

theorem mul_small {a S : Int} (h1 : 0 ≤ a) (h2 : a ≤ 1048576) (h3 : 0 ≤ S) (h4 : S ≤ 2147483648) : 0 ≤ a * S ∧ a * S ≤ 2251799813685248 := by
  have := Int.mul_le_mul h2 h4 h3 (by omega)
  have := Int.mul_nonneg h1 h3
  omega

set_option maxRecDepth 100000 in
theorem many_any (K S a : Int) (A B : Option Addr) (n c m e : Nat) (ys : List Int) (w : World) (hl : ys.length = m) (_hm : m ≤ 9223372036854775807) (h1 : 0 ≤ a) (h2 : a ≤ 1048576) (h3 : 0 ≤ S) (h4 : S ≤ 2147483648) :
    Calls Try.prog 86 #[lvV K S A n c B m e, .int .i64 a] w fun x w' => x = .returned (.int .i64 (manyF K S ys a)) ∧ Below w.heap.size w w' := by
  have HC := fun W => whole_any K S A B n c m e W
  obtain ⟨q1, q2⟩ := mul_small h1 h2 h3 h4
  obtain ⟨wb, hwb⟩ : ∃ wb, wholeB K = wb := ⟨_, rfl⟩
  rw [hwb] at HC
  have HF : Hid (manyF K S ys a = if wb = true then a * S else m) := by unfold Hid manyF; rw [hwb, hl]
  have z0 := lvBelow w (lvO K S A n c B m e)
  clear hwb hl
  cases wb
  all_goals
    go_enter Try.func86, Try.ntmps86
    go_wp2_with (go_at_call 78; refine (HC _).mono ?_; rintro x w1 ⟨rfl, hb1⟩; have hb2 := z0.trans (hb1.mono z0.size); obtain ⟨k0, k1, k2, k3, _⟩ := lvCells (oNew hb1))
    go_ret
    exact ⟨ret_of (by rw [HF.out]; rfl), hb2⟩

set_option maxRecDepth 100000 in
theorem refMany_any (K S a : Int) (A B : Option Addr) (n c m e : Nat) (ys : List Int) (w : World) (hl : ys.length = m) (_hm : m ≤ 9223372036854775807) (h1 : 0 ≤ a) (h2 : a ≤ 1048576) (h3 : 0 ≤ S) (h4 : S ≤ 2147483648) :
    Calls Try.prog 95 #[lvV K S A n c B m e, .int .i64 a] w fun x w' => x = .returned (.int .i64 (manyF K S ys a)) ∧ Below w.heap.size w w' := by
  have HC := fun W => refWhole_any K S A B n c m e W
  obtain ⟨q1, q2⟩ := mul_small h1 h2 h3 h4
  obtain ⟨wb, hwb⟩ : ∃ wb, wholeB K = wb := ⟨_, rfl⟩
  rw [hwb] at HC
  have HF : Hid (manyF K S ys a = if wb = true then a * S else m) := by unfold Hid manyF; rw [hwb, hl]
  have z0 := lvBelow w (lvO K S A n c B m e)
  clear hwb hl
  cases wb
  all_goals
    go_enter Try.func95, Try.ntmps95
    go_wp2_with (go_at_call 96; refine (HC _).mono ?_; rintro x w1 ⟨rfl, hb1⟩; have hb2 := z0.trans (hb1.mono z0.size); obtain ⟨k0, k1, k2, k3, _⟩ := lvCells (oNew hb1))
    go_ret
    exact ⟨ret_of (by rw [HF.out]; rfl), hb2⟩

theorem below_drewN2 {B : Nat} {w W : World} (h : Below B w W) (m : Nat) : Below B w (W.drewN m) := ⟨h.os, h.tape, h.output, h.size, h.block⟩
set_option maxRecDepth 100000 in
/-- span, of a packed or a loose level -/
theorem span_pos (K S : Int) (hK : K = 1 ∨ K = 2) (A B : Option Addr) (n c m e p : Nat) (xs : List Int) (x z : Int) (w : World) (h : Ints w w.heap.size A n xs) (hn : n ≤ 1048577) (hx : xs[p]? = some x) (hz : xs[p + 1]? = some z) :
    Calls Try.prog 108 #[lvV K S A n c B m e, .int .i64 p] w fun e w' => e = .returned (.tuple #[.int .i64 x, .int .i64 z]) ∧ Below w.heap.size w w' := by
  have hl := h.1
  have hp1 : p + 1 < n := by rw [← hl]; exact (List.getElem?_eq_some_iff.1 hz).1
  obtain ⟨b, off, x', rfl, hbb, HX, hc, hx1, hx2⟩ := h.at_ (k := p) (by omega)
  obtain ⟨b2, off2, z', e2, hbb2, HZ, hc2, hz1, hz2⟩ := h.at_ (k := p + 1) (by omega)
  injection e2 with e2; injection e2 with e2 e3; subst e2; subst e3
  obtain rfl : x' = x := by have := HX.out; rw [hx] at this; injection this with this; exact this.symm
  obtain rfl : z' = z := by have := HZ.out; rw [hz] at this; injection this with this; exact this.symm
  have z0 := lvBelow w (lvO K S (some ⟨b, off, none⟩) n c B m e)
  have j1 := cellPast (lvO K S (some ⟨b, off, none⟩) n c B m e) hc
  have j2 := cellPast (lvO K S (some ⟨b, off, none⟩) n c B m e) hc2
  have e1 : IntKind.i64.wrap ((p : Int) + 1) = (p : Int) + 1 := by rw [IntWalk.i64_in _ (by omega)]
  have g0 : (0 : Int) ≤ p := by omega
  have g1 : (p : Int) < n := by omega
  have g2 : (p : Int) + 1 < n := by omega
  have g3 : (0 : Int) ≤ (p : Int) + 1 := by omega
  have g4 : ((p : Int) + 1).toNat = p + 1 := by omega
  clear hx hz hl HX HZ h hc hc2 hbb2
  rcases hK with rfl | rfl
  all_goals
    go_enter Try.func108, Try.ntmps108
    go_wp2
    go_quiet (fail)
    go_wp2
    go_ret2
    exact ⟨rfl, below_drewN2 z0 _⟩

set_option maxRecDepth 100000 in
theorem span_ok (K S : Int) (A B : Option Addr) (n c m e p a : Nat) (xs ys : List Int) (w : World) (h : Ints w w.heap.size A n xs) (HL : Lok K S xs ys a) (hp : p < a) :
    Calls Try.prog 108 #[lvV K S A n c B m e, .int .i64 p] w fun e w' => e = .returned (.tuple #[.int .i64 (offN K S xs p : Nat), .int .i64 (offN K S xs (p + 1) : Nat)]) ∧ Below w.heap.size w w' := by
  have ha := HL.ahead
  by_cases hK : K = 1 ∨ K = 2
  · have hl := HL.posLen hK
    exact span_pos K S hK A B n c m e p xs _ _ w h (by rw [← h.1]; omega) (HL.pos hK p (by omega)) (HL.pos hK (p + 1) (by omega))
  · have hs0 := HL.size0
    have hs1 := HL.size1
    have hk := HL.kind
    have z0 := lvBelow w (lvO K S A n c B m e)
    obtain ⟨q1, q2⟩ := mul_small (a := (p : Int)) (S := S) (by omega) (by omega) hs0 hs1
    obtain ⟨q3, q4⟩ := mul_small (a := (p : Int) + 1) (S := S) (by omega) (by omega) hs0 hs1
    have e1 : IntKind.i64.wrap ((p : Int) + 1) = (p : Int) + 1 := by rw [IntWalk.i64_in _ (by omega)]
    have e2 : IntKind.i64.wrap ((p : Int) * S) = (p : Int) * S := by rw [IntWalk.i64_in _ (by omega)]
    have e3 : IntKind.i64.wrap (((p : Int) + 1) * S) = ((p : Int) + 1) * S := by rw [IntWalk.i64_in _ (by omega)]
    have g0 : (p : Int) ≤ 1048576 := by omega
    have hk3 : K = 0 ∨ K = 3 ∨ K = 4 := by omega
    have HO : Hid (wholeB K = true → ((offN K S xs p : Nat) : Int) = (p : Int) * S ∧ ((offN K S xs (p + 1) : Nat) : Int) = ((p : Int) + 1) * S) := by
      intro hw
      unfold offN
      rw [if_pos hw, if_pos hw, Int.natCast_mul, Int.natCast_mul, Int.toNat_of_nonneg hs0]
      exact ⟨rfl, rfl⟩
    clear HL hk hK
    rcases hk3 with rfl | rfl | rfl
    · go_enter Try.func108, Try.ntmps108
      go_wp2
      go_quiet (fail)
      go_wp2
      go_ret2
      exact ⟨ret_of (by rw [(HO.out rfl).1, (HO.out rfl).2]; rfl), below_drewN2 z0 _⟩
    · go_enter Try.func108, Try.ntmps108
      go_wp2
      go_ret2
      exact ⟨ret_of (by rfl), z0⟩
    · go_enter Try.func108, Try.ntmps108
      go_wp2
      go_quiet (fail)
      go_wp2
      go_ret2
      exact ⟨ret_of (by rw [(HO.out rfl).1, (HO.out rfl).2]; rfl), below_drewN2 z0 _⟩

set_option maxRecDepth 100000 in
theorem less_any (x y : Int) (w : World) : Calls Try.prog 98 #[.int .i64 x, .int .i64 y] w fun e w' => e = .returned (.bool (decide (x < y))) ∧ w = w' := by
  have hn : ∀ (x : Int) (W : World), Calls Try.prog 106 #[.int .i64 x] W fun e w' => e = .returned (.bool false) ∧ W = w' := by
    intro x W
    have e1 : (x != x) = false := by simp
    go_enter Try.func106, Try.ntmps106
    go_wp2
    go_ret
    exact ⟨rfl, rfl⟩
  go_enter Try.func98, Try.ntmps98
  go_wp2_with (go_at_call 106; refine (hn _ _).mono ?_; rintro e w' ⟨rfl, rfl⟩)
  go_ret
  exact ⟨rfl, rfl⟩
end Go.Proofs.Ytfimnmdcbnfhfaa
/- The contracts of slices.IsSorted and slices.ContainsFunc at []int (asked by level.Check's function), of level's told. -/
namespace Go.Proofs.Ytfimnmdcbnfhfaa
open Go.RowKit

theorem quiet2 {P : Program} {f : FuncId} {args : Array Value} {w : World} {m n : Nat} {v : Value}
    (h : Calls P f args (w.drewN (m + n)) fun e w' => e = .returned v ∧ w' = w.drewN (m + n)) : Calls P f args (w.drewN (m + n)) fun e w'' => e = .returned v ∧ ∃ q, w'' = w.drewN (m + q) :=
  h.mono fun _ _ ⟨he, hm⟩ => ⟨he, n, hm⟩
def SortFrom (xs : List Int) (k : Nat) : Prop := ∀ (j : Nat) (x y : Int), k ≤ j → xs[j]? = some x → xs[j + 1]? = some y → x ≤ y
theorem sortFrom_last {xs : List Int} {k : Nat} (h : xs.length ≤ k + 1) : SortFrom xs k := by
  intro j x y hj _ hy
  have := (List.getElem?_eq_some_iff.1 hy).1
  omega
theorem sortFrom_pred {xs : List Int} {k : Nat} (h : SortFrom xs k) (hk : 0 < k) {x y : Int} (hx : xs[k - 1]? = some x) (hy : xs[k]? = some y) (hxy : x ≤ y) : SortFrom xs (k - 1) := by
  intro j u v hj hu hv
  by_cases e : j = k - 1
  · subst e
    rw [hx] at hu
    rw [show k - 1 + 1 = k by omega, hy] at hv
    injection hu with hu; injection hv with hv; omega
  · exact h j u v (by omega) hu hv

set_option maxRecDepth 100000 in
set_option maxHeartbeats 1000000 in
theorem isSorted_any (A : Option Addr) (n c : Nat) (xs : List Int) (w : World) (B : Nat) (h : Ints w B A n xs) (hn : n ≤ 1048577) :
    Calls Try.prog 107 #[.slice A n c] w fun e w' => e = .returned (.bool (pB (SortP xs))) ∧ ∃ m, w' = w.drewN m := by
  have HL : Hid (xs.length = n) := h.1
  have hL := fun x y W => (less_any x y W).mono (fun (e : Ending) W' hh => (⟨hh.1, hh.2.symm⟩ : e = .returned (.bool (decide (x < y))) ∧ W' = W))
  rcases Nat.eq_zero_or_pos n with rfl | hpos
  · have HF : Hid (pB (SortP xs) = true) := pB_t (fun k x y hx _ => by have := (List.getElem?_eq_some_iff.1 hx).1; have := HL.out; omega)
    go_enter Try.func107, Try.ntmps107
    go_wp2
    go_loopw [3] (fun i wr => i = .int .i64 (-1) ∧ wr = w) (fun _ _ => 0)
    case atStart => exact ⟨rfl, rfl⟩
    case round =>
      obtain ⟨rfl, rfl⟩ := hrel
      go_wp2
      go_ret
      exact ⟨ret_of (by rw [HF.out]; rfl), 0, rfl⟩
  · go_enter Try.func107, Try.ntmps107
    go_wp2
    go_loopw [3] (fun i wr => ∃ k m : Nat, k < n ∧ i = .int .i64 k ∧ wr = w.drewN m ∧ Hid (SortFrom xs k)) (fun i _ => (intOf i).toNat)
    case atStart => exact ⟨n - 1, 0, by omega, by go_num, rfl, sortFrom_last (by rw [HL.out]; omega)⟩
    case round =>
      obtain ⟨k, m, hk, rfl, rfl, HS⟩ := hrel
      by_cases hk0 : 0 < k
      · obtain ⟨b, off, y, rfl, _, HY, hc, hy1, hy2⟩ := h.at_ hk
        obtain ⟨b2, off2, x, e2, _, HX, hc2, hx1, hx2⟩ := h.at_ (k := k - 1) (by omega)
        injection e2 with e2; injection e2 with e2 e3; subst e2; subst e3
        have e1 : IntKind.i64.wrap ((k : Int) - 1) = (k : Int) - 1 := by rw [IntWalk.i64_in _ (by omega)]
        have g0 : (0 : Int) ≤ k := by omega
        have g1 : (k : Int) < n := by omega
        have g2 : (k : Int) - 1 < n := by omega
        have g3 : (0 : Int) ≤ (k : Int) - 1 := by omega
        have g4 : ((k : Int) - 1).toNat = k - 1 := by omega
        have g5 : (1 : Int) ≤ k := by omega
        have g6 : (k : Int) - 1 < n := by omega
        have g7 : (k : Int) < n + 1 := by omega
        have g8 : 1 ≤ k := by omega
        by_cases hxy : y < x
        · have d1 : decide (y < x) = true := by simpa using hxy
          have HF : Hid (pB (SortP xs) = false) := pB_f (fun hs => by have := hs (k - 1) x y HX.out (by rw [show k - 1 + 1 = k by omega]; exact HY.out); omega)
          clear hxy
          have hL2 := hL y x
          rw [d1] at hL2
          clear hL
          go_wp2
          go_quiet ((go_at_call 98; exact quiet2 (hL2 _)))
          go_wp2
          go_ret
          exact ⟨ret_of (by rw [HF.out]; rfl), _, World.drewN_drewN _ _ _⟩
        · have d1 : decide (y < x) = false := by simpa using hxy
          have HN : Hid (SortFrom xs (k - 1)) := sortFrom_pred HS.out hk0 HX.out HY.out (by omega)
          clear hxy
          have hL2 := hL y x
          rw [d1] at hL2
          clear hL
          go_wp2
          go_quiet ((go_at_call 98; exact quiet2 (hL2 _)))
          go_wp2
          go_roundw
          case rel => exact ⟨k - 1, _, by omega, by go_num, rfl, HN⟩
          case measure => simp [intOf]; omega
      · obtain rfl : k = 0 := by omega
        have HF : Hid (pB (SortP xs) = true) := pB_t (fun j x y hx hy => HS.out j x y (Nat.zero_le _) hx hy)
        go_wp2
        go_ret
        exact ⟨ret_of (by rw [HF.out]; rfl), _, rfl⟩
end Go.Proofs.Ytfimnmdcbnfhfaa
/- The contract of level's told. -/
namespace Go.Proofs.Ytfimnmdcbnfhfaa
open Go.RowKit

theorem told_pos {K : Int} (hK : K = 1 ∨ K = 2) (xs ys : List Int) (a : Nat) : ToldP K xs ys a ↔ xs.length = a + 1 ∧ xs[0]? = some 0 ∧ xs[a]? = some (ys.length : Int) ∧ SortP xs := by
  unfold ToldP
  rw [Int.toNat_natCast]
  constructor
  · rintro ⟨h, _, _⟩
    obtain ⟨h1, h2⟩ := h hK
    exact ⟨by omega, h2⟩
  · rintro ⟨h1, h2⟩
    exact ⟨fun _ => ⟨by omega, h2⟩, fun e => by omega, fun e1 e2 => by omega⟩

set_option maxRecDepth 100000 in
set_option maxHeartbeats 2000000 in
theorem told_pk (K : Int) (hK : K = 1 ∨ K = 2) (S : Int) (A B : Option Addr) (n c m e a : Nat) (xs ys : List Int) (w : World) (h : Ints w w.heap.size A n xs) (_hn : n ≤ 9223372036854775807) (_hm : m ≤ 9223372036854775807) (hl : ys.length = m) (ha : a ≤ 1048576) :
    Calls Try.prog 101 #[lvV K S A n c B m e, .int .i64 a] w fun x w' => x = .returned (.bool (pB (ToldP K xs ys a))) ∧ Below w.heap.size w w' := by
  have hln := h.1
  have z0 := lvBelow w (lvO K S A n c B m e)
  have e1 : IntKind.i64.wrap ((a : Int) + 1) = (a : Int) + 1 := by rw [IntWalk.i64_in _ (by omega)]
  have hT := told_pos hK xs ys a
  rw [hl, hln] at hT
  by_cases h1 : n = a + 1
  · obtain ⟨b, off, x0, rfl, hbb, HX0, hc0, hx01, hx02⟩ := h.at_ (k := 0) (by omega)
    obtain ⟨b2, off2, xa, e2, _, HXA, hca, hxa1, hxa2⟩ := h.at_ (k := a) (by omega)
    injection e2 with e2; injection e2 with e2 e3; subst e2; subst e3
    have d1 : ((n : Int) == (a : Int) + 1) = true := by simp; omega
    have d1' : ((n : Int) != (a : Int) + 1) = false := by simp; omega
    have j0 := cellPast (lvO K S (some ⟨b, off, none⟩) n c B m e) hc0
    have ja := cellPast (lvO K S (some ⟨b, off, none⟩) n c B m e) hca
    have g0 : (0 : Int) < n := by omega
    have g1 : (a : Int) < n := by omega
    have g2 : (0 : Int) ≤ a := by omega
    have g3 : 0 < n := by omega
    rw [Nat.add_zero] at j0
    by_cases hx0 : x0 = 0
    · subst hx0
      by_cases hxa : xa = m
      · subst hxa
        have d2 : ((m : Int) == (m : Int)) = true := by simp
        have HS : Hid (pB (ToldP K xs ys a) = pB (SortP xs)) := pB_congr ⟨fun q => (hT.1 q).2.2.2, fun q => hT.2 ⟨h1, HX0.out, HXA.out, q⟩⟩
        rw [HS.out]
        have hI := fun W (hb : Below w.heap.size w W) => isSorted_any (some ⟨b, off, none⟩) n c xs W w.heap.size (h.below hb) (by omega)
        clear hT h1 HX0 HXA hc0 hca HS
        rcases hK with rfl | rfl
        all_goals
          go_enter Try.func101, Try.ntmps101
          go_wp2
          go_quiet ((go_at_call 107; exact Calls.quiet_of (hI _ (below_drewN2 z0 _))))
          go_wp2
          go_ret
          exact ⟨rfl, below_drewN2 z0 _⟩
      · have d2 : (xa == (m : Int)) = false := by simpa using hxa
        have HF : Hid (pB (ToldP K xs ys a) = false) := pB_f (fun q => by have := (hT.1 q).2.2.1; rw [HXA.out] at this; injection this with this; exact hxa this)
        clear hT h1 HX0 HXA hc0 hca hxa h
        rcases hK with rfl | rfl
        all_goals
          go_enter Try.func101, Try.ntmps101
          go_wp2
          go_quiet (fail)
          go_wp2
          go_ret
          exact ⟨ret_of (by rw [HF.out]; rfl), below_drewN2 z0 _⟩
    · have d2 : (x0 == 0) = false := by simpa using hx0
      have HF : Hid (pB (ToldP K xs ys a) = false) := pB_f (fun q => by have := (hT.1 q).2.1; rw [HX0.out] at this; injection this with this; exact hx0 this)
      clear hT h1 HX0 HXA hc0 hca hx0 h
      rcases hK with rfl | rfl
      all_goals
        go_enter Try.func101, Try.ntmps101
        go_wp2
        go_quiet (fail)
        go_wp2
        go_ret
        exact ⟨ret_of (by rw [HF.out]; rfl), below_drewN2 z0 _⟩
  · have d1 : ((n : Int) == (a : Int) + 1) = false := by simp; omega
    have HF : Hid (pB (ToldP K xs ys a) = false) := pB_f (fun q => h1 (hT.1 q).1)
    clear hT h1 h hln
    rcases hK with rfl | rfl
    all_goals
      go_enter Try.func101, Try.ntmps101
      go_wp2
      go_quiet (fail)
      go_wp2
      go_ret
      exact ⟨ret_of (by rw [HF.out]; rfl), below_drewN2 z0 _⟩

set_option maxRecDepth 100000 in
set_option maxHeartbeats 2000000 in
theorem told_any (K S : Int) (A B : Option Addr) (n c m e a : Nat) (xs ys : List Int) (w : World) (h : Ints w w.heap.size A n xs) (hn : n ≤ 9223372036854775807) (hm : m ≤ 9223372036854775807) (hl : ys.length = m) (ha : a ≤ 1048576) :
    Calls Try.prog 101 #[lvV K S A n c B m e, .int .i64 a] w fun x w' => x = .returned (.bool (pB (ToldP K xs ys a))) ∧ Below w.heap.size w w' := by
  by_cases hK : K = 1 ∨ K = 2
  · exact told_pk K hK S A B n c m e a xs ys w h hn hm hl ha
  have hln := h.1
  have z0 := lvBelow w (lvO K S A n c B m e)
  by_cases h3 : K = 3
  · subst h3
    have hT : ToldP 3 xs ys a ↔ n = 0 ∧ m = a := by
      unfold ToldP; rw [← hln, ← hl]
      exact ⟨fun q => ⟨(q.2.1 rfl).1, by have := (q.2.1 rfl).2; omega⟩, fun q => ⟨fun e => by omega, fun _ => ⟨q.1, by omega⟩, fun _ _ e => absurd rfl e⟩⟩
    have HF : Hid (pB (ToldP 3 xs ys a) = (decide (n = 0) && decide (m = a))) := by
      unfold Hid; rw [pB_congr hT]
      by_cases q : n = 0 ∧ m = a
      · rw [pB_t q]; simp [q.1, q.2]
      · rw [pB_f q]
        by_cases q1 : n = 0
        · have q2 : ¬ m = a := fun q2 => q ⟨q1, q2⟩
          simp [q2]
        · simp [q1]
    rw [HF.out]
    by_cases q1 : n = 0
    · have d0 : decide (n = 0) = true := by simpa using q1
      rw [d0, Bool.true_and]
      have d1 : ((n : Int) == 0) = true := by simp; omega
      have d2 : ((m : Int) == (a : Int)) = decide (m = a) := by
        by_cases q2 : m = a
        · simp [q2]
        · simp [q2]; omega
      clear hT h hln HF d0 hK q1
      go_enter Try.func101, Try.ntmps101
      go_wp2
      go_ret
      exact ⟨ret_of (by first | rfl | (rw [← d2]; rfl)), z0⟩
    · have d0 : decide (n = 0) = false := by simpa using q1
      rw [d0, Bool.false_and]
      have d1 : ((n : Int) == 0) = false := by simp; omega
      clear hT h hln HF d0 hK q1
      go_enter Try.func101, Try.ntmps101
      go_wp2
      go_ret
      exact ⟨rfl, z0⟩
  · have hT : ToldP K xs ys a ↔ n = 0 ∧ m = 0 := by
      unfold ToldP; rw [← hln, ← hl]
      exact ⟨fun q => q.2.2 (by omega) (by omega) h3, fun q => ⟨fun e => absurd e hK, fun e => absurd e h3, fun _ _ _ => q⟩⟩
    have k1 : (K == 1) = false := by simp; omega
    have k2 : (K == 2) = false := by simp; omega
    have k3 : (K == 3) = false := by simp; omega
    by_cases q1 : n = 0
    · by_cases q2 : m = 0
      · have HF : Hid (pB (ToldP K xs ys a) = true) := pB_t (hT.2 ⟨q1, q2⟩)
        have d1 : ((n : Int) == 0) = true := by simp; omega
        have d2 : ((m : Int) == 0) = true := by simp; omega
        clear hT h hln hK q1 q2 h3
        go_enter Try.func101, Try.ntmps101
        go_wp2
        go_ret
        exact ⟨ret_of (by rw [HF.out]; rfl), z0⟩
      · have HF : Hid (pB (ToldP K xs ys a) = false) := pB_f (fun q => q2 (hT.1 q).2)
        have d1 : ((n : Int) == 0) = true := by simp; omega
        have d2 : ((m : Int) == 0) = false := by simp; omega
        clear hT h hln hK q1 q2 h3
        go_enter Try.func101, Try.ntmps101
        go_wp2
        go_ret
        exact ⟨ret_of (by rw [HF.out]; rfl), z0⟩
    · have HF : Hid (pB (ToldP K xs ys a) = false) := pB_f (fun q => q1 (hT.1 q).1)
      have d1 : ((n : Int) == 0) = false := by simp; omega
      clear hT h hln hK q1 h3
      go_enter Try.func101, Try.ntmps101
      go_wp2
      go_ret
      exact ⟨ret_of (by rw [HF.out]; rfl), z0⟩
end Go.Proofs.Ytfimnmdcbnfhfaa
