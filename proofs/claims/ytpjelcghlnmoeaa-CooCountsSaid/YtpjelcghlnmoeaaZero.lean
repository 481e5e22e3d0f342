/- The contract of the document's Zero. -/
import Derived.Test.YtpjelcghlnmoeaaGet
import Derived.Laws.AppendOwnNone
import Derived.Deep.RegionLaw
namespace Go.Proofs.Ytpjelcghlnmoeaa
open Go.RowKit

theorem run_appendNil {P : Program} (w : World) (base : Nat) (t ty e : TypeId) (i : TypeInfo) (ht : P.underlying t = some (.slice e)) (hi : P.info? e = some i) (v : Value) (n : Nat) (xs : List Value) (hown : w.ownsRow base e 1 v n xs) (c : Nat) :
    (Builtin.append_ #[t, t] ty #[v, .slice none 0 c]).run P w = .ok v w := by
  rcases hown.2 with ⟨rfl, rfl⟩ | ⟨g, cap, cur, rfl, _, _, hnc, _⟩ <;> simp [Builtin.append_, run_underlying ht, sizeOf, typeInfo, Builtin.lenOf, Builtin.firstCells, *, storeCells]

/-- append onto a slice of the call's own, from whatever slice of integers -/
theorem run_appendInts {P : Program} (w : World) (base : Nat) (t ty e : TypeId) (i : TypeInfo) (ht : P.underlying t = some (.slice e)) (hi : P.info? e = some i) (hz : i.zero = some (.int .i64 0)) (h1 : i.size = 1) (h2 : i.bytes = 8)
    (A A2 : Option Addr) (c m c2 B : Nat) (xs ys : List Int) (ho : OwnI w base e A c xs) (hs : Ints w B A2 m ys) (hl : xs.length + m ≤ 1000000) (hb : base ≤ w.heap.size) :
    ∃ A' c' w', (Builtin.append_ #[t, t] ty #[.slice A xs.length c, .slice A2 m c2]).run P w = .ok (.slice A' (xs.length + m) c') w' ∧ OwnI w' base e A' c' (xs ++ ys) ∧ w.grownBy w' (Value.slice A xs.length c).ownBlock := by
  have hlen := hs.1
  have hfit : ∀ x ∈ xs ++ ys, -9223372036854775808 ≤ x ∧ x ≤ 9223372036854775807 := by
    intro x hx
    rcases List.mem_append.1 hx with hx | hx
    · exact ho.2 x hx
    · exact hs.2.1 x hx
  rcases Option.eq_none_or_eq_some A2 with rfl | ⟨ad, rfl⟩
  · obtain rfl : m = 0 := by
      rcases Nat.eq_zero_or_pos m with h0 | h0
      · exact h0
      · obtain ⟨b, off, e', _⟩ := hs.2.2 h0; cases e'
    obtain rfl : ys = [] := List.eq_nil_of_length_eq_zero hlen
    have hrun := run_appendNil (P := P) w base t ty e i ht hi (.slice A xs.length c) xs.length (xs.map (Value.int .i64)) ho.1 c2
    exact ⟨A, c, w, by simpa using hrun, by simpa using ho, World.grownBy.refl w _⟩
  · obtain ⟨v', w', hr, h3, h4, _⟩ := run_append_own (P := P) w base t ty e i (.int .i64 0) 1 8 ht hi hz h1 h2 rfl (by decide) (.slice A xs.length c) xs.length (xs.map (Value.int .i64)) ho.1 ad m c2 (ys.map (Value.int .i64)) (by rw [List.length_map, hlen, Nat.mul_one]) hs.cells_ (ints_one ys) (by unfold maxLen; omega) (by omega) hb
    obtain ⟨A', c', rfl⟩ := row_form h3
    refine ⟨A', c', w', hr, ⟨?_, hfit⟩, h4⟩
    rw [List.length_append, hlen, List.map_append]
    exact h3

theorem step_appendInts {P : Program} {ops : Array Oper} {o : Oper} {a : Act} {w : World} {K : Act → World → Prop} {Q : Exit → Act → World → Prop} {E : Prop}
    (hg : o.guard = none) (s x : Operand) (t : TypeId) (hop : o.op = Op.call { callee := Callee.builtin Builtin.append, args := #[s, x], argTypes := #[t, t] })
    (base : Nat) (e : TypeId) (i : TypeInfo) (ht : P.underlying t = some (.slice e)) (hi : P.info? e = some i) (hz : i.zero = some (.int .i64 0)) (h1 : i.size = 1) (h2 : i.bytes = 8)
    (A A2 : Option Addr) (c m c2 B p r : Nat) (xs ys : List Int) (hs : a.eval s = .slice A p c) (hx : a.eval x = .slice A2 m c2) (ho : OwnI w base e A c xs) (hp : xs.length = p) (hr : p + m = r) (hi2 : Ints w B A2 m ys) (hl : r ≤ 1000000) (hb : base ≤ w.heap.size)
    (hK : ∀ A' c' w', OwnI w' base e A' c' (xs ++ ys) → w.grownBy w' (Value.slice A p c).ownBlock → K (a.put o.dst (.slice A' r c')) w') :
    if Region.wanted o (yielded ops a.tmps) = true then Oper.wp P o a w K Q else E := by
  have hw : Region.wanted o (yielded ops a.tmps) = true := by simp [Region.wanted, hg]
  rw [if_pos hw]
  subst hp
  subst hr
  obtain ⟨A', c', w', hrun, ho', hb'⟩ := run_appendInts (P := P) w base t o.type e i ht hi hz h1 h2 A A2 c m c2 B xs ys ho hi2 hl hb
  unfold Oper.wp
  simp [execOp, hop, resolve, invoke, builtin, hs, hx, hrun, Result.andThen]
  exact hK _ _ _ ho' hb'

theorem below_of_none {W w1 : World} (hg : W.grownBy w1 none) : Below W.heap.size W w1 := (Below.refl _ _).grown hg (Nat.le_refl _) (fun k e => by cases e)

set_option maxRecDepth 100000 in
/-- the document's Zero: an error's end -/
theorem refZero_err (A : Option Addr) (n c : Nat) (xs : List Int) (w : World) (h : Ints w w.heap.size A n xs) (hn : n ≤ 9223372036854775807) (he : (laidF xs).2 ≠ 0) :
    Calls Try.prog 59 #[.slice A n c] w fun e w' => e = .returned (.tuple #[.agg #[.slice none 0 0, .slice none 0 0], .int .i64 (laidF xs).2]) ∧ Below w.heap.size w w' := by
  have HC := fun W (hW : Ints W w.heap.size A n xs) => refCells_any A n c xs W w.heap.size hW hn
  obtain ⟨N, hN⟩ : ∃ N, (cellsF xs).1 = N := ⟨_, rfl⟩
  obtain ⟨E, hE⟩ : ∃ E, (cellsF xs).2 = E := ⟨_, rfl⟩
  rw [hN, hE] at HC
  by_cases h0 : E = 0
  · by_cases hl : 65536 < N
    · have HF : (laidF xs).2 = 2 := by unfold laidF; rw [hE, if_pos h0, hN, if_pos hl]
      rw [HF]
      clear hN hE he HF
      subst h0
      go_enter Try.func59, Try.ntmps59
      go_wp2_with (go_at_call 53; refine (HC _ (h.alloc (Nat.le_refl _) _)).mono ?_; rintro e w' ⟨rfl, rfl⟩)
      exact bodyPost_ret (v := .tuple #[.agg #[.slice none 0 0, .slice none 0 0], .int .i64 2]) (by simp [results, Try.results59, go_sem]) rfl ⟨rfl, (Below.refl _ _).alloc (Nat.le_refl _) _⟩
    · exfalso
      apply he
      unfold laidF; rw [hE, if_pos h0, hN, if_neg hl]
  · have HF : (laidF xs).2 = E := by unfold laidF; rw [hE, if_neg h0]
    rw [HF]
    have he1 : (E == 0) = false := by simpa using h0
    have he2 : (E != 0) = true := by simpa using h0
    clear hN hE he h0 HF
    go_enter Try.func59, Try.ntmps59
    go_wp2_with (go_at_call 53; refine (HC _ (h.alloc (Nat.le_refl _) _)).mono ?_; rintro e w' ⟨rfl, rfl⟩)
    exact bodyPost_ret (v := .tuple #[.agg #[.slice none 0 0, .slice none 0 0], .int .i64 E]) (by simp [results, Try.results59, go_sem]) rfl ⟨rfl, (Below.refl _ _).alloc (Nat.le_refl _) _⟩

set_option maxRecDepth 100000 in
set_option maxHeartbeats 1000000 in
theorem refZero_ok (A : Option Addr) (n c : Nat) (xs : List Int) (N : Nat) (w : World) (h : Ints w w.heap.size A n xs) (hn : n ≤ 100000) (he : (laidF xs).2 = 0) (hN : (laidF xs).1 = N) (hN2 : N ≤ 65536) :
    Calls Try.prog 59 #[.slice A n c] w fun e w' => ∃ A1 c1 A2 c2, e = .returned (.tuple #[.agg #[.slice A1 n c1, .slice A2 N c2], .int .i64 0]) ∧ OwnI w' w.heap.size 3 A1 c1 xs ∧ OwnI w' w.heap.size 2 A2 c2 (List.replicate N 0) ∧ Below w.heap.size w w' := by
  have HC := fun W (hW : Ints W w.heap.size A n xs) => refCells_any A n c xs W w.heap.size hW (by omega)
  have hok := laidF_ok he
  rw [hok.1, ← hok.2, hN] at HC
  obtain ⟨i0, hi0, hz0, hz1, hz2⟩ := info_parts infoInt64
  obtain ⟨i1, hi1, hy0, hy1, hy2⟩ := info_parts infoInt
  have hmk := fun W => run_makeAll (P := Try.prog) 39 2 i0 Try.underlying39 hi0 hz0 hz1 hz2 N (by omega) W
  have hlN : decide (65536 < (N : Int)) = false := by simp; omega
  clear hN he hok
  go_enter Try.func59, Try.ntmps59
  go_wp2_with (go_at_call 53; refine (HC _ (h.alloc (Nat.le_refl _) _)).mono ?_; rintro e w' ⟨rfl, rfl⟩)
  go_region_law (refine step_appendInts rfl (.const (.slice none 0 0)) (.tmp 18) 22 rfl (w.heap.size + 1) 3 i1 Try.underlying22 hi1 hy0 hy1 hy2 none A 0 n c w.heap.size 0 n [] xs rfl rfl (OwnI.nil_ _ _ _) rfl (Nat.zero_add _) (by first | exact h.alloc (Nat.le_refl _) _ | exact (h.alloc (Nat.le_refl _) _).alloc (by simp) _) (by omega) (by simp; try omega) ?_; intro A1 c1 w1 HO HG; have HB := below_of_none HG; obtain ⟨hs1, k0, k1, f0, f1⟩ := zfacts HB)
  all_goals go_wp2
  · obtain ⟨e0, e1⟩ := zcells (a := .slice A1 n c1) (b := .slice (some ⟨w1.heap.size, 0, none⟩) N N) k0 k1
    have e2 := fun o => cellPast o e0
    have e3 := fun o => cellPast o e1
    refine bodyPost_ret (v := .tuple #[.agg #[.slice A1 n c1, .slice (some ⟨w1.heap.size, 0, none⟩) N N], .int .i64 0]) (by simp [results, Try.results59, go_sem, e2, e3]) rfl ⟨A1, c1, _, _, rfl, ?_, ?_, ?_⟩
    · exact (((HO.setBelow (a := ⟨w.heap.size, 0, none⟩) (by simp) _).setBelow (a := ⟨w.heap.size, 1, none⟩) (by simp) _).alloc _).mono (by simp)
    · have := own_made ((w1.setCell ⟨w.heap.size, 0, none⟩ (.slice A1 n c1)).setCell ⟨w.heap.size, 1, none⟩ (.slice (some ⟨w1.heap.size, 0, none⟩) N N)) 2 N w.heap.size (by simp; omega) (by omega)
      simpa using this
    · exact ((((((Below.refl _ w).alloc (Nat.le_refl _) _).drew).trans (HB.mono (by simp))).setCell (p := ⟨w.heap.size, 0, none⟩) (Nat.le_refl _) _).setCell (p := ⟨w.heap.size, 1, none⟩) (Nat.le_refl _) _).alloc (by simp; omega) _
  · obtain ⟨e0, e1⟩ := zcells (a := .slice A1 n c1) (b := .slice (some ⟨w.heap.size + 1, 0, none⟩) N N) k0 k1
    refine bodyPost_ret (v := .tuple #[.agg #[.slice A1 n c1, .slice (some ⟨w.heap.size + 1, 0, none⟩) N N], .int .i64 0]) (by simp [results, Try.results59, go_sem, e0, e1]) rfl ⟨A1, c1, _, _, rfl, ?_, ?_, ?_⟩
    · exact ((HO.setBelow (a := ⟨w.heap.size, 0, none⟩) (by simp) _).setBelow (a := ⟨w.heap.size, 1, none⟩) (by simp) _).mono (by simp)
    · have := own_made (w.alloc (.cells #[.slice none 0 0, .slice none 0 0] 41)) 2 N (w.heap.size + 1) (by simp) (by omega)
      rw [World.size_alloc] at this
      exact (((this.drew.below HB (Nat.le_refl _)).setBelow (a := ⟨w.heap.size, 0, none⟩) (by simp) _).setBelow (a := ⟨w.heap.size, 1, none⟩) (by simp) _).mono (by omega)
    · exact ((((((Below.refl _ w).alloc (Nat.le_refl _) _).alloc (by simp) _).drew).trans (HB.mono (by simp; omega))).setCell (p := ⟨w.heap.size, 0, none⟩) (Nat.le_refl _) _).setCell (p := ⟨w.heap.size, 1, none⟩) (Nat.le_refl _) _
end Go.Proofs.Ytpjelcghlnmoeaa
