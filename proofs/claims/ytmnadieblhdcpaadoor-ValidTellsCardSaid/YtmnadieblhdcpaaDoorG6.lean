/- Plain facts on orders of a few numbers: lists of integers that have each number once; inverses, turns, ranks, cycles. No program. -/
import Derived.Test.YtmnadieblhdcpaaDoorG2
import Derived.Test.YtmnadieblhdcpaaDoorG3
import Derived.Test.YtmnadieblhdcpaaDoorProg
import Derived.Test.YtmnadieblhdcpaaDoorG5
import Derived.BigQuiet
import Derived.Deep.QuietTactic
import Derived.Below
import Derived.Test.YtmnadieblhdcpaaDoorG1
namespace Go.Proofs.YtmnadieblhdcpaaDoor
open Go.RowKit

/-- is a list an order of at most twelve numbers -/
def permB (p : List Int) : Bool := decide (p.length ≤ 12) && (p.all fun x => decide (0 ≤ x ∧ x < p.length)) && decide p.Nodup
def ordF (p : List Int) : Int := if permB p = true then 0 else 1
def pick (l : List Int) (x : Int) : Int := l.getD x.toNat 0
def turnL (l p : List Int) : List Int := p.map (pick l)
def plainL (n : Nat) : List Int := (List.range n).map Int.ofNat
def invL (p : List Int) : List Int := (List.range p.length).map fun k : Nat => ((p.idxOf (k : Int) : Nat) : Int)
/-- how many of the numbers behind are less than the first -/
def lessC (x : Int) (l : List Int) : Nat := (l.filter fun y => decide (y < x)).length
def lessL : List Int → List Int
  | [] => []
  | x :: l => (lessC x l : Int) :: lessL l
def fact : Nat → Nat
  | 0 => 1
  | n + 1 => (n + 1) * fact n
def rankL : List Int → Nat
  | [] => 0
  | x :: l => lessC x l * fact l.length + rankL l
def invsL : List Int → Nat
  | [] => 0
  | x :: l => lessC x l + invsL l
def nthL : Nat → List Int → Nat → List Int
  | 0, _, _ => []
  | m + 1, l, k => l.getD (k / fact m) 0 :: nthL m (l.eraseIdx (k / fact m)) (k % fact m)

structure Perm_ (p : List Int) : Prop where
  len : p.length ≤ 12
  inn : ∀ x ∈ p, 0 ≤ x ∧ x < p.length
  nodup : p.Nodup
theorem permB_iff {p : List Int} : permB p = true ↔ Perm_ p := by
  unfold permB
  simp only [Bool.and_eq_true, decide_eq_true_eq, List.all_eq_true]
  exact ⟨fun ⟨⟨a, b⟩, c⟩ => ⟨a, b, c⟩, fun h => ⟨⟨h.len, h.inn⟩, h.nodup⟩⟩
theorem ordF_ok {p : List Int} : ordF p = 0 ↔ Perm_ p := by
  rw [← permB_iff]; unfold ordF; split <;> simp_all
theorem ordF_no {p : List Int} (h : ¬ Perm_ p) : ordF p = 1 := by
  unfold ordF; rw [if_neg]; rw [permB_iff]; exact h
theorem ordF_yes {p : List Int} (h : Perm_ p) : ordF p = 0 := ordF_ok.2 h

/-- the marks of what was seen -/
def seenC (l : List Int) : List Value := (List.range 12).map fun i : Nat => Value.bool (l.contains (i : Int))
theorem seenC_nil : seenC [] = List.replicate 12 (Value.bool false) := by rfl
theorem seenC_at {l : List Int} {i : Nat} (h : i < 12) : (seenC l)[i]? = some (.bool (l.contains (i : Int))) := by
  unfold seenC; simp [h]
theorem seenC_set (l : List Int) {i : Nat} (h : i < 12) : (seenC l).set i (.bool true) = seenC (l ++ [(i : Int)]) := by
  apply List.ext_getElem?
  intro j
  rw [List.getElem?_set]
  unfold seenC
  by_cases hj : j < 12
  · by_cases hij : i = j
    · subst hij; simp [hj]
    · simp [hj, hij]; omega
  · simp [hj]; omega
theorem nodup_snoc {l : List Int} {x : Int} (h : l.Nodup) (hx : x ∉ l) : (l ++ [x]).Nodup := by
  rw [List.nodup_append]; refine ⟨h, by simp, ?_⟩; intro a ha b hb; simp at hb; subst hb; exact fun e => hx (e ▸ ha)

/-! ### Lists that are filled from the front -/
theorem fill_len {R : List Int} {n k : Nat} (hR : R.length = n) (hk : k ≤ n) : (R.take k ++ List.replicate (n - k) 0).length = n := by simp; omega
theorem fill_setP {R : List Int} {n k : Nat} {x : Int} (hx : R[k]? = some x) (hR : R.length = n) : (R.take k ++ List.replicate (n - k) 0).set k x = R.take (k + 1) ++ List.replicate (n - (k + 1)) 0 := by
  have hk := (List.getElem?_eq_some_iff.1 hx).1
  have e : n - k = n - (k + 1) + 1 := by omega
  have e1 : (R.take k).length = k := by simp; omega
  rw [e, List.replicate_succ, List.set_append_right _ _ (by omega), e1, Nat.sub_self, List.set_cons_zero, take_succ_of hx, List.append_assoc]
  rfl
theorem fill_at {R : List Int} {n k : Nat} (hR : R.length = n) (hk : k < n) : (R.take k ++ List.replicate (n - k) 0)[k]? = some 0 := by
  rw [List.getElem?_append_right (by rw [List.length_take]; omega), List.getElem?_replicate, if_pos (by rw [List.length_take]; omega)]
theorem fill_done {R : List Int} {n : Nat} (hR : R.length = n) : R.take n ++ List.replicate (n - n) 0 = R := by
  rw [List.take_of_length_le (by omega)]; simp

/-! ### Places -/
theorem idxOf_of {p : List Int} {k : Nat} {x : Int} (hx : p[k]? = some x) (hn : x ∉ p.take k) : p.idxOf x = k := by
  have e : p = p.take k ++ x :: p.drop (k + 1) := by rw [← drop_of hx, List.take_append_drop]
  have hk := (List.getElem?_eq_some_iff.1 hx).1
  rw [e, List.idxOf_append, if_neg hn]
  simp; omega
theorem idxOf_at {p : List Int} {x : Int} (h : x ∈ p) : p[p.idxOf x]? = some x := by
  have hlt := List.idxOf_lt_length_iff.2 h
  rw [List.getElem?_eq_getElem hlt, List.getElem_idxOf]
theorem nodup_idx {p : List Int} (h : p.Nodup) {k : Nat} {x : Int} (hx : p[k]? = some x) : p.idxOf x = k := by
  refine idxOf_of hx fun hm => ?_
  have h3 : (p.take (k + 1)).Nodup := h.sublist (List.take_sublist _ _)
  rw [take_succ_of hx, List.nodup_append] at h3
  exact h3.2.2 x hm x (by simp) rfl

theorem plainL_length (n : Nat) : (plainL n).length = n := by simp [plainL]
theorem plainL_at {n k : Nat} (h : k < n) : (plainL n)[k]? = some (k : Int) := by simp [plainL, h]
theorem turnL_length (l p : List Int) : (turnL l p).length = p.length := by simp [turnL]
theorem invL_length (p : List Int) : (invL p).length = p.length := by simp [invL]
theorem invL_at {p : List Int} {k : Nat} (h : k < p.length) : (invL p)[k]? = some ((p.idxOf (k : Int) : Nat) : Int) := by simp [invL, h]
theorem lessL_length (p : List Int) : (lessL p).length = p.length := by induction p with | nil => rfl | cons x l ih => simp [lessL, ih]
theorem lessL_at {p : List Int} {k : Nat} {x : Int} (h : p[k]? = some x) : (lessL p)[k]? = some (lessC x (p.drop (k + 1)) : Int) := by
  induction p generalizing k with
  | nil => simp at h
  | cons y l ih => cases k with
    | zero => simp at h; subst h; simp [lessL]
    | succ k => simpa [lessL] using ih (by simpa using h)
theorem lessC_le (x : Int) (l : List Int) : lessC x l ≤ l.length := List.length_filter_le _ _
theorem lessC_snoc (x y : Int) (l : List Int) : lessC x (l ++ [y]) = lessC x l + if y < x then 1 else 0 := by
  unfold lessC; rw [List.filter_append, List.length_append]
  by_cases h : y < x <;> simp [h]
theorem fact_pos (n : Nat) : 0 < fact n := by induction n with | zero => decide | succ n ih => exact Nat.mul_pos (by omega) ih
theorem fact_mono {n m : Nat} (h : n ≤ m) : fact n ≤ fact m := by
  induction h with
  | refl => exact Nat.le_refl _
  | step h ih => rename_i m; refine Nat.le_trans ih ?_; show fact m ≤ (m + 1) * fact m; exact Nat.le_mul_of_pos_left _ (by omega)
theorem fact_12 : fact 12 = 479001600 := by decide
theorem fact_le {n : Nat} (h : n ≤ 12) : fact n ≤ 479001600 := by rw [← fact_12]; exact fact_mono h
/-- an order has each number once -/
theorem Perm_.mem {p : List Int} (h : Perm_ p) {k : Nat} (hk : k < p.length) : (k : Int) ∈ p := by
  -- as many different numbers below the length as there are
  have key : ∀ (n : Nat) (l : List Int), l.Nodup → (∀ x ∈ l, 0 ≤ x ∧ x < n) → l.length ≤ n ∧ (l.length = n → ∀ k : Nat, k < n → (k : Int) ∈ l) := by
    intro n
    induction n with
    | zero => intro l _ h2; cases l with | nil => simp | cons x l => have := h2 x (by simp); omega
    | succ n ih =>
      intro l h1 h2
      have hn : (l.erase (n : Int)).Nodup := h1.erase _
      have hb : ∀ x ∈ l.erase (n : Int), 0 ≤ x ∧ x < n := by
        intro x hx
        have hx2 := (List.Nodup.mem_erase_iff h1).1 hx
        have := h2 x hx2.2
        have hne := hx2.1
        omega
      obtain ⟨i1, i2⟩ := ih _ hn hb
      by_cases hm : (n : Int) ∈ l
      · rw [List.length_erase_of_mem hm] at i1 i2
        have hpos : 0 < l.length := List.length_pos_of_mem hm
        refine ⟨by omega, fun e k hk => ?_⟩
        by_cases hkn : k = n
        · subst hkn; exact hm
        · exact List.mem_of_mem_erase (i2 (by omega) k (by omega))
      · rw [List.erase_of_not_mem hm] at i1 i2
        exact ⟨by omega, fun e => by omega⟩
  exact (key p.length p h.nodup h.inn).2 rfl k hk
theorem turnL_at {l p : List Int} {k : Nat} {x y : Int} (h : p[k]? = some x) (hy : l[x.toNat]? = some y) : (turnL l p)[k]? = some y := by
  simp [turnL, pick, h, hy]

theorem rankL_lt (p : List Int) : rankL p < fact p.length := by
  induction p with
  | nil => decide
  | cons x l ih =>
    simp only [rankL, List.length_cons, fact]
    have h1 := lessC_le x l
    have h2 : lessC x l * fact l.length ≤ l.length * fact l.length := Nat.mul_le_mul_right _ h1
    rw [Nat.add_mul, Nat.one_mul]
    omega
theorem rankL_drop {p : List Int} {k : Nat} {x : Int} (h : p[k]? = some x) : rankL (p.drop k) = lessC x (p.drop (k + 1)) * fact (p.length - (k + 1)) + rankL (p.drop (k + 1)) := by
  rw [drop_of h]; simp [rankL]
theorem invsL_drop {p : List Int} {k : Nat} {x : Int} (h : p[k]? = some x) : invsL (p.drop k) = lessC x (p.drop (k + 1)) + invsL (p.drop (k + 1)) := by
  rw [drop_of h]; simp [invsL]
theorem invsL_le (p : List Int) : invsL p ≤ p.length * p.length := by
  induction p with
  | nil => decide
  | cons x l ih =>
    simp only [invsL, List.length_cons]
    have h1 := lessC_le x l
    rw [Nat.add_mul, Nat.mul_add]
    omega
def rankF (p : List Int) : Int × Int := if ordF p = 0 then (rankL p, 0) else (0, 1)
def oddB (p : List Int) : Bool := invsL p % 2 == 1
def oddF (p : List Int) : Bool × Int := if ordF p = 0 then (oddB p, 0) else (false, 1)
end Go.Proofs.YtmnadieblhdcpaaDoor
/- The contract of perm.Check. -/
namespace Go.Proofs.YtmnadieblhdcpaaDoor
open Go.RowKit

theorem blk_cell {w : World} {g i : Nat} {cs : List Value} {t : TypeId} {v : Value} (h : w.heap[g]? = some (.cells cs.toArray t (0, 0))) (hv : cs[i]? = some v) : w.cell? ⟨g, i, none⟩ = some v ∧ w.frozen? ⟨g, i, none⟩ = false :=
  ⟨(cell_of_row _ _ _ _ _ _ h).trans (by simpa using hv), by simp [World.frozen?, h]⟩
theorem blk_set {w : World} {g i : Nat} {cs : List Value} {t : TypeId} (h : w.heap[g]? = some (.cells cs.toArray t (0, 0))) (v : Value) : (w.setCell ⟨g, i, none⟩ v).heap[g]? = some (.cells (cs.set i v).toArray t (0, 0)) := by
  rw [heap_setCell_same _ _ _ _ _ _ h]; simp

end Go.Proofs.YtmnadieblhdcpaaDoor
/- The contracts of level's smallest functions: Whole, many, inside, span, place, may, IsSorted; of the document's Whole and many. -/
namespace Go.Proofs.YtmnadieblhdcpaaDoor
open Go.RowKit

/-- a level as a value -/
abbrev lvV (K S : Int) (A : Option Addr) (n c : Nat) (B : Option Addr) (m e : Nat) : Value := .agg #[.int .i64 K, .int .i64 S, .slice A n c, .slice B m e]
theorem lvBelow (w : World) (o : Obj) : Below w.heap.size w (w.alloc o) := (Below.refl _ _).alloc (Nat.le_refl _) _
theorem kinds (K : Int) : K = 0 ∨ K = 1 ∨ K = 2 ∨ K = 3 ∨ K = 4 ∨ ((K == 0) = false ∧ (K == 1) = false ∧ (K == 2) = false ∧ (K == 3) = false ∧ (K == 4) = false ∧ wholeB K = false) := by
  simp [wholeB]; omega
theorem oKeep {w1 w2 : World} {g : Nat} {o : Obj} (h : Below w1.heap.size w1 w2) (hg : w1.heap[g]? = some o) : w2.heap[g]? = some o := (h.block g (Array.getElem?_eq_some_iff.1 hg).1).trans hg
theorem oNew {w1 w2 : World} {o : Obj} (h : Below (w1.alloc o).heap.size (w1.alloc o) w2) : w2.heap[w1.heap.size]? = some o := (h.block w1.heap.size (by simp)).trans (heap_alloc_new w1 o)
/-- the cells of a level's block -/
theorem lvCells {W : World} {g : Nat} {u v x y : Value} {t : TypeId} (h : W.heap[g]? = some (.cells #[u, v, x, y] t (0, 0))) :
    W.cell? ⟨g, 0, none⟩ = some u ∧ W.cell? ⟨g, 1, none⟩ = some v ∧ W.cell? ⟨g, 2, none⟩ = some x ∧ W.cell? ⟨g, 3, none⟩ = some y ∧ W.frozen? ⟨g, 0, none⟩ = false ∧ W.frozen? ⟨g, 1, none⟩ = false ∧ W.frozen? ⟨g, 2, none⟩ = false ∧ W.frozen? ⟨g, 3, none⟩ = false :=
  ⟨by simpa using cell_of_row _ _ 0 _ t (0, 0) h, by simpa using cell_of_row _ _ 1 _ t (0, 0) h, by simpa using cell_of_row _ _ 2 _ t (0, 0) h, by simpa using cell_of_row _ _ 3 _ t (0, 0) h, by simp [World.frozen?, h], by simp [World.frozen?, h], by simp [World.frozen?, h], by simp [World.frozen?, h]⟩
theorem ret_of {v u : Value} (h : v = u) : Ending.returned v = Ending.returned u := by rw [h]

end Go.Proofs.YtmnadieblhdcpaaDoor
/- The document's registers and places of an instruction. -/
namespace Go.Proofs.YtmnadieblhdcpaaDoor
open Go.RowKit

theorem bl_strJ (l : List UInt8) : bl (strJ l) = l := by simp [bl, strJ]
theorem strJ_size (l : List UInt8) : (strJ l).size = l.length := by rw [← bl_len, bl_strJ]
/-- a text of these bytes, behind a name -/
theorem strJ_name (l : List UInt8) : ∃ s : ByteArray, strJ l = s ∧ bl s = l ∧ s.size = l.length := ⟨_, rfl, bl_strJ l, strJ_size l⟩
theorem newJ (w : World) (x : Ji) : (w.alloc x.obj).heap[w.heap.size]? = some x.obj := heap_alloc_new w _
/-- three numbers in a new block -/
def FieldsP (x : Ji) (w : World) (e : Ending) (w' : World) : Prop :=
  Below w.heap.size w w' ∧ ∃ g, w.heap.size ≤ g ∧ e = .returned (.slice (some ⟨g, 0, none⟩) 3 3) ∧ w'.heap[g]? = some (.cells #[.int .i64 x.a, .int .i64 x.b, .int .i64 x.c] 3 (0, 0))
set_option maxRecDepth 100000 in
theorem refFields_any (x : Ji) (w : World) : Calls Tryd.prog 67 #[x.val] w (FieldsP x w) := by
  go_enter Tryd.func67, Tryd.ntmps67
  go_wp2_with fail
  go_ret
  refine ⟨((Below.refl _ _).alloc (Nat.le_refl _) _).alloc (by simp) _, w.heap.size + 1, by omega, rfl, ?_⟩
  have := heap_alloc_new (w.alloc x.obj) (.cells #[.int .i64 x.a, .int .i64 x.b, .int .i64 x.c] 3)
  rwa [World.size_alloc] at this
def WritesP (x : Ji) (w : World) (e : Ending) (w' : World) : Prop := e = .returned (.tuple #[.int .i64 (writesJ x), .bool (setsJ x)]) ∧ Below w.heap.size w w'
set_option maxRecDepth 100000 in
theorem refWrites_any (x : Ji) (w : World) : Calls Tryd.prog 64 #[x.val] w (WritesP x w) := by
  have HB0 := Lib.hid ((Below.refl w.heap.size w).alloc (Nat.le_refl _) x.obj)
  have HX0 := Lib.hid (newJ w x)
  obtain ⟨W0, hW0⟩ : ∃ W, w.alloc x.obj = W := ⟨_, rfl⟩
  rw [hW0] at HB0 HX0
  obtain ⟨s, hs, hbl, hsz⟩ := strJ_name (kJ x.op)
  have hsm : s.size ≤ 3 := by have := kJ_len x.op; omega
  have HS := Lib.hid hs
  have HBL := Lib.hid hbl
  have HSZ := Lib.hid hsz
  clear hs hbl hsz
  obtain ⟨k, kf⟩ := box_cellsJ HX0.out
  obtain ⟨k0, k1, k2, k3, k4⟩ := k
  go_enter Tryd.func64, Tryd.ntmps64
  go_wp2_with fail
  try rw [hW0]
  refine (refWord14_any x.op W0).mono ?_
  rintro e w1 ⟨rfl, hb⟩
  rw [HS.out]
  have HB1 := Lib.hid (HB0.out.trans (hb.mono HB0.out.size))
  have HX1 := Lib.hid (keep_b hb HX0.out)
  clear hb hW0 k0 k1 k2 k3 k4 kf
  obtain ⟨k, kf⟩ := box_cellsJ HX1.out
  obtain ⟨k0, k1, k2, k3, k4⟩ := k
  by_cases h0 : s.size = 0
  · have e1 : s = ⟨#[]⟩ := size_zero h0
    have e2 : kJ x.op = [] := by rw [← HBL.out, e1]; rfl
    have HR : Hid (setsJ x = false ∧ writesJ x = 0) := by
      have : setsJ x = false := by unfold setsJ; rw [e2]; rfl
      exact ⟨this, by unfold writesJ; rw [this]; rfl⟩
    clear e2
    subst e1
    go_wp2_with fail
    go_ret2
    exact ⟨by rw [HR.out.1, HR.out.2]; rfl, HB1.out⟩
  · have hlt : 0 < s.size := by omega
    have hne : s.toList.isEmpty = false := not_empty h0
    have hne2 : s.toList ≠ [] := by rw [List.isEmpty_eq_false_iff] at hne; exact hne
    have hg := bl_get s 0 hlt
    rw [HBL.out] at hg
    by_cases hc : (s[0].toNat : Int) = 119
    · have c1 : ((s[0].toNat : Int) == 119) = true := by simpa using hc
      have HR : Hid (setsJ x = true ∧ writesJ x = x.a) := by
        have : setsJ x = true := by
          unfold setsJ
          rw [List.head?_eq_getElem?, hg]
          simp
          exact UInt8.toNat_inj.1 (by simpa using (by omega : s[0].toNat = 119))
        exact ⟨this, by unfold writesJ; rw [this]; rfl⟩
      clear hg hc
      go_wp2_with fail
      go_ret2
      exact ⟨by rw [HR.out.1, HR.out.2]; rfl, HB1.out⟩
    · have c1 : ((s[0].toNat : Int) == 119) = false := by simpa using hc
      have HR : Hid (setsJ x = false ∧ writesJ x = 0) := by
        have : setsJ x = false := by
          unfold setsJ
          rw [List.head?_eq_getElem?, hg]
          simp
          intro e
          apply hc
          rw [e]; rfl
        exact ⟨this, by unfold writesJ; rw [this]; rfl⟩
      clear hg hc
      go_wp2_with fail
      go_ret2
      exact ⟨by rw [HR.out.1, HR.out.2]; rfl, HB1.out⟩
theorem pastJ {w : World} {g : Nat} {v : Obj} (o : Obj) (h : w.heap[g]? = some v) : (w.alloc o).heap[g]? = some v := (Below.heap_alloc w o g (lt_of_heap h)).trans h
/-- a block of another type stays over an append onto numbers -/
theorem past_int {w w' : World} {base c g p : Nat} {A : Option Addr} {xs : List Int} {cs : Array Value} {t : TypeId} (hO : OwnI w base 3 A c xs) (hg : w.heap[g]? = some (.cells cs t (0, 0))) (ht : 3 ≠ t) (hp : xs.length = p) (hG : w.grownBy w' (Value.slice A p c).ownBlock) : w'.heap[g]? = some (.cells cs t (0, 0)) := by
  subst hp
  refine (hG.block g (lt_of_heap hg) ?_).trans hg
  rcases rows_ne hO.1 hg ht with h | h
  · rw [h]; simp
  · exact fun e => h e.symm
def ReadsP (x : Ji) (w : World) (e : Ending) (w' : World) : Prop := ∃ A c, e = .returned (.slice A (readsJ x).length c) ∧ OwnI w' w.heap.size 3 A c (readsJ x) ∧ Below w.heap.size w w'
theorem Ji.f_fits {x : Ji} (h : x.ok) : ∀ (i : Nat) (v : Int), x.f[i]? = some v → -9223372036854775808 ≤ v ∧ v ≤ 9223372036854775807 := by
  intro i v hv
  match i, hv with
  | 0, hv => cases hv; exact h.a
  | 1, hv => cases hv; exact h.b
  | 2, hv => cases hv; exact h.c
  | i + 3, hv => cases hv
set_option maxRecDepth 100000 in
set_option maxHeartbeats 1000000 in
theorem refReads_any (x : Ji) (w : World) (hx : x.ok) : Calls Tryd.prog 41 #[x.val] w (ReadsP x w) := by
  have HB0 := Lib.hid ((Below.refl w.heap.size w).alloc (Nat.le_refl _) x.obj)
  have HX0 := Lib.hid (newJ w x)
  have HOK := Lib.hid hx
  obtain ⟨W0, hW0⟩ : ∃ W, w.alloc x.obj = W := ⟨_, rfl⟩
  rw [hW0] at HB0 HX0
  obtain ⟨s, hs, hbl, hsz⟩ := strJ_name (kJ x.op)
  have hsm : s.size ≤ 3 := by have := kJ_len x.op; omega
  have HS := Lib.hid hs
  have HBL := Lib.hid hbl
  have HSZ := Lib.hid hsz
  clear hs hbl hsz
  obtain ⟨k, kf⟩ := box_cellsJ HX0.out
  obtain ⟨k0, k1, k2, k3, k4⟩ := k
  obtain ⟨i0, hi0, hz0, hz1, hz2⟩ := info_parts infoInt
  go_enter Tryd.func41, Tryd.ntmps41
  go_wp2_with fail
  try rw [hW0]
  refine (refWord14_any x.op W0).mono ?_
  rintro e w1 ⟨rfl, hb⟩
  rw [HS.out]
  have HB1 := Lib.hid (HB0.out.trans (hb.mono HB0.out.size))
  have HX1 := Lib.hid (keep_b hb HX0.out)
  clear hb hW0 k0 k1 k2 k3 k4 kf
  go_wp2_with fail
  go_loopw [5, 15] (fun v i wr => ∃ (k : Nat) (A : Option Addr) (c : Nat), k ≤ s.size ∧ i = .int .i64 k ∧ v = .slice A (readsG ((kJ x.op).take k) x.f).length c ∧ Hid (OwnI wr w.heap.size 3 A c (readsG ((kJ x.op).take k) x.f)) ∧ Hid (Below w.heap.size w wr) ∧ Hid (wr.heap[w.heap.size]? = some x.obj)) (fun _ i _ => s.size - (intOf i).toNat)
  case atStart => exact ⟨0, none, 0, Nat.zero_le _, rfl, by rw [List.take_zero]; rfl, by rw [List.take_zero]; exact OwnI.nil_ _ _ _, HB1.out, HX1.out⟩
  case round =>
    obtain ⟨k, A, c, hk, rfl, rfl, HO, HB, HX⟩ := hrel
    by_cases hlt : k < s.size
    · have hg := bl_get s k hlt
      rw [HBL.out] at hg
      have hv : ∃ v, x.f[k]? = some v := by
        have : k < x.f.length := by show k < 3; omega
        exact ⟨_, List.getElem?_eq_getElem this⟩
      obtain ⟨v, hv⟩ := hv
      have hsn := readsG_snoc (kJ x.op) x.f k s[k] v hg hv
      have hvf := Ji.f_fits HOK.out k v hv
      have hrl := readsG_length ((kJ x.op).take k) x.f
      have hrl2 : (readsG ((kJ x.op).take k) x.f).length ≤ 3 := hrl
      have HSN := Lib.hid hsn
      have HV := Lib.hid hv
      clear hsn hg hv hrl
      by_cases hc : (s[k].toNat : Int) = 114
      · have c1 : ((s[k].toNat : Int) == 114) = true := by simpa using hc
        have hc2 : s[k] = 114 := UInt8.toNat_inj.1 (by simpa using (by omega : s[k].toNat = 114))
        have HST : Hid (readsG ((kJ x.op).take (k + 1)) x.f = readsG ((kJ x.op).take k) x.f ++ [v]) := by unfold Hid; rw [HSN.out, if_pos hc2]
        have hF := refFields_any x wr
        obtain ⟨kk, kf⟩ := box_cellsJ HX.out
        obtain ⟨k0, k1, k2, k3, k4⟩ := kk
        clear hc hc2
        go_wp2_with fail
        refine hF.mono ?_
        rintro e w2 ⟨hb, g, hgg, rfl, hG⟩
        have HO2 : Hid (OwnI w2 w.heap.size 3 A c (readsG ((kJ x.op).take k) x.f)) := HO.out.below hb (Nat.le_refl _)
        have HB2 := Lib.hid (HB.out.trans (hb.mono HB.out.size))
        have HX2 := Lib.hid (keep_b hb HX.out)
        have hcv : w2.cell? ⟨g, k, none⟩ = some (.int .i64 v) := by
          have h3 : x.f.map (Value.int .i64) = [.int .i64 x.a, .int .i64 x.b, .int .i64 x.c] := rfl
          have : (x.f.map (Value.int .i64))[k]? = some (.int .i64 v) := by rw [List.getElem?_map, HV.out]; rfl
          rw [h3] at this
          refine (cell_of_row _ _ _ _ _ _ hG).trans ?_
          simpa using this
        have hk3 : (k : Int) < 3 := by omega
        have hk0 : (0 : Int) ≤ (k : Int) := by omega
        have hsz2 : w.heap.size ≤ w2.heap.size := HB2.out.size
        obtain ⟨m, hm⟩ : ∃ m, (readsG ((kJ x.op).take k) x.f).length = m := ⟨_, rfl⟩
        have HM := Lib.hid hm
        rw [hm] at hrl2
        have hle : m + 1 ≤ 1000000 := by omega
        clear hb hG hF k0 k1 k2 k3 k4 kf
        rw [hm]
        clear hm
        go_wp2_with (at_builtin; refine wpList_appendInts _ rfl (.tmp 22) (.tmp 28) 34 rfl w.heap.size 3 i0 Tryd.underlying34 hi0 hz0 hz1 hz2 A (some ⟨w2.heap.size, 0, none⟩) c 1 1 (w2.heap.size + 1) m (m + 1) (readsG ((kJ x.op).take k) x.f) [v] rfl rfl (HO2.out.alloc _) HM.out rfl (src_new w2 hvf) hle (by simp; omega) ?_; intro A3 c3 w3 hO3 hG3)
        have hb3 := below_app (HB2.out.alloc hsz2 _) hG3 (HO2.out.alloc _) HM.out (by simp; omega)
        have hX3 : w3.heap[w.heap.size]? = some x.obj := past_int (HO2.out.alloc _) (pastJ _ HX2.out) (by decide) HM.out hG3
        have HO3 := Lib.hid hO3
        have HB3 := Lib.hid hb3
        have HX3 := Lib.hid hX3
        clear hO3 hb3 hX3 hG3 hcv
        go_wp2_with fail
        go_roundw
        case rel => exact ⟨k + 1, A3, c3, by omega, by go_num, by rw [HST.out, List.length_append, HM.out]; rfl, by rw [HST.out]; exact HO3.out, HB3.out, HX3.out⟩
        case measure => simp [intOf]; omega
      · have c1 : ((s[k].toNat : Int) == 114) = false := by simpa using hc
        have hc2 : s[k] ≠ 114 := fun e => hc (by rw [e]; rfl)
        have HST : Hid (readsG ((kJ x.op).take (k + 1)) x.f = readsG ((kJ x.op).take k) x.f) := by unfold Hid; rw [HSN.out, if_neg hc2, List.append_nil]
        clear hc hc2
        go_wp2_with fail
        go_roundw
        case rel => exact ⟨k + 1, A, c, by omega, by go_num, by rw [HST.out], by rw [HST.out]; exact HO.out, HB.out, HX.out⟩
        case measure => simp [intOf]; omega
    · have hks : k = s.size := by omega
      have HT : Hid (readsG ((kJ x.op).take k) x.f = readsJ x) := by unfold Hid readsJ; rw [List.take_of_length_le (by rw [← HSZ.out]; omega)]
      rw [HT.out] at HO ⊢
      go_wp2_with fail
      go_ret
      exact ⟨A, c, rfl, HO.out, HB.out⟩
end Go.Proofs.YtmnadieblhdcpaaDoor
/- The document's may: whether an instruction may be, in code. -/
namespace Go.Proofs.YtmnadieblhdcpaaDoor
open Go.RowKit

/-- code, as it is handed in -/
structure Cq where
  R : Int
  A : Int
  I : Int
  P : Option Addr
  n : Nat
  c : Nat
  l : List Ji
abbrev Cq.val (q : Cq) : Value := .agg #[.int .i64 q.R, .int .i64 q.A, .int .i64 q.I, .slice q.P q.n q.c]
abbrev Cq.obj (q : Cq) : Obj := .cells #[.int .i64 q.R, .int .i64 q.A, .int .i64 q.I, .slice q.P q.n q.c] 24
def Cq.cd (q : Cq) : Cd := ⟨q.R, q.A, q.I, q.l⟩
structure Cq.In (q : Cq) (w : World) : Prop where
  ins : Jis w w.heap.size q.P q.n q.l
  r : -9223372036854775808 ≤ q.R ∧ q.R ≤ 9223372036854775807
  a : -9223372036854775808 ≤ q.A ∧ q.A ≤ 9223372036854775807
  i : -9223372036854775808 ≤ q.I ∧ q.I ≤ 9223372036854775807
  n1 : q.n ≤ 9223372036854775807
  nc : q.n ≤ q.c
theorem Cq.In.on {q : Cq} {w w' : World} (h : q.In w) (hb : Below w.heap.size w w') : q.In w' := ⟨h.ins.on hb, h.r, h.a, h.i, h.n1, h.nc⟩
theorem Cq.In.len {q : Cq} {w : World} (h : q.In w) : q.l.length = q.n := h.ins.1
/-- the numbers of a place in an instruction -/
theorem Ji.f_at (x : Ji) {i : Nat} (h : i < 3) : ∃ v, x.f[i]? = some v ∧ x.f.getD i 0 = v := by
  have : i < x.f.length := by show i < 3; omega
  exact ⟨x.f[i], List.getElem?_eq_getElem this, by rw [List.getD_eq_getElem?_getD, List.getElem?_eq_getElem this]; rfl⟩
def InB (R A L : Int) (x : Ji) (i : Nat) : Prop := 0 ≤ x.f.getD i 0 ∧ x.f.getD i 0 < limJ R A L ((kJ x.op).getD i 32)
theorem mayJ_no {R A L : Int} {x : Ji} {i : Nat} (hi : i < 3) (h : ¬ InB R A L x i) : mayJ R A L x = false := by
  unfold mayJ
  have : ((List.range 3).all fun i => decide (0 ≤ x.f.getD i 0 ∧ x.f.getD i 0 < limJ R A L ((kJ x.op).getD i 32))) = false := by
    rw [List.all_eq_false]
    exact ⟨i, List.mem_range.2 hi, by simpa [InB] using h⟩
  rw [this, Bool.and_false, Bool.false_and]
theorem mayJ_out {R A L : Int} {x : Ji} (h : x.op < 0 ∨ 12 < x.op) : mayJ R A L x = false := by
  unfold mayJ
  rw [decide_eq_false (by omega), Bool.false_and, Bool.false_and]
theorem mayJ_yes {R A L : Int} {x : Ji} (h0 : 0 ≤ x.op ∧ x.op ≤ 12) (h : ∀ j, j < 3 → InB R A L x j) :
    mayJ R A L x = if (110 : UInt8) ∈ kJ x.op then decide (-1000000000000000000 < x.n ∧ x.n < 1000000000000000000) else decide (x.n = 0) := by
  unfold mayJ
  have : ((List.range 3).all fun i => decide (0 ≤ x.f.getD i 0 ∧ x.f.getD i 0 < limJ R A L ((kJ x.op).getD i 32))) = true := by
    rw [List.all_eq_true]
    intro i hi
    have := h i (List.mem_range.1 hi)
    simpa [InB] using this
  rw [decide_eq_true h0, this, Bool.true_and, Bool.true_and]
theorem mayJ_parts {R A L : Int} {x : Ji} (h : mayJ R A L x = true) : (0 ≤ x.op ∧ x.op ≤ 12) ∧ (∀ i, i < 3 → InB R A L x i) ∧ ((110 : UInt8) ∈ kJ x.op → -1000000000000000000 < x.n ∧ x.n < 1000000000000000000) ∧ ((110 : UInt8) ∉ kJ x.op → x.n = 0) := by
  unfold mayJ at h
  rw [Bool.and_eq_true, Bool.and_eq_true] at h
  obtain ⟨⟨h1, h2⟩, h3⟩ := h
  refine ⟨of_decide_eq_true h1, fun i hi => ?_, fun hm => ?_, fun hm => ?_⟩
  · have := List.all_eq_true.1 h2 i (List.mem_range.2 hi)
    unfold InB
    exact of_decide_eq_true this
  · rw [if_pos hm] at h3
    exact of_decide_eq_true h3
  · rw [if_neg hm] at h3
    exact of_decide_eq_true h3
theorem Cd.may_parts {c : Cd} (h : c.may = true) : (0 ≤ c.R ∧ c.R ≤ 128 ∧ 0 ≤ c.A ∧ c.A ≤ 128 ∧ 0 ≤ c.I ∧ c.I ≤ c.A ∧ 1 ≤ c.l.length ∧ c.l.length ≤ 4096) ∧ (∀ x ∈ c.l, mayJ c.R c.A c.l.length x = true) ∧ ∃ x, c.l.getLast? = some x ∧ (x.op = 0 ∨ x.op = 10) := by
  unfold Cd.may at h
  rw [Bool.and_eq_true, Bool.and_eq_true] at h
  obtain ⟨⟨h1, h2⟩, h3⟩ := h
  refine ⟨of_decide_eq_true h1, List.all_eq_true.1 h2, ?_⟩
  cases e : c.l.getLast? with
  | none => rw [e] at h3; cases h3
  | some x => rw [e] at h3; exact ⟨x, rfl, of_decide_eq_true h3⟩
theorem u8_of {c : UInt8} {n : Nat} (h : (c.toNat : Int) = (n : Int)) (hn : n < 256) : c = UInt8.ofNat n := UInt8.toNat_inj.1 (by rw [UInt8.toNat_ofNat_of_lt' (by simpa using hn)]; omega)
/-- whether an n is among the first kinds -/
def nIn (K : List UInt8) (i : Nat) : Bool := decide ((110 : UInt8) ∈ K.take i)
theorem nIn_snoc {K : List UInt8} {i : Nat} {c : UInt8} (h : K[i]? = some c) : nIn K (i + 1) = (nIn K i || decide (c = 110)) := by
  unfold nIn
  rw [List.take_add_one, h]
  simp [List.mem_append, eq_comm]
theorem nIn_end {K : List UInt8} {i : Nat} (h : K.length ≤ i) : nIn K (i + 1) = nIn K i := by
  unfold nIn
  rw [List.take_of_length_le h, List.take_of_length_le (by omega)]
theorem nIn_all {K : List UInt8} {i : Nat} (h : K.length ≤ i) : nIn K i = decide ((110 : UInt8) ∈ K) := by unfold nIn; rw [List.take_of_length_le h]
theorem inB_of {R A L : Int} {x : Ji} {i : Nat} {v lim : Int} (hv : x.f.getD i 0 = v) (hl : limJ R A L ((kJ x.op).getD i 32) = lim) : InB R A L x i ↔ (0 ≤ v ∧ v < lim) := by unfold InB; rw [hv, hl]
def MayJP (x : Ji) (q : Cq) (w : World) (e : Ending) (w' : World) : Prop := e = .returned (.bool (mayJ q.R q.A q.n x)) ∧ Below w.heap.size w w'
set_option maxRecDepth 100000 in
set_option maxHeartbeats 4000000 in
theorem refMay_any (x : Ji) (q : Cq) (w : World) (hx : x.ok) (hq : q.In w) : Calls Tryd.prog 63 #[x.val, q.val] w (MayJP x q w) := by
  obtain ⟨W0, hW0⟩ : ∃ W, (w.alloc x.obj).alloc q.obj = W := ⟨_, rfl⟩
  have HB0 : Hid (Below w.heap.size w W0) := by rw [← hW0]; exact ((Below.refl w.heap.size w).alloc (Nat.le_refl _) _).alloc (by simp) _
  have HX0 : Hid (W0.heap[w.heap.size]? = some x.obj) := by rw [← hW0]; exact pastJ _ (newJ w x)
  have HY0 : Hid (W0.heap[w.heap.size + 1]? = some q.obj) := by
    have h := heap_alloc_new (w.alloc x.obj) q.obj
    rw [World.size_alloc, hW0] at h
    exact h
  have HOK := Lib.hid hx
  have HQ := Lib.hid hq
  obtain ⟨s, hs, hbl, hsz⟩ := strJ_name (kJ x.op)
  have hsm : s.size ≤ 3 := by have := kJ_len x.op; omega
  have HS := Lib.hid hs
  have HBL := Lib.hid hbl
  have HSZ := Lib.hid hsz
  have hn1 := hq.n1
  obtain ⟨⟨k0, k1, k2, k3, k4⟩, kf⟩ := box_cellsJ HX0.out
  obtain ⟨m0, m1, m2, m3, _⟩ := lvCells HY0.out
  clear hs hbl hsz hx hq
  by_cases hop : x.op < 0 ∨ 12 < x.op
  · have HM := Lib.hid (mayJ_out (R := q.R) (A := q.A) (L := q.n) hop)
    have HW : Hid (strJ (wJ x.op) = (⟨#[]⟩ : ByteArray)) := by unfold Hid wJ; rw [if_neg (by omega)]; rfl
    clear hop
    go_enter Tryd.func63, Tryd.ntmps63
    go_wp2_with fail
    try rw [hW0]
    refine (refWord14_any x.op W0).mono ?_
    rintro e w1 ⟨rfl, hb⟩
    rw [HW.out]
    have HB1 := Lib.hid (HB0.out.trans (hb.mono HB0.out.size))
    clear hb hW0 k0 k1 k2 k3 k4 kf m0 m1 m2 m3
    go_wp2_with fail
    go_ret
    exact ⟨by rw [HM.out]; rfl, HB1.out⟩
  have hop0 : 0 ≤ x.op ∧ x.op ≤ 12 := by omega
  have HOP := Lib.hid hop0
  obtain ⟨wd, hwd, hwl, hws⟩ := strJ_name (wJ x.op)
  have hwn : wd.size ≠ 0 := by
    rw [hws]
    have : ∀ op : Int, 0 ≤ op → op ≤ 12 → (wJ op).length ≠ 0 := by
      intro op h0 h1
      rcases op_cases h0 h1 with rfl | rfl | rfl | rfl | rfl | rfl | rfl | rfl | rfl | rfl | rfl | rfl | rfl <;> decide
    exact this _ hop0.1 hop0.2
  have hne := not_empty hwn
  have HWD := Lib.hid hwd
  clear hop hop0 hwd hwl hws hwn
  go_enter Tryd.func63, Tryd.ntmps63
  go_wp2_with fail
  try rw [hW0]
  refine (refWord14_any x.op W0).mono ?_
  rintro e w1 ⟨rfl, hb⟩
  rw [HWD.out, HS.out]
  have HB1 := Lib.hid (HB0.out.trans (hb.mono HB0.out.size))
  have HX1 := Lib.hid (keep_b hb HX0.out)
  have HY1 := Lib.hid (keep_b hb HY0.out)
  clear hb hW0 k0 k1 k2 k3 k4 kf m0 m1 m2 m3
  obtain ⟨⟨k0, k1, k2, k3, k4⟩, kf⟩ := box_cellsJ HX1.out
  go_wp2_with fail
  refine (refFields_any x w1).mono ?_
  rintro e w2 ⟨hb, g, hgg, rfl, hG⟩
  have HB2 := Lib.hid (HB1.out.trans (hb.mono HB1.out.size))
  have HX2 := Lib.hid (keep_b hb HX1.out)
  have HY2 := Lib.hid (keep_b hb HY1.out)
  have HG := Lib.hid hG
  clear hb hgg hG k0 k1 k2 k3 k4 kf
  obtain ⟨m0, m1, m2, m3, _⟩ := lvCells HY2.out
  obtain ⟨⟨k0, k1, k2, k3, k4⟩, kf⟩ := box_cellsJ HX2.out
  clear k0 k1 k2 k3 kf hne
  go_wp2_with fail
  go_loop [8, 22] (fun v i => ∃ k : Nat, k ≤ 3 ∧ i = .int .i64 k ∧ v = .bool (nIn (kJ x.op) k) ∧ Hid (∀ j, j < k → InB q.R q.A q.n x j)) (fun _ i => 3 - (intOf i).toNat)
  case atStart => exact ⟨0, by omega, rfl, rfl, fun j hj => absurd hj (by omega)⟩
  case round =>
    obtain ⟨k, hk, rfl, rfl, HA⟩ := hrel
    by_cases hlt : k < 3
    · obtain ⟨v, hv, hvd⟩ := x.f_at hlt
      have hcv : w2.cell? ⟨g, k, none⟩ = some (.int .i64 v) := by
        have h3 : x.f.map (Value.int .i64) = [.int .i64 x.a, .int .i64 x.b, .int .i64 x.c] := rfl
        have : (x.f.map (Value.int .i64))[k]? = some (.int .i64 v) := by rw [List.getElem?_map, hv]; rfl
        rw [h3] at this
        refine (cell_of_row _ _ _ _ _ _ HG.out).trans ?_
        simpa using this
      have hk0 : (0 : Int) ≤ (k : Int) := by omega
      have hk3 : (k : Int) < 3 := by omega
      have HVD := Lib.hid hvd
      obtain ⟨b, hb⟩ : ∃ b, nIn (kJ x.op) k = b := ⟨_, rfl⟩
      have HBN := Lib.hid hb
      rw [hb]
      clear hv hvd hb
      by_cases hks : k < s.size
      · have hg := bl_get s k hks
        rw [HBL.out] at hg
        have hkd : (kJ x.op).getD k 32 = s[k] := by rw [List.getD_eq_getElem?_getD, hg]; rfl
        have HN1 := Lib.hid (nIn_snoc hg)
        have HKD := Lib.hid hkd
        have hks2 : (k : Int) < (s.size : Int) := by omega
        obtain ⟨cc, hcc⟩ : ∃ cc : Int, (s[k].toNat : Int) = cc := ⟨_, rfl⟩
        have HCC := Lib.hid hcc
        clear hg hkd
        by_cases h119 : cc = 119
        · subst h119
          have hck : s[k] = 119 := u8_of (n := 119) HCC.out (by omega)
          have HCK := Lib.hid hck
          clear hck
          have HL : Hid (limJ q.R q.A q.n ((kJ x.op).getD k 32) = q.R) := by unfold Hid; rw [HKD.out, HCK.out]; rfl
          have HNN : Hid (nIn (kJ x.op) (k + 1) = b) := by unfold Hid; rw [HN1.out, HCK.out, HBN.out]; simp
          by_cases hneg : v < 0
          · have HM := Lib.hid (mayJ_no (R := q.R) (A := q.A) (L := q.n) hlt (by rw [inB_of HVD.out HL.out]; omega))
            have d1 : decide (v < 0) = true := decide_eq_true hneg
            go_wp2_with fail
            go_ret
            exact ⟨by rw [HM.out]; rfl, HB2.out⟩
          · have d1 : decide (v < 0) = false := decide_eq_false hneg
            by_cases hge : q.R ≤ v
            · have HM := Lib.hid (mayJ_no (R := q.R) (A := q.A) (L := q.n) hlt (by rw [inB_of HVD.out HL.out]; omega))
              have d2 : decide (q.R ≤ v) = true := decide_eq_true hge
              clear hneg
              go_wp2_with fail
              go_ret
              exact ⟨by rw [HM.out]; rfl, HB2.out⟩
            · have HI : Hid (InB q.R q.A q.n x k) := by unfold Hid; rw [inB_of HVD.out HL.out]; omega
              have d2 : decide (q.R ≤ v) = false := decide_eq_false hge
              go_wp2_with fail
              go_round
              case rel => exact ⟨k + 1, by omega, by go_num, by rw [HNN.out], fun j hj => by
                by_cases e : j = k
                · rw [e]; exact HI.out
                · exact HA.out j (by omega)⟩
              case measure => simp [intOf]; omega
        by_cases h114 : cc = 114
        · subst h114
          have hck : s[k] = 114 := u8_of (n := 114) HCC.out (by omega)
          have HCK := Lib.hid hck
          clear hck
          have HL : Hid (limJ q.R q.A q.n ((kJ x.op).getD k 32) = q.R) := by unfold Hid; rw [HKD.out, HCK.out]; rfl
          have HNN : Hid (nIn (kJ x.op) (k + 1) = b) := by unfold Hid; rw [HN1.out, HCK.out, HBN.out]; simp
          by_cases hneg : v < 0
          · have HM := Lib.hid (mayJ_no (R := q.R) (A := q.A) (L := q.n) hlt (by rw [inB_of HVD.out HL.out]; omega))
            have d1 : decide (v < 0) = true := decide_eq_true hneg
            go_wp2_with fail
            go_ret
            exact ⟨by rw [HM.out]; rfl, HB2.out⟩
          · have d1 : decide (v < 0) = false := decide_eq_false hneg
            by_cases hge : q.R ≤ v
            · have HM := Lib.hid (mayJ_no (R := q.R) (A := q.A) (L := q.n) hlt (by rw [inB_of HVD.out HL.out]; omega))
              have d2 : decide (q.R ≤ v) = true := decide_eq_true hge
              clear hneg
              go_wp2_with fail
              go_ret
              exact ⟨by rw [HM.out]; rfl, HB2.out⟩
            · have HI : Hid (InB q.R q.A q.n x k) := by unfold Hid; rw [inB_of HVD.out HL.out]; omega
              have d2 : decide (q.R ≤ v) = false := decide_eq_false hge
              go_wp2_with fail
              go_round
              case rel => exact ⟨k + 1, by omega, by go_num, by rw [HNN.out], fun j hj => by
                by_cases e : j = k
                · rw [e]; exact HI.out
                · exact HA.out j (by omega)⟩
              case measure => simp [intOf]; omega
        by_cases h97 : cc = 97
        · subst h97
          have hck : s[k] = 97 := u8_of (n := 97) HCC.out (by omega)
          have HCK := Lib.hid hck
          clear hck
          have HL : Hid (limJ q.R q.A q.n ((kJ x.op).getD k 32) = q.A) := by unfold Hid; rw [HKD.out, HCK.out]; rfl
          have HNN : Hid (nIn (kJ x.op) (k + 1) = b) := by unfold Hid; rw [HN1.out, HCK.out, HBN.out]; simp
          by_cases hneg : v < 0
          · have HM := Lib.hid (mayJ_no (R := q.R) (A := q.A) (L := q.n) hlt (by rw [inB_of HVD.out HL.out]; omega))
            have d1 : decide (v < 0) = true := decide_eq_true hneg
            go_wp2_with fail
            go_ret
            exact ⟨by rw [HM.out]; rfl, HB2.out⟩
          · have d1 : decide (v < 0) = false := decide_eq_false hneg
            by_cases hge : q.A ≤ v
            · have HM := Lib.hid (mayJ_no (R := q.R) (A := q.A) (L := q.n) hlt (by rw [inB_of HVD.out HL.out]; omega))
              have d2 : decide (q.A ≤ v) = true := decide_eq_true hge
              clear hneg
              go_wp2_with fail
              go_ret
              exact ⟨by rw [HM.out]; rfl, HB2.out⟩
            · have HI : Hid (InB q.R q.A q.n x k) := by unfold Hid; rw [inB_of HVD.out HL.out]; omega
              have d2 : decide (q.A ≤ v) = false := decide_eq_false hge
              go_wp2_with fail
              go_round
              case rel => exact ⟨k + 1, by omega, by go_num, by rw [HNN.out], fun j hj => by
                by_cases e : j = k
                · rw [e]; exact HI.out
                · exact HA.out j (by omega)⟩
              case measure => simp [intOf]; omega
        by_cases h112 : cc = 112
        · subst h112
          have hck : s[k] = 112 := u8_of (n := 112) HCC.out (by omega)
          have HCK := Lib.hid hck
          clear hck
          have HL : Hid (limJ q.R q.A q.n ((kJ x.op).getD k 32) = (q.n : Int)) := by unfold Hid; rw [HKD.out, HCK.out]; rfl
          have HNN : Hid (nIn (kJ x.op) (k + 1) = b) := by unfold Hid; rw [HN1.out, HCK.out, HBN.out]; simp
          by_cases hneg : v < 0
          · have HM := Lib.hid (mayJ_no (R := q.R) (A := q.A) (L := q.n) hlt (by rw [inB_of HVD.out HL.out]; omega))
            have d1 : decide (v < 0) = true := decide_eq_true hneg
            go_wp2_with fail
            go_ret
            exact ⟨by rw [HM.out]; rfl, HB2.out⟩
          · have d1 : decide (v < 0) = false := decide_eq_false hneg
            by_cases hge : (q.n : Int) ≤ v
            · have HM := Lib.hid (mayJ_no (R := q.R) (A := q.A) (L := q.n) hlt (by rw [inB_of HVD.out HL.out]; omega))
              have d2 : decide ((q.n : Int) ≤ v) = true := decide_eq_true hge
              clear hneg
              go_wp2_with fail
              go_ret
              exact ⟨by rw [HM.out]; rfl, HB2.out⟩
            · have HI : Hid (InB q.R q.A q.n x k) := by unfold Hid; rw [inB_of HVD.out HL.out]; omega
              have d2 : decide ((q.n : Int) ≤ v) = false := decide_eq_false hge
              go_wp2_with fail
              go_round
              case rel => exact ⟨k + 1, by omega, by go_num, by rw [HNN.out], fun j hj => by
                by_cases e : j = k
                · rw [e]; exact HI.out
                · exact HA.out j (by omega)⟩
              case measure => simp [intOf]; omega
        by_cases h110 : cc = 110
        · subst h110
          have hck : s[k] = 110 := u8_of (n := 110) HCC.out (by omega)
          have HCK := Lib.hid hck
          clear hck
          have HL : Hid (limJ q.R q.A q.n ((kJ x.op).getD k 32) = 1) := by unfold Hid; rw [HKD.out, HCK.out]; rfl
          have HNN : Hid (nIn (kJ x.op) (k + 1) = true) := by unfold Hid; rw [HN1.out, HCK.out, HBN.out]; simp
          by_cases hneg : v < 0
          · have HM := Lib.hid (mayJ_no (R := q.R) (A := q.A) (L := q.n) hlt (by rw [inB_of HVD.out HL.out]; omega))
            have d1 : decide (v < 0) = true := decide_eq_true hneg
            go_wp2_with fail
            go_ret
            exact ⟨by rw [HM.out]; rfl, HB2.out⟩
          · have d1 : decide (v < 0) = false := decide_eq_false hneg
            by_cases hge : 1 ≤ v
            · have HM := Lib.hid (mayJ_no (R := q.R) (A := q.A) (L := q.n) hlt (by rw [inB_of HVD.out HL.out]; omega))
              have d2 : decide (1 ≤ v) = true := decide_eq_true hge
              clear hneg
              go_wp2_with fail
              go_ret
              exact ⟨by rw [HM.out]; rfl, HB2.out⟩
            · have HI : Hid (InB q.R q.A q.n x k) := by unfold Hid; rw [inB_of HVD.out HL.out]; omega
              have d2 : decide (1 ≤ v) = false := decide_eq_false hge
              go_wp2_with fail
              go_round
              case rel => exact ⟨k + 1, by omega, by go_num, by rw [HNN.out], fun j hj => by
                by_cases e : j = k
                · rw [e]; exact HI.out
                · exact HA.out j (by omega)⟩
              case measure => simp [intOf]; omega
        have c1 : (cc == 119) = false := by simpa using h119
        have c2 : (cc == 114) = false := by simpa using h114
        have c3 : (cc == 97) = false := by simpa using h97
        have c4 : (cc == 112) = false := by simpa using h112
        have c5 : (cc == 110) = false := by simpa using h110
        have HCK : Hid (s[k] ≠ 119 ∧ s[k] ≠ 114 ∧ s[k] ≠ 97 ∧ s[k] ≠ 112 ∧ s[k] ≠ 110) := by
          refine ⟨fun e => h119 ?_, fun e => h114 ?_, fun e => h97 ?_, fun e => h112 ?_, fun e => h110 ?_⟩ <;> (rw [← HCC.out, e]; rfl)
        clear h119 h114 h97 h112 h110
        have HL : Hid (limJ q.R q.A q.n ((kJ x.op).getD k 32) = (1 : Int)) := by unfold Hid; rw [HKD.out]; unfold limJ; rw [if_neg (by simp [HCK.out.1, HCK.out.2.1]), if_neg HCK.out.2.2.1, if_neg HCK.out.2.2.2.1]
        have HNN : Hid (nIn (kJ x.op) (k + 1) = b) := by unfold Hid; rw [HN1.out, HBN.out, decide_eq_false HCK.out.2.2.2.2, Bool.or_false]
        by_cases hneg : v < 0
        · have HM := Lib.hid (mayJ_no (R := q.R) (A := q.A) (L := q.n) hlt (by rw [inB_of HVD.out HL.out]; omega))
          have d1 : decide (v < 0) = true := decide_eq_true hneg
          go_wp2_with fail
          go_ret
          exact ⟨by rw [HM.out]; rfl, HB2.out⟩
        · have d1 : decide (v < 0) = false := decide_eq_false hneg
          by_cases hge : (1 : Int) ≤ v
          · have HM := Lib.hid (mayJ_no (R := q.R) (A := q.A) (L := q.n) hlt (by rw [inB_of HVD.out HL.out]; omega))
            have d2 : decide ((1 : Int) ≤ v) = true := decide_eq_true hge
            clear hneg
            go_wp2_with fail
            go_ret
            exact ⟨by rw [HM.out]; rfl, HB2.out⟩
          · have HI : Hid (InB q.R q.A q.n x k) := by unfold Hid; rw [inB_of HVD.out HL.out]; omega
            have d2 : decide ((1 : Int) ≤ v) = false := decide_eq_false hge
            go_wp2_with fail
            go_round
            case rel => exact ⟨k + 1, by omega, by go_num, by rw [HNN.out], fun j hj => by
              by_cases e : j = k
              · rw [e]; exact HI.out
              · exact HA.out j (by omega)⟩
            case measure => simp [intOf]; omega
      · have hkd : (kJ x.op).getD k 32 = 32 := by rw [List.getD_eq_getElem?_getD, List.getElem?_eq_none (by rw [← HSZ.out]; omega)]; rfl
        have HKD := Lib.hid hkd
        have HN1 := Lib.hid (nIn_end (K := kJ x.op) (i := k) (by rw [← HSZ.out]; omega))
        have dks : decide (k < s.size) = false := decide_eq_false hks
        clear hkd
        have HL : Hid (limJ q.R q.A q.n ((kJ x.op).getD k 32) = (1 : Int)) := by unfold Hid; rw [HKD.out]; rfl
        have HNN : Hid (nIn (kJ x.op) (k + 1) = b) := by unfold Hid; rw [HN1.out, HBN.out]
        by_cases hneg : v < 0
        · have HM := Lib.hid (mayJ_no (R := q.R) (A := q.A) (L := q.n) hlt (by rw [inB_of HVD.out HL.out]; omega))
          have d1 : decide (v < 0) = true := decide_eq_true hneg
          go_wp2_with fail
          go_ret
          exact ⟨by rw [HM.out]; rfl, HB2.out⟩
        · have d1 : decide (v < 0) = false := decide_eq_false hneg
          by_cases hge : (1 : Int) ≤ v
          · have HM := Lib.hid (mayJ_no (R := q.R) (A := q.A) (L := q.n) hlt (by rw [inB_of HVD.out HL.out]; omega))
            have d2 : decide ((1 : Int) ≤ v) = true := decide_eq_true hge
            clear hneg
            go_wp2_with fail
            go_ret
            exact ⟨by rw [HM.out]; rfl, HB2.out⟩
          · have HI : Hid (InB q.R q.A q.n x k) := by unfold Hid; rw [inB_of HVD.out HL.out]; omega
            have d2 : decide ((1 : Int) ≤ v) = false := decide_eq_false hge
            go_wp2_with fail
            go_round
            case rel => exact ⟨k + 1, by omega, by go_num, by rw [HNN.out], fun j hj => by
              by_cases e : j = k
              · rw [e]; exact HI.out
              · exact HA.out j (by omega)⟩
            case measure => simp [intOf]; omega
    · obtain rfl : k = 3 := by omega
      have HMY := Lib.hid (mayJ_yes (R := q.R) (A := q.A) (L := q.n) HOP.out HA.out)
      have HNA := Lib.hid (nIn_all (K := kJ x.op) (i := 3) (kJ_len _))
      by_cases hn : (110 : UInt8) ∈ kJ x.op
      · have HMZ : Hid (mayJ q.R q.A q.n x = decide (-1000000000000000000 < x.n ∧ x.n < 1000000000000000000)) := by unfold Hid; rw [HMY.out, if_pos hn]
        rw [show nIn (kJ x.op) 3 = true by rw [HNA.out]; exact decide_eq_true hn]
        clear hn
        by_cases h1 : -1000000000000000000 < x.n
        · have d1 : decide (-1000000000000000000 < x.n) = true := decide_eq_true h1
          have HD : Hid (decide (-1000000000000000000 < x.n ∧ x.n < 1000000000000000000) = decide (x.n < 1000000000000000000)) := by unfold Hid; simp [h1]
          clear h1
          go_wp2_with fail
          go_ret
          exact ⟨by rw [HMZ.out, HD.out]; rfl, HB2.out⟩
        · have d1 : decide (-1000000000000000000 < x.n) = false := decide_eq_false h1
          have HD : Hid (decide (-1000000000000000000 < x.n ∧ x.n < 1000000000000000000) = false) := by unfold Hid; simp [h1]
          clear h1
          go_wp2_with fail
          go_ret
          exact ⟨by rw [HMZ.out, HD.out]; rfl, HB2.out⟩
      · have HMZ : Hid (mayJ q.R q.A q.n x = decide (x.n = 0)) := by unfold Hid; rw [HMY.out, if_neg hn]
        rw [show nIn (kJ x.op) 3 = false by rw [HNA.out]; exact decide_eq_false hn]
        clear hn
        go_wp2_with fail
        go_ret
        exact ⟨by rw [HMZ.out]; rfl, HB2.out⟩
end Go.Proofs.YtmnadieblhdcpaaDoor
