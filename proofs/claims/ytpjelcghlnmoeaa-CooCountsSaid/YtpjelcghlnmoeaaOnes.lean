/- purflelaw01.BoxOnes returns true at every input where each slice's capacity is no less than its length, and nothing that lay there has turned. -/
import Derived.Test.YtpjelcghlnmoeaaZero
import Derived.Deep.DeepCutAuto
import Derived.Test.YtpjelcghlnmoeaaOne
namespace Go.Proofs.Ytpjelcghlnmoeaa
open Go.RowKit

/-- v laid into l ahead of place k -/
def ins (l : List Int) (k : Nat) (v : Int) : List Int := l.take k ++ v :: l.drop k
theorem ins_zero (l : List Int) (v : Int) : ins l 0 v = v :: l := by simp [ins]
theorem ins_succ (x : Int) (l : List Int) (k : Nat) (v : Int) : ins (x :: l) (k + 1) v = x :: ins l k v := by simp [ins]
theorem ins_prod (l : List Int) (k : Nat) : prodI (ins l k 1) = prodI l := by
  unfold ins; rw [prodI_append, prodI_split l k]; simp [prodI]
theorem ins_any (l : List Int) (k : Nat) (v : Int) (p : Int → Bool) (hv : p v = false) : (ins l k v).any p = l.any p := by
  unfold ins
  rw [List.any_append, List.any_cons, hv, Bool.false_or, ← List.any_append, List.take_append_drop]
theorem ins_length {l : List Int} {k : Nat} (hk : k ≤ l.length) (v : Int) : (ins l k v).length = l.length + 1 := by simp [ins]; omega
theorem ins_num {xs cs : List Int} (h : xs.length = cs.length) (k : Nat) (hk : k ≤ xs.length) : numR (ins xs k 1) (ins cs k 0) = numR xs cs := by
  induction k generalizing xs cs with
  | zero => rw [ins_zero, ins_zero]; simp [numR]
  | succ k ih => cases xs with
    | nil => simp at hk
    | cons s l => cases cs with
      | nil => simp at h
      | cons c d =>
        rw [ins_succ, ins_succ]
        simp only [numR]
        rw [ins_prod, ih (by simpa using h) (by simpa using hk)]
theorem ins_zip {xs cs : List Int} (h : xs.length = cs.length) (k : Nat) (hk : k ≤ xs.length) : ((ins cs k 0).zip (ins xs k 1)).any badAt = (cs.zip xs).any badAt := by
  induction k generalizing xs cs with
  | zero => rw [ins_zero, ins_zero]; simp [badAt]
  | succ k ih => cases xs with
    | nil => simp at hk
    | cons s l => cases cs with
      | nil => simp at h
      | cons c d =>
        rw [ins_succ, ins_succ, List.zip_cons_cons, List.any_cons, ih (by simpa using h) (by simpa using hk), List.zip_cons_cons, List.any_cons]
theorem ins_inside {xs cs : List Int} (h : xs.length = cs.length) (k : Nat) (hk : k ≤ xs.length) : insideF (ins xs k 1) (ins cs k 0) = insideF xs cs := by
  unfold insideF
  rw [ins_zip h k hk, ins_length hk, ins_length (by omega)]
  simp
/-- Cells hangs on little -/
theorem cellsF_same {xs ys : List Int} (h1 : xs.length ≤ 4) (h2 : ys.length ≤ 4) (hn : (xs.any fun s => decide (s < 0)) = (ys.any fun s => decide (s < 0))) (hz : (xs.any fun s => s == 0) = (ys.any fun s => s == 0)) (hp : prodI xs = prodI ys) : cellsF xs = cellsF ys := by
  by_cases ha : (xs.any fun s => decide (s < 0)) = true
  · have hb := ha; rw [hn] at hb
    unfold cellsF; rw [if_pos (.inr ha), if_pos (.inr hb)]
  · have ha' : (xs.any fun s => decide (s < 0)) = false := by cases hh : (xs.any fun s => decide (s < 0)) with | false => rfl | true => exact absurd hh ha
    have hb' := ha'; rw [hn] at hb'
    by_cases hc : (xs.any fun s => s == 0) = true
    · have hd := hc; rw [hz] at hd
      have e1 : cellsF xs = (0, 0) := by unfold cellsF; rw [if_neg (by rw [ha']; simp; omega), if_pos hc]
      have e2 : cellsF ys = (0, 0) := by unfold cellsF; rw [if_neg (by rw [hb']; simp; omega), if_pos hd]
      rw [e1, e2]
    · have hc' : (xs.any fun s => s == 0) = false := by cases hh : (xs.any fun s => s == 0) with | false => rfl | true => exact absurd hh hc
      have hd' := hc'; rw [hz] at hd'
      rw [cellsF_pos (pos_of_any ha' hc') h1, cellsF_pos (pos_of_any hb' hd') h2, hp]
theorem ins_cells {xs : List Int} (h : xs.length ≤ 3) (k : Nat) (hk : k ≤ xs.length) : cellsF (ins xs k 1) = cellsF xs :=
  cellsF_same (by rw [ins_length hk]; omega) (by omega) (ins_any _ _ _ _ (by simp)) (ins_any _ _ _ _ (by simp)) (ins_prod xs k)
theorem prodI_reverse (xs : List Int) : prodI xs.reverse = prodI xs := by
  induction xs with
  | nil => rfl
  | cons s l ih => rw [List.reverse_cons, prodI_append, ih]; simp [prodI, Int.mul_comm]
theorem rev_cells {xs : List Int} (h : xs.length ≤ 3) : cellsF xs.reverse = cellsF xs :=
  cellsF_same (by simp; omega) (by omega) List.any_reverse List.any_reverse (prodI_reverse xs)
theorem ins_at {xs cs : List Int} (h : xs.length = cs.length) (h3 : xs.length ≤ 3) (k : Nat) (hk : k ≤ xs.length) : atF (ins xs k 1) (ins cs k 0) = atF xs cs := by
  unfold atF
  rw [ins_cells h3 k hk, ins_inside h k hk, ins_num h k hk]

theorem Ints.take_ {w : World} {B n k : Nat} {A : Option Addr} {xs : List Int} (h : Ints w B A n xs) (hk : k ≤ n) : Ints w B A k (xs.take k) := by
  obtain ⟨hl, hb, hc⟩ := h
  refine ⟨by rw [List.length_take]; omega, fun x hx => hb x (List.mem_of_mem_take hx), fun h0 => ?_⟩
  obtain ⟨b, off, e, hB, hx⟩ := hc (by omega)
  refine ⟨b, off, e, hB, fun j x hj => hx j x ?_⟩
  rw [List.getElem?_take] at hj
  split at hj
  · exact hj
  · cases hj
theorem Ints.drop_ {w : World} {B n k c : Nat} {A : Option Addr} {xs : List Int} (h : Ints w B A n xs) (hk : k ≤ n) (hc : n ≤ c) : Ints w B (if c = k then A else A.map (·.add (k * 1))) (n - k) (xs.drop k) := by
  obtain ⟨hl, hb, hcc⟩ := h
  refine ⟨by rw [List.length_drop]; omega, fun x hx => hb x (List.mem_of_mem_drop hx), fun h0 => ?_⟩
  obtain ⟨b, off, rfl, hB, hx⟩ := hcc (by omega)
  rw [if_neg (by omega)]
  refine ⟨b, off + k, ?_, hB, fun j x hj => ?_⟩
  · by_cases hk0 : k = 0
    · subst hk0; simp [Addr.add]
    · simp [Addr.add, hk0]
  · rw [List.getElem?_drop] at hj
    have := hx (k + j) x hj
    rwa [Nat.add_assoc]
set_option maxRecDepth 100000 in
theorem run_take {w : World} (A : Option Addr) (n c k : Nat) (hk : k ≤ n) (hc : n ≤ c) : (Instr.slice 22 (.slice A n c) none (some (.int .i64 (k : Int))) none).run Try.prog w = .ok (.slice A k c) w := by
  obtain ⟨i0, hi0, hz0, hz1, hz2⟩ := info_parts infoInt
  rw [run_slice_h w 22 A n c (by kernel_rfl) .i64 (k : Int) (by omega) (by omega)]
  have hs : (sizeOf (Try.prog.elem 22)).run Try.prog w = .ok 1 w := by
    have he : Try.prog.elem 22 = 3 := by kernel_rfl
    rw [he]; simp [sizeOf, typeInfo, hi0, hz1]
  rw [hs]
  simp only [Result.andThen, sliced, Int.toNat_natCast, Nat.zero_mul, Nat.sub_zero]
  have : (if c = 0 then A else A.map (·.add 0)) = A := by
    split
    · rfl
    · cases A <;> simp [Addr.add]
  rw [this]
set_option maxRecDepth 100000 in
theorem run_drop {w : World} (A : Option Addr) (n c k : Nat) (hk : k ≤ n) : (Instr.slice 22 (.slice A n c) (some (.int .i64 (k : Int))) none none).run Try.prog w = .ok (.slice (if c = k then A else A.map (·.add (k * 1))) (n - k) (c - k)) w := by
  obtain ⟨i0, hi0, hz0, hz1, hz2⟩ := info_parts infoInt
  rw [run_slice_l w 22 A n c (by kernel_rfl) .i64 (k : Int) (by omega) (by omega)]
  have hs : (sizeOf (Try.prog.elem 22)).run Try.prog w = .ok 1 w := by
    have he : Try.prog.elem 22 = 3 := by kernel_rfl
    rw [he]; simp [sizeOf, typeInfo, hi0, hz1]
  rw [hs]
  simp only [Result.andThen, sliced, Int.toNat_natCast]

/-- the list when q places have been turned round -/
def turned (xs : List Int) (q : Nat) : List Int := xs.reverse.take q ++ xs.drop q
theorem turned_length {xs : List Int} {q : Nat} (hq : q ≤ xs.length) : (turned xs q).length = xs.length := by simp [turned]; omega
theorem turned_set {xs : List Int} {q : Nat} {x : Int} (hq : q < xs.length) (hx : xs[xs.length - 1 - q]? = some x) : (turned xs q).set q x = turned xs (q + 1) := by
  unfold turned
  have hr : xs.reverse[q]? = some x := by rw [List.getElem?_reverse hq]; exact hx
  have hd : xs[q]? = some (xs[q]'hq) := List.getElem?_eq_getElem hq
  rw [take_succ_of hr, drop_of hd, List.set_append_right _ _ (by rw [List.length_take, List.length_reverse]; omega), List.length_take, List.length_reverse, Nat.min_eq_left (by omega), Nat.sub_self, List.set_cons_zero, List.append_assoc]
  rfl
theorem wpList_appendInts {P : Program} (w : World) {ops : Array Oper} {rest : List Oper} {o : Oper} {a : Act} {Q : Exit → Act → World → Prop}
    (hg : o.guard = none) (s x : Operand) (t : TypeId) (hop : o.op = Op.call { callee := Callee.builtin Builtin.append, args := #[s, x], argTypes := #[t, t] })
    (base : Nat) (e : TypeId) (i : TypeInfo) (ht : P.underlying t = some (.slice e)) (hi : P.info? e = some i) (hz : i.zero = some (.int .i64 0)) (h1 : i.size = 1) (h2 : i.bytes = 8)
    (A A2 : Option Addr) (c m c2 B p r : Nat) (xs ys : List Int) (hs : a.eval s = .slice A p c) (hx : a.eval x = .slice A2 m c2) (ho : OwnI w base e A c xs) (hp : xs.length = p) (hr : p + m = r) (hi2 : Ints w B A2 m ys) (hl : r ≤ 1000000) (hb : base ≤ w.heap.size)
    (hK : ∀ A' c' w', OwnI w' base e A' c' (xs ++ ys) → w.grownBy w' (Value.slice A p c).ownBlock → wpList P ops Q rest (a.put o.dst (.slice A' r c')) w') : wpList P ops Q (o :: rest) a w := by
  refine wpList_plain hg fun K hK' => ?_
  subst hp
  subst hr
  obtain ⟨A', c', w', hrun, ho', hb'⟩ := run_appendInts (P := P) w base t o.type e i ht hi hz h1 h2 A A2 c m c2 B xs ys ho hi2 hl hb
  unfold Oper.wp
  simp [execOp, hop, resolve, invoke, builtin, hs, hx, hrun, Result.andThen]
  exact hK' _ _ (hK _ _ _ ho' hb')
theorem src_new {v : Int} {t : TypeId} (w : World) (hv : -9223372036854775808 ≤ v ∧ v ≤ 9223372036854775807) : Ints (w.alloc (.cells #[.int .i64 v] t)) (w.heap.size + 1) (some ⟨w.heap.size, 0, none⟩) 1 [v] := Ints.of_new w t [v] (by simpa using hv)
theorem src_one {v : Int} {t : TypeId} {w w2 : World} (hb : Below (w.alloc (.cells #[.int .i64 v] t)).drew.heap.size (w.alloc (.cells #[.int .i64 v] t)).drew w2) (hv : -9223372036854775808 ≤ v ∧ v ≤ 9223372036854775807) : Ints w2 w2.heap.size (some ⟨w.heap.size, 0, none⟩) 1 [v] := by
  have h1 : Ints (w.alloc (.cells #[.int .i64 v] t)).drew (w.heap.size + 1) (some ⟨w.heap.size, 0, none⟩) 1 [v] := src_new w hv
  have hs : w.heap.size + 1 ≤ (w.alloc (.cells #[.int .i64 v] t)).drew.heap.size := by
    have : (w.alloc (.cells #[.int .i64 v] t)).heap.size = w.heap.size + 1 := World.size_alloc _ _
    exact Nat.le_of_eq this.symm
  exact (h1.below (hb.mono hs)).more (Nat.le_trans hs hb.size)
theorem below_app {w1 W w3 : World} {base p c : Nat} {e : TypeId} {A : Option Addr} {xs : List Int} (hb : Below base w1 W) (hg : W.grownBy w3 (Value.slice A p c).ownBlock) (ho : OwnI W base e A c xs) (hp : xs.length = p) (hs : base ≤ W.heap.size) : Below base w1 w3 := by
  subst hp
  exact hb.grown hg hs (fun k hk => (ho.1.lt k hk).1)
theorem len_take {w : World} {B n k : Nat} {A : Option Addr} {xs : List Int} (h : Ints w B A n xs) (hk : k ≤ n) : ([] ++ xs.take k : List Int).length = k := by
  have := h.1; simp; omega
theorem len_take1 {w : World} {B n k : Nat} {A : Option Addr} {xs : List Int} {v : Int} (h : Ints w B A n xs) (hk : k ≤ n) : ([] ++ xs.take k ++ [v] : List Int).length = k + 1 := by
  have := h.1; simp; omega

end Go.Proofs.Ytpjelcghlnmoeaa
