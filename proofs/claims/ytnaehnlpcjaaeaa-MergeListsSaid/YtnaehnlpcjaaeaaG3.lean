/- Heaps, as lists: plain mathematics. -/
import Derived.Test.YtnaehnlpcjaaeaaG2
import Derived.Deep.DeepCutAuto
namespace Go.Proofs.Ytnaehnlpcjaaeaa

def atN (ns : List Int) (i : Nat) : Int := ns.getD i 0
theorem atN_of {ns : List Int} {i : Nat} {x : Int} (h : ns[i]? = some x) : atN ns i = x := by simp [atN, List.getD, h]
/-- of the first n, none is less than the one above it -/
def HeapP (f : Int → Int) (ns : List Int) (n : Nat) : Prop := ∀ k, 0 < k → k < n → f (atN ns ((k - 1) / 2)) ≤ f (atN ns k)
/-- a heap, but for place j, which may be less than the one above it -/
def UpX (f : Int → Int) (ns : List Int) (j : Nat) : Prop := (∀ k, 0 < k → k < ns.length → k ≠ j → f (atN ns ((k - 1) / 2)) ≤ f (atN ns k)) ∧ ∀ k, 0 < j → 0 < k → k < ns.length → (k - 1) / 2 = j → f (atN ns ((j - 1) / 2)) ≤ f (atN ns k)
/-- a heap of the first n, but for place i, which may be greater than those below it -/
def DownX (f : Int → Int) (ns : List Int) (i n : Nat) : Prop := (∀ k, 0 < k → k < n → (k - 1) / 2 ≠ i → f (atN ns ((k - 1) / 2)) ≤ f (atN ns k)) ∧ ∀ k, 0 < i → 0 < k → k < n → (k - 1) / 2 = i → f (atN ns ((i - 1) / 2)) ≤ f (atN ns k)
theorem swapL_len (ns : List Int) (i j : Nat) (x y : Int) : (swapL ns i j x y).length = ns.length := by simp [swapL]
theorem swapL_perm {ns : List Int} {i j : Nat} {x y : Int} (hx : ns[i]? = some x) (hy : ns[j]? = some y) : (swapL ns i j x y).Perm ns := by
  obtain ⟨h1, rfl⟩ := List.getElem?_eq_some_iff.1 hx
  obtain ⟨h2, rfl⟩ := List.getElem?_eq_some_iff.1 hy
  exact List.set_set_perm h1 h2
theorem swapL_at {ns : List Int} {i j : Nat} {x y : Int} (hx : ns[i]? = some x) (hy : ns[j]? = some y) (k : Nat) : atN (swapL ns i j x y) k = if k = j then x else if k = i then y else atN ns k := by
  have h1 := (List.getElem?_eq_some_iff.1 hx).1
  have h2 := (List.getElem?_eq_some_iff.1 hy).1
  unfold atN swapL
  simp only [List.getD, List.getElem?_set, List.length_set]
  by_cases e : j = k
  · subst e; simp [h2]
  · by_cases e2 : i = k
    · subst e2
      have : ¬ i = j := fun h => e h.symm
      simp [e, h1, this]
    · have h3 : ¬ k = j := fun h => e h.symm
      have h4 : ¬ k = i := fun h => e2 h.symm
      simp [e, e2, h3, h4]
theorem UpX.step {f : Int → Int} {ns : List Int} {i j : Nat} {x y : Int} (h : UpX f ns j) (hj : 0 < j) (hi : (j - 1) / 2 = i) (hx : ns[i]? = some x) (hy : ns[j]? = some y) (hlt : f y < f x) : UpX f (swapL ns i j x y) i := by
  have hjl := (List.getElem?_eq_some_iff.1 hy).1
  have ax := atN_of hx
  have ay := atN_of hy
  have hij : i < j := by omega
  refine ⟨fun k h0 hk hne => ?_, fun k hi0 h0 hk hp => ?_⟩
  · rw [swapL_len] at hk
    rw [swapL_at hx hy, swapL_at hx hy]
    by_cases e : k = j
    · subst e
      rw [hi, if_neg (by omega), if_pos rfl, if_pos rfl]
      omega
    · rw [if_neg e, if_neg hne]
      have h1 := h.1 k h0 hk e
      by_cases e2 : (k - 1) / 2 = j
      · rw [if_pos e2]
        have := h.2 k hj h0 hk e2
        rw [hi, ax] at this
        exact this
      · rw [if_neg e2]
        by_cases e3 : (k - 1) / 2 = i
        · rw [if_pos e3]
          rw [e3, ax] at h1
          omega
        · rw [if_neg e3]; exact h1
  · rw [swapL_len] at hk
    rw [swapL_at hx hy, swapL_at hx hy]
    rw [if_neg (by omega), if_neg (by omega)]
    have hpi := h.1 i hi0 (by omega) (by omega)
    rw [ax] at hpi
    by_cases e : k = j
    · rw [if_pos e]; exact hpi
    · rw [if_neg e, if_neg (by omega)]
      have h1 := h.1 k h0 hk e
      rw [hp, ax] at h1
      omega
theorem UpX.done {f : Int → Int} {ns : List Int} {j : Nat} (h : UpX f ns j) (hd : 0 < j → j < ns.length → f (atN ns ((j - 1) / 2)) ≤ f (atN ns j)) : HeapP f ns ns.length := fun k h0 hk => by
  by_cases e : k = j
  · subst e; exact hd h0 hk
  · exact h.1 k h0 hk e
theorem HeapP.push {f : Int → Int} {ns : List Int} (h : HeapP f ns ns.length) (v : Int) : UpX f (ns ++ [v]) ns.length := by
  have key : ∀ k, k < ns.length → atN (ns ++ [v]) k = atN ns k := fun k hk => by
    unfold atN; rw [List.getD_eq_getElem?_getD, List.getD_eq_getElem?_getD, List.getElem?_append_left hk]
  refine ⟨fun k h0 hk hne => ?_, fun k h0 h1 hk hp => ?_⟩
  · rw [List.length_append, List.length_singleton] at hk
    rw [key k (by omega), key _ (by omega)]
    exact h k h0 (by omega)
  · rw [List.length_append, List.length_singleton] at hk
    omega
theorem DownX.step {f : Int → Int} {ns : List Int} {i j n : Nat} {x y : Int} (h : DownX f ns i n) (hj : (j - 1) / 2 = i) (hj0 : 0 < j) (hjn : j < n) (hx : ns[i]? = some x) (hy : ns[j]? = some y) (hlt : f y < f x) (hmin : ∀ k, 0 < k → k < n → (k - 1) / 2 = i → f y ≤ f (atN ns k)) : DownX f (swapL ns i j x y) j n := by
  have ax := atN_of hx
  have ay := atN_of hy
  have hij : i < j := by omega
  refine ⟨fun k h0 hk hne => ?_, fun k _ h0 hk hp => ?_⟩
  · rw [swapL_at hx hy, swapL_at hx hy]
    rw [if_neg hne]
    by_cases e : k = j
    · rw [if_pos e, if_pos (by rw [e]; exact hj)]; omega
    · rw [if_neg e]
      by_cases e2 : k = i
      · rw [if_pos e2, if_neg (by omega)]
        have := h.2 j (by omega) hj0 hjn hj
        rw [ay] at this
        rw [e2]; exact this
      · rw [if_neg e2]
        by_cases e3 : (k - 1) / 2 = i
        · rw [if_pos e3]; exact hmin k h0 hk e3
        · rw [if_neg e3]; exact h.1 k h0 hk e3
  · rw [swapL_at hx hy, swapL_at hx hy]
    rw [hj, if_neg (by omega), if_pos rfl, if_neg (by omega), if_neg (by omega)]
    have := h.1 k h0 hk (by omega)
    rw [hp, ay] at this
    exact this
theorem DownX.done {f : Int → Int} {ns : List Int} {i n : Nat} (h : DownX f ns i n) (hd : ∀ k, 0 < k → k < n → (k - 1) / 2 = i → f (atN ns i) ≤ f (atN ns k)) : HeapP f ns n := fun k h0 hk => by
  by_cases e : (k - 1) / 2 = i
  · rw [e]; exact hd k h0 hk e
  · exact h.1 k h0 hk e
theorem HeapP.down {f : Int → Int} {ns ms : List Int} {n : Nat} (h : HeapP f ns (n + 1)) (hm : ∀ k, 0 < k → k < n → atN ms k = atN ns k) : DownX f ms 0 n := by
  refine ⟨fun k h0 hk hne => ?_, fun k h0 => absurd h0 (by omega)⟩
  rw [hm k h0 hk, hm _ (by omega) (by omega)]
  exact h k h0 (by omega)
theorem HeapP.min {f : Int → Int} {ns : List Int} {n : Nat} (h : HeapP f ns n) : ∀ k, k < n → f (atN ns 0) ≤ f (atN ns k) := by
  intro k
  induction k using Nat.strongRecOn with
  | ind k ih =>
    intro hk
    rcases Nat.eq_zero_or_pos k with h0 | h0
    · subst h0; exact Int.le_refl _
    · have h1 := ih ((k - 1) / 2) (by omega) (by omega)
      have h2 := h k h0 hk
      omega
end Go.Proofs.Ytnaehnlpcjaaeaa
/- purflelaw01.BoxOnes returns true at every input where each slice's capacity is no less than its length, and nothing that lay there has turned. -/
namespace Go.Proofs.Ytnaehnlpcjaaeaa
open Go.RowKit

/-- v laid into l ahead of place k -/
def ins (l : List Int) (k : Nat) (v : Int) : List Int := l.take k ++ v :: l.drop k
theorem ins_zero (l : List Int) (v : Int) : ins l 0 v = v :: l := by simp [ins]
theorem ins_succ (x : Int) (l : List Int) (k : Nat) (v : Int) : ins (x :: l) (k + 1) v = x :: ins l k v := by simp [ins]
theorem ins_prod (l : List Int) (k : Nat) : prodI (ins l k 1) = prodI l := by
  unfold ins; rw [prodI_append, prodI_split l k]; simp [prodI]
theorem ins_any (l : List Int) (k : Nat) (v : Int) (p : Int → Bool) (hv : p v = false) : (ins l k v).any p = l.any p := by
  unfold ins
  rw [List.any_append, List.any_cons, hv, Bool.false_or, ← List.any_append, List.take_append_drop]
theorem ins_length {l : List Int} {k : Nat} (hk : k ≤ l.length) (v : Int) : (ins l k v).length = l.length + 1 := by simp [ins]; omega
theorem ins_num {xs cs : List Int} (h : xs.length = cs.length) (k : Nat) (hk : k ≤ xs.length) : numR (ins xs k 1) (ins cs k 0) = numR xs cs := by
  induction k generalizing xs cs with
  | zero => rw [ins_zero, ins_zero]; simp [numR]
  | succ k ih => cases xs with
    | nil => simp at hk
    | cons s l => cases cs with
      | nil => simp at h
      | cons c d =>
        rw [ins_succ, ins_succ]
        simp only [numR]
        rw [ins_prod, ih (by simpa using h) (by simpa using hk)]
theorem ins_zip {xs cs : List Int} (h : xs.length = cs.length) (k : Nat) (hk : k ≤ xs.length) : ((ins cs k 0).zip (ins xs k 1)).any badAt = (cs.zip xs).any badAt := by
  induction k generalizing xs cs with
  | zero => rw [ins_zero, ins_zero]; simp [badAt]
  | succ k ih => cases xs with
    | nil => simp at hk
    | cons s l => cases cs with
      | nil => simp at h
      | cons c d =>
        rw [ins_succ, ins_succ, List.zip_cons_cons, List.any_cons, ih (by simpa using h) (by simpa using hk), List.zip_cons_cons, List.any_cons]
theorem ins_inside {xs cs : List Int} (h : xs.length = cs.length) (k : Nat) (hk : k ≤ xs.length) : insideF (ins xs k 1) (ins cs k 0) = insideF xs cs := by
  unfold insideF
  rw [ins_zip h k hk, ins_length hk, ins_length (by omega)]
  simp
/-- Cells hangs on little -/
theorem cellsF_same {xs ys : List Int} (h1 : xs.length ≤ 4) (h2 : ys.length ≤ 4) (hn : (xs.any fun s => decide (s < 0)) = (ys.any fun s => decide (s < 0))) (hz : (xs.any fun s => s == 0) = (ys.any fun s => s == 0)) (hp : prodI xs = prodI ys) : cellsF xs = cellsF ys := by
  by_cases ha : (xs.any fun s => decide (s < 0)) = true
  · have hb := ha; rw [hn] at hb
    unfold cellsF; rw [if_pos (.inr ha), if_pos (.inr hb)]
  · have ha' : (xs.any fun s => decide (s < 0)) = false := by cases hh : (xs.any fun s => decide (s < 0)) with | false => rfl | true => exact absurd hh ha
    have hb' := ha'; rw [hn] at hb'
    by_cases hc : (xs.any fun s => s == 0) = true
    · have hd := hc; rw [hz] at hd
      have e1 : cellsF xs = (0, 0) := by unfold cellsF; rw [if_neg (by rw [ha']; simp; omega), if_pos hc]
      have e2 : cellsF ys = (0, 0) := by unfold cellsF; rw [if_neg (by rw [hb']; simp; omega), if_pos hd]
      rw [e1, e2]
    · have hc' : (xs.any fun s => s == 0) = false := by cases hh : (xs.any fun s => s == 0) with | false => rfl | true => exact absurd hh hc
      have hd' := hc'; rw [hz] at hd'
      rw [cellsF_pos (pos_of_any ha' hc') h1, cellsF_pos (pos_of_any hb' hd') h2, hp]
theorem ins_cells {xs : List Int} (h : xs.length ≤ 3) (k : Nat) (hk : k ≤ xs.length) : cellsF (ins xs k 1) = cellsF xs :=
  cellsF_same (by rw [ins_length hk]; omega) (by omega) (ins_any _ _ _ _ (by simp)) (ins_any _ _ _ _ (by simp)) (ins_prod xs k)
theorem prodI_reverse (xs : List Int) : prodI xs.reverse = prodI xs := by
  induction xs with
  | nil => rfl
  | cons s l ih => rw [List.reverse_cons, prodI_append, ih]; simp [prodI, Int.mul_comm]
theorem rev_cells {xs : List Int} (h : xs.length ≤ 3) : cellsF xs.reverse = cellsF xs :=
  cellsF_same (by simp; omega) (by omega) List.any_reverse List.any_reverse (prodI_reverse xs)
theorem ins_at {xs cs : List Int} (h : xs.length = cs.length) (h3 : xs.length ≤ 3) (k : Nat) (hk : k ≤ xs.length) : atF (ins xs k 1) (ins cs k 0) = atF xs cs := by
  unfold atF
  rw [ins_cells h3 k hk, ins_inside h k hk, ins_num h k hk]

theorem Ints.take_ {w : World} {B n k : Nat} {A : Option Addr} {xs : List Int} (h : Ints w B A n xs) (hk : k ≤ n) : Ints w B A k (xs.take k) := by
  obtain ⟨hl, hb, hc⟩ := h
  refine ⟨by rw [List.length_take]; omega, fun x hx => hb x (List.mem_of_mem_take hx), fun h0 => ?_⟩
  obtain ⟨b, off, e, hB, hx⟩ := hc (by omega)
  refine ⟨b, off, e, hB, fun j x hj => hx j x ?_⟩
  rw [List.getElem?_take] at hj
  split at hj
  · exact hj
  · cases hj
theorem Ints.drop_ {w : World} {B n k c : Nat} {A : Option Addr} {xs : List Int} (h : Ints w B A n xs) (hk : k ≤ n) (hc : n ≤ c) : Ints w B (if c = k then A else A.map (·.add (k * 1))) (n - k) (xs.drop k) := by
  obtain ⟨hl, hb, hcc⟩ := h
  refine ⟨by rw [List.length_drop]; omega, fun x hx => hb x (List.mem_of_mem_drop hx), fun h0 => ?_⟩
  obtain ⟨b, off, rfl, hB, hx⟩ := hcc (by omega)
  rw [if_neg (by omega)]
  refine ⟨b, off + k, ?_, hB, fun j x hj => ?_⟩
  · by_cases hk0 : k = 0
    · subst hk0; simp [Addr.add]
    · simp [Addr.add, hk0]
  · rw [List.getElem?_drop] at hj
    have := hx (k + j) x hj
    rwa [Nat.add_assoc]
set_option maxRecDepth 100000 in
theorem run_take {w : World} (A : Option Addr) (n c k : Nat) (hk : k ≤ n) (hc : n ≤ c) : (Instr.slice 25 (.slice A n c) none (some (.int .i64 (k : Int))) none).run Try.prog w = .ok (.slice A k c) w := by
  obtain ⟨i0, hi0, hz0, hz1, hz2⟩ := info_parts infoInt
  rw [run_slice_h w 25 A n c (by kernel_rfl) .i64 (k : Int) (by omega) (by omega)]
  have hs : (sizeOf (Try.prog.elem 25)).run Try.prog w = .ok 1 w := by
    have he : Try.prog.elem 25 = 3 := by kernel_rfl
    rw [he]; simp [sizeOf, typeInfo, hi0, hz1]
  rw [hs]
  simp only [Result.andThen, sliced, Int.toNat_natCast, Nat.zero_mul, Nat.sub_zero]
  have : (if c = 0 then A else A.map (·.add 0)) = A := by
    split
    · rfl
    · cases A <;> simp [Addr.add]
  rw [this]
set_option maxRecDepth 100000 in
theorem run_drop {w : World} (A : Option Addr) (n c k : Nat) (hk : k ≤ n) : (Instr.slice 25 (.slice A n c) (some (.int .i64 (k : Int))) none none).run Try.prog w = .ok (.slice (if c = k then A else A.map (·.add (k * 1))) (n - k) (c - k)) w := by
  obtain ⟨i0, hi0, hz0, hz1, hz2⟩ := info_parts infoInt
  rw [run_slice_l w 25 A n c (by kernel_rfl) .i64 (k : Int) (by omega) (by omega)]
  have hs : (sizeOf (Try.prog.elem 25)).run Try.prog w = .ok 1 w := by
    have he : Try.prog.elem 25 = 3 := by kernel_rfl
    rw [he]; simp [sizeOf, typeInfo, hi0, hz1]
  rw [hs]
  simp only [Result.andThen, sliced, Int.toNat_natCast]

/-- the list when q places have been turned round -/
def turned (xs : List Int) (q : Nat) : List Int := xs.reverse.take q ++ xs.drop q
theorem turned_length {xs : List Int} {q : Nat} (hq : q ≤ xs.length) : (turned xs q).length = xs.length := by simp [turned]; omega
theorem turned_set {xs : List Int} {q : Nat} {x : Int} (hq : q < xs.length) (hx : xs[xs.length - 1 - q]? = some x) : (turned xs q).set q x = turned xs (q + 1) := by
  unfold turned
  have hr : xs.reverse[q]? = some x := by rw [List.getElem?_reverse hq]; exact hx
  have hd : xs[q]? = some (xs[q]'hq) := List.getElem?_eq_getElem hq
  rw [take_succ_of hr, drop_of hd, List.set_append_right _ _ (by rw [List.length_take, List.length_reverse]; omega), List.length_take, List.length_reverse, Nat.min_eq_left (by omega), Nat.sub_self, List.set_cons_zero, List.append_assoc]
  rfl
theorem wpList_appendInts {P : Program} (w : World) {ops : Array Oper} {rest : List Oper} {o : Oper} {a : Act} {Q : Exit → Act → World → Prop}
    (hg : o.guard = none) (s x : Operand) (t : TypeId) (hop : o.op = Op.call { callee := Callee.builtin Builtin.append, args := #[s, x], argTypes := #[t, t] })
    (base : Nat) (e : TypeId) (i : TypeInfo) (ht : P.underlying t = some (.slice e)) (hi : P.info? e = some i) (hz : i.zero = some (.int .i64 0)) (h1 : i.size = 1) (h2 : i.bytes = 8)
    (A A2 : Option Addr) (c m c2 B p r : Nat) (xs ys : List Int) (hs : a.eval s = .slice A p c) (hx : a.eval x = .slice A2 m c2) (ho : OwnI w base e A c xs) (hp : xs.length = p) (hr : p + m = r) (hi2 : Ints w B A2 m ys) (hl : r ≤ 1000000) (hb : base ≤ w.heap.size)
    (hK : ∀ A' c' w', OwnI w' base e A' c' (xs ++ ys) → w.grownBy w' (Value.slice A p c).ownBlock → wpList P ops Q rest (a.put o.dst (.slice A' r c')) w') : wpList P ops Q (o :: rest) a w := by
  refine wpList_plain hg fun K hK' => ?_
  subst hp
  subst hr
  obtain ⟨A', c', w', hrun, ho', hb'⟩ := run_appendInts (P := P) w base t o.type e i ht hi hz h1 h2 A A2 c m c2 B xs ys ho hi2 hl hb
  unfold Oper.wp
  simp [execOp, hop, resolve, invoke, builtin, hs, hx, hrun, Result.andThen]
  exact hK' _ _ (hK _ _ _ ho' hb')
theorem src_new {v : Int} {t : TypeId} (w : World) (hv : -9223372036854775808 ≤ v ∧ v ≤ 9223372036854775807) : Ints (w.alloc (.cells #[.int .i64 v] t)) (w.heap.size + 1) (some ⟨w.heap.size, 0, none⟩) 1 [v] := Ints.of_new w t [v] (by simpa using hv)
theorem src_one {v : Int} {t : TypeId} {w w2 : World} (hb : Below (w.alloc (.cells #[.int .i64 v] t)).drew.heap.size (w.alloc (.cells #[.int .i64 v] t)).drew w2) (hv : -9223372036854775808 ≤ v ∧ v ≤ 9223372036854775807) : Ints w2 w2.heap.size (some ⟨w.heap.size, 0, none⟩) 1 [v] := by
  have h1 : Ints (w.alloc (.cells #[.int .i64 v] t)).drew (w.heap.size + 1) (some ⟨w.heap.size, 0, none⟩) 1 [v] := src_new w hv
  have hs : w.heap.size + 1 ≤ (w.alloc (.cells #[.int .i64 v] t)).drew.heap.size := by
    have : (w.alloc (.cells #[.int .i64 v] t)).heap.size = w.heap.size + 1 := World.size_alloc _ _
    exact Nat.le_of_eq this.symm
  exact (h1.below (hb.mono hs)).more (Nat.le_trans hs hb.size)
theorem below_app {w1 W w3 : World} {base p c : Nat} {e : TypeId} {A : Option Addr} {xs : List Int} (hb : Below base w1 W) (hg : W.grownBy w3 (Value.slice A p c).ownBlock) (ho : OwnI W base e A c xs) (hp : xs.length = p) (hs : base ≤ W.heap.size) : Below base w1 w3 := by
  subst hp
  exact hb.grown hg hs (fun k hk => (ho.1.lt k hk).1)
theorem len_take {w : World} {B n k : Nat} {A : Option Addr} {xs : List Int} (h : Ints w B A n xs) (hk : k ≤ n) : ([] ++ xs.take k : List Int).length = k := by
  have := h.1; simp; omega
theorem len_take1 {w : World} {B n k : Nat} {A : Option Addr} {xs : List Int} {v : Int} (h : Ints w B A n xs) (hk : k ≤ n) : ([] ++ xs.take k ++ [v] : List Int).length = k + 1 := by
  have := h.1; simp; omega

end Go.Proofs.Ytnaehnlpcjaaeaa
/- append onto a slice of the call's own: where the result lies (the slice's own block, or a new one), so that two slices may grow side by side. Nothing is claimed of the program here. -/
namespace Go.Proofs.Ytnaehnlpcjaaeaa
open Go.RowKit

theorem OwnI.grownL {w w' : World} {base c : Nat} {e : TypeId} {A : Option Addr} {xs : List Int} {row : Option Nat} (h : OwnI w base e A c xs) (hg : w.grownBy w' row) (hr : ∀ g, A = some ⟨g, 0, none⟩ → some g ≠ row) : OwnI w' base e A c xs := by
  refine ⟨h.1.kept hg ?_, h.2⟩
  rcases h.1.2 with ⟨hv, _⟩ | ⟨g', cap, cur, hv, _⟩
  · rw [hv]; exact .inl rfl
  · right
    have hA : A = some ⟨g', 0, none⟩ := by injection hv
    subst hA
    exact hr g' rfl
theorem OwnI.ltL {w : World} {base c g : Nat} {e : TypeId} {xs : List Int} (h : OwnI w base e (some ⟨g, 0, none⟩) c xs) : base ≤ g ∧ g < w.heap.size := h.1.lt g rfl
theorem own_block_neL {w : World} {base c r g : Nat} {e : TypeId} {A : Option Addr} {xs : List Int} (h : OwnI w base e A c xs) (hr : xs.length = r) (hne : A ≠ some ⟨g, 0, none⟩) : some g ≠ (Value.slice A r c).ownBlock := by
  subst hr
  rcases h.1.2 with ⟨hv, _⟩ | ⟨g', cap, cur, hv, _⟩
  · rw [hv]; intro h; cases h
  · have hA : A = some ⟨g', 0, none⟩ := by injection hv
    subst hA
    intro h
    simp only [Value.ownBlock, Option.some.injEq] at h
    exact hne (by rw [h])
/-- two slices of the call's own that share no block -/
def Apart (A B : Option Addr) : Prop := ∀ g, A = some ⟨g, 0, none⟩ → B ≠ some ⟨g, 0, none⟩

theorem append_where {P : Program} (w : World) (base : Nat) (t ty e : TypeId) (i : TypeInfo) (ht : P.underlying t = some (.slice e)) (hi : P.info? e = some i) (hz : i.zero = some (.int .i64 0)) (h1 : i.size = 1) (h2 : i.bytes = 8)
    (A A2 : Option Addr) (c m c2 B : Nat) (xs ys : List Int) (ho : OwnI w base e A c xs) (hs : Ints w B A2 m ys) (hl : xs.length + m ≤ 1000000) {A' : Option Addr} {r c' : Nat} {w' : World}
    (hrun : (Builtin.append_ #[t, t] ty #[.slice A xs.length c, .slice A2 m c2]).run P w = .ok (.slice A' r c') w') : ∀ g, A' = some ⟨g, 0, none⟩ → A = some ⟨g, 0, none⟩ ∨ w.heap.size ≤ g := by
  intro g hg
  have hlen := hs.1
  rcases Option.eq_none_or_eq_some A2 with rfl | ⟨ad, rfl⟩
  · obtain rfl : m = 0 := by
      rcases Nat.eq_zero_or_pos m with h0 | h0
      · exact h0
      · obtain ⟨b, off, e', _⟩ := hs.2.2 h0; cases e'
    have hr := run_appendNil (P := P) w base t ty e i ht hi (.slice A xs.length c) xs.length (xs.map (Value.int .i64)) ho.1 c2
    rw [hr] at hrun
    injection hrun with hrun _
    injection hrun with hrun _ _
    left; rw [hrun]; exact hg
  · have hl2 : (ys.map (Value.int .i64)).length = m * i.size := by rw [List.length_map, hlen, h1, Nat.mul_one]
    have hc := hs.cells_
    rcases ho.1.2 with ⟨hv, hn0⟩ | ⟨g0, cap, cur, hv, hbg, hgg, hnc, hcm, hcs, htk⟩
    · injection hv with hA hn hcc
      subst hA
      subst hcc
      rw [hn] at hrun
      rcases Nat.eq_zero_or_pos m with rfl | hm
      · obtain ⟨v', w2, hr, _, _, hiff⟩ := run_append_own (P := P) w 0 t ty e i (.int .i64 0) 1 8 ht hi hz h1 h2 rfl (by decide) (.slice none 0 0) 0 [] (World.ownsRow_nil w 0 e 1) ad 0 c2 (ys.map (Value.int .i64)) (by rw [hl2, h1]) hc (ints_one ys) (by unfold maxLen; omega) (by omega) (Nat.zero_le _)
        rw [hr] at hrun
        injection hrun with hrun _
        rw [hiff.2 ⟨rfl, rfl⟩] at hrun
        injection hrun with hrun _ _
        rw [← hrun] at hg; cases hg
      · have hr := run_append_nil (P := P) w t ty e i (.int .i64 0) ht hi hz ad m c2 (ys.map (Value.int .i64)) hl2 hc hm (by omega) (by rw [h2]; omega)
        rw [hr] at hrun
        injection hrun with hrun _
        injection hrun with hrun _ _
        right
        rw [← hrun] at hg
        injection hg with hg; injection hg with hg; omega
    · injection hv with hA hn hcc
      subst hA
      subst hcc
      by_cases hroom : xs.length + m ≤ c
      · have hr := run_append_room (P := P) w t ty e i ht hi g0 xs.length c cur hgg ad m c2 (ys.map (Value.int .i64)) hl2 hc (ints_one ys) hroom (by rw [hl2, h1, hcs]; omega)
        rw [hr] at hrun
        injection hrun with hrun _
        injection hrun with hrun _ _
        left; rw [hrun]; exact hg
      · have hr := run_append_grow (P := P) w t ty e i (.int .i64 0) ht hi hz ⟨g0, 0, none⟩ xs.length c (xs.map (Value.int .i64)) (by rw [List.length_map, h1, Nat.mul_one]) (ho.1.cells (g := g0) rfl) ad m c2 (ys.map (Value.int .i64)) hl2 hc (by omega) (by omega) (growslice_fits (by omega) (by rw [h2]; omega))
        rw [hr] at hrun
        injection hrun with hrun _
        injection hrun with hrun _ _
        right
        rw [← hrun] at hg
        injection hg with hg; injection hg with hg; omega

/-- append of integers: the result, its block, what stands -/
theorem wpList_appendWhere {P : Program} (w : World) {ops : Array Oper} {rest : List Oper} {o : Oper} {a : Act} {Q : Exit → Act → World → Prop}
    (hg : o.guard = none) (s x : Operand) (t : TypeId) (hop : o.op = Op.call { callee := Callee.builtin Builtin.append, args := #[s, x], argTypes := #[t, t] })
    (base : Nat) (e : TypeId) (i : TypeInfo) (ht : P.underlying t = some (.slice e)) (hi : P.info? e = some i) (hz : i.zero = some (.int .i64 0)) (h1 : i.size = 1) (h2 : i.bytes = 8)
    (A A2 : Option Addr) (c m c2 B p r : Nat) (xs ys : List Int) (hs : a.eval s = .slice A p c) (hx : a.eval x = .slice A2 m c2) (ho : OwnI w base e A c xs) (hp : xs.length = p) (hr : p + m = r) (hi2 : Ints w B A2 m ys) (hl : r ≤ 1000000) (hb : base ≤ w.heap.size)
    (hK : ∀ A' c' w', OwnI w' base e A' c' (xs ++ ys) → w.grownBy w' (Value.slice A p c).ownBlock → (∀ g, A' = some ⟨g, 0, none⟩ → A = some ⟨g, 0, none⟩ ∨ w.heap.size ≤ g) → wpList P ops Q rest (a.put o.dst (.slice A' r c')) w') : wpList P ops Q (o :: rest) a w := by
  refine wpList_plain hg fun K hK' => ?_
  subst hp
  subst hr
  obtain ⟨A', c', w', hrun, ho', hb'⟩ := run_appendInts (P := P) w base t o.type e i ht hi hz h1 h2 A A2 c m c2 B xs ys ho hi2 hl hb
  have hw := append_where (P := P) w base t o.type e i ht hi hz h1 h2 A A2 c m c2 B xs ys ho hi2 hl hrun
  unfold Oper.wp
  simp [execOp, hop, resolve, invoke, builtin, hs, hx, hrun, Result.andThen]
  exact hK' _ _ (hK _ _ _ ho' hb' hw)
end Go.Proofs.Ytnaehnlpcjaaeaa
/- Push and Pop of merge's numbers. -/
namespace Go.Proofs.Ytnaehnlpcjaaeaa
open Go.RowKit

theorem step_appendWhere {P : Program} {ops : Array Oper} {o : Oper} {a : Act} {w : World} {K : Act → World → Prop} {Q : Exit → Act → World → Prop} {E : Prop}
    (hg : o.guard = none) (s x : Operand) (t : TypeId) (hop : o.op = Op.call { callee := Callee.builtin Builtin.append, args := #[s, x], argTypes := #[t, t] })
    (base : Nat) (e : TypeId) (i : TypeInfo) (ht : P.underlying t = some (.slice e)) (hi : P.info? e = some i) (hz : i.zero = some (.int .i64 0)) (h1 : i.size = 1) (h2 : i.bytes = 8)
    (A A2 : Option Addr) (c m c2 B p r : Nat) (xs ys : List Int) (hs : a.eval s = .slice A p c) (hx : a.eval x = .slice A2 m c2) (ho : OwnI w base e A c xs) (hp : xs.length = p) (hr : p + m = r) (hi2 : Ints w B A2 m ys) (hl : r ≤ 1000000) (hb : base ≤ w.heap.size)
    (hK : ∀ A' c' w', OwnI w' base e A' c' (xs ++ ys) → w.grownBy w' (Value.slice A p c).ownBlock → (∀ g, A' = some ⟨g, 0, none⟩ → A = some ⟨g, 0, none⟩ ∨ w.heap.size ≤ g) → K (a.put o.dst (.slice A' r c')) w') :
    if Region.wanted o (yielded ops a.tmps) = true then Oper.wp P o a w K Q else E := by
  have hw : Region.wanted o (yielded ops a.tmps) = true := by simp [Region.wanted, hg]
  rw [if_pos hw]
  subst hp
  subst hr
  obtain ⟨A', c', w', hrun, ho', hb'⟩ := run_appendInts (P := P) w base t o.type e i ht hi hz h1 h2 A A2 c m c2 B xs ys ho hi2 hl hb
  have hwh := append_where (P := P) w base t o.type e i ht hi hz h1 h2 A A2 c m c2 B xs ys ho hi2 hl hrun
  unfold Oper.wp
  simp [execOp, hop, resolve, invoke, builtin, hs, hx, hrun, Result.andThen]
  exact hK _ _ _ ho' hb' hwh
set_option maxRecDepth 100000 in
theorem run_assert (v : Int) (w : World) : (Instr.typeAssert (.iface 3 (.int .i64 v)) 20 3 false).run Try.prog w = .ok (.int .i64 v) w := by kernel_rfl
set_option maxRecDepth 100000 in
theorem run_iface (v : Int) (w : World) : (Instr.makeInterface 3 (.int .i64 v)).run Try.prog w = .ok (.iface 3 (.int .i64 v)) w := by kernel_rfl
set_option maxRecDepth 100000 in
set_option maxHeartbeats 2000000 in
theorem numPush (g base : Nat) (S : TypeId) (rest : List Value) (A : Option Addr) (c : Nat) (ns : List Int) (v : Int) (w : World) (h : HeapB w g base S rest A c ns) (hl : ns.length ≤ 100000) (hv : -9223372036854775808 ≤ v ∧ v ≤ 9223372036854775807) :
    Calls Try.prog 75 #[.pointer (some ⟨g, 0, none⟩), .iface 3 (.int .i64 v)] w fun e w' => e = .returned (.tuple #[]) ∧ ∃ A' c', HeapB w' g base S rest A' c' (ns ++ [v]) ∧ FarB w w' g base A A' := by
  obtain ⟨i0, hi0, hz0, hz1, hz2⟩ := info_parts infoInt
  have hc := h.cell
  have hf := h.frozen
  obtain ⟨N, hN⟩ : ∃ N, ns.length = N := ⟨_, rfl⟩
  have HLN := Lib.hid hN
  have HBX := Lib.hid h.box
  have HLT := Lib.hid h.lt
  have HSZ := Lib.hid h.sz
  rw [hN] at hc hl
  have hbd : N + 1 ≤ 1000000 := by omega
  have HOA : Hid (OwnI (w.alloc (.cells #[.int .i64 v] 3)).drew base 3 A c ns) := h.own.alloc _
  have HSA : Hid (Ints (w.alloc (.cells #[.int .i64 v] 3)).drew (w.heap.size + 1) (some ⟨w.heap.size, 0, none⟩) 1 [v]) := src_new w hv
  have HZA : Hid (base ≤ (w.alloc (.cells #[.int .i64 v] 3)).drew.heap.size) := by unfold Hid; have : (w.alloc (.cells #[.int .i64 v] 3)).drew.heap.size = w.heap.size + 1 := World.size_alloc ..; have := h.sz; omega
  have HBA : Hid (Below base w (w.alloc (.cells #[.int .i64 v] 3)).drew) := ((Below.refl w.heap.size w).alloc (Nat.le_refl _) _).drew.mono h.sz
  have C0 := fun o => cellPast o hc
  have hta := run_assert v
  have F0 := fun o => frozenPast o hc hf
  clear h hN hv
  go_enter Try.func75, Try.ntmps75
  go_region_law (refine step_appendWhere rfl (.tmp 7) (.tmp 10) 48 rfl base 3 i0 Try.underlying48 hi0 hz0 hz1 hz2 A (some ⟨w.heap.size, 0, none⟩) c 1 1 (w.heap.size + 1) N (N + 1) ns [v] rfl rfl HOA.out HLN.out rfl HSA.out hbd HZA.out ?_; intro A4 c4 w4 HO4 HG4 HW4; have hbA := below_app HBA.out HG4 HOA.out HLN.out HZA.out; have r4 := (hbA.block g HLT.out).trans HBX.out; have l0 : w4.cell? ⟨g, 0, none⟩ = some (.slice A ns.length c) := (cell_of_row _ _ 0 _ _ (0, 0) r4).trans (by simp); have lf0 : w4.frozen? ⟨g, 0, none⟩ = false := (by simp [World.frozen?, r4]))
  all_goals
    have hbx := blk_set0 r4 (.slice A4 (N + 1) c4)
    have hoo := HO4.setBelow (a := ⟨g, 0, none⟩) HLT.out (.slice A4 (N + 1) c4)
    have hfr : FarB w w4 g base A A4 := ⟨hbA.os, hbA.tape, hbA.output, hbA.size, fun b hb _ => hbA.block b hb, fun b hb _ hA => (HG4.block b (by have : (w.alloc (.cells #[.int .i64 v] 3)).drew.heap.size = w.heap.size + 1 := World.size_alloc ..; omega) (own_block_neL HOA.out HLN.out hA)).trans (Below.heap_alloc w _ b hb), fun q hq => (HW4 q hq).imp id fun h => Nat.le_trans (Nat.le_succ _) (by have : (w.alloc (.cells #[.int .i64 v] 3)).drew.heap.size = w.heap.size + 1 := World.size_alloc ..; omega)⟩
    have hap := hfr.trans (FarB.set (g := g) (base := base) (A := A4) 0 (.slice A4 (N + 1) c4))
    have hsz := hbA.size
    go_wp2
    go_end0
    refine ⟨rfl, A4, c4, ⟨?_, hoo, HLT.out, ?_⟩, hap⟩
    · rw [List.length_append, HLN.out]; exact hbx
    · have := HSZ.out; first | (simp; done) | (simp; omega)
theorem OwnI.take {w : World} {base c : Nat} {e : TypeId} {A : Option Addr} {xs : List Int} (h : OwnI w base e A c xs) (h0 : 0 < xs.length) (m : Nat) (hm : m ≤ xs.length) : OwnI w base e A c (xs.take m) := by
  refine ⟨⟨by simp, ?_⟩, fun x hx => h.2 x (List.mem_of_mem_take hx)⟩
  rcases h.1.2 with ⟨h1, h2⟩ | ⟨q, cap, cur, h1, h2, h3, h4, h5, h6, h7⟩
  · omega
  · injection h1 with h1 _ h1c
    have hl : (xs.take m).length = m := by rw [List.length_take]; omega
    refine .inr ⟨q, cap, cur, by rw [h1, h1c], h2, h3, by rw [hl]; omega, h5, h6, ?_⟩
    rw [hl, List.map_take, ← h7, List.take_take, Nat.mul_one, Nat.mul_one, Nat.min_eq_left hm]
set_option maxRecDepth 100000 in
theorem run_takeNum {w : World} (A : Option Addr) (n c k : Nat) (hk : k ≤ n) (hc : n ≤ c) : (Instr.slice 48 (.slice A n c) none (some (.int .i64 (k : Int))) none).run Try.prog w = .ok (.slice A k c) w := by
  obtain ⟨i0, hi0, hz0, hz1, hz2⟩ := info_parts infoInt
  rw [run_slice_h w 48 A n c (by kernel_rfl) .i64 (k : Int) (by omega) (by omega)]
  have hs : (sizeOf (Try.prog.elem 48)).run Try.prog w = .ok 1 w := by
    have he : Try.prog.elem 48 = 3 := by kernel_rfl
    rw [he]; simp [sizeOf, typeInfo, hi0, hz1]
  rw [hs]
  simp only [Result.andThen, sliced, Int.toNat_natCast, Nat.zero_mul, Nat.sub_zero]
  have : (if c = 0 then A else A.map (·.add 0)) = A := by
    split
    · rfl
    · cases A <;> simp [Addr.add]
  rw [this]

set_option maxRecDepth 100000 in
set_option maxHeartbeats 2000000 in
theorem numPop (g base : Nat) (S : TypeId) (rest : List Value) (A : Option Addr) (c : Nat) (ns : List Int) (v : Int) (w : World) (h : HeapB w g base S rest A c (ns ++ [v])) (hl : ns.length ≤ 100000) :
    Calls Try.prog 74 #[.pointer (some ⟨g, 0, none⟩)] w fun e w' => e = .returned (.iface 3 (.int .i64 v)) ∧ HeapB w' g base S rest A c ns ∧ FarB w w' g base A A := by
  have hc := h.cell
  have hf := h.frozen
  have hcap := h.own.len_cap
  obtain ⟨N, hN⟩ : ∃ N, ns.length = N := ⟨_, rfl⟩
  have hN1 : (ns ++ [v]).length = N + 1 := by rw [List.length_append, hN]; rfl
  rw [hN1] at hc hcap
  have hv : (ns ++ [v])[N]? = some v := by rw [List.getElem?_append_right (by omega), hN, Nat.sub_self]; rfl
  obtain ⟨q, rfl⟩ : ∃ q, A = some ⟨q, 0, none⟩ := by
    rcases h.own.1.2 with ⟨_, h2⟩ | ⟨q, cap, cur, h1, _⟩
    · rw [hN1] at h2; omega
    · injection h1 with h1; exact ⟨q, h1⟩
  obtain ⟨cv, _⟩ := h.own.cell_ hv
  have HO : Hid (OwnI w base 3 (some ⟨q, 0, none⟩) c ns) := by
    have := h.own.take (by rw [hN1]; omega) N (by rw [hN1]; omega)
    unfold Hid
    rwa [← hN, List.take_left'] at this
    rfl
  have HLN := Lib.hid hN
  have HBX := Lib.hid h.box
  have HLT := Lib.hid h.lt
  have HSZ := Lib.hid h.sz
  have hsl := fun W : World => run_takeNum (w := W) (some ⟨q, 0, none⟩) (N + 1) c N (by omega) hcap
  have hif := run_iface v
  have e0 : (((N + 1 : Nat) : Int)) - 1 = (N : Int) := by omega
  have e1 : ((N : Int) + 1) - 1 = (N : Int) := by omega
  have e2 : IntKind.i64.wrap (N : Int) = (N : Int) := wrap_natM _ (by omega)
  have n0 : (0 : Int) ≤ (N : Int) := by omega
  have n1 : (N : Int) < ((N + 1 : Nat) : Int) := by omega
  have hs0 := Lib.hid (blk_set0 h.box (.slice (some ⟨q, 0, none⟩) N c))
  clear h hN hN1 hv
  go_enter Try.func74, Try.ntmps74
  go_wp2
  go_ret
  refine ⟨rfl, ⟨?_, HO.out.setBelow (a := ⟨g, 0, none⟩) HLT.out _, HLT.out, ?_⟩, FarB.set 0 _⟩
  · rw [HLN.out]; exact hs0.out
  · have := HSZ.out; first | (simp; done) | (simp; omega)
end Go.Proofs.Ytnaehnlpcjaaeaa
/- container/heap's up, at merge's heaps. -/
namespace Go.Proofs.Ytnaehnlpcjaaeaa
open Go.RowKit

/-- which of two stands ahead: of a heap of either kind, whose other memory is as J says -/
structure LessOK (T S : TypeId) (g base : Nat) (rest : List Value) (f : Int → Int) (J : World → Prop) (D : Int → Prop) (fl : FuncId) (rv : Option Addr → Nat → Nat → Value) : Prop where
  t : HeapT T S
  keep : ∀ w w' A A', J w → FarB w w' g base A A' → J w'
  enters : ∀ args w, (callFunc fl args).run Try.prog w = .ok (.enter fl args) w
  find : ∀ (w : World) (A : Option Addr) (c : Nat) (ns : List Int), HeapB w g base S rest A c ns → ∀ k, Sem.run Try.prog (method (k + 1) T (.pointer (some ⟨g, 0, none⟩)) "Less") w = .ok (fl, rv A c ns.length) w
  less : ∀ (w : World) (A : Option Addr) (c : Nat) (ns : List Int) (i j : Nat) (x y : Int), HeapB w g base S rest A c ns → J w → ns[i]? = some x → ns[j]? = some y → D x → D y → ns.length ≤ 100000 →
    Calls Try.prog fl #[rv A c ns.length, .int .i64 i, .int .i64 j] w fun e w' => e = .returned (.bool (decide (f x < f y))) ∧ ∃ m, w' = w.drewN m
theorem HeapB.own_lt {w : World} {g base c : Nat} {S : TypeId} {rest : List Value} {A : Option Addr} {ns ms : List Int} {w' : World} (h : HeapB w g base S rest A c ns) (ho : OwnI w' base 3 A c ms) (hl : ms.length = ns.length) (hb : Below base w w') : HeapB w' g base S rest A c ms :=
  ⟨by rw [hl]; exact (hb.block g h.lt).trans h.box, ho, h.lt, Nat.le_trans h.sz hb.size⟩
/-- a numbers heap's Swap, as the heap sees it -/
theorem swapB {w : World} {g base c i j : Nat} {S : TypeId} {rest : List Value} {A : Option Addr} {ns : List Int} {x y : Int} (h : HeapB w g base S rest A c ns) (hx : ns[i]? = some x) (hy : ns[j]? = some y) :
    Calls Try.prog 76 #[.slice A ns.length c, .int .i64 i, .int .i64 j] w fun e w' => e = .returned (.tuple #[]) ∧ HeapB w' g base S rest A c (swapL ns i j x y) ∧ FarB w w' g base A A :=
  (numSwap A ns.length c i j base ns w h.own rfl x y hx hy h.sz).mono fun _ _ ⟨h1, h2, h3, h4⟩ => ⟨h1, h.own_lt h2 (swapL_len _ _ _ _ _) h3, ⟨h3.os, h3.tape, h3.output, h3.size, fun b hb _ => h3.block b hb, fun b _ _ hA => h4 b hA, fun _ hq => .inl hq⟩⟩

set_option maxRecDepth 100000 in
set_option maxHeartbeats 4000000 in
theorem heapUp {T S : TypeId} {g base : Nat} {rest : List Value} {f : Int → Int} {J : World → Prop} {D : Int → Prop} {fl : FuncId} {rv : Option Addr → Nat → Nat → Value} (hL : LessOK T S g base rest f J D fl rv) (A : Option Addr) (c j N : Nat) (ns : List Int) (w : World) (h : HeapB w g base S rest A c ns) (hJ : J w) (hD : ∀ x ∈ ns, D x) (hN : ns.length = N) (hj : j < N) (hl : N ≤ 100000) (hU : UpX f ns j) :
    Calls Try.prog 56 #[.iface T (.pointer (some ⟨g, 0, none⟩)), .int .i64 j] w fun e w' => e = .returned (.tuple #[]) ∧ ∃ ms, HeapB w' g base S rest A c ms ∧ ms.Perm ns ∧ HeapP f ms N ∧ FarB w w' g base A A := by
  have HL := Lib.hid hL
  have HD := Lib.hid hD
  have H0 := Lib.hid h
  have HJ := Lib.hid hJ
  have HN := Lib.hid hN
  have HU0 := Lib.hid hU
  clear hL hD h hJ hN hU
  go_enter Try.func56, Try.ntmps56
  go_wp2
  go_loopw [1] (fun v wr => ∃ (k : Nat) (ms : List Int), v = .int .i64 (k : Int) ∧ k < N ∧ Hid (HeapB wr g base S rest A c ms) ∧ Hid (ms.Perm ns) ∧ Hid (UpX f ms k) ∧ Hid (FarB w wr g base A A)) (fun v _ => (intOf v).toNat)
  case atStart => exact ⟨j, ns, rfl, hj, H0, Lib.hid (List.Perm.refl _), HU0, Lib.hid (FarB.refl _ _ _ _)⟩
  case round =>
    obtain ⟨k, ms, rfl, hk, HB, HP, HU, HA⟩ := hrel
    have HML : Hid (ms.length = N) := HP.out.length_eq.trans HN.out
    have HJr : Hid (J wr) := HL.out.keep _ _ _ _ HJ.out HA.out
    rcases Nat.eq_zero_or_pos k with h0 | h0
    · subst h0
      have e1 : IntKind.i64.wrap (Int.tdiv ((0 : Int) - 1) 2) = 0 := by decide
      have HF : Hid (HeapP f ms N) := by unfold Hid; rw [← HML.out]; exact HU.out.done fun h => absurd h (by omega)
      go_wp2
      go_end0
      exact ⟨rfl, ms, HB.out, HP.out, HF.out, HA.out⟩
    · obtain ⟨p, hp⟩ : ∃ p, (k - 1) / 2 = p := ⟨_, rfl⟩
      have hpk : p < k := by omega
      obtain ⟨x, hx⟩ : ∃ x, ms[p]? = some x := ⟨_, List.getElem?_eq_getElem (by rw [HML.out]; omega)⟩
      obtain ⟨y, hy⟩ : ∃ y, ms[k]? = some y := ⟨_, List.getElem?_eq_getElem (by rw [HML.out]; omega)⟩
      have hdx := HD.out x (HP.out.mem_iff.1 (List.mem_of_getElem? hx))
      have hdy := HD.out y (HP.out.mem_iff.1 (List.mem_of_getElem? hy))
      have cL := HL.out.less wr A c ms k p y x HB.out HJr.out hy hx hdy hdx (by rw [HML.out]; exact hl)
      have mL := HL.out.find wr A c ms HB.out
      have eL := HL.out.enters
      obtain ⟨a, ha⟩ : ∃ a, k - 1 = a := ⟨_, rfl⟩
      have e1 : (k : Int) - 1 = (a : Int) := by omega
      have e2 : IntKind.i64.wrap (a : Int) = (a : Int) := wrap_natM _ (by omega)
      have e3 : Int.tdiv (a : Int) 2 = (p : Int) := by rw [← hp, ha]; exact Int.ofNat_tdiv a 2
      have e3' : (a : Int) / 2 = (p : Int) := by omega
      have e4 : IntKind.i64.wrap (p : Int) = (p : Int) := wrap_natM _ (by omega)
      have e5 : ((p : Int) == (k : Int)) = false := by simp; omega
      have HX := Lib.hid hx
      have HY := Lib.hid hy
      have HPP := Lib.hid hp
      by_cases hlt : f y < f x
      · rw [decide_eq_true hlt] at cL
        have mS := fun q : Nat => HL.out.t.runSwap (wr.drewN q) g ms.length c A (HB.out.drewN q).cell
        have cS := fun q : Nat => swapB (HB.out.drewN q) hx hy
        rw [HML.out] at mS cS
        have eS : ∀ args w, (callFunc 76 args).run Try.prog w = .ok (.enter 76 args) w := enters_of Try.func76 (by kernel_rfl) rfl
        have HU2 : Hid (UpX f (swapL ms p k x y) p) := HU.out.step h0 hp hx hy hlt
        have HP2 : Hid ((swapL ms p k x y).Perm ns) := (swapL_perm hx hy).trans HP.out
        clear hx hy hdx hdy hlt ha hp
        go_wp2_with (first | (go_at_fn fl; refine cL.mono ?_; rintro e w' ⟨rfl, q, rfl⟩) | (go_at_call 76; refine (cS _).mono ?_; rintro e w' ⟨rfl, hB2, hA2⟩))
        exact ⟨⟨p, _, rfl, by omega, Lib.hid hB2, HP2, HU2, Lib.hid ((HA.out.drewN q).trans hA2)⟩, by simp [intOf]; omega⟩
      · have hle : f x ≤ f y := by omega
        rw [decide_eq_false hlt] at cL
        have HF : Hid (HeapP f ms N) := by
          unfold Hid; rw [← HML.out]
          refine HU.out.done fun _ _ => ?_
          rw [HPP.out, atN_of HX.out, atN_of HY.out]
          exact hle
        clear hx hy hdx hdy hlt ha hp hle
        go_wp2_with (go_at_fn fl; refine cL.mono ?_; rintro e w' ⟨rfl, q, rfl⟩)
        go_end0
        exact ⟨rfl, ms, HB.out.drewN q, HP.out, HF.out, HA.out.drewN q⟩
set_option maxRecDepth 100000 in
theorem HeapT.enters : (∀ args w, (callFunc 26 args).run Try.prog w = .ok (.enter 26 args) w) ∧ (∀ args w, (callFunc 75 args).run Try.prog w = .ok (.enter 75 args) w) ∧ (∀ args w, (callFunc 74 args).run Try.prog w = .ok (.enter 74 args) w) ∧ (∀ args w, (callFunc 76 args).run Try.prog w = .ok (.enter 76 args) w) :=
  ⟨enters_of Try.func26 (by kernel_rfl) rfl, enters_of Try.func75 (by kernel_rfl) rfl, enters_of Try.func74 (by kernel_rfl) rfl, enters_of Try.func76 (by kernel_rfl) rfl⟩
set_option maxRecDepth 100000 in
set_option maxHeartbeats 4000000 in
/-- container/heap.Push -/
theorem heapPush {T S : TypeId} {g base : Nat} {rest : List Value} {f : Int → Int} {J : World → Prop} {D : Int → Prop} {fl : FuncId} {rv : Option Addr → Nat → Nat → Value} (hL : LessOK T S g base rest f J D fl rv) (A : Option Addr) (c : Nat) (ns : List Int) (v : Int) (w : World) (h : HeapB w g base S rest A c ns) (hJ : J w) (hD : ∀ x ∈ ns, D x) (hv : D v) (hl : ns.length < 100000) (hvb : -9223372036854775808 ≤ v ∧ v ≤ 9223372036854775807) (hP : HeapP f ns ns.length) :
    Calls Try.prog 51 #[.iface T (.pointer (some ⟨g, 0, none⟩)), .iface 3 (.int .i64 v)] w fun e w' => e = .returned (.tuple #[]) ∧ ∃ ms A' c', HeapB w' g base S rest A' c' ms ∧ ms.Perm (ns ++ [v]) ∧ HeapP f ms ms.length ∧ FarB w w' g base A A' := by
  obtain ⟨N, hN⟩ : ∃ N, ns.length = N := ⟨_, rfl⟩
  have hN1 : (ns ++ [v]).length = N + 1 := by rw [List.length_append, hN]; rfl
  have cP := numPush g base S rest A c ns v w h (by omega) hvb
  have mP := hL.t.runPush w g
  obtain ⟨eL, eP, _, _⟩ := HeapT.enters
  have hU := hP.push v
  rw [hN] at hU hl
  have HU := Lib.hid hU
  have HL := Lib.hid hL
  have HJ := Lib.hid hJ
  have HD : Hid (∀ x ∈ ns ++ [v], D x) := fun x hx => by
    rcases List.mem_append.1 hx with hx | hx
    · exact hD x hx
    · rw [List.mem_singleton.1 hx]; exact hv
  have HN := Lib.hid hN1
  have e0 : (((N + 1 : Nat) : Int)) - 1 = (N : Int) := by omega
  have e1 : ((N : Int) + 1) - 1 = (N : Int) := by omega
  have e2 : IntKind.i64.wrap (N : Int) = (N : Int) := wrap_natM _ (by omega)
  clear hL hJ hD hv hP hU h hN hN1
  go_enter Try.func51, Try.ntmps51
  go_wp2_with (go_at_call 75; refine cP.mono ?_; rintro e w1 ⟨rfl, A', c', hB1, hA1⟩; have mLen := HL.out.t.runLen w1 g (N + 1) c' A' (by have := hB1.cell; rwa [HN.out] at this); have cLen := numLen A' (N + 1) c' w1; have HB1 := Lib.hid hB1; have HA1 := Lib.hid hA1; clear hB1 hA1)
  refine cLen.mono ?_
  rintro e w2 ⟨rfl, rfl⟩
  have cU := heapUp HL.out A' c' N (N + 1) (ns ++ [v]) w1 HB1.out (HL.out.keep _ _ _ _ HJ.out HA1.out) HD.out HN.out (by omega) (by omega) HU.out
  clear cLen mLen mP cP
  go_wp2_with (go_at_call 56; refine cU.mono ?_; rintro e w3 ⟨rfl, ms, hB3, hP3, hH3, hA3⟩)
  go_end0
  exact ⟨rfl, ms, A', c', hB3, hP3, by rw [hP3.length_eq, HN.out]; exact hH3, HA1.out.trans hA3⟩
end Go.Proofs.Ytnaehnlpcjaaeaa
/- container/heap's down, and Pop, at merge's heaps. -/
namespace Go.Proofs.Ytnaehnlpcjaaeaa
open Go.RowKit

set_option maxRecDepth 100000 in
set_option maxHeartbeats 16000000 in
theorem heapDown {T S : TypeId} {g base : Nat} {rest : List Value} {f : Int → Int} {J : World → Prop} {D : Int → Prop} {fl : FuncId} {rv : Option Addr → Nat → Nat → Value} (hL : LessOK T S g base rest f J D fl rv) (A : Option Addr) (c N n : Nat) (ns : List Int) (w : World) (h : HeapB w g base S rest A c ns) (hJ : J w) (hD : ∀ x ∈ ns, D x) (hN : ns.length = N) (hn : n ≤ N) (hn0 : 0 < N) (hl : N ≤ 100000) (hX : DownX f ns 0 n) :
    Calls Try.prog 52 #[.iface T (.pointer (some ⟨g, 0, none⟩)), .int .i64 0, .int .i64 n] w fun e w' => (∃ b, e = .returned (.bool b)) ∧ ∃ ms, HeapB w' g base S rest A c ms ∧ ms.Perm ns ∧ HeapP f ms n ∧ (∀ k, n ≤ k → atN ms k = atN ns k) ∧ FarB w w' g base A A := by
  have HL := Lib.hid hL
  have HD := Lib.hid hD
  have H0 := Lib.hid h
  have HJ := Lib.hid hJ
  have HN := Lib.hid hN
  have HX0 := Lib.hid hX
  have eL := hL.enters
  have eS := HeapT.enters.2.2.2
  clear hL hD h hJ hN hX
  go_enter Try.func52, Try.ntmps52
  go_wp2
  go_loopw [7] (fun v wr => ∃ (i : Nat) (ms : List Int), v = .int .i64 (i : Int) ∧ i < N ∧ (i < n ∨ i = 0) ∧ Hid (HeapB wr g base S rest A c ms) ∧ Hid (ms.Perm ns) ∧ Hid (DownX f ms i n) ∧ Hid (∀ k, n ≤ k → atN ms k = atN ns k) ∧ Hid (FarB w wr g base A A)) (fun v _ => N - (intOf v).toNat)
  case atStart => exact ⟨0, ns, rfl, hn0, .inr rfl, H0, Lib.hid (List.Perm.refl _), HX0, fun _ _ => rfl, Lib.hid (FarB.refl _ _ _ _)⟩
  case round =>
    obtain ⟨i, ms, rfl, hi, hin, HB, HP, HX, HK, HA⟩ := hrel
    have HML : Hid (ms.length = N) := HP.out.length_eq.trans HN.out
    have HJr : Hid (J wr) := HL.out.keep _ _ _ _ HJ.out HA.out
    obtain ⟨a, ha⟩ : ∃ a, 2 * i + 1 = a := ⟨_, rfl⟩
    have HAI := Lib.hid ha
    have e4 : 2 * (i : Int) + 1 = (a : Int) := by omega
    have d1 : decide ((a : Int) < 0) = false := by simp
    by_cases han : n ≤ a
    · have HF : Hid (HeapP f ms n) := HX.out.done fun k h0 hk hp => by omega
      have d2 : decide ((n : Int) ≤ (a : Int)) = true := by simp; omega
      have d3 : decide (n ≤ a) = true := by simp; omega
      clear ha hin
      go_wp2
      go_ret
      exact ⟨⟨_, rfl⟩, ms, HB.out, HP.out, HF.out, HK.out, HA.out⟩
    · have d2 : decide ((n : Int) ≤ (a : Int)) = false := by simp; omega
      have d3 : decide (n ≤ a) = false := by simp; omega
      obtain ⟨b, hb⟩ : ∃ b, a + 1 = b := ⟨_, rfl⟩
      have HBI := Lib.hid hb
      have e6 : (a : Int) + 1 = (b : Int) := by omega
      have hii : i < n := by omega
      obtain ⟨x, hx⟩ : ∃ x, ms[i]? = some x := ⟨_, List.getElem?_eq_getElem (by rw [HML.out]; omega)⟩
      obtain ⟨y, hy⟩ : ∃ y, ms[a]? = some y := ⟨_, List.getElem?_eq_getElem (by rw [HML.out]; omega)⟩
      have hdx := HD.out x (HP.out.mem_iff.1 (List.mem_of_getElem? hx))
      have hdy := HD.out y (HP.out.mem_iff.1 (List.mem_of_getElem? hy))
      have mL := fun q : Nat => HL.out.find (wr.drewN q) A c ms (HB.out.drewN q)
      have mL0 := HL.out.find wr A c ms HB.out
      have mS := fun q : Nat => HL.out.t.runSwap (wr.drewN q) g ms.length c A (HB.out.drewN q).cell
      have HJd : ∀ q : Nat, J (wr.drewN q) := fun q => HL.out.keep _ _ A A HJr.out ((FarB.refl _ _ _ _).drewN q)
      have HJD := Lib.hid HJd
      have HXx := Lib.hid hx
      have HYy := Lib.hid hy
      clear ha hb hin HJd
      by_cases hbn : b < n
      · have d5 : decide ((b : Int) < (n : Int)) = true := by simp; omega
        have d6 : decide (b < n) = true := by simp; omega
        obtain ⟨z, hz⟩ : ∃ z, ms[b]? = some z := ⟨_, List.getElem?_eq_getElem (by rw [HML.out]; omega)⟩
        have hdz := HD.out z (HP.out.mem_iff.1 (List.mem_of_getElem? hz))
        have cZ := HL.out.less wr A c ms b a z y HB.out HJr.out hz hy hdz hdy (by rw [HML.out]; exact hl)
        rw [HML.out] at cZ
        have HZz := Lib.hid hz
        clear hx hy hz
        by_cases hzy : f z < f y
        · rw [decide_eq_true hzy] at cZ
          have hmin : ∀ k, 0 < k → k < n → (k - 1) / 2 = i → f z ≤ f (atN ms k) := fun k h0 hk hp => by
            have h7 := HAI.out
            have h8 := HBI.out
            rcases (show k = a ∨ k = b by omega) with rfl | rfl
            · rw [atN_of HYy.out]; omega
            · rw [atN_of HZz.out]; omega
          have HMIN := Lib.hid hmin
          clear hzy hmin
          by_cases hlt : f z < f x
          · have cL := fun q : Nat => HL.out.less (wr.drewN q) A c ms b i z x (HB.out.drewN q) (HJD.out q) HZz.out HXx.out hdz hdx (by rw [HML.out]; exact hl)
            have cS := fun q : Nat => swapB (HB.out.drewN q) HXx.out HZz.out
            rw [decide_eq_true hlt] at cL
            have HX2 : Hid (DownX f (swapL ms i b x z) b n) := HX.out.step (by have := HAI.out; have := HBI.out; omega) (by have := HAI.out; have := HBI.out; omega) (by have := HAI.out; have := HBI.out; omega) HXx.out HZz.out hlt (HMIN.out)
            have HP2 : Hid ((swapL ms i b x z).Perm ns) := (swapL_perm HXx.out HZz.out).trans HP.out
            have HK2 : Hid (∀ k, n ≤ k → atN (swapL ms i b x z) k = atN ns k) := fun k hk => by
              have h7 := HAI.out
              have h8 := HBI.out
              rw [swapL_at HXx.out HZz.out, if_neg (by omega), if_neg (by omega)]; exact HK.out k hk
            have hjn : b < n ∧ i < b := by have := HAI.out; have := HBI.out; omega
            obtain ⟨hjn1, hjn2⟩ := hjn
            clear hlt hdx hdy
            rw [HML.out] at mL mL0 mS cL cS
            go_wp2_with (first | (go_at_fn fl; refine cZ.mono ?_; rintro e w5 ⟨rfl, q5, rfl⟩) | (go_at_fn fl; refine (cL _).mono ?_; rintro e w6 ⟨rfl, q6, rfl⟩) | (go_at_call 76; refine (cS _).mono ?_; rintro e w7 ⟨rfl, hB2, hA2⟩))
            exact ⟨⟨b, _, rfl, by omega, by omega, Lib.hid hB2, HP2, HX2, HK2, Lib.hid ((HA.out.drewN _).trans hA2)⟩, by simp [intOf]; omega⟩
          · have cL := fun q : Nat => HL.out.less (wr.drewN q) A c ms b i z x (HB.out.drewN q) (HJD.out q) HZz.out HXx.out hdz hdx (by rw [HML.out]; exact hl)
            have hle : f x ≤ f z := by omega
            rw [decide_eq_false hlt] at cL
            have HF : Hid (HeapP f ms n) := HX.out.done fun k h0 hk hp => by
              have := (HMIN.out) k h0 hk hp
              rw [atN_of HXx.out]
              omega
            clear hlt hdx hdy hle
            rw [HML.out] at mL mL0 cL
            go_wp2_with (first | (go_at_fn fl; refine cZ.mono ?_; rintro e w5 ⟨rfl, q5, rfl⟩) | (go_at_fn fl; refine (cL _).mono ?_; rintro e w6 ⟨rfl, q6, rfl⟩))
            go_ret
            exact ⟨⟨_, rfl⟩, ms, HB.out.drewN _, HP.out, HF.out, HK.out, HA.out.drewN _⟩
        · rw [decide_eq_false hzy] at cZ
          have hmin : ∀ k, 0 < k → k < n → (k - 1) / 2 = i → f y ≤ f (atN ms k) := fun k h0 hk hp => by
            have h7 := HAI.out
            have h8 := HBI.out
            rcases (show k = a ∨ k = b by omega) with rfl | rfl
            · rw [atN_of HYy.out]; omega
            · rw [atN_of HZz.out]; omega
          have HMIN := Lib.hid hmin
          clear hzy hmin
          by_cases hlt : f y < f x
          · have cL := fun q : Nat => HL.out.less (wr.drewN q) A c ms a i y x (HB.out.drewN q) (HJD.out q) HYy.out HXx.out hdy hdx (by rw [HML.out]; exact hl)
            have cS := fun q : Nat => swapB (HB.out.drewN q) HXx.out HYy.out
            rw [decide_eq_true hlt] at cL
            have HX2 : Hid (DownX f (swapL ms i a x y) a n) := HX.out.step (by have := HAI.out; have := HBI.out; omega) (by have := HAI.out; have := HBI.out; omega) (by have := HAI.out; have := HBI.out; omega) HXx.out HYy.out hlt (HMIN.out)
            have HP2 : Hid ((swapL ms i a x y).Perm ns) := (swapL_perm HXx.out HYy.out).trans HP.out
            have HK2 : Hid (∀ k, n ≤ k → atN (swapL ms i a x y) k = atN ns k) := fun k hk => by
              have h7 := HAI.out
              have h8 := HBI.out
              rw [swapL_at HXx.out HYy.out, if_neg (by omega), if_neg (by omega)]; exact HK.out k hk
            have hjn : a < n ∧ i < a := by have := HAI.out; have := HBI.out; omega
            obtain ⟨hjn1, hjn2⟩ := hjn
            clear hlt hdx hdy
            rw [HML.out] at mL mL0 mS cL cS
            go_wp2_with (first | (go_at_fn fl; refine cZ.mono ?_; rintro e w5 ⟨rfl, q5, rfl⟩) | (go_at_fn fl; refine (cL _).mono ?_; rintro e w6 ⟨rfl, q6, rfl⟩) | (go_at_call 76; refine (cS _).mono ?_; rintro e w7 ⟨rfl, hB2, hA2⟩))
            exact ⟨⟨a, _, rfl, by omega, by omega, Lib.hid hB2, HP2, HX2, HK2, Lib.hid ((HA.out.drewN _).trans hA2)⟩, by simp [intOf]; omega⟩
          · have cL := fun q : Nat => HL.out.less (wr.drewN q) A c ms a i y x (HB.out.drewN q) (HJD.out q) HYy.out HXx.out hdy hdx (by rw [HML.out]; exact hl)
            have hle : f x ≤ f y := by omega
            rw [decide_eq_false hlt] at cL
            have HF : Hid (HeapP f ms n) := HX.out.done fun k h0 hk hp => by
              have := (HMIN.out) k h0 hk hp
              rw [atN_of HXx.out]
              omega
            clear hlt hdx hdy hle
            rw [HML.out] at mL mL0 cL
            go_wp2_with (first | (go_at_fn fl; refine cZ.mono ?_; rintro e w5 ⟨rfl, q5, rfl⟩) | (go_at_fn fl; refine (cL _).mono ?_; rintro e w6 ⟨rfl, q6, rfl⟩))
            go_ret
            exact ⟨⟨_, rfl⟩, ms, HB.out.drewN _, HP.out, HF.out, HK.out, HA.out.drewN _⟩
      · have d5 : decide ((b : Int) < (n : Int)) = false := by simp; omega
        have d6 : decide (b < n) = false := by simp; omega
        have hmin : ∀ k, 0 < k → k < n → (k - 1) / 2 = i → f y ≤ f (atN ms k) := fun k h0 hk hp => by
          have h7 := HAI.out
          have h8 := HBI.out
          obtain rfl : k = a := by omega
          rw [atN_of HYy.out]; omega
        have HMIN := Lib.hid hmin
        clear hx hy hmin
        by_cases hlt : f y < f x
        · have cL := HL.out.less wr A c ms a i y x HB.out HJr.out HYy.out HXx.out hdy hdx (by rw [HML.out]; exact hl)
          have cS := fun q : Nat => swapB (HB.out.drewN q) HXx.out HYy.out
          rw [decide_eq_true hlt] at cL
          have HX2 : Hid (DownX f (swapL ms i a x y) a n) := HX.out.step (by have := HAI.out; have := HBI.out; omega) (by have := HAI.out; have := HBI.out; omega) (by have := HAI.out; have := HBI.out; omega) HXx.out HYy.out hlt (HMIN.out)
          have HP2 : Hid ((swapL ms i a x y).Perm ns) := (swapL_perm HXx.out HYy.out).trans HP.out
          have HK2 : Hid (∀ k, n ≤ k → atN (swapL ms i a x y) k = atN ns k) := fun k hk => by
            have h7 := HAI.out
            have h8 := HBI.out
            rw [swapL_at HXx.out HYy.out, if_neg (by omega), if_neg (by omega)]; exact HK.out k hk
          have hjn : a < n ∧ i < a := by have := HAI.out; have := HBI.out; omega
          obtain ⟨hjn1, hjn2⟩ := hjn
          clear hlt hdx hdy
          rw [HML.out] at mL mL0 mS cL cS
          go_wp2_with (first | (go_at_fn fl; refine cL.mono ?_; rintro e w6 ⟨rfl, q6, rfl⟩) | (go_at_call 76; refine (cS _).mono ?_; rintro e w7 ⟨rfl, hB2, hA2⟩))
          exact ⟨⟨a, _, rfl, by omega, by omega, Lib.hid hB2, HP2, HX2, HK2, Lib.hid ((HA.out.drewN _).trans hA2)⟩, by simp [intOf]; omega⟩
        · have cL := HL.out.less wr A c ms a i y x HB.out HJr.out HYy.out HXx.out hdy hdx (by rw [HML.out]; exact hl)
          have hle : f x ≤ f y := by omega
          rw [decide_eq_false hlt] at cL
          have HF : Hid (HeapP f ms n) := HX.out.done fun k h0 hk hp => by
            have := (HMIN.out) k h0 hk hp
            rw [atN_of HXx.out]
            omega
          clear hlt hdx hdy hle
          rw [HML.out] at mL mL0 cL
          go_wp2_with (first | (go_at_fn fl; refine cL.mono ?_; rintro e w6 ⟨rfl, q6, rfl⟩))
          go_ret
          exact ⟨⟨_, rfl⟩, ms, HB.out.drewN _, HP.out, HF.out, HK.out, HA.out.drewN _⟩
end Go.Proofs.Ytnaehnlpcjaaeaa
