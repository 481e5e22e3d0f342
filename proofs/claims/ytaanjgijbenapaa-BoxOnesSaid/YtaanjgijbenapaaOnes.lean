/- purflelaw01.BoxOnes returns true at every input where each slice's capacity is no less than its length, and nothing that lay there has turned. -/
import Derived.Test.YtaanjgijbenapaaZero
import Derived.Deep.DeepCutAuto
import Derived.Test.YtaanjgijbenapaaOne
namespace Go.Proofs.Ytaanjgijbenapaa
open Go.RowKit

/-- v laid into l ahead of place k -/
def ins (l : List Int) (k : Nat) (v : Int) : List Int := l.take k ++ v :: l.drop k
theorem ins_zero (l : List Int) (v : Int) : ins l 0 v = v :: l := by simp [ins]
theorem ins_succ (x : Int) (l : List Int) (k : Nat) (v : Int) : ins (x :: l) (k + 1) v = x :: ins l k v := by simp [ins]
theorem ins_prod (l : List Int) (k : Nat) : prodI (ins l k 1) = prodI l := by
  unfold ins; rw [prodI_append, prodI_split l k]; simp [prodI]
theorem ins_any (l : List Int) (k : Nat) (v : Int) (p : Int → Bool) (hv : p v = false) : (ins l k v).any p = l.any p := by
  unfold ins
  rw [List.any_append, List.any_cons, hv, Bool.false_or, ← List.any_append, List.take_append_drop]
theorem ins_length {l : List Int} {k : Nat} (hk : k ≤ l.length) (v : Int) : (ins l k v).length = l.length + 1 := by simp [ins]; omega
theorem ins_num {xs cs : List Int} (h : xs.length = cs.length) (k : Nat) (hk : k ≤ xs.length) : numR (ins xs k 1) (ins cs k 0) = numR xs cs := by
  induction k generalizing xs cs with
  | zero => rw [ins_zero, ins_zero]; simp [numR]
  | succ k ih => cases xs with
    | nil => simp at hk
    | cons s l => cases cs with
      | nil => simp at h
      | cons c d =>
        rw [ins_succ, ins_succ]
        simp only [numR]
        rw [ins_prod, ih (by simpa using h) (by simpa using hk)]
theorem ins_zip {xs cs : List Int} (h : xs.length = cs.length) (k : Nat) (hk : k ≤ xs.length) : ((ins cs k 0).zip (ins xs k 1)).any badAt = (cs.zip xs).any badAt := by
  induction k generalizing xs cs with
  | zero => rw [ins_zero, ins_zero]; simp [badAt]
  | succ k ih => cases xs with
    | nil => simp at hk
    | cons s l => cases cs with
      | nil => simp at h
      | cons c d =>
        rw [ins_succ, ins_succ, List.zip_cons_cons, List.any_cons, ih (by simpa using h) (by simpa using hk), List.zip_cons_cons, List.any_cons]
theorem ins_inside {xs cs : List Int} (h : xs.length = cs.length) (k : Nat) (hk : k ≤ xs.length) : insideF (ins xs k 1) (ins cs k 0) = insideF xs cs := by
  unfold insideF
  rw [ins_zip h k hk, ins_length hk, ins_length (by omega)]
  simp
/-- Cells hangs on little -/
theorem cellsF_same {xs ys : List Int} (h1 : xs.length ≤ 4) (h2 : ys.length ≤ 4) (hn : (xs.any fun s => decide (s < 0)) = (ys.any fun s => decide (s < 0))) (hz : (xs.any fun s => s == 0) = (ys.any fun s => s == 0)) (hp : prodI xs = prodI ys) : cellsF xs = cellsF ys := by
  by_cases ha : (xs.any fun s => decide (s < 0)) = true
  · have hb := ha; rw [hn] at hb
    unfold cellsF; rw [if_pos (.inr ha), if_pos (.inr hb)]
  · have ha' : (xs.any fun s => decide (s < 0)) = false := by cases hh : (xs.any fun s => decide (s < 0)) with | false => rfl | true => exact absurd hh ha
    have hb' := ha'; rw [hn] at hb'
    by_cases hc : (xs.any fun s => s == 0) = true
    · have hd := hc; rw [hz] at hd
      have e1 : cellsF xs = (0, 0) := by unfold cellsF; rw [if_neg (by rw [ha']; simp; omega), if_pos hc]
      have e2 : cellsF ys = (0, 0) := by unfold cellsF; rw [if_neg (by rw [hb']; simp; omega), if_pos hd]
      rw [e1, e2]
    · have hc' : (xs.any fun s => s == 0) = false := by cases hh : (xs.any fun s => s == 0) with | false => rfl | true => exact absurd hh hc
      have hd' := hc'; rw [hz] at hd'
      rw [cellsF_pos (pos_of_any ha' hc') h1, cellsF_pos (pos_of_any hb' hd') h2, hp]
theorem ins_cells {xs : List Int} (h : xs.length ≤ 3) (k : Nat) (hk : k ≤ xs.length) : cellsF (ins xs k 1) = cellsF xs :=
  cellsF_same (by rw [ins_length hk]; omega) (by omega) (ins_any _ _ _ _ (by simp)) (ins_any _ _ _ _ (by simp)) (ins_prod xs k)
theorem prodI_reverse (xs : List Int) : prodI xs.reverse = prodI xs := by
  induction xs with
  | nil => rfl
  | cons s l ih => rw [List.reverse_cons, prodI_append, ih]; simp [prodI, Int.mul_comm]
theorem rev_cells {xs : List Int} (h : xs.length ≤ 3) : cellsF xs.reverse = cellsF xs :=
  cellsF_same (by simp; omega) (by omega) List.any_reverse List.any_reverse (prodI_reverse xs)
theorem ins_at {xs cs : List Int} (h : xs.length = cs.length) (h3 : xs.length ≤ 3) (k : Nat) (hk : k ≤ xs.length) : atF (ins xs k 1) (ins cs k 0) = atF xs cs := by
  unfold atF
  rw [ins_cells h3 k hk, ins_inside h k hk, ins_num h k hk]

theorem Ints.take_ {w : World} {B n k : Nat} {A : Option Addr} {xs : List Int} (h : Ints w B A n xs) (hk : k ≤ n) : Ints w B A k (xs.take k) := by
  obtain ⟨hl, hb, hc⟩ := h
  refine ⟨by rw [List.length_take]; omega, fun x hx => hb x (List.mem_of_mem_take hx), fun h0 => ?_⟩
  obtain ⟨b, off, e, hB, hx⟩ := hc (by omega)
  refine ⟨b, off, e, hB, fun j x hj => hx j x ?_⟩
  rw [List.getElem?_take] at hj
  split at hj
  · exact hj
  · cases hj
theorem Ints.drop_ {w : World} {B n k c : Nat} {A : Option Addr} {xs : List Int} (h : Ints w B A n xs) (hk : k ≤ n) (hc : n ≤ c) : Ints w B (if c = k then A else A.map (·.add (k * 1))) (n - k) (xs.drop k) := by
  obtain ⟨hl, hb, hcc⟩ := h
  refine ⟨by rw [List.length_drop]; omega, fun x hx => hb x (List.mem_of_mem_drop hx), fun h0 => ?_⟩
  obtain ⟨b, off, rfl, hB, hx⟩ := hcc (by omega)
  rw [if_neg (by omega)]
  refine ⟨b, off + k, ?_, hB, fun j x hj => ?_⟩
  · by_cases hk0 : k = 0
    · subst hk0; simp [Addr.add]
    · simp [Addr.add, hk0]
  · rw [List.getElem?_drop] at hj
    have := hx (k + j) x hj
    rwa [Nat.add_assoc]
theorem run_take {w : World} (A : Option Addr) (n c k : Nat) (hk : k ≤ n) (hc : n ≤ c) : (Instr.slice 22 (.slice A n c) none (some (.int .i64 (k : Int))) none).run Try.prog w = .ok (.slice A k c) w := by
  obtain ⟨i0, hi0, hz0, hz1, hz2⟩ := info_parts infoInt
  rw [run_slice_h w 22 A n c (by kernel_rfl) .i64 (k : Int) (by omega) (by omega)]
  have hs : (sizeOf (Try.prog.elem 22)).run Try.prog w = .ok 1 w := by
    have he : Try.prog.elem 22 = 3 := by kernel_rfl
    rw [he]; simp [sizeOf, typeInfo, hi0, hz1]
  rw [hs]
  simp only [Result.andThen, sliced, Int.toNat_natCast, Nat.zero_mul, Nat.sub_zero]
  have : (if c = 0 then A else A.map (·.add 0)) = A := by
    split
    · rfl
    · cases A <;> simp [Addr.add]
  rw [this]
theorem run_drop {w : World} (A : Option Addr) (n c k : Nat) (hk : k ≤ n) : (Instr.slice 22 (.slice A n c) (some (.int .i64 (k : Int))) none none).run Try.prog w = .ok (.slice (if c = k then A else A.map (·.add (k * 1))) (n - k) (c - k)) w := by
  obtain ⟨i0, hi0, hz0, hz1, hz2⟩ := info_parts infoInt
  rw [run_slice_l w 22 A n c (by kernel_rfl) .i64 (k : Int) (by omega) (by omega)]
  have hs : (sizeOf (Try.prog.elem 22)).run Try.prog w = .ok 1 w := by
    have he : Try.prog.elem 22 = 3 := by kernel_rfl
    rw [he]; simp [sizeOf, typeInfo, hi0, hz1]
  rw [hs]
  simp only [Result.andThen, sliced, Int.toNat_natCast]

/-- the list when q places have been turned round -/
def turned (xs : List Int) (q : Nat) : List Int := xs.reverse.take q ++ xs.drop q
theorem turned_length {xs : List Int} {q : Nat} (hq : q ≤ xs.length) : (turned xs q).length = xs.length := by simp [turned]; omega
theorem turned_set {xs : List Int} {q : Nat} {x : Int} (hq : q < xs.length) (hx : xs[xs.length - 1 - q]? = some x) : (turned xs q).set q x = turned xs (q + 1) := by
  unfold turned
  have hr : xs.reverse[q]? = some x := by rw [List.getElem?_reverse hq]; exact hx
  have hd : xs[q]? = some (xs[q]'hq) := List.getElem?_eq_getElem hq
  rw [take_succ_of hr, drop_of hd, List.set_append_right _ _ (by rw [List.length_take, List.length_reverse]; omega), List.length_take, List.length_reverse, Nat.min_eq_left (by omega), Nat.sub_self, List.set_cons_zero, List.append_assoc]
  rfl
theorem wpList_appendInts {P : Program} (w : World) {ops : Array Oper} {rest : List Oper} {o : Oper} {a : Act} {Q : Exit → Act → World → Prop}
    (hg : o.guard = none) (s x : Operand) (t : TypeId) (hop : o.op = Op.call { callee := Callee.builtin Builtin.append, args := #[s, x], argTypes := #[t, t] })
    (base : Nat) (e : TypeId) (i : TypeInfo) (ht : P.underlying t = some (.slice e)) (hi : P.info? e = some i) (hz : i.zero = some (.int .i64 0)) (h1 : i.size = 1) (h2 : i.bytes = 8)
    (A A2 : Option Addr) (c m c2 B p r : Nat) (xs ys : List Int) (hs : a.eval s = .slice A p c) (hx : a.eval x = .slice A2 m c2) (ho : OwnI w base e A c xs) (hp : xs.length = p) (hr : p + m = r) (hi2 : Ints w B A2 m ys) (hl : r ≤ 1000000) (hb : base ≤ w.heap.size)
    (hK : ∀ A' c' w', OwnI w' base e A' c' (xs ++ ys) → w.grownBy w' (Value.slice A p c).ownBlock → wpList P ops Q rest (a.put o.dst (.slice A' r c')) w') : wpList P ops Q (o :: rest) a w := by
  refine wpList_plain hg fun K hK' => ?_
  subst hp
  subst hr
  obtain ⟨A', c', w', hrun, ho', hb'⟩ := run_appendInts (P := P) w base t o.type e i ht hi hz h1 h2 A A2 c m c2 B xs ys ho hi2 hl hb
  unfold Oper.wp
  simp [execOp, hop, resolve, invoke, builtin, hs, hx, hrun, Result.andThen]
  exact hK' _ _ (hK _ _ _ ho' hb')
theorem src_new {v : Int} {t : TypeId} (w : World) (hv : -9223372036854775808 ≤ v ∧ v ≤ 9223372036854775807) : Ints (w.alloc (.cells #[.int .i64 v] t)) (w.heap.size + 1) (some ⟨w.heap.size, 0, none⟩) 1 [v] := Ints.of_new w t [v] (by simpa using hv)
theorem src_one {v : Int} {t : TypeId} {w w2 : World} (hb : Below (w.alloc (.cells #[.int .i64 v] t)).drew.heap.size (w.alloc (.cells #[.int .i64 v] t)).drew w2) (hv : -9223372036854775808 ≤ v ∧ v ≤ 9223372036854775807) : Ints w2 w2.heap.size (some ⟨w.heap.size, 0, none⟩) 1 [v] := by
  have h1 : Ints (w.alloc (.cells #[.int .i64 v] t)).drew (w.heap.size + 1) (some ⟨w.heap.size, 0, none⟩) 1 [v] := src_new w hv
  have hs : w.heap.size + 1 ≤ (w.alloc (.cells #[.int .i64 v] t)).drew.heap.size := by
    have : (w.alloc (.cells #[.int .i64 v] t)).heap.size = w.heap.size + 1 := World.size_alloc _ _
    exact Nat.le_of_eq this.symm
  exact (h1.below (hb.mono hs)).more (Nat.le_trans hs hb.size)
theorem below_app {w1 W w3 : World} {base p c : Nat} {e : TypeId} {A : Option Addr} {xs : List Int} (hb : Below base w1 W) (hg : W.grownBy w3 (Value.slice A p c).ownBlock) (ho : OwnI W base e A c xs) (hp : xs.length = p) (hs : base ≤ W.heap.size) : Below base w1 w3 := by
  subst hp
  exact hb.grown hg hs (fun k hk => (ho.1.lt k hk).1)
theorem len_take {w : World} {B n k : Nat} {A : Option Addr} {xs : List Int} (h : Ints w B A n xs) (hk : k ≤ n) : ([] ++ xs.take k : List Int).length = k := by
  have := h.1; simp; omega
theorem len_take1 {w : World} {B n k : Nat} {A : Option Addr} {xs : List Int} {v : Int} (h : Ints w B A n xs) (hk : k ≤ n) : ([] ++ xs.take k ++ [v] : List Int).length = k + 1 := by
  have := h.1; simp; omega

set_option maxRecDepth 100000 in
set_option maxHeartbeats 2000000 in
theorem boxOnes_big (A A2 : Option Addr) (n c c2 k : Nat) (xs cs : List Int) (v t : Int) (w : World) (h : Ints w w.heap.size A n xs) (h2 : Ints w w.heap.size A2 n cs) (hc : n ≤ c) (hc2 : n ≤ c2) (hn : n ≤ 3)
    (ht : v.tmod ((n : Int) + 1) = t) (ht1 : -((n : Int) + 1) < t) (ht2 : t < (n : Int) + 1) (hk0 : (t + n + 1) % ((n : Int) + 1) = k) (hk : k ≤ n) :
    Calls Try.prog 9 #[.slice A n c, .slice A2 n c2, .int .i64 v] w fun e w' => e = .returned (.bool true) ∧ Below w.heap.size w w' := by
  have hL := fun W => live_any W
  obtain ⟨i1, hi1, hy0, hy1, hy2⟩ := info_parts infoInt
  have s1 := fun W => run_take (w := W) A n c k hk hc
  have s2 := fun W => run_drop (w := W) A n c k hk
  have s3 := fun W => run_take (w := W) A2 n c2 k hk hc2
  have s4 := fun W => run_drop (w := W) A2 n c2 k hk
  have T1 := fun W (hb : Below w.heap.size w W) => (h.below hb).take_ hk
  have T2 := fun W (hb : Below w.heap.size w W) => (h.below hb).drop_ hk hc
  have T3 := fun W (hb : Below w.heap.size w W) => (h2.below hb).take_ hk
  have T4 := fun W (hb : Below w.heap.size w W) => (h2.below hb).drop_ hk hc2
  obtain ⟨D1, hD1⟩ : ∃ D, (if c = k then A else A.map (·.add (k * 1))) = D := ⟨_, rfl⟩
  obtain ⟨D2, hD2⟩ : ∃ D, (if c2 = k then A2 else A2.map (·.add (k * 1))) = D := ⟨_, rfl⟩
  rw [hD1] at s2 T2
  rw [hD2] at s4 T4
  clear hD1 hD2
  have hd : decide ((4 : Int) ≤ (n : Int)) = false := by simp; omega
  have hp0 : Below w.heap.size w w := Below.refl _ _
  go_enter Try.func9, Try.ntmps9
  go_upto_region 5 with (go_at_call 11; refine (hL _).mono ?_; rintro e w1 ⟨rfl, hb1⟩)
  simp only [hk0]
  go_cut [8] (fun s wx => ∃ A8 c8, s = .slice A8 (n + 1) c8 ∧ OwnI wx w1.heap.size 3 A8 c8 (ins xs k 1) ∧ Below w1.heap.size w1 wx)
  case first =>
    go_region_law (first | (refine step_appendInts rfl (.const (.slice none 0 0)) (.tmp 49) 22 rfl w1.heap.size 3 i1 Try.underlying22 hi1 hy0 hy1 hy2 none A 0 k c w.heap.size 0 k [] (xs.take k) rfl rfl (OwnI.nil_ _ _ _) rfl (Nat.zero_add _) (T1 _ (by first | exact hb1.drew | exact (hb1.alloc hb1.size _).drew)) (by omega) (by simp) ?_; intro B1 e1 w2 HO1 HG1; have HB1 := below_of_none HG1; have HC1 : Below w1.heap.size w1 w2 := (by first | exact (Below.refl _ _).drew.trans HB1 | exact (((Below.refl _ _).alloc (Nat.le_refl _) _).drew).trans (HB1.mono (by simp)))) | (refine step_appendInts rfl (.tmp 50) (.tmp 51) 22 rfl w1.heap.size 3 i1 Try.underlying22 hi1 hy0 hy1 hy2 B1 _ e1 1 1 _ k (k + 1) _ [1] rfl rfl (HO1.alloc _) (len_take h hk) rfl (src_new (v := 1) w2 (by omega)) (by omega) (HC1.alloc HC1.size _).size ?_; intro B2 e2 w3 HO2 HG2; have HC2 := below_app (HC1.alloc HC1.size _) HG2 (HO1.alloc _) (len_take h hk) (HC1.alloc HC1.size _).size) | (refine step_appendInts rfl (.tmp 50) (.tmp 51) 22 rfl w1.heap.size 3 i1 Try.underlying22 hi1 hy0 hy1 hy2 B1 _ e1 1 1 _ k (k + 1) _ [1] rfl rfl HO1 (len_take h hk) rfl (src_one (v := 1) HB1 (by omega)) (by omega) HC1.size ?_; intro B2 e2 w3 HO2 HG2; have HC2 := below_app HC1 HG2 HO1 (len_take h hk) HC1.size) | (refine step_appendInts rfl (.tmp 52) (.tmp 55) 22 rfl w1.heap.size 3 i1 Try.underlying22 hi1 hy0 hy1 hy2 B2 D1 e2 (n - k) (c - k) w.heap.size (k + 1) (n + 1) _ (xs.drop k) rfl rfl HO2 (len_take1 h hk) (by omega) (T2 _ (hb1.trans (HC2.mono hb1.size))) (by omega) HC2.size ?_; intro B3 e3 w4 HO3 HG3; have HC3 := below_app HC2 HG3 HO2 (len_take1 h hk) HC2.size))
    all_goals go_wp2_with fail
    all_goals go_meet
    all_goals exact ⟨B3, e3, rfl, by simpa [ins] using HO3, HC3⟩
  case rest =>
    obtain ⟨A8, c8, rfl, HO8, HB8⟩ := hcut
    obtain ⟨w9, hw9⟩ : ∃ w9 : World, w9 = wc := ⟨wc, rfl⟩
    subst hw9
    have hb9 : Below w.heap.size w w9 := hb1.trans (HB8.mono hb1.size)
    go_upto_region 6 with fail
    go_cut [9] (fun s wx => ∃ A9 c9, s = .slice A9 (n + 1) c9 ∧ OwnI wx w9.heap.size 3 A9 c9 (ins cs k 0) ∧ Below w9.heap.size w9 wx)
    case first =>
      go_region_law (first | (refine step_appendInts rfl (.const (.slice none 0 0)) (.tmp 59) 22 rfl w9.heap.size 3 i1 Try.underlying22 hi1 hy0 hy1 hy2 none A2 0 k c2 w.heap.size 0 k [] (cs.take k) rfl rfl (OwnI.nil_ _ _ _) rfl (Nat.zero_add _) (T3 _ (by first | exact hb9.drew | exact (hb9.alloc hb9.size _).drew)) (by omega) (by simp) ?_; intro B1 e1 w2 HO1 HG1; have HB1 := below_of_none HG1; have HC1 : Below w9.heap.size w9 w2 := (by first | exact (Below.refl _ _).drew.trans HB1 | exact (((Below.refl _ _).alloc (Nat.le_refl _) _).drew).trans (HB1.mono (by simp)))) | (refine step_appendInts rfl (.tmp 60) (.tmp 61) 22 rfl w9.heap.size 3 i1 Try.underlying22 hi1 hy0 hy1 hy2 B1 _ e1 1 1 _ k (k + 1) _ [0] rfl rfl (HO1.alloc _) (len_take h2 hk) rfl (src_new (v := 0) w2 (by omega)) (by omega) (HC1.alloc HC1.size _).size ?_; intro B2 e2 w3 HO2 HG2; have HC2 := below_app (HC1.alloc HC1.size _) HG2 (HO1.alloc _) (len_take h2 hk) (HC1.alloc HC1.size _).size) | (refine step_appendInts rfl (.tmp 60) (.tmp 61) 22 rfl w9.heap.size 3 i1 Try.underlying22 hi1 hy0 hy1 hy2 B1 _ e1 1 1 _ k (k + 1) _ [0] rfl rfl HO1 (len_take h2 hk) rfl (src_one (v := 0) HB1 (by omega)) (by omega) HC1.size ?_; intro B2 e2 w3 HO2 HG2; have HC2 := below_app HC1 HG2 HO1 (len_take h2 hk) HC1.size) | (refine step_appendInts rfl (.tmp 62) (.tmp 65) 22 rfl w9.heap.size 3 i1 Try.underlying22 hi1 hy0 hy1 hy2 B2 D2 e2 (n - k) (c2 - k) w.heap.size (k + 1) (n + 1) _ (cs.drop k) rfl rfl HO2 (len_take1 h2 hk) (by omega) (T4 _ (hb9.trans (HC2.mono hb9.size))) (by omega) HC2.size ?_; intro B3 e3 w4 HO3 HG3; have HC3 := below_app HC2 HG3 HO2 (len_take1 h2 hk) HC2.size))
      all_goals go_wp2_with fail
      all_goals go_meet
      all_goals exact ⟨B3, e3, rfl, by simpa [ins] using HO3, HC3⟩
    case rest =>
      obtain ⟨A9, c9, rfl, HO9, HB9⟩ := hcut
      have hb10 := hb9.trans (HB9.mono hb9.size)
      have hlx := h.1
      have hlc := h2.1
      have l8 : (ins xs k 1).length = n + 1 := by rw [ins_length (by omega), hlx]
      have l9 : (ins cs k 0).length = n + 1 := by rw [ins_length (by omega), hlc]
      have I8 := (HO8.ints.below HB9).more HB9.size
      have I9 := HO9.ints
      rw [l8] at I8
      rw [l9] at I9
      have C1 := fun W (hb : Below w.heap.size w W) => cells_any A n c xs W w.heap.size (h.below hb) (by omega)
      have C2 := fun W (ho : Ints W W.heap.size A8 (n + 1) (ins xs k 1)) => cells_any A8 (n + 1) c8 (ins xs k 1) W W.heap.size ho (by omega)
      have C3 := fun W A' c' (ho : Ints W W.heap.size A' n xs.reverse) => cells_any A' n c' xs.reverse W W.heap.size ho (by omega)
      have P1 := fun W (hb : Below w.heap.size w W) => at_any A A2 n n c c2 xs cs W ((h.below hb).more hb.size) ((h2.below hb).more hb.size) (by omega) (by omega)
      have P2 := fun W (ho : Ints W W.heap.size A8 (n + 1) (ins xs k 1)) (ho2 : Ints W W.heap.size A9 (n + 1) (ins cs k 0)) => at_any A8 A9 (n + 1) (n + 1) c8 c9 (ins xs k 1) (ins cs k 0) W ho ho2 (by omega) (by omega)
      rw [ins_cells (by omega) k (by omega)] at C2
      rw [rev_cells (by omega)] at C3
      rw [ins_at (by omega) (by omega) k (by omega)] at P2
      obtain ⟨N, hN⟩ : ∃ N, (cellsF xs).1 = N := ⟨_, rfl⟩
      obtain ⟨E, hE⟩ : ∃ E, (cellsF xs).2 = E := ⟨_, rfl⟩
      obtain ⟨X, hX⟩ : ∃ X, (atF xs cs).1 = X := ⟨_, rfl⟩
      obtain ⟨G, hG⟩ : ∃ G, (atF xs cs).2 = G := ⟨_, rfl⟩
      rw [hN, hE] at C1 C2 C3
      rw [hX, hG] at P1 P2
      have HLX := Lib.hid hlx
      clear hN hE hX hG hlx hlc l8 l9 s1 s2 s3 s4 T1 T2 T3 T4 hL HO8 HO9 ht hk0
      go_wp2_with (first | (go_at_call 12; fail))
      refine (C1 _ hb10).mono ?_
      rintro x w' ⟨rfl, rfl⟩
      go_wp2_with fail
      refine (C2 _ I8).mono ?_
      rintro x w' ⟨rfl, rfl⟩
      go_wp2_with fail
      refine (P1 _ hb10).mono ?_
      rintro x w11 ⟨rfl, hb11⟩
      have hb12 := hb10.trans (hb11.mono hb10.size)
      have I8' := (I8.below hb11).more hb11.size
      have I9' := (I9.below hb11).more hb11.size
      go_wp2_with fail
      refine (P2 _ I8' I9').mono ?_
      rintro x w13 ⟨rfl, hb13⟩
      have hb14 := hb12.trans (hb13.mono hb12.size)
      go_wp2_with (at_builtin; refine wpList_appendInts _ rfl (.const (.slice none 0 0)) (.tmp 89) 22 rfl w13.heap.size 3 i1 Try.underlying22 hi1 hy0 hy1 hy2 none A 0 n c w.heap.size 0 n [] xs rfl rfl (OwnI.nil_ _ _ _) rfl (Nat.zero_add _) (h.below hb14) (by omega) (Nat.le_refl _) ?_; intro A15 c15 w15 HO15 HG15; have HB15 := below_of_none HG15)
      have hb16 := hb14.trans (HB15.mono hb14.size)
      have HR0 : OwnI w15 w13.heap.size 3 A15 c15 (turned xs 0) := by simpa [turned] using HO15
      clear C1 C2 P1 P2 I8 I9 I8' I9' HO15
      go_loopw [93] (fun i wr => ∃ q : Nat, q ≤ n ∧ i = .int .i64 q ∧ OwnI wr w13.heap.size 3 A15 c15 (turned xs q) ∧ Below w.heap.size w wr) (fun i _ => n - (intOf i).toNat)
      case atStart => exact ⟨0, Nat.zero_le _, rfl, HR0, hb16⟩
      case round =>
        obtain ⟨q, hq, rfl, HO, hB⟩ := hrel
        by_cases hlt : q < n
        · obtain ⟨b, off, x, rfl, hbb, HX, hcx, hx1, hx2⟩ := (h.below hB).at_ (k := n - 1 - q) (by omega)
          obtain ⟨g, rfl, hgb, hgl⟩ := HO.some_ (by rw [turned_length (by rw [HLX.out]; omega), HLX.out]; omega)
          obtain ⟨y, hy⟩ : ∃ y, (turned xs q)[q]? = some y := ⟨_, List.getElem?_eq_getElem (by rw [turned_length (by rw [HLX.out]; omega), HLX.out]; omega)⟩
          obtain ⟨hcy, hfy⟩ := HO.cell_ hy
          have hset := HO.set_ q x ⟨hx1, hx2⟩
          rw [turned_set (by rw [HLX.out]; omega) (by rw [HLX.out]; exact HX.out)] at hset
          have hB2 := hB.setCell (p := ⟨g, q, none⟩) (Nat.le_trans hb14.size hgb) (.int .i64 x)
          have hcx' : wr.cell? ⟨b, off + ((n : Int) - 1 - q).toNat, none⟩ = some (.int .i64 x) := by rw [show ((n : Int) - 1 - q).toNat = n - 1 - q by omega]; exact hcx
          have hi0 : (0 : Int) ≤ (n : Int) - 1 - q := by omega
          have hi9 : (n : Int) - 1 - q < n := by omega
          clear hy HO
          go_wp2
          go_roundw
          case rel => exact ⟨q + 1, by omega, by go_num, hset, hB2⟩
          case measure => simp [intOf]; omega
        · obtain rfl : q = n := by omega
          have IR := HO.ints
          rw [turned_length (by rw [HLX.out]; omega), HLX.out] at IR
          have hrv : turned xs q = xs.reverse := by unfold turned; rw [List.take_of_length_le (by rw [List.length_reverse, HLX.out]; omega), List.drop_of_length_le (by rw [HLX.out]; omega), List.append_nil]
          rw [hrv] at IR
          clear hrv HO
          go_wp2_with (go_at_call 12; refine (C3 _ A15 c15 IR).mono ?_; rintro x w' ⟨rfl, rfl⟩)
          go_ret
          exact ⟨rfl, hB⟩

theorem boxOnes_w (w : World) (A : Option Addr) (n c : Nat) (xs : List Int) (h : Ints w w.heap.size A n xs) (_hn : n ≤ 9223372036854775807) (hc : n ≤ c) (A2 : Option Addr) (n2 c2 : Nat) (cs : List Int) (h2 : Ints w w.heap.size A2 n2 cs) (_hn2 : n2 ≤ 9223372036854775807) (hc2 : n2 ≤ c2)
    (v : Int) (_h1 : -9223372036854775808 ≤ v) (_h2 : v ≤ 9223372036854775807) :
    Calls Try.prog 9 #[.slice A n c, .slice A2 n2 c2, .int .i64 v] w fun e w' => e = .returned (.bool true) ∧ Below w.heap.size w w' := by
  have hL := fun W => live_any W
  by_cases h4 : 4 ≤ n
  · have hd : decide ((4 : Int) ≤ (n : Int)) = true := by simp; omega
    go_enter Try.func9, Try.ntmps9
    go_wp2_with (go_at_call 11; refine (hL _).mono ?_; rintro e w1 ⟨rfl, hb1⟩)
    go_ret
    exact ⟨rfl, hb1⟩
  by_cases hne : n2 = n
  · subst hne
    have h3 := Int.tmod_lt_of_pos v (b := (n2 : Int) + 1) (by omega)
    have h4 : -((n2 : Int) + 1) < v.tmod ((n2 : Int) + 1) := by have := Int.tmod_lt_of_pos (-v) (b := (n2 : Int) + 1) (by omega); rw [Int.neg_tmod] at this; omega
    have h5 := Int.emod_nonneg (v.tmod ((n2 : Int) + 1) + n2 + 1) (b := (n2 : Int) + 1) (by omega)
    have h6 := Int.emod_lt_of_pos (v.tmod ((n2 : Int) + 1) + n2 + 1) (b := (n2 : Int) + 1) (by omega)
    exact boxOnes_big A A2 n2 c c2 ((v.tmod ((n2 : Int) + 1) + n2 + 1) % ((n2 : Int) + 1)).toNat xs cs v _ w h h2 hc hc2 (by omega) rfl h4 h3 (by omega) (by omega)
  · have hd : decide ((4 : Int) ≤ (n : Int)) = false := by simp; omega
    have e1 : ((n2 : Int) == (n : Int)) = false := by simp; omega
    have e2 : ((n2 : Int) != (n : Int)) = true := by simp; omega
    go_enter Try.func9, Try.ntmps9
    go_wp2_with (go_at_call 11; refine (hL _).mono ?_; rintro e w1 ⟨rfl, hb1⟩)
    go_ret
    exact ⟨rfl, hb1⟩
end Go.Proofs.Ytaanjgijbenapaa
