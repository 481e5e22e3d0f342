/- The contract of slices.insertionSortCmpFunc at entries, by an order of their modes. -/
import Derived.Test.YtpjelcghlnmoeaaECmp
import Derived.StillTailTactics
import Derived.RegionTactic
namespace Go.Proofs.Ytpjelcghlnmoeaa
open Go.RowKit

/-- the cells of entries -/
def cellsE : List Ent → List Value
  | [] => []
  | x :: l => .slice x.A x.n x.c :: .int .i64 x.v :: cellsE l
theorem cellsE_length (es : List Ent) : (cellsE es).length = 2 * es.length := by
  induction es with
  | nil => rfl
  | cons x l ih => simp [cellsE, ih]; omega
theorem cellsE_append (a b : List Ent) : cellsE (a ++ b) = cellsE a ++ cellsE b := by
  induction a with
  | nil => rfl
  | cons x l ih => simp [cellsE, ih]
theorem cellsE_at {es : List Ent} {k : Nat} {x : Ent} (h : es[k]? = some x) : (cellsE es)[2 * k]? = some (.slice x.A x.n x.c) ∧ (cellsE es)[2 * k + 1]? = some (.int .i64 x.v) := by
  induction es generalizing k with
  | nil => simp at h
  | cons y l ih => cases k with
    | zero => simp at h; subst h; simp [cellsE]
    | succ k =>
      have := ih (k := k) (by simpa using h)
      rw [show 2 * (k + 1) = 2 * k + 1 + 1 by omega]
      simpa [cellsE] using this
theorem cellsE_set {es : List Ent} {k : Nat} {x : Ent} (h : k < es.length) : ((cellsE es).set (2 * k) (.slice x.A x.n x.c)).set (2 * k + 1) (.int .i64 x.v) = cellsE (es.set k x) := by
  induction es generalizing k with
  | nil => simp at h
  | cons y l ih => cases k with
    | zero => simp [cellsE]
    | succ k =>
      rw [show 2 * (k + 1) = 2 * k + 1 + 1 by omega]
      simp only [cellsE, List.set_cons_succ, List.cons.injEq, true_and]
      exact ih (by simpa using h)
/-- the header (A, n) reads as xs, and not in block g -/
def IntsOff (w : World) (g : Nat) (A : Option Addr) (n : Nat) (xs : List Int) : Prop := Ints w w.heap.size A n xs ∧ ∀ b off, A = some ⟨b, off, none⟩ → b ≠ g
theorem IntsOff.grown {w wr : World} {g n : Nat} {A : Option Addr} {xs : List Int} (h : IntsOff w g A n xs) (hg : w.grownBy wr (some g)) : Ints wr wr.heap.size A n xs := by
  obtain ⟨⟨hl, hb, hc⟩, hne⟩ := h
  refine ⟨hl, hb, fun h0 => ?_⟩
  obtain ⟨b, off, rfl, hB, hx⟩ := hc h0
  refine ⟨b, off, rfl, Nat.lt_of_lt_of_le hB hg.size, fun k x hk => ?_⟩
  exact hg.cell (hx k x hk) (fun e => hne b off rfl (by injection e))
def ltE (os : List Int) (x y : Ent) : Bool := decide (cmpE os x.cs y.cs < 0)
/-- x put into what is in order ahead of it, from behind -/
def insE (os : List Int) (P : List Ent) (x : Ent) : List Ent := (P.reverse.dropWhile (ltE os x)).reverse ++ x :: (P.reverse.takeWhile (ltE os x)).reverse
def sortE (os : List Int) (l : List Ent) : List Ent := l.foldl (insE os) []
theorem insE_eq {os : List Int} {P1 S : List Ent} {x : Ent} (h1 : ∀ y ∈ S, ltE os x y = true) (h2 : ∀ z, P1.getLast? = some z → ltE os x z = false) : insE os (P1 ++ S) x = P1 ++ x :: S := by
  have e1 : (P1 ++ S).reverse.takeWhile (ltE os x) = S.reverse ∧ (P1 ++ S).reverse.dropWhile (ltE os x) = P1.reverse := by
    rw [List.reverse_append]
    have hS : ∀ y ∈ S.reverse, ltE os x y = true := fun y hy => h1 y (List.mem_reverse.1 hy)
    have hP : ∀ z, P1.reverse.head? = some z → ltE os x z = false := fun z hz => h2 z (by rw [List.head?_reverse] at hz; exact hz)
    generalize S.reverse = T at hS
    generalize P1.reverse = Q at hP
    induction T with
    | nil =>
      cases Q with
      | nil => simp
      | cons z Q =>
        have := hP z rfl
        exact ⟨by simp [this], by simp [this]⟩
    | cons y T ih =>
      have hy := hS y (by simp)
      have := ih (fun z hz => hS z (by simp [hz]))
      exact ⟨by simp [hy, this.1], by simp [hy, this.2]⟩
  unfold insE
  rw [e1.1, e1.2, List.reverse_reverse, List.reverse_reverse]

theorem insE_mem {os : List Int} {P : List Ent} {x y : Ent} (h : y ∈ insE os P x) : y ∈ P ∨ y = x := by
  unfold insE at h
  rcases List.mem_append.1 h with h | h
  · exact .inl (List.mem_reverse.1 ((List.dropWhile_sublist _).mem (List.mem_reverse.1 h)))
  · rcases List.mem_cons.1 h with h | h
    · exact .inr h
    · exact .inl (List.mem_reverse.1 ((List.takeWhile_sublist _).mem (List.mem_reverse.1 h)))
theorem insE_length (os : List Int) (P : List Ent) (x : Ent) : (insE os P x).length = P.length + 1 := by
  unfold insE
  have := congrArg List.length (List.takeWhile_append_dropWhile (p := ltE os x) (l := P.reverse))
  simp only [List.length_append, List.length_reverse, List.length_cons] at this ⊢
  omega
theorem sortE_snoc (os : List Int) (l : List Ent) (x : Ent) : sortE os (l ++ [x]) = insE os (sortE os l) x := by unfold sortE; rw [List.foldl_append]; rfl
theorem sortE_one (os : List Int) (es : List Ent) : es = sortE os (es.take 1) ++ es.drop 1 := by
  cases es with
  | nil => rfl
  | cons y t => simp [sortE, insE]
theorem sortE_few (os : List Int) (es : List Ent) {i b : Nat} (hi : 1 ≤ i) (hib : i ≤ b ∨ i = 1) (hb : b ≤ i) : sortE os (es.take i) ++ es.drop i = sortE os (es.take b) ++ es.drop b := by
  by_cases h : i = b
  · rw [h]
  · obtain rfl : i = 1 := by omega
    obtain rfl : b = 0 := by omega
    rw [← sortE_one]; rfl
theorem sortE_facts (os : List Int) (l : List Ent) : (sortE os l).length = l.length ∧ ∀ y ∈ sortE os l, y ∈ l := by
  have key : ∀ (n : Nat) (l : List Ent), l.length = n → (sortE os l).length = l.length ∧ ∀ y ∈ sortE os l, y ∈ l := by
    intro n
    induction n with
    | zero => intro l h; obtain rfl := List.eq_nil_of_length_eq_zero h; exact ⟨rfl, fun y hy => hy⟩
    | succ n ih =>
      intro l h
      obtain ⟨T, y, rfl⟩ : ∃ T y, l = T ++ [y] := ⟨l.dropLast, l.getLast (by intro e; subst e; simp at h), (List.dropLast_concat_getLast _).symm⟩
      have hT : T.length = n := by simpa using h
      obtain ⟨h1, h2⟩ := ih T hT
      rw [sortE_snoc]
      refine ⟨by rw [insE_length, h1]; simp, fun z hz => ?_⟩
      rcases insE_mem hz with hz | hz
      · exact List.mem_append_left _ (h2 z hz)
      · subst hz; simp
  exact key _ l rfl
theorem grown_below' {w0 w1 w2 : World} {g : Nat} (hg : w0.grownBy w1 (some g)) (hb : Below w1.heap.size w1 w2) : w0.grownBy w2 (some g) :=
  ⟨hb.os.trans hg.os, hb.tape.trans hg.tape, hb.output.trans hg.output, Nat.le_trans hg.size hb.size, fun i hi hne => (hb.block i (Nat.lt_of_lt_of_le hi hg.size)).trans (hg.block i hi hne)⟩
theorem blk_ent {w : World} {g j : Nat} {M : List Ent} {post : List Value} {x : Ent} (h : w.heap[g]? = some (.cells (cellsE M ++ post).toArray 37 (0, 0))) (hx : M[j]? = some x) :
    (w.cell? ⟨g, j * 2, none⟩ = some (.slice x.A x.n x.c) ∧ w.frozen? ⟨g, j * 2, none⟩ = false) ∧ w.cell? ⟨g, j * 2 + 1, none⟩ = some (.int .i64 x.v) ∧ w.frozen? ⟨g, j * 2 + 1, none⟩ = false := by
  obtain ⟨h1, h2⟩ := cellsE_at hx
  have hj := (List.getElem?_eq_some_iff.1 hx).1
  have hl := cellsE_length M
  rw [Nat.mul_comm 2 j] at h1 h2
  have f : ∀ i, w.frozen? ⟨g, i, none⟩ = false := fun i => by simp [World.frozen?, h]
  refine ⟨⟨(cell_of_row _ _ _ _ _ _ h).trans ?_, f _⟩, (cell_of_row _ _ _ _ _ _ h).trans ?_, f _⟩
  · rw [List.getElem?_toArray, List.getElem?_append_left (by omega)]; exact h1
  · rw [List.getElem?_toArray, List.getElem?_append_left (by omega)]; exact h2

theorem grownBy_setE {w0 w : World} {g : Nat} (h : w0.grownBy w (some g)) (off : Nat) (v : Value) : w0.grownBy (w.setCell ⟨g, off, none⟩ v) (some g) :=
  ⟨h.os, h.tape, h.output, Nat.le_trans h.size (KeepsWalks.setCell w _ v).size, fun k hk hne => (Below.heap_setCell _ _ _ k (fun e => hne (by rw [e]))).trans (h.block k hk hne)⟩
theorem blkE_set {w : World} {g i : Nat} {cs : List Value} {t : TypeId} (h : w.heap[g]? = some (.cells cs.toArray t (0, 0))) (v : Value) : (w.setCell ⟨g, i, none⟩ v).heap[g]? = some (.cells (cs.set i v).toArray t (0, 0)) := by
  rw [heap_setCell_same _ _ _ _ _ _ h]; simp
theorem ent_set {w : World} {g j : Nat} {M : List Ent} {post : List Value} (h : w.heap[g]? = some (.cells (cellsE M ++ post).toArray 37 (0, 0))) (hj : j < M.length) (x : Ent) :
    ((w.setCell ⟨g, j * 2, none⟩ (.slice x.A x.n x.c)).setCell ⟨g, j * 2 + 1, none⟩ (.int .i64 x.v)).heap[g]? = some (.cells (cellsE (M.set j x) ++ post).toArray 37 (0, 0)) := by
  have hl := cellsE_length M
  refine (blkE_set (blkE_set h _) _).trans ?_
  rw [List.set_append_left _ _ (by omega), List.set_append_left _ _ (by rw [List.length_set]; omega), Nat.mul_comm j 2, cellsE_set hj]
theorem swap_list (P0 S D : List Ent) (x z : Ent) : ((P0 ++ [z] ++ x :: S ++ D).set (P0.length + 1) z).set P0.length x = P0 ++ x :: (z :: S) ++ D := by
  induction P0 with
  | nil => rfl
  | cons y P0 ih => simp

set_option maxRecDepth 100000 in
set_option maxHeartbeats 4000000 in
theorem insertion_ok (g n c a b bo : Nat) (L es : List Ent) (post : List Value) (Ao : Option Addr) (ro co : Nat) (os : List Int) (w : World)
    (hblk : w.heap[g]? = some (.cells (cellsE (L ++ es) ++ post).toArray 37 (0, 0))) (hL : L.length = a) (hl : a + es.length = n) (hn : n ≤ 4000000000000000000) (hab : a ≤ b) (hb : b ≤ n)
    (hE : ∀ x ∈ es, IntsOff w g x.A x.n x.cs ∧ (∀ m ∈ os, 0 ≤ m ∧ m < x.n) ∧ -9223372036854775808 ≤ x.v ∧ x.v ≤ 9223372036854775807)
    (ho : IntsOff w g Ao ro os) (hoc : w.cell? ⟨bo, 0, none⟩ = some (.slice Ao ro co)) (hog : bo ≠ g) (hr : ro ≤ 100000) :
    Calls Try.prog 87 #[.slice (some ⟨g, 0, none⟩) n c, .int .i64 (a : Int), .int .i64 (b : Int), .func (.func 72) #[] #[.pointer (some ⟨bo, 0, none⟩)]] w
      fun e w' => e = .returned (.tuple #[]) ∧ w'.heap[g]? = some (.cells (cellsE (L ++ (sortE os (es.take (b - a)) ++ es.drop (b - a))) ++ post).toArray 37 (0, 0)) ∧ w.grownBy w' (some g) := by
  have HBLK := Lib.hid hblk
  have HE := Lib.hid hE
  have HL : Hid (es.length = n - a) := by unfold Hid; omega
  have HLL := Lib.hid hL
  have HO := Lib.hid ho
  have HOC := Lib.hid hoc
  have han : a ≤ n := by omega
  clear hblk hE hl ho hoc hL
  go_enter Try.func87, Try.ntmps87
  go_wp2
  go_loopw [8, 9] (fun vi vj wr => ∃ (i : Nat) (M : List Ent), vi = .int .i64 i ∧ a + 1 ≤ i ∧ i ≤ n + 1 ∧ Hid (M = sortE os (es.take (i - a)) ++ es.drop (i - a)) ∧ Hid (wr.heap[g]? = some (.cells (cellsE (L ++ M) ++ post).toArray 37 (0, 0))) ∧ Hid (w.grownBy wr (some g)) ∧ (i ≤ b ∨ i = a + 1)) (fun vi _ _ => b + 1 - (intOf vi).toNat)
  case atStart => exact ⟨a + 1, es, by go_num, Nat.le_refl _, by omega, by unfold Hid; rw [Nat.add_sub_cancel_left]; exact sortE_one os es, HBLK, ⟨rfl, rfl, rfl, Nat.le_refl _, fun _ _ _ => rfl⟩, .inr rfl⟩
  case round =>
    obtain ⟨i, M, rfl, hi1, hin1, HM, HG, HGR, hib⟩ := hrel
    by_cases hlt : i < b
    · obtain ⟨x, hx⟩ : ∃ x, es[i - a]? = some x := ⟨_, List.getElem?_eq_getElem (by rw [HL.out]; omega)⟩
      have HX := Lib.hid hx
      obtain ⟨q1, q2⟩ := sortE_facts os (es.take (i - a))
      have q3 : (sortE os (es.take (i - a))).length = i - a := by rw [q1, List.length_take, HL.out]; omega
      have HSN : Hid (sortE os (es.take (i + 1 - a)) = insE os (sortE os (es.take (i - a))) x) := by unfold Hid; rw [show i + 1 - a = i - a + 1 by omega, take_succ_of hx, sortE_snoc]
      have HDR : Hid (es.drop (i - a) = x :: es.drop (i + 1 - a)) := by unfold Hid; rw [show i + 1 - a = i - a + 1 by omega]; exact drop_of hx
      have HQ2 : Hid (∀ y ∈ sortE os (es.take (i - a)), y ∈ es) := fun y hy => List.mem_of_mem_take (q2 y hy)
      obtain ⟨P, hP⟩ : ∃ P, sortE os (es.take (i - a)) = P := ⟨_, rfl⟩
      rw [hP] at q3 HSN HQ2 HM
      have HQ3 := Lib.hid q3
      clear hx q1 q2 q3 hP
      go_wp2
      go_loopw [9] (fun vj wr => ∃ (j : Nat) (P1 S : List Ent), vj = .int .i64 j ∧ a ≤ j ∧ j ≤ i ∧ Hid (P1.length = j - a) ∧ Hid (P = P1 ++ S) ∧ Hid (∀ y ∈ S, ltE os x y = true) ∧ Hid (wr.heap[g]? = some (.cells (cellsE (L ++ (P1 ++ x :: S ++ es.drop (i + 1 - a))) ++ post).toArray 37 (0, 0))) ∧ Hid (w.grownBy wr (some g))) (fun vj _ => (intOf vj).toNat)
      case atStart => exact ⟨i, P, [], rfl, by omega, Nat.le_refl _, HQ3, by unfold Hid; simp, by unfold Hid; simp, by unfold Hid; have := HG.out; rwa [HM.out, HDR.out, show P ++ x :: es.drop (i + 1 - a) = P ++ [x] ++ es.drop (i + 1 - a) by simp] at this, HGR⟩
      case round =>
        obtain ⟨j, P1, S, rfl, haj, hji, HP1, HPS, HSS, HGJ, HGRJ⟩ := hrel
        by_cases hj0 : a = j
        · subst hj0
          have hd : decide ((a : Int) < (a : Int)) = false := by simp
          have hp1 : P1 = [] := List.eq_nil_of_length_eq_zero (by rw [HP1.out]; omega)
          have HFIN : Hid (sortE os (es.take (i + 1 - a)) = P1 ++ x :: S) := by unfold Hid; rw [HSN.out, HPS.out, insE_eq HSS.out (fun z hz => by rw [hp1] at hz; cases hz)]
          have HG2 : Hid (wr.heap[g]? = some (.cells (cellsE (L ++ (sortE os (es.take (i + 1 - a)) ++ es.drop (i + 1 - a))) ++ post).toArray 37 (0, 0))) := by unfold Hid; rw [HFIN.out]; exact HGJ.out
          clear hp1 HGJ
          go_wp2
          go_quiet (fail)
          go_wp2
          go_roundw
          case rel => exact ⟨i + 1, _, by go_num, by omega, by omega, rfl, HG2, Lib.hid (grown_below' HGRJ.out (below_drewN (Below.refl _ _) _)), .inl (by omega)⟩
          case measure => simp [intOf]; omega
        · obtain ⟨j1, rfl⟩ : ∃ j1, j = j1 + 1 := ⟨j - 1, by omega⟩
          have haj1 : a ≤ j1 := by omega
          obtain ⟨P0, z, hPz⟩ : ∃ P0 z, P1 = P0 ++ [z] := ⟨P1.dropLast, P1.getLast (by intro e; have := HP1.out; rw [e] at this; simp at this; omega), (List.dropLast_concat_getLast _).symm⟩
          have hP0 : P0.length = j1 - a := by have := HP1.out; rw [hPz] at this; simp at this; omega
          have hMx : (L ++ (P1 ++ x :: S ++ es.drop (i + 1 - a)))[j1 + 1]? = some x := by rw [List.getElem?_append_right (by rw [HLL.out]; omega), HLL.out, List.append_assoc, List.getElem?_append_right (by rw [HP1.out]; omega), HP1.out]; simp
          have hMz : (L ++ (P1 ++ x :: S ++ es.drop (i + 1 - a)))[j1]? = some z := by rw [List.getElem?_append_right (by rw [HLL.out]; omega), HLL.out, hPz, List.append_assoc, List.append_assoc, List.getElem?_append_right (by omega), hP0]; simp
          obtain ⟨⟨a1, a2⟩, a3, a4⟩ := blk_ent HGJ.out hMx
          obtain ⟨⟨b1, b2⟩, b3, b4⟩ := blk_ent HGJ.out hMz
          have hzm : z ∈ es := HQ2.out z (by rw [HPS.out, hPz]; simp)
          obtain ⟨k1, k2, _⟩ := HE.out x (List.mem_of_getElem? HX.out)
          obtain ⟨l1, l2, _⟩ := HE.out z hzm
          have HGD : w.grownBy wr.drew (some g) := grown_below' HGRJ.out (Below.refl _ _).drew
          have hcmp := ahead_ok x z Ao ro co os bo wr.drew (k1.grown HGD) (l1.grown HGD) (HO.out.grown HGD) (HGD.cell HOC.out (fun e => hog (by injection e))) hr (fun m hm => ⟨(k2 m hm).1, (k2 m hm).2, (l2 m hm).2⟩)
          obtain ⟨r, hr2⟩ : ∃ r, cmpE os x.cs z.cs = r := ⟨_, rfl⟩
          rw [hr2] at hcmp
          have HR2 := Lib.hid hr2
          have hgj : g < wr.heap.size := by
            rcases Nat.lt_or_ge g wr.heap.size with h | h
            · exact h
            · have := HGJ.out; rw [Array.getElem?_eq_none h] at this; cases this
          have HPZ := Lib.hid hPz
          have HP0 := Lib.hid hP0
          clear hr2 hj0 hPz hP0 k1 k2 l1 l2
          have hd : decide ((a : Int) < (j1 : Int) + 1) = true := by simp; omega
          have hjn : (0 : Int) ≤ (j1 : Int) + 1 ∧ (j1 : Int) + 1 < (n : Int) := by omega
          have hjn0 : (0 : Int) ≤ (j1 : Int) ∧ (j1 : Int) < (n : Int) := by omega
          obtain ⟨hj1, hj2⟩ := hjn
          obtain ⟨hj3, hj4⟩ := hjn0
          have hjw : IntKind.i64.wrap (j1 : Int) = (j1 : Int) := by
            have h := IntWalk.wrap64_in (j1 : Int) ⟨by omega, by omega⟩
            first | exact h | (rw [wrap_eq]; exact h)
          go_wp2
          go_still_tail 14, (by kernel_rfl)
          change wpList _ _ _ _ _ wr.drew
          by_cases hrn : r < 0
          · have hdr : decide (r < 0) = true := by simpa using hrn
            clear hd
            go_wp2_with (fail)
            refine hcmp.mono ?_
            rintro e wq ⟨rfl, hbq⟩
            go_wp2
            obtain ⟨⟨a1', a2'⟩, a3', a4'⟩ := blk_ent (w := wq) ((hbq.block g hgj).trans HGJ.out) hMx
            obtain ⟨⟨b1', b2'⟩, b3', b4'⟩ := blk_ent (w := wq) ((hbq.block g hgj).trans HGJ.out) hMz
            have HMX := Lib.hid hMx
            have HMZ := Lib.hid hMz
            have HGQ := Lib.hid ((hbq.block g hgj).trans HGJ.out)
            have HGRQ := Lib.hid (grown_below' HGD hbq)
            clear a1 a2 a3 a4 b1 b2 b3 b4 HGD hcmp
            have HSS2 : Hid (∀ y ∈ z :: S, ltE os x y = true) := fun y hy => by
              rcases List.mem_cons.1 hy with e | e
              · subst e; unfold ltE; rw [HR2.out]; exact hdr
              · exact HSS.out y e
            have HPS2 : Hid (P = P0 ++ z :: S) := by unfold Hid; rw [HPS.out, HPZ.out]; simp
            have HSW : Hid (((((wq.setCell ⟨g, (j1 + 1) * 2, none⟩ (.slice z.A z.n z.c)).setCell ⟨g, (j1 + 1) * 2 + 1, none⟩ (.int .i64 z.v)).setCell ⟨g, j1 * 2, none⟩ (.slice x.A x.n x.c)).setCell ⟨g, j1 * 2 + 1, none⟩ (.int .i64 x.v)).heap[g]? = some (.cells (cellsE (L ++ (P0 ++ x :: (z :: S) ++ es.drop (i + 1 - a))) ++ post).toArray 37 (0, 0))) := by
              have h := HGQ.out
              rw [HPZ.out] at h
              have h2 := ent_set (j := j1) (ent_set (j := j1 + 1) h (by simp [HP0.out, HLL.out]; omega) z) (by simp [HP0.out, HLL.out]; omega) x
              have h3 := swap_list (L ++ P0) S (es.drop (i + 1 - a)) x z
              rw [List.length_append, HP0.out, HLL.out, show a + (j1 - a) = j1 by omega] at h3
              simp only [List.append_assoc] at h3 h2 ⊢
              rw [h3] at h2
              exact h2
            have HGW : Hid (w.grownBy ((((wq.setCell ⟨g, (j1 + 1) * 2, none⟩ (.slice z.A z.n z.c)).setCell ⟨g, (j1 + 1) * 2 + 1, none⟩ (.int .i64 z.v)).setCell ⟨g, j1 * 2, none⟩ (.slice x.A x.n x.c)).setCell ⟨g, j1 * 2 + 1, none⟩ (.int .i64 x.v)) (some g)) := grownBy_setE (grownBy_setE (grownBy_setE (grownBy_setE HGRQ.out _ _) _ _) _ _) _ _
            clear HMX HMZ
            go_region
            all_goals
              obtain ⟨w4, hw4⟩ : ∃ w4, ((((wq.setCell ⟨g, (j1 + 1) * 2, none⟩ (.slice z.A z.n z.c)).setCell ⟨g, (j1 + 1) * 2 + 1, none⟩ (.int .i64 z.v)).setCell ⟨g, j1 * 2, none⟩ (.slice x.A x.n x.c)).setCell ⟨g, j1 * 2 + 1, none⟩ (.int .i64 x.v)) = w4 := ⟨_, rfl⟩
              rw [hw4] at HSW HGW ⊢
              clear hw4 hdr a1' a2' a3' a4' b1' b2' b3' b4'
              go_wp2
              go_roundw
              case rel => exact ⟨j1, P0, z :: S, by go_num, by omega, by omega, HP0, HPS2, HSS2, HSW, Lib.hid (grown_below' HGW.out (Below.refl _ _).drew)⟩
              case measure => simp [intOf]; try omega
          · have hdr : decide (r < 0) = false := by simpa using hrn
            clear hd
            go_wp2_with (fail)
            refine hcmp.mono ?_
            rintro e wq ⟨rfl, hbq⟩
            have HFIN : Hid (sortE os (es.take (i + 1 - a)) = P1 ++ x :: S) := by unfold Hid; rw [HSN.out, HPS.out, insE_eq HSS.out (fun y hy => by rw [HPZ.out, List.getLast?_concat] at hy; injection hy with hy; subst hy; unfold ltE; rw [HR2.out]; exact hdr)]
            have HG2 : Hid (wq.heap[g]? = some (.cells (cellsE (L ++ (sortE os (es.take (i + 1 - a)) ++ es.drop (i + 1 - a))) ++ post).toArray 37 (0, 0))) := by unfold Hid; rw [HFIN.out]; exact (hbq.block g hgj).trans HGJ.out
            have HGRQ := Lib.hid (grown_below' HGD hbq)
            clear HGD
            go_wp2
            go_roundw
            case rel => exact ⟨i + 1, _, by go_num, by omega, by omega, rfl, HG2, HGRQ, .inl (by omega)⟩
            case measure => simp [intOf]; omega
    · have HG2 : Hid (wr.heap[g]? = some (.cells (cellsE (L ++ (sortE os (es.take (b - a)) ++ es.drop (b - a))) ++ post).toArray 37 (0, 0))) := by unfold Hid; rw [← sortE_few (i := i - a) os es (by omega) (by omega) (by omega), ← HM.out]; exact HG.out
      go_wp2
      go_end0
      exact ⟨rfl, HG2.out, HGR.out⟩
end Go.Proofs.Ytpjelcghlnmoeaa
