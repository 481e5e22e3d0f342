/- The contract of slices.insertionSortCmpFunc at entries, by an order of their modes. -/
import Derived.Test.YtpfabbapfmfmmaaG6
import Derived.StillTailTactics
import Derived.RegionTactic
namespace Go.Proofs.Ytpfabbapfmfmmaa
open Go.RowKit

/-- the cells of entries -/
def cellsE : List Ent → List Value
  | [] => []
  | x :: l => .slice x.A x.n x.c :: .int .i64 x.v :: cellsE l
theorem cellsE_length (es : List Ent) : (cellsE es).length = 2 * es.length := by
  induction es with
  | nil => rfl
  | cons x l ih => simp [cellsE, ih]; omega
theorem cellsE_append (a b : List Ent) : cellsE (a ++ b) = cellsE a ++ cellsE b := by
  induction a with
  | nil => rfl
  | cons x l ih => simp [cellsE, ih]
theorem cellsE_at {es : List Ent} {k : Nat} {x : Ent} (h : es[k]? = some x) : (cellsE es)[2 * k]? = some (.slice x.A x.n x.c) ∧ (cellsE es)[2 * k + 1]? = some (.int .i64 x.v) := by
  induction es generalizing k with
  | nil => simp at h
  | cons y l ih => cases k with
    | zero => simp at h; subst h; simp [cellsE]
    | succ k =>
      have := ih (k := k) (by simpa using h)
      rw [show 2 * (k + 1) = 2 * k + 1 + 1 by omega]
      simpa [cellsE] using this
theorem cellsE_set {es : List Ent} {k : Nat} {x : Ent} (h : k < es.length) : ((cellsE es).set (2 * k) (.slice x.A x.n x.c)).set (2 * k + 1) (.int .i64 x.v) = cellsE (es.set k x) := by
  induction es generalizing k with
  | nil => simp at h
  | cons y l ih => cases k with
    | zero => simp [cellsE]
    | succ k =>
      rw [show 2 * (k + 1) = 2 * k + 1 + 1 by omega]
      simp only [cellsE, List.set_cons_succ, List.cons.injEq, true_and]
      exact ih (by simpa using h)
/-- the header (A, n) reads as xs, and not in block g -/
def IntsOff (w : World) (g : Nat) (A : Option Addr) (n : Nat) (xs : List Int) : Prop := Ints w w.heap.size A n xs ∧ ∀ b off, A = some ⟨b, off, none⟩ → b ≠ g
theorem IntsOff.grown {w wr : World} {g n : Nat} {A : Option Addr} {xs : List Int} (h : IntsOff w g A n xs) (hg : w.grownBy wr (some g)) : Ints wr wr.heap.size A n xs := by
  obtain ⟨⟨hl, hb, hc⟩, hne⟩ := h
  refine ⟨hl, hb, fun h0 => ?_⟩
  obtain ⟨b, off, rfl, hB, hx⟩ := hc h0
  refine ⟨b, off, rfl, Nat.lt_of_lt_of_le hB hg.size, fun k x hk => ?_⟩
  exact hg.cell (hx k x hk) (fun e => hne b off rfl (by injection e))
def ltE (os : List Int) (x y : Ent) : Bool := decide (cmpE os x.cs y.cs < 0)
/-- x put into what is in order ahead of it, from behind -/
def insE (os : List Int) (P : List Ent) (x : Ent) : List Ent := (P.reverse.dropWhile (ltE os x)).reverse ++ x :: (P.reverse.takeWhile (ltE os x)).reverse
def sortE (os : List Int) (l : List Ent) : List Ent := l.foldl (insE os) []
theorem insE_eq {os : List Int} {P1 S : List Ent} {x : Ent} (h1 : ∀ y ∈ S, ltE os x y = true) (h2 : ∀ z, P1.getLast? = some z → ltE os x z = false) : insE os (P1 ++ S) x = P1 ++ x :: S := by
  have e1 : (P1 ++ S).reverse.takeWhile (ltE os x) = S.reverse ∧ (P1 ++ S).reverse.dropWhile (ltE os x) = P1.reverse := by
    rw [List.reverse_append]
    have hS : ∀ y ∈ S.reverse, ltE os x y = true := fun y hy => h1 y (List.mem_reverse.1 hy)
    have hP : ∀ z, P1.reverse.head? = some z → ltE os x z = false := fun z hz => h2 z (by rw [List.head?_reverse] at hz; exact hz)
    generalize S.reverse = T at hS
    generalize P1.reverse = Q at hP
    induction T with
    | nil =>
      cases Q with
      | nil => simp
      | cons z Q =>
        have := hP z rfl
        exact ⟨by simp [this], by simp [this]⟩
    | cons y T ih =>
      have hy := hS y (by simp)
      have := ih (fun z hz => hS z (by simp [hz]))
      exact ⟨by simp [hy, this.1], by simp [hy, this.2]⟩
  unfold insE
  rw [e1.1, e1.2, List.reverse_reverse, List.reverse_reverse]

theorem insE_mem {os : List Int} {P : List Ent} {x y : Ent} (h : y ∈ insE os P x) : y ∈ P ∨ y = x := by
  unfold insE at h
  rcases List.mem_append.1 h with h | h
  · exact .inl (List.mem_reverse.1 ((List.dropWhile_sublist _).mem (List.mem_reverse.1 h)))
  · rcases List.mem_cons.1 h with h | h
    · exact .inr h
    · exact .inl (List.mem_reverse.1 ((List.takeWhile_sublist _).mem (List.mem_reverse.1 h)))
theorem insE_length (os : List Int) (P : List Ent) (x : Ent) : (insE os P x).length = P.length + 1 := by
  unfold insE
  have := congrArg List.length (List.takeWhile_append_dropWhile (p := ltE os x) (l := P.reverse))
  simp only [List.length_append, List.length_reverse, List.length_cons] at this ⊢
  omega
theorem sortE_snoc (os : List Int) (l : List Ent) (x : Ent) : sortE os (l ++ [x]) = insE os (sortE os l) x := by unfold sortE; rw [List.foldl_append]; rfl
theorem sortE_one (os : List Int) (es : List Ent) : es = sortE os (es.take 1) ++ es.drop 1 := by
  cases es with
  | nil => rfl
  | cons y t => simp [sortE, insE]
theorem sortE_few (os : List Int) (es : List Ent) {i b : Nat} (hi : 1 ≤ i) (hib : i ≤ b ∨ i = 1) (hb : b ≤ i) : sortE os (es.take i) ++ es.drop i = sortE os (es.take b) ++ es.drop b := by
  by_cases h : i = b
  · rw [h]
  · obtain rfl : i = 1 := by omega
    obtain rfl : b = 0 := by omega
    rw [← sortE_one]; rfl
theorem sortE_facts (os : List Int) (l : List Ent) : (sortE os l).length = l.length ∧ ∀ y ∈ sortE os l, y ∈ l := by
  have key : ∀ (n : Nat) (l : List Ent), l.length = n → (sortE os l).length = l.length ∧ ∀ y ∈ sortE os l, y ∈ l := by
    intro n
    induction n with
    | zero => intro l h; obtain rfl := List.eq_nil_of_length_eq_zero h; exact ⟨rfl, fun y hy => hy⟩
    | succ n ih =>
      intro l h
      obtain ⟨T, y, rfl⟩ : ∃ T y, l = T ++ [y] := ⟨l.dropLast, l.getLast (by intro e; subst e; simp at h), (List.dropLast_concat_getLast _).symm⟩
      have hT : T.length = n := by simpa using h
      obtain ⟨h1, h2⟩ := ih T hT
      rw [sortE_snoc]
      refine ⟨by rw [insE_length, h1]; simp, fun z hz => ?_⟩
      rcases insE_mem hz with hz | hz
      · exact List.mem_append_left _ (h2 z hz)
      · subst hz; simp
  exact key _ l rfl
theorem grown_below' {w0 w1 w2 : World} {g : Nat} (hg : w0.grownBy w1 (some g)) (hb : Below w1.heap.size w1 w2) : w0.grownBy w2 (some g) :=
  ⟨hb.os.trans hg.os, hb.tape.trans hg.tape, hb.output.trans hg.output, Nat.le_trans hg.size hb.size, fun i hi hne => (hb.block i (Nat.lt_of_lt_of_le hi hg.size)).trans (hg.block i hi hne)⟩
theorem blk_ent {w : World} {g j : Nat} {M : List Ent} {post : List Value} {x : Ent} (h : w.heap[g]? = some (.cells (cellsE M ++ post).toArray 37 (0, 0))) (hx : M[j]? = some x) :
    (w.cell? ⟨g, j * 2, none⟩ = some (.slice x.A x.n x.c) ∧ w.frozen? ⟨g, j * 2, none⟩ = false) ∧ w.cell? ⟨g, j * 2 + 1, none⟩ = some (.int .i64 x.v) ∧ w.frozen? ⟨g, j * 2 + 1, none⟩ = false := by
  obtain ⟨h1, h2⟩ := cellsE_at hx
  have hj := (List.getElem?_eq_some_iff.1 hx).1
  have hl := cellsE_length M
  rw [Nat.mul_comm 2 j] at h1 h2
  have f : ∀ i, w.frozen? ⟨g, i, none⟩ = false := fun i => by simp [World.frozen?, h]
  refine ⟨⟨(cell_of_row _ _ _ _ _ _ h).trans ?_, f _⟩, (cell_of_row _ _ _ _ _ _ h).trans ?_, f _⟩
  · rw [List.getElem?_toArray, List.getElem?_append_left (by omega)]; exact h1
  · rw [List.getElem?_toArray, List.getElem?_append_left (by omega)]; exact h2

theorem grownBy_setE {w0 w : World} {g : Nat} (h : w0.grownBy w (some g)) (off : Nat) (v : Value) : w0.grownBy (w.setCell ⟨g, off, none⟩ v) (some g) :=
  ⟨h.os, h.tape, h.output, Nat.le_trans h.size (KeepsWalks.setCell w _ v).size, fun k hk hne => (Below.heap_setCell _ _ _ k (fun e => hne (by rw [e]))).trans (h.block k hk hne)⟩
theorem blkE_set {w : World} {g i : Nat} {cs : List Value} {t : TypeId} (h : w.heap[g]? = some (.cells cs.toArray t (0, 0))) (v : Value) : (w.setCell ⟨g, i, none⟩ v).heap[g]? = some (.cells (cs.set i v).toArray t (0, 0)) := by
  rw [heap_setCell_same _ _ _ _ _ _ h]; simp
theorem ent_set {w : World} {g j : Nat} {M : List Ent} {post : List Value} (h : w.heap[g]? = some (.cells (cellsE M ++ post).toArray 37 (0, 0))) (hj : j < M.length) (x : Ent) :
    ((w.setCell ⟨g, j * 2, none⟩ (.slice x.A x.n x.c)).setCell ⟨g, j * 2 + 1, none⟩ (.int .i64 x.v)).heap[g]? = some (.cells (cellsE (M.set j x) ++ post).toArray 37 (0, 0)) := by
  have hl := cellsE_length M
  refine (blkE_set (blkE_set h _) _).trans ?_
  rw [List.set_append_left _ _ (by omega), List.set_append_left _ _ (by rw [List.length_set]; omega), Nat.mul_comm j 2, cellsE_set hj]
theorem swap_list (P0 S D : List Ent) (x z : Ent) : ((P0 ++ [z] ++ x :: S ++ D).set (P0.length + 1) z).set P0.length x = P0 ++ x :: (z :: S) ++ D := by
  induction P0 with
  | nil => rfl
  | cons y P0 ih => simp

set_option maxRecDepth 100000 in
set_option maxHeartbeats 4000000 in
theorem insertion_ok (g n c a b bo : Nat) (L es : List Ent) (post : List Value) (Ao : Option Addr) (ro co : Nat) (os : List Int) (w : World)
    (hblk : w.heap[g]? = some (.cells (cellsE (L ++ es) ++ post).toArray 37 (0, 0))) (hL : L.length = a) (hl : a + es.length = n) (hn : n ≤ 4000000000000000000) (hab : a ≤ b) (hb : b ≤ n)
    (hE : ∀ x ∈ es, IntsOff w g x.A x.n x.cs ∧ (∀ m ∈ os, 0 ≤ m ∧ m < x.n) ∧ -9223372036854775808 ≤ x.v ∧ x.v ≤ 9223372036854775807)
    (ho : IntsOff w g Ao ro os) (hoc : w.cell? ⟨bo, 0, none⟩ = some (.slice Ao ro co)) (hog : bo ≠ g) (hr : ro ≤ 100000) :
    Calls Try.prog 87 #[.slice (some ⟨g, 0, none⟩) n c, .int .i64 (a : Int), .int .i64 (b : Int), .func (.func 72) #[] #[.pointer (some ⟨bo, 0, none⟩)]] w
      fun e w' => e = .returned (.tuple #[]) ∧ w'.heap[g]? = some (.cells (cellsE (L ++ (sortE os (es.take (b - a)) ++ es.drop (b - a))) ++ post).toArray 37 (0, 0)) ∧ w.grownBy w' (some g) := by
  have HBLK := Lib.hid hblk
  have HE := Lib.hid hE
  have HL : Hid (es.length = n - a) := by unfold Hid; omega
  have HLL := Lib.hid hL
  have HO := Lib.hid ho
  have HOC := Lib.hid hoc
  have han : a ≤ n := by omega
  clear hblk hE hl ho hoc hL
  go_enter Try.func87, Try.ntmps87
  go_wp2
  go_loopw [8, 9] (fun vi vj wr => ∃ (i : Nat) (M : List Ent), vi = .int .i64 i ∧ a + 1 ≤ i ∧ i ≤ n + 1 ∧ Hid (M = sortE os (es.take (i - a)) ++ es.drop (i - a)) ∧ Hid (wr.heap[g]? = some (.cells (cellsE (L ++ M) ++ post).toArray 37 (0, 0))) ∧ Hid (w.grownBy wr (some g)) ∧ (i ≤ b ∨ i = a + 1)) (fun vi _ _ => b + 1 - (intOf vi).toNat)
  case atStart => exact ⟨a + 1, es, by go_num, Nat.le_refl _, by omega, by unfold Hid; rw [Nat.add_sub_cancel_left]; exact sortE_one os es, HBLK, ⟨rfl, rfl, rfl, Nat.le_refl _, fun _ _ _ => rfl⟩, .inr rfl⟩
  case round =>
    obtain ⟨i, M, rfl, hi1, hin1, HM, HG, HGR, hib⟩ := hrel
    by_cases hlt : i < b
    · obtain ⟨x, hx⟩ : ∃ x, es[i - a]? = some x := ⟨_, List.getElem?_eq_getElem (by rw [HL.out]; omega)⟩
      have HX := Lib.hid hx
      obtain ⟨q1, q2⟩ := sortE_facts os (es.take (i - a))
      have q3 : (sortE os (es.take (i - a))).length = i - a := by rw [q1, List.length_take, HL.out]; omega
      have HSN : Hid (sortE os (es.take (i + 1 - a)) = insE os (sortE os (es.take (i - a))) x) := by unfold Hid; rw [show i + 1 - a = i - a + 1 by omega, take_succ_of hx, sortE_snoc]
      have HDR : Hid (es.drop (i - a) = x :: es.drop (i + 1 - a)) := by unfold Hid; rw [show i + 1 - a = i - a + 1 by omega]; exact drop_of hx
      have HQ2 : Hid (∀ y ∈ sortE os (es.take (i - a)), y ∈ es) := fun y hy => List.mem_of_mem_take (q2 y hy)
      obtain ⟨P, hP⟩ : ∃ P, sortE os (es.take (i - a)) = P := ⟨_, rfl⟩
      rw [hP] at q3 HSN HQ2 HM
      have HQ3 := Lib.hid q3
      clear hx q1 q2 q3 hP
      go_wp2
      go_loopw [9] (fun vj wr => ∃ (j : Nat) (P1 S : List Ent), vj = .int .i64 j ∧ a ≤ j ∧ j ≤ i ∧ Hid (P1.length = j - a) ∧ Hid (P = P1 ++ S) ∧ Hid (∀ y ∈ S, ltE os x y = true) ∧ Hid (wr.heap[g]? = some (.cells (cellsE (L ++ (P1 ++ x :: S ++ es.drop (i + 1 - a))) ++ post).toArray 37 (0, 0))) ∧ Hid (w.grownBy wr (some g))) (fun vj _ => (intOf vj).toNat)
      case atStart => exact ⟨i, P, [], rfl, by omega, Nat.le_refl _, HQ3, by unfold Hid; simp, by unfold Hid; simp, by unfold Hid; have := HG.out; rwa [HM.out, HDR.out, show P ++ x :: es.drop (i + 1 - a) = P ++ [x] ++ es.drop (i + 1 - a) by simp] at this, HGR⟩
      case round =>
        obtain ⟨j, P1, S, rfl, haj, hji, HP1, HPS, HSS, HGJ, HGRJ⟩ := hrel
        by_cases hj0 : a = j
        · subst hj0
          have hd : decide ((a : Int) < (a : Int)) = false := by simp
          have hp1 : P1 = [] := List.eq_nil_of_length_eq_zero (by rw [HP1.out]; omega)
          have HFIN : Hid (sortE os (es.take (i + 1 - a)) = P1 ++ x :: S) := by unfold Hid; rw [HSN.out, HPS.out, insE_eq HSS.out (fun z hz => by rw [hp1] at hz; cases hz)]
          have HG2 : Hid (wr.heap[g]? = some (.cells (cellsE (L ++ (sortE os (es.take (i + 1 - a)) ++ es.drop (i + 1 - a))) ++ post).toArray 37 (0, 0))) := by unfold Hid; rw [HFIN.out]; exact HGJ.out
          clear hp1 HGJ
          go_wp2
          go_quiet (fail)
          go_wp2
          go_roundw
          case rel => exact ⟨i + 1, _, by go_num, by omega, by omega, rfl, HG2, Lib.hid (grown_below' HGRJ.out (below_drewN (Below.refl _ _) _)), .inl (by omega)⟩
          case measure => simp [intOf]; omega
        · obtain ⟨j1, rfl⟩ : ∃ j1, j = j1 + 1 := ⟨j - 1, by omega⟩
          have haj1 : a ≤ j1 := by omega
          obtain ⟨P0, z, hPz⟩ : ∃ P0 z, P1 = P0 ++ [z] := ⟨P1.dropLast, P1.getLast (by intro e; have := HP1.out; rw [e] at this; simp at this; omega), (List.dropLast_concat_getLast _).symm⟩
          have hP0 : P0.length = j1 - a := by have := HP1.out; rw [hPz] at this; simp at this; omega
          have hMx : (L ++ (P1 ++ x :: S ++ es.drop (i + 1 - a)))[j1 + 1]? = some x := by rw [List.getElem?_append_right (by rw [HLL.out]; omega), HLL.out, List.append_assoc, List.getElem?_append_right (by rw [HP1.out]; omega), HP1.out]; simp
          have hMz : (L ++ (P1 ++ x :: S ++ es.drop (i + 1 - a)))[j1]? = some z := by rw [List.getElem?_append_right (by rw [HLL.out]; omega), HLL.out, hPz, List.append_assoc, List.append_assoc, List.getElem?_append_right (by omega), hP0]; simp
          obtain ⟨⟨a1, a2⟩, a3, a4⟩ := blk_ent HGJ.out hMx
          obtain ⟨⟨b1, b2⟩, b3, b4⟩ := blk_ent HGJ.out hMz
          have hzm : z ∈ es := HQ2.out z (by rw [HPS.out, hPz]; simp)
          obtain ⟨k1, k2, _⟩ := HE.out x (List.mem_of_getElem? HX.out)
          obtain ⟨l1, l2, _⟩ := HE.out z hzm
          have HGD : w.grownBy wr.drew (some g) := grown_below' HGRJ.out (Below.refl _ _).drew
          have hcmp := ahead_ok x z Ao ro co os bo wr.drew (k1.grown HGD) (l1.grown HGD) (HO.out.grown HGD) (HGD.cell HOC.out (fun e => hog (by injection e))) hr (fun m hm => ⟨(k2 m hm).1, (k2 m hm).2, (l2 m hm).2⟩)
          obtain ⟨r, hr2⟩ : ∃ r, cmpE os x.cs z.cs = r := ⟨_, rfl⟩
          rw [hr2] at hcmp
          have HR2 := Lib.hid hr2
          have hgj : g < wr.heap.size := by
            rcases Nat.lt_or_ge g wr.heap.size with h | h
            · exact h
            · have := HGJ.out; rw [Array.getElem?_eq_none h] at this; cases this
          have HPZ := Lib.hid hPz
          have HP0 := Lib.hid hP0
          clear hr2 hj0 hPz hP0 k1 k2 l1 l2
          have hd : decide ((a : Int) < (j1 : Int) + 1) = true := by simp; omega
          have hjn : (0 : Int) ≤ (j1 : Int) + 1 ∧ (j1 : Int) + 1 < (n : Int) := by omega
          have hjn0 : (0 : Int) ≤ (j1 : Int) ∧ (j1 : Int) < (n : Int) := by omega
          obtain ⟨hj1, hj2⟩ := hjn
          obtain ⟨hj3, hj4⟩ := hjn0
          have hjw : IntKind.i64.wrap (j1 : Int) = (j1 : Int) := by
            have h := IntWalk.wrap64_in (j1 : Int) ⟨by omega, by omega⟩
            first | exact h | (rw [wrap_eq]; exact h)
          go_wp2
          go_still_tail 14, (by kernel_rfl)
          change wpList _ _ _ _ _ wr.drew
          by_cases hrn : r < 0
          · have hdr : decide (r < 0) = true := by simpa using hrn
            clear hd
            go_wp2_with (fail)
            refine hcmp.mono ?_
            rintro e wq ⟨rfl, hbq⟩
            go_wp2
            obtain ⟨⟨a1', a2'⟩, a3', a4'⟩ := blk_ent (w := wq) ((hbq.block g hgj).trans HGJ.out) hMx
            obtain ⟨⟨b1', b2'⟩, b3', b4'⟩ := blk_ent (w := wq) ((hbq.block g hgj).trans HGJ.out) hMz
            have HMX := Lib.hid hMx
            have HMZ := Lib.hid hMz
            have HGQ := Lib.hid ((hbq.block g hgj).trans HGJ.out)
            have HGRQ := Lib.hid (grown_below' HGD hbq)
            clear a1 a2 a3 a4 b1 b2 b3 b4 HGD hcmp
            have HSS2 : Hid (∀ y ∈ z :: S, ltE os x y = true) := fun y hy => by
              rcases List.mem_cons.1 hy with e | e
              · subst e; unfold ltE; rw [HR2.out]; exact hdr
              · exact HSS.out y e
            have HPS2 : Hid (P = P0 ++ z :: S) := by unfold Hid; rw [HPS.out, HPZ.out]; simp
            have HSW : Hid (((((wq.setCell ⟨g, (j1 + 1) * 2, none⟩ (.slice z.A z.n z.c)).setCell ⟨g, (j1 + 1) * 2 + 1, none⟩ (.int .i64 z.v)).setCell ⟨g, j1 * 2, none⟩ (.slice x.A x.n x.c)).setCell ⟨g, j1 * 2 + 1, none⟩ (.int .i64 x.v)).heap[g]? = some (.cells (cellsE (L ++ (P0 ++ x :: (z :: S) ++ es.drop (i + 1 - a))) ++ post).toArray 37 (0, 0))) := by
              have h := HGQ.out
              rw [HPZ.out] at h
              have h2 := ent_set (j := j1) (ent_set (j := j1 + 1) h (by simp [HP0.out, HLL.out]; omega) z) (by simp [HP0.out, HLL.out]; omega) x
              have h3 := swap_list (L ++ P0) S (es.drop (i + 1 - a)) x z
              rw [List.length_append, HP0.out, HLL.out, show a + (j1 - a) = j1 by omega] at h3
              simp only [List.append_assoc] at h3 h2 ⊢
              rw [h3] at h2
              exact h2
            have HGW : Hid (w.grownBy ((((wq.setCell ⟨g, (j1 + 1) * 2, none⟩ (.slice z.A z.n z.c)).setCell ⟨g, (j1 + 1) * 2 + 1, none⟩ (.int .i64 z.v)).setCell ⟨g, j1 * 2, none⟩ (.slice x.A x.n x.c)).setCell ⟨g, j1 * 2 + 1, none⟩ (.int .i64 x.v)) (some g)) := grownBy_setE (grownBy_setE (grownBy_setE (grownBy_setE HGRQ.out _ _) _ _) _ _) _ _
            clear HMX HMZ
            go_region
            all_goals
              obtain ⟨w4, hw4⟩ : ∃ w4, ((((wq.setCell ⟨g, (j1 + 1) * 2, none⟩ (.slice z.A z.n z.c)).setCell ⟨g, (j1 + 1) * 2 + 1, none⟩ (.int .i64 z.v)).setCell ⟨g, j1 * 2, none⟩ (.slice x.A x.n x.c)).setCell ⟨g, j1 * 2 + 1, none⟩ (.int .i64 x.v)) = w4 := ⟨_, rfl⟩
              rw [hw4] at HSW HGW ⊢
              clear hw4 hdr a1' a2' a3' a4' b1' b2' b3' b4'
              go_wp2
              go_roundw
              case rel => exact ⟨j1, P0, z :: S, by go_num, by omega, by omega, HP0, HPS2, HSS2, HSW, Lib.hid (grown_below' HGW.out (Below.refl _ _).drew)⟩
              case measure => simp [intOf]; try omega
          · have hdr : decide (r < 0) = false := by simpa using hrn
            clear hd
            go_wp2_with (fail)
            refine hcmp.mono ?_
            rintro e wq ⟨rfl, hbq⟩
            have HFIN : Hid (sortE os (es.take (i + 1 - a)) = P1 ++ x :: S) := by unfold Hid; rw [HSN.out, HPS.out, insE_eq HSS.out (fun y hy => by rw [HPZ.out, List.getLast?_concat] at hy; injection hy with hy; subst hy; unfold ltE; rw [HR2.out]; exact hdr)]
            have HG2 : Hid (wq.heap[g]? = some (.cells (cellsE (L ++ (sortE os (es.take (i + 1 - a)) ++ es.drop (i + 1 - a))) ++ post).toArray 37 (0, 0))) := by unfold Hid; rw [HFIN.out]; exact (hbq.block g hgj).trans HGJ.out
            have HGRQ := Lib.hid (grown_below' HGD hbq)
            clear HGD
            go_wp2
            go_roundw
            case rel => exact ⟨i + 1, _, by go_num, by omega, by omega, rfl, HG2, HGRQ, .inl (by omega)⟩
            case measure => simp [intOf]; omega
    · have HG2 : Hid (wr.heap[g]? = some (.cells (cellsE (L ++ (sortE os (es.take (b - a)) ++ es.drop (b - a))) ++ post).toArray 37 (0, 0))) := by unfold Hid; rw [← sortE_few (i := i - a) os es (by omega) (by omega) (by omega), ← HM.out]; exact HG.out
      go_wp2
      go_end0
      exact ⟨rfl, HG2.out, HGR.out⟩
end Go.Proofs.Ytpfabbapfmfmmaa
/- What the insertion sort of entries makes is a permutation of them, and stands in order. -/
namespace Go.Proofs.Ytpfabbapfmfmmaa

theorem insE_perm (os : List Int) (P : List Ent) (x : Ent) : (insE os P x).Perm (x :: P) := by
  unfold insE
  refine List.perm_middle.trans (List.Perm.cons x ?_)
  rw [← List.reverse_append, List.takeWhile_append_dropWhile, List.reverse_reverse]
theorem foldE_perm (os : List Int) (l P : List Ent) : (l.foldl (insE os) P).Perm (P ++ l) := by
  induction l generalizing P with
  | nil => simp
  | cons x l ih =>
    refine (ih (insE os P x)).trans ?_
    exact ((insE_perm os P x).append_right l).trans List.perm_middle.symm
theorem sortE_perm (os : List Int) (l : List Ent) : (sortE os l).Perm l := foldE_perm os l []

theorem cmpI_zero {x y : Int} : cmpI x y = 0 ↔ x = y := by unfold cmpI; split <;> (try split) <;> constructor <;> intro h <;> omega
theorem cmpI_le {x y : Int} : cmpI x y ≤ 0 ↔ x ≤ y := by unfold cmpI; split <;> (try split) <;> constructor <;> intro h <;> omega
theorem cmpI_neg (x y : Int) : cmpI y x = -cmpI x y := by unfold cmpI; split <;> split <;> omega
theorem cmpE_neg (os a b : List Int) : cmpE os b a = -cmpE os a b := by
  induction os with
  | nil => rfl
  | cons m os ih =>
    unfold cmpE
    rw [cmpI_neg (pickE a m) (pickE b m), ih]
    by_cases h : cmpI (pickE a m) (pickE b m) = 0
    · rw [if_pos (by omega), if_pos h]
    · rw [if_neg (by omega), if_neg h]
theorem cmpE_trans {os a b c : List Int} (h1 : cmpE os a b ≤ 0) (h2 : cmpE os b c ≤ 0) : cmpE os a c ≤ 0 := by
  induction os with
  | nil => exact Int.le_refl _
  | cons m os ih =>
    unfold cmpE at h1 h2 ⊢
    by_cases e1 : cmpI (pickE a m) (pickE b m) = 0
    · by_cases e2 : cmpI (pickE b m) (pickE c m) = 0
      · rw [if_pos e1] at h1
        rw [if_pos e2] at h2
        rw [if_pos (cmpI_zero.2 ((cmpI_zero.1 e1).trans (cmpI_zero.1 e2)))]
        exact ih h1 h2
      · rw [if_neg e2] at h2
        have e3 := cmpI_zero.1 e1
        rw [e3, if_neg e2]
        exact h2
    · rw [if_neg e1] at h1
      have k1 := cmpI_le.1 h1
      have k0 : pickE a m ≠ pickE b m := fun e => e1 (cmpI_zero.2 e)
      have k2 : pickE b m ≤ pickE c m := by
        by_cases e2 : cmpI (pickE b m) (pickE c m) = 0
        · exact Int.le_of_eq (cmpI_zero.1 e2)
        · rw [if_neg e2] at h2; exact cmpI_le.1 h2
      rw [if_neg (fun e => by have := cmpI_zero.1 e; omega)]
      exact cmpI_le.2 (by omega)
theorem takeWhile_all {α : Type} (p : α → Bool) (l : List α) : ∀ y ∈ l.takeWhile p, p y = true := by
  induction l with
  | nil => intro y hy; cases hy
  | cons x l ih =>
    intro y hy
    by_cases h : p x = true
    · rw [List.takeWhile_cons_of_pos h] at hy
      rcases List.mem_cons.1 hy with rfl | hy
      · exact h
      · exact ih y hy
    · rw [List.takeWhile_cons_of_neg h] at hy; cases hy
/-- in order -/
def InOrd (os : List Int) (l : List Ent) : Prop := l.Pairwise (fun x y => cmpE os x.cs y.cs ≤ 0)
theorem insE_ord {os : List Int} {P : List Ent} (x : Ent) (h : InOrd os P) : InOrd os (insE os P x) := by
  have hP : P = (P.reverse.dropWhile (ltE os x)).reverse ++ (P.reverse.takeWhile (ltE os x)).reverse := by
    rw [← List.reverse_append, List.takeWhile_append_dropWhile, List.reverse_reverse]
  have hT : ∀ y ∈ (P.reverse.takeWhile (ltE os x)).reverse, cmpE os x.cs y.cs ≤ 0 := fun y hy => by
    have := takeWhile_all _ _ y (List.mem_reverse.1 hy)
    unfold ltE at this
    have := of_decide_eq_true this
    omega
  have hD : ∀ z, (P.reverse.dropWhile (ltE os x)).head? = some z → cmpE os z.cs x.cs ≤ 0 := fun z hz => by
    have := List.head?_dropWhile_not (ltE os x) P.reverse
    rw [hz] at this
    simp only [ltE, decide_eq_false_iff_not] at this
    rw [cmpE_neg]
    omega
  unfold insE
  generalize (P.reverse.dropWhile (ltE os x)) = D at hP hD
  generalize (P.reverse.takeWhile (ltE os x)).reverse = T at hP hT
  unfold InOrd at h ⊢
  rw [hP, List.pairwise_append] at h
  obtain ⟨d1, d2, d3⟩ := h
  have hDx : ∀ y ∈ D.reverse, cmpE os y.cs x.cs ≤ 0 := by
    cases D with
    | nil => intro y hy; cases hy
    | cons z D =>
      have hz := hD z rfl
      intro y hy
      rw [List.reverse_cons] at hy d1
      rcases List.mem_append.1 hy with hy | hy
      · exact cmpE_trans ((List.pairwise_append.1 d1).2.2 y hy z (by simp)) hz
      · rw [List.mem_singleton.1 hy]; exact hz
  refine List.pairwise_append.2 ⟨d1, List.pairwise_cons.2 ⟨hT, d2⟩, fun y hy v hv => ?_⟩
  rcases List.mem_cons.1 hv with rfl | hv
  · exact hDx y hy
  · exact d3 y hy v hv
theorem sortE_ord (os : List Int) (l : List Ent) : InOrd os (sortE os l) := by
  have key : ∀ (l P : List Ent), InOrd os P → InOrd os (l.foldl (insE os) P) := by
    intro l
    induction l with
    | nil => exact fun P h => h
    | cons x l ih => exact fun P h => ih _ (insE_ord x h)
  exact key l [] List.Pairwise.nil
end Go.Proofs.Ytpfabbapfmfmmaa
/- Two runs of entries in order, merged: where it may be cut in two; what is merged of two sorted parts is the sorted whole. Nothing is claimed of the program here. -/
namespace Go.Proofs.Ytpfabbapfmfmmaa

/-- of two runs that stand in order the one that does: of those that are alike the first run's are ahead -/
def mergeE (os : List Int) (L R : List Ent) : List Ent := L.merge R (fun x y => !ltE os y x)
theorem mergeE_nil_left (os : List Int) (R : List Ent) : mergeE os [] R = R := by unfold mergeE; simp
theorem mergeE_nil_right (os : List Int) (L : List Ent) : mergeE os L [] = L := by unfold mergeE; simp
theorem mergeE_left {os : List Int} {x y : Ent} (L R : List Ent) (h : ltE os y x = false) : mergeE os (x :: L) (y :: R) = x :: mergeE os L (y :: R) := by
  unfold mergeE; rw [List.cons_merge_cons_pos]; simp [h]
theorem mergeE_right {os : List Int} {x y : Ent} (L R : List Ent) (h : ltE os y x = true) : mergeE os (x :: L) (y :: R) = y :: mergeE os (x :: L) R := by
  unfold mergeE; rw [List.cons_merge_cons_neg]; simp [h]
theorem mergeE_mem {os : List Int} {L R : List Ent} {x : Ent} : x ∈ mergeE os L R ↔ x ∈ L ∨ x ∈ R := by unfold mergeE; exact List.mem_merge
theorem mergeE_length (os : List Int) (L R : List Ent) : (mergeE os L R).length = L.length + R.length := by unfold mergeE; rw [List.length_merge]
theorem mergeE_split (os : List Int) (L1 L2 R1 R2 : List Ent) (h1 : ∀ y ∈ R1, ∀ x ∈ L2, ltE os y x = true) (h2 : ∀ x ∈ L1, ∀ y ∈ R2, ltE os y x = false) : mergeE os (L1 ++ L2) (R1 ++ R2) = mergeE os L1 R1 ++ mergeE os L2 R2 := by
  obtain ⟨n, hn⟩ : ∃ n, L1.length + R1.length = n := ⟨_, rfl⟩
  induction n generalizing L1 R1 with
  | zero =>
    obtain rfl : L1 = [] := List.eq_nil_of_length_eq_zero (by omega)
    obtain rfl : R1 = [] := List.eq_nil_of_length_eq_zero (by omega)
    rw [mergeE_nil_left]; rfl
  | succ n ih =>
    cases L1 with
    | nil =>
      cases R1 with
      | nil => simp at hn
      | cons y R1 =>
        rw [mergeE_nil_left, List.nil_append]
        cases L2 with
        | nil => rw [mergeE_nil_left, mergeE_nil_left]
        | cons x L2 =>
          rw [List.cons_append, mergeE_right _ _ (h1 y (by simp) x (by simp))]
          have := ih [] R1 (fun y hy => h1 y (List.mem_cons_of_mem _ hy)) (fun x hx => by cases hx) (by simp at hn ⊢; omega)
          rw [List.nil_append, mergeE_nil_left] at this
          rw [this]; rfl
    | cons x L1 =>
      cases R1 with
      | nil =>
        rw [mergeE_nil_right, List.nil_append]
        cases R2 with
        | nil => rw [mergeE_nil_right, mergeE_nil_right]
        | cons y R2 =>
          rw [List.cons_append, mergeE_left _ _ (h2 x (by simp) y (by simp))]
          have := ih L1 [] (fun y hy => by cases hy) (fun x hx => h2 x (List.mem_cons_of_mem _ hx)) (by simp at hn ⊢; omega)
          rw [List.nil_append, mergeE_nil_right] at this
          rw [this]; rfl
      | cons y R1 =>
        rw [List.cons_append, List.cons_append]
        cases h : ltE os y x with
        | true =>
          rw [mergeE_right _ _ h, mergeE_right _ _ h]
          have := ih (x :: L1) R1 (fun y hy => h1 y (List.mem_cons_of_mem _ hy)) h2 (by simp at hn ⊢; omega)
          rw [List.cons_append] at this
          rw [this]; rfl
        | false =>
          rw [mergeE_left _ _ h, mergeE_left _ _ h]
          have := ih L1 (y :: R1) h1 (fun x hx => h2 x (List.mem_cons_of_mem _ hx)) (by simp at hn ⊢; omega)
          rw [List.cons_append] at this
          rw [this]; rfl
theorem ltE_t {os : List Int} {x y : Ent} : ltE os x y = true ↔ cmpE os x.cs y.cs < 0 := by unfold ltE; exact decide_eq_true_iff
theorem ltE_f {os : List Int} {x y : Ent} : ltE os x y = false ↔ cmpE os y.cs x.cs ≤ 0 := by
  unfold ltE; rw [decide_eq_false_iff_not, cmpE_neg os y.cs x.cs]; omega
/-- not behind, and behind: behind -/
theorem ltE_le {os : List Int} {x y z : Ent} (h1 : ltE os x y = false) (h2 : ltE os x z = true) : ltE os y z = true := by
  cases h : ltE os y z with
  | true => rfl
  | false =>
    have := cmpE_trans (ltE_f.1 h) (ltE_f.1 h1)
    have h3 := ltE_t.1 h2
    rw [cmpE_neg] at h3
    omega
theorem ltE_asym {os : List Int} {x y : Ent} (h : ltE os x y = true) : ltE os y x = false := ltE_f.2 (by have := ltE_t.1 h; omega)
theorem InOrd.cut {os : List Int} {P : List Ent} (h : InOrd os P) (x : Ent) : ∃ P1 P2, P = P1 ++ P2 ∧ (∀ y ∈ P1, ltE os x y = false) ∧ (∀ y ∈ P2, ltE os x y = true) := by
  induction P with
  | nil => exact ⟨[], [], rfl, (fun y hy => by cases hy), (fun y hy => by cases hy)⟩
  | cons z P ih =>
    obtain ⟨h1, h2⟩ := List.pairwise_cons.1 h
    cases hz : ltE os x z with
    | true =>
      refine ⟨[], z :: P, rfl, (fun y hy => by cases hy), fun y hy => ?_⟩
      rcases List.mem_cons.1 hy with rfl | hy
      · exact hz
      · cases hq : ltE os x y with
        | true => rfl
        | false =>
          have := cmpE_trans (h1 y hy) (ltE_f.1 hq)
          have h3 := ltE_t.1 hz
          rw [cmpE_neg] at h3
          omega
    | false =>
      obtain ⟨P1, P2, rfl, e1, e2⟩ := ih h2
      refine ⟨z :: P1, P2, rfl, fun y hy => ?_, e2⟩
      rcases List.mem_cons.1 hy with rfl | hy
      · exact hz
      · exact e1 y hy
theorem insE_cut {os : List Int} {P1 P2 : List Ent} {x : Ent} (h1 : ∀ y ∈ P1, ltE os x y = false) (h2 : ∀ y ∈ P2, ltE os x y = true) : insE os (P1 ++ P2) x = P1 ++ x :: P2 :=
  insE_eq h2 (fun z hz => h1 z (List.mem_of_getLast? hz))
theorem insE_merge {os : List Int} {S T : List Ent} (hS : InOrd os S) (hT : InOrd os T) (x : Ent) : insE os (mergeE os S T) x = mergeE os S (insE os T x) := by
  obtain ⟨S1, S2, rfl, a1, a2⟩ := hS.cut x
  obtain ⟨T1, T2, rfl, b1, b2⟩ := hT.cut x
  rw [insE_cut b1 b2]
  have c1 : ∀ y ∈ T1, ∀ z ∈ S2, ltE os y z = true := fun y hy z hz => ltE_le (b1 y hy) (a2 z hz)
  have c2 : ∀ z ∈ S1, ∀ y ∈ T2, ltE os y z = false := fun z hz y hy => ltE_asym (ltE_le (a1 z hz) (b2 y hy))
  rw [mergeE_split os S1 S2 T1 T2 c1 c2]
  have e1 : T1 ++ x :: T2 = (T1 ++ [x]) ++ T2 := by simp
  rw [e1, mergeE_split os S1 S2 (T1 ++ [x]) T2 (fun y hy z hz => by
    rcases List.mem_append.1 hy with hy | hy
    · exact c1 y hy z hz
    · rw [List.mem_singleton.1 hy]; exact a2 z hz) c2]
  have e2 := mergeE_split os S1 [] T1 [x] (fun y _ z hz => by cases hz) (fun z hz y hy => by rw [List.mem_singleton.1 hy]; exact a1 z hz)
  rw [List.append_nil, mergeE_nil_left] at e2
  rw [e2, insE_cut (fun y hy => by
    rcases mergeE_mem.1 hy with hy | hy
    · exact a1 y hy
    · exact b1 y hy) (fun y hy => by
    rcases mergeE_mem.1 hy with hy | hy
    · exact a2 y hy
    · exact b2 y hy)]
  simp
/-- what is merged of two sorted parts is the sorted whole -/
theorem sortE_append (os : List Int) (A B : List Ent) : sortE os (A ++ B) = mergeE os (sortE os A) (sortE os B) := by
  obtain ⟨n, hn⟩ : ∃ n, B.length = n := ⟨_, rfl⟩
  induction n generalizing B with
  | zero =>
    obtain rfl : B = [] := List.eq_nil_of_length_eq_zero hn
    rw [List.append_nil]
    exact (mergeE_nil_right os _).symm
  | succ n ih =>
    obtain ⟨C, x, rfl⟩ : ∃ C x, B = C ++ [x] := ⟨B.dropLast, B.getLast (by intro e; subst e; simp at hn), (List.dropLast_concat_getLast _).symm⟩
    rw [← List.append_assoc, sortE_snoc, ih C (by simpa using hn), sortE_snoc, insE_merge (sortE_ord os A) (sortE_ord os C)]

/-- an element of a list that is cut in parts -/
theorem at_mid {α : Type} {P L S : List α} {a c : Nat} (ha : P.length = a) (h1 : a ≤ c) (h2 : c < a + L.length) : (P ++ L ++ S)[c]? = L[c - a]? := by
  rw [List.append_assoc, List.getElem?_append_right (by omega), List.getElem?_append_left (by omega), ha]
theorem InOrd.le {os : List Int} {L : List Ent} (h : InOrd os L) {i j : Nat} {x y : Ent} (hij : i ≤ j) (hx : L[i]? = some x) (hy : L[j]? = some y) : ltE os y x = false := by
  by_cases e : i = j
  · subst e; rw [hx] at hy; injection hy with hy; subst hy
    cases h : ltE os x x with
    | false => rfl
    | true => have h2 := ltE_asym h; rw [h] at h2; cases h2
  · obtain ⟨hi, rfl⟩ := List.getElem?_eq_some_iff.1 hx
    obtain ⟨hj, rfl⟩ := List.getElem?_eq_some_iff.1 hy
    exact ltE_f.2 (List.pairwise_iff_getElem.1 h i j hi hj (by omega))
/-- a run that is cut where a number belongs -/
theorem mergeE_one_left {os : List Int} {x : Ent} {R1 R2 : List Ent} (h1 : ∀ y ∈ R1, ltE os y x = true) (h2 : ∀ y, R2.head? = some y → ltE os y x = false) : mergeE os [x] (R1 ++ R2) = R1 ++ x :: R2 := by
  have e := mergeE_split os [] [x] R1 R2 (fun y hy z hz => by rw [List.mem_singleton.1 hz]; exact h1 y hy) (fun z hz => by cases hz)
  rw [List.nil_append, mergeE_nil_left] at e
  rw [e]
  cases R2 with
  | nil => rw [mergeE_nil_right]
  | cons y R2 => rw [mergeE_left _ _ (h2 y rfl), mergeE_nil_left]
theorem mergeE_one_right {os : List Int} {x : Ent} {L1 L2 : List Ent} (h1 : ∀ y ∈ L1, ltE os x y = false) (h2 : ∀ y, L2.head? = some y → ltE os x y = true) : mergeE os (L1 ++ L2) [x] = L1 ++ x :: L2 := by
  have e := mergeE_split os L1 L2 [] [x] (fun y hy => by cases hy) (fun z hz y hy => by rw [List.mem_singleton.1 hy]; exact h1 z hz)
  rw [List.nil_append, mergeE_nil_right] at e
  rw [e]
  cases L2 with
  | nil => rw [mergeE_nil_left]
  | cons y L2 => rw [mergeE_right _ _ (h2 y rfl), mergeE_nil_right]
end Go.Proofs.Ytpfabbapfmfmmaa
/- slices.swapRangeCmpFunc and slices.rotateCmpFunc at entries. -/
namespace Go.Proofs.Ytpfabbapfmfmmaa
open Go.RowKit

/-- block g holds the entries M, and then post -/
def RowE (w : World) (g : Nat) (M : List Ent) (post : List Value) : Prop := w.heap[g]? = some (.cells (cellsE M ++ post).toArray 37 (0, 0))
theorem swap_two {α : Type} (P Q S : List α) (x y : α) {k l : Nat} (hk : P.length = k) (hl : k + 1 + Q.length = l) : ((P ++ x :: Q ++ y :: S).set k y).set l x = P ++ y :: Q ++ x :: S := by
  subst hk
  subst hl
  induction P with
  | nil =>
    simp only [List.nil_append, List.length_nil, List.cons_append, List.set_cons_zero, Nat.zero_add]
    rw [Nat.add_comm 1, List.set_cons_succ]
    congr 1
    rw [List.set_append_right _ _ (Nat.le_refl _), Nat.sub_self, List.set_cons_zero]
  | cons z P ih =>
    simp only [List.cons_append, List.length_cons, List.set_cons_succ]
    have e : P.length + 1 + 1 + Q.length = P.length + 1 + Q.length + 1 := by omega
    rw [e, List.set_cons_succ]
    congr 1
theorem RowE.lt {w : World} {g : Nat} {M : List Ent} {post : List Value} (h : RowE w g M post) : g < w.heap.size := by
  rcases Nat.lt_or_ge g w.heap.size with q | q
  · exact q
  · unfold RowE at h; rw [Array.getElem?_eq_none q] at h; cases h
theorem RowE.swap {w : World} {g k l : Nat} {M N : List Ent} {post : List Value} (h : RowE w g M post) {x y : Ent} (hk : k < M.length) (hl : l < M.length) (hN : (M.set k y).set l x = N) :
    RowE ((((w.setCell ⟨g, k * 2, none⟩ (.slice y.A y.n y.c)).setCell ⟨g, k * 2 + 1, none⟩ (.int .i64 y.v)).setCell ⟨g, l * 2, none⟩ (.slice x.A x.n x.c)).setCell ⟨g, l * 2 + 1, none⟩ (.int .i64 x.v)) g N post := by
  subst hN
  exact ent_set (ent_set h hk y) (by rw [List.length_set]; exact hl) x
theorem grown_four {w0 w : World} {g : Nat} (h : w0.grownBy w (some g)) (k l : Nat) (v1 v2 v3 v4 : Value) :
    w0.grownBy ((((w.setCell ⟨g, k * 2, none⟩ v1).setCell ⟨g, k * 2 + 1, none⟩ v2).setCell ⟨g, l * 2, none⟩ v3).setCell ⟨g, l * 2 + 1, none⟩ v4) (some g) :=
  grownBy_setE (grownBy_setE (grownBy_setE (grownBy_setE h _ _) _ _) _ _) _ _
theorem grown_same (w : World) (g : Nat) : w.grownBy w (some g) := ⟨rfl, rfl, rfl, Nat.le_refl _, fun _ _ _ => rfl⟩
theorem grown_trans {w0 w1 w2 : World} {g : Nat} (h : w0.grownBy w1 (some g)) (h2 : w1.grownBy w2 (some g)) : w0.grownBy w2 (some g) :=
  ⟨h2.os.trans h.os, h2.tape.trans h.tape, h2.output.trans h.output, Nat.le_trans h.size h2.size, fun i hi hne => (h2.block i (Nat.lt_of_lt_of_le hi h.size) hne).trans (h.block i hi hne)⟩
theorem grown_drew {w w' : World} {g : Nat} (h : w.grownBy w' (some g)) : w.grownBy w'.drew (some g) := grown_below' h (Below.refl _ _).drew
theorem RowE.drew {w : World} {g : Nat} {M : List Ent} {post : List Value} (h : RowE w g M post) : RowE w.drew g M post := h

set_option maxRecDepth 100000 in
set_option maxHeartbeats 4000000 in
theorem swapRange_ok (g n c a b q : Nat) (P X Q Y S : List Ent) (post : List Value) (F : Value) (w : World)
    (hblk : RowE w g (P ++ X ++ Q ++ Y ++ S) post) (hP : P.length = a) (hX : X.length = q) (hY : Y.length = q) (hb : a + q + Q.length = b) (hn : b + q + S.length = n) (hnb : n ≤ 4000000000000000000) :
    Calls Try.prog 108 #[.slice (some ⟨g, 0, none⟩) n c, .int .i64 (a : Int), .int .i64 (b : Int), .int .i64 (q : Int), F] w
      fun e w' => e = .returned (.tuple #[]) ∧ RowE w' g (P ++ Y ++ Q ++ X ++ S) post ∧ w.grownBy w' (some g) := by
  have HB := Lib.hid hblk
  have HP := Lib.hid hP
  have HX := Lib.hid hX
  have HY := Lib.hid hY
  have HQ := Lib.hid hb
  have HN := Lib.hid hn
  have hq1 : a + q ≤ n := by omega
  have hq2 : b + q ≤ n := by omega
  clear hblk hP hX hY hb hn
  go_enter Try.func108, Try.ntmps108
  go_wp2
  go_loopw [10] (fun v wr => ∃ i : Nat, v = .int .i64 (i : Int) ∧ i ≤ q ∧ Hid (RowE wr g (P ++ (Y.take i ++ X.drop i) ++ Q ++ (X.take i ++ Y.drop i) ++ S) post) ∧ Hid (w.grownBy wr (some g))) (fun v _ => q - (intOf v).toNat)
  case atStart => exact ⟨0, rfl, Nat.zero_le _, by unfold Hid; simpa using HB.out, Lib.hid (grown_same w g)⟩
  case round =>
    obtain ⟨i, rfl, hi, HR, HG⟩ := hrel
    by_cases hlt : i < q
    · obtain ⟨x, hx⟩ : ∃ x, X[i]? = some x := ⟨_, List.getElem?_eq_getElem (by rw [HX.out]; omega)⟩
      obtain ⟨y, hy⟩ : ∃ y, Y[i]? = some y := ⟨_, List.getElem?_eq_getElem (by rw [HY.out]; omega)⟩
      have hM : P ++ (Y.take i ++ X.drop i) ++ Q ++ (X.take i ++ Y.drop i) ++ S = (P ++ Y.take i) ++ x :: (X.drop (i + 1) ++ Q ++ X.take i) ++ y :: (Y.drop (i + 1) ++ S) := by
        rw [drop_of hx, drop_of hy]; simp
      have hN : P ++ (Y.take (i + 1) ++ X.drop (i + 1)) ++ Q ++ (X.take (i + 1) ++ Y.drop (i + 1)) ++ S = (P ++ Y.take i) ++ y :: (X.drop (i + 1) ++ Q ++ X.take i) ++ x :: (Y.drop (i + 1) ++ S) := by
        rw [take_succ_of hx, take_succ_of hy]; simp
      obtain ⟨k, hk⟩ : ∃ k, a + i = k := ⟨_, rfl⟩
      obtain ⟨l, hl⟩ : ∃ l, b + i = l := ⟨_, rfl⟩
      have hl1 : (P ++ Y.take i).length = k := by rw [List.length_append, List.length_take, HP.out, HY.out]; omega
      have hl2 : k + 1 + (X.drop (i + 1) ++ Q ++ X.take i).length = l := by
        rw [List.length_append, List.length_append, List.length_take, List.length_drop, HX.out]; have := HQ.out; omega
      have hR := HR.out
      rw [hM] at hR
      have HN2 := Lib.hid hN
      have hSW := swap_two (P ++ Y.take i) (X.drop (i + 1) ++ Q ++ X.take i) (Y.drop (i + 1) ++ S) x y hl1 hl2
      obtain ⟨M, hMM⟩ : ∃ M, (P ++ Y.take i) ++ x :: (X.drop (i + 1) ++ Q ++ X.take i) ++ y :: (Y.drop (i + 1) ++ S) = M := ⟨_, rfl⟩
      have hMk : M[k]? = some x := by rw [← hMM, List.append_assoc, List.getElem?_append_right (by omega), hl1, Nat.sub_self]; rfl
      have hMl : M[l]? = some y := by rw [← hMM, List.getElem?_append_right (by rw [List.length_append, List.length_cons]; omega), List.length_append, List.length_cons, hl1, show l - (k + ((X.drop (i + 1) ++ Q ++ X.take i).length + 1)) = 0 by omega]; rfl
      rw [hMM] at hR hSW
      obtain ⟨⟨a1, a2⟩, a3, a4⟩ := blk_ent hR hMk
      obtain ⟨⟨b1, b2⟩, b3, b4⟩ := blk_ent hR hMl
      have hkM := (List.getElem?_eq_some_iff.1 hMk).1
      have hlM := (List.getElem?_eq_some_iff.1 hMl).1
      have HSW := Lib.hid (RowE.swap hR hkM hlM hSW)
      have HGW := Lib.hid (grown_four HG.out k l (.slice y.A y.n y.c) (.int .i64 y.v) (.slice x.A x.n x.c) (.int .i64 x.v))
      have e1 : (a : Int) + (i : Int) = (k : Int) := by omega
      have e2 : (b : Int) + (i : Int) = (l : Int) := by omega
      have hkn : (k : Int) < (n : Int) := by omega
      have hln : (l : Int) < (n : Int) := by omega
      have hk0 : (0 : Int) ≤ (k : Int) := by omega
      have hl0 : (0 : Int) ≤ (l : Int) := by omega
      have hkl : k ≠ l := by omega
      clear hM hN hSW hMM hR hMk hMl hl1 hl2 hk hl hx hy HR hkM hlM
      go_wp2
      go_region
      all_goals
        obtain ⟨w4, hw4⟩ : ∃ w4, ((((wr.setCell ⟨g, k * 2, none⟩ (.slice y.A y.n y.c)).setCell ⟨g, k * 2 + 1, none⟩ (.int .i64 y.v)).setCell ⟨g, l * 2, none⟩ (.slice x.A x.n x.c)).setCell ⟨g, l * 2 + 1, none⟩ (.int .i64 x.v)) = w4 := ⟨_, rfl⟩
        rw [hw4] at HSW HGW ⊢
        clear hw4 a1 a2 a3 a4 b1 b2 b3 b4
        go_wp2
        go_roundw
        case rel => exact ⟨i + 1, by go_num, by omega, by unfold Hid; rw [HN2.out]; exact HSW.out.drew, Lib.hid (grown_drew HGW.out)⟩
        case measure => simp [intOf]; omega
    · obtain rfl : i = q := by omega
      have hfin : P ++ (Y.take i ++ X.drop i) ++ Q ++ (X.take i ++ Y.drop i) ++ S = P ++ Y ++ Q ++ X ++ S := by
        rw [List.take_of_length_le (Nat.le_of_eq HY.out), List.take_of_length_le (Nat.le_of_eq HX.out), List.drop_of_length_le (Nat.le_of_eq HY.out), List.drop_of_length_le (Nat.le_of_eq HX.out)]; simp
      have HF := Lib.hid hfin
      clear hfin
      go_wp2
      go_end0
      exact ⟨rfl, by rw [← HF.out]; exact HR.out, HG.out⟩

set_option maxRecDepth 100000 in
set_option maxHeartbeats 4000000 in
theorem rotate_ok (g n c a m b : Nat) (P U V S : List Ent) (post : List Value) (F : Value) (w : World)
    (hblk : RowE w g (P ++ U ++ V ++ S) post) (hP : P.length = a) (hU : a + U.length = m) (hV : m + V.length = b) (hn : b + S.length = n) (hU1 : a < m) (hV1 : m < b) (hnb : n ≤ 4000000000000000000) :
    Calls Try.prog 96 #[.slice (some ⟨g, 0, none⟩) n c, .int .i64 (a : Int), .int .i64 (m : Int), .int .i64 (b : Int), F] w
      fun e w' => e = .returned (.tuple #[]) ∧ RowE w' g (P ++ V ++ U ++ S) post ∧ w.grownBy w' (some g) := by
  obtain ⟨i0, hi0⟩ : ∃ i0 : Nat, m - a = i0 := ⟨_, rfl⟩
  obtain ⟨j0, hj0⟩ : ∃ j0 : Nat, b - m = j0 := ⟨_, rfl⟩
  have e1 : (m : Int) - (a : Int) = (i0 : Int) := by omega
  have e2 : (b : Int) - (m : Int) = (j0 : Int) := by omega
  have HB := Lib.hid hblk
  have HI0 : Hid (1 ≤ i0 ∧ 1 ≤ j0 ∧ P.length + i0 = m ∧ U.length = i0 ∧ V.length = j0 ∧ m + j0 + S.length = n) := by unfold Hid; omega
  have hmn : m ≤ n := by omega
  have hi2 : i0 ≤ n := by omega
  have hj2 : j0 ≤ n := by omega
  clear hblk hP hU hV hn hU1 hV1 hi0 hj0
  go_enter Try.func96, Try.ntmps96
  go_wp2
  go_loopw [10, 11] (fun v u wr => ∃ (i j : Nat) (A X Y B : List Ent), v = .int .i64 (i : Int) ∧ u = .int .i64 (j : Int) ∧ i ≤ n ∧ j ≤ n ∧ Hid (1 ≤ i ∧ 1 ≤ j ∧ A.length + i = m ∧ X.length = i ∧ Y.length = j ∧ m + j + B.length = n) ∧ Hid (P ++ V ++ U ++ S = A ++ Y ++ X ++ B) ∧ Hid (RowE wr g (A ++ X ++ Y ++ B) post) ∧ Hid (w.grownBy wr (some g))) (fun v u _ => (intOf v).toNat + (intOf u).toNat)
  case atStart => exact ⟨i0, j0, P, U, V, S, rfl, rfl, hi2, hj2, HI0, rfl, HB, Lib.hid (grown_same w g)⟩
  case round =>
    clear e1 e2 HI0 HB
    obtain ⟨i, j, A, X, Y, B, rfl, rfl, hin, hjn, HIJ, HT, HR, HG⟩ := hrel
    obtain ⟨h1, h2, h3, h4, h5, h6⟩ := HIJ.out
    obtain ⟨k, hk⟩ : ∃ k : Nat, m - i = k := ⟨_, rfl⟩
    have e3 : (m : Int) - (i : Int) = (k : Int) := by omega
    rcases Nat.lt_trichotomy i j with hij | hij | hij
    · obtain ⟨l, hl⟩ : ∃ l : Nat, m + j - i = l := ⟨_, rfl⟩
      obtain ⟨mj, hmj⟩ : ∃ mj : Nat, m + j = mj := ⟨_, rfl⟩
      obtain ⟨d, hd⟩ : ∃ d : Nat, j - i = d := ⟨_, rfl⟩
      have e4 : (m : Int) + (j : Int) = (mj : Int) := by omega
      have e5 : (mj : Int) - (i : Int) = (l : Int) := by omega
      have e6 : (j : Int) - (i : Int) = (d : Int) := by omega
      have d1 : ((i : Int) != (j : Int)) = true := by simp; omega
      have d2 : decide ((j : Int) < (i : Int)) = false := by simp; omega
      have hY : Y = Y.take d ++ Y.drop d := (List.take_append_drop d Y).symm
      have ly1 : (Y.take d).length = d := by rw [List.length_take]; omega
      have ly2 : (Y.drop d).length = i := by rw [List.length_drop]; omega
      have hR := HR.out
      have hT := HT.out
      rw [hY] at hR hT
      have hR2 : RowE wr g (A ++ X ++ Y.take d ++ Y.drop d ++ B) post := by simpa using hR
      have hC := swapRange_ok g n c k l i A X (Y.take d) (Y.drop d) B post F wr hR2 (by omega) h4 ly2 (by omega) (by omega) hnb
      have HT2 : Hid (P ++ V ++ U ++ S = A ++ Y.take d ++ Y.drop d ++ (X ++ B)) := by unfold Hid; rw [hT]; simp
      have HL2 : Hid (1 ≤ i ∧ 1 ≤ d ∧ A.length + i = m ∧ (Y.drop d).length = i ∧ (Y.take d).length = d ∧ m + d + (X ++ B).length = n) := by unfold Hid; rw [List.length_append]; omega
      have hdn : d ≤ n := by omega
      have hmjn : mj ≤ n := by omega
      have hi1 : 1 ≤ i := h1
      have hln : l ≤ n := by omega
      clear hR hT hR2 hY ly1 ly2 hl hd hk hmj h1 h2 h3 h4 h5 h6
      go_wp2_with fail
      refine hC.mono ?_
      rintro e w2 ⟨rfl, hr2, hg2⟩
      have HR2 : Hid (RowE w2 g (A ++ Y.drop d ++ Y.take d ++ (X ++ B)) post) := by unfold Hid; simpa using hr2
      have HG2 := Lib.hid (grown_trans HG.out hg2)
      clear hr2 hg2 hC
      go_wp2_with fail
      go_roundw
      case rel => exact ⟨i, d, A, Y.drop d, Y.take d, X ++ B, rfl, rfl, hin, hdn, HL2, HT2, HR2, HG2⟩
      case measure => simp [intOf]; omega
    · subst hij
      have d1 : ((i : Int) != (i : Int)) = false := by simp
      have hC := swapRange_ok g n c k m i A X [] Y B post F wr (by simpa using HR.out) (by omega) h4 h5 (by simp; omega) (by omega) hnb
      clear hk h1 h2 h3 h4 h5 h6
      go_wp2_with fail
      refine hC.mono ?_
      rintro e w2 ⟨rfl, hr2, hg2⟩
      have HR2 : Hid (RowE w2 g (P ++ V ++ U ++ S) post) := by unfold Hid; rw [HT.out]; simpa using hr2
      have HG2 := Lib.hid (grown_trans HG.out hg2)
      go_wp2_with fail
      go_end0
      exact ⟨rfl, HR2.out, HG2.out⟩
    · obtain ⟨d, hd⟩ : ∃ d : Nat, i - j = d := ⟨_, rfl⟩
      have e6 : (i : Int) - (j : Int) = (d : Int) := by omega
      have d1 : ((i : Int) != (j : Int)) = true := by simp; omega
      have d2 : decide ((j : Int) < (i : Int)) = true := by simp; omega
      have hX : X = X.take j ++ X.drop j := (List.take_append_drop j X).symm
      have lx1 : (X.take j).length = j := by rw [List.length_take]; omega
      have lx2 : (X.drop j).length = d := by rw [List.length_drop]; omega
      have hR := HR.out
      have hT := HT.out
      rw [hX] at hR hT
      have hR2 : RowE wr g (A ++ X.take j ++ X.drop j ++ Y ++ B) post := by simpa using hR
      have hC := swapRange_ok g n c k m j A (X.take j) (X.drop j) Y B post F wr hR2 (by omega) lx1 h5 (by omega) (by omega) hnb
      have HT2 : Hid (P ++ V ++ U ++ S = A ++ Y ++ X.take j ++ X.drop j ++ B) := by unfold Hid; rw [hT]; simp
      have HL2 : Hid (1 ≤ d ∧ 1 ≤ j ∧ (A ++ Y).length + d = m ∧ (X.drop j).length = d ∧ (X.take j).length = j ∧ m + j + B.length = n) := by unfold Hid; rw [List.length_append]; omega
      have hdn : d ≤ n := by omega
      have hj1 : 1 ≤ j := h2
      clear hR hT hR2 hX lx1 lx2 hd hk h1 h2 h3 h4 h5 h6
      go_wp2_with fail
      refine hC.mono ?_
      rintro e w2 ⟨rfl, hr2, hg2⟩
      have HR2 : Hid (RowE w2 g (A ++ Y ++ X.drop j ++ X.take j ++ B) post) := by unfold Hid; simpa using hr2
      have HG2 := Lib.hid (grown_trans HG.out hg2)
      clear hr2 hg2 hC
      go_wp2_with fail
      go_roundw
      case rel => exact ⟨d, j, A ++ Y, X.drop j, X.take j, B, rfl, rfl, hdn, hjn, HL2, HT2, HR2, HG2⟩
      case measure => simp [intOf]; omega
end Go.Proofs.Ytpfabbapfmfmmaa
