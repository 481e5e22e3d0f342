/- slices.swapRangeCmpFunc and slices.rotateCmpFunc at entries. -/
import Derived.Test.YtpjelcghlnmoeaaEMergeM
namespace Go.Proofs.Ytpjelcghlnmoeaa
open Go.RowKit

/-- block g holds the entries M, and then post -/
def RowE (w : World) (g : Nat) (M : List Ent) (post : List Value) : Prop := w.heap[g]? = some (.cells (cellsE M ++ post).toArray 37 (0, 0))
theorem swap_two {α : Type} (P Q S : List α) (x y : α) {k l : Nat} (hk : P.length = k) (hl : k + 1 + Q.length = l) : ((P ++ x :: Q ++ y :: S).set k y).set l x = P ++ y :: Q ++ x :: S := by
  subst hk
  subst hl
  induction P with
  | nil =>
    simp only [List.nil_append, List.length_nil, List.cons_append, List.set_cons_zero, Nat.zero_add]
    rw [Nat.add_comm 1, List.set_cons_succ]
    congr 1
    rw [List.set_append_right _ _ (Nat.le_refl _), Nat.sub_self, List.set_cons_zero]
  | cons z P ih =>
    simp only [List.cons_append, List.length_cons, List.set_cons_succ]
    have e : P.length + 1 + 1 + Q.length = P.length + 1 + Q.length + 1 := by omega
    rw [e, List.set_cons_succ]
    congr 1
theorem RowE.lt {w : World} {g : Nat} {M : List Ent} {post : List Value} (h : RowE w g M post) : g < w.heap.size := by
  rcases Nat.lt_or_ge g w.heap.size with q | q
  · exact q
  · unfold RowE at h; rw [Array.getElem?_eq_none q] at h; cases h
theorem RowE.swap {w : World} {g k l : Nat} {M N : List Ent} {post : List Value} (h : RowE w g M post) {x y : Ent} (hk : k < M.length) (hl : l < M.length) (hN : (M.set k y).set l x = N) :
    RowE ((((w.setCell ⟨g, k * 2, none⟩ (.slice y.A y.n y.c)).setCell ⟨g, k * 2 + 1, none⟩ (.int .i64 y.v)).setCell ⟨g, l * 2, none⟩ (.slice x.A x.n x.c)).setCell ⟨g, l * 2 + 1, none⟩ (.int .i64 x.v)) g N post := by
  subst hN
  exact ent_set (ent_set h hk y) (by rw [List.length_set]; exact hl) x
theorem grown_four {w0 w : World} {g : Nat} (h : w0.grownBy w (some g)) (k l : Nat) (v1 v2 v3 v4 : Value) :
    w0.grownBy ((((w.setCell ⟨g, k * 2, none⟩ v1).setCell ⟨g, k * 2 + 1, none⟩ v2).setCell ⟨g, l * 2, none⟩ v3).setCell ⟨g, l * 2 + 1, none⟩ v4) (some g) :=
  grownBy_setE (grownBy_setE (grownBy_setE (grownBy_setE h _ _) _ _) _ _) _ _
theorem grown_same (w : World) (g : Nat) : w.grownBy w (some g) := ⟨rfl, rfl, rfl, Nat.le_refl _, fun _ _ _ => rfl⟩
theorem grown_trans {w0 w1 w2 : World} {g : Nat} (h : w0.grownBy w1 (some g)) (h2 : w1.grownBy w2 (some g)) : w0.grownBy w2 (some g) :=
  ⟨h2.os.trans h.os, h2.tape.trans h.tape, h2.output.trans h.output, Nat.le_trans h.size h2.size, fun i hi hne => (h2.block i (Nat.lt_of_lt_of_le hi h.size) hne).trans (h.block i hi hne)⟩
theorem grown_drew {w w' : World} {g : Nat} (h : w.grownBy w' (some g)) : w.grownBy w'.drew (some g) := grown_below' h (Below.refl _ _).drew
theorem RowE.drew {w : World} {g : Nat} {M : List Ent} {post : List Value} (h : RowE w g M post) : RowE w.drew g M post := h

set_option maxRecDepth 100000 in
set_option maxHeartbeats 4000000 in
theorem swapRange_ok (g n c a b q : Nat) (P X Q Y S : List Ent) (post : List Value) (F : Value) (w : World)
    (hblk : RowE w g (P ++ X ++ Q ++ Y ++ S) post) (hP : P.length = a) (hX : X.length = q) (hY : Y.length = q) (hb : a + q + Q.length = b) (hn : b + q + S.length = n) (hnb : n ≤ 4000000000000000000) :
    Calls Try.prog 108 #[.slice (some ⟨g, 0, none⟩) n c, .int .i64 (a : Int), .int .i64 (b : Int), .int .i64 (q : Int), F] w
      fun e w' => e = .returned (.tuple #[]) ∧ RowE w' g (P ++ Y ++ Q ++ X ++ S) post ∧ w.grownBy w' (some g) := by
  have HB := Lib.hid hblk
  have HP := Lib.hid hP
  have HX := Lib.hid hX
  have HY := Lib.hid hY
  have HQ := Lib.hid hb
  have HN := Lib.hid hn
  have hq1 : a + q ≤ n := by omega
  have hq2 : b + q ≤ n := by omega
  clear hblk hP hX hY hb hn
  go_enter Try.func108, Try.ntmps108
  go_wp2
  go_loopw [10] (fun v wr => ∃ i : Nat, v = .int .i64 (i : Int) ∧ i ≤ q ∧ Hid (RowE wr g (P ++ (Y.take i ++ X.drop i) ++ Q ++ (X.take i ++ Y.drop i) ++ S) post) ∧ Hid (w.grownBy wr (some g))) (fun v _ => q - (intOf v).toNat)
  case atStart => exact ⟨0, rfl, Nat.zero_le _, by unfold Hid; simpa using HB.out, Lib.hid (grown_same w g)⟩
  case round =>
    obtain ⟨i, rfl, hi, HR, HG⟩ := hrel
    by_cases hlt : i < q
    · obtain ⟨x, hx⟩ : ∃ x, X[i]? = some x := ⟨_, List.getElem?_eq_getElem (by rw [HX.out]; omega)⟩
      obtain ⟨y, hy⟩ : ∃ y, Y[i]? = some y := ⟨_, List.getElem?_eq_getElem (by rw [HY.out]; omega)⟩
      have hM : P ++ (Y.take i ++ X.drop i) ++ Q ++ (X.take i ++ Y.drop i) ++ S = (P ++ Y.take i) ++ x :: (X.drop (i + 1) ++ Q ++ X.take i) ++ y :: (Y.drop (i + 1) ++ S) := by
        rw [drop_of hx, drop_of hy]; simp
      have hN : P ++ (Y.take (i + 1) ++ X.drop (i + 1)) ++ Q ++ (X.take (i + 1) ++ Y.drop (i + 1)) ++ S = (P ++ Y.take i) ++ y :: (X.drop (i + 1) ++ Q ++ X.take i) ++ x :: (Y.drop (i + 1) ++ S) := by
        rw [take_succ_of hx, take_succ_of hy]; simp
      obtain ⟨k, hk⟩ : ∃ k, a + i = k := ⟨_, rfl⟩
      obtain ⟨l, hl⟩ : ∃ l, b + i = l := ⟨_, rfl⟩
      have hl1 : (P ++ Y.take i).length = k := by rw [List.length_append, List.length_take, HP.out, HY.out]; omega
      have hl2 : k + 1 + (X.drop (i + 1) ++ Q ++ X.take i).length = l := by
        rw [List.length_append, List.length_append, List.length_take, List.length_drop, HX.out]; have := HQ.out; omega
      have hR := HR.out
      rw [hM] at hR
      have HN2 := Lib.hid hN
      have hSW := swap_two (P ++ Y.take i) (X.drop (i + 1) ++ Q ++ X.take i) (Y.drop (i + 1) ++ S) x y hl1 hl2
      obtain ⟨M, hMM⟩ : ∃ M, (P ++ Y.take i) ++ x :: (X.drop (i + 1) ++ Q ++ X.take i) ++ y :: (Y.drop (i + 1) ++ S) = M := ⟨_, rfl⟩
      have hMk : M[k]? = some x := by rw [← hMM, List.append_assoc, List.getElem?_append_right (by omega), hl1, Nat.sub_self]; rfl
      have hMl : M[l]? = some y := by rw [← hMM, List.getElem?_append_right (by rw [List.length_append, List.length_cons]; omega), List.length_append, List.length_cons, hl1, show l - (k + ((X.drop (i + 1) ++ Q ++ X.take i).length + 1)) = 0 by omega]; rfl
      rw [hMM] at hR hSW
      obtain ⟨⟨a1, a2⟩, a3, a4⟩ := blk_ent hR hMk
      obtain ⟨⟨b1, b2⟩, b3, b4⟩ := blk_ent hR hMl
      have hkM := (List.getElem?_eq_some_iff.1 hMk).1
      have hlM := (List.getElem?_eq_some_iff.1 hMl).1
      have HSW := Lib.hid (RowE.swap hR hkM hlM hSW)
      have HGW := Lib.hid (grown_four HG.out k l (.slice y.A y.n y.c) (.int .i64 y.v) (.slice x.A x.n x.c) (.int .i64 x.v))
      have e1 : (a : Int) + (i : Int) = (k : Int) := by omega
      have e2 : (b : Int) + (i : Int) = (l : Int) := by omega
      have hkn : (k : Int) < (n : Int) := by omega
      have hln : (l : Int) < (n : Int) := by omega
      have hk0 : (0 : Int) ≤ (k : Int) := by omega
      have hl0 : (0 : Int) ≤ (l : Int) := by omega
      have hkl : k ≠ l := by omega
      clear hM hN hSW hMM hR hMk hMl hl1 hl2 hk hl hx hy HR hkM hlM
      go_wp2
      go_region
      all_goals
        obtain ⟨w4, hw4⟩ : ∃ w4, ((((wr.setCell ⟨g, k * 2, none⟩ (.slice y.A y.n y.c)).setCell ⟨g, k * 2 + 1, none⟩ (.int .i64 y.v)).setCell ⟨g, l * 2, none⟩ (.slice x.A x.n x.c)).setCell ⟨g, l * 2 + 1, none⟩ (.int .i64 x.v)) = w4 := ⟨_, rfl⟩
        rw [hw4] at HSW HGW ⊢
        clear hw4 a1 a2 a3 a4 b1 b2 b3 b4
        go_wp2
        go_roundw
        case rel => exact ⟨i + 1, by go_num, by omega, by unfold Hid; rw [HN2.out]; exact HSW.out.drew, Lib.hid (grown_drew HGW.out)⟩
        case measure => simp [intOf]; omega
    · obtain rfl : i = q := by omega
      have hfin : P ++ (Y.take i ++ X.drop i) ++ Q ++ (X.take i ++ Y.drop i) ++ S = P ++ Y ++ Q ++ X ++ S := by
        rw [List.take_of_length_le (Nat.le_of_eq HY.out), List.take_of_length_le (Nat.le_of_eq HX.out), List.drop_of_length_le (Nat.le_of_eq HY.out), List.drop_of_length_le (Nat.le_of_eq HX.out)]; simp
      have HF := Lib.hid hfin
      clear hfin
      go_wp2
      go_end0
      exact ⟨rfl, by rw [← HF.out]; exact HR.out, HG.out⟩

set_option maxRecDepth 100000 in
set_option maxHeartbeats 4000000 in
theorem rotate_ok (g n c a m b : Nat) (P U V S : List Ent) (post : List Value) (F : Value) (w : World)
    (hblk : RowE w g (P ++ U ++ V ++ S) post) (hP : P.length = a) (hU : a + U.length = m) (hV : m + V.length = b) (hn : b + S.length = n) (hU1 : a < m) (hV1 : m < b) (hnb : n ≤ 4000000000000000000) :
    Calls Try.prog 96 #[.slice (some ⟨g, 0, none⟩) n c, .int .i64 (a : Int), .int .i64 (m : Int), .int .i64 (b : Int), F] w
      fun e w' => e = .returned (.tuple #[]) ∧ RowE w' g (P ++ V ++ U ++ S) post ∧ w.grownBy w' (some g) := by
  obtain ⟨i0, hi0⟩ : ∃ i0 : Nat, m - a = i0 := ⟨_, rfl⟩
  obtain ⟨j0, hj0⟩ : ∃ j0 : Nat, b - m = j0 := ⟨_, rfl⟩
  have e1 : (m : Int) - (a : Int) = (i0 : Int) := by omega
  have e2 : (b : Int) - (m : Int) = (j0 : Int) := by omega
  have HB := Lib.hid hblk
  have HI0 : Hid (1 ≤ i0 ∧ 1 ≤ j0 ∧ P.length + i0 = m ∧ U.length = i0 ∧ V.length = j0 ∧ m + j0 + S.length = n) := by unfold Hid; omega
  have hmn : m ≤ n := by omega
  have hi2 : i0 ≤ n := by omega
  have hj2 : j0 ≤ n := by omega
  clear hblk hP hU hV hn hU1 hV1 hi0 hj0
  go_enter Try.func96, Try.ntmps96
  go_wp2
  go_loopw [10, 11] (fun v u wr => ∃ (i j : Nat) (A X Y B : List Ent), v = .int .i64 (i : Int) ∧ u = .int .i64 (j : Int) ∧ i ≤ n ∧ j ≤ n ∧ Hid (1 ≤ i ∧ 1 ≤ j ∧ A.length + i = m ∧ X.length = i ∧ Y.length = j ∧ m + j + B.length = n) ∧ Hid (P ++ V ++ U ++ S = A ++ Y ++ X ++ B) ∧ Hid (RowE wr g (A ++ X ++ Y ++ B) post) ∧ Hid (w.grownBy wr (some g))) (fun v u _ => (intOf v).toNat + (intOf u).toNat)
  case atStart => exact ⟨i0, j0, P, U, V, S, rfl, rfl, hi2, hj2, HI0, rfl, HB, Lib.hid (grown_same w g)⟩
  case round =>
    clear e1 e2 HI0 HB
    obtain ⟨i, j, A, X, Y, B, rfl, rfl, hin, hjn, HIJ, HT, HR, HG⟩ := hrel
    obtain ⟨h1, h2, h3, h4, h5, h6⟩ := HIJ.out
    obtain ⟨k, hk⟩ : ∃ k : Nat, m - i = k := ⟨_, rfl⟩
    have e3 : (m : Int) - (i : Int) = (k : Int) := by omega
    rcases Nat.lt_trichotomy i j with hij | hij | hij
    · obtain ⟨l, hl⟩ : ∃ l : Nat, m + j - i = l := ⟨_, rfl⟩
      obtain ⟨mj, hmj⟩ : ∃ mj : Nat, m + j = mj := ⟨_, rfl⟩
      obtain ⟨d, hd⟩ : ∃ d : Nat, j - i = d := ⟨_, rfl⟩
      have e4 : (m : Int) + (j : Int) = (mj : Int) := by omega
      have e5 : (mj : Int) - (i : Int) = (l : Int) := by omega
      have e6 : (j : Int) - (i : Int) = (d : Int) := by omega
      have d1 : ((i : Int) != (j : Int)) = true := by simp; omega
      have d2 : decide ((j : Int) < (i : Int)) = false := by simp; omega
      have hY : Y = Y.take d ++ Y.drop d := (List.take_append_drop d Y).symm
      have ly1 : (Y.take d).length = d := by rw [List.length_take]; omega
      have ly2 : (Y.drop d).length = i := by rw [List.length_drop]; omega
      have hR := HR.out
      have hT := HT.out
      rw [hY] at hR hT
      have hR2 : RowE wr g (A ++ X ++ Y.take d ++ Y.drop d ++ B) post := by simpa using hR
      have hC := swapRange_ok g n c k l i A X (Y.take d) (Y.drop d) B post F wr hR2 (by omega) h4 ly2 (by omega) (by omega) hnb
      have HT2 : Hid (P ++ V ++ U ++ S = A ++ Y.take d ++ Y.drop d ++ (X ++ B)) := by unfold Hid; rw [hT]; simp
      have HL2 : Hid (1 ≤ i ∧ 1 ≤ d ∧ A.length + i = m ∧ (Y.drop d).length = i ∧ (Y.take d).length = d ∧ m + d + (X ++ B).length = n) := by unfold Hid; rw [List.length_append]; omega
      have hdn : d ≤ n := by omega
      have hmjn : mj ≤ n := by omega
      have hi1 : 1 ≤ i := h1
      have hln : l ≤ n := by omega
      clear hR hT hR2 hY ly1 ly2 hl hd hk hmj h1 h2 h3 h4 h5 h6
      go_wp2_with fail
      refine hC.mono ?_
      rintro e w2 ⟨rfl, hr2, hg2⟩
      have HR2 : Hid (RowE w2 g (A ++ Y.drop d ++ Y.take d ++ (X ++ B)) post) := by unfold Hid; simpa using hr2
      have HG2 := Lib.hid (grown_trans HG.out hg2)
      clear hr2 hg2 hC
      go_wp2_with fail
      go_roundw
      case rel => exact ⟨i, d, A, Y.drop d, Y.take d, X ++ B, rfl, rfl, hin, hdn, HL2, HT2, HR2, HG2⟩
      case measure => simp [intOf]; omega
    · subst hij
      have d1 : ((i : Int) != (i : Int)) = false := by simp
      have hC := swapRange_ok g n c k m i A X [] Y B post F wr (by simpa using HR.out) (by omega) h4 h5 (by simp; omega) (by omega) hnb
      clear hk h1 h2 h3 h4 h5 h6
      go_wp2_with fail
      refine hC.mono ?_
      rintro e w2 ⟨rfl, hr2, hg2⟩
      have HR2 : Hid (RowE w2 g (P ++ V ++ U ++ S) post) := by unfold Hid; rw [HT.out]; simpa using hr2
      have HG2 := Lib.hid (grown_trans HG.out hg2)
      go_wp2_with fail
      go_end0
      exact ⟨rfl, HR2.out, HG2.out⟩
    · obtain ⟨d, hd⟩ : ∃ d : Nat, i - j = d := ⟨_, rfl⟩
      have e6 : (i : Int) - (j : Int) = (d : Int) := by omega
      have d1 : ((i : Int) != (j : Int)) = true := by simp; omega
      have d2 : decide ((j : Int) < (i : Int)) = true := by simp; omega
      have hX : X = X.take j ++ X.drop j := (List.take_append_drop j X).symm
      have lx1 : (X.take j).length = j := by rw [List.length_take]; omega
      have lx2 : (X.drop j).length = d := by rw [List.length_drop]; omega
      have hR := HR.out
      have hT := HT.out
      rw [hX] at hR hT
      have hR2 : RowE wr g (A ++ X.take j ++ X.drop j ++ Y ++ B) post := by simpa using hR
      have hC := swapRange_ok g n c k m j A (X.take j) (X.drop j) Y B post F wr hR2 (by omega) lx1 h5 (by omega) (by omega) hnb
      have HT2 : Hid (P ++ V ++ U ++ S = A ++ Y ++ X.take j ++ X.drop j ++ B) := by unfold Hid; rw [hT]; simp
      have HL2 : Hid (1 ≤ d ∧ 1 ≤ j ∧ (A ++ Y).length + d = m ∧ (X.drop j).length = d ∧ (X.take j).length = j ∧ m + j + B.length = n) := by unfold Hid; rw [List.length_append]; omega
      have hdn : d ≤ n := by omega
      have hj1 : 1 ≤ j := h2
      clear hR hT hR2 hX lx1 lx2 hd hk h1 h2 h3 h4 h5 h6
      go_wp2_with fail
      refine hC.mono ?_
      rintro e w2 ⟨rfl, hr2, hg2⟩
      have HR2 : Hid (RowE w2 g (A ++ Y ++ X.drop j ++ X.take j ++ B) post) := by unfold Hid; simpa using hr2
      have HG2 := Lib.hid (grown_trans HG.out hg2)
      clear hr2 hg2 hC
      go_wp2_with fail
      go_roundw
      case rel => exact ⟨d, j, A ++ Y, X.drop j, X.take j, B, rfl, rfl, hdn, hjn, HL2, HT2, HR2, HG2⟩
      case measure => simp [intOf]; omega
end Go.Proofs.Ytpjelcghlnmoeaa
