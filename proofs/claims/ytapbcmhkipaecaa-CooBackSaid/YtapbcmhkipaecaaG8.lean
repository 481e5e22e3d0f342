/- slices.swapRangeCmpFunc and slices.rotateCmpFunc at entries. -/
import Derived.Test.YtapbcmhkipaecaaG7
namespace Go.Proofs.Ytapbcmhkipaecaa
open Go.RowKit

/-- block g holds the entries M, and then post -/
def RowE (w : World) (g : Nat) (M : List Ent) (post : List Value) : Prop := w.heap[g]? = some (.cells (cellsE M ++ post).toArray 37 (0, 0))
theorem swap_two {α : Type} (P Q S : List α) (x y : α) {k l : Nat} (hk : P.length = k) (hl : k + 1 + Q.length = l) : ((P ++ x :: Q ++ y :: S).set k y).set l x = P ++ y :: Q ++ x :: S := by
  subst hk
  subst hl
  induction P with
  | nil =>
    simp only [List.nil_append, List.length_nil, List.cons_append, List.set_cons_zero, Nat.zero_add]
    rw [Nat.add_comm 1, List.set_cons_succ]
    congr 1
    rw [List.set_append_right _ _ (Nat.le_refl _), Nat.sub_self, List.set_cons_zero]
  | cons z P ih =>
    simp only [List.cons_append, List.length_cons, List.set_cons_succ]
    have e : P.length + 1 + 1 + Q.length = P.length + 1 + Q.length + 1 := by omega
    rw [e, List.set_cons_succ]
    congr 1
theorem RowE.lt {w : World} {g : Nat} {M : List Ent} {post : List Value} (h : RowE w g M post) : g < w.heap.size := by
  rcases Nat.lt_or_ge g w.heap.size with q | q
  · exact q
  · unfold RowE at h; rw [Array.getElem?_eq_none q] at h; cases h
theorem RowE.swap {w : World} {g k l : Nat} {M N : List Ent} {post : List Value} (h : RowE w g M post) {x y : Ent} (hk : k < M.length) (hl : l < M.length) (hN : (M.set k y).set l x = N) :
    RowE ((((w.setCell ⟨g, k * 2, none⟩ (.slice y.A y.n y.c)).setCell ⟨g, k * 2 + 1, none⟩ (.int .i64 y.v)).setCell ⟨g, l * 2, none⟩ (.slice x.A x.n x.c)).setCell ⟨g, l * 2 + 1, none⟩ (.int .i64 x.v)) g N post := by
  subst hN
  exact ent_set (ent_set h hk y) (by rw [List.length_set]; exact hl) x
theorem grown_four {w0 w : World} {g : Nat} (h : w0.grownBy w (some g)) (k l : Nat) (v1 v2 v3 v4 : Value) :
    w0.grownBy ((((w.setCell ⟨g, k * 2, none⟩ v1).setCell ⟨g, k * 2 + 1, none⟩ v2).setCell ⟨g, l * 2, none⟩ v3).setCell ⟨g, l * 2 + 1, none⟩ v4) (some g) :=
  grownBy_setE (grownBy_setE (grownBy_setE (grownBy_setE h _ _) _ _) _ _) _ _
theorem grown_same (w : World) (g : Nat) : w.grownBy w (some g) := ⟨rfl, rfl, rfl, Nat.le_refl _, fun _ _ _ => rfl⟩
theorem grown_trans {w0 w1 w2 : World} {g : Nat} (h : w0.grownBy w1 (some g)) (h2 : w1.grownBy w2 (some g)) : w0.grownBy w2 (some g) :=
  ⟨h2.os.trans h.os, h2.tape.trans h.tape, h2.output.trans h.output, Nat.le_trans h.size h2.size, fun i hi hne => (h2.block i (Nat.lt_of_lt_of_le hi h.size) hne).trans (h.block i hi hne)⟩
theorem grown_drew {w w' : World} {g : Nat} (h : w.grownBy w' (some g)) : w.grownBy w'.drew (some g) := grown_below' h (Below.refl _ _).drew
theorem RowE.drew {w : World} {g : Nat} {M : List Ent} {post : List Value} (h : RowE w g M post) : RowE w.drew g M post := h

set_option maxRecDepth 100000 in
set_option maxHeartbeats 4000000 in
theorem swapRange_ok (g n c a b q : Nat) (P X Q Y S : List Ent) (post : List Value) (F : Value) (w : World)
    (hblk : RowE w g (P ++ X ++ Q ++ Y ++ S) post) (hP : P.length = a) (hX : X.length = q) (hY : Y.length = q) (hb : a + q + Q.length = b) (hn : b + q + S.length = n) (hnb : n ≤ 4000000000000000000) :
    Calls Try.prog 108 #[.slice (some ⟨g, 0, none⟩) n c, .int .i64 (a : Int), .int .i64 (b : Int), .int .i64 (q : Int), F] w
      fun e w' => e = .returned (.tuple #[]) ∧ RowE w' g (P ++ Y ++ Q ++ X ++ S) post ∧ w.grownBy w' (some g) := by
  have HB := Lib.hid hblk
  have HP := Lib.hid hP
  have HX := Lib.hid hX
  have HY := Lib.hid hY
  have HQ := Lib.hid hb
  have HN := Lib.hid hn
  have hq1 : a + q ≤ n := by omega
  have hq2 : b + q ≤ n := by omega
  clear hblk hP hX hY hb hn
  go_enter Try.func108, Try.ntmps108
  go_wp2
  go_loopw [10] (fun v wr => ∃ i : Nat, v = .int .i64 (i : Int) ∧ i ≤ q ∧ Hid (RowE wr g (P ++ (Y.take i ++ X.drop i) ++ Q ++ (X.take i ++ Y.drop i) ++ S) post) ∧ Hid (w.grownBy wr (some g))) (fun v _ => q - (intOf v).toNat)
  case atStart => exact ⟨0, rfl, Nat.zero_le _, by unfold Hid; simpa using HB.out, Lib.hid (grown_same w g)⟩
  case round =>
    obtain ⟨i, rfl, hi, HR, HG⟩ := hrel
    by_cases hlt : i < q
    · obtain ⟨x, hx⟩ : ∃ x, X[i]? = some x := ⟨_, List.getElem?_eq_getElem (by rw [HX.out]; omega)⟩
      obtain ⟨y, hy⟩ : ∃ y, Y[i]? = some y := ⟨_, List.getElem?_eq_getElem (by rw [HY.out]; omega)⟩
      have hM : P ++ (Y.take i ++ X.drop i) ++ Q ++ (X.take i ++ Y.drop i) ++ S = (P ++ Y.take i) ++ x :: (X.drop (i + 1) ++ Q ++ X.take i) ++ y :: (Y.drop (i + 1) ++ S) := by
        rw [drop_of hx, drop_of hy]; simp
      have hN : P ++ (Y.take (i + 1) ++ X.drop (i + 1)) ++ Q ++ (X.take (i + 1) ++ Y.drop (i + 1)) ++ S = (P ++ Y.take i) ++ y :: (X.drop (i + 1) ++ Q ++ X.take i) ++ x :: (Y.drop (i + 1) ++ S) := by
        rw [take_succ_of hx, take_succ_of hy]; simp
      obtain ⟨k, hk⟩ : ∃ k, a + i = k := ⟨_, rfl⟩
      obtain ⟨l, hl⟩ : ∃ l, b + i = l := ⟨_, rfl⟩
      have hl1 : (P ++ Y.take i).length = k := by rw [List.length_append, List.length_take, HP.out, HY.out]; omega
      have hl2 : k + 1 + (X.drop (i + 1) ++ Q ++ X.take i).length = l := by
        rw [List.length_append, List.length_append, List.length_take, List.length_drop, HX.out]; have := HQ.out; omega
      have hR := HR.out
      rw [hM] at hR
      have HN2 := Lib.hid hN
      have hSW := swap_two (P ++ Y.take i) (X.drop (i + 1) ++ Q ++ X.take i) (Y.drop (i + 1) ++ S) x y hl1 hl2
      obtain ⟨M, hMM⟩ : ∃ M, (P ++ Y.take i) ++ x :: (X.drop (i + 1) ++ Q ++ X.take i) ++ y :: (Y.drop (i + 1) ++ S) = M := ⟨_, rfl⟩
      have hMk : M[k]? = some x := by rw [← hMM, List.append_assoc, List.getElem?_append_right (by omega), hl1, Nat.sub_self]; rfl
      have hMl : M[l]? = some y := by rw [← hMM, List.getElem?_append_right (by rw [List.length_append, List.length_cons]; omega), List.length_append, List.length_cons, hl1, show l - (k + ((X.drop (i + 1) ++ Q ++ X.take i).length + 1)) = 0 by omega]; rfl
      rw [hMM] at hR hSW
      obtain ⟨⟨a1, a2⟩, a3, a4⟩ := blk_ent hR hMk
      obtain ⟨⟨b1, b2⟩, b3, b4⟩ := blk_ent hR hMl
      have hkM := (List.getElem?_eq_some_iff.1 hMk).1
      have hlM := (List.getElem?_eq_some_iff.1 hMl).1
      have HSW := Lib.hid (RowE.swap hR hkM hlM hSW)
      have HGW := Lib.hid (grown_four HG.out k l (.slice y.A y.n y.c) (.int .i64 y.v) (.slice x.A x.n x.c) (.int .i64 x.v))
      have e1 : (a : Int) + (i : Int) = (k : Int) := by omega
      have e2 : (b : Int) + (i : Int) = (l : Int) := by omega
      have hkn : (k : Int) < (n : Int) := by omega
      have hln : (l : Int) < (n : Int) := by omega
      have hk0 : (0 : Int) ≤ (k : Int) := by omega
      have hl0 : (0 : Int) ≤ (l : Int) := by omega
      have hkl : k ≠ l := by omega
      clear hM hN hSW hMM hR hMk hMl hl1 hl2 hk hl hx hy HR hkM hlM
      go_wp2
      go_region
      all_goals
        obtain ⟨w4, hw4⟩ : ∃ w4, ((((wr.setCell ⟨g, k * 2, none⟩ (.slice y.A y.n y.c)).setCell ⟨g, k * 2 + 1, none⟩ (.int .i64 y.v)).setCell ⟨g, l * 2, none⟩ (.slice x.A x.n x.c)).setCell ⟨g, l * 2 + 1, none⟩ (.int .i64 x.v)) = w4 := ⟨_, rfl⟩
        rw [hw4] at HSW HGW ⊢
        clear hw4 a1 a2 a3 a4 b1 b2 b3 b4
        go_wp2
        go_roundw
        case rel => exact ⟨i + 1, by go_num, by omega, by unfold Hid; rw [HN2.out]; exact HSW.out.drew, Lib.hid (grown_drew HGW.out)⟩
        case measure => simp [intOf]; omega
    · obtain rfl : i = q := by omega
      have hfin : P ++ (Y.take i ++ X.drop i) ++ Q ++ (X.take i ++ Y.drop i) ++ S = P ++ Y ++ Q ++ X ++ S := by
        rw [List.take_of_length_le (Nat.le_of_eq HY.out), List.take_of_length_le (Nat.le_of_eq HX.out), List.drop_of_length_le (Nat.le_of_eq HY.out), List.drop_of_length_le (Nat.le_of_eq HX.out)]; simp
      have HF := Lib.hid hfin
      clear hfin
      go_wp2
      go_end0
      exact ⟨rfl, by rw [← HF.out]; exact HR.out, HG.out⟩

set_option maxRecDepth 100000 in
set_option maxHeartbeats 4000000 in
theorem rotate_ok (g n c a m b : Nat) (P U V S : List Ent) (post : List Value) (F : Value) (w : World)
    (hblk : RowE w g (P ++ U ++ V ++ S) post) (hP : P.length = a) (hU : a + U.length = m) (hV : m + V.length = b) (hn : b + S.length = n) (hU1 : a < m) (hV1 : m < b) (hnb : n ≤ 4000000000000000000) :
    Calls Try.prog 96 #[.slice (some ⟨g, 0, none⟩) n c, .int .i64 (a : Int), .int .i64 (m : Int), .int .i64 (b : Int), F] w
      fun e w' => e = .returned (.tuple #[]) ∧ RowE w' g (P ++ V ++ U ++ S) post ∧ w.grownBy w' (some g) := by
  obtain ⟨i0, hi0⟩ : ∃ i0 : Nat, m - a = i0 := ⟨_, rfl⟩
  obtain ⟨j0, hj0⟩ : ∃ j0 : Nat, b - m = j0 := ⟨_, rfl⟩
  have e1 : (m : Int) - (a : Int) = (i0 : Int) := by omega
  have e2 : (b : Int) - (m : Int) = (j0 : Int) := by omega
  have HB := Lib.hid hblk
  have HI0 : Hid (1 ≤ i0 ∧ 1 ≤ j0 ∧ P.length + i0 = m ∧ U.length = i0 ∧ V.length = j0 ∧ m + j0 + S.length = n) := by unfold Hid; omega
  have hmn : m ≤ n := by omega
  have hi2 : i0 ≤ n := by omega
  have hj2 : j0 ≤ n := by omega
  clear hblk hP hU hV hn hU1 hV1 hi0 hj0
  go_enter Try.func96, Try.ntmps96
  go_wp2
  go_loopw [10, 11] (fun v u wr => ∃ (i j : Nat) (A X Y B : List Ent), v = .int .i64 (i : Int) ∧ u = .int .i64 (j : Int) ∧ i ≤ n ∧ j ≤ n ∧ Hid (1 ≤ i ∧ 1 ≤ j ∧ A.length + i = m ∧ X.length = i ∧ Y.length = j ∧ m + j + B.length = n) ∧ Hid (P ++ V ++ U ++ S = A ++ Y ++ X ++ B) ∧ Hid (RowE wr g (A ++ X ++ Y ++ B) post) ∧ Hid (w.grownBy wr (some g))) (fun v u _ => (intOf v).toNat + (intOf u).toNat)
  case atStart => exact ⟨i0, j0, P, U, V, S, rfl, rfl, hi2, hj2, HI0, rfl, HB, Lib.hid (grown_same w g)⟩
  case round =>
    clear e1 e2 HI0 HB
    obtain ⟨i, j, A, X, Y, B, rfl, rfl, hin, hjn, HIJ, HT, HR, HG⟩ := hrel
    obtain ⟨h1, h2, h3, h4, h5, h6⟩ := HIJ.out
    obtain ⟨k, hk⟩ : ∃ k : Nat, m - i = k := ⟨_, rfl⟩
    have e3 : (m : Int) - (i : Int) = (k : Int) := by omega
    rcases Nat.lt_trichotomy i j with hij | hij | hij
    · obtain ⟨l, hl⟩ : ∃ l : Nat, m + j - i = l := ⟨_, rfl⟩
      obtain ⟨mj, hmj⟩ : ∃ mj : Nat, m + j = mj := ⟨_, rfl⟩
      obtain ⟨d, hd⟩ : ∃ d : Nat, j - i = d := ⟨_, rfl⟩
      have e4 : (m : Int) + (j : Int) = (mj : Int) := by omega
      have e5 : (mj : Int) - (i : Int) = (l : Int) := by omega
      have e6 : (j : Int) - (i : Int) = (d : Int) := by omega
      have d1 : ((i : Int) != (j : Int)) = true := by simp; omega
      have d2 : decide ((j : Int) < (i : Int)) = false := by simp; omega
      have hY : Y = Y.take d ++ Y.drop d := (List.take_append_drop d Y).symm
      have ly1 : (Y.take d).length = d := by rw [List.length_take]; omega
      have ly2 : (Y.drop d).length = i := by rw [List.length_drop]; omega
      have hR := HR.out
      have hT := HT.out
      rw [hY] at hR hT
      have hR2 : RowE wr g (A ++ X ++ Y.take d ++ Y.drop d ++ B) post := by simpa using hR
      have hC := swapRange_ok g n c k l i A X (Y.take d) (Y.drop d) B post F wr hR2 (by omega) h4 ly2 (by omega) (by omega) hnb
      have HT2 : Hid (P ++ V ++ U ++ S = A ++ Y.take d ++ Y.drop d ++ (X ++ B)) := by unfold Hid; rw [hT]; simp
      have HL2 : Hid (1 ≤ i ∧ 1 ≤ d ∧ A.length + i = m ∧ (Y.drop d).length = i ∧ (Y.take d).length = d ∧ m + d + (X ++ B).length = n) := by unfold Hid; rw [List.length_append]; omega
      have hdn : d ≤ n := by omega
      have hmjn : mj ≤ n := by omega
      have hi1 : 1 ≤ i := h1
      have hln : l ≤ n := by omega
      clear hR hT hR2 hY ly1 ly2 hl hd hk hmj h1 h2 h3 h4 h5 h6
      go_wp2_with fail
      refine hC.mono ?_
      rintro e w2 ⟨rfl, hr2, hg2⟩
      have HR2 : Hid (RowE w2 g (A ++ Y.drop d ++ Y.take d ++ (X ++ B)) post) := by unfold Hid; simpa using hr2
      have HG2 := Lib.hid (grown_trans HG.out hg2)
      clear hr2 hg2 hC
      go_wp2_with fail
      go_roundw
      case rel => exact ⟨i, d, A, Y.drop d, Y.take d, X ++ B, rfl, rfl, hin, hdn, HL2, HT2, HR2, HG2⟩
      case measure => simp [intOf]; omega
    · subst hij
      have d1 : ((i : Int) != (i : Int)) = false := by simp
      have hC := swapRange_ok g n c k m i A X [] Y B post F wr (by simpa using HR.out) (by omega) h4 h5 (by simp; omega) (by omega) hnb
      clear hk h1 h2 h3 h4 h5 h6
      go_wp2_with fail
      refine hC.mono ?_
      rintro e w2 ⟨rfl, hr2, hg2⟩
      have HR2 : Hid (RowE w2 g (P ++ V ++ U ++ S) post) := by unfold Hid; rw [HT.out]; simpa using hr2
      have HG2 := Lib.hid (grown_trans HG.out hg2)
      go_wp2_with fail
      go_end0
      exact ⟨rfl, HR2.out, HG2.out⟩
    · obtain ⟨d, hd⟩ : ∃ d : Nat, i - j = d := ⟨_, rfl⟩
      have e6 : (i : Int) - (j : Int) = (d : Int) := by omega
      have d1 : ((i : Int) != (j : Int)) = true := by simp; omega
      have d2 : decide ((j : Int) < (i : Int)) = true := by simp; omega
      have hX : X = X.take j ++ X.drop j := (List.take_append_drop j X).symm
      have lx1 : (X.take j).length = j := by rw [List.length_take]; omega
      have lx2 : (X.drop j).length = d := by rw [List.length_drop]; omega
      have hR := HR.out
      have hT := HT.out
      rw [hX] at hR hT
      have hR2 : RowE wr g (A ++ X.take j ++ X.drop j ++ Y ++ B) post := by simpa using hR
      have hC := swapRange_ok g n c k m j A (X.take j) (X.drop j) Y B post F wr hR2 (by omega) lx1 h5 (by omega) (by omega) hnb
      have HT2 : Hid (P ++ V ++ U ++ S = A ++ Y ++ X.take j ++ X.drop j ++ B) := by unfold Hid; rw [hT]; simp
      have HL2 : Hid (1 ≤ d ∧ 1 ≤ j ∧ (A ++ Y).length + d = m ∧ (X.drop j).length = d ∧ (X.take j).length = j ∧ m + j + B.length = n) := by unfold Hid; rw [List.length_append]; omega
      have hdn : d ≤ n := by omega
      have hj1 : 1 ≤ j := h2
      clear hR hT hR2 hX lx1 lx2 hd hk h1 h2 h3 h4 h5 h6
      go_wp2_with fail
      refine hC.mono ?_
      rintro e w2 ⟨rfl, hr2, hg2⟩
      have HR2 : Hid (RowE w2 g (A ++ Y ++ X.drop j ++ X.take j ++ B) post) := by unfold Hid; simpa using hr2
      have HG2 := Lib.hid (grown_trans HG.out hg2)
      clear hr2 hg2 hC
      go_wp2_with fail
      go_roundw
      case rel => exact ⟨d, j, A ++ Y, X.drop j, X.take j, B, rfl, rfl, hdn, hjn, HL2, HT2, HR2, HG2⟩
      case measure => simp [intOf]; omega
end Go.Proofs.Ytapbcmhkipaecaa
/- slices.symMergeCmpFunc at entries, where one of the two runs has a single one. -/
namespace Go.Proofs.Ytapbcmhkipaecaa
open Go.RowKit

/-- what a sort of the entries es in block g asks for: their places and the order lie outside of it -/
structure CtxE (w : World) (g bo : Nat) (Ao : Option Addr) (ro co : Nat) (os : List Int) (es : List Ent) : Prop where
  ents : ∀ x ∈ es, IntsOff w g x.A x.n x.cs ∧ (∀ m ∈ os, 0 ≤ m ∧ m < x.n) ∧ -9223372036854775808 ≤ x.v ∧ x.v ≤ 9223372036854775807
  ord : IntsOff w g Ao ro os
  cell : w.cell? ⟨bo, 0, none⟩ = some (.slice Ao ro co)
  off : bo ≠ g
  few : ro ≤ 100000
theorem CtxE.grown {w wr : World} {g bo ro co : Nat} {Ao : Option Addr} {os : List Int} {es es' : List Ent} (h : CtxE w g bo Ao ro co os es) (hg : w.grownBy wr (some g)) (hs : ∀ x ∈ es', x ∈ es) : CtxE wr g bo Ao ro co os es' :=
  ⟨fun x hx => ⟨⟨(h.ents x (hs x hx)).1.grown hg, (h.ents x (hs x hx)).1.2⟩, (h.ents x (hs x hx)).2⟩, ⟨h.ord.grown hg, h.ord.2⟩, hg.cell h.cell (fun e => h.off (by injection e)), h.off, h.few⟩
theorem CtxE.cmp {w wr : World} {g bo ro co : Nat} {Ao : Option Addr} {os : List Int} {es : List Ent} (h : CtxE w g bo Ao ro co os es) {x y : Ent} (hx : x ∈ es) (hy : y ∈ es) (hg : w.grownBy wr (some g)) :
    Calls Try.prog 72 #[.agg #[.slice x.A x.n x.c, .int .i64 x.v], .agg #[.slice y.A y.n y.c, .int .i64 y.v], .pointer (some ⟨bo, 0, none⟩)] wr fun e w' => e = .returned (.int .i64 (cmpE os x.cs y.cs)) ∧ Below wr.heap.size wr w' := by
  have q := h.grown hg (fun x hx => hx)
  exact ahead_ok x y Ao ro co os bo wr (q.ents x hx).1.1 (q.ents y hy).1.1 q.ord.1 q.cell q.few (fun m hm => ⟨((q.ents x hx).2.1 m hm).1, ((q.ents x hx).2.1 m hm).2, ((q.ents y hy).2.1 m hm).2⟩)
theorem RowE.below {w wq : World} {g : Nat} {M : List Ent} {post : List Value} (h : RowE w g M post) (hb : Below w.heap.size w wq) : RowE wq g M post := (hb.block g h.lt).trans h
theorem lt_of_neg {r : Int} (h : r < 0) : decide (r < 0) = true := decide_eq_true h
theorem InOrd.hit {os : List Int} {R : List Ent} (h : InOrd os R) {k : Nat} {z x : Ent} (hz : R[k]? = some z) (hx : ltE os z x = true) : ∀ (q : Nat) (y : Ent), q < k + 1 → R[q]? = some y → ltE os y x = true :=
  fun _ _ hq hy => ltE_le (h.le (by omega) hy hz) hx
theorem InOrd.miss {os : List Int} {R : List Ent} (h : InOrd os R) {k : Nat} {z x : Ent} (hz : R[k]? = some z) (hx : ltE os z x = false) : ∀ (q : Nat) (y : Ent), k ≤ q → R[q]? = some y → ltE os y x = false := fun q y hq hy => by
  cases e : ltE os y x with
  | false => rfl
  | true => have := ltE_le (h.le hq hz hy) e; rw [hx] at this; cases this
theorem InOrd.hit' {os : List Int} {L : List Ent} (h : InOrd os L) {k : Nat} {z x : Ent} (hz : L[k]? = some z) (hx : ltE os x z = true) : ∀ (q : Nat) (y : Ent), k ≤ q → L[q]? = some y → ltE os x y = true := fun q y hq hy => by
  cases e : ltE os x y with
  | true => rfl
  | false =>
    have h1 := ltE_f.1 e
    have h2 := cmpE_trans (ltE_f.1 (h.le hq hz hy)) h1
    have h3 := ltE_t.1 hx
    rw [cmpE_neg] at h3
    omega
theorem InOrd.miss' {os : List Int} {L : List Ent} (h : InOrd os L) {k : Nat} {z x : Ent} (hz : L[k]? = some z) (hx : ltE os x z = false) : ∀ (q : Nat) (y : Ent), q < k + 1 → L[q]? = some y → ltE os x y = false :=
  fun _ _ hq hy => ltE_f.2 (cmpE_trans (ltE_f.1 (h.le (by omega) hy hz)) (ltE_f.1 hx))

set_option maxRecDepth 100000 in
set_option maxHeartbeats 4000000 in
theorem symOneL_ok (g n c a m b bo : Nat) (P R S : List Ent) (x : Ent) (post : List Value) (Ao : Option Addr) (ro co : Nat) (os : List Int) (w : World)
    (hblk : RowE w g (P ++ [x] ++ R ++ S) post) (hP : P.length = a) (hm : a + 1 = m) (hR : m + R.length = b) (hn : b + S.length = n) (hnb : n ≤ 4000000000000000000) (hO : InOrd os R) (hC : CtxE w g bo Ao ro co os ([x] ++ R)) :
    Calls Try.prog 88 #[.slice (some ⟨g, 0, none⟩) n c, .int .i64 (a : Int), .int .i64 (m : Int), .int .i64 (b : Int), .func (.func 72) #[] #[.pointer (some ⟨bo, 0, none⟩)]] w
      fun e w' => e = .returned (.tuple #[]) ∧ RowE w' g (P ++ mergeE os [x] R ++ S) post ∧ w.grownBy w' (some g) := by
  have HB := Lib.hid hblk
  have HP := Lib.hid hP
  have HR := Lib.hid hR
  have HO := Lib.hid hO
  have HC := Lib.hid hC
  have hbn : b ≤ n := by omega
  have hmb : m ≤ b := by omega
  have hab : a < m := by omega
  have e0 : (m : Int) - (a : Int) = 1 := by omega
  clear hblk hP hR hO hC hn
  have HM := Lib.hid hm
  clear hm
  go_enter Try.func88, Try.ntmps88
  go_wp2
  go_loopw [10, 11] (fun v u wr => ∃ (i j : Nat), v = .int .i64 (i : Int) ∧ u = .int .i64 (j : Int) ∧ m ≤ i ∧ i ≤ j ∧ j ≤ b ∧ Hid (∀ (q : Nat) (y : Ent), m + q < i → R[q]? = some y → ltE os y x = true) ∧ Hid (∀ (q : Nat) (y : Ent), j ≤ m + q → R[q]? = some y → ltE os y x = false) ∧ Hid (RowE wr g (P ++ [x] ++ R ++ S) post) ∧ Hid (w.grownBy wr (some g))) (fun v u _ => (intOf u).toNat - (intOf v).toNat)
  case atStart => exact ⟨m, b, rfl, rfl, Nat.le_refl _, hmb, Nat.le_refl _, by unfold Hid; intro q y hq; omega, by unfold Hid; intro q y hq hy; have := (List.getElem?_eq_some_iff.1 hy).1; have := HR.out; omega, HB, Lib.hid (grown_same w g)⟩
  case round =>
    obtain ⟨i, j, rfl, rfl, hmi, hij, hjb, HI, HJ, HW, HG⟩ := hrel
    by_cases hlt : i < j
    · obtain ⟨k, hk⟩ : ∃ k : Nat, (i + j) / 2 = k := ⟨_, rfl⟩
      have eH : ((i : Int) + (j : Int)) / 2 = (k : Int) := by omega
      have hik : i ≤ k := by omega
      have hkj : k < j := by omega
      obtain ⟨z, hz⟩ : ∃ z, R[k - m]? = some z := ⟨_, List.getElem?_eq_getElem (by have := HR.out; omega)⟩
      have hMk : (P ++ [x] ++ R ++ S)[k]? = some z := by
        rw [at_mid (P := P ++ [x]) (L := R) (S := S) (a := m) (by rw [List.length_append, HP.out]; exact HM.out) (by omega) (by have := HR.out; omega)]; exact hz
      have hMa : (P ++ [x] ++ R ++ S)[a]? = some x := by
        rw [List.append_assoc, at_mid (P := P) (L := [x]) (S := R ++ S) (a := a) HP.out (Nat.le_refl _) (by simp), Nat.sub_self]; rfl
      obtain ⟨⟨a1, a2⟩, a3, a4⟩ := blk_ent HW.out hMk
      obtain ⟨⟨b1, b2⟩, b3, b4⟩ := blk_ent HW.out hMa
      have hcmp := HC.out.cmp (x := z) (y := x) (List.mem_append_right _ (List.mem_of_getElem? hz)) (by simp) (grown_drew HG.out)
      obtain ⟨r, hr⟩ : ∃ r, cmpE os z.cs x.cs = r := ⟨_, rfl⟩
      rw [hr] at hcmp
      have HRR := Lib.hid hr
      have HZ := Lib.hid hz
      have hkn : (k : Int) < (n : Int) := by omega
      have han : (a : Int) < (n : Int) := by omega
      have hk0 : (0 : Int) ≤ (k : Int) := by omega
      have ha0 : (0 : Int) ≤ (a : Int) := by omega
      clear hr hz hMk hMa hk
      go_wp2
      go_still_tail 9, (by kernel_rfl)
      change wpList _ _ _ _ _ wr.drew
      by_cases hrn : r < 0
      · have hdr : decide (r < 0) = true := decide_eq_true hrn
        have HI2 : Hid (∀ (q : Nat) (y : Ent), m + q < k + 1 → R[q]? = some y → ltE os y x = true) := by
          have := HO.out.hit HZ.out (ltE_t.2 (by rw [HRR.out]; exact hrn))
          unfold Hid; intro q y hq hy; exact this q y (by omega) hy
        clear hrn
        go_wp2_with (fail)
        refine hcmp.mono ?_
        rintro e wq ⟨rfl, hbq⟩
        have HWQ := Lib.hid (HW.out.drew.below hbq)
        have HGQ := Lib.hid (grown_below' (grown_drew HG.out) hbq)
        clear hcmp hbq a1 a2 a3 a4 b1 b2 b3 b4
        go_wp2
        go_roundw
        case rel => exact ⟨k + 1, j, by go_num, rfl, by omega, by omega, hjb, HI2, HJ, HWQ, HGQ⟩
        case measure => simp [intOf]; omega
      · have hdr : decide (r < 0) = false := decide_eq_false hrn
        have HJ2 : Hid (∀ (q : Nat) (y : Ent), k ≤ m + q → R[q]? = some y → ltE os y x = false) := by
          have := HO.out.miss (x := x) HZ.out (by unfold ltE; rw [HRR.out]; exact hdr)
          unfold Hid; intro q y hq hy; exact this q y (by omega) hy
        clear hrn
        go_wp2_with (fail)
        refine hcmp.mono ?_
        rintro e wq ⟨rfl, hbq⟩
        have HWQ := Lib.hid (HW.out.drew.below hbq)
        have HGQ := Lib.hid (grown_below' (grown_drew HG.out) hbq)
        clear hcmp hbq a1 a2 a3 a4 b1 b2 b3 b4
        go_wp2
        go_roundw
        case rel => exact ⟨i, k, rfl, rfl, hmi, hik, by omega, HI, HJ2, HWQ, HGQ⟩
        case measure => simp [intOf]; omega
    · obtain rfl : i = j := by omega
      obtain ⟨p, hp⟩ : ∃ p : Nat, i - m = p := ⟨_, rfl⟩
      have hpl : p ≤ R.length := by have := HR.out; omega
      have HMG : Hid (mergeE os [x] R = R.take p ++ x :: R.drop p) := by
        unfold Hid
        conv => lhs; rw [← List.take_append_drop p R]
        refine mergeE_one_left (fun y hy => ?_) (fun y hy => ?_)
        · obtain ⟨q, hq⟩ := List.getElem?_of_mem hy
          have hql := (List.getElem?_eq_some_iff.1 hq).1
          rw [List.length_take] at hql
          rw [List.getElem?_take_of_lt (by omega)] at hq
          exact HI.out q y (by omega) hq
        · rw [List.head?_eq_getElem?, List.getElem?_drop] at hy
          exact HJ.out _ y (by omega) hy
      obtain ⟨i1, hi1⟩ : ∃ i1 : Nat, i - 1 = i1 := ⟨_, rfl⟩
      have e1 : (i : Int) - 1 = (i1 : Int) := by omega
      have HPL := Lib.hid hpl
      have HI1 : Hid (i1 = a + p) := by unfold Hid; have := HM.out; omega
      have hi1n : i1 ≤ n := by omega
      have HWA : Hid (RowE wr g (P ++ (R.take 0 ++ x :: R.drop 0) ++ S) post) := by unfold Hid; simpa using HW.out
      have hai : a ≤ i1 := by have := HI1.out; omega
      clear HI HJ HW HB hpl hp hi1
      go_wp2
      go_loopw [13] (fun v wx => ∃ (k t : Nat), v = .int .i64 (k : Int) ∧ a ≤ k ∧ k ≤ i1 ∧ Hid (k = a + t) ∧ Hid (RowE wx g (P ++ (R.take t ++ x :: R.drop t) ++ S) post) ∧ Hid (w.grownBy wx (some g))) (fun v _ => i1 - (intOf v).toNat)
      case atStart => exact ⟨a, 0, rfl, Nat.le_refl _, hai, rfl, HWA, HG⟩
      case round =>
        obtain ⟨k, t, rfl, hak, hki, HT, HW2, HG2⟩ := hrel
        by_cases hkl : k < i1
        · obtain ⟨y, hy⟩ : ∃ y, R[t]? = some y := ⟨_, List.getElem?_eq_getElem (by have := HT.out; have := HI1.out; have := HPL.out; omega)⟩
          have hM : P ++ (R.take t ++ x :: R.drop t) ++ S = (P ++ R.take t) ++ x :: [] ++ y :: (R.drop (t + 1) ++ S) := by rw [drop_of hy]; simp
          have hN : P ++ (R.take (t + 1) ++ x :: R.drop (t + 1)) ++ S = (P ++ R.take t) ++ y :: [] ++ x :: (R.drop (t + 1) ++ S) := by rw [take_succ_of hy]; simp
          have hl1 : (P ++ R.take t).length = k := by rw [List.length_append, List.length_take, HP.out]; have := HT.out; have := HI1.out; have := HPL.out; omega
          have hR := HW2.out
          rw [hM] at hR
          have HN2 := Lib.hid hN
          have hSW := swap_two (P ++ R.take t) [] (R.drop (t + 1) ++ S) x y hl1 (l := k + 1) rfl
          obtain ⟨M, hMM⟩ : ∃ M, (P ++ R.take t) ++ x :: [] ++ y :: (R.drop (t + 1) ++ S) = M := ⟨_, rfl⟩
          have hMk : M[k]? = some x := by rw [← hMM, List.append_assoc, List.getElem?_append_right (by omega), hl1, Nat.sub_self]; rfl
          have hMl : M[k + 1]? = some y := by rw [← hMM, List.getElem?_append_right (by rw [List.length_append, hl1]; exact Nat.le_refl _), List.length_append, hl1, show k + 1 - (k + [x].length) = 0 by simp]; rfl
          rw [hMM] at hR hSW
          obtain ⟨⟨a1, a2⟩, a3, a4⟩ := blk_ent hR hMk
          obtain ⟨⟨b1, b2⟩, b3, b4⟩ := blk_ent hR hMl
          have HSW := Lib.hid (RowE.swap hR (List.getElem?_eq_some_iff.1 hMk).1 (List.getElem?_eq_some_iff.1 hMl).1 hSW)
          have HGW := Lib.hid (grown_four HG2.out k (k + 1) (.slice y.A y.n y.c) (.int .i64 y.v) (.slice x.A x.n x.c) (.int .i64 x.v))
          obtain ⟨k1, hk1⟩ : ∃ k1, k + 1 = k1 := ⟨_, rfl⟩
          rw [hk1] at b1 b2 b3 b4 HSW HGW
          have e2 : (k : Int) + 1 = (k1 : Int) := by omega
          have hkn : (k : Int) < (n : Int) := by omega
          have hln : (k1 : Int) < (n : Int) := by omega
          have hk0 : (0 : Int) ≤ (k : Int) := by omega
          have hl0 : (0 : Int) ≤ (k1 : Int) := by omega
          have hkk : k ≠ k1 := by omega
          have hk1i : k1 ≤ i1 := by omega
          have HK1 := Lib.hid hk1
          clear hM hN hSW hMM hR hMk hMl hl1 hy hk1
          go_wp2
          go_region
          all_goals
            obtain ⟨w4, hw4⟩ : ∃ w4, ((((wr.setCell ⟨g, k * 2, none⟩ (.slice y.A y.n y.c)).setCell ⟨g, k * 2 + 1, none⟩ (.int .i64 y.v)).setCell ⟨g, k1 * 2, none⟩ (.slice x.A x.n x.c)).setCell ⟨g, k1 * 2 + 1, none⟩ (.int .i64 x.v)) = w4 := ⟨_, rfl⟩
            rw [hw4] at HSW HGW ⊢
            clear hw4 a1 a2 a3 a4 b1 b2 b3 b4
            go_wp2
            go_roundw
            case rel => exact ⟨k1, t + 1, rfl, by omega, hk1i, by unfold Hid; have := HK1.out; have := HT.out; omega, by unfold Hid; rw [HN2.out]; exact HSW.out.drew, Lib.hid (grown_drew HGW.out)⟩
            case measure => simp [intOf]; omega
        · have HF : Hid (t = p) := by unfold Hid; have := HT.out; have := HI1.out; omega
          go_wp2
          refine bodyPost_ret (results_none rfl _ _ _) rfl ?_
          exact ⟨rfl, by rw [HMG.out, ← HF.out]; exact HW2.out, HG2.out⟩

set_option maxRecDepth 100000 in
set_option maxHeartbeats 4000000 in
theorem symOneR_ok (g n c a m b bo : Nat) (P L S : List Ent) (x : Ent) (post : List Value) (Ao : Option Addr) (ro co : Nat) (os : List Int) (w : World)
    (hblk : RowE w g (P ++ L ++ [x] ++ S) post) (hP : P.length = a) (hm : a + L.length = m) (hb : m + 1 = b) (hL2 : 2 ≤ L.length) (hn : b + S.length = n) (hnb : n ≤ 4000000000000000000) (hO : InOrd os L) (hC : CtxE w g bo Ao ro co os (L ++ [x])) :
    Calls Try.prog 88 #[.slice (some ⟨g, 0, none⟩) n c, .int .i64 (a : Int), .int .i64 (m : Int), .int .i64 (b : Int), .func (.func 72) #[] #[.pointer (some ⟨bo, 0, none⟩)]] w
      fun e w' => e = .returned (.tuple #[]) ∧ RowE w' g (P ++ mergeE os L [x] ++ S) post ∧ w.grownBy w' (some g) := by
  have HB := Lib.hid hblk
  have HP := Lib.hid hP
  have HO := Lib.hid hO
  have HC := Lib.hid hC
  have HM := Lib.hid hm
  have hbn : b ≤ n := by omega
  have hmb : m < b := by omega
  have hab : a ≤ m := by omega
  obtain ⟨ml, hml⟩ : ∃ ml : Nat, m - a = ml := ⟨_, rfl⟩
  have e0 : (m : Int) - (a : Int) = (ml : Int) := by omega
  have e0b : ((ml : Int) == 1) = false := by simp; omega
  have e1 : (b : Int) - (m : Int) = 1 := by omega
  have hmln : ml ≤ n := by omega
  clear hblk hP hO hC hn hm hml hb
  go_enter Try.func88, Try.ntmps88
  go_wp2
  go_loopw [14, 15] (fun v u wr => ∃ (i j : Nat), v = .int .i64 (i : Int) ∧ u = .int .i64 (j : Int) ∧ a ≤ i ∧ i ≤ j ∧ j ≤ m ∧ Hid (∀ (q : Nat) (y : Ent), a + q < i → L[q]? = some y → ltE os x y = false) ∧ Hid (∀ (q : Nat) (y : Ent), j ≤ a + q → L[q]? = some y → ltE os x y = true) ∧ Hid (RowE wr g (P ++ L ++ [x] ++ S) post) ∧ Hid (w.grownBy wr (some g))) (fun v u _ => (intOf u).toNat - (intOf v).toNat)
  case atStart => exact ⟨a, m, rfl, rfl, Nat.le_refl _, hab, Nat.le_refl _, by unfold Hid; intro q y hq; omega, by unfold Hid; intro q y hq hy; have := (List.getElem?_eq_some_iff.1 hy).1; have := HM.out; omega, HB, Lib.hid (grown_same w g)⟩
  case round =>
    obtain ⟨i, j, rfl, rfl, hai, hij, hjm, HI, HJ, HW, HG⟩ := hrel
    by_cases hlt : i < j
    · obtain ⟨k, hk⟩ : ∃ k : Nat, (i + j) / 2 = k := ⟨_, rfl⟩
      have eH : ((i : Int) + (j : Int)) / 2 = (k : Int) := by omega
      have hik : i ≤ k := by omega
      have hkj : k < j := by omega
      obtain ⟨z, hz⟩ : ∃ z, L[k - a]? = some z := ⟨_, List.getElem?_eq_getElem (by have := HM.out; omega)⟩
      have hMk : (P ++ L ++ [x] ++ S)[k]? = some z := by
        rw [List.append_assoc (P ++ L), at_mid (P := P) (L := L) (S := [x] ++ S) (a := a) HP.out (by omega) (by have := HM.out; omega)]; exact hz
      have hMm : (P ++ L ++ [x] ++ S)[m]? = some x := by
        rw [at_mid (P := P ++ L) (L := [x]) (S := S) (a := m) (by rw [List.length_append, HP.out]; exact HM.out) (Nat.le_refl _) (by simp), Nat.sub_self]; rfl
      obtain ⟨⟨a1, a2⟩, a3, a4⟩ := blk_ent HW.out hMk
      obtain ⟨⟨b1, b2⟩, b3, b4⟩ := blk_ent HW.out hMm
      have hcmp := HC.out.cmp (x := x) (y := z) (by simp) (List.mem_append_left _ (List.mem_of_getElem? hz)) (grown_drew HG.out)
      obtain ⟨r, hr⟩ : ∃ r, cmpE os x.cs z.cs = r := ⟨_, rfl⟩
      rw [hr] at hcmp
      have HRR := Lib.hid hr
      have HZ := Lib.hid hz
      have hkn : (k : Int) < (n : Int) := by omega
      have hmn : (m : Int) < (n : Int) := by omega
      have hk0 : (0 : Int) ≤ (k : Int) := by omega
      have hm0 : (0 : Int) ≤ (m : Int) := by omega
      clear hr hz hMk hMm hk
      go_wp2
      go_still_tail 9, (by kernel_rfl)
      change wpList _ _ _ _ _ wr.drew
      by_cases hrn : r < 0
      · have hdr : decide (r < 0) = true := decide_eq_true hrn
        have HJ2 : Hid (∀ (q : Nat) (y : Ent), k ≤ a + q → L[q]? = some y → ltE os x y = true) := by
          have := HO.out.hit' HZ.out (ltE_t.2 (by rw [HRR.out]; exact hrn))
          unfold Hid; intro q y hq hy; exact this q y (by omega) hy
        clear hrn
        go_wp2_with (fail)
        refine hcmp.mono ?_
        rintro e wq ⟨rfl, hbq⟩
        have HWQ := Lib.hid (HW.out.drew.below hbq)
        have HGQ := Lib.hid (grown_below' (grown_drew HG.out) hbq)
        clear hcmp hbq a1 a2 a3 a4 b1 b2 b3 b4
        go_wp2
        go_roundw
        case rel => exact ⟨i, k, rfl, rfl, hai, hik, by omega, HI, HJ2, HWQ, HGQ⟩
        case measure => simp [intOf]; omega
      · have hdr : decide (r < 0) = false := decide_eq_false hrn
        have HI2 : Hid (∀ (q : Nat) (y : Ent), a + q < k + 1 → L[q]? = some y → ltE os x y = false) := by
          have := HO.out.miss' (x := x) HZ.out (by unfold ltE; rw [HRR.out]; exact hdr)
          unfold Hid; intro q y hq hy; exact this q y (by omega) hy
        clear hrn
        go_wp2_with (fail)
        refine hcmp.mono ?_
        rintro e wq ⟨rfl, hbq⟩
        have HWQ := Lib.hid (HW.out.drew.below hbq)
        have HGQ := Lib.hid (grown_below' (grown_drew HG.out) hbq)
        clear hcmp hbq a1 a2 a3 a4 b1 b2 b3 b4
        go_wp2
        go_roundw
        case rel => exact ⟨k + 1, j, by go_num, rfl, by omega, by omega, hjm, HI2, HJ, HWQ, HGQ⟩
        case measure => simp [intOf]; omega
    · obtain rfl : i = j := by omega
      obtain ⟨p, hp⟩ : ∃ p : Nat, i - a = p := ⟨_, rfl⟩
      have hpl : p ≤ L.length := by have := HM.out; omega
      have HMG : Hid (mergeE os L [x] = L.take p ++ x :: L.drop p) := by
        unfold Hid
        conv => lhs; rw [← List.take_append_drop p L]
        refine mergeE_one_right (fun y hy => ?_) (fun y hy => ?_)
        · obtain ⟨q, hq⟩ := List.getElem?_of_mem hy
          have hql := (List.getElem?_eq_some_iff.1 hq).1
          rw [List.length_take] at hql
          rw [List.getElem?_take_of_lt (by omega)] at hq
          exact HI.out q y (by omega) hq
        · rw [List.head?_eq_getElem?, List.getElem?_drop] at hy
          exact HJ.out _ y (by omega) hy
      have HPL := Lib.hid hpl
      have HIP : Hid (i = a + p) := by unfold Hid; omega
      have HWA : Hid (RowE wr g (P ++ (L.take L.length ++ x :: L.drop L.length) ++ S) post) := by unfold Hid; rw [List.take_length, List.drop_length]; simpa using HW.out
      clear HI HJ HW HB hpl hp
      go_wp2
      go_loopw [17] (fun v wx => ∃ (k t : Nat), v = .int .i64 (k : Int) ∧ i ≤ k ∧ k ≤ m ∧ Hid (k = a + t) ∧ Hid (RowE wx g (P ++ (L.take t ++ x :: L.drop t) ++ S) post) ∧ Hid (w.grownBy wx (some g))) (fun v _ => (intOf v).toNat)
      case atStart => exact ⟨m, L.length, rfl, hjm, Nat.le_refl _, by unfold Hid; exact HM.out.symm, HWA, HG⟩
      case round =>
        obtain ⟨k, t, rfl, hik, hkm, HT, HW2, HG2⟩ := hrel
        by_cases hkl : i < k
        · obtain ⟨t1, ht1⟩ : ∃ t1, t = t1 + 1 := ⟨t - 1, by have := HT.out; have := HIP.out; omega⟩
          obtain ⟨k1, hk1⟩ : ∃ k1, k = k1 + 1 := ⟨k - 1, by omega⟩
          subst ht1
          obtain ⟨y, hy⟩ : ∃ y, L[t1]? = some y := ⟨_, List.getElem?_eq_getElem (by have := HT.out; have := HM.out; omega)⟩
          have hM : P ++ (L.take (t1 + 1) ++ x :: L.drop (t1 + 1)) ++ S = (P ++ L.take t1) ++ y :: [] ++ x :: (L.drop (t1 + 1) ++ S) := by rw [take_succ_of hy]; simp
          have hN : P ++ (L.take t1 ++ x :: L.drop t1) ++ S = (P ++ L.take t1) ++ x :: [] ++ y :: (L.drop (t1 + 1) ++ S) := by rw [drop_of hy]; simp
          have hl1 : (P ++ L.take t1).length = k1 := by rw [List.length_append, List.length_take, HP.out]; have := HT.out; have := HM.out; omega
          have hR := HW2.out
          rw [hM] at hR
          have HN2 := Lib.hid hN
          have hSW := swap_two (P ++ L.take t1) [] (L.drop (t1 + 1) ++ S) y x hl1 (l := k) (by rw [hk1]; rfl)
          rw [List.set_comm _ _ (by omega)] at hSW
          obtain ⟨M, hMM⟩ : ∃ M, (P ++ L.take t1) ++ y :: [] ++ x :: (L.drop (t1 + 1) ++ S) = M := ⟨_, rfl⟩
          have hMl : M[k1]? = some y := by rw [← hMM, List.append_assoc, List.getElem?_append_right (by omega), hl1, Nat.sub_self]; rfl
          have hMk : M[k]? = some x := by rw [← hMM, List.getElem?_append_right (by rw [List.length_append, hl1, hk1]; exact Nat.le_refl _), List.length_append, hl1, show k - (k1 + [y].length) = 0 by rw [hk1]; simp]; rfl
          rw [hMM] at hR hSW
          obtain ⟨⟨a1, a2⟩, a3, a4⟩ := blk_ent hR hMk
          obtain ⟨⟨b1, b2⟩, b3, b4⟩ := blk_ent hR hMl
          have HSW := Lib.hid (RowE.swap hR (List.getElem?_eq_some_iff.1 hMk).1 (List.getElem?_eq_some_iff.1 hMl).1 hSW)
          have HGW := Lib.hid (grown_four HG2.out k k1 (.slice y.A y.n y.c) (.int .i64 y.v) (.slice x.A x.n x.c) (.int .i64 x.v))
          have e2 : (k : Int) - 1 = (k1 : Int) := by omega
          have hkn : (k : Int) < (n : Int) := by omega
          have hln : (k1 : Int) < (n : Int) := by omega
          have hk0 : (0 : Int) ≤ (k : Int) := by omega
          have hl0 : (0 : Int) ≤ (k1 : Int) := by omega
          have hkk : k ≠ k1 := by omega
          have hk1i : i ≤ k1 := by omega
          have hk1m : k1 ≤ m := by omega
          have hk1k : k1 < k := by omega
          have HK1 := Lib.hid hk1
          clear hM hN hSW hMM hR hMk hMl hl1 hy hk1
          go_wp2
          go_region
          all_goals
            obtain ⟨w4, hw4⟩ : ∃ w4, ((((wr.setCell ⟨g, k * 2, none⟩ (.slice y.A y.n y.c)).setCell ⟨g, k * 2 + 1, none⟩ (.int .i64 y.v)).setCell ⟨g, k1 * 2, none⟩ (.slice x.A x.n x.c)).setCell ⟨g, k1 * 2 + 1, none⟩ (.int .i64 x.v)) = w4 := ⟨_, rfl⟩
            rw [hw4] at HSW HGW ⊢
            clear hw4 a1 a2 a3 a4 b1 b2 b3 b4
            go_wp2
            go_roundw
            case rel => exact ⟨k1, t1, rfl, hk1i, hk1m, by unfold Hid; have := HK1.out; have := HT.out; omega, by unfold Hid; rw [HN2.out]; exact HSW.out.drew, Lib.hid (grown_drew HGW.out)⟩
            case measure => simp [intOf]; omega
        · have HF : Hid (t = p) := by unfold Hid; have := HT.out; have := HIP.out; omega
          go_wp2
          refine bodyPost_ret (results_none rfl _ _ _) rfl ?_
          exact ⟨rfl, by rw [HMG.out, ← HF.out]; exact HW2.out, HG2.out⟩
end Go.Proofs.Ytapbcmhkipaecaa
/- Where two runs in order may be cut. Nothing is claimed of the program here. -/
namespace Go.Proofs.Ytapbcmhkipaecaa
open Go.RowKit

theorem mergeE_cut {os : List Int} {L R : List Ent} {u v : Nat} (hL : InOrd os L) (hR : InOrd os R) (hB : u = 0 ∨ v = R.length ∨ ∃ x y, L[u - 1]? = some x ∧ R[v]? = some y ∧ ltE os y x = false) (hA : v = 0 ∨ u = L.length ∨ ∃ x y, L[u]? = some x ∧ R[v - 1]? = some y ∧ ltE os y x = true) :
    mergeE os L R = mergeE os (L.take u) (R.take v) ++ mergeE os (L.drop u) (R.drop v) := by
  conv => lhs; rw [← List.take_append_drop u L, ← List.take_append_drop v R]
  refine mergeE_split os _ _ _ _ (fun y hy x hx => ?_) (fun x hx y hy => ?_)
  · obtain ⟨q, hq⟩ := List.getElem?_of_mem hy
    have hql := (List.getElem?_eq_some_iff.1 hq).1
    rw [List.length_take] at hql
    rw [List.getElem?_take_of_lt (by omega)] at hq
    obtain ⟨s, hs⟩ := List.getElem?_of_mem hx
    rw [List.getElem?_drop] at hs
    have hsl := (List.getElem?_eq_some_iff.1 hs).1
    rcases hA with rfl | rfl | ⟨x0, y0, h1, h2, h3⟩
    · omega
    · omega
    · exact hL.hit' h1 (hR.hit h2 h3 q y (by omega) hq) _ x (by omega) hs
  · obtain ⟨q, hq⟩ := List.getElem?_of_mem hx
    have hql := (List.getElem?_eq_some_iff.1 hq).1
    rw [List.length_take] at hql
    rw [List.getElem?_take_of_lt (by omega)] at hq
    obtain ⟨s, hs⟩ := List.getElem?_of_mem hy
    rw [List.getElem?_drop] at hs
    have hsl := (List.getElem?_eq_some_iff.1 hs).1
    rcases hB with rfl | rfl | ⟨x0, y0, h1, h2, h3⟩
    · omega
    · omega
    · exact hL.miss' h1 (hR.miss h2 h3 _ y (by omega) hs) q x (by omega) hq
end Go.Proofs.Ytapbcmhkipaecaa
