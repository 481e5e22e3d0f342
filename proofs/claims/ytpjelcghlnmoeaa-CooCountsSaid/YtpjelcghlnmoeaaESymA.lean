/- slices.symMergeCmpFunc at entries, where one of the two runs has a single one. -/
import Derived.Test.YtpjelcghlnmoeaaESwap
namespace Go.Proofs.Ytpjelcghlnmoeaa
open Go.RowKit

/-- what a sort of the entries es in block g asks for: their places and the order lie outside of it -/
structure CtxE (w : World) (g bo : Nat) (Ao : Option Addr) (ro co : Nat) (os : List Int) (es : List Ent) : Prop where
  ents : ∀ x ∈ es, IntsOff w g x.A x.n x.cs ∧ (∀ m ∈ os, 0 ≤ m ∧ m < x.n) ∧ -9223372036854775808 ≤ x.v ∧ x.v ≤ 9223372036854775807
  ord : IntsOff w g Ao ro os
  cell : w.cell? ⟨bo, 0, none⟩ = some (.slice Ao ro co)
  off : bo ≠ g
  few : ro ≤ 100000
theorem CtxE.grown {w wr : World} {g bo ro co : Nat} {Ao : Option Addr} {os : List Int} {es es' : List Ent} (h : CtxE w g bo Ao ro co os es) (hg : w.grownBy wr (some g)) (hs : ∀ x ∈ es', x ∈ es) : CtxE wr g bo Ao ro co os es' :=
  ⟨fun x hx => ⟨⟨(h.ents x (hs x hx)).1.grown hg, (h.ents x (hs x hx)).1.2⟩, (h.ents x (hs x hx)).2⟩, ⟨h.ord.grown hg, h.ord.2⟩, hg.cell h.cell (fun e => h.off (by injection e)), h.off, h.few⟩
theorem CtxE.cmp {w wr : World} {g bo ro co : Nat} {Ao : Option Addr} {os : List Int} {es : List Ent} (h : CtxE w g bo Ao ro co os es) {x y : Ent} (hx : x ∈ es) (hy : y ∈ es) (hg : w.grownBy wr (some g)) :
    Calls Try.prog 72 #[.agg #[.slice x.A x.n x.c, .int .i64 x.v], .agg #[.slice y.A y.n y.c, .int .i64 y.v], .pointer (some ⟨bo, 0, none⟩)] wr fun e w' => e = .returned (.int .i64 (cmpE os x.cs y.cs)) ∧ Below wr.heap.size wr w' := by
  have q := h.grown hg (fun x hx => hx)
  exact ahead_ok x y Ao ro co os bo wr (q.ents x hx).1.1 (q.ents y hy).1.1 q.ord.1 q.cell q.few (fun m hm => ⟨((q.ents x hx).2.1 m hm).1, ((q.ents x hx).2.1 m hm).2, ((q.ents y hy).2.1 m hm).2⟩)
theorem RowE.below {w wq : World} {g : Nat} {M : List Ent} {post : List Value} (h : RowE w g M post) (hb : Below w.heap.size w wq) : RowE wq g M post := (hb.block g h.lt).trans h
theorem lt_of_neg {r : Int} (h : r < 0) : decide (r < 0) = true := decide_eq_true h
theorem InOrd.hit {os : List Int} {R : List Ent} (h : InOrd os R) {k : Nat} {z x : Ent} (hz : R[k]? = some z) (hx : ltE os z x = true) : ∀ (q : Nat) (y : Ent), q < k + 1 → R[q]? = some y → ltE os y x = true :=
  fun _ _ hq hy => ltE_le (h.le (by omega) hy hz) hx
theorem InOrd.miss {os : List Int} {R : List Ent} (h : InOrd os R) {k : Nat} {z x : Ent} (hz : R[k]? = some z) (hx : ltE os z x = false) : ∀ (q : Nat) (y : Ent), k ≤ q → R[q]? = some y → ltE os y x = false := fun q y hq hy => by
  cases e : ltE os y x with
  | false => rfl
  | true => have := ltE_le (h.le hq hz hy) e; rw [hx] at this; cases this
theorem InOrd.hit' {os : List Int} {L : List Ent} (h : InOrd os L) {k : Nat} {z x : Ent} (hz : L[k]? = some z) (hx : ltE os x z = true) : ∀ (q : Nat) (y : Ent), k ≤ q → L[q]? = some y → ltE os x y = true := fun q y hq hy => by
  cases e : ltE os x y with
  | true => rfl
  | false =>
    have h1 := ltE_f.1 e
    have h2 := cmpE_trans (ltE_f.1 (h.le hq hz hy)) h1
    have h3 := ltE_t.1 hx
    rw [cmpE_neg] at h3
    omega
theorem InOrd.miss' {os : List Int} {L : List Ent} (h : InOrd os L) {k : Nat} {z x : Ent} (hz : L[k]? = some z) (hx : ltE os x z = false) : ∀ (q : Nat) (y : Ent), q < k + 1 → L[q]? = some y → ltE os x y = false :=
  fun _ _ hq hy => ltE_f.2 (cmpE_trans (ltE_f.1 (h.le (by omega) hy hz)) (ltE_f.1 hx))

set_option maxRecDepth 100000 in
set_option maxHeartbeats 4000000 in
theorem symOneL_ok (g n c a m b bo : Nat) (P R S : List Ent) (x : Ent) (post : List Value) (Ao : Option Addr) (ro co : Nat) (os : List Int) (w : World)
    (hblk : RowE w g (P ++ [x] ++ R ++ S) post) (hP : P.length = a) (hm : a + 1 = m) (hR : m + R.length = b) (hn : b + S.length = n) (hnb : n ≤ 4000000000000000000) (hO : InOrd os R) (hC : CtxE w g bo Ao ro co os ([x] ++ R)) :
    Calls Try.prog 88 #[.slice (some ⟨g, 0, none⟩) n c, .int .i64 (a : Int), .int .i64 (m : Int), .int .i64 (b : Int), .func (.func 72) #[] #[.pointer (some ⟨bo, 0, none⟩)]] w
      fun e w' => e = .returned (.tuple #[]) ∧ RowE w' g (P ++ mergeE os [x] R ++ S) post ∧ w.grownBy w' (some g) := by
  have HB := Lib.hid hblk
  have HP := Lib.hid hP
  have HR := Lib.hid hR
  have HO := Lib.hid hO
  have HC := Lib.hid hC
  have hbn : b ≤ n := by omega
  have hmb : m ≤ b := by omega
  have hab : a < m := by omega
  have e0 : (m : Int) - (a : Int) = 1 := by omega
  clear hblk hP hR hO hC hn
  have HM := Lib.hid hm
  clear hm
  go_enter Try.func88, Try.ntmps88
  go_wp2
  go_loopw [10, 11] (fun v u wr => ∃ (i j : Nat), v = .int .i64 (i : Int) ∧ u = .int .i64 (j : Int) ∧ m ≤ i ∧ i ≤ j ∧ j ≤ b ∧ Hid (∀ (q : Nat) (y : Ent), m + q < i → R[q]? = some y → ltE os y x = true) ∧ Hid (∀ (q : Nat) (y : Ent), j ≤ m + q → R[q]? = some y → ltE os y x = false) ∧ Hid (RowE wr g (P ++ [x] ++ R ++ S) post) ∧ Hid (w.grownBy wr (some g))) (fun v u _ => (intOf u).toNat - (intOf v).toNat)
  case atStart => exact ⟨m, b, rfl, rfl, Nat.le_refl _, hmb, Nat.le_refl _, by unfold Hid; intro q y hq; omega, by unfold Hid; intro q y hq hy; have := (List.getElem?_eq_some_iff.1 hy).1; have := HR.out; omega, HB, Lib.hid (grown_same w g)⟩
  case round =>
    obtain ⟨i, j, rfl, rfl, hmi, hij, hjb, HI, HJ, HW, HG⟩ := hrel
    by_cases hlt : i < j
    · obtain ⟨k, hk⟩ : ∃ k : Nat, (i + j) / 2 = k := ⟨_, rfl⟩
      have eH : ((i : Int) + (j : Int)) / 2 = (k : Int) := by omega
      have hik : i ≤ k := by omega
      have hkj : k < j := by omega
      obtain ⟨z, hz⟩ : ∃ z, R[k - m]? = some z := ⟨_, List.getElem?_eq_getElem (by have := HR.out; omega)⟩
      have hMk : (P ++ [x] ++ R ++ S)[k]? = some z := by
        rw [at_mid (P := P ++ [x]) (L := R) (S := S) (a := m) (by rw [List.length_append, HP.out]; exact HM.out) (by omega) (by have := HR.out; omega)]; exact hz
      have hMa : (P ++ [x] ++ R ++ S)[a]? = some x := by
        rw [List.append_assoc, at_mid (P := P) (L := [x]) (S := R ++ S) (a := a) HP.out (Nat.le_refl _) (by simp), Nat.sub_self]; rfl
      obtain ⟨⟨a1, a2⟩, a3, a4⟩ := blk_ent HW.out hMk
      obtain ⟨⟨b1, b2⟩, b3, b4⟩ := blk_ent HW.out hMa
      have hcmp := HC.out.cmp (x := z) (y := x) (List.mem_append_right _ (List.mem_of_getElem? hz)) (by simp) (grown_drew HG.out)
      obtain ⟨r, hr⟩ : ∃ r, cmpE os z.cs x.cs = r := ⟨_, rfl⟩
      rw [hr] at hcmp
      have HRR := Lib.hid hr
      have HZ := Lib.hid hz
      have hkn : (k : Int) < (n : Int) := by omega
      have han : (a : Int) < (n : Int) := by omega
      have hk0 : (0 : Int) ≤ (k : Int) := by omega
      have ha0 : (0 : Int) ≤ (a : Int) := by omega
      clear hr hz hMk hMa hk
      go_wp2
      go_still_tail 9, (by kernel_rfl)
      change wpList _ _ _ _ _ wr.drew
      by_cases hrn : r < 0
      · have hdr : decide (r < 0) = true := decide_eq_true hrn
        have HI2 : Hid (∀ (q : Nat) (y : Ent), m + q < k + 1 → R[q]? = some y → ltE os y x = true) := by
          have := HO.out.hit HZ.out (ltE_t.2 (by rw [HRR.out]; exact hrn))
          unfold Hid; intro q y hq hy; exact this q y (by omega) hy
        clear hrn
        go_wp2_with (fail)
        refine hcmp.mono ?_
        rintro e wq ⟨rfl, hbq⟩
        have HWQ := Lib.hid (HW.out.drew.below hbq)
        have HGQ := Lib.hid (grown_below' (grown_drew HG.out) hbq)
        clear hcmp hbq a1 a2 a3 a4 b1 b2 b3 b4
        go_wp2
        go_roundw
        case rel => exact ⟨k + 1, j, by go_num, rfl, by omega, by omega, hjb, HI2, HJ, HWQ, HGQ⟩
        case measure => simp [intOf]; omega
      · have hdr : decide (r < 0) = false := decide_eq_false hrn
        have HJ2 : Hid (∀ (q : Nat) (y : Ent), k ≤ m + q → R[q]? = some y → ltE os y x = false) := by
          have := HO.out.miss (x := x) HZ.out (by unfold ltE; rw [HRR.out]; exact hdr)
          unfold Hid; intro q y hq hy; exact this q y (by omega) hy
        clear hrn
        go_wp2_with (fail)
        refine hcmp.mono ?_
        rintro e wq ⟨rfl, hbq⟩
        have HWQ := Lib.hid (HW.out.drew.below hbq)
        have HGQ := Lib.hid (grown_below' (grown_drew HG.out) hbq)
        clear hcmp hbq a1 a2 a3 a4 b1 b2 b3 b4
        go_wp2
        go_roundw
        case rel => exact ⟨i, k, rfl, rfl, hmi, hik, by omega, HI, HJ2, HWQ, HGQ⟩
        case measure => simp [intOf]; omega
    · obtain rfl : i = j := by omega
      obtain ⟨p, hp⟩ : ∃ p : Nat, i - m = p := ⟨_, rfl⟩
      have hpl : p ≤ R.length := by have := HR.out; omega
      have HMG : Hid (mergeE os [x] R = R.take p ++ x :: R.drop p) := by
        unfold Hid
        conv => lhs; rw [← List.take_append_drop p R]
        refine mergeE_one_left (fun y hy => ?_) (fun y hy => ?_)
        · obtain ⟨q, hq⟩ := List.getElem?_of_mem hy
          have hql := (List.getElem?_eq_some_iff.1 hq).1
          rw [List.length_take] at hql
          rw [List.getElem?_take_of_lt (by omega)] at hq
          exact HI.out q y (by omega) hq
        · rw [List.head?_eq_getElem?, List.getElem?_drop] at hy
          exact HJ.out _ y (by omega) hy
      obtain ⟨i1, hi1⟩ : ∃ i1 : Nat, i - 1 = i1 := ⟨_, rfl⟩
      have e1 : (i : Int) - 1 = (i1 : Int) := by omega
      have HPL := Lib.hid hpl
      have HI1 : Hid (i1 = a + p) := by unfold Hid; have := HM.out; omega
      have hi1n : i1 ≤ n := by omega
      have HWA : Hid (RowE wr g (P ++ (R.take 0 ++ x :: R.drop 0) ++ S) post) := by unfold Hid; simpa using HW.out
      have hai : a ≤ i1 := by have := HI1.out; omega
      clear HI HJ HW HB hpl hp hi1
      go_wp2
      go_loopw [13] (fun v wx => ∃ (k t : Nat), v = .int .i64 (k : Int) ∧ a ≤ k ∧ k ≤ i1 ∧ Hid (k = a + t) ∧ Hid (RowE wx g (P ++ (R.take t ++ x :: R.drop t) ++ S) post) ∧ Hid (w.grownBy wx (some g))) (fun v _ => i1 - (intOf v).toNat)
      case atStart => exact ⟨a, 0, rfl, Nat.le_refl _, hai, rfl, HWA, HG⟩
      case round =>
        obtain ⟨k, t, rfl, hak, hki, HT, HW2, HG2⟩ := hrel
        by_cases hkl : k < i1
        · obtain ⟨y, hy⟩ : ∃ y, R[t]? = some y := ⟨_, List.getElem?_eq_getElem (by have := HT.out; have := HI1.out; have := HPL.out; omega)⟩
          have hM : P ++ (R.take t ++ x :: R.drop t) ++ S = (P ++ R.take t) ++ x :: [] ++ y :: (R.drop (t + 1) ++ S) := by rw [drop_of hy]; simp
          have hN : P ++ (R.take (t + 1) ++ x :: R.drop (t + 1)) ++ S = (P ++ R.take t) ++ y :: [] ++ x :: (R.drop (t + 1) ++ S) := by rw [take_succ_of hy]; simp
          have hl1 : (P ++ R.take t).length = k := by rw [List.length_append, List.length_take, HP.out]; have := HT.out; have := HI1.out; have := HPL.out; omega
          have hR := HW2.out
          rw [hM] at hR
          have HN2 := Lib.hid hN
          have hSW := swap_two (P ++ R.take t) [] (R.drop (t + 1) ++ S) x y hl1 (l := k + 1) rfl
          obtain ⟨M, hMM⟩ : ∃ M, (P ++ R.take t) ++ x :: [] ++ y :: (R.drop (t + 1) ++ S) = M := ⟨_, rfl⟩
          have hMk : M[k]? = some x := by rw [← hMM, List.append_assoc, List.getElem?_append_right (by omega), hl1, Nat.sub_self]; rfl
          have hMl : M[k + 1]? = some y := by rw [← hMM, List.getElem?_append_right (by rw [List.length_append, hl1]; exact Nat.le_refl _), List.length_append, hl1, show k + 1 - (k + [x].length) = 0 by simp]; rfl
          rw [hMM] at hR hSW
          obtain ⟨⟨a1, a2⟩, a3, a4⟩ := blk_ent hR hMk
          obtain ⟨⟨b1, b2⟩, b3, b4⟩ := blk_ent hR hMl
          have HSW := Lib.hid (RowE.swap hR (List.getElem?_eq_some_iff.1 hMk).1 (List.getElem?_eq_some_iff.1 hMl).1 hSW)
          have HGW := Lib.hid (grown_four HG2.out k (k + 1) (.slice y.A y.n y.c) (.int .i64 y.v) (.slice x.A x.n x.c) (.int .i64 x.v))
          obtain ⟨k1, hk1⟩ : ∃ k1, k + 1 = k1 := ⟨_, rfl⟩
          rw [hk1] at b1 b2 b3 b4 HSW HGW
          have e2 : (k : Int) + 1 = (k1 : Int) := by omega
          have hkn : (k : Int) < (n : Int) := by omega
          have hln : (k1 : Int) < (n : Int) := by omega
          have hk0 : (0 : Int) ≤ (k : Int) := by omega
          have hl0 : (0 : Int) ≤ (k1 : Int) := by omega
          have hkk : k ≠ k1 := by omega
          have hk1i : k1 ≤ i1 := by omega
          have HK1 := Lib.hid hk1
          clear hM hN hSW hMM hR hMk hMl hl1 hy hk1
          go_wp2
          go_region
          all_goals
            obtain ⟨w4, hw4⟩ : ∃ w4, ((((wr.setCell ⟨g, k * 2, none⟩ (.slice y.A y.n y.c)).setCell ⟨g, k * 2 + 1, none⟩ (.int .i64 y.v)).setCell ⟨g, k1 * 2, none⟩ (.slice x.A x.n x.c)).setCell ⟨g, k1 * 2 + 1, none⟩ (.int .i64 x.v)) = w4 := ⟨_, rfl⟩
            rw [hw4] at HSW HGW ⊢
            clear hw4 a1 a2 a3 a4 b1 b2 b3 b4
            go_wp2
            go_roundw
            case rel => exact ⟨k1, t + 1, rfl, by omega, hk1i, by unfold Hid; have := HK1.out; have := HT.out; omega, by unfold Hid; rw [HN2.out]; exact HSW.out.drew, Lib.hid (grown_drew HGW.out)⟩
            case measure => simp [intOf]; omega
        · have HF : Hid (t = p) := by unfold Hid; have := HT.out; have := HI1.out; omega
          go_wp2
          refine bodyPost_ret (results_none rfl _ _ _) rfl ?_
          exact ⟨rfl, by rw [HMG.out, ← HF.out]; exact HW2.out, HG2.out⟩

set_option maxRecDepth 100000 in
set_option maxHeartbeats 4000000 in
theorem symOneR_ok (g n c a m b bo : Nat) (P L S : List Ent) (x : Ent) (post : List Value) (Ao : Option Addr) (ro co : Nat) (os : List Int) (w : World)
    (hblk : RowE w g (P ++ L ++ [x] ++ S) post) (hP : P.length = a) (hm : a + L.length = m) (hb : m + 1 = b) (hL2 : 2 ≤ L.length) (hn : b + S.length = n) (hnb : n ≤ 4000000000000000000) (hO : InOrd os L) (hC : CtxE w g bo Ao ro co os (L ++ [x])) :
    Calls Try.prog 88 #[.slice (some ⟨g, 0, none⟩) n c, .int .i64 (a : Int), .int .i64 (m : Int), .int .i64 (b : Int), .func (.func 72) #[] #[.pointer (some ⟨bo, 0, none⟩)]] w
      fun e w' => e = .returned (.tuple #[]) ∧ RowE w' g (P ++ mergeE os L [x] ++ S) post ∧ w.grownBy w' (some g) := by
  have HB := Lib.hid hblk
  have HP := Lib.hid hP
  have HO := Lib.hid hO
  have HC := Lib.hid hC
  have HM := Lib.hid hm
  have hbn : b ≤ n := by omega
  have hmb : m < b := by omega
  have hab : a ≤ m := by omega
  obtain ⟨ml, hml⟩ : ∃ ml : Nat, m - a = ml := ⟨_, rfl⟩
  have e0 : (m : Int) - (a : Int) = (ml : Int) := by omega
  have e0b : ((ml : Int) == 1) = false := by simp; omega
  have e1 : (b : Int) - (m : Int) = 1 := by omega
  have hmln : ml ≤ n := by omega
  clear hblk hP hO hC hn hm hml hb
  go_enter Try.func88, Try.ntmps88
  go_wp2
  go_loopw [14, 15] (fun v u wr => ∃ (i j : Nat), v = .int .i64 (i : Int) ∧ u = .int .i64 (j : Int) ∧ a ≤ i ∧ i ≤ j ∧ j ≤ m ∧ Hid (∀ (q : Nat) (y : Ent), a + q < i → L[q]? = some y → ltE os x y = false) ∧ Hid (∀ (q : Nat) (y : Ent), j ≤ a + q → L[q]? = some y → ltE os x y = true) ∧ Hid (RowE wr g (P ++ L ++ [x] ++ S) post) ∧ Hid (w.grownBy wr (some g))) (fun v u _ => (intOf u).toNat - (intOf v).toNat)
  case atStart => exact ⟨a, m, rfl, rfl, Nat.le_refl _, hab, Nat.le_refl _, by unfold Hid; intro q y hq; omega, by unfold Hid; intro q y hq hy; have := (List.getElem?_eq_some_iff.1 hy).1; have := HM.out; omega, HB, Lib.hid (grown_same w g)⟩
  case round =>
    obtain ⟨i, j, rfl, rfl, hai, hij, hjm, HI, HJ, HW, HG⟩ := hrel
    by_cases hlt : i < j
    · obtain ⟨k, hk⟩ : ∃ k : Nat, (i + j) / 2 = k := ⟨_, rfl⟩
      have eH : ((i : Int) + (j : Int)) / 2 = (k : Int) := by omega
      have hik : i ≤ k := by omega
      have hkj : k < j := by omega
      obtain ⟨z, hz⟩ : ∃ z, L[k - a]? = some z := ⟨_, List.getElem?_eq_getElem (by have := HM.out; omega)⟩
      have hMk : (P ++ L ++ [x] ++ S)[k]? = some z := by
        rw [List.append_assoc (P ++ L), at_mid (P := P) (L := L) (S := [x] ++ S) (a := a) HP.out (by omega) (by have := HM.out; omega)]; exact hz
      have hMm : (P ++ L ++ [x] ++ S)[m]? = some x := by
        rw [at_mid (P := P ++ L) (L := [x]) (S := S) (a := m) (by rw [List.length_append, HP.out]; exact HM.out) (Nat.le_refl _) (by simp), Nat.sub_self]; rfl
      obtain ⟨⟨a1, a2⟩, a3, a4⟩ := blk_ent HW.out hMk
      obtain ⟨⟨b1, b2⟩, b3, b4⟩ := blk_ent HW.out hMm
      have hcmp := HC.out.cmp (x := x) (y := z) (by simp) (List.mem_append_left _ (List.mem_of_getElem? hz)) (grown_drew HG.out)
      obtain ⟨r, hr⟩ : ∃ r, cmpE os x.cs z.cs = r := ⟨_, rfl⟩
      rw [hr] at hcmp
      have HRR := Lib.hid hr
      have HZ := Lib.hid hz
      have hkn : (k : Int) < (n : Int) := by omega
      have hmn : (m : Int) < (n : Int) := by omega
      have hk0 : (0 : Int) ≤ (k : Int) := by omega
      have hm0 : (0 : Int) ≤ (m : Int) := by omega
      clear hr hz hMk hMm hk
      go_wp2
      go_still_tail 9, (by kernel_rfl)
      change wpList _ _ _ _ _ wr.drew
      by_cases hrn : r < 0
      · have hdr : decide (r < 0) = true := decide_eq_true hrn
        have HJ2 : Hid (∀ (q : Nat) (y : Ent), k ≤ a + q → L[q]? = some y → ltE os x y = true) := by
          have := HO.out.hit' HZ.out (ltE_t.2 (by rw [HRR.out]; exact hrn))
          unfold Hid; intro q y hq hy; exact this q y (by omega) hy
        clear hrn
        go_wp2_with (fail)
        refine hcmp.mono ?_
        rintro e wq ⟨rfl, hbq⟩
        have HWQ := Lib.hid (HW.out.drew.below hbq)
        have HGQ := Lib.hid (grown_below' (grown_drew HG.out) hbq)
        clear hcmp hbq a1 a2 a3 a4 b1 b2 b3 b4
        go_wp2
        go_roundw
        case rel => exact ⟨i, k, rfl, rfl, hai, hik, by omega, HI, HJ2, HWQ, HGQ⟩
        case measure => simp [intOf]; omega
      · have hdr : decide (r < 0) = false := decide_eq_false hrn
        have HI2 : Hid (∀ (q : Nat) (y : Ent), a + q < k + 1 → L[q]? = some y → ltE os x y = false) := by
          have := HO.out.miss' (x := x) HZ.out (by unfold ltE; rw [HRR.out]; exact hdr)
          unfold Hid; intro q y hq hy; exact this q y (by omega) hy
        clear hrn
        go_wp2_with (fail)
        refine hcmp.mono ?_
        rintro e wq ⟨rfl, hbq⟩
        have HWQ := Lib.hid (HW.out.drew.below hbq)
        have HGQ := Lib.hid (grown_below' (grown_drew HG.out) hbq)
        clear hcmp hbq a1 a2 a3 a4 b1 b2 b3 b4
        go_wp2
        go_roundw
        case rel => exact ⟨k + 1, j, by go_num, rfl, by omega, by omega, hjm, HI2, HJ, HWQ, HGQ⟩
        case measure => simp [intOf]; omega
    · obtain rfl : i = j := by omega
      obtain ⟨p, hp⟩ : ∃ p : Nat, i - a = p := ⟨_, rfl⟩
      have hpl : p ≤ L.length := by have := HM.out; omega
      have HMG : Hid (mergeE os L [x] = L.take p ++ x :: L.drop p) := by
        unfold Hid
        conv => lhs; rw [← List.take_append_drop p L]
        refine mergeE_one_right (fun y hy => ?_) (fun y hy => ?_)
        · obtain ⟨q, hq⟩ := List.getElem?_of_mem hy
          have hql := (List.getElem?_eq_some_iff.1 hq).1
          rw [List.length_take] at hql
          rw [List.getElem?_take_of_lt (by omega)] at hq
          exact HI.out q y (by omega) hq
        · rw [List.head?_eq_getElem?, List.getElem?_drop] at hy
          exact HJ.out _ y (by omega) hy
      have HPL := Lib.hid hpl
      have HIP : Hid (i = a + p) := by unfold Hid; omega
      have HWA : Hid (RowE wr g (P ++ (L.take L.length ++ x :: L.drop L.length) ++ S) post) := by unfold Hid; rw [List.take_length, List.drop_length]; simpa using HW.out
      clear HI HJ HW HB hpl hp
      go_wp2
      go_loopw [17] (fun v wx => ∃ (k t : Nat), v = .int .i64 (k : Int) ∧ i ≤ k ∧ k ≤ m ∧ Hid (k = a + t) ∧ Hid (RowE wx g (P ++ (L.take t ++ x :: L.drop t) ++ S) post) ∧ Hid (w.grownBy wx (some g))) (fun v _ => (intOf v).toNat)
      case atStart => exact ⟨m, L.length, rfl, hjm, Nat.le_refl _, by unfold Hid; exact HM.out.symm, HWA, HG⟩
      case round =>
        obtain ⟨k, t, rfl, hik, hkm, HT, HW2, HG2⟩ := hrel
        by_cases hkl : i < k
        · obtain ⟨t1, ht1⟩ : ∃ t1, t = t1 + 1 := ⟨t - 1, by have := HT.out; have := HIP.out; omega⟩
          obtain ⟨k1, hk1⟩ : ∃ k1, k = k1 + 1 := ⟨k - 1, by omega⟩
          subst ht1
          obtain ⟨y, hy⟩ : ∃ y, L[t1]? = some y := ⟨_, List.getElem?_eq_getElem (by have := HT.out; have := HM.out; omega)⟩
          have hM : P ++ (L.take (t1 + 1) ++ x :: L.drop (t1 + 1)) ++ S = (P ++ L.take t1) ++ y :: [] ++ x :: (L.drop (t1 + 1) ++ S) := by rw [take_succ_of hy]; simp
          have hN : P ++ (L.take t1 ++ x :: L.drop t1) ++ S = (P ++ L.take t1) ++ x :: [] ++ y :: (L.drop (t1 + 1) ++ S) := by rw [drop_of hy]; simp
          have hl1 : (P ++ L.take t1).length = k1 := by rw [List.length_append, List.length_take, HP.out]; have := HT.out; have := HM.out; omega
          have hR := HW2.out
          rw [hM] at hR
          have HN2 := Lib.hid hN
          have hSW := swap_two (P ++ L.take t1) [] (L.drop (t1 + 1) ++ S) y x hl1 (l := k) (by rw [hk1]; rfl)
          rw [List.set_comm _ _ (by omega)] at hSW
          obtain ⟨M, hMM⟩ : ∃ M, (P ++ L.take t1) ++ y :: [] ++ x :: (L.drop (t1 + 1) ++ S) = M := ⟨_, rfl⟩
          have hMl : M[k1]? = some y := by rw [← hMM, List.append_assoc, List.getElem?_append_right (by omega), hl1, Nat.sub_self]; rfl
          have hMk : M[k]? = some x := by rw [← hMM, List.getElem?_append_right (by rw [List.length_append, hl1, hk1]; exact Nat.le_refl _), List.length_append, hl1, show k - (k1 + [y].length) = 0 by rw [hk1]; simp]; rfl
          rw [hMM] at hR hSW
          obtain ⟨⟨a1, a2⟩, a3, a4⟩ := blk_ent hR hMk
          obtain ⟨⟨b1, b2⟩, b3, b4⟩ := blk_ent hR hMl
          have HSW := Lib.hid (RowE.swap hR (List.getElem?_eq_some_iff.1 hMk).1 (List.getElem?_eq_some_iff.1 hMl).1 hSW)
          have HGW := Lib.hid (grown_four HG2.out k k1 (.slice y.A y.n y.c) (.int .i64 y.v) (.slice x.A x.n x.c) (.int .i64 x.v))
          have e2 : (k : Int) - 1 = (k1 : Int) := by omega
          have hkn : (k : Int) < (n : Int) := by omega
          have hln : (k1 : Int) < (n : Int) := by omega
          have hk0 : (0 : Int) ≤ (k : Int) := by omega
          have hl0 : (0 : Int) ≤ (k1 : Int) := by omega
          have hkk : k ≠ k1 := by omega
          have hk1i : i ≤ k1 := by omega
          have hk1m : k1 ≤ m := by omega
          have hk1k : k1 < k := by omega
          have HK1 := Lib.hid hk1
          clear hM hN hSW hMM hR hMk hMl hl1 hy hk1
          go_wp2
          go_region
          all_goals
            obtain ⟨w4, hw4⟩ : ∃ w4, ((((wr.setCell ⟨g, k * 2, none⟩ (.slice y.A y.n y.c)).setCell ⟨g, k * 2 + 1, none⟩ (.int .i64 y.v)).setCell ⟨g, k1 * 2, none⟩ (.slice x.A x.n x.c)).setCell ⟨g, k1 * 2 + 1, none⟩ (.int .i64 x.v)) = w4 := ⟨_, rfl⟩
            rw [hw4] at HSW HGW ⊢
            clear hw4 a1 a2 a3 a4 b1 b2 b3 b4
            go_wp2
            go_roundw
            case rel => exact ⟨k1, t1, rfl, hk1i, hk1m, by unfold Hid; have := HK1.out; have := HT.out; omega, by unfold Hid; rw [HN2.out]; exact HSW.out.drew, Lib.hid (grown_drew HGW.out)⟩
            case measure => simp [intOf]; omega
        · have HF : Hid (t = p) := by unfold Hid; have := HT.out; have := HIP.out; omega
          go_wp2
          refine bodyPost_ret (results_none rfl _ _ _) rfl ?_
          exact ⟨rfl, by rw [HMG.out, ← HF.out]; exact HW2.out, HG2.out⟩
end Go.Proofs.Ytpjelcghlnmoeaa
