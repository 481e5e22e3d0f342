/- slices.symMergeCmpFunc at entries, where one of the two runs has a single one. -/
import Derived.Test.YtpfabbapfmfmmaaG7
namespace Go.Proofs.Ytpfabbapfmfmmaa
open Go.RowKit

/-- what a sort of the entries es in block g asks for: their places and the order lie outside of it -/
structure CtxE (w : World) (g bo : Nat) (Ao : Option Addr) (ro co : Nat) (os : List Int) (es : List Ent) : Prop where
  ents : ∀ x ∈ es, IntsOff w g x.A x.n x.cs ∧ (∀ m ∈ os, 0 ≤ m ∧ m < x.n) ∧ -9223372036854775808 ≤ x.v ∧ x.v ≤ 9223372036854775807
  ord : IntsOff w g Ao ro os
  cell : w.cell? ⟨bo, 0, none⟩ = some (.slice Ao ro co)
  off : bo ≠ g
  few : ro ≤ 100000
theorem CtxE.grown {w wr : World} {g bo ro co : Nat} {Ao : Option Addr} {os : List Int} {es es' : List Ent} (h : CtxE w g bo Ao ro co os es) (hg : w.grownBy wr (some g)) (hs : ∀ x ∈ es', x ∈ es) : CtxE wr g bo Ao ro co os es' :=
  ⟨fun x hx => ⟨⟨(h.ents x (hs x hx)).1.grown hg, (h.ents x (hs x hx)).1.2⟩, (h.ents x (hs x hx)).2⟩, ⟨h.ord.grown hg, h.ord.2⟩, hg.cell h.cell (fun e => h.off (by injection e)), h.off, h.few⟩
theorem CtxE.cmp {w wr : World} {g bo ro co : Nat} {Ao : Option Addr} {os : List Int} {es : List Ent} (h : CtxE w g bo Ao ro co os es) {x y : Ent} (hx : x ∈ es) (hy : y ∈ es) (hg : w.grownBy wr (some g)) :
    Calls Try.prog 72 #[.agg #[.slice x.A x.n x.c, .int .i64 x.v], .agg #[.slice y.A y.n y.c, .int .i64 y.v], .pointer (some ⟨bo, 0, none⟩)] wr fun e w' => e = .returned (.int .i64 (cmpE os x.cs y.cs)) ∧ Below wr.heap.size wr w' := by
  have q := h.grown hg (fun x hx => hx)
  exact ahead_ok x y Ao ro co os bo wr (q.ents x hx).1.1 (q.ents y hy).1.1 q.ord.1 q.cell q.few (fun m hm => ⟨((q.ents x hx).2.1 m hm).1, ((q.ents x hx).2.1 m hm).2, ((q.ents y hy).2.1 m hm).2⟩)
theorem RowE.below {w wq : World} {g : Nat} {M : List Ent} {post : List Value} (h : RowE w g M post) (hb : Below w.heap.size w wq) : RowE wq g M post := (hb.block g h.lt).trans h
theorem lt_of_neg {r : Int} (h : r < 0) : decide (r < 0) = true := decide_eq_true h
theorem InOrd.hit {os : List Int} {R : List Ent} (h : InOrd os R) {k : Nat} {z x : Ent} (hz : R[k]? = some z) (hx : ltE os z x = true) : ∀ (q : Nat) (y : Ent), q < k + 1 → R[q]? = some y → ltE os y x = true :=
  fun _ _ hq hy => ltE_le (h.le (by omega) hy hz) hx
theorem InOrd.miss {os : List Int} {R : List Ent} (h : InOrd os R) {k : Nat} {z x : Ent} (hz : R[k]? = some z) (hx : ltE os z x = false) : ∀ (q : Nat) (y : Ent), k ≤ q → R[q]? = some y → ltE os y x = false := fun q y hq hy => by
  cases e : ltE os y x with
  | false => rfl
  | true => have := ltE_le (h.le hq hz hy) e; rw [hx] at this; cases this
theorem InOrd.hit' {os : List Int} {L : List Ent} (h : InOrd os L) {k : Nat} {z x : Ent} (hz : L[k]? = some z) (hx : ltE os x z = true) : ∀ (q : Nat) (y : Ent), k ≤ q → L[q]? = some y → ltE os x y = true := fun q y hq hy => by
  cases e : ltE os x y with
  | true => rfl
  | false =>
    have h1 := ltE_f.1 e
    have h2 := cmpE_trans (ltE_f.1 (h.le hq hz hy)) h1
    have h3 := ltE_t.1 hx
    rw [cmpE_neg] at h3
    omega
theorem InOrd.miss' {os : List Int} {L : List Ent} (h : InOrd os L) {k : Nat} {z x : Ent} (hz : L[k]? = some z) (hx : ltE os x z = false) : ∀ (q : Nat) (y : Ent), q < k + 1 → L[q]? = some y → ltE os x y = false :=
  fun _ _ hq hy => ltE_f.2 (cmpE_trans (ltE_f.1 (h.le (by omega) hy hz)) (ltE_f.1 hx))

set_option maxRecDepth 100000 in
set_option maxHeartbeats 4000000 in
theorem symOneL_ok (g n c a m b bo : Nat) (P R S : List Ent) (x : Ent) (post : List Value) (Ao : Option Addr) (ro co : Nat) (os : List Int) (w : World)
    (hblk : RowE w g (P ++ [x] ++ R ++ S) post) (hP : P.length = a) (hm : a + 1 = m) (hR : m + R.length = b) (hn : b + S.length = n) (hnb : n ≤ 4000000000000000000) (hO : InOrd os R) (hC : CtxE w g bo Ao ro co os ([x] ++ R)) :
    Calls Try.prog 88 #[.slice (some ⟨g, 0, none⟩) n c, .int .i64 (a : Int), .int .i64 (m : Int), .int .i64 (b : Int), .func (.func 72) #[] #[.pointer (some ⟨bo, 0, none⟩)]] w
      fun e w' => e = .returned (.tuple #[]) ∧ RowE w' g (P ++ mergeE os [x] R ++ S) post ∧ w.grownBy w' (some g) := by
  have HB := Lib.hid hblk
  have HP := Lib.hid hP
  have HR := Lib.hid hR
  have HO := Lib.hid hO
  have HC := Lib.hid hC
  have hbn : b ≤ n := by omega
  have hmb : m ≤ b := by omega
  have hab : a < m := by omega
  have e0 : (m : Int) - (a : Int) = 1 := by omega
  clear hblk hP hR hO hC hn
  have HM := Lib.hid hm
  clear hm
  go_enter Try.func88, Try.ntmps88
  go_wp2
  go_loopw [10, 11] (fun v u wr => ∃ (i j : Nat), v = .int .i64 (i : Int) ∧ u = .int .i64 (j : Int) ∧ m ≤ i ∧ i ≤ j ∧ j ≤ b ∧ Hid (∀ (q : Nat) (y : Ent), m + q < i → R[q]? = some y → ltE os y x = true) ∧ Hid (∀ (q : Nat) (y : Ent), j ≤ m + q → R[q]? = some y → ltE os y x = false) ∧ Hid (RowE wr g (P ++ [x] ++ R ++ S) post) ∧ Hid (w.grownBy wr (some g))) (fun v u _ => (intOf u).toNat - (intOf v).toNat)
  case atStart => exact ⟨m, b, rfl, rfl, Nat.le_refl _, hmb, Nat.le_refl _, by unfold Hid; intro q y hq; omega, by unfold Hid; intro q y hq hy; have := (List.getElem?_eq_some_iff.1 hy).1; have := HR.out; omega, HB, Lib.hid (grown_same w g)⟩
  case round =>
    obtain ⟨i, j, rfl, rfl, hmi, hij, hjb, HI, HJ, HW, HG⟩ := hrel
    by_cases hlt : i < j
    · obtain ⟨k, hk⟩ : ∃ k : Nat, (i + j) / 2 = k := ⟨_, rfl⟩
      have eH : ((i : Int) + (j : Int)) / 2 = (k : Int) := by omega
      have hik : i ≤ k := by omega
      have hkj : k < j := by omega
      obtain ⟨z, hz⟩ : ∃ z, R[k - m]? = some z := ⟨_, List.getElem?_eq_getElem (by have := HR.out; omega)⟩
      have hMk : (P ++ [x] ++ R ++ S)[k]? = some z := by
        rw [at_mid (P := P ++ [x]) (L := R) (S := S) (a := m) (by rw [List.length_append, HP.out]; exact HM.out) (by omega) (by have := HR.out; omega)]; exact hz
      have hMa : (P ++ [x] ++ R ++ S)[a]? = some x := by
        rw [List.append_assoc, at_mid (P := P) (L := [x]) (S := R ++ S) (a := a) HP.out (Nat.le_refl _) (by simp), Nat.sub_self]; rfl
      obtain ⟨⟨a1, a2⟩, a3, a4⟩ := blk_ent HW.out hMk
      obtain ⟨⟨b1, b2⟩, b3, b4⟩ := blk_ent HW.out hMa
      have hcmp := HC.out.cmp (x := z) (y := x) (List.mem_append_right _ (List.mem_of_getElem? hz)) (by simp) (grown_drew HG.out)
      obtain ⟨r, hr⟩ : ∃ r, cmpE os z.cs x.cs = r := ⟨_, rfl⟩
      rw [hr] at hcmp
      have HRR := Lib.hid hr
      have HZ := Lib.hid hz
      have hkn : (k : Int) < (n : Int) := by omega
      have han : (a : Int) < (n : Int) := by omega
      have hk0 : (0 : Int) ≤ (k : Int) := by omega
      have ha0 : (0 : Int) ≤ (a : Int) := by omega
      clear hr hz hMk hMa hk
      go_wp2
      go_still_tail 9, (by kernel_rfl)
      change wpList _ _ _ _ _ wr.drew
      by_cases hrn : r < 0
      · have hdr : decide (r < 0) = true := decide_eq_true hrn
        have HI2 : Hid (∀ (q : Nat) (y : Ent), m + q < k + 1 → R[q]? = some y → ltE os y x = true) := by
          have := HO.out.hit HZ.out (ltE_t.2 (by rw [HRR.out]; exact hrn))
          unfold Hid; intro q y hq hy; exact this q y (by omega) hy
        clear hrn
        go_wp2_with (fail)
        refine hcmp.mono ?_
        rintro e wq ⟨rfl, hbq⟩
        have HWQ := Lib.hid (HW.out.drew.below hbq)
        have HGQ := Lib.hid (grown_below' (grown_drew HG.out) hbq)
        clear hcmp hbq a1 a2 a3 a4 b1 b2 b3 b4
        go_wp2
        go_roundw
        case rel => exact ⟨k + 1, j, by go_num, rfl, by omega, by omega, hjb, HI2, HJ, HWQ, HGQ⟩
        case measure => simp [intOf]; omega
      · have hdr : decide (r < 0) = false := decide_eq_false hrn
        have HJ2 : Hid (∀ (q : Nat) (y : Ent), k ≤ m + q → R[q]? = some y → ltE os y x = false) := by
          have := HO.out.miss (x := x) HZ.out (by unfold ltE; rw [HRR.out]; exact hdr)
          unfold Hid; intro q y hq hy; exact this q y (by omega) hy
        clear hrn
        go_wp2_with (fail)
        refine hcmp.mono ?_
        rintro e wq ⟨rfl, hbq⟩
        have HWQ := Lib.hid (HW.out.drew.below hbq)
        have HGQ := Lib.hid (grown_below' (grown_drew HG.out) hbq)
        clear hcmp hbq a1 a2 a3 a4 b1 b2 b3 b4
        go_wp2
        go_roundw
        case rel => exact ⟨i, k, rfl, rfl, hmi, hik, by omega, HI, HJ2, HWQ, HGQ⟩
        case measure => simp [intOf]; omega
    · obtain rfl : i = j := by omega
      obtain ⟨p, hp⟩ : ∃ p : Nat, i - m = p := ⟨_, rfl⟩
      have hpl : p ≤ R.length := by have := HR.out; omega
      have HMG : Hid (mergeE os [x] R = R.take p ++ x :: R.drop p) := by
        unfold Hid
        conv => lhs; rw [← List.take_append_drop p R]
        refine mergeE_one_left (fun y hy => ?_) (fun y hy => ?_)
        · obtain ⟨q, hq⟩ := List.getElem?_of_mem hy
          have hql := (List.getElem?_eq_some_iff.1 hq).1
          rw [List.length_take] at hql
          rw [List.getElem?_take_of_lt (by omega)] at hq
          exact HI.out q y (by omega) hq
        · rw [List.head?_eq_getElem?, List.getElem?_drop] at hy
          exact HJ.out _ y (by omega) hy
      obtain ⟨i1, hi1⟩ : ∃ i1 : Nat, i - 1 = i1 := ⟨_, rfl⟩
      have e1 : (i : Int) - 1 = (i1 : Int) := by omega
      have HPL := Lib.hid hpl
      have HI1 : Hid (i1 = a + p) := by unfold Hid; have := HM.out; omega
      have hi1n : i1 ≤ n := by omega
      have HWA : Hid (RowE wr g (P ++ (R.take 0 ++ x :: R.drop 0) ++ S) post) := by unfold Hid; simpa using HW.out
      have hai : a ≤ i1 := by have := HI1.out; omega
      clear HI HJ HW HB hpl hp hi1
      go_wp2
      go_loopw [13] (fun v wx => ∃ (k t : Nat), v = .int .i64 (k : Int) ∧ a ≤ k ∧ k ≤ i1 ∧ Hid (k = a + t) ∧ Hid (RowE wx g (P ++ (R.take t ++ x :: R.drop t) ++ S) post) ∧ Hid (w.grownBy wx (some g))) (fun v _ => i1 - (intOf v).toNat)
      case atStart => exact ⟨a, 0, rfl, Nat.le_refl _, hai, rfl, HWA, HG⟩
      case round =>
        obtain ⟨k, t, rfl, hak, hki, HT, HW2, HG2⟩ := hrel
        by_cases hkl : k < i1
        · obtain ⟨y, hy⟩ : ∃ y, R[t]? = some y := ⟨_, List.getElem?_eq_getElem (by have := HT.out; have := HI1.out; have := HPL.out; omega)⟩
          have hM : P ++ (R.take t ++ x :: R.drop t) ++ S = (P ++ R.take t) ++ x :: [] ++ y :: (R.drop (t + 1) ++ S) := by rw [drop_of hy]; simp
          have hN : P ++ (R.take (t + 1) ++ x :: R.drop (t + 1)) ++ S = (P ++ R.take t) ++ y :: [] ++ x :: (R.drop (t + 1) ++ S) := by rw [take_succ_of hy]; simp
          have hl1 : (P ++ R.take t).length = k := by rw [List.length_append, List.length_take, HP.out]; have := HT.out; have := HI1.out; have := HPL.out; omega
          have hR := HW2.out
          rw [hM] at hR
          have HN2 := Lib.hid hN
          have hSW := swap_two (P ++ R.take t) [] (R.drop (t + 1) ++ S) x y hl1 (l := k + 1) rfl
          obtain ⟨M, hMM⟩ : ∃ M, (P ++ R.take t) ++ x :: [] ++ y :: (R.drop (t + 1) ++ S) = M := ⟨_, rfl⟩
          have hMk : M[k]? = some x := by rw [← hMM, List.append_assoc, List.getElem?_append_right (by omega), hl1, Nat.sub_self]; rfl
          have hMl : M[k + 1]? = some y := by rw [← hMM, List.getElem?_append_right (by rw [List.length_append, hl1]; exact Nat.le_refl _), List.length_append, hl1, show k + 1 - (k + [x].length) = 0 by simp]; rfl
          rw [hMM] at hR hSW
          obtain ⟨⟨a1, a2⟩, a3, a4⟩ := blk_ent hR hMk
          obtain ⟨⟨b1, b2⟩, b3, b4⟩ := blk_ent hR hMl
          have HSW := Lib.hid (RowE.swap hR (List.getElem?_eq_some_iff.1 hMk).1 (List.getElem?_eq_some_iff.1 hMl).1 hSW)
          have HGW := Lib.hid (grown_four HG2.out k (k + 1) (.slice y.A y.n y.c) (.int .i64 y.v) (.slice x.A x.n x.c) (.int .i64 x.v))
          obtain ⟨k1, hk1⟩ : ∃ k1, k + 1 = k1 := ⟨_, rfl⟩
          rw [hk1] at b1 b2 b3 b4 HSW HGW
          have e2 : (k : Int) + 1 = (k1 : Int) := by omega
          have hkn : (k : Int) < (n : Int) := by omega
          have hln : (k1 : Int) < (n : Int) := by omega
          have hk0 : (0 : Int) ≤ (k : Int) := by omega
          have hl0 : (0 : Int) ≤ (k1 : Int) := by omega
          have hkk : k ≠ k1 := by omega
          have hk1i : k1 ≤ i1 := by omega
          have HK1 := Lib.hid hk1
          clear hM hN hSW hMM hR hMk hMl hl1 hy hk1
          go_wp2
          go_region
          all_goals
            obtain ⟨w4, hw4⟩ : ∃ w4, ((((wr.setCell ⟨g, k * 2, none⟩ (.slice y.A y.n y.c)).setCell ⟨g, k * 2 + 1, none⟩ (.int .i64 y.v)).setCell ⟨g, k1 * 2, none⟩ (.slice x.A x.n x.c)).setCell ⟨g, k1 * 2 + 1, none⟩ (.int .i64 x.v)) = w4 := ⟨_, rfl⟩
            rw [hw4] at HSW HGW ⊢
            clear hw4 a1 a2 a3 a4 b1 b2 b3 b4
            go_wp2
            go_roundw
            case rel => exact ⟨k1, t + 1, rfl, by omega, hk1i, by unfold Hid; have := HK1.out; have := HT.out; omega, by unfold Hid; rw [HN2.out]; exact HSW.out.drew, Lib.hid (grown_drew HGW.out)⟩
            case measure => simp [intOf]; omega
        · have HF : Hid (t = p) := by unfold Hid; have := HT.out; have := HI1.out; omega
          go_wp2
          refine bodyPost_ret (results_none rfl _ _ _) rfl ?_
          exact ⟨rfl, by rw [HMG.out, ← HF.out]; exact HW2.out, HG2.out⟩

set_option maxRecDepth 100000 in
set_option maxHeartbeats 4000000 in
theorem symOneR_ok (g n c a m b bo : Nat) (P L S : List Ent) (x : Ent) (post : List Value) (Ao : Option Addr) (ro co : Nat) (os : List Int) (w : World)
    (hblk : RowE w g (P ++ L ++ [x] ++ S) post) (hP : P.length = a) (hm : a + L.length = m) (hb : m + 1 = b) (hL2 : 2 ≤ L.length) (hn : b + S.length = n) (hnb : n ≤ 4000000000000000000) (hO : InOrd os L) (hC : CtxE w g bo Ao ro co os (L ++ [x])) :
    Calls Try.prog 88 #[.slice (some ⟨g, 0, none⟩) n c, .int .i64 (a : Int), .int .i64 (m : Int), .int .i64 (b : Int), .func (.func 72) #[] #[.pointer (some ⟨bo, 0, none⟩)]] w
      fun e w' => e = .returned (.tuple #[]) ∧ RowE w' g (P ++ mergeE os L [x] ++ S) post ∧ w.grownBy w' (some g) := by
  have HB := Lib.hid hblk
  have HP := Lib.hid hP
  have HO := Lib.hid hO
  have HC := Lib.hid hC
  have HM := Lib.hid hm
  have hbn : b ≤ n := by omega
  have hmb : m < b := by omega
  have hab : a ≤ m := by omega
  obtain ⟨ml, hml⟩ : ∃ ml : Nat, m - a = ml := ⟨_, rfl⟩
  have e0 : (m : Int) - (a : Int) = (ml : Int) := by omega
  have e0b : ((ml : Int) == 1) = false := by simp; omega
  have e1 : (b : Int) - (m : Int) = 1 := by omega
  have hmln : ml ≤ n := by omega
  clear hblk hP hO hC hn hm hml hb
  go_enter Try.func88, Try.ntmps88
  go_wp2
  go_loopw [14, 15] (fun v u wr => ∃ (i j : Nat), v = .int .i64 (i : Int) ∧ u = .int .i64 (j : Int) ∧ a ≤ i ∧ i ≤ j ∧ j ≤ m ∧ Hid (∀ (q : Nat) (y : Ent), a + q < i → L[q]? = some y → ltE os x y = false) ∧ Hid (∀ (q : Nat) (y : Ent), j ≤ a + q → L[q]? = some y → ltE os x y = true) ∧ Hid (RowE wr g (P ++ L ++ [x] ++ S) post) ∧ Hid (w.grownBy wr (some g))) (fun v u _ => (intOf u).toNat - (intOf v).toNat)
  case atStart => exact ⟨a, m, rfl, rfl, Nat.le_refl _, hab, Nat.le_refl _, by unfold Hid; intro q y hq; omega, by unfold Hid; intro q y hq hy; have := (List.getElem?_eq_some_iff.1 hy).1; have := HM.out; omega, HB, Lib.hid (grown_same w g)⟩
  case round =>
    obtain ⟨i, j, rfl, rfl, hai, hij, hjm, HI, HJ, HW, HG⟩ := hrel
    by_cases hlt : i < j
    · obtain ⟨k, hk⟩ : ∃ k : Nat, (i + j) / 2 = k := ⟨_, rfl⟩
      have eH : ((i : Int) + (j : Int)) / 2 = (k : Int) := by omega
      have hik : i ≤ k := by omega
      have hkj : k < j := by omega
      obtain ⟨z, hz⟩ : ∃ z, L[k - a]? = some z := ⟨_, List.getElem?_eq_getElem (by have := HM.out; omega)⟩
      have hMk : (P ++ L ++ [x] ++ S)[k]? = some z := by
        rw [List.append_assoc (P ++ L), at_mid (P := P) (L := L) (S := [x] ++ S) (a := a) HP.out (by omega) (by have := HM.out; omega)]; exact hz
      have hMm : (P ++ L ++ [x] ++ S)[m]? = some x := by
        rw [at_mid (P := P ++ L) (L := [x]) (S := S) (a := m) (by rw [List.length_append, HP.out]; exact HM.out) (Nat.le_refl _) (by simp), Nat.sub_self]; rfl
      obtain ⟨⟨a1, a2⟩, a3, a4⟩ := blk_ent HW.out hMk
      obtain ⟨⟨b1, b2⟩, b3, b4⟩ := blk_ent HW.out hMm
      have hcmp := HC.out.cmp (x := x) (y := z) (by simp) (List.mem_append_left _ (List.mem_of_getElem? hz)) (grown_drew HG.out)
      obtain ⟨r, hr⟩ : ∃ r, cmpE os x.cs z.cs = r := ⟨_, rfl⟩
      rw [hr] at hcmp
      have HRR := Lib.hid hr
      have HZ := Lib.hid hz
      have hkn : (k : Int) < (n : Int) := by omega
      have hmn : (m : Int) < (n : Int) := by omega
      have hk0 : (0 : Int) ≤ (k : Int) := by omega
      have hm0 : (0 : Int) ≤ (m : Int) := by omega
      clear hr hz hMk hMm hk
      go_wp2
      go_still_tail 9, (by kernel_rfl)
      change wpList _ _ _ _ _ wr.drew
      by_cases hrn : r < 0
      · have hdr : decide (r < 0) = true := decide_eq_true hrn
        have HJ2 : Hid (∀ (q : Nat) (y : Ent), k ≤ a + q → L[q]? = some y → ltE os x y = true) := by
          have := HO.out.hit' HZ.out (ltE_t.2 (by rw [HRR.out]; exact hrn))
          unfold Hid; intro q y hq hy; exact this q y (by omega) hy
        clear hrn
        go_wp2_with (fail)
        refine hcmp.mono ?_
        rintro e wq ⟨rfl, hbq⟩
        have HWQ := Lib.hid (HW.out.drew.below hbq)
        have HGQ := Lib.hid (grown_below' (grown_drew HG.out) hbq)
        clear hcmp hbq a1 a2 a3 a4 b1 b2 b3 b4
        go_wp2
        go_roundw
        case rel => exact ⟨i, k, rfl, rfl, hai, hik, by omega, HI, HJ2, HWQ, HGQ⟩
        case measure => simp [intOf]; omega
      · have hdr : decide (r < 0) = false := decide_eq_false hrn
        have HI2 : Hid (∀ (q : Nat) (y : Ent), a + q < k + 1 → L[q]? = some y → ltE os x y = false) := by
          have := HO.out.miss' (x := x) HZ.out (by unfold ltE; rw [HRR.out]; exact hdr)
          unfold Hid; intro q y hq hy; exact this q y (by omega) hy
        clear hrn
        go_wp2_with (fail)
        refine hcmp.mono ?_
        rintro e wq ⟨rfl, hbq⟩
        have HWQ := Lib.hid (HW.out.drew.below hbq)
        have HGQ := Lib.hid (grown_below' (grown_drew HG.out) hbq)
        clear hcmp hbq a1 a2 a3 a4 b1 b2 b3 b4
        go_wp2
        go_roundw
        case rel => exact ⟨k + 1, j, by go_num, rfl, by omega, by omega, hjm, HI2, HJ, HWQ, HGQ⟩
        case measure => simp [intOf]; omega
    · obtain rfl : i = j := by omega
      obtain ⟨p, hp⟩ : ∃ p : Nat, i - a = p := ⟨_, rfl⟩
      have hpl : p ≤ L.length := by have := HM.out; omega
      have HMG : Hid (mergeE os L [x] = L.take p ++ x :: L.drop p) := by
        unfold Hid
        conv => lhs; rw [← List.take_append_drop p L]
        refine mergeE_one_right (fun y hy => ?_) (fun y hy => ?_)
        · obtain ⟨q, hq⟩ := List.getElem?_of_mem hy
          have hql := (List.getElem?_eq_some_iff.1 hq).1
          rw [List.length_take] at hql
          rw [List.getElem?_take_of_lt (by omega)] at hq
          exact HI.out q y (by omega) hq
        · rw [List.head?_eq_getElem?, List.getElem?_drop] at hy
          exact HJ.out _ y (by omega) hy
      have HPL := Lib.hid hpl
      have HIP : Hid (i = a + p) := by unfold Hid; omega
      have HWA : Hid (RowE wr g (P ++ (L.take L.length ++ x :: L.drop L.length) ++ S) post) := by unfold Hid; rw [List.take_length, List.drop_length]; simpa using HW.out
      clear HI HJ HW HB hpl hp
      go_wp2
      go_loopw [17] (fun v wx => ∃ (k t : Nat), v = .int .i64 (k : Int) ∧ i ≤ k ∧ k ≤ m ∧ Hid (k = a + t) ∧ Hid (RowE wx g (P ++ (L.take t ++ x :: L.drop t) ++ S) post) ∧ Hid (w.grownBy wx (some g))) (fun v _ => (intOf v).toNat)
      case atStart => exact ⟨m, L.length, rfl, hjm, Nat.le_refl _, by unfold Hid; exact HM.out.symm, HWA, HG⟩
      case round =>
        obtain ⟨k, t, rfl, hik, hkm, HT, HW2, HG2⟩ := hrel
        by_cases hkl : i < k
        · obtain ⟨t1, ht1⟩ : ∃ t1, t = t1 + 1 := ⟨t - 1, by have := HT.out; have := HIP.out; omega⟩
          obtain ⟨k1, hk1⟩ : ∃ k1, k = k1 + 1 := ⟨k - 1, by omega⟩
          subst ht1
          obtain ⟨y, hy⟩ : ∃ y, L[t1]? = some y := ⟨_, List.getElem?_eq_getElem (by have := HT.out; have := HM.out; omega)⟩
          have hM : P ++ (L.take (t1 + 1) ++ x :: L.drop (t1 + 1)) ++ S = (P ++ L.take t1) ++ y :: [] ++ x :: (L.drop (t1 + 1) ++ S) := by rw [take_succ_of hy]; simp
          have hN : P ++ (L.take t1 ++ x :: L.drop t1) ++ S = (P ++ L.take t1) ++ x :: [] ++ y :: (L.drop (t1 + 1) ++ S) := by rw [drop_of hy]; simp
          have hl1 : (P ++ L.take t1).length = k1 := by rw [List.length_append, List.length_take, HP.out]; have := HT.out; have := HM.out; omega
          have hR := HW2.out
          rw [hM] at hR
          have HN2 := Lib.hid hN
          have hSW := swap_two (P ++ L.take t1) [] (L.drop (t1 + 1) ++ S) y x hl1 (l := k) (by rw [hk1]; rfl)
          rw [List.set_comm _ _ (by omega)] at hSW
          obtain ⟨M, hMM⟩ : ∃ M, (P ++ L.take t1) ++ y :: [] ++ x :: (L.drop (t1 + 1) ++ S) = M := ⟨_, rfl⟩
          have hMl : M[k1]? = some y := by rw [← hMM, List.append_assoc, List.getElem?_append_right (by omega), hl1, Nat.sub_self]; rfl
          have hMk : M[k]? = some x := by rw [← hMM, List.getElem?_append_right (by rw [List.length_append, hl1, hk1]; exact Nat.le_refl _), List.length_append, hl1, show k - (k1 + [y].length) = 0 by rw [hk1]; simp]; rfl
          rw [hMM] at hR hSW
          obtain ⟨⟨a1, a2⟩, a3, a4⟩ := blk_ent hR hMk
          obtain ⟨⟨b1, b2⟩, b3, b4⟩ := blk_ent hR hMl
          have HSW := Lib.hid (RowE.swap hR (List.getElem?_eq_some_iff.1 hMk).1 (List.getElem?_eq_some_iff.1 hMl).1 hSW)
          have HGW := Lib.hid (grown_four HG2.out k k1 (.slice y.A y.n y.c) (.int .i64 y.v) (.slice x.A x.n x.c) (.int .i64 x.v))
          have e2 : (k : Int) - 1 = (k1 : Int) := by omega
          have hkn : (k : Int) < (n : Int) := by omega
          have hln : (k1 : Int) < (n : Int) := by omega
          have hk0 : (0 : Int) ≤ (k : Int) := by omega
          have hl0 : (0 : Int) ≤ (k1 : Int) := by omega
          have hkk : k ≠ k1 := by omega
          have hk1i : i ≤ k1 := by omega
          have hk1m : k1 ≤ m := by omega
          have hk1k : k1 < k := by omega
          have HK1 := Lib.hid hk1
          clear hM hN hSW hMM hR hMk hMl hl1 hy hk1
          go_wp2
          go_region
          all_goals
            obtain ⟨w4, hw4⟩ : ∃ w4, ((((wr.setCell ⟨g, k * 2, none⟩ (.slice y.A y.n y.c)).setCell ⟨g, k * 2 + 1, none⟩ (.int .i64 y.v)).setCell ⟨g, k1 * 2, none⟩ (.slice x.A x.n x.c)).setCell ⟨g, k1 * 2 + 1, none⟩ (.int .i64 x.v)) = w4 := ⟨_, rfl⟩
            rw [hw4] at HSW HGW ⊢
            clear hw4 a1 a2 a3 a4 b1 b2 b3 b4
            go_wp2
            go_roundw
            case rel => exact ⟨k1, t1, rfl, hk1i, hk1m, by unfold Hid; have := HK1.out; have := HT.out; omega, by unfold Hid; rw [HN2.out]; exact HSW.out.drew, Lib.hid (grown_drew HGW.out)⟩
            case measure => simp [intOf]; omega
        · have HF : Hid (t = p) := by unfold Hid; have := HT.out; have := HIP.out; omega
          go_wp2
          refine bodyPost_ret (results_none rfl _ _ _) rfl ?_
          exact ⟨rfl, by rw [HMG.out, ← HF.out]; exact HW2.out, HG2.out⟩
end Go.Proofs.Ytpfabbapfmfmmaa
/- Where two runs in order may be cut. Nothing is claimed of the program here. -/
namespace Go.Proofs.Ytpfabbapfmfmmaa
open Go.RowKit

theorem mergeE_cut {os : List Int} {L R : List Ent} {u v : Nat} (hL : InOrd os L) (hR : InOrd os R) (hB : u = 0 ∨ v = R.length ∨ ∃ x y, L[u - 1]? = some x ∧ R[v]? = some y ∧ ltE os y x = false) (hA : v = 0 ∨ u = L.length ∨ ∃ x y, L[u]? = some x ∧ R[v - 1]? = some y ∧ ltE os y x = true) :
    mergeE os L R = mergeE os (L.take u) (R.take v) ++ mergeE os (L.drop u) (R.drop v) := by
  conv => lhs; rw [← List.take_append_drop u L, ← List.take_append_drop v R]
  refine mergeE_split os _ _ _ _ (fun y hy x hx => ?_) (fun x hx y hy => ?_)
  · obtain ⟨q, hq⟩ := List.getElem?_of_mem hy
    have hql := (List.getElem?_eq_some_iff.1 hq).1
    rw [List.length_take] at hql
    rw [List.getElem?_take_of_lt (by omega)] at hq
    obtain ⟨s, hs⟩ := List.getElem?_of_mem hx
    rw [List.getElem?_drop] at hs
    have hsl := (List.getElem?_eq_some_iff.1 hs).1
    rcases hA with rfl | rfl | ⟨x0, y0, h1, h2, h3⟩
    · omega
    · omega
    · exact hL.hit' h1 (hR.hit h2 h3 q y (by omega) hq) _ x (by omega) hs
  · obtain ⟨q, hq⟩ := List.getElem?_of_mem hx
    have hql := (List.getElem?_eq_some_iff.1 hq).1
    rw [List.length_take] at hql
    rw [List.getElem?_take_of_lt (by omega)] at hq
    obtain ⟨s, hs⟩ := List.getElem?_of_mem hy
    rw [List.getElem?_drop] at hs
    have hsl := (List.getElem?_eq_some_iff.1 hs).1
    rcases hB with rfl | rfl | ⟨x0, y0, h1, h2, h3⟩
    · omega
    · omega
    · exact hL.miss' h1 (hR.miss h2 h3 _ y (by omega) hs) q x (by omega) hq
end Go.Proofs.Ytpfabbapfmfmmaa
/- slices.symMergeCmpFunc at entries, where both runs have two or more and the second one begins behind the middle. -/
namespace Go.Proofs.Ytpfabbapfmfmmaa
open Go.RowKit

set_option maxRecDepth 100000 in
set_option maxHeartbeats 16000000 in
theorem symRest1_ok (g n c a m b mid bo : Nat) (P L R S : List Ent) (post : List Value) (Ao : Option Addr) (ro co : Nat) (os : List Int) (w : World)
    (hblk : RowE w g (P ++ L ++ R ++ S) post) (hP : P.length = a) (hm : a + L.length = m) (hb : m + R.length = b) (hL2 : 2 ≤ L.length) (hR2 : 2 ≤ R.length) (hn : b + S.length = n) (hnb : n ≤ 4000000000000000000) (hOL : InOrd os L) (hOR : InOrd os R) (hC : CtxE w g bo Ao ro co os (L ++ R)) (hmid : (a + b) / 2 = mid) (hside : mid < m)
    (IH : ∀ (a2 m2 b2 : Nat) (P2 L2 R2 S2 : List Ent) (w2 : World), b2 - a2 < b - a → RowE w2 g (P2 ++ L2 ++ R2 ++ S2) post → P2.length = a2 → a2 + L2.length = m2 → m2 + R2.length = b2 → b2 + S2.length = n → a2 < m2 → m2 < b2 → InOrd os L2 → InOrd os R2 → CtxE w2 g bo Ao ro co os (L2 ++ R2) →
      Calls Try.prog 88 #[.slice (some ⟨g, 0, none⟩) n c, .int .i64 (a2 : Int), .int .i64 (m2 : Int), .int .i64 (b2 : Int), .func (.func 72) #[] #[.pointer (some ⟨bo, 0, none⟩)]] w2 fun e w' => e = .returned (.tuple #[]) ∧ RowE w' g (P2 ++ mergeE os L2 R2 ++ S2) post ∧ w2.grownBy w' (some g)) :
    Calls Try.prog 88 #[.slice (some ⟨g, 0, none⟩) n c, .int .i64 (a : Int), .int .i64 (m : Int), .int .i64 (b : Int), .func (.func 72) #[] #[.pointer (some ⟨bo, 0, none⟩)]] w
      fun e w' => e = .returned (.tuple #[]) ∧ RowE w' g (P ++ mergeE os L R ++ S) post ∧ w.grownBy w' (some g) := by
  have HB := Lib.hid hblk
  have HP := Lib.hid hP
  have HOL := Lib.hid hOL
  have HOR := Lib.hid hOR
  have HC := Lib.hid hC
  have HM := Lib.hid hm
  have HR := Lib.hid hb
  have HN := Lib.hid hn
  have hbn : b ≤ n := by omega
  have ham : a + 2 ≤ m := by omega
  have hmb : m + 2 ≤ b := by omega
  have hmid1 : a + 2 ≤ mid := by omega
  have hmid2 : mid + 2 ≤ b := by omega
  obtain ⟨ml, hml⟩ : ∃ ml : Nat, m - a = ml := ⟨_, rfl⟩
  have e0 : (m : Int) - (a : Int) = (ml : Int) := by omega
  have e0b : ((ml : Int) == 1) = false := by simp; omega
  obtain ⟨bl, hbl⟩ : ∃ bl : Nat, b - m = bl := ⟨_, rfl⟩
  have e1 : (b : Int) - (m : Int) = (bl : Int) := by omega
  have e1b : ((bl : Int) == 1) = false := by simp; omega
  have eM : ((a : Int) + (b : Int)) / 2 = (mid : Int) := by omega
  obtain ⟨nn, hnn⟩ : ∃ nn : Nat, mid + m = nn := ⟨_, rfl⟩
  have eN : (mid : Int) + (m : Int) = (nn : Int) := by omega
  obtain ⟨pp, hpp⟩ : ∃ pp : Nat, nn - 1 = pp := ⟨_, rfl⟩
  have eP : (nn : Int) - 1 = (pp : Int) := by omega
  have hmln : ml ≤ n := by omega
  have hbln : bl ≤ n := by omega
  have hnn2 : nn ≤ 2 * n := by omega
  have hpp2 : pp + 1 = nn := by omega
  obtain ⟨lo, hlo⟩ : ∃ lo : Nat, nn - b = lo := ⟨_, rfl⟩
  have eL : (nn : Int) - (b : Int) = (lo : Int) := by omega
  have dS : decide ((mid : Int) < (m : Int)) = true := decide_eq_true (by omega)
  have dS2 : decide (mid < m) = true := decide_eq_true (by omega)
  have HLO : Hid (a ≤ lo ∧ lo ≤ mid ∧ lo + b = nn) := by unfold Hid; omega
  have hlon : lo ≤ n := by omega
  have HNN : Hid (mid + m = nn) := hnn
  clear hblk hP hOL hOR hC hn hm hb hml hbl hpp hlo hmid hnn
  go_enter Try.func88, Try.ntmps88
  go_wp2
  go_loopw [20, 21] (fun v u wr => ∃ (i j : Nat), v = .int .i64 (i : Int) ∧ u = .int .i64 (j : Int) ∧ lo ≤ i ∧ i ≤ j ∧ j ≤ mid ∧ Hid (i = lo ∨ ∃ x y, L[i - 1 - a]? = some x ∧ R[nn - i - m]? = some y ∧ ltE os y x = false) ∧ Hid (j = mid ∨ ∃ x y, L[j - a]? = some x ∧ R[nn - 1 - j - m]? = some y ∧ ltE os y x = true) ∧ Hid (RowE wr g (P ++ L ++ R ++ S) post) ∧ Hid (w.grownBy wr (some g))) (fun v u _ => (intOf u).toNat - (intOf v).toNat)
  case atStart => exact ⟨lo, mid, rfl, rfl, Nat.le_refl _, (by have := HLO.out; omega), Nat.le_refl _, .inl rfl, .inl rfl, HB, Lib.hid (grown_same w g)⟩
  case round =>
    obtain ⟨i, j, rfl, rfl, hai, hij, hjm, HI, HJ, HW, HG⟩ := hrel
    have hloa : a ≤ lo := by have := HLO.out; omega
    by_cases hlt : i < j
    · obtain ⟨k, hk⟩ : ∃ k : Nat, (i + j) / 2 = k := ⟨_, rfl⟩
      have eH : ((i : Int) + (j : Int)) / 2 = (k : Int) := by omega
      have hik : i ≤ k := by omega
      have hkj : k < j := by omega
      obtain ⟨kk, hkk⟩ : ∃ kk : Nat, pp - k = kk := ⟨_, rfl⟩
      have eK : (pp : Int) - (k : Int) = (kk : Int) := by omega
      have HKK : Hid (kk = nn - 1 - k) := by unfold Hid; omega
      have hrange : a ≤ k ∧ k < m ∧ m ≤ kk ∧ kk < b := by have := HNN.out; have := HLO.out; omega
      obtain ⟨r1, r2, r3, r4⟩ := hrange
      obtain ⟨z, hz⟩ : ∃ z, L[k - a]? = some z := ⟨_, List.getElem?_eq_getElem (by have := HM.out; omega)⟩
      obtain ⟨y, hy⟩ : ∃ y, R[kk - m]? = some y := ⟨_, List.getElem?_eq_getElem (by have := HR.out; omega)⟩
      have hMk : (P ++ L ++ R ++ S)[k]? = some z := by
        rw [List.append_assoc (P ++ L), at_mid (P := P) (L := L) (S := R ++ S) (a := a) HP.out (by omega) (by have := HM.out; omega)]; exact hz
      have hMm : (P ++ L ++ R ++ S)[kk]? = some y := by
        rw [at_mid (P := P ++ L) (L := R) (S := S) (a := m) (by rw [List.length_append, HP.out]; exact HM.out) (by omega) (by have := HR.out; omega)]; exact hy
      obtain ⟨⟨a1, a2⟩, a3, a4⟩ := blk_ent HW.out hMk
      obtain ⟨⟨b1, b2⟩, b3, b4⟩ := blk_ent HW.out hMm
      have hcmp := HC.out.cmp (x := y) (y := z) (List.mem_append_right _ (List.mem_of_getElem? hy)) (List.mem_append_left _ (List.mem_of_getElem? hz)) (grown_drew HG.out)
      obtain ⟨r, hr⟩ : ∃ r, cmpE os y.cs z.cs = r := ⟨_, rfl⟩
      rw [hr] at hcmp
      have HRR := Lib.hid hr
      have HZ := Lib.hid hz
      have HY := Lib.hid hy
      have hkn : (k : Int) < (n : Int) := by omega
      have hkkn : (kk : Int) < (n : Int) := by omega
      have hk0 : (0 : Int) ≤ (k : Int) := by omega
      have hkk0 : (0 : Int) ≤ (kk : Int) := by omega
      have hkw : IntKind.i64.wrap (kk : Int) = (kk : Int) := by
        have h := IntWalk.wrap64_in (kk : Int) ⟨by omega, by omega⟩
        first | exact h | (rw [wrap_eq]; exact h)
      clear hr hz hy hMk hMm hk hkk
      go_wp2
      go_still_tail 11, (by kernel_rfl)
      change wpList _ _ _ _ _ wr.drew
      by_cases hrn : r < 0
      · have hdr : decide (r < 0) = true := decide_eq_true hrn
        have HJ2 : Hid (k = mid ∨ ∃ x y, L[k - a]? = some x ∧ R[nn - 1 - k - m]? = some y ∧ ltE os y x = true) := .inr ⟨z, y, HZ.out, by rw [← HKK.out]; exact HY.out, ltE_t.2 (by rw [HRR.out]; exact hrn)⟩
        clear hrn
        go_wp2_with (fail)
        refine hcmp.mono ?_
        rintro _ wq ⟨rfl, hbq⟩
        have HWQ := Lib.hid (HW.out.drew.below hbq)
        have HGQ := Lib.hid (grown_below' (grown_drew HG.out) hbq)
        clear hcmp hbq a1 a2 a3 a4 b1 b2 b3 b4
        go_wp2
        go_roundw
        case rel => exact ⟨i, k, rfl, rfl, hai, hik, by omega, HI, HJ2, HWQ, HGQ⟩
        case measure => simp [intOf]; omega
      · have hdr : decide (r < 0) = false := decide_eq_false hrn
        have HI2 : Hid (k + 1 = lo ∨ ∃ x y, L[k + 1 - 1 - a]? = some x ∧ R[nn - (k + 1) - m]? = some y ∧ ltE os y x = false) := .inr ⟨z, y, HZ.out, by have := HKK.out; rw [show nn - (k + 1) = kk by omega]; exact HY.out, by unfold ltE; rw [HRR.out]; exact hdr⟩
        clear hrn
        go_wp2_with (fail)
        refine hcmp.mono ?_
        rintro _ wq ⟨rfl, hbq⟩
        have HWQ := Lib.hid (HW.out.drew.below hbq)
        have HGQ := Lib.hid (grown_below' (grown_drew HG.out) hbq)
        clear hcmp hbq a1 a2 a3 a4 b1 b2 b3 b4
        go_wp2
        go_roundw
        case rel => exact ⟨k + 1, j, by go_num, rfl, by omega, by omega, hjm, HI2, HJ, HWQ, HGQ⟩
        case measure => simp [intOf]; omega
    · obtain rfl : i = j := by omega
      obtain ⟨e, he⟩ : ∃ e : Nat, nn - i = e := ⟨_, rfl⟩
      have eE : (nn : Int) - (i : Int) = (e : Int) := by omega
      have hie : i + e = nn := by omega
      have hrange : a ≤ i ∧ i ≤ m ∧ m ≤ e ∧ e ≤ b ∧ i ≤ mid := by have := HNN.out; have := HLO.out; omega
      obtain ⟨r1, r2, r3, r4, r5⟩ := hrange
      have HMG : Hid (mergeE os L R = mergeE os (L.take (i - a)) (R.take (e - m)) ++ mergeE os (L.drop (i - a)) (R.drop (e - m))) := by
        unfold Hid
        refine mergeE_cut HOL.out HOR.out ?_ ?_
        · rcases HI.out with q | ⟨x, y, q1, q2, q3⟩
          · exact .inr (.inl (by have := HLO.out; have := HR.out; omega))
          · by_cases h0 : i - a = 0
            · exact .inl h0
            · exact .inr (.inr ⟨x, y, by rw [show i - a - 1 = i - 1 - a by omega]; exact q1, by rw [show e - m = nn - i - m by omega]; exact q2, q3⟩)
        · rcases HJ.out with q | ⟨x, y, q1, q2, q3⟩
          · exact .inl (by have := HNN.out; omega)
          · by_cases h0 : e - m = 0
            · exact .inl h0
            · exact .inr (.inr ⟨x, y, q1, by rw [show e - m - 1 = nn - 1 - i - m by omega]; exact q2, q3⟩)
      have hWL := (List.take_append_drop (i - a) L).symm
      have hWR := (List.take_append_drop (e - m) R).symm
      have hl1 : (L.take (i - a)).length = i - a := by rw [List.length_take]; have := HM.out; omega
      have hl2 : (L.drop (i - a)).length = m - i := by rw [List.length_drop]; have := HM.out; omega
      have hl3 : (R.take (e - m)).length = e - m := by rw [List.length_take]; have := HR.out; omega
      have hl4 : (R.drop (e - m)).length = b - e := by rw [List.length_drop]; have := HR.out; omega
      have hO1 : InOrd os (L.take (i - a)) := List.Pairwise.sublist (List.take_sublist _ _) HOL.out
      have hO3 : InOrd os (L.drop (i - a)) := List.Pairwise.sublist (List.drop_sublist _ _) HOL.out
      have hO2 : InOrd os (R.take (e - m)) := List.Pairwise.sublist (List.take_sublist _ _) HOR.out
      have hO4 : InOrd os (R.drop (e - m)) := List.Pairwise.sublist (List.drop_sublist _ _) HOR.out
      obtain ⟨L1, hL1⟩ : ∃ X, L.take (i - a) = X := ⟨_, rfl⟩
      obtain ⟨L2, hL2'⟩ : ∃ X, L.drop (i - a) = X := ⟨_, rfl⟩
      obtain ⟨R1, hR1'⟩ : ∃ X, R.take (e - m) = X := ⟨_, rfl⟩
      obtain ⟨R2, hR2'⟩ : ∃ X, R.drop (e - m) = X := ⟨_, rfl⟩
      rw [hL1] at hWL hl1 hO1 HMG
      rw [hL2'] at hWL hl2 hO3 HMG
      rw [hR1'] at hWR hl3 hO2 HMG
      rw [hR2'] at hWR hl4 hO4 HMG
      have HO1 := Lib.hid hO1
      have HO2 := Lib.hid hO2
      have HO3 := Lib.hid hO3
      have HO4 := Lib.hid hO4
      have HW0 : Hid (RowE wr g (P ++ L1 ++ L2 ++ R1 ++ R2 ++ S) post) := by unfold Hid; have := HW.out; rw [hWL, hWR] at this; simpa using this
      have HS1 : Hid (∀ x ∈ L1 ++ R1, x ∈ L ++ R) := by unfold Hid; intro x hx; rw [hWL, hWR]; rcases List.mem_append.1 hx with h | h <;> simp [h]
      have HS2 : Hid (∀ x ∈ L2 ++ R2, x ∈ L ++ R) := by unfold Hid; intro x hx; rw [hWL, hWR]; rcases List.mem_append.1 hx with h | h <;> simp [h]
      have HL : Hid (L1.length = i - a ∧ L2.length = m - i ∧ R1.length = e - m ∧ R2.length = b - e ∧ P.length = a ∧ b + S.length = n ∧ i + e = mid + m) := ⟨hl1, hl2, hl3, hl4, HP.out, HN.out, by have := HNN.out; omega⟩
      have hnn3 : mid + m = nn := HNN.out
      clear hWL hWR hl1 hl2 hl3 hl4 hO1 hO2 hO3 hO4 hL1 hL2' hR1' hR2' HI HJ HW HB HOL HOR hL2 hR2 he
      by_cases hA1 : i < m
      · have dA1 : decide (i < m) = true := decide_eq_true (by omega)
        have dC1 : decide (mid < e) = true := decide_eq_true (by omega)
        have hi1 : i < m := hA1
        have hc1 : mid < e := by omega
        by_cases hA2 : m < e
        · have dA2 : decide (m < e) = true := decide_eq_true (by omega)
          have dB2 : decide (i < mid) = true := decide_eq_true (by omega)
          have hi2 : m < e := hA2
          have hb2 : i < mid := by omega
          by_cases hB1 : a < i
          · have dB1 : decide (a < i) = true := decide_eq_true (by omega)
            have hb1 : a < i := hB1
            by_cases hC2 : e < b
            · have dC2 : decide (e < b) = true := decide_eq_true (by omega)
              have hc2 : e < b := hC2
              clear hA1 hA2 hB1 hC2
              have hC1 := rotate_ok g n c i m e (P ++ L1) L2 R1 (R2 ++ S) post (.func (.func 72) #[] #[.pointer (some ⟨bo, 0, none⟩)]) wr (by have := HW0.out; simpa using this) (by rw [List.length_append]; have := HL.out; omega) (by have := HL.out; omega) (by have := HL.out; omega) (by rw [List.length_append]; have := HL.out; omega) hi1 hi2 hnb
              go_wp2_with (fail)
              refine hC1.mono ?_
              rintro _ wa ⟨rfl, hra, hga⟩
              have HWA : Hid (RowE wa g (P ++ L1 ++ R1 ++ (L2 ++ R2 ++ S)) post) := by unfold Hid; simpa using hra
              have HGA := Lib.hid (grown_trans HG.out hga)
              clear hC1 hra hga
              have hC2 := IH a i mid P L1 R1 (L2 ++ R2 ++ S) wa (by omega) HWA.out HP.out (by have := HL.out; omega) (by have := HL.out; omega) (by rw [List.length_append, List.length_append]; have := HL.out; omega) hb1 hb2 HO1.out HO2.out (HC.out.grown HGA.out HS1.out)
              go_wp2_with (fail)
              refine hC2.mono ?_
              rintro _ wb ⟨rfl, hrb, hgb⟩
              have HWB : Hid (RowE wb g ((P ++ mergeE os L1 R1) ++ L2 ++ R2 ++ S) post) := by unfold Hid; simpa using hrb
              have HGB := Lib.hid (grown_trans HGA.out hgb)
              clear hC2 hrb hgb
              have hC3 := IH mid e b (P ++ mergeE os L1 R1) L2 R2 S wb (by omega) HWB.out (by rw [List.length_append, mergeE_length]; have := HL.out; omega) (by have := HL.out; omega) (by have := HL.out; omega) (by have := HL.out; omega) hc1 hc2 HO3.out HO4.out (HC.out.grown HGB.out HS2.out)
              go_wp2_with (fail)
              refine hC3.mono ?_
              rintro _ wc ⟨rfl, hrc, hgc⟩
              have HWC : Hid (RowE wc g (P ++ mergeE os L R ++ S) post) := by unfold Hid; rw [HMG.out]; simpa using hrc
              have HGC := Lib.hid (grown_trans HGB.out hgc)
              clear hC3 hrc hgc
              go_wp2_with (fail)
              go_end0
              exact ⟨rfl, HWC.out, HGC.out⟩
            · have dC2 : decide (e < b) = false := decide_eq_false (by omega)
              have hR2e : R2 = [] := List.eq_nil_of_length_eq_zero (by have := HL.out; omega)
              clear hA1 hA2 hB1 hC2
              have hC1 := rotate_ok g n c i m e (P ++ L1) L2 R1 (R2 ++ S) post (.func (.func 72) #[] #[.pointer (some ⟨bo, 0, none⟩)]) wr (by have := HW0.out; simpa using this) (by rw [List.length_append]; have := HL.out; omega) (by have := HL.out; omega) (by have := HL.out; omega) (by rw [List.length_append]; have := HL.out; omega) hi1 hi2 hnb
              go_wp2_with (fail)
              refine hC1.mono ?_
              rintro _ wa ⟨rfl, hra, hga⟩
              have HWA : Hid (RowE wa g (P ++ L1 ++ R1 ++ (L2 ++ R2 ++ S)) post) := by unfold Hid; simpa using hra
              have HGA := Lib.hid (grown_trans HG.out hga)
              clear hC1 hra hga
              have hC2 := IH a i mid P L1 R1 (L2 ++ R2 ++ S) wa (by omega) HWA.out HP.out (by have := HL.out; omega) (by have := HL.out; omega) (by rw [List.length_append, List.length_append]; have := HL.out; omega) hb1 hb2 HO1.out HO2.out (HC.out.grown HGA.out HS1.out)
              go_wp2_with (fail)
              refine hC2.mono ?_
              rintro _ wb ⟨rfl, hrb, hgb⟩
              have HWB : Hid (RowE wb g ((P ++ mergeE os L1 R1) ++ L2 ++ R2 ++ S) post) := by unfold Hid; simpa using hrb
              have HGB := Lib.hid (grown_trans HGA.out hgb)
              clear hC2 hrb hgb
              have hme : mergeE os L2 R2 = L2 ++ R2 := by rw [hR2e, mergeE_nil_right, List.append_nil]
              have HWC : Hid (RowE wb g (P ++ mergeE os L R ++ S) post) := by unfold Hid; rw [HMG.out, hme]; have := HWB.out; simpa using this
              have HGC := HGB
              clear hme
              go_wp2_with (fail)
              go_end0
              exact ⟨rfl, HWC.out, HGC.out⟩
          · have dB1 : decide (a < i) = false := decide_eq_false (by omega)
            have hL1e : L1 = [] := List.eq_nil_of_length_eq_zero (by have := HL.out; omega)
            by_cases hC2 : e < b
            · have dC2 : decide (e < b) = true := decide_eq_true (by omega)
              have hc2 : e < b := hC2
              clear hA1 hA2 hB1 hC2
              have hC1 := rotate_ok g n c i m e (P ++ L1) L2 R1 (R2 ++ S) post (.func (.func 72) #[] #[.pointer (some ⟨bo, 0, none⟩)]) wr (by have := HW0.out; simpa using this) (by rw [List.length_append]; have := HL.out; omega) (by have := HL.out; omega) (by have := HL.out; omega) (by rw [List.length_append]; have := HL.out; omega) hi1 hi2 hnb
              go_wp2_with (fail)
              refine hC1.mono ?_
              rintro _ wa ⟨rfl, hra, hga⟩
              have HWA : Hid (RowE wa g (P ++ L1 ++ R1 ++ (L2 ++ R2 ++ S)) post) := by unfold Hid; simpa using hra
              have HGA := Lib.hid (grown_trans HG.out hga)
              clear hC1 hra hga
              obtain ⟨wb, hwb⟩ : ∃ wb : World, wb = wa := ⟨_, rfl⟩
              have hme : mergeE os L1 R1 = L1 ++ R1 := by rw [hL1e, mergeE_nil_left, List.nil_append]
              have HWB : Hid (RowE wb g ((P ++ mergeE os L1 R1) ++ L2 ++ R2 ++ S) post) := by unfold Hid; rw [hwb, hme]; have := HWA.out; simpa using this
              have HGB : Hid (w.grownBy wb (some g)) := by unfold Hid; rw [hwb]; exact HGA.out
              clear hme
              subst hwb
              have hC3 := IH mid e b (P ++ mergeE os L1 R1) L2 R2 S wb (by omega) HWB.out (by rw [List.length_append, mergeE_length]; have := HL.out; omega) (by have := HL.out; omega) (by have := HL.out; omega) (by have := HL.out; omega) hc1 hc2 HO3.out HO4.out (HC.out.grown HGB.out HS2.out)
              go_wp2_with (fail)
              refine hC3.mono ?_
              rintro _ wc ⟨rfl, hrc, hgc⟩
              have HWC : Hid (RowE wc g (P ++ mergeE os L R ++ S) post) := by unfold Hid; rw [HMG.out]; simpa using hrc
              have HGC := Lib.hid (grown_trans HGB.out hgc)
              clear hC3 hrc hgc
              go_wp2_with (fail)
              go_end0
              exact ⟨rfl, HWC.out, HGC.out⟩
            · have dC2 : decide (e < b) = false := decide_eq_false (by omega)
              have hR2e : R2 = [] := List.eq_nil_of_length_eq_zero (by have := HL.out; omega)
              clear hA1 hA2 hB1 hC2
              have hC1 := rotate_ok g n c i m e (P ++ L1) L2 R1 (R2 ++ S) post (.func (.func 72) #[] #[.pointer (some ⟨bo, 0, none⟩)]) wr (by have := HW0.out; simpa using this) (by rw [List.length_append]; have := HL.out; omega) (by have := HL.out; omega) (by have := HL.out; omega) (by rw [List.length_append]; have := HL.out; omega) hi1 hi2 hnb
              go_wp2_with (fail)
              refine hC1.mono ?_
              rintro _ wa ⟨rfl, hra, hga⟩
              have HWA : Hid (RowE wa g (P ++ L1 ++ R1 ++ (L2 ++ R2 ++ S)) post) := by unfold Hid; simpa using hra
              have HGA := Lib.hid (grown_trans HG.out hga)
              clear hC1 hra hga
              obtain ⟨wb, hwb⟩ : ∃ wb : World, wb = wa := ⟨_, rfl⟩
              have hme : mergeE os L1 R1 = L1 ++ R1 := by rw [hL1e, mergeE_nil_left, List.nil_append]
              have HWB : Hid (RowE wb g ((P ++ mergeE os L1 R1) ++ L2 ++ R2 ++ S) post) := by unfold Hid; rw [hwb, hme]; have := HWA.out; simpa using this
              have HGB : Hid (w.grownBy wb (some g)) := by unfold Hid; rw [hwb]; exact HGA.out
              clear hme
              subst hwb
              have hme : mergeE os L2 R2 = L2 ++ R2 := by rw [hR2e, mergeE_nil_right, List.append_nil]
              have HWC : Hid (RowE wb g (P ++ mergeE os L R ++ S) post) := by unfold Hid; rw [HMG.out, hme]; have := HWB.out; simpa using this
              have HGC := HGB
              clear hme
              go_wp2_with (fail)
              go_end0
              exact ⟨rfl, HWC.out, HGC.out⟩
        · have dA2 : decide (m < e) = false := decide_eq_false (by omega)
          have dB2 : decide (i < mid) = false := decide_eq_false (by omega)
          have hR1 : R1 = [] := List.eq_nil_of_length_eq_zero (by have := HL.out; omega)
          by_cases hB1 : a < i
          · have dB1 : decide (a < i) = true := decide_eq_true (by omega)
            have hb1 : a < i := hB1
            by_cases hC2 : e < b
            · have dC2 : decide (e < b) = true := decide_eq_true (by omega)
              have hc2 : e < b := hC2
              clear hA1 hA2 hB1 hC2
              obtain ⟨wa, hwa⟩ : ∃ wa : World, wa = wr := ⟨_, rfl⟩
              have HWA : Hid (RowE wa g (P ++ L1 ++ R1 ++ (L2 ++ R2 ++ S)) post) := by unfold Hid; rw [hwa]; have := HW0.out; obtain rfl := hR1; simpa using this
              have HGA : Hid (w.grownBy wa (some g)) := by unfold Hid; rw [hwa]; exact HG.out
              subst hwa
              obtain ⟨wb, hwb⟩ : ∃ wb : World, wb = wa := ⟨_, rfl⟩
              have hme : mergeE os L1 R1 = L1 ++ R1 := by rw [hR1, mergeE_nil_right, List.append_nil]
              have HWB : Hid (RowE wb g ((P ++ mergeE os L1 R1) ++ L2 ++ R2 ++ S) post) := by unfold Hid; rw [hwb, hme]; have := HWA.out; simpa using this
              have HGB : Hid (w.grownBy wb (some g)) := by unfold Hid; rw [hwb]; exact HGA.out
              clear hme
              subst hwb
              have hC3 := IH mid e b (P ++ mergeE os L1 R1) L2 R2 S wb (by omega) HWB.out (by rw [List.length_append, mergeE_length]; have := HL.out; omega) (by have := HL.out; omega) (by have := HL.out; omega) (by have := HL.out; omega) hc1 hc2 HO3.out HO4.out (HC.out.grown HGB.out HS2.out)
              go_wp2_with (fail)
              refine hC3.mono ?_
              rintro _ wc ⟨rfl, hrc, hgc⟩
              have HWC : Hid (RowE wc g (P ++ mergeE os L R ++ S) post) := by unfold Hid; rw [HMG.out]; simpa using hrc
              have HGC := Lib.hid (grown_trans HGB.out hgc)
              clear hC3 hrc hgc
              go_wp2_with (fail)
              go_end0
              exact ⟨rfl, HWC.out, HGC.out⟩
            · have dC2 : decide (e < b) = false := decide_eq_false (by omega)
              have hR2e : R2 = [] := List.eq_nil_of_length_eq_zero (by have := HL.out; omega)
              clear hA1 hA2 hB1 hC2
              obtain ⟨wa, hwa⟩ : ∃ wa : World, wa = wr := ⟨_, rfl⟩
              have HWA : Hid (RowE wa g (P ++ L1 ++ R1 ++ (L2 ++ R2 ++ S)) post) := by unfold Hid; rw [hwa]; have := HW0.out; obtain rfl := hR1; simpa using this
              have HGA : Hid (w.grownBy wa (some g)) := by unfold Hid; rw [hwa]; exact HG.out
              subst hwa
              obtain ⟨wb, hwb⟩ : ∃ wb : World, wb = wa := ⟨_, rfl⟩
              have hme : mergeE os L1 R1 = L1 ++ R1 := by rw [hR1, mergeE_nil_right, List.append_nil]
              have HWB : Hid (RowE wb g ((P ++ mergeE os L1 R1) ++ L2 ++ R2 ++ S) post) := by unfold Hid; rw [hwb, hme]; have := HWA.out; simpa using this
              have HGB : Hid (w.grownBy wb (some g)) := by unfold Hid; rw [hwb]; exact HGA.out
              clear hme
              subst hwb
              have hme : mergeE os L2 R2 = L2 ++ R2 := by rw [hR2e, mergeE_nil_right, List.append_nil]
              have HWC : Hid (RowE wb g (P ++ mergeE os L R ++ S) post) := by unfold Hid; rw [HMG.out, hme]; have := HWB.out; simpa using this
              have HGC := HGB
              clear hme
              go_wp2_with (fail)
              go_end0
              exact ⟨rfl, HWC.out, HGC.out⟩
          · exfalso; omega
      · have dA1 : decide (i < m) = false := decide_eq_false (by omega)
        have dC1 : decide (mid < e) = false := decide_eq_false (by omega)
        have hL2 : L2 = [] := List.eq_nil_of_length_eq_zero (by have := HL.out; omega)
        by_cases hA2 : m < e
        · have dA2 : decide (m < e) = true := decide_eq_true (by omega)
          have dB2 : decide (i < mid) = true := decide_eq_true (by omega)
          have hi2 : m < e := hA2
          have hb2 : i < mid := by omega
          by_cases hB1 : a < i
          · have dB1 : decide (a < i) = true := decide_eq_true (by omega)
            have hb1 : a < i := hB1
            by_cases hC2 : e < b
            · have dC2 : decide (e < b) = true := decide_eq_true (by omega)
              have hc2 : e < b := hC2
              clear hA1 hA2 hB1 hC2
              obtain ⟨wa, hwa⟩ : ∃ wa : World, wa = wr := ⟨_, rfl⟩
              have HWA : Hid (RowE wa g (P ++ L1 ++ R1 ++ (L2 ++ R2 ++ S)) post) := by unfold Hid; rw [hwa]; have := HW0.out; obtain rfl := hL2; simpa using this
              have HGA : Hid (w.grownBy wa (some g)) := by unfold Hid; rw [hwa]; exact HG.out
              subst hwa
              have hC2 := IH a i mid P L1 R1 (L2 ++ R2 ++ S) wa (by omega) HWA.out HP.out (by have := HL.out; omega) (by have := HL.out; omega) (by rw [List.length_append, List.length_append]; have := HL.out; omega) hb1 hb2 HO1.out HO2.out (HC.out.grown HGA.out HS1.out)
              go_wp2_with (fail)
              refine hC2.mono ?_
              rintro _ wb ⟨rfl, hrb, hgb⟩
              have HWB : Hid (RowE wb g ((P ++ mergeE os L1 R1) ++ L2 ++ R2 ++ S) post) := by unfold Hid; simpa using hrb
              have HGB := Lib.hid (grown_trans HGA.out hgb)
              clear hC2 hrb hgb
              have hme : mergeE os L2 R2 = L2 ++ R2 := by rw [hL2, mergeE_nil_left, List.nil_append]
              have HWC : Hid (RowE wb g (P ++ mergeE os L R ++ S) post) := by unfold Hid; rw [HMG.out, hme]; have := HWB.out; simpa using this
              have HGC := HGB
              clear hme
              go_wp2_with (fail)
              go_end0
              exact ⟨rfl, HWC.out, HGC.out⟩
            · exfalso; omega
          · have dB1 : decide (a < i) = false := decide_eq_false (by omega)
            have hL1e : L1 = [] := List.eq_nil_of_length_eq_zero (by have := HL.out; omega)
            by_cases hC2 : e < b
            · have dC2 : decide (e < b) = true := decide_eq_true (by omega)
              have hc2 : e < b := hC2
              clear hA1 hA2 hB1 hC2
              obtain ⟨wa, hwa⟩ : ∃ wa : World, wa = wr := ⟨_, rfl⟩
              have HWA : Hid (RowE wa g (P ++ L1 ++ R1 ++ (L2 ++ R2 ++ S)) post) := by unfold Hid; rw [hwa]; have := HW0.out; obtain rfl := hL2; simpa using this
              have HGA : Hid (w.grownBy wa (some g)) := by unfold Hid; rw [hwa]; exact HG.out
              subst hwa
              obtain ⟨wb, hwb⟩ : ∃ wb : World, wb = wa := ⟨_, rfl⟩
              have hme : mergeE os L1 R1 = L1 ++ R1 := by rw [hL1e, mergeE_nil_left, List.nil_append]
              have HWB : Hid (RowE wb g ((P ++ mergeE os L1 R1) ++ L2 ++ R2 ++ S) post) := by unfold Hid; rw [hwb, hme]; have := HWA.out; simpa using this
              have HGB : Hid (w.grownBy wb (some g)) := by unfold Hid; rw [hwb]; exact HGA.out
              clear hme
              subst hwb
              have hme : mergeE os L2 R2 = L2 ++ R2 := by rw [hL2, mergeE_nil_left, List.nil_append]
              have HWC : Hid (RowE wb g (P ++ mergeE os L R ++ S) post) := by unfold Hid; rw [HMG.out, hme]; have := HWB.out; simpa using this
              have HGC := HGB
              clear hme
              go_wp2_with (fail)
              go_end0
              exact ⟨rfl, HWC.out, HGC.out⟩
            · exfalso; omega
        · have dA2 : decide (m < e) = false := decide_eq_false (by omega)
          have dB2 : decide (i < mid) = false := decide_eq_false (by omega)
          have hR1 : R1 = [] := List.eq_nil_of_length_eq_zero (by have := HL.out; omega)
          by_cases hB1 : a < i
          · have dB1 : decide (a < i) = true := decide_eq_true (by omega)
            have hb1 : a < i := hB1
            by_cases hC2 : e < b
            · have dC2 : decide (e < b) = true := decide_eq_true (by omega)
              have hc2 : e < b := hC2
              clear hA1 hA2 hB1 hC2
              obtain ⟨wa, hwa⟩ : ∃ wa : World, wa = wr := ⟨_, rfl⟩
              have HWA : Hid (RowE wa g (P ++ L1 ++ R1 ++ (L2 ++ R2 ++ S)) post) := by unfold Hid; rw [hwa]; have := HW0.out; obtain rfl := hL2; simpa using this
              have HGA : Hid (w.grownBy wa (some g)) := by unfold Hid; rw [hwa]; exact HG.out
              subst hwa
              obtain ⟨wb, hwb⟩ : ∃ wb : World, wb = wa := ⟨_, rfl⟩
              have hme : mergeE os L1 R1 = L1 ++ R1 := by rw [hR1, mergeE_nil_right, List.append_nil]
              have HWB : Hid (RowE wb g ((P ++ mergeE os L1 R1) ++ L2 ++ R2 ++ S) post) := by unfold Hid; rw [hwb, hme]; have := HWA.out; simpa using this
              have HGB : Hid (w.grownBy wb (some g)) := by unfold Hid; rw [hwb]; exact HGA.out
              clear hme
              subst hwb
              have hme : mergeE os L2 R2 = L2 ++ R2 := by rw [hL2, mergeE_nil_left, List.nil_append]
              have HWC : Hid (RowE wb g (P ++ mergeE os L R ++ S) post) := by unfold Hid; rw [HMG.out, hme]; have := HWB.out; simpa using this
              have HGC := HGB
              clear hme
              go_wp2_with (fail)
              go_end0
              exact ⟨rfl, HWC.out, HGC.out⟩
            · exfalso; omega
          · exfalso; omega
end Go.Proofs.Ytpfabbapfmfmmaa
