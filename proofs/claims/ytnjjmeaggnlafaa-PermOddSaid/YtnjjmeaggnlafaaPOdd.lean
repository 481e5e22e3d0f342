/- purflelaw03.PermOdd returns true at every input, and nothing that lay there has turned. -/
import Derived.Test.YtnjjmeaggnlafaaPLawsB
import Derived.Test.YtnjjmeaggnlafaaPOddM
import Derived.RegionTactic
namespace Go.Proofs.Ytnjjmeaggnlafaa
open Go.RowKit

/-- a place that a statement makes out of any number -/
theorem smallN (a : Int) (n : Nat) (hn : 0 < n) : ∃ (t : Int) (v : Nat), a.tmod (n : Int) = t ∧ -(n : Int) < t ∧ t < n ∧ (t + n) % (n : Int) = (v : Int) ∧ v < n := by
  have h1 := Int.lt_tmod_of_pos a (b := (n : Int)) (by omega)
  have h2 := Int.tmod_lt_of_pos a (b := (n : Int)) (by omega)
  have h3 := Int.emod_nonneg (a.tmod n + n) (b := (n : Int)) (by omega)
  have h4 := Int.emod_lt_of_pos (a.tmod n + n) (b := (n : Int)) (by omega)
  exact ⟨_, ((a.tmod n + n) % (n : Int)).toNat, rfl, h1, h2, by omega, by omega⟩

set_option maxRecDepth 100000 in
set_option maxHeartbeats 8000000 in
theorem permOdd_short (w : World) (A0 : Option Addr) (n c0 : Nat) (p : List Int) (I0 : Ints w w.heap.size A0 n p) (hn : n ≤ 9223372036854775807) (hc0 : n ≤ c0) (A1 : Option Addr) (c1 : Nat) (q : List Int) (I1 : Ints w w.heap.size A1 n q) (hm : n ≤ 9223372036854775807) (hc1 : n ≤ c1)
    (i : Int) (_hi1 : -9223372036854775808 ≤ i) (_hi2 : i ≤ 9223372036854775807) (k : Int) (_hk1 : -9223372036854775808 ≤ k) (_hk2 : k ≤ 9223372036854775807)
    (HFB : Hid (fewB [n, n] = true)) (HP : Hid (Perm_ p)) (HQ : Hid (Perm_ q)) (h2 : n < 2) :
    Calls Try.prog 7 #[.slice A0 n c0, .slice A1 n c1, .int .i64 i, .int .i64 k] w fun e w' => e = .returned (.bool true) ∧ Below w.heap.size w w' := by
  have HB : Below w.heap.size w w := Below.refl _ _
  have HPQ : Hid (Perm_ (turnL p q)) := perm_turn HP.out HQ.out (by rw [I0.1, I1.1])
  have HIP : Hid (Perm_ (invL p)) := perm_inv HP.out
  have h12 : n ≤ 12 := by rw [← I0.1]; exact HP.out.len
  have g1 : ((n : Int) == (n : Int)) = true := by simp
  have g2 : ((n : Int) != (n : Int)) = false := by simp
  obtain ⟨B0, hB0⟩ : ∃ B0, oddB p = B0 := ⟨_, rfl⟩
  obtain ⟨B1, hB1⟩ : ∃ B1, oddB q = B1 := ⟨_, rfl⟩
  obtain ⟨B2, hB2⟩ : ∃ B2, oddB (turnL p q) = B2 := ⟨_, rfl⟩
  have hB3 : oddB (invL p) = B0 := by rw [oddB_inv HP.out]; exact hB0
  have hx : B2 = (B0 != B1) := by rw [← hB2, oddB_turn HP.out HQ.out (by rw [I0.1, I1.1]), hB0, hB1]
  have hs : B0 = false := by rw [← hB0]; exact oddB_short (by rw [I0.1]; exact h2)
  have HB0 := Lib.hid hB0
  have HB1 := Lib.hid hB1
  have HB2 := Lib.hid hB2
  have HB3 := Lib.hid hB3
  clear hB0 hB1 hB2 hB3
  subst hs
  have hd : decide ((n : Int) < 2) = true := by simp; omega
  cases B1 <;> cases B2 <;> first | (exact absurd hx (by decide)) | clear hx
  all_goals
    go_enter Try.func7, Try.ntmps7
    go_wp2_with fail
    refine (lawLive_any _).mono ?_
    rintro e w1 ⟨rfl, hb⟩
    replace I0 := (I0.below hb).more hb.size
    replace I1 := (I1.below hb).more hb.size
    replace HB := HB.trans (hb.mono HB.size)
    clear hb
    go_wp2_with fail
    refine (few2_s A0 A1 n n c0 c1 _ true hn hm HFB.out).mono ?_
    rintro e w2 ⟨rfl, hb⟩
    replace I0 := (I0.below hb).more hb.size
    replace I1 := (I1.below hb).more hb.size
    replace HB := HB.trans (hb.mono HB.size)
    clear hb
    go_wp2_with fail
    refine (check_s A0 n c0 p _ I0 hn HP.out).mono ?_
    rintro e w3 ⟨rfl, hb⟩
    replace I0 := (I0.below hb).more hb.size
    replace I1 := (I1.below hb).more hb.size
    replace HB := HB.trans (hb.mono HB.size)
    clear hb
    go_wp2_with fail
    refine (check_s A1 n c1 q _ I1 hm HQ.out).mono ?_
    rintro e w4 ⟨rfl, hb⟩
    replace I0 := (I0.below hb).more hb.size
    replace I1 := (I1.below hb).more hb.size
    replace HB := HB.trans (hb.mono HB.size)
    clear hb
    go_wp2_with fail
    refine (odd_s A0 n c0 p _ _ I0 HP.out hc0 HB0.out).mono ?_
    rintro e w5 ⟨rfl, hb⟩
    replace I0 := (I0.below hb).more hb.size
    replace I1 := (I1.below hb).more hb.size
    replace HB := HB.trans (hb.mono HB.size)
    clear hb
    go_wp2_with fail
    refine (odd_s A1 n c1 q _ _ I1 HQ.out hc1 HB1.out).mono ?_
    rintro e w6 ⟨rfl, hb⟩
    replace I0 := (I0.below hb).more hb.size
    replace I1 := (I1.below hb).more hb.size
    replace HB := HB.trans (hb.mono HB.size)
    clear hb
    go_wp2_with fail
    refine (after_s A1 A0 n c1 c0 p q _ I0 I1 HP.out HQ.out).mono ?_
    rintro e w7 ⟨A3, c3, rfl, I3, k3, hb⟩
    replace I0 := (I0.below hb).more hb.size
    replace I1 := (I1.below hb).more hb.size
    replace HB := HB.trans (hb.mono HB.size)
    clear hb
    go_wp2_with fail
    refine (odd_s A3 n c3 (turnL p q) _ _ I3 HPQ.out k3 HB2.out).mono ?_
    rintro e w8 ⟨rfl, hb⟩
    replace I0 := (I0.below hb).more hb.size
    replace I1 := (I1.below hb).more hb.size
    replace I3 := (I3.below hb).more hb.size
    replace HB := HB.trans (hb.mono HB.size)
    clear hb
    go_wp2_with fail
    refine (inv_s A0 n c0 p _ I0 HP.out).mono ?_
    rintro e w9 ⟨A4, c4, rfl, I4, k4, hb⟩
    replace I0 := (I0.below hb).more hb.size
    replace I1 := (I1.below hb).more hb.size
    replace I3 := (I3.below hb).more hb.size
    replace HB := HB.trans (hb.mono HB.size)
    clear hb
    go_wp2_with fail
    refine (odd_s A4 n c4 (invL p) _ _ I4 HIP.out k4 HB3.out).mono ?_
    rintro e w10 ⟨rfl, hb⟩
    replace I0 := (I0.below hb).more hb.size
    replace I1 := (I1.below hb).more hb.size
    replace I3 := (I3.below hb).more hb.size
    replace I4 := (I4.below hb).more hb.size
    replace HB := HB.trans (hb.mono HB.size)
    clear hb
    go_wp2_with fail
    go_ret
    exact ⟨rfl, HB⟩

set_option maxRecDepth 100000 in
set_option maxHeartbeats 8000000 in
theorem permOdd_swap (w : World) (A0 : Option Addr) (n c0 : Nat) (p : List Int) (I0 : Ints w w.heap.size A0 n p) (hn : n ≤ 9223372036854775807) (hc0 : n ≤ c0) (A1 : Option Addr) (c1 : Nat) (q : List Int) (I1 : Ints w w.heap.size A1 n q) (hm : n ≤ 9223372036854775807) (hc1 : n ≤ c1)
    (i k : Int) (HFB : Hid (fewB [n, n] = true)) (HP : Hid (Perm_ p)) (HQ : Hid (Perm_ q)) (h2 : 2 ≤ n)
    (B0 B1 B2 : Bool) (HB0 : Hid (oddB p = B0)) (HB1 : Hid (oddB q = B1)) (HB2 : Hid (oddB (turnL p q) = B2)) (HB3 : Hid (oddB (invL p) = B0)) (hx : B2 = (B0 != B1))
    (ti : Int) (vi : Nat) (ht : i.tmod (n : Int) = ti) (ht1 : -(n : Int) < ti) (ht2 : ti < n) (hv : (ti + n) % (n : Int) = (vi : Int)) (hvi : vi < n)
    (tk : Int) (vk : Nat) (hu : k.tmod (n : Int) = tk) (hu1 : -(n : Int) < tk) (hu2 : tk < n) (hw : (tk + n) % (n : Int) = (vk : Int)) (hvk : vk < n) (hik : ¬ vi = vk) (e1 : ((vi : Int) == (vk : Int)) = false) :
    Calls Try.prog 7 #[.slice A0 n c0, .slice A1 n c1, .int .i64 i, .int .i64 k] w fun e w' => e = .returned (.bool true) ∧ Below w.heap.size w w' := by
  have HB : Below w.heap.size w w := Below.refl _ _
  have HPQ : Hid (Perm_ (turnL p q)) := perm_turn HP.out HQ.out (by rw [I0.1, I1.1])
  have HIP : Hid (Perm_ (invL p)) := perm_inv HP.out
  have h12 : n ≤ 12 := by rw [← I0.1]; exact HP.out.len
  have g1 : ((n : Int) == (n : Int)) = true := by simp
  have g2 : ((n : Int) != (n : Int)) = false := by simp
  have hd : decide ((n : Int) < 2) = false := by simp; omega
  have hn0 : ¬ (n : Int) = 0 := by omega
  obtain ⟨x, hx0⟩ : ∃ x, p[vi]? = some x := ⟨_, List.getElem?_eq_getElem (by rw [I0.1]; exact hvi)⟩
  obtain ⟨y, hy0⟩ : ∃ y, p[vk]? = some y := ⟨_, List.getElem?_eq_getElem (by rw [I0.1]; exact hvk)⟩
  have HSW := Lib.hid (odd_swap HP.out hx0 hy0 hik)
  have hxb := I0.2.1 x (List.mem_of_getElem? hx0)
  have hyb := I0.2.1 y (List.mem_of_getElem? hy0)
  have HX := Lib.hid hx0
  have HY := Lib.hid hy0
  have HLp : Hid (p.length = n) := I0.1
  obtain ⟨i0, hi0, hz0, hz1, hz2⟩ := info_parts infoInt
  have HNE := Lib.hid hik
  have hvi0 : (vi : Int) < n := by omega
  have hvk0 : (vk : Int) < n := by omega
  obtain ⟨B4, hB4⟩ : ∃ B4, oddB ((p.set vi y).set vk x) = B4 := ⟨_, rfl⟩
  have hz : B4 = !B0 := by rw [← hB4, HSW.out.2, HB0.out]
  have HSW2 := Lib.hid hB4
  clear hx0 hy0 hik hB4
  cases B0 <;> cases B1 <;> cases B2 <;> cases B4 <;> first | (exact absurd hx (by decide)) | (exact absurd hz (by decide)) | clear hx hz
  all_goals
    go_enter Try.func7, Try.ntmps7
    go_wp2_with fail
    refine (lawLive_any _).mono ?_
    rintro e w1 ⟨rfl, hb⟩
    replace I0 := (I0.below hb).more hb.size
    replace I1 := (I1.below hb).more hb.size
    replace HB := HB.trans (hb.mono HB.size)
    clear hb
    go_wp2_with fail
    refine (few2_s A0 A1 n n c0 c1 _ true hn hm HFB.out).mono ?_
    rintro e w2 ⟨rfl, hb⟩
    replace I0 := (I0.below hb).more hb.size
    replace I1 := (I1.below hb).more hb.size
    replace HB := HB.trans (hb.mono HB.size)
    clear hb
    go_wp2_with fail
    refine (check_s A0 n c0 p _ I0 hn HP.out).mono ?_
    rintro e w3 ⟨rfl, hb⟩
    replace I0 := (I0.below hb).more hb.size
    replace I1 := (I1.below hb).more hb.size
    replace HB := HB.trans (hb.mono HB.size)
    clear hb
    go_wp2_with fail
    refine (check_s A1 n c1 q _ I1 hm HQ.out).mono ?_
    rintro e w4 ⟨rfl, hb⟩
    replace I0 := (I0.below hb).more hb.size
    replace I1 := (I1.below hb).more hb.size
    replace HB := HB.trans (hb.mono HB.size)
    clear hb
    go_wp2_with fail
    refine (odd_s A0 n c0 p _ _ I0 HP.out hc0 HB0.out).mono ?_
    rintro e w5 ⟨rfl, hb⟩
    replace I0 := (I0.below hb).more hb.size
    replace I1 := (I1.below hb).more hb.size
    replace HB := HB.trans (hb.mono HB.size)
    clear hb
    go_wp2_with fail
    refine (odd_s A1 n c1 q _ _ I1 HQ.out hc1 HB1.out).mono ?_
    rintro e w6 ⟨rfl, hb⟩
    replace I0 := (I0.below hb).more hb.size
    replace I1 := (I1.below hb).more hb.size
    replace HB := HB.trans (hb.mono HB.size)
    clear hb
    go_wp2_with fail
    refine (after_s A1 A0 n c1 c0 p q _ I0 I1 HP.out HQ.out).mono ?_
    rintro e w7 ⟨A3, c3, rfl, I3, k3, hb⟩
    replace I0 := (I0.below hb).more hb.size
    replace I1 := (I1.below hb).more hb.size
    replace HB := HB.trans (hb.mono HB.size)
    clear hb
    go_wp2_with fail
    refine (odd_s A3 n c3 (turnL p q) _ _ I3 HPQ.out k3 HB2.out).mono ?_
    rintro e w8 ⟨rfl, hb⟩
    replace I0 := (I0.below hb).more hb.size
    replace I1 := (I1.below hb).more hb.size
    replace I3 := (I3.below hb).more hb.size
    replace HB := HB.trans (hb.mono HB.size)
    clear hb
    go_wp2_with fail
    refine (inv_s A0 n c0 p _ I0 HP.out).mono ?_
    rintro e w9 ⟨A4, c4, rfl, I4, k4, hb⟩
    replace I0 := (I0.below hb).more hb.size
    replace I1 := (I1.below hb).more hb.size
    replace I3 := (I3.below hb).more hb.size
    replace HB := HB.trans (hb.mono HB.size)
    clear hb
    go_wp2_with fail
    refine (odd_s A4 n c4 (invL p) _ _ I4 HIP.out k4 HB3.out).mono ?_
    rintro e w10 ⟨rfl, hb⟩
    replace I0 := (I0.below hb).more hb.size
    replace I1 := (I1.below hb).more hb.size
    replace I3 := (I3.below hb).more hb.size
    replace I4 := (I4.below hb).more hb.size
    replace HB := HB.trans (hb.mono HB.size)
    clear hb
    have HI0 := Lib.hid I0
    go_wp2_with (at_builtin; refine wpList_appendInts _ rfl (.const (.slice none 0 0)) (.tmp 146) 22 rfl _ 3 i0 Try.underlying22 hi0 hz0 hz1 hz2 none A0 0 n c0 _ 0 n [] p rfl rfl (OwnI.nil_ _ _ _) rfl (Nat.zero_add _) HI0.out (by omega) (Nat.le_refl _) ?_; intro A5 c5 wt HO5 HG5)
    rw [List.nil_append] at HO5
    have hb := below_of_none HG5
    obtain ⟨g, rfl, hg1, hg2⟩ := HO5.some_ (by rw [HLp.out]; omega)
    obtain ⟨hcx, hfx⟩ := HO5.cell_ HX.out
    obtain ⟨hcy, hfy⟩ := HO5.cell_ HY.out
    have hbs := HB.size
    replace HB := HB.trans (hb.mono HB.size)
    have HO := Lib.hid HO5
    have HBH := Lib.hid HB
    clear hb HG5 HO5 HB I0 I1 I3 I4 HI0
    have s1 : (wt.setCell ⟨g, vi, none⟩ (.int .i64 y)).drew.cell? ⟨g, vk, none⟩ = some (.int .i64 y) := (World.cell?_setCell_other wt _ ⟨g, vk, none⟩ _ (fun e => HNE.out (by injection e))).trans hcy
    have s2 : (wt.setCell ⟨g, vi, none⟩ (.int .i64 y)).drew.frozen? ⟨g, vk, none⟩ = false := by rw [frozen_drew_own, World.frozen?_setCell]; exact hfy
    go_wp2
    go_region
    go_wp2_with fail
    have HO6 := ((HO.out.set_ vi y hyb).set_ vk x hxb).drew
    have hI := HO6.ints
    have hcap := HO6.len_cap
    have HB7 := ((HBH.out.setCell (p := ⟨g, vi, none⟩) (Nat.le_trans hbs hg1) (.int .i64 y)).setCell (p := ⟨g, vk, none⟩) (Nat.le_trans hbs hg1) (.int .i64 x)).drew
    rw [List.length_set, List.length_set, HLp.out] at hI hcap
    clear HO6
    refine (odd_s _ n c5 ((p.set vi y).set vk x) _ _ hI HSW.out.1 hcap HSW2.out).mono ?_
    rintro e w11 ⟨rfl, hb⟩
    have HB := HB7.trans (hb.mono HB7.size)
    clear hb HB7 hI
    go_wp2_with fail
    go_ret
    exact ⟨rfl, HB⟩

set_option maxRecDepth 100000 in
set_option maxHeartbeats 8000000 in
theorem permOdd_long (w : World) (A0 : Option Addr) (n c0 : Nat) (p : List Int) (I0 : Ints w w.heap.size A0 n p) (hn : n ≤ 9223372036854775807) (hc0 : n ≤ c0) (A1 : Option Addr) (c1 : Nat) (q : List Int) (I1 : Ints w w.heap.size A1 n q) (hm : n ≤ 9223372036854775807) (hc1 : n ≤ c1)
    (i : Int) (_hi1 : -9223372036854775808 ≤ i) (_hi2 : i ≤ 9223372036854775807) (k : Int) (_hk1 : -9223372036854775808 ≤ k) (_hk2 : k ≤ 9223372036854775807)
    (HFB : Hid (fewB [n, n] = true)) (HP : Hid (Perm_ p)) (HQ : Hid (Perm_ q)) (h2 : 2 ≤ n) :
    Calls Try.prog 7 #[.slice A0 n c0, .slice A1 n c1, .int .i64 i, .int .i64 k] w fun e w' => e = .returned (.bool true) ∧ Below w.heap.size w w' := by
  have HB : Below w.heap.size w w := Below.refl _ _
  have HPQ : Hid (Perm_ (turnL p q)) := perm_turn HP.out HQ.out (by rw [I0.1, I1.1])
  have HIP : Hid (Perm_ (invL p)) := perm_inv HP.out
  have h12 : n ≤ 12 := by rw [← I0.1]; exact HP.out.len
  have g1 : ((n : Int) == (n : Int)) = true := by simp
  have g2 : ((n : Int) != (n : Int)) = false := by simp
  obtain ⟨B0, hB0⟩ : ∃ B0, oddB p = B0 := ⟨_, rfl⟩
  obtain ⟨B1, hB1⟩ : ∃ B1, oddB q = B1 := ⟨_, rfl⟩
  obtain ⟨B2, hB2⟩ : ∃ B2, oddB (turnL p q) = B2 := ⟨_, rfl⟩
  have hB3 : oddB (invL p) = B0 := by rw [oddB_inv HP.out]; exact hB0
  have hx : B2 = (B0 != B1) := by rw [← hB2, oddB_turn HP.out HQ.out (by rw [I0.1, I1.1]), hB0, hB1]
  have HB0 := Lib.hid hB0
  have HB1 := Lib.hid hB1
  have HB2 := Lib.hid hB2
  have HB3 := Lib.hid hB3
  clear hB0 hB1 hB2 hB3
  have hd : decide ((n : Int) < 2) = false := by simp; omega
  have hn0 : ¬ (n : Int) = 0 := by omega
  obtain ⟨ti, vi, ht, ht1, ht2, hv, hvi⟩ := smallN i n (by omega)
  obtain ⟨tk, vk, hu, hu1, hu2, hw, hvk⟩ := smallN k n (by omega)
  by_cases hik : vi = vk
  · subst hik
    have e1 : ((vi : Int) == (vi : Int)) = true := by simp
    cases B0 <;> cases B1 <;> cases B2 <;> first | (exact absurd hx (by decide)) | clear hx
    all_goals
      go_enter Try.func7, Try.ntmps7
      go_wp2_with fail
      refine (lawLive_any _).mono ?_
      rintro e w1 ⟨rfl, hb⟩
      replace I0 := (I0.below hb).more hb.size
      replace I1 := (I1.below hb).more hb.size
      replace HB := HB.trans (hb.mono HB.size)
      clear hb
      go_wp2_with fail
      refine (few2_s A0 A1 n n c0 c1 _ true hn hm HFB.out).mono ?_
      rintro e w2 ⟨rfl, hb⟩
      replace I0 := (I0.below hb).more hb.size
      replace I1 := (I1.below hb).more hb.size
      replace HB := HB.trans (hb.mono HB.size)
      clear hb
      go_wp2_with fail
      refine (check_s A0 n c0 p _ I0 hn HP.out).mono ?_
      rintro e w3 ⟨rfl, hb⟩
      replace I0 := (I0.below hb).more hb.size
      replace I1 := (I1.below hb).more hb.size
      replace HB := HB.trans (hb.mono HB.size)
      clear hb
      go_wp2_with fail
      refine (check_s A1 n c1 q _ I1 hm HQ.out).mono ?_
      rintro e w4 ⟨rfl, hb⟩
      replace I0 := (I0.below hb).more hb.size
      replace I1 := (I1.below hb).more hb.size
      replace HB := HB.trans (hb.mono HB.size)
      clear hb
      go_wp2_with fail
      refine (odd_s A0 n c0 p _ _ I0 HP.out hc0 HB0.out).mono ?_
      rintro e w5 ⟨rfl, hb⟩
      replace I0 := (I0.below hb).more hb.size
      replace I1 := (I1.below hb).more hb.size
      replace HB := HB.trans (hb.mono HB.size)
      clear hb
      go_wp2_with fail
      refine (odd_s A1 n c1 q _ _ I1 HQ.out hc1 HB1.out).mono ?_
      rintro e w6 ⟨rfl, hb⟩
      replace I0 := (I0.below hb).more hb.size
      replace I1 := (I1.below hb).more hb.size
      replace HB := HB.trans (hb.mono HB.size)
      clear hb
      go_wp2_with fail
      refine (after_s A1 A0 n c1 c0 p q _ I0 I1 HP.out HQ.out).mono ?_
      rintro e w7 ⟨A3, c3, rfl, I3, k3, hb⟩
      replace I0 := (I0.below hb).more hb.size
      replace I1 := (I1.below hb).more hb.size
      replace HB := HB.trans (hb.mono HB.size)
      clear hb
      go_wp2_with fail
      refine (odd_s A3 n c3 (turnL p q) _ _ I3 HPQ.out k3 HB2.out).mono ?_
      rintro e w8 ⟨rfl, hb⟩
      replace I0 := (I0.below hb).more hb.size
      replace I1 := (I1.below hb).more hb.size
      replace I3 := (I3.below hb).more hb.size
      replace HB := HB.trans (hb.mono HB.size)
      clear hb
      go_wp2_with fail
      refine (inv_s A0 n c0 p _ I0 HP.out).mono ?_
      rintro e w9 ⟨A4, c4, rfl, I4, k4, hb⟩
      replace I0 := (I0.below hb).more hb.size
      replace I1 := (I1.below hb).more hb.size
      replace I3 := (I3.below hb).more hb.size
      replace HB := HB.trans (hb.mono HB.size)
      clear hb
      go_wp2_with fail
      refine (odd_s A4 n c4 (invL p) _ _ I4 HIP.out k4 HB3.out).mono ?_
      rintro e w10 ⟨rfl, hb⟩
      replace I0 := (I0.below hb).more hb.size
      replace I1 := (I1.below hb).more hb.size
      replace I3 := (I3.below hb).more hb.size
      replace I4 := (I4.below hb).more hb.size
      replace HB := HB.trans (hb.mono HB.size)
      clear hb
      go_wp2_with fail
      go_ret
      exact ⟨rfl, HB⟩
  · have e1 : ((vi : Int) == (vk : Int)) = false := by simp; omega
    exact permOdd_swap w A0 n c0 p I0 hn hc0 A1 c1 q I1 hm hc1 i k HFB HP HQ h2 B0 B1 B2 HB0 HB1 HB2 HB3 hx ti vi ht ht1 ht2 hv hvi tk vk hu hu1 hu2 hw hvk hik e1

set_option maxRecDepth 100000 in
set_option maxHeartbeats 8000000 in
theorem permOdd_any (w : World) (A0 : Option Addr) (n c0 : Nat) (p : List Int) (I0 : Ints w w.heap.size A0 n p) (hn : n ≤ 9223372036854775807) (hc0 : n ≤ c0) (A1 : Option Addr) (m c1 : Nat) (q : List Int) (I1 : Ints w w.heap.size A1 m q) (hm : m ≤ 9223372036854775807) (hc1 : m ≤ c1)
    (i : Int) (_hi1 : -9223372036854775808 ≤ i) (_hi2 : i ≤ 9223372036854775807) (k : Int) (_hk1 : -9223372036854775808 ≤ k) (_hk2 : k ≤ 9223372036854775807) :
    Calls Try.prog 7 #[.slice A0 n c0, .slice A1 m c1, .int .i64 i, .int .i64 k] w fun e w' => e = .returned (.bool true) ∧ Below w.heap.size w w' := by
  have HB : Below w.heap.size w w := Below.refl _ _
  obtain ⟨fb, hfb⟩ : ∃ fb, fewB [n, m] = fb := ⟨_, rfl⟩
  have HFB := Lib.hid hfb
  clear hfb
  cases fb
  · have T : True := trivial
    go_enter Try.func7, Try.ntmps7
    go_wp2_with fail
    refine (lawLive_any _).mono ?_
    rintro e w1 ⟨rfl, hb⟩
    replace I0 := (I0.below hb).more hb.size
    replace I1 := (I1.below hb).more hb.size
    replace HB := HB.trans (hb.mono HB.size)
    clear hb
    go_wp2_with fail
    refine (few2_s A0 A1 n m c0 c1 _ false hn hm HFB.out).mono ?_
    rintro e w2 ⟨rfl, hb⟩
    replace I0 := (I0.below hb).more hb.size
    replace I1 := (I1.below hb).more hb.size
    replace HB := HB.trans (hb.mono HB.size)
    clear hb
    go_wp2_with fail
    go_ret
    exact ⟨rfl, HB⟩
  · by_cases h : ¬ Perm_ p
    · have HP := Lib.hid h
      clear h
      go_enter Try.func7, Try.ntmps7
      go_wp2_with fail
      refine (lawLive_any _).mono ?_
      rintro e w1 ⟨rfl, hb⟩
      replace I0 := (I0.below hb).more hb.size
      replace I1 := (I1.below hb).more hb.size
      replace HB := HB.trans (hb.mono HB.size)
      clear hb
      go_wp2_with fail
      refine (few2_s A0 A1 n m c0 c1 _ true hn hm HFB.out).mono ?_
      rintro e w2 ⟨rfl, hb⟩
      replace I0 := (I0.below hb).more hb.size
      replace I1 := (I1.below hb).more hb.size
      replace HB := HB.trans (hb.mono HB.size)
      clear hb
      go_wp2_with fail
      refine (check_n A0 n c0 p _ I0 hn HP.out).mono ?_
      rintro e w3 ⟨rfl, hb⟩
      replace I0 := (I0.below hb).more hb.size
      replace I1 := (I1.below hb).more hb.size
      replace HB := HB.trans (hb.mono HB.size)
      clear hb
      go_wp2_with fail
      go_ret
      exact ⟨rfl, HB⟩
    have HP := Lib.hid (Classical.not_not.1 h)
    clear h
    by_cases h : ¬ Perm_ q
    · have HQ := Lib.hid h
      clear h
      go_enter Try.func7, Try.ntmps7
      go_wp2_with fail
      refine (lawLive_any _).mono ?_
      rintro e w1 ⟨rfl, hb⟩
      replace I0 := (I0.below hb).more hb.size
      replace I1 := (I1.below hb).more hb.size
      replace HB := HB.trans (hb.mono HB.size)
      clear hb
      go_wp2_with fail
      refine (few2_s A0 A1 n m c0 c1 _ true hn hm HFB.out).mono ?_
      rintro e w2 ⟨rfl, hb⟩
      replace I0 := (I0.below hb).more hb.size
      replace I1 := (I1.below hb).more hb.size
      replace HB := HB.trans (hb.mono HB.size)
      clear hb
      go_wp2_with fail
      refine (check_s A0 n c0 p _ I0 hn HP.out).mono ?_
      rintro e w3 ⟨rfl, hb⟩
      replace I0 := (I0.below hb).more hb.size
      replace I1 := (I1.below hb).more hb.size
      replace HB := HB.trans (hb.mono HB.size)
      clear hb
      go_wp2_with fail
      refine (check_n A1 m c1 q _ I1 hm HQ.out).mono ?_
      rintro e w4 ⟨rfl, hb⟩
      replace I0 := (I0.below hb).more hb.size
      replace I1 := (I1.below hb).more hb.size
      replace HB := HB.trans (hb.mono HB.size)
      clear hb
      go_wp2_with fail
      go_ret
      exact ⟨rfl, HB⟩
    have HQ := Lib.hid (Classical.not_not.1 h)
    clear h
    by_cases h : n ≠ m
    · have T : True := trivial
      have enm : ((n : Int) == (m : Int)) = false := by simp; omega
      have fnm : ((n : Int) != (m : Int)) = true := by simp; omega
      clear h
      go_enter Try.func7, Try.ntmps7
      go_wp2_with fail
      refine (lawLive_any _).mono ?_
      rintro e w1 ⟨rfl, hb⟩
      replace I0 := (I0.below hb).more hb.size
      replace I1 := (I1.below hb).more hb.size
      replace HB := HB.trans (hb.mono HB.size)
      clear hb
      go_wp2_with fail
      refine (few2_s A0 A1 n m c0 c1 _ true hn hm HFB.out).mono ?_
      rintro e w2 ⟨rfl, hb⟩
      replace I0 := (I0.below hb).more hb.size
      replace I1 := (I1.below hb).more hb.size
      replace HB := HB.trans (hb.mono HB.size)
      clear hb
      go_wp2_with fail
      refine (check_s A0 n c0 p _ I0 hn HP.out).mono ?_
      rintro e w3 ⟨rfl, hb⟩
      replace I0 := (I0.below hb).more hb.size
      replace I1 := (I1.below hb).more hb.size
      replace HB := HB.trans (hb.mono HB.size)
      clear hb
      go_wp2_with fail
      refine (check_s A1 m c1 q _ I1 hm HQ.out).mono ?_
      rintro e w4 ⟨rfl, hb⟩
      replace I0 := (I0.below hb).more hb.size
      replace I1 := (I1.below hb).more hb.size
      replace HB := HB.trans (hb.mono HB.size)
      clear hb
      go_wp2_with fail
      go_ret
      exact ⟨rfl, HB⟩
    obtain rfl : n = m := Classical.not_not.1 h
    by_cases h2 : n < 2
    · exact permOdd_short w A0 n c0 p I0 hn hc0 A1 c1 q I1 hm hc1 i _hi1 _hi2 k _hk1 _hk2 HFB HP HQ h2
    · exact permOdd_long w A0 n c0 p I0 hn hc0 A1 c1 q I1 hm hc1 i _hi1 _hi2 k _hk1 _hk2 HFB HP HQ (by omega)
end Go.Proofs.Ytnjjmeaggnlafaa
