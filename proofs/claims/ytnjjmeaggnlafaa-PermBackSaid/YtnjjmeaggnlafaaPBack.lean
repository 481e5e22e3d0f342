/- purflelaw03.PermBack returns true at every input, and nothing that lay there has turned. -/
import Derived.Test.YtnjjmeaggnlafaaPLaws
namespace Go.Proofs.Ytnjjmeaggnlafaa
open Go.RowKit

set_option maxRecDepth 100000 in
set_option maxHeartbeats 2000000 in
theorem permBack_any (w : World) (A0 : Option Addr) (n c0 : Nat) (p : List Int) (I0 : Ints w w.heap.size A0 n p) (hn : n ≤ 9223372036854775807) (_hc0 : n ≤ c0) (A1 : Option Addr) (m c1 : Nat) (l : List Int) (I1 : Ints w w.heap.size A1 m l) (hm : m ≤ 9223372036854775807) (_hc1 : m ≤ c1) :
    Calls Try.prog 5 #[.slice A0 n c0, .slice A1 m c1] w fun e w' => e = .returned (.bool true) ∧ Below w.heap.size w w' := by
  have HB : Below w.heap.size w w := Below.refl _ _
  obtain ⟨fb, hfb⟩ : ∃ fb, fewB [n, m] = fb := ⟨_, rfl⟩
  have HFB := Lib.hid hfb
  clear hfb
  cases fb
  · have T : True := trivial
    go_enter Try.func5, Try.ntmps5
    go_wp2_with fail
    refine (lawLive_any _).mono ?_
    rintro e w1 ⟨rfl, hb⟩
    replace I0 := (I0.below hb).more hb.size
    replace I1 := (I1.below hb).more hb.size
    replace HB := HB.trans (hb.mono HB.size)
    clear hb
    go_wp2_with fail
    refine (few2_s A0 A1 n m c0 c1 _ false hn hm HFB.out).mono ?_
    rintro e w2 ⟨rfl, hb⟩
    replace I0 := (I0.below hb).more hb.size
    replace I1 := (I1.below hb).more hb.size
    replace HB := HB.trans (hb.mono HB.size)
    clear hb
    go_wp2_with fail
    go_ret
    exact ⟨rfl, HB⟩
  · by_cases hp : ¬ Perm_ p
    · have HP := Lib.hid hp
      clear hp
      go_enter Try.func5, Try.ntmps5
      go_wp2_with fail
      refine (lawLive_any _).mono ?_
      rintro e w1 ⟨rfl, hb⟩
      replace I0 := (I0.below hb).more hb.size
      replace I1 := (I1.below hb).more hb.size
      replace HB := HB.trans (hb.mono HB.size)
      clear hb
      go_wp2_with fail
      refine (few2_s A0 A1 n m c0 c1 _ true hn hm HFB.out).mono ?_
      rintro e w2 ⟨rfl, hb⟩
      replace I0 := (I0.below hb).more hb.size
      replace I1 := (I1.below hb).more hb.size
      replace HB := HB.trans (hb.mono HB.size)
      clear hb
      go_wp2_with fail
      refine (check_n A0 n c0 p _ I0 hn HP.out).mono ?_
      rintro e w3 ⟨rfl, hb⟩
      replace I0 := (I0.below hb).more hb.size
      replace I1 := (I1.below hb).more hb.size
      replace HB := HB.trans (hb.mono HB.size)
      clear hb
      go_wp2_with fail
      go_ret
      exact ⟨rfl, HB⟩
    · replace hp := Classical.not_not.1 hp
      have h12 : n ≤ 12 := by rw [← I0.1]; exact hp.len
      have HL : Hid (p.length = n) := I0.1
      have HLL : Hid (l.length = m) := I1.1
      have h100 : m ≤ 100 := fewB_all HFB.out (by simp)
      have HQ := Lib.hid (perm_inv hp)
      have HE1 : Hid (turnL p (invL p) = plainL n) := by unfold Hid; rw [turn_inv hp, HL.out]
      have HE2 : Hid (turnL (invL p) p = plainL n) := by unfold Hid; rw [inv_turn hp, HL.out]
      have HE3 : Hid (invL (invL p) = p) := inv_inv hp
      have HP := Lib.hid hp
      clear hp
      by_cases hmn : m = n
      · have HMN := Lib.hid hmn
        have HE4 : Hid (turnL (turnL l p) (invL p) = l) := by unfold Hid; exact turn_back HP.out (by rw [HL.out, HLL.out, hmn])
        have e1 : ((m : Int) == (n : Int)) = true := by simp; omega
        have e2 : ((m : Int) != (n : Int)) = false := by simp; omega
        clear hmn
        go_enter Try.func5, Try.ntmps5
        go_wp2_with fail
        refine (lawLive_any _).mono ?_
        rintro e w1 ⟨rfl, hb⟩
        replace I0 := (I0.below hb).more hb.size
        replace I1 := (I1.below hb).more hb.size
        replace HB := HB.trans (hb.mono HB.size)
        clear hb
        go_wp2_with fail
        refine (few2_s A0 A1 n m c0 c1 _ true hn hm HFB.out).mono ?_
        rintro e w2 ⟨rfl, hb⟩
        replace I0 := (I0.below hb).more hb.size
        replace I1 := (I1.below hb).more hb.size
        replace HB := HB.trans (hb.mono HB.size)
        clear hb
        go_wp2_with fail
        refine (check_s A0 n c0 p _ I0 hn HP.out).mono ?_
        rintro e w3 ⟨rfl, hb⟩
        replace I0 := (I0.below hb).more hb.size
        replace I1 := (I1.below hb).more hb.size
        replace HB := HB.trans (hb.mono HB.size)
        clear hb
        go_wp2_with fail
        refine (inv_s A0 n c0 p _ I0 HP.out).mono ?_
        rintro e w4 ⟨A2, c2, rfl, I2, k2, hb⟩
        replace I0 := (I0.below hb).more hb.size
        replace I1 := (I1.below hb).more hb.size
        replace HB := HB.trans (hb.mono HB.size)
        clear hb
        go_wp2_with fail
        refine (plain_s n _ h12).mono ?_
        rintro e w5 ⟨A3, c3, rfl, I3, k3, hb⟩
        replace I0 := (I0.below hb).more hb.size
        replace I1 := (I1.below hb).more hb.size
        replace I2 := (I2.below hb).more hb.size
        replace HB := HB.trans (hb.mono HB.size)
        clear hb
        go_wp2_with fail
        refine (after_s A2 A0 n c2 c0 p (invL p) _ I0 I2 HP.out HQ.out).mono ?_
        rintro e w6 ⟨A4, c4, rfl, I4, k4, hb⟩
        replace I0 := (I0.below hb).more hb.size
        replace I1 := (I1.below hb).more hb.size
        replace I2 := (I2.below hb).more hb.size
        replace I3 := (I3.below hb).more hb.size
        replace HB := HB.trans (hb.mono HB.size)
        clear hb
        go_wp2_with fail
        refine (after_s A0 A2 n c0 c2 (invL p) p _ I2 I0 HQ.out HP.out).mono ?_
        rintro e w7 ⟨A5, c5, rfl, I5, k5, hb⟩
        replace I0 := (I0.below hb).more hb.size
        replace I1 := (I1.below hb).more hb.size
        replace I2 := (I2.below hb).more hb.size
        replace I3 := (I3.below hb).more hb.size
        replace I4 := (I4.below hb).more hb.size
        replace HB := HB.trans (hb.mono HB.size)
        clear hb
        go_wp2_with fail
        refine (inv_s A2 n c2 (invL p) _ I2 HQ.out).mono ?_
        rintro e w8 ⟨A6, c6, rfl, I6, k6, hb⟩
        replace I0 := (I0.below hb).more hb.size
        replace I1 := (I1.below hb).more hb.size
        replace I2 := (I2.below hb).more hb.size
        replace I3 := (I3.below hb).more hb.size
        replace I4 := (I4.below hb).more hb.size
        replace I5 := (I5.below hb).more hb.size
        replace HB := HB.trans (hb.mono HB.size)
        clear hb
        go_wp2_with fail
        refine (equal_s A4 A3 n c4 c3 _ _ _ true I4 I3 (by omega) (by omega) (by rw [HE1.out]; simp)).mono ?_
        rintro e w9 ⟨rfl, hb⟩
        replace I0 := (I0.below hb).more hb.size
        replace I1 := (I1.below hb).more hb.size
        replace I2 := (I2.below hb).more hb.size
        replace I3 := (I3.below hb).more hb.size
        replace I4 := (I4.below hb).more hb.size
        replace I5 := (I5.below hb).more hb.size
        replace I6 := (I6.below hb).more hb.size
        replace HB := HB.trans (hb.mono HB.size)
        clear hb
        go_wp2_with fail
        refine (equal_s A5 A3 n c5 c3 _ _ _ true I5 I3 (by omega) (by omega) (by rw [HE2.out]; simp)).mono ?_
        rintro e w10 ⟨rfl, hb⟩
        replace I0 := (I0.below hb).more hb.size
        replace I1 := (I1.below hb).more hb.size
        replace I2 := (I2.below hb).more hb.size
        replace I3 := (I3.below hb).more hb.size
        replace I4 := (I4.below hb).more hb.size
        replace I5 := (I5.below hb).more hb.size
        replace I6 := (I6.below hb).more hb.size
        replace HB := HB.trans (hb.mono HB.size)
        clear hb
        go_wp2_with fail
        refine (equal_s A6 A0 n c6 c0 _ _ _ true I6 I0 (by omega) (by omega) (by rw [HE3.out]; simp)).mono ?_
        rintro e w11 ⟨rfl, hb⟩
        replace I0 := (I0.below hb).more hb.size
        replace I1 := (I1.below hb).more hb.size
        replace I2 := (I2.below hb).more hb.size
        replace I3 := (I3.below hb).more hb.size
        replace I4 := (I4.below hb).more hb.size
        replace I5 := (I5.below hb).more hb.size
        replace I6 := (I6.below hb).more hb.size
        replace HB := HB.trans (hb.mono HB.size)
        clear hb
        go_wp2_with fail
        refine (turn_s A0 A1 n c0 c1 p _ l I1 I0 HP.out HMN.out).mono ?_
        rintro e w12 ⟨A7, c7, rfl, I7, k7, hb⟩
        replace I0 := (I0.below hb).more hb.size
        replace I1 := (I1.below hb).more hb.size
        replace I2 := (I2.below hb).more hb.size
        replace I3 := (I3.below hb).more hb.size
        replace I4 := (I4.below hb).more hb.size
        replace I5 := (I5.below hb).more hb.size
        replace I6 := (I6.below hb).more hb.size
        replace HB := HB.trans (hb.mono HB.size)
        clear hb
        go_wp2_with fail
        refine (turn_s A2 A7 n c2 c7 (invL p) _ (turnL l p) I7 I2 HQ.out rfl).mono ?_
        rintro e w13 ⟨A8, c8, rfl, I8, k8, hb⟩
        replace I0 := (I0.below hb).more hb.size
        replace I1 := (I1.below hb).more hb.size
        replace I2 := (I2.below hb).more hb.size
        replace I3 := (I3.below hb).more hb.size
        replace I4 := (I4.below hb).more hb.size
        replace I5 := (I5.below hb).more hb.size
        replace I6 := (I6.below hb).more hb.size
        replace I7 := (I7.below hb).more hb.size
        replace HB := HB.trans (hb.mono HB.size)
        clear hb
        go_wp2_with fail
        refine (equal_s A8 A1 n c8 c1 _ _ _ true I8 I1 (by omega) (by omega) (by rw [HE4.out]; simp)).mono ?_
        rintro e w14 ⟨rfl, hb⟩
        replace I0 := (I0.below hb).more hb.size
        replace I1 := (I1.below hb).more hb.size
        replace I2 := (I2.below hb).more hb.size
        replace I3 := (I3.below hb).more hb.size
        replace I4 := (I4.below hb).more hb.size
        replace I5 := (I5.below hb).more hb.size
        replace I6 := (I6.below hb).more hb.size
        replace I7 := (I7.below hb).more hb.size
        replace I8 := (I8.below hb).more hb.size
        replace HB := HB.trans (hb.mono HB.size)
        clear hb
        go_wp2_with fail
        go_ret
        exact ⟨rfl, HB⟩
      · have HMN := Lib.hid hmn
        have e1 : ((m : Int) == (n : Int)) = false := by simp; omega
        have e2 : ((m : Int) != (n : Int)) = true := by simp; omega
        clear hmn
        go_enter Try.func5, Try.ntmps5
        go_wp2_with fail
        refine (lawLive_any _).mono ?_
        rintro e w1 ⟨rfl, hb⟩
        replace I0 := (I0.below hb).more hb.size
        replace I1 := (I1.below hb).more hb.size
        replace HB := HB.trans (hb.mono HB.size)
        clear hb
        go_wp2_with fail
        refine (few2_s A0 A1 n m c0 c1 _ true hn hm HFB.out).mono ?_
        rintro e w2 ⟨rfl, hb⟩
        replace I0 := (I0.below hb).more hb.size
        replace I1 := (I1.below hb).more hb.size
        replace HB := HB.trans (hb.mono HB.size)
        clear hb
        go_wp2_with fail
        refine (check_s A0 n c0 p _ I0 hn HP.out).mono ?_
        rintro e w3 ⟨rfl, hb⟩
        replace I0 := (I0.below hb).more hb.size
        replace I1 := (I1.below hb).more hb.size
        replace HB := HB.trans (hb.mono HB.size)
        clear hb
        go_wp2_with fail
        refine (inv_s A0 n c0 p _ I0 HP.out).mono ?_
        rintro e w4 ⟨A2, c2, rfl, I2, k2, hb⟩
        replace I0 := (I0.below hb).more hb.size
        replace I1 := (I1.below hb).more hb.size
        replace HB := HB.trans (hb.mono HB.size)
        clear hb
        go_wp2_with fail
        refine (plain_s n _ h12).mono ?_
        rintro e w5 ⟨A3, c3, rfl, I3, k3, hb⟩
        replace I0 := (I0.below hb).more hb.size
        replace I1 := (I1.below hb).more hb.size
        replace I2 := (I2.below hb).more hb.size
        replace HB := HB.trans (hb.mono HB.size)
        clear hb
        go_wp2_with fail
        refine (after_s A2 A0 n c2 c0 p (invL p) _ I0 I2 HP.out HQ.out).mono ?_
        rintro e w6 ⟨A4, c4, rfl, I4, k4, hb⟩
        replace I0 := (I0.below hb).more hb.size
        replace I1 := (I1.below hb).more hb.size
        replace I2 := (I2.below hb).more hb.size
        replace I3 := (I3.below hb).more hb.size
        replace HB := HB.trans (hb.mono HB.size)
        clear hb
        go_wp2_with fail
        refine (after_s A0 A2 n c0 c2 (invL p) p _ I2 I0 HQ.out HP.out).mono ?_
        rintro e w7 ⟨A5, c5, rfl, I5, k5, hb⟩
        replace I0 := (I0.below hb).more hb.size
        replace I1 := (I1.below hb).more hb.size
        replace I2 := (I2.below hb).more hb.size
        replace I3 := (I3.below hb).more hb.size
        replace I4 := (I4.below hb).more hb.size
        replace HB := HB.trans (hb.mono HB.size)
        clear hb
        go_wp2_with fail
        refine (inv_s A2 n c2 (invL p) _ I2 HQ.out).mono ?_
        rintro e w8 ⟨A6, c6, rfl, I6, k6, hb⟩
        replace I0 := (I0.below hb).more hb.size
        replace I1 := (I1.below hb).more hb.size
        replace I2 := (I2.below hb).more hb.size
        replace I3 := (I3.below hb).more hb.size
        replace I4 := (I4.below hb).more hb.size
        replace I5 := (I5.below hb).more hb.size
        replace HB := HB.trans (hb.mono HB.size)
        clear hb
        go_wp2_with fail
        refine (equal_s A4 A3 n c4 c3 _ _ _ true I4 I3 (by omega) (by omega) (by rw [HE1.out]; simp)).mono ?_
        rintro e w9 ⟨rfl, hb⟩
        replace I0 := (I0.below hb).more hb.size
        replace I1 := (I1.below hb).more hb.size
        replace I2 := (I2.below hb).more hb.size
        replace I3 := (I3.below hb).more hb.size
        replace I4 := (I4.below hb).more hb.size
        replace I5 := (I5.below hb).more hb.size
        replace I6 := (I6.below hb).more hb.size
        replace HB := HB.trans (hb.mono HB.size)
        clear hb
        go_wp2_with fail
        refine (equal_s A5 A3 n c5 c3 _ _ _ true I5 I3 (by omega) (by omega) (by rw [HE2.out]; simp)).mono ?_
        rintro e w10 ⟨rfl, hb⟩
        replace I0 := (I0.below hb).more hb.size
        replace I1 := (I1.below hb).more hb.size
        replace I2 := (I2.below hb).more hb.size
        replace I3 := (I3.below hb).more hb.size
        replace I4 := (I4.below hb).more hb.size
        replace I5 := (I5.below hb).more hb.size
        replace I6 := (I6.below hb).more hb.size
        replace HB := HB.trans (hb.mono HB.size)
        clear hb
        go_wp2_with fail
        refine (equal_s A6 A0 n c6 c0 _ _ _ true I6 I0 (by omega) (by omega) (by rw [HE3.out]; simp)).mono ?_
        rintro e w11 ⟨rfl, hb⟩
        replace I0 := (I0.below hb).more hb.size
        replace I1 := (I1.below hb).more hb.size
        replace I2 := (I2.below hb).more hb.size
        replace I3 := (I3.below hb).more hb.size
        replace I4 := (I4.below hb).more hb.size
        replace I5 := (I5.below hb).more hb.size
        replace I6 := (I6.below hb).more hb.size
        replace HB := HB.trans (hb.mono HB.size)
        clear hb
        go_wp2_with fail
        refine (turn_n A0 A1 n c0 c1 p _ l I1 I0 HP.out HMN.out).mono ?_
        rintro e w12 ⟨A7, c7, rfl, hb⟩
        replace I0 := (I0.below hb).more hb.size
        replace I1 := (I1.below hb).more hb.size
        replace I2 := (I2.below hb).more hb.size
        replace I3 := (I3.below hb).more hb.size
        replace I4 := (I4.below hb).more hb.size
        replace I5 := (I5.below hb).more hb.size
        replace I6 := (I6.below hb).more hb.size
        replace HB := HB.trans (hb.mono HB.size)
        clear hb
        go_wp2_with fail
        go_ret
        exact ⟨rfl, HB⟩
end Go.Proofs.Ytnjjmeaggnlafaa
