/- purflelaw03.PermAfter returns true at every input, and nothing that lay there has turned. -/
import Derived.Test.YtnjjmeaggnlafaaPLaws
namespace Go.Proofs.Ytnjjmeaggnlafaa
open Go.RowKit

set_option maxRecDepth 100000 in
set_option maxHeartbeats 4000000 in
theorem permAfter_any (w : World) (A0 : Option Addr) (n c0 : Nat) (p : List Int) (I0 : Ints w w.heap.size A0 n p) (hn : n ≤ 9223372036854775807) (_hc0 : n ≤ c0) (A1 : Option Addr) (m c1 : Nat) (q : List Int) (I1 : Ints w w.heap.size A1 m q) (hm : m ≤ 9223372036854775807) (_hc1 : m ≤ c1)
    (A2 : Option Addr) (s c2 : Nat) (r : List Int) (I2 : Ints w w.heap.size A2 s r) (hs : s ≤ 9223372036854775807) (_hc2 : s ≤ c2) :
    Calls Try.prog 9 #[.slice A0 n c0, .slice A1 m c1, .slice A2 s c2] w fun e w' => e = .returned (.bool true) ∧ Below w.heap.size w w' := by
  have HB : Below w.heap.size w w := Below.refl _ _
  obtain ⟨fb, hfb⟩ : ∃ fb, fewB [n, m, s] = fb := ⟨_, rfl⟩
  have HFB := Lib.hid hfb
  clear hfb
  cases fb
  · have T : True := trivial
    go_enter Try.func9, Try.ntmps9
    go_wp2_with fail
    refine (lawLive_any _).mono ?_
    rintro e w1 ⟨rfl, hb⟩
    replace I0 := (I0.below hb).more hb.size
    replace I1 := (I1.below hb).more hb.size
    replace I2 := (I2.below hb).more hb.size
    replace HB := HB.trans (hb.mono HB.size)
    clear hb
    go_wp2_with fail
    refine (few3_s A0 A1 A2 n m s c0 c1 c2 _ false hn hm hs HFB.out).mono ?_
    rintro e w2 ⟨rfl, hb⟩
    replace I0 := (I0.below hb).more hb.size
    replace I1 := (I1.below hb).more hb.size
    replace I2 := (I2.below hb).more hb.size
    replace HB := HB.trans (hb.mono HB.size)
    clear hb
    go_wp2_with fail
    go_ret
    exact ⟨rfl, HB⟩
  · by_cases h : ¬ Perm_ p
    · have HP := Lib.hid h
      clear h
      go_enter Try.func9, Try.ntmps9
      go_wp2_with fail
      refine (lawLive_any _).mono ?_
      rintro e w1 ⟨rfl, hb⟩
      replace I0 := (I0.below hb).more hb.size
      replace I1 := (I1.below hb).more hb.size
      replace I2 := (I2.below hb).more hb.size
      replace HB := HB.trans (hb.mono HB.size)
      clear hb
      go_wp2_with fail
      refine (few3_s A0 A1 A2 n m s c0 c1 c2 _ true hn hm hs HFB.out).mono ?_
      rintro e w2 ⟨rfl, hb⟩
      replace I0 := (I0.below hb).more hb.size
      replace I1 := (I1.below hb).more hb.size
      replace I2 := (I2.below hb).more hb.size
      replace HB := HB.trans (hb.mono HB.size)
      clear hb
      go_wp2_with fail
      refine (check_n A0 n c0 p _ I0 hn HP.out).mono ?_
      rintro e w3 ⟨rfl, hb⟩
      replace I0 := (I0.below hb).more hb.size
      replace I1 := (I1.below hb).more hb.size
      replace I2 := (I2.below hb).more hb.size
      replace HB := HB.trans (hb.mono HB.size)
      clear hb
      go_wp2_with fail
      go_ret
      exact ⟨rfl, HB⟩
    · have HP := Lib.hid (Classical.not_not.1 h)
      clear h
      by_cases h : ¬ Perm_ q
      · have HQ := Lib.hid h
        clear h
        go_enter Try.func9, Try.ntmps9
        go_wp2_with fail
        refine (lawLive_any _).mono ?_
        rintro e w1 ⟨rfl, hb⟩
        replace I0 := (I0.below hb).more hb.size
        replace I1 := (I1.below hb).more hb.size
        replace I2 := (I2.below hb).more hb.size
        replace HB := HB.trans (hb.mono HB.size)
        clear hb
        go_wp2_with fail
        refine (few3_s A0 A1 A2 n m s c0 c1 c2 _ true hn hm hs HFB.out).mono ?_
        rintro e w2 ⟨rfl, hb⟩
        replace I0 := (I0.below hb).more hb.size
        replace I1 := (I1.below hb).more hb.size
        replace I2 := (I2.below hb).more hb.size
        replace HB := HB.trans (hb.mono HB.size)
        clear hb
        go_wp2_with fail
        refine (check_s A0 n c0 p _ I0 hn HP.out).mono ?_
        rintro e w3 ⟨rfl, hb⟩
        replace I0 := (I0.below hb).more hb.size
        replace I1 := (I1.below hb).more hb.size
        replace I2 := (I2.below hb).more hb.size
        replace HB := HB.trans (hb.mono HB.size)
        clear hb
        go_wp2_with fail
        refine (check_n A1 m c1 q _ I1 hm HQ.out).mono ?_
        rintro e w4 ⟨rfl, hb⟩
        replace I0 := (I0.below hb).more hb.size
        replace I1 := (I1.below hb).more hb.size
        replace I2 := (I2.below hb).more hb.size
        replace HB := HB.trans (hb.mono HB.size)
        clear hb
        go_wp2_with fail
        go_ret
        exact ⟨rfl, HB⟩
      · have HQ := Lib.hid (Classical.not_not.1 h)
        clear h
        by_cases h : ¬ Perm_ r
        · have HR := Lib.hid h
          clear h
          go_enter Try.func9, Try.ntmps9
          go_wp2_with fail
          refine (lawLive_any _).mono ?_
          rintro e w1 ⟨rfl, hb⟩
          replace I0 := (I0.below hb).more hb.size
          replace I1 := (I1.below hb).more hb.size
          replace I2 := (I2.below hb).more hb.size
          replace HB := HB.trans (hb.mono HB.size)
          clear hb
          go_wp2_with fail
          refine (few3_s A0 A1 A2 n m s c0 c1 c2 _ true hn hm hs HFB.out).mono ?_
          rintro e w2 ⟨rfl, hb⟩
          replace I0 := (I0.below hb).more hb.size
          replace I1 := (I1.below hb).more hb.size
          replace I2 := (I2.below hb).more hb.size
          replace HB := HB.trans (hb.mono HB.size)
          clear hb
          go_wp2_with fail
          refine (check_s A0 n c0 p _ I0 hn HP.out).mono ?_
          rintro e w3 ⟨rfl, hb⟩
          replace I0 := (I0.below hb).more hb.size
          replace I1 := (I1.below hb).more hb.size
          replace I2 := (I2.below hb).more hb.size
          replace HB := HB.trans (hb.mono HB.size)
          clear hb
          go_wp2_with fail
          refine (check_s A1 m c1 q _ I1 hm HQ.out).mono ?_
          rintro e w4 ⟨rfl, hb⟩
          replace I0 := (I0.below hb).more hb.size
          replace I1 := (I1.below hb).more hb.size
          replace I2 := (I2.below hb).more hb.size
          replace HB := HB.trans (hb.mono HB.size)
          clear hb
          go_wp2_with fail
          refine (check_n A2 s c2 r _ I2 hs HR.out).mono ?_
          rintro e w5 ⟨rfl, hb⟩
          replace I0 := (I0.below hb).more hb.size
          replace I1 := (I1.below hb).more hb.size
          replace I2 := (I2.below hb).more hb.size
          replace HB := HB.trans (hb.mono HB.size)
          clear hb
          go_wp2_with fail
          go_ret
          exact ⟨rfl, HB⟩
        · have HR := Lib.hid (Classical.not_not.1 h)
          clear h
          by_cases h : n ≠ m
          · have T : True := trivial
            have enm : ((n : Int) == (m : Int)) = false := by simp; omega
            have fnm : ((n : Int) != (m : Int)) = true := by simp; omega
            clear h
            go_enter Try.func9, Try.ntmps9
            go_wp2_with fail
            refine (lawLive_any _).mono ?_
            rintro e w1 ⟨rfl, hb⟩
            replace I0 := (I0.below hb).more hb.size
            replace I1 := (I1.below hb).more hb.size
            replace I2 := (I2.below hb).more hb.size
            replace HB := HB.trans (hb.mono HB.size)
            clear hb
            go_wp2_with fail
            refine (few3_s A0 A1 A2 n m s c0 c1 c2 _ true hn hm hs HFB.out).mono ?_
            rintro e w2 ⟨rfl, hb⟩
            replace I0 := (I0.below hb).more hb.size
            replace I1 := (I1.below hb).more hb.size
            replace I2 := (I2.below hb).more hb.size
            replace HB := HB.trans (hb.mono HB.size)
            clear hb
            go_wp2_with fail
            refine (check_s A0 n c0 p _ I0 hn HP.out).mono ?_
            rintro e w3 ⟨rfl, hb⟩
            replace I0 := (I0.below hb).more hb.size
            replace I1 := (I1.below hb).more hb.size
            replace I2 := (I2.below hb).more hb.size
            replace HB := HB.trans (hb.mono HB.size)
            clear hb
            go_wp2_with fail
            refine (check_s A1 m c1 q _ I1 hm HQ.out).mono ?_
            rintro e w4 ⟨rfl, hb⟩
            replace I0 := (I0.below hb).more hb.size
            replace I1 := (I1.below hb).more hb.size
            replace I2 := (I2.below hb).more hb.size
            replace HB := HB.trans (hb.mono HB.size)
            clear hb
            go_wp2_with fail
            refine (check_s A2 s c2 r _ I2 hs HR.out).mono ?_
            rintro e w5 ⟨rfl, hb⟩
            replace I0 := (I0.below hb).more hb.size
            replace I1 := (I1.below hb).more hb.size
            replace I2 := (I2.below hb).more hb.size
            replace HB := HB.trans (hb.mono HB.size)
            clear hb
            go_wp2_with fail
            go_ret
            exact ⟨rfl, HB⟩
          obtain rfl : n = m := Classical.not_not.1 h
          clear h
          by_cases h : n ≠ s
          · have T : True := trivial
            have ens : ((n : Int) == (s : Int)) = false := by simp; omega
            have fns : ((n : Int) != (s : Int)) = true := by simp; omega
            have enn : ((n : Int) == (n : Int)) = true := by simp
            have fnn : ((n : Int) != (n : Int)) = false := by simp
            clear h
            go_enter Try.func9, Try.ntmps9
            go_wp2_with fail
            refine (lawLive_any _).mono ?_
            rintro e w1 ⟨rfl, hb⟩
            replace I0 := (I0.below hb).more hb.size
            replace I1 := (I1.below hb).more hb.size
            replace I2 := (I2.below hb).more hb.size
            replace HB := HB.trans (hb.mono HB.size)
            clear hb
            go_wp2_with fail
            refine (few3_s A0 A1 A2 n n s c0 c1 c2 _ true hn hm hs HFB.out).mono ?_
            rintro e w2 ⟨rfl, hb⟩
            replace I0 := (I0.below hb).more hb.size
            replace I1 := (I1.below hb).more hb.size
            replace I2 := (I2.below hb).more hb.size
            replace HB := HB.trans (hb.mono HB.size)
            clear hb
            go_wp2_with fail
            refine (check_s A0 n c0 p _ I0 hn HP.out).mono ?_
            rintro e w3 ⟨rfl, hb⟩
            replace I0 := (I0.below hb).more hb.size
            replace I1 := (I1.below hb).more hb.size
            replace I2 := (I2.below hb).more hb.size
            replace HB := HB.trans (hb.mono HB.size)
            clear hb
            go_wp2_with fail
            refine (check_s A1 n c1 q _ I1 hm HQ.out).mono ?_
            rintro e w4 ⟨rfl, hb⟩
            replace I0 := (I0.below hb).more hb.size
            replace I1 := (I1.below hb).more hb.size
            replace I2 := (I2.below hb).more hb.size
            replace HB := HB.trans (hb.mono HB.size)
            clear hb
            go_wp2_with fail
            refine (check_s A2 s c2 r _ I2 hs HR.out).mono ?_
            rintro e w5 ⟨rfl, hb⟩
            replace I0 := (I0.below hb).more hb.size
            replace I1 := (I1.below hb).more hb.size
            replace I2 := (I2.below hb).more hb.size
            replace HB := HB.trans (hb.mono HB.size)
            clear hb
            go_wp2_with fail
            go_ret
            exact ⟨rfl, HB⟩
          obtain rfl : n = s := Classical.not_not.1 h
          clear h
          have enn : ((n : Int) == (n : Int)) = true := by simp
          have fnn : ((n : Int) != (n : Int)) = false := by simp
          have h12 : n ≤ 12 := by rw [← I0.1]; exact HP.out.len
          have HL : Hid (p.length = n) := I0.1
          have HLQ : Hid (q.length = n) := I1.1
          have HLR : Hid (r.length = n) := I2.1
          have HPQ : Hid (Perm_ (turnL p q)) := perm_turn HP.out HQ.out (by rw [HL.out, HLQ.out])
          have HQR : Hid (Perm_ (turnL q r)) := perm_turn HQ.out HR.out (by rw [HLQ.out, HLR.out])
          have HPL : Hid (Perm_ (plainL n)) := perm_plain h12
          have HIP : Hid (Perm_ (invL p)) := perm_inv HP.out
          have HIQ : Hid (Perm_ (invL q)) := perm_inv HQ.out
          have HE1 : Hid (turnL (turnL p q) r = turnL p (turnL q r)) := turn_assoc HQ.out HR.out (by rw [HL.out, HLQ.out]) (by rw [HLQ.out, HLR.out])
          have HE2 : Hid (turnL p (plainL n) = p) := by unfold Hid; rw [← HL.out]; exact turn_plain
          have HE3 : Hid (turnL (plainL n) p = p) := by unfold Hid; rw [← HL.out]; exact plain_turn HP.out
          have HE4 : Hid (invL (turnL p q) = turnL (invL q) (invL p)) := inv_two HP.out HQ.out (by rw [HL.out, HLQ.out])
          go_enter Try.func9, Try.ntmps9
          go_wp2_with fail
          refine (lawLive_any _).mono ?_
          rintro e w1 ⟨rfl, hb⟩
          replace I0 := (I0.below hb).more hb.size
          replace I1 := (I1.below hb).more hb.size
          replace I2 := (I2.below hb).more hb.size
          replace HB := HB.trans (hb.mono HB.size)
          clear hb
          go_wp2_with fail
          refine (few3_s A0 A1 A2 n n n c0 c1 c2 _ true hn hm hs HFB.out).mono ?_
          rintro e w2 ⟨rfl, hb⟩
          replace I0 := (I0.below hb).more hb.size
          replace I1 := (I1.below hb).more hb.size
          replace I2 := (I2.below hb).more hb.size
          replace HB := HB.trans (hb.mono HB.size)
          clear hb
          go_wp2_with fail
          refine (check_s A0 n c0 p _ I0 hn HP.out).mono ?_
          rintro e w3 ⟨rfl, hb⟩
          replace I0 := (I0.below hb).more hb.size
          replace I1 := (I1.below hb).more hb.size
          replace I2 := (I2.below hb).more hb.size
          replace HB := HB.trans (hb.mono HB.size)
          clear hb
          go_wp2_with fail
          refine (check_s A1 n c1 q _ I1 hm HQ.out).mono ?_
          rintro e w4 ⟨rfl, hb⟩
          replace I0 := (I0.below hb).more hb.size
          replace I1 := (I1.below hb).more hb.size
          replace I2 := (I2.below hb).more hb.size
          replace HB := HB.trans (hb.mono HB.size)
          clear hb
          go_wp2_with fail
          refine (check_s A2 n c2 r _ I2 hs HR.out).mono ?_
          rintro e w5 ⟨rfl, hb⟩
          replace I0 := (I0.below hb).more hb.size
          replace I1 := (I1.below hb).more hb.size
          replace I2 := (I2.below hb).more hb.size
          replace HB := HB.trans (hb.mono HB.size)
          clear hb
          go_wp2_with fail
          refine (after_s A1 A0 n c1 c0 p q _ I0 I1 HP.out HQ.out).mono ?_
          rintro e w6 ⟨A3, c3, rfl, I3, k3, hb⟩
          replace I0 := (I0.below hb).more hb.size
          replace I1 := (I1.below hb).more hb.size
          replace I2 := (I2.below hb).more hb.size
          replace HB := HB.trans (hb.mono HB.size)
          clear hb
          go_wp2_with fail
          refine (after_s A2 A3 n c2 c3 (turnL p q) r _ I3 I2 HPQ.out HR.out).mono ?_
          rintro e w7 ⟨A4, c4, rfl, I4, k4, hb⟩
          replace I0 := (I0.below hb).more hb.size
          replace I1 := (I1.below hb).more hb.size
          replace I2 := (I2.below hb).more hb.size
          replace I3 := (I3.below hb).more hb.size
          replace HB := HB.trans (hb.mono HB.size)
          clear hb
          go_wp2_with fail
          refine (after_s A2 A1 n c2 c1 q r _ I1 I2 HQ.out HR.out).mono ?_
          rintro e w8 ⟨A5, c5, rfl, I5, k5, hb⟩
          replace I0 := (I0.below hb).more hb.size
          replace I1 := (I1.below hb).more hb.size
          replace I2 := (I2.below hb).more hb.size
          replace I3 := (I3.below hb).more hb.size
          replace I4 := (I4.below hb).more hb.size
          replace HB := HB.trans (hb.mono HB.size)
          clear hb
          go_wp2_with fail
          refine (after_s A5 A0 n c5 c0 p (turnL q r) _ I0 I5 HP.out HQR.out).mono ?_
          rintro e w9 ⟨A6, c6, rfl, I6, k6, hb⟩
          replace I0 := (I0.below hb).more hb.size
          replace I1 := (I1.below hb).more hb.size
          replace I2 := (I2.below hb).more hb.size
          replace I3 := (I3.below hb).more hb.size
          replace I4 := (I4.below hb).more hb.size
          replace I5 := (I5.below hb).more hb.size
          replace HB := HB.trans (hb.mono HB.size)
          clear hb
          go_wp2_with fail
          refine (plain_s n _ h12).mono ?_
          rintro e w10 ⟨A7, c7, rfl, I7, k7, hb⟩
          replace I0 := (I0.below hb).more hb.size
          replace I1 := (I1.below hb).more hb.size
          replace I2 := (I2.below hb).more hb.size
          replace I3 := (I3.below hb).more hb.size
          replace I4 := (I4.below hb).more hb.size
          replace I5 := (I5.below hb).more hb.size
          replace I6 := (I6.below hb).more hb.size
          replace HB := HB.trans (hb.mono HB.size)
          clear hb
          go_wp2_with fail
          refine (after_s A7 A0 n c7 c0 p (plainL n) _ I0 I7 HP.out HPL.out).mono ?_
          rintro e w11 ⟨A8, c8, rfl, I8, k8, hb⟩
          replace I0 := (I0.below hb).more hb.size
          replace I1 := (I1.below hb).more hb.size
          replace I2 := (I2.below hb).more hb.size
          replace I3 := (I3.below hb).more hb.size
          replace I4 := (I4.below hb).more hb.size
          replace I5 := (I5.below hb).more hb.size
          replace I6 := (I6.below hb).more hb.size
          replace I7 := (I7.below hb).more hb.size
          replace HB := HB.trans (hb.mono HB.size)
          clear hb
          go_wp2_with fail
          refine (after_s A0 A7 n c0 c7 (plainL n) p _ I7 I0 HPL.out HP.out).mono ?_
          rintro e w12 ⟨A9, c9, rfl, I9, k9, hb⟩
          replace I0 := (I0.below hb).more hb.size
          replace I1 := (I1.below hb).more hb.size
          replace I2 := (I2.below hb).more hb.size
          replace I3 := (I3.below hb).more hb.size
          replace I4 := (I4.below hb).more hb.size
          replace I5 := (I5.below hb).more hb.size
          replace I6 := (I6.below hb).more hb.size
          replace I7 := (I7.below hb).more hb.size
          replace I8 := (I8.below hb).more hb.size
          replace HB := HB.trans (hb.mono HB.size)
          clear hb
          go_wp2_with fail
          refine (equal_s A4 A6 n c4 c6 _ _ _ true I4 I6 (by omega) (by omega) (by rw [HE1.out]; simp)).mono ?_
          rintro e w13 ⟨rfl, hb⟩
          replace I0 := (I0.below hb).more hb.size
          replace I1 := (I1.below hb).more hb.size
          replace I2 := (I2.below hb).more hb.size
          replace I3 := (I3.below hb).more hb.size
          replace I4 := (I4.below hb).more hb.size
          replace I5 := (I5.below hb).more hb.size
          replace I6 := (I6.below hb).more hb.size
          replace I7 := (I7.below hb).more hb.size
          replace I8 := (I8.below hb).more hb.size
          replace I9 := (I9.below hb).more hb.size
          replace HB := HB.trans (hb.mono HB.size)
          clear hb
          go_wp2_with fail
          refine (equal_s A8 A0 n c8 c0 _ _ _ true I8 I0 (by omega) (by omega) (by rw [HE2.out]; simp)).mono ?_
          rintro e w14 ⟨rfl, hb⟩
          replace I0 := (I0.below hb).more hb.size
          replace I1 := (I1.below hb).more hb.size
          replace I2 := (I2.below hb).more hb.size
          replace I3 := (I3.below hb).more hb.size
          replace I4 := (I4.below hb).more hb.size
          replace I5 := (I5.below hb).more hb.size
          replace I6 := (I6.below hb).more hb.size
          replace I7 := (I7.below hb).more hb.size
          replace I8 := (I8.below hb).more hb.size
          replace I9 := (I9.below hb).more hb.size
          replace HB := HB.trans (hb.mono HB.size)
          clear hb
          go_wp2_with fail
          refine (equal_s A9 A0 n c9 c0 _ _ _ true I9 I0 (by omega) (by omega) (by rw [HE3.out]; simp)).mono ?_
          rintro e w15 ⟨rfl, hb⟩
          replace I0 := (I0.below hb).more hb.size
          replace I1 := (I1.below hb).more hb.size
          replace I2 := (I2.below hb).more hb.size
          replace I3 := (I3.below hb).more hb.size
          replace I4 := (I4.below hb).more hb.size
          replace I5 := (I5.below hb).more hb.size
          replace I6 := (I6.below hb).more hb.size
          replace I7 := (I7.below hb).more hb.size
          replace I8 := (I8.below hb).more hb.size
          replace I9 := (I9.below hb).more hb.size
          replace HB := HB.trans (hb.mono HB.size)
          clear hb
          go_wp2_with fail
          refine (after_s A1 A0 n c1 c0 p q _ I0 I1 HP.out HQ.out).mono ?_
          rintro e w16 ⟨A10, c10, rfl, I10, k10, hb⟩
          replace I0 := (I0.below hb).more hb.size
          replace I1 := (I1.below hb).more hb.size
          replace I2 := (I2.below hb).more hb.size
          replace I3 := (I3.below hb).more hb.size
          replace I4 := (I4.below hb).more hb.size
          replace I5 := (I5.below hb).more hb.size
          replace I6 := (I6.below hb).more hb.size
          replace I7 := (I7.below hb).more hb.size
          replace I8 := (I8.below hb).more hb.size
          replace I9 := (I9.below hb).more hb.size
          replace HB := HB.trans (hb.mono HB.size)
          clear hb
          go_wp2_with fail
          refine (inv_s A10 n c10 (turnL p q) _ I10 HPQ.out).mono ?_
          rintro e w17 ⟨A11, c11, rfl, I11, k11, hb⟩
          replace I0 := (I0.below hb).more hb.size
          replace I1 := (I1.below hb).more hb.size
          replace I2 := (I2.below hb).more hb.size
          replace I3 := (I3.below hb).more hb.size
          replace I4 := (I4.below hb).more hb.size
          replace I5 := (I5.below hb).more hb.size
          replace I6 := (I6.below hb).more hb.size
          replace I7 := (I7.below hb).more hb.size
          replace I8 := (I8.below hb).more hb.size
          replace I9 := (I9.below hb).more hb.size
          replace I10 := (I10.below hb).more hb.size
          replace HB := HB.trans (hb.mono HB.size)
          clear hb
          go_wp2_with fail
          refine (inv_s A0 n c0 p _ I0 HP.out).mono ?_
          rintro e w18 ⟨A12, c12, rfl, I12, k12, hb⟩
          replace I0 := (I0.below hb).more hb.size
          replace I1 := (I1.below hb).more hb.size
          replace I2 := (I2.below hb).more hb.size
          replace I3 := (I3.below hb).more hb.size
          replace I4 := (I4.below hb).more hb.size
          replace I5 := (I5.below hb).more hb.size
          replace I6 := (I6.below hb).more hb.size
          replace I7 := (I7.below hb).more hb.size
          replace I8 := (I8.below hb).more hb.size
          replace I9 := (I9.below hb).more hb.size
          replace I10 := (I10.below hb).more hb.size
          replace I11 := (I11.below hb).more hb.size
          replace HB := HB.trans (hb.mono HB.size)
          clear hb
          go_wp2_with fail
          refine (inv_s A1 n c1 q _ I1 HQ.out).mono ?_
          rintro e w19 ⟨A13, c13, rfl, I13, k13, hb⟩
          replace I0 := (I0.below hb).more hb.size
          replace I1 := (I1.below hb).more hb.size
          replace I2 := (I2.below hb).more hb.size
          replace I3 := (I3.below hb).more hb.size
          replace I4 := (I4.below hb).more hb.size
          replace I5 := (I5.below hb).more hb.size
          replace I6 := (I6.below hb).more hb.size
          replace I7 := (I7.below hb).more hb.size
          replace I8 := (I8.below hb).more hb.size
          replace I9 := (I9.below hb).more hb.size
          replace I10 := (I10.below hb).more hb.size
          replace I11 := (I11.below hb).more hb.size
          replace I12 := (I12.below hb).more hb.size
          replace HB := HB.trans (hb.mono HB.size)
          clear hb
          go_wp2_with fail
          refine (after_s A12 A13 n c12 c13 (invL q) (invL p) _ I13 I12 HIQ.out HIP.out).mono ?_
          rintro e w20 ⟨A14, c14, rfl, I14, k14, hb⟩
          replace I0 := (I0.below hb).more hb.size
          replace I1 := (I1.below hb).more hb.size
          replace I2 := (I2.below hb).more hb.size
          replace I3 := (I3.below hb).more hb.size
          replace I4 := (I4.below hb).more hb.size
          replace I5 := (I5.below hb).more hb.size
          replace I6 := (I6.below hb).more hb.size
          replace I7 := (I7.below hb).more hb.size
          replace I8 := (I8.below hb).more hb.size
          replace I9 := (I9.below hb).more hb.size
          replace I10 := (I10.below hb).more hb.size
          replace I11 := (I11.below hb).more hb.size
          replace I12 := (I12.below hb).more hb.size
          replace I13 := (I13.below hb).more hb.size
          replace HB := HB.trans (hb.mono HB.size)
          clear hb
          go_wp2_with fail
          refine (equal_s A11 A14 n c11 c14 _ _ _ true I11 I14 (by omega) (by omega) (by rw [HE4.out]; simp)).mono ?_
          rintro e w21 ⟨rfl, hb⟩
          replace I0 := (I0.below hb).more hb.size
          replace I1 := (I1.below hb).more hb.size
          replace I2 := (I2.below hb).more hb.size
          replace I3 := (I3.below hb).more hb.size
          replace I4 := (I4.below hb).more hb.size
          replace I5 := (I5.below hb).more hb.size
          replace I6 := (I6.below hb).more hb.size
          replace I7 := (I7.below hb).more hb.size
          replace I8 := (I8.below hb).more hb.size
          replace I9 := (I9.below hb).more hb.size
          replace I10 := (I10.below hb).more hb.size
          replace I11 := (I11.below hb).more hb.size
          replace I12 := (I12.below hb).more hb.size
          replace I13 := (I13.below hb).more hb.size
          replace I14 := (I14.below hb).more hb.size
          replace HB := HB.trans (hb.mono HB.size)
          clear hb
          go_wp2_with fail
          go_ret
          exact ⟨rfl, HB⟩
end Go.Proofs.Ytnjjmeaggnlafaa
