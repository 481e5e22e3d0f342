/- purflelaw04.LevelAll returns true where it plays a whole level. -/
import Derived.Test.YtanbhpdobpiafaaLTwo
namespace Go.Proofs.Ytanbhpdobpiafaa
open Go.RowKit

set_option maxRecDepth 100000 in
set_option maxHeartbeats 16000000 in
theorem levelAll_true (K S a : Int) (A B : Option Addr) (n c m e : Nat) (xs ys : List Int) (w : World) (h : LvI w A n B m xs ys) (hme : m ≤ e) (_ha1 : -9223372036854775808 ≤ a) (_ha2 : a ≤ 9223372036854775807) (hx : AllP K S a xs ys n m) (hwb : wholeB K = true) :
    Calls Try.prog 5 #[lvV K S A n c B m e, .int .i64 a] w fun x w' => x = .returned (.bool true) ∧ Below w.heap.size w w' := by
  have HFW := fun W => fewL_any K S a A B n c m e W h.n1 h.m1
  have HW := fun W => refWhole_any K S A B n c m e W
  have HC := fun W (hb : Below w.heap.size w W) => lvCheck_any K S a A B n c m e xs ys W (h.below hb).pos h.n1 (h.below hb).crd h.m1
  have z0 := lvBelow w (lvO K S A n c B m e)
  have zz := heap_alloc_new w (lvO K S A n c B m e)
  obtain ⟨h1, h2, h3, h4, h5⟩ := hx
  rw [pB_t h1] at HFW
  rw [h5] at HC
  rw [hwb] at HW
  have d2 : decide (300 < (m : Int)) = false := decide_eq_false (by omega)
  have d3 : decide (100 < a) = false := decide_eq_false (by omega)
  have d4 : decide (100 < S) = false := decide_eq_false (by have := h4 hwb; omega)
  obtain ⟨b, rfl, HL⟩ := lok_of h5
  have HLL := Lib.hid HL
  have H5 := Lib.hid h5
  have HME := Lib.hid hme
  have htot := HL.tot
  have hS0 := HL.size0
  have hS1 := HL.size1
  obtain ⟨T, hT⟩ : ∃ T, totN K S ys b = T := ⟨_, rfl⟩
  have HT := Lib.hid hT
  rw [hT] at htot
  have hb100 : b ≤ 100 := by omega
  clear h1 h2 h3 h4 h5 HL hT hwb hme
  go_enter Try.func5, Try.ntmps5
  go_wp2_with (first | (go_at_call 9; refine (lvLive_any _).mono ?_; rintro x w1 ⟨rfl, hb1⟩; have hb2 := z0.trans (hb1.mono z0.size); have hk2 := oKeep hb1 zz; obtain ⟨k0, k1, k2, k3, _⟩ := lvCells hk2) | (go_at_call 10; refine (HFW _).mono ?_; rintro x w3 ⟨rfl, hb3⟩; have hb4 := hb2.trans (hb3.mono hb2.size); have hk4 := oKeep hb3 hk2; obtain ⟨l0, l1, l2, l3, _⟩ := lvCells hk4) | (go_at_call 23; refine (HW _).mono ?_; rintro x w5 ⟨rfl, hb5⟩; have hb6 := hb4.trans (hb5.mono hb4.size); have hk6 := oKeep hb5 hk4; obtain ⟨p0, p1, p2, p3, _⟩ := lvCells hk6) | (go_at_call 20; refine (HC _ hb6).mono ?_; rintro x w7 ⟨rfl, hb7⟩; have hb8 := hb6.trans (hb7.mono hb6.size); have hk8 := oKeep hb7 hk6))
  clear HFW HW HC zz z0 hb1 hb2 hb3 hb4 hb5 hb6 hb7 hk2 hk4 hk6 k0 k1 k2 k3 l0 l1 l2 l3 p0 p1 p2 p3
  go_loopw [6, 55] (fun u v wr => ∃ (p k : Nat), u = .int .i64 (k : Int) ∧ v = .int .i64 (p : Int) ∧ p ≤ b ∧ Hid (offN K S xs p = k) ∧ wr.heap[w.heap.size]? = some (lvO K S A n c B m e) ∧ Below w.heap.size w wr) (fun _ v _ => b - (intOf v).toNat)
  case atStart => exact ⟨0, 0, rfl, rfl, Nat.zero_le _, HLL.out.first, hk8, hb8⟩
  case round =>
    clear hk8 hb8
    obtain ⟨p, o, rfl, rfl, hp, HK, hblk, hb⟩ := hrel
    obtain ⟨k0, k1, k2, k3, _⟩ := lvCells hblk
    by_cases hlt : p < b
    · have HCH := children_ok K S b p A B n c m e xs ys wr (h.below hb) H5.out hlt
      have hlen := kids_length K S xs ys p
      have hstp := HLL.out.step p hlt
      have hto := HLL.out.le_tot (p := p + 1) (by omega)
      rw [HT.out] at hto
      obtain ⟨o', ho'⟩ : ∃ o', offN K S xs (p + 1) = o' := ⟨_, rfl⟩
      rw [ho', HK.out] at hlen
      rw [ho', HK.out] at hstp
      rw [ho'] at hto
      have HO' := Lib.hid ho'
      obtain ⟨N, hN⟩ : ∃ N, (kids K S xs ys p).length = N := ⟨_, rfl⟩
      rw [hN] at HCH hlen
      have HNL := Lib.hid hN
      have hNle : N ≤ 1048576 := by omega
      have HNO : Hid (o' = o + N) := by unfold Hid; omega
      clear hN ho' hlen
      go_wp2_with (go_at_call 13; refine HCH.mono ?_; rintro x w2 ⟨A2, c2, rfl, HO2, hb2⟩; have hb3 := hb.trans (hb2.mono hb.size); have hblk2 := oKeep hb2 hblk; have HO3 := Lib.hid HO2.chs; clear HO2)
      rw [HNL.out] at HO3
      clear HCH hblk hb hb2 k0 k1 k2 k3
      obtain ⟨wo, rfl⟩ : ∃ wo : World, wo = w2 := ⟨_, rfl⟩
      go_loopw [6, 69] (fun u v wr => ∃ (i k : Nat), u = .int .i64 (k : Int) ∧ v = .int .i64 (i : Int) ∧ i ≤ N ∧ Hid (k = o + i) ∧ Below wo.heap.size wo wr) (fun _ v _ => N - (intOf v).toNat)
      case atStart => exact ⟨0, o, rfl, rfl, Nat.zero_le _, rfl, Below.refl _ _⟩
      case round =>
        obtain ⟨i, k, rfl, rfl, hi, HKI, hbi⟩ := hrel
        have hb5 := hb3.trans (hbi.mono hb3.size)
        have hblk5 := oKeep hbi hblk2
        by_cases hin : i < N
        · obtain ⟨b5, off5, x, rfl, _, HX, hc0, hc1, hx1, hx2⟩ := (HO3.out.below hbi).at_ hin
          have hkid := kids_at (K := K) (S := S) (xs := xs) (ys := ys) (p := p) (i := i) (by rw [HK.out, HO'.out, HNO.out]; omega)
          rw [HX.out, HK.out, ← HKI.out] at hkid
          injection hkid with hkid
          obtain ⟨x1, x2⟩ := x
          injection hkid with hx1e hx2e
          subst hx2e
          subst hx1e
          dsimp only at hc0 hc1 hx1 hx2
          have hk1 : offN K S xs p ≤ k := by rw [HK.out, HKI.out]; omega
          have hk2 : k < offN K S xs (p + 1) := by rw [HO'.out, HNO.out, HKI.out]; omega
          have hkT : k < totN K S ys b := by rw [HT.out]; have := HKI.out; have := HNO.out; omega
          have hpl := HLL.out.place k hkT
          obtain ⟨q0, hq1, hq2, hq3, hq4, hq5⟩ := find_kid HLL.out hlt hk1 hk2
          have HPAR := fun W (hb : Below w.heap.size w W) => parent_ok K S b k p A B n c m e xs ys W (h.below hb) H5.out hlt hk1 hk2
          have HFND := fun W (hb : Below w.heap.size w W) => find_ok K S (atN K S ys k) b p A B n c m e xs ys W (h.below hb) HME.out H5.out hlt
          rw [hq1] at HFND
          have hprev : 0 < i → (kids K S xs ys p)[i - 1]? = some (atN K S ys (k - 1), ((k - 1 : Nat) : Int)) := by
            intro hi0
            have := kids_at (K := K) (S := S) (xs := xs) (ys := ys) (p := p) (i := i - 1) (by rw [HK.out, HO'.out, HNO.out]; omega)
            rw [this, HK.out]
            have e : o + (i - 1) = k - 1 := by have := HKI.out; omega
            rw [e]
          have hsort : 0 < i → atN K S ys (k - 1) ≤ atN K S ys k := fun hi0 => HLL.out.sorted hlt (by rw [HK.out]; have := HKI.out; omega) (by omega) hk2
          have hq4' : (i = 0 ∨ atN K S ys (k - 1) ≠ atN K S ys k) → q0 = k := fun hh => hq4 (by rcases hh with hh | hh; exact .inl (by rw [HK.out]; have := HKI.out; omega); exact .inr hh)
          have hq5' : 0 < i → atN K S ys (k - 1) = atN K S ys k → q0 < k ∧ K = 2 := fun hi0 hh => hq5 (by rw [HK.out]; have := HKI.out; omega) hh
          obtain ⟨y, hy⟩ : ∃ y, atN K S ys k = y := ⟨_, rfl⟩
          obtain ⟨y', hy'⟩ : ∃ y', atN K S ys (k - 1) = y' := ⟨_, rfl⟩
          rw [hy] at hc0 hpl HPAR HFND hsort hq4' hq5' hx1
          rw [hy'] at hprev hsort hq4' hq5'
          have z5 := lvBelow wr (.cells #[.int .i64 y, .int .i64 (k : Int)] 47)
          have zn := heap_alloc_new wr (.cells #[.int .i64 y, .int .i64 (k : Int)] 47)
          have hbA := hb5.trans (z5.mono hb5.size)
          have hbAi := hbi.trans (z5.mono hbi.size)
          have hblkA := oKeep z5 hblk5
          obtain ⟨k0, k1, k2, k3, _⟩ := lvCells hblkA
          have d1 : decide (y < 0) = false := decide_eq_false (by omega)
          have d2 : decide (S ≤ y) = false := decide_eq_false (by omega)
          have hkb : k ≤ 2097152 := by have := hkT; rw [HT.out] at this; omega
          have HPREV := Lib.hid hprev
          have HKI2 : Hid (k + 1 = o + (i + 1)) := by unfold Hid; have := HKI.out; omega
          clear hy hy' hq1 hq2 hq3 hq4 hq5 hkT hk1 hk2 HX hprev hpl
          by_cases hi0 : i = 0
          · have hqk := (hq4' (.inl hi0)).symm
            subst hqk
            have f1 : ((i : Int) == 0) = true := by simp; omega
            have f2 : decide ((0 : Int) < (i : Int)) = false := decide_eq_false (by omega)
            have f3 : ¬ 0 < i := by omega
            have f4 : decide (0 < i) = false := decide_eq_false f3
            have f5 : decide (i = 0) = true := decide_eq_true hi0
            have f6 : (i == 0) = true := by simpa using hi0
            clear hi0 hq4' hq5' hsort
            go_wp2_with (first | (go_at_call 17; refine (HPAR _ hbA).mono ?_; rintro x w6 ⟨rfl, hb6⟩; have hbB := hbA.trans (hb6.mono hbA.size); have hbBi := hbAi.trans (hb6.mono hbAi.size); have hblkB := oKeep hb6 hblkA; have znB := oKeep hb6 zn; obtain ⟨l0, l1, l2, l3, _⟩ := lvCells hblkB; obtain ⟨t0, t1, _⟩ := twoCells znB) | (go_at_call 15; refine (HFND _ hbB).mono ?_; rintro x w8 ⟨rfl, hb8⟩; have hbC := hbB.trans (hb8.mono hbB.size); have hbCi := hbBi.trans (hb8.mono hbBi.size); have hblkC := oKeep hb8 hblkB; have znC := oKeep hb8 znB; obtain ⟨p0, p1, p2, p3, _⟩ := lvCells hblkC; obtain ⟨u0, u1, _⟩ := twoCells znC))
            go_quiet (fail)
            go_wp2_with fail
            go_quiet (fail)
            go_wp2_with fail
            go_roundw
            case rel => exact ⟨i + 1, k + 1, by go_num, by go_num, by omega, HKI2, by first | exact below_drewN2 hbCi _ | exact below_drewN2 (below_drewN2 hbCi _) _⟩
            case measure => simp [intOf]; omega
          · have hi1 : 0 < i := by omega
            obtain ⟨b6, off6, x', e6, hb6lt, HX', hc0', hc1', hx1', hx2'⟩ := HO3.out.at_ (k := i - 1) (by omega)
            injection e6 with e6; injection e6 with e6 e6'; subst e6; subst e6'
            have hxx := HPREV.out hi1
            rw [HX'.out] at hxx
            injection hxx with hxx
            obtain ⟨x1', x2'⟩ := x'
            injection hxx with hxa hxb
            subst hxa
            dsimp only at hc0' hc1' hx1'
            have HPC := Lib.hid hc0'
            clear hc0' hc1'
            have hss := hsort hi1
            have f1 : ((i : Int) == 0) = false := by simp; omega
            have f2 : decide ((0 : Int) < (i : Int)) = true := decide_eq_true (by omega)
            have f4 : decide (0 < i) = true := decide_eq_true hi1
            have f5 : decide (i = 0) = false := decide_eq_false hi0
            have f6 : (i == 0) = false := by simpa using hi0
            have e1 : IntKind.i64.wrap ((i : Int) - 1) = (i : Int) - 1 := by rw [IntWalk.i64_in _ (by omega)]
            have g0 : (0 : Int) ≤ i := by omega
            have g1 : (i : Int) < N := by omega
            have g2 : (i : Int) - 1 < N := by omega
            have g3 : (0 : Int) ≤ (i : Int) - 1 := by omega
            have g4 : ((i : Int) - 1).toNat = i - 1 := by omega
            have g5 : (1 : Int) ≤ i := by omega
            have g7 : (i : Int) < N + 1 := by omega
            have g8 : 1 ≤ i := by omega
            have f7 : decide (y < x1') = false := decide_eq_false (by omega)
            by_cases hyy : x1' = y
            · obtain ⟨hqk, hK2⟩ := hq5' hi1 hyy
              subst hyy
              have f8 : (x1' == x1') = true := by simp
              have f9 : (x1' != x1') = false := by simp
              have f10 : decide ((k : Int) ≤ (q0 : Int)) = false := decide_eq_false (by omega)
              have f11 : ¬ (k : Int) ≤ (q0 : Int) := by omega
              have f12 : (K == 2) = true := by simpa using hK2
              have f13 : (K != 2) = false := by simpa using hK2
              clear hK2 hq4' hq5' hsort hss
              go_wp2_with (first | (go_at_call 17; refine (HPAR _ hbA).mono ?_; rintro x w6 ⟨rfl, hb6⟩; have hbB := hbA.trans (hb6.mono hbA.size); have hbBi := hbAi.trans (hb6.mono hbAi.size); have hblkB := oKeep hb6 hblkA; have znB := oKeep hb6 zn; obtain ⟨l0, l1, l2, l3, _⟩ := lvCells hblkB; obtain ⟨t0, t1, _⟩ := twoCells znB) | (go_at_call 15; refine (HFND _ hbB).mono ?_; rintro x w8 ⟨rfl, hb8⟩; have hbC := hbB.trans (hb8.mono hbB.size); have hbCi := hbBi.trans (hb8.mono hbBi.size); have hblkC := oKeep hb8 hblkB; have znC := oKeep hb8 znB; obtain ⟨p0, p1, p2, p3, _⟩ := lvCells hblkC; obtain ⟨u0, u1, _⟩ := twoCells znC))
              have v0 := ((hbCi.cell (p := ⟨b5, off5 + (i - 1) * 2, none⟩) (by assumption)).trans (HPC.out))
              go_quiet (fail)
              go_wp2_with fail
              go_quiet (fail)
              go_wp2_with fail
              go_roundw
              case rel => exact ⟨i + 1, k + 1, by go_num, by go_num, by omega, HKI2, by first | exact below_drewN2 hbCi _ | exact below_drewN2 (below_drewN2 hbCi _) _⟩
              case measure => simp [intOf]; omega
            · have hqk := (hq4' (.inr hyy)).symm
              subst hqk
              have f8 : (x1' == y) = false := by simpa using hyy
              have f9 : (x1' != y) = true := by simpa using hyy
              clear hq4' hq5' hsort hss hyy
              go_wp2_with (first | (go_at_call 17; refine (HPAR _ hbA).mono ?_; rintro x w6 ⟨rfl, hb6⟩; have hbB := hbA.trans (hb6.mono hbA.size); have hbBi := hbAi.trans (hb6.mono hbAi.size); have hblkB := oKeep hb6 hblkA; have znB := oKeep hb6 zn; obtain ⟨l0, l1, l2, l3, _⟩ := lvCells hblkB; obtain ⟨t0, t1, _⟩ := twoCells znB) | (go_at_call 15; refine (HFND _ hbB).mono ?_; rintro x w8 ⟨rfl, hb8⟩; have hbC := hbB.trans (hb8.mono hbB.size); have hbCi := hbBi.trans (hb8.mono hbBi.size); have hblkC := oKeep hb8 hblkB; have znC := oKeep hb8 znB; obtain ⟨p0, p1, p2, p3, _⟩ := lvCells hblkC; obtain ⟨u0, u1, _⟩ := twoCells znC))
              have v0 := ((hbCi.cell (p := ⟨b5, off5 + (i - 1) * 2, none⟩) (by assumption)).trans (HPC.out))
              go_quiet (fail)
              go_wp2_with fail
              go_quiet (fail)
              go_wp2_with fail
              go_roundw
              case rel => exact ⟨i + 1, k + 1, by go_num, by go_num, by omega, HKI2, by first | exact below_drewN2 hbCi _ | exact below_drewN2 (below_drewN2 hbCi _) _⟩
              case measure => simp [intOf]; omega
        · have HKN : Hid (offN K S xs (p + 1) = k) := by unfold Hid; rw [HO'.out, HNO.out, HKI.out]; omega
          go_wp2_with fail
          go_roundw
          case rel => exact ⟨p + 1, k, rfl, by go_num, by omega, HKN, hblk5, hb5⟩
          case measure => simp [intOf]; omega
    · have HPB : Hid (p = b) := by unfold Hid; omega
      have HTO : Hid (totN K S ys b = o) := by unfold Hid; rw [← HLL.out.last, ← HPB.out]; exact HK.out
      have HBE := fun W (hb : Below w.heap.size w W) => below_ok K S b A B n c m e xs ys W (h.below hb) H5.out
      have HPN := fun W (hb : Below w.heap.size w W) => parent_none K S (o : Int) b A B n c m e xs ys W (h.below hb) H5.out (.inr (by rw [HTO.out]; omega))
      rw [HTO.out] at HBE
      have e1 : ((o : Int) == (o : Int)) = true := by simp
      go_wp2_with (first | (go_at_call 11; refine (HBE _ hb).mono ?_; rintro x w2 ⟨rfl, hb2⟩; have hb3 := hb.trans (hb2.mono hb.size); have hblk2 := oKeep hb2 hblk; obtain ⟨l0, l1, l2, l3, _⟩ := lvCells hblk2) | (go_at_call 17; refine (HPN _ hb3).mono ?_; rintro x w4 ⟨rfl, hb4⟩; have hb5 := hb3.trans (hb4.mono hb3.size)))
      go_ret
      exact ⟨rfl, hb5⟩

end Go.Proofs.Ytanbhpdobpiafaa
