/- purflelaw04.LevelPlaces returns true at every level, place and number. -/
import Derived.Test.YtanbhpdobpiafaaLMap
namespace Go.Proofs.Ytanbhpdobpiafaa
open Go.RowKit Go.Maps

def PlaceP (K S a : Int) (xs ys : List Int) (n m : Nat) : Prop := FewP K S a n m ∧ 1 ≤ a ∧ S ≤ 300 ∧ lvF K S xs ys a = 0
set_option maxRecDepth 100000 in
set_option maxHeartbeats 4000000 in
theorem levelPlaces_exit (K S a pp : Int) (A B : Option Addr) (n c m e : Nat) (xs ys : List Int) (w : World) (h : LvI w A n B m xs ys) (_hme : m ≤ e) (hx : ¬ PlaceP K S a xs ys n m) :
    Calls Try.prog 7 #[lvV K S A n c B m e, .int .i64 a, .int .i64 pp] w fun x w' => x = .returned (.bool true) ∧ Below w.heap.size w w' := by
  have HFW := fun W => fewL_any K S a A B n c m e W h.n1 h.m1
  have HC := fun W (hb : Below w.heap.size w W) => lvCheck_any K S a A B n c m e xs ys W (h.below hb).pos h.n1 (h.below hb).crd h.m1
  have z0 := lvBelow w (lvO K S A n c B m e)
  have zz := heap_alloc_new w (lvO K S A n c B m e)
  by_cases h1 : FewP K S a n m
  · rw [pB_t h1] at HFW
    by_cases h2 : 1 ≤ a
    · have d2 : decide (a < 1) = false := decide_eq_false (by omega)
      by_cases h3 : S ≤ 300
      · have d3 : decide (300 < S) = false := decide_eq_false (by omega)
        have h5 : lvF K S xs ys a ≠ 0 := fun q => hx ⟨h1, h2, h3, q⟩
        obtain ⟨E, hE⟩ : ∃ E, lvF K S xs ys a = E := ⟨_, rfl⟩
        rw [hE] at h5 HC
        have e1 : (E == 0) = false := by simpa using h5
        have e2 : (E != 0) = true := by simpa using h5
        clear hx h1 h2 h3 h5 hE
        go_enter Try.func7, Try.ntmps7
        go_wp2_with (first | (go_at_call 9; refine (lvLive_any _).mono ?_; rintro x w1 ⟨rfl, hb1⟩; have hb2 := z0.trans (hb1.mono z0.size); have hk2 := oKeep hb1 zz; obtain ⟨k0, k1, k2, k3, _⟩ := lvCells hk2) | (go_at_call 10; refine (HFW _).mono ?_; rintro x w3 ⟨rfl, hb3⟩; have hb4 := hb2.trans (hb3.mono hb2.size); have hk4 := oKeep hb3 hk2; obtain ⟨l0, l1, l2, l3, _⟩ := lvCells hk4) | (go_at_call 20; refine (HC _ hb4).mono ?_; rintro x w7 ⟨rfl, hb7⟩; have hb8 := hb4.trans (hb7.mono hb4.size); have hk8 := oKeep hb7 hk4; obtain ⟨q0, q1, q2, q3, _⟩ := lvCells hk8))
        go_ret
        exact ⟨rfl, hb8⟩
      · have d3 : decide (300 < S) = true := decide_eq_true (by omega)
        clear hx h1 h2 h3
        go_enter Try.func7, Try.ntmps7
        go_wp2_with (first | (go_at_call 9; refine (lvLive_any _).mono ?_; rintro x w1 ⟨rfl, hb1⟩; have hb2 := z0.trans (hb1.mono z0.size); have hk2 := oKeep hb1 zz; obtain ⟨k0, k1, k2, k3, _⟩ := lvCells hk2) | (go_at_call 10; refine (HFW _).mono ?_; rintro x w3 ⟨rfl, hb3⟩; have hb4 := hb2.trans (hb3.mono hb2.size); have hk4 := oKeep hb3 hk2; obtain ⟨l0, l1, l2, l3, _⟩ := lvCells hk4))
        go_ret
        exact ⟨rfl, hb4⟩
    · have d2 : decide (a < 1) = true := decide_eq_true (by omega)
      clear hx h1 h2
      go_enter Try.func7, Try.ntmps7
      go_wp2_with (first | (go_at_call 9; refine (lvLive_any _).mono ?_; rintro x w1 ⟨rfl, hb1⟩; have hb2 := z0.trans (hb1.mono z0.size); have hk2 := oKeep hb1 zz; obtain ⟨k0, k1, k2, k3, _⟩ := lvCells hk2) | (go_at_call 10; refine (HFW _).mono ?_; rintro x w3 ⟨rfl, hb3⟩; have hb4 := hb2.trans (hb3.mono hb2.size); have hk4 := oKeep hb3 hk2; obtain ⟨l0, l1, l2, l3, _⟩ := lvCells hk4))
      go_ret
      exact ⟨rfl, hb4⟩
  · rw [pB_f h1] at HFW
    clear hx h1
    go_enter Try.func7, Try.ntmps7
    go_wp2_with (first | (go_at_call 9; refine (lvLive_any _).mono ?_; rintro x w1 ⟨rfl, hb1⟩; have hb2 := z0.trans (hb1.mono z0.size); have hk2 := oKeep hb1 zz; obtain ⟨k0, k1, k2, k3, _⟩ := lvCells hk2) | (go_at_call 10; refine (HFW _).mono ?_; rintro x w3 ⟨rfl, hb3⟩; have hb4 := hb2.trans (hb3.mono hb2.size); have hk4 := oKeep hb3 hk2; obtain ⟨l0, l1, l2, l3, _⟩ := lvCells hk4))
    go_ret
    exact ⟨rfl, hb4⟩

/-- a number ahead that a statement makes out of any number -/
theorem small_mod (a : Int) (n : Nat) (hn : 0 < n) : ∃ (t : Int) (v : Nat), a.tmod (n : Int) = t ∧ -(n : Int) < t ∧ t < n ∧ (t + n) % (n : Int) = (v : Int) ∧ v < n := by
  have h1 := Int.lt_tmod_of_pos a (b := (n : Int)) (by omega)
  have h2 := Int.tmod_lt_of_pos a (b := (n : Int)) (by omega)
  have h3 := Int.emod_nonneg (a.tmod n + n) (b := (n : Int)) (by omega)
  have h4 := Int.emod_lt_of_pos (a.tmod n + n) (b := (n : Int)) (by omega)
  exact ⟨_, ((a.tmod n + n) % (n : Int)).toNat, rfl, h1, h2, by omega, by omega⟩
theorem MetMap.below {w w' : World} {b n : Nat} {S : List Int} (h : MetMap w b n S) (hb : Below w.heap.size w w') : MetMap w' b n S :=
  World.ownsMap.kept h ⟨hb.os, hb.tape, hb.output, hb.size, fun i hi _ => hb.block i hi⟩ (row := none) (by simp)
theorem findF_has (K S : Int) (xs ys : List Int) (p : Nat) (t : Int) : (findF K S xs ys p t).2 = ((kids K S xs ys p).map (·.1)).contains t := by
  unfold findF
  cases hf : (kids K S xs ys p).find? (fun x => x.1 == t) with
  | none =>
    rw [List.find?_eq_none] at hf
    symm
    rw [Bool.eq_false_iff]
    intro hc
    rw [List.contains_iff_mem, List.mem_map] at hc
    obtain ⟨x, hx, hxt⟩ := hc
    exact hf x hx (by simp [hxt])
  | some x =>
    have h1 := List.find?_some hf
    have h2 := List.mem_of_find?_eq_some hf
    symm
    rw [List.contains_iff_mem, List.mem_map]
    exact ⟨x, h2, by simpa using h1⟩

set_option maxRecDepth 100000 in
set_option maxHeartbeats 8000000 in
theorem levelPlaces_main (K S a pp : Int) (A B : Option Addr) (n c m e : Nat) (xs ys : List Int) (w : World) (h : LvI w A n B m xs ys) (hme : m ≤ e) (hx : PlaceP K S a xs ys n m) :
    Calls Try.prog 7 #[lvV K S A n c B m e, .int .i64 a, .int .i64 pp] w fun x w' => x = .returned (.bool true) ∧ Below w.heap.size w w' := by
  have HFW := fun W => fewL_any K S a A B n c m e W h.n1 h.m1
  have HC := fun W (hb : Below w.heap.size w W) => lvCheck_any K S a A B n c m e xs ys W (h.below hb).pos h.n1 (h.below hb).crd h.m1
  have z0 := lvBelow w (lvO K S A n c B m e)
  have zz := heap_alloc_new w (lvO K S A n c B m e)
  obtain ⟨h1, h2, h3, h5⟩ := hx
  rw [pB_t h1] at HFW
  rw [h5] at HC
  have d2 : decide (a < 1) = false := decide_eq_false (by omega)
  have d3 : decide (300 < S) = false := decide_eq_false (by omega)
  obtain ⟨b, rfl, HL⟩ := lok_of h5
  obtain ⟨t, p, ht, ht1, ht2, hv, hp⟩ := small_mod pp b (by omega)
  have hS0 := HL.size0
  have hb1 : b ≤ 1048576 := HL.ahead
  have hbz : ¬ (b : Int) = 0 := by omega
  have hS3 : S ≤ 300 := h3
  have HCH := fun W (hb : Below w.heap.size w W) => children_ok K S b p A B n c m e xs ys W (h.below hb) h5 hp
  have HFD := fun (t : Int) W (hb : Below w.heap.size w W) => find_ok K S t b p A B n c m e xs ys W (h.below hb) hme h5 hp
  obtain ⟨L, hL⟩ : ∃ L, kids K S xs ys p = L := ⟨_, rfl⟩
  have HLB : Hid (∀ x ∈ L, 0 ≤ x.1 ∧ x.1 < S) := by
    intro x hxx
    rw [← hL] at hxx
    obtain ⟨j, hj⟩ := List.getElem?_of_mem hxx
    obtain ⟨hj1, rfl⟩ := kids_inv hj
    have := HL.le_tot (p := p + 1) (by omega)
    exact HL.place _ (by omega)
  have hlen : L.length ≤ 1048576 := by
    rw [← hL, kids_length]
    have := HL.le_tot (p := p + 1) (by omega)
    have := HL.tot
    omega
  have HFH : Hid (∀ t, (findF K S xs ys p t).2 = (L.map (·.1)).contains t) := by intro t; rw [findF_has, hL]
  rw [hL] at HCH
  obtain ⟨N, hN⟩ : ∃ N, L.length = N := ⟨_, rfl⟩
  rw [hN] at HCH hlen
  have HNL := Lib.hid hN
  have hmm := @run_makeMap Try.prog
  clear h1 h2 h3 h5 HL hL hN hme
  go_enter Try.func7, Try.ntmps7
  go_wp2_with (first | (go_at_call 9; refine (lvLive_any _).mono ?_; rintro x w1 ⟨rfl, hb1⟩; have hb2 := z0.trans (hb1.mono z0.size); have hk2 := oKeep hb1 zz; obtain ⟨k0, k1, k2, k3, _⟩ := lvCells hk2) | (go_at_call 10; refine (HFW _).mono ?_; rintro x w3 ⟨rfl, hb3⟩; have hb4 := hb2.trans (hb3.mono hb2.size); have hk4 := oKeep hb3 hk2; obtain ⟨l0, l1, l2, l3, _⟩ := lvCells hk4) | (go_at_call 20; refine (HC _ hb4).mono ?_; rintro x w7 ⟨rfl, hb7⟩; have hb8 := hb4.trans (hb7.mono hb4.size); have hk8 := oKeep hb7 hk4; obtain ⟨q0, q1, q2, q3, _⟩ := lvCells hk8) | (go_at_call 13; refine (HCH _ hb8).mono ?_; rintro x w9 ⟨A2, c2, rfl, HO9, hb9⟩; have hbX := hb8.trans (hb9.mono hb8.size); have hkX := oKeep hb9 hk8; have HOX := Lib.hid HO9.chs; clear HO9))
  rw [HNL.out] at HOX
  have HM0 : Hid (MetMap (w9.alloc (.map #[] 0)) w9.heap.size 0 []) := World.ownsMap_made _ _ _ _
  have hs9 := lvBelow w9 (.map #[] 0)
  clear HFW HC HCH hmm zz z0 hb1 hb2 hb3 hb4 hb7 hb8 hb9 hk2 hk4 hk8 k0 k1 k2 k3 l0 l1 l2 l3 q0 q1 q2 q3 ht hv
  go_loopw [58] (fun v wr => ∃ i : Nat, v = .int .i64 (i : Int) ∧ i ≤ N ∧ Hid (MetMap wr w9.heap.size i ((L.take i).map (·.1))) ∧ w9.heap.size < wr.heap.size ∧ Below w9.heap.size w9 wr) (fun v _ => N - (intOf v).toNat)
  case atStart => exact ⟨0, rfl, Nat.zero_le _, HM0, by simp, hs9⟩
  case round =>
    clear hs9 HM0
    obtain ⟨i, rfl, hi, HMT, hsz, hb⟩ := hrel
    by_cases hlt : i < N
    · obtain ⟨b5, off5, x, rfl, _, HX, hc0, hc1, hx1, hx2⟩ := (HOX.out.below hb).at_ hlt
      obtain ⟨x1, x2⟩ := x
      dsimp only at hc0 hc1 hx1 hx2
      have z5 := lvBelow wr (.cells #[.int .i64 x1, .int .i64 x2] 47)
      have hmm8 : World.ownsMap (wr.alloc (.cells #[.int .i64 x1, .int .i64 x2] 47)) Try.prog 3 (plainElem Try.prog 4) w9.heap.size i (setD ((L.take i).map (·.1))) := HMT.out.alloc _
      have hmx : i < maxLen := by unfold maxLen; omega
      have hky := keyOf_int_mk (P := Try.prog) Try.underlying3 (int_wf (x := x1) hx1)
      have HSN : Hid ((L.take (i + 1)).map (·.1) = (L.take i).map (·.1) ++ [x1]) := by unfold Hid; rw [take_succ_of HX.out, List.map_append]; rfl
      have hbz5 := hb.alloc hb.size (.cells #[.int .i64 x1, .int .i64 x2] 47)
      go_wp2_with (at_mapUpdate; refine wpList_mapUpdate_own _ rfl _ _ _ 49 rfl 3 4 (int_keyed Try.underlying3) Try.underlying49 _ w9.heap.size _ _ rfl hmm8 hmx _ _ _ rfl rfl hky _ [] (plainElem_bool Try.underlying4 true) ?_; intro w8 hown8 hg8)
      have HM8 : Hid (MetMap w8 w9.heap.size (i + 1) ((L.take (i + 1)).map (·.1))) := by unfold Hid MetMap; rw [HSN.out, setD_snoc]; exact hown8
      have hb8 : Below w9.heap.size w9 w8 := hbz5.grown hg8 hbz5.size (fun k hk => by injection hk with hk; omega)
      have hz8 := hg8.size
      rw [World.size_alloc] at hz8
      go_roundw
      case rel => exact ⟨i + 1, by go_num, by omega, HM8, by omega, hb8⟩
      case measure => simp [intOf]; omega
    · have HLF : Hid ((L.take i).map (·.1) = L.map (·.1)) := by unfold Hid; rw [List.take_of_length_le (by rw [HNL.out]; omega)]
      have HMF : Hid (MetMap wr w9.heap.size N (L.map (·.1))) := by unfold Hid; have := HMT.out; rw [HLF.out] at this; exact World.ownsMap.mono this (by omega)
      have hbY := hbX.trans (hb.mono hbX.size)
      have hkY := oKeep hb hkX
      have HLI : Hid (∀ z, (L.map (·.1)).contains z = true → 0 ≤ z ∧ z < S) := by
        intro z hz
        rw [List.contains_iff_mem, List.mem_map] at hz
        obtain ⟨x, hx, rfl⟩ := hz
        exact HLB.out x hx
      obtain ⟨Lf, hLf⟩ : ∃ Lf, L.map (·.1) = Lf := ⟨_, rfl⟩
      rw [hLf] at HMF HLI HFH
      clear HMT hLf HLF hbX hkX HLB
      go_wp2_with fail
      obtain ⟨wo, rfl⟩ : ∃ wo : World, wo = wr := ⟨_, rfl⟩
      go_loopw [13, 14] (fun u v wr => ∃ (j q : Nat) (z : Int), u = .int .i64 (q : Int) ∧ v = .int .i64 z ∧ Hid (z = (j : Int) - 1) ∧ -1 ≤ z ∧ z ≤ S + 1 ∧ q ≤ j ∧ Hid (q = cntTo Lf (j - 1)) ∧ Below wo.heap.size wo wr) (fun _ v _ => (S + 1 - intOf v).toNat)
      case atStart => exact ⟨0, 0, -1, rfl, rfl, by unfold Hid; omega, by omega, by omega, Nat.le_refl _, rfl, Below.refl _ _⟩
      case round =>
        obtain ⟨j, q, z, rfl, rfl, HZ, hz1, hz2, hqj, HQ, hb5⟩ := hrel
        have hbA := hbY.trans (hb5.mono hbY.size)
        have hkA := oKeep hb5 hkY
        obtain ⟨k0, k1, k2, k3, _⟩ := lvCells hkA
        have hj2 : j ≤ 400 := by have := HZ.out; omega
        by_cases hzS : z ≤ S
        · have d5 : decide (z ≤ S) = true := decide_eq_true hzS
          have hF := HFD z wr hbA
          obtain ⟨c, hc⟩ : ∃ c, Lf.contains z = c := ⟨_, rfl⟩
          rw [HFH.out z, hc] at hF
          have HNX : Hid (cntTo Lf (j + 1 - 1) = q + if c = true then 1 else 0) := by
            unfold Hid
            rw [Nat.add_sub_cancel, HQ.out]
            rcases Nat.eq_zero_or_pos j with rfl | hjp
            · cases c with
              | false => rfl
              | true => have := HLI.out z hc; have := HZ.out; omega
            · obtain ⟨j', rfl⟩ : ∃ j', j = j' + 1 := ⟨j - 1, by omega⟩
              have hzj : z = (j' : Int) := by have := HZ.out; omega
              rw [cntTo_succ, Nat.add_sub_cancel, ← hzj, hc]
          have HCC := Lib.hid hc
          clear hc
          go_wp2_with fail
          refine hF.mono ?_
          rintro x w11 ⟨rfl, hb11⟩
          have hbB := hbA.trans (hb11.mono hbA.size)
          have hbC := hb5.trans (hb11.mono hb5.size)
          have hMM : MetMap w11 w9.heap.size N Lf := HMF.out.below hbC
          have hlk := met_look hMM (x := z) (by omega)
          have hlkn := fun q => met_look (w := w11.drewN q) hMM (x := z) (by omega)
          rw [HCC.out] at hlk hlkn
          clear hMM hF k0 k1 k2 k3
          cases c with
          | true =>
            go_wp2_with fail
            go_roundw
            case rel => exact ⟨j + 1, q + 1, z + 1, by go_num, rfl, by unfold Hid; have := HZ.out; omega, by omega, by omega, by omega, by unfold Hid; rw [HNX.out]; rfl, hbC⟩
            case measure => simp [intOf]; omega
          | false =>
            go_wp2_with fail
            go_roundw
            case rel => exact ⟨j + 1, q, z + 1, rfl, rfl, by unfold Hid; have := HZ.out; omega, by omega, by omega, by omega, by unfold Hid; rw [HNX.out]; rfl, hbC⟩
            case measure => simp [intOf]; omega
        · have d5 : decide (z ≤ S) = false := decide_eq_false hzS
          have hMM : MetMap wr w9.heap.size N Lf := HMF.out.below hb5
          have hlen := met_len hMM
          have hcount : size (setD Lf) = q := by
            obtain ⟨s, hs⟩ : ∃ s : Nat, S = s := ⟨S.toNat, by omega⟩
            rw [setD_count (T := s) (fun x hx => by have := HLI.out x (by simpa using hx); omega), HQ.out]
            have hj : j = s + 1 + 1 := by have := HZ.out; omega
            rw [hj, Nat.add_sub_cancel, cntTo_succ]
            have : Lf.contains (s : Int) = false := by
              cases hc : Lf.contains (s : Int) with
              | false => rfl
              | true => have := HLI.out _ hc; omega
            rw [this]; rfl
          rw [hcount] at hlen
          have e1 : ((q : Int) == (q : Int)) = true := by simp
          clear hcount hMM hzS
          go_wp2_with fail
          go_ret
          exact ⟨rfl, hbA⟩
end Go.Proofs.Ytanbhpdobpiafaa
