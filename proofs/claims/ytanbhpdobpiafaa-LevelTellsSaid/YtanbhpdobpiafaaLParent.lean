/- The contracts of level's Parent and of sort.Search as it asks it. -/
import Derived.Test.YtanbhpdobpiafaaLFindB
namespace Go.Proofs.Ytanbhpdobpiafaa
open Go.RowKit

set_option maxRecDepth 100000 in
theorem parent1_any (K S : Int) (a p k : Nat) (A B : Option Addr) (n c m e g g2 : Nat) (xs ys : List Int) (w : World) (h : LvI w A n B m xs ys) (HL : Lok K S xs ys a) (hp : p < a)
    (hg : w.heap[g]? = some (lvO K S A n c B m e)) (hg2 : w.heap[g2]? = some (.cells #[.int .i64 (k : Int)] 3 (0, 0))) :
    Calls Try.prog 37 #[.int .i64 p, .pointer (some ⟨g, 0, none⟩), .pointer (some ⟨g2, 0, none⟩)] w fun x w' => x = .returned (.bool (decide (k < offN K S xs (p + 1)))) ∧ Below w.heap.size w w' := by
  have HS := fun W (hb : Below w.heap.size w W) => span_ok K S A B n c m e p a xs ys W (h.below hb).pos HL hp
  obtain ⟨k0, k1, k2, k3, _⟩ := lvCells hg
  have c0 : w.cell? ⟨g2, 0, none⟩ = some (.int .i64 (k : Int)) := by simpa using cell_of_row _ _ 0 _ _ (0, 0) hg2
  have hg2l := (Array.getElem?_eq_some_iff.1 hg2).1
  obtain ⟨o, ho⟩ : ∃ o, offN K S xs (p + 1) = o := ⟨_, rfl⟩
  rw [ho] at HS
  by_cases hko : k < o
  · have d1 : decide ((k : Int) < (o : Int)) = true := decide_eq_true (by omega)
    have HF : Hid (decide (k < offN K S xs (p + 1)) = true) := decide_eq_true (by rw [ho]; exact hko)
    clear HL hg hg2 ho
    go_enter Try.func37, Try.ntmps37
    go_wp2_with (go_at_call 38; refine (HS _ (Below.refl _ _)).mono ?_; rintro x w1 ⟨rfl, hb1⟩; have c1 := (hb1.cell (p := ⟨g2, 0, none⟩) hg2l).trans c0)
    go_ret
    exact ⟨ret_of (by rw [HF.out]; rfl), hb1⟩
  · have d1 : decide ((k : Int) < (o : Int)) = false := decide_eq_false (by omega)
    have HF : Hid (decide (k < offN K S xs (p + 1)) = false) := decide_eq_false (by rw [ho]; exact hko)
    clear HL hg hg2 ho
    go_enter Try.func37, Try.ntmps37
    go_wp2_with (go_at_call 38; refine (HS _ (Below.refl _ _)).mono ?_; rintro x w1 ⟨rfl, hb1⟩; have c1 := (hb1.cell (p := ⟨g2, 0, none⟩) hg2l).trans c0)
    go_ret
    exact ⟨ret_of (by rw [HF.out]; rfl), hb1⟩

set_option maxRecDepth 100000 in
set_option maxHeartbeats 1000000 in
theorem sortSearch_any (K S : Int) (a k p : Nat) (A B : Option Addr) (n c m e g g2 : Nat) (xs ys : List Int) (w : World) (h : LvI w A n B m xs ys) (HL : Lok K S xs ys a)
    (hg : w.heap[g]? = some (lvO K S A n c B m e)) (hg2 : w.heap[g2]? = some (.cells #[.int .i64 (k : Int)] 3 (0, 0))) (hp : p < a) (hp1 : offN K S xs p ≤ k) (hp2 : k < offN K S xs (p + 1)) :
    Calls Try.prog 36 #[.int .i64 a, .func (.func 37) #[] #[.pointer (some ⟨g, 0, none⟩), .pointer (some ⟨g2, 0, none⟩)]] w fun x w' => x = .returned (.int .i64 p) ∧ Below w.heap.size w w' := by
  have HQ := fun (q : Nat) W (hb : Below w.heap.size w W) (hq : q < a) => parent1_any K S a q k A B n c m e g g2 xs ys W (h.below hb) HL hq (oKeep hb hg) (oKeep hb hg2)
  have ha := HL.ahead
  have HLO : Hid (∀ q, q ≤ p → decide (k < offN K S xs (q + 1)) = true → q = p) := by
    intro q hq hd
    have hd := of_decide_eq_true hd
    rcases Nat.lt_or_ge q p with hh | hh
    · have := HL.mono (p := q + 1) (q := p) (by omega) (by omega); omega
    · omega
  have HHI : Hid (∀ q, p ≤ q → q < a → decide (k < offN K S xs (q + 1)) = true) := fun q hq hqa => decide_eq_true (by have := HL.mono (p := p + 1) (q := q + 1) (by omega) (by omega); omega)
  clear HL hp1 hp2
  go_enter Try.func36, Try.ntmps36
  go_wp2
  go_loopw [5, 6] (fun u v wr => ∃ i j : Nat, u = .int .i64 (i : Int) ∧ v = .int .i64 (j : Int) ∧ i ≤ p ∧ p ≤ j ∧ j ≤ a ∧ Below w.heap.size w wr) (fun u v _ => (intOf v).toNat - (intOf u).toNat)
  case atStart => exact ⟨0, a, rfl, rfl, Nat.zero_le _, by omega, Nat.le_refl _, Below.refl _ _⟩
  case round =>
    obtain ⟨i, j, rfl, rfl, hip, hpj, hja, hb⟩ := hrel
    by_cases hlt : i < j
    · have hC := HQ ((i + j) / 2) wr hb (by omega)
      have g4 : ((((i + j) / 2 : Nat) : Int)) = ((i : Int) + (j : Int)) / 2 := by omega
      have HG := Lib.hid g4
      rw [g4] at hC
      clear g4 HQ
      cases hd : decide (k < offN K S xs ((i + j) / 2 + 1)) with
      | true =>
        have hpm : p ≤ (i + j) / 2 := by
          rcases Nat.lt_or_ge ((i + j) / 2) p with hh | hh
          · have := HLO.out _ (by omega) hd; omega
          · exact hh
        rw [hd] at hC
        clear hd
        go_wp2_with (go_at_call 37; refine hC.mono ?_; rintro x w1 ⟨rfl, hb1⟩; have hb2 := hb.trans (hb1.mono hb.size))
        go_roundw
        case rel => exact ⟨i, (i + j) / 2, rfl, by rw [← HG.out], hip, hpm, by omega, hb2⟩
        case measure => simp [intOf]; omega
      | false =>
        have hpm : (i + j) / 2 < p := by
          rcases Nat.lt_or_ge ((i + j) / 2) p with hh | hh
          · exact hh
          · have := HHI.out _ hh (by omega); rw [hd] at this; cases this
        rw [hd] at hC
        clear hd
        go_wp2_with (go_at_call 37; refine hC.mono ?_; rintro x w1 ⟨rfl, hb1⟩; have hb2 := hb.trans (hb1.mono hb.size))
        go_roundw
        case rel => exact ⟨(i + j) / 2 + 1, j, by rw [← HG.out]; go_num, rfl, by omega, hpj, hja, hb2⟩
        case measure => simp [intOf]; omega
    · have HE : Hid (i = p) := by unfold Hid; omega
      go_wp2
      go_ret
      exact ⟨ret_of (by rw [← HE.out]; rfl), hb⟩

set_option maxRecDepth 100000 in
theorem parent_err (K S a k E : Int) (A B : Option Addr) (n c m e : Nat) (xs ys : List Int) (w : World) (h : LvI w A n B m xs ys) (hE : lvF K S xs ys a = E) (h0 : E ≠ 0) :
    Calls Try.prog 17 #[lvV K S A n c B m e, .int .i64 a, .int .i64 k] w fun x w' => x = .returned (.tuple #[.int .i64 0, .int .i64 0, .int .i64 E]) ∧ Below w.heap.size w w' := by
  have HO := fun W (hb : Below w.heap.size w W) => below_err K S a E A B n c m e xs ys W (h.below hb) hE h0
  have z0 := lvBelow w (lvO K S A n c B m e)
  have z1 := z0.alloc z0.size (.cells #[.int .i64 k] 3)
  have e1 : (E == 0) = false := by simpa using h0
  have e2 : (E != 0) = true := by simpa using h0
  clear hE h0
  go_enter Try.func17, Try.ntmps17
  go_wp2_with (go_at_call 11; refine (HO _ z1).mono ?_; rintro x w1 ⟨rfl, hb1⟩; have hb2 := z1.trans (hb1.mono z1.size))
  go_ret3
  exact ⟨rfl, hb2⟩
theorem zz_one (w : World) (o o2 : Obj) : ((w.alloc o).alloc o2).heap[w.heap.size]? = some o := by
  rw [Below.heap_alloc (w.alloc o) o2 w.heap.size (by simp)]; exact heap_alloc_new w o
theorem zz_two (w : World) (o o2 : Obj) : ((w.alloc o).alloc o2).heap[w.heap.size + 1]? = some o2 := by
  have := heap_alloc_new (w.alloc o) o2; rwa [World.size_alloc] at this
set_option maxRecDepth 100000 in
theorem parent_none (K S k : Int) (a : Nat) (A B : Option Addr) (n c m e : Nat) (xs ys : List Int) (w : World) (h : LvI w A n B m xs ys) (hE : lvF K S xs ys a = 0) (hk : k < 0 ∨ (totN K S ys a : Int) ≤ k) :
    Calls Try.prog 17 #[lvV K S A n c B m e, .int .i64 a, .int .i64 k] w fun x w' => x = .returned (.tuple #[.int .i64 0, .int .i64 0, .int .i64 5]) ∧ Below w.heap.size w w' := by
  have HO := fun W (hb : Below w.heap.size w W) => below_ok K S a A B n c m e xs ys W (h.below hb) hE
  have z0 := lvBelow w (lvO K S A n c B m e)
  have z1 := z0.alloc z0.size (.cells #[.int .i64 k] 3)
  have q2 := zz_two w (lvO K S A n c B m e) (.cells #[.int .i64 k] 3)
  obtain ⟨T, hT⟩ : ∃ T, totN K S ys a = T := ⟨_, rfl⟩
  rw [hT] at HO hk
  clear hE hT
  by_cases hk0 : k < 0
  · have d1 : decide (k < 0) = true := by simpa using hk0
    clear hk hk0
    go_enter Try.func17, Try.ntmps17
    go_wp2_with (go_at_call 11; refine (HO _ z1).mono ?_; rintro x w1 ⟨rfl, hb1⟩; have hb2 := z1.trans (hb1.mono z1.size); have c1 : w1.cell? ⟨w.heap.size + 1, 0, none⟩ = some (.int .i64 k) := by simpa using cell_of_row _ _ 0 _ _ (0, 0) (oKeep hb1 q2))
    go_ret3
    exact ⟨rfl, hb2⟩
  · have d1 : decide (k < 0) = false := by simpa using hk0
    have d2 : decide ((T : Int) ≤ k) = true := decide_eq_true (by omega)
    clear hk hk0
    go_enter Try.func17, Try.ntmps17
    go_wp2_with (go_at_call 11; refine (HO _ z1).mono ?_; rintro x w1 ⟨rfl, hb1⟩; have hb2 := z1.trans (hb1.mono z1.size); have c1 : w1.cell? ⟨w.heap.size + 1, 0, none⟩ = some (.int .i64 k) := by simpa using cell_of_row _ _ 0 _ _ (0, 0) (oKeep hb1 q2))
    go_ret3
    exact ⟨rfl, hb2⟩
set_option maxRecDepth 100000 in
set_option maxHeartbeats 1000000 in
theorem parent_ok (K S : Int) (a k p : Nat) (A B : Option Addr) (n c m e : Nat) (xs ys : List Int) (w : World) (h : LvI w A n B m xs ys) (hE : lvF K S xs ys a = 0) (hp : p < a) (hp1 : offN K S xs p ≤ k) (hp2 : k < offN K S xs (p + 1)) :
    Calls Try.prog 17 #[lvV K S A n c B m e, .int .i64 a, .int .i64 k] w fun x w' => x = .returned (.tuple #[.int .i64 p, .int .i64 (atN K S ys k), .int .i64 0]) ∧ Below w.heap.size w w' := by
  have HO := fun W (hb : Below w.heap.size w W) => below_ok K S a A B n c m e xs ys W (h.below hb) hE
  obtain ⟨b, hab, HL⟩ := lok_of hE
  obtain rfl : b = a := by omega
  have hkt : k < totN K S ys b := by have := HL.le_tot (p := p + 1) (by omega); omega
  have HSR := fun W (hb : Below w.heap.size w W) g g2 (hg : W.heap[g]? = some (lvO K S A n c B m e)) (hg2 : W.heap[g2]? = some (.cells #[.int .i64 (k : Int)] 3 (0, 0))) => sortSearch_any K S b k p A B n c m e g g2 xs ys W (h.below hb) HL hg hg2 hp hp1 hp2
  have HP := fun W (hb : Below w.heap.size w W) => place_ok K S A B n c m e k b xs ys W (h.below hb).crd HL hkt
  have z0 := lvBelow w (lvO K S A n c B m e)
  have z1 := z0.alloc z0.size (.cells #[.int .i64 (k : Int)] 3)
  have q1 := zz_one w (lvO K S A n c B m e) (.cells #[.int .i64 (k : Int)] 3)
  have q2 := zz_two w (lvO K S A n c B m e) (.cells #[.int .i64 (k : Int)] 3)
  obtain ⟨y, hy⟩ : ∃ y, atN K S ys k = y := ⟨_, rfl⟩
  rw [hy] at HP ⊢
  obtain ⟨T, hT⟩ : ∃ T, totN K S ys b = T := ⟨_, rfl⟩
  rw [hT] at HO hkt
  have d1 : decide ((k : Int) < 0) = false := decide_eq_false (by omega)
  have d2 : decide ((T : Int) ≤ (k : Int)) = false := decide_eq_false (by omega)
  have d3 : ¬ (T : Int) ≤ (k : Int) := by omega
  clear hE HL hab hy hT hp1 hp2
  go_enter Try.func17, Try.ntmps17
  go_wp2_with (first | (go_at_call 11; refine (HO _ z1).mono ?_; rintro x w1 ⟨rfl, hb1⟩; have hb2 := z1.trans (hb1.mono z1.size); have r1 := oKeep hb1 q1; have r2 := oKeep hb1 q2; have c1 : w1.cell? ⟨w.heap.size + 1, 0, none⟩ = some (.int .i64 (k : Int)) := by simpa using cell_of_row _ _ 0 _ _ (0, 0) r2) | (go_at_call 36; refine (HSR _ hb2 _ _ r1 r2).mono ?_; rintro x w3 ⟨rfl, hb3⟩; have hb4 := hb2.trans (hb3.mono hb2.size); have s1 := oKeep hb3 r1; have s2 := oKeep hb3 r2; obtain ⟨l0, l1, l2, l3, _⟩ := lvCells s1; have c2 : w3.cell? ⟨w.heap.size + 1, 0, none⟩ = some (.int .i64 (k : Int)) := by simpa using cell_of_row _ _ 0 _ _ (0, 0) s2) | (go_at_call 32; refine (HP _ hb4).mono ?_; rintro x w5 ⟨rfl, hb5⟩; have hb6 := hb4.trans (hb5.mono hb4.size)))
  go_ret3
  exact ⟨rfl, hb6⟩
end Go.Proofs.Ytanbhpdobpiafaa
