/- The contracts of level's Below, of and Children. -/
import Derived.Test.YtanbhpdobpiafaaLKids
namespace Go.Proofs.Ytanbhpdobpiafaa
open Go.RowKit

/-- the level's lists as they lie -/
structure LvI (w : World) (A : Option Addr) (n : Nat) (B : Option Addr) (m : Nat) (xs ys : List Int) : Prop where
  pos : Ints w w.heap.size A n xs
  crd : Ints w w.heap.size B m ys
  n1 : n ≤ 9223372036854775807
  m1 : m ≤ 9223372036854775807
theorem LvI.below {w w' : World} {A B : Option Addr} {n m : Nat} {xs ys : List Int} (h : LvI w A n B m xs ys) (hb : Below w.heap.size w w') : LvI w' A n B m xs ys :=
  ⟨(h.pos.below hb).more hb.size, (h.crd.below hb).more hb.size, h.n1, h.m1⟩

set_option maxRecDepth 100000 in
theorem below_err (K S a E : Int) (A B : Option Addr) (n c m e : Nat) (xs ys : List Int) (w : World) (h : LvI w A n B m xs ys) (hE : lvF K S xs ys a = E) (h0 : E ≠ 0) :
    Calls Try.prog 11 #[lvV K S A n c B m e, .int .i64 a] w fun x w' => x = .returned (.tuple #[.int .i64 0, .int .i64 E]) ∧ Below w.heap.size w w' := by
  have HC := fun W (hb : Below w.heap.size w W) => lvCheck_any K S a A B n c m e xs ys W (h.below hb).pos h.n1 (h.below hb).crd h.m1
  rw [hE] at HC
  have z0 := lvBelow w (lvO K S A n c B m e)
  have e1 : (E == 0) = false := by simpa using h0
  have e2 : (E != 0) = true := by simpa using h0
  clear hE h0
  go_enter Try.func11, Try.ntmps11
  go_wp2_with (go_at_call 20; refine (HC _ z0).mono ?_; rintro x w1 ⟨rfl, hb1⟩; have hb2 := z0.trans (hb1.mono z0.size))
  go_ret2
  exact ⟨rfl, hb2⟩

theorem totN_eq {K S : Int} {ys : List Int} {a : Nat} (hs : 0 ≤ S) : manyF K S ys a = ((totN K S ys a : Nat) : Int) := by
  unfold manyF totN
  split
  · rw [Int.natCast_mul, Int.toNat_of_nonneg hs]
  · rfl
set_option maxRecDepth 100000 in
theorem below_ok (K S : Int) (a : Nat) (A B : Option Addr) (n c m e : Nat) (xs ys : List Int) (w : World) (h : LvI w A n B m xs ys) (hE : lvF K S xs ys a = 0) :
    Calls Try.prog 11 #[lvV K S A n c B m e, .int .i64 a] w fun x w' => x = .returned (.tuple #[.int .i64 (totN K S ys a : Nat), .int .i64 0]) ∧ Below w.heap.size w w' := by
  have HC := fun W (hb : Below w.heap.size w W) => lvCheck_any K S a A B n c m e xs ys W (h.below hb).pos h.n1 (h.below hb).crd h.m1
  rw [hE] at HC
  obtain ⟨b, hab, HL⟩ := lok_of hE
  obtain rfl : b = a := by omega
  have HM := fun W => many_any K S (b : Int) A B n c m e ys W h.crd.1 h.m1 (by omega) (by have := HL.ahead; omega) HL.size0 HL.size1
  rw [totN_eq HL.size0] at HM
  have z0 := lvBelow w (lvO K S A n c B m e)
  have zz := heap_alloc_new w (lvO K S A n c B m e)
  clear hE HL hab
  go_enter Try.func11, Try.ntmps11
  go_wp2_with (first | (go_at_call 20; refine (HC _ z0).mono ?_; rintro x w1 ⟨rfl, hb1⟩; have hb2 := z0.trans (hb1.mono z0.size); obtain ⟨k0, k1, k2, k3, _⟩ := lvCells (oKeep hb1 zz)) | (go_at_call 29; refine (HM _).mono ?_; rintro x w3 ⟨rfl, hb3⟩; have hb4 := hb2.trans (hb3.mono hb2.size)))
  go_ret2
  exact ⟨rfl, hb4⟩

set_option maxRecDepth 100000 in
theorem of_err (K S a p E : Int) (A B : Option Addr) (n c m e : Nat) (xs ys : List Int) (w : World) (h : LvI w A n B m xs ys) (hE : lvF K S xs ys a = E) (h0 : E ≠ 0) :
    Calls Try.prog 31 #[lvV K S A n c B m e, .int .i64 a, .int .i64 p] w fun x w' => x = .returned (.tuple #[.int .i64 0, .int .i64 0, .int .i64 E]) ∧ Below w.heap.size w w' := by
  have HC := fun W (hb : Below w.heap.size w W) => lvCheck_any K S a A B n c m e xs ys W (h.below hb).pos h.n1 (h.below hb).crd h.m1
  rw [hE] at HC
  have z0 := lvBelow w (lvO K S A n c B m e)
  have e1 : (E == 0) = false := by simpa using h0
  have e2 : (E != 0) = true := by simpa using h0
  clear hE h0
  go_enter Try.func31, Try.ntmps31
  go_wp2_with (go_at_call 20; refine (HC _ z0).mono ?_; rintro x w1 ⟨rfl, hb1⟩; have hb2 := z0.trans (hb1.mono z0.size))
  go_ret3
  exact ⟨rfl, hb2⟩
set_option maxRecDepth 100000 in
theorem of_none (K S a p : Int) (A B : Option Addr) (n c m e : Nat) (xs ys : List Int) (w : World) (h : LvI w A n B m xs ys) (hE : lvF K S xs ys a = 0) (hp : p < 0 ∨ a ≤ p) :
    Calls Try.prog 31 #[lvV K S A n c B m e, .int .i64 a, .int .i64 p] w fun x w' => x = .returned (.tuple #[.int .i64 0, .int .i64 0, .int .i64 5]) ∧ Below w.heap.size w w' := by
  have HC := fun W (hb : Below w.heap.size w W) => lvCheck_any K S a A B n c m e xs ys W (h.below hb).pos h.n1 (h.below hb).crd h.m1
  rw [hE] at HC
  have z0 := lvBelow w (lvO K S A n c B m e)
  clear hE
  by_cases hp0 : p < 0
  · have d1 : decide (p < 0) = true := by simpa using hp0
    clear hp hp0
    go_enter Try.func31, Try.ntmps31
    go_wp2_with (go_at_call 20; refine (HC _ z0).mono ?_; rintro x w1 ⟨rfl, hb1⟩; have hb2 := z0.trans (hb1.mono z0.size))
    go_ret3
    exact ⟨rfl, hb2⟩
  · have d1 : decide (p < 0) = false := by simpa using hp0
    have d2 : decide (a ≤ p) = true := by simp; omega
    clear hp hp0
    go_enter Try.func31, Try.ntmps31
    go_wp2_with (go_at_call 20; refine (HC _ z0).mono ?_; rintro x w1 ⟨rfl, hb1⟩; have hb2 := z0.trans (hb1.mono z0.size))
    go_ret3
    exact ⟨rfl, hb2⟩
set_option maxRecDepth 100000 in
theorem of_ok (K S : Int) (a p : Nat) (A B : Option Addr) (n c m e : Nat) (xs ys : List Int) (w : World) (h : LvI w A n B m xs ys) (hE : lvF K S xs ys a = 0) (hp : p < a) :
    Calls Try.prog 31 #[lvV K S A n c B m e, .int .i64 a, .int .i64 p] w fun x w' => x = .returned (.tuple #[.int .i64 (offN K S xs p : Nat), .int .i64 (offN K S xs (p + 1) : Nat), .int .i64 0]) ∧ Below w.heap.size w w' := by
  have HC := fun W (hb : Below w.heap.size w W) => lvCheck_any K S a A B n c m e xs ys W (h.below hb).pos h.n1 (h.below hb).crd h.m1
  rw [hE] at HC
  obtain ⟨b, hab, HL⟩ := lok_of hE
  obtain rfl : b = a := by omega
  have HS := fun W (hb : Below w.heap.size w W) => span_ok K S A B n c m e p b xs ys W (h.below hb).pos HL hp
  have z0 := lvBelow w (lvO K S A n c B m e)
  have zz := heap_alloc_new w (lvO K S A n c B m e)
  have d1 : decide ((p : Int) < 0) = false := decide_eq_false (by omega)
  have d2 : decide ((b : Int) ≤ (p : Int)) = false := decide_eq_false (by omega)
  have d3 : ¬ (b : Int) ≤ (p : Int) := by omega
  clear hE HL hab
  go_enter Try.func31, Try.ntmps31
  go_wp2_with (first | (go_at_call 20; refine (HC _ z0).mono ?_; rintro x w1 ⟨rfl, hb1⟩; have hb2 := z0.trans (hb1.mono z0.size); obtain ⟨k0, k1, k2, k3, _⟩ := lvCells (oKeep hb1 zz)) | (go_at_call 38; refine (HS _ hb2).mono ?_; rintro x w3 ⟨rfl, hb3⟩; have hb4 := hb2.trans (hb3.mono hb2.size)))
  go_ret3
  exact ⟨rfl, hb4⟩

/-- the children of p -/
def kidsUpto (K S : Int) (xs ys : List Int) (p q : Nat) : List (Int × Int) := (List.range q).map fun i => (atN K S ys (offN K S xs p + i), ((offN K S xs p + i : Nat) : Int))
def kids (K S : Int) (xs ys : List Int) (p : Nat) : List (Int × Int) := kidsUpto K S xs ys p (offN K S xs (p + 1) - offN K S xs p)
theorem kidsUpto_length (K S : Int) (xs ys : List Int) (p q : Nat) : (kidsUpto K S xs ys p q).length = q := by simp [kidsUpto]
theorem kidsUpto_succ (K S : Int) (xs ys : List Int) (p q : Nat) : kidsUpto K S xs ys p (q + 1) = kidsUpto K S xs ys p q ++ [(atN K S ys (offN K S xs p + q), ((offN K S xs p + q : Nat) : Int))] := by simp [kidsUpto, List.range_succ]
theorem kids_length (K S : Int) (xs ys : List Int) (p : Nat) : (kids K S xs ys p).length = offN K S xs (p + 1) - offN K S xs p := kidsUpto_length _ _ _ _ _ _
theorem kids_at {K S : Int} {xs ys : List Int} {p i : Nat} (hi : i < offN K S xs (p + 1) - offN K S xs p) : (kids K S xs ys p)[i]? = some (atN K S ys (offN K S xs p + i), ((offN K S xs p + i : Nat) : Int)) := by
  unfold kids kidsUpto
  rw [List.getElem?_map, List.getElem?_range hi]; rfl

set_option maxRecDepth 100000 in
set_option maxHeartbeats 1000000 in
theorem children_ok (K S : Int) (a p : Nat) (A B : Option Addr) (n c m e : Nat) (xs ys : List Int) (w : World) (h : LvI w A n B m xs ys) (hE : lvF K S xs ys a = 0) (hp : p < a) :
    Calls Try.prog 13 #[lvV K S A n c B m e, .int .i64 a, .int .i64 p] w fun x w' => ∃ A' c', x = .returned (.tuple #[.slice A' (kids K S xs ys p).length c', .int .i64 0]) ∧ OwnC w' w.heap.size A' c' (kids K S xs ys p) ∧ Below w.heap.size w w' := by
  have HO := fun W (hb : Below w.heap.size w W) => of_ok K S a p A B n c m e xs ys W (h.below hb) hE hp
  obtain ⟨b, hab, HL⟩ := lok_of hE
  obtain rfl : b = a := by omega
  have hst := HL.step p hp
  have hlt := HL.le_tot (p := p + 1) (by omega)
  have htot := HL.tot
  have hsz := HL.size1
  have HPB : Hid (∀ q, q < totN K S ys b → 0 ≤ atN K S ys q ∧ atN K S ys q < S) := HL.place
  have HP := fun (k : Nat) W (hb : Below w.heap.size w W) (hk : k < totN K S ys b) => place_ok K S A B n c m e k b xs ys W (h.below hb).crd HL hk
  have z0 := lvBelow w (lvO K S A n c B m e)
  have zz := heap_alloc_new w (lvO K S A n c B m e)
  have HKL := Lib.hid (kids_length K S xs ys p)
  have HKS := Lib.hid (kidsUpto_succ K S xs ys p)
  have HKU := Lib.hid (kidsUpto_length K S xs ys p)
  have HKE : Hid (kids K S xs ys p = kidsUpto K S xs ys p (offN K S xs (p + 1) - offN K S xs p)) := rfl
  obtain ⟨o, ho⟩ : ∃ o, offN K S xs p = o := ⟨_, rfl⟩
  obtain ⟨o', ho'⟩ : ∃ o', offN K S xs (p + 1) = o' := ⟨_, rfl⟩
  obtain ⟨T, hT⟩ : ∃ T, totN K S ys b = T := ⟨_, rfl⟩
  rw [ho, ho'] at HO hst HKL HKE
  rw [ho'] at hlt
  rw [ho] at HKS
  rw [hT] at hlt htot HPB HP
  have hmk := fun W => run_makeKids (o' - o) (by omega) W
  have hsub : ((o' : Int) - (o : Int)) = ((o' - o : Nat) : Int) := by omega
  have HSB := Lib.hid hsub
  rw [← hsub] at hmk
  clear hE HL hab ho ho' hT hsub
  go_enter Try.func13, Try.ntmps13
  go_wp2_with (go_at_call 31; refine (HO _ z0).mono ?_; rintro x w1 ⟨rfl, hb1⟩; have hb2 := z0.trans (hb1.mono z0.size); have hk2 := oKeep hb1 zz; obtain ⟨k0, k1, k2, k3, _⟩ := lvCells hk2)
  have hs1 : w.heap.size + 1 ≤ w1.heap.size := by have := hb1.size; simp at this; omega
  have hb2' := hb2.alloc hb2.size (.cells (madeCells #[.int .i64 0, .int .i64 0] ((o' - o) * 2)) 47)
  have hk2' := oKeep (lvBelow w1 (.cells (madeCells #[.int .i64 0, .int .i64 0] ((o' - o) * 2)) 47)) hk2
  have hown := Lib.hid (OwnC.made w1 (w.heap.size + 1) (o' - o) hs1 (by omega))
  clear hmk k0 k1 k2 k3
  go_loopw [11, 12] (fun v i wr => ∃ (A' : Option Addr) (c' q k : Nat), v = .slice A' q c' ∧ i = .int .i64 (k : Int) ∧ Hid (k = o + q) ∧ o ≤ k ∧ k ≤ o' ∧ q ≤ o' ∧ Hid (OwnC wr (w.heap.size + 1) A' c' (kidsUpto K S xs ys p q)) ∧ wr.heap[w.heap.size]? = some (lvO K S A n c B m e) ∧ Below w.heap.size w wr ∧ w.heap.size + 1 ≤ wr.heap.size) (fun _ i _ => o' - (intOf i).toNat)
  case atStart => exact ⟨_, _, 0, o, rfl, rfl, rfl, Nat.le_refl _, hst, Nat.zero_le _, hown, hk2', hb2', by simp; omega⟩
  case round =>
    clear hown hk2' hb2' hs1 hb2 hk2 hb1 z0 zz HO
    obtain ⟨A', c', q, k, rfl, rfl, HQ, hk1, hk2, hq, HOWN, hblk, hb, hsz2⟩ := hrel
    by_cases hlt2 : k < o'
    · have hkT : k < T := by omega
      have HC := HP k wr hb hkT
      have hyb := HPB.out k hkT
      obtain ⟨y, hy⟩ : ∃ y, atN K S ys k = y := ⟨_, rfl⟩
      have HKS2 : Hid (kidsUpto K S xs ys p (q + 1) = kidsUpto K S xs ys p q ++ [(y, (k : Int))]) := by
        unfold Hid; rw [HKS.out q, ← HQ.out, hy]
      rw [hy] at HC hyb
      have HKU1 := Lib.hid (HKU.out q)
      obtain ⟨k0, k1, k2, k3, _⟩ := lvCells hblk
      have hfit : (-9223372036854775808 ≤ y ∧ y ≤ 9223372036854775807) ∧ (-9223372036854775808 ≤ (k : Int) ∧ (k : Int) ≤ 9223372036854775807) := by omega
      clear hy HP HPB hkT
      go_wp2_with (first | (go_at_call 32; refine HC.mono ?_; rintro x w2 ⟨rfl, hb3⟩; have hblk2 := oKeep hb3 hblk; have hb4 := hb.trans (hb3.mono hb.size); have hz4 := hb3.size; have HOWN2 := Lib.hid (HOWN.out.below hb3 (Nat.le_refl _)); clear hb3) | (at_builtin; refine wpList_appendChild rfl (.tmp 34) (.tmp 40) rfl (w.heap.size + 1) A' c' q (q + 1) y (k : Int) (kidsUpto K S xs ys p q) rfl rfl HOWN2.out hfit HKU1.out rfl (by omega) (by omega) ?_; intro A3 c3 w3 HO3 hb5; have HOWN3 := Lib.hid HO3; clear HO3; have hblk3 := (hb5.block w.heap.size (by omega)).trans hblk2; have hb6 := hb4.trans (hb5.mono (by omega)); have hz5 := hb5.size))
      go_roundw
      case rel => exact ⟨A3, c3, q + 1, k + 1, rfl, by go_num, by unfold Hid; have := HQ.out; omega, by omega, by omega, by have := HQ.out; omega, by unfold Hid; rw [HKS2.out]; exact HOWN3.out, hblk3, hb6, by omega⟩
      case measure => simp [intOf]; omega
    · have HE : Hid (q = o' - o) := by unfold Hid; have := HQ.out; omega
      have HQL : Hid (q = (kids K S xs ys p).length) := by unfold Hid; rw [HKL.out]; exact HE.out
      have HOF : Hid (OwnC wr w.heap.size A' c' (kids K S xs ys p)) := by unfold Hid; rw [HKE.out, ← HE.out]; exact HOWN.out.mono (by omega)
      go_wp2
      go_ret2
      exact ⟨A', c', ret_of (by rw [← HQL.out]; rfl), HOF.out, hb⟩

set_option maxRecDepth 100000 in
theorem children_none (K S a p : Int) (A B : Option Addr) (n c m e : Nat) (xs ys : List Int) (w : World) (h : LvI w A n B m xs ys) (hE : lvF K S xs ys a = 0) (hp : p < 0 ∨ a ≤ p) :
    Calls Try.prog 13 #[lvV K S A n c B m e, .int .i64 a, .int .i64 p] w fun x w' => x = .returned (.tuple #[.slice none 0 0, .int .i64 5]) ∧ Below w.heap.size w w' := by
  have HO := fun W (hb : Below w.heap.size w W) => of_none K S a p A B n c m e xs ys W (h.below hb) hE hp
  have z0 := lvBelow w (lvO K S A n c B m e)
  clear hE hp
  go_enter Try.func13, Try.ntmps13
  go_wp2_with (go_at_call 31; refine (HO _ z0).mono ?_; rintro x w1 ⟨rfl, hb1⟩; have hb2 := z0.trans (hb1.mono z0.size))
  go_ret2
  exact ⟨rfl, hb2⟩
set_option maxRecDepth 100000 in
theorem children_err (K S a p E : Int) (A B : Option Addr) (n c m e : Nat) (xs ys : List Int) (w : World) (h : LvI w A n B m xs ys) (hE : lvF K S xs ys a = E) (h0 : E ≠ 0) :
    Calls Try.prog 13 #[lvV K S A n c B m e, .int .i64 a, .int .i64 p] w fun x w' => x = .returned (.tuple #[.slice none 0 0, .int .i64 E]) ∧ Below w.heap.size w w' := by
  have HO := fun W (hb : Below w.heap.size w W) => of_err K S a p E A B n c m e xs ys W (h.below hb) hE h0
  have z0 := lvBelow w (lvO K S A n c B m e)
  have e1 : (E == 0) = false := by simpa using h0
  have e2 : (E != 0) = true := by simpa using h0
  clear hE h0
  go_enter Try.func13, Try.ntmps13
  go_wp2_with (go_at_call 31; refine (HO _ z0).mono ?_; rintro x w1 ⟨rfl, hb1⟩; have hb2 := z0.trans (hb1.mono z0.size))
  go_ret2
  exact ⟨rfl, hb2⟩
end Go.Proofs.Ytanbhpdobpiafaa
