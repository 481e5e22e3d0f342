/- The contracts of the document's children, Children, Find and Parent; and what the program and the document tell of a level, side by side: one answer for both. -/
import Derived.Test.YtanbhpdobpiafaaLRefB
import Derived.Test.YtanbhpdobpiafaaLParent
import Derived.Test.YtanbhpdobpiafaaLRefS
import Derived.Test.YtanbhpdobpiafaaLSame
import Derived.Laws.StructEq
namespace Go.Proofs.Ytanbhpdobpiafaa
open Go.RowKit

set_option maxRecDepth 100000 in
set_option maxHeartbeats 1000000 in
theorem refKids_whole (K S : Int) (a p : Nat) (A B : Option Addr) (n c m e : Nat) (xs ys : List Int) (w : World) (HL : Lok K S xs ys a) (hp : p < a) (hw : wholeB K = true) :
    Calls Try.prog 33 #[lvV K S A n c B m e, .int .i64 p] w fun x w' => ∃ A' c', x = .returned (.slice A' (kids K S xs ys p).length c') ∧ OwnC w' w.heap.size A' c' (kids K S xs ys p) ∧ Below w.heap.size w w' := by
  obtain ⟨s, rfl⟩ : ∃ s : Nat, S = s := ⟨S.toNat, by have := HL.size0; omega⟩
  have HW := fun W => refWhole_any K s A B n c m e W
  rw [hw] at HW
  have hlt := HL.le_tot (p := p + 1) (by omega)
  have htot := HL.tot
  have hnx := HL.wholeNext hw p
  rw [Int.toNat_natCast] at hnx
  have hps : ((offN K s xs p : Nat) : Int) = (p : Int) * (s : Int) := by unfold offN; rw [if_pos hw, Int.natCast_mul, Int.toNat_natCast]
  have HAT : Hid (∀ i, i < s → atN K s ys (offN K s xs p + i) = i) := fun i hi => HL.wholeAt hw p (by omega)
  have HKL := Lib.hid (kids_length K s xs ys p)
  have HKS := Lib.hid (kidsUpto_succ K s xs ys p)
  have HKU := Lib.hid (kidsUpto_length K s xs ys p)
  have HKE : Hid (kids K s xs ys p = kidsUpto K s xs ys p (offN K s xs (p + 1) - offN K s xs p)) := rfl
  obtain ⟨o, ho⟩ : ∃ o, offN K s xs p = o := ⟨_, rfl⟩
  rw [hnx] at hlt HKL HKE
  rw [ho] at hlt hps HAT HKS HKL HKE
  rw [Nat.add_sub_cancel_left] at HKL HKE
  have hos : o + s ≤ 1048576 := by omega
  have e1 : IntKind.i64.wrap ((p : Int) * (s : Int)) = (o : Int) := by rw [IntWalk.i64_in _ (by omega)]; exact hps.symm
  have z0 := lvBelow w (lvO K s A n c B m e)
  have zz := heap_alloc_new w (lvO K s A n c B m e)
  clear HL hlt htot hnx hps ho hw
  go_enter Try.func33, Try.ntmps33
  go_wp2_with (go_at_call 23; refine (HW _).mono ?_; rintro x w1 ⟨rfl, hb1⟩; have hb2 := z0.trans (hb1.mono z0.size); have hk2 := oKeep hb1 zz; obtain ⟨k0, k1, k2, k3, _⟩ := lvCells hk2)
  have hs1 : w.heap.size + 1 ≤ w1.heap.size := by have := hb1.size; simp at this; omega
  have hown := Lib.hid (OwnC.nil_ w1 (w.heap.size + 1))
  have hsa := Lib.hid hs1
  clear HW hb1 z0 zz k0 k1 k2 k3
  go_loopw [5, 38] (fun v i wr => ∃ (A' : Option Addr) (c' k : Nat), v = .slice A' k c' ∧ i = .int .i64 (k : Int) ∧ k ≤ s ∧ Hid (OwnC wr (w.heap.size + 1) A' c' (kidsUpto K s xs ys p k)) ∧ wr.heap[w.heap.size]? = some (lvO K s A n c B m e) ∧ Below w.heap.size w wr ∧ w.heap.size + 1 ≤ wr.heap.size) (fun _ i _ => s - (intOf i).toNat)
  case atStart => exact ⟨none, 0, 0, rfl, rfl, Nat.zero_le _, hown, hk2, hb2, hsa.out⟩
  case round =>
    clear hown hk2 hb2 hsa
    obtain ⟨A', c', k, rfl, rfl, hk, HOWN, hblk, hb, hsz2⟩ := hrel
    obtain ⟨k0, k1, k2, k3, _⟩ := lvCells hblk
    by_cases hlt2 : k < s
    · have HKS2 : Hid (kidsUpto K s xs ys p (k + 1) = kidsUpto K s xs ys p k ++ [((k : Int), ((o + k : Nat) : Int))]) := by
        unfold Hid; rw [HKS.out k, HAT.out k hlt2]
      have HKU1 := Lib.hid (HKU.out k)
      have hfit : (-9223372036854775808 ≤ (k : Int) ∧ (k : Int) ≤ 9223372036854775807) ∧ (-9223372036854775808 ≤ ((o + k : Nat) : Int) ∧ ((o + k : Nat) : Int) ≤ 9223372036854775807) := by omega
      have HOK : Hid (((o + k : Nat) : Int) = (o : Int) + (k : Int)) := by unfold Hid; omega
      rw [HOK.out] at HKS2 hfit
      go_wp2_with (at_builtin; refine wpList_appendChild rfl (.tmp 41) (.tmp 50) rfl (w.heap.size + 1) A' c' k (k + 1) (k : Int) ((o : Int) + (k : Int)) (kidsUpto K s xs ys p k) rfl rfl HOWN.out hfit HKU1.out rfl (by omega) (by omega) ?_; intro A3 c3 w3 HO3 hb5; have HOWN3 := Lib.hid HO3; clear HO3; have hblk3 := (hb5.block w.heap.size (by omega)).trans hblk; have hb6 := hb.trans (hb5.mono (by omega)); have hz5 := hb5.size)
      go_roundw
      case rel => exact ⟨A3, c3, k + 1, rfl, by go_num, by omega, by unfold Hid; rw [HKS2.out]; exact HOWN3.out, hblk3, hb6, by omega⟩
      case measure => simp [intOf]; omega
    · have HE : Hid (k = s) := by unfold Hid; omega
      have HQL : Hid (k = (kids K s xs ys p).length) := by unfold Hid; rw [HKL.out]; exact HE.out
      have HOF : Hid (OwnC wr w.heap.size A' c' (kids K s xs ys p)) := by unfold Hid; have q := HOWN.out.mono (base' := w.heap.size) (by omega); rw [HE.out] at q; rw [HKE.out]; exact q
      go_wp2
      go_ret
      exact ⟨A', c', ret_of (by rw [← HQL.out]; rfl), HOF.out, hb⟩

theorem kids_single {S : Int} {xs ys : List Int} {p : Nat} : kids 3 S xs ys p = [(atN 3 S ys p, (p : Int))] := by
  unfold kids kidsUpto
  have e : ∀ q, offN 3 S xs q = q := fun q => rfl
  rw [e, e, show p + 1 - p = 1 by omega]
  rfl
set_option maxRecDepth 100000 in
set_option maxHeartbeats 1000000 in
theorem refKids_single (S : Int) (a p : Nat) (A B : Option Addr) (n c m e : Nat) (xs ys : List Int) (w : World) (h : LvI w A n B m xs ys) (HL : Lok 3 S xs ys a) (hp : p < a) :
    Calls Try.prog 33 #[lvV 3 S A n c B m e, .int .i64 p] w fun x w' => ∃ A' c', x = .returned (.slice A' (kids 3 S xs ys p).length c') ∧ OwnC w' w.heap.size A' c' (kids 3 S xs ys p) ∧ Below w.heap.size w w' := by
  have HW := fun W => refWhole_any 3 S A B n c m e W
  have hwf : wholeB 3 = false := rfl
  rw [hwf] at HW
  have ht : p < totN 3 S ys a := by have := HL.crdLen hwf; have := HL.last; have e : offN 3 S xs a = a := rfl; omega
  have hsz := HL.size1
  have hpl := HL.place p ht
  have hy := HL.crdAt hwf p ht
  have hpm : p < m := by rw [← h.crd.1]; exact (List.getElem?_eq_some_iff.1 hy).1
  have hm := HL.crd
  rw [h.crd.1] at hm
  rw [kids_single]
  obtain ⟨v, hv⟩ : ∃ v, atN 3 S ys p = v := ⟨_, rfl⟩
  rw [hv] at hy hpl ⊢
  obtain ⟨b, off, x', rfl, hbb, HX, hc, hx1, hx2⟩ := h.crd.at_ hpm
  obtain rfl : x' = v := by have := HX.out; rw [hy] at this; injection this with this; exact this.symm
  have z0 := lvBelow w (lvO 3 S A n c (some ⟨b, off, none⟩) m e)
  have zz := heap_alloc_new w (lvO 3 S A n c (some ⟨b, off, none⟩) m e)
  have g1 : (p : Int) < (m : Int) := by omega
  have hfit : (-9223372036854775808 ≤ x' ∧ x' ≤ 9223372036854775807) ∧ (-9223372036854775808 ≤ (p : Int) ∧ (p : Int) ≤ 9223372036854775807) := by omega
  clear HL hpl hwf ht hy HX h hv hp
  go_enter Try.func33, Try.ntmps33
  go_wp2_with (first | (go_at_call 23; refine (HW _).mono ?_; rintro x w1 ⟨rfl, hb1⟩; have hb2 := z0.trans (hb1.mono z0.size); have hk2 := oKeep hb1 zz; obtain ⟨k0, k1, k2, k3, _⟩ := lvCells hk2; have hc2 := (hb2.cell (p := ⟨b, off + p, none⟩) hbb).trans hc; have hz1 := hb2.size; have HN := Lib.hid (OwnC.nil_ w1 w.heap.size)) | (at_builtin; refine wpList_appendChild rfl (.tmp 57) (.tmp 65) rfl w.heap.size none 0 0 1 x' (p : Int) [] rfl rfl HN.out hfit rfl rfl (by omega) (by omega) ?_; intro A3 c3 w3 HO3 hb5; have HOWN3 := Lib.hid HO3; clear HO3; have hb6 := hb2.trans (hb5.mono (by omega))))
  go_ret
  exact ⟨A3, c3, rfl, HOWN3.out, hb6⟩

set_option maxRecDepth 100000 in
set_option maxHeartbeats 1000000 in
theorem refKids_pos (K S : Int) (hK : K = 1 ∨ K = 2) (a p : Nat) (A B : Option Addr) (n c m e : Nat) (xs ys : List Int) (w : World) (h : LvI w A n B m xs ys) (HL : Lok K S xs ys a) (hp : p < a) :
    Calls Try.prog 33 #[lvV K S A n c B m e, .int .i64 p] w fun x w' => ∃ A' c', x = .returned (.slice A' (kids K S xs ys p).length c') ∧ OwnC w' w.heap.size A' c' (kids K S xs ys p) ∧ Below w.heap.size w w' := by
  have HW := fun W => refWhole_any K S A B n c m e W
  have hwf : wholeB K = false := by rcases hK with rfl | rfl <;> rfl
  rw [hwf] at HW
  have e3 : (K == 3) = false := by rcases hK with rfl | rfl <;> rfl
  have hst := HL.step p hp
  have hlt := HL.le_tot (p := p + 1) (by omega)
  have htot := HL.tot
  have hsz := HL.size1
  have hcr := HL.crdLen hwf
  have hcm := HL.crd
  rw [h.crd.1] at hcr hcm
  have hpl := HL.posLen hK
  rw [h.pos.1] at hpl
  have hx1 := HL.pos hK p (by omega)
  have hx2 := HL.pos hK (p + 1) (by omega)
  have HCA : Hid (∀ q, q < m → ys[q]? = some (atN K S ys q)) := fun q hq => HL.crdAt hwf q (by omega)
  have HPB : Hid (∀ q, q < m → 0 ≤ atN K S ys q ∧ atN K S ys q < S) := fun q hq => HL.place q (by omega)
  have hah := HL.ahead
  have z0 := lvBelow w (lvO K S A n c B m e)
  have zz := heap_alloc_new w (lvO K S A n c B m e)
  have HKL := Lib.hid (kids_length K S xs ys p)
  have HKS := Lib.hid (kidsUpto_succ K S xs ys p)
  have HKU := Lib.hid (kidsUpto_length K S xs ys p)
  have HKE : Hid (kids K S xs ys p = kidsUpto K S xs ys p (offN K S xs (p + 1) - offN K S xs p)) := rfl
  obtain ⟨o, ho⟩ : ∃ o, offN K S xs p = o := ⟨_, rfl⟩
  obtain ⟨o', ho'⟩ : ∃ o', offN K S xs (p + 1) = o' := ⟨_, rfl⟩
  rw [ho, ho'] at hst HKL HKE
  rw [ho] at hx1
  rw [ho'] at hlt hx2
  rw [ho] at HKS
  have hom : o' ≤ m := by omega
  have hn2 : p + 1 < n := by omega
  have HI := Lib.hid h
  obtain ⟨b, off, x1, rfl, hbb, HX, hc1, _, _⟩ := h.pos.at_ (k := p) (by omega)
  obtain ⟨b2, off2, x2, e2, hbb2, HZ, hc2, _, _⟩ := h.pos.at_ (k := p + 1) (by omega)
  injection e2 with e2; injection e2 with e2 e4; subst e2; subst e4
  obtain rfl : x1 = (o : Int) := by have := HX.out; rw [hx1] at this; injection this with this; exact this.symm
  obtain rfl : x2 = (o' : Int) := by have := HZ.out; rw [hx2] at this; injection this with this; exact this.symm
  have g0 : (0 : Int) ≤ (p : Int) + 1 := by omega
  have g1 : (p : Int) < (n : Int) := by omega
  have g2 : (p : Int) + 1 < (n : Int) := by omega
  have g4 : ((p : Int) + 1).toNat = p + 1 := by omega
  have hHB := Lib.hid hbb
  have e1 : IntKind.i64.wrap ((p : Int) + 1) = (p : Int) + 1 := by rw [IntWalk.i64_in _ (by omega)]
  have hnb : n ≤ 1048577 := by omega
  have hom2 : o' ≤ 65536 := by omega
  clear HL hlt htot hcr hpl hx1 hx2 ho ho' hwf HX HZ hbb2 h hp hK
  go_enter Try.func33, Try.ntmps33
  go_wp2_with (go_at_call 23; refine (HW _).mono ?_; rintro x w1 ⟨rfl, hb1⟩; have hb2 := z0.trans (hb1.mono z0.size); have hk2 := oKeep hb1 zz; obtain ⟨k0, k1, k2, k3, _⟩ := lvCells hk2; have hd1 := (hb2.cell (p := ⟨b, off + p, none⟩) hHB.out).trans hc1)
  have hs1 : w.heap.size + 1 ≤ w1.heap.size := by have := hb1.size; simp at this; omega
  have hown := Lib.hid (OwnC.nil_ w1 (w.heap.size + 1))
  have hsa := Lib.hid hs1
  clear HW hb1 z0 zz k0 k1 k2 k3 hd1
  go_loopw [5, 7] (fun v i wr => ∃ (A' : Option Addr) (c' q k : Nat), v = .slice A' q c' ∧ i = .int .i64 (k : Int) ∧ Hid (k = o + q) ∧ o ≤ k ∧ k ≤ o' ∧ q ≤ o' ∧ Hid (OwnC wr (w.heap.size + 1) A' c' (kidsUpto K S xs ys p q)) ∧ wr.heap[w.heap.size]? = some (lvO K S (some ⟨b, off, none⟩) n c B m e) ∧ Below w.heap.size w wr ∧ w.heap.size + 1 ≤ wr.heap.size) (fun _ i _ => o' - (intOf i).toNat)
  case atStart => exact ⟨none, 0, 0, o, rfl, rfl, rfl, Nat.le_refl _, hst, Nat.zero_le _, hown, hk2, hb2, hsa.out⟩
  case round =>
    clear hown hk2 hb2 hsa
    obtain ⟨A', c', q, k, rfl, rfl, HQ, hk1, hk2, hq, HOWN, hblk, hb, hsz2⟩ := hrel
    obtain ⟨k0, k1, k2, k3, _⟩ := lvCells hblk
    have hd2 := (hb.cell (p := ⟨b, off + (p + 1), none⟩) hHB.out).trans hc2
    by_cases hlt2 : k < o'
    · have hyb := HPB.out k (by omega)
      have hya := HCA.out k (by omega)
      obtain ⟨y, hy⟩ : ∃ y, atN K S ys k = y := ⟨_, rfl⟩
      have HKS2 : Hid (kidsUpto K S xs ys p (q + 1) = kidsUpto K S xs ys p q ++ [(y, (k : Int))]) := by
        unfold Hid; rw [HKS.out q, ← HQ.out, hy]
      rw [hy] at hyb hya
      obtain ⟨b3, off3, y', rfl, hbb3, HY, hc3, _, _⟩ := HI.out.crd.at_ (k := k) (by omega)
      obtain rfl : y' = y := by have := HY.out; rw [hya] at this; injection this with this; exact this.symm
      have hd3 := (hb.cell (p := ⟨b3, off3 + k, none⟩) hbb3).trans hc3
      have HKU1 := Lib.hid (HKU.out q)
      have g5 : (k : Int) < (m : Int) := by omega
      have hfit : (-9223372036854775808 ≤ y' ∧ y' ≤ 9223372036854775807) ∧ (-9223372036854775808 ≤ (k : Int) ∧ (k : Int) ≤ 9223372036854775807) := by omega
      clear hy HPB HCA hya HY hc3
      go_wp2_with (at_builtin; refine wpList_appendChild rfl (.tmp 23) (.tmp 31) rfl (w.heap.size + 1) A' c' q (q + 1) y' (k : Int) (kidsUpto K S xs ys p q) rfl rfl HOWN.out hfit HKU1.out rfl (by omega) (by omega) ?_; intro A3 c3 w3 HO3 hb5; have HOWN3 := Lib.hid HO3; clear HO3; have hblk3 := (hb5.block w.heap.size (by omega)).trans hblk; have hb6 := hb.trans (hb5.mono (by omega)); have hz5 := hb5.size)
      go_roundw
      case rel => exact ⟨A3, c3, q + 1, k + 1, rfl, by go_num, by unfold Hid; have := HQ.out; omega, by omega, by omega, by have := HQ.out; omega, by unfold Hid; rw [HKS2.out]; exact HOWN3.out, hblk3, hb6, by omega⟩
      case measure => simp [intOf]; omega
    · have HE : Hid (q = o' - o) := by unfold Hid; have := HQ.out; omega
      have HQL : Hid (q = (kids K S xs ys p).length) := by unfold Hid; rw [HKL.out]; exact HE.out
      have HOF : Hid (OwnC wr w.heap.size A' c' (kids K S xs ys p)) := by unfold Hid; rw [HKE.out, ← HE.out]; exact HOWN.out.mono (by omega)
      go_wp2
      go_ret
      exact ⟨A', c', ret_of (by rw [← HQL.out]; rfl), HOF.out, hb⟩

theorem refKids_ok (K S : Int) (a p : Nat) (A B : Option Addr) (n c m e : Nat) (xs ys : List Int) (w : World) (h : LvI w A n B m xs ys) (HL : Lok K S xs ys a) (hp : p < a) :
    Calls Try.prog 33 #[lvV K S A n c B m e, .int .i64 p] w fun x w' => ∃ A' c', x = .returned (.slice A' (kids K S xs ys p).length c') ∧ OwnC w' w.heap.size A' c' (kids K S xs ys p) ∧ Below w.heap.size w w' := by
  by_cases hw : wholeB K = true
  · exact refKids_whole K S a p A B n c m e xs ys w HL hp hw
  · have hk := HL.kind
    have hw' : wholeB K = false := by simpa using hw
    have hkn := wholeB_not.1 hw'
    by_cases h3 : K = 3
    · subst h3; exact refKids_single S a p A B n c m e xs ys w h HL hp
    · exact refKids_pos K S (by omega) a p A B n c m e xs ys w h HL hp

set_option maxRecDepth 100000 in
set_option maxHeartbeats 1000000 in
theorem refChildren_ok (K S : Int) (a p : Nat) (A B : Option Addr) (n c m e : Nat) (xs ys : List Int) (w : World) (h : LvI w A n B m xs ys) (hn : n ≤ 100000) (hm : m ≤ 100000) (hE : lvF K S xs ys a = 0) (hp : p < a) :
    Calls Try.prog 14 #[lvV K S A n c B m e, .int .i64 a, .int .i64 p] w fun x w' => ∃ A' c', x = .returned (.tuple #[.slice A' (kids K S xs ys p).length c', .int .i64 0]) ∧ OwnC w' w.heap.size A' c' (kids K S xs ys p) ∧ Below w.heap.size w w' := by
  have HC := fun W (hb : Below w.heap.size w W) => lvRefCheck_any K S a A B n c m e xs ys W (h.below hb) hn hm
  rw [hE] at HC
  obtain ⟨b, hab, HL⟩ := lok_of hE
  obtain rfl : b = a := by omega
  have HK := fun W (hb : Below w.heap.size w W) => refKids_ok K S b p A B n c m e xs ys W (h.below hb) HL hp
  have z0 := lvBelow w (lvO K S A n c B m e)
  have zz := heap_alloc_new w (lvO K S A n c B m e)
  have d1 : decide ((p : Int) < 0) = false := decide_eq_false (by omega)
  have d2 : decide ((b : Int) ≤ (p : Int)) = false := decide_eq_false (by omega)
  have d3 : ¬ (b : Int) ≤ (p : Int) := by omega
  obtain ⟨L, hL⟩ : ∃ L, kids K S xs ys p = L := ⟨_, rfl⟩
  rw [hL] at HK ⊢
  clear hE HL hab hL
  go_enter Try.func14, Try.ntmps14
  go_wp2_with (first | (go_at_call 21; refine (HC _ z0).mono ?_; rintro x w1 ⟨rfl, hb1⟩; have hb2 := z0.trans (hb1.mono z0.size); obtain ⟨k0, k1, k2, k3, _⟩ := lvCells (oKeep hb1 zz)) | (go_at_call 33; refine (HK _ hb2).mono ?_; rintro x w3 ⟨A2, c2, rfl, HO, hb3⟩; have HO2 := Lib.hid HO; clear HO; have hb4 := hb2.trans (hb3.mono hb2.size)))
  go_ret2
  exact ⟨A2, c2, rfl, HO2.out.mono hb2.size, hb4⟩

set_option maxRecDepth 100000 in
theorem refFind_err (K S a p t E : Int) (A B : Option Addr) (n c m e : Nat) (xs ys : List Int) (w : World) (h : LvI w A n B m xs ys) (hn : n ≤ 100000) (hm : m ≤ 100000) (hE : lvF K S xs ys a = E) (h0 : E ≠ 0) :
    Calls Try.prog 16 #[lvV K S A n c B m e, .int .i64 a, .int .i64 p, .int .i64 t] w fun x w' => x = .returned (.tuple #[.int .i64 0, .bool false, .int .i64 E]) ∧ Below w.heap.size w w' := by
  have HO := fun W (hb : Below w.heap.size w W) => refChildren_err K S a p E A B n c m e xs ys W (h.below hb) hn hm hE h0
  have z0 := lvBelow w (lvO K S A n c B m e)
  have e1 : (E == 0) = false := by simpa using h0
  have e2 : (E != 0) = true := by simpa using h0
  clear hE h0
  go_enter Try.func16, Try.ntmps16
  go_wp2_with (go_at_call 14; refine (HO _ z0).mono ?_; rintro x w1 ⟨rfl, hb1⟩; have hb2 := z0.trans (hb1.mono z0.size))
  go_ret3
  exact ⟨rfl, hb2⟩
set_option maxRecDepth 100000 in
theorem refFind_none (K S a p t : Int) (A B : Option Addr) (n c m e : Nat) (xs ys : List Int) (w : World) (h : LvI w A n B m xs ys) (hn : n ≤ 100000) (hm : m ≤ 100000) (hE : lvF K S xs ys a = 0) (hp : p < 0 ∨ a ≤ p) :
    Calls Try.prog 16 #[lvV K S A n c B m e, .int .i64 a, .int .i64 p, .int .i64 t] w fun x w' => x = .returned (.tuple #[.int .i64 0, .bool false, .int .i64 5]) ∧ Below w.heap.size w w' := by
  have HO := fun W (hb : Below w.heap.size w W) => refChildren_none K S a p A B n c m e xs ys W (h.below hb) hn hm hE hp
  have z0 := lvBelow w (lvO K S A n c B m e)
  clear hE hp
  go_enter Try.func16, Try.ntmps16
  go_wp2_with (go_at_call 14; refine (HO _ z0).mono ?_; rintro x w1 ⟨rfl, hb1⟩; have hb2 := z0.trans (hb1.mono z0.size))
  go_ret3
  exact ⟨rfl, hb2⟩
set_option maxRecDepth 100000 in
set_option maxHeartbeats 1000000 in
theorem refFind_ok (K S t : Int) (a p : Nat) (A B : Option Addr) (n c m e : Nat) (xs ys : List Int) (w : World) (h : LvI w A n B m xs ys) (hn : n ≤ 100000) (hm : m ≤ 100000) (hE : lvF K S xs ys a = 0) (hp : p < a) :
    Calls Try.prog 16 #[lvV K S A n c B m e, .int .i64 a, .int .i64 p, .int .i64 t] w fun x w' => x = .returned (.tuple #[.int .i64 (findF K S xs ys p t).1, .bool (findF K S xs ys p t).2, .int .i64 0]) ∧ Below w.heap.size w w' := by
  have HO := fun W (hb : Below w.heap.size w W) => refChildren_ok K S a p A B n c m e xs ys W (h.below hb) hn hm hE hp
  obtain ⟨b, hab, HL⟩ := lok_of hE
  obtain rfl : b = a := by omega
  have hlen : (kids K S xs ys p).length ≤ 1048576 := by
    rw [kids_length]
    have := HL.le_tot (p := p + 1) (by omega)
    have := HL.tot
    omega
  have HFH : Hid (∀ i x, (kids K S xs ys p)[i]? = some x → (x.1 == t) = true → (∀ (j : Nat) (y : Int × Int), j < i → (kids K S xs ys p)[j]? = some y → (y.1 == t) = false) → findF K S xs ys p t = (x.2, true)) := by
    intro i x hx hf hb
    unfold findF
    rw [find_first hx hf hb]
  have HFM : Hid ((∀ (j : Nat) (y : Int × Int), (kids K S xs ys p)[j]? = some y → (y.1 == t) = false) → findF K S xs ys p t = (0, false)) := by
    intro hb
    unfold findF
    rw [find_none hb]
  have z0 := lvBelow w (lvO K S A n c B m e)
  obtain ⟨L, hL⟩ : ∃ L, kids K S xs ys p = L := ⟨_, rfl⟩
  rw [hL] at HO HFH HFM hlen
  obtain ⟨N, hN⟩ : ∃ N, L.length = N := ⟨_, rfl⟩
  rw [hN] at HO hlen
  have HNL := Lib.hid hN
  obtain ⟨F, hF⟩ : ∃ F, findF K S xs ys p t = F := ⟨_, rfl⟩
  rw [hF] at HFH HFM ⊢
  clear hE HL hab hL hN hF hp
  go_enter Try.func16, Try.ntmps16
  go_wp2_with (go_at_call 14; refine (HO _ z0).mono ?_; rintro x w1 ⟨A2, c2, rfl, HO1, hb1⟩; have hb2 := z0.trans (hb1.mono z0.size); have HC1 := Lib.hid HO1.chs; clear HO1)
  rw [HNL.out] at HC1
  clear HO z0 hb1
  go_loopw [27] (fun v wr => ∃ i : Nat, v = .int .i64 (i : Int) ∧ i ≤ N ∧ Hid (∀ (j : Nat) (y : Int × Int), j < i → L[j]? = some y → (y.1 == t) = false) ∧ Below w1.heap.size w1 wr) (fun v _ => N - (intOf v).toNat)
  case atStart => exact ⟨0, rfl, Nat.zero_le _, by unfold Hid; intro j y hj; omega, Below.refl _ _⟩
  case round =>
    obtain ⟨i, rfl, hi, HB, hb⟩ := hrel
    by_cases hlt : i < N
    · obtain ⟨b5, off5, x, rfl, _, HX, hc0, hc1, hx1, hx2⟩ := (HC1.out.below hb).at_ hlt
      obtain ⟨x1, x2⟩ := x
      dsimp only at hc0 hc1 hx1 hx2
      have z5 := lvBelow wr (.cells #[.int .i64 x1, .int .i64 x2] 47)
      have hb6 := hb.trans (z5.mono hb.size)
      by_cases hxt : x1 = t
      · have d1 : (x1 == t) = true := by simpa using hxt
        have HF : Hid (F = (x2, true)) := HFH.out i _ HX.out d1 HB.out
        clear hxt
        go_wp2
        go_ret3
        exact ⟨ret_of (by rw [HF.out]; rfl), hb2.trans (hb6.mono hb2.size)⟩
      · have d1 : (x1 == t) = false := by simpa using hxt
        have HB2 : Hid (∀ (j : Nat) (y : Int × Int), j < i + 1 → L[j]? = some y → (y.1 == t) = false) := by
          intro j y hj hy
          by_cases hji : j = i
          · subst hji; have := HX.out; rw [this] at hy; injection hy with hy; subst hy; exact d1
          · exact HB.out j y (by omega) hy
        clear hxt
        go_wp2
        go_roundw
        case rel => exact ⟨i + 1, by go_num, by omega, HB2, hb6⟩
        case measure => simp [intOf]; omega
    · have HF : Hid (F = (0, false)) := HFM.out (fun j y hy => HB.out j y (by have := (List.getElem?_eq_some_iff.1 hy).1; have := HNL.out; omega) hy)
      go_wp2
      go_ret3
      exact ⟨ret_of (by rw [HF.out]; rfl), hb2.trans (hb.mono hb2.size)⟩

set_option maxRecDepth 100000 in
theorem refParent_err (K S a k E : Int) (A B : Option Addr) (n c m e : Nat) (xs ys : List Int) (w : World) (h : LvI w A n B m xs ys) (hn : n ≤ 100000) (hm : m ≤ 100000) (hE : lvF K S xs ys a = E) (h0 : E ≠ 0) :
    Calls Try.prog 18 #[lvV K S A n c B m e, .int .i64 a, .int .i64 k] w fun x w' => x = .returned (.tuple #[.int .i64 0, .int .i64 0, .int .i64 E]) ∧ Below w.heap.size w w' := by
  have HC := fun W (hb : Below w.heap.size w W) => lvRefCheck_any K S a A B n c m e xs ys W (h.below hb) hn hm
  rw [hE] at HC
  have z0 := lvBelow w (lvO K S A n c B m e)
  have e1 : (E == 0) = false := by simpa using h0
  have e2 : (E != 0) = true := by simpa using h0
  clear hE h0
  go_enter Try.func18, Try.ntmps18
  go_wp2_with (go_at_call 21; refine (HC _ z0).mono ?_; rintro x w1 ⟨rfl, hb1⟩; have hb2 := z0.trans (hb1.mono z0.size))
  go_ret3
  exact ⟨rfl, hb2⟩
set_option maxRecDepth 100000 in
theorem refParent_none (K S k : Int) (a : Nat) (A B : Option Addr) (n c m e : Nat) (xs ys : List Int) (w : World) (h : LvI w A n B m xs ys) (hn : n ≤ 100000) (hm : m ≤ 100000) (hE : lvF K S xs ys a = 0) (hk : k < 0 ∨ (totN K S ys a : Int) ≤ k) :
    Calls Try.prog 18 #[lvV K S A n c B m e, .int .i64 a, .int .i64 k] w fun x w' => x = .returned (.tuple #[.int .i64 0, .int .i64 0, .int .i64 5]) ∧ Below w.heap.size w w' := by
  have HC := fun W (hb : Below w.heap.size w W) => lvRefCheck_any K S a A B n c m e xs ys W (h.below hb) hn hm
  rw [hE] at HC
  obtain ⟨b, hab, HL⟩ := lok_of hE
  obtain rfl : b = a := by omega
  have HM := fun W => refMany_any K S (b : Int) A B n c m e ys W h.crd.1 h.m1 (by omega) (by have := HL.ahead; omega) HL.size0 HL.size1
  rw [totN_eq HL.size0] at HM
  have z0 := lvBelow w (lvO K S A n c B m e)
  have zz := heap_alloc_new w (lvO K S A n c B m e)
  obtain ⟨T, hT⟩ : ∃ T, totN K S ys b = T := ⟨_, rfl⟩
  rw [hT] at HM hk
  clear hE HL hab hT
  by_cases hk0 : k < 0
  · have d1 : decide (k < 0) = true := by simpa using hk0
    clear hk hk0
    go_enter Try.func18, Try.ntmps18
    go_wp2_with (go_at_call 21; refine (HC _ z0).mono ?_; rintro x w1 ⟨rfl, hb1⟩; have hb2 := z0.trans (hb1.mono z0.size); obtain ⟨k0, k1, k2, k3, _⟩ := lvCells (oKeep hb1 zz))
    go_ret3
    exact ⟨rfl, hb2⟩
  · have d1 : decide (k < 0) = false := by simpa using hk0
    have d2 : decide ((T : Int) ≤ k) = true := decide_eq_true (by omega)
    clear hk hk0
    go_enter Try.func18, Try.ntmps18
    go_wp2_with (first | (go_at_call 21; refine (HC _ z0).mono ?_; rintro x w1 ⟨rfl, hb1⟩; have hb2 := z0.trans (hb1.mono z0.size); obtain ⟨k0, k1, k2, k3, _⟩ := lvCells (oKeep hb1 zz)) | (go_at_call 30; refine (HM _).mono ?_; rintro x w3 ⟨rfl, hb3⟩; have hb4 := hb2.trans (hb3.mono hb2.size)))
    go_ret3
    exact ⟨rfl, hb4⟩

set_option maxRecDepth 100000 in
set_option maxHeartbeats 1000000 in
theorem refParent_whole (K S : Int) (a k p : Nat) (A B : Option Addr) (n c m e : Nat) (xs ys : List Int) (w : World) (h : LvI w A n B m xs ys) (hn : n ≤ 100000) (hm : m ≤ 100000) (hE : lvF K S xs ys a = 0) (hp : p < a) (hp1 : offN K S xs p ≤ k) (hp2 : k < offN K S xs (p + 1)) (hw : wholeB K = true) :
    Calls Try.prog 18 #[lvV K S A n c B m e, .int .i64 a, .int .i64 k] w fun x w' => x = .returned (.tuple #[.int .i64 p, .int .i64 (atN K S ys k), .int .i64 0]) ∧ Below w.heap.size w w' := by
  have HC := fun W (hb : Below w.heap.size w W) => lvRefCheck_any K S a A B n c m e xs ys W (h.below hb) hn hm
  rw [hE] at HC
  obtain ⟨b, hab, HL⟩ := lok_of hE
  obtain rfl : b = a := by omega
  have HM := fun W => refMany_any K S (b : Int) A B n c m e ys W h.crd.1 h.m1 (by omega) (by have := HL.ahead; omega) HL.size0 HL.size1
  rw [totN_eq HL.size0] at HM
  have HW := fun W => refWhole_any K S A B n c m e W
  rw [hw] at HW
  have hkt : k < totN K S ys b := by have := HL.le_tot (p := p + 1) (by omega); omega
  have htt := HL.tot
  obtain ⟨s, rfl⟩ : ∃ s : Nat, S = s := ⟨S.toNat, by have := HL.size0; omega⟩
  have hs1 := HL.size1
  have ho : ∀ q, offN K s xs q = q * s := fun q => by unfold offN; rw [if_pos hw, Int.toNat_natCast]
  rw [ho] at hp1 hp2
  have hs : 0 < s := by
    rcases Nat.eq_zero_or_pos s with rfl | h
    · simp at hp2
    · exact h
  have hdiv : k / s = p := by
    refine Nat.div_eq_of_lt_le hp1 hp2
  have hat : atN K s ys k = ((k % s : Nat) : Int) := by unfold atN; rw [if_pos hw, Int.natCast_emod]
  rw [hat]
  have hms : k % s < s := Nat.mod_lt _ hs
  have hml : k % s ≤ k := Nat.mod_le _ _
  have e5 : (k : Int) / (s : Int) = (p : Int) := by rw [← Int.natCast_ediv, hdiv]
  have e6 : (k : Int) % (s : Int) = ((k % s : Nat) : Int) := by rw [Int.natCast_emod]
  have e7 : (k : Int).tdiv (s : Int) = (p : Int) := by rw [Int.tdiv_eq_ediv_of_nonneg (by omega), e5]
  have e8 : (k : Int).tmod (s : Int) = ((k % s : Nat) : Int) := by rw [Int.tmod_eq_emod_of_nonneg (by omega), e6]
  obtain ⟨r, hr⟩ : ∃ r, k % s = r := ⟨_, rfl⟩
  rw [hr] at e6 e8 hms hml ⊢
  have z0 := lvBelow w (lvO K s A n c B m e)
  have zz := heap_alloc_new w (lvO K s A n c B m e)
  obtain ⟨T, hT⟩ : ∃ T, totN K s ys b = T := ⟨_, rfl⟩
  rw [hT] at HM hkt htt
  have d1 : decide ((k : Int) < 0) = false := decide_eq_false (by omega)
  have d2 : decide ((T : Int) ≤ (k : Int)) = false := decide_eq_false (by omega)
  have d3 : ¬ (T : Int) ≤ (k : Int) := by omega
  have d4 : ¬ (s : Int) = 0 := by omega
  have hpb : p ≤ 1048576 := by have := HL.ahead; omega
  have hkb : k ≤ 1048576 := by omega
  have hE5 := Lib.hid e5
  have hE6 := Lib.hid e6
  clear hE HL hab hT hp1 hp2 ho hdiv hat hr htt hkt hw hp
  go_enter Try.func18, Try.ntmps18
  go_wp2_with (first | (go_at_call 21; refine (HC _ z0).mono ?_; rintro x w1 ⟨rfl, hb1⟩; have hb2 := z0.trans (hb1.mono z0.size); have hk2 := oKeep hb1 zz; obtain ⟨k0, k1, k2, k3, _⟩ := lvCells hk2) | (go_at_call 30; refine (HM _).mono ?_; rintro x w3 ⟨rfl, hb3⟩; have hb4 := hb2.trans (hb3.mono hb2.size); have hk4 := oKeep hb3 hk2; obtain ⟨l0, l1, l2, l3, _⟩ := lvCells hk4) | (go_at_call 23; refine (HW _).mono ?_; rintro x w5 ⟨rfl, hb5⟩; have hb6 := hb4.trans (hb5.mono hb4.size); have hk6 := oKeep hb5 hk4; obtain ⟨m0, m1, m2, m3, _⟩ := lvCells hk6))
  go_quiet (fail)
  go_wp2
  go_ret3
  exact ⟨rfl, below_drewN2 hb6 _⟩

set_option maxRecDepth 100000 in
set_option maxHeartbeats 1000000 in
theorem refParent_single (S : Int) (a k p : Nat) (A B : Option Addr) (n c m e : Nat) (xs ys : List Int) (w : World) (h : LvI w A n B m xs ys) (hn : n ≤ 100000) (hm : m ≤ 100000) (hE : lvF 3 S xs ys a = 0) (hp : p < a) (hp1 : offN 3 S xs p ≤ k) (hp2 : k < offN 3 S xs (p + 1)) :
    Calls Try.prog 18 #[lvV 3 S A n c B m e, .int .i64 a, .int .i64 k] w fun x w' => x = .returned (.tuple #[.int .i64 p, .int .i64 (atN 3 S ys k), .int .i64 0]) ∧ Below w.heap.size w w' := by
  obtain rfl : p = k := by
    have e : ∀ q, offN 3 S xs q = q := fun q => rfl
    rw [e] at hp1 hp2; omega
  have HC := fun W (hb : Below w.heap.size w W) => lvRefCheck_any 3 S a A B n c m e xs ys W (h.below hb) hn hm
  rw [hE] at HC
  obtain ⟨b, hab, HL⟩ := lok_of hE
  obtain rfl : b = a := by omega
  have HM := fun W => refMany_any 3 S (b : Int) A B n c m e ys W h.crd.1 h.m1 (by omega) (by have := HL.ahead; omega) HL.size0 HL.size1
  rw [totN_eq HL.size0] at HM
  have hwf : wholeB 3 = false := rfl
  have HW := fun W => refWhole_any 3 S A B n c m e W
  rw [hwf] at HW
  have ht : p < totN 3 S ys b := by have := HL.le_tot (p := p + 1) (by omega); omega
  have hy := HL.crdAt hwf p ht
  have hpm : p < m := by rw [← h.crd.1]; exact (List.getElem?_eq_some_iff.1 hy).1
  have hm2 := HL.crd
  rw [h.crd.1] at hm2
  obtain ⟨v, hv⟩ : ∃ v, atN 3 S ys p = v := ⟨_, rfl⟩
  rw [hv] at hy ⊢
  obtain ⟨b1, off, x', rfl, hbb, HX, hc, hx1, hx2⟩ := h.crd.at_ hpm
  obtain rfl : x' = v := by have := HX.out; rw [hy] at this; injection this with this; exact this.symm
  have z0 := lvBelow w (lvO 3 S A n c (some ⟨b1, off, none⟩) m e)
  have zz := heap_alloc_new w (lvO 3 S A n c (some ⟨b1, off, none⟩) m e)
  obtain ⟨T, hT⟩ : ∃ T, totN 3 S ys b = T := ⟨_, rfl⟩
  rw [hT] at HM ht
  have g1 : (p : Int) < (m : Int) := by omega
  have g0 : (0 : Int) ≤ (p : Int) := by omega
  have d1 : decide ((p : Int) < 0) = false := decide_eq_false (by omega)
  have d2 : decide ((T : Int) ≤ (p : Int)) = false := decide_eq_false (by omega)
  have d3 : ¬ (T : Int) ≤ (p : Int) := by omega
  clear hE HL hab hT hp1 hp2 hy HX h hv hp
  go_enter Try.func18, Try.ntmps18
  go_wp2_with (first | (go_at_call 21; refine (HC _ z0).mono ?_; rintro x w1 ⟨rfl, hb1⟩; have hb2 := z0.trans (hb1.mono z0.size); have hk2 := oKeep hb1 zz; obtain ⟨k0, k1, k2, k3, _⟩ := lvCells hk2) | (go_at_call 30; refine (HM _).mono ?_; rintro x w3 ⟨rfl, hb3⟩; have hb4 := hb2.trans (hb3.mono hb2.size); have hk4 := oKeep hb3 hk2; obtain ⟨l0, l1, l2, l3, _⟩ := lvCells hk4) | (go_at_call 23; refine (HW _).mono ?_; rintro x w5 ⟨rfl, hb5⟩; have hb6 := hb4.trans (hb5.mono hb4.size); have hk6 := oKeep hb5 hk4; obtain ⟨m0, m1, m2, m3, _⟩ := lvCells hk6; have hc2 := (hb6.cell (p := ⟨b1, off + p, none⟩) hbb).trans hc))
  go_quiet (fail)
  go_wp2
  go_ret3
  exact ⟨rfl, below_drewN2 hb6 _⟩

set_option maxRecDepth 100000 in
set_option maxHeartbeats 1000000 in
theorem refParent_pos (K S : Int) (hK : K = 1 ∨ K = 2) (a k p : Nat) (A B : Option Addr) (n c m e : Nat) (xs ys : List Int) (w : World) (h : LvI w A n B m xs ys) (hn : n ≤ 100000) (hm : m ≤ 100000) (hE : lvF K S xs ys a = 0) (hp : p < a) (hp1 : offN K S xs p ≤ k) (hp2 : k < offN K S xs (p + 1)) :
    Calls Try.prog 18 #[lvV K S A n c B m e, .int .i64 a, .int .i64 k] w fun x w' => x = .returned (.tuple #[.int .i64 p, .int .i64 (atN K S ys k), .int .i64 0]) ∧ Below w.heap.size w w' := by
  have HC := fun W (hb : Below w.heap.size w W) => lvRefCheck_any K S a A B n c m e xs ys W (h.below hb) hn hm
  rw [hE] at HC
  obtain ⟨b, hab, HL⟩ := lok_of hE
  obtain rfl : b = a := by omega
  have HM := fun W => refMany_any K S (b : Int) A B n c m e ys W h.crd.1 h.m1 (by omega) (by have := HL.ahead; omega) HL.size0 HL.size1
  rw [totN_eq HL.size0] at HM
  have hwf : wholeB K = false := by rcases hK with rfl | rfl <;> rfl
  have e3 : (K == 3) = false := by rcases hK with rfl | rfl <;> rfl
  have HW := fun W => refWhole_any K S A B n c m e W
  rw [hwf] at HW
  have ht : k < totN K S ys b := by have := HL.le_tot (p := p + 1) (by omega); omega
  have hy := HL.crdAt hwf k ht
  have hpm : k < m := by rw [← h.crd.1]; exact (List.getElem?_eq_some_iff.1 hy).1
  have hm2 := HL.crd
  rw [h.crd.1] at hm2
  have hpl := HL.posLen hK
  rw [h.pos.1] at hpl
  have HPX : Hid (∀ i, i ≤ p → ∃ x : Int, xs[i + 1]? = some x ∧ (x ≤ k ↔ i < p)) := by
    intro i hi
    refine ⟨_, HL.pos hK (i + 1) (by omega), ?_⟩
    rcases Nat.lt_or_ge i p with hh | hh
    · have := HL.mono (p := i + 1) (q := p) (by omega) (by omega); exact ⟨fun _ => hh, fun _ => by omega⟩
    · obtain rfl : i = p := by omega
      exact ⟨fun hq => by omega, fun hq => by omega⟩
  have hah := HL.ahead
  obtain ⟨v, hv⟩ : ∃ v, atN K S ys k = v := ⟨_, rfl⟩
  rw [hv] at hy ⊢
  obtain ⟨b1, off, x', rfl, hbb, HX, hc, hx1, hx2⟩ := h.crd.at_ hpm
  obtain rfl : x' = v := by have := HX.out; rw [hy] at this; injection this with this; exact this.symm
  have z0 := lvBelow w (lvO K S A n c (some ⟨b1, off, none⟩) m e)
  have zz := heap_alloc_new w (lvO K S A n c (some ⟨b1, off, none⟩) m e)
  obtain ⟨T, hT⟩ : ∃ T, totN K S ys b = T := ⟨_, rfl⟩
  rw [hT] at HM ht
  have g1 : (k : Int) < (m : Int) := by omega
  have g0 : (0 : Int) ≤ (k : Int) := by omega
  have d1 : decide ((k : Int) < 0) = false := decide_eq_false (by omega)
  have d2 : decide ((T : Int) ≤ (k : Int)) = false := decide_eq_false (by omega)
  have d3 : ¬ (T : Int) ≤ (k : Int) := by omega
  have HI := Lib.hid h.pos
  have HBB := Lib.hid hbb
  have HC1 := Lib.hid hc
  have hpn : p + 1 < n := by omega
  clear hE HL hab hT hp1 hp2 hy HX h hv hp hpl hbb hc
  go_enter Try.func18, Try.ntmps18
  go_wp2_with (first | (go_at_call 21; refine (HC _ z0).mono ?_; rintro x w1 ⟨rfl, hb1⟩; have hb2 := z0.trans (hb1.mono z0.size); have hk2 := oKeep hb1 zz; obtain ⟨k0, k1, k2, k3, _⟩ := lvCells hk2) | (go_at_call 30; refine (HM _).mono ?_; rintro x w3 ⟨rfl, hb3⟩; have hb4 := hb2.trans (hb3.mono hb2.size); have hk4 := oKeep hb3 hk2; obtain ⟨l0, l1, l2, l3, _⟩ := lvCells hk4) | (go_at_call 23; refine (HW _).mono ?_; rintro x w5 ⟨rfl, hb5⟩; have hb6 := hb4.trans (hb5.mono hb4.size); have hk6 := oKeep hb5 hk4; obtain ⟨m0, m1, m2, m3, _⟩ := lvCells hk6))
  have HK6 := Lib.hid hk6
  clear HC HM HW z0 zz hb1 hb2 hb3 hb4 hb5 hk2 hk4 hk6 k0 k1 k2 k3 l0 l1 l2 l3 m0 m1 m2 m3
  go_loop [10] (fun v => ∃ i : Nat, v = .int .i64 (i : Int) ∧ i ≤ p) (fun v => p - (intOf v).toNat)
  case atStart => exact ⟨0, rfl, Nat.zero_le _⟩
  case round =>
    obtain ⟨i, rfl, hi⟩ := hrel
    obtain ⟨m0, m1, m2, m3, _⟩ := lvCells HK6.out
    obtain ⟨x, hx, hxi⟩ := HPX.out i hi
    obtain ⟨b7, off7, y, rfl, hbb7, HY, hc7, _, _⟩ := HI.out.at_ (k := i + 1) (by omega)
    obtain rfl : y = x := by have := HY.out; rw [hx] at this; injection this with this; exact this.symm
    have hc8 := (hb6.cell (p := ⟨b7, off7 + (i + 1), none⟩) hbb7).trans hc7
    have hc2 := (hb6.cell (p := ⟨b1, off + k, none⟩) HBB.out).trans HC1.out
    have e1 : IntKind.i64.wrap ((i : Int) + 1) = (i : Int) + 1 := by rw [IntWalk.i64_in _ (by omega)]
    have g2 : (0 : Int) ≤ (i : Int) + 1 := by omega
    have g3 : (i : Int) + 1 < (n : Int) := by omega
    have g4 : ((i : Int) + 1).toNat = i + 1 := by omega
    clear hx HY hc7
    by_cases hip : i < p
    · have d5 : decide (y ≤ (k : Int)) = true := decide_eq_true (hxi.2 hip)
      clear hxi
      go_wp2
      go_round
      case rel => exact ⟨i + 1, by go_num, by omega⟩
      case measure => simp [intOf]; omega
    · have d5 : decide (y ≤ (k : Int)) = false := decide_eq_false (fun q => hip (hxi.1 q))
      have HIP : Hid (i = p) := by unfold Hid; omega
      clear hxi hip
      go_wp2
      go_quiet (fail)
      go_wp2
      go_ret3
      exact ⟨ret_of (by rw [← HIP.out]; rfl), below_drewN2 hb6 _⟩

theorem refParent_ok (K S : Int) (a k p : Nat) (A B : Option Addr) (n c m e : Nat) (xs ys : List Int) (w : World) (h : LvI w A n B m xs ys) (hn : n ≤ 100000) (hm : m ≤ 100000) (hE : lvF K S xs ys a = 0) (hp : p < a) (hp1 : offN K S xs p ≤ k) (hp2 : k < offN K S xs (p + 1)) :
    Calls Try.prog 18 #[lvV K S A n c B m e, .int .i64 a, .int .i64 k] w fun x w' => x = .returned (.tuple #[.int .i64 p, .int .i64 (atN K S ys k), .int .i64 0]) ∧ Below w.heap.size w w' := by
  by_cases hw : wholeB K = true
  · exact refParent_whole K S a k p A B n c m e xs ys w h hn hm hE hp hp1 hp2 hw
  · obtain ⟨_, _, HL⟩ := lok_of hE
    have hk := HL.kind
    have hw' : wholeB K = false := by simpa using hw
    have hkn := wholeB_not.1 hw'
    by_cases h3 : K = 3
    · subst h3; exact refParent_single S a k p A B n c m e xs ys w h hn hm hE hp hp1 hp2
    · exact refParent_pos K S (by omega) a k p A B n c m e xs ys w h hn hm hE hp hp1 hp2

set_option maxRecDepth 100000 in
theorem child_neq (x y : Int) (w : World) : (binOp .neq 47 (.agg #[.int .i64 x, .int .i64 y]) (.agg #[.int .i64 x, .int .i64 y])).run Try.prog w = .ok (.bool false) w := by
  have hp0 : (part 3 #[Value.int .i64 x, Value.int .i64 y] 0).run Try.prog w = .ok (.int .i64 x) w := by kernel_rfl
  have hp1 : (part 3 #[Value.int .i64 x, Value.int .i64 y] 1).run Try.prog w = .ok (.int .i64 y) w := by kernel_rfl
  have hf : (Try.prog.fieldsOf 47).toList.map (fun f => (f.name, f.type, f.offset)) = [("At", 3, 0), ("N", 3, 1)] := by kernel_rfl
  rw [run_neq_struct, run_equalIn_struct w 9999 47 _ _ (by kernel_rfl) (by kernel_rfl)]
  obtain ⟨L, hL⟩ : ∃ L, (Try.prog.fieldsOf 47).toList = L := ⟨_, rfl⟩
  rw [hL] at hf ⊢
  match L, hf with
  | [f0, f1], hf =>
    simp only [List.map_cons, List.map_nil, List.cons.injEq, Prod.mk.injEq, and_true] at hf
    obtain ⟨⟨n0, t0, o0⟩, n1, t1, o1⟩ := hf
    have h3 : ∀ a : Int, (Op.equalIn 9999 3 (.int .i64 a) (.int .i64 a)).run Try.prog w = .ok true w := fun a => by rw [run_equalIn_int w 9998 3 .i64 .i64 a a Try.underlying3]; simp
    simp [Op.eqFields, n0, n1, t0, t1, o0, o1, hp0, hp1, h3]

set_option maxRecDepth 100000 in
set_option maxHeartbeats 1000000 in
theorem sameC_any (A A2 : Option Addr) (n c c2 : Nat) (L : List (Int × Int)) (w : World) (B : Nat) (h : Chs w B A n L) (h2 : Chs w B A2 n L) (hn : n ≤ 2000000) :
    Calls Try.prog 19 #[.slice A n c, .slice A2 n c2] w fun e w' => e = .returned (.bool true) ∧ ∃ m, w' = w.drewN m := by
  have hne1 : ((n : Int) == (n : Int)) = true := by simp
  have hne2 : ((n : Int) != (n : Int)) = false := by simp
  go_enter Try.func19, Try.ntmps19
  go_wp2
  go_loopw [13] (fun i wr => ∃ (k m : Nat), k ≤ n ∧ i = .int .i64 k ∧ wr = w.drewN m) (fun i _ => n - (intOf i).toNat)
  case atStart => exact ⟨0, 0, Nat.zero_le _, rfl, rfl⟩
  case round =>
    obtain ⟨k, m, hk, rfl, rfl⟩ := hrel
    by_cases hlt : k < n
    · obtain ⟨b, off, x, rfl, _, HX, hc0, hc1, hx1, hx2⟩ := h.at_ hlt
      obtain ⟨b2, off2, y, rfl, _, HY, hd0, hd1, _, _⟩ := h2.at_ hlt
      obtain rfl : y = x := by have := HX.out; rw [HY.out] at this; injection this
      obtain ⟨x1, x2⟩ := y
      dsimp only at hc0 hc1 hd0 hd1 hx1 hx2
      have hcn := fun W => child_neq x1 x2 W
      have hk0 : (0 : Int) ≤ k := by omega
      have hk1 : (k : Int) < n := by omega
      go_wp2
      go_quiet (fail)
      go_wp2
      go_roundw
      case rel => exact ⟨k + 1, _, by omega, by go_num, rfl⟩
      case measure => simp [intOf]; omega
    · go_wp2
      go_ret
      exact ⟨rfl, _, rfl⟩

theorem below_both (K S a : Int) (n m : Nat) (xs ys : List Int) (hn : n ≤ 100000) (hm : m ≤ 100000) : ∃ v E : Int, ∀ (A B : Option Addr) (c e : Nat) (w : World), LvI w A n B m xs ys →
    (Calls Try.prog 11 #[lvV K S A n c B m e, .int .i64 a] w fun x w' => x = .returned (.tuple #[.int .i64 v, .int .i64 E]) ∧ Below w.heap.size w w') ∧
    (Calls Try.prog 12 #[lvV K S A n c B m e, .int .i64 a] w fun x w' => x = .returned (.tuple #[.int .i64 v, .int .i64 E]) ∧ Below w.heap.size w w') := by
  by_cases hE : lvF K S xs ys a = 0
  · obtain ⟨b, rfl, HL⟩ := lok_of hE
    exact ⟨_, _, fun A B c e w h => ⟨below_ok K S b A B n c m e xs ys w h hE, refBelow_ok K S b A B n c m e xs ys w h hn hm hE⟩⟩
  · exact ⟨_, _, fun A B c e w h => ⟨below_err K S a _ A B n c m e xs ys w h rfl hE, refBelow_err K S a _ A B n c m e xs ys w h hn hm rfl hE⟩⟩
theorem chs_of {w : World} {base : Nat} {A : Option Addr} {c : Nat} {L : List (Int × Int)} (h : OwnC w base A c L) : Chs w w.heap.size A L.length L := h.chs
theorem children_both (K S a p : Int) (n m : Nat) (xs ys : List Int) (hn : n ≤ 100000) (hm : m ≤ 100000) : ∃ (N : Nat) (L : List (Int × Int)) (E : Int), N ≤ 2000000 ∧ ∀ (A B : Option Addr) (c e : Nat) (w : World), LvI w A n B m xs ys →
    (Calls Try.prog 13 #[lvV K S A n c B m e, .int .i64 a, .int .i64 p] w fun x w' => ∃ A' c', x = .returned (.tuple #[.slice A' N c', .int .i64 E]) ∧ Chs w' w'.heap.size A' N L ∧ Below w.heap.size w w') ∧
    (Calls Try.prog 14 #[lvV K S A n c B m e, .int .i64 a, .int .i64 p] w fun x w' => ∃ A' c', x = .returned (.tuple #[.slice A' N c', .int .i64 E]) ∧ Chs w' w'.heap.size A' N L ∧ Below w.heap.size w w') := by
  by_cases hE : lvF K S xs ys a = 0
  · by_cases hp : p < 0 ∨ a ≤ p
    · exact ⟨0, [], 5, by omega, fun A B c e w h => ⟨(children_none K S a p A B n c m e xs ys w h hE hp).mono (fun x w' ⟨hx, hb⟩ => ⟨none, 0, hx, Chs.nil_ _ _ _, hb⟩), (refChildren_none K S a p A B n c m e xs ys w h hn hm hE hp).mono (fun x w' ⟨hx, hb⟩ => ⟨none, 0, hx, Chs.nil_ _ _ _, hb⟩)⟩⟩
    · obtain ⟨b, rfl, HL⟩ := lok_of hE
      obtain ⟨q, rfl⟩ : ∃ q : Nat, p = q := ⟨p.toNat, by omega⟩
      have hlen : (kids K S xs ys q).length ≤ 2000000 := by
        rw [kids_length]
        have := HL.le_tot (p := q + 1) (by omega)
        have := HL.tot
        omega
      exact ⟨_, kids K S xs ys q, 0, hlen, fun A B c e w h => ⟨(children_ok K S b q A B n c m e xs ys w h hE (by omega)).mono (fun x w' ⟨A', c', hx, ho, hb⟩ => ⟨A', c', hx, ho.chs, hb⟩), (refChildren_ok K S b q A B n c m e xs ys w h hn hm hE (by omega)).mono (fun x w' ⟨A', c', hx, ho, hb⟩ => ⟨A', c', hx, ho.chs, hb⟩)⟩⟩
  · exact ⟨0, [], _, by omega, fun A B c e w h => ⟨(children_err K S a p _ A B n c m e xs ys w h rfl hE).mono (fun x w' ⟨hx, hb⟩ => ⟨none, 0, hx, Chs.nil_ _ _ _, hb⟩), (refChildren_err K S a p _ A B n c m e xs ys w h hn hm rfl hE).mono (fun x w' ⟨hx, hb⟩ => ⟨none, 0, hx, Chs.nil_ _ _ _, hb⟩)⟩⟩
theorem find_both (K S a p t : Int) (n m : Nat) (xs ys : List Int) (hn : n ≤ 100000) (hm : m ≤ 100000) : ∃ (v : Int) (b : Bool) (E : Int), ∀ (A B : Option Addr) (c e : Nat) (w : World), LvI w A n B m xs ys → m ≤ e →
    (Calls Try.prog 15 #[lvV K S A n c B m e, .int .i64 a, .int .i64 p, .int .i64 t] w fun x w' => x = .returned (.tuple #[.int .i64 v, .bool b, .int .i64 E]) ∧ Below w.heap.size w w') ∧
    (Calls Try.prog 16 #[lvV K S A n c B m e, .int .i64 a, .int .i64 p, .int .i64 t] w fun x w' => x = .returned (.tuple #[.int .i64 v, .bool b, .int .i64 E]) ∧ Below w.heap.size w w') := by
  by_cases hE : lvF K S xs ys a = 0
  · by_cases hp : p < 0 ∨ a ≤ p
    · exact ⟨_, _, _, fun A B c e w h _ => ⟨find_out K S a p t A B n c m e xs ys w h hE hp, refFind_none K S a p t A B n c m e xs ys w h hn hm hE hp⟩⟩
    · obtain ⟨b, rfl, HL⟩ := lok_of hE
      obtain ⟨q, rfl⟩ : ∃ q : Nat, p = q := ⟨p.toNat, by omega⟩
      exact ⟨_, _, _, fun A B c e w h hme => ⟨find_ok K S t b q A B n c m e xs ys w h hme hE (by omega), refFind_ok K S t b q A B n c m e xs ys w h hn hm hE (by omega)⟩⟩
  · exact ⟨_, _, _, fun A B c e w h _ => ⟨find_err K S a p t _ A B n c m e xs ys w h rfl hE, refFind_err K S a p t _ A B n c m e xs ys w h hn hm rfl hE⟩⟩
theorem parent_both (K S a k : Int) (n m : Nat) (xs ys : List Int) (hn : n ≤ 100000) (hm : m ≤ 100000) : ∃ (v u E : Int), ∀ (A B : Option Addr) (c e : Nat) (w : World), LvI w A n B m xs ys →
    (Calls Try.prog 17 #[lvV K S A n c B m e, .int .i64 a, .int .i64 k] w fun x w' => x = .returned (.tuple #[.int .i64 v, .int .i64 u, .int .i64 E]) ∧ Below w.heap.size w w') ∧
    (Calls Try.prog 18 #[lvV K S A n c B m e, .int .i64 a, .int .i64 k] w fun x w' => x = .returned (.tuple #[.int .i64 v, .int .i64 u, .int .i64 E]) ∧ Below w.heap.size w w') := by
  by_cases hE : lvF K S xs ys a = 0
  · obtain ⟨b, rfl, HL⟩ := lok_of hE
    by_cases hk : k < 0 ∨ (totN K S ys b : Int) ≤ k
    · exact ⟨_, _, _, fun A B c e w h => ⟨parent_none K S k b A B n c m e xs ys w h hE hk, refParent_none K S k b A B n c m e xs ys w h hn hm hE hk⟩⟩
    · obtain ⟨q, rfl⟩ : ∃ q : Nat, k = q := ⟨k.toNat, by omega⟩
      obtain ⟨p, hp, h1, h2⟩ := HL.owner (n := q) (by omega)
      exact ⟨_, _, _, fun A B c e w h => ⟨parent_ok K S b q p A B n c m e xs ys w h hE hp h1 h2, refParent_ok K S b q p A B n c m e xs ys w h hn hm hE hp h1 h2⟩⟩
  · exact ⟨_, _, _, fun A B c e w h => ⟨parent_err K S a k _ A B n c m e xs ys w h rfl hE, refParent_err K S a k _ A B n c m e xs ys w h hn hm rfl hE⟩⟩
end Go.Proofs.Ytanbhpdobpiafaa
