/- The contract of level's Find. -/
import Derived.Test.YtanbhpdobpiafaaLFind
import Derived.Test.YtanbhpdobpiafaaOnes
namespace Go.Proofs.Ytanbhpdobpiafaa
open Go.RowKit

/-- what Find tells: the number of p's first child at a place, and whether there is one -/
def findF (K S : Int) (xs ys : List Int) (p : Nat) (t : Int) : Int × Bool :=
  match (kids K S xs ys p).find? (fun x => x.1 == t) with
  | some x => (x.2, true)
  | none => (0, false)
theorem find_first {α : Type} {f : α → Bool} {L : List α} {i : Nat} {x : α} (hx : L[i]? = some x) (hf : f x = true) (hb : ∀ (j : Nat) (y : α), j < i → L[j]? = some y → f y = false) : L.find? f = some x := by
  induction L generalizing i with
  | nil => simp at hx
  | cons a L ih =>
    cases i with
    | zero => simp at hx; subst hx; rw [List.find?_cons, hf]
    | succ i =>
      rw [List.find?_cons, hb 0 a (by omega) rfl]
      exact ih (by simpa using hx) (fun j y hj hy => hb (j + 1) y (by omega) (by simpa using hy))
theorem find_none {α : Type} {f : α → Bool} {L : List α} (hb : ∀ (j : Nat) (y : α), L[j]? = some y → f y = false) : L.find? f = none := by
  rw [List.find?_eq_none]
  intro y hy
  obtain ⟨j, hj⟩ := List.getElem?_of_mem hy
  rw [hb j y hj]; simp
section
variable {K S t : Int} {xs ys : List Int} {p : Nat}
theorem kids_inv {j : Nat} {y : Int × Int} (h : (kids K S xs ys p)[j]? = some y) : j < offN K S xs (p + 1) - offN K S xs p ∧ y = (atN K S ys (offN K S xs p + j), ((offN K S xs p + j : Nat) : Int)) := by
  have hj := (List.getElem?_eq_some_iff.1 h).1
  rw [kids_length] at hj
  rw [kids_at hj] at h
  injection h with h
  exact ⟨hj, h.symm⟩
theorem findF_hit {i : Nat} (hi : i < offN K S xs (p + 1) - offN K S xs p) (ht : atN K S ys (offN K S xs p + i) = t) (hb : ∀ j, j < i → atN K S ys (offN K S xs p + j) ≠ t) : findF K S xs ys p t = (((offN K S xs p + i : Nat) : Int), true) := by
  unfold findF
  rw [find_first (kids_at hi) (by simpa using ht) (fun j y hj hy => by obtain ⟨_, rfl⟩ := kids_inv hy; simpa using hb j hj)]
theorem findF_miss (hb : ∀ j, j < offN K S xs (p + 1) - offN K S xs p → atN K S ys (offN K S xs p + j) ≠ t) : findF K S xs ys p t = (0, false) := by
  unfold findF
  rw [find_none (fun j y hy => by obtain ⟨hj, rfl⟩ := kids_inv hy; simpa using hb j hj)]
end
set_option maxRecDepth 100000 in
theorem find_err (K S a p t E : Int) (A B : Option Addr) (n c m e : Nat) (xs ys : List Int) (w : World) (h : LvI w A n B m xs ys) (hE : lvF K S xs ys a = E) (h0 : E ≠ 0) :
    Calls Try.prog 15 #[lvV K S A n c B m e, .int .i64 a, .int .i64 p, .int .i64 t] w fun x w' => x = .returned (.tuple #[.int .i64 0, .bool false, .int .i64 E]) ∧ Below w.heap.size w w' := by
  have HO := fun W (hb : Below w.heap.size w W) => of_err K S a p E A B n c m e xs ys W (h.below hb) hE h0
  have z0 := lvBelow w (lvO K S A n c B m e)
  have e1 : (E == 0) = false := by simpa using h0
  have e2 : (E != 0) = true := by simpa using h0
  clear hE h0
  go_enter Try.func15, Try.ntmps15
  go_wp2_with (go_at_call 31; refine (HO _ z0).mono ?_; rintro x w1 ⟨rfl, hb1⟩; have hb2 := z0.trans (hb1.mono z0.size))
  go_ret3
  exact ⟨rfl, hb2⟩
set_option maxRecDepth 100000 in
theorem find_out (K S a p t : Int) (A B : Option Addr) (n c m e : Nat) (xs ys : List Int) (w : World) (h : LvI w A n B m xs ys) (hE : lvF K S xs ys a = 0) (hp : p < 0 ∨ a ≤ p) :
    Calls Try.prog 15 #[lvV K S A n c B m e, .int .i64 a, .int .i64 p, .int .i64 t] w fun x w' => x = .returned (.tuple #[.int .i64 0, .bool false, .int .i64 5]) ∧ Below w.heap.size w w' := by
  have HO := fun W (hb : Below w.heap.size w W) => of_none K S a p A B n c m e xs ys W (h.below hb) hE hp
  have z0 := lvBelow w (lvO K S A n c B m e)
  clear hE hp
  go_enter Try.func15, Try.ntmps15
  go_wp2_with (go_at_call 31; refine (HO _ z0).mono ?_; rintro x w1 ⟨rfl, hb1⟩; have hb2 := z0.trans (hb1.mono z0.size))
  go_ret3
  exact ⟨rfl, hb2⟩

set_option maxRecDepth 100000 in
theorem run_cut {w : World} (A : Option Addr) (n c lo hi : Nat) (h1 : lo ≤ hi) (h2 : hi ≤ n) (hc : n ≤ c) : (Instr.slice 22 (.slice A n c) (some (.int .i64 (lo : Int))) (some (.int .i64 (hi : Int))) none).run Try.prog w = .ok (.slice (if c = lo then A else A.map (·.add (lo * 1))) (hi - lo) (c - lo)) w := by
  obtain ⟨i0, hi0, hz0, hz1, hz2⟩ := info_parts infoInt
  rw [run_slice_lh w 22 A n c (by kernel_rfl) .i64 .i64 (lo : Int) (hi : Int) (by omega) (by omega) (by omega)]
  have hs : (sizeOf (Try.prog.elem 22)).run Try.prog w = .ok 1 w := by
    have he : Try.prog.elem 22 = 3 := by kernel_rfl
    rw [he]; simp [sizeOf, typeInfo, hi0, hz1]
  rw [hs]
  simp only [Result.andThen, sliced, Int.toNat_natCast]

theorem Ints.cut_ {w : World} {B n c lo hi : Nat} {A : Option Addr} {xs : List Int} (h : Ints w B A n xs) (h1 : lo ≤ hi) (h2 : hi ≤ n) (hc : n ≤ c) : Ints w B (if c = lo then A else A.map (·.add (lo * 1))) (hi - lo) ((xs.drop lo).take (hi - lo)) :=
  (h.drop_ (by omega) hc).take_ (by omega)
section
variable {K S t : Int} {xs ys : List Int} {p a : Nat}
theorem cutL_at (HL : Lok K S xs ys a) (hw : wholeB K = false) (hp : p < a) {j : Nat} {x : Int} : ((ys.drop (offN K S xs p)).take (offN K S xs (p + 1) - offN K S xs p))[j]? = some x ↔ j < offN K S xs (p + 1) - offN K S xs p ∧ atN K S ys (offN K S xs p + j) = x := by
  have hle := HL.le_tot (p := p + 1) (by omega)
  rw [List.getElem?_take]
  by_cases hj : j < offN K S xs (p + 1) - offN K S xs p
  · rw [if_pos hj, List.getElem?_drop, HL.crdAt hw _ (by omega)]
    exact ⟨fun e => ⟨hj, by injection e⟩, fun e => by rw [e.2]⟩
  · rw [if_neg hj]
    exact ⟨(fun e => by cases e), fun e => absurd e.1 hj⟩
theorem cutL_rises (HL : Lok K S xs ys a) (hw : wholeB K = false) (hp : p < a) : RisesL ((ys.drop (offN K S xs p)).take (offN K S xs (p + 1) - offN K S xs p)) := by
  intro i j x y hij hx hy
  obtain ⟨hi, rfl⟩ := (cutL_at HL hw hp).1 hx
  obtain ⟨hj, rfl⟩ := (cutL_at HL hw hp).1 hy
  exact HL.sorted hp (by omega) (by omega) (by omega)
theorem cut_hit (HL : Lok K S xs ys a) (hw : wholeB K = false) (hp : p < a) {i : Nat} (hc : CutAt ((ys.drop (offN K S xs p)).take (offN K S xs (p + 1) - offN K S xs p)) t i) (hi : ((ys.drop (offN K S xs p)).take (offN K S xs (p + 1) - offN K S xs p))[i]? = some t) : findF K S xs ys p t = (((offN K S xs p + i : Nat) : Int), true) := by
  obtain ⟨h1, h2⟩ := (cutL_at HL hw hp).1 hi
  refine findF_hit h1 h2 (fun j hj e => ?_)
  have := hc.2.1 j _ hj ((cutL_at HL hw hp).2 ⟨by omega, rfl⟩)
  omega
theorem cut_miss (HL : Lok K S xs ys a) (hw : wholeB K = false) (hp : p < a) {i : Nat} (hc : CutAt ((ys.drop (offN K S xs p)).take (offN K S xs (p + 1) - offN K S xs p)) t i) (hi : ¬ ((ys.drop (offN K S xs p)).take (offN K S xs (p + 1) - offN K S xs p))[i]? = some t) : findF K S xs ys p t = (0, false) := by
  refine findF_miss (fun j hj e => ?_)
  have hjl := (cutL_at HL hw hp).2 ⟨hj, e⟩
  by_cases hji : j < i
  · have := hc.2.1 j _ hji hjl; omega
  · have hil : i < offN K S xs (p + 1) - offN K S xs p := by omega
    have hix := (cutL_at (x := atN K S ys (offN K S xs p + i)) HL hw hp).2 ⟨hil, rfl⟩
    have h1 := hc.2.2 i _ (Nat.le_refl _) hix
    have h2 := cutL_rises HL hw hp i j _ _ (by omega) hix hjl
    exact hi (by rw [hix]; congr 1; omega)
end

set_option maxRecDepth 100000 in
set_option maxHeartbeats 1000000 in
theorem find_crd (K S t : Int) (a p : Nat) (A B : Option Addr) (n c m e : Nat) (xs ys : List Int) (w : World) (h : LvI w A n B m xs ys) (hme : m ≤ e) (hE : lvF K S xs ys a = 0) (hp : p < a) (hw : wholeB K = false) :
    Calls Try.prog 15 #[lvV K S A n c B m e, .int .i64 a, .int .i64 p, .int .i64 t] w fun x w' => x = .returned (.tuple #[.int .i64 (findF K S xs ys p t).1, .bool (findF K S xs ys p t).2, .int .i64 0]) ∧ Below w.heap.size w w' := by
  have HO := fun W (hb : Below w.heap.size w W) => of_ok K S a p A B n c m e xs ys W (h.below hb) hE hp
  have HW := fun W => whole_any K S A B n c m e W
  rw [hw] at HW
  obtain ⟨b, hab, HL⟩ := lok_of hE
  obtain rfl : b = a := by omega
  have hst := HL.step p hp
  have hlt := HL.le_tot (p := p + 1) (by omega)
  rw [← HL.crdLen hw, h.crd.1] at hlt
  have hcrd := HL.crd
  rw [h.crd.1] at hcrd
  have HH : Hid (∀ i, CutAt ((ys.drop (offN K S xs p)).take (offN K S xs (p + 1) - offN K S xs p)) t i → ((ys.drop (offN K S xs p)).take (offN K S xs (p + 1) - offN K S xs p))[i]? = some t → findF K S xs ys p t = (((offN K S xs p + i : Nat) : Int), true)) := fun i h1 h2 => cut_hit HL hw hp h1 h2
  have HM : Hid (∀ i, CutAt ((ys.drop (offN K S xs p)).take (offN K S xs (p + 1) - offN K S xs p)) t i → ¬ ((ys.drop (offN K S xs p)).take (offN K S xs (p + 1) - offN K S xs p))[i]? = some t → findF K S xs ys p t = (0, false)) := fun i h1 h2 => cut_miss HL hw hp h1 h2
  have HR : Hid (RisesL ((ys.drop (offN K S xs p)).take (offN K S xs (p + 1) - offN K S xs p))) := cutL_rises HL hw hp
  have z0 := lvBelow w (lvO K S A n c B m e)
  have zz := heap_alloc_new w (lvO K S A n c B m e)
  obtain ⟨o, ho⟩ : ∃ o, offN K S xs p = o := ⟨_, rfl⟩
  obtain ⟨o', ho'⟩ : ∃ o', offN K S xs (p + 1) = o' := ⟨_, rfl⟩
  rw [ho, ho'] at HO hst HH HM HR
  rw [ho'] at hlt
  have hcut := fun W => run_cut (w := W) B m e o o' hst hlt hme
  have HB := fun W (hb : Below w.heap.size w W) => search_any (if e = o then B else B.map (·.add (o * 1))) (o' - o) (e - o) _ t W w.heap.size ((h.crd.below hb).cut_ hst hlt hme) (by omega) HR.out
  obtain ⟨B2, hB2⟩ : ∃ B2, (if e = o then B else B.map (·.add (o * 1))) = B2 := ⟨_, rfl⟩
  rw [hB2] at HB hcut
  have hsub : (o' - o : Nat) ≤ 100000 := by omega
  obtain ⟨L, hL⟩ : ∃ L, (ys.drop o).take (o' - o) = L := ⟨_, rfl⟩
  have HLL : Hid (L.length ≤ 100000) := by unfold Hid; rw [← hL, List.length_take]; omega
  rw [hL] at HB HH HM HR
  have HME := Lib.hid hme
  clear hE HL hab ho ho' hw hL hB2 hme
  go_enter Try.func15, Try.ntmps15
  go_wp2_with (first | (go_at_call 31; refine (HO _ z0).mono ?_; rintro x w1 ⟨rfl, hb1⟩; have hb2 := z0.trans (hb1.mono z0.size); have hk2 := oKeep hb1 zz; obtain ⟨k0, k1, k2, k3, _⟩ := lvCells hk2) | (go_at_call 22; refine (HW _).mono ?_; rintro x w3 ⟨rfl, hb3⟩; have hb4 := hb2.trans (hb3.mono hb2.size); have hk4 := oKeep hb3 hk2; obtain ⟨l0, l1, l2, l3, _⟩ := lvCells hk4))
  refine (HB _ hb4).mono ?_
  rintro x w5 ⟨i, rfl, hci, rfl⟩
  have HCI := Lib.hid hci
  have hi1 : i ≤ L.length := hci.1
  have hi2 : i ≤ 100000 := by
    have hl := HLL.out
    omega
  clear hci hi1
  by_cases hi : L[i]? = some t
  · have HF := Lib.hid (HH.out i HCI.out hi)
    rw [pB_t hi]
    clear hi
    go_wp2
    go_ret3
    exact ⟨ret_of (by rw [HF.out]; go_num), hb4⟩
  · have HF := Lib.hid (HM.out i HCI.out hi)
    rw [pB_f hi]
    clear hi
    go_wp2
    go_ret3
    exact ⟨ret_of (by rw [HF.out]; rfl), hb4⟩

set_option maxRecDepth 100000 in
set_option maxHeartbeats 1000000 in
theorem find_whole (K S t : Int) (a p : Nat) (A B : Option Addr) (n c m e : Nat) (xs ys : List Int) (w : World) (h : LvI w A n B m xs ys) (hE : lvF K S xs ys a = 0) (hp : p < a) (hw : wholeB K = true) :
    Calls Try.prog 15 #[lvV K S A n c B m e, .int .i64 a, .int .i64 p, .int .i64 t] w fun x w' => x = .returned (.tuple #[.int .i64 (findF K S xs ys p t).1, .bool (findF K S xs ys p t).2, .int .i64 0]) ∧ Below w.heap.size w w' := by
  have HO := fun W (hb : Below w.heap.size w W) => of_ok K S a p A B n c m e xs ys W (h.below hb) hE hp
  have HW := fun W => whole_any K S A B n c m e W
  have HI := fun W => lvInside_any K S A B n c m e t W
  rw [hw] at HW
  obtain ⟨b, hab, HL⟩ := lok_of hE
  obtain rfl : b = a := by omega
  have hst := HL.wholeNext hw p
  have hlt := HL.le_tot (p := p + 1) (by omega)
  have htot := HL.tot
  have hs0 := HL.size0
  have hs1 := HL.size1
  have z0 := lvBelow w (lvO K S A n c B m e)
  have zz := heap_alloc_new w (lvO K S A n c B m e)
  by_cases hin : 0 ≤ t ∧ t < S
  · have HF : Hid (findF K S xs ys p t = (((offN K S xs p + t.toNat : Nat) : Int), true)) := by
      refine findF_hit (by omega) (by rw [HL.wholeAt hw p (by omega)]; omega) (fun j hj e => ?_)
      rw [HL.wholeAt hw p (by omega)] at e; omega
    rw [decide_eq_true hin.1, decide_eq_true hin.2] at HI
    obtain ⟨o, ho⟩ : ∃ o, offN K S xs p = o := ⟨_, rfl⟩
    obtain ⟨o', ho'⟩ : ∃ o', offN K S xs (p + 1) = o' := ⟨_, rfl⟩
    rw [ho, ho'] at HO
    rw [ho] at HF
    obtain ⟨t', rfl⟩ : ∃ t' : Nat, t = t' := ⟨t.toNat, by omega⟩
    have ho1 : o ≤ 1048576 := by omega
    have ht1 : t' ≤ 2147483648 := by omega
    rw [Int.toNat_natCast] at HF
    clear hE HL hab ho ho' hw hin hst hlt htot
    go_enter Try.func15, Try.ntmps15
    go_wp2_with (first | (go_at_call 31; refine (HO _ z0).mono ?_; rintro x w1 ⟨rfl, hb1⟩; have hb2 := z0.trans (hb1.mono z0.size); have hk2 := oKeep hb1 zz; obtain ⟨k0, k1, k2, k3, _⟩ := lvCells hk2) | (go_at_call 22; refine (HW _).mono ?_; rintro x w3 ⟨rfl, hb3⟩; have hb4 := hb2.trans (hb3.mono hb2.size); have hk4 := oKeep hb3 hk2; obtain ⟨l0, l1, l2, l3, _⟩ := lvCells hk4) | (go_at_call 34; refine (HI _).mono ?_; rintro x w5 ⟨rfl, hb5⟩; have hb6 := hb4.trans (hb5.mono hb4.size)))
    go_ret3
    exact ⟨ret_of (by rw [HF.out]; go_num), hb6⟩
  · have HF : Hid (findF K S xs ys p t = (0, false)) := by
      refine findF_miss (fun j hj e => ?_)
      rw [HL.wholeAt hw p (by omega)] at e; omega
    have hd : (decide (0 ≤ t) && decide (t < S)) = false := by
      by_cases q : 0 ≤ t
      · rw [decide_eq_true q, decide_eq_false (fun q2 => hin ⟨q, q2⟩)]; rfl
      · rw [decide_eq_false q]; rfl
    rw [hd] at HI
    obtain ⟨o, ho⟩ : ∃ o, offN K S xs p = o := ⟨_, rfl⟩
    obtain ⟨o', ho'⟩ : ∃ o', offN K S xs (p + 1) = o' := ⟨_, rfl⟩
    rw [ho, ho'] at HO
    clear hE HL hab ho ho' hw hin hst hlt htot hd
    go_enter Try.func15, Try.ntmps15
    go_wp2_with (first | (go_at_call 31; refine (HO _ z0).mono ?_; rintro x w1 ⟨rfl, hb1⟩; have hb2 := z0.trans (hb1.mono z0.size); have hk2 := oKeep hb1 zz; obtain ⟨k0, k1, k2, k3, _⟩ := lvCells hk2) | (go_at_call 22; refine (HW _).mono ?_; rintro x w3 ⟨rfl, hb3⟩; have hb4 := hb2.trans (hb3.mono hb2.size); have hk4 := oKeep hb3 hk2; obtain ⟨l0, l1, l2, l3, _⟩ := lvCells hk4) | (go_at_call 34; refine (HI _).mono ?_; rintro x w5 ⟨rfl, hb5⟩; have hb6 := hb4.trans (hb5.mono hb4.size)))
    go_ret3
    exact ⟨ret_of (by rw [HF.out]; rfl), hb6⟩

theorem find_ok (K S t : Int) (a p : Nat) (A B : Option Addr) (n c m e : Nat) (xs ys : List Int) (w : World) (h : LvI w A n B m xs ys) (hme : m ≤ e) (hE : lvF K S xs ys a = 0) (hp : p < a) :
    Calls Try.prog 15 #[lvV K S A n c B m e, .int .i64 a, .int .i64 p, .int .i64 t] w fun x w' => x = .returned (.tuple #[.int .i64 (findF K S xs ys p t).1, .bool (findF K S xs ys p t).2, .int .i64 0]) ∧ Below w.heap.size w w' := by
  by_cases hw : wholeB K = true
  · exact find_whole K S t a p A B n c m e xs ys w h hE hp hw
  · exact find_crd K S t a p A B n c m e xs ys w h hme hE hp (by simpa using hw)
end Go.Proofs.Ytanbhpdobpiafaa
