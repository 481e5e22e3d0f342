/- The contracts of slices.BinarySearch and sort.Search as level asks them, of level's Find and Parent. -/
import Derived.Test.YteepiifhmbcciaaG5
import Derived.WalkSpells
import Derived.Test.YteepiifhmbcciaaG8
import Derived.Test.YteepiifhmbcciaaG6
import Derived.Test.YteepiifhmbcciaaG18
import Derived.Test.YteepiifhmbcciaaG11
import Derived.Test.YteepiifhmbcciaaG3
import Derived.Test.YteepiifhmbcciaaG15
namespace Go.Proofs.Yteepiifhmbcciaa
open Go.RowKit

/-- a list that rises -/
def RisesL (L : List Int) : Prop := ∀ (i j : Nat) (x y : Int), i ≤ j → L[i]? = some x → L[j]? = some y → x ≤ y
/-- where t belongs in a list that rises: all ahead are less, all others are not -/
def CutAt (L : List Int) (t : Int) (i : Nat) : Prop := i ≤ L.length ∧ (∀ (j : Nat) (x : Int), j < i → L[j]? = some x → x < t) ∧ (∀ (j : Nat) (x : Int), i ≤ j → L[j]? = some x → t ≤ x)

set_option maxRecDepth 100000 in
set_option maxHeartbeats 1000000 in
theorem search_any (A : Option Addr) (n c : Nat) (L : List Int) (t : Int) (w : World) (B : Nat) (h : Ints w B A n L) (hn : n ≤ 1000000) (hR : RisesL L) :
    Calls Try.prog 70 #[.slice A n c, .int .i64 t] w fun e w' => ∃ i : Nat, e = .returned (.tuple #[.int .i64 (i : Int), .bool (pB (L[i]? = some t))]) ∧ CutAt L t i ∧ w = w' := by
  have HLn : Hid (L.length = n) := h.1
  have HR := Lib.hid hR
  have hL := fun x y W => less_any x y W
  clear hR
  go_enter Try.func70, Try.ntmps70
  go_wp2
  go_loop [7, 8] (fun u v => ∃ i j : Nat, u = .int .i64 (i : Int) ∧ v = .int .i64 (j : Int) ∧ i ≤ j ∧ j ≤ n ∧ Hid (∀ (q : Nat) (x : Int), q < i → L[q]? = some x → x < t) ∧ Hid (∀ (q : Nat) (x : Int), j ≤ q → L[q]? = some x → t ≤ x)) (fun u v => (intOf v).toNat - (intOf u).toNat)
  case atStart => exact ⟨0, n, rfl, rfl, Nat.zero_le _, Nat.le_refl _, by unfold Hid; intro q x hq; omega, by unfold Hid; intro q x hq hx; have := (List.getElem?_eq_some_iff.1 hx).1; have := HLn.out; omega⟩
  case round =>
    obtain ⟨i, j, rfl, rfl, hij, hjn, HI, HJ⟩ := hrel
    by_cases hlt : i < j
    · obtain ⟨b, off, y, rfl, _, HY, hc, hy1, hy2⟩ := h.at_ (k := (i + j) / 2) (by omega)
      have g1 : (0 : Int) ≤ ((i : Int) + (j : Int)) / 2 := by omega
      have g2 : ((i : Int) + (j : Int)) / 2 < (n : Int) := by omega
      have g3 : (((i : Int) + (j : Int)) / 2).toNat = (i + j) / 2 := by omega
      have g4 : ((((i + j) / 2 : Nat) : Int)) = ((i : Int) + (j : Int)) / 2 := by omega
      have HG := Lib.hid g4
      have hL2 := hL y t
      clear g4 hL
      by_cases hyt : y < t
      · have HI2 : Hid (∀ (q : Nat) (x : Int), q < (i + j) / 2 + 1 → L[q]? = some x → x < t) := by
          intro q x hq hx
          have := HR.out q ((i + j) / 2) x y (by omega) hx HY.out
          omega
        have d1 : decide (y < t) = true := decide_eq_true hyt
        rw [d1] at hL2
        clear hyt
        go_wp2_with (go_at_call 88; refine (hL2 _).mono ?_; rintro e w' ⟨rfl, rfl⟩)
        go_round
        case rel => exact ⟨(i + j) / 2 + 1, j, by rw [← HG.out]; go_num, rfl, by omega, hjn, HI2, HJ⟩
        case measure => simp [intOf]; omega
      · have HJ2 : Hid (∀ (q : Nat) (x : Int), (i + j) / 2 ≤ q → L[q]? = some x → t ≤ x) := by
          intro q x hq hx
          have := HR.out ((i + j) / 2) q y x hq HY.out hx
          omega
        have d1 : decide (y < t) = false := decide_eq_false hyt
        rw [d1] at hL2
        clear hyt
        go_wp2_with (go_at_call 88; refine (hL2 _).mono ?_; rintro e w' ⟨rfl, rfl⟩)
        go_round
        case rel => exact ⟨i, (i + j) / 2, rfl, by rw [← HG.out], by omega, by omega, HI, HJ2⟩
        case measure => simp [intOf]; omega
    · obtain rfl : i = j := by omega
      have hnan : ∀ (x : Int) (W : World), Calls Try.prog 89 #[.int .i64 x] W fun e w' => e = .returned (.bool false) ∧ W = w' := by
        intro x W
        have e1 : (x != x) = false := by simp
        go_enter Try.func89, Try.ntmps89
        go_wp2
        go_ret
        exact ⟨rfl, rfl⟩
      have HCut : Hid (CutAt L t i) := ⟨by rw [HLn.out]; exact hjn, HI.out, HJ.out⟩
      clear hL HI HJ HR
      by_cases hin : i < n
      · obtain ⟨b, off, y, rfl, _, HY, hc, hy1, hy2⟩ := h.at_ hin
        have g1 : (i : Int) < (n : Int) := by omega
        by_cases hyt : y = t
        · have HF : Hid (pB (L[i]? = some t) = true) := pB_t (by rw [HY.out, hyt])
          have d1 : (y == t) = true := by simpa using hyt
          clear hyt
          go_wp2
          go_ret2
          exact ⟨i, ret_of (by rw [HF.out]; rfl), HCut.out, rfl⟩
        · have HF : Hid (pB (L[i]? = some t) = false) := pB_f (by rw [HY.out]; intro e; injection e with e; exact hyt e)
          have d1 : (y == t) = false := by simpa using hyt
          clear hyt
          go_wp2_with (go_at_call 89; refine (hnan _ _).mono ?_; rintro e w' ⟨rfl, rfl⟩)
          go_ret2
          exact ⟨i, ret_of (by rw [HF.out]; rfl), HCut.out, rfl⟩
      · have HF : Hid (pB (L[i]? = some t) = false) := pB_f (by rw [List.getElem?_eq_none (by rw [HLn.out]; omega)]; intro e; cases e)
        have g1 : ¬ (i : Int) < (n : Int) := by omega
        go_wp2
        go_ret2
        exact ⟨i, ret_of (by rw [HF.out]; rfl), HCut.out, rfl⟩
end Go.Proofs.Yteepiifhmbcciaa
/- The contract of level's Find. -/
namespace Go.Proofs.Yteepiifhmbcciaa
open Go.RowKit

/-- what Find tells: the number of p's first child at a place, and whether there is one -/
def findF (K S : Int) (xs ys : List Int) (p : Nat) (t : Int) : Int × Bool :=
  match (kids K S xs ys p).find? (fun x => x.1 == t) with
  | some x => (x.2, true)
  | none => (0, false)
theorem find_first {α : Type} {f : α → Bool} {L : List α} {i : Nat} {x : α} (hx : L[i]? = some x) (hf : f x = true) (hb : ∀ (j : Nat) (y : α), j < i → L[j]? = some y → f y = false) : L.find? f = some x := by
  induction L generalizing i with
  | nil => simp at hx
  | cons a L ih =>
    cases i with
    | zero => simp at hx; subst hx; rw [List.find?_cons, hf]
    | succ i =>
      rw [List.find?_cons, hb 0 a (by omega) rfl]
      exact ih (by simpa using hx) (fun j y hj hy => hb (j + 1) y (by omega) (by simpa using hy))
theorem find_none {α : Type} {f : α → Bool} {L : List α} (hb : ∀ (j : Nat) (y : α), L[j]? = some y → f y = false) : L.find? f = none := by
  rw [List.find?_eq_none]
  intro y hy
  obtain ⟨j, hj⟩ := List.getElem?_of_mem hy
  rw [hb j y hj]; simp
section
variable {K S t : Int} {xs ys : List Int} {p : Nat}
theorem kids_inv {j : Nat} {y : Int × Int} (h : (kids K S xs ys p)[j]? = some y) : j < offN K S xs (p + 1) - offN K S xs p ∧ y = (atN K S ys (offN K S xs p + j), ((offN K S xs p + j : Nat) : Int)) := by
  have hj := (List.getElem?_eq_some_iff.1 h).1
  rw [kids_length] at hj
  rw [kids_at hj] at h
  injection h with h
  exact ⟨hj, h.symm⟩
theorem findF_hit {i : Nat} (hi : i < offN K S xs (p + 1) - offN K S xs p) (ht : atN K S ys (offN K S xs p + i) = t) (hb : ∀ j, j < i → atN K S ys (offN K S xs p + j) ≠ t) : findF K S xs ys p t = (((offN K S xs p + i : Nat) : Int), true) := by
  unfold findF
  rw [find_first (kids_at hi) (by simpa using ht) (fun j y hj hy => by obtain ⟨_, rfl⟩ := kids_inv hy; simpa using hb j hj)]
theorem findF_miss (hb : ∀ j, j < offN K S xs (p + 1) - offN K S xs p → atN K S ys (offN K S xs p + j) ≠ t) : findF K S xs ys p t = (0, false) := by
  unfold findF
  rw [find_none (fun j y hy => by obtain ⟨hj, rfl⟩ := kids_inv hy; simpa using hb j hj)]
end
set_option maxRecDepth 100000 in
theorem run_cut {w : World} (A : Option Addr) (n c lo hi : Nat) (h1 : lo ≤ hi) (h2 : hi ≤ n) (hc : n ≤ c) : (Instr.slice 22 (.slice A n c) (some (.int .i64 (lo : Int))) (some (.int .i64 (hi : Int))) none).run Try.prog w = .ok (.slice (if c = lo then A else A.map (·.add (lo * 1))) (hi - lo) (c - lo)) w := by
  obtain ⟨i0, hi0, hz0, hz1, hz2⟩ := info_parts infoInt
  rw [run_slice_lh w 22 A n c (by kernel_rfl) .i64 .i64 (lo : Int) (hi : Int) (by omega) (by omega) (by omega)]
  have hs : (sizeOf (Try.prog.elem 22)).run Try.prog w = .ok 1 w := by
    have he : Try.prog.elem 22 = 3 := by kernel_rfl
    rw [he]; simp [sizeOf, typeInfo, hi0, hz1]
  rw [hs]
  simp only [Result.andThen, sliced, Int.toNat_natCast]

theorem Ints.cut_ {w : World} {B n c lo hi : Nat} {A : Option Addr} {xs : List Int} (h : Ints w B A n xs) (h1 : lo ≤ hi) (h2 : hi ≤ n) (hc : n ≤ c) : Ints w B (if c = lo then A else A.map (·.add (lo * 1))) (hi - lo) ((xs.drop lo).take (hi - lo)) :=
  (h.drop_ (by omega) hc).take_ (by omega)
section
variable {K S t : Int} {xs ys : List Int} {p a : Nat}
theorem cutL_at (HL : Lok K S xs ys a) (hw : wholeB K = false) (hp : p < a) {j : Nat} {x : Int} : ((ys.drop (offN K S xs p)).take (offN K S xs (p + 1) - offN K S xs p))[j]? = some x ↔ j < offN K S xs (p + 1) - offN K S xs p ∧ atN K S ys (offN K S xs p + j) = x := by
  have hle := HL.le_tot (p := p + 1) (by omega)
  rw [List.getElem?_take]
  by_cases hj : j < offN K S xs (p + 1) - offN K S xs p
  · rw [if_pos hj, List.getElem?_drop, HL.crdAt hw _ (by omega)]
    exact ⟨fun e => ⟨hj, by injection e⟩, fun e => by rw [e.2]⟩
  · rw [if_neg hj]
    exact ⟨(fun e => by cases e), fun e => absurd e.1 hj⟩
theorem cutL_rises (HL : Lok K S xs ys a) (hw : wholeB K = false) (hp : p < a) : RisesL ((ys.drop (offN K S xs p)).take (offN K S xs (p + 1) - offN K S xs p)) := by
  intro i j x y hij hx hy
  obtain ⟨hi, rfl⟩ := (cutL_at HL hw hp).1 hx
  obtain ⟨hj, rfl⟩ := (cutL_at HL hw hp).1 hy
  exact HL.sorted hp (by omega) (by omega) (by omega)
theorem cut_hit (HL : Lok K S xs ys a) (hw : wholeB K = false) (hp : p < a) {i : Nat} (hc : CutAt ((ys.drop (offN K S xs p)).take (offN K S xs (p + 1) - offN K S xs p)) t i) (hi : ((ys.drop (offN K S xs p)).take (offN K S xs (p + 1) - offN K S xs p))[i]? = some t) : findF K S xs ys p t = (((offN K S xs p + i : Nat) : Int), true) := by
  obtain ⟨h1, h2⟩ := (cutL_at HL hw hp).1 hi
  refine findF_hit h1 h2 (fun j hj e => ?_)
  have := hc.2.1 j _ hj ((cutL_at HL hw hp).2 ⟨by omega, rfl⟩)
  omega
theorem cut_miss (HL : Lok K S xs ys a) (hw : wholeB K = false) (hp : p < a) {i : Nat} (hc : CutAt ((ys.drop (offN K S xs p)).take (offN K S xs (p + 1) - offN K S xs p)) t i) (hi : ¬ ((ys.drop (offN K S xs p)).take (offN K S xs (p + 1) - offN K S xs p))[i]? = some t) : findF K S xs ys p t = (0, false) := by
  refine findF_miss (fun j hj e => ?_)
  have hjl := (cutL_at HL hw hp).2 ⟨hj, e⟩
  by_cases hji : j < i
  · have := hc.2.1 j _ hji hjl; omega
  · have hil : i < offN K S xs (p + 1) - offN K S xs p := by omega
    have hix := (cutL_at (x := atN K S ys (offN K S xs p + i)) HL hw hp).2 ⟨hil, rfl⟩
    have h1 := hc.2.2 i _ (Nat.le_refl _) hix
    have h2 := cutL_rises HL hw hp i j _ _ (by omega) hix hjl
    exact hi (by rw [hix]; congr 1; omega)
end

end Go.Proofs.Yteepiifhmbcciaa
/- store.find: from which child on those at a place, or behind it, are numbered. -/
namespace Go.Proofs.Yteepiifhmbcciaa
open Go.RowKit

/-- what find tells: those ahead are at lesser places, all others are not -/
def FindAt (K S : Int) (xs ys : List Int) (p : Nat) (t : Int) (f : Nat) : Prop :=
  offN K S xs p ≤ f ∧ f ≤ offN K S xs (p + 1) ∧ (∀ j, offN K S xs p ≤ j → j < f → atN K S ys j < t) ∧ (∀ j, f ≤ j → j < offN K S xs (p + 1) → t ≤ atN K S ys j)
def FindPost (w : World) (K S : Int) (xs ys : List Int) (p : Nat) (t : Int) (e : Ending) (w' : World) : Prop :=
  Below w.heap.size w w' ∧ ∃ f : Nat, FindAt K S xs ys p t f ∧ e = .returned (.tuple #[.int .i64 (f : Int), .int .i64 ((offN K S xs (p + 1) : Nat) : Int)])
set_option maxRecDepth 100000 in
set_option maxHeartbeats 1000000 in
theorem stFind_crd (K S t : Int) (a p : Nat) (A B : Option Addr) (n c m e : Nat) (xs ys : List Int) (w : World) (h : LvI w A n B m xs ys) (hme : m ≤ e) (HL : Lok K S xs ys a) (hp : p < a) (hw : wholeB K = false) :
    Calls Try.prog 46 #[lvV K S A n c B m e, .int .i64 p, .int .i64 t] w (FindPost w K S xs ys p t) := by
  have HO := fun W (hb : Below w.heap.size w W) => st_span_ok K S A B n c m e p a xs ys W ((h.below hb).pos) HL hp
  have HW := fun W => whole_any K S A B n c m e W
  rw [hw] at HW
  have hst := HL.step p hp
  have hlt := HL.le_tot (p := p + 1) (by omega)
  rw [← HL.crdLen hw, h.crd.1] at hlt
  have hcrd := HL.crd
  rw [h.crd.1] at hcrd
  have HH : Hid (∀ i, CutAt ((ys.drop (offN K S xs p)).take (offN K S xs (p + 1) - offN K S xs p)) t i → FindAt K S xs ys p t (offN K S xs p + i)) := by
    intro i hc
    have hlen : ((ys.drop (offN K S xs p)).take (offN K S xs (p + 1) - offN K S xs p)).length ≤ offN K S xs (p + 1) - offN K S xs p := by rw [List.length_take]; omega
    refine ⟨by omega, by have := hc.1; omega, fun j h1 h2 => ?_, fun j h1 h2 => ?_⟩
    · exact hc.2.1 (j - offN K S xs p) _ (by omega) ((cutL_at HL hw hp).2 ⟨by have := hc.1; omega, by rw [show offN K S xs p + (j - offN K S xs p) = j by omega]⟩)
    · exact hc.2.2 (j - offN K S xs p) _ (by omega) ((cutL_at HL hw hp).2 ⟨by omega, by rw [show offN K S xs p + (j - offN K S xs p) = j by omega]⟩)
  have HR : Hid (RisesL ((ys.drop (offN K S xs p)).take (offN K S xs (p + 1) - offN K S xs p))) := cutL_rises HL hw hp
  have z0 := lvBelow w (lvO K S A n c B m e)
  have zz := heap_alloc_new w (lvO K S A n c B m e)
  obtain ⟨o, ho⟩ : ∃ o, offN K S xs p = o := ⟨_, rfl⟩
  obtain ⟨o', ho'⟩ : ∃ o', offN K S xs (p + 1) = o' := ⟨_, rfl⟩
  have HPO : Hid (∀ (W : World) (f : Nat), Below w.heap.size w W → FindAt K S xs ys p t f → FindPost w K S xs ys p t (.returned (.tuple #[.int .i64 (f : Int), .int .i64 (o' : Int)])) W) := fun W f h1 h2 => ⟨h1, f, h2, by rw [ho']⟩
  rw [ho, ho'] at HO hst HH HR
  rw [ho'] at hlt
  have hcut := fun W => run_cut (w := W) B m e o o' hst hlt hme
  have HB := fun W (hb : Below w.heap.size w W) => search_any (if e = o then B else B.map (·.add (o * 1))) (o' - o) (e - o) _ t W w.heap.size ((h.crd.below hb).cut_ hst hlt hme) (by omega) HR.out
  obtain ⟨B2, hB2⟩ : ∃ B2, (if e = o then B else B.map (·.add (o * 1))) = B2 := ⟨_, rfl⟩
  rw [hB2] at HB hcut
  have hsub : (o' - o : Nat) ≤ 100000 := by omega
  obtain ⟨L, hL⟩ : ∃ L, (ys.drop o).take (o' - o) = L := ⟨_, rfl⟩
  have HLL : Hid (L.length ≤ 100000) := by unfold Hid; rw [← hL, List.length_take]; omega
  rw [hL] at HB HH HR
  have HME := Lib.hid hme
  clear HL ho ho' hw hL hB2 hme
  go_enter Try.func46, Try.ntmps46
  go_wp2_with (first | (go_at_call 37; refine (HO _ z0).mono ?_; rintro x w1 ⟨rfl, hb1⟩; have hb2 := z0.trans (hb1.mono z0.size); have hk2 := oKeep hb1 zz; obtain ⟨k0, k1, k2, k3, _⟩ := lvCells hk2) | (go_at_call 60; refine (HW _).mono ?_; rintro x w3 ⟨rfl, hb3⟩; have hb4 := hb2.trans (hb3.mono hb2.size); have hk4 := oKeep hb3 hk2; obtain ⟨l0, l1, l2, l3, _⟩ := lvCells hk4))
  refine (HB _ hb4).mono ?_
  rintro x w5 ⟨i, rfl, hci, rfl⟩
  have hF := HH.out i hci
  have hi1 : i ≤ L.length := hci.1
  have hi2 : i ≤ 100000 := by
    have hl := HLL.out
    omega
  have HFI := Lib.hid (HPO.out _ _ hb4 hF)
  clear hci hi1 hF
  go_wp2
  go_ret2
  refine cast (congrArg (fun v => FindPost w K S xs ys p t v _) (ret_of ?_)) HFI.out
  go_num
set_option maxRecDepth 100000 in
set_option maxHeartbeats 1000000 in
theorem stFind_whole (K S : Int) (t a p : Nat) (A B : Option Addr) (n c m e : Nat) (xs ys : List Int) (w : World) (h : LvI w A n B m xs ys) (HL : Lok K S xs ys a) (hp : p < a) (hw : wholeB K = true) (ht : (t : Int) < S) :
    Calls Try.prog 46 #[lvV K S A n c B m e, .int .i64 p, .int .i64 (t : Int)] w (FindPost w K S xs ys p t) := by
  have HO := fun W (hb : Below w.heap.size w W) => st_span_ok K S A B n c m e p a xs ys W ((h.below hb).pos) HL hp
  have HW := fun W => whole_any K S A B n c m e W
  rw [hw] at HW
  have hst := HL.step p hp
  have hnx := HL.wholeNext hw p
  have hlt := HL.le_tot (p := p + 1) (by omega)
  have htt := HL.tot
  have HF : Hid (FindAt K S xs ys p t (offN K S xs p + t)) := by
    refine ⟨by omega, by omega, fun j h1 h2 => ?_, fun j h1 h2 => ?_⟩
    · have := HL.wholeAt hw p (i := j - offN K S xs p) (by omega)
      rw [show offN K S xs p + (j - offN K S xs p) = j by omega] at this
      rw [this]; omega
    · have := HL.wholeAt hw p (i := j - offN K S xs p) (by omega)
      rw [show offN K S xs p + (j - offN K S xs p) = j by omega] at this
      rw [this]; omega
  have z0 := lvBelow w (lvO K S A n c B m e)
  have zz := heap_alloc_new w (lvO K S A n c B m e)
  have HPO : Hid (∀ (W : World), Below w.heap.size w W → FindPost w K S xs ys p t (.returned (.tuple #[.int .i64 ((offN K S xs p + t : Nat) : Int), .int .i64 ((offN K S xs (p + 1) : Nat) : Int)])) W) := fun W h1 => ⟨h1, _, HF.out, rfl⟩
  obtain ⟨o, ho⟩ : ∃ o, offN K S xs p = o := ⟨_, rfl⟩
  obtain ⟨o', ho'⟩ : ∃ o', offN K S xs (p + 1) = o' := ⟨_, rfl⟩
  rw [ho, ho'] at HO HPO
  have hb1 : o + t ≤ 1048576 := by omega
  clear HL hw hnx hst hlt htt HF ho ho'
  go_enter Try.func46, Try.ntmps46
  go_wp2_with (first | (go_at_call 37; refine (HO _ z0).mono ?_; rintro x w1 ⟨rfl, hb1⟩; have hb2 := z0.trans (hb1.mono z0.size); have hk2 := oKeep hb1 zz; obtain ⟨k0, k1, k2, k3, _⟩ := lvCells hk2) | (go_at_call 60; refine (HW _).mono ?_; rintro x w3 ⟨rfl, hb3⟩; have hb4 := hb2.trans (hb3.mono hb2.size); have hk4 := oKeep hb3 hk2; obtain ⟨l0, l1, l2, l3, _⟩ := lvCells hk4))
  go_ret2
  refine cast (congrArg (fun v => FindPost w K S xs ys p t v _) (ret_of ?_)) (HPO.out _ hb4)
  go_num
theorem stFind_any (K S : Int) (t a p : Nat) (A B : Option Addr) (n c m e : Nat) (xs ys : List Int) (w : World) (h : LvI w A n B m xs ys) (hme : m ≤ e) (HL : Lok K S xs ys a) (hp : p < a) (ht : (t : Int) < S) :
    Calls Try.prog 46 #[lvV K S A n c B m e, .int .i64 p, .int .i64 (t : Int)] w (FindPost w K S xs ys p t) := by
  by_cases hw : wholeB K = true
  · exact stFind_whole K S t a p A B n c m e xs ys w h HL hp hw ht
  · exact stFind_crd K S t a p A B n c m e xs ys w h hme HL hp (by simpa using hw)
end Go.Proofs.Yteepiifhmbcciaa
/- store.Get's closure: the number below a node that stands at the places that are asked for. -/
namespace Go.Proofs.Yteepiifhmbcciaa
open Go.RowKit Go.Sort

theorem findAt_ex {K S : Int} {xs ys : List Int} {a p : Nat} (HL : Lok K S xs ys a) (hp : p < a) (t : Int) : ∃ f, FindAt K S xs ys p t f := by
  have hst := HL.step p hp
  have key : ∀ d, offN K S xs p + d ≤ offN K S xs (p + 1) → ∃ f, offN K S xs p ≤ f ∧ f ≤ offN K S xs p + d ∧ (∀ j, offN K S xs p ≤ j → j < f → atN K S ys j < t) ∧ (∀ j, f ≤ j → j < offN K S xs p + d → t ≤ atN K S ys j) := by
    intro d
    induction d with
    | zero => intro _; exact ⟨offN K S xs p, Nat.le_refl _, by omega, fun j h1 h2 => by omega, fun j h1 h2 => by omega⟩
    | succ d ih =>
      intro hd
      obtain ⟨f, h1, h2, h3, h4⟩ := ih (by omega)
      by_cases hf : f = offN K S xs p + d
      · by_cases ht : atN K S ys f < t
        · refine ⟨f + 1, by omega, by omega, fun j g1 g2 => ?_, fun j g1 g2 => by omega⟩
          rcases Nat.lt_or_ge j f with g3 | g3
          · exact h3 j g1 g3
          · obtain rfl : j = f := by omega
            exact ht
        · refine ⟨f, h1, by omega, h3, fun j g1 g2 => ?_⟩
          obtain rfl : j = f := by omega
          omega
      · refine ⟨f, h1, by omega, h3, fun j g1 g2 => ?_⟩
        by_cases hj : j < offN K S xs p + d
        · exact h4 j g1 hj
        · have e1 := h4 (j - 1) (by omega) (by omega)
          have e2 := HL.sorted hp (show offN K S xs p ≤ j - 1 by omega) (show j - 1 ≤ j by omega) (by omega)
          omega
  obtain ⟨f, h1, h2, h3, h4⟩ := key (offN K S xs (p + 1) - offN K S xs p) (by omega)
  exact ⟨f, h1, by omega, h3, fun j g1 g2 => h4 j g1 (by omega)⟩
theorem findAt_one {K S : Int} {xs ys : List Int} {p : Nat} {t : Int} {f g : Nat} (hf : FindAt K S xs ys p t f) (hg : FindAt K S xs ys p t g) : f = g := by
  obtain ⟨a1, a2, a3, a4⟩ := hf
  obtain ⟨b1, b2, b3, b4⟩ := hg
  rcases Nat.lt_trichotomy f g with h | h | h
  · have := b3 f a1 h
    have := a4 f (Nat.le_refl _) (by omega)
    omega
  · exact h
  · have := a3 g b1 h
    have := b4 g (Nat.le_refl _) (by omega)
    omega
theorem stFind_fix {K S : Int} {t a p f : Nat} {A B : Option Addr} {n c m e : Nat} {xs ys : List Int} {w : World} (h : LvI w A n B m xs ys) (hme : m ≤ e) (HL : Lok K S xs ys a) (hp : p < a) (ht : (t : Int) < S) (hf : FindAt K S xs ys p t f) :
    Calls Try.prog 46 #[lvV K S A n c B m e, .int .i64 p, .int .i64 (t : Int)] w fun x w' => x = .returned (.tuple #[.int .i64 (f : Int), .int .i64 ((offN K S xs (p + 1) : Nat) : Int)]) ∧ Below w.heap.size w w' :=
  (stFind_any K S t a p A B n c m e xs ys w h hme HL hp ht).mono fun x w' ⟨hb, g, hg, hx⟩ => ⟨by rw [hx, findAt_one hf hg], hb⟩
/-- where the closure's variables lie -/
structure GB where
  bt : Nat
  ba : Nat
  bd : Nat
  ga : Nat
abbrev GB.fn (b : GB) : Value := .func (.func 45) #[] #[.pointer (some ⟨b.bt, 0, none⟩), .pointer (some ⟨b.ba, 0, none⟩), .pointer (some ⟨b.bd, 0, none⟩)]
/-- what stays while it runs: all -/
structure GB.Fix (b : GB) (t : Ten) (cs : List Int) (w : World) : Prop where
  ten : t.In w w.heap.size
  st : w.heap[b.bt]? = some t.obj
  sa : w.heap[b.ba]? = some (.cells #[.slice (some ⟨b.ga, 0, none⟩) t.fn t.fn] 22 (0, 0))
  sg : w.heap[b.ga]? = some (.cells (stC (atR t.fs t.ls cs t.fn t.fn)).toArray 3 (0, 0))
  sd : w.heap[b.bd]? = some (.cells #[b.fn] 77 (0, 0))
theorem GB.Fix.below {b : GB} {t : Ten} {cs : List Int} {w w' : World} (h : b.Fix t cs w) (hb : Below w.heap.size w w') : b.Fix t cs w' :=
  ⟨h.ten.on hb, keep_b hb h.st, keep_b hb h.sa, keep_b hb h.sg, keep_b hb h.sd⟩
/-- a number below node p of level k stands there, from level k on -/
def HitAt (t : Ten) (cs : List Int) (k p q : Nat) : Prop := q < ahN t.ls t.ln ∧ ancD t.ls k (t.ln - k) q = p ∧ ∀ j, k ≤ j → j < t.ln → (pathN t.ls t.ln q)[j]? = some (atK t.fs t.ls cs j)
def GetPost (t : Ten) (cs : List Int) (k p : Nat) (w : World) (e : Ending) (w' : World) : Prop :=
  Below w.heap.size w w' ∧ ((∃ q, HitAt t cs k p q ∧ e = .returned (.tuple #[.int .i64 (t.vs.getD q 0), .bool true])) ∨ ((∀ q, ¬ HitAt t cs k p q) ∧ e = .returned (.tuple #[.int .i64 0, .bool false])))
def GetDown (b : GB) (t : Ten) (cs : List Int) (k : Nat) : Prop := ∀ (p : Nat) (w : World), p < ahN t.ls k → b.Fix t cs w →
  Calls Try.prog 45 #[.int .i64 (k : Int), .int .i64 (p : Int), .pointer (some ⟨b.bt, 0, none⟩), .pointer (some ⟨b.ba, 0, none⟩), .pointer (some ⟨b.bd, 0, none⟩)] w (GetPost t cs k p w)
set_option maxRecDepth 100000 in
set_option maxHeartbeats 4000000 in
theorem get_leaf (b : GB) (t : Ten) (cs : List Int) (hv : t.vn = ahN t.ls t.ln) : GetDown b t cs t.ln := by
  intro p w hp hF
  obtain ⟨bV, oV, v, hVA, hVb, HV, cv, v1, v2⟩ := hF.ten.vals.at_ (k := p) (by omega)
  obtain ⟨f0, f1, f2, f3, _⟩ := lvCells hF.st
  rw [hVA] at f3
  have hvn := hF.ten.vc
  have hv1 := hF.ten.v1
  have hl1 := hF.ten.l1
  have hlt : (p : Int) < (t.vn : Int) := by omega
  have hp0 : (0 : Int) ≤ (p : Int) := by omega
  have HVV : Hid (t.vs.getD p 0 = v) := by unfold Hid; rw [List.getD_eq_getElem?_getD, HV.out]; rfl
  have HH : Hid (HitAt t cs t.ln p p) := ⟨hp, by rw [Nat.sub_self, ancD], fun j h1 h2 => by omega⟩
  clear hp hF hVA HV hVb hv
  go_enter Try.func45, Try.ntmps45
  go_wp2_with fail
  go_ret2
  exact ⟨Below.refl _ _, .inl ⟨p, HH.out, by rw [HVV.out]; rfl⟩⟩
theorem HitAt.child {t : Ten} {cs : List Int} {k p q : Nat} {l : Lv} (h : HitAt t cs k p q) (hk : k < t.ln) (hl : t.ls[k]? = some l) : ancD t.ls (k + 1) (t.ln - (k + 1)) q = ancD t.ls (k + 1) (t.ln - (k + 1)) q ∧ parN l (ahN t.ls k) (ancD t.ls (k + 1) (t.ln - (k + 1)) q) = p := by
  have h2 := h.2.1
  rw [show t.ln - k = (t.ln - (k + 1)) + 1 by omega, ancD_succ hl] at h2
  exact ⟨rfl, h2⟩
/-- where the child that a number is below stands -/
theorem HitAt.spot {t : Ten} {cs : List Int} (hT : Tok t.xs t.fs t.ls) (hln : t.ls.length = t.ln) {k p q : Nat} {l : Lv} (h : HitAt t cs k p q) (hk : k < t.ln) (hl : t.ls[k]? = some l) :
    offN l.k l.s l.xs p ≤ ancD t.ls (k + 1) (t.ln - (k + 1)) q ∧ ancD t.ls (k + 1) (t.ln - (k + 1)) q < offN l.k l.s l.xs (p + 1) ∧ atN l.k l.s l.ys (ancD t.ls (k + 1) (t.ln - (k + 1)) q) = atK t.fs t.ls cs k ∧ HitAt t cs (k + 1) (ancD t.ls (k + 1) (t.ln - (k + 1)) q) q := by
  have hc := (h.child hk hl).2
  have hlt := hT.anc_lt (t.ln - (k + 1)) (k + 1) (by omega) q (by rw [show k + 1 + (t.ln - (k + 1)) = t.ln by omega]; exact h.1)
  rw [ahN_succ hl] at hlt
  obtain ⟨p1, p2, p3⟩ := parN_spec (hT.lok hl) hlt
  rw [hc] at p2 p3
  have hp := path_here hl (t.ln - (k + 1)) (by omega) q
  rw [show k + 1 + (t.ln - (k + 1)) = t.ln by omega, h.2.2 k (Nat.le_refl _) hk] at hp
  refine ⟨p2, p3, by injection hp with hp; exact hp.symm, h.1, rfl, fun j h1 h2 => h.2.2 j (by omega) h2⟩
theorem HitAt.up {t : Ten} {cs : List Int} (hT : Tok t.xs t.fs t.ls) (hln : t.ls.length = t.ln) {k p n q : Nat} {l : Lv} (hk : k < t.ln) (hl : t.ls[k]? = some l) (hp : p < ahN t.ls k) (h1 : offN l.k l.s l.xs p ≤ n) (h2 : n < offN l.k l.s l.xs (p + 1)) (ht : atN l.k l.s l.ys n = atK t.fs t.ls cs k) (h : HitAt t cs (k + 1) n q) : HitAt t cs k p q := by
  refine ⟨h.1, ?_, fun j g1 g2 => ?_⟩
  · rw [show t.ln - k = (t.ln - (k + 1)) + 1 by omega, ancD_succ hl, h.2.1]
    exact parN_eq (hT.lok hl) hp h1 h2
  · by_cases e : j = k
    · subst e
      have hh := path_here hl (t.ln - (j + 1)) (by omega) q
      rw [show j + 1 + (t.ln - (j + 1)) = t.ln by omega, h.2.1, ht] at hh
      exact hh
    · exact h.2.2 j (by omega) g2
set_option maxRecDepth 100000 in
set_option maxHeartbeats 8000000 in
theorem get_node (b : GB) (t : Ten) (cs : List Int) (hT : Tok t.xs t.fs t.ls) (hin : InC t.xs cs) (hfn : t.fn = t.ln) (k : Nat) (hk : k < t.ln) (ih : GetDown b t cs (k + 1)) : GetDown b t cs k := by
  intro p w hp hF
  have hln : t.ls.length = t.ln := hF.ten.lvs.1
  obtain ⟨bl, ol, l, hLA, hbl, HL, d0, d1, d2, d3, li⟩ := hF.ten.lvs.at_ hk
  obtain ⟨f, hf⟩ := hT.spec HL.out
  have hLok := hT.lok HL.out
  have hrg := hT.atK_range HL.out hf hin
  obtain ⟨u, hu⟩ : ∃ u : Nat, atK t.fs t.ls cs k = (u : Int) := ⟨(atK t.fs t.ls cs k).toNat, by omega⟩
  rw [hu] at hrg
  obtain ⟨fst, hfst⟩ := findAt_ex hLok hp (u : Int)
  obtain ⟨lst, hlst⟩ : ∃ q, offN l.k l.s l.xs (p + 1) = q := ⟨_, rfl⟩
  have htot : lst ≤ totN l.k l.s l.ys (ahN t.ls k) := by rw [← hlst]; exact hLok.le_tot (by omega)
  have htot2 := hLok.tot
  have hlb : lst ≤ 1048576 := Nat.le_trans htot htot2
  have hah := hLok.ahead
  -- what a number below stands at
  have HSP : Hid (∀ q, HitAt t cs k p q → offN l.k l.s l.xs p ≤ ancD t.ls (k + 1) (t.ln - (k + 1)) q ∧ ancD t.ls (k + 1) (t.ln - (k + 1)) q < lst ∧ atN l.k l.s l.ys (ancD t.ls (k + 1) (t.ln - (k + 1)) q) = (u : Int) ∧ HitAt t cs (k + 1) (ancD t.ls (k + 1) (t.ln - (k + 1)) q) q) := by
    intro q hq
    have := hq.spot hT hln hk HL.out
    rw [hlst, hu] at this
    exact this
  have HUP : Hid (∀ n q, fst ≤ n → n < lst → atN l.k l.s l.ys n = (u : Int) → HitAt t cs (k + 1) n q → HitAt t cs k p q) := by
    intro n q h1 h2 h3 h4
    exact HitAt.up hT hln hk HL.out hp (by have := hfst.1; omega) (by omega) (by rw [hu]; exact h3) h4
  have HFI : Hid (fst ≤ lst ∧ (∀ q, HitAt t cs k p q → fst ≤ ancD t.ls (k + 1) (t.ln - (k + 1)) q) ∧ (∀ n, fst ≤ n → n < lst → atN l.k l.s l.ys n ≠ (u : Int) → ∀ q, HitAt t cs k p q → n ≤ ancD t.ls (k + 1) (t.ln - (k + 1)) q → False)) := by
    obtain ⟨a1, a2, a3, a4⟩ := hfst
    rw [hlst] at a2 a4
    refine ⟨a2, fun q hq => ?_, fun n h1 h2 h3 q hq h4 => ?_⟩
    · obtain ⟨s1, s2, s3, _⟩ := HSP.out q hq
      rcases Nat.lt_or_ge (ancD t.ls (k + 1) (t.ln - (k + 1)) q) fst with hh | hh
      · have := a3 _ s1 hh; omega
      · exact hh
    · obtain ⟨s1, s2, s3, _⟩ := HSP.out q hq
      have g1 := a4 n h1 h2
      have g2 := hLok.sorted hp (show offN l.k l.s l.xs p ≤ n by omega) h4 (by rw [hlst]; exact s2)
      omega
  obtain ⟨f0, f1, f2, f3, _⟩ := lvCells hF.st
  rw [hLA] at f2
  have hbt := lt_of_heap hF.st
  have hba := lt_of_heap hF.sa
  have hga := lt_of_heap hF.sg
  obtain ⟨a0, _⟩ := blk_cell (i := 0) hF.sa rfl
  obtain ⟨y0, _⟩ := vblk_cell hF.sg (i := k) (v := .int .i64 (u : Int)) (by unfold stC; rw [List.getElem?_map, atR_at _ _ _ (by omega), hu]; rfl)
  have ek : ((k : Int) == (t.ln : Int)) = false := by simp; omega
  have hlnc := hF.ten.lc
  have hln1 := hF.ten.l1
  have gk0 : (0 : Int) ≤ (k : Int) := by omega
  have gk1 : (k : Int) < (t.ln : Int) := by omega
  have gk2 : (k : Int) < (t.fn : Int) := by omega
  obtain ⟨W0, hW0⟩ : ∃ W, w.alloc (lvO l.k l.s l.A l.n l.c l.B l.m l.e) = W := ⟨_, rfl⟩
  have HB0 : Hid (Below w.heap.size w W0) := by rw [← hW0]; exact lvBelow w _
  have HN0 : Hid (W0.heap[w.heap.size]? = some (lvO l.k l.s l.A l.n l.c l.B l.m l.e)) := by rw [← hW0]; exact heap_alloc_new _ _
  have HF0 := Lib.hid (hF.below HB0.out)
  have HLV : Hid (∀ W, Below W0.heap.size W0 W → LvI W l.A l.n l.B l.m l.xs l.ys) := by
    intro W hW
    have hb := HB0.out.trans (hW.mono HB0.out.size)
    exact ((li.below hb).more hb.size).lvI
  have hme := li.me
  have HFD : Hid (∀ W, Below W0.heap.size W0 W → Calls Try.prog 46 #[lvV l.k l.s l.A l.n l.c l.B l.m l.e, .int .i64 p, .int .i64 (u : Int)] W fun x w' => x = .returned (.tuple #[.int .i64 (fst : Int), .int .i64 (lst : Int)]) ∧ Below W.heap.size W w') := by
    intro W hW
    have := stFind_fix (c := l.c) (HLV.out W hW) hme hLok hp hrg.2 hfst
    rw [hlst] at this
    exact this
  have HPL : Hid (∀ n, n < lst → ∀ W, Below W0.heap.size W0 W → Calls Try.prog 38 #[lvV l.k l.s l.A l.n l.c l.B l.m l.e, .int .i64 n] W fun e w' => e = .returned (.int .i64 (atN l.k l.s l.ys n)) ∧ Below W.heap.size W w') := by
    intro n hn W hW
    exact st_place_ok l.k l.s l.A l.B l.n l.c l.m l.e n (ahN t.ls k) l.xs l.ys W (HLV.out W hW).crd hLok (by omega)
  have HIH : Hid (∀ n, fst ≤ n → n < lst → ∀ W, Below W0.heap.size W0 W → Calls Try.prog 45 #[.int .i64 ((k : Int) + 1), .int .i64 (n : Int), .pointer (some ⟨b.bt, 0, none⟩), .pointer (some ⟨b.ba, 0, none⟩), .pointer (some ⟨b.bd, 0, none⟩)] W (GetPost t cs (k + 1) n W)) := by
    intro n h1 h2 W hW
    have := ih n W (by rw [ahN_succ HL.out]; omega) (HF0.out.below hW)
    rw [show ((k + 1 : Nat) : Int) = (k : Int) + 1 by omega] at this
    exact this
  have q0 := fun o => cellPast o d0
  have q1 := fun o => cellPast o d1
  have q2 := fun o => cellPast o d2
  have q3 := fun o => cellPast o d3
  clear ih hLok hf hrg hfst htot htot2 hlst hu li HLV hT hin hp hF
  go_enter Try.func45, Try.ntmps45
  go_upto_region 4 with fail
  try rw [hW0]
  obtain ⟨r0, r1, r2, r3, _⟩ := lvCells HN0.out
  have x0 := cell_regrown r0
  have x1 := cell_regrown r1
  have x2 := cell_regrown r2
  have x3 := cell_regrown r3
  have x4 := cell_regrown ((HB0.out.cell (p := ⟨b.ba, 0, none⟩) hba).trans a0)
  have x5 := cell_regrown ((HB0.out.cell (p := ⟨b.ga, k, none⟩) hga).trans y0)
  have cF := fun d os => Calls.regrown_of (HFD.out (grow (redrawn W0 d) os) (below_regrown W0 d os))
  have hmx : Try.prog.follows .mixedOrders = true := by kernel_rfl
  clear q0 q1 q2 q3 d0 d1 d2 d3 f0 f1 f2 f3
  refine wp_region_quiet_below hmx (by kernel_rfl) ?_
  repeat (quiet_step ((go_at_call 46; with_reducible exact cF _ _)))
  refine wpQuiet_nil ?_
  intro _ hw'
  obtain ⟨⟨dq, osq⟩, hw''⟩ := hw'
  subst hw''
  obtain ⟨W1, hW1⟩ : ∃ W, grow (redrawn W0 dq) osq = W := ⟨_, rfl⟩
  have hb1 := below_regrown W0 dq osq
  rw [hW1] at hb1 ⊢
  have HB1 := Lib.hid hb1
  clear x0 x1 x2 x3 x4 x5 cF r0 r1 r2 r3 hW1 hb1 hW0
  go_wp2_with fail
  go_loopw [12] (fun i wr => ∃ n : Nat, fst ≤ n ∧ n ≤ lst ∧ i = .int .i64 n ∧ Hid (∀ q, HitAt t cs k p q → n ≤ ancD t.ls (k + 1) (t.ln - (k + 1)) q) ∧ Hid (Below W0.heap.size W0 wr)) (fun i _ => lst - (intOf i).toNat)
  case atStart => exact ⟨fst, Nat.le_refl _, HFI.out.1, rfl, HFI.out.2.1, HB1.out⟩
  case round =>
    obtain ⟨n, hn1, hn2, rfl, HN, HB⟩ := hrel
    have hNr := keep_b HB.out HN0.out
    obtain ⟨r0, r1, r2, r3, _⟩ := lvCells hNr
    have hFr := HF0.out.below HB.out
    obtain ⟨a0, _⟩ := blk_cell (i := 0) hFr.sa rfl
    have HBW : Hid (Below w.heap.size w wr) := HB0.out.trans (HB.out.mono HB0.out.size)
    obtain ⟨y0', _⟩ : wr.cell? ⟨b.ga, k, none⟩ = some (.int .i64 (u : Int)) ∧ True := ⟨(HB.out.cell (p := ⟨b.ga, k, none⟩) (by have := HB0.out.size; show b.ga < W0.heap.size; omega)).trans ((HB0.out.cell (p := ⟨b.ga, k, none⟩) hga).trans y0), trivial⟩
    have x0 := cell_regrown r0
    have x1 := cell_regrown r1
    have x2 := cell_regrown r2
    have x3 := cell_regrown r3
    have x4 := cell_regrown a0
    have x5 := cell_regrown y0'
    by_cases hlt : n < lst
    · have dl : decide (n < lst) = true := decide_eq_true hlt
      have dl2 : (n : Int) < (lst : Int) := by omega
      obtain ⟨z, hz⟩ : ∃ z, atN l.k l.s l.ys n = z := ⟨_, rfl⟩
      have hPL := HPL.out n hlt
      rw [hz] at hPL
      have cP := fun d os => Calls.regrown_of (hPL (grow (redrawn wr d) os) (HB.out.trans ((below_regrown wr d os).mono HB.out.size)))
      have HZ := Lib.hid hz
      have HLT : Hid (n + 1 ≤ lst) := hlt
      clear hPL hz
      by_cases hzu : z = (u : Int)
      · have ez : (z == (u : Int)) = true := by simpa using hzu
        have HZU := Lib.hid hzu
        clear hzu hlt
        go_wp2_with fail
        refine wp_region_quiet_below hmx (by kernel_rfl) ?_
        repeat (quiet_step ((go_at_call 38; with_reducible exact cP _ _)))
        refine wpQuiet_nil ?_
        intro _ hw'
        obtain ⟨⟨dq2, osq2⟩, hw''⟩ := hw'
        subst hw''
        obtain ⟨W5, hW5⟩ : ∃ W, grow (redrawn wr dq2) osq2 = W := ⟨_, rfl⟩
        have hb5 := below_regrown wr dq2 osq2
        rw [hW5] at hb5 ⊢
        have HB5 := Lib.hid (HB.out.trans (hb5.mono HB.out.size))
        have hF5 := HF0.out.below HB5.out
        have y7 : W5.cell? ⟨b.bd, 0, none⟩ = some (.func (.func 45) #[] #[.pointer (some ⟨b.bt, 0, none⟩), .pointer (some ⟨b.ba, 0, none⟩), .pointer (some ⟨b.bd, 0, none⟩)]) := (blk_cell (i := 0) hF5.sd rfl).1
        have hC := HIH.out n hn1 (by have := HLT.out; omega) W5 HB5.out
        clear x0 x1 x2 x3 x4 x5 cP r0 r1 r2 r3 a0 y0' hNr hFr hF5 hW5 hb5
        go_wp2_with fail
        refine hC.mono ?_
        rintro e w7 ⟨hb7, hh⟩
        have HB7 := Lib.hid (HB5.out.trans (hb7.mono HB5.out.size))
        rcases hh with ⟨q, hq, rfl⟩ | ⟨hno, rfl⟩
        · have HQ : Hid (HitAt t cs k p q) := HUP.out n q hn1 (by have := HLT.out; omega) (by rw [HZ.out, HZU.out]) hq
          clear hq hb7
          go_wp2_with fail
          go_ret2
          exact ⟨HB0.out.trans (HB7.out.mono HB0.out.size), .inl ⟨q, HQ.out, rfl⟩⟩
        · have HN2 : Hid (∀ q, HitAt t cs k p q → n + 1 ≤ ancD t.ls (k + 1) (t.ln - (k + 1)) q) := by
            intro q hq
            have h1 := HN.out q hq
            rcases Nat.eq_or_lt_of_le h1 with h2 | h2
            · have h3 := (HSP.out q hq).2.2.2
              rw [← h2] at h3
              exact absurd h3 (hno q)
            · exact h2
          clear hno hb7
          go_wp2_with fail
          go_roundw
          case rel => exact ⟨n + 1, by omega, HLT.out, by go_num, HN2, HB7⟩
          case measure => have := HLT.out; simp [intOf]; omega
      · have ez : (z == (u : Int)) = false := by simpa using hzu
        have HNO : Hid (∀ q, ¬ HitAt t cs k p q) := fun q hq => HFI.out.2.2 n hn1 (by have := HLT.out; omega) (by rw [HZ.out]; exact hzu) q hq (HN.out q hq)
        clear hzu hlt
        go_wp2_with fail
        refine wp_region_quiet_below hmx (by kernel_rfl) ?_
        repeat (quiet_step ((go_at_call 38; with_reducible exact cP _ _)))
        refine wpQuiet_nil ?_
        intro _ hw'
        obtain ⟨⟨dq2, osq2⟩, hw''⟩ := hw'
        subst hw''
        obtain ⟨W5, hW5⟩ : ∃ W, grow (redrawn wr dq2) osq2 = W := ⟨_, rfl⟩
        have hb5 := below_regrown wr dq2 osq2
        rw [hW5] at hb5 ⊢
        have HB5 := Lib.hid (HBW.out.trans (hb5.mono HBW.out.size))
        clear x0 x1 x2 x3 x4 x5 cP r0 r1 r2 r3 a0 y0' hNr hFr hW5 hb5
        go_wp2_with fail
        go_ret2
        exact ⟨HB5.out, .inr ⟨HNO.out, rfl⟩⟩
    · have HNO : Hid (∀ q, ¬ HitAt t cs k p q) := fun q hq => by
        have h1 := HN.out q hq
        have h2 := (HSP.out q hq).2.1
        omega
      obtain rfl : n = lst := by omega
      clear hlt ek gk0 gk1 gk2 hlnc hln1 hah hlb hba hga hme hn1 hn2 hbt x0 x1 x2 x3 x4 x5 r0 r1 r2 r3 a0 y0' hNr hFr
      go_wp2_with fail
      go_region
      all_goals
        go_wp2_with fail
        go_ret2
        exact ⟨by first | exact HBW.out | exact HBW.out.drew, .inr ⟨HNO.out, rfl⟩⟩
theorem get_down (b : GB) (t : Ten) (cs : List Int) (hT : Tok t.xs t.fs t.ls) (hin : InC t.xs cs) (hfn : t.fn = t.ln) (hv : t.vn = ahN t.ls t.ln) : ∀ d k, k + d = t.ln → GetDown b t cs k := by
  intro d
  induction d with
  | zero => intro k hk; obtain rfl : k = t.ln := by omega
            exact get_leaf b t cs hv
  | succ d ih => intro k hk; exact get_node b t cs hT hin hfn k (by omega) (ih (k + 1) (by omega))
end Go.Proofs.Yteepiifhmbcciaa
/- store.Get: the number at a place, and whether one is there. -/
namespace Go.Proofs.Yteepiifhmbcciaa
open Go.RowKit

theorem inC_of_atF {xs cs : List Int} (h : (atF xs cs).2 = 0) : InC xs cs := by
  have hi := (atF_ok h).2.1
  refine ⟨hi.len.symm, fun m hm => ?_⟩
  have hm2 : m < cs.length := by rw [← hi.len]; exact hm
  have := hi.at_ (List.getElem?_eq_getElem hm) (List.getElem?_eq_getElem hm2)
  rw [List.getD_eq_getElem?_getD, List.getD_eq_getElem?_getD, List.getElem?_eq_getElem hm, List.getElem?_eq_getElem hm2]
  exact this
/-- what Get tells -/
def GetAll (w : World) (t : Ten) (cs : List Int) (e : Ending) (w' : World) : Prop :=
  Below w.heap.size w w' ∧ ((tenE t ≠ 0 ∧ e = .returned (.tuple #[.int .i64 0, .bool false, .int .i64 (tenE t)])) ∨
    (tenE t = 0 ∧ (atF t.xs cs).2 ≠ 0 ∧ e = .returned (.tuple #[.int .i64 0, .bool false, .int .i64 (atF t.xs cs).2])) ∨
    (tenE t = 0 ∧ (atF t.xs cs).2 = 0 ∧ ((∃ q, q < t.vn ∧ cN t.n t.fs t.ls t.ln q = cs ∧ e = .returned (.tuple #[.int .i64 (t.vs.getD q 0), .bool true, .int .i64 0])) ∨
      ((∀ q, q < t.vn → cN t.n t.fs t.ls t.ln q ≠ cs) ∧ e = .returned (.tuple #[.int .i64 0, .bool false, .int .i64 0])))))
theorem Ten.tok {t : Ten} {w : World} (ht : t.In w w.heap.size) (h : tenE t = 0) : Tok t.xs t.fs t.ls ∧ t.vn = ahN t.ls t.ln ∧ t.fn = t.ln := by
  obtain ⟨q1, q2, q3, q4, q5⟩ := tenE_small h
  have hl := ht.lvs.1
  refine ⟨⟨q1, q2, by rw [hl]; exact q3, q5⟩, q4, ?_⟩
  have := q2.1
  have := ht.form.1
  omega
theorem hit_there {t : Ten} {w : World} (ht : t.In w w.heap.size) (hT : Tok t.xs t.fs t.ls) {cs : List Int} (hin : InC t.xs cs) {q : Nat} (hq : q < ahN t.ls t.ln) : HitAt t cs 0 0 q ↔ cN t.n t.fs t.ls t.ln q = cs := by
  have hl : t.ls.length = t.ln := ht.lvs.1
  have hx : t.xs.length = t.n := ht.shape.1
  constructor
  · intro h
    have := hT.there (q := q) (by rw [hl]; exact hq) hin.1 hin.2 (fun j hj => by rw [hl] at hj ⊢; exact h.2.2 j (Nat.zero_le _) hj)
    rw [hl, hx] at this
    exact this
  · intro h
    refine ⟨hq, ?_, fun j _ hj => ?_⟩
    · have := hT.anc_lt t.ln 0 (by omega) q (by rw [Nat.zero_add]; exact hq)
      rw [ahN] at this
      rw [Nat.sub_zero]
      omega
    · have := hT.path_at t.ln (by omega) q hq j hj
      rw [hx, h] at this
      exact this
set_option maxRecDepth 100000 in
set_option maxHeartbeats 4000000 in
theorem stGet_any (t : Ten) (Cc : Option Addr) (cn cc : Nat) (cs : List Int) (w : World) (ht : t.In w w.heap.size) (hc : Ints w w.heap.size Cc cn cs) (hcn : cn ≤ 9223372036854775807) :
    Calls Try.prog 15 #[t.val, .slice Cc cn cc] w (GetAll w t cs) := by
  have HI := Lib.hid ht
  have HC := Lib.hid hc
  obtain ⟨W0, hW0⟩ : ∃ W, w.alloc t.obj = W := ⟨_, rfl⟩
  have HB0 : Hid (Below w.heap.size w W0) := by rw [← hW0]; exact lvBelow w _
  have HX0 : Hid (W0.heap[w.heap.size]? = some t.obj) := by rw [← hW0]; exact heap_alloc_new w _
  have HCK := stCheck_any t W0 (ht.on HB0.out)
  obtain ⟨k0, k1, k2, k3, _⟩ := lvCells HX0.out
  have hw0 : w.heap.size < W0.heap.size := lt_of_heap HX0.out
  by_cases hE : tenE t = 0
  case neg =>
    obtain ⟨E, hEE⟩ : ∃ E, tenE t = E := ⟨_, rfl⟩
    rw [hEE] at HCK hE
    have e1 : (E != 0) = true := by simpa using hE
    have HEE := Lib.hid (And.intro hEE hE)
    clear hE hEE ht hc
    go_enter Try.func15, Try.ntmps15
    go_wp2_with fail
    try rw [hW0]
    refine HCK.mono ?_
    rintro e w1 ⟨rfl, hb1⟩
    have HB1 := Lib.hid (HB0.out.trans (hb1.mono HB0.out.size))
    clear hb1 k0 k1 k2 k3 hW0
    go_wp2_with fail
    go_ret3
    exact ⟨HB1.out, .inl ⟨by rw [HEE.out.1]; exact HEE.out.2, by rw [HEE.out.1]; rfl⟩⟩
  have HAT : Hid (∀ W, Below w.heap.size w W → Calls Try.prog 43 #[.slice t.A t.n t.c, .slice Cc cn cc] W fun e w' => e = .returned (.tuple #[.int .i64 (atF t.xs cs).1, .int .i64 (atF t.xs cs).2]) ∧ Below W.heap.size W w') := fun W hW => at_any t.A Cc t.n cn t.c cc t.xs cs W (HI.out.on hW).shape ((HC.out.below hW).more hW.size) (by have := HI.out.n1; omega) hcn
  have HE := Lib.hid hE
  rw [hE] at HCK
  obtain ⟨hTok, hvn, hfn⟩ := Ten.tok ht hE
  by_cases hA : (atF t.xs cs).2 = 0
  case neg =>
    obtain ⟨E, hEE⟩ : ∃ E, (atF t.xs cs).2 = E := ⟨_, rfl⟩
    rw [hEE] at hA HAT
    have e1 : (E != 0) = true := by simpa using hA
    have HEE := Lib.hid (And.intro hEE hA)
    clear hE hEE ht hc hA hTok hvn hfn
    go_enter Try.func15, Try.ntmps15
    go_wp2_with fail
    try rw [hW0]
    refine HCK.mono ?_
    rintro e w1 ⟨rfl, hb1⟩
    obtain ⟨k0, k1, k2, k3, _⟩ := lvCells (keep_b hb1 HX0.out)
    have HB1 := Lib.hid (HB0.out.trans (hb1.mono HB0.out.size))
    clear hb1 hW0
    go_wp2_with fail
    refine (HAT.out _ HB1.out).mono ?_
    rintro e w2 ⟨rfl, hb2⟩
    have HB2 := Lib.hid (HB1.out.trans (hb2.mono HB1.out.size))
    clear hb2 k0 k1 k2 k3
    go_wp2_with fail
    go_ret3
    exact ⟨HB2.out, .inr (.inl ⟨HE.out, by rw [HEE.out.1]; exact HEE.out.2, by rw [HEE.out.1]; rfl⟩)⟩
  have hin := inC_of_atF hA
  have HA := Lib.hid hA
  rw [hA] at HAT
  obtain rfl : cn = t.n := by
    have h1 := hin.1
    have h2 := hc.1
    have h3 := ht.shape.1
    omega
  have HTOK := Lib.hid hTok
  have HVF := Lib.hid (And.intro hvn hfn)
  have HIN := Lib.hid hin
  obtain ⟨z, hz⟩ : ∃ z, (atF t.xs cs).1 = z := ⟨_, rfl⟩
  rw [hz] at HAT
  clear hE ht hc hA hTok hvn hfn hin hz
  go_enter Try.func15, Try.ntmps15
  go_wp2_with fail
  try rw [hW0]
  refine HCK.mono ?_
  rintro e w1 ⟨rfl, hb1⟩
  have HX1 := Lib.hid (keep_b hb1 HX0.out)
  obtain ⟨k0, k1, k2, k3, _⟩ := lvCells HX1.out
  have HB1 := Lib.hid (HB0.out.trans (hb1.mono HB0.out.size))
  clear hb1 hW0 HCK
  go_wp2_with fail
  refine (HAT.out _ HB1.out).mono ?_
  rintro e w2 ⟨rfl, hb2⟩
  have HB2 := Lib.hid (HB1.out.trans (hb2.mono HB1.out.size))
  have HX2 := Lib.hid (keep_b hb2 HX1.out)
  clear hb2 k0 k1 k2 k3
  obtain ⟨k0, k1, k2, k3, _⟩ := lvCells HX2.out
  go_wp2_with fail
  refine (placesAt_any t w2 (HI.out.on HB2.out) HTOK.out Cc cc cs ((HC.out.below HB2.out).more HB2.out.size) HIN.out).mono ?_
  rintro e w3 ⟨hb3, g, hg, rfl, hblk⟩
  have HB3 := Lib.hid (HB2.out.trans (hb3.mono HB2.out.size))
  have HX3 := Lib.hid (keep_b hb3 HX2.out)
  have HG3 := Lib.hid hblk
  clear hb3 hg hblk k0 k1 k2 k3
  obtain ⟨W5, hW5⟩ : ∃ W, (w3.alloc (.cells #[.slice (some ⟨g, 0, none⟩) t.fn t.fn] 22)).alloc (.cells #[.func (.func 45) #[] #[.pointer (some ⟨w.heap.size, 0, none⟩), .pointer (some ⟨w3.heap.size, 0, none⟩), .pointer (some ⟨w3.heap.size + 1, 0, none⟩)]] 77) = W := ⟨_, rfl⟩
  have hb5 : Below w3.heap.size w3 W5 := by rw [← hW5]; exact ((Below.refl _ _).alloc (Nat.le_refl _) _).alloc (by simp) _
  have HB5 := Lib.hid (HB3.out.trans (hb5.mono HB3.out.size))
  obtain ⟨b, hb⟩ : ∃ b : GB, b = ⟨w.heap.size, w3.heap.size, w3.heap.size + 1, g⟩ := ⟨_, rfl⟩
  have hFx : GB.Fix b t cs W5 := by
    subst hb
    refine ⟨HI.out.on HB5.out, keep_b hb5 HX3.out, ?_, keep_b hb5 HG3.out, ?_⟩
    · rw [← hW5]; exact heapPast_ _ (heap_alloc_new _ _)
    · rw [← hW5]
      have h := heap_alloc_new (w3.alloc (.cells #[.slice (some ⟨g, 0, none⟩) t.fn t.fn] 22)) (.cells #[.func (.func 45) #[] #[.pointer (some ⟨w.heap.size, 0, none⟩), .pointer (some ⟨w3.heap.size, 0, none⟩), .pointer (some ⟨w3.heap.size + 1, 0, none⟩)]] 77)
      rw [World.size_alloc] at h
      exact h
  have hD := get_down b t cs HTOK.out HIN.out HVF.out.2 HVF.out.1 t.ln 0 (by omega) 0 W5 (by show 0 < 1; omega) hFx
  have y8 := (blk_cell (i := 0) hFx.sd rfl).1
  have e1 : b.bt = w.heap.size ∧ b.ba = w3.heap.size ∧ b.bd = w3.heap.size + 1 := by rw [hb]; exact ⟨rfl, rfl, rfl⟩
  rw [e1.1, e1.2.1, e1.2.2, show ((0 : Nat) : Int) = 0 from rfl] at hD
  rw [e1.2.2] at y8
  have hfn5 : b.fn = .func (.func 45) #[] #[.pointer (some ⟨w.heap.size, 0, none⟩), .pointer (some ⟨w3.heap.size, 0, none⟩), .pointer (some ⟨w3.heap.size + 1, 0, none⟩)] := by rw [hb]
  rw [hfn5] at y8
  have HD := Lib.hid hD
  clear hfn5 e1 hb hFx hb5 hD
  go_upto_region 10 with fail
  try rw [hW5]
  go_wp2_with fail
  refine HD.out.mono ?_
  rintro e w9 ⟨hb9, hh⟩
  have HB9 := Lib.hid (HB5.out.trans (hb9.mono HB5.out.size))
  rcases hh with ⟨q, hq, rfl⟩ | ⟨hno, rfl⟩
  · have HQ : Hid (q < t.vn ∧ cN t.n t.fs t.ls t.ln q = cs) := by
      have h1 := hq.1
      exact ⟨by rw [HVF.out.1]; exact h1, (hit_there HI.out HTOK.out HIN.out h1).1 hq⟩
    clear hq hb9 hW5
    go_wp2_with fail
    go_ret3
    exact ⟨HB9.out, .inr (.inr ⟨HE.out, HA.out, .inl ⟨q, HQ.out.1, HQ.out.2, rfl⟩⟩)⟩
  · have HQ : Hid (∀ q, q < t.vn → cN t.n t.fs t.ls t.ln q ≠ cs) := by
      intro q h1 h2
      rw [HVF.out.1] at h1
      exact hno q ((hit_there HI.out HTOK.out HIN.out h1).2 h2)
    clear hno hb9 hW5
    go_wp2_with fail
    go_ret3
    exact ⟨HB9.out, .inr (.inr ⟨HE.out, HA.out, .inr ⟨HQ.out, rfl⟩⟩)⟩
end Go.Proofs.Yteepiifhmbcciaa
/- purflelaw05.some: the chapter's example. -/
namespace Go.Proofs.Yteepiifhmbcciaa
open Go.RowKit

def someFs : List Sp := [⟨0, 0, 0⟩, ⟨1, 1, 0⟩]
def someLs (s : Nat) : List Lv := [⟨0, 2, none, 0, 0, none, 0, 0, [], []⟩, ⟨1, 3, some ⟨s + 1 + 1 + 1, 0, none⟩, 3, 3, some ⟨s + 1 + 1 + 1 + 1, 0, none⟩, 2, 2, [0, 1, 2], [2, 0]⟩]
def someT (s : Nat) : Ten := ⟨some ⟨s + 1, 0, none⟩, 2, 2, [2, 3], some ⟨s + 1 + 1, 0, none⟩, 2, 2, someFs, some ⟨s + 1 + 1 + 1 + 1 + 1, 0, none⟩, 2, 2, someLs s, some ⟨s + 1 + 1 + 1 + 1 + 1 + 1, 0, none⟩, 2, 2, [5, 7]⟩
/-- the blocks of the example -/
structure SomeB (w : World) (s : Nat) : Prop where
  b1 : w.heap[s + 1]? = some (.cells #[.int .i64 2, .int .i64 3] 3 (0, 0))
  b2 : w.heap[s + 1 + 1]? = some (.cells #[.int .i64 0, .int .i64 0, .int .i64 0, .int .i64 1, .int .i64 1, .int .i64 0] 60 (0, 0))
  b3 : w.heap[s + 1 + 1 + 1]? = some (.cells #[.int .i64 0, .int .i64 1, .int .i64 2] 3 (0, 0))
  b4 : w.heap[s + 1 + 1 + 1 + 1]? = some (.cells #[.int .i64 2, .int .i64 0] 3 (0, 0))
  b5 : w.heap[s + 1 + 1 + 1 + 1 + 1]? = some (.cells #[.int .i64 0, .int .i64 2, .slice none 0 0, .slice none 0 0, .int .i64 1, .int .i64 3, .slice (some ⟨s + 1 + 1 + 1, 0, none⟩) 3 3, .slice (some ⟨s + 1 + 1 + 1 + 1, 0, none⟩) 2 2] 57 (0, 0))
  b6 : w.heap[s + 1 + 1 + 1 + 1 + 1 + 1]? = some (.cells #[.int .i64 5, .int .i64 7] 2 (0, 0))
theorem ints_blk {w : World} {g n B : Nat} {zs : List Int} {e : TypeId} (h : w.heap[g]? = some (.cells (zs.map (Value.int .i64)).toArray e (0, 0))) (hl : zs.length = n) (hb : ∀ z ∈ zs, -9223372036854775808 ≤ z ∧ z ≤ 9223372036854775807) (hB : g < B) : Ints w B (some ⟨g, 0, none⟩) n zs := by
  refine ⟨hl, hb, fun _ => ⟨g, 0, rfl, hB, fun k x hx => ?_⟩⟩
  rw [Nat.zero_add]
  exact (vblk_cell h (by rw [List.getElem?_map, hx]; rfl)).1
theorem fit23 : ∀ z ∈ ([2, 3] : List Int), -9223372036854775808 ≤ z ∧ z ≤ 9223372036854775807 := by decide
theorem fit57 : ∀ z ∈ ([5, 7] : List Int), -9223372036854775808 ≤ z ∧ z ≤ 9223372036854775807 := by decide
theorem fitFs : ∀ x ∈ someFs, x.ok := by
  intro x hx
  simp only [someFs, List.mem_cons, List.not_mem_nil, or_false] at hx
  rcases hx with rfl | rfl
  · exact ⟨by dsimp only; omega, by dsimp only; omega, by dsimp only; omega, by dsimp only; omega, by dsimp only; omega, by dsimp only; omega⟩
  · exact ⟨by dsimp only; omega, by dsimp only; omega, by dsimp only; omega, by dsimp only; omega, by dsimp only; omega, by dsimp only; omega⟩
theorem le2 : 2 ≤ 100000 := by decide
theorem some_in {w : World} {s : Nat} (h : SomeB w s) : (someT s).In w w.heap.size := by
  have l6 := lt_of_heap h.b6
  have i0 : Ints w w.heap.size none 0 [] := Ints.nil_
  have i3 : Ints w w.heap.size (some ⟨s + 1 + 1 + 1, 0, none⟩) 3 [0, 1, 2] := ints_blk h.b3 rfl (by decide) (by omega)
  have i4 : Ints w w.heap.size (some ⟨s + 1 + 1 + 1 + 1, 0, none⟩) 2 [2, 0] := ints_blk h.b4 rfl (by decide) (by omega)
  refine ⟨ints_blk (zs := [2, 3]) h.b1 rfl fit23 (by omega), ⟨rfl, fitFs, fun _ => ⟨_, 0, rfl, by omega, fun k x hx => ?_⟩⟩, ⟨rfl, fun x hx => ?_, fun _ => ⟨_, 0, rfl, by omega, fun k x hx => ?_⟩⟩, ints_blk (zs := [5, 7]) h.b6 rfl fit57 (by omega), Nat.le_refl 2, Nat.le_refl 2, Nat.le_refl 2, Nat.le_refl 2, le2, le2, le2, le2⟩
  · match k, hx with
    | 0, hx => simp [someT, someFs] at hx; subst hx; exact ⟨(cell_of_row _ _ 0 _ _ (0, 0) h.b2).trans (by simp), (cell_of_row _ _ 1 _ _ (0, 0) h.b2).trans (by simp), (cell_of_row _ _ 2 _ _ (0, 0) h.b2).trans (by simp)⟩
    | 1, hx => simp [someT, someFs] at hx; subst hx; exact ⟨(cell_of_row _ _ 3 _ _ (0, 0) h.b2).trans (by simp), (cell_of_row _ _ 4 _ _ (0, 0) h.b2).trans (by simp), (cell_of_row _ _ 5 _ _ (0, 0) h.b2).trans (by simp)⟩
    | k + 2, hx => simp [someT, someFs] at hx
  · simp only [someT, someLs, List.mem_cons, List.not_mem_nil, or_false] at hx
    rcases hx with rfl | rfl
    · exact ⟨by dsimp only; omega, by dsimp only; omega, i0, i0, by dsimp only; omega, by dsimp only; omega, by dsimp only; omega, by dsimp only; omega⟩
    · exact ⟨by dsimp only; omega, by dsimp only; omega, i3, i4, by dsimp only; omega, by dsimp only; omega, by dsimp only; omega, by dsimp only; omega⟩
  · match k, hx with
    | 0, hx => simp [someT, someLs] at hx; subst hx; exact ⟨(cell_of_row _ _ 0 _ _ (0, 0) h.b5).trans (by simp), (cell_of_row _ _ 1 _ _ (0, 0) h.b5).trans (by simp), (cell_of_row _ _ 2 _ _ (0, 0) h.b5).trans (by simp), (cell_of_row _ _ 3 _ _ (0, 0) h.b5).trans (by simp)⟩
    | 1, hx => simp [someT, someLs] at hx; subst hx; exact ⟨(cell_of_row _ _ 4 _ _ (0, 0) h.b5).trans (by simp), (cell_of_row _ _ 5 _ _ (0, 0) h.b5).trans (by simp), (cell_of_row _ _ 6 _ _ (0, 0) h.b5).trans (by simp), (cell_of_row _ _ 7 _ _ (0, 0) h.b5).trans (by simp)⟩
    | k + 2, hx => simp [someT, someLs] at hx
theorem some_form : formOK [2, 3] someFs := by
  refine ⟨fun i s hs => ?_, fun m hm => ?_⟩
  · match i, hs with
    | 0, hs => simp [someFs] at hs; subst hs; exact ⟨by decide, by decide, by decide, .inl ⟨by decide, by decide, by decide⟩⟩
    | 1, hs => simp [someFs] at hs; subst hs; exact ⟨by decide, by decide, by decide, .inl ⟨by decide, by decide, by decide⟩⟩
    | i + 2, hs => simp [someFs] at hs
  · simp at hm
    rcases (by omega : m = 0 ∨ m = 1) with rfl | rfl <;> decide
theorem some_sizes : sizesL [2, 3] someFs = [2, 3] := by decide +kernel
theorem some_sizesE : sizesE [2, 3] someFs = 0 := by
  unfold sizesE
  rw [some_sizes, formB_yes some_form]
  decide +kernel
theorem some_of (s : Nat) : OfP (someLs s) someFs (sizesL [2, 3] someFs) := by
  rw [some_sizes]
  refine ⟨rfl, fun k l f z h1 h2 h3 => ?_⟩
  match k, h1, h2, h3 with
  | 0, h1, h2, h3 => simp [someLs] at h1; simp [someFs] at h2; simp at h3; subst h1 h2 h3; exact ⟨rfl, rfl⟩
  | 1, h1, h2, h3 => simp [someLs] at h1; simp [someFs] at h2; simp at h3; subst h1 h2 h3; exact ⟨rfl, rfl⟩
  | k + 2, h1, _, _ => simp [someLs] at h1
theorem some_lev (s : Nat) : levE (someLs s) 2 = 0 := by
  have h0 : lvF 0 2 [] [] 1 = 0 := lvF_zero ⟨⟨by decide, by decide, by decide, by decide, by decide, by decide⟩, ⟨fun h => by omega, fun h => by omega, fun _ _ _ => ⟨rfl, rfl⟩⟩, by decide, by decide, (fun y hy => by cases hy), (fun h => by omega)⟩
  have h1 : lvF 1 3 [0, 1, 2] [2, 0] 2 = 0 := by
    refine lvF_zero ⟨⟨by decide, by decide, by decide, by decide, by decide, by decide⟩, ⟨fun _ => ⟨by decide, rfl, rfl, ?_⟩, fun h => by omega, fun h => absurd rfl h⟩, by decide, by decide, ?_, ?_⟩
    · intro k x y hx hy
      match k, hx, hy with
      | 0, hx, hy => simp at hx hy; omega
      | 1, hx, hy => simp at hx hy; omega
      | k + 2, hx, hy => simp at hy
    · intro y hy
      simp at hy
      omega
    · intro _ p hp n x z u v hx hz hn1 hn2 hu hv
      rcases (by omega : p = 0 ∨ p = 1) with rfl | rfl
      · simp at hx hz; omega
      · simp at hx hz; omega
  have a1 : ahN (someLs s) 1 = 2 := rfl
  have e1 : levE (someLs s) 1 = 0 := by
    rw [levE_succ (k := 0) (l := ⟨0, 2, none, 0, 0, none, 0, 0, [], []⟩) rfl rfl]
    exact h0
  rw [levE_succ (k := 1) (l := ⟨1, 3, some ⟨s + 1 + 1 + 1, 0, none⟩, 3, 3, some ⟨s + 1 + 1 + 1 + 1, 0, none⟩, 2, 2, [0, 1, 2], [2, 0]⟩) rfl e1, a1]
  exact h1
theorem some_tenE (s : Nat) : tenE (someT s) = 0 := by
  unfold tenE
  have h1 : sizesE (someT s).xs (someT s).fs = 0 := some_sizesE
  have h2 : pB (OfP (someT s).ls (someT s).fs (sizesL (someT s).xs (someT s).fs)) = true := pB_t (some_of s)
  have h3 : levE (someT s).ls (someT s).ln = 0 := some_lev s
  have h4 : pB (RiseL (someT s).ls) = true := pB_t (riseL_none (by rfl))
  have h5 : (someT s).vn = ahN (someT s).ls (someT s).ln := rfl
  rw [if_neg (by rw [h1]; simp), if_pos h2, if_neg (by rw [h3]; simp), if_neg (by rw [h5]; simp), if_pos h4]
end Go.Proofs.Yteepiifhmbcciaa
