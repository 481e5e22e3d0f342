/- The contracts of slices.BinarySearch and sort.Search as level asks them, of level's Find and Parent. -/
import Derived.Test.YtfimnmdcbnfhfaaG5
import Derived.WalkSpells
import Derived.Test.YtfimnmdcbnfhfaaG9
import Derived.Test.YtfimnmdcbnfhfaaG7
namespace Go.Proofs.Ytfimnmdcbnfhfaa
open Go.RowKit

/-- a list that rises -/
def RisesL (L : List Int) : Prop := ∀ (i j : Nat) (x y : Int), i ≤ j → L[i]? = some x → L[j]? = some y → x ≤ y
/-- where t belongs in a list that rises: all ahead are less, all others are not -/
def CutAt (L : List Int) (t : Int) (i : Nat) : Prop := i ≤ L.length ∧ (∀ (j : Nat) (x : Int), j < i → L[j]? = some x → x < t) ∧ (∀ (j : Nat) (x : Int), i ≤ j → L[j]? = some x → t ≤ x)

set_option maxRecDepth 100000 in
set_option maxHeartbeats 1000000 in
theorem search_any (A : Option Addr) (n c : Nat) (L : List Int) (t : Int) (w : World) (B : Nat) (h : Ints w B A n L) (hn : n ≤ 1000000) (hR : RisesL L) :
    Calls Try.prog 84 #[.slice A n c, .int .i64 t] w fun e w' => ∃ i : Nat, e = .returned (.tuple #[.int .i64 (i : Int), .bool (pB (L[i]? = some t))]) ∧ CutAt L t i ∧ w = w' := by
  have HLn : Hid (L.length = n) := h.1
  have HR := Lib.hid hR
  have hL := fun x y W => less_any x y W
  clear hR
  go_enter Try.func84, Try.ntmps84
  go_wp2
  go_loop [7, 8] (fun u v => ∃ i j : Nat, u = .int .i64 (i : Int) ∧ v = .int .i64 (j : Int) ∧ i ≤ j ∧ j ≤ n ∧ Hid (∀ (q : Nat) (x : Int), q < i → L[q]? = some x → x < t) ∧ Hid (∀ (q : Nat) (x : Int), j ≤ q → L[q]? = some x → t ≤ x)) (fun u v => (intOf v).toNat - (intOf u).toNat)
  case atStart => exact ⟨0, n, rfl, rfl, Nat.zero_le _, Nat.le_refl _, by unfold Hid; intro q x hq; omega, by unfold Hid; intro q x hq hx; have := (List.getElem?_eq_some_iff.1 hx).1; have := HLn.out; omega⟩
  case round =>
    obtain ⟨i, j, rfl, rfl, hij, hjn, HI, HJ⟩ := hrel
    by_cases hlt : i < j
    · obtain ⟨b, off, y, rfl, _, HY, hc, hy1, hy2⟩ := h.at_ (k := (i + j) / 2) (by omega)
      have g1 : (0 : Int) ≤ ((i : Int) + (j : Int)) / 2 := by omega
      have g2 : ((i : Int) + (j : Int)) / 2 < (n : Int) := by omega
      have g3 : (((i : Int) + (j : Int)) / 2).toNat = (i + j) / 2 := by omega
      have g4 : ((((i + j) / 2 : Nat) : Int)) = ((i : Int) + (j : Int)) / 2 := by omega
      have HG := Lib.hid g4
      have hL2 := hL y t
      clear g4 hL
      by_cases hyt : y < t
      · have HI2 : Hid (∀ (q : Nat) (x : Int), q < (i + j) / 2 + 1 → L[q]? = some x → x < t) := by
          intro q x hq hx
          have := HR.out q ((i + j) / 2) x y (by omega) hx HY.out
          omega
        have d1 : decide (y < t) = true := decide_eq_true hyt
        rw [d1] at hL2
        clear hyt
        go_wp2_with (go_at_call 98; refine (hL2 _).mono ?_; rintro e w' ⟨rfl, rfl⟩)
        go_round
        case rel => exact ⟨(i + j) / 2 + 1, j, by rw [← HG.out]; go_num, rfl, by omega, hjn, HI2, HJ⟩
        case measure => simp [intOf]; omega
      · have HJ2 : Hid (∀ (q : Nat) (x : Int), (i + j) / 2 ≤ q → L[q]? = some x → t ≤ x) := by
          intro q x hq hx
          have := HR.out ((i + j) / 2) q y x hq HY.out hx
          omega
        have d1 : decide (y < t) = false := decide_eq_false hyt
        rw [d1] at hL2
        clear hyt
        go_wp2_with (go_at_call 98; refine (hL2 _).mono ?_; rintro e w' ⟨rfl, rfl⟩)
        go_round
        case rel => exact ⟨i, (i + j) / 2, rfl, by rw [← HG.out], by omega, by omega, HI, HJ2⟩
        case measure => simp [intOf]; omega
    · obtain rfl : i = j := by omega
      have hnan : ∀ (x : Int) (W : World), Calls Try.prog 99 #[.int .i64 x] W fun e w' => e = .returned (.bool false) ∧ W = w' := by
        intro x W
        have e1 : (x != x) = false := by simp
        go_enter Try.func99, Try.ntmps99
        go_wp2
        go_ret
        exact ⟨rfl, rfl⟩
      have HCut : Hid (CutAt L t i) := ⟨by rw [HLn.out]; exact hjn, HI.out, HJ.out⟩
      clear hL HI HJ HR
      by_cases hin : i < n
      · obtain ⟨b, off, y, rfl, _, HY, hc, hy1, hy2⟩ := h.at_ hin
        have g1 : (i : Int) < (n : Int) := by omega
        by_cases hyt : y = t
        · have HF : Hid (pB (L[i]? = some t) = true) := pB_t (by rw [HY.out, hyt])
          have d1 : (y == t) = true := by simpa using hyt
          clear hyt
          go_wp2
          go_ret2
          exact ⟨i, ret_of (by rw [HF.out]; rfl), HCut.out, rfl⟩
        · have HF : Hid (pB (L[i]? = some t) = false) := pB_f (by rw [HY.out]; intro e; injection e with e; exact hyt e)
          have d1 : (y == t) = false := by simpa using hyt
          clear hyt
          go_wp2_with (go_at_call 99; refine (hnan _ _).mono ?_; rintro e w' ⟨rfl, rfl⟩)
          go_ret2
          exact ⟨i, ret_of (by rw [HF.out]; rfl), HCut.out, rfl⟩
      · have HF : Hid (pB (L[i]? = some t) = false) := pB_f (by rw [List.getElem?_eq_none (by rw [HLn.out]; omega)]; intro e; cases e)
        have g1 : ¬ (i : Int) < (n : Int) := by omega
        go_wp2
        go_ret2
        exact ⟨i, ret_of (by rw [HF.out]; rfl), HCut.out, rfl⟩
end Go.Proofs.Ytfimnmdcbnfhfaa
/- The contract of level's Find. -/
namespace Go.Proofs.Ytfimnmdcbnfhfaa
open Go.RowKit

/-- what Find tells: the number of p's first child at a place, and whether there is one -/
def findF (K S : Int) (xs ys : List Int) (p : Nat) (t : Int) : Int × Bool :=
  match (kids K S xs ys p).find? (fun x => x.1 == t) with
  | some x => (x.2, true)
  | none => (0, false)
theorem find_first {α : Type} {f : α → Bool} {L : List α} {i : Nat} {x : α} (hx : L[i]? = some x) (hf : f x = true) (hb : ∀ (j : Nat) (y : α), j < i → L[j]? = some y → f y = false) : L.find? f = some x := by
  induction L generalizing i with
  | nil => simp at hx
  | cons a L ih =>
    cases i with
    | zero => simp at hx; subst hx; rw [List.find?_cons, hf]
    | succ i =>
      rw [List.find?_cons, hb 0 a (by omega) rfl]
      exact ih (by simpa using hx) (fun j y hj hy => hb (j + 1) y (by omega) (by simpa using hy))
theorem find_none {α : Type} {f : α → Bool} {L : List α} (hb : ∀ (j : Nat) (y : α), L[j]? = some y → f y = false) : L.find? f = none := by
  rw [List.find?_eq_none]
  intro y hy
  obtain ⟨j, hj⟩ := List.getElem?_of_mem hy
  rw [hb j y hj]; simp
section
variable {K S t : Int} {xs ys : List Int} {p : Nat}
theorem kids_inv {j : Nat} {y : Int × Int} (h : (kids K S xs ys p)[j]? = some y) : j < offN K S xs (p + 1) - offN K S xs p ∧ y = (atN K S ys (offN K S xs p + j), ((offN K S xs p + j : Nat) : Int)) := by
  have hj := (List.getElem?_eq_some_iff.1 h).1
  rw [kids_length] at hj
  rw [kids_at hj] at h
  injection h with h
  exact ⟨hj, h.symm⟩
theorem findF_hit {i : Nat} (hi : i < offN K S xs (p + 1) - offN K S xs p) (ht : atN K S ys (offN K S xs p + i) = t) (hb : ∀ j, j < i → atN K S ys (offN K S xs p + j) ≠ t) : findF K S xs ys p t = (((offN K S xs p + i : Nat) : Int), true) := by
  unfold findF
  rw [find_first (kids_at hi) (by simpa using ht) (fun j y hj hy => by obtain ⟨_, rfl⟩ := kids_inv hy; simpa using hb j hj)]
theorem findF_miss (hb : ∀ j, j < offN K S xs (p + 1) - offN K S xs p → atN K S ys (offN K S xs p + j) ≠ t) : findF K S xs ys p t = (0, false) := by
  unfold findF
  rw [find_none (fun j y hy => by obtain ⟨hj, rfl⟩ := kids_inv hy; simpa using hb j hj)]
end
set_option maxRecDepth 100000 in
theorem run_cut {w : World} (A : Option Addr) (n c lo hi : Nat) (h1 : lo ≤ hi) (h2 : hi ≤ n) (hc : n ≤ c) : (Instr.slice 22 (.slice A n c) (some (.int .i64 (lo : Int))) (some (.int .i64 (hi : Int))) none).run Try.prog w = .ok (.slice (if c = lo then A else A.map (·.add (lo * 1))) (hi - lo) (c - lo)) w := by
  obtain ⟨i0, hi0, hz0, hz1, hz2⟩ := info_parts infoInt
  rw [run_slice_lh w 22 A n c (by kernel_rfl) .i64 .i64 (lo : Int) (hi : Int) (by omega) (by omega) (by omega)]
  have hs : (sizeOf (Try.prog.elem 22)).run Try.prog w = .ok 1 w := by
    have he : Try.prog.elem 22 = 3 := by kernel_rfl
    rw [he]; simp [sizeOf, typeInfo, hi0, hz1]
  rw [hs]
  simp only [Result.andThen, sliced, Int.toNat_natCast]

theorem Ints.cut_ {w : World} {B n c lo hi : Nat} {A : Option Addr} {xs : List Int} (h : Ints w B A n xs) (h1 : lo ≤ hi) (h2 : hi ≤ n) (hc : n ≤ c) : Ints w B (if c = lo then A else A.map (·.add (lo * 1))) (hi - lo) ((xs.drop lo).take (hi - lo)) :=
  (h.drop_ (by omega) hc).take_ (by omega)
section
variable {K S t : Int} {xs ys : List Int} {p a : Nat}
theorem cutL_at (HL : Lok K S xs ys a) (hw : wholeB K = false) (hp : p < a) {j : Nat} {x : Int} : ((ys.drop (offN K S xs p)).take (offN K S xs (p + 1) - offN K S xs p))[j]? = some x ↔ j < offN K S xs (p + 1) - offN K S xs p ∧ atN K S ys (offN K S xs p + j) = x := by
  have hle := HL.le_tot (p := p + 1) (by omega)
  rw [List.getElem?_take]
  by_cases hj : j < offN K S xs (p + 1) - offN K S xs p
  · rw [if_pos hj, List.getElem?_drop, HL.crdAt hw _ (by omega)]
    exact ⟨fun e => ⟨hj, by injection e⟩, fun e => by rw [e.2]⟩
  · rw [if_neg hj]
    exact ⟨(fun e => by cases e), fun e => absurd e.1 hj⟩
theorem cutL_rises (HL : Lok K S xs ys a) (hw : wholeB K = false) (hp : p < a) : RisesL ((ys.drop (offN K S xs p)).take (offN K S xs (p + 1) - offN K S xs p)) := by
  intro i j x y hij hx hy
  obtain ⟨hi, rfl⟩ := (cutL_at HL hw hp).1 hx
  obtain ⟨hj, rfl⟩ := (cutL_at HL hw hp).1 hy
  exact HL.sorted hp (by omega) (by omega) (by omega)
theorem cut_hit (HL : Lok K S xs ys a) (hw : wholeB K = false) (hp : p < a) {i : Nat} (hc : CutAt ((ys.drop (offN K S xs p)).take (offN K S xs (p + 1) - offN K S xs p)) t i) (hi : ((ys.drop (offN K S xs p)).take (offN K S xs (p + 1) - offN K S xs p))[i]? = some t) : findF K S xs ys p t = (((offN K S xs p + i : Nat) : Int), true) := by
  obtain ⟨h1, h2⟩ := (cutL_at HL hw hp).1 hi
  refine findF_hit h1 h2 (fun j hj e => ?_)
  have := hc.2.1 j _ hj ((cutL_at HL hw hp).2 ⟨by omega, rfl⟩)
  omega
theorem cut_miss (HL : Lok K S xs ys a) (hw : wholeB K = false) (hp : p < a) {i : Nat} (hc : CutAt ((ys.drop (offN K S xs p)).take (offN K S xs (p + 1) - offN K S xs p)) t i) (hi : ¬ ((ys.drop (offN K S xs p)).take (offN K S xs (p + 1) - offN K S xs p))[i]? = some t) : findF K S xs ys p t = (0, false) := by
  refine findF_miss (fun j hj e => ?_)
  have hjl := (cutL_at HL hw hp).2 ⟨hj, e⟩
  by_cases hji : j < i
  · have := hc.2.1 j _ hji hjl; omega
  · have hil : i < offN K S xs (p + 1) - offN K S xs p := by omega
    have hix := (cutL_at (x := atN K S ys (offN K S xs p + i)) HL hw hp).2 ⟨hil, rfl⟩
    have h1 := hc.2.2 i _ (Nat.le_refl _) hix
    have h2 := cutL_rises HL hw hp i j _ _ (by omega) hix hjl
    exact hi (by rw [hix]; congr 1; omega)
end

end Go.Proofs.Ytfimnmdcbnfhfaa
/- store.find: from which child on those at a place, or behind it, are numbered. -/
namespace Go.Proofs.Ytfimnmdcbnfhfaa
open Go.RowKit

/-- what find tells: those ahead are at lesser places, all others are not -/
def FindAt (K S : Int) (xs ys : List Int) (p : Nat) (t : Int) (f : Nat) : Prop :=
  offN K S xs p ≤ f ∧ f ≤ offN K S xs (p + 1) ∧ (∀ j, offN K S xs p ≤ j → j < f → atN K S ys j < t) ∧ (∀ j, f ≤ j → j < offN K S xs (p + 1) → t ≤ atN K S ys j)
def FindPost (w : World) (K S : Int) (xs ys : List Int) (p : Nat) (t : Int) (e : Ending) (w' : World) : Prop :=
  Below w.heap.size w w' ∧ ∃ f : Nat, FindAt K S xs ys p t f ∧ e = .returned (.tuple #[.int .i64 (f : Int), .int .i64 ((offN K S xs (p + 1) : Nat) : Int)])
set_option maxRecDepth 100000 in
set_option maxHeartbeats 1000000 in
theorem stFind_crd (K S t : Int) (a p : Nat) (A B : Option Addr) (n c m e : Nat) (xs ys : List Int) (w : World) (h : LvI w A n B m xs ys) (hme : m ≤ e) (HL : Lok K S xs ys a) (hp : p < a) (hw : wholeB K = false) :
    Calls Try.prog 60 #[lvV K S A n c B m e, .int .i64 p, .int .i64 t] w (FindPost w K S xs ys p t) := by
  have HO := fun W (hb : Below w.heap.size w W) => st_span_ok K S A B n c m e p a xs ys W ((h.below hb).pos) HL hp
  have HW := fun W => whole_any K S A B n c m e W
  rw [hw] at HW
  have hst := HL.step p hp
  have hlt := HL.le_tot (p := p + 1) (by omega)
  rw [← HL.crdLen hw, h.crd.1] at hlt
  have hcrd := HL.crd
  rw [h.crd.1] at hcrd
  have HH : Hid (∀ i, CutAt ((ys.drop (offN K S xs p)).take (offN K S xs (p + 1) - offN K S xs p)) t i → FindAt K S xs ys p t (offN K S xs p + i)) := by
    intro i hc
    have hlen : ((ys.drop (offN K S xs p)).take (offN K S xs (p + 1) - offN K S xs p)).length ≤ offN K S xs (p + 1) - offN K S xs p := by rw [List.length_take]; omega
    refine ⟨by omega, by have := hc.1; omega, fun j h1 h2 => ?_, fun j h1 h2 => ?_⟩
    · exact hc.2.1 (j - offN K S xs p) _ (by omega) ((cutL_at HL hw hp).2 ⟨by have := hc.1; omega, by rw [show offN K S xs p + (j - offN K S xs p) = j by omega]⟩)
    · exact hc.2.2 (j - offN K S xs p) _ (by omega) ((cutL_at HL hw hp).2 ⟨by omega, by rw [show offN K S xs p + (j - offN K S xs p) = j by omega]⟩)
  have HR : Hid (RisesL ((ys.drop (offN K S xs p)).take (offN K S xs (p + 1) - offN K S xs p))) := cutL_rises HL hw hp
  have z0 := lvBelow w (lvO K S A n c B m e)
  have zz := heap_alloc_new w (lvO K S A n c B m e)
  obtain ⟨o, ho⟩ : ∃ o, offN K S xs p = o := ⟨_, rfl⟩
  obtain ⟨o', ho'⟩ : ∃ o', offN K S xs (p + 1) = o' := ⟨_, rfl⟩
  have HPO : Hid (∀ (W : World) (f : Nat), Below w.heap.size w W → FindAt K S xs ys p t f → FindPost w K S xs ys p t (.returned (.tuple #[.int .i64 (f : Int), .int .i64 (o' : Int)])) W) := fun W f h1 h2 => ⟨h1, f, h2, by rw [ho']⟩
  rw [ho, ho'] at HO hst HH HR
  rw [ho'] at hlt
  have hcut := fun W => run_cut (w := W) B m e o o' hst hlt hme
  have HB := fun W (hb : Below w.heap.size w W) => search_any (if e = o then B else B.map (·.add (o * 1))) (o' - o) (e - o) _ t W w.heap.size ((h.crd.below hb).cut_ hst hlt hme) (by omega) HR.out
  obtain ⟨B2, hB2⟩ : ∃ B2, (if e = o then B else B.map (·.add (o * 1))) = B2 := ⟨_, rfl⟩
  rw [hB2] at HB hcut
  have hsub : (o' - o : Nat) ≤ 100000 := by omega
  obtain ⟨L, hL⟩ : ∃ L, (ys.drop o).take (o' - o) = L := ⟨_, rfl⟩
  have HLL : Hid (L.length ≤ 100000) := by unfold Hid; rw [← hL, List.length_take]; omega
  rw [hL] at HB HH HR
  have HME := Lib.hid hme
  clear HL ho ho' hw hL hB2 hme
  go_enter Try.func60, Try.ntmps60
  go_wp2_with (first | (go_at_call 52; refine (HO _ z0).mono ?_; rintro x w1 ⟨rfl, hb1⟩; have hb2 := z0.trans (hb1.mono z0.size); have hk2 := oKeep hb1 zz; obtain ⟨k0, k1, k2, k3, _⟩ := lvCells hk2) | (go_at_call 78; refine (HW _).mono ?_; rintro x w3 ⟨rfl, hb3⟩; have hb4 := hb2.trans (hb3.mono hb2.size); have hk4 := oKeep hb3 hk2; obtain ⟨l0, l1, l2, l3, _⟩ := lvCells hk4))
  refine (HB _ hb4).mono ?_
  rintro x w5 ⟨i, rfl, hci, rfl⟩
  have hF := HH.out i hci
  have hi1 : i ≤ L.length := hci.1
  have hi2 : i ≤ 100000 := by
    have hl := HLL.out
    omega
  have HFI := Lib.hid (HPO.out _ _ hb4 hF)
  clear hci hi1 hF
  go_wp2
  go_ret2
  refine cast (congrArg (fun v => FindPost w K S xs ys p t v _) (ret_of ?_)) HFI.out
  go_num
set_option maxRecDepth 100000 in
set_option maxHeartbeats 1000000 in
theorem stFind_whole (K S : Int) (t a p : Nat) (A B : Option Addr) (n c m e : Nat) (xs ys : List Int) (w : World) (h : LvI w A n B m xs ys) (HL : Lok K S xs ys a) (hp : p < a) (hw : wholeB K = true) (ht : (t : Int) < S) :
    Calls Try.prog 60 #[lvV K S A n c B m e, .int .i64 p, .int .i64 (t : Int)] w (FindPost w K S xs ys p t) := by
  have HO := fun W (hb : Below w.heap.size w W) => st_span_ok K S A B n c m e p a xs ys W ((h.below hb).pos) HL hp
  have HW := fun W => whole_any K S A B n c m e W
  rw [hw] at HW
  have hst := HL.step p hp
  have hnx := HL.wholeNext hw p
  have hlt := HL.le_tot (p := p + 1) (by omega)
  have htt := HL.tot
  have HF : Hid (FindAt K S xs ys p t (offN K S xs p + t)) := by
    refine ⟨by omega, by omega, fun j h1 h2 => ?_, fun j h1 h2 => ?_⟩
    · have := HL.wholeAt hw p (i := j - offN K S xs p) (by omega)
      rw [show offN K S xs p + (j - offN K S xs p) = j by omega] at this
      rw [this]; omega
    · have := HL.wholeAt hw p (i := j - offN K S xs p) (by omega)
      rw [show offN K S xs p + (j - offN K S xs p) = j by omega] at this
      rw [this]; omega
  have z0 := lvBelow w (lvO K S A n c B m e)
  have zz := heap_alloc_new w (lvO K S A n c B m e)
  have HPO : Hid (∀ (W : World), Below w.heap.size w W → FindPost w K S xs ys p t (.returned (.tuple #[.int .i64 ((offN K S xs p + t : Nat) : Int), .int .i64 ((offN K S xs (p + 1) : Nat) : Int)])) W) := fun W h1 => ⟨h1, _, HF.out, rfl⟩
  obtain ⟨o, ho⟩ : ∃ o, offN K S xs p = o := ⟨_, rfl⟩
  obtain ⟨o', ho'⟩ : ∃ o', offN K S xs (p + 1) = o' := ⟨_, rfl⟩
  rw [ho, ho'] at HO HPO
  have hb1 : o + t ≤ 1048576 := by omega
  clear HL hw hnx hst hlt htt HF ho ho'
  go_enter Try.func60, Try.ntmps60
  go_wp2_with (first | (go_at_call 52; refine (HO _ z0).mono ?_; rintro x w1 ⟨rfl, hb1⟩; have hb2 := z0.trans (hb1.mono z0.size); have hk2 := oKeep hb1 zz; obtain ⟨k0, k1, k2, k3, _⟩ := lvCells hk2) | (go_at_call 78; refine (HW _).mono ?_; rintro x w3 ⟨rfl, hb3⟩; have hb4 := hb2.trans (hb3.mono hb2.size); have hk4 := oKeep hb3 hk2; obtain ⟨l0, l1, l2, l3, _⟩ := lvCells hk4))
  go_ret2
  refine cast (congrArg (fun v => FindPost w K S xs ys p t v _) (ret_of ?_)) (HPO.out _ hb4)
  go_num
theorem stFind_any (K S : Int) (t a p : Nat) (A B : Option Addr) (n c m e : Nat) (xs ys : List Int) (w : World) (h : LvI w A n B m xs ys) (hme : m ≤ e) (HL : Lok K S xs ys a) (hp : p < a) (ht : (t : Int) < S) :
    Calls Try.prog 60 #[lvV K S A n c B m e, .int .i64 p, .int .i64 (t : Int)] w (FindPost w K S xs ys p t) := by
  by_cases hw : wholeB K = true
  · exact stFind_whole K S t a p A B n c m e xs ys w h HL hp hw ht
  · exact stFind_crd K S t a p A B n c m e xs ys w h hme HL hp (by simpa using hw)
end Go.Proofs.Ytfimnmdcbnfhfaa
