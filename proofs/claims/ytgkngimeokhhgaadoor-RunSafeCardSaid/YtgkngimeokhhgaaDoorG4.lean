/- What box.Sum leaves of a tensor's cells: its laws. Plain lists. -/
import Derived.Test.YtgkngimeokhhgaaDoorG3
import Derived.Test.YtgkngimeokhhgaaDoorG2
import Derived.Test.YtgkngimeokhhgaaDoorG1
import Derived.StillTail
import Derived.StillTactics
import Derived.RangeFuncCalls
import Derived.TacticsIn
import Derived.StillTailTactics
import Derived.RegionTactic
import Derived.Deep.DeepCutAuto
import Derived.Deep.RegionHeld3
import Derived.Deep.RegionLaw
import Derived.Test.YtgkngimeokhhgaaDoorProg
import Derived.BigQuiet
import Derived.Deep.QuietTactic
import Derived.Below
namespace Go.Proofs.YtgkngimeokhhgaaDoor
open Go.RowKit

theorem cellsGo_err : ∀ (l : List Int) (n : Int), (cellsGo l n).2 = 0 ∨ (cellsGo l n).2 = 2
  | [], _ => .inl rfl
  | s :: l, n => by
    unfold cellsGo
    split
    · exact .inr rfl
    · exact cellsGo_err l _
theorem check_parts {xs : List Int} {m : Nat} (hck : checkF xs m = 0) : (cellsF xs).2 = 0 ∧ (laidF xs).2 = 0 ∧ (m : Int) = (laidF xs).1 := by
  unfold checkF at hck
  split at hck
  · rename_i h
    split at hck
    · rename_i h2; exact ⟨(laidF_ok h).1, h, h2⟩
    · simp at hck
  · rename_i h; exact absurd hck h
/-- what is left may be too large, and nothing else -/
theorem erase_err {xs : List Int} {m : Nat} (hck : checkF xs m = 0) (k : Nat) : (laidF (xs.eraseIdx k)).2 = 0 ∨ (laidF (xs.eraseIdx k)).2 = 2 := by
  obtain ⟨h0, _, _⟩ := check_parts hck
  obtain ⟨h4, hp⟩ := cellsF_ok h0
  have hl := List.length_eraseIdx_le xs k
  have hc : (cellsF (xs.eraseIdx k)).2 = 0 ∨ (cellsF (xs.eraseIdx k)).2 = 2 := by
    unfold cellsF
    rw [if_neg]
    · split
      · exact .inl rfl
      · exact cellsGo_err _ _
    · rw [not_or]
      refine ⟨by omega, ?_⟩
      rw [Bool.not_eq_true, List.any_eq_false]
      intro x hx
      have := hp x (List.mem_of_mem_eraseIdx hx)
      simp; omega
  unfold laidF
  rcases hc with hc | hc
  · rw [if_pos hc]
    split
    · exact .inr rfl
    · exact .inl rfl
  · rw [if_neg (by rw [hc]; decide)]; exact .inr hc
theorem sumV_check {xs : List Int} {k : Nat} (ys : List Int) (hE : (laidF (xs.eraseIdx k)).2 = 0) : checkF (xs.eraseIdx k) (sumV xs k ys).length = 0 := by
  unfold checkF
  rw [if_pos hE, sumV_length, if_pos]
  exact Int.toNat_of_nonneg laidF_nonneg.1
theorem sumV_nil (xs : List Int) (k : Nat) : sumV xs k [] = List.replicate (laidF (xs.eraseIdx k)).1.toNat 0 := scat_nil ..
theorem sumV_zeros (xs : List Int) (k K : Nat) : sumV xs k (List.replicate K 0) = List.replicate (laidF (xs.eraseIdx k)).1.toNat 0 := scat_zeros ..
theorem sumV_fits (xs : List Int) (k : Nat) (ys : List Int) : ∀ x ∈ sumV xs k ys, -9223372036854775808 ≤ x ∧ x ≤ 9223372036854775807 := scat_fits _ _ _
theorem sumV_sumL {xs : List Int} {k : Nat} {ys : List Int} (hck : checkF xs ys.length = 0) (h0 : 0 < ys.length) (hk : k < xs.length) : sumV xs k ys = sumL xs k ys := by
  unfold sumV sumL
  rw [(sum_pos hck h0 rfl hk).2.1]
theorem totL_sumV {xs : List Int} {k : Nat} {ys : List Int} (hck : checkF xs ys.length = 0) (hk : k < xs.length) : totL (sumV xs k ys) = totL ys := by
  rcases Nat.eq_zero_or_pos ys.length with h0 | h0
  · obtain rfl := List.eq_nil_of_length_eq_zero h0
    rw [sumV_nil, totL_zeros]; rfl
  · rw [sumV_sumL hck h0 hk]
    have := sum_pos hck h0 rfl hk
    exact totL_sumL this.1 hk this.2.2.1.symm
theorem sumV_swap {xs : List Int} {l h : Nat} {ys : List Int} (hck : checkF xs ys.length = 0) (hl : l < h) (hh : h < xs.length) (hE : (laidF (xs.eraseIdx h)).2 = 0) (hF : (laidF (xs.eraseIdx l)).2 = 0) :
    sumV (xs.eraseIdx h) l (sumV xs h ys) = sumV (xs.eraseIdx l) (h - 1) (sumV xs l ys) := by
  rcases Nat.eq_zero_or_pos ys.length with h0 | h0
  · obtain rfl := List.eq_nil_of_length_eq_zero h0
    rw [sumV_nil, sumV_nil, sumV_zeros, sumV_zeros, erase_two hl hh]
  · have a := sum_pos hck h0 rfl hh
    have b := sum_pos hck h0 rfl (Nat.lt_trans hl hh)
    have pe : ∀ k, 1 ≤ prodI (xs.eraseIdx k) := fun k => prodI_pos (pos_erase a.1 k)
    have n1 : 0 < (sumV xs h ys).length := by rw [sumV_length, a.2.1]; have := pe h; omega
    have n2 : 0 < (sumV xs l ys).length := by rw [sumV_length, b.2.1]; have := pe l; omega
    have e1 := List.length_eraseIdx_of_lt hh
    have e2 := List.length_eraseIdx_of_lt (Nat.lt_trans hl hh)
    rw [sumV_sumL (sumV_check ys hE) n1 (by omega), sumV_sumL (sumV_check ys hF) n2 (by omega), sumV_sumL hck h0 hh, sumV_sumL hck h0 (Nat.lt_trans hl hh)]
    exact sumL_swap a.1 hl hh a.2.2.1.symm
theorem sumV_add (xs : List Int) (k : Nat) (a b : List Int) (h : a.length = b.length) : sumV xs k (addL a b) = addL (sumV xs k a) (sumV xs k b) := scat_add _ _ _ _ h
theorem sumV_by (xs : List Int) (k : Nat) (z : Int) (a : List Int) : sumV xs k (byL z a) = byL z (sumV xs k a) := scat_by ..
/-- a mode, as the statements choose it -/
theorem mode_run (x : Int) (r : Nat) (hr : 1 ≤ r) (hr4 : r ≤ 100000) : ∃ (t u : Int) (md : Nat), x.tmod (r : Int) = t ∧ t + (r : Int) = u ∧ IntKind.i64.wrap u = u ∧ IntKind.i64.wrap (t + (r : Int)) = u ∧ u.tmod (r : Int) = (md : Int) ∧ u % (r : Int) = (md : Int) ∧ md < r ∧ 0 ≤ u ∧ -(r : Int) < t ∧ t < r := by
  have h1 : -(r : Int) < x.tmod r := by
    have := Int.lt_tmod_of_pos x (b := (r : Int)) (by omega); omega
  have h2 : x.tmod r < r := Int.tmod_lt_of_pos x (by omega)
  have h3 : 0 ≤ (x.tmod r + r) % (r : Int) := Int.emod_nonneg _ (by omega)
  have h4 : (x.tmod r + r) % (r : Int) < r := Int.emod_lt_of_pos _ (by omega)
  have h5 : IntKind.i64.wrap (x.tmod r + (r : Int)) = x.tmod r + r := by rw [wrap_eq]; exact IntWalk.wrap64_in _ ⟨by omega, by omega⟩
  refine ⟨x.tmod r, x.tmod r + r, ((x.tmod r + r) % (r : Int)).toNat, rfl, rfl, h5, h5, ?_, ?_, by omega, by omega, h1, h2⟩
  · rw [Int.tmod_eq_emod_of_nonneg (by omega), Int.toNat_of_nonneg h3]
  · rw [Int.toNat_of_nonneg h3]
theorem OwnI.cap {w : World} {base : Nat} {e : TypeId} {A : Option Addr} {c : Nat} {xs : List Int} (h : OwnI w base e A c xs) : xs.length ≤ c := by
  rcases h.1.2 with ⟨h1, h2⟩ | ⟨g, cap, cur, h1, _, _, h4, _⟩
  · have : xs = [] := by simpa using h2
    subst this; simp
  · injection h1 with _ _ h3; omega
/-- what a slice of integers leads to is no block of two headers -/
theorem Ints.off_ {w : World} {B n g b off : Nat} {xs : List Int} {a0 a1 : Option Addr} {n0 n1 c0 c1 : Nat} {t : TypeId} (h : Ints w B (some ⟨b, off, none⟩) n xs) (hn : 0 < n) (hg : w.heap[g]? = some (.cells #[.slice a0 n0 c0, .slice a1 n1 c1] t (0, 0))) : b ≠ g := by
  rintro rfl
  obtain ⟨hl, _, hc⟩ := h
  obtain ⟨b', off', e, _, hx⟩ := hc hn
  injection e with e
  injection e with e1 e2
  subst e1
  subst e2
  have hk : 0 < xs.length := by omega
  have := hx 0 _ (List.getElem?_eq_getElem hk)
  have hr := cell_of_row _ _ (off + 0) _ t (0, 0) hg
  rw [hr] at this
  match off + 0, this with
  | 0, this => simp at this
  | 1, this => simp at this
  | i + 2, this => simp at this
theorem Ints.off2 {w : World} {B n g : Nat} {A : Option Addr} {xs : List Int} {a0 a1 : Option Addr} {n0 n1 c0 c1 : Nat} {t : TypeId} (h : Ints w B A n xs) (hg : w.heap[g]? = some (.cells #[.slice a0 n0 c0, .slice a1 n1 c1] t (0, 0))) (u v : Value) : Ints ((w.setCell ⟨g, 0, none⟩ u).setCell ⟨g, 1, none⟩ v) B A n xs := by
  have h' := h
  obtain ⟨hl, hb, hc⟩ := h
  refine ⟨hl, hb, fun hn => ?_⟩
  obtain ⟨b, off, rfl, hB, hx⟩ := hc hn
  have hne := h'.off_ hn hg
  refine ⟨b, off, rfl, hB, fun k x hx' => ?_⟩
  exact (World.cell?_setCell_far _ _ ⟨b, off + k, none⟩ _ (fun e => hne e.symm)).trans ((World.cell?_setCell_far _ _ ⟨b, off + k, none⟩ _ (fun e => hne e.symm)).trans (hx k x hx'))
theorem set_both {W : World} {g : Nat} {u v a b : Value} {t : TypeId} (h : W.heap[g]? = some (.cells #[u, v] t (0, 0))) : ((W.setCell ⟨g, 0, none⟩ a).setCell ⟨g, 1, none⟩ b).heap[g]? = some (.cells #[a, b] t (0, 0)) := by
  simp only [World.setCell, Array.getElem?_modify, if_true, h]
  rfl
end Go.Proofs.YtgkngimeokhhgaaDoor
/- How two entries are compared by an order of their modes: the contracts of cmp.Compare at int and of the closure that coo.aheadBy makes. -/
namespace Go.Proofs.YtgkngimeokhhgaaDoor
open Go.RowKit

def pickE (l : List Int) (x : Int) : Int := l.getD x.toNat 0
def cmpI (x y : Int) : Int := if x < y then -1 else if y < x then 1 else 0
/-- by which of the modes in turn two places differ first -/
def cmpE : List Int → List Int → List Int → Int
  | [], _, _ => 0
  | m :: os, a, b => if cmpI (pickE a m) (pickE b m) = 0 then cmpE os a b else cmpI (pickE a m) (pickE b m)

theorem cmpI_bd (x y : Int) : -1 ≤ cmpI x y ∧ cmpI x y ≤ 1 := by unfold cmpI; split <;> (try split) <;> omega

theorem cmpE_cons {os a b : List Int} {k : Nat} {m : Int} (h : os[k]? = some m) : cmpE (os.drop k) a b = if cmpI (pickE a m) (pickE b m) = 0 then cmpE (os.drop (k + 1)) a b else cmpI (pickE a m) (pickE b m) := by
  rw [drop_of h]; rfl
theorem pickE_of {l : List Int} {m y : Int} (h : l[m.toNat]? = some y) : pickE l m = y := by unfold pickE; rw [List.getD_eq_getElem?_getD, h]; rfl

end Go.Proofs.YtgkngimeokhhgaaDoor
/- The contract of slices.insertionSortCmpFunc at entries, by an order of their modes. -/
namespace Go.Proofs.YtgkngimeokhhgaaDoor
open Go.RowKit

/-- the cells of entries -/
def cellsE : List Ent → List Value
  | [] => []
  | x :: l => .slice x.A x.n x.c :: .int .i64 x.v :: cellsE l
theorem cellsE_length (es : List Ent) : (cellsE es).length = 2 * es.length := by
  induction es with
  | nil => rfl
  | cons x l ih => simp [cellsE, ih]; omega
theorem cellsE_append (a b : List Ent) : cellsE (a ++ b) = cellsE a ++ cellsE b := by
  induction a with
  | nil => rfl
  | cons x l ih => simp [cellsE, ih]
theorem cellsE_at {es : List Ent} {k : Nat} {x : Ent} (h : es[k]? = some x) : (cellsE es)[2 * k]? = some (.slice x.A x.n x.c) ∧ (cellsE es)[2 * k + 1]? = some (.int .i64 x.v) := by
  induction es generalizing k with
  | nil => simp at h
  | cons y l ih => cases k with
    | zero => simp at h; subst h; simp [cellsE]
    | succ k =>
      have := ih (k := k) (by simpa using h)
      rw [show 2 * (k + 1) = 2 * k + 1 + 1 by omega]
      simpa [cellsE] using this
theorem cellsE_set {es : List Ent} {k : Nat} {x : Ent} (h : k < es.length) : ((cellsE es).set (2 * k) (.slice x.A x.n x.c)).set (2 * k + 1) (.int .i64 x.v) = cellsE (es.set k x) := by
  induction es generalizing k with
  | nil => simp at h
  | cons y l ih => cases k with
    | zero => simp [cellsE]
    | succ k =>
      rw [show 2 * (k + 1) = 2 * k + 1 + 1 by omega]
      simp only [cellsE, List.set_cons_succ, List.cons.injEq, true_and]
      exact ih (by simpa using h)
/-- the header (A, n) reads as xs, and not in block g -/
def IntsOff (w : World) (g : Nat) (A : Option Addr) (n : Nat) (xs : List Int) : Prop := Ints w w.heap.size A n xs ∧ ∀ b off, A = some ⟨b, off, none⟩ → b ≠ g
theorem IntsOff.grown {w wr : World} {g n : Nat} {A : Option Addr} {xs : List Int} (h : IntsOff w g A n xs) (hg : w.grownBy wr (some g)) : Ints wr wr.heap.size A n xs := by
  obtain ⟨⟨hl, hb, hc⟩, hne⟩ := h
  refine ⟨hl, hb, fun h0 => ?_⟩
  obtain ⟨b, off, rfl, hB, hx⟩ := hc h0
  refine ⟨b, off, rfl, Nat.lt_of_lt_of_le hB hg.size, fun k x hk => ?_⟩
  exact hg.cell (hx k x hk) (fun e => hne b off rfl (by injection e))
def ltE (os : List Int) (x y : Ent) : Bool := decide (cmpE os x.cs y.cs < 0)
/-- x put into what is in order ahead of it, from behind -/
def insE (os : List Int) (P : List Ent) (x : Ent) : List Ent := (P.reverse.dropWhile (ltE os x)).reverse ++ x :: (P.reverse.takeWhile (ltE os x)).reverse
def sortE (os : List Int) (l : List Ent) : List Ent := l.foldl (insE os) []
theorem insE_eq {os : List Int} {P1 S : List Ent} {x : Ent} (h1 : ∀ y ∈ S, ltE os x y = true) (h2 : ∀ z, P1.getLast? = some z → ltE os x z = false) : insE os (P1 ++ S) x = P1 ++ x :: S := by
  have e1 : (P1 ++ S).reverse.takeWhile (ltE os x) = S.reverse ∧ (P1 ++ S).reverse.dropWhile (ltE os x) = P1.reverse := by
    rw [List.reverse_append]
    have hS : ∀ y ∈ S.reverse, ltE os x y = true := fun y hy => h1 y (List.mem_reverse.1 hy)
    have hP : ∀ z, P1.reverse.head? = some z → ltE os x z = false := fun z hz => h2 z (by rw [List.head?_reverse] at hz; exact hz)
    generalize S.reverse = T at hS
    generalize P1.reverse = Q at hP
    induction T with
    | nil =>
      cases Q with
      | nil => simp
      | cons z Q =>
        have := hP z rfl
        exact ⟨by simp [this], by simp [this]⟩
    | cons y T ih =>
      have hy := hS y (by simp)
      have := ih (fun z hz => hS z (by simp [hz]))
      exact ⟨by simp [hy, this.1], by simp [hy, this.2]⟩
  unfold insE
  rw [e1.1, e1.2, List.reverse_reverse, List.reverse_reverse]

theorem insE_mem {os : List Int} {P : List Ent} {x y : Ent} (h : y ∈ insE os P x) : y ∈ P ∨ y = x := by
  unfold insE at h
  rcases List.mem_append.1 h with h | h
  · exact .inl (List.mem_reverse.1 ((List.dropWhile_sublist _).mem (List.mem_reverse.1 h)))
  · rcases List.mem_cons.1 h with h | h
    · exact .inr h
    · exact .inl (List.mem_reverse.1 ((List.takeWhile_sublist _).mem (List.mem_reverse.1 h)))
theorem insE_length (os : List Int) (P : List Ent) (x : Ent) : (insE os P x).length = P.length + 1 := by
  unfold insE
  have := congrArg List.length (List.takeWhile_append_dropWhile (p := ltE os x) (l := P.reverse))
  simp only [List.length_append, List.length_reverse, List.length_cons] at this ⊢
  omega
theorem sortE_snoc (os : List Int) (l : List Ent) (x : Ent) : sortE os (l ++ [x]) = insE os (sortE os l) x := by unfold sortE; rw [List.foldl_append]; rfl
theorem sortE_one (os : List Int) (es : List Ent) : es = sortE os (es.take 1) ++ es.drop 1 := by
  cases es with
  | nil => rfl
  | cons y t => simp [sortE, insE]
theorem sortE_few (os : List Int) (es : List Ent) {i b : Nat} (hi : 1 ≤ i) (hib : i ≤ b ∨ i = 1) (hb : b ≤ i) : sortE os (es.take i) ++ es.drop i = sortE os (es.take b) ++ es.drop b := by
  by_cases h : i = b
  · rw [h]
  · obtain rfl : i = 1 := by omega
    obtain rfl : b = 0 := by omega
    rw [← sortE_one]; rfl
theorem sortE_facts (os : List Int) (l : List Ent) : (sortE os l).length = l.length ∧ ∀ y ∈ sortE os l, y ∈ l := by
  have key : ∀ (n : Nat) (l : List Ent), l.length = n → (sortE os l).length = l.length ∧ ∀ y ∈ sortE os l, y ∈ l := by
    intro n
    induction n with
    | zero => intro l h; obtain rfl := List.eq_nil_of_length_eq_zero h; exact ⟨rfl, fun y hy => hy⟩
    | succ n ih =>
      intro l h
      obtain ⟨T, y, rfl⟩ : ∃ T y, l = T ++ [y] := ⟨l.dropLast, l.getLast (by intro e; subst e; simp at h), (List.dropLast_concat_getLast _).symm⟩
      have hT : T.length = n := by simpa using h
      obtain ⟨h1, h2⟩ := ih T hT
      rw [sortE_snoc]
      refine ⟨by rw [insE_length, h1]; simp, fun z hz => ?_⟩
      rcases insE_mem hz with hz | hz
      · exact List.mem_append_left _ (h2 z hz)
      · subst hz; simp
  exact key _ l rfl
theorem grown_below' {w0 w1 w2 : World} {g : Nat} (hg : w0.grownBy w1 (some g)) (hb : Below w1.heap.size w1 w2) : w0.grownBy w2 (some g) :=
  ⟨hb.os.trans hg.os, hb.tape.trans hg.tape, hb.output.trans hg.output, Nat.le_trans hg.size hb.size, fun i hi hne => (hb.block i (Nat.lt_of_lt_of_le hi hg.size)).trans (hg.block i hi hne)⟩
theorem grownBy_setE {w0 w : World} {g : Nat} (h : w0.grownBy w (some g)) (off : Nat) (v : Value) : w0.grownBy (w.setCell ⟨g, off, none⟩ v) (some g) :=
  ⟨h.os, h.tape, h.output, Nat.le_trans h.size (KeepsWalks.setCell w _ v).size, fun k hk hne => (Below.heap_setCell _ _ _ k (fun e => hne (by rw [e]))).trans (h.block k hk hne)⟩
theorem blkE_set {w : World} {g i : Nat} {cs : List Value} {t : TypeId} (h : w.heap[g]? = some (.cells cs.toArray t (0, 0))) (v : Value) : (w.setCell ⟨g, i, none⟩ v).heap[g]? = some (.cells (cs.set i v).toArray t (0, 0)) := by
  rw [heap_setCell_same _ _ _ _ _ _ h]; simp
theorem swap_list (P0 S D : List Ent) (x z : Ent) : ((P0 ++ [z] ++ x :: S ++ D).set (P0.length + 1) z).set P0.length x = P0 ++ x :: (z :: S) ++ D := by
  induction P0 with
  | nil => rfl
  | cons y P0 ih => simp

end Go.Proofs.YtgkngimeokhhgaaDoor
/- slices.swapRangeCmpFunc and slices.rotateCmpFunc at entries. -/
namespace Go.Proofs.YtgkngimeokhhgaaDoor
open Go.RowKit

theorem swap_two {α : Type} (P Q S : List α) (x y : α) {k l : Nat} (hk : P.length = k) (hl : k + 1 + Q.length = l) : ((P ++ x :: Q ++ y :: S).set k y).set l x = P ++ y :: Q ++ x :: S := by
  subst hk
  subst hl
  induction P with
  | nil =>
    simp only [List.nil_append, List.length_nil, List.cons_append, List.set_cons_zero, Nat.zero_add]
    rw [Nat.add_comm 1, List.set_cons_succ]
    congr 1
    rw [List.set_append_right _ _ (Nat.le_refl _), Nat.sub_self, List.set_cons_zero]
  | cons z P ih =>
    simp only [List.cons_append, List.length_cons, List.set_cons_succ]
    have e : P.length + 1 + 1 + Q.length = P.length + 1 + Q.length + 1 := by omega
    rw [e, List.set_cons_succ]
    congr 1
theorem grown_four {w0 w : World} {g : Nat} (h : w0.grownBy w (some g)) (k l : Nat) (v1 v2 v3 v4 : Value) :
    w0.grownBy ((((w.setCell ⟨g, k * 2, none⟩ v1).setCell ⟨g, k * 2 + 1, none⟩ v2).setCell ⟨g, l * 2, none⟩ v3).setCell ⟨g, l * 2 + 1, none⟩ v4) (some g) :=
  grownBy_setE (grownBy_setE (grownBy_setE (grownBy_setE h _ _) _ _) _ _) _ _
theorem grown_same (w : World) (g : Nat) : w.grownBy w (some g) := ⟨rfl, rfl, rfl, Nat.le_refl _, fun _ _ _ => rfl⟩
theorem grown_trans {w0 w1 w2 : World} {g : Nat} (h : w0.grownBy w1 (some g)) (h2 : w1.grownBy w2 (some g)) : w0.grownBy w2 (some g) :=
  ⟨h2.os.trans h.os, h2.tape.trans h.tape, h2.output.trans h.output, Nat.le_trans h.size h2.size, fun i hi hne => (h2.block i (Nat.lt_of_lt_of_le hi h.size) hne).trans (h.block i hi hne)⟩
theorem grown_drew {w w' : World} {g : Nat} (h : w.grownBy w' (some g)) : w.grownBy w'.drew (some g) := grown_below' h (Below.refl _ _).drew
end Go.Proofs.YtgkngimeokhhgaaDoor
/- coo.clone: the list is the same, and shares nothing. -/
namespace Go.Proofs.YtgkngimeokhhgaaDoor

section
open Go.RowKit
theorem cellsE_one (es : List Ent) : ∀ u ∈ cellsE es, u.oneCell' = true := by
  induction es with
  | nil => intro u hu; cases hu
  | cons x es ih =>
    intro u hu
    simp only [cellsE, List.mem_cons] at hu
    rcases hu with rfl | rfl | hu
    · rfl
    · rfl
    · exact ih u hu
theorem Ents.cells {w : World} {B n : Nat} {ad : Addr} {es : List Ent} (h : Ents w B (some ad) n es) : ∀ (j : Nat) (u : Value), (cellsE es)[j]? = some u → w.cell? (ad.add j) = some u := by
  intro j u hu
  have hj := (List.getElem?_eq_some_iff.1 hu).1
  rw [cellsE_length] at hj
  obtain ⟨hl, _, hc⟩ := h
  obtain ⟨b, off, e, _, hx⟩ := hc (by omega)
  injection e with e
  subst e
  have hk : j / 2 < es.length := by omega
  have hx' := hx (j / 2) _ (List.getElem?_eq_getElem hk)
  have hce := cellsE_at (List.getElem?_eq_getElem hk)
  have hadd : (Addr.add ⟨b, off, none⟩ j : Addr) = ⟨b, off + j, none⟩ := by
    by_cases h0 : j = 0
    · subst h0; simp [Addr.add]
    · simp [Addr.add, h0]
  rw [hadd]
  rcases Nat.mod_two_eq_zero_or_one j with hm | hm
  · obtain ⟨k, rfl⟩ : ∃ k, j = 2 * k := ⟨j / 2, by omega⟩
    have e : 2 * k / 2 = k := by omega
    simp only [e] at hx' hce
    rw [hce.1] at hu
    injection hu with hu
    subst hu
    exact hx'.1
  · obtain ⟨k, rfl⟩ : ∃ k, j = 2 * k + 1 := ⟨j / 2, by omega⟩
    have e : (2 * k + 1) / 2 = k := by omega
    simp only [e] at hx' hce
    rw [hce.2] at hu
    injection hu with hu
    subst hu
    rw [← Nat.add_assoc]
    exact hx'.2
theorem emptyRow2 (w : World) (e : TypeId) : (w.alloc (.cells #[] e)).ownsRow w.heap.size e 2 (.slice (some ⟨w.heap.size, 0, none⟩) 0 0) 0 [] :=
  ⟨by simp, .inr ⟨w.heap.size, 0, #[], rfl, Nat.le_refl _, heap_alloc_new w _, Nat.le_refl _, by unfold maxLen; omega, by simp, by simp⟩⟩
theorem rowE_form {w : World} {base n : Nat} {e : TypeId} {v : Value} {ys : List Value} (h : w.ownsRow base e 2 v n ys) : ∃ A c, v = .slice A n c := by
  rcases h.2 with ⟨rfl, rfl⟩ | ⟨g, cap, cur, rfl, _⟩
  · exact ⟨_, _, rfl⟩
  · exact ⟨_, _, rfl⟩
end

section
open Go.RowKit
theorem pair_cells {w : World} {g : Nat} {u v : Value} {t : TypeId} (h : w.heap[g]? = some (.cells #[u, v] t (0, 0))) : w.cell? ⟨g, 0, none⟩ = some u ∧ w.cell? ⟨g, 1, none⟩ = some v ∧ w.frozen? ⟨g, 0, none⟩ = false ∧ w.frozen? ⟨g, 1, none⟩ = false :=
  ⟨(cell_of_row _ _ 0 _ t (0, 0) h).trans (by simp), (cell_of_row _ _ 1 _ t (0, 0) h).trans (by simp), by simp [World.frozen?, h], by simp [World.frozen?, h]⟩
theorem lt_of_heap {w : World} {g : Nat} {o : Obj} (h : w.heap[g]? = some o) : g < w.heap.size := (Array.getElem?_eq_some_iff.1 h).1
theorem rows_ne {w : World} {base g size n : Nat} {e e' : TypeId} {v : Value} {xs : List Value} {cs : Array Value} {fr : Nat × Nat} (h : w.ownsRow base e size v n xs) (hg : w.heap[g]? = some (.cells cs e' fr)) (hne : e ≠ e') : v.ownBlock = none ∨ v.ownBlock ≠ some g := by
  right
  intro hq
  rcases h.2 with ⟨h1, _⟩ | ⟨g', cap, cur, h1, _, hh, _⟩
  · rw [h1] at hq; cases hq
  · rw [h1] at hq
    have : g' = g := by simpa [Value.ownBlock] using hq
    subst this
    rw [hg] at hh
    injection hh with hh
    injection hh with _ hh
    exact hne hh.symm
theorem set_two (w : World) (g : Nat) (u v a b : Value) (t : TypeId) (h : w.heap[g]? = some (.cells #[u, v] t (0, 0))) :
    ((w.setCell ⟨g, 0, none⟩ a).setCell ⟨g, 1, none⟩ b).heap[g]? = some (.cells #[a, b] t (0, 0)) ∧ w.grownBy ((w.setCell ⟨g, 0, none⟩ a).setCell ⟨g, 1, none⟩ b) (some g) := by
  refine ⟨?_, grownBy_setE (grownBy_setE (grown_same w g) _ _) _ _⟩
  have h1 := blkE_set (i := 0) (cs := [u, v]) h a
  have h2 := blkE_set (i := 1) h1 b
  simpa using h2
/-- the entries' places and numbers, but for where the places lie -/
def keyE (x : Ent) : List Int × Int × Nat := (x.cs, x.v, x.n)
/-- an entry whose place is the call's own, outside of block g -/
def NewE (w : World) (base g : Nat) (x : Ent) : Prop := IntsOff w g x.A x.n x.cs ∧ (∀ b off, x.A = some ⟨b, off, none⟩ → base ≤ b ∧ b < w.heap.size ∧ ∃ cs t, w.heap[b]? = some (.cells cs t (0, 0))) ∧ x.n ≤ x.c ∧ -9223372036854775808 ≤ x.v ∧ x.v ≤ 9223372036854775807
theorem NewE.grown {w wr : World} {base g : Nat} {x : Ent} (h : NewE w base g x) (hg : w.grownBy wr (some g)) : NewE wr base g x := ⟨⟨h.1.grown hg, h.1.2⟩, fun b off e => ⟨(h.2.1 b off e).1, Nat.lt_of_lt_of_le (h.2.1 b off e).2.1 hg.size, by obtain ⟨cs, t, hc⟩ := (h.2.1 b off e).2.2; exact ⟨cs, t, (hg.block b (h.2.1 b off e).2.1 (by intro e2; injection e2 with e2; exact h.1.2 b off e e2)).trans hc⟩⟩, h.2.2⟩
theorem Ints.grown_lt {w wr : World} {B g n : Nat} {A : Option Addr} {xs : List Int} (h : Ints w B A n xs) (hg : w.grownBy wr (some g)) (hB : B ≤ g) (hs : B ≤ w.heap.size) : Ints wr B A n xs :=
  h.keep fun p hp => by
    have := hg.block p.block (by omega) (by intro e; injection e with e; omega)
    simp only [World.cell?, this]
theorem OwnI.newE {w : World} {base g c : Nat} {A : Option Addr} {cs : List Int} {v : Int} (h : OwnI w base 3 A c cs) (hg : g < base) (hv : -9223372036854775808 ≤ v ∧ v ≤ 9223372036854775807) : NewE w base g ⟨A, cs.length, c, cs, v⟩ := by
  refine ⟨⟨h.ints, ?_⟩, ?_, ?_, hv⟩
  all_goals
    dsimp only
    rcases h.1.2 with ⟨h1, h2⟩ | ⟨g', cap, cur, h1, h2, hh, h4, _⟩
  · intro b off e; injection h1 with h1; rw [h1] at e; cases e
  · intro b off e; injection h1 with h1; rw [h1] at e; injection e with e; injection e with e; omega
  · intro b off e; injection h1 with h1; rw [h1] at e; cases e
  · intro b off e; injection h1 with h1 h1b; subst h1; injection e with e; injection e with e; subst e; exact ⟨h2, (h.1.lt g' rfl).2, _, _, hh⟩
  · omega
  · injection h1 with _ _ h1; omega
theorem NewE.far {w wr : World} {base g q : Nat} {x : Ent} (h : NewE w base g x) (hg : w.grownBy wr (some q)) (hq : q < base) : NewE wr base g x := by
  refine ⟨⟨⟨h.1.1.1, h.1.1.2.1, fun h0 => ?_⟩, h.1.2⟩, fun b off e => ⟨(h.2.1 b off e).1, Nat.lt_of_lt_of_le (h.2.1 b off e).2.1 hg.size, by obtain ⟨cs, t, hc⟩ := (h.2.1 b off e).2.2; exact ⟨cs, t, (hg.block b (h.2.1 b off e).2.1 (by have := (h.2.1 b off e).1; intro e2; injection e2 with e2; omega)).trans hc⟩⟩, h.2.2⟩
  obtain ⟨b, off, e, hB, hx⟩ := h.1.1.2.2 h0
  have hb := (h.2.1 b off e).1
  exact ⟨b, off, e, Nat.lt_of_lt_of_le hB hg.size, fun k y hy => hg.cell (hx k y hy) (fun e => by injection e with e; dsimp only at e; omega)⟩
theorem NewE.mono {w : World} {base base' g : Nat} {x : Ent} (h : NewE w base g x) (hb : base' ≤ base) : NewE w base' g x := ⟨h.1, fun b off e => ⟨Nat.le_trans hb (h.2.1 b off e).1, (h.2.1 b off e).2⟩, h.2.2⟩
theorem set_head {Ds R : List Ent} {k : Nat} (y x : Ent) (h : Ds.length = k) : (Ds ++ y :: R).set k x = Ds ++ [x] ++ R := by
  subst h
  rw [List.set_append_right _ _ (Nat.le_refl _), Nat.sub_self, List.set_cons_zero]
  simp
end
end Go.Proofs.YtgkngimeokhhgaaDoor
/- Entries of the call's own, whose places are its own. -/
namespace Go.Proofs.YtgkngimeokhhgaaDoor
open Go.RowKit

theorem set_snd (w : World) (g : Nat) (u v b : Value) (t : TypeId) (h : w.heap[g]? = some (.cells #[u, v] t (0, 0))) :
    (w.setCell ⟨g, 1, none⟩ b).heap[g]? = some (.cells #[u, b] t (0, 0)) ∧ w.grownBy (w.setCell ⟨g, 1, none⟩ b) (some g) := by
  refine ⟨?_, grownBy_setE (grown_same w g) _ _⟩
  have h1 := blkE_set (i := 1) (cs := [u, v]) h b
  simpa using h1

theorem keep_b {w w' : World} {k : Nat} {o : Obj} (h : Below w.heap.size w w') (hk : w.heap[k]? = some o) : w'.heap[k]? = some o := (h.block k (lt_of_heap hk)).trans hk
/-- an entry whose place is of the call's own -/
def OwnP (w : World) (base : Nat) (x : Ent) : Prop := OwnI w base 3 x.A x.c x.cs ∧ x.n = x.cs.length ∧ -9223372036854775808 ≤ x.v ∧ x.v ≤ 9223372036854775807
end Go.Proofs.YtgkngimeokhhgaaDoor
/- Plain facts of levels, without the program: when a level may be, how its children are numbered, and at which places they are. Nothing is claimed of the program here. -/
namespace Go.Proofs.YtgkngimeokhhgaaDoor
open Go.RowKit

noncomputable def pB (P : Prop) : Bool := @decide P (Classical.propDecidable P)
theorem pB_t {P : Prop} (h : P) : pB P = true := @decide_eq_true P (Classical.propDecidable P) h
theorem pB_f {P : Prop} (h : ¬ P) : pB P = false := @decide_eq_false P (Classical.propDecidable P) h
theorem pB_iff {P : Prop} : pB P = true ↔ P := @decide_eq_true_iff P (Classical.propDecidable P)
theorem pB_congr {P Q : Prop} (h : P ↔ Q) : pB P = pB Q := by rw [propext h]

def wholeB (K : Int) : Bool := K == 0 || K == 4
def MayP (K S a : Int) : Prop := (0 ≤ K ∧ K ≤ 4) ∧ (K = 4 → 1 ≤ S) ∧ 0 ≤ S ∧ S ≤ 2147483648 ∧ 0 ≤ a ∧ a ≤ 1048576
def SortP (xs : List Int) : Prop := ∀ (k : Nat) (x y : Int), xs[k]? = some x → xs[k + 1]? = some y → x ≤ y
def ToldP (K : Int) (xs ys : List Int) (a : Int) : Prop :=
  ((K = 1 ∨ K = 2) → (xs.length : Int) = a + 1 ∧ xs[0]? = some 0 ∧ xs[a.toNat]? = some (ys.length : Int) ∧ SortP xs) ∧
  (K = 3 → xs.length = 0 ∧ (ys.length : Int) = a) ∧ (K ≠ 1 → K ≠ 2 → K ≠ 3 → xs.length = 0 ∧ ys.length = 0)
def manyF (K S : Int) (ys : List Int) (a : Int) : Int := if wholeB K = true then a * S else ys.length
def InsP (S : Int) (ys : List Int) : Prop := ∀ y ∈ ys, 0 ≤ y ∧ y < S
def byI (K : Int) : Int := if K = 1 then 1 else 0
/-- the places of one that is ahead rise, or stay -/
def RiseAt (K : Int) (xs ys : List Int) (p : Nat) : Prop := ∀ (n : Nat) (x z u v : Int), xs[p]? = some x → xs[p + 1]? = some z → x + 1 ≤ n → (n : Int) < z → ys[n - 1]? = some u → ys[n]? = some v → u + byI K ≤ v
def RiseP (K : Int) (xs ys : List Int) (a : Int) : Prop := (K = 1 ∨ K = 2) → ∀ p : Nat, (p : Int) < a → RiseAt K xs ys p
/-- Check's error -/
noncomputable def lvF (K S : Int) (xs ys : List Int) (a : Int) : Int :=
  if pB (MayP K S a ∧ ToldP K xs ys a) = true then if 65536 < ys.length ∨ 1048576 < manyF K S ys a then 2 else if pB (InsP S ys) = true then if pB (RiseP K xs ys a) = true then 0 else 1 else 3 else 1

/-- from which number on the children of p are numbered -/
def offN (K S : Int) (xs : List Int) (p : Nat) : Nat := if wholeB K = true then p * S.toNat else if K = 3 then p else (xs[p]?.getD 0).toNat
/-- at which place child n is -/
def atN (K S : Int) (ys : List Int) (n : Nat) : Int := if wholeB K = true then (n : Int) % S else ys[n]?.getD 0
/-- how many children there are -/
def totN (K S : Int) (ys : List Int) (a : Nat) : Nat := if wholeB K = true then a * S.toNat else ys.length

theorem wholeB_iff {K : Int} : wholeB K = true ↔ K = 0 ∨ K = 4 := by simp [wholeB]
theorem wholeB_not {K : Int} : wholeB K = false ↔ K ≠ 0 ∧ K ≠ 4 := by simp [wholeB]

/-- what a level that may be is -/
structure Lok (K S : Int) (xs ys : List Int) (a : Nat) : Prop where
  ahead : a ≤ 1048576
  size0 : 0 ≤ S
  size1 : S ≤ 2147483648
  kind : 0 ≤ K ∧ K ≤ 4
  tot : totN K S ys a ≤ 1048576
  crd : ys.length ≤ 65536
  first : offN K S xs 0 = 0
  last : offN K S xs a = totN K S ys a
  step : ∀ p, p < a → offN K S xs p ≤ offN K S xs (p + 1)
  place : ∀ n, n < totN K S ys a → 0 ≤ atN K S ys n ∧ atN K S ys n < S
  rise : ∀ p, p < a → ∀ n, offN K S xs p < n → n < offN K S xs (p + 1) → atN K S ys (n - 1) ≤ atN K S ys n ∧ (K ≠ 2 → atN K S ys (n - 1) < atN K S ys n)
  pos : K = 1 ∨ K = 2 → ∀ p, p ≤ a → xs[p]? = some ((offN K S xs p : Nat) : Int)
  crdAt : wholeB K = false → ∀ n, n < totN K S ys a → ys[n]? = some (atN K S ys n)
  posLen : K = 1 ∨ K = 2 → xs.length = a + 1
  posNil : ¬ (K = 1 ∨ K = 2) → xs.length = 0
  crdLen : wholeB K = false → ys.length = totN K S ys a
  crdNil : wholeB K = true → ys.length = 0

theorem lvF_pos {K S a : Int} {xs ys : List Int} (h : lvF K S xs ys a = 0) : MayP K S a ∧ ToldP K xs ys a ∧ ys.length ≤ 65536 ∧ manyF K S ys a ≤ 1048576 ∧ InsP S ys ∧ RiseP K xs ys a := by
  unfold lvF at h
  split at h
  · rename_i h1
    split at h
    · cases h
    · rename_i h2
      split at h
      · rename_i h3
        split at h
        · rename_i h4
          have h1 := pB_iff.1 h1
          exact ⟨h1.1, h1.2, by omega, by omega, pB_iff.1 h3, pB_iff.1 h4⟩
        · cases h
      · cases h
  · cases h
theorem lvF_zero {K S a : Int} {xs ys : List Int} (h : MayP K S a ∧ ToldP K xs ys a ∧ ys.length ≤ 65536 ∧ manyF K S ys a ≤ 1048576 ∧ InsP S ys ∧ RiseP K xs ys a) : lvF K S xs ys a = 0 := by
  obtain ⟨h1, h2, h3, h4, h5, h6⟩ := h
  unfold lvF
  rw [if_pos (pB_t ⟨h1, h2⟩), if_neg (by omega), if_pos (pB_t h5), if_pos (pB_t h6)]
theorem sortP_le {xs : List Int} (h : SortP xs) {i j : Nat} (hij : i ≤ j) {x y : Int} (hx : xs[i]? = some x) (hy : xs[j]? = some y) : x ≤ y := by
  induction j generalizing y with
  | zero => obtain rfl : i = 0 := by omega
            rw [hx] at hy; injection hy with hy; omega
  | succ j ih =>
    by_cases e : i = j + 1
    · subst e; rw [hx] at hy; injection hy with hy; omega
    · have hj : j < xs.length := by have := (List.getElem?_eq_some_iff.1 hy).1; omega
      have hz := List.getElem?_eq_getElem hj
      have := ih (by omega) hz
      have := h j _ _ hz hy
      omega
theorem emod_next {n : Nat} {S : Int} (hS : 0 < S) {p : Nat} (h1 : p * S.toNat < n) (h2 : n < (p + 1) * S.toNat) : ((n - 1 : Nat) : Int) % S < (n : Int) % S := by
  obtain ⟨s, rfl⟩ : ∃ s : Nat, S = s := ⟨S.toNat, by omega⟩
  rw [Int.toNat_natCast] at h1 h2
  rw [Nat.add_mul, Nat.one_mul] at h2
  obtain ⟨i, rfl⟩ : ∃ i, n = p * s + i := ⟨n - p * s, by omega⟩
  have e1 : (p * s + i) % s = i := by rw [Nat.add_comm, Nat.add_mul_mod_self_right]; exact Nat.mod_eq_of_lt (by omega)
  have e2 : (p * s + i - 1) % s = i - 1 := by
    have : p * s + i - 1 = p * s + (i - 1) := by omega
    rw [this, Nat.add_comm, Nat.add_mul_mod_self_right]; exact Nat.mod_eq_of_lt (by omega)
  rw [← Int.natCast_emod, ← Int.natCast_emod, e1, e2]
  omega
theorem lok_of {K S : Int} {a : Int} {xs ys : List Int} (h : lvF K S xs ys a = 0) : ∃ b : Nat, a = b ∧ Lok K S xs ys b := by
  obtain ⟨⟨hk, hk4, hs0, hs1, ha0, ha1⟩, ⟨ht1, ht3, ht0⟩, hy, hm, hi, hr⟩ := lvF_pos h
  obtain ⟨b, rfl⟩ : ∃ b : Nat, a = b := ⟨a.toNat, by omega⟩
  refine ⟨b, rfl, ?_⟩
  by_cases hw : wholeB K = true
  · have hk' := wholeB_iff.1 hw
    obtain ⟨hx0, hy0⟩ := ht0 (by omega) (by omega) (by omega)
    have hn12 : ¬ (K = 1 ∨ K = 2) := by omega
    have hm2 : manyF K S ys b = b * S := by unfold manyF; rw [if_pos hw]
    have htot : totN K S ys b = b * S.toNat := by unfold totN; rw [if_pos hw]
    have hoff : ∀ p, offN K S xs p = p * S.toNat := fun p => by unfold offN; rw [if_pos hw]
    have hat : ∀ n, atN K S ys n = (n : Int) % S := fun n => by unfold atN; rw [if_pos hw]
    have hbs : ((b * S.toNat : Nat) : Int) = (b : Int) * S := by rw [Int.natCast_mul, Int.toNat_of_nonneg hs0]
    refine ⟨by omega, hs0, hs1, hk, by rw [htot]; omega, hy, by rw [hoff]; omega, by rw [hoff, htot], fun p _ => ?_, fun n hn => ?_, fun p hp n h1 h2 => ?_, fun e => absurd e hn12, (fun e => by rw [hw] at e; cases e), fun e => absurd e hn12, fun _ => hx0, (fun e => by rw [hw] at e; cases e), fun _ => hy0⟩
    · rw [hoff, hoff, Nat.add_mul]; omega
    · rw [htot] at hn
      have : 0 < S := by
        rcases Int.lt_or_le 0 S with h | h
        · exact h
        · have : S.toNat = 0 := by omega
          rw [this] at hn; omega
      rw [hat]
      exact ⟨Int.emod_nonneg _ (by omega), Int.emod_lt_of_pos _ this⟩
    · rw [hoff] at h1 h2
      have : 0 < S := by
        rcases Int.lt_or_le 0 S with h | h
        · exact h
        · have : S.toNat = 0 := by omega
          rw [this] at h2; omega
      have := emod_next this h1 h2
      rw [hat, hat]
      exact ⟨by omega, fun _ => this⟩
  · have hw' : wholeB K = false := by simpa using hw
    have hkn := wholeB_not.1 hw'
    have htot : totN K S ys b = ys.length := by unfold totN; rw [if_neg hw]
    have hat : ∀ n, atN K S ys n = ys[n]?.getD 0 := fun n => by unfold atN; rw [if_neg hw]
    have hyat : ∀ n, n < ys.length → ys[n]? = some (atN K S ys n) := fun n hn => by rw [hat, List.getElem?_eq_getElem hn]; rfl
    by_cases h3 : K = 3
    · obtain ⟨hx0, hyl⟩ := ht3 h3
      have hoff : ∀ p, offN K S xs p = p := fun p => by unfold offN; rw [if_neg hw, if_pos h3]
      refine ⟨by omega, hs0, hs1, hk, by rw [htot]; omega, hy, by rw [hoff], by rw [hoff, htot]; omega, fun p _ => by rw [hoff, hoff]; omega, fun n hn => ?_, fun p hp n h1 h2 => ?_, fun e => absurd e (by omega), fun _ n hn => hyat n (by rw [← htot]; exact hn), fun e => absurd e (by omega), fun _ => hx0, fun _ => htot.symm, fun e => absurd e hw⟩
      · rw [htot] at hn
        exact hi _ (List.mem_of_getElem? (hyat n hn))
      · rw [hoff] at h1 h2; omega
    · have h12 : K = 1 ∨ K = 2 := by omega
      obtain ⟨hxl, hx0, hxa, hso⟩ := ht1 h12
      rw [Int.toNat_natCast] at hxa
      have hxat : ∀ p, p ≤ b → ∃ x, xs[p]? = some x ∧ 0 ≤ x := fun p hp => by
        have hz := List.getElem?_eq_getElem (l := xs) (i := p) (by omega)
        exact ⟨_, hz, sortP_le hso (Nat.zero_le _) hx0 hz⟩
      have hoff : ∀ p, p ≤ b → xs[p]? = some ((offN K S xs p : Nat) : Int) := fun p hp => by
        obtain ⟨x, hx, hx2⟩ := hxat p hp
        unfold offN; rw [if_neg hw, if_neg h3, hx]; simp only [Option.getD_some]; rw [Int.toNat_of_nonneg hx2]
      have hlast : offN K S xs b = ys.length := by have := hoff b (Nat.le_refl _); rw [hxa] at this; injection this with this; omega
      have hle : ∀ p q, p ≤ q → q ≤ b → offN K S xs p ≤ offN K S xs q := fun p q hpq hq => by
        have := sortP_le hso hpq (hoff p (by omega)) (hoff q hq); omega
      refine ⟨by omega, hs0, hs1, hk, by rw [htot]; omega, hy, ?_, by rw [hlast, htot], fun p hp => hle _ _ (by omega) (by omega), fun n hn => ?_, fun p hp n h1 h2 => ?_, fun _ => hoff, fun _ n hn => hyat n (by rw [← htot]; exact hn), fun _ => by omega, fun e => absurd h12 e, fun _ => htot.symm, fun e => absurd e hw⟩
      · have := hoff 0 (by omega); rw [hx0] at this; injection this with this; omega
      · rw [htot] at hn
        exact hi _ (List.mem_of_getElem? (hyat n hn))
      · have hn : n < ys.length := by have := hle (p + 1) b (by omega) (Nat.le_refl _); omega
        have := hr h12 p (by omega) n _ _ _ _ (hoff p (by omega)) (hoff (p + 1) (by omega)) (by omega) (by omega) (hyat (n - 1) (by omega)) (hyat n hn)
        unfold byI at this
        split at this
        · exact ⟨by omega, fun _ => by omega⟩
        · exact ⟨by omega, fun hk2 => absurd h12 (by omega)⟩

section
variable {K S : Int} {xs ys : List Int} {a : Nat}
theorem Lok.mono (h : Lok K S xs ys a) {p q : Nat} (hpq : p ≤ q) (hq : q ≤ a) : offN K S xs p ≤ offN K S xs q := by
  induction q with
  | zero => obtain rfl : p = 0 := by omega
            exact Nat.le_refl _
  | succ q ih =>
    by_cases e : p = q + 1
    · subst e; exact Nat.le_refl _
    · have := ih (by omega) (by omega)
      have := h.step q (by omega)
      omega
theorem Lok.le_tot (h : Lok K S xs ys a) {p : Nat} (hp : p ≤ a) : offN K S xs p ≤ totN K S ys a := by
  rw [← h.last]; exact h.mono hp (Nat.le_refl _)
theorem Lok.wholeNext (_h : Lok K S xs ys a) (hw : wholeB K = true) (p : Nat) : offN K S xs (p + 1) = offN K S xs p + S.toNat := by
  unfold offN; rw [if_pos hw, if_pos hw, Nat.add_mul, Nat.one_mul]
theorem Lok.wholeAt (_h : Lok K S xs ys a) (hw : wholeB K = true) (p : Nat) {i : Nat} (hi : i < S.toNat) : atN K S ys (offN K S xs p + i) = i := by
  unfold offN atN; rw [if_pos hw, if_pos hw]
  obtain ⟨s, rfl⟩ : ∃ s : Nat, S = s := ⟨S.toNat, by omega⟩
  rw [Int.toNat_natCast] at hi ⊢
  rw [← Int.natCast_emod, Nat.add_comm, Nat.add_mul_mod_self_right, Nat.mod_eq_of_lt hi]
/-- whose child n is -/
theorem Lok.owner (h : Lok K S xs ys a) {n : Nat} (hn : n < totN K S ys a) : ∃ p, p < a ∧ offN K S xs p ≤ n ∧ n < offN K S xs (p + 1) := by
  rw [← h.last] at hn
  have key : ∀ q, q ≤ a → n < offN K S xs q → ∃ p, p < q ∧ offN K S xs p ≤ n ∧ n < offN K S xs (p + 1) := by
    intro q
    induction q with
    | zero => intro _ hq; rw [h.first] at hq; omega
    | succ q ih =>
      intro hqa hq
      by_cases e : n < offN K S xs q
      · obtain ⟨p, h1, h2⟩ := ih (by omega) e
        exact ⟨p, by omega, h2⟩
      · exact ⟨q, by omega, by omega, hq⟩
  exact key a (Nat.le_refl _) hn
theorem Lok.owner_one (h : Lok K S xs ys a) {n p q : Nat} (hp : p < a) (hq : q < a) (h1 : offN K S xs p ≤ n) (h2 : n < offN K S xs (p + 1)) (h3 : offN K S xs q ≤ n) (h4 : n < offN K S xs (q + 1)) : p = q := by
  rcases Nat.lt_trichotomy p q with hh | hh | hh
  · have := h.mono (p := p + 1) (q := q) (by omega) (by omega); omega
  · exact hh
  · have := h.mono (p := q + 1) (q := p) (by omega) (by omega); omega
theorem Lok.sorted (h : Lok K S xs ys a) {p i j : Nat} (hp : p < a) (hi : offN K S xs p ≤ i) (hij : i ≤ j) (hj : j < offN K S xs (p + 1)) : atN K S ys i ≤ atN K S ys j := by
  induction j with
  | zero => obtain rfl : i = 0 := by omega
            exact Int.le_refl _
  | succ j ih =>
    by_cases e : i = j + 1
    · subst e; exact Int.le_refl _
    · have := ih (by omega) (by omega)
      have := (h.rise p hp (j + 1) (by omega) hj).1
      rw [Nat.add_sub_cancel] at this
      omega
end
end Go.Proofs.YtgkngimeokhhgaaDoor
/- The contract of perm.Check. -/
namespace Go.Proofs.YtgkngimeokhhgaaDoor
open Go.RowKit

theorem blk_cell {w : World} {g i : Nat} {cs : List Value} {t : TypeId} {v : Value} (h : w.heap[g]? = some (.cells cs.toArray t (0, 0))) (hv : cs[i]? = some v) : w.cell? ⟨g, i, none⟩ = some v ∧ w.frozen? ⟨g, i, none⟩ = false :=
  ⟨(cell_of_row _ _ _ _ _ _ h).trans (by simpa using hv), by simp [World.frozen?, h]⟩
theorem blk_set {w : World} {g i : Nat} {cs : List Value} {t : TypeId} (h : w.heap[g]? = some (.cells cs.toArray t (0, 0))) (v : Value) : (w.setCell ⟨g, i, none⟩ v).heap[g]? = some (.cells (cs.set i v).toArray t (0, 0)) := by
  rw [heap_setCell_same _ _ _ _ _ _ h]; simp

end Go.Proofs.YtgkngimeokhhgaaDoor
/- The contracts of level's smallest functions: Whole, many, inside, span, place, may, IsSorted; of the document's Whole and many. -/
namespace Go.Proofs.YtgkngimeokhhgaaDoor
open Go.RowKit

/-- a level as a value -/
abbrev lvV (K S : Int) (A : Option Addr) (n c : Nat) (B : Option Addr) (m e : Nat) : Value := .agg #[.int .i64 K, .int .i64 S, .slice A n c, .slice B m e]
theorem lvBelow (w : World) (o : Obj) : Below w.heap.size w (w.alloc o) := (Below.refl _ _).alloc (Nat.le_refl _) _
theorem kinds (K : Int) : K = 0 ∨ K = 1 ∨ K = 2 ∨ K = 3 ∨ K = 4 ∨ ((K == 0) = false ∧ (K == 1) = false ∧ (K == 2) = false ∧ (K == 3) = false ∧ (K == 4) = false ∧ wholeB K = false) := by
  simp [wholeB]; omega
theorem oKeep {w1 w2 : World} {g : Nat} {o : Obj} (h : Below w1.heap.size w1 w2) (hg : w1.heap[g]? = some o) : w2.heap[g]? = some o := (h.block g (Array.getElem?_eq_some_iff.1 hg).1).trans hg
theorem oNew {w1 w2 : World} {o : Obj} (h : Below (w1.alloc o).heap.size (w1.alloc o) w2) : w2.heap[w1.heap.size]? = some o := (h.block w1.heap.size (by simp)).trans (heap_alloc_new w1 o)
/-- the cells of a level's block -/
theorem lvCells {W : World} {g : Nat} {u v x y : Value} {t : TypeId} (h : W.heap[g]? = some (.cells #[u, v, x, y] t (0, 0))) :
    W.cell? ⟨g, 0, none⟩ = some u ∧ W.cell? ⟨g, 1, none⟩ = some v ∧ W.cell? ⟨g, 2, none⟩ = some x ∧ W.cell? ⟨g, 3, none⟩ = some y ∧ W.frozen? ⟨g, 0, none⟩ = false ∧ W.frozen? ⟨g, 1, none⟩ = false ∧ W.frozen? ⟨g, 2, none⟩ = false ∧ W.frozen? ⟨g, 3, none⟩ = false :=
  ⟨by simpa using cell_of_row _ _ 0 _ t (0, 0) h, by simpa using cell_of_row _ _ 1 _ t (0, 0) h, by simpa using cell_of_row _ _ 2 _ t (0, 0) h, by simpa using cell_of_row _ _ 3 _ t (0, 0) h, by simp [World.frozen?, h], by simp [World.frozen?, h], by simp [World.frozen?, h], by simp [World.frozen?, h]⟩
theorem ret_of {v u : Value} (h : v = u) : Ending.returned v = Ending.returned u := by rw [h]

end Go.Proofs.YtgkngimeokhhgaaDoor
/- The document's registers and places of an instruction. -/
namespace Go.Proofs.YtgkngimeokhhgaaDoor
open Go.RowKit

theorem bl_strJ (l : List UInt8) : bl (strJ l) = l := by simp [bl, strJ]
theorem strJ_size (l : List UInt8) : (strJ l).size = l.length := by rw [← bl_len, bl_strJ]
/-- a text of these bytes, behind a name -/
theorem strJ_name (l : List UInt8) : ∃ s : ByteArray, strJ l = s ∧ bl s = l ∧ s.size = l.length := ⟨_, rfl, bl_strJ l, strJ_size l⟩
theorem newJ (w : World) (x : Ji) : (w.alloc x.obj).heap[w.heap.size]? = some x.obj := heap_alloc_new w _
/-- three numbers in a new block -/
def FieldsP (x : Ji) (w : World) (e : Ending) (w' : World) : Prop :=
  Below w.heap.size w w' ∧ ∃ g, w.heap.size ≤ g ∧ e = .returned (.slice (some ⟨g, 0, none⟩) 3 3) ∧ w'.heap[g]? = some (.cells #[.int .i64 x.a, .int .i64 x.b, .int .i64 x.c] 3 (0, 0))
def WritesP (x : Ji) (w : World) (e : Ending) (w' : World) : Prop := e = .returned (.tuple #[.int .i64 (writesJ x), .bool (setsJ x)]) ∧ Below w.heap.size w w'
theorem pastJ {w : World} {g : Nat} {v : Obj} (o : Obj) (h : w.heap[g]? = some v) : (w.alloc o).heap[g]? = some v := (Below.heap_alloc w o g (lt_of_heap h)).trans h
/-- a block of another type stays over an append onto numbers -/
theorem past_int {w w' : World} {base c g p : Nat} {A : Option Addr} {xs : List Int} {cs : Array Value} {t : TypeId} (hO : OwnI w base 3 A c xs) (hg : w.heap[g]? = some (.cells cs t (0, 0))) (ht : 3 ≠ t) (hp : xs.length = p) (hG : w.grownBy w' (Value.slice A p c).ownBlock) : w'.heap[g]? = some (.cells cs t (0, 0)) := by
  subst hp
  refine (hG.block g (lt_of_heap hg) ?_).trans hg
  rcases rows_ne hO.1 hg ht with h | h
  · rw [h]; simp
  · exact fun e => h e.symm
def ReadsP (x : Ji) (w : World) (e : Ending) (w' : World) : Prop := ∃ A c, e = .returned (.slice A (readsJ x).length c) ∧ OwnI w' w.heap.size 3 A c (readsJ x) ∧ Below w.heap.size w w'
theorem Ji.f_fits {x : Ji} (h : x.ok) : ∀ (i : Nat) (v : Int), x.f[i]? = some v → -9223372036854775808 ≤ v ∧ v ≤ 9223372036854775807 := by
  intro i v hv
  match i, hv with
  | 0, hv => cases hv; exact h.a
  | 1, hv => cases hv; exact h.b
  | 2, hv => cases hv; exact h.c
  | i + 3, hv => cases hv
end Go.Proofs.YtgkngimeokhhgaaDoor
/- The document's may: whether an instruction may be, in code. -/
namespace Go.Proofs.YtgkngimeokhhgaaDoor
open Go.RowKit

/-- code, as it is handed in -/
structure Cq where
  R : Int
  A : Int
  I : Int
  P : Option Addr
  n : Nat
  c : Nat
  l : List Ji
abbrev Cq.val (q : Cq) : Value := .agg #[.int .i64 q.R, .int .i64 q.A, .int .i64 q.I, .slice q.P q.n q.c]
abbrev Cq.obj (q : Cq) : Obj := .cells #[.int .i64 q.R, .int .i64 q.A, .int .i64 q.I, .slice q.P q.n q.c] 24
def Cq.cd (q : Cq) : Cd := ⟨q.R, q.A, q.I, q.l⟩
structure Cq.In (q : Cq) (w : World) : Prop where
  ins : Jis w w.heap.size q.P q.n q.l
  r : -9223372036854775808 ≤ q.R ∧ q.R ≤ 9223372036854775807
  a : -9223372036854775808 ≤ q.A ∧ q.A ≤ 9223372036854775807
  i : -9223372036854775808 ≤ q.I ∧ q.I ≤ 9223372036854775807
  n1 : q.n ≤ 9223372036854775807
  nc : q.n ≤ q.c
theorem Cq.In.on {q : Cq} {w w' : World} (h : q.In w) (hb : Below w.heap.size w w') : q.In w' := ⟨h.ins.on hb, h.r, h.a, h.i, h.n1, h.nc⟩
theorem Cq.In.len {q : Cq} {w : World} (h : q.In w) : q.l.length = q.n := h.ins.1
/-- the numbers of a place in an instruction -/
theorem Ji.f_at (x : Ji) {i : Nat} (h : i < 3) : ∃ v, x.f[i]? = some v ∧ x.f.getD i 0 = v := by
  have : i < x.f.length := by show i < 3; omega
  exact ⟨x.f[i], List.getElem?_eq_getElem this, by rw [List.getD_eq_getElem?_getD, List.getElem?_eq_getElem this]; rfl⟩
def InB (R A L : Int) (x : Ji) (i : Nat) : Prop := 0 ≤ x.f.getD i 0 ∧ x.f.getD i 0 < limJ R A L ((kJ x.op).getD i 32)
theorem mayJ_no {R A L : Int} {x : Ji} {i : Nat} (hi : i < 3) (h : ¬ InB R A L x i) : mayJ R A L x = false := by
  unfold mayJ
  have : ((List.range 3).all fun i => decide (0 ≤ x.f.getD i 0 ∧ x.f.getD i 0 < limJ R A L ((kJ x.op).getD i 32))) = false := by
    rw [List.all_eq_false]
    exact ⟨i, List.mem_range.2 hi, by simpa [InB] using h⟩
  rw [this, Bool.and_false, Bool.false_and]
theorem mayJ_out {R A L : Int} {x : Ji} (h : x.op < 0 ∨ 12 < x.op) : mayJ R A L x = false := by
  unfold mayJ
  rw [decide_eq_false (by omega), Bool.false_and, Bool.false_and]
theorem mayJ_yes {R A L : Int} {x : Ji} (h0 : 0 ≤ x.op ∧ x.op ≤ 12) (h : ∀ j, j < 3 → InB R A L x j) :
    mayJ R A L x = if (110 : UInt8) ∈ kJ x.op then decide (-1000000000000000000 < x.n ∧ x.n < 1000000000000000000) else decide (x.n = 0) := by
  unfold mayJ
  have : ((List.range 3).all fun i => decide (0 ≤ x.f.getD i 0 ∧ x.f.getD i 0 < limJ R A L ((kJ x.op).getD i 32))) = true := by
    rw [List.all_eq_true]
    intro i hi
    have := h i (List.mem_range.1 hi)
    simpa [InB] using this
  rw [decide_eq_true h0, this, Bool.true_and, Bool.true_and]
theorem mayJ_parts {R A L : Int} {x : Ji} (h : mayJ R A L x = true) : (0 ≤ x.op ∧ x.op ≤ 12) ∧ (∀ i, i < 3 → InB R A L x i) ∧ ((110 : UInt8) ∈ kJ x.op → -1000000000000000000 < x.n ∧ x.n < 1000000000000000000) ∧ ((110 : UInt8) ∉ kJ x.op → x.n = 0) := by
  unfold mayJ at h
  rw [Bool.and_eq_true, Bool.and_eq_true] at h
  obtain ⟨⟨h1, h2⟩, h3⟩ := h
  refine ⟨of_decide_eq_true h1, fun i hi => ?_, fun hm => ?_, fun hm => ?_⟩
  · have := List.all_eq_true.1 h2 i (List.mem_range.2 hi)
    unfold InB
    exact of_decide_eq_true this
  · rw [if_pos hm] at h3
    exact of_decide_eq_true h3
  · rw [if_neg hm] at h3
    exact of_decide_eq_true h3
theorem Cd.may_parts {c : Cd} (h : c.may = true) : (0 ≤ c.R ∧ c.R ≤ 128 ∧ 0 ≤ c.A ∧ c.A ≤ 128 ∧ 0 ≤ c.I ∧ c.I ≤ c.A ∧ 1 ≤ c.l.length ∧ c.l.length ≤ 4096) ∧ (∀ x ∈ c.l, mayJ c.R c.A c.l.length x = true) ∧ ∃ x, c.l.getLast? = some x ∧ (x.op = 0 ∨ x.op = 10) := by
  unfold Cd.may at h
  rw [Bool.and_eq_true, Bool.and_eq_true] at h
  obtain ⟨⟨h1, h2⟩, h3⟩ := h
  refine ⟨of_decide_eq_true h1, List.all_eq_true.1 h2, ?_⟩
  cases e : c.l.getLast? with
  | none => rw [e] at h3; cases h3
  | some x => rw [e] at h3; exact ⟨x, rfl, of_decide_eq_true h3⟩
theorem u8_of {c : UInt8} {n : Nat} (h : (c.toNat : Int) = (n : Int)) (hn : n < 256) : c = UInt8.ofNat n := UInt8.toNat_inj.1 (by rw [UInt8.toNat_ofNat_of_lt' (by simpa using hn)]; omega)
/-- whether an n is among the first kinds -/
def nIn (K : List UInt8) (i : Nat) : Bool := decide ((110 : UInt8) ∈ K.take i)
theorem nIn_snoc {K : List UInt8} {i : Nat} {c : UInt8} (h : K[i]? = some c) : nIn K (i + 1) = (nIn K i || decide (c = 110)) := by
  unfold nIn
  rw [List.take_add_one, h]
  simp [List.mem_append, eq_comm]
theorem nIn_end {K : List UInt8} {i : Nat} (h : K.length ≤ i) : nIn K (i + 1) = nIn K i := by
  unfold nIn
  rw [List.take_of_length_le h, List.take_of_length_le (by omega)]
theorem nIn_all {K : List UInt8} {i : Nat} (h : K.length ≤ i) : nIn K i = decide ((110 : UInt8) ∈ K) := by unfold nIn; rw [List.take_of_length_le h]
theorem inB_of {R A L : Int} {x : Ji} {i : Nat} {v lim : Int} (hv : x.f.getD i 0 = v) (hl : limJ R A L ((kJ x.op).getD i 32) = lim) : InB R A L x i ↔ (0 ≤ v ∧ v < lim) := by unfold InB; rw [hv, hl]
def MayJP (x : Ji) (q : Cq) (w : World) (e : Ending) (w' : World) : Prop := e = .returned (.bool (mayJ q.R q.A q.n x)) ∧ Below w.heap.size w w'
end Go.Proofs.YtgkngimeokhhgaaDoor
/- The document's Check: whether code may be. -/
namespace Go.Proofs.YtgkngimeokhhgaaDoor
open Go.RowKit

abbrev Cd.okH (c : Cd) : Prop := 0 ≤ c.R ∧ c.R ≤ 128 ∧ 0 ≤ c.A ∧ c.A ≤ 128 ∧ 0 ≤ c.I ∧ c.I ≤ c.A ∧ 1 ≤ c.l.length ∧ c.l.length ≤ 4096
theorem Cd.may_head {c : Cd} (h : ¬ c.okH) : c.e = 1 := by
  have : c.may = false := by unfold Cd.may; rw [decide_eq_false h, Bool.false_and, Bool.false_and]
  unfold Cd.e; rw [this]; rfl
theorem Cd.may_all {c : Cd} (h : c.l.all (mayJ c.R c.A c.l.length) = false) : c.e = 1 := by
  have : c.may = false := by unfold Cd.may; rw [h, Bool.and_false, Bool.false_and]
  unfold Cd.e; rw [this]; rfl
theorem Cd.may_last {c : Cd} {x : Ji} (h : c.okH) (h2 : c.l.all (mayJ c.R c.A c.l.length) = true) (hx : c.l[c.l.length - 1]? = some x) : c.e = if x.op = 0 ∨ x.op = 10 then 0 else 1 := by
  have h3 : c.l.getLast? = some x := by rw [List.getLast?_eq_getElem?]; exact hx
  have : c.may = decide (x.op = 0 ∨ x.op = 10) := by unfold Cd.may; rw [decide_eq_true h, h2, h3]; rfl
  unfold Cd.e; rw [this]
  by_cases h4 : x.op = 0 ∨ x.op = 10
  · rw [if_pos h4]; simp [h4]
  · rw [if_neg h4]; simp [h4]
theorem all_snoc {l : List Ji} {k : Nat} {x : Ji} (f : Ji → Bool) (h : l[k]? = some x) : (l.take (k + 1)).all f = ((l.take k).all f && f x) := by
  rw [List.take_add_one, h, List.all_append]; simp
def CkP (q : Cq) (w : World) (e : Ending) (w' : World) : Prop := e = .returned (.int .i64 q.cd.e) ∧ Below w.heap.size w w'
end Go.Proofs.YtgkngimeokhhgaaDoor
/- The document's Shift: code put further on. -/
namespace Go.Proofs.YtgkngimeokhhgaaDoor
open Go.RowKit

/-- what Shift tells -/
def Cd.shiftC (c : Cd) (by_ : Int) : Cd := if c.shiftE by_ = 0 then c.shift by_ else ⟨0, 0, 0, []⟩
def ShP (q : Cq) (by_ : Int) (w : World) (e : Ending) (w' : World) : Prop :=
  ∃ A' c', e = .returned (.tuple #[.agg #[.int .i64 (q.cd.shiftC by_).R, .int .i64 (q.cd.shiftC by_).A, .int .i64 (q.cd.shiftC by_).I, .slice A' (q.cd.shiftC by_).l.length c'], .int .i64 (q.cd.shiftE by_)]) ∧ OwnJ w' w.heap.size A' c' (q.cd.shiftC by_).l ∧ Below w.heap.size w w'
theorem set_j {w : World} {g i : Nat} {cs : List Value} {t : TypeId} (h : w.heap[g]? = some (.cells cs.toArray t (0, 0))) (v : Value) : (w.setCell ⟨g, i, none⟩ v).heap[g]? = some (.cells (cs.set i v).toArray t (0, 0)) := blkE_set h v
theorem jumpsJ_succ (k : Nat) : jumpsJ (k + 1) = jumpsJ k ++ [⟨10, ((k + 1 : Nat) : Int), 0, 0, 0⟩] := by unfold jumpsJ; rw [List.range_succ, List.map_append]; rfl
theorem jumpsJ_length (k : Nat) : (jumpsJ k).length = k := by simp [jumpsJ]
theorem map_snocJ {l : List Ji} {k : Nat} {x : Ji} (f : Ji → Ji) (h : l[k]? = some x) : (l.take (k + 1)).map f = (l.take k).map f ++ [f x] := by rw [List.take_add_one, h, List.map_append]; rfl
/-- instructions of the call's own stay over a write into a block of another type -/
theorem OwnJ.set_other {w : World} {base c g : Nat} {A : Option Addr} {l : List Ji} {cs : Array Value} {t : TypeId} (h : OwnJ w base A c l) (hg : w.heap[g]? = some (.cells cs t (0, 0))) (ht : 35 ≠ t) (i : Nat) (v : Value) : OwnJ (w.setCell ⟨g, i, none⟩ v) base A c l :=
  World.ownsRow.kept h (grownBy_setE (grown_same w g) i v) (rows_ne h hg ht)
/-- instructions of the call's own stay over a write into a block that is not theirs -/
theorem OwnJ.set_off {w : World} {base c g : Nat} {A : Option Addr} {l : List Ji} (h : OwnJ w base A c l) (hA : ∀ b, A = some ⟨b, 0, none⟩ → b ≠ g) (i : Nat) (v : Value) : OwnJ (w.setCell ⟨g, i, none⟩ v) base A c l :=
  World.ownsRow.kept h (grownBy_setE (grown_same w g) i v) (by
    rcases h.heap with h1 | ⟨g', cur, h1, _, _⟩
    · rw [h1]; exact .inl rfl
    · rw [h1]; exact .inr (by simpa [Value.ownBlock] using hA g' h1))
/-- where the variables lie in Shift -/
structure ShI (w : World) (q : Cq) (g : Nat) (wr : World) (A' : Option Addr) (c' : Nat) (L : List Ji) : Prop where
  bel : Below w.heap.size w wr
  bx : wr.heap[w.heap.size]? = some q.obj
  rv : wr.heap[w.heap.size + 1]? = some (.cells #[.int .i64 0, .int .i64 0, .int .i64 0, .slice none 0 0] 24 (0, 0))
  gn : w.heap.size + 1 < g
  box : wr.heap[g]? = some (.cells #[.int .i64 q.R, .int .i64 q.A, .int .i64 q.I, .slice A' L.length c'] 24 (0, 0))
  own : OwnJ wr w.heap.size A' c' L
section
variable {w wr w' : World} {q : Cq} {g c' c2 : Nat} {A' A2 : Option Addr} {L : List Ji} {y : Ji}
theorem ShI.below (h : ShI w q g wr A' c' L) (hb : Below wr.heap.size wr w') : ShI w q g w' A' c' L :=
  ⟨h.bel.trans (hb.mono h.bel.size), keep_b hb h.bx, keep_b hb h.rv, h.gn, keep_b hb h.box, h.own.below hb (Nat.le_refl _)⟩
theorem ShI.add (h : ShI w q g wr A' c' L) (hO : OwnJ w' w.heap.size A2 c2 (L ++ [y])) (hG : wr.grownBy w' (Value.slice A' L.length c').ownBlock) : ShI w q g (w'.setCell ⟨g, 3, none⟩ (.slice A2 (L.length + 1) c2)) A2 c2 (L ++ [y]) := by
  have h1 := box_keptJ h.bx (by decide) hG h.own
  have h2 := box_keptJ h.rv (by decide) hG h.own
  have h3 := box_keptJ h.box (by decide) hG h.own
  have hs := set_j (i := 3) (cs := [.int .i64 q.R, .int .i64 q.A, .int .i64 q.I, .slice A' L.length c']) h3 (.slice A2 (L.length + 1) c2)
  have hn := h.gn
  refine ⟨(below_appJ h.bel hG h.own h.bel.size).setCell (p := ⟨g, 3, none⟩) (by show w.heap.size ≤ g; omega) _, (Below.heap_setCell _ ⟨g, 3, none⟩ _ _ (by show w.heap.size ≠ g; omega)).trans h1, (Below.heap_setCell _ ⟨g, 3, none⟩ _ _ (by show w.heap.size + 1 ≠ g; omega)).trans h2, hn, ?_, hO.set_other h3 (by decide) _ _⟩
  rw [List.length_append]
  exact hs
end
/-- what is returned, stored -/
theorem ShI.done (q : Cq) (by_ : Int) {w wr : World} {g c' : Nat} {A' : Option Addr} {L : List Ji} (h : ShI w q g wr A' c' L) (hE : q.cd.shiftE by_ = 0) (hL : (q.cd.shift by_).l = L) (n : Nat) (hn : L.length = n) :
    ShP q by_ w (.returned (.tuple #[.agg #[.int .i64 q.R, .int .i64 q.A, .int .i64 q.I, .slice A' n c'], .int .i64 0])) ((((wr.setCell ⟨w.heap.size + 1, 0, none⟩ (.int .i64 q.R)).setCell ⟨w.heap.size + 1, 1, none⟩ (.int .i64 q.A)).setCell ⟨w.heap.size + 1, 2, none⟩ (.int .i64 q.I)).setCell ⟨w.heap.size + 1, 3, none⟩ (.slice A' n c')) := by
  have hC : q.cd.shiftC by_ = q.cd.shift by_ := by unfold Cd.shiftC; rw [if_pos hE]
  have hg : wr.grownBy ((((wr.setCell ⟨w.heap.size + 1, 0, none⟩ (.int .i64 q.R)).setCell ⟨w.heap.size + 1, 1, none⟩ (.int .i64 q.A)).setCell ⟨w.heap.size + 1, 2, none⟩ (.int .i64 q.I)).setCell ⟨w.heap.size + 1, 3, none⟩ (.slice A' n c')) (some (w.heap.size + 1)) :=
    grownBy_setE (grownBy_setE (grownBy_setE (grownBy_setE (grown_same wr _) _ _) _ _) _ _) _ _
  refine ⟨A', c', ?_, ?_, h.bel.grown hg h.bel.size (fun k hk => by injection hk with hk; omega)⟩
  · rw [hC, hE, hL, hn]; rfl
  · rw [hC, hL]
    exact World.ownsRow.kept h.own hg (rows_ne h.own h.rv (by decide))
theorem four_cells {w : World} {g : Nat} {a b c d : Value} {t : TypeId} (h : w.heap[g]? = some (.cells #[a, b, c, d] t (0, 0))) (x0 x1 x2 x3 : Value) :
    ((((w.setCell ⟨g, 0, none⟩ x0).setCell ⟨g, 1, none⟩ x1).setCell ⟨g, 2, none⟩ x2).setCell ⟨g, 3, none⟩ x3).heap[g]? = some (.cells #[x0, x1, x2, x3] t (0, 0)) := by
  have h1 := set_j (i := 0) (cs := [a, b, c, d]) h x0
  have h2 := set_j (i := 1) (cs := [x0, b, c, d]) h1 x1
  have h3 := set_j (i := 2) (cs := [x0, x1, c, d]) h2 x2
  exact set_j (i := 3) (cs := [x0, x1, x2, d]) h3 x3
end Go.Proofs.YtgkngimeokhhgaaDoor
/- The document's Next: where an instruction goes on. -/
namespace Go.Proofs.YtgkngimeokhhgaaDoor
open Go.RowKit

def NextP (x : Ji) (at_ : Int) (w : World) (e : Ending) (w' : World) : Prop := ∃ A c, e = .returned (.slice A (nextJ x at_).length c) ∧ OwnI w' w.heap.size 3 A c (nextJ x at_) ∧ Below w.heap.size w w'
theorem own_one (W : World) (v : Int) (base : Nat) (hb : base ≤ W.heap.size) (hv : -9223372036854775808 ≤ v ∧ v ≤ 9223372036854775807) : OwnI (W.alloc (.cells #[.int .i64 v] 3)) base 3 (some ⟨W.heap.size, 0, none⟩) 1 [v] :=
  ⟨⟨rfl, .inr ⟨W.heap.size, 1, #[.int .i64 v], rfl, hb, heap_alloc_new W _, Nat.le_refl _, by unfold maxLen; omega, rfl, rfl⟩⟩, by simpa using hv⟩
theorem own_two (W : World) (v u : Int) (base : Nat) (hb : base ≤ W.heap.size) (hv : -9223372036854775808 ≤ v ∧ v ≤ 9223372036854775807) (hu : -9223372036854775808 ≤ u ∧ u ≤ 9223372036854775807) : OwnI (W.alloc (.cells #[.int .i64 v, .int .i64 u] 3)) base 3 (some ⟨W.heap.size, 0, none⟩) 2 [v, u] :=
  ⟨⟨rfl, .inr ⟨W.heap.size, 2, #[.int .i64 v, .int .i64 u], rfl, hb, heap_alloc_new W _, Nat.le_refl _, by unfold maxLen; omega, rfl, rfl⟩⟩, by
    intro z hz
    rcases List.mem_cons.1 hz with rfl | hz
    · exact hv
    · rw [List.mem_singleton.1 hz]; exact hu⟩
end Go.Proofs.YtgkngimeokhhgaaDoor
