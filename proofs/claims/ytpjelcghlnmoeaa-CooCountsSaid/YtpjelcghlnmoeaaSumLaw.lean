/- What box.Sum leaves of a tensor's cells: its laws. Plain lists. -/
import Derived.Test.YtpjelcghlnmoeaaSum
namespace Go.Proofs.Ytpjelcghlnmoeaa
open Go.RowKit

theorem cellsGo_err : ∀ (l : List Int) (n : Int), (cellsGo l n).2 = 0 ∨ (cellsGo l n).2 = 2
  | [], _ => .inl rfl
  | s :: l, n => by
    unfold cellsGo
    split
    · exact .inr rfl
    · exact cellsGo_err l _
theorem check_parts {xs : List Int} {m : Nat} (hck : checkF xs m = 0) : (cellsF xs).2 = 0 ∧ (laidF xs).2 = 0 ∧ (m : Int) = (laidF xs).1 := by
  unfold checkF at hck
  split at hck
  · rename_i h
    split at hck
    · rename_i h2; exact ⟨(laidF_ok h).1, h, h2⟩
    · simp at hck
  · rename_i h; exact absurd hck h
/-- what is left may be too large, and nothing else -/
theorem erase_err {xs : List Int} {m : Nat} (hck : checkF xs m = 0) (k : Nat) : (laidF (xs.eraseIdx k)).2 = 0 ∨ (laidF (xs.eraseIdx k)).2 = 2 := by
  obtain ⟨h0, _, _⟩ := check_parts hck
  obtain ⟨h4, hp⟩ := cellsF_ok h0
  have hl := List.length_eraseIdx_le xs k
  have hc : (cellsF (xs.eraseIdx k)).2 = 0 ∨ (cellsF (xs.eraseIdx k)).2 = 2 := by
    unfold cellsF
    rw [if_neg]
    · split
      · exact .inl rfl
      · exact cellsGo_err _ _
    · rw [not_or]
      refine ⟨by omega, ?_⟩
      rw [Bool.not_eq_true, List.any_eq_false]
      intro x hx
      have := hp x (List.mem_of_mem_eraseIdx hx)
      simp; omega
  unfold laidF
  rcases hc with hc | hc
  · rw [if_pos hc]
    split
    · exact .inr rfl
    · exact .inl rfl
  · rw [if_neg (by rw [hc]; decide)]; exact .inr hc
theorem sumV_check {xs : List Int} {k : Nat} (ys : List Int) (hE : (laidF (xs.eraseIdx k)).2 = 0) : checkF (xs.eraseIdx k) (sumV xs k ys).length = 0 := by
  unfold checkF
  rw [if_pos hE, sumV_length, if_pos]
  exact Int.toNat_of_nonneg laidF_nonneg.1
theorem sumV_nil (xs : List Int) (k : Nat) : sumV xs k [] = List.replicate (laidF (xs.eraseIdx k)).1.toNat 0 := scat_nil ..
theorem sumV_zeros (xs : List Int) (k K : Nat) : sumV xs k (List.replicate K 0) = List.replicate (laidF (xs.eraseIdx k)).1.toNat 0 := scat_zeros ..
theorem sumV_fits (xs : List Int) (k : Nat) (ys : List Int) : ∀ x ∈ sumV xs k ys, -9223372036854775808 ≤ x ∧ x ≤ 9223372036854775807 := scat_fits _ _ _
theorem sumV_sumL {xs : List Int} {k : Nat} {ys : List Int} (hck : checkF xs ys.length = 0) (h0 : 0 < ys.length) (hk : k < xs.length) : sumV xs k ys = sumL xs k ys := by
  unfold sumV sumL
  rw [(sum_pos hck h0 rfl hk).2.1]
theorem totL_sumV {xs : List Int} {k : Nat} {ys : List Int} (hck : checkF xs ys.length = 0) (hk : k < xs.length) : totL (sumV xs k ys) = totL ys := by
  rcases Nat.eq_zero_or_pos ys.length with h0 | h0
  · obtain rfl := List.eq_nil_of_length_eq_zero h0
    rw [sumV_nil, totL_zeros]; rfl
  · rw [sumV_sumL hck h0 hk]
    have := sum_pos hck h0 rfl hk
    exact totL_sumL this.1 hk this.2.2.1.symm
theorem sumV_swap {xs : List Int} {l h : Nat} {ys : List Int} (hck : checkF xs ys.length = 0) (hl : l < h) (hh : h < xs.length) (hE : (laidF (xs.eraseIdx h)).2 = 0) (hF : (laidF (xs.eraseIdx l)).2 = 0) :
    sumV (xs.eraseIdx h) l (sumV xs h ys) = sumV (xs.eraseIdx l) (h - 1) (sumV xs l ys) := by
  rcases Nat.eq_zero_or_pos ys.length with h0 | h0
  · obtain rfl := List.eq_nil_of_length_eq_zero h0
    rw [sumV_nil, sumV_nil, sumV_zeros, sumV_zeros, erase_two hl hh]
  · have a := sum_pos hck h0 rfl hh
    have b := sum_pos hck h0 rfl (Nat.lt_trans hl hh)
    have pe : ∀ k, 1 ≤ prodI (xs.eraseIdx k) := fun k => prodI_pos (pos_erase a.1 k)
    have n1 : 0 < (sumV xs h ys).length := by rw [sumV_length, a.2.1]; have := pe h; omega
    have n2 : 0 < (sumV xs l ys).length := by rw [sumV_length, b.2.1]; have := pe l; omega
    have e1 := List.length_eraseIdx_of_lt hh
    have e2 := List.length_eraseIdx_of_lt (Nat.lt_trans hl hh)
    rw [sumV_sumL (sumV_check ys hE) n1 (by omega), sumV_sumL (sumV_check ys hF) n2 (by omega), sumV_sumL hck h0 hh, sumV_sumL hck h0 (Nat.lt_trans hl hh)]
    exact sumL_swap a.1 hl hh a.2.2.1.symm
theorem sumV_add (xs : List Int) (k : Nat) (a b : List Int) (h : a.length = b.length) : sumV xs k (addL a b) = addL (sumV xs k a) (sumV xs k b) := scat_add _ _ _ _ h
theorem sumV_by (xs : List Int) (k : Nat) (z : Int) (a : List Int) : sumV xs k (byL z a) = byL z (sumV xs k a) := scat_by ..
/-- a mode, as the statements choose it -/
theorem mode_run (x : Int) (r : Nat) (hr : 1 ≤ r) (hr4 : r ≤ 100000) : ∃ (t u : Int) (md : Nat), x.tmod (r : Int) = t ∧ t + (r : Int) = u ∧ IntKind.i64.wrap u = u ∧ IntKind.i64.wrap (t + (r : Int)) = u ∧ u.tmod (r : Int) = (md : Int) ∧ u % (r : Int) = (md : Int) ∧ md < r ∧ 0 ≤ u ∧ -(r : Int) < t ∧ t < r := by
  have h1 : -(r : Int) < x.tmod r := by
    have := Int.lt_tmod_of_pos x (b := (r : Int)) (by omega); omega
  have h2 : x.tmod r < r := Int.tmod_lt_of_pos x (by omega)
  have h3 : 0 ≤ (x.tmod r + r) % (r : Int) := Int.emod_nonneg _ (by omega)
  have h4 : (x.tmod r + r) % (r : Int) < r := Int.emod_lt_of_pos _ (by omega)
  have h5 : IntKind.i64.wrap (x.tmod r + (r : Int)) = x.tmod r + r := by rw [wrap_eq]; exact IntWalk.wrap64_in _ ⟨by omega, by omega⟩
  refine ⟨x.tmod r, x.tmod r + r, ((x.tmod r + r) % (r : Int)).toNat, rfl, rfl, h5, h5, ?_, ?_, by omega, by omega, h1, h2⟩
  · rw [Int.tmod_eq_emod_of_nonneg (by omega), Int.toNat_of_nonneg h3]
  · rw [Int.toNat_of_nonneg h3]
theorem OwnI.cap {w : World} {base : Nat} {e : TypeId} {A : Option Addr} {c : Nat} {xs : List Int} (h : OwnI w base e A c xs) : xs.length ≤ c := by
  rcases h.1.2 with ⟨h1, h2⟩ | ⟨g, cap, cur, h1, _, _, h4, _⟩
  · have : xs = [] := by simpa using h2
    subst this; simp
  · injection h1 with _ _ h3; omega
/-- what a slice of integers leads to is no block of two headers -/
theorem Ints.off_ {w : World} {B n g b off : Nat} {xs : List Int} {a0 a1 : Option Addr} {n0 n1 c0 c1 : Nat} {t : TypeId} (h : Ints w B (some ⟨b, off, none⟩) n xs) (hn : 0 < n) (hg : w.heap[g]? = some (.cells #[.slice a0 n0 c0, .slice a1 n1 c1] t (0, 0))) : b ≠ g := by
  rintro rfl
  obtain ⟨hl, _, hc⟩ := h
  obtain ⟨b', off', e, _, hx⟩ := hc hn
  injection e with e
  injection e with e1 e2
  subst e1
  subst e2
  have hk : 0 < xs.length := by omega
  have := hx 0 _ (List.getElem?_eq_getElem hk)
  have hr := cell_of_row _ _ (off + 0) _ t (0, 0) hg
  rw [hr] at this
  match off + 0, this with
  | 0, this => simp at this
  | 1, this => simp at this
  | i + 2, this => simp at this
theorem Ints.off2 {w : World} {B n g : Nat} {A : Option Addr} {xs : List Int} {a0 a1 : Option Addr} {n0 n1 c0 c1 : Nat} {t : TypeId} (h : Ints w B A n xs) (hg : w.heap[g]? = some (.cells #[.slice a0 n0 c0, .slice a1 n1 c1] t (0, 0))) (u v : Value) : Ints ((w.setCell ⟨g, 0, none⟩ u).setCell ⟨g, 1, none⟩ v) B A n xs := by
  have h' := h
  obtain ⟨hl, hb, hc⟩ := h
  refine ⟨hl, hb, fun hn => ?_⟩
  obtain ⟨b, off, rfl, hB, hx⟩ := hc hn
  have hne := h'.off_ hn hg
  refine ⟨b, off, rfl, hB, fun k x hx' => ?_⟩
  exact (World.cell?_setCell_far _ _ ⟨b, off + k, none⟩ _ (fun e => hne e.symm)).trans ((World.cell?_setCell_far _ _ ⟨b, off + k, none⟩ _ (fun e => hne e.symm)).trans (hx k x hx'))
theorem set_both {W : World} {g : Nat} {u v a b : Value} {t : TypeId} (h : W.heap[g]? = some (.cells #[u, v] t (0, 0))) : ((W.setCell ⟨g, 0, none⟩ a).setCell ⟨g, 1, none⟩ b).heap[g]? = some (.cells #[a, b] t (0, 0)) := by
  simp only [World.setCell, Array.getElem?_modify, if_true, h]
  rfl
end Go.Proofs.Ytpjelcghlnmoeaa
