/- More contracts in one form: Nth where there is none, Next. -/
import Derived.Test.YtnjjmeaggnlafaaPLaws
namespace Go.Proofs.Ytnjjmeaggnlafaa
open Go.RowKit

section
variable (A A2 : Option Addr) (n c c2 : Nat) (p q : List Int) (w : World)
theorem nth_n (k : Int) (hn : n ≤ 12) (hk : k < 0 ∨ (fact n : Int) ≤ k) :
    Calls Try.prog 26 #[.int .i64 (n : Int), .int .i64 k] w fun e w' => e = .returned (.tuple #[.slice none 0 0, .int .i64 3]) ∧ Below w.heap.size w w' := by
  have e : (nthF n k).2 = 3 := by unfold nthF; rw [if_neg (by omega), if_pos (by rw [Int.toNat_natCast]; exact hk)]
  have := nth_err n k w (by rw [e]; decide)
  rwa [e] at this
theorem next_s (h : Ints w w.heap.size A n p) (hp : Perm_ p) (hc : n ≤ c) (hr : rankL p + 1 < fact n) :
    Calls Try.prog 28 #[.slice A n c] w fun e w' => ∃ A' c', e = .returned (.tuple #[.slice A' n c', .bool true, .int .i64 0]) ∧ Ints w' w'.heap.size A' n (nthL n (plainL n) (rankL p + 1)) ∧ n ≤ c' ∧ Below w.heap.size w w' := by
  have hl := h.1
  have h12 := hp.len
  refine (next_any A n c p w h (by omega) hc).mono ?_
  rintro e w' ⟨A', c', rfl, ho, hb⟩
  have e1 : nextF p = (nthL n (plainL n) (rankL p + 1), true, 0) := by unfold nextF; rw [if_pos (ordF_yes hp), hl, if_pos hr]
  rw [e1] at ho ⊢
  have h3 := ho.len_cap
  have h4 := ho.ints
  dsimp only at h3 h4 ⊢
  rw [nthL_length] at h3 h4 ⊢
  exact ⟨A', c', rfl, h4, h3, hb⟩
theorem next_n (h : Ints w w.heap.size A n p) (hp : Perm_ p) (hc : n ≤ c) (hr : ¬ rankL p + 1 < fact n) :
    Calls Try.prog 28 #[.slice A n c] w fun e w' => ∃ A' c', e = .returned (.tuple #[.slice A' n c', .bool false, .int .i64 0]) ∧ Ints w' w'.heap.size A' n p ∧ n ≤ c' ∧ Below w.heap.size w w' := by
  have hl := h.1
  have h12 := hp.len
  refine (next_any A n c p w h (by omega) hc).mono ?_
  rintro e w' ⟨A', c', rfl, ho, hb⟩
  have e1 : nextF p = (p, false, 0) := by unfold nextF; rw [if_pos (ordF_yes hp), hl, if_neg hr]
  rw [e1] at ho ⊢
  have h3 := ho.len_cap
  have h4 := ho.ints
  dsimp only at h3 h4 ⊢
  rw [hl] at h3 h4 ⊢
  exact ⟨A', c', rfl, h4, h3, hb⟩
theorem cycles_s (h : Ints w w.heap.size A n p) (hp : Perm_ p) (m : Nat) (hm : (cycsL p).length = m) :
    Calls Try.prog 30 #[.slice A n c] w fun e w' => ∃ A' c', e = .returned (.tuple #[.slice A' m c', .int .i64 0]) ∧ IntsLL w' w'.heap.size A' m (cycsL p) ∧ Below w.heap.size w w' := by
  have hl := h.1
  have h12 := hp.len
  refine (cycles_any A n c p w h (by omega)).mono ?_
  rintro e w' ⟨A', c', rfl, ho, hb⟩
  have e1 : cyclesF p = (cycsL p, 0) := by unfold cyclesF; rw [if_pos (ordF_yes hp)]
  rw [e1] at ho ⊢
  have h4 := ho.ints
  dsimp only at h4 ⊢
  rw [hm] at h4 ⊢
  exact ⟨A', c', rfl, h4, hb⟩
end
end Go.Proofs.Ytnjjmeaggnlafaa
