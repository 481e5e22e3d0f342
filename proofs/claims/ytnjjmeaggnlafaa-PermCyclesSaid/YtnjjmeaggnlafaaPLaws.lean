/- The contracts of perm's calls at orders that may be, in one form: what is told reads as a list, and nothing that lay there has turned. -/
import Derived.Test.YtnjjmeaggnlafaaPLive
import Derived.Test.YtnjjmeaggnlafaaPBackM
namespace Go.Proofs.Ytnjjmeaggnlafaa
open Go.RowKit

theorem Ints.len_cap {w : World} {base : Nat} {e : TypeId} {A : Option Addr} {c : Nat} {xs : List Int} (h : OwnI w base e A c xs) : xs.length ≤ c := h.len_cap
section
variable (A A2 : Option Addr) (n c c2 : Nat) (p q : List Int) (w : World)
theorem check_s (h : Ints w w.heap.size A n p) (hn : n ≤ 9223372036854775807) (hp : Perm_ p) :
    Calls Try.prog 22 #[.slice A n c] w fun e w' => e = .returned (.int .i64 0) ∧ Below w.heap.size w w' := by
  have := check_ok A n c p w w.heap.size h (Nat.le_refl _) hn
  rwa [ordF_yes hp] at this
theorem check_n (h : Ints w w.heap.size A n p) (hn : n ≤ 9223372036854775807) (hp : ¬ Perm_ p) :
    Calls Try.prog 22 #[.slice A n c] w fun e w' => e = .returned (.int .i64 1) ∧ Below w.heap.size w w' := by
  have := check_ok A n c p w w.heap.size h (Nat.le_refl _) hn
  rwa [ordF_no hp] at this
theorem inv_s (h : Ints w w.heap.size A n p) (hp : Perm_ p) :
    Calls Try.prog 15 #[.slice A n c] w fun e w' => ∃ A' c', e = .returned (.tuple #[.slice A' n c', .int .i64 0]) ∧ Ints w' w'.heap.size A' n (invL p) ∧ n ≤ c' ∧ Below w.heap.size w w' := by
  have hl := h.1
  have h12 := hp.len
  refine (inverse_any A n c p w h (by omega)).mono ?_
  rintro e w' ⟨A', c', rfl, ho, hb⟩
  have e1 : invF p = (invL p, 0) := by unfold invF; rw [if_pos (ordF_yes hp)]
  rw [e1] at ho ⊢
  have e2 : (invL p).length = n := by rw [invL_length, hl]
  have h3 := ho.len_cap
  have h4 := ho.ints
  dsimp only at h3 h4 ⊢
  rw [e2] at h3 h4 ⊢
  exact ⟨A', c', rfl, h4, h3, hb⟩
theorem turn_s {m : Nat} (ls : List Int) (h2 : Ints w w.heap.size A2 m ls) (h : Ints w w.heap.size A n p) (hp : Perm_ p) (hm : m = n) :
    Calls Try.prog 19 #[.slice A2 m c2, .slice A n c] w fun e w' => ∃ A' c', e = .returned (.tuple #[.slice A' n c', .int .i64 0]) ∧ Ints w' w'.heap.size A' n (turnL ls p) ∧ n ≤ c' ∧ Below w.heap.size w w' := by
  have hl := h.1
  have h12 := hp.len
  refine (turn_any A2 A m c2 n c ls p w h2 h (by omega)).mono ?_
  rintro e w' ⟨A', c', rfl, ho, hb⟩
  have e1 : turnF ls p = (turnL ls p, 0) := by unfold turnF; rw [if_pos (ordF_yes hp), if_pos (by rw [h2.1, h.1, hm])]
  rw [e1] at ho ⊢
  have e2 : (turnL ls p).length = n := by rw [turnL_length, hl]
  have h3 := ho.len_cap
  have h4 := ho.ints
  dsimp only at h3 h4 ⊢
  rw [e2] at h3 h4 ⊢
  exact ⟨A', c', rfl, h4, h3, hb⟩
theorem turn_n {m : Nat} (ls : List Int) (h2 : Ints w w.heap.size A2 m ls) (h : Ints w w.heap.size A n p) (hp : Perm_ p) (hm : m ≠ n) :
    Calls Try.prog 19 #[.slice A2 m c2, .slice A n c] w fun e w' => ∃ A' c', e = .returned (.tuple #[.slice A' 0 c', .int .i64 4]) ∧ Below w.heap.size w w' := by
  have hl := h.1
  have h12 := hp.len
  refine (turn_any A2 A m c2 n c ls p w h2 h (by omega)).mono ?_
  rintro e w' ⟨A', c', rfl, ho, hb⟩
  have e1 : turnF ls p = ([], 4) := by unfold turnF; rw [if_pos (ordF_yes hp), if_neg (by rw [h2.1, h.1]; exact hm)]
  rw [e1]
  exact ⟨A', c', rfl, hb⟩
theorem after_s (h2 : Ints w w.heap.size A2 n p) (h : Ints w w.heap.size A n q) (hp : Perm_ p) (hq : Perm_ q) :
    Calls Try.prog 17 #[.slice A2 n c2, .slice A n c] w fun e w' => ∃ A' c', e = .returned (.tuple #[.slice A' n c', .int .i64 0]) ∧ Ints w' w'.heap.size A' n (turnL p q) ∧ n ≤ c' ∧ Below w.heap.size w w' := by
  have hl := h.1
  have h12 := hq.len
  refine (after_any A2 A n c2 n c p q w h2 h (by omega) (by omega)).mono ?_
  rintro e w' ⟨A', c', rfl, ho, hb⟩
  have e1 : afterF p q = (turnL p q, 0) := by unfold afterF turnF; rw [if_pos (ordF_yes hp), if_pos (ordF_yes hq), if_pos (by rw [h2.1, h.1])]
  rw [e1] at ho ⊢
  have e2 : (turnL p q).length = n := by rw [turnL_length, hl]
  have h3 := ho.len_cap
  have h4 := ho.ints
  dsimp only at h3 h4 ⊢
  rw [e2] at h3 h4 ⊢
  exact ⟨A', c', rfl, h4, h3, hb⟩
theorem plain_s (hn : n ≤ 12) :
    Calls Try.prog 13 #[.int .i64 (n : Int)] w fun e w' => ∃ A' c', e = .returned (.tuple #[.slice A' n c', .int .i64 0]) ∧ Ints w' w'.heap.size A' n (plainL n) ∧ n ≤ c' ∧ Below w.heap.size w w' := by
  refine (plain_ok n w hn).mono ?_
  rintro e w' ⟨rfl, ho, hb⟩
  have h3 := ho.ints
  rw [plainL_length] at h3
  exact ⟨_, n, rfl, h3, Nat.le_refl _, hb⟩
theorem nth_s (k : Nat) (hn : n ≤ 12) (hk : k < fact n) :
    Calls Try.prog 26 #[.int .i64 (n : Int), .int .i64 (k : Int)] w fun e w' => ∃ A' c', e = .returned (.tuple #[.slice A' n c', .int .i64 0]) ∧ Ints w' w'.heap.size A' n (nthL n (plainL n) k) ∧ n ≤ c' ∧ Below w.heap.size w w' := by
  refine (nth_ok n k w hn hk).mono ?_
  rintro e w' ⟨rfl, ho, hb⟩
  have h3 := ho.ints
  rw [nthL_length] at h3
  exact ⟨_, n, rfl, h3, Nat.le_refl _, hb⟩
theorem rank_s (h : Ints w w.heap.size A n p) (hp : Perm_ p) (hc : n ≤ c) :
    Calls Try.prog 24 #[.slice A n c] w fun e w' => e = .returned (.tuple #[.int .i64 (rankL p : Int), .int .i64 0]) ∧ Below w.heap.size w w' := by
  have hl := h.1
  have h12 := hp.len
  have := rank_any A n c p w h (by omega) hc
  have e1 : rankF p = ((rankL p : Int), 0) := by unfold rankF; rw [if_pos (ordF_yes hp)]
  rwa [e1] at this
theorem odd_s (b : Bool) (h : Ints w w.heap.size A n p) (hp : Perm_ p) (hc : n ≤ c) (hb : oddB p = b) :
    Calls Try.prog 32 #[.slice A n c] w fun e w' => e = .returned (.tuple #[.bool b, .int .i64 0]) ∧ Below w.heap.size w w' := by
  have hl := h.1
  have h12 := hp.len
  have := odd_any A n c p w h (by omega) hc
  have e1 : oddF p = (b, 0) := by unfold oddF; rw [if_pos (ordF_yes hp), hb]
  rwa [e1] at this
theorem equal_s {m : Nat} (xs ys : List Int) (b : Bool) (h : Ints w w.heap.size A n xs) (h2 : Ints w w.heap.size A2 m ys) (hn : n ≤ 100000) (hm : m ≤ 100000) (hb : decide (xs = ys) = b) :
    Calls Try.prog 21 #[.slice A n c, .slice A2 m c2] w fun e w' => e = .returned (.bool b) ∧ Below w.heap.size w w' := by
  refine (refEqual_any A A2 n m c c2 xs ys w w.heap.size h h2 hn (by omega)).mono ?_
  rintro e w' ⟨rfl, k, rfl⟩
  exact ⟨by rw [hb], below_drewN (Below.refl _ _) k⟩
end
/-- few, of what a call was handed -/
def fewB (ns : List Nat) : Bool := ns.all fun m => decide (m ≤ 100)
theorem fewB_all {ns : List Nat} (h : fewB ns = true) {m : Nat} (hm : m ∈ ns) : m ≤ 100 := by
  unfold fewB at h; rw [List.all_eq_true] at h; simpa using h m hm
theorem few1_s (A : Option Addr) (n c : Nat) (w : World) (b : Bool) (hn : n ≤ 9223372036854775807) (hb : fewB [n] = b) :
    Calls Try.prog 12 #[.slice (some ⟨w.heap.size, 0, none⟩) 1 1] (w.alloc (.cells #[.slice A n c] 22)) fun e w' => e = .returned (.bool b) ∧ Below w.heap.size w w' := by
  have h := heap_alloc_new w (.cells #[.slice A n c] 22)
  refine (few_ok w.heap.size 0 [n] 1 1 _ rfl (by omega) ?_).mono ?_
  · intro k m hk
    cases k with
    | zero => simp at hk; subst hk; exact ⟨hn, A, c, cell_of_row _ _ 0 _ _ (0, 0) h⟩
    | succ k => simp at hk
  · rintro e w' ⟨rfl, rfl⟩
    exact ⟨by rw [← hb]; rfl, (Below.refl _ w).alloc (Nat.le_refl _) _⟩
theorem few2_s (A A2 : Option Addr) (n n2 c c2 : Nat) (w : World) (b : Bool) (hn : n ≤ 9223372036854775807) (hn2 : n2 ≤ 9223372036854775807) (hb : fewB [n, n2] = b) :
    Calls Try.prog 12 #[.slice (some ⟨w.heap.size, 0, none⟩) 2 2] (w.alloc (.cells #[.slice A n c, .slice A2 n2 c2] 22)) fun e w' => e = .returned (.bool b) ∧ Below w.heap.size w w' := by
  have h := heap_alloc_new w (.cells #[.slice A n c, .slice A2 n2 c2] 22)
  refine (few_ok w.heap.size 0 [n, n2] 2 2 _ rfl (by omega) ?_).mono ?_
  · intro k m hk
    match k, hk with
    | 0, hk => simp at hk; subst hk; exact ⟨hn, A, c, cell_of_row _ _ 0 _ _ (0, 0) h⟩
    | 1, hk => simp at hk; subst hk; exact ⟨hn2, A2, c2, cell_of_row _ _ 1 _ _ (0, 0) h⟩
    | k + 2, hk => simp at hk
  · rintro e w' ⟨rfl, rfl⟩
    exact ⟨by rw [← hb]; rfl, (Below.refl _ w).alloc (Nat.le_refl _) _⟩
theorem few3_s (A A2 A3 : Option Addr) (n n2 n3 c c2 c3 : Nat) (w : World) (b : Bool) (hn : n ≤ 9223372036854775807) (hn2 : n2 ≤ 9223372036854775807) (hn3 : n3 ≤ 9223372036854775807) (hb : fewB [n, n2, n3] = b) :
    Calls Try.prog 12 #[.slice (some ⟨w.heap.size, 0, none⟩) 3 3] (w.alloc (.cells #[.slice A n c, .slice A2 n2 c2, .slice A3 n3 c3] 22)) fun e w' => e = .returned (.bool b) ∧ Below w.heap.size w w' := by
  have h := heap_alloc_new w (.cells #[.slice A n c, .slice A2 n2 c2, .slice A3 n3 c3] 22)
  refine (few_ok w.heap.size 0 [n, n2, n3] 3 3 _ rfl (by omega) ?_).mono ?_
  · intro k m hk
    match k, hk with
    | 0, hk => simp at hk; subst hk; exact ⟨hn, A, c, cell_of_row _ _ 0 _ _ (0, 0) h⟩
    | 1, hk => simp at hk; subst hk; exact ⟨hn2, A2, c2, cell_of_row _ _ 1 _ _ (0, 0) h⟩
    | 2, hk => simp at hk; subst hk; exact ⟨hn3, A3, c3, cell_of_row _ _ 2 _ _ (0, 0) h⟩
    | k + 3, hk => simp at hk
  · rintro e w' ⟨rfl, rfl⟩
    exact ⟨by rw [← hb]; rfl, (Below.refl _ w).alloc (Nat.le_refl _) _⟩
end Go.Proofs.Ytnjjmeaggnlafaa
