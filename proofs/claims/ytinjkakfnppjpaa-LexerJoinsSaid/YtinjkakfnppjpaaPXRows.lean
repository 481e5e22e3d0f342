/- purflelaw08.LexerRows returns true at every two lists of tokens. -/
import Derived.Test.YtinjkakfnppjpaaPXRowsR
import Derived.Test.YtinjkakfnppjpaaPXLines
import Derived.Deep.QuietTactic
import Derived.BigQuiet
namespace Go.Proofs.Ytinjkakfnppjpaa
open Go.RowKit

theorem linesK_all : ∀ (l cur : List Tk) (D : List (List Tk)), linesK D cur l = D ++ linesK [] cur l
  | [], cur, D => by simp [linesK]
  | t :: l, cur, D => by
    by_cases h : t.k = 4
    · rw [linesK_line h, linesK_line h, linesK_all l [] (D ++ [cur]), linesK_all l [] ([] ++ [cur])]
      simp
    · rw [linesK_on h, linesK_on h, linesK_all l (cur ++ [t]) D]
theorem linesK_cat {t : Tk} (ht : t.k = 4) (m : List Tk) : ∀ (l cur : List Tk), linesK [] cur (l ++ t :: m) = linesK [] cur l ++ linesK [] [] m
  | [], cur => by
    rw [List.nil_append, linesK_line ht, linesK_all]
    rfl
  | x :: l, cur => by
    rw [List.cons_append]
    by_cases h : x.k = 4
    · rw [linesK_line h, linesK_line h, linesK_all _ [] ([] ++ [cur]), linesK_all l [] ([] ++ [cur]), linesK_cat ht m l []]
      simp
    · rw [linesK_on h, linesK_on h, linesK_cat ht m l (cur ++ [x])]
theorem linesK_mem (P : Tk → Prop) : ∀ (l cur : List Tk) (D : List (List Tk)), (∀ R ∈ D, ∀ t ∈ R, P t) → (∀ t ∈ cur, P t) → (∀ t ∈ l, t.k ≠ 4 → P t) → ∀ R ∈ linesK D cur l, ∀ t ∈ R, P t
  | [], cur, D, h1, h2, _ => by
    intro R hR
    rw [linesK, List.mem_append, List.mem_singleton] at hR
    rcases hR with hR | rfl
    · exact h1 R hR
    · exact h2
  | t :: l, cur, D, h1, h2, h3 => by
    by_cases h : t.k = 4
    · rw [linesK_line h]
      refine linesK_mem P l [] (D ++ [cur]) (fun R hR => ?_) (by simp) fun x hx => h3 x (by simp [hx])
      rw [List.mem_append, List.mem_singleton] at hR
      rcases hR with hR | rfl
      · exact h1 R hR
      · exact h2
    · rw [linesK_on h]
      refine linesK_mem P l (cur ++ [t]) D h1 (fun x hx => ?_) fun x hx => h3 x (by simp [hx])
      rw [List.mem_append, List.mem_singleton] at hx
      rcases hx with hx | rfl
      · exact h2 x hx
      · exact h3 _ (by simp) h
theorem linesL_mem (P : Tk → Prop) {l : List Tk} (h : ∀ t ∈ l, t.k ≠ 4 → P t) : ∀ R ∈ linesL l, ∀ t ∈ R, P t := by
  unfold linesL
  split
  · intro R hR; cases hR
  · exact linesK_mem P l [] [] (by simp) (by simp) h
theorem linesL_cat {t : Tk} (ht : t.k = 4) {l m : List Tk} (hl : l ≠ []) (hm : m ≠ []) : linesL (l ++ [t] ++ m) = linesL l ++ linesL m := by
  unfold linesL
  rw [if_neg hl, if_neg hm, if_neg (by simp), List.append_assoc, List.singleton_append, linesK_cat ht]
set_option maxRecDepth 100000 in
set_option maxHeartbeats 4000000 in
theorem lexerRows_few (W : World) (A : Option Addr) (n c : Nat) (L : List Tk) (h1 : Toks W W.heap.size A n L) (hn : n ≤ 4398046511104) (A' : Option Addr) (n' c' : Nat) (M : List Tk) (h2 : Toks W W.heap.size A' n' M) (hn' : n' ≤ 4398046511104) (hx : ¬(fewL L = true ∧ fewL M = true ∧ n ≠ 0 ∧ n' ≠ 0)) : Calls Try.prog 8 #[.slice A n c, .slice A' n' c'] W fun e w' => e = .returned (.bool true) ∧ Below W.heap.size W w' := by
  have hz : ∀ w1 : World, Below W.heap.size W w1 → W.heap.size ≤ w1.heap.size := fun w1 h => h.size
  by_cases f1 : fewL L = true
  · by_cases f2 : fewL M = true
    · by_cases n0 : n = 0
      · subst n0
        have F1 := Lib.hid f1
        have F2 := Lib.hid f2
        clear hx f1 f2 hz
        go_enter Try.func8, Try.ntmps8
        go_wp2_with (first | (go_at_call 9; refine (live_any _).mono ?_; rintro e w1 ⟨rfl, hb1⟩) | (go_at_call 13; (with_reducible refine (fewT_any A 0 c L _ ((h1.on hb1 (Nat.le_refl _)).more hb1.size) hn).mono ?_); rintro e w2 ⟨rfl, hb2⟩; rw [F1.out]) | (go_at_call 13; refine (fewT_any A' n' c' M _ (((h2.on hb1 (Nat.le_refl _)).on hb2 hb1.size).more (Nat.le_trans hb1.size hb2.size)) hn').mono ?_; rintro e w3 ⟨rfl, hb3⟩; rw [F2.out]))
        go_ret
        exact ⟨rfl, (hb1.trans (hb2.mono hb1.size)).trans (hb3.mono (Nat.le_trans hb1.size hb2.size))⟩
      · have m0 : n' = 0 := by
          rcases Nat.eq_zero_or_pos n' with h | h
          · exact h
          · exact absurd ⟨f1, f2, n0, by omega⟩ hx
        subst m0
        have e0 : ((n : Int) == 0) = false := by rw [beq_eq_false_iff_ne]; omega
        have F1 := Lib.hid f1
        have F2 := Lib.hid f2
        clear hx f1 f2 hz n0
        go_enter Try.func8, Try.ntmps8
        go_wp2_with (first | (go_at_call 9; refine (live_any _).mono ?_; rintro e w1 ⟨rfl, hb1⟩) | (go_at_call 13; (with_reducible refine (fewT_any A n c L _ ((h1.on hb1 (Nat.le_refl _)).more hb1.size) hn).mono ?_); rintro e w2 ⟨rfl, hb2⟩; rw [F1.out]) | (go_at_call 13; refine (fewT_any A' 0 c' M _ (((h2.on hb1 (Nat.le_refl _)).on hb2 hb1.size).more (Nat.le_trans hb1.size hb2.size)) hn').mono ?_; rintro e w3 ⟨rfl, hb3⟩; rw [F2.out]))
        go_ret
        exact ⟨rfl, (hb1.trans (hb2.mono hb1.size)).trans (hb3.mono (Nat.le_trans hb1.size hb2.size))⟩
    · have f2' : fewL M = false := by simpa using f2
      have F1 := Lib.hid f1
      have F2 := Lib.hid f2'
      clear hx f1 f2 f2' hz
      go_enter Try.func8, Try.ntmps8
      go_wp2_with (first | (go_at_call 9; refine (live_any _).mono ?_; rintro e w1 ⟨rfl, hb1⟩) | (go_at_call 13; (with_reducible refine (fewT_any A n c L _ ((h1.on hb1 (Nat.le_refl _)).more hb1.size) hn).mono ?_); rintro e w2 ⟨rfl, hb2⟩; rw [F1.out]) | (go_at_call 13; refine (fewT_any A' n' c' M _ (((h2.on hb1 (Nat.le_refl _)).on hb2 hb1.size).more (Nat.le_trans hb1.size hb2.size)) hn').mono ?_; rintro e w3 ⟨rfl, hb3⟩; rw [F2.out]))
      go_ret
      exact ⟨rfl, (hb1.trans (hb2.mono hb1.size)).trans (hb3.mono (Nat.le_trans hb1.size hb2.size))⟩
  · have f1' : fewL L = false := by simpa using f1
    have F1 := Lib.hid f1'
    clear hx f1 f1' hz
    go_enter Try.func8, Try.ntmps8
    go_wp2_with (first | (go_at_call 9; refine (live_any _).mono ?_; rintro e w1 ⟨rfl, hb1⟩) | (go_at_call 13; (with_reducible refine (fewT_any A n c L _ ((h1.on hb1 (Nat.le_refl _)).more hb1.size) hn).mono ?_); rintro e w2 ⟨rfl, hb2⟩; rw [F1.out]))
    go_ret
    exact ⟨rfl, hb1.trans (hb2.mono hb1.size)⟩
end Go.Proofs.Ytinjkakfnppjpaa
