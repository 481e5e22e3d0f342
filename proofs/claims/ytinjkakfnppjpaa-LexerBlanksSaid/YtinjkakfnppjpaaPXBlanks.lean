/- purflelaw08.LexerBlanks returns true at every two texts. -/
import Derived.Test.YtinjkakfnppjpaaPXBlanksM
import Derived.Test.YtinjkakfnppjpaaG3
namespace Go.Proofs.Ytinjkakfnppjpaa
open Go.RowKit

set_option maxRecDepth 100000 in
set_option maxHeartbeats 4000000 in
theorem lexerBlanks_few (W : World) (s : ByteArray) (ws : s.size ≤ maxLen) (t : ByteArray) (wt : t.size ≤ maxLen) (kind : Int) (h7 : s.size + t.size ≤ 20000) (h0 : ¬((cutF (bl s)).2.2 = 0 ∧ (cutF (bl t)).2.2 = 0 ∧ (cutF (bl s)).1.length + (cutF (bl t)).1.length ≤ 4000)) : Calls Try.prog 6 #[.string s, .string t, .int .i64 kind] W fun e w' => e = .returned (.bool true) ∧ Below W.heap.size W w' := by
  have cC := fun w => cut_any s w ws
  have cT := fun w => cut_any t w wt
  have hl1 := cutF_len (bl s)
  have hl2 := cutF_len (bl t)
  generalize (cutF (bl s)).1 = L at *
  generalize (cutF (bl s)).2.1 = N at *
  generalize (cutF (bl s)).2.2 = E at *
  generalize (cutF (bl t)).1 = M at *
  generalize (cutF (bl t)).2.1 = N2 at *
  generalize (cutF (bl t)).2.2 = E2 at *
  have hx : (E ≠ 0 ∨ E2 ≠ 0 ∨ 4000 < L.length + M.length) := by omega
  clear h0
  have h7' : ¬ (20000 : Int) < (s.size : Int) + (t.size : Int) := by omega
  by_cases e1 : E = 0
  · by_cases e2 : E2 = 0
    · have hx' : 4000 < L.length + M.length := by omega
      clear hx
      subst e1 e2
      go_enter Try.func6, Try.ntmps6
      go_wp2_with (go_at_call 9; refine (live_any _).mono ?_; rintro e w1 ⟨rfl, hb1⟩)
      go_wp2_with (go_at_call 10; (with_reducible refine (cC _).mono ?_); rintro e w2 ⟨A, n, c, rfl, hn, hO, hb2⟩)
      go_wp2_with (go_at_call 10; (with_reducible refine (cT _).mono ?_); rintro e w3 ⟨A3, n3, c3, rfl, hn3, hO3, hb3⟩; have hs : (4000 : Int) < (n : Int) + (n3 : Int) := by omega)
      go_ret
      exact ⟨rfl, (hb1.trans (hb2.mono hb1.size)).trans (hb3.mono (Nat.le_trans hb1.size hb2.size))⟩
    · have b2 : (E2 != 0) = true := by simp [e2]
      subst e1
      clear hx e2
      go_enter Try.func6, Try.ntmps6
      go_wp2_with (go_at_call 9; refine (live_any _).mono ?_; rintro e w1 ⟨rfl, hb1⟩)
      go_wp2_with (go_at_call 10; (with_reducible refine (cC _).mono ?_); rintro e w2 ⟨A, n, c, rfl, hn, hO, hb2⟩)
      go_wp2_with (go_at_call 10; (with_reducible refine (cT _).mono ?_); rintro e w3 ⟨A3, n3, c3, rfl, hn3, hO3, hb3⟩)
      go_ret
      exact ⟨rfl, (hb1.trans (hb2.mono hb1.size)).trans (hb3.mono (Nat.le_trans hb1.size hb2.size))⟩
  · have b1 : (E != 0) = true := by simp [e1]
    clear hx e1
    go_enter Try.func6, Try.ntmps6
    go_wp2_with (go_at_call 9; refine (live_any _).mono ?_; rintro e w1 ⟨rfl, hb1⟩)
    go_wp2_with (go_at_call 10; (with_reducible refine (cC _).mono ?_); rintro e w2 ⟨A, n, c, rfl, hn, hO, hb2⟩)
    go_wp2_with (go_at_call 10; (with_reducible refine (cT _).mono ?_); rintro e w3 ⟨A3, n3, c3, rfl, hn3, hO3, hb3⟩)
    go_ret
    exact ⟨rfl, (hb1.trans (hb2.mono hb1.size)).trans (hb3.mono (Nat.le_trans hb1.size hb2.size))⟩
/-- which of the five texts is taken -/
theorem which_blank (kind : Int) : ∃ j : Nat, j < 5 ∧ (wrap64 (kind.tmod 5 + 5)).tmod 5 = j := by
  have h1 := Int.tmod_lt_of_pos kind (show (0 : Int) < 5 by decide)
  have h2 : -5 < kind.tmod 5 := by
    have := Int.tmod_lt_of_pos (-kind) (show (0 : Int) < 5 by decide)
    rw [Int.neg_tmod] at this
    omega
  rw [show wrap64 (kind.tmod 5 + 5) = kind.tmod 5 + 5 from by unfold wrap64; omega]
  generalize kind.tmod 5 = x at *
  rw [Int.tmod_eq_emod_of_nonneg (by omega)]
  exact ⟨((x + 5) % 5).toNat, by omega, by omega⟩
set_option maxRecDepth 100000 in
set_option maxHeartbeats 8000000 in
theorem lexerBlanks_main (W : World) (s : ByteArray) (ws : s.size ≤ maxLen) (t : ByteArray) (wt : t.size ≤ maxLen) (kind : Int) (h7 : s.size + t.size ≤ 20000) (L M : List Tk) (N N2 : Int) (hL : cutF (bl s) = (L, N, 0)) (hM : cutF (bl t) = (M, N2, 0)) (hl : L.length + M.length ≤ 4000) : Calls Try.prog 6 #[.string s, .string t, .int .i64 kind] W fun e w' => e = .returned (.bool true) ∧ Below W.heap.size W w' := by
  have cC := fun w => cut_any s w ws
  have cT := fun w => cut_any t w wt
  rw [hL] at cC
  rw [hM] at cT
  dsimp only at cC cT
  have h7' : ¬ (20000 : Int) < (s.size : Int) + (t.size : Int) := by omega
  have gL := (cutF_good (l := bl s) (by rw [hL])).1
  have gM := (cutF_good (l := bl t) (by rw [hM])).1
  rw [hL] at gL
  rw [hM] at gM
  dsimp only at gL gM
  have okL := Lib.hid (by have := cutF_ok (bl s); rw [hL] at this; exact this : ∀ x ∈ L, x.ok)
  have okM := Lib.hid (by have := cutF_ok (bl t); rw [hM] at this; exact this : ∀ x ∈ M, x.ok)
  clear hL hM
  obtain ⟨j, hj5, hj⟩ := which_blank kind
  have sz := blank_size j
  have hz1 : (blankB j ++ s ++ ⟨#[10]⟩ ++ blankB j).size ≤ maxLen := by
    have e : (⟨#[10]⟩ : ByteArray).size = 1 := rfl
    rw [ByteArray.size_append, ByteArray.size_append, ByteArray.size_append, e]
    unfold maxLen
    omega
  have hz2 : (s ++ ⟨#[10]⟩ ++ blankB j ++ t).size ≤ maxLen := by
    have e : (⟨#[10]⟩ : ByteArray).size = 1 := rfl
    rw [ByteArray.size_append, ByteArray.size_append, ByteArray.size_append, e]
    unfold maxLen
    omega
  have cX := fun w => cut_any (blankB j ++ s ++ ⟨#[10]⟩ ++ blankB j) w hz1
  have cY := fun w => cut_any (s ++ ⟨#[10]⟩ ++ blankB j ++ t) w hz2
  have aX := cut_around j s gL (by omega) (by omega)
  have aY := cut_between j s t gL gM h7 hl
  rw [aX.1, aX.2] at cX
  rw [aY.1, aY.2] at cY
  generalize (cutF (bl (blankB j ++ s ++ ⟨#[10]⟩ ++ blankB j))).2.1 = N3 at cX
  generalize (cutF (bl (s ++ ⟨#[10]⟩ ++ blankB j ++ t))).2.1 = N4 at cY
  have sL := Lib.hid (sameTL_rfl L)
  have sLM : Hid (∀ D : List Tk, sameTL D D = true) := fun D => sameTL_rfl D
  clear aX aY hz1 hz2 gL gM sz
  by_cases n0 : L.length = 0
  · obtain rfl : L = [] := List.eq_nil_of_length_eq_zero n0
    have hD : (if ([] : List Tk) = [] then [] else if M = [] then [] else [] ++ [lineTk]) ++ (if ([] : List Tk) ≠ [] ∧ M = [] then [] else M) = [] ++ M := by
      rw [if_pos rfl, if_neg (fun h => h.1 rfl)]
    rw [hD] at cY
    clear hD
    have okD : Hid (∀ x ∈ ([] : List Tk) ++ M, x.ok) := okM.out
    clear n0
    rcases (by omega : j = 0 ∨ j = 1 ∨ j = 2 ∨ j = 3 ∨ j = 4) with rfl | rfl | rfl | rfl | rfl
    all_goals first | (rw [show blankB 0 = ⟨#[32]⟩ from rfl] at cX cY; have hj' : (wrap64 (kind.tmod 5 + 5)).tmod 5 = 0 := hj; clear hj5 hj) | (rw [show blankB 1 = ⟨#[9]⟩ from rfl] at cX cY; have hj' : (wrap64 (kind.tmod 5 + 5)).tmod 5 = 1 := hj; clear hj5 hj) | (rw [show blankB 2 = ⟨#[10]⟩ from rfl] at cX cY; have hj' : (wrap64 (kind.tmod 5 + 5)).tmod 5 = 2 := hj; clear hj5 hj) | (rw [show blankB 3 = ⟨#[32, 35, 32, 110, 111, 44, 32, 91, 10]⟩ from rfl] at cX cY; have hj' : (wrap64 (kind.tmod 5 + 5)).tmod 5 = 3 := hj; clear hj5 hj) | (rw [show blankB 4 = ⟨#[10, 32, 10, 9, 10]⟩ from rfl] at cX cY; have hj' : (wrap64 (kind.tmod 5 + 5)).tmod 5 = 4 := hj; clear hj5 hj)
    all_goals
      go_enter Try.func6, Try.ntmps6
      go_wp2_with (go_at_call 9; refine (live_any _).mono ?_; rintro e w1 ⟨rfl, hb1⟩)
      go_wp2_with (go_at_call 10; (with_reducible refine (cC _).mono ?_); rintro e w2 ⟨A, n, c, rfl, hn, hO, hb2⟩; obtain rfl : 0 = n := hn)
      go_wp2_with (go_at_call 10; (with_reducible refine (cT _).mono ?_); rintro e w3 ⟨A3, n3, c3, rfl, hn3, hO3, hb3⟩; skip; have hs : ¬ (4000 : Int) < ((0 : Nat) : Int) + ((n3 : Nat) : Int) := by omega)
      have hn : ([] : List Tk).length = 0 := rfl
      go_wp2_with (go_at_call 10; (with_reducible refine (cX _).mono ?_); rintro e w5 ⟨A5, n5, c5, rfl, hn5, hO5, hb5⟩; obtain rfl : 0 = n5 := hn5)
      go_wp2_with (go_at_call 10; (with_reducible refine (cY _).mono ?_); rintro e w6 ⟨A6, n6, c6, rfl, hn6, hO6, hb6⟩; skip)
      have s45 := size_allocT w3 (.cells #[.string ⟨#[32]⟩, .string ⟨#[9]⟩, .string ⟨#[10]⟩, .string ⟨#[32, 35, 32, 110, 111, 44, 32, 91, 10]⟩, .string ⟨#[10, 32, 10, 9, 10]⟩] 9)
      have s6 : w3.heap.size ≤ w6.heap.size := Nat.le_trans s45 (Nat.le_trans hb5.size hb6.size)
      have HBall : Below W.heap.size W w6 := (((((hb1.trans (hb2.mono hb1.size)).trans (hb3.mono (Nat.le_trans hb1.size hb2.size))).alloc (Nat.le_trans (Nat.le_trans hb1.size hb2.size) hb3.size) _).trans (hb5.mono (Nat.le_trans (Nat.le_trans (Nat.le_trans hb1.size hb2.size) hb3.size) s45))).trans (hb6.mono (Nat.le_trans (Nat.le_trans (Nat.le_trans (Nat.le_trans hb1.size hb2.size) hb3.size) s45) hb5.size)))
      have hW6 := HBall.size
      have T1 := (((((hO.rd okL.out hn).on hb3 (Nat.le_refl _)).alloc hb3.size _).on hb5 (Nat.le_trans hb3.size s45)).on hb6 (Nat.le_trans (Nat.le_trans hb3.size s45) hb5.size)).more (Nat.le_trans hb3.size s6)
      have T3 := ((((hO3.rd okM.out hn3).alloc (Nat.le_refl _) _).on hb5 s45).on hb6 (Nat.le_trans s45 hb5.size)).more s6
      have hn5 : ([] : List Tk).length = 0 := rfl
      have T5 := ((hO5.rd okL.out hn5).on hb6 (Nat.le_refl _)).more hb6.size
      have T6 := hO6.rd okD.out hn6
      have HL2 : Hid (([] : List Tk).length = 0) := hn
      have hl1 : 0 ≤ 1000000 := by omega
      have hl3 : n3 ≤ 1000000 := by omega
      have hl6 : n6 ≤ 1000000 := by rw [← hn6]; simp only [List.nil_append]; omega
      have HL1 := Lib.hid hn
      have HL3 : Hid (([] ++ M).length = n3) := Lib.hid (by simp only [List.nil_append]; omega)
      clear hn hn3 hn5 hn6
      go_wp2_with (first | (go_at_call 12; (with_reducible refine (refSame_any A A5 0 c 0 c5 _ [] [] _ T1 T5 hl1).mono ?_); rintro e w7 ⟨rfl, m7, rfl⟩; rw [sL.out]) | (at_builtin; refine wpList_appendToks rfl (.const (.slice none 0 0)) (.tmp 106) rfl w6.heap.size none A 0 0 c w6.heap.size 0 0 [] [] rfl rfl (OwnT.nil_ _ _) rfl (Nat.zero_add _) (T1.drewN _) hl1 (Nat.le_refl _) ?_; intro A8 c8 w8 HO8 HG8; rw [List.nil_append] at HO8; have T38 := (T3.drewN m7).grown HG8 (Nat.le_refl _) (fun g e => by cases e); have T68 := (T6.drewN m7).grown HG8 (Nat.le_refl _) (fun g e => by cases e); have hs8 : w6.heap.size ≤ w8.heap.size := HG8.size; have HB8 : Below w6.heap.size w6 w8 := (below_dX (Below.refl _ _) m7).grown HG8 (Nat.le_refl _) (fun g e => by cases e)) | (refine wpList_appendToksG (.tmp 123) (.tmp 124) rfl rfl w6.heap.size A8 A3 c8 n3 c3 w6.heap.size 0 n3 [] M rfl rfl HO8 HL2.out (Nat.zero_add _) T38 hl3 hs8 ?_; intro A10 c10 w10 HO10 HG10; have T6a := T68.grown HG10 hs8 HO8.row; have HB10 : Below w6.heap.size w6 w10 := HB8.grown HG10 hs8 HO8.row; have Ta := HO10.rd okD.out HL3.out) | (go_at_call 12; refine (refSame_any A6 A10 n6 c6 n3 c10 _ ([] ++ M) ([] ++ M) _ (T6a.more HB10.size) Ta hl6).mono ?_; rintro e w11 ⟨rfl, m11, rfl⟩; rw [sLM.out]))
      go_ret
      exact ⟨rfl, below_dX (HBall.trans (HB10.mono hW6)) m11⟩
  · by_cases m0 : M.length = 0
    · obtain rfl : M = [] := List.eq_nil_of_length_eq_zero m0
      have hD : (if L = [] then [] else if ([] : List Tk) = [] then L else L ++ [lineTk]) ++ (if L ≠ [] ∧ ([] : List Tk) = [] then [] else ([] : List Tk)) = L ++ [] := by
        rw [if_neg (fun h => n0 (by rw [h]; rfl)), if_pos rfl, if_pos ⟨fun h => n0 (by rw [h]; rfl), rfl⟩]
      rw [hD] at cY
      clear hD
      have okD : Hid (∀ x ∈ L ++ [], x.ok) := by rw [List.append_nil]; exact okL
      have H0 := Lib.hid n0
      clear n0 m0
      rcases (by omega : j = 0 ∨ j = 1 ∨ j = 2 ∨ j = 3 ∨ j = 4) with rfl | rfl | rfl | rfl | rfl
      all_goals first | (rw [show blankB 0 = ⟨#[32]⟩ from rfl] at cX cY; have hj' : (wrap64 (kind.tmod 5 + 5)).tmod 5 = 0 := hj; clear hj5 hj) | (rw [show blankB 1 = ⟨#[9]⟩ from rfl] at cX cY; have hj' : (wrap64 (kind.tmod 5 + 5)).tmod 5 = 1 := hj; clear hj5 hj) | (rw [show blankB 2 = ⟨#[10]⟩ from rfl] at cX cY; have hj' : (wrap64 (kind.tmod 5 + 5)).tmod 5 = 2 := hj; clear hj5 hj) | (rw [show blankB 3 = ⟨#[32, 35, 32, 110, 111, 44, 32, 91, 10]⟩ from rfl] at cX cY; have hj' : (wrap64 (kind.tmod 5 + 5)).tmod 5 = 3 := hj; clear hj5 hj) | (rw [show blankB 4 = ⟨#[10, 32, 10, 9, 10]⟩ from rfl] at cX cY; have hj' : (wrap64 (kind.tmod 5 + 5)).tmod 5 = 4 := hj; clear hj5 hj)
      all_goals
        go_enter Try.func6, Try.ntmps6
        go_wp2_with (go_at_call 9; refine (live_any _).mono ?_; rintro e w1 ⟨rfl, hb1⟩)
        go_wp2_with (go_at_call 10; (with_reducible refine (cC _).mono ?_); rintro e w2 ⟨A, n, c, rfl, hn, hO, hb2⟩; skip)
        go_wp2_with (go_at_call 10; (with_reducible refine (cT _).mono ?_); rintro e w3 ⟨A3, n3, c3, rfl, hn3, hO3, hb3⟩; obtain rfl : 0 = n3 := hn3; have hs : ¬ (4000 : Int) < ((n : Nat) : Int) + ((0 : Nat) : Int) := by omega)
        have hn3 : ([] : List Tk).length = 0 := rfl
        go_wp2_with (go_at_call 10; (with_reducible refine (cX _).mono ?_); rintro e w5 ⟨A5, n5, c5, rfl, hn5, hO5, hb5⟩; skip)
        go_wp2_with (go_at_call 10; (with_reducible refine (cY _).mono ?_); rintro e w6 ⟨A6, n6, c6, rfl, hn6, hO6, hb6⟩; skip)
        have s45 := size_allocT w3 (.cells #[.string ⟨#[32]⟩, .string ⟨#[9]⟩, .string ⟨#[10]⟩, .string ⟨#[32, 35, 32, 110, 111, 44, 32, 91, 10]⟩, .string ⟨#[10, 32, 10, 9, 10]⟩] 9)
        have s6 : w3.heap.size ≤ w6.heap.size := Nat.le_trans s45 (Nat.le_trans hb5.size hb6.size)
        have HBall : Below W.heap.size W w6 := (((((hb1.trans (hb2.mono hb1.size)).trans (hb3.mono (Nat.le_trans hb1.size hb2.size))).alloc (Nat.le_trans (Nat.le_trans hb1.size hb2.size) hb3.size) _).trans (hb5.mono (Nat.le_trans (Nat.le_trans (Nat.le_trans hb1.size hb2.size) hb3.size) s45))).trans (hb6.mono (Nat.le_trans (Nat.le_trans (Nat.le_trans (Nat.le_trans hb1.size hb2.size) hb3.size) s45) hb5.size)))
        have hW6 := HBall.size
        have T1 := (((((hO.rd okL.out hn).on hb3 (Nat.le_refl _)).alloc hb3.size _).on hb5 (Nat.le_trans hb3.size s45)).on hb6 (Nat.le_trans (Nat.le_trans hb3.size s45) hb5.size)).more (Nat.le_trans hb3.size s6)
        have T3 := ((((hO3.rd okM.out hn3).alloc (Nat.le_refl _) _).on hb5 s45).on hb6 (Nat.le_trans s45 hb5.size)).more s6
        have T5 := ((hO5.rd okL.out hn5).on hb6 (Nat.le_refl _)).more hb6.size
        have T6 := hO6.rd okD.out hn6
        have hn0 : 0 < n := by have := H0.out; omega
        have HL2 : Hid ((L : List Tk).length = n) := hn
        have hl1 : n ≤ 1000000 := by omega
        have hl3 : (n + 0) ≤ 1000000 := by omega
        have hl6 : n6 ≤ 1000000 := by rw [← hn6]; simp only [List.append_nil]; omega
        have HL1 := Lib.hid hn
        have HL3 : Hid ((L ++ []).length = (n + 0)) := Lib.hid (by simp only [List.append_nil]; omega)
        clear hn hn3 hn5 hn6
        go_wp2_with (first | (go_at_call 12; (with_reducible refine (refSame_any A A5 n c n5 c5 _ L L _ T1 T5 hl1).mono ?_); rintro e w7 ⟨rfl, m7, rfl⟩; rw [sL.out]) | (at_builtin; refine wpList_appendToks rfl (.const (.slice none 0 0)) (.tmp 106) rfl w6.heap.size none A 0 n c w6.heap.size 0 n [] L rfl rfl (OwnT.nil_ _ _) rfl (Nat.zero_add _) (T1.drewN _) hl1 (Nat.le_refl _) ?_; intro A8 c8 w8 HO8 HG8; rw [List.nil_append] at HO8; have T38 := (T3.drewN m7).grown HG8 (Nat.le_refl _) (fun g e => by cases e); have T68 := (T6.drewN m7).grown HG8 (Nat.le_refl _) (fun g e => by cases e); have hs8 : w6.heap.size ≤ w8.heap.size := HG8.size; have HB8 : Below w6.heap.size w6 w8 := (below_dX (Below.refl _ _) m7).grown HG8 (Nat.le_refl _) (fun g e => by cases e)) | (refine wpList_appendToksG (.tmp 123) (.tmp 124) rfl rfl w6.heap.size A8 A3 c8 0 c3 w6.heap.size n (n + 0) L [] rfl rfl HO8 HL2.out rfl T38 hl3 hs8 ?_; intro A10 c10 w10 HO10 HG10; have T6a := T68.grown HG10 hs8 HO8.row; have HB10 : Below w6.heap.size w6 w10 := HB8.grown HG10 hs8 HO8.row; have Ta := HO10.rd okD.out HL3.out) | (go_at_call 12; refine (refSame_any A6 A10 n6 c6 (n + 0) c10 _ (L ++ []) (L ++ []) _ (T6a.more HB10.size) Ta hl6).mono ?_; rintro e w11 ⟨rfl, m11, rfl⟩; rw [sLM.out]))
        go_ret
        exact ⟨rfl, below_dX (HBall.trans (HB10.mono hW6)) m11⟩
    · have hD : (if L = [] then [] else if M = [] then L else L ++ [lineTk]) ++ (if L ≠ [] ∧ M = [] then [] else M) = L ++ [lineTk] ++ M := by
        rw [if_neg (fun h => n0 (by rw [h]; rfl)), if_neg (fun h => m0 (by rw [h]; rfl)), if_neg (fun h => m0 (by rw [h.2]; rfl))]
      rw [hD] at cY
      clear hD
      have okD : Hid (∀ x ∈ L ++ [lineTk] ++ M, x.ok) := by
        intro x hx
        simp only [List.mem_append, List.mem_singleton] at hx
        rcases hx with (hx | rfl) | hx
        · exact okL.out x hx
        · exact line_may.ok
        · exact okM.out x hx
      have H0 := Lib.hid n0
      have H1 := Lib.hid m0
      have HD : Hid ((L ++ [lineTk] ++ M).length = L.length + 1 + M.length) := Lib.hid (by rw [List.length_append, List.length_append]; rfl)
      clear n0 m0
      rcases (by omega : j = 0 ∨ j = 1 ∨ j = 2 ∨ j = 3 ∨ j = 4) with rfl | rfl | rfl | rfl | rfl
      all_goals first | (rw [show blankB 0 = ⟨#[32]⟩ from rfl] at cX cY; have hj' : (wrap64 (kind.tmod 5 + 5)).tmod 5 = 0 := hj; clear hj5 hj) | (rw [show blankB 1 = ⟨#[9]⟩ from rfl] at cX cY; have hj' : (wrap64 (kind.tmod 5 + 5)).tmod 5 = 1 := hj; clear hj5 hj) | (rw [show blankB 2 = ⟨#[10]⟩ from rfl] at cX cY; have hj' : (wrap64 (kind.tmod 5 + 5)).tmod 5 = 2 := hj; clear hj5 hj) | (rw [show blankB 3 = ⟨#[32, 35, 32, 110, 111, 44, 32, 91, 10]⟩ from rfl] at cX cY; have hj' : (wrap64 (kind.tmod 5 + 5)).tmod 5 = 3 := hj; clear hj5 hj) | (rw [show blankB 4 = ⟨#[10, 32, 10, 9, 10]⟩ from rfl] at cX cY; have hj' : (wrap64 (kind.tmod 5 + 5)).tmod 5 = 4 := hj; clear hj5 hj)
      all_goals
        go_enter Try.func6, Try.ntmps6
        go_wp2_with (go_at_call 9; refine (live_any _).mono ?_; rintro e w1 ⟨rfl, hb1⟩)
        go_wp2_with (go_at_call 10; (with_reducible refine (cC _).mono ?_); rintro e w2 ⟨A, n, c, rfl, hn, hO, hb2⟩; skip)
        go_wp2_with (go_at_call 10; (with_reducible refine (cT _).mono ?_); rintro e w3 ⟨A3, n3, c3, rfl, hn3, hO3, hb3⟩; skip; have hs : ¬ (4000 : Int) < ((n : Nat) : Int) + ((n3 : Nat) : Int) := by omega)
        go_wp2_with (go_at_call 10; (with_reducible refine (cX _).mono ?_); rintro e w5 ⟨A5, n5, c5, rfl, hn5, hO5, hb5⟩; skip)
        go_wp2_with (go_at_call 10; (with_reducible refine (cY _).mono ?_); rintro e w6 ⟨A6, n6, c6, rfl, hn6, hO6, hb6⟩; skip)
        have s45 := size_allocT w3 (.cells #[.string ⟨#[32]⟩, .string ⟨#[9]⟩, .string ⟨#[10]⟩, .string ⟨#[32, 35, 32, 110, 111, 44, 32, 91, 10]⟩, .string ⟨#[10, 32, 10, 9, 10]⟩] 9)
        have s6 : w3.heap.size ≤ w6.heap.size := Nat.le_trans s45 (Nat.le_trans hb5.size hb6.size)
        have HBall : Below W.heap.size W w6 := (((((hb1.trans (hb2.mono hb1.size)).trans (hb3.mono (Nat.le_trans hb1.size hb2.size))).alloc (Nat.le_trans (Nat.le_trans hb1.size hb2.size) hb3.size) _).trans (hb5.mono (Nat.le_trans (Nat.le_trans (Nat.le_trans hb1.size hb2.size) hb3.size) s45))).trans (hb6.mono (Nat.le_trans (Nat.le_trans (Nat.le_trans (Nat.le_trans hb1.size hb2.size) hb3.size) s45) hb5.size)))
        have hW6 := HBall.size
        have T1 := (((((hO.rd okL.out hn).on hb3 (Nat.le_refl _)).alloc hb3.size _).on hb5 (Nat.le_trans hb3.size s45)).on hb6 (Nat.le_trans (Nat.le_trans hb3.size s45) hb5.size)).more (Nat.le_trans hb3.size s6)
        have T3 := ((((hO3.rd okM.out hn3).alloc (Nat.le_refl _) _).on hb5 s45).on hb6 (Nat.le_trans s45 hb5.size)).more s6
        have T5 := ((hO5.rd okL.out hn5).on hb6 (Nat.le_refl _)).more hb6.size
        have T6 := hO6.rd okD.out hn6
        have hn0 : 0 < n := by have := H0.out; omega
        have hn30 : 0 < n3 := by have := H1.out; omega
        have hl2 : n + 1 ≤ 1000000 := by omega
        have HL2 : Hid ((L ++ [lineTk]).length = n + 1) := Lib.hid (by rw [List.length_append, hn]; rfl)
        have hl1 : n ≤ 1000000 := by omega
        have hl3 : (n + 1 + n3) ≤ 1000000 := by omega
        have hl6 : n6 ≤ 1000000 := by rw [← hn6]; simp only [List.length_append, List.length_cons, List.length_nil]; omega
        have HL1 := Lib.hid hn
        have HL3 : Hid ((L ++ [lineTk] ++ M).length = (n + 1 + n3)) := Lib.hid (by simp only [List.length_append, List.length_cons, List.length_nil]; omega)
        clear hn hn3 hn5 hn6
        go_wp2_with (first | (go_at_call 12; (with_reducible refine (refSame_any A A5 n c n5 c5 _ L L _ T1 T5 hl1).mono ?_); rintro e w7 ⟨rfl, m7, rfl⟩; rw [sL.out]) | (at_builtin; refine wpList_appendToks rfl (.const (.slice none 0 0)) (.tmp 106) rfl w6.heap.size none A 0 n c w6.heap.size 0 n [] L rfl rfl (OwnT.nil_ _ _) rfl (Nat.zero_add _) (T1.drewN _) hl1 (Nat.le_refl _) ?_; intro A8 c8 w8 HO8 HG8; rw [List.nil_append] at HO8; have T38 := (T3.drewN m7).grown HG8 (Nat.le_refl _) (fun g e => by cases e); have T68 := (T6.drewN m7).grown HG8 (Nat.le_refl _) (fun g e => by cases e); have hs8 : w6.heap.size ≤ w8.heap.size := HG8.size; have HB8 : Below w6.heap.size w6 w8 := (below_dX (Below.refl _ _) m7).grown HG8 (Nat.le_refl _) (fun g e => by cases e)) | (at_builtin; refine wpList_appendTok rfl (.tmp 116) (.tmp 118) rfl w6.heap.size A8 c8 n (n + 1) w8.heap.size lineTk L rfl rfl rfl HO8 HL1.out rfl hl2 hs8 ?_; intro A9 c9 w9 HO9 HG9; have T39 := T38.grown HG9 hs8 HO8.row; have T69 := T68.grown HG9 hs8 HO8.row; have HB9 : Below w6.heap.size w6 w9 := HB8.grown HG9 hs8 HO8.row; have hs9 : w6.heap.size ≤ w9.heap.size := HB9.size) | (refine wpList_appendToksG (.tmp 123) (.tmp 124) rfl rfl w6.heap.size A9 A3 c9 n3 c3 w6.heap.size (n + 1) (n + 1 + n3) (L ++ [lineTk]) M rfl rfl HO9 HL2.out rfl T39 hl3 hs9 ?_; intro A10 c10 w10 HO10 HG10; have T6a := T69.grown HG10 hs9 HO9.row; have HB10 : Below w6.heap.size w6 w10 := HB9.grown HG10 hs9 HO9.row; have Ta := HO10.rd okD.out HL3.out) | (go_at_call 12; refine (refSame_any A6 A10 n6 c6 (n + 1 + n3) c10 _ (L ++ [lineTk] ++ M) (L ++ [lineTk] ++ M) _ (T6a.more HB10.size) Ta hl6).mono ?_; rintro e w11 ⟨rfl, m11, rfl⟩; rw [sLM.out]))
        go_ret
        exact ⟨rfl, below_dX (HBall.trans (HB10.mono hW6)) m11⟩
set_option maxRecDepth 100000 in
theorem lexerBlanks_any (W : World) (s : ByteArray) (ws : s.size ≤ maxLen) (zs : s.size ≤ 140737488351232) (t : ByteArray) (wt : t.size ≤ maxLen) (zt : t.size ≤ 140737488351232) (kind : Int) (_ : -9223372036854775808 ≤ kind) (_ : kind ≤ 9223372036854775807) : Calls Try.prog 6 #[.string s, .string t, .int .i64 kind] W fun e w' => e = .returned (.bool true) ∧ Below W.heap.size W w' := by
  by_cases h7 : s.size + t.size ≤ 20000
  · by_cases h0 : (cutF (bl s)).2.2 = 0 ∧ (cutF (bl t)).2.2 = 0 ∧ (cutF (bl s)).1.length + (cutF (bl t)).1.length ≤ 4000
    · exact lexerBlanks_main W s ws t wt kind h7 _ _ _ _ (by rw [← h0.1]) (by rw [← h0.2.1]) h0.2.2
    · exact lexerBlanks_few W s ws t wt kind h7 h0
  · have h7' : (20000 : Int) < (s.size : Int) + (t.size : Int) := by omega
    go_enter Try.func6, Try.ntmps6
    go_wp2_with (go_at_call 9; refine (live_any _).mono ?_; rintro e w1 ⟨rfl, hb1⟩)
    go_ret
    exact ⟨rfl, hb1⟩
end Go.Proofs.Ytinjkakfnppjpaa
