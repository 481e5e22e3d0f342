/- purflelaw14.CodeShifts returns true. -/
import Derived.Test.YtbmcddolfofmdaaGreatDoorG16
import Derived.Test.YtbmcddolfofmdaaGreatDoorG1
namespace Go.Proofs.YtbmcddolfofmdaaGreatDoor
open Go.RowKit

/-- code put further on, where there is room -/
theorem codeShift_few (q : Cq) (b : Nat) (w : World) (hq : q.In w) (hm : q.cd.may = true) (hb : q.n + b ≤ 4096) (hS : ShT w) :
    Calls Tryz.prog 8 #[q.val, .int .i64 b] w fun e w' => ∃ A' c', e = .returned (.tuple #[Cq.val ⟨q.R, q.A, q.I, A', b + q.n, c', (q.cd.shift b).l⟩, .int .i64 0]) ∧ OwnJ w' w.heap.size A' c' (q.cd.shift b).l ∧ Below w.heap.size w w' := by
  refine (codeShift_any q b w hq hS).mono ?_
  rintro e w' ⟨A', c', rfl, hO, hB⟩
  have hl : q.cd.l.length = q.n := hq.len
  have hE : q.cd.shiftE b = 0 := by
    unfold Cd.shiftE
    rw [if_neg (by rw [hm]; simp; omega), if_neg (by rw [hl]; omega)]
  have hC : q.cd.shiftC b = q.cd.shift b := by unfold Cd.shiftC; rw [if_pos hE]
  rw [hC] at hO
  refine ⟨A', c', ?_, hO, hB⟩
  rw [hC, hE, shift_length, hl]
  rfl
theorem OwnJ.cqn {w : World} {base c' n : Nat} {A' : Option Addr} {c : Cd} (h : OwnJ w base A' c' c.l) (hm : c.may = true) (hn : c.l.length = n) : Cq.In ⟨c.R, c.A, c.I, A', n, c', c.l⟩ w := by
  subst hn; exact h.cq hm
theorem eqR17 (A A2 : Option Addr) (n n2 c c2 : Nat) (xs ys : List Int) (w : World) (h : Ints w w.heap.size A n xs) (h2 : Ints w w.heap.size A2 n2 ys) (hn : n ≤ 100000) (hn2 : n2 ≤ 9223372036854775807) (he : xs = ys) :
    Calls Tryz.prog 13 #[.slice A n c, .slice A2 n2 c2] w fun e w' => e = .returned (.bool true) ∧ Below w.heap.size w w' :=
  (refEqual_any A A2 n n2 c c2 xs ys w w.heap.size h h2 hn hn2).mono fun e w' ⟨he', m, hm⟩ => ⟨by rw [he', decide_eq_true he], by subst hm; exact belowD (Below.refl _ _) m⟩
theorem next_small {R A : Int} {n : Nat} {x : Ji} {i : Nat} (hm : mayJ R A n x = true) (hi : i ≤ 8192) (hn : n ≤ 4096) : ∀ k ∈ nextJ x i, 0 ≤ k ∧ k ≤ 10000 := by
  obtain ⟨⟨h0, h1⟩, h2, _⟩ := mayJ_parts hm
  intro k hk
  have i0 := h2 0 (by omega)
  have i2 := h2 2 (by omega)
  have hw : wrap64 ((i : Int) + 1) = (i : Int) + 1 := by unfold wrap64; omega
  unfold nextJ at hk
  rw [hw] at hk
  obtain ⟨op, a, b, c, m⟩ := x
  dsimp only at h0 h1 hk
  unfold InB at i0 i2
  rcases op_cases h0 h1 with rfl | rfl | rfl | rfl | rfl | rfl | rfl | rfl | rfl | rfl | rfl | rfl | rfl
  all_goals simp [kJ, kindsJ, limJ, Ji.f] at i0 i2 hk
  all_goals first
    | (subst hk; omega)
    | (rcases hk with rfl | rfl <;> omega)
theorem next_two (x : Ji) (i : Int) : (nextJ x i).length ≤ 2 := by
  unfold nextJ
  repeat' split
  all_goals simp
/-- the first j numbers with d more -/
def addF (d : Int) (j : Nat) (L : List Int) : List Int := (L.take j).map (· + d) ++ L.drop j
theorem addF_zero (d : Int) (L : List Int) : addF d 0 L = L := by simp [addF]
theorem addF_all (d : Int) (L : List Int) : addF d L.length L = L.map (· + d) := by simp [addF]
theorem addF_at {d : Int} {j : Nat} {L : List Int} {x : Int} (h : L[j]? = some x) : (addF d j L)[j]? = some x := by
  have hj := (List.getElem?_eq_some_iff.1 h).1
  have hlen : ((L.take j).map (· + d)).length = j := by simp; omega
  unfold addF
  rw [List.getElem?_append_right (by omega), hlen, Nat.sub_self, List.getElem?_drop]
  exact h
theorem addF_set {d : Int} {j : Nat} {L : List Int} {x : Int} (h : L[j]? = some x) : (addF d j L).set j (x + d) = addF d (j + 1) L := by
  have hj := (List.getElem?_eq_some_iff.1 h).1
  have hd : L.drop j = x :: L.drop (j + 1) := by
    rw [List.drop_eq_getElem_cons hj]
    have := List.getElem?_eq_getElem hj
    rw [h] at this
    injection this with this
    rw [this]
  have ht : L.take (j + 1) = L.take j ++ [x] := by rw [List.take_add_one, h]; rfl
  have hlen : ((L.take j).map (· + d)).length = j := by simp; omega
  unfold addF
  rw [hd, ht, List.set_append_right _ _ (by omega), hlen, Nat.sub_self, List.map_append]
  simp
theorem own_base_at {w : World} {base c k g : Nat} {xs : List Int} {x : Int} (h : OwnI w base 3 (some ⟨g, 0, none⟩) c xs) (hx : xs[k]? = some x) : base ≤ g := by
  have hk := (List.getElem?_eq_some_iff.1 hx).1
  rcases h.1.2 with ⟨_, h0⟩ | ⟨g', cap, cur, h1, h2, _⟩
  · omega
  · injection h1 with h1
    injection h1 with h1
    injection h1 with h1
    subst h1
    exact h2
theorem mod_fifty (a : Int) : ∃ (t : Int) (k : Nat), a.tmod 50 = t ∧ -49 ≤ t ∧ t ≤ 49 ∧ t % 50 = (k : Int) ∧ k < 50 := by
  have h1 := Int.tmod_lt_of_pos a (show (0 : Int) < 50 by decide)
  have h2 : -50 < a.tmod 50 := by
    rcases Int.le_total 0 a with h | h
    · have := Int.tmod_nonneg 50 h; omega
    · have := Int.tmod_lt_of_pos (-a) (show (0 : Int) < 50 by decide)
      rw [Int.neg_tmod] at this
      omega
  exact ⟨_, (a.tmod 50 % 50).toNat, rfl, by omega, by omega, by omega, by omega⟩
end Go.Proofs.YtbmcddolfofmdaaGreatDoor
