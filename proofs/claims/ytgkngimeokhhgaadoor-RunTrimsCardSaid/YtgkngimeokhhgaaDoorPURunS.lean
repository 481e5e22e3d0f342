/- Code that is put further on runs as it did, in as many steps more. -/
import Derived.Test.YtgkngimeokhhgaaDoorPURunT
namespace Go.Proofs.YtgkngimeokhhgaaDoor
open Go.RowKit

theorem shift_alike {b : Nat} {R A : Int} {n : Nat} {x : Ji} (hx : mayJ R A n x = true) (hn : n ≤ 4096) (hb : b ≤ 4096) : Alike x (shiftJ b x) ∧ (x.op = 10 → (shiftJ b x).a.toNat = b + x.a.toNat) ∧ (x.op = 11 ∨ x.op = 12 → (shiftJ b x).c.toNat = b + x.c.toNat) := by
  obtain ⟨j0, j1⟩ := jump_in hx
  unfold shiftJ
  by_cases h1 : x.op = 10
  · rw [if_pos h1]
    refine ⟨⟨rfl, rfl, rfl, fun h => absurd h1 h, fun _ _ => rfl⟩, fun _ => ?_, fun h => by omega⟩
    have := j0 h1
    show (wrap64 (x.a + b)).toNat = _
    unfold wrap64
    omega
  · rw [if_neg h1]
    by_cases h2 : x.op = 11 ∨ x.op = 12
    · rw [if_pos h2]
      refine ⟨⟨rfl, rfl, rfl, fun _ => rfl, fun h3 h4 => by omega⟩, fun h => absurd h h1, fun _ => ?_⟩
      have := j1 h2
      show (wrap64 (x.c + b)).toNat = _
      unfold wrap64
      omega
    · rw [if_neg h2]
      exact ⟨⟨rfl, rfl, rfl, fun _ => rfl, fun _ _ => rfl⟩, fun h => absurd h h1, fun h => absurd h h2⟩
theorem shiftU_at {c : Cd} {b i : Nat} {x : Ji} (h : c.l[i]? = some x) : (c.shift b).l[b + i]? = some (shiftJ b x) := by
  show (jumpsJ (b : Int).toNat ++ c.l.map (shiftJ b))[b + i]? = _
  rw [Int.toNat_natCast, List.getElem?_append_right (by rw [jumpsJ_length]; omega), jumpsJ_length, Nat.add_sub_cancel_left, List.getElem?_map, h]
  rfl
theorem shiftU_jump {c : Cd} {b j : Nat} (h : j < b) : (c.shift b).l[j]? = some ⟨10, ((j + 1 : Nat) : Int), 0, 0, 0⟩ := by
  show (jumpsJ (b : Int).toNat ++ c.l.map (shiftJ b))[j]? = _
  rw [Int.toNat_natCast, List.getElem?_append_left (by rw [jumpsJ_length]; exact h)]
  unfold jumpsJ
  rw [List.getElem?_map, List.getElem?_range h]
  rfl
/-- one jump after another -/
theorem goM_jumps {S : Cd} {cells : Int} {b : Nat} (hj : ∀ j, j < b → S.l[j]? = some ⟨10, ((j + 1 : Nat) : Int), 0, 0, 0⟩) (k : Nat) (R : List Int) (A : List (List Int)) (ce : Nat) : ∀ (d st : Nat), d ≤ b →
    (∀ e, goM S cells k ⟨b, R, A, st + d, ce⟩ = .error e → goM S cells (k + d) ⟨b - d, R, A, st, ce⟩ = .error e) ∧
    (∀ u q, goM S cells k ⟨b, R, A, st + d, ce⟩ = .ok (u, q) → ∃ q2, goM S cells (k + d) ⟨b - d, R, A, st, ce⟩ = .ok (u, q2) ∧ q2.length = q.length + d)
  | 0, st, _ => ⟨fun _ h => h, fun _ q h => ⟨q, h, rfl⟩⟩
  | d + 1, st, hd => by
    have hx := hj (b - (d + 1)) (by omega)
    have hxd : S.l.getD (b - (d + 1)) zJi = ⟨10, ((b - (d + 1) + 1 : Nat) : Int), 0, 0, 0⟩ := by rw [List.getD_eq_getElem?_getD, hx]; rfl
    have hs : stepM ⟨b - (d + 1), R, A, st, ce⟩ ⟨10, ((b - (d + 1) + 1 : Nat) : Int), 0, 0, 0⟩ cells = .ok ⟨b - d, R, A, st + 1, ce⟩ := by
      show Except.ok (Ms.mk ((b - (d + 1) + 1 : Nat) : Int).toNat R A (st + 1) ce) = _
      rw [Int.toNat_natCast, show b - (d + 1) + 1 = b - d by omega]
    obtain ⟨h1, h2⟩ := goM_jumps hj k R A ce d (st + 1) (by omega)
    have est : st + (d + 1) = st + 1 + d := by omega
    have e0 : goM S cells (k + (d + 1)) ⟨b - (d + 1), R, A, st, ce⟩ = match goM S cells (k + d) ⟨b - d, R, A, st + 1, ce⟩ with | .error e => .error e | .ok zp => .ok (zp.1, (b - (d + 1)) :: zp.2) := by
      show goM S cells ((k + d) + 1) _ = _
      rw [goM]
      dsimp only
      rw [hxd, hs]
      rfl
    rw [e0, est]
    refine ⟨fun e he => ?_, fun u q hu => ?_⟩
    · rw [h1 e he]
    · obtain ⟨q2, g1, g2⟩ := h2 u q hu
      rw [g1]
      exact ⟨_, rfl, by simp only [List.length_cons]; omega⟩
/-- put further on, code comes to the same, in as many steps more -/
theorem goM_shift {c : Cd} {cells : Int} (hm : c.may = true) {b : Nat} (hb : b ≤ 4096) {k : Nat} {R : List Int} {A : List (List Int)} : 
    (∃ e, goM c cells k ⟨0, R, A, 0, 0⟩ = .error e ∧ goM (c.shift b) cells (k + b) ⟨0, R, A, 0, 0⟩ = .error e) ∨ (∃ z u p q, goM c cells k ⟨0, R, A, 0, 0⟩ = .ok (z, p) ∧ goM (c.shift b) cells (k + b) ⟨0, R, A, 0, 0⟩ = .ok (u, q) ∧ EqS z u ∧ q.length = p.length + b) := by
  obtain ⟨⟨_, _, _, _, _, _, _, hl⟩, hmx, _⟩ := Cd.may_parts hm
  have hj := goM_jumps (S := c.shift b) (cells := cells) (b := b) (fun j h => shiftU_jump h) k R A 0 b 0 (Nat.le_refl _)
  rw [Nat.sub_self, Nat.zero_add] at hj
  have hsim := goM_sim (cells := cells) hm (c.shift b) (fun i => b + i) (fun i x _ hx => by
    obtain ⟨h1, h2, h3⟩ := shift_alike (b := b) (hmx x (List.mem_of_getElem? hx)) (by omega) hb
    exact ⟨_, shiftU_at hx, h1, h2, h3, by omega⟩) (k := k) (s := ⟨0, R, A, 0, 0⟩) (st := b) .start
  dsimp only at hsim
  rw [Nat.add_zero] at hsim
  rcases hsim with ⟨e, h1, h2⟩ | ⟨z, u, p, q, h1, h2, h3, h4⟩
  · exact .inl ⟨e, h1, hj.1 e h2⟩
  · obtain ⟨q2, g1, g2⟩ := hj.2 u q h2
    exact .inr ⟨z, u, p, q2, h1, g1, h3, by omega⟩
end Go.Proofs.YtgkngimeokhhgaaDoor
