/- What CodeTells has at hand: where its variables lie; code put further on, as it is handed on. -/
import Derived.Test.YtbmcddolfofmdaaGreatDoorPJShifts
import Derived.Test.YtbmcddolfofmdaaGreatDoorG13
import Derived.Test.YtbmcddolfofmdaaGreatDoorG18
import Derived.Test.YtbmcddolfofmdaaGreatDoorG14
namespace Go.Proofs.YtbmcddolfofmdaaGreatDoor
open Go.RowKit

/-- where the variables of CodeTells lie -/
structure TellB (w W : World) (c d : Cq) (x : Ji) : Prop where
  bel : Below w.heap.size w W
  bc : W.heap[w.heap.size]? = some c.obj
  bd : W.heap[w.heap.size + 1]? = some d.obj
  bx : W.heap[w.heap.size + 2]? = some x.obj
theorem TellB.on {w W W' : World} {c d : Cq} {x : Ji} (h : TellB w W c d x) (hb : Below W.heap.size W W') : TellB w W' c d x :=
  ⟨h.bel.trans (hb.mono h.bel.size), keep_b hb h.bc, keep_b hb h.bd, keep_b hb h.bx⟩
theorem TellB.new (w : World) (c d : Cq) (x : Ji) : TellB w (((w.alloc c.obj).alloc d.obj).alloc x.obj) c d x := by
  have h0 := heap_alloc_new w c.obj
  have h1 := heap_alloc_new (w.alloc c.obj) d.obj
  have h2 := heap_alloc_new ((w.alloc c.obj).alloc d.obj) x.obj
  rw [World.size_alloc] at h1
  rw [World.size_alloc, World.size_alloc] at h2
  exact ⟨(((Below.refl _ _).alloc (Nat.le_refl _) _).alloc (by simp) _).alloc (by simp; omega) _, pastJ _ (pastJ _ h0), pastJ _ h1, h2⟩
theorem shiftJ_ok {x : Ji} (h : x.ok) (b : Int) : (shiftJ b x).ok := by
  have hw : ∀ v : Int, -9223372036854775808 ≤ wrap64 v ∧ wrap64 v ≤ 9223372036854775807 := fun v => by unfold wrap64; omega
  unfold shiftJ
  split
  · exact ⟨h.op, hw _, h.b, h.c, h.n⟩
  · split
    · exact ⟨h.op, h.a, h.b, hw _, h.n⟩
    · exact h
theorem shiftC_in {q : Cq} {w W : World} {base c' : Nat} {A' : Option Addr} {b : Int} (hq : q.In w) (hO : OwnJ W base A' c' (q.cd.shiftC b).l) : Cq.In ⟨(q.cd.shiftC b).R, (q.cd.shiftC b).A, (q.cd.shiftC b).I, A', (q.cd.shiftC b).l.length, c', (q.cd.shiftC b).l⟩ W := by
  have z : -9223372036854775808 ≤ (0 : Int) ∧ (0 : Int) ≤ 9223372036854775807 := by omega
  have hl : q.cd.l.length = q.n := hq.len
  by_cases hE : q.cd.shiftE b = 0
  · have hC : q.cd.shiftC b = q.cd.shift b := by unfold Cd.shiftC; rw [if_pos hE]
    have hb : 0 ≤ b ∧ b ≤ 4096 ∧ (q.cd.l.length : Int) + b ≤ 4096 := by
      unfold Cd.shiftE at hE
      split at hE
      · cases hE
      · split at hE
        · cases hE
        · omega
    have hlen : (q.cd.shift b).l.length = b.toNat + q.cd.l.length := by
      show (jumpsJ b.toNat ++ q.cd.l.map (shiftJ b)).length = _
      rw [List.length_append, jumpsJ_length, List.length_map]
    rw [hC] at hO ⊢
    refine ⟨hO.jis fun x hx => ?_, hq.r, hq.a, hq.i, by show (q.cd.shift b).l.length ≤ _; omega, hO.lenCap⟩
    rcases List.mem_append.1 hx with hx | hx
    · unfold jumpsJ at hx
      obtain ⟨i, hi, rfl⟩ := List.mem_map.1 hx
      have := List.mem_range.1 hi
      exact ⟨by show -9223372036854775808 ≤ (10 : Int) ∧ (10 : Int) ≤ 9223372036854775807; omega, by show -9223372036854775808 ≤ ((i + 1 : Nat) : Int) ∧ ((i + 1 : Nat) : Int) ≤ 9223372036854775807; omega, z, z, z⟩
    · obtain ⟨y, hy, rfl⟩ := List.mem_map.1 hx
      exact shiftJ_ok (hq.ins.2.1 y hy) b
  · have hC : q.cd.shiftC b = ⟨0, 0, 0, []⟩ := by unfold Cd.shiftC; rw [if_neg hE]
    rw [hC] at hO ⊢
    exact ⟨hO.jis fun x hx => absurd hx (by simp), z, z, z, by show 0 ≤ _; omega, Nat.zero_le _⟩
theorem refSame14_eq (a b : Cq) (w : World) (ha : a.In w) (hb : b.In w) (h : a.cd = b.cd) :
    Calls Tryz.prog 12 #[a.val, b.val] w fun e w' => e = .returned (.bool true) ∧ Below w.heap.size w w' := by
  have hP := refSame14_any a b w ha hb
  unfold SameP at hP
  rw [h, sameB_refl] at hP
  exact hP
end Go.Proofs.YtbmcddolfofmdaaGreatDoor
