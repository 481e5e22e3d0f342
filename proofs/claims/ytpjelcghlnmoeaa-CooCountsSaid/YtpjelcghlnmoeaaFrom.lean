/- The contract of box.fromBehind: whoever ranges over it is handed each mode, from the last one on, with the product of the sizes behind it. -/
import Derived.RangeFuncNested
import Derived.RangeFuncBound
import Derived.RangeFuncCalls
import Derived.RangeFuncLeaves
import Derived.Shelf.Abstract
import Derived.Shelf.RegionOpen
import Derived.WalkKit
import Derived.OwnWalkIn
import Derived.TacticsInMore
import Derived.LoopNIn
import Derived.LoopIn
import Derived.Test.YtpjelcghlnmoeaaCells
namespace Go.Proofs.Ytpjelcghlnmoeaa
open Go.RowKit Go.Shelf
attribute [local go_sem] Oper.semAt_some

/-- the product of the last k sizes, as it goes around -/
def backs (xs : List Int) (k : Nat) : Int := (xs.drop (xs.length - k)).foldr (fun s acc => wrap64 (acc * s)) 1
theorem backs_zero (xs : List Int) : backs xs 0 = 1 := by simp [backs]
theorem backs_succ {xs : List Int} {k : Nat} {x : Int} (hk : k < xs.length) (h : xs[xs.length - 1 - k]? = some x) : backs xs (k + 1) = wrap64 (backs xs k * x) := by
  unfold backs
  have e : xs.length - (k + 1) = xs.length - 1 - k := by omega
  rw [e, drop_of h]
  have e2 : xs.length - 1 - k + 1 = xs.length - k := by omega
  rw [e2]
  rfl
/-- what has come when k rounds are over -/
def comes (xs : List Int) (k : Nat) : List (Int × Int) := (List.range k).map fun (j : Nat) => ((xs.length : Int) - 1 - j, backs xs j)
theorem comes_succ (xs : List Int) (k : Nat) : comes xs (k + 1) = comes xs k ++ [((xs.length : Int) - 1 - k, backs xs k)] := by simp [comes, List.range_succ]
theorem comes_length (xs : List Int) (k : Nat) : (comes xs k).length = k := by simp [comes]

/-- what a round keeps: all below n₀, and the block Bs -/
def KeepBox (Bs n₀ : Nat) (W W' : World) : Prop := Below n₀ W W' ∧ W'.heap[Bs]? = W.heap[Bs]?
theorem KeepBox.refl (Bs n₀ : Nat) (W : World) : KeepBox Bs n₀ W W := ⟨Below.refl _ _, rfl⟩
theorem KeepBox.trans {Bs n₀ : Nat} {A B C : World} (h : KeepBox Bs n₀ A B) (k : KeepBox Bs n₀ B C) : KeepBox Bs n₀ A C := ⟨h.1.trans k.1, k.2.trans h.2⟩
theorem KeepBox.box {Bs n₀ : Nat} {A B : World} (h : KeepBox Bs n₀ A B) : B.cell? ⟨Bs, 0, none⟩ = A.cell? ⟨Bs, 0, none⟩ := World.cell?_of_block (a := ⟨Bs, 0, none⟩) h.2
theorem KeepBox.of_setCell {Bs n₀ : Nat} {W : World} {p : Addr} (h1 : n₀ ≤ p.block) (h2 : Bs ≠ p.block) (u : Value) : KeepBox Bs n₀ W (W.setCell p u) := ⟨(Below.refl _ _).setCell h1 u, Below.heap_setCell W p u Bs h2⟩
theorem KeepBox.drew {Bs n₀ : Nat} {A B : World} (h : KeepBox Bs n₀ A B) : KeepBox Bs n₀ A B.drew := ⟨h.1.drew, h.2⟩

set_option maxRecDepth 100000 in
set_option maxHeartbeats 1000000 in
theorem fromBehind_in (n : Nat) (A : Option Addr) (r c : Nat) (w : World) :
    CallsIn Fence.wide n Try.prog 79 #[.slice A r c] w fun e w' => e = .returned (.func (.func 92) #[] #[.pointer (some ⟨w.heap.size, 0, none⟩)]) ∧ w' = w.alloc (.cells #[.slice A r c] 22) := by
  refine callsIn_of_wp Try.func79 rfl trivial ?_ rfl
  simp only [Try.ntmps79, List.size_toArray, List.length_cons, List.length_nil, Nat.reduceAdd, Nat.reduceSub, Array.replicate_succ, Array.replicate_zero, List.push_toArray, List.append_toArray, List.nil_append, List.cons_append]
  gi_wp2
  go_ret
  exact ⟨rfl, rfl⟩

set_option maxRecDepth 100000 in
set_option maxHeartbeats 2000000 in
theorem fromBehind1_in (n : Nat) (hn : 1 ≤ n) (p : Int × Int → Prop) (l Bs n₀ : Nat) (A : Option Addr) (r c : Nat) (xs : List Int) (hr : r ≤ 100000) (hp : ∀ k, k < r → p ((r : Int) - 1 - k, backs xs k)) (J Jx : List { x : Int × Int // p x } → World → Prop)
    (hY : ∀ pre x W, J pre W → pre.length < r → YieldAt Fence.wide (n - 1) Try.prog l #[.int .i64 x.1.1, .int .i64 x.1.2] W fun e W' =>
      (e = .returned (.bool true) ∧ J (pre ++ [x]) W' ∧ KeepBox Bs n₀ W W') ∨ (e = .returned (.bool false) ∧ Jx (pre ++ [x]) W'))
    (W : World) (hBs : W.cell? ⟨Bs, 0, none⟩ = some (.slice A r c)) (hI : Ints W n₀ A r xs) (h0 : J [] W) :
    CallsIn Fence.wide n Try.prog 92 #[.func (.yield l) #[] #[], .pointer (some ⟨Bs, 0, none⟩)] W fun e W' => (∃ v, e = .returned v) ∧
      ((∃ ys, ys.map (·.1) = comes xs r ∧ J ys W') ∨ (∃ pre, (∃ k, k ≤ r ∧ pre.map (·.1) = comes xs k) ∧ Jx pre W')) := by
  have HL : Hid (xs.length = r) := hI.1
  refine callsIn_of_wp Try.func92 rfl trivial ?_ rfl
  simp only [Try.ntmps92, List.size_toArray, List.length_cons, List.length_nil, Nat.reduceAdd, Nat.reduceSub, Array.replicate_succ, Array.replicate_zero, List.push_toArray, List.append_toArray, List.nil_append, List.cons_append]
  gi_wp2
  gi_loopw [3, 4] (fun s m wr => ∃ (k : Nat) (j q : Int) (ys : List { x : Int × Int // p x }), k ≤ r ∧ j = (r : Int) - 1 - k ∧ m = .int .i64 j ∧ s = .int .i64 q ∧ Hid (q = backs xs k) ∧ Hid (ys.map (·.1) = comes xs k) ∧ J ys wr ∧ KeepBox Bs n₀ W wr)
    (fun _ m _ => (intOf m + 1).toNat)
  case atStart => exact ⟨0, (r : Int) - 1, 1, [], Nat.zero_le _, by omega, rfl, rfl, (backs_zero xs).symm, (by unfold Hid; simp [comes]), h0, KeepBox.refl _ _ _⟩
  case round =>
    obtain ⟨k, j, q, ys, hk, hj, rfl, rfl, HQ, HY, hJs, hnx⟩ := hrel
    by_cases hlt : k < r
    · have hI' := hI.below hnx.1
      have hBs' := hnx.box.trans hBs
      obtain ⟨b, off, x, rfl, hb, HX, hc, hx1, hx2⟩ := hI'.at_ (k := r - 1 - k) (by omega)
      have hj0 : 0 ≤ j := by omega
      have hj1 : j < r := by omega
      have hpx : p (j, q) := by rw [hj, HQ.out]; exact hp k hlt
      obtain ⟨fn, tmps, assign, body, hy, hR⟩ := hY ys ⟨(j, q), hpx⟩ wr hJs (by have := congrArg List.length HY.out; simp [comes_length] at this; omega)
      dsimp only at hy hR
      have HJ := Lib.hid hj
      have HS : Hid ((ys ++ [(⟨(j, q), hpx⟩ : { x : Int × Int // p x })]).map (·.1) = comes xs (k + 1)) := by unfold Hid; rw [List.map_append, HY.out, comes_succ, HL.out, ← hj, ← HQ.out]; rfl
      clear hj
      gi_wp2
      refine hR.mono ?_
      rintro e W3 (⟨rfl, hJ3, hk3⟩ | ⟨rfl, hJx3⟩)
      · have hBs3 := hk3.box.trans hBs'
        have hc3 : W3.cell? ⟨b, off + j.toNat, none⟩ = some (.int .i64 x) := by
          have e : j.toNat = r - 1 - k := by have := HJ.out; omega
          rw [e]; exact (hk3.1.cell (p := ⟨b, off + (r - 1 - k), none⟩) hb).trans hc
        gi_wp2
        go_roundw
        case rel => exact ⟨k + 1, j - 1, wrap64 (q * x), ys ++ [⟨(j, q), hpx⟩], by omega, by have := HJ.out; omega, rfl, rfl, by unfold Hid; rw [HQ.out]; exact (backs_succ (by rw [HL.out]; omega) (by rw [HL.out]; exact HX.out)).symm, HS, hJ3, hnx.trans hk3⟩
        case measure => simp [intOf]; omega
      · gi_wp2
        refine bodyPost_ret (results_none rfl _ _ _) rfl ?_
        exact ⟨⟨_, rfl⟩, .inr ⟨_, ⟨k + 1, by omega, HS.out⟩, hJx3⟩⟩
    · obtain rfl : k = r := by omega
      have hj1 : j < 0 := by omega
      have HJ := Lib.hid hj
      clear hj
      gi_wp2
      go_end0
      exact ⟨⟨_, rfl⟩, .inl ⟨_, HY.out, hJs⟩⟩

theorem fromBehind_stops (n : Nat) (hn : 1 ≤ n) (p : Int × Int → Prop) (Bs n₀ : Nat) (A : Option Addr) (r c : Nat) (xs : List Int) (hr : r ≤ 100000) (hp : ∀ k, k < r → p ((r : Int) - 1 - k, backs xs k)) (w : World) (hBs : Bs < w.heap.size) (hn₀ : n₀ ≤ w.heap.size)
    (hc : w.cell? ⟨Bs, 0, none⟩ = some (.slice A r c)) (hI : Ints w n₀ A r xs) :
    SeqStopsK Fence.wide n Try.prog 92 #[.pointer (some ⟨Bs, 0, none⟩)] (fun x : { x : Int × Int // p x } => #[Value.int .i64 x.1.1, Value.int .i64 x.1.2]) (KeepBox Bs n₀) (fun ys => ys.map (·.1) = comes xs r) (fun pre => ∃ k, k ≤ r ∧ pre.map (·.1) = comes xs k) r w :=
  fun l J Jx W hW _ _ hY h0 => fromBehind1_in n hn p l Bs n₀ A r c xs hr hp J Jx hY W ((hW.cell (p := ⟨Bs, 0, none⟩) hBs).trans hc) (hI.below (hW.mono hn₀)) h0

theorem keepBox_b {Bs n₀ : Nat} {w : World} (h1 : n₀ ≤ w.heap.size) (h2 : Bs < w.heap.size) : ∀ (W : World) (l : Nat) (o o' : Obj), w.heap.size ≤ l → W.heap[l]? = some o → o.isCells = false → o.isWalk = false → KeepBox Bs n₀ W (W.putObj l o') :=
  fun W l o o' hl ho hcs hwk => ⟨belowK_b h1 W l o o' hl ho hcs hwk, (belowK_b (n₀ := Bs + 1) (by omega) W l o o' hl ho hcs hwk).block Bs (by omega)⟩

theorem boxCell {W : World} {B : Nat} {v : Value} {t : TypeId} (h : W.heap[B]? = some (.cells #[v] t (0, 0))) : W.cell? ⟨B, 0, none⟩ = some v ∧ W.frozen? ⟨B, 0, none⟩ = false := by
  constructor <;> simp [World.cell?, World.frozen?, h]
theorem newCell (W : World) (v : Value) (t : TypeId) : (W.alloc (.cells #[v] t)).cell? ⟨W.heap.size, 0, none⟩ = some v ∧ (W.alloc (.cells #[v] t)).frozen? ⟨W.heap.size, 0, none⟩ = false :=
  boxCell (heap_alloc_new W _)
theorem cellPast {W : World} {a : Addr} {v : Value} (o : Obj) (h : W.cell? a = some v) : (W.alloc o).cell? a = some v := cell_kept h (World.grownBy_alloc W o none) (fun r e => by cases e)
theorem frozenPast {W : World} {a : Addr} {v : Value} (o : Obj) (h : W.cell? a = some v) (hf : W.frozen? a = false) : (W.alloc o).frozen? a = false := (frozen_kept h (World.grownBy_alloc W o none) (fun r e => by cases e)).trans hf
end Go.Proofs.Ytpjelcghlnmoeaa
