/- purflelaw02.live returns true. -/
import Derived.Test.YtpjelcghlnmoeaaEJoin
namespace Go.Proofs.Ytpjelcghlnmoeaa
open Go.RowKit

def liveEs (b : Nat) : List Ent := [⟨some ⟨b + 1, 0, none⟩, 1, 1, [1], 3⟩, ⟨some ⟨b + 1 + 1, 0, none⟩, 1, 1, [0], 2⟩, ⟨some ⟨b + 1 + 1 + 1, 0, none⟩, 1, 1, [1], 4⟩]
theorem live_coo (b : Nat) : cooF [2] (liveEs b) = 0 := by
  have h1 : (cellsF [2]).2 = 0 := by decide
  have h2 : insideF [2] [1] = true := by decide
  have h3 : insideF [2] [0] = true := by decide
  unfold cooF liveEs
  simp [h1, h2, h3]
theorem live_keys (b : Nat) : joinK (sortK (iotaL 1) ((liveEs b).map keyE)) = [([0], 2, 1), ([1], 7, 1)] := by
  have h : (liveEs b).map keyE = [([1], 3, 1), ([0], 2, 1), ([1], 4, 1)] := rfl
  rw [h]
  decide +kernel
theorem int_one (w : World) (g : Nat) (x : Int) (h : w.heap[g]? = some (.cells #[.int .i64 x] 3 (0, 0))) (hx : -9223372036854775808 ≤ x ∧ x ≤ 9223372036854775807) (B : Nat) (hB : g < B) : Ints w B (some ⟨g, 0, none⟩) 1 [x] := by
  refine ⟨rfl, fun y hy => by rw [List.mem_singleton.1 hy]; exact hx, fun _ => ⟨g, 0, rfl, hB, fun k y hy => ?_⟩⟩
  match k, hy with
  | 0, hy => simp at hy; subst hy; exact (cell_of_row _ _ 0 _ _ (0, 0) h).trans (by simp)
  | k + 1, hy => simp at hy

theorem past_alloc {w : World} {k : Nat} {v : Obj} (o : Obj) (h : w.heap[k]? = some v) : (w.alloc o).heap[k]? = some v := (Below.heap_alloc w o k (lt_of_heap h)).trans h
def liveW (w : World) : World := ((((w.alloc (.cells #[.int .i64 2] 3)).alloc (.cells #[.int .i64 1] 3)).alloc (.cells #[.int .i64 0] 3)).alloc (.cells #[.int .i64 1] 3)).alloc
  (.cells #[.slice (some ⟨w.heap.size + 1, 0, none⟩) 1 1, .int .i64 3, .slice (some ⟨w.heap.size + 1 + 1, 0, none⟩) 1 1, .int .i64 2, .slice (some ⟨w.heap.size + 1 + 1 + 1, 0, none⟩) 1 1, .int .i64 4] 37)
theorem live_size (w : World) : (liveW w).heap.size = w.heap.size + 1 + 1 + 1 + 1 + 1 := by simp [liveW]
theorem live_bel (w : World) : Below w.heap.size w (liveW w) := (((((Below.refl _ w).alloc (Nat.le_refl _) _).alloc (by simp) _).alloc (by simp; omega) _).alloc (by simp; omega) _).alloc (by simp; omega) _
theorem new_at (w : World) (o : Obj) (k : Nat) (h : w.heap.size = k) : (w.alloc o).heap[k]? = some o := by subst h; exact heap_alloc_new w o
theorem live_shape (w : World) : Ints (liveW w) (liveW w).heap.size (some ⟨w.heap.size, 0, none⟩) 1 [2] :=
  int_one _ _ _ (past_alloc _ (past_alloc _ (past_alloc _ (past_alloc _ (heap_alloc_new w _))))) (by omega) _ (by rw [live_size]; omega)
theorem live_ents (w : World) : Ents (liveW w) (liveW w).heap.size (some ⟨w.heap.size + 1 + 1 + 1 + 1, 0, none⟩) 3 (liveEs w.heap.size) := by
  have i1 : Ints (liveW w) (liveW w).heap.size (some ⟨w.heap.size + 1, 0, none⟩) 1 [1] := int_one _ _ _ (past_alloc _ (past_alloc _ (past_alloc _ (new_at _ _ _ (by simp))))) (by omega) _ (by rw [live_size]; omega)
  have i2 : Ints (liveW w) (liveW w).heap.size (some ⟨w.heap.size + 1 + 1, 0, none⟩) 1 [0] := int_one _ _ _ (past_alloc _ (past_alloc _ (new_at _ _ _ (by simp)))) (by omega) _ (by rw [live_size]; omega)
  have i3 : Ints (liveW w) (liveW w).heap.size (some ⟨w.heap.size + 1 + 1 + 1, 0, none⟩) 1 [1] := int_one _ _ _ (past_alloc _ (new_at _ _ _ (by simp))) (by omega) _ (by rw [live_size]; omega)
  have h4 : (liveW w).heap[w.heap.size + 1 + 1 + 1 + 1]? = some (.cells #[.slice (some ⟨w.heap.size + 1, 0, none⟩) 1 1, .int .i64 3, .slice (some ⟨w.heap.size + 1 + 1, 0, none⟩) 1 1, .int .i64 2, .slice (some ⟨w.heap.size + 1 + 1 + 1, 0, none⟩) 1 1, .int .i64 4] 37 (0, 0)) := new_at _ _ _ (by simp)
  refine ⟨rfl, fun x hx => ?_, fun _ => ⟨_, 0, rfl, by rw [live_size]; omega, fun k x hx => ?_⟩⟩
  · simp only [liveEs, List.mem_cons, List.not_mem_nil, or_false] at hx
    rcases hx with rfl | rfl | rfl
    · exact ⟨i1, by dsimp only; omega, Nat.le_refl _, by dsimp only; omega, by dsimp only; omega⟩
    · exact ⟨i2, by dsimp only; omega, Nat.le_refl _, by dsimp only; omega, by dsimp only; omega⟩
    · exact ⟨i3, by dsimp only; omega, Nat.le_refl _, by dsimp only; omega, by dsimp only; omega⟩
  · match k, hx with
    | 0, hx => simp [liveEs] at hx; subst hx; exact ⟨(cell_of_row _ _ 0 _ _ (0, 0) h4).trans (by simp), (cell_of_row _ _ 1 _ _ (0, 0) h4).trans (by simp)⟩
    | 1, hx => simp [liveEs] at hx; subst hx; exact ⟨(cell_of_row _ _ 2 _ _ (0, 0) h4).trans (by simp), (cell_of_row _ _ 3 _ _ (0, 0) h4).trans (by simp)⟩
    | 2, hx => simp [liveEs] at hx; subst hx; exact ⟨(cell_of_row _ _ 4 _ _ (0, 0) h4).trans (by simp), (cell_of_row _ _ 5 _ _ (0, 0) h4).trans (by simp)⟩
    | k + 3, hx => simp [liveEs] at hx

set_option maxRecDepth 100000 in
set_option maxHeartbeats 1000000 in
theorem cooLive_any (w : World) : Calls Try.prog 11 #[] w fun e w' => e = .returned (.bool true) ∧ Below w.heap.size w w' := by
  have HJ := cooJoin_pos (some ⟨w.heap.size, 0, none⟩) (some ⟨w.heap.size + 1 + 1 + 1 + 1, 0, none⟩) none 1 1 3 3 0 [2] (liveEs w.heap.size) (liveW w) (live_shape w) (live_ents w) (live_coo _) (by omega)
  rw [live_keys] at HJ
  have hbl := live_bel w
  have hsz := live_size w
  unfold liveW at HJ hbl
  go_enter Try.func11, Try.ntmps11
  go_wp2_with fail
  refine HJ.mono ?_
  rintro x w1 ⟨A1, c1, A2, c2, Js, rfl, _, hne, hkey, hb1⟩
  have hb := hbl.trans (hb1.mono hbl.size)
  have hl : Js.length = 2 := by have := congrArg List.length hkey; simpa using this
  rcases hne with hnil | ⟨g, post, rfl, _, hrow, _⟩
  · rw [hnil] at hl; simp at hl
  rw [hl]
  match Js, hl with
  | [x, y], _ =>
    have hk : keyE x = ([0], 2, 1) ∧ keyE y = ([1], 7, 1) := by simpa using hkey
    have hx : x.v = 2 := congrArg (fun q => q.2.1) hk.1
    have hy : y.v = 7 := congrArg (fun q => q.2.1) hk.2
    have hrg := hrow.lt
    obtain ⟨_, d1, _⟩ := blk_ent (j := 0) hrow (show ([x, y] : List Ent)[0]? = some x from rfl)
    obtain ⟨_, d2, _⟩ := blk_ent (j := 1) hrow (show ([x, y] : List Ent)[1]? = some y from rfl)
    rw [hx] at d1
    rw [hy] at d2
    simp only [Nat.zero_mul, Nat.one_mul, Nat.zero_add] at d1 d2
    clear HJ hbl hb1 hkey hrow hk hx hy
    go_wp2_with fail
    go_ret
    exact ⟨rfl, hb.alloc hb.size _⟩
end Go.Proofs.Ytpjelcghlnmoeaa
