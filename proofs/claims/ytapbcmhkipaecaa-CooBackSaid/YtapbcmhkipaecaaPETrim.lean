/- slices.DeleteFunc at entries, as coo.Trim calls it; coo.Trim. -/
import Derived.Test.YtapbcmhkipaecaaG14
import Derived.Laws.IdiomCopy
namespace Go.Proofs.Ytapbcmhkipaecaa
open Go.RowKit

def nzE (x : Ent) : Bool := !(x.v == 0)
set_option maxRecDepth 100000 in
theorem trim1_any (A : Option Addr) (n c : Nat) (v : Int) (w : World) (R : Bool) (HR : Hid ((v == 0) = R)) :
    Calls Try.prog 50 #[.agg #[.slice A n c, .int .i64 v]] w fun e w' => e = .returned (.bool R) ∧ w' = w.alloc (.cells #[.slice A n c, .int .i64 v] 37) := by
  have hr := HR.out
  go_enter Try.func50, Try.ntmps50
  go_wp2
  go_ret
  exact ⟨rfl, rfl⟩

set_option maxRecDepth 100000 in
set_option maxHeartbeats 1000000 in
theorem index_none (A : Option Addr) (n c : Nat) (es : List Ent) (w : World) (h : Ents w w.heap.size A n es) (hn : n ≤ 9223372036854775807) (hz : ∀ x ∈ es, x.v ≠ 0) :
    Calls Try.prog 74 #[.slice A n c, .func (.func 50) #[] #[]] w fun e w' => e = .returned (.int .i64 (-1)) ∧ Below w.heap.size w w' := by
  have HZ := Lib.hid hz
  clear hz
  go_enter Try.func74, Try.ntmps74
  go_wp2
  go_loopw [8] (fun i wr => ∃ k : Nat, k ≤ n ∧ i = .int .i64 k ∧ Below w.heap.size w wr) (fun i _ => n - (intOf i).toNat)
  case atStart => exact ⟨0, Nat.zero_le _, rfl, Below.refl _ _⟩
  case round =>
    obtain ⟨k, hk, rfl, hT⟩ := hrel
    by_cases hlt : k < n
    · obtain ⟨b, off, x, rfl, hbb, HX, hc0, hc1, _, _, _, hx3, hx4⟩ := (h.below hT).at_ hlt
      have HT1 := fun W => trim1_any x.A x.n x.c x.v W false (Lib.hid (by have := HZ.out x (List.mem_of_getElem? HX.out); simpa using this))
      have hc2 : wr.cell? ⟨b, off + k * 2, none⟩ = some (.slice x.A x.n x.c) := by rw [Nat.mul_comm k 2]; exact hc0
      have hc3 : wr.cell? ⟨b, off + k * 2 + 1, none⟩ = some (.int .i64 x.v) := by rw [Nat.mul_comm k 2]; exact hc1
      have hT2 := hT.alloc hT.size (.cells #[.slice x.A x.n x.c, .int .i64 x.v] 37)
      clear hc0 hc1
      go_wp2_with fail
      refine (HT1 _).mono ?_
      rintro e w3 ⟨rfl, rfl⟩
      go_wp2_with fail
      go_roundw
      case rel => exact ⟨k + 1, by omega, by go_num, hT2⟩
      case measure => simp [intOf]; omega
    · go_wp2
      go_ret
      exact ⟨rfl, hT⟩
set_option maxRecDepth 100000 in
set_option maxHeartbeats 1000000 in
theorem index_some (A : Option Addr) (n c : Nat) (es : List Ent) (w : World) (h : Ents w w.heap.size A n es) (hn : n ≤ 9223372036854775807) (p : Nat) (y : Ent) (hp : es[p]? = some y) (hy : y.v = 0) (hz : ∀ x ∈ es.take p, x.v ≠ 0) :
    Calls Try.prog 74 #[.slice A n c, .func (.func 50) #[] #[]] w fun e w' => e = .returned (.int .i64 (p : Int)) ∧ Below w.heap.size w w' := by
  have hpn : p < n := by rw [← h.1]; exact (List.getElem?_eq_some_iff.1 hp).1
  have HP := Lib.hid hp
  have HY := Lib.hid hy
  have HZ := Lib.hid hz
  clear hz hp hy
  go_enter Try.func74, Try.ntmps74
  go_wp2
  go_loopw [8] (fun i wr => ∃ k : Nat, k ≤ p ∧ i = .int .i64 k ∧ Below w.heap.size w wr) (fun i _ => n - (intOf i).toNat)
  case atStart => exact ⟨0, Nat.zero_le _, rfl, Below.refl _ _⟩
  case round =>
    obtain ⟨k, hk, rfl, hT⟩ := hrel
    have hlt : k < n := by omega
    obtain ⟨b, off, x, rfl, hbb, HX, hc0, hc1, _, _, _, hx3, hx4⟩ := (h.below hT).at_ hlt
    have hc2 : wr.cell? ⟨b, off + k * 2, none⟩ = some (.slice x.A x.n x.c) := by rw [Nat.mul_comm k 2]; exact hc0
    have hc3 : wr.cell? ⟨b, off + k * 2 + 1, none⟩ = some (.int .i64 x.v) := by rw [Nat.mul_comm k 2]; exact hc1
    have hT2 := hT.alloc hT.size (.cells #[.slice x.A x.n x.c, .int .i64 x.v] 37)
    clear hc0 hc1
    rcases Nat.lt_or_ge k p with hkp | hkp
    · have HT1 := fun W => trim1_any x.A x.n x.c x.v W false (by
        have hm : x ∈ es.take p := List.mem_of_getElem? (i := k) (by rw [List.getElem?_take_of_lt hkp]; exact HX.out)
        have := HZ.out x hm; exact Lib.hid (by simpa using this))
      go_wp2_with fail
      refine (HT1 _).mono ?_
      rintro e w3 ⟨rfl, rfl⟩
      go_wp2_with fail
      go_roundw
      case rel => exact ⟨k + 1, by omega, by go_num, hT2⟩
      case measure => simp [intOf]; omega
    · have hkq : Hid (k = p) := by unfold Hid; omega
      have HT1 := fun W => trim1_any x.A x.n x.c x.v W true (by
        have e : x = y := by have h1 := HX.out; rw [hkq.out, HP.out] at h1; exact (Option.some.inj h1).symm
        rw [e]; unfold Hid; rw [HY.out]; rfl)
      go_wp2_with fail
      refine (HT1 _).mono ?_
      rintro e w3 ⟨rfl, rfl⟩
      go_wp2_with fail
      go_ret
      exact ⟨by rw [hkq.out]; rfl, hT2⟩

/-! ### a part of a block, written at once -/
theorem blk_setCells {g : Nat} {t : TypeId} : ∀ (vs : List Value) (o : Nat) (L : List Value) (w : World), w.heap[g]? = some (.cells L.toArray t (0, 0)) → o + vs.length ≤ L.length →
    (w.setCells g o vs).heap[g]? = some (.cells (L.take o ++ vs ++ L.drop (o + vs.length)).toArray t (0, 0)) ∧ w.grownBy (w.setCells g o vs) (some g)
  | [], o, L, w, h, _ => ⟨by simpa [World.setCells] using h, grown_same w g⟩
  | v :: vs, o, L, w, h, hl => by
    have h1 := blkE_set (i := o) h v
    have hl' : o + (vs.length + 1) ≤ L.length := hl
    obtain ⟨h2, h3⟩ := blk_setCells vs (o + 1) (L.set o v) (w.setCell ⟨g, o, none⟩ v) h1 (by rw [List.length_set]; omega)
    refine ⟨?_, grown_trans (grownBy_setE (grown_same w g) o v) h3⟩
    have e : (L.set o v).take (o + 1) ++ vs ++ (L.set o v).drop (o + 1 + vs.length) = L.take o ++ (v :: vs) ++ L.drop (o + (v :: vs).length) := by
      have ho : o < L.length := by omega
      rw [List.take_add_one, List.getElem?_set_self ho, List.take_set_of_le (Nat.le_refl _), List.drop_set_of_lt (by omega)]
      simp [Nat.add_assoc, Nat.add_comm 1]
    rw [e] at h2
    exact h2
theorem part_list {α : Type} (F S P Z : List α) (a : Nat) (ha : F.length = a) (hz : Z.length = S.length) : (F ++ S ++ P).take a ++ Z ++ (F ++ S ++ P).drop (a + Z.length) = F ++ (Z ++ P) := by
  subst ha
  rw [hz, List.append_assoc F S P, List.take_left, List.append_assoc, ← List.drop_drop, List.drop_left, List.drop_left]
def zeroE : Ent := ⟨none, 0, 0, [], 0⟩
theorem zeroCells_ents (n : Nat) : (Builtin.zeroCells #[.slice none 0 0, .int .i64 0] n).toList = cellsE (List.replicate n zeroE) := by
  apply List.ext_getElem?
  intro j
  by_cases hj : j < n * 2
  · have hk : j / 2 < n := by omega
    have hz := cellsE_at (es := List.replicate n zeroE) (k := j / 2) (List.getElem?_replicate_of_lt hk)
    have hl : (Builtin.zeroCells #[.slice none 0 0, .int .i64 0] n).toList[j]? = some ((#[Value.slice none 0 0, .int .i64 0] : Array Value)[j % 2]!) := by
      simp [Builtin.zeroCells, hj]
    rw [hl]
    rcases Nat.mod_two_eq_zero_or_one j with hm | hm
    · have e : j = 2 * (j / 2) := by omega
      rw [hm]
      conv => rhs; rw [e]
      rw [hz.1]; rfl
    · have e : j = 2 * (j / 2) + 1 := by omega
      rw [hm]
      conv => rhs; rw [e]
      rw [hz.2]; rfl
  · rw [List.getElem?_eq_none (by simp [Builtin.zeroCells]; omega), List.getElem?_eq_none (by rw [cellsE_length]; simp; omega)]
theorem run_clearE (w : World) (g i n c : Nat) (F S : List Ent) (post : List Value) (hr : RowE w g (F ++ S) post) (hF : F.length = i) (hS : S.length = n) (hn : 0 < n) :
    ∃ w', (∀ ty, (Builtin.clear_ #[23] ty #[.slice (some ⟨g, i * 2, none⟩) n c]).run Try.prog w = .ok (.tuple #[]) w') ∧ RowE w' g F (cellsE (List.replicate n zeroE) ++ post) ∧ w.grownBy w' (some g) := by
  have hlF := cellsE_length F
  have hlS := cellsE_length S
  have hlZ := cellsE_length (List.replicate n zeroE)
  rw [List.length_replicate] at hlZ
  have hr' := hr
  unfold RowE at hr'
  rw [cellsE_append] at hr'
  have hcell : ∀ j, j < n * 2 → (w.cell? ⟨g, i * 2 + j, none⟩).isSome = true ∧ w.frozen? ⟨g, i * 2 + j, none⟩ = false := fun j hj => by
    have hlt : i * 2 + j < (cellsE F ++ cellsE S ++ post).length := by simp only [List.length_append]; omega
    refine ⟨?_, by simp [World.frozen?, hr']⟩
    rw [cell_of_row _ _ (i * 2 + j) _ _ (0, 0) hr']
    rw [List.getElem?_toArray, List.getElem?_eq_getElem hlt]; rfl
  have hst := run_storeCells_cells (P := Try.prog) g (i * 2) (cellsE (List.replicate n zeroE)) 0 w (fun j hj => by rw [Nat.add_zero]; exact (hcell j (by omega)).1) (fun j hj => by rw [Nat.add_zero]; exact (hcell j (by omega)).2) (fun v hv => cellsE_one _ v hv)
  rw [Nat.add_zero] at hst
  have hb := blk_setCells (cellsE (List.replicate n zeroE)) (i * 2) _ w hr' (by simp only [List.length_append]; omega)
  refine ⟨_, fun ty => ?_, ?_, hb.2⟩
  · obtain ⟨m, rfl⟩ : ∃ m, n = m + 1 := ⟨n - 1, by omega⟩
    have hz := zeroCells_ents (m + 1)
    simp only [Builtin.clear_]
    simp [run_underlying Try.underlying23, Try.zeroValue37, Value.cells, hz, hst]
  · unfold RowE
    rw [hb.1, part_list (cellsE F) (cellsE S) post (cellsE (List.replicate n zeroE)) (i * 2) (by omega) (by omega)]
end Go.Proofs.Ytapbcmhkipaecaa
