/- The contract of perm's cycle. -/
import Derived.Test.YtnjjmeaggnlafaaPNext
namespace Go.Proofs.Ytnjjmeaggnlafaa
open Go.RowKit

theorem own_new (w : World) (e : TypeId) (base : Nat) (hb : base ≤ w.heap.size) (x : Int) (hx : -9223372036854775808 ≤ x ∧ x ≤ 9223372036854775807) : OwnI (w.alloc (.cells #[.int .i64 x] e)) base e (some ⟨w.heap.size, 0, none⟩) 1 [x] := by
  refine ⟨⟨by simp, .inr ⟨w.heap.size, 1, #[.int .i64 x], by simp, hb, heap_alloc_new w _, by simp, by unfold maxLen; omega, by simp, by simp⟩⟩, by simpa using hx⟩

set_option maxRecDepth 100000 in
set_option maxHeartbeats 1000000 in
theorem cycle_ok (A : Option Addr) (n c : Nat) (xs : List Int) (k : Nat) (w : World) (h : Ints w w.heap.size A n xs) (hn : n ≤ 12) (hp : Perm_ xs) (hk : k < n) :
    Calls Try.prog 46 #[.slice A n c, .int .i64 (k : Int)] w fun e w' => ∃ A' c', e = .returned (.slice A' (cycL xs (k : Int)).length c') ∧ OwnI w' w.heap.size 3 A' c' (cycL xs (k : Int)) ∧ Below w.heap.size w w' := by
  have HL : Hid (xs.length = n) := h.1
  have HP := Lib.hid hp
  obtain ⟨i0, hi0, hz0, hz1, hz2⟩ := info_parts infoInt
  have hA1 := h.alloc (Nat.le_refl _) (.cells #[.int .i64 (k : Int)] 3)
  obtain ⟨b, off, x, hA, _, HX, hc, _, _⟩ := hA1.at_ hk
  have HS : Hid (CycTo xs (k : Int) [(k : Int)] x) := CycTo.start (by omega) (by rw [HL.out]; omega) (by simpa using HX.out)
  have HN : Hid (OwnI (w.alloc (.cells #[.int .i64 (k : Int)] 3)) w.heap.size 3 (some ⟨w.heap.size, 0, none⟩) 1 [(k : Int)]) := own_new w 3 w.heap.size (Nat.le_refl _) _ (by omega)
  subst hA
  have hk2 : (k : Int) < n := by omega
  clear hp hA1
  go_enter Try.func46, Try.ntmps46
  go_wp2
  go_loopw [5, 6] (fun v u wr => ∃ (A' : Option Addr) (c' m : Nat) (L : List Int) (y : Int), v = .slice A' m c' ∧ u = .int .i64 y ∧ m ≤ n ∧ Hid (L.length = m) ∧ Hid (CycTo xs (k : Int) L y) ∧ Hid (OwnI wr w.heap.size 3 A' c' L) ∧ Below w.heap.size w wr)
    (fun v _ _ => match v with | .slice _ m _ => n - m | _ => 0)
  case atStart => exact ⟨_, 1, 1, [(k : Int)], x, rfl, rfl, by omega, rfl, HS, HN, (Below.refl _ w).alloc (Nat.le_refl _) _⟩
  case round =>
    obtain ⟨A', c', m, L, y, rfl, rfl, hm, HLm, HC, HO, hb⟩ := hrel
    by_cases hy : y = (k : Int)
    · have HF : Hid (cycL xs (k : Int) = L) := by unfold Hid; have := HC.out; rw [hy] at this; exact this.done
      have e1 : (y == (k : Int)) = true := by simpa using hy
      have e2 : (y != (k : Int)) = false := by simpa using hy
      clear hy
      go_wp2
      go_ret
      exact ⟨A', c', by rw [HF.out, HLm.out]; rfl, by rw [HF.out]; exact HO.out, hb⟩
    · obtain ⟨z, hz, hzy⟩ := HC.out.next
      have hyb := HP.out.inn y (List.mem_of_getElem? hzy)
      rw [HL.out] at hyb
      have e1 : (y == (k : Int)) = false := by simpa using hy
      have e2 : (y != (k : Int)) = true := by simpa using hy
      have hbig : -9223372036854775808 ≤ y ∧ y ≤ 9223372036854775807 := by omega
      obtain ⟨b2, off2, x2, hA2, _, HX2, _, _, _⟩ := h.at_ (k := y.toNat) (by omega)
      obtain ⟨rfl, rfl⟩ : b = b2 ∧ off = off2 := by injection hA2 with hA2; injection hA2 with h1 h2; exact ⟨h1, h2⟩
      have HST := Lib.hid (HC.out.step HP.out hy HX2.out)
      have hml : m < n := by have := HST.out.2; rw [HLm.out, HL.out] at this; exact this
      have hy0 : 0 ≤ y := hyb.1
      have hy1 : y < n := hyb.2
      have hsz := hb.size
      have hcell : ∀ w2, Below w.heap.size w w2 → w2.cell? ⟨b, off + y.toNat, none⟩ = some (.int .i64 x2) := by
        intro w2 hb2
        obtain ⟨b3, off3, x3, hA3, _, HX3, hc3, _, _⟩ := (h.below hb2).at_ (k := y.toNat) (by omega)
        injection hA3 with hA3; injection hA3 with h1 h2; subst h1; subst h2
        have e : x3 = x2 := by have := HX2.out; rw [HX3.out] at this; injection this
        rw [← e]; exact hc3
      clear hz hzy hyb hA2 hy
      go_wp2_with (at_builtin; refine wpList_appendInts _ rfl (.tmp 20) (.tmp 22) 22 rfl w.heap.size 3 i0 Try.underlying22 hi0 hz0 hz1 hz2 A' (some ⟨wr.heap.size, 0, none⟩) c' 1 1 (wr.heap.size + 1) m (m + 1) L [y] rfl rfl (HO.out.alloc _) HLm.out rfl (src_new wr hbig) (by omega) (by simp; omega) ?_; intro A2 c2 w2 HO2 HG2; have hb2 := below_app (hb.alloc hsz _) HG2 (HO.out.alloc _) HLm.out (by simp; omega); have hc2 := hcell w2 hb2; have HO3 := Lib.hid HO2; clear HO2 HG2 hcell)
      go_roundw
      case rel => exact ⟨A2, c2, m + 1, L ++ [y], x2, rfl, rfl, by omega, by unfold Hid; rw [List.length_append, HLm.out]; rfl, HST.out.1, HO3, hb2⟩
      case measure => simp; omega
end Go.Proofs.Ytnjjmeaggnlafaa
