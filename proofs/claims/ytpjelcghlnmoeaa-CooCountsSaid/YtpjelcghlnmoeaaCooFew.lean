/- The contract of purflelaw02.few. -/
import Derived.Test.YtpjelcghlnmoeaaCooCheck
namespace Go.Proofs.Ytpjelcghlnmoeaa
open Go.RowKit

def fewE (es : List Ent) : Bool := es.all fun y => decide (y.n ≤ 20)
def fewC (l : List (Hdr × List Ent)) : Bool := l.all fun x => (decide (x.1.n ≤ 20) && decide (x.1.m ≤ 2000)) && fewE x.2
theorem fewC_next {l : List (Hdr × List Ent)} {k : Nat} {x : Hdr × List Ent} (h0 : fewC (l.take k) = true) (hx : l[k]? = some x) (h1 : x.1.n ≤ 20) (h2 : x.1.m ≤ 2000) (h3 : fewE x.2 = true) : fewC (l.take (k + 1)) = true := by
  unfold fewC at h0 ⊢
  rw [take_succ_of hx, List.all_append, h0]; simp [h1, h2, h3]
theorem fewC_not {l : List (Hdr × List Ent)} {k : Nat} {x : Hdr × List Ent} (hx : l[k]? = some x) (h : ¬ (x.1.n ≤ 20 ∧ x.1.m ≤ 2000 ∧ fewE x.2 = true)) : fewC l = false := by
  unfold fewC
  rw [List.all_eq_false]
  refine ⟨x, List.mem_of_getElem? hx, fun hh => h ?_⟩
  simp only [Bool.and_eq_true, decide_eq_true_eq] at hh
  exact ⟨hh.1.1, hh.1.2, hh.2⟩

set_option maxRecDepth 100000 in
set_option maxHeartbeats 2000000 in
theorem fewC_any (g n c : Nat) (l : List (Hdr × List Ent)) (w : World) (hl : l.length = n) (hg : g < w.heap.size) (h : Hdrs w g (l.map (·.1))) (he : ∀ x ∈ l, Ents w w.heap.size x.1.B x.1.m x.2) (hn : n ≤ 100) :
    Calls Try.prog 12 #[.slice (some ⟨g, 0, none⟩) n c] w fun x w' => x = .returned (.bool (fewC l)) ∧ Below w.heap.size w w' := by
  have HL := Lib.hid hl
  clear hl
  go_enter Try.func12, Try.ntmps12
  go_wp2
  go_loopw [9] (fun i wr => ∃ k : Nat, k ≤ n ∧ i = .int .i64 k ∧ Below w.heap.size w wr ∧ Hid (fewC (l.take k) = true)) (fun i _ => n - (intOf i).toNat)
  case atStart => exact ⟨0, Nat.zero_le _, rfl, Below.refl _ _, rfl⟩
  case round =>
    obtain ⟨k, hk, rfl, hB, HK⟩ := hrel
    by_cases hlt : k < n
    · obtain ⟨d, hd⟩ : ∃ d, l[k]? = some d := ⟨_, List.getElem?_eq_getElem (by rw [HL.out]; exact hlt)⟩
      obtain ⟨hc0, hc1⟩ := h k d.1 (by rw [List.getElem?_map, hd]; rfl)
      have hc0' := (hB.cell (p := ⟨g, k * 2, none⟩) hg).trans hc0
      have hc1' := (hB.cell (p := ⟨g, k * 2 + 1, none⟩) hg).trans hc1
      have hE := (he d (List.mem_of_getElem? hd))
      have HD := Lib.hid hd
      clear hd hc0 hc1
      obtain ⟨⟨A, a, b, B, m, e⟩, es⟩ := d
      dsimp only at hc0' hc1' hE
      by_cases ha : 20 < a
      · have hd1 : decide (20 < (a : Int)) = true := by simp; omega
        have HF : Hid (fewC l = false) := fewC_not HD.out (fun hh => by have := hh.1; dsimp only at this; omega)
        clear ha
        go_wp2
        go_ret
        exact ⟨by rw [HF.out]; rfl, hB.alloc hB.size _⟩
      · have hd1 : decide (20 < (a : Int)) = false := by simp; omega
        by_cases hm : 2000 < m
        · have hd2 : decide (2000 < (m : Int)) = true := by simp; omega
          have HF : Hid (fewC l = false) := fewC_not HD.out (fun hh => by have := hh.2.1; dsimp only at this; omega)
          clear ha hm
          go_wp2
          go_ret
          exact ⟨by rw [HF.out]; rfl, hB.alloc hB.size _⟩
        · have hd2 : decide (2000 < (m : Int)) = false := by simp; omega
          have HEl := Lib.hid hE.1
          have hB2 := hB.alloc hB.size (.cells #[.slice A a b, .slice B m e] 25)
          have ha' : a ≤ 20 := by omega
          have hm' : m ≤ 2000 := by omega
          clear ha hm
          go_wp2
          go_loopw [26] (fun i wq => ∃ q : Nat, q ≤ m ∧ i = .int .i64 q ∧ Below w.heap.size w wq ∧ Hid (fewE (es.take q) = true)) (fun i _ => m - (intOf i).toNat)
          case atStart => exact ⟨0, Nat.zero_le _, rfl, hB2, rfl⟩
          case round =>
            clear hB2 hc0' hc1'
            obtain ⟨q, hq, rfl, hT, HQ⟩ := hrel
            by_cases hltq : q < m
            · obtain ⟨b2, off2, y, rfl, hb2, HY, hy0, hy1, iy, _, _, _, _⟩ := (hE.below hT).at_ hltq
              have hy2 : wr.cell? ⟨b2, off2 + q * 2, none⟩ = some (.slice y.A y.n y.c) := by rw [Nat.mul_comm q 2]; exact hy0
              have hy3 : wr.cell? ⟨b2, off2 + q * 2 + 1, none⟩ = some (.int .i64 y.v) := by rw [Nat.mul_comm q 2]; exact hy1
              obtain ⟨yA, yn, yc, ycs, yv⟩ := y
              dsimp only at hy0 hy1 hy2 hy3 iy
              by_cases hyn : 20 < yn
              · have hd3 : decide (20 < (yn : Int)) = true := by simp; omega
                have HF : Hid (fewC l = false) := fewC_not HD.out (fun hh => by
                  have h3 := hh.2.2
                  dsimp only at h3
                  unfold fewE at h3
                  have := List.all_eq_true.1 h3 _ (List.mem_of_getElem? HY.out)
                  simp at this; omega)
                clear hyn
                go_wp2
                go_ret
                exact ⟨by rw [HF.out]; rfl, hT.alloc hT.size _⟩
              · have hd3 : decide (20 < (yn : Int)) = false := by simp; omega
                have HN : Hid (fewE (es.take (q + 1)) = true) := by
                  have h0 := HQ.out
                  unfold fewE at h0
                  unfold Hid fewE
                  rw [take_succ_of HY.out, List.all_append, h0]; simp; omega
                clear hyn
                go_wp2
                go_roundw
                case rel => exact ⟨q + 1, by omega, by go_num, hT.alloc hT.size _, HN⟩
                case measure => simp [intOf]; omega
            · have HN : Hid (fewC (l.take (k + 1)) = true) := by
                have h3 := HQ.out
                rw [List.take_of_length_le (by rw [HEl.out]; omega)] at h3
                exact fewC_next HK.out HD.out ha' hm' h3
              go_wp2
              go_roundw
              case rel => exact ⟨k + 1, by omega, by go_num, hT, HN⟩
              case measure => simp [intOf]; omega
    · have HF : Hid (fewC l = true) := by
        have := HK.out
        rw [List.take_of_length_le (by rw [HL.out]; omega)] at this
        exact this
      go_wp2
      go_ret
      exact ⟨by rw [HF.out]; rfl, hB⟩
end Go.Proofs.Ytpjelcghlnmoeaa
