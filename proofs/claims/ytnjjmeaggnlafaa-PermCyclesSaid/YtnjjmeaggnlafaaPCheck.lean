/- The contract of perm.Check. -/
import Derived.Test.YtnjjmeaggnlafaaPMath
import Derived.Test.YtnjjmeaggnlafaaZero
namespace Go.Proofs.Ytnjjmeaggnlafaa
open Go.RowKit

theorem blk_cell {w : World} {g i : Nat} {cs : List Value} {t : TypeId} {v : Value} (h : w.heap[g]? = some (.cells cs.toArray t (0, 0))) (hv : cs[i]? = some v) : w.cell? ⟨g, i, none⟩ = some v ∧ w.frozen? ⟨g, i, none⟩ = false :=
  ⟨(cell_of_row _ _ _ _ _ _ h).trans (by simpa using hv), by simp [World.frozen?, h]⟩
theorem blk_set {w : World} {g i : Nat} {cs : List Value} {t : TypeId} (h : w.heap[g]? = some (.cells cs.toArray t (0, 0))) (v : Value) : (w.setCell ⟨g, i, none⟩ v).heap[g]? = some (.cells (cs.set i v).toArray t (0, 0)) := by
  rw [heap_setCell_same _ _ _ _ _ _ h]; simp

set_option maxRecDepth 100000 in
theorem check_ok (A : Option Addr) (n c : Nat) (xs : List Int) (w : World) (B : Nat) (h : Ints w B A n xs) (hB : B ≤ w.heap.size) (hn : n ≤ 9223372036854775807) :
    Calls Try.prog 22 #[.slice A n c] w fun e w' => e = .returned (.int .i64 (ordF xs)) ∧ Below w.heap.size w w' := by
  have HL : Hid (xs.length = n) := h.1
  by_cases h12 : 12 < n
  · have HF : Hid (ordF xs = 1) := by unfold Hid; refine ordF_no fun hp => ?_; have := hp.len; rw [HL.out] at this; omega
    go_enter Try.func22, Try.ntmps22
    go_wp2
    go_ret
    exact ⟨by rw [HF.out]; rfl, Below.refl _ _⟩
  · have hd : decide (12 < (n : Int)) = false := by simp; omega
    go_enter Try.func22, Try.ntmps22
    go_wp2
    go_loopw [11] (fun i wr => ∃ (k : Nat), k ≤ n ∧ i = .int .i64 k ∧ Hid ((xs.take k).Nodup ∧ ∀ x ∈ xs.take k, 0 ≤ x ∧ x < xs.length) ∧
      Hid (wr.heap[w.heap.size]? = some (.cells (seenC (xs.take k)).toArray 59 (0, 0))) ∧ Below w.heap.size w wr)
      (fun i _ => n - (intOf i).toNat)
    case atStart => exact ⟨0, Nat.zero_le _, rfl, by unfold Hid; simp, heap_alloc_new w _, (Below.refl _ w).alloc (Nat.le_refl _) _⟩
    case round =>
      obtain ⟨k, hk, rfl, HN, HS, hb⟩ := hrel
      by_cases hlt : k < n
      · have h' := (h.more hB).below hb
        obtain ⟨b, off, x, rfl, hbb, HX, hc, hx1, hx2⟩ := h'.at_ hlt
        by_cases hneg : x < 0
        · have HF : Hid (ordF xs = 1) := by unfold Hid; refine ordF_no fun hp => ?_; have := hp.inn x (List.mem_of_getElem? HX.out); omega
          have hd1 : decide (x < 0) = true := by simpa using hneg
          go_wp2
          go_ret
          exact ⟨by rw [HF.out]; rfl, hb⟩
        · have hd1 : decide (x < 0) = false := by simpa using hneg
          by_cases hge : (n : Int) ≤ x
          · have HF : Hid (ordF xs = 1) := by unfold Hid; refine ordF_no fun hp => ?_; have := hp.inn x (List.mem_of_getElem? HX.out); rw [HL.out] at this; omega
            have hd2 : decide ((n : Int) ≤ x) = true := by simpa using hge
            go_wp2
            go_ret
            exact ⟨by rw [HF.out]; rfl, hb⟩
          · have hd2 : decide ((n : Int) ≤ x) = false := by simpa using hge
            have hx12 : x.toNat < 12 := by omega
            have hxe : ((x.toNat : Nat) : Int) = x := by omega
            obtain ⟨s, hs⟩ : ∃ s, (xs.take k).contains ((x.toNat : Nat) : Int) = s := ⟨_, rfl⟩
            obtain ⟨hcs, hfs⟩ := blk_cell HS.out (seenC_at hx12)
            rw [hs] at hcs
            rw [hxe] at hs
            have HHS := Lib.hid hs
            clear hs
            have HXE := Lib.hid hxe
            clear hxe
            have hx13 : x < 12 := by omega
            cases s
            · have HN' : Hid ((xs.take (k + 1)).Nodup ∧ ∀ x ∈ xs.take (k + 1), 0 ≤ x ∧ x < xs.length) := by
                unfold Hid; rw [take_succ_of HX.out]
                refine ⟨nodup_snoc HN.out.1 (by have := HHS.out; simpa using this), ?_⟩
                intro y hy
                rcases List.mem_append.1 hy with hy | hy
                · exact HN.out.2 y hy
                · simp at hy; subst hy; rw [HL.out]; omega
              have HS' : Hid ((wr.setCell ⟨w.heap.size, x.toNat, none⟩ (.bool true)).heap[w.heap.size]? = some (.cells (seenC (xs.take (k + 1))).toArray 59 (0, 0))) := by
                unfold Hid; rw [blk_set HS.out, seenC_set _ hx12, HXE.out, take_succ_of HX.out]
              have hb' := hb.setCell (p := ⟨w.heap.size, x.toNat, none⟩) (Nat.le_refl _) (.bool true)
              clear HS HN
              go_wp2
              go_roundw
              case rel => exact ⟨k + 1, by omega, by go_num, HN', HS', hb'⟩
              case measure => simp [intOf]; omega
            · have HF : Hid (ordF xs = 1) := by
                unfold Hid; refine ordF_no fun hp => ?_
                have h1 := hp.nodup
                have h2 : x ∈ xs.take k := by have := HHS.out; simpa using this
                have h3 : (xs.take (k + 1)).Nodup := h1.sublist (List.take_sublist _ _)
                rw [take_succ_of HX.out, List.nodup_append] at h3
                exact h3.2.2 x h2 x (by simp) rfl
              go_wp2
              go_ret
              exact ⟨by rw [HF.out]; rfl, hb⟩
      · have HF : Hid (ordF xs = 0) := by
          unfold Hid
          have := HN.out
          rw [List.take_of_length_le (by rw [HL.out]; omega)] at this
          exact ordF_yes ⟨by rw [HL.out]; omega, this.2, this.1⟩
        go_wp2
        go_ret
        exact ⟨by rw [HF.out]; rfl, hb⟩
end Go.Proofs.Ytnjjmeaggnlafaa
