/- MergeOrder's own closure; Order where a name is none. -/
import Derived.Test.YtnaehnlpcjaaeaaPMWhole
import Derived.Test.YtnaehnlpcjaaeaaG8
namespace Go.Proofs.Ytnaehnlpcjaaeaa
open Go.RowKit

/-- may it come, as marks tell -/
def mayC (LL : List (List Int)) (cm : List Bool) (i : Nat) : Bool := !(cm.getD i false) && (LL.getD i []).all fun y => cm.getD y.toNat false
set_option maxRecDepth 100000 in
set_option maxHeartbeats 4000000 in
theorem mayM_any (b1 b2 bc n c B i : Nat) (A : Option Addr) (LL : List (List Int)) (cm : List Bool) (w : World) (h1 : w.heap[b1]? = some (.cells #[.slice (some ⟨bc, 0, none⟩) n n] 39 (0, 0))) (h2 : w.heap[b2]? = some (.cells #[.slice A n c] 22 (0, 0))) (hc : w.heap[bc]? = some (.cells (cm.map Value.bool).toArray 4 (0, 0))) (hL : IntsLL w B A n LL) (hcm : cm.length = n) (hi : i < n) (_hn : n ≤ 1000) (hin : ∀ y ∈ LL.getD i [], 0 ≤ y ∧ y < (n : Int)) (hll : (LL.getD i []).length ≤ 100000) (R : Bool) (HR : Hid (mayC LL cm i = R)) :
    Calls Try.prog 23 #[.int .i64 i, .pointer (some ⟨b1, 0, none⟩), .pointer (some ⟨b2, 0, none⟩)] w fun e w' => e = .returned (.bool R) ∧ ∃ q, w' = w.drewN q := by
  obtain ⟨p1, _⟩ := blk_cell (cs := [.slice (some ⟨bc, 0, none⟩) n n]) (i := 0) h1 rfl
  obtain ⟨p2, _⟩ := blk_cell (cs := [.slice A n c]) (i := 0) h2 rfl
  have HC := Lib.hid hc
  have cmAt : ∀ k, k < n → cm[k]? = some (cm.getD k false) := fun k hk => by rw [List.getD_eq_getElem?_getD, List.getElem?_eq_getElem (by omega)]; rfl
  have HCA := Lib.hid cmAt
  obtain ⟨cc, _⟩ := blk_cell hc (i := i) (v := .bool (cm.getD i false)) (by rw [List.getElem?_map, cmAt i hi]; rfl)
  have i0' : (0 : Int) ≤ (i : Int) := by omega
  have i1 : (i : Int) < (n : Int) := by omega
  by_cases hci : cm.getD i false = true
  · rw [hci] at cc
    have HF : Hid (R = false) := by rw [← HR.out]; unfold Hid mayC; rw [hci]; rfl
    clear hci hL hin hll cmAt hc h1 h2
    go_enter Try.func23, Try.ntmps23
    go_wp2
    go_ret
    exact ⟨by rw [HF.out]; rfl, 0, rfl⟩
  · have hcf : cm.getD i false = false := by cases e : cm.getD i false with | false => rfl | true => exact absurd e hci
    rw [hcf] at cc
    obtain ⟨b, off, L, a, lc, rfl, _, HX, hc1, hcap, hI⟩ := hL.at_ hi
    have hg : LL.getD i [] = L := by rw [List.getD_eq_getElem?_getD, HX.out]; rfl
    rw [hg] at hin hll
    have HRL : Hid (L.all (fun y => cm.getD y.toNat false) = R) := by
      rw [← HR.out]; unfold Hid mayC; rw [hcf, hg]; rfl
    have HIN := Lib.hid hin
    obtain ⟨M, hM⟩ : ∃ M, L.length = M := ⟨_, rfl⟩
    rw [hM] at hc1 hcap hI hll
    clear hci hL hin cmAt hc h1 h2 hg hM
    go_enter Try.func23, Try.ntmps23
    go_wp2
    go_loopw [16] (fun v wr => ∃ (j q : Nat), v = .int .i64 (j : Int) ∧ j ≤ M ∧ Hid ((L.take j).all (fun y => cm.getD y.toNat false) = true) ∧ wr = w.drewN q) (fun v _ => M - (intOf v).toNat)
    case atStart => exact ⟨0, 0, rfl, Nat.zero_le _, rfl, rfl⟩
    case round =>
      obtain ⟨j, q, rfl, hj, HA, rfl⟩ := hrel
      by_cases hlt : j < M
      · obtain ⟨b3, off3, y, rfl, _, HY, hcy, _, _⟩ := hI.at_ hlt
        have hyr := HIN.out y (List.mem_of_getElem? HY.out)
        obtain ⟨k, hk⟩ : ∃ k : Nat, y = (k : Int) := ⟨y.toNat, by omega⟩
        rw [hk] at hcy hyr
        have k0 : (0 : Int) ≤ (k : Int) := by omega
        have k1 : (k : Int) < (n : Int) := by omega
        obtain ⟨ck, _⟩ := blk_cell HC.out (i := k) (v := .bool (cm.getD k false)) (by rw [List.getElem?_map, HCA.out k (by omega)]; rfl)
        have j0 : (0 : Int) ≤ (j : Int) := by omega
        have j1 : (j : Int) < (M : Int) := by omega
        have HYK : Hid (y = (k : Int)) := hk
        by_cases hck : cm.getD k false = true
        · rw [hck] at ck
          have HA2 : Hid ((L.take (j + 1)).all (fun y => cm.getD y.toNat false) = true) := by
            unfold Hid
            rw [take_succ_of HY.out, List.all_append, HA.out, HYK.out]
            simp only [List.all_cons, Int.toNat_natCast, hck, List.all_nil]
            rfl
          clear hck hk
          go_wp2
          go_roundw
          case rel => exact ⟨j + 1, _, by go_num, by omega, HA2, by first | trivial | rfl⟩
          case measure => simp [intOf]; omega
        · have hcf2 : cm.getD k false = false := by cases e : cm.getD k false with | false => rfl | true => exact absurd e hck
          rw [hcf2] at ck
          have HF : Hid (R = false) := by
            rw [← HRL.out]
            unfold Hid
            rw [List.all_eq_false]
            exact ⟨y, List.mem_of_getElem? HY.out, by rw [HYK.out, Int.toNat_natCast, hcf2]; simp⟩
          clear hck hk hcf2
          go_wp2
          go_ret
          exact ⟨by rw [HF.out]; rfl, _, rfl⟩
      · obtain rfl : j = M := by omega
        have he : L.take j = L := by rw [← hI.1, List.take_length]
        have HT : Hid (R = true) := by rw [← HRL.out]; have := HA.out; rw [he] at this; exact this
        clear hlt he
        go_wp2
        go_ret
        exact ⟨by rw [HT.out]; rfl, _, rfl⟩
set_option maxRecDepth 100000 in
set_option maxHeartbeats 4000000 in
theorem order_out (LA : Option Addr) (ln lc : Nat) (LL : List (List Int)) (w : World) (h : IntsLL w w.heap.size LA ln LL) (hln : ln ≤ 999) (hll : ∀ L ∈ LL, L.length ≤ 100000) (hin : ¬ ∀ L ∈ LL, ∀ y ∈ L, 0 ≤ y ∧ y < (ln : Int)) :
    Calls Try.prog 22 #[.slice LA ln lc] w fun e w' => e = .returned (.tuple #[.slice none 0 0, .int .i64 3]) ∧ Below w.heap.size w w' := by
  have cI := inside_sets LA ln lc LL w h (fun L hL => by have := hll L hL; omega) (by omega)
  have hR : decide (0 ≤ loI LL.flatten ∧ hiI LL.flatten < (ln : Int)) = false := decide_eq_false fun h2 => hin fun L hL y hy => (inI_iff LL.flatten ln (by omega)).1 h2 y (List.mem_flatten.2 ⟨L, hL, hy⟩)
  have HRR := Lib.hid hR
  clear h hll hin hR
  go_enter Try.func22, Try.ntmps22
  go_wp2_with (first | (go_at_call 31; refine cI.mono ?_; rintro e w1 ⟨rfl, hA1, hB1, hbl1⟩) | (go_at_call 46; refine (insideClo_any _ _ _ _ ln _ hA1 hB1).mono ?_; rintro e w2 ⟨rfl, q2, hw2⟩; rw [HRR.out]; have hbl2 := belowQ hbl1 hw2; clear hw2))
  go_ret2
  exact ⟨rfl, hbl2⟩
end Go.Proofs.Ytnaehnlpcjaaeaa
