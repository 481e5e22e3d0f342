/- The contract of perm.Cycles. -/
import Derived.Test.YtnjjmeaggnlafaaPRows
namespace Go.Proofs.Ytnjjmeaggnlafaa
open Go.RowKit

def cyclesF (p : List Int) : List (List Int) × Int := if ordF p = 0 then (cycsL p, 0) else ([], 1)
theorem cycL_len {p : List Int} (hp : Perm_ p) {k : Nat} (hk : k < p.length) : (cycL p (k : Int)).length ≤ p.length ∧ 0 < (cycL p (k : Int)).length := by
  have h := cyc_exists hp (first := (k : Int)) (by omega) (by omega)
  exact ⟨nodup_len h.nodup h.inn, by simp [cycL]⟩
theorem cycsTo_length_le (p : List Int) (k : Nat) : (cycsTo p k).length ≤ k := by
  induction k with
  | zero => simp [cycsTo]
  | succ k ih => rw [cycsTo_succ, List.length_append]; split <;> simp <;> omega

set_option maxRecDepth 100000 in
set_option maxHeartbeats 1000000 in
theorem cycles_any (A : Option Addr) (n c : Nat) (xs : List Int) (w : World) (h : Ints w w.heap.size A n xs) (hn : n ≤ 9223372036854775807) :
    Calls Try.prog 30 #[.slice A n c] w fun e w' => ∃ A' c', e = .returned (.tuple #[.slice A' (cyclesF xs).1.length c', .int .i64 (cyclesF xs).2]) ∧ OwnLL w' w.heap.size A' c' (cyclesF xs).1 ∧ Below w.heap.size w w' := by
  have hC := check_ok A n c xs w w.heap.size h (Nat.le_refl _) hn
  rcases ordF_two xs with hz | hz
  · have hp := ordF_ok.1 hz
    have h12 : n ≤ 12 := by rw [← h.1]; exact hp.len
    have HL : Hid (xs.length = n) := h.1
    have HP := Lib.hid hp
    have HF : Hid (cyclesF xs = (cycsL xs, 0)) := by unfold Hid cyclesF; rw [if_pos hz]
    obtain ⟨i0, hi0, hz0, hz1, hz2⟩ := info_parts infoRow
    rw [hz] at hC
    clear hz hp
    go_enter Try.func30, Try.ntmps30
    go_wp2_with (go_at_call 22; refine hC.mono ?_; rintro e w1 ⟨rfl, hb1⟩)
    clear hC
    go_loopw [5, 15] (fun v u wr => ∃ (A' : Option Addr) (c' m k : Nat) (LL : List (List Int)), v = .slice A' m c' ∧ u = .int .i64 k ∧ k ≤ n ∧ Hid (LL = cycsTo xs k) ∧ Hid (LL.length = m) ∧ m ≤ k ∧ Hid (OwnLL wr w.heap.size A' c' LL) ∧ Below w.heap.size w wr)
      (fun _ u _ => n - (intOf u).toNat)
    case atStart => exact ⟨none, 0, 0, 0, [], rfl, rfl, Nat.zero_le _, by unfold Hid; simp [cycsTo], rfl, Nat.le_refl _, OwnLL.nil_ _ _, hb1⟩
    case round =>
      obtain ⟨A', c', m, k, LL, rfl, rfl, hk, HLL, HLm, hm, HO, hb⟩ := hrel
      by_cases hlt : k < n
      · have hcl := cycL_len HP.out (k := k) (by rw [HL.out]; exact hlt)
        rw [HL.out] at hcl
        have hCy := cycle_ok A n c xs k wr ((h.below hb).more hb.size) h12 HP.out hlt
        have hsucc := cycsTo_succ xs k
        obtain ⟨C, hCC⟩ : ∃ C, cycL xs (k : Int) = C := ⟨_, rfl⟩
        obtain ⟨q, hq⟩ : ∃ q, C.length = q := ⟨_, rfl⟩
        rw [hCC] at hCy hsucc hcl
        rw [hq] at hCy hcl
        have hM := fun w2 A2 c2 B2 (h2 : Ints w2 B2 A2 q C) => min_ok A2 q c2 C w2 B2 h2 (by omega) hcl.2
        have hsz := hb.size
        have HQ := Lib.hid hq
        by_cases hmin : minL C = (k : Int)
        · rw [hmin] at hM
          rw [if_pos hmin, ← HLL.out] at hsucc
          have HS := Lib.hid hsucc
          clear hsucc hmin hCC hq
          go_wp2_with (first
            | (go_at_call 46; refine hCy.mono ?_; rintro e w2 ⟨A2, c2, rfl, HOC, hb2⟩; have hb3 := hb.trans (hb2.mono hsz); have hI := HOC.ints; rw [HQ.out] at hI; have HOC2 := Lib.hid (HOC.mono hsz); clear HOC)
            | (go_at_call 47; refine (hM _ A2 c2 _ hI).mono ?_; rintro e w' ⟨rfl, rfl⟩)
            | (at_builtin; refine wpList_appendRow rfl (.tmp 25) (.tmp 27) rfl w.heap.size i0 hi0 hz0 hz1 hz2 A' c' m (m + 1) c2 q A2 LL C rfl rfl (HO.out.below hb2 (Nat.le_refl _)) HOC2.out HQ.out HLm.out rfl (by omega) hb3.size ?_; intro A4 c4 w4 HO4 hb4; have HO5 := Lib.hid HO4; clear HO4; have hb5 := hb3.trans hb4))
          go_roundw
          case rel => exact ⟨A4, c4, m + 1, k + 1, LL ++ [C], rfl, by go_num, by omega, HS.out.symm, by unfold Hid; rw [List.length_append, HLm.out]; rfl, by omega, HO5, hb5⟩
          case measure => simp [intOf]; omega
        · have e1 : (minL C == (k : Int)) = false := by simpa using hmin
          rw [if_neg hmin, List.append_nil, ← HLL.out] at hsucc
          have HS := Lib.hid hsucc
          obtain ⟨mm, hmm⟩ : ∃ mm, minL C = mm := ⟨_, rfl⟩
          rw [hmm] at hM e1
          clear hsucc hmin hCC hq hmm
          go_wp2_with (first
            | (go_at_call 46; refine hCy.mono ?_; rintro e w2 ⟨A2, c2, rfl, HOC, hb2⟩; have hb3 := hb.trans (hb2.mono hsz); have hI := HOC.ints; rw [HQ.out] at hI; have HO4 := Lib.hid (HO.out.below hb2 (Nat.le_refl _)); clear HOC)
            | (go_at_call 47; refine (hM _ A2 c2 _ hI).mono ?_; rintro e w' ⟨rfl, rfl⟩))
          go_roundw
          case rel => exact ⟨A', c', m, k + 1, LL, rfl, by go_num, by omega, HS.out.symm, HLm, by omega, HO4, hb3⟩
          case measure => simp [intOf]; omega
      · have HR : Hid (cycsL xs = LL) := by unfold Hid cycsL; rw [HLL.out, HL.out, show k = n by omega]
        go_wp2
        go_ret2
        exact ⟨A', c', by rw [HF.out]; dsimp only; rw [HR.out, HLm.out]; rfl, by rw [HF.out]; dsimp only; rw [HR.out]; exact HO.out, hb⟩
  · have HF : Hid (cyclesF xs = ([], 1)) := by unfold Hid cyclesF; rw [if_neg (by omega)]
    rw [hz] at hC
    clear hz
    go_enter Try.func30, Try.ntmps30
    go_wp2_with (go_at_call 22; refine hC.mono ?_; rintro e w1 ⟨rfl, hb1⟩)
    go_ret2
    exact ⟨none, 0, by rw [HF.out]; rfl, by rw [HF.out]; exact OwnLL.nil_ _ _, hb1⟩
end Go.Proofs.Ytnjjmeaggnlafaa
