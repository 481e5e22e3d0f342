/- The contract of perm.Nth. -/
import Derived.Test.YtnjjmeaggnlafaaPNth

namespace Go.Proofs.Ytnjjmeaggnlafaa
open Go.RowKit

def nthF (n k : Int) : List Int × Int := if n < 0 ∨ 12 < n then ([], 1) else if k < 0 ∨ (fact n.toNat : Int) ≤ k then ([], 3) else (nthL n.toNat (plainL n.toNat) k.toNat, 0)
theorem nthL_length (m : Nat) (l : List Int) (k : Nat) : (nthL m l k).length = m := by
  induction m generalizing l k with
  | zero => rfl
  | succ m ih => simp [nthL, ih]
theorem pull_next {P : List Int} {n a i : Nat} (hn : P.length = n) (ha : a < n) :
    (pullL P a i).take (a + 1) = P.take a ++ [(P.drop a).getD i 0] ∧ (pullL P a i).drop (a + 1) = (P.drop a).eraseIdx i := by
  unfold pullL
  have e : (P.take a).length = a := by rw [List.length_take]; omega
  constructor
  · rw [List.take_append, e, List.take_of_length_le (by omega)]
    have e2 : a + 1 - a = 1 := by omega
    rw [e2]; rfl
  · rw [List.drop_append, e, List.drop_of_length_le (by omega)]
    have e2 : a + 1 - a = 1 := by omega
    rw [e2]; rfl
theorem nth_step {P : List Int} {n a kk f : Nat} {R : List Int} (hn : P.length = n) (ha : a < n) (hf : f = fact (n - (a + 1))) (hk : kk < fact (n - a)) (hR : R = P.take a ++ nthL (n - a) (P.drop a) kk) :
    kk / f < n - a ∧ kk % f < fact (n - (a + 1)) ∧ R = (pullL P a (kk / f)).take (a + 1) ++ nthL (n - (a + 1)) ((pullL P a (kk / f)).drop (a + 1)) (kk % f) := by
  have e : n - a = n - (a + 1) + 1 := by omega
  have hfp := fact_pos (n - (a + 1))
  have h1 : kk / f < n - a := by
    rw [hf, Nat.div_lt_iff_lt_mul hfp]
    rw [e] at hk ⊢
    exact hk
  refine ⟨h1, by rw [hf]; exact Nat.mod_lt _ hfp, ?_⟩
  obtain ⟨h2, h3⟩ := pull_next (i := kk / f) hn ha
  rw [h2, h3, hR, e]
  simp only [nthL, ← hf, List.append_assoc, List.singleton_append]
theorem run_at {w : World} {g n a : Nat} (h : a < n) : (Instr.slice 22 (.slice (some ⟨g, 0, none⟩) n n) (some (.int .i64 (a : Int))) none none).run Try.prog w = .ok (.slice (some ⟨g, a, none⟩) (n - a) (n - a)) w := by
  rw [run_drop (some ⟨g, 0, none⟩) n n a (by omega), if_neg (by omega)]
  by_cases h0 : a = 0
  · subst h0; simp [Addr.add]
  · simp [Addr.add, h0]

set_option maxRecDepth 100000 in
theorem nth_err (n k : Int) (w : World) (h : (nthF n k).2 ≠ 0) :
    Calls Try.prog 26 #[.int .i64 n, .int .i64 k] w fun e w' => e = .returned (.tuple #[.slice none 0 0, .int .i64 (nthF n k).2]) ∧ Below w.heap.size w w' := by
  by_cases hn : n < 0 ∨ 12 < n
  · have HF : Hid ((nthF n k).2 = 1) := by unfold Hid nthF; rw [if_pos hn]
    have hP := plain_err n w hn
    clear hn h
    go_enter Try.func26, Try.ntmps26
    go_wp2_with (go_at_call 13; refine hP.mono ?_; rintro e w' ⟨rfl, rfl⟩)
    go_ret2
    exact ⟨by rw [HF.out]; rfl, Below.refl _ _⟩
  · have h3 : k < 0 ∨ (fact n.toNat : Int) ≤ k := by
      by_cases h3 : k < 0 ∨ (fact n.toNat : Int) ≤ k
      · exact h3
      · exact absurd (by unfold nthF; rw [if_neg hn, if_neg h3]) h
    have HF : Hid ((nthF n k).2 = 3) := by unfold Hid nthF; rw [if_neg hn, if_pos h3]
    obtain ⟨m, rfl⟩ : ∃ m : Nat, n = m := ⟨n.toNat, by omega⟩
    have hP := plain_ok m w (by omega)
    have hO := fun W => orders_ok m W (by omega)
    rw [Int.toNat_natCast] at h3
    clear h hn
    by_cases hk : k < 0
    · have hd : decide (k < 0) = true := by simpa using hk
      clear h3
      go_enter Try.func26, Try.ntmps26
      go_wp2_with (first | (go_at_call 13; refine hP.mono ?_; rintro e w1 ⟨rfl, HO, hb1⟩))
      go_ret2
      exact ⟨by rw [HF.out]; rfl, hb1⟩
    · have hd : decide (k < 0) = false := by simpa using hk
      obtain ⟨F, hF⟩ : ∃ F : Int, (fact m : Int) = F := ⟨_, rfl⟩
      rw [hF] at hO h3
      have hge : F ≤ k := by omega
      have hd2 : decide (F ≤ k) = true := by simpa using hge
      clear h3 hF
      go_enter Try.func26, Try.ntmps26
      go_wp2_with (first | (go_at_call 13; refine hP.mono ?_; rintro e w1 ⟨rfl, HO, hb1⟩) | (go_at_call 42; refine (hO _).mono ?_; rintro e w' ⟨rfl, rfl⟩))
      go_ret2
      exact ⟨by rw [HF.out]; rfl, hb1⟩

set_option maxRecDepth 100000 in
set_option maxHeartbeats 1000000 in
theorem nth_ok (n k : Nat) (w : World) (hn : n ≤ 12) (hk : k < fact n) :
    Calls Try.prog 26 #[.int .i64 (n : Int), .int .i64 (k : Int)] w fun e w' => e = .returned (.tuple #[.slice (some ⟨w.heap.size, 0, none⟩) n n, .int .i64 0]) ∧ OwnI w' w.heap.size 3 (some ⟨w.heap.size, 0, none⟩) n (nthL n (plainL n) k) ∧ Below w.heap.size w w' := by
  have hP := plain_ok n w hn
  have hO := fun W => orders_ok n W hn
  have hO2 := fun W (m : Int) (h0 : 0 ≤ m) (hm : m ≤ 12) => ordersI_ok m W h0 hm
  obtain ⟨F, hF⟩ : ∃ F : Int, (fact n : Int) = F := ⟨_, rfl⟩
  have HK := Lib.hid hk
  rw [hF] at hO
  have hd : decide ((k : Int) < 0) = false := by simp
  have hd2 : decide (F ≤ (k : Int)) = false := by simp; omega
  have hd3 : (k : Int) < F := by omega
  clear hF hk
  go_enter Try.func26, Try.ntmps26
  go_wp2_with (first | (go_at_call 13; refine hP.mono ?_; rintro e w1 ⟨rfl, HO, hb1⟩) | (go_at_call 42; refine (hO _).mono ?_; rintro e w' ⟨rfl, rfl⟩))
  have HO1 := Lib.hid HO
  clear hP hO HO
  go_loopw [1, 28] (fun q i wr => ∃ (a kk : Nat) (P : List Int), a ≤ n ∧ i = .int .i64 a ∧ q = .int .i64 kk ∧ Hid (P.length = n) ∧ Hid (kk < fact (n - a)) ∧ Hid (nthL n (plainL n) k = P.take a ++ nthL (n - a) (P.drop a) kk) ∧ Hid (OwnI wr w.heap.size 3 (some ⟨w.heap.size, 0, none⟩) n P) ∧ Below w.heap.size w wr) (fun _ i _ => n - (intOf i).toNat)
  case atStart => exact ⟨0, k, plainL n, Nat.zero_le _, rfl, rfl, plainL_length n, HK, by unfold Hid; simp, HO1, hb1⟩
  case round =>
    obtain ⟨a, kk, P, ha, rfl, rfl, HPl, HKK, HR, HO, hb⟩ := hrel
    by_cases hlt : a < n
    · obtain ⟨f, hf⟩ : ∃ f, f = fact (n - (a + 1)) := ⟨_, rfl⟩
      obtain ⟨s1, s2, s3⟩ := nth_step HPl.out hlt hf HKK.out HR.out
      obtain ⟨i, hi⟩ : ∃ i, kk / f = i := ⟨_, rfl⟩
      have hO2' := fun W => hO2 W ((n : Int) - 1 - (a : Int)) (by omega) (by omega)
      have e1 : ((n : Int) - 1 - (a : Int)).toNat = n - (a + 1) := by omega
      rw [e1, ← hf] at hO2'
      have hf1 : 1 ≤ f := by rw [hf]; exact fact_pos _
      have hf2 : f ≤ 479001600 := by rw [hf]; exact fact_le (by omega)
      have hkb : kk < 479001601 := by have := HKK.out; have := fact_le (n := n - a) (by omega); omega
      have hib : kk / f ≤ kk := Nat.div_le_self _ _
      have hq1 : IntKind.i64.wrap ((kk : Int).tdiv (f : Int)) = (i : Int) := by
        rw [Int.tdiv_eq_ediv_of_nonneg (by omega), wrap_eq, ← hi, ← Int.natCast_ediv]; exact IntWalk.wrap64_in _ ⟨by omega, by omega⟩
      have hq2 : IntKind.i64.wrap ((kk : Int) / (f : Int)) = (i : Int) := by
        rw [wrap_eq, ← hi, ← Int.natCast_ediv]; exact IntWalk.wrap64_in _ ⟨by omega, by omega⟩
      rw [hi] at s1 s3
      have hsl := fun W => run_at (w := W) (g := w.heap.size) hlt
      have hPl := fun W (ho : OwnI W w.heap.size 3 (some ⟨w.heap.size, 0, none⟩) n P) => pull_ok w.heap.size a (n - a) (n - a) i P W w.heap.size (by rw [Nat.add_sub_cancel' ha]; exact ho) (by rw [HPl.out]; omega) s1 (by omega)
      rw [Nat.add_sub_cancel' ha] at hPl
      have HS2 := Lib.hid s2
      have HS3 := Lib.hid s3
      have HLP : Hid ((pullL P a i).length = n) := by unfold Hid; rw [pullL_length (m := n - a) (by rw [HPl.out]; omega) s1]; exact HPl.out
      have HI := Lib.hid hi
      have HFF := Lib.hid hf
      clear hi hf s2 s3 e1 HR HKK hO2 hib
      have hfz : ¬ f = 0 := by omega
      have hfz2 : ¬ (f : Int) = 0 := by omega
      go_wp2_with (go_at_call 42; refine (hO2' _).mono ?_; rintro e w' ⟨rfl, rfl⟩)
      go_still_tail 6, (by kernel_rfl)
      change wpList _ _ _ _ _ wr.drew
      go_wp2_with (go_at_call 44; refine (hPl _ HO.out.drew).mono ?_; rintro e w2 ⟨rfl, HO2, hb2⟩; have hb3 := hb.drew.trans hb2; have HO3 := Lib.hid HO2; clear HO2 hb2)
      go_roundw
      case rel => exact ⟨a + 1, kk % f, pullL P a i, by omega, by go_num, by rw [Int.natCast_emod], HLP, HS2, HS3, HO3, hb3⟩
      case measure => simp [intOf]; omega
    · have HF : Hid (nthL n (plainL n) k = P) := by
        unfold Hid
        have hae : a = n := by omega
        have := HR.out
        rw [hae, Nat.sub_self, List.take_of_length_le (by rw [HPl.out]; exact Nat.le_refl _)] at this
        simpa [nthL] using this
      go_wp2
      go_ret2
      exact ⟨rfl, by rw [HF.out]; exact HO.out, hb⟩
end Go.Proofs.Ytnjjmeaggnlafaa
