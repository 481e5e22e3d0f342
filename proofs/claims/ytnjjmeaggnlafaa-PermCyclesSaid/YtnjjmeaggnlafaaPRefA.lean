/- The contracts of the document's Order, Is, Check, Plain. -/
import Derived.Test.YtnjjmeaggnlafaaPLawsB
import Derived.Test.YtnjjmeaggnlafaaPRefM
namespace Go.Proofs.Ytnjjmeaggnlafaa
open Go.RowKit

set_option maxRecDepth 100000 in
/-- the plain order, as the document makes it -/
theorem orderPlain_ok (n : Nat) (w : World) (hn : n ≤ 12) :
    Calls Try.prog 35 #[.int .i64 (n : Int), .slice none 0 0] w fun e w' => ∃ A' c', e = .returned (.tuple #[.slice A' n c', .bool true]) ∧ OwnI w' w.heap.size 3 A' c' (plainL n) ∧ Below w.heap.size w w' := by
  obtain ⟨i0, hi0, hz0, hz1, hz2⟩ := info_parts infoInt
  go_enter Try.func35, Try.ntmps35
  go_wp2
  go_loopw [6, 16] (fun v u wr => ∃ (A' : Option Addr) (c' k : Nat), v = .slice A' k c' ∧ u = .int .i64 k ∧ k ≤ n ∧ Hid (OwnI wr w.heap.size 3 A' c' (plainL k)) ∧ Below w.heap.size w wr) (fun _ u _ => n - (intOf u).toNat)
  case atStart => exact ⟨none, 0, 0, rfl, rfl, Nat.zero_le _, OwnI.nil_ _ _ _, Below.refl _ _⟩
  case round =>
    obtain ⟨A', c', k, rfl, rfl, hk, HO, hb⟩ := hrel
    by_cases hlt : k < n
    · have hsz := hb.size
      have hbig : -9223372036854775808 ≤ (k : Int) ∧ (k : Int) ≤ 9223372036854775807 := by omega
      have HLk : Hid ((plainL k).length = k) := plainL_length k
      have HS : Hid (plainL k ++ [(k : Int)] = plainL (k + 1)) := by unfold Hid plainL; rw [List.range_succ, List.map_append]; rfl
      go_wp2_with (at_builtin; refine wpList_appendInts _ rfl (.tmp 19) (.tmp 21) 22 rfl w.heap.size 3 i0 Try.underlying22 hi0 hz0 hz1 hz2 A' (some ⟨wr.heap.size, 0, none⟩) c' 1 1 (wr.heap.size + 1) k (k + 1) (plainL k) [(k : Int)] rfl rfl (HO.out.alloc _) HLk.out rfl (src_new wr hbig) (by omega) (by simp; omega) ?_; intro A2 c2 w2 HO2 HG2; have hb2 := below_app (hb.alloc hsz _) HG2 (HO.out.alloc _) HLk.out (by simp; omega); rw [HS.out] at HO2; have HO3 := Lib.hid HO2; clear HO2 HG2)
      go_roundw
      case rel => exact ⟨A2, c2, k + 1, rfl, by go_num, by omega, HO3, hb2⟩
      case measure => simp [intOf]; omega
    · obtain rfl : k = n := by omega
      go_wp2
      go_ret2
      exact ⟨A', c', rfl, HO.out, hb⟩

def OrderPost (b : Bool) (w : World) (e : Ending) (w' : World) : Prop := ∃ v, e = .returned (.tuple #[v, .bool b]) ∧ w = w'
set_option maxRecDepth 100000 in
/-- is a list one -/
theorem orderIs_ok (A : Option Addr) (n c : Nat) (xs : List Int) (w : World) (B : Nat) (h : Ints w B A n xs) (hn : n ≤ 12) (h0 : 0 < n) :
    Calls Try.prog 35 #[.int .i64 (n : Int), .slice A n c] w (OrderPost (permB xs) w) := by
  have HL : Hid (xs.length = n) := h.1
  have e0 : ((n : Int) == 0) = false := by simp; omega
  have e1 : ((n : Int) == (n : Int)) = true := by simp
  have e2 : ((n : Int) != (n : Int)) = false := by simp
  go_enter Try.func35, Try.ntmps35
  go_wp2
  go_loop [30] (fun u => ∃ k : Nat, u = .int .i64 k ∧ k ≤ n ∧ Hid (∀ i : Nat, i < k → cntL (i : Int) xs = 1)) (fun u => n - (intOf u).toNat)
  case atStart => exact ⟨0, rfl, Nat.zero_le _, fun i hi => by omega⟩
  case round =>
    obtain ⟨k, rfl, hk, HK⟩ := hrel
    by_cases hlt : k < n
    · go_wp2
      go_loop [9, 35] (fun q u => ∃ j m : Nat, u = .int .i64 j ∧ q = .int .i64 m ∧ j ≤ n ∧ m ≤ j ∧ Hid (m = cntL (k : Int) (xs.take j))) (fun _ u => n - (intOf u).toNat)
      case atStart => exact ⟨0, 0, rfl, rfl, Nat.zero_le _, Nat.le_refl _, by unfold Hid; simp [cntL]⟩
      case round =>
        obtain ⟨j, m, rfl, rfl, hj, hm, HM⟩ := hrel
        by_cases hjn : j < n
        · obtain ⟨b, off, x, rfl, _, HX, hc, hx1, hx2⟩ := h.at_ hjn
          by_cases hxk : x = (k : Int)
          · have HM' : Hid (m + 1 = cntL (k : Int) (xs.take (j + 1))) := by unfold Hid; rw [take_succ_of HX.out, cntL_snoc, if_pos hxk, HM.out]
            have e3 : (x == (k : Int)) = true := by simpa using hxk
            clear hxk
            go_wp2
            go_round
            case rel => exact ⟨j + 1, m + 1, by go_num, by go_num, by omega, by omega, HM'⟩
            case measure => simp [intOf]; omega
          · have HM' : Hid (m = cntL (k : Int) (xs.take (j + 1))) := by unfold Hid; rw [take_succ_of HX.out, cntL_snoc, if_neg hxk, HM.out]; rfl
            have e3 : (x == (k : Int)) = false := by simpa using hxk
            clear hxk
            go_wp2
            go_round
            case rel => exact ⟨j + 1, m, by go_num, rfl, by omega, by omega, HM'⟩
            case measure => simp [intOf]; omega
        · have hmm : m = cntL (k : Int) xs := by rw [HM.out, List.take_of_length_le (by rw [HL.out]; omega)]
          by_cases hm1 : m = 1
          · have HK' : Hid (∀ i : Nat, i < k + 1 → cntL (i : Int) xs = 1) := by
              intro i hi
              by_cases hik : i = k
              · subst hik; rw [← hmm, hm1]
              · exact HK.out i (by omega)
            have e3 : ((m : Int) == 1) = true := by simp; omega
            have e4 : ((m : Int) != 1) = false := by simp; omega
            clear hmm hm1
            go_wp2
            go_round
            case rel => exact ⟨k + 1, by go_num, by omega, HK'⟩
            case measure => simp [intOf]; omega
          · have HF : Hid (permB xs = false) := by
              unfold Hid
              cases hb : permB xs with
              | false => rfl
              | true =>
                exfalso
                have hp := permB_iff.1 hb
                have := cntL_one hp.nodup (hp.mem (k := k) (by rw [HL.out]; exact hlt))
                omega
            have e3 : ((m : Int) == 1) = false := by simp; omega
            have e4 : ((m : Int) != 1) = true := by simp; omega
            clear hmm hm1
            go_wp2
            go_ret2
            unfold OrderPost
            exact ⟨_, by rw [HF.out]; rfl, rfl⟩
    · have HF : Hid (permB xs = true) := by
        refine permB_iff.2 (perm_of_cnt (by rw [HL.out]; exact hn) fun i hi => HK.out i (by rw [HL.out] at hi; omega))
      go_wp2
      go_ret2
      unfold OrderPost
      exact ⟨_, by rw [HF.out]; rfl, rfl⟩

set_option maxRecDepth 100000 in
theorem is_ok (A : Option Addr) (n c : Nat) (xs : List Int) (w : World) (B : Nat) (h : Ints w B A n xs) (hn : n ≤ 9223372036854775807) :
    Calls Try.prog 38 #[.slice A n c] w fun e w' => e = .returned (.bool (permB xs)) ∧ w = w' := by
  have HL : Hid (xs.length = n) := h.1
  by_cases h12 : 12 < n
  · have HF : Hid (permB xs = false) := by
      unfold Hid
      cases hb : permB xs with
      | false => rfl
      | true => exfalso; have hp := (permB_iff.1 hb).len; rw [HL.out] at hp; omega
    have hd : decide (12 < (n : Int)) = true := by simp; omega
    go_enter Try.func38, Try.ntmps38
    go_wp2
    go_ret
    exact ⟨by rw [HF.out]; rfl, rfl⟩
  · have hd : decide (12 < (n : Int)) = false := by simp; omega
    by_cases h0 : n = 0
    · subst h0
      have HF : Hid (permB xs = true) := by have := List.eq_nil_of_length_eq_zero HL.out; rw [this]; rfl
      go_enter Try.func38, Try.ntmps38
      go_wp2
      go_ret
      exact ⟨by rw [HF.out]; rfl, rfl⟩
    · have e0 : ((n : Int) == 0) = false := by simp; omega
      have hO := orderIs_ok A n c xs w B h (by omega) (by omega)
      obtain ⟨b, hb⟩ : ∃ b, permB xs = b := ⟨_, rfl⟩
      rw [hb] at hO
      have HBb := Lib.hid hb
      clear hb h0
      go_enter Try.func38, Try.ntmps38
      go_wp2_with (go_at_call 35; refine hO.mono ?_; rintro e w' ⟨v, rfl, rfl⟩)
      go_ret
      exact ⟨by rw [HBb.out]; rfl, rfl⟩
set_option maxRecDepth 100000 in
theorem refCheck_ok (A : Option Addr) (n c : Nat) (xs : List Int) (w : World) (B : Nat) (h : Ints w B A n xs) (hn : n ≤ 9223372036854775807) :
    Calls Try.prog 23 #[.slice A n c] w fun e w' => e = .returned (.int .i64 (ordF xs)) ∧ w = w' := by
  have hI := is_ok A n c xs w B h hn
  obtain ⟨b, hb⟩ : ∃ b, permB xs = b := ⟨_, rfl⟩
  rw [hb] at hI
  cases b
  · have HF : Hid (ordF xs = 1) := by unfold Hid ordF; rw [hb]; rfl
    clear hb
    go_enter Try.func23, Try.ntmps23
    go_wp2_with (go_at_call 38; refine hI.mono ?_; rintro e w' ⟨rfl, rfl⟩)
    go_ret
    exact ⟨by rw [HF.out]; rfl, rfl⟩
  · have HF : Hid (ordF xs = 0) := by unfold Hid ordF; rw [hb]; rfl
    clear hb
    go_enter Try.func23, Try.ntmps23
    go_wp2_with (go_at_call 38; refine hI.mono ?_; rintro e w' ⟨rfl, rfl⟩)
    go_ret
    exact ⟨by rw [HF.out]; rfl, rfl⟩
/-- what Plain tells -/
def plainF (n : Int) : List Int × Int := if n < 0 ∨ 12 < n then ([], 1) else (plainL n.toNat, 0)
set_option maxRecDepth 100000 in
theorem refPlain_any (n : Int) (w : World) :
    Calls Try.prog 14 #[.int .i64 n] w fun e w' => ∃ A' c', e = .returned (.tuple #[.slice A' (plainF n).1.length c', .int .i64 (plainF n).2]) ∧ OwnI w' w.heap.size 3 A' c' (plainF n).1 ∧ Below w.heap.size w w' := by
  by_cases h : n < 0 ∨ 12 < n
  · have HF : Hid (plainF n = ([], 1)) := by unfold Hid plainF; rw [if_pos h]
    by_cases h0 : n < 0
    · have hd : decide (n < 0) = true := by simpa using h0
      clear h
      go_enter Try.func14, Try.ntmps14
      go_wp2
      go_ret2
      exact ⟨none, 0, by rw [HF.out]; rfl, by rw [HF.out]; exact OwnI.nil_ _ _ _, Below.refl _ _⟩
    · have hd : decide (n < 0) = false := by simpa using h0
      have h12 : 12 < n := by omega
      have hd2 : decide (12 < n) = true := by simpa using h12
      clear h
      go_enter Try.func14, Try.ntmps14
      go_wp2
      go_ret2
      exact ⟨none, 0, by rw [HF.out]; rfl, by rw [HF.out]; exact OwnI.nil_ _ _ _, Below.refl _ _⟩
  · obtain ⟨m, rfl⟩ : ∃ m : Nat, n = m := ⟨n.toNat, by omega⟩
    have HF : Hid (plainF m = (plainL m, 0)) := by unfold Hid plainF; rw [if_neg h, Int.toNat_natCast]
    have hO := orderPlain_ok m w (by omega)
    have hd : decide ((m : Int) < 0) = false := by simp
    have hd2 : decide (12 < (m : Int)) = false := by simp; omega
    have HLm : Hid ((plainL m).length = m) := plainL_length m
    clear h
    go_enter Try.func14, Try.ntmps14
    go_wp2_with (go_at_call 35; refine hO.mono ?_; rintro e w' ⟨A', c', rfl, HO, hb⟩)
    go_ret2
    exact ⟨A', c', by rw [HF.out]; dsimp only; rw [HLm.out]; rfl, by rw [HF.out]; exact HO, hb⟩
theorem plain_any (n : Int) (w : World) :
    Calls Try.prog 13 #[.int .i64 n] w fun e w' => ∃ A' c', e = .returned (.tuple #[.slice A' (plainF n).1.length c', .int .i64 (plainF n).2]) ∧ OwnI w' w.heap.size 3 A' c' (plainF n).1 ∧ Below w.heap.size w w' := by
  by_cases h : n < 0 ∨ 12 < n
  · have HF : plainF n = ([], 1) := by unfold plainF; rw [if_pos h]
    rw [HF]
    refine (plain_err n w h).mono ?_
    rintro e w' ⟨rfl, rfl⟩
    exact ⟨none, 0, rfl, OwnI.nil_ _ _ _, Below.refl _ _⟩
  · obtain ⟨m, rfl⟩ : ∃ m : Nat, n = m := ⟨n.toNat, by omega⟩
    have HF : plainF m = (plainL m, 0) := by unfold plainF; rw [if_neg h, Int.toNat_natCast]
    rw [HF]
    refine (plain_ok m w (by omega)).mono ?_
    rintro e w' ⟨rfl, ho, hb⟩
    exact ⟨_, m, by dsimp only; rw [plainL_length], ho, hb⟩
end Go.Proofs.Ytnjjmeaggnlafaa
