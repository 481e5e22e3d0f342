/- The contracts of the document's Order and Ahead. -/
import Derived.Test.YtapbcmhkipaecaaG12
import Derived.Test.YtapbcmhkipaecaaG5
import Derived.Deep.QuietTactic
namespace Go.Proofs.Ytapbcmhkipaecaa
open Go.RowKit

theorem iota_nodup (n : Nat) : (iotaL n).Nodup := by
  unfold iotaL List.Nodup
  rw [List.pairwise_map]
  exact List.nodup_range.imp fun h e => h (by omega)
theorem iota_mem {n : Nat} {a : Int} : a ∈ iotaL n ↔ 0 ≤ a ∧ a < n := by
  unfold iotaL
  rw [List.mem_map]
  constructor
  · rintro ⟨k, hk, rfl⟩
    have := List.mem_range.1 hk
    omega
  · rintro ⟨h1, h2⟩
    exact ⟨a.toNat, List.mem_range.2 (by omega), by omega⟩
theorem iota_le (n : Nat) : (iotaL n).Pairwise (· ≤ ·) := by
  unfold iotaL
  rw [List.pairwise_map]
  exact List.pairwise_lt_range.imp fun h => by omega
theorem sortI_le (os : List Int) : (sortI os).Pairwise (· ≤ ·) := by
  have := List.pairwise_mergeSort (le := fun x y : Int => decide (x ≤ y)) (fun a b c h1 h2 => by simp at *; omega) (fun a b => by simp; omega) os
  exact this.imp fun h => of_decide_eq_true h
theorem sortI_iota {n : Nat} {os : List Int} : sortI os = iotaL n ↔ os.Perm (iotaL n) := by
  constructor
  · intro h; rw [← h]; exact (sortI_perm os).symm
  · intro h
    exact List.Perm.eq_of_pairwise (le := (· ≤ ·)) (fun a b _ _ h1 h2 => Int.le_antisymm h1 h2) (sortI_le os) (iota_le n) ((sortI_perm os).trans h)
theorem perm_iota {n : Nat} {os : List Int} (hl : os.length = n) (h : ∀ i : Nat, i < n → os.count (i : Int) = 1) : os.Perm (iotaL n) := by
  rw [List.perm_iff_count]
  intro a
  rw [(iota_nodup n).count]
  split
  · rename_i ha
    have := iota_mem.1 ha
    have h1 := h a.toNat (by omega)
    rwa [show (a.toNat : Int) = a by omega] at h1
  · rename_i ha
    refine List.count_eq_zero.2 fun hm => ?_
    have hnd : (a :: iotaL n).Nodup := List.nodup_cons.2 ⟨ha, iota_nodup n⟩
    have := hnd.length_le_of_subset (l₂ := os) (fun x hx => by
      rcases List.mem_cons.1 hx with rfl | hx
      · exact hm
      · have hx' := iota_mem.1 hx
        have h1 := h x.toNat (by omega)
        rw [show (x.toNat : Int) = x by omega] at h1
        exact List.count_pos_iff.1 (by omega))
    rw [List.length_cons, iotaL_len] at this
    omega
theorem count_snoc (l : List Int) (x a : Int) : (l ++ [x]).count a = l.count a + if x = a then 1 else 0 := by
  rw [List.count_append, List.count_singleton]
  simp
theorem iota_succ (k : Nat) : iotaL k ++ [(k : Int)] = iotaL (k + 1) := by unfold iotaL; rw [List.range_succ, List.map_append]; rfl

set_option maxRecDepth 100000 in
/-- the plain order, as the document makes it -/
theorem refOrder_plain (n c : Nat) (A : Option Addr) (w : World) (hn : n ≤ 100000) :
    Calls Try.prog 38 #[.int .i64 (n : Int), .slice A 0 c] w fun e w' => ∃ A' c', e = .returned (.tuple #[.slice A' n c', .bool true]) ∧ OwnI w' w.heap.size 3 A' c' (iotaL n) ∧ Below w.heap.size w w' := by
  obtain ⟨i0, hi0, hz0, hz1, hz2⟩ := info_parts infoInt
  go_enter Try.func38, Try.ntmps38
  go_wp2
  go_loopw [6, 16] (fun v u wr => ∃ (A' : Option Addr) (c' k : Nat), v = .slice A' k c' ∧ u = .int .i64 k ∧ k ≤ n ∧ Hid (OwnI wr w.heap.size 3 A' c' (iotaL k)) ∧ Below w.heap.size w wr) (fun _ u _ => n - (intOf u).toNat)
  case atStart => exact ⟨none, 0, 0, rfl, rfl, Nat.zero_le _, OwnI.nil_ _ _ _, Below.refl _ _⟩
  case round =>
    obtain ⟨A', c', k, rfl, rfl, hk, HO, hb⟩ := hrel
    by_cases hlt : k < n
    · have hsz := hb.size
      have hbig : -9223372036854775808 ≤ (k : Int) ∧ (k : Int) ≤ 9223372036854775807 := by omega
      have HLk : Hid ((iotaL k).length = k) := iotaL_len k
      have HS : Hid (iotaL k ++ [(k : Int)] = iotaL (k + 1)) := iota_succ k
      go_wp2_with (at_builtin; refine wpList_appendInts _ rfl (.tmp 19) (.tmp 21) 22 rfl w.heap.size 3 i0 Try.underlying22 hi0 hz0 hz1 hz2 A' (some ⟨wr.heap.size, 0, none⟩) c' 1 1 (wr.heap.size + 1) k (k + 1) (iotaL k) [(k : Int)] rfl rfl (HO.out.alloc _) HLk.out rfl (src_new wr hbig) (by omega) (by simp; omega) ?_; intro A2 c2 w2 HO2 HG2; have hb2 := below_app (hb.alloc hsz _) HG2 (HO.out.alloc _) HLk.out (by simp; omega); rw [HS.out] at HO2; have HO3 := Lib.hid HO2; clear HO2 HG2)
      go_roundw
      case rel => exact ⟨A2, c2, k + 1, rfl, by go_num, by omega, HO3, hb2⟩
      case measure => simp [intOf]; omega
    · obtain rfl : k = n := by omega
      go_wp2
      go_ret2
      exact ⟨A', c', rfl, HO.out, hb⟩

set_option maxRecDepth 100000 in
/-- is a list of n numbers an order -/
theorem refOrder_is (A : Option Addr) (n c : Nat) (xs : List Int) (w : World) (B : Nat) (h : Ints w B A n xs) (hn : n ≤ 100000) (h0 : 0 < n) (R : Ending) (HR : Hid ((if sortI xs = iotaL n then Ending.returned (.tuple #[.slice A n c, .bool true]) else .returned (.tuple #[.slice none 0 0, .bool false])) = R)) :
    Calls Try.prog 38 #[.int .i64 (n : Int), .slice A n c] w fun e w' => e = R ∧ w = w' := by
  have HL : Hid (xs.length = n) := h.1
  have e0 : ((n : Int) == 0) = false := by simp; omega
  have e1 : ((n : Int) == (n : Int)) = true := by simp
  have e2 : ((n : Int) != (n : Int)) = false := by simp
  go_enter Try.func38, Try.ntmps38
  go_wp2
  go_loop [30] (fun u => ∃ k : Nat, u = .int .i64 k ∧ k ≤ n ∧ Hid (∀ i : Nat, i < k → xs.count (i : Int) = 1)) (fun u => n - (intOf u).toNat)
  case atStart => exact ⟨0, rfl, Nat.zero_le _, fun i hi => by omega⟩
  case round =>
    obtain ⟨k, rfl, hk, HK⟩ := hrel
    by_cases hlt : k < n
    · go_wp2
      go_loop [9, 35] (fun q u => ∃ j m : Nat, u = .int .i64 j ∧ q = .int .i64 m ∧ j ≤ n ∧ m ≤ j ∧ Hid (m = (xs.take j).count (k : Int))) (fun _ u => n - (intOf u).toNat)
      case atStart => exact ⟨0, 0, rfl, rfl, Nat.zero_le _, Nat.le_refl _, by unfold Hid; simp⟩
      case round =>
        obtain ⟨j, m, rfl, rfl, hj, hm, HM⟩ := hrel
        by_cases hjn : j < n
        · obtain ⟨b, off, x, rfl, _, HX, hc, hx1, hx2⟩ := h.at_ hjn
          by_cases hxk : x = (k : Int)
          · have HM' : Hid (m + 1 = (xs.take (j + 1)).count (k : Int)) := by unfold Hid; rw [take_succ_of HX.out, count_snoc, if_pos hxk, HM.out]
            have e3 : (x == (k : Int)) = true := by simpa using hxk
            clear hxk
            go_wp2
            go_round
            case rel => exact ⟨j + 1, m + 1, by go_num, by go_num, by omega, by omega, HM'⟩
            case measure => simp [intOf]; omega
          · have HM' : Hid (m = (xs.take (j + 1)).count (k : Int)) := by unfold Hid; rw [take_succ_of HX.out, count_snoc, if_neg hxk, HM.out]; rfl
            have e3 : (x == (k : Int)) = false := by simpa using hxk
            clear hxk
            go_wp2
            go_round
            case rel => exact ⟨j + 1, m, by go_num, rfl, by omega, by omega, HM'⟩
            case measure => simp [intOf]; omega
        · have hmm : m = xs.count (k : Int) := by rw [HM.out, List.take_of_length_le (by rw [HL.out]; omega)]
          by_cases hm1 : m = 1
          · have HK' : Hid (∀ i : Nat, i < k + 1 → xs.count (i : Int) = 1) := by
              intro i hi
              by_cases hik : i = k
              · subst hik; rw [← hmm, hm1]
              · exact HK.out i (by omega)
            have e3 : ((m : Int) == 1) = true := by simp; omega
            have e4 : ((m : Int) != 1) = false := by simp; omega
            clear hmm hm1
            go_wp2
            go_round
            case rel => exact ⟨k + 1, by go_num, by omega, HK'⟩
            case measure => simp [intOf]; omega
          · have HF : Hid (R = Ending.returned (.tuple #[.slice none 0 0, .bool false])) := by
              unfold Hid
              rw [← HR.out, if_neg]
              intro hp
              have hq := List.perm_iff_count.1 (sortI_iota.1 hp) (k : Int)
              rw [(iota_nodup n).count, if_pos (iota_mem.2 (by omega))] at hq
              omega
            have e3 : ((m : Int) == 1) = false := by simp; omega
            have e4 : ((m : Int) != 1) = true := by simp; omega
            clear hmm hm1
            go_wp2
            go_ret2
            exact ⟨by rw [HF.out]; rfl, rfl⟩
    · have HF : Hid (R = Ending.returned (.tuple #[.slice A n c, .bool true])) := by
        unfold Hid
        rw [← HR.out, if_pos (sortI_iota.2 (perm_iota HL.out fun i hi => HK.out i (by omega)))]
      go_wp2
      go_ret2
      exact ⟨by rw [HF.out]; rfl, rfl⟩

/-- whichever: the order that is meant -/
theorem refOrder_ok (A : Option Addr) (n r c : Nat) (os : List Int) (w : World) (h : Ints w w.heap.size A r os) (hn : n ≤ 100000) (hok : OrdOk n os) :
    Calls Try.prog 38 #[.int .i64 (n : Int), .slice A r c] w fun e w' => ∃ Am cm, e = .returned (.tuple #[.slice Am n cm, .bool true]) ∧ Ints w' w'.heap.size Am n (ordL n os) ∧ Below w.heap.size w w' := by
  rcases Nat.eq_zero_or_pos r with hr | hr
  · subst hr
    have h0 : os = [] := List.eq_nil_of_length_eq_zero h.1
    refine (refOrder_plain n c A w hn).mono ?_
    rintro x w' ⟨A', c', rfl, hO, hb⟩
    have hi := hO.ints
    rw [iotaL_len] at hi
    exact ⟨A', c', rfl, by unfold ordL; rw [if_pos h0]; exact hi, hb⟩
  · have h0 : os ≠ [] := by intro e; have := h.1; rw [e] at this; simp at this; omega
    have hs : sortI os = iotaL n := by rcases hok with h1 | h1; exact absurd h1 h0; exact h1
    have hrn : r = n := by have := congrArg List.length hs; rw [sortI_len, iotaL_len, h.1] at this; exact this
    subst hrn
    refine (refOrder_is A r c os w _ h hn hr _ rfl).mono ?_
    rintro x w' ⟨rfl, rfl⟩
    rw [if_pos hs]
    exact ⟨A, c, rfl, by unfold ordL; rw [if_neg h0]; exact h, Below.refl _ _⟩
set_option maxRecDepth 100000 in
theorem refOrder_no (A : Option Addr) (n r c : Nat) (os : List Int) (w : World) (h : Ints w w.heap.size A r os) (hn : n ≤ 100000) (hr0 : r ≤ 9223372036854775807) (hok : ¬ OrdOk n os) :
    Calls Try.prog 38 #[.int .i64 (n : Int), .slice A r c] w fun e w' => e = .returned (.tuple #[.slice none 0 0, .bool false]) ∧ Below w.heap.size w w' := by
  have hr : 0 < r := by
    rcases Nat.eq_zero_or_pos r with hr0 | hr0
    · subst hr0; exact absurd (.inl (List.eq_nil_of_length_eq_zero h.1)) hok
    · exact hr0
  by_cases hrn : r = n
  · subst hrn
    refine (refOrder_is A r c os w _ h hn hr _ rfl).mono ?_
    rintro x w' ⟨rfl, rfl⟩
    exact ⟨by rw [if_neg (fun hs => hok (.inr hs))], Below.refl _ _⟩
  · have e0 : ((r : Int) == 0) = false := by simp; omega
    have e1 : ((r : Int) == (n : Int)) = false := by simp; omega
    have e2 : ((r : Int) != (n : Int)) = true := by simp; omega
    clear hok hrn h
    go_enter Try.func38, Try.ntmps38
    go_wp2
    go_ret2
    exact ⟨rfl, Below.refl _ _⟩

set_option maxRecDepth 100000 in
set_option maxHeartbeats 1000000 in
theorem refAhead_any (A A2 Ao : Option Addr) (n n2 r c c2 co : Nat) (ax bx os : List Int) (w : World) (h1 : Ints w w.heap.size A n ax) (h2 : Ints w w.heap.size A2 n2 bx) (ho : Ints w w.heap.size Ao r os) (hr : r ≤ 100000) (hin : ∀ m ∈ os, 0 ≤ m ∧ m < n ∧ m < n2) (R : Bool) (HR : Hid (decide (cmpE os ax bx < 0) = R)) :
    Calls Try.prog 39 #[.slice A n c, .slice A2 n2 c2, .slice Ao r co] w fun e w' => e = .returned (.bool R) ∧ ∃ m, w' = w.drewN m := by
  have HLo : Hid (os.length = r) := ho.1
  have HIN := Lib.hid hin
  clear hin
  go_enter Try.func39, Try.ntmps39
  go_wp2
  go_loopw [11] (fun i wr => ∃ (k d : Nat), k ≤ r ∧ i = .int .i64 k ∧ wr = w.drewN d ∧ Hid (cmpE os ax bx = cmpE (os.drop k) ax bx)) (fun i _ => r - (intOf i).toNat)
  case atStart => exact ⟨0, 0, Nat.zero_le _, rfl, rfl, rfl⟩
  case round =>
    obtain ⟨k, d, hk, rfl, rfl, HC⟩ := hrel
    by_cases hlt : k < r
    · obtain ⟨bm, om, m, rfl, _, HM, hcm, _, _⟩ := ho.at_ hlt
      have hin := HIN.out m (List.mem_of_getElem? HM.out)
      obtain ⟨bq, ox, vx, rfl, _, HVX, hcx, hx1, hx2⟩ := h1.at_ (k := m.toNat) (by omega)
      obtain ⟨by_, oy, vy, rfl, _, HVY, hcy, hy1, hy2⟩ := h2.at_ (k := m.toNat) (by omega)
      have hcons := cmpE_cons (a := ax) (b := bx) HM.out
      rw [pickE_of HVX.out, pickE_of HVY.out] at hcons
      have hm0 : 0 ≤ m := hin.1
      have hmx : m < n := hin.2.1
      have hmy : m < n2 := hin.2.2
      clear hin
      by_cases hv : vx = vy
      · have HC2 : Hid (cmpE os ax bx = cmpE (os.drop (k + 1)) ax bx) := by
          have hz : cmpI vx vy = 0 := by subst hv; unfold cmpI; simp
          rw [if_pos hz] at hcons
          exact HC.out.trans hcons
        have e1 : (vx == vy) = true := by simpa using hv
        have e2 : (vx != vy) = false := by simpa using hv
        clear hcons hv
        go_wp2
        go_quiet (fail)
        go_wp2
        go_roundw
        case rel => exact ⟨k + 1, _, by omega, by go_num, rfl, HC2⟩
        case measure => simp [intOf]; omega
      · have HF : Hid (R = decide (vx < vy)) := by
          have hz : cmpI vx vy ≠ 0 := by unfold cmpI; split <;> (try split) <;> omega
          rw [if_neg hz] at hcons
          have h3 := HC.out.trans hcons
          unfold Hid
          rw [← HR.out, h3]
          unfold cmpI
          by_cases hlt2 : vx < vy
          · rw [if_pos hlt2, decide_eq_true hlt2]; rfl
          · rw [if_neg hlt2, decide_eq_false hlt2]; split <;> rfl
        have e1 : (vx == vy) = false := by simpa using hv
        have e2 : (vx != vy) = true := by simpa using hv
        clear hcons hv
        go_wp2
        go_quiet (fail)
        go_wp2
        go_quiet (fail)
        go_wp2
        go_ret
        exact ⟨by rw [HF.out]; rfl, _, by rw [World.drewN_drewN, World.drewN_drewN]⟩
    · have HF : Hid (R = false) := by
        unfold Hid
        rw [← HR.out, HC.out, List.drop_of_length_le (by rw [HLo.out]; omega)]
        rfl
      go_wp2
      go_ret
      exact ⟨by rw [HF.out]; rfl, d, rfl⟩
end Go.Proofs.Ytapbcmhkipaecaa
