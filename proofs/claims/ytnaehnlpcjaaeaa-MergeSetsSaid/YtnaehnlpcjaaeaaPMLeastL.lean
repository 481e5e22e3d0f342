/- The walk of MergeLeast. -/
import Derived.Test.YtnaehnlpcjaaeaaG9
namespace Go.Proofs.Ytnaehnlpcjaaeaa
open Go.RowKit

theorem mayO_free {n : Nat} {o : List Int} {j : Nat} : MayO (List.replicate n []) n o j ↔ j < n ∧ (j : Int) ∉ o := by
  unfold MayO
  constructor
  · rintro ⟨h1, h2, _⟩; exact ⟨h1, h2⟩
  · rintro ⟨h1, h2⟩
    exact ⟨h1, h2, fun y hy => by simp [List.getD, h1] at hy⟩
def rangeI (n : Nat) : List Int := (List.range n).map fun k : Nat => (k : Int)
theorem rangeI_succ (n : Nat) : rangeI (n + 1) = rangeI n ++ [(n : Int)] := by simp [rangeI, List.range_succ]
theorem mem_rangeI {n j : Nat} : (j : Int) ∈ rangeI n ↔ j < n := by
  unfold rangeI
  rw [List.mem_map]
  constructor
  · rintro ⟨k, hk, e⟩
    have := List.mem_range.1 hk
    omega
  · intro h; exact ⟨j, List.mem_range.2 h, rfl⟩
theorem steps_free {n : Nat} {o : List Int} (h : StepsO (List.replicate n []) n o) : o = rangeI o.length ∧ o.length ≤ n := by
  have key : ∀ k, k ≤ o.length → o.take k = rangeI k ∧ k ≤ n := by
    intro k
    induction k with
    | zero => intro _; exact ⟨by simp [rangeI], Nat.zero_le _⟩
    | succ k ih =>
      intro hk
      have hk' : k < o.length := by omega
      obtain ⟨ht, hkn⟩ := ih (by omega)
      obtain ⟨i, hi, hin⟩ := h.rng _ (List.getElem_mem hk')
      have hx : o[k]? = some (i : Int) := by rw [List.getElem?_eq_getElem hk', hi]
      obtain ⟨h1, h2⟩ := h.step k i hx
      rw [ht] at h1 h2
      have h3 := (mayO_free.1 h1).2
      have h4 : ¬ i < k := fun h => h3 (mem_rangeI.2 h)
      have h5 := h2 k (mayO_free.2 ⟨by omega, fun h => by have := mem_rangeI.1 h; omega⟩)
      obtain rfl : i = k := by omega
      rw [take_succ_of hx, ht, rangeI_succ]
      exact ⟨rfl, by omega⟩
  have := key o.length (Nat.le_refl _)
  rw [List.take_length] at this
  exact this
theorem none_free {n : Nat} {o : List Int} (h : StepsO (List.replicate n []) n o) (hn : ∀ j, ¬ MayO (List.replicate n []) n o j) : o.length = n := by
  obtain ⟨h1, h2⟩ := steps_free h
  refine Decidable.byContradiction fun hne => hn o.length (mayO_free.2 ⟨by omega, fun hm => ?_⟩)
  rw [h1] at hm
  have := mem_rangeI.1 hm
  rw [← h1] at this
  omega
theorem order_free {e : Ending} {w w' : World} {n : Nat} {o : List Int} (h : StepsO (List.replicate n []) n o) (hc : (o.length = n ∧ ∃ A c, e = .returned (.tuple #[.slice A n c, .int .i64 0]) ∧ OwnI w' w.heap.size 3 A c o) ∨ (o.length < n ∧ (∀ j, ¬ MayO (List.replicate n []) n o j) ∧ e = .returned (.tuple #[.slice none 0 0, .int .i64 5]))) :
    ∃ A c, e = .returned (.tuple #[.slice A n c, .int .i64 0]) ∧ Ints w' w'.heap.size A n (rangeI n) := by
  rcases hc with ⟨hl, A, c, rfl, hO⟩ | ⟨hl, hn, _⟩
  · have := hO.ints
    rw [(steps_free h).1, hl] at this
    have e2 : (rangeI n).length = n := by simp [rangeI]
    rw [e2] at this
    exact ⟨A, c, rfl, this⟩
  · have := none_free h hn
    omega
theorem Heads.free (w : World) (B : Nat) : ∀ n, Heads w B (List.replicate n (.slice none 0 0)) (List.replicate n [])
  | 0 => Heads.nil_ w B
  | n + 1 => by
    rw [List.replicate_succ, List.replicate_succ]
    exact (Heads.free w B n).cons rfl (Nat.le_refl 0) Ints.nil_
set_option maxRecDepth 100000 in
set_option maxHeartbeats 8000000 in
theorem mergeLeast_any (w : World) (A : Option Addr) (n c : Nat) (xs : List Int) (h : Ints w w.heap.size A n xs) (hn : n ≤ 9223372036854775807) :
    Calls Try.prog 8 #[.slice A n c] w fun e w' => e = .returned (.bool true) ∧ Below w.heap.size w w' := by
  have cL := mLive_any w
  by_cases hbig : 300 < n
  · have d1 : decide ((300 : Int) < (n : Int)) = true := decide_eq_true (by omega)
    go_enter Try.func8, Try.ntmps8
    go_wp2_with (go_at_call 9; refine cL.mono ?_; rintro e w1 ⟨rfl, hb1⟩)
    go_ret
    exact ⟨rfl, hb1⟩
  · have d1 : decide ((300 : Int) < (n : Int)) = false := decide_eq_false (by omega)
    rcases Nat.eq_zero_or_pos n with rfl | h0
    · clear h hbig
      go_enter Try.func8, Try.ntmps8
      go_wp2_with (first | (go_at_call 9; refine cL.mono ?_; rintro e w1 ⟨rfl, hb1⟩) | (go_at_call 24; refine (least_none A c w1).mono ?_; rintro e w2 ⟨rfl, q2, hw2⟩; have hb2 : Below w.heap.size w w2 := (by rw [hw2]; exact ⟨hb1.os, hb1.tape, hb1.output, hb1.size, hb1.block⟩); clear hw2))
      go_ret
      exact ⟨rfl, hb2⟩
    · have HH := Lib.hid h
      have hn3 : n ≤ 300 := by omega
      have e0 : ((n : Int) == 0) = false := by simp; omega
      obtain ⟨i0, hi0, hz0, hz1, hz2⟩ := info_parts infoRow
      have mk := fun W => run_makeZ (P := Try.prog) 22 25 i0 (.slice none 0 0) Try.underlying22 hi0 hz0 rfl hz1 (by omega) n (by omega) W
      clear h hbig
      go_enter Try.func8, Try.ntmps8
      go_wp2_with (first | (go_at_call 9; refine cL.mono ?_; rintro e w1 ⟨rfl, hb1⟩) | (go_at_call 24; (refine (least_ok A n c w1.heap.size xs w1 ((HH.out.below hb1).more hb1.size) h0 (by omega)).mono ?_; rintro e w2 ⟨i, m, rfl, hm, him, hfirst, q2, hw2⟩; have hb2 : Below w.heap.size w w2 := (by rw [hw2]; exact ⟨hb1.os, hb1.tape, hb1.output, hb1.size, hb1.block⟩); have hin : i < n := (by have := (List.getElem?_eq_some_iff.1 him).1; have := HH.out.1; omega); have HB2 := Lib.hid hb2; have HM := Lib.hid hm; have HIM := Lib.hid him; have HFI := Lib.hid hfirst; clear hw2 hb2 hm him hfirst; have i1 : (i : Int) < (n : Int) := (by omega); have i2 : decide (n ≤ i) = false := decide_eq_false (by omega))))
      obtain ⟨wo, hwo⟩ : ∃ wo : World, wo = w2 := ⟨_, rfl⟩
      have HI2 := Lib.hid ((HH.out.below HB2.out).more HB2.out.size)
      go_loopw [48] (fun v wr => ∃ (k : Nat), v = .int .i64 (k : Int) ∧ k ≤ n ∧ wr = w2) (fun v _ => n - (intOf v).toNat)
      case atStart => exact ⟨0, rfl, Nat.zero_le _, rfl⟩
      case round =>
        obtain ⟨k, rfl, hk, rfl⟩ := hrel
        by_cases hlt : k < n
        · obtain ⟨b, off, y, rfl, _, HY, hcy, _, _⟩ := HI2.out.at_ hlt
          obtain ⟨b', off', z, e, _, HZ, hcz, _, _⟩ := HI2.out.at_ (show i < n by omega)
          injection e with e
          injection e with e1 e2
          subst e1 e2
          have ez : z = m := by have := HZ.out; rw [HIM.out] at this; injection this with this; exact this.symm
          rw [ez] at hcz
          have hym : m ≤ y := HM.out.2 y (List.mem_of_getElem? HY.out)
          have dym : decide (y < m) = false := decide_eq_false (by omega)
          have k0 : (0 : Int) ≤ (k : Int) := by omega
          have k1 : (k : Int) < (n : Int) := by omega
          have i0' : (0 : Int) ≤ (i : Int) := by omega
          by_cases hki : k < i
          · have dki : decide (k < i) = true := decide_eq_true hki
            have hne : ¬ y = m := fun e => HFI.out k hki (by rw [HY.out, e])
            have e3 : (y == m) = false := by simpa using hne
            clear ez hym hki hne
            go_wp2
            go_roundw
            case rel => exact ⟨k + 1, by go_num, by omega, by first | trivial | rfl⟩
            case measure => simp [intOf]; omega
          · have dki : decide (k < i) = false := decide_eq_false hki
            clear ez hym hki
            go_wp2
            go_roundw
            case rel => exact ⟨k + 1, by go_num, by omega, by first | trivial | rfl⟩
            case measure => simp [intOf]; omega
        · obtain rfl : k = n := by omega
          clear hlt hwo
          have cO := order_in (some ⟨wr.heap.size, 0, none⟩) k k (List.replicate k []) (wr.alloc (.cells (List.replicate k (Value.slice none 0 0)).toArray 25)) (by have := (Heads.free wr wr.heap.size k).new; rw [List.length_replicate] at this; exact this.more (by simp)) (by omega) (by intro L hL; rw [(List.mem_replicate.1 hL).2]; simp) (by intro L hL; rw [(List.mem_replicate.1 hL).2]; simp)
          have HB3 := Lib.hid (belowM wr (.cells (List.replicate k (Value.slice none 0 0)).toArray 25))
          go_wp2_with (go_at_call 22; refine cO.mono ?_; rintro e w4 ⟨o, hSO, hcase, hb4⟩; obtain ⟨A2, c2, rfl, hO2⟩ := order_free hSO hcase; have HB4 := Lib.hid (HB3.out.trans (hb4.mono HB3.out.size)); have HO2 := Lib.hid hO2; clear hSO hcase hb4 hO2)
          have HK3 : Hid (k ≤ 300) := hn3
          clear h0 hk hn3
          go_loopw [82] (fun v wx => ∃ (j : Nat), v = .int .i64 (j : Int) ∧ j ≤ k ∧ wx = w4) (fun v _ => k - (intOf v).toNat)
          case atStart => exact ⟨0, rfl, Nat.zero_le _, rfl⟩
          case round =>
            obtain ⟨j, rfl, hj, rfl⟩ := hrel
            by_cases hlt : j < k
            · obtain ⟨b, off, y, rfl, _, HY, hcy, _, _⟩ := HO2.out.at_ hlt
              have ey : y = (j : Int) := by
                have h1 := HY.out
                simp only [rangeI, List.getElem?_map, List.getElem?_range hlt, Option.map_some, Option.some.injEq] at h1
                exact h1.symm
              rw [ey] at hcy
              have j0 : (0 : Int) ≤ (j : Int) := by omega
              have j1 : (j : Int) < (k : Int) := by omega
              have hk3 := HK3.out
              clear ey
              go_wp2
              go_roundw
              case rel => exact ⟨j + 1, by go_num, by omega, by first | trivial | rfl⟩
              case measure => simp [intOf]; omega
            · obtain rfl : j = k := by omega
              clear hlt
              go_wp2
              go_ret
              exact ⟨rfl, HB2.out.trans (HB4.out.mono HB2.out.size)⟩
end Go.Proofs.Ytnaehnlpcjaaeaa
