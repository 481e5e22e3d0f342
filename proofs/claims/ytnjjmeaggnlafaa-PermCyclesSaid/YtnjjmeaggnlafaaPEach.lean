/- The contracts of perm's small parts: a number at a place, its place, how many behind are less, what each number, and each place, comes to, how many orders there are, the plain order. -/
import Derived.Test.YtnjjmeaggnlafaaPCheck
import Derived.Test.YtnjjmeaggnlafaaOnes
namespace Go.Proofs.Ytnjjmeaggnlafaa
open Go.RowKit

set_option maxRecDepth 100000 in
theorem at_ok (A : Option Addr) (n c : Nat) (xs : List Int) (x y : Int) (w : World) (B : Nat) (h : Ints w B A n xs) (hx : 0 ≤ x) (hy : xs[x.toNat]? = some y) :
    Calls Try.prog 40 #[.slice A n c, .int .i64 x] w fun e w' => e = .returned (.int .i64 y) ∧ w = w' := by
  have hlt : x.toNat < n := by have := (List.getElem?_eq_some_iff.1 hy).1; have := h.1; omega
  obtain ⟨b, off, z, rfl, _, HX, hc, hx1, hx2⟩ := h.at_ hlt
  have HF : Hid (z = y) := by unfold Hid; have := HX.out; rw [hy] at this; injection this with this; exact this.symm
  clear hy
  have hn : x < n := by omega
  go_enter Try.func40, Try.ntmps40
  go_wp2
  go_ret
  exact ⟨by rw [HF.out]; rfl, rfl⟩

set_option maxRecDepth 100000 in
theorem index_ok (A : Option Addr) (n c : Nat) (xs : List Int) (x : Int) (w : World) (B : Nat) (h : Ints w B A n xs) (hn : n ≤ 100000) (hm : x ∈ xs) :
    Calls Try.prog 48 #[.slice A n c, .int .i64 x] w fun e w' => e = .returned (.int .i64 ((xs.idxOf x : Nat) : Int)) ∧ w = w' := by
  have HL : Hid (xs.length = n) := h.1
  have HM := Lib.hid hm
  clear hm
  go_enter Try.func48, Try.ntmps48
  go_wp2
  go_loop [8] (fun i => ∃ k : Nat, k ≤ n ∧ i = .int .i64 k ∧ Hid (x ∉ xs.take k)) (fun i => n - (intOf i).toNat)
  case atStart => exact ⟨0, Nat.zero_le _, rfl, by unfold Hid; simp⟩
  case round =>
    obtain ⟨k, hk, rfl, HN⟩ := hrel
    by_cases hlt : k < n
    · obtain ⟨b, off, z, rfl, _, HX, hc, hx1, hx2⟩ := h.at_ hlt
      by_cases hxz : x = z
      · have HF : Hid (xs.idxOf x = k) := by unfold Hid; exact idxOf_of (by rw [hxz]; exact HX.out) HN.out
        have e1 : (x == z) = true := by simpa using hxz
        clear hxz
        go_wp2
        go_ret
        exact ⟨by rw [HF.out]; rfl, rfl⟩
      · have HN' : Hid (x ∉ xs.take (k + 1)) := by
          unfold Hid; rw [take_succ_of HX.out]; intro hh
          rcases List.mem_append.1 hh with hh | hh
          · exact HN.out hh
          · simp at hh; exact hxz hh
        have e1 : (x == z) = false := by simpa using hxz
        clear hxz
        go_wp2
        go_round
        case rel => exact ⟨k + 1, by omega, by go_num, HN'⟩
        case measure => simp [intOf]; omega
    · exfalso
      have := HN.out
      rw [List.take_of_length_le (by rw [HL.out]; omega)] at this
      exact this HM.out

set_option maxRecDepth 100000 in
theorem find_ok (A : Option Addr) (n c : Nat) (xs : List Int) (x : Int) (w : World) (B : Nat) (h : Ints w B A n xs) (hn : n ≤ 100000) (hm : x ∈ xs) :
    Calls Try.prog 37 #[.slice A n c, .int .i64 x] w fun e w' => e = .returned (.int .i64 ((xs.idxOf x : Nat) : Int)) ∧ w = w' := by
  have hI := index_ok A n c xs x w B h hn hm
  go_enter Try.func37, Try.ntmps37
  go_wp2_with (go_at_call 48; refine hI.mono ?_; rintro e w' ⟨rfl, rfl⟩)
  go_ret
  exact ⟨rfl, rfl⟩

set_option maxRecDepth 100000 in
theorem run_dropN {w : World} (A : Option Addr) (n c k : Nat) (hk : k ≤ n) : (Instr.slice 54 (.slice A n c) (some (.int .i64 (k : Int))) none none).run Try.prog w = .ok (.slice (if c = k then A else A.map (·.add (k * 1))) (n - k) (c - k)) w := by
  obtain ⟨i0, hi0, hz0, hz1, hz2⟩ := info_parts infoInt
  rw [run_slice_l w 54 A n c (by kernel_rfl) .i64 (k : Int) (by omega) (by omega)]
  have hs : (sizeOf (Try.prog.elem 54)).run Try.prog w = .ok 1 w := by
    have he : Try.prog.elem 54 = 3 := by kernel_rfl
    rw [he]; simp [sizeOf, typeInfo, hi0, hz1]
  rw [hs]
  simp only [Result.andThen, sliced, Int.toNat_natCast]

set_option maxRecDepth 100000 in
theorem less_ok (A : Option Addr) (n c : Nat) (xs : List Int) (k : Nat) (x : Int) (w : World) (B : Nat) (h : Ints w B A n xs) (hn : n ≤ 100000) (hc : n ≤ c) (hx : xs[k]? = some x) :
    Calls Try.prog 41 #[.slice A n c, .int .i64 (k : Int)] w fun e w' => e = .returned (.int .i64 (lessC x (xs.drop (k + 1)) : Int)) ∧ w = w' := by
  have hlt : k < n := by have := (List.getElem?_eq_some_iff.1 hx).1; have := h.1; omega
  obtain ⟨b, off, z, hA, _, HX, hcz, hx1, hx2⟩ := h.at_ hlt
  obtain rfl : z = x := by have := HX.out; rw [hx] at this; injection this with this; exact this.symm
  have hd := h.drop_ (k := k + 1) (c := c) (by omega) hc
  have hsl := fun W => run_dropN (w := W) A n c (k + 1) (by omega)
  obtain ⟨A', hA'⟩ : ∃ A', (if c = k + 1 then A else A.map (·.add ((k + 1) * 1))) = A' := ⟨_, rfl⟩
  rw [hA'] at hd hsl
  have HL : Hid ((xs.drop (k + 1)).length = n - (k + 1)) := hd.1
  simp only [Int.natCast_add, Int.cast_ofNat_Int] at hsl
  obtain ⟨ys, hys⟩ : ∃ ys, xs.drop (k + 1) = ys := ⟨_, rfl⟩
  rw [hys] at hd HL ⊢
  clear hys hA' hx
  subst hA
  have hk0 : (k : Int) < n := by omega
  go_enter Try.func41, Try.ntmps41
  go_wp2
  go_loop [5, 13] (fun s i => ∃ j q : Nat, j ≤ n - (k + 1) ∧ i = .int .i64 j ∧ s = .int .i64 q ∧ q ≤ j ∧ Hid (q = lessC z (ys.take j))) (fun _ i => n - (intOf i).toNat)
  case atStart => exact ⟨0, 0, Nat.zero_le _, rfl, rfl, Nat.le_refl _, by unfold Hid; simp [lessC]⟩
  case round =>
    obtain ⟨j, q, hj, rfl, rfl, hq, HQ⟩ := hrel
    by_cases hjn : j < n - (k + 1)
    · obtain ⟨b2, off2, y, rfl, _, HY, hcy, hy1, hy2⟩ := hd.at_ hjn
      by_cases hyz : y < z
      · have HQ' : Hid (q + 1 = lessC z (ys.take (j + 1))) := by unfold Hid; rw [take_succ_of HY.out, lessC_snoc, if_pos hyz, HQ.out]
        have e1 : decide (y < z) = true := by simpa using hyz
        clear hyz
        go_wp2
        go_round
        case rel => exact ⟨j + 1, q + 1, by omega, by go_num, by go_num, by omega, HQ'⟩
        case measure => simp [intOf]; omega
      · have HQ' : Hid (q = lessC z (ys.take (j + 1))) := by unfold Hid; rw [take_succ_of HY.out, lessC_snoc, if_neg hyz, HQ.out]; rfl
        have e1 : decide (y < z) = false := by simpa using hyz
        clear hyz
        go_wp2
        go_round
        case rel => exact ⟨j + 1, q, by omega, by go_num, rfl, by omega, HQ'⟩
        case measure => simp [intOf]; omega
    · have HF : Hid (q = lessC z ys) := by unfold Hid; rw [HQ.out, List.take_of_length_le (by rw [HL.out]; omega)]
      go_wp2
      go_ret
      exact ⟨by rw [HF.out]; rfl, rfl⟩

set_option maxRecDepth 100000 in
theorem orders_ok (n : Nat) (w : World) (hn : n ≤ 12) :
    Calls Try.prog 42 #[.int .i64 (n : Int)] w fun e w' => e = .returned (.int .i64 (fact n : Int)) ∧ w = w' := by
  go_enter Try.func42, Try.ntmps42
  go_wp2
  go_loop [3, 4] (fun s i => ∃ (k : Nat) (q : Int), 2 ≤ k ∧ i = .int .i64 k ∧ s = .int .i64 q ∧ (k ≤ n + 1 ∨ k = 2) ∧ Hid (q = fact (k - 1))) (fun _ i => n + 1 - (intOf i).toNat)
  case atStart => exact ⟨2, 1, Nat.le_refl _, rfl, rfl, .inr rfl, rfl⟩
  case round =>
    obtain ⟨k, q, hk, rfl, rfl, hkn, HQ⟩ := hrel
    by_cases hlt : k ≤ n
    · obtain ⟨p, hp⟩ : ∃ p : Int, p = fact k := ⟨_, rfl⟩
      have hf : q * (k : Int) = p := by
        rw [HQ.out, hp]
        obtain ⟨j, rfl⟩ : ∃ j, k = j + 1 := ⟨k - 1, by omega⟩
        simp only [Nat.add_sub_cancel, fact, Int.natCast_mul]
        rw [Int.mul_comm]
      have hb := fact_le (n := k) (by omega)
      have hw : IntKind.i64.wrap (q * (k : Int)) = p := by rw [hf, wrap_eq]; exact IntWalk.wrap64_in _ ⟨by omega, by omega⟩
      have HP : Hid (p = fact (k + 1 - 1)) := by unfold Hid; rw [hp, Nat.add_sub_cancel]
      clear hf hp hb
      go_wp2
      go_round
      case rel => exact ⟨k + 1, p, by omega, by go_num, rfl, .inl (by omega), HP⟩
      case measure => simp [intOf]; omega
    · have HF : Hid (q = fact n) := by
        unfold Hid; rw [HQ.out]
        rcases hkn with h | h
        · rw [show k - 1 = n by omega]
        · subst h
          have : n = 0 ∨ n = 1 := by omega
          rcases this with rfl | rfl <;> rfl
      go_wp2
      go_ret
      exact ⟨by rw [HF.out]; rfl, rfl⟩

set_option maxRecDepth 100000 in
/-- perm.Plain, of what may be -/
theorem plain_ok (n : Nat) (w : World) (hn : n ≤ 12) :
    Calls Try.prog 13 #[.int .i64 (n : Int)] w fun e w' => e = .returned (.tuple #[.slice (some ⟨w.heap.size, 0, none⟩) n n, .int .i64 0]) ∧ OwnI w' w.heap.size 3 (some ⟨w.heap.size, 0, none⟩) n (plainL n) ∧ Below w.heap.size w w' := by
  obtain ⟨i0, hi0, hz0, hz1, hz2⟩ := info_parts infoInt
  have hmk := fun W => run_makeAll (P := Try.prog) 22 3 i0 Try.underlying22 hi0 hz0 hz1 hz2 n (by omega) W
  have hR : Hid ((plainL n).length = n) := plainL_length n
  go_enter Try.func13, Try.ntmps13
  go_wp2
  go_loopw [16] (fun i wr => ∃ k : Nat, k ≤ n ∧ i = .int .i64 k ∧ Hid (OwnI wr w.heap.size 3 (some ⟨w.heap.size, 0, none⟩) n ((plainL n).take k ++ List.replicate (n - k) 0)) ∧ Below w.heap.size w wr) (fun i _ => n - (intOf i).toNat)
  case atStart => exact ⟨0, Nat.zero_le _, rfl, own_made w 3 n w.heap.size (Nat.le_refl _) (by omega), (Below.refl _ w).alloc (Nat.le_refl _) _⟩
  case round =>
    obtain ⟨k, hk, rfl, HO, hb⟩ := hrel
    by_cases hlt : k < n
    · obtain ⟨hc, hf⟩ := HO.out.cell_ (fill_at hR.out hlt)
      have HO' : Hid (OwnI (wr.setCell ⟨w.heap.size, k, none⟩ (.int .i64 (k : Int))) w.heap.size 3 (some ⟨w.heap.size, 0, none⟩) n ((plainL n).take (k + 1) ++ List.replicate (n - (k + 1)) 0)) := by
        unfold Hid; have := HO.out.set_ k (k : Int) (by omega); rwa [fill_set (plainL_at hlt) hR.out] at this
      have hb' := hb.setCell (p := ⟨w.heap.size, k, none⟩) (Nat.le_refl _) (.int .i64 (k : Int))
      clear HO
      go_wp2
      go_roundw
      case rel => exact ⟨k + 1, by omega, by go_num, HO', hb'⟩
      case measure => simp [intOf]; omega
    · obtain rfl : k = n := by omega
      have HF : Hid (OwnI wr w.heap.size 3 (some ⟨w.heap.size, 0, none⟩) k (plainL k)) := by unfold Hid; have := HO.out; rwa [fill_done hR.out] at this
      go_wp2
      go_ret2
      exact ⟨rfl, HF.out, hb⟩
set_option maxRecDepth 100000 in
theorem plain_err (n : Int) (w : World) (hn : n < 0 ∨ 12 < n) :
    Calls Try.prog 13 #[.int .i64 n] w fun e w' => e = .returned (.tuple #[.slice none 0 0, .int .i64 1]) ∧ w = w' := by
  by_cases h0 : n < 0
  · have hd : decide (n < 0) = true := by simpa using h0
    clear hn
    go_enter Try.func13, Try.ntmps13
    go_wp2
    go_ret2
    exact ⟨rfl, rfl⟩
  · have hd : decide (n < 0) = false := by simpa using h0
    have h12 : 12 < n := by omega
    have hd2 : decide (12 < n) = true := by simpa using h12
    clear hn
    go_enter Try.func13, Try.ntmps13
    go_wp2
    go_ret2
    exact ⟨rfl, rfl⟩
end Go.Proofs.Ytnjjmeaggnlafaa
