/- The contracts of the document's number, place, At and Coord. -/
import Derived.Test.YtpjelcghlnmoeaaInside
import Derived.Test.YtpjelcghlnmoeaaMath
namespace Go.Proofs.Ytpjelcghlnmoeaa
open Go.RowKit

set_option maxRecDepth 100000 in
theorem number_any (A A2 : Option Addr) (n n2 c c2 : Nat) (xs cs : List Int) (w : World) (B : Nat) (h : Ints w B A n xs) (h2 : Ints w B A2 n2 cs) (hn : n ≤ 100000) (hi : Inn xs cs) (hM : prodI xs ≤ 4611686018427387903) :
    Calls Try.prog 81 #[.slice A n c, .slice A2 n2 c2] w fun e w' => e = .returned (.int .i64 (numR xs cs)) ∧ ∃ m, w' = w.drewN m := by
  have HL : Hid (xs.length = n) := h.1
  have HL2 : Hid (cs.length = n2) := h2.1
  obtain rfl : n2 = n := by have := hi.len; rw [HL.out, HL2.out] at this; exact this.symm
  go_enter Try.func81, Try.ntmps81
  go_wp2
  go_loopw [5, 9] (fun v i wr => ∃ (k m : Nat) (q P : Int), k ≤ n2 ∧ i = .int .i64 k ∧ v = .int .i64 q ∧ wr = w.drewN m ∧ 0 ≤ q ∧ q < P ∧ Hid (P = prodI (xs.take k)) ∧ Hid (q = hor (xs.take k) (cs.take k) 0)) (fun _ i _ => n2 - (intOf i).toNat)
  case atStart => exact ⟨0, 0, 0, 1, Nat.zero_le _, rfl, rfl, rfl, by omega, by omega, rfl, by unfold Hid; simp [hor]⟩
  case round =>
    obtain ⟨k, m, q, P, hk, rfl, rfl, rfl, hq0, hqP, HP, HQ⟩ := hrel
    by_cases hlt : k < n2
    · obtain ⟨b, off, x, rfl, _, HX, hc, hx1, hx2⟩ := h.at_ hlt
      obtain ⟨b2, off2, y, rfl, _, HY, hc2, hy1, hy2⟩ := h2.at_ hlt
      have hxy := hi.at_ HX.out HY.out
      have hk0 : (0 : Int) ≤ k := by omega
      have hk1 : (k : Int) < n2 := by omega
      have hPx : P * x ≤ 4611686018427387903 := by
        have := prodI_take_le hi.pos (k + 1)
        rw [take_succ_of HX.out, prodI_append, ← HP.out] at this
        simp [prodI] at this; omega
      have hb := step_bound hq0 hqP hxy.1 hxy.2
      have HP' : Hid (P * x = prodI (xs.take (k + 1))) := by unfold Hid; rw [take_succ_of HX.out, prodI_append, ← HP.out]; simp [prodI]
      have HQ' : Hid (q * x + y = hor (xs.take (k + 1)) (cs.take (k + 1)) 0) := by
        unfold Hid; rw [take_succ_of HX.out, take_succ_of HY.out, hor_snoc (by have := HL.out; have := HL2.out; simp; omega), ← HQ.out]
      obtain ⟨hb1, hb2, hb3⟩ := hb
      obtain ⟨p, hp⟩ : ∃ p, q * x = p := ⟨_, rfl⟩
      have hwp : IntKind.i64.wrap (q * x) = p := by rw [wrap_eq, hp]; exact IntWalk.wrap64_in _ ⟨by omega, by omega⟩
      have hws : IntKind.i64.wrap (p + y) = p + y := by rw [wrap_eq]; exact IntWalk.wrap64_in _ ⟨by omega, by omega⟩
      have HH := Lib.hid (And.intro hb2 hb3)
      rw [hp] at HH HQ'
      clear hb1 hb2 hb3 hp hPx hxy
      go_wp2
      go_quiet (fail)
      go_wp2
      go_roundw
      case rel => exact ⟨k + 1, _, p + y, P * x, by omega, by go_num, rfl, rfl, HH.out.1, HH.out.2, HP', HQ'⟩
      case measure => simp [intOf]; omega
    · have HF : Hid (q = numR xs cs) := by
        unfold Hid; rw [HQ.out, List.take_of_length_le (by rw [HL.out]; omega), List.take_of_length_le (by rw [HL2.out]; omega), hor_eq hi.len]; simp
      go_wp2
      go_ret
      exact ⟨by rw [← HF.out]; rfl, _, rfl⟩

/-- the document's At, whole -/
def atF (xs cs : List Int) : Int × Int := if (cellsF xs).2 = 0 then if insideF xs cs = true then (numR xs cs, 0) else (0, 3) else (0, (cellsF xs).2)

set_option maxRecDepth 100000 in
theorem refAt_any (A A2 : Option Addr) (n n2 c c2 : Nat) (xs cs : List Int) (w : World) (B : Nat) (h : Ints w B A n xs) (h2 : Ints w B A2 n2 cs) (hn : n ≤ 9223372036854775807) (hn2 : n2 ≤ 9223372036854775807) :
    Calls Try.prog 54 #[.slice A n c, .slice A2 n2 c2] w fun e w' => e = .returned (.tuple #[.int .i64 (atF xs cs).1, .int .i64 (atF xs cs).2]) ∧ ∃ m, w' = w.drewN m := by
  have HC := fun W (hW : Ints W B A n xs) => refCells_any A n c xs W B hW hn
  by_cases hcf : (cellsF xs).2 = 0
  · have h5 : n ≤ 100000 := by have := (cellsF_ok hcf).1; have := h.1; omega
    have HI := fun W (hW : Ints W B A n xs) (hW2 : Ints W B A2 n2 cs) => refIn_any A A2 n n2 c c2 xs cs W B hW hW2 h5 hn2
    obtain ⟨N, hN⟩ : ∃ N, (cellsF xs).1 = N := ⟨_, rfl⟩
    rw [hcf, hN] at HC
    by_cases hin : insideF xs cs = true
    · have hI := inn_of_insideF hin
      have HN := fun W (hW : Ints W B A n xs) (hW2 : Ints W B A2 n2 cs) => number_any A A2 n n2 c c2 xs cs W B hW hW2 h5 hI (cellsF_ok_pos hcf hI.pos).2
      have HF : Hid (atF xs cs = (numR xs cs, 0)) := by unfold Hid atF; rw [if_pos hcf, if_pos hin]
      rw [hin] at HI
      clear hcf hN hin hI
      go_enter Try.func54, Try.ntmps54
      go_wp2_with (first | (go_at_call 53; refine (HC _ h).mono ?_; rintro e w' ⟨rfl, rfl⟩) | (go_at_call 80; refine (HI _ h h2).mono ?_; rintro e w' ⟨rfl, m, rfl⟩) | (go_at_call 81; refine (HN _ (h.drewN _) (h2.drewN _)).mono ?_; rintro e w' ⟨rfl, m2, rfl⟩))
      go_ret2
      exact ⟨by rw [HF.out]; rfl, _, rfl⟩
    · have hin' : insideF xs cs = false := by simpa using hin
      have HF : Hid (atF xs cs = (0, 3)) := by unfold Hid atF; rw [if_pos hcf, if_neg hin]
      rw [hin'] at HI
      clear hcf hN hin hin'
      go_enter Try.func54, Try.ntmps54
      go_wp2_with (first | (go_at_call 53; refine (HC _ h).mono ?_; rintro e w' ⟨rfl, rfl⟩) | (go_at_call 80; refine (HI _ h h2).mono ?_; rintro e w' ⟨rfl, m, rfl⟩))
      go_ret2
      exact ⟨by rw [HF.out]; rfl, _, rfl⟩
  · have HF : Hid (atF xs cs = (0, (cellsF xs).2)) := by unfold Hid atF; rw [if_neg hcf]
    obtain ⟨N, hN⟩ : ∃ N, (cellsF xs).1 = N := ⟨_, rfl⟩
    obtain ⟨E, hE⟩ : ∃ E, (cellsF xs).2 = E := ⟨_, rfl⟩
    rw [hN, hE] at HC
    rw [hE] at hcf HF
    have he1 : (E == 0) = false := by simpa using hcf
    have he2 : (E != 0) = true := by simpa using hcf
    clear hN hE hcf
    go_enter Try.func54, Try.ntmps54
    go_wp2_with (go_at_call 53; refine (HC _ h).mono ?_; rintro e w' ⟨rfl, rfl⟩)
    go_ret2
    exact ⟨by rw [HF.out]; rfl, 0, rfl⟩
end Go.Proofs.Ytpjelcghlnmoeaa
