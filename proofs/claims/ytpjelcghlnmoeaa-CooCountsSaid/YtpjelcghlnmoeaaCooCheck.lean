/- The contract of coo.Check. -/
import Derived.Test.YtpjelcghlnmoeaaEnts
import Derived.Test.YtpjelcghlnmoeaaAt
import Derived.Test.YtpjelcghlnmoeaaSumLaw
namespace Go.Proofs.Ytpjelcghlnmoeaa
open Go.RowKit

/-- the error of a list -/
def cooF (xs : List Int) (es : List Ent) : Int := if (cellsF xs).2 = 0 then if 65536 < es.length then 2 else if (es.all fun x => insideF xs x.cs) = true then 0 else 3 else (cellsF xs).2
theorem all_take {es : List Ent} {p : Ent → Bool} {k : Nat} {x : Ent} (h0 : (es.take k).all p = true) (hx : es[k]? = some x) (hp : p x = true) : (es.take (k + 1)).all p = true := by
  rw [take_succ_of hx, List.all_append, h0]; simp [hp]
theorem all_miss {es : List Ent} {p : Ent → Bool} {k : Nat} {x : Ent} (hx : es[k]? = some x) (hp : p x = false) : es.all p = false := by
  rw [List.all_eq_false]
  exact ⟨x, List.mem_of_getElem? hx, by simp [hp]⟩

set_option maxRecDepth 100000 in
set_option maxHeartbeats 2000000 in
theorem cooCheck_any (A B : Option Addr) (n c m e : Nat) (xs : List Int) (es : List Ent) (w : World) (h : Ints w w.heap.size A n xs) (hn : n ≤ 9223372036854775807) (hv : Ents w w.heap.size B m es) (hm : m ≤ 9223372036854775807) :
    Calls Try.prog 23 #[.agg #[.slice A n c, .slice B m e]] w fun x w' => x = .returned (.int .i64 (cooF xs es)) ∧ Below w.heap.size w w' := by
  have HC := fun W (hb : Below w.heap.size w W) => cells_any A n c xs W W.heap.size ((h.below hb).more hb.size) hn
  have hB0 : Below w.heap.size w (w.alloc (.cells #[.slice A n c, .slice B m e] 25)) := (Below.refl _ w).alloc (Nat.le_refl _) _
  have z0 := heap_alloc_new w (.cells #[.slice A n c, .slice B m e] 25)
  have HL := Lib.hid hv.1
  obtain ⟨N, hN⟩ : ∃ N, (cellsF xs).1 = N := ⟨_, rfl⟩
  obtain ⟨E, hE⟩ : ∃ E, (cellsF xs).2 = E := ⟨_, rfl⟩
  rw [hN, hE] at HC
  by_cases hE0 : E = 0
  · subst hE0
    by_cases hbig : 65536 < m
    · have HF : Hid (cooF xs es = 2) := by unfold Hid cooF; rw [if_pos hE, if_pos (by rw [HL.out]; exact hbig)]
      have d1 : decide (65536 < (m : Int)) = true := by simp; omega
      clear hN hE
      go_enter Try.func23, Try.ntmps23
      go_wp2_with (go_at_call 51; refine (HC _ hB0).mono ?_; rintro x w1 ⟨rfl, rfl⟩)
      go_ret
      exact ⟨by rw [HF.out]; rfl, hB0⟩
    · have d1 : decide (65536 < (m : Int)) = false := by simp; omega
      have HE := Lib.hid hE
      clear hN hE
      go_enter Try.func23, Try.ntmps23
      go_wp2_with (go_at_call 51; refine (HC _ hB0).mono ?_; rintro x w1 ⟨rfl, rfl⟩)
      go_loopw [25] (fun i wr => ∃ q : Nat, q ≤ m ∧ i = .int .i64 q ∧ Hid (((es.take q).all fun x => insideF xs x.cs) = true) ∧ wr.heap[w.heap.size]? = some (.cells #[.slice A n c, .slice B m e] 25 (0, 0)) ∧ Below w.heap.size w wr) (fun i _ => m - (intOf i).toNat)
      case atStart => exact ⟨0, Nat.zero_le _, rfl, by unfold Hid; simp, z0, hB0⟩
      case round =>
        clear z0
        obtain ⟨q, hq, rfl, HA, z0, hT⟩ := hrel
        obtain ⟨k0, k1, _, _⟩ := dCells z0
        by_cases hlt : q < m
        · obtain ⟨b, off, y, rfl, hbb, HY, hc0, hc1, iy, hy1, hy2, hy3, hy4⟩ := (hv.below hT).at_ hlt
          have m0 := fun o => cellPast o k0
          have hc2 : wr.cell? ⟨b, off + q * 2, none⟩ = some (.slice y.A y.n y.c) := by rw [Nat.mul_comm q 2]; exact hc0
          have hc3 : wr.cell? ⟨b, off + q * 2 + 1, none⟩ = some (.int .i64 y.v) := by rw [Nat.mul_comm q 2]; exact hc1
          obtain ⟨yA, yn, yc, ycs, yv⟩ := y
          dsimp only at hc0 hc1 hc2 hc3 iy hy1 hy2 hy3 hy4
          have HAT := fun (W : World) (hb : Below w.heap.size w W) (i : Ints W W.heap.size yA yn ycs) => at_any A yA n yn c yc xs ycs W ((h.below hb).more hb.size) i hn hy1
          have hT2 := hT.alloc hT.size (.cells #[.slice yA yn yc, .int .i64 yv] 37)
          have i2 := (iy.more hT.size).alloc' (.cells #[.slice yA yn yc, .int .i64 yv] 37)
          have z1 := (Below.heap_alloc wr (.cells #[.slice yA yn yc, .int .i64 yv] 37) _ (Array.getElem?_eq_some_iff.1 z0).1).trans z0
          by_cases hin : insideF xs ycs = true
          · have HF : atF xs ycs = (numR xs ycs, 0) := by unfold atF; rw [if_pos HE.out, if_pos hin]
            rw [HF] at HAT
            have HN : Hid (((es.take (q + 1)).all fun x => insideF xs x.cs) = true) := by unfold Hid; exact all_take HA.out HY.out hin
            clear HF hin
            go_wp2_with (go_at_call 52; refine (HAT _ hT2 i2).mono ?_; rintro x w5 ⟨rfl, hb5⟩; replace z1 := dKeep hb5 z1; replace hT2 := hT2.trans (hb5.mono hT2.size))
            go_roundw
            case rel => exact ⟨q + 1, by omega, by go_num, HN, z1, hT2⟩
            case measure => simp [intOf]; omega
          · have hin' : insideF xs ycs = false := by simpa using hin
            have HF : atF xs ycs = (0, 3) := by unfold atF; rw [if_pos HE.out, if_neg hin]
            rw [HF] at HAT
            have HN : Hid (cooF xs es = 3) := by unfold Hid cooF; rw [if_pos HE.out, if_neg (by rw [HL.out]; exact hbig), if_neg (by rw [all_miss HY.out hin']; decide)]
            clear HF hin hin'
            go_wp2_with (go_at_call 52; refine (HAT _ hT2 i2).mono ?_; rintro x w5 ⟨rfl, hb5⟩; replace hT2 := hT2.trans (hb5.mono hT2.size))
            go_ret
            exact ⟨by rw [HN.out]; rfl, hT2⟩
        · have HF : Hid (cooF xs es = 0) := by unfold Hid cooF; rw [if_pos HE.out, if_neg (by rw [HL.out]; exact hbig), if_pos (by have := HA.out; rwa [List.take_of_length_le (by rw [HL.out]; omega)] at this)]
          go_wp2_with fail
          go_ret
          exact ⟨by rw [HF.out]; rfl, hT⟩
  · have HF : Hid (cooF xs es = E) := by unfold Hid cooF; rw [if_neg (by rw [hE]; exact hE0), hE]
    have he1 : (E == 0) = false := by simpa using hE0
    have he2 : (E != 0) = true := by simpa using hE0
    clear hN hE hE0
    go_enter Try.func23, Try.ntmps23
    go_wp2_with (go_at_call 51; refine (HC _ hB0).mono ?_; rintro x w1 ⟨rfl, rfl⟩)
    go_ret
    exact ⟨by rw [HF.out]; rfl, hB0⟩
theorem refAtB (A A2 : Option Addr) (n n2 c c2 : Nat) (xs cs : List Int) (w : World) (h : Ints w w.heap.size A n xs) (h2 : Ints w w.heap.size A2 n2 cs) (hn : n ≤ 9223372036854775807) (hn2 : n2 ≤ 9223372036854775807) :
    Calls Try.prog 54 #[.slice A n c, .slice A2 n2 c2] w fun e w' => e = .returned (.tuple #[.int .i64 (atF xs cs).1, .int .i64 (atF xs cs).2]) ∧ Below w.heap.size w w' :=
  (refAt_any A A2 n n2 c c2 xs cs w w.heap.size h h2 hn hn2).mono fun e w' ⟨he, m, hm⟩ => ⟨he, by subst hm; exact below_drewN (Below.refl _ _) m⟩
set_option maxRecDepth 100000 in
set_option maxHeartbeats 2000000 in
theorem refCooCheck_any (A B : Option Addr) (n c m e : Nat) (xs : List Int) (es : List Ent) (w : World) (h : Ints w w.heap.size A n xs) (hn : n ≤ 9223372036854775807) (hv : Ents w w.heap.size B m es) (hm : m ≤ 9223372036854775807) :
    Calls Try.prog 24 #[.agg #[.slice A n c, .slice B m e]] w fun x w' => x = .returned (.int .i64 (cooF xs es)) ∧ Below w.heap.size w w' := by
  have HC := fun W (hb : Below w.heap.size w W) => refCells_any A n c xs W W.heap.size ((h.below hb).more hb.size) hn
  have hB0 : Below w.heap.size w (w.alloc (.cells #[.slice A n c, .slice B m e] 25)) := (Below.refl _ w).alloc (Nat.le_refl _) _
  have z0 := heap_alloc_new w (.cells #[.slice A n c, .slice B m e] 25)
  have HL := Lib.hid hv.1
  obtain ⟨N, hN⟩ : ∃ N, (cellsF xs).1 = N := ⟨_, rfl⟩
  obtain ⟨E, hE⟩ : ∃ E, (cellsF xs).2 = E := ⟨_, rfl⟩
  rw [hN, hE] at HC
  by_cases hE0 : E = 0
  · subst hE0
    by_cases hbig : 65536 < m
    · have HF : Hid (cooF xs es = 2) := by unfold Hid cooF; rw [if_pos hE, if_pos (by rw [HL.out]; exact hbig)]
      have d1 : decide (65536 < (m : Int)) = true := by simp; omega
      clear hN hE
      go_enter Try.func24, Try.ntmps24
      go_wp2_with (go_at_call 53; refine (HC _ hB0).mono ?_; rintro x w1 ⟨rfl, rfl⟩)
      go_ret
      exact ⟨by rw [HF.out]; rfl, hB0⟩
    · have d1 : decide (65536 < (m : Int)) = false := by simp; omega
      have HE := Lib.hid hE
      clear hN hE
      go_enter Try.func24, Try.ntmps24
      go_wp2_with (go_at_call 53; refine (HC _ hB0).mono ?_; rintro x w1 ⟨rfl, rfl⟩)
      go_loopw [25] (fun i wr => ∃ q : Nat, q ≤ m ∧ i = .int .i64 q ∧ Hid (((es.take q).all fun x => insideF xs x.cs) = true) ∧ wr.heap[w.heap.size]? = some (.cells #[.slice A n c, .slice B m e] 25 (0, 0)) ∧ Below w.heap.size w wr) (fun i _ => m - (intOf i).toNat)
      case atStart => exact ⟨0, Nat.zero_le _, rfl, by unfold Hid; simp, z0, hB0⟩
      case round =>
        clear z0
        obtain ⟨q, hq, rfl, HA, z0, hT⟩ := hrel
        obtain ⟨k0, k1, _, _⟩ := dCells z0
        by_cases hlt : q < m
        · obtain ⟨b, off, y, rfl, hbb, HY, hc0, hc1, iy, hy1, hy2, hy3, hy4⟩ := (hv.below hT).at_ hlt
          have m0 := fun o => cellPast o k0
          have hc2 : wr.cell? ⟨b, off + q * 2, none⟩ = some (.slice y.A y.n y.c) := by rw [Nat.mul_comm q 2]; exact hc0
          have hc3 : wr.cell? ⟨b, off + q * 2 + 1, none⟩ = some (.int .i64 y.v) := by rw [Nat.mul_comm q 2]; exact hc1
          obtain ⟨yA, yn, yc, ycs, yv⟩ := y
          dsimp only at hc0 hc1 hc2 hc3 iy hy1 hy2 hy3 hy4
          have HAT := fun (W : World) (hb : Below w.heap.size w W) (i : Ints W W.heap.size yA yn ycs) => refAtB A yA n yn c yc xs ycs W ((h.below hb).more hb.size) i hn hy1
          have hT2 := hT.alloc hT.size (.cells #[.slice yA yn yc, .int .i64 yv] 37)
          have i2 := (iy.more hT.size).alloc' (.cells #[.slice yA yn yc, .int .i64 yv] 37)
          have z1 := (Below.heap_alloc wr (.cells #[.slice yA yn yc, .int .i64 yv] 37) _ (Array.getElem?_eq_some_iff.1 z0).1).trans z0
          by_cases hin : insideF xs ycs = true
          · have HF : atF xs ycs = (numR xs ycs, 0) := by unfold atF; rw [if_pos HE.out, if_pos hin]
            rw [HF] at HAT
            have HN : Hid (((es.take (q + 1)).all fun x => insideF xs x.cs) = true) := by unfold Hid; exact all_take HA.out HY.out hin
            clear HF hin
            go_wp2_with (go_at_call 54; refine (HAT _ hT2 i2).mono ?_; rintro x w5 ⟨rfl, hb5⟩; replace z1 := dKeep hb5 z1; replace hT2 := hT2.trans (hb5.mono hT2.size))
            go_roundw
            case rel => exact ⟨q + 1, by omega, by go_num, HN, z1, hT2⟩
            case measure => simp [intOf]; omega
          · have hin' : insideF xs ycs = false := by simpa using hin
            have HF : atF xs ycs = (0, 3) := by unfold atF; rw [if_pos HE.out, if_neg hin]
            rw [HF] at HAT
            have HN : Hid (cooF xs es = 3) := by unfold Hid cooF; rw [if_pos HE.out, if_neg (by rw [HL.out]; exact hbig), if_neg (by rw [all_miss HY.out hin']; decide)]
            clear HF hin hin'
            go_wp2_with (go_at_call 54; refine (HAT _ hT2 i2).mono ?_; rintro x w5 ⟨rfl, hb5⟩; replace hT2 := hT2.trans (hb5.mono hT2.size))
            go_ret
            exact ⟨by rw [HN.out]; rfl, hT2⟩
        · have HF : Hid (cooF xs es = 0) := by unfold Hid cooF; rw [if_pos HE.out, if_neg (by rw [HL.out]; exact hbig), if_pos (by have := HA.out; rwa [List.take_of_length_le (by rw [HL.out]; omega)] at this)]
          go_wp2_with fail
          go_ret
          exact ⟨by rw [HF.out]; rfl, hT⟩
  · have HF : Hid (cooF xs es = E) := by unfold Hid cooF; rw [if_neg (by rw [hE]; exact hE0), hE]
    have he1 : (E == 0) = false := by simpa using hE0
    have he2 : (E != 0) = true := by simpa using hE0
    clear hN hE hE0
    go_enter Try.func24, Try.ntmps24
    go_wp2_with (go_at_call 53; refine (HC _ hB0).mono ?_; rintro x w1 ⟨rfl, rfl⟩)
    go_ret
    exact ⟨by rw [HF.out]; rfl, hB0⟩
end Go.Proofs.Ytpjelcghlnmoeaa
