/- How two entries are compared by an order of their modes: the contracts of cmp.Compare at int and of the closure that coo.aheadBy makes. -/
import Derived.Test.YtpjelcghlnmoeaaCooCheck
namespace Go.Proofs.Ytpjelcghlnmoeaa
open Go.RowKit

def pickE (l : List Int) (x : Int) : Int := l.getD x.toNat 0
def cmpI (x y : Int) : Int := if x < y then -1 else if y < x then 1 else 0
/-- by which of the modes in turn two places differ first -/
def cmpE : List Int → List Int → List Int → Int
  | [], _, _ => 0
  | m :: os, a, b => if cmpI (pickE a m) (pickE b m) = 0 then cmpE os a b else cmpI (pickE a m) (pickE b m)

set_option maxRecDepth 100000 in
theorem isNaN_ok (x : Int) (w : World) : Calls Try.prog 89 #[.int .i64 x] w fun e w' => e = .returned (.bool false) ∧ w' = w := by
  have e1 : (x == x) = true := by simp
  have e2 : (x != x) = false := by simp
  go_enter Try.func89, Try.ntmps89
  go_wp2
  go_ret
  exact ⟨rfl, rfl⟩
set_option maxRecDepth 100000 in
theorem compare_ok (x y : Int) (w : World) : Calls Try.prog 73 #[.int .i64 x, .int .i64 y] w fun e w' => e = .returned (.int .i64 (cmpI x y)) ∧ w' = w := by
  have hN := fun z W => isNaN_ok z W
  by_cases h1 : x < y
  · have HF : Hid (cmpI x y = -1) := by unfold Hid cmpI; rw [if_pos h1]
    have e1 : decide (x < y) = true := by simpa using h1
    clear h1
    go_enter Try.func73, Try.ntmps73
    go_wp2_with (go_at_call 89; refine (hN _ _).mono ?_; rintro e w' ⟨rfl, rfl⟩)
    go_ret
    exact ⟨by rw [HF.out]; rfl, rfl⟩
  · have e1 : decide (x < y) = false := by simpa using h1
    by_cases h2 : y < x
    · have HF : Hid (cmpI x y = 1) := by unfold Hid cmpI; rw [if_neg h1, if_pos h2]
      have e2 : decide (y < x) = true := by simpa using h2
      clear h1 h2
      go_enter Try.func73, Try.ntmps73
      go_wp2_with (go_at_call 89; refine (hN _ _).mono ?_; rintro e w' ⟨rfl, rfl⟩)
      go_ret
      exact ⟨by rw [HF.out]; rfl, rfl⟩
    · have HF : Hid (cmpI x y = 0) := by unfold Hid cmpI; rw [if_neg h1, if_neg h2]
      have e2 : decide (y < x) = false := by simpa using h2
      clear h1 h2
      go_enter Try.func73, Try.ntmps73
      go_wp2_with (go_at_call 89; refine (hN _ _).mono ?_; rintro e w' ⟨rfl, rfl⟩)
      go_ret
      exact ⟨by rw [HF.out]; rfl, rfl⟩
theorem cmpI_bd (x y : Int) : -1 ≤ cmpI x y ∧ cmpI x y ≤ 1 := by unfold cmpI; split <;> (try split) <;> omega

theorem cmpE_cons {os a b : List Int} {k : Nat} {m : Int} (h : os[k]? = some m) : cmpE (os.drop k) a b = if cmpI (pickE a m) (pickE b m) = 0 then cmpE (os.drop (k + 1)) a b else cmpI (pickE a m) (pickE b m) := by
  rw [drop_of h]; rfl
theorem pickE_of {l : List Int} {m y : Int} (h : l[m.toNat]? = some y) : pickE l m = y := by unfold pickE; rw [List.getD_eq_getElem?_getD, h]; rfl

set_option maxRecDepth 100000 in
set_option maxHeartbeats 1000000 in
theorem ahead_ok (x y : Ent) (Ao : Option Addr) (ro co : Nat) (os : List Int) (bo : Nat) (w : World) (h1 : Ints w w.heap.size x.A x.n x.cs) (h2 : Ints w w.heap.size y.A y.n y.cs) (ho : Ints w w.heap.size Ao ro os) (hoc : w.cell? ⟨bo, 0, none⟩ = some (.slice Ao ro co)) (hr : ro ≤ 100000)
   (hin : ∀ m ∈ os, 0 ≤ m ∧ m < x.n ∧ m < y.n) :
    Calls Try.prog 72 #[.agg #[.slice x.A x.n x.c, .int .i64 x.v], .agg #[.slice y.A y.n y.c, .int .i64 y.v], .pointer (some ⟨bo, 0, none⟩)] w fun e w' => e = .returned (.int .i64 (cmpE os x.cs y.cs)) ∧ Below w.heap.size w w' := by
  obtain ⟨xA, xn, xc, xcs, xv⟩ := x
  obtain ⟨yA, yn, yc, ycs, yv⟩ := y
  dsimp only at h1 h2 hin ⊢
  have HLo : Hid (os.length = ro) := ho.1
  have HIN := Lib.hid hin
  have hC := fun a b W => compare_ok a b W
  have c1 := heap_alloc_new w (.cells #[.slice xA xn xc, .int .i64 xv] 37)
  have c2 := heap_alloc_new (w.alloc (.cells #[.slice xA xn xc, .int .i64 xv] 37)) (.cells #[.slice yA yn yc, .int .i64 yv] 37)
  rw [World.size_alloc] at c2
  have b1 := cellPast (.cells #[.slice yA yn yc, .int .i64 yv] 37) ((cell_of_row _ _ 0 _ _ (0, 0) c1 : _ = some (.slice xA xn xc)))
  have b2 : ((w.alloc (.cells #[.slice xA xn xc, .int .i64 xv] 37)).alloc (.cells #[.slice yA yn yc, .int .i64 yv] 37)).cell? ⟨w.heap.size + 1, 0, none⟩ = some (.slice yA yn yc) := cell_of_row _ _ 0 _ _ (0, 0) c2
  have b3 := cellPast (.cells #[.slice yA yn yc, .int .i64 yv] 37) (cellPast (.cells #[.slice xA xn xc, .int .i64 xv] 37) hoc)
  have i1 := (h1.alloc (Nat.le_refl _) (.cells #[.slice xA xn xc, .int .i64 xv] 37)).alloc (by simp) (.cells #[.slice yA yn yc, .int .i64 yv] 37)
  have i2 := (h2.alloc (Nat.le_refl _) (.cells #[.slice xA xn xc, .int .i64 xv] 37)).alloc (by simp) (.cells #[.slice yA yn yc, .int .i64 yv] 37)
  have i3 := (ho.alloc (Nat.le_refl _) (.cells #[.slice xA xn xc, .int .i64 xv] 37)).alloc (by simp) (.cells #[.slice yA yn yc, .int .i64 yv] 37)
  have hB : Below w.heap.size w ((w.alloc (.cells #[.slice xA xn xc, .int .i64 xv] 37)).alloc (.cells #[.slice yA yn yc, .int .i64 yv] 37)) := ((Below.refl _ w).alloc (Nat.le_refl _) _).alloc (by simp) _
  clear c1 c2 hin
  go_enter Try.func72, Try.ntmps72
  go_wp2
  have hz1 : w.heap.size < ((w.alloc (.cells #[.slice xA xn xc, .int .i64 xv] 37)).alloc (.cells #[.slice yA yn yc, .int .i64 yv] 37)).heap.size := by simp; omega
  have hz2 : w.heap.size + 1 < ((w.alloc (.cells #[.slice xA xn xc, .int .i64 xv] 37)).alloc (.cells #[.slice yA yn yc, .int .i64 yv] 37)).heap.size := by simp
  obtain ⟨W2, hW2⟩ : ∃ W2, ((w.alloc (.cells #[.slice xA xn xc, .int .i64 xv] 37)).alloc (.cells #[.slice yA yn yc, .int .i64 yv] 37)) = W2 := ⟨_, rfl⟩
  rw [hW2] at b1 b2 b3 i1 i2 i3 hB hz1 hz2 ⊢
  clear hW2
  go_loopw [11] (fun i wr => ∃ (k : Nat), k ≤ ro ∧ i = .int .i64 k ∧ Below W2.heap.size W2 wr ∧ Hid (cmpE os xcs ycs = cmpE (os.drop k) xcs ycs)) (fun i _ => ro - (intOf i).toNat)
  case atStart => exact ⟨0, Nat.zero_le _, rfl, Below.refl _ _, rfl⟩
  case round =>
    obtain ⟨k, hk, rfl, hb, HC⟩ := hrel
    have d1 := (hb.cell (p := ⟨w.heap.size, 0, none⟩) hz1).trans b1
    have d2 := (hb.cell (p := ⟨w.heap.size + 1, 0, none⟩) hz2).trans b2
    have hbb := hB.trans (hb.mono hB.size)
    by_cases hlt : k < ro
    · obtain ⟨bm, om, m, rfl, _, HM, hcm, _, _⟩ := ((i3.more hB.size).below hb).at_ hlt
      have hin := HIN.out m (List.mem_of_getElem? HM.out)
      obtain ⟨bx, ox, vx, rfl, _, HVX, hcx, hx1, hx2⟩ := ((i1.more hB.size).below hb).at_ (k := m.toNat) (by omega)
      obtain ⟨by_, oy, vy, rfl, _, HVY, hcy, hy1, hy2⟩ := ((i2.more hB.size).below hb).at_ (k := m.toNat) (by omega)
      have hcons := cmpE_cons (a := xcs) (b := ycs) HM.out
      rw [pickE_of HVX.out, pickE_of HVY.out] at hcons
      have hm0 : 0 ≤ m := hin.1
      have hmx : m < xn := hin.2.1
      have hmy : m < yn := hin.2.2
      clear hin
      obtain ⟨r, hr⟩ : ∃ r, cmpI vx vy = r := ⟨_, rfl⟩
      rw [hr] at hcons
      have hC2 := fun W => hC vx vy W
      rw [hr] at hC2
      clear hr hC
      by_cases hr0 : r = 0
      · rw [if_pos hr0] at hcons
        have HC2 : Hid (cmpE os xcs ycs = cmpE (os.drop (k + 1)) xcs ycs) := HC.out.trans hcons
        have e1 : (r == 0) = true := by simpa using hr0
        have e2 : (r != 0) = false := by simpa using hr0
        clear hcons hr0
        go_wp2
        go_quiet ((go_at_call 73; exact Calls.quiet_of_same (hC2 _)))
        go_wp2
        go_roundw
        case rel => exact ⟨k + 1, by omega, by go_num, below_drewN hb _, HC2⟩
        case measure => simp [intOf]; omega
      · rw [if_neg hr0] at hcons
        have HF : Hid (cmpE os xcs ycs = r) := HC.out.trans hcons
        have e1 : (r == 0) = false := by simpa using hr0
        have e2 : (r != 0) = true := by simpa using hr0
        clear hcons hr0
        go_wp2
        go_quiet ((go_at_call 73; exact Calls.quiet_of_same (hC2 _)))
        go_wp2
        go_ret
        exact ⟨by rw [HF.out]; rfl, below_drewN hbb _⟩
    · have HF : Hid (cmpE os xcs ycs = 0) := by unfold Hid; rw [HC.out, List.drop_of_length_le (by rw [HLo.out]; omega)]; rfl
      go_wp2
      go_ret
      exact ⟨by rw [HF.out]; rfl, hbb⟩
end Go.Proofs.Ytpjelcghlnmoeaa
