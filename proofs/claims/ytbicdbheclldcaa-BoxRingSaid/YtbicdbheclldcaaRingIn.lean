/- The walk of the law BoxRing behind its early exits. -/
import Derived.Test.YtbicdbheclldcaaRingWalk
import Derived.Test.YtbicdbheclldcaaOnes
import Derived.Deep.RegionHeld3
namespace Go.Proofs.Ytbicdbheclldcaa
open Go.RowKit

theorem ring_parts {xs : List Int} {m : Nat} (hck : checkF xs m = 0) : (laidF xs).2 = 0 ∧ (laidF xs).1 = (m : Int) ∧ m ≤ 65536 ∧ xs.length ≤ 4 := by
  have hn := laidF_nonneg (xs := xs)
  unfold checkF at hck
  split at hck
  · rename_i h
    split at hck
    · rename_i h2; exact ⟨h, h2.symm, by omega, (cellsF_ok (laidF_ok h).1).1⟩
    · simp at hck
  · rename_i h; exact absurd hck h
theorem sameF_refl {xs : List Int} {m : Nat} (ys : List Int) (hck : checkF xs m = 0) : sameF xs m xs ys ys = true := by simp [sameF, hck]
theorem rKeep {w1 w2 : World} {g : Nat} {o : Obj} (h : Below w1.heap.size w1 w2) (hg : w1.heap[g]? = some o) : w2.heap[g]? = some o := (h.block g (Array.getElem?_eq_some_iff.1 hg).1).trans hg
theorem rCells {W : World} {g : Nat} {u v : Value} {t : TypeId} (h : W.heap[g]? = some (.cells #[u, v] t (0, 0))) : W.cell? ⟨g, 0, none⟩ = some u ∧ W.cell? ⟨g, 1, none⟩ = some v :=
  ⟨by simpa using cell_of_row _ _ 0 _ t (0, 0) h, by simpa using cell_of_row _ _ 1 _ t (0, 0) h⟩
section
variable {xs y1 y2 : List Int} {n m : Nat} {A B A2 B2 : Option Addr} {c e c2 e2 : Nat} {W : World}
def RPost (f : Nat → Option Addr → Nat → Option Addr → Nat → Ending) (xs y : List Int) (n m : Nat) (W : World) (x : Ending) (W' : World) : Prop := ∃ A1 c1 A3 c3, x = f 0 A1 c1 A3 c3 ∧ Ints W' W'.heap.size A1 n xs ∧ Ints W' W'.heap.size A3 m y ∧ Below W.heap.size W W'
theorem ringAdd (hck : checkF xs m = 0) (hn : n ≤ 20) (i1 : Ints W W.heap.size A n xs) (i2 : Ints W W.heap.size B m y1) (i3 : Ints W W.heap.size A2 n xs) (i4 : Ints W W.heap.size B2 m y2) :
    Calls Try.prog 29 #[.agg #[.slice A n c, .slice B m e], .agg #[.slice A2 n c2, .slice B2 m e2]] W (RPost (fun _ A1 c1 A3 c3 => .returned (.agg #[.slice A1 n c1, .slice A3 m c3])) xs (addL y1 y2) n m W) :=
  (ring1_ok A B A2 B2 n c m e n c2 e2 xs y1 y2 W i1 i2 i3 i4 (by omega) (by omega) hck).mono fun x W' ⟨A1, c1, A3, c3, h1, h2, h3, h4⟩ => ⟨A1, c1, A3, c3, h1, by have := h2.ints; rwa [i1.1] at this, by have := h3.ints; rwa [List.length_zipWith, i2.1, i4.1, Nat.min_self] at this, h4⟩
theorem ringMul (hck : checkF xs m = 0) (hn : n ≤ 20) (i1 : Ints W W.heap.size A n xs) (i2 : Ints W W.heap.size B m y1) (i3 : Ints W W.heap.size A2 n xs) (i4 : Ints W W.heap.size B2 m y2) :
    Calls Try.prog 30 #[.agg #[.slice A n c, .slice B m e], .agg #[.slice A2 n c2, .slice B2 m e2]] W (RPost (fun _ A1 c1 A3 c3 => .returned (.agg #[.slice A1 n c1, .slice A3 m c3])) xs (mulL y1 y2) n m W) :=
  (ring2_ok A B A2 B2 n c m e n c2 e2 xs y1 y2 W i1 i2 i3 i4 (by omega) (by omega) hck).mono fun x W' ⟨A1, c1, A3, c3, h1, h2, h3, h4⟩ => ⟨A1, c1, A3, c3, h1, by have := h2.ints; rwa [i1.1] at this, by have := h3.ints; rwa [List.length_zipWith, i2.1, i4.1, Nat.min_self] at this, h4⟩
theorem ringSame (hck : checkF xs m = 0) (hn : n ≤ 20) (hm : m ≤ 70000) (i1 : Ints W W.heap.size A n xs) (i2 : Ints W W.heap.size B m y1) (i3 : Ints W W.heap.size A2 n xs) (i4 : Ints W W.heap.size B2 m y2) (hy : y1 = y2) :
    Calls Try.prog 28 #[.agg #[.slice A n c, .slice B m e], .agg #[.slice A2 n c2, .slice B2 m e2]] W fun x W' => x = .returned (.bool true) ∧ Below W.heap.size W W' := by
  subst hy
  have := same_any A B A2 B2 n c m e n c2 m e2 xs y1 xs y1 W i1 i2 i3 i4 (by omega) (by omega) (by omega) (by omega) (by omega)
  rwa [sameF_refl _ hck] at this
end
theorem ring_set {W : World} {s : Nat} {u v a b : Value} {t : TypeId} {g : Nat} {u' v' : Value} (h : W.heap[s]? = some (.cells #[u, v] t (0, 0))) (hg : W.heap[g]? = some (.cells #[u', v'] t (0, 0))) (hne : g ≠ s) :
    ((W.setCell ⟨g, 0, none⟩ a).setCell ⟨g, 1, none⟩ b).drew.heap[s]? = some (.cells #[u, v] t (0, 0)) ∧ ((W.setCell ⟨g, 0, none⟩ a).setCell ⟨g, 1, none⟩ b).drew.heap[g]? = some (.cells #[a, b] t (0, 0)) := ⟨set_pair hne h, set_own hg⟩
set_option maxRecDepth 100000 in
set_option maxHeartbeats 10000000 in
theorem ring_in (w : World) (A : Option Addr) (n c : Nat) (B : Option Addr) (m e : Nat) (xs ys : List Int) (h : Ints w w.heap.size A n xs) (hn : n ≤ 9223372036854775807) (hv : Ints w w.heap.size B m ys) (_ : m ≤ 9223372036854775807) (_ : m ≤ e)
    (A2 : Option Addr) (n2 c2 : Nat) (B2 : Option Addr) (m2 e2 : Nat) (xs2 ys2 : List Int) (_ : Ints w w.heap.size A2 n2 xs2) (_ : n2 ≤ 9223372036854775807) (hv2 : Ints w w.heap.size B2 m2 ys2) (_ : m2 ≤ 9223372036854775807) (hme2 : m2 ≤ e2)
    (A3 : Option Addr) (n3 c3 : Nat) (B3 : Option Addr) (m3 e3 : Nat) (xs3 ys3 : List Int) (_ : Ints w w.heap.size A3 n3 xs3) (_ : n3 ≤ 9223372036854775807) (hv3 : Ints w w.heap.size B3 m3 ys3) (_ : m3 ≤ 9223372036854775807) (hme3 : m3 ≤ e3)
    (hfw : fewF [⟨A, n, c, B, m, e⟩, ⟨A2, n2, c2, B2, m2, e2⟩, ⟨A3, n3, c3, B3, m3, e3⟩] = true) (hck : checkF xs m = 0) (hm2' : m ≤ m2) (hm3' : m ≤ m3) :
    Calls Try.prog 5 #[.agg #[.slice A n c, .slice B m e], .agg #[.slice A2 n2 c2, .slice B2 m2 e2], .agg #[.slice A3 n3 c3, .slice B3 m3 e3]] w fun e w' => e = .returned (.bool true) ∧ Below w.heap.size w w' := by
  have hL := fun W => live_any W
  have hW := fun W => few_three ⟨A, n, c, B, m, e⟩ ⟨A2, n2, c2, B2, m2, e2⟩ ⟨A3, n3, c3, B3, m3, e3⟩ W
  dsimp only at hW
  have HC := fun W (hb : Below w.heap.size w W) => check_any A B n c m e xs W ((h.below hb).more hb.size) hn
  have hB0 : Below w.heap.size w (((w.alloc (.cells #[.slice A n c, .slice B m e] 25)).alloc (.cells #[.slice A2 n2 c2, .slice B2 m2 e2] 25)).alloc (.cells #[.slice A3 n3 c3, .slice B3 m3 e3] 25)) := (((Below.refl _ w).alloc (Nat.le_refl _) _).alloc (by simp) _).alloc (by simp; omega) _
  rw [hfw] at hW
  rw [hck] at HC
  have hmx : Try.prog.follows .mixedOrders = true := by kernel_rfl
  have d2 : decide ((m2 : Int) < (m : Int)) = false := by simp; omega
  have d3 : decide ((m3 : Int) < (m : Int)) = false := by simp; omega
  have t2 := fun (W : World) => run_take64 (w := W) B2 m2 e2 m hm2' hme2
  have t3 := fun (W : World) => run_take64 (w := W) B3 m3 e3 m hm3' hme3
  go_enter Try.func5, Try.ntmps5
  go_wp2_with (first | (go_at_call 15; refine (hL _).mono ?_; rintro x w1 ⟨rfl, hb1⟩; have hd1 := hb1.mono (B' := w.heap.size + 1 + 1 + 1) (by simp); have hb2 := hB0.trans (hb1.mono hB0.size); obtain ⟨⟨k0, k1, k2, k3⟩, k4, k5, _, _⟩ := three_boxes hd1) | (go_at_call 16; refine (hW _).mono ?_; rintro x w3 ⟨rfl, hb3⟩; have hs1 := hd1.size; simp only [World.size_alloc] at hs1; have hd3 := (hd1.alloc (by omega) _).trans (hb3.mono (by omega)); have hb4 := (hb2.alloc hb2.size _).trans (hb3.mono (by have := hb2.size; omega)); clear k0 k1 k2 k3 k4 k5; obtain ⟨⟨k0, k1, k2, k3⟩, k4, k5, _, _⟩ := three_boxes hd3) | (go_at_call 27; refine (HC _ hb4).mono ?_; rintro x w5 ⟨rfl, hb5⟩; have hd5 := hd3.trans (hb5.mono (by have := hd3.size; simpa using this)); have hb6 := hb4.trans (hb5.mono hb4.size); clear k0 k1 k2 k3 k4 k5; obtain ⟨⟨k0, k1, k2, k3⟩, k4, k5, _, _⟩ := three_boxes hd5))
  refine wp_region_still_tail 9 hmx (by kernel_rfl) ?_
  simp only [List.take_succ_cons, List.take_zero, List.drop_succ_cons, List.drop_zero]
  repeat still_step
  refine wpStill_nil ?_
  change wpList _ _ _ _ _ w5.drew
  obtain ⟨q0, q1, q2⟩ := three_whole hd5
  have f2 : w5.frozen? ⟨w.heap.size + 1, 0, none⟩ = false := by simp [World.frozen?, q1]
  have f3 : w5.frozen? ⟨w.heap.size + 1, 1, none⟩ = false := by simp [World.frozen?, q1]
  have f4 : w5.frozen? ⟨w.heap.size + 1 + 1, 0, none⟩ = false := by simp [World.frozen?, q2]
  have f5 : w5.frozen? ⟨w.heap.size + 1 + 1, 1, none⟩ = false := by simp [World.frozen?, q2]
  go_wp2_with fail
  have r0 := set_pair (a := .slice A n c) (b := .slice B2 m e2) (show w.heap.size + 1 ≠ w.heap.size by omega) q0
  have r2 := set_pair (a := .slice A n c) (b := .slice B2 m e2) (show w.heap.size + 1 ≠ w.heap.size + 1 + 1 by omega) q2
  have r1 := set_own (a := .slice A n c) (b := .slice B2 m e2) q1
  have hb7 := ((hb6.setCell (p := ⟨w.heap.size + 1, 0, none⟩) (by show w.heap.size ≤ w.heap.size + 1; omega) (.slice A n c)).setCell (p := ⟨w.heap.size + 1, 1, none⟩) (by show w.heap.size ≤ w.heap.size + 1; omega) (.slice B2 m e2)).drew
  have hz7 : w.heap.size + 1 + 1 + 1 ≤ ((w5.setCell ⟨w.heap.size + 1, 0, none⟩ (.slice A n c)).setCell ⟨w.heap.size + 1, 1, none⟩ (.slice B2 m e2)).drew.heap.size := by
    have := hd5.size; simp only [World.size_alloc] at this; simpa [World.setCell, World.drew] using this
  clear k0 k1 k2 k3 k4 k5 f2 f3 f4 f5 q0 q1 q2 hb6 hd5 hb5 hb4 hd3 hb3 hb2 hd1 hb1 hB0
  generalize ((w5.setCell ⟨w.heap.size + 1, 0, none⟩ (.slice A n c)).setCell ⟨w.heap.size + 1, 1, none⟩ (.slice B2 m e2)).drew = w7 at *
  obtain ⟨k0, k1, _, _⟩ := of_pair r0
  obtain ⟨k2, k3, _, _⟩ := of_pair r1
  obtain ⟨k4, k5, f4, f5⟩ := of_pair r2
  refine wp_region_still_tail 9 hmx (by kernel_rfl) ?_
  simp only [List.take_succ_cons, List.take_zero, List.drop_succ_cons, List.drop_zero]
  repeat still_step
  refine wpStill_nil ?_
  change wpList _ _ _ _ _ w7.drew
  obtain ⟨p0, p2⟩ := ring_set (a := .slice A n c) (b := .slice B3 m e3) r0 r2 (show w.heap.size + 1 + 1 ≠ w.heap.size by omega)
  obtain ⟨p1, _⟩ := ring_set (a := .slice A n c) (b := .slice B3 m e3) r1 r2 (show w.heap.size + 1 + 1 ≠ w.heap.size + 1 by omega)
  have hb8 := ((hb7.setCell (p := ⟨w.heap.size + 1 + 1, 0, none⟩) (by show w.heap.size ≤ w.heap.size + 1 + 1; omega) (.slice A n c)).setCell (p := ⟨w.heap.size + 1 + 1, 1, none⟩) (by show w.heap.size ≤ w.heap.size + 1 + 1; omega) (.slice B3 m e3)).drew
  have hcl := World.cell?_setCell_far w7 ⟨w.heap.size + 1 + 1, 0, none⟩ ⟨w.heap.size, 0, none⟩ (.slice A n c) (by show w.heap.size + 1 + 1 ≠ w.heap.size; omega)
  go_wp2_with fail
  clear r0 r1 r2 k0 k1 k2 k3 k4 k5 f4 f5 hcl hb7 hL hW HC t2 t3
  generalize ((w7.setCell ⟨w.heap.size + 1 + 1, 0, none⟩ (.slice A n c)).setCell ⟨w.heap.size + 1 + 1, 1, none⟩ (.slice B3 m e3)).drew = w8 at *
  have hn20 : n ≤ 20 := (few_three_ok hfw).1.1
  obtain ⟨ez0, ez1, hm65, hl4⟩ := ring_parts hck
  have HCK := Lib.hid hck
  have HYS := Lib.hid hv.1
  have HYB := Lib.hid hv.2.1
  have iA := (h.below hb8).more hb8.size
  have iB := (hv.below hb8).more hb8.size
  have iB2 := ((hv2.take_ hm2').below hb8).more hb8.size
  have iB3 := ((hv3.take_ hm3').below hb8).more hb8.size
  obtain ⟨y2, hy2⟩ : ∃ y, ys2.take m = y := ⟨_, rfl⟩
  obtain ⟨y3, hy3⟩ : ∃ y, ys3.take m = y := ⟨_, rfl⟩
  rw [hy2] at iB2
  rw [hy3] at iB3
  have HS := scale_ok A B n c m e (-1) xs ys w8 iA iB hn hck
  have HZ := fun W (i : Ints W W.heap.size A n xs) => zero_ok A n c xs m W i (by omega) ez0 ez1 hm65
  clear hy2 hy3 hfw hck ez0 ez1 h hv hv2 hv3 d2 d3 hme2 hme3 hm2' hm3' hz7
  refine HS.mono ?_
  rintro x w9 ⟨A9, c9, B9, e9, rfl, HO9, HV9, hb9⟩
  obtain ⟨k0, k1⟩ := rCells (rKeep hb9 p0)
  have m0 := fun o => cellPast o k0
  have m1 := fun o => cellPast o k1
  go_wp2_with fail
  refine (HZ _ (((iA.below hb9).more hb9.size).alloc' _)).mono ?_
  rintro x w10 ⟨A10, c10, B10, e10, rfl, HO10, HV10, hb10⟩
  have hs9 : w9.heap.size + 1 ≤ w10.heap.size := by have := hb10.size; rwa [World.size_alloc] at this
  have hB9 := hb9.alloc hb9.size (.cells #[.slice A9 n c9, .slice B9 m e9] 25)
  have hB10 := hB9.trans (hb10.mono hB9.size)
  have hB11 := hB10.alloc hB10.size (.cells #[.slice A10 n c10, .slice B10 m e10] 25)
  have q0 := rKeep hB11 p0
  have q1 := rKeep hB11 p1
  have q2 := rKeep hB11 p2
  have g9 := rKeep hb10 (heap_alloc_new w9 (.cells #[.slice A9 n c9, .slice B9 m e9] 25))
  have q9 := (Below.heap_alloc w10 (.cells #[.slice A10 n c10, .slice B10 m e10] 25) _ (Array.getElem?_eq_some_iff.1 g9).1).trans g9
  have q10 := heap_alloc_new w10 (.cells #[.slice A10 n c10, .slice B10 m e10] 25)
  have I1 := (iA.below hB11).more hB11.size
  have I2 := (iB.below hB11).more hB11.size
  have I3 := (iB2.below hB11).more hB11.size
  have I4 := (iB3.below hB11).more hB11.size
  have nA : Ints w9 w9.heap.size A9 n xs := by have := HO9.ints; rwa [iA.1] at this
  have nB : Ints w9 w9.heap.size B9 m (negL ys) := by have := HV9.ints; rwa [List.length_zipWith, iB.1, Nat.min_self] at this
  have zA : Ints w10 w10.heap.size A10 n xs := by have := HO10.ints; rwa [iA.1] at this
  have zB : Ints w10 w10.heap.size B10 m (List.replicate m 0) := by have := HV10.ints; rwa [List.length_replicate] at this
  have I5 := ((nA.alloc' (.cells #[.slice A9 n c9, .slice B9 m e9] 25)).below hb10).more hb10.size |>.alloc' (.cells #[.slice A10 n c10, .slice B10 m e10] 25)
  have I6 := ((nB.alloc' (.cells #[.slice A9 n c9, .slice B9 m e9] 25)).below hb10).more hb10.size |>.alloc' (.cells #[.slice A10 n c10, .slice B10 m e10] 25)
  have I7 := zA.alloc' (.cells #[.slice A10 n c10, .slice B10 m e10] 25)
  have I8 := zB.alloc' (.cells #[.slice A10 n c10, .slice B10 m e10] 25)
  have hb12 := hb8.trans (hB11.mono hb8.size)
  clear HS HZ HO9 HV9 HO10 HV10 nA nB zA zB iA iB iB2 iB3 hB9 hB10 hB11 hb9 hb10 g9 p0 p1 p2 hb8 k0 k1 m0 m1
  have hc0 : Below (w10.alloc (.cells #[.slice A10 n c10, .slice B10 m e10] 25)).heap.size (w10.alloc (.cells #[.slice A10 n c10, .slice B10 m e10] 25)) (w10.alloc (.cells #[.slice A10 n c10, .slice B10 m e10] 25)) := Below.refl _ _
  go_upto_region 10 with fail
  generalize w10.alloc (.cells #[.slice A10 n c10, .slice B10 m e10] 25) = W0 at *
  have up : ∀ {A : Option Addr} {n : Nat} {xs : List Int} {W : World}, Below W0.heap.size W0 W → Ints W0 W0.heap.size A n xs → Ints W W.heap.size A n xs := fun hb i => (i.below hb).more hb.size
  have R1 := fun (W : World) (hb : Below W0.heap.size W0 W) => (ringAdd (c := c) (e := e) (c2 := c9) (e2 := e9) HCK.out hn20 (up hb I1) (up hb I2) (up hb I5) (up hb I6)).mono (R' := fun x W' => ∃ P p Q q, x = .returned (.agg #[.slice P n p, .slice Q m q]) ∧ Ints W' W'.heap.size P n xs ∧ Ints W' W'.heap.size Q m (addL ys (negL ys)) ∧ Below W0.heap.size W0 W') fun x W' ⟨P, p, Q, q, h1, h2, h3, h4⟩ => ⟨P, p, Q, q, h1, h2, h3, hb.trans (h4.mono hb.size)⟩
  have R2 := fun (W : World) (hb : Below W0.heap.size W0 W) => (ringAdd (c := c) (e := e) (c2 := c10) (e2 := e10) HCK.out hn20 (up hb I1) (up hb I2) (up hb I7) (up hb I8)).mono (R' := fun x W' => ∃ P p Q q, x = .returned (.agg #[.slice P n p, .slice Q m q]) ∧ Ints W' W'.heap.size P n xs ∧ Ints W' W'.heap.size Q m (addL ys (List.replicate m 0)) ∧ Below W0.heap.size W0 W') fun x W' ⟨P, p, Q, q, h1, h2, h3, h4⟩ => ⟨P, p, Q, q, h1, h2, h3, hb.trans (h4.mono hb.size)⟩
  have E1 : addL ys (negL ys) = List.replicate m 0 := by rw [addL_negL, HYS.out]
  have E2 : addL ys (List.replicate m 0) = ys := by rw [← HYS.out]; exact addL_zero ys HYB.out
  have G1 := Lib.hid E1
  have G2 := Lib.hid E2
  have S1 := fun (W : World) (P Q : Option Addr) (p q : Nat) (hb : Below W0.heap.size W0 W) (i1 : Ints W W.heap.size P n xs) (i2 : Ints W W.heap.size Q m (addL ys (negL ys))) => (ringSame (c := p) (e := q) (c2 := c10) (e2 := e10) HCK.out hn20 (by omega) i1 i2 (up hb I7) (up hb I8) G1.out).mono (R' := fun x W' => x = .returned (.bool true) ∧ Below W0.heap.size W0 W') fun x W' ⟨h1, h2⟩ => ⟨h1, hb.trans (h2.mono hb.size)⟩
  have S2 := fun (W : World) (P Q : Option Addr) (p q : Nat) (hb : Below W0.heap.size W0 W) (i1 : Ints W W.heap.size P n xs) (i2 : Ints W W.heap.size Q m (addL ys (List.replicate m 0))) => (ringSame (c := p) (e := q) (c2 := c) (e2 := e) HCK.out hn20 (by omega) i1 i2 (up hb I1) (up hb I2) G2.out).mono (R' := fun x W' => x = .returned (.bool true) ∧ Below W0.heap.size W0 W') fun x W' ⟨h1, h2⟩ => ⟨h1, hb.trans (h2.mono hb.size)⟩
  clear E1 E2
  obtain ⟨k0, k1⟩ := rCells q0
  obtain ⟨k2, k3⟩ := rCells q9
  obtain ⟨k4, k5⟩ := rCells q10
  go_cut [97] (fun s wx => s = .bool false ∧ Below W0.heap.size W0 wx)
  case first =>
   as_aux_lemma =>
    go_region_held3 (fun w' => w'.cell? ⟨w.heap.size, 0, none⟩ = some (.slice A n c) ∧ w'.cell? ⟨w.heap.size, 1, none⟩ = some (.slice B m e) ∧ w'.cell? ⟨w9.heap.size, 0, none⟩ = some (.slice A9 n c9) ∧ w'.cell? ⟨w9.heap.size, 1, none⟩ = some (.slice B9 m e9) ∧ w'.cell? ⟨w10.heap.size, 0, none⟩ = some (.slice A10 n c10) ∧ w'.cell? ⟨w10.heap.size, 1, none⟩ = some (.slice B10 m e10)) (first | go_keep | exact ⟨v0, v1, v2, v3, v4, v5⟩)
      (first | (go_at_call 29; (with_reducible refine (R1 _ ?a0).mono ?_); (case a0 => first | exact hc0.drew | exact hc0); rintro x w12 ⟨P1, p1, Q1, r1, rfl, j1, j2, hc12⟩; obtain ⟨v0, v1⟩ := rCells (rKeep hc12 q0); obtain ⟨v2, v3⟩ := rCells (rKeep hc12 q9); obtain ⟨v4, v5⟩ := rCells (rKeep hc12 q10)) | (go_at_call 28; (with_reducible refine (S1 _ _ _ _ _ ?a1 ?b1 ?d1).mono ?_); (case a1 => exact hc12); (case b1 => exact j1); (case d1 => exact j2); rintro x w13 ⟨rfl, hc13⟩; obtain ⟨v0, v1⟩ := rCells (rKeep hc13 q0); obtain ⟨v2, v3⟩ := rCells (rKeep hc13 q9); obtain ⟨v4, v5⟩ := rCells (rKeep hc13 q10)) | (go_at_call 29; (with_reducible refine (R2 _ ?a2).mono ?_); (case a2 => first | exact hc13); rintro x w14 ⟨P2, p2, Q2, r2, rfl, j3, j4, hc14⟩; obtain ⟨v0, v1⟩ := rCells (rKeep hc14 q0); obtain ⟨v2, v3⟩ := rCells (rKeep hc14 q9); obtain ⟨v4, v5⟩ := rCells (rKeep hc14 q10)) | (go_at_call 28; (with_reducible refine (S2 _ _ _ _ _ ?a3 ?b3 ?d3).mono ?_); (case a3 => exact hc14); (case b3 => exact j3); (case d3 => exact j4); rintro x w15 ⟨rfl, hc15⟩; obtain ⟨v0, v1⟩ := rCells (rKeep hc15 q0); obtain ⟨v2, v3⟩ := rCells (rKeep hc15 q9); obtain ⟨v4, v5⟩ := rCells (rKeep hc15 q10)))
    go_wp2_with fail
    go_meet
    exact ⟨rfl, hc15⟩
  case rest =>
   as_aux_lemma =>
    obtain ⟨rfl, hc⟩ := hcut
    have u0 := rKeep hc q0
    have u1 := rKeep hc q1
    have u2 := rKeep hc q2
    have iA := up hc I1
    have jA := up hc I2
    have jB := up hc I3
    have jC := up hc I4
    have hT := hb12.trans (hc.mono hb12.size)
    clear k0 k1 k2 k3 k4 k5 q0 q1 q2 q9 q10 I1 I2 I3 I4 I5 I6 I7 I8 hb12 hc hc0 R1 R2 S1 S2 G1 G2 up hs9
    obtain ⟨k0, k1⟩ := rCells u0
    obtain ⟨k2, k3⟩ := rCells u1
    obtain ⟨k4, k5⟩ := rCells u2
    have hm70 : m ≤ 70000 := by omega
    replace iA : Ints wc.drew wc.drew.heap.size A n xs := iA
    replace jA : Ints wc.drew wc.drew.heap.size B m ys := jA
    replace jB : Ints wc.drew wc.drew.heap.size B2 m y2 := jB
    replace jC : Ints wc.drew wc.drew.heap.size B3 m y3 := jC
    replace u0 : wc.drew.heap[w.heap.size]? = some (.cells #[.slice A n c, .slice B m e] 25 (0, 0)) := u0
    replace u1 : wc.drew.heap[w.heap.size + 1]? = some (.cells #[.slice A n c, .slice B2 m e2] 25 (0, 0)) := u1
    replace u2 : wc.drew.heap[w.heap.size + 1 + 1]? = some (.cells #[.slice A n c, .slice B3 m e3] 25 (0, 0)) := u2
    replace hT := hT.drew
    have tok0 : True := trivial
    go_wp2_with fail
    dsimp only [List.append]
    go_region_held3 (fun w' => w'.cell? ⟨w.heap.size, 0, none⟩ = some (.slice A n c) ∧ w'.cell? ⟨w.heap.size, 1, none⟩ = some (.slice B m e) ∧ w'.cell? ⟨w.heap.size + 1, 0, none⟩ = some (.slice A n c) ∧ w'.cell? ⟨w.heap.size + 1, 1, none⟩ = some (.slice B2 m e2) ∧ w'.cell? ⟨w.heap.size + 1 + 1, 0, none⟩ = some (.slice A n c) ∧ w'.cell? ⟨w.heap.size + 1 + 1, 1, none⟩ = some (.slice B3 m e3)) (first | exact ⟨k0, k1, k2, k3, k4, k5⟩ | go_keep)
      (first | (go_at_call 29; have _k := tok0; clear _k; (with_reducible refine (ringAdd HCK.out hn20 iA jA iA jB).mono ?_); rintro x wt1 ⟨Pt1, pt1, Qt1, qt1, rfl, it1, jt1, ht1⟩; replace iA := (iA.below ht1).more ht1.size; replace jA := (jA.below ht1).more ht1.size; replace jB := (jB.below ht1).more ht1.size; replace jC := (jC.below ht1).more ht1.size; replace u0 := rKeep ht1 u0; replace u1 := rKeep ht1 u1; replace u2 := rKeep ht1 u2; replace hT := hT.trans (ht1.mono hT.size); clear ht1; have tok1 : True := trivial; clear tok0; obtain ⟨k0, k1⟩ := rCells u0; obtain ⟨k2, k3⟩ := rCells u1; obtain ⟨k4, k5⟩ := rCells u2) | (go_at_call 29; have _k := tok1; clear _k; (with_reducible refine (ringAdd HCK.out hn20 iA jB iA jA).mono ?_); rintro x wt2 ⟨Pt2, pt2, Qt2, qt2, rfl, it2, jt2, ht2⟩; replace iA := (iA.below ht2).more ht2.size; replace jA := (jA.below ht2).more ht2.size; replace jB := (jB.below ht2).more ht2.size; replace jC := (jC.below ht2).more ht2.size; replace it1 := (it1.below ht2).more ht2.size; replace jt1 := (jt1.below ht2).more ht2.size; replace u0 := rKeep ht2 u0; replace u1 := rKeep ht2 u1; replace u2 := rKeep ht2 u2; replace hT := hT.trans (ht2.mono hT.size); clear ht2; have tok2 : True := trivial; clear tok1; obtain ⟨k0, k1⟩ := rCells u0; obtain ⟨k2, k3⟩ := rCells u1; obtain ⟨k4, k5⟩ := rCells u2) | (go_at_call 28; have _k := tok2; clear _k; (with_reducible refine (ringSame HCK.out hn20 hm70 it1 jt1 it2 jt2 (addL_comm _ _)).mono ?_); rintro x wt3 ⟨rfl, ht3⟩; clear it1 jt1 it2 jt2; replace iA := (iA.below ht3).more ht3.size; replace jA := (jA.below ht3).more ht3.size; replace jB := (jB.below ht3).more ht3.size; replace jC := (jC.below ht3).more ht3.size; replace u0 := rKeep ht3 u0; replace u1 := rKeep ht3 u1; replace u2 := rKeep ht3 u2; replace hT := hT.trans (ht3.mono hT.size); clear ht3; have tok3 : True := trivial; clear tok2; obtain ⟨k0, k1⟩ := rCells u0; obtain ⟨k2, k3⟩ := rCells u1; obtain ⟨k4, k5⟩ := rCells u2) | (go_at_call 30; have _k := tok3; clear _k; (with_reducible refine (ringMul HCK.out hn20 iA jA iA jB).mono ?_); rintro x wt4 ⟨Pt4, pt4, Qt4, qt4, rfl, it4, jt4, ht4⟩; replace iA := (iA.below ht4).more ht4.size; replace jA := (jA.below ht4).more ht4.size; replace jB := (jB.below ht4).more ht4.size; replace jC := (jC.below ht4).more ht4.size; replace u0 := rKeep ht4 u0; replace u1 := rKeep ht4 u1; replace u2 := rKeep ht4 u2; replace hT := hT.trans (ht4.mono hT.size); clear ht4; have tok4 : True := trivial; clear tok3; obtain ⟨k0, k1⟩ := rCells u0; obtain ⟨k2, k3⟩ := rCells u1; obtain ⟨k4, k5⟩ := rCells u2) | (go_at_call 30; have _k := tok4; clear _k; (with_reducible refine (ringMul HCK.out hn20 iA jB iA jA).mono ?_); rintro x wt5 ⟨Pt5, pt5, Qt5, qt5, rfl, it5, jt5, ht5⟩; replace iA := (iA.below ht5).more ht5.size; replace jA := (jA.below ht5).more ht5.size; replace jB := (jB.below ht5).more ht5.size; replace jC := (jC.below ht5).more ht5.size; replace it4 := (it4.below ht5).more ht5.size; replace jt4 := (jt4.below ht5).more ht5.size; replace u0 := rKeep ht5 u0; replace u1 := rKeep ht5 u1; replace u2 := rKeep ht5 u2; replace hT := hT.trans (ht5.mono hT.size); clear ht5; have tok5 : True := trivial; clear tok4; obtain ⟨k0, k1⟩ := rCells u0; obtain ⟨k2, k3⟩ := rCells u1; obtain ⟨k4, k5⟩ := rCells u2) | (go_at_call 28; have _k := tok5; clear _k; (with_reducible refine (ringSame HCK.out hn20 hm70 it4 jt4 it5 jt5 (mulL_comm _ _)).mono ?_); rintro x wt6 ⟨rfl, ht6⟩; clear it4 jt4 it5 jt5; replace iA := (iA.below ht6).more ht6.size; replace jA := (jA.below ht6).more ht6.size; replace jB := (jB.below ht6).more ht6.size; replace jC := (jC.below ht6).more ht6.size; replace u0 := rKeep ht6 u0; replace u1 := rKeep ht6 u1; replace u2 := rKeep ht6 u2; replace hT := hT.trans (ht6.mono hT.size); clear ht6; have tok6 : True := trivial; clear tok5; obtain ⟨k0, k1⟩ := rCells u0; obtain ⟨k2, k3⟩ := rCells u1; obtain ⟨k4, k5⟩ := rCells u2) | (go_at_call 29; have _k := tok6; clear _k; (with_reducible refine (ringAdd HCK.out hn20 iA jA iA jB).mono ?_); rintro x wt7 ⟨Pt7, pt7, Qt7, qt7, rfl, it7, jt7, ht7⟩; replace iA := (iA.below ht7).more ht7.size; replace jA := (jA.below ht7).more ht7.size; replace jB := (jB.below ht7).more ht7.size; replace jC := (jC.below ht7).more ht7.size; replace u0 := rKeep ht7 u0; replace u1 := rKeep ht7 u1; replace u2 := rKeep ht7 u2; replace hT := hT.trans (ht7.mono hT.size); clear ht7; have tok7 : True := trivial; clear tok6; obtain ⟨k0, k1⟩ := rCells u0; obtain ⟨k2, k3⟩ := rCells u1; obtain ⟨k4, k5⟩ := rCells u2) | (go_at_call 29; have _k := tok7; clear _k; (with_reducible refine (ringAdd HCK.out hn20 it7 jt7 iA jC).mono ?_); rintro x wt8 ⟨Pt8, pt8, Qt8, qt8, rfl, it8, jt8, ht8⟩; replace iA := (iA.below ht8).more ht8.size; replace jA := (jA.below ht8).more ht8.size; replace jB := (jB.below ht8).more ht8.size; replace jC := (jC.below ht8).more ht8.size; replace u0 := rKeep ht8 u0; replace u1 := rKeep ht8 u1; replace u2 := rKeep ht8 u2; replace hT := hT.trans (ht8.mono hT.size); clear ht8; have tok8 : True := trivial; clear tok7; obtain ⟨k0, k1⟩ := rCells u0; obtain ⟨k2, k3⟩ := rCells u1; obtain ⟨k4, k5⟩ := rCells u2) | (go_at_call 29; have _k := tok8; clear _k; (with_reducible refine (ringAdd HCK.out hn20 iA jB iA jC).mono ?_); rintro x wt9 ⟨Pt9, pt9, Qt9, qt9, rfl, it9, jt9, ht9⟩; replace iA := (iA.below ht9).more ht9.size; replace jA := (jA.below ht9).more ht9.size; replace jB := (jB.below ht9).more ht9.size; replace jC := (jC.below ht9).more ht9.size; replace it8 := (it8.below ht9).more ht9.size; replace jt8 := (jt8.below ht9).more ht9.size; replace u0 := rKeep ht9 u0; replace u1 := rKeep ht9 u1; replace u2 := rKeep ht9 u2; replace hT := hT.trans (ht9.mono hT.size); clear ht9; have tok9 : True := trivial; clear tok8; obtain ⟨k0, k1⟩ := rCells u0; obtain ⟨k2, k3⟩ := rCells u1; obtain ⟨k4, k5⟩ := rCells u2) | (go_at_call 29; have _k := tok9; clear _k; (with_reducible refine (ringAdd HCK.out hn20 iA jA it9 jt9).mono ?_); rintro x wt10 ⟨Pt10, pt10, Qt10, qt10, rfl, it10, jt10, ht10⟩; replace iA := (iA.below ht10).more ht10.size; replace jA := (jA.below ht10).more ht10.size; replace jB := (jB.below ht10).more ht10.size; replace jC := (jC.below ht10).more ht10.size; replace it8 := (it8.below ht10).more ht10.size; replace jt8 := (jt8.below ht10).more ht10.size; replace u0 := rKeep ht10 u0; replace u1 := rKeep ht10 u1; replace u2 := rKeep ht10 u2; replace hT := hT.trans (ht10.mono hT.size); clear ht10; have tok10 : True := trivial; clear tok9; obtain ⟨k0, k1⟩ := rCells u0; obtain ⟨k2, k3⟩ := rCells u1; obtain ⟨k4, k5⟩ := rCells u2) | (go_at_call 28; have _k := tok10; clear _k; (with_reducible refine (ringSame HCK.out hn20 hm70 it8 jt8 it10 jt10 (addL_assoc _ _ _)).mono ?_); rintro x wt11 ⟨rfl, ht11⟩; clear it8 jt8 it10 jt10; replace iA := (iA.below ht11).more ht11.size; replace jA := (jA.below ht11).more ht11.size; replace jB := (jB.below ht11).more ht11.size; replace jC := (jC.below ht11).more ht11.size; replace u0 := rKeep ht11 u0; replace u1 := rKeep ht11 u1; replace u2 := rKeep ht11 u2; replace hT := hT.trans (ht11.mono hT.size); clear ht11; have tok11 : True := trivial; clear tok10; obtain ⟨k0, k1⟩ := rCells u0; obtain ⟨k2, k3⟩ := rCells u1; obtain ⟨k4, k5⟩ := rCells u2) | (go_at_call 30; have _k := tok11; clear _k; (with_reducible refine (ringMul HCK.out hn20 iA jA iA jB).mono ?_); rintro x wt12 ⟨Pt12, pt12, Qt12, qt12, rfl, it12, jt12, ht12⟩; replace iA := (iA.below ht12).more ht12.size; replace jA := (jA.below ht12).more ht12.size; replace jB := (jB.below ht12).more ht12.size; replace jC := (jC.below ht12).more ht12.size; replace u0 := rKeep ht12 u0; replace u1 := rKeep ht12 u1; replace u2 := rKeep ht12 u2; replace hT := hT.trans (ht12.mono hT.size); clear ht12; have tok12 : True := trivial; clear tok11; obtain ⟨k0, k1⟩ := rCells u0; obtain ⟨k2, k3⟩ := rCells u1; obtain ⟨k4, k5⟩ := rCells u2) | (go_at_call 30; have _k := tok12; clear _k; (with_reducible refine (ringMul HCK.out hn20 it12 jt12 iA jC).mono ?_); rintro x wt13 ⟨Pt13, pt13, Qt13, qt13, rfl, it13, jt13, ht13⟩; replace iA := (iA.below ht13).more ht13.size; replace jA := (jA.below ht13).more ht13.size; replace jB := (jB.below ht13).more ht13.size; replace jC := (jC.below ht13).more ht13.size; replace u0 := rKeep ht13 u0; replace u1 := rKeep ht13 u1; replace u2 := rKeep ht13 u2; replace hT := hT.trans (ht13.mono hT.size); clear ht13; have tok13 : True := trivial; clear tok12; obtain ⟨k0, k1⟩ := rCells u0; obtain ⟨k2, k3⟩ := rCells u1; obtain ⟨k4, k5⟩ := rCells u2) | (go_at_call 30; have _k := tok13; clear _k; (with_reducible refine (ringMul HCK.out hn20 iA jB iA jC).mono ?_); rintro x wt14 ⟨Pt14, pt14, Qt14, qt14, rfl, it14, jt14, ht14⟩; replace iA := (iA.below ht14).more ht14.size; replace jA := (jA.below ht14).more ht14.size; replace jB := (jB.below ht14).more ht14.size; replace jC := (jC.below ht14).more ht14.size; replace it13 := (it13.below ht14).more ht14.size; replace jt13 := (jt13.below ht14).more ht14.size; replace u0 := rKeep ht14 u0; replace u1 := rKeep ht14 u1; replace u2 := rKeep ht14 u2; replace hT := hT.trans (ht14.mono hT.size); clear ht14; have tok14 : True := trivial; clear tok13; obtain ⟨k0, k1⟩ := rCells u0; obtain ⟨k2, k3⟩ := rCells u1; obtain ⟨k4, k5⟩ := rCells u2) | (go_at_call 30; have _k := tok14; clear _k; (with_reducible refine (ringMul HCK.out hn20 iA jA it14 jt14).mono ?_); rintro x wt15 ⟨Pt15, pt15, Qt15, qt15, rfl, it15, jt15, ht15⟩; replace iA := (iA.below ht15).more ht15.size; replace jA := (jA.below ht15).more ht15.size; replace jB := (jB.below ht15).more ht15.size; replace jC := (jC.below ht15).more ht15.size; replace it13 := (it13.below ht15).more ht15.size; replace jt13 := (jt13.below ht15).more ht15.size; replace u0 := rKeep ht15 u0; replace u1 := rKeep ht15 u1; replace u2 := rKeep ht15 u2; replace hT := hT.trans (ht15.mono hT.size); clear ht15; have tok15 : True := trivial; clear tok14; obtain ⟨k0, k1⟩ := rCells u0; obtain ⟨k2, k3⟩ := rCells u1; obtain ⟨k4, k5⟩ := rCells u2) | (go_at_call 28; have _k := tok15; clear _k; (with_reducible refine (ringSame HCK.out hn20 hm70 it13 jt13 it15 jt15 (mulL_assoc _ _ _)).mono ?_); rintro x wt16 ⟨rfl, ht16⟩; clear it13 jt13 it15 jt15; replace iA := (iA.below ht16).more ht16.size; replace jA := (jA.below ht16).more ht16.size; replace jB := (jB.below ht16).more ht16.size; replace jC := (jC.below ht16).more ht16.size; replace u0 := rKeep ht16 u0; replace u1 := rKeep ht16 u1; replace u2 := rKeep ht16 u2; replace hT := hT.trans (ht16.mono hT.size); clear ht16; have tok16 : True := trivial; clear tok15; obtain ⟨k0, k1⟩ := rCells u0; obtain ⟨k2, k3⟩ := rCells u1; obtain ⟨k4, k5⟩ := rCells u2) | (go_at_call 29; have _k := tok16; clear _k; (with_reducible refine (ringAdd HCK.out hn20 iA jB iA jC).mono ?_); rintro x wt17 ⟨Pt17, pt17, Qt17, qt17, rfl, it17, jt17, ht17⟩; replace iA := (iA.below ht17).more ht17.size; replace jA := (jA.below ht17).more ht17.size; replace jB := (jB.below ht17).more ht17.size; replace jC := (jC.below ht17).more ht17.size; replace u0 := rKeep ht17 u0; replace u1 := rKeep ht17 u1; replace u2 := rKeep ht17 u2; replace hT := hT.trans (ht17.mono hT.size); clear ht17; have tok17 : True := trivial; clear tok16; obtain ⟨k0, k1⟩ := rCells u0; obtain ⟨k2, k3⟩ := rCells u1; obtain ⟨k4, k5⟩ := rCells u2) | (go_at_call 30; have _k := tok17; clear _k; (with_reducible refine (ringMul HCK.out hn20 iA jA it17 jt17).mono ?_); rintro x wt18 ⟨Pt18, pt18, Qt18, qt18, rfl, it18, jt18, ht18⟩; replace iA := (iA.below ht18).more ht18.size; replace jA := (jA.below ht18).more ht18.size; replace jB := (jB.below ht18).more ht18.size; replace jC := (jC.below ht18).more ht18.size; replace u0 := rKeep ht18 u0; replace u1 := rKeep ht18 u1; replace u2 := rKeep ht18 u2; replace hT := hT.trans (ht18.mono hT.size); clear ht18; have tok18 : True := trivial; clear tok17; obtain ⟨k0, k1⟩ := rCells u0; obtain ⟨k2, k3⟩ := rCells u1; obtain ⟨k4, k5⟩ := rCells u2) | (go_at_call 30; have _k := tok18; clear _k; (with_reducible refine (ringMul HCK.out hn20 iA jA iA jB).mono ?_); rintro x wt19 ⟨Pt19, pt19, Qt19, qt19, rfl, it19, jt19, ht19⟩; replace iA := (iA.below ht19).more ht19.size; replace jA := (jA.below ht19).more ht19.size; replace jB := (jB.below ht19).more ht19.size; replace jC := (jC.below ht19).more ht19.size; replace it18 := (it18.below ht19).more ht19.size; replace jt18 := (jt18.below ht19).more ht19.size; replace u0 := rKeep ht19 u0; replace u1 := rKeep ht19 u1; replace u2 := rKeep ht19 u2; replace hT := hT.trans (ht19.mono hT.size); clear ht19; have tok19 : True := trivial; clear tok18; obtain ⟨k0, k1⟩ := rCells u0; obtain ⟨k2, k3⟩ := rCells u1; obtain ⟨k4, k5⟩ := rCells u2) | (go_at_call 30; have _k := tok19; clear _k; (with_reducible refine (ringMul HCK.out hn20 iA jA iA jC).mono ?_); rintro x wt20 ⟨Pt20, pt20, Qt20, qt20, rfl, it20, jt20, ht20⟩; replace iA := (iA.below ht20).more ht20.size; replace jA := (jA.below ht20).more ht20.size; replace jB := (jB.below ht20).more ht20.size; replace jC := (jC.below ht20).more ht20.size; replace it18 := (it18.below ht20).more ht20.size; replace jt18 := (jt18.below ht20).more ht20.size; replace it19 := (it19.below ht20).more ht20.size; replace jt19 := (jt19.below ht20).more ht20.size; replace u0 := rKeep ht20 u0; replace u1 := rKeep ht20 u1; replace u2 := rKeep ht20 u2; replace hT := hT.trans (ht20.mono hT.size); clear ht20; have tok20 : True := trivial; clear tok19; obtain ⟨k0, k1⟩ := rCells u0; obtain ⟨k2, k3⟩ := rCells u1; obtain ⟨k4, k5⟩ := rCells u2) | (go_at_call 29; have _k := tok20; clear _k; (with_reducible refine (ringAdd HCK.out hn20 it19 jt19 it20 jt20).mono ?_); rintro x wt21 ⟨Pt21, pt21, Qt21, qt21, rfl, it21, jt21, ht21⟩; replace iA := (iA.below ht21).more ht21.size; replace jA := (jA.below ht21).more ht21.size; replace jB := (jB.below ht21).more ht21.size; replace jC := (jC.below ht21).more ht21.size; replace it18 := (it18.below ht21).more ht21.size; replace jt18 := (jt18.below ht21).more ht21.size; replace u0 := rKeep ht21 u0; replace u1 := rKeep ht21 u1; replace u2 := rKeep ht21 u2; replace hT := hT.trans (ht21.mono hT.size); clear ht21; have tok21 : True := trivial; clear tok20; obtain ⟨k0, k1⟩ := rCells u0; obtain ⟨k2, k3⟩ := rCells u1; obtain ⟨k4, k5⟩ := rCells u2) | (go_at_call 28; have _k := tok21; clear _k; (with_reducible refine (ringSame HCK.out hn20 hm70 it18 jt18 it21 jt21 (mulL_addL _ _ _)).mono ?_); rintro x wt22 ⟨rfl, ht22⟩; clear it18 jt18 it21 jt21; replace iA := (iA.below ht22).more ht22.size; replace jA := (jA.below ht22).more ht22.size; replace jB := (jB.below ht22).more ht22.size; replace jC := (jC.below ht22).more ht22.size; replace u0 := rKeep ht22 u0; replace u1 := rKeep ht22 u1; replace u2 := rKeep ht22 u2; replace hT := hT.trans (ht22.mono hT.size); clear ht22; have tok22 : True := trivial; clear tok21; obtain ⟨k0, k1⟩ := rCells u0; obtain ⟨k2, k3⟩ := rCells u1; obtain ⟨k4, k5⟩ := rCells u2))
    go_wp2_with fail
    go_ret
    exact ⟨rfl, hT⟩
end Go.Proofs.Ytbicdbheclldcaa
