/- purflelaw01.BoxCells returns true at every input, and nothing that lay there has turned. -/
import Derived.Test.YtaanjgijbenapaaZero
namespace Go.Proofs.Ytaanjgijbenapaa
open Go.RowKit Go.Sort

def zS (xs : List Int) : List Int := if (laidF xs).2 = 0 then xs else []
def zV (xs : List Int) : List Int := if (laidF xs).2 = 0 then List.replicate (laidF xs).1.toNat 0 else []

theorem zero_any (A : Option Addr) (n c : Nat) (xs : List Int) (w : World) (h : Ints w w.heap.size A n xs) (hn : n ≤ 9223372036854775807) :
    Calls Try.prog 20 #[.slice A n c] w fun e w' => ∃ A1 c1 A2 c2, e = .returned (.tuple #[.agg #[.slice A1 (zS xs).length c1, .slice A2 (zV xs).length c2], .int .i64 (laidF xs).2]) ∧ OwnI w' w.heap.size 3 A1 c1 (zS xs) ∧ OwnI w' w.heap.size 2 A2 c2 (zV xs) ∧ Below w.heap.size w w' := by
  by_cases he : (laidF xs).2 = 0
  · have hb := laidF_nonneg (xs := xs)
    have hn5 : n ≤ 100000 := by have := (cellsF_ok (laidF_ok he).1).1; rw [h.1] at this; omega
    refine (zero_ok A n c xs (laidF xs).1.toNat w h hn5 he (by omega) (by omega)).mono ?_
    rintro e w' ⟨A1, c1, A2, c2, rfl, h1, h2, h3⟩
    have e1 : zS xs = xs := by unfold zS; rw [if_pos he]
    have e2 : zV xs = List.replicate (laidF xs).1.toNat 0 := by unfold zV; rw [if_pos he]
    rw [e1, e2, he, h.1, List.length_replicate]
    exact ⟨A1, c1, A2, c2, rfl, h1, h2, h3⟩
  · refine (zero_err A n c xs w h hn he).mono ?_
    rintro e w' ⟨rfl, h3⟩
    have e1 : zS xs = [] := by unfold zS; rw [if_neg he]
    have e2 : zV xs = [] := by unfold zV; rw [if_neg he]
    rw [e1, e2]
    exact ⟨none, 0, none, 0, rfl, OwnI.nil_ _ _ _, OwnI.nil_ _ _ _, h3⟩
theorem refZero_any (A : Option Addr) (n c : Nat) (xs : List Int) (w : World) (h : Ints w w.heap.size A n xs) (hn : n ≤ 9223372036854775807) :
    Calls Try.prog 21 #[.slice A n c] w fun e w' => ∃ A1 c1 A2 c2, e = .returned (.tuple #[.agg #[.slice A1 (zS xs).length c1, .slice A2 (zV xs).length c2], .int .i64 (laidF xs).2]) ∧ OwnI w' w.heap.size 3 A1 c1 (zS xs) ∧ OwnI w' w.heap.size 2 A2 c2 (zV xs) ∧ Below w.heap.size w w' := by
  by_cases he : (laidF xs).2 = 0
  · have hb := laidF_nonneg (xs := xs)
    have hn5 : n ≤ 100000 := by have := (cellsF_ok (laidF_ok he).1).1; rw [h.1] at this; omega
    refine (refZero_ok A n c xs (laidF xs).1.toNat w h hn5 he (by omega) (by omega)).mono ?_
    rintro e w' ⟨A1, c1, A2, c2, rfl, h1, h2, h3⟩
    have e1 : zS xs = xs := by unfold zS; rw [if_pos he]
    have e2 : zV xs = List.replicate (laidF xs).1.toNat 0 := by unfold zV; rw [if_pos he]
    rw [e1, e2, he, h.1, List.length_replicate]
    exact ⟨A1, c1, A2, c2, rfl, h1, h2, h3⟩
  · refine (refZero_err A n c xs w h hn he).mono ?_
    rintro e w' ⟨rfl, h3⟩
    have e1 : zS xs = [] := by unfold zS; rw [if_neg he]
    have e2 : zV xs = [] := by unfold zV; rw [if_neg he]
    rw [e1, e2]
    exact ⟨none, 0, none, 0, rfl, OwnI.nil_ _ _ _, OwnI.nil_ _ _ _, h3⟩
theorem zS_len (xs : List Int) : (zS xs).length ≤ 4 := by
  unfold zS; split
  · rename_i h; exact (cellsF_ok (laidF_ok h).1).1
  · simp
theorem zV_len (xs : List Int) : (zV xs).length ≤ 65536 := by
  unfold zV; split
  · have := laidF_nonneg (xs := xs); rw [List.length_replicate]; omega
  · simp

theorem few_two (d o : Hdr) (w : World) : Calls Try.prog 19 #[.slice (some ⟨w.heap.size, 0, none⟩) 2 2] (w.alloc (.cells #[.slice d.A d.n d.c, .slice d.B d.m d.e, .slice o.A o.n o.c, .slice o.B o.m o.e] 34))
    fun x w' => x = .returned (.bool (fewF [d, o])) ∧ Below (w.heap.size + 1) (w.alloc (.cells #[.slice d.A d.n d.c, .slice d.B d.m d.e, .slice o.A o.n o.c, .slice o.B o.m o.e] 34)) w' := by
  have hb : (w.alloc (.cells #[.slice d.A d.n d.c, .slice d.B d.m d.e, .slice o.A o.n o.c, .slice o.B o.m o.e] 34)).heap[w.heap.size]? = some (.cells #[.slice d.A d.n d.c, .slice d.B d.m d.e, .slice o.A o.n o.c, .slice o.B o.m o.e] 34 (0, 0)) := heap_alloc_new w _
  have := few_any w.heap.size 2 2 [d, o] (w.alloc (.cells #[.slice d.A d.n d.c, .slice d.B d.m d.e, .slice o.A o.n o.c, .slice o.B o.m o.e] 34)) rfl (by simp) (fun k x hx => by
    match k, hx with
    | 0, hx => simp at hx; subst hx; exact ⟨(cell_of_row _ _ 0 _ _ (0, 0) hb).trans (by simp), (cell_of_row _ _ 1 _ _ (0, 0) hb).trans (by simp)⟩
    | 1, hx => simp at hx; subst hx; exact ⟨(cell_of_row _ _ 2 _ _ (0, 0) hb).trans (by simp), (cell_of_row _ _ 3 _ _ (0, 0) hb).trans (by simp)⟩
    | k + 2, hx => simp at hx) (by omega)
  simpa using this

set_option maxRecDepth 100000 in
set_option maxHeartbeats 2000000 in
theorem boxCells_any (w : World) (A : Option Addr) (n c : Nat) (B : Option Addr) (m e : Nat) (xs ys : List Int) (h : Ints w w.heap.size A n xs) (hn : n ≤ 9223372036854775807) (hv : Ints w w.heap.size B m ys) (hm : m ≤ 9223372036854775807)
    (A2 : Option Addr) (n2 c2 : Nat) (B2 : Option Addr) (m2 e2 : Nat) (xs2 ys2 : List Int) (h2 : Ints w w.heap.size A2 n2 xs2) (hn2 : n2 ≤ 9223372036854775807) (hv2 : Ints w w.heap.size B2 m2 ys2) (hm2 : m2 ≤ 9223372036854775807)
    (A3 : Option Addr) (n3 c3 : Nat) (ss : List Int) (h3 : Ints w w.heap.size A3 n3 ss) (hn3 : n3 ≤ 9223372036854775807)
    (A4 : Option Addr) (n4 c4 : Nat) (cs : List Int) (h4 : Ints w w.heap.size A4 n4 cs) (hn4 : n4 ≤ 9223372036854775807) :
    Calls Try.prog 4 #[.agg #[.slice A n c, .slice B m e], .agg #[.slice A2 n2 c2, .slice B2 m2 e2], .slice A3 n3 c3, .slice A4 n4 c4] w fun e w' => e = .returned (.bool true) ∧ Below w.heap.size w w' := by
  have hL := fun W => live_any W
  have hW := fun W => few_two ⟨A, n, c, B, m, e⟩ ⟨A2, n2, c2, B2, m2, e2⟩ W
  dsimp only at hW
  obtain ⟨fw, hfw⟩ : ∃ fw, fewF [⟨A, n, c, B, m, e⟩, ⟨A2, n2, c2, B2, m2, e2⟩] = fw := ⟨_, rfl⟩
  rw [hfw] at hW
  have hB0 : ∀ o1 o2, Below w.heap.size w ((w.alloc o1).alloc o2) := fun o1 o2 => ((Below.refl _ w).alloc (Nat.le_refl _) _).alloc (by simp) _
  cases fw with
  | false =>
    clear hfw
    go_enter Try.func4, Try.ntmps4
    go_wp2_with (first | (go_at_call 11; refine (hL _).mono ?_; rintro x w1 ⟨rfl, hb1⟩; obtain ⟨k0, k1, k2, k3⟩ := two_boxes hb1; have hb2 := (hB0 _ _).trans (hb1.mono (by simp; omega))) | (go_at_call 19; refine (hW _).mono ?_; rintro x w3 ⟨rfl, hb3⟩))
    go_ret
    exact ⟨rfl, (hb2.alloc hb2.size _).trans (hb3.mono (by have := hb2.size; omega))⟩
  | true =>
    have hfw' : (n ≤ 20 ∧ m ≤ 70000) ∧ n2 ≤ 20 ∧ m2 ≤ 70000 := by simpa [fewF] using hfw
    obtain ⟨⟨q1, q2⟩, q3, q4⟩ := hfw'
    clear hfw
    by_cases h30 : 20 < n3
    · have hd : decide (20 < (n3 : Int)) = true := by simp; omega
      go_enter Try.func4, Try.ntmps4
      go_wp2_with (first | (go_at_call 11; refine (hL _).mono ?_; rintro x w1 ⟨rfl, hb1⟩; obtain ⟨k0, k1, k2, k3⟩ := two_boxes hb1; have hb2 := (hB0 _ _).trans (hb1.mono (by simp; omega))) | (go_at_call 19; refine (hW _).mono ?_; rintro x w3 ⟨rfl, hb3⟩))
      go_ret
      exact ⟨rfl, (hb2.alloc hb2.size _).trans (hb3.mono (by have := hb2.size; omega))⟩
    by_cases h40 : 20 < n4
    · have hd0 : decide (20 < (n3 : Int)) = false := by simp; omega
      have hd : decide (20 < (n4 : Int)) = true := by simp; omega
      go_enter Try.func4, Try.ntmps4
      go_wp2_with (first | (go_at_call 11; refine (hL _).mono ?_; rintro x w1 ⟨rfl, hb1⟩; obtain ⟨k0, k1, k2, k3⟩ := two_boxes hb1; have hb2 := (hB0 _ _).trans (hb1.mono (by simp; omega))) | (go_at_call 19; refine (hW _).mono ?_; rintro x w3 ⟨rfl, hb3⟩))
      go_ret
      exact ⟨rfl, (hb2.alloc hb2.size _).trans (hb3.mono (by have := hb2.size; omega))⟩
    have hd0 : decide (20 < (n3 : Int)) = false := by simp; omega
    have hd1 : decide (20 < (n4 : Int)) = false := by simp; omega
    have hZ := fun W (hb : Below w.heap.size w W) => zero_any A3 n3 c3 ss W ((h3.below hb).more hb.size) hn3
    have hZ2 := fun W (hb : Below w.heap.size w W) => refZero_any A3 n3 c3 ss W ((h3.below hb).more hb.size) hn3
    have hG := fun W (hb : Below w.heap.size w W) => get_any A B A4 n c m e n4 c4 xs ys cs W ((h.below hb).more hb.size) ((hv.below hb).more hb.size) ((h4.below hb).more hb.size) hn hn4
    have hG2 := fun W (hb : Below w.heap.size w W) => refGet_any A B A4 n c m e n4 c4 xs ys cs W ((h.below hb).more hb.size) ((hv.below hb).more hb.size) ((h4.below hb).more hb.size) hn hn4
    have hzs := zS_len ss
    have hzv := zV_len ss
    obtain ⟨S, hS⟩ : ∃ S, zS ss = S := ⟨_, rfl⟩
    obtain ⟨V, hV⟩ : ∃ V, zV ss = V := ⟨_, rfl⟩
    obtain ⟨E, hE⟩ : ∃ E, (laidF ss).2 = E := ⟨_, rfl⟩
    obtain ⟨X, hX⟩ : ∃ X, (getF xs m ys cs).1 = X := ⟨_, rfl⟩
    obtain ⟨G, hGG⟩ : ∃ G, (getF xs m ys cs).2 = G := ⟨_, rfl⟩
    rw [hS, hV, hE] at hZ hZ2
    rw [hX, hGG] at hG hG2
    rw [hS] at hzs
    rw [hV] at hzv
    clear hS hV hE hX hGG
    go_enter Try.func4, Try.ntmps4
    go_wp2_with (first | (go_at_call 11; refine (hL _).mono ?_; rintro x w1 ⟨rfl, hb1⟩; obtain ⟨k0, k1, k2, k3⟩ := two_boxes hb1; have hb2 := (hB0 _ _).trans (hb1.mono (by simp; omega))) | (go_at_call 19; refine (hW _).mono ?_; rintro x w3 ⟨rfl, hb3⟩; have hb4 := (hb2.alloc hb2.size _).trans (hb3.mono (by have := hb2.size; omega))))
    have hd3 := (hb1.alloc hb1.size (.cells #[.slice A n c, .slice B m e, .slice A2 n2 c2, .slice B2 m2 e2] 34)).trans (hb3.mono (by have := hb1.size; omega))
    refine (hZ _ hb4).mono ?_
    rintro x w5 ⟨A5, c5, B5, e5, rfl, HS5, HV5, hb5⟩
    have hb6 := hb4.trans (hb5.mono hb4.size)
    have hd5 := hd3.trans (hb5.mono hd3.size)
    go_wp2_with fail
    have hb6a := hb6.alloc hb6.size (.cells #[.slice A5 S.length c5, .slice B5 V.length e5] 34)
    have hd5a := hd5.alloc hd5.size (.cells #[.slice A5 S.length c5, .slice B5 V.length e5] 34)
    refine (hZ2 _ hb6a).mono ?_
    rintro x w7 ⟨A7, c7, B7, e7, rfl, HS7, HV7, hb7⟩
    have hb8 := hb6a.trans (hb7.mono hb6a.size)
    have hd7 := hd5a.trans (hb7.mono hd5a.size)
    have hd7a := hd7.alloc hd7.size (.cells #[.slice A7 S.length c7, .slice B7 V.length e7] 34)
    have hb8a := hb8.alloc hb8.size (.cells #[.slice A7 S.length c7, .slice B7 V.length e7] 34)
    clear k0 k1 k2 k3
    obtain ⟨k0, k1, k2, k3⟩ := two_boxes hd7a
    go_wp2_with fail
    refine (hG _ hb8a).mono ?_
    rintro x w9 ⟨rfl, hb9⟩
    have hb10 := hb8a.trans (hb9.mono hb8a.size)
    have hd9 := hd7a.trans (hb9.mono hd7a.size)
    clear k0 k1 k2 k3
    obtain ⟨k0, k1, k2, k3⟩ := two_boxes hd9
    go_wp2_with fail
    refine (hG2 _ hb10).mono ?_
    rintro x w11 ⟨rfl, hb11⟩
    have hb12 := hb10.trans (hb11.mono hb10.size)
    have hd11 := hd9.trans (hb11.mono hd9.size)
    clear k0 k1 k2 k3
    obtain ⟨k0, k1, k2, k3⟩ := two_boxes hd11
    have hs9 : Below (w7.heap.size + 1) (w7.alloc (.cells #[.slice A7 S.length c7, .slice B7 V.length e7] 34)) w11 := by
      have := hb9.trans (hb11.mono hb9.size); simpa using this
    obtain ⟨j2, j3⟩ := one_box (w := w7) (a := .slice A7 S.length c7) (b := .slice B7 V.length e7) (t := 34) (by simpa using hs9)
    have hs7 : Below (w5.heap.size + 1) (w5.alloc (.cells #[.slice A5 S.length c5, .slice B5 V.length e5] 34)) w11 := by
      have h75 : w5.heap.size + 1 ≤ w7.heap.size := by simpa using hb7.size
      have := (hb7.alloc hb7.size (.cells #[.slice A7 S.length c7, .slice B7 V.length e7] 34)).trans (hs9.mono (by simp; omega))
      simpa using this
    obtain ⟨j0, j1⟩ := one_box (w := w5) (a := .slice A5 S.length c5) (b := .slice B5 V.length e5) (t := 34) (by simpa using hs7)
    have IS5 : Ints w11 w11.heap.size A5 S.length S := ((HS5.ints.alloc (Nat.le_refl _) _).below (hs7.mono (by omega))).more (by have := hs7.size; simp at this; omega)
    have IV5 : Ints w11 w11.heap.size B5 V.length V := ((HV5.ints.alloc (Nat.le_refl _) _).below (hs7.mono (by omega))).more (by have := hs7.size; simp at this; omega)
    have IS7 : Ints w11 w11.heap.size A7 S.length S := ((HS7.ints.alloc (Nat.le_refl _) _).below (hs9.mono (by omega))).more (by have := hs9.size; simp at this; omega)
    have IV7 : Ints w11 w11.heap.size B7 V.length V := ((HV7.ints.alloc (Nat.le_refl _) _).below (hs9.mono (by omega))).more (by have := hs9.size; simp at this; omega)
    have J1 := (h.below hb12).more hb12.size
    have J2 := (hv.below hb12).more hb12.size
    have J3 := (h2.below hb12).more hb12.size
    have J4 := (hv2.below hb12).more hb12.size
    have up : ∀ {A : Option Addr} {n : Nat} {xs : List Int} (d : Nat) (os : Array Obj), Ints w11 w11.heap.size A n xs → Ints (grow (redrawn w11 d) os) (grow (redrawn w11 d) os).heap.size A n xs := fun d os hh => (hh.below (below_regrown w11 d os)).more (below_regrown w11 d os).size
    have cE := fun d os => Calls.regrown_of (equals_any A5 B5 A7 B7 S.length c5 V.length e5 S.length c7 V.length e7 S V S V (grow (redrawn w11 d) os) (up d os IS5) (up d os IV5) (up d os IS7) (up d os IV7) (by omega) (by omega) (by omega) (by omega))
    have cC := fun d os => Calls.regrown_of (check_any A B n c m e xs (grow (redrawn w11 d) os) (up d os J1) hn)
    have cC2 := fun d os => Calls.regrown_of (refCheck_any A B n c m e xs (grow (redrawn w11 d) os) (up d os J1) hn)
    have cS := fun d os => Calls.regrown_of (same_any A B A2 B2 n c m e n2 c2 m2 e2 xs ys xs2 ys2 (grow (redrawn w11 d) os) (up d os J1) (up d os J2) (up d os J3) (up d os J4) hn (by omega) hn2 hm2 (by omega))
    have cS2 := fun d os => Calls.regrown_of (refSame_any A B A2 B2 n c m e n2 c2 m2 e2 xs ys xs2 ys2 (grow (redrawn w11 d) os) (up d os J1) (up d os J2) (up d os J3) (up d os J4) (by omega) (by omega) hn2 hm2)
    simp only [decide_true, Bool.and_true] at cE
    obtain ⟨K, hK⟩ : ∃ K, checkF xs m = K := ⟨_, rfl⟩
    obtain ⟨M, hM⟩ : ∃ M, sameF xs m xs2 ys ys2 = M := ⟨_, rfl⟩
    rw [hK] at cC cC2
    rw [hM] at cS cS2
    have y0 := cell_regrown k0
    have y1 := cell_regrown k1
    have y2 := cell_regrown k2
    have y3 := cell_regrown k3
    have z0 := cell_regrown j0
    have z1 := cell_regrown j1
    have z2 := cell_regrown j2
    have z3 := cell_regrown j3
    clear hK hM k0 k1 k2 k3 j0 j1 j2 j3 IS5 IV5 IS7 IV7 J1 J2 J3 J4 hs7 hs9 hd3 hd5 hd5a hd7 hd7a hd9 hd11 HS5 HV5 HS7 HV7 hZ hZ2 hG hG2 hL hW h h2 h3 h4 hv hv2 up hB0
    have hmx : Try.prog.follows .mixedOrders = true := by kernel_rfl
    go_wp2_with fail
    refine wp_region_quiet_below hmx (by kernel_rfl) ?_
    repeat (quiet_step (first | exact cE _ _ | exact cC _ _ | exact cC2 _ _ | exact cS _ _ | exact cS2 _ _))
    refine wpQuiet_nil ?_
    intro _ hw'
    obtain ⟨⟨dq, osq⟩, hw''⟩ := hw'
    subst hw''
    go_wp2
    go_ret
    exact ⟨rfl, hb12.trans ((below_regrown w11 dq osq).mono hb12.size)⟩
end Go.Proofs.Ytaanjgijbenapaa
