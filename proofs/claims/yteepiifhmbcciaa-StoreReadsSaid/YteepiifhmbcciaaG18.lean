/- The document's Parent of a level that may be, at a number of it. -/
import Derived.Test.YteepiifhmbcciaaG17
import Derived.Test.YteepiifhmbcciaaG7
import Derived.BigQuiet
import Derived.Test.YteepiifhmbcciaaG15
import Derived.Test.YteepiifhmbcciaaG13
import Derived.Test.YteepiifhmbcciaaG11
import Derived.Test.YteepiifhmbcciaaG16
import Derived.Lib.QuietBelow
namespace Go.Proofs.Yteepiifhmbcciaa
open Go.RowKit

def ParPost (w : World) (p : Nat) (d : Int) (x : Ending) (w' : World) : Prop := x = .returned (.tuple #[.int .i64 (p : Int), .int .i64 d, .int .i64 0]) ∧ Below w.heap.size w w'
set_option maxRecDepth 100000 in
set_option maxHeartbeats 4000000 in
theorem refParent_ok (K S : Int) (a q : Nat) (A B : Option Addr) (n c m e : Nat) (xs ys : List Int) (w : World) (h : LvI w A n B m xs ys) (hn : n ≤ 100000) (hm : m ≤ 100000) (hE : lvF K S xs ys a = 0) (hq : q < totN K S ys a) (p : Nat) (hp : p < a) (hp1 : offN K S xs p ≤ q) (hp2 : q < offN K S xs (p + 1)) :
    Calls Try.prog 61 #[lvV K S A n c B m e, .int .i64 a, .int .i64 q] w (ParPost w p (atN K S ys q)) := by
  have HC := fun W (hb : Below w.heap.size w W) => lvRefCheck_any K S a A B n c m e xs ys W (h.below hb) hn hm
  rw [hE] at HC
  obtain ⟨b, hab, HL⟩ := lok_of hE
  obtain rfl : b = a := by omega
  have HM := fun W => refMany_any K S (b : Int) A B n c m e ys W h.crd.1 h.m1 (by omega) (by have := HL.ahead; omega) HL.size0 HL.size1
  rw [totN_eq HL.size0] at HM
  have HW := fun W => refWhole_any K S A B n c m e W
  have z0 := lvBelow w (lvO K S A n c B m e)
  have zz := heap_alloc_new w (lvO K S A n c B m e)
  have hqt : q ≤ 1048576 := by have := HL.tot; omega
  have hpa : p ≤ 1048576 := by have := HL.ahead; omega
  have hpl := HL.place q hq
  have d1 : decide ((q : Int) < 0) = false := decide_eq_false (by omega)
  have d2 : decide (((totN K S ys b : Nat) : Int) ≤ (q : Int)) = false := decide_eq_false (by omega)
  have d3 : decide (totN K S ys b ≤ q) = false := decide_eq_false (by omega)
  obtain ⟨T, hT⟩ : ∃ T, totN K S ys b = T := ⟨_, rfl⟩
  obtain ⟨D, hD⟩ : ∃ D, atN K S ys q = D := ⟨_, rfl⟩
  have hD1 : D ≤ 2147483648 := by have := HL.size1; omega
  have hD0 : 0 ≤ D := by omega
  rw [hT] at HM d2 d3
  have HDD := Lib.hid hD
  by_cases hw : wholeB K = true
  · have hS : 0 < S := by omega
    have hS0 : ¬ S = 0 := by omega
    have hS9 : S ≤ 2147483648 := HL.size1
    have e1 : (q : Int) % S = D := by rw [← hD]; unfold atN; rw [if_pos hw]
    have e2 : (q : Int) / S = p := by
      unfold offN at hp1 hp2
      rw [if_pos hw] at hp1 hp2
      have hs : ((S.toNat : Nat) : Int) = S := Int.toNat_of_nonneg (by omega)
      have f1 : (p : Int) * S ≤ q := by rw [← hs]; exact_mod_cast hp1
      have f2 : (q : Int) < (p + 1) * S := by rw [← hs]; exact_mod_cast hp2
      exact Int.le_antisymm (Int.lt_add_one_iff.1 (Int.ediv_lt_of_lt_mul hS f2)) (Int.le_ediv_of_mul_le hS f1)
    have g1 : (q : Int).tdiv S = p := by rw [Int.tdiv_eq_ediv_of_nonneg (by omega), e2]
    have g2 : (q : Int).tmod S = D := by rw [Int.tmod_eq_emod_of_nonneg (by omega), e1]
    have g3 : IntKind.i64.wrap ((q : Int).tdiv S) = p := by rw [g1, wrap_eq]; exact IntWalk.wrap64_in _ ⟨by omega, by omega⟩
    have g4 : IntKind.i64.wrap ((q : Int).tmod S) = D := by rw [g2, wrap_eq]; exact IntWalk.wrap64_in _ ⟨by omega, by omega⟩
    have hk0 : (0 : Int) ≤ q := by omega
    rw [hw] at HW
    clear HL hpl hw hq hp hp1 hp2 hT hE hD h hn hm
    go_enter Try.func61, Try.ntmps61
    go_wp2_with fail
    refine (HC _ z0).mono ?_
    rintro x w1 ⟨rfl, hb1⟩
    have hb2 := z0.trans (hb1.mono z0.size)
    obtain ⟨k0, k1, k2, k3, _⟩ := lvCells (oKeep hb1 zz)
    go_wp2_with fail
    refine (HM _).mono ?_
    rintro x w3 ⟨rfl, hb3⟩
    have hb4 := hb2.trans (hb3.mono hb2.size)
    obtain ⟨k0, k1, k2, k3, _⟩ := lvCells (oKeep hb3 (oKeep hb1 zz))
    go_wp2_with fail
    refine (HW _).mono ?_
    rintro x w5 ⟨rfl, hb5⟩
    have hb6 := hb4.trans (hb5.mono hb4.size)
    obtain ⟨k0, k1, k2, k3, _⟩ := lvCells (oKeep hb5 (oKeep hb3 (oKeep hb1 zz)))
    go_wp2_with fail
    go_quiet (fail)
    go_wp2_with fail
    go_ret3
    exact ⟨by rw [HDD.out]; rfl, below_drewN hb6 _⟩
  · have hw' : wholeB K = false := by simpa using hw
    have hy := HL.crdAt hw' q hq
    rw [hD] at hy
    have hqm : q < m := by rw [← h.crd.1]; exact (List.getElem?_eq_some_iff.1 hy).1
    have HY := Lib.hid hy
    have HH := Lib.hid h
    rw [hw'] at HW
    have hm0 : (q : Int) < m := by omega
    have hk0 : (0 : Int) ≤ q := by omega
    by_cases h3 : K = 3
    · have hpq : p = q := by
        unfold offN at hp1 hp2
        rw [if_neg hw, if_pos h3] at hp1 hp2
        omega
      subst hpq
      subst h3
      clear HL hpl hw hw' hq hp hp1 hp2 hT hE hD h hn hy
      go_enter Try.func61, Try.ntmps61
      go_wp2_with fail
      refine (HC _ z0).mono ?_
      rintro x w1 ⟨rfl, hb1⟩
      have hb2 := z0.trans (hb1.mono z0.size)
      obtain ⟨k0, k1, k2, k3, _⟩ := lvCells (oKeep hb1 zz)
      go_wp2_with fail
      refine (HM _).mono ?_
      rintro x w3 ⟨rfl, hb3⟩
      have hb4 := hb2.trans (hb3.mono hb2.size)
      obtain ⟨k0, k1, k2, k3, _⟩ := lvCells (oKeep hb3 (oKeep hb1 zz))
      go_wp2_with fail
      refine (HW _).mono ?_
      rintro x w5 ⟨rfl, hb5⟩
      have hb6 := hb4.trans (hb5.mono hb4.size)
      obtain ⟨k0, k1, k2, k3, _⟩ := lvCells (oKeep hb5 (oKeep hb3 (oKeep hb1 zz)))
      obtain ⟨bb, off, x', rfl, _, HX, hcc, hx1, hx2⟩ := (HH.out.below hb6).crd.at_ hqm
      obtain rfl : x' = D := by have := HX.out; rw [HY.out] at this; injection this with this; exact this.symm
      go_wp2_with fail
      go_quiet (fail)
      go_wp2_with fail
      go_ret3
      exact ⟨by rw [HDD.out]; rfl, below_drewN hb6 _⟩
    · have hk12 : K = 1 ∨ K = 2 := by
        have := HL.kind
        have : ¬ (K = 0 ∨ K = 4) := fun hh => hw (by rcases hh with rfl | rfl <;> rfl)
        omega
      have e3 : (K == 3) = false := by simpa using h3
      have HPOS : Hid (∀ j, j ≤ b → xs[j]? = some ((offN K S xs j : Nat) : Int)) := HL.pos hk12
      have HMON : Hid (∀ j, j ≤ b → j ≤ p → offN K S xs j ≤ q) := fun j hj hjp => Nat.le_trans (HL.mono hjp (by omega)) hp1
      have HP2 := Lib.hid hp2
      have HPA := Lib.hid hp
      have HTT : Hid (∀ j, j ≤ b → offN K S xs j ≤ 1048576) := fun j hj => Nat.le_trans (HL.le_tot hj) HL.tot
      have HXL : Hid (xs.length = n) := h.pos.1
      clear HL hpl hw hw' hq hp hp1 hp2 hT hE hD h hn hy h3 hk12
      go_enter Try.func61, Try.ntmps61
      go_wp2_with fail
      refine (HC _ z0).mono ?_
      rintro x w1 ⟨rfl, hb1⟩
      have hb2 := z0.trans (hb1.mono z0.size)
      obtain ⟨k0, k1, k2, k3, _⟩ := lvCells (oKeep hb1 zz)
      go_wp2_with fail
      refine (HM _).mono ?_
      rintro x w3 ⟨rfl, hb3⟩
      have hb4 := hb2.trans (hb3.mono hb2.size)
      obtain ⟨k0, k1, k2, k3, _⟩ := lvCells (oKeep hb3 (oKeep hb1 zz))
      go_wp2_with fail
      refine (HW _).mono ?_
      rintro x w5 ⟨rfl, hb5⟩
      have HB6 := Lib.hid (hb4.trans (hb5.mono hb4.size))
      have HC6 := Lib.hid (oKeep hb5 (oKeep hb3 (oKeep hb1 zz)))
      obtain ⟨k0, k1, k2, k3, _⟩ := lvCells HC6.out
      clear hb5 hb4 hb3 hb2 hb1 HC HM HW z0 zz
      go_wp2_with fail
      clear k0 k1 k2 k3
      go_loopw [10] (fun i wr => ∃ k : Nat, k ≤ p ∧ i = .int .i64 k ∧ wr = w5) (fun i _ => p - (intOf i).toNat)
      case atStart => exact ⟨0, Nat.zero_le _, rfl, rfl⟩
      case round =>
        obtain ⟨k, hk, rfl, rfl⟩ := hrel
        have hkb : k + 1 ≤ b := by have := HPA.out; omega
        have hx := HPOS.out (k + 1) hkb
        have hkn : k + 1 < n := by rw [← HXL.out]; exact (List.getElem?_eq_some_iff.1 hx).1
        obtain ⟨v, hv⟩ : ∃ v, offN K S xs (k + 1) = v := ⟨_, rfl⟩
        rw [hv] at hx
        obtain ⟨k0, k1, k2, k3, _⟩ := lvCells HC6.out
        obtain ⟨bb, off, x', rfl, _, HX, hcc, hx1, hx2⟩ := (HH.out.below HB6.out).pos.at_ hkn
        obtain rfl : x' = (v : Int) := by have := HX.out; rw [hx] at this; injection this with this; exact this.symm
        have t1 : IntKind.i64.wrap ((k : Int) + 1) = ((k + 1 : Nat) : Int) := by rw [wrap_eq]; exact IntWalk.wrap64_in _ ⟨by omega, by omega⟩
        have t2 : ((k + 1 : Nat) : Int) < n := by omega
        have t3 : (0 : Int) ≤ ((k + 1 : Nat) : Int) := by omega
        by_cases hlt : k < p
        · have d5 : decide ((v : Int) ≤ (q : Int)) = true := decide_eq_true (by have := HMON.out (k + 1) hkb hlt; omega)
          have d6 : decide (v ≤ q) = true := decide_eq_true (by have := HMON.out (k + 1) hkb hlt; omega)
          clear hx
          go_wp2_with fail
          go_roundw
          case rel => exact ⟨k + 1, by omega, by go_num, by first | rfl | trivial⟩
          case measure => simp [intOf]; omega
        · obtain rfl : k = p := by omega
          have d5 : decide ((v : Int) ≤ (q : Int)) = false := decide_eq_false (by have := HP2.out; omega)
          have d6 : decide (v ≤ q) = false := decide_eq_false (by have := HP2.out; omega)
          obtain ⟨bb2, off2, x2, hBB, _, HX2, hcc2, hx12, hx22⟩ := (HH.out.below HB6.out).crd.at_ hqm
          obtain rfl : x2 = D := by have := HX2.out; rw [HY.out] at this; injection this with this; exact this.symm
          rw [hBB] at k3
          clear hx
          go_wp2_with fail
          go_quiet (fail)
          go_wp2_with fail
          go_ret3
          exact ⟨by rw [HDD.out]; rfl, below_drewN HB6.out _⟩
end Go.Proofs.Yteepiifhmbcciaa
/- store.placesAt: the places that the levels have at a place of the shape. -/
namespace Go.Proofs.Yteepiifhmbcciaa
open Go.RowKit Go.Sort

noncomputable def atR (fs : List Sp) (ls : List Lv) (c : List Int) (n k : Nat) : List Int := (List.range k).map (atK fs ls c) ++ List.replicate (n - k) 0
theorem atR_length (fs : List Sp) (ls : List Lv) (c : List Int) {n k : Nat} (h : k ≤ n) : (atR fs ls c n k).length = n := by unfold atR; simp; omega
theorem atR_set (fs : List Sp) (ls : List Lv) (c : List Int) {n k : Nat} (h : k < n) : (atR fs ls c n k).set k (atK fs ls c k) = atR fs ls c n (k + 1) := by
  unfold atR
  rw [List.set_append_right _ _ (by simp), List.length_map, List.length_range, Nat.sub_self, List.range_succ, List.map_append, List.append_assoc]
  congr 1
  obtain ⟨d, hd⟩ : ∃ d, n - k = d + 1 := ⟨n - k - 1, by omega⟩
  rw [hd, List.replicate_succ, List.set_cons_zero, show n - (k + 1) = d by omega]
  rfl
theorem atR_zero (fs : List Sp) (ls : List Lv) (c : List Int) (n : Nat) : stC (atR fs ls c n 0) = List.replicate n (.int .i64 0) := by unfold atR stC; simp
theorem atR_at (fs : List Sp) (ls : List Lv) (c : List Int) {n j : Nat} (h : j < n) : (atR fs ls c n n)[j]? = some (atK fs ls c j) := by
  unfold atR
  rw [List.getElem?_append_left (by simpa using h), List.getElem?_map, List.getElem?_range h]
  rfl
/-- a place of the shape -/
def InC (xs c : List Int) : Prop := c.length = xs.length ∧ ∀ m : Nat, m < xs.length → 0 ≤ c.getD m 0 ∧ c.getD m 0 < xs.getD m 0
section
variable {xs : List Int} {fs : List Sp} {ls : List Lv}
theorem Tok.step_pos (h : Tok xs fs ls) {k : Nat} {f : Sp} (hf : fs[k]? = some f) : 1 ≤ stAt fs k := by
  rw [stAt_eq h.form hf]
  have := bsz_pos h.form f.m
  split <;> omega
theorem Tok.size_pos (h : Tok xs fs ls) {k : Nat} {l : Lv} {f : Sp} (hl : ls[k]? = some l) (hf : fs[k]? = some f) {c : List Int} (hc : InC xs c) : 1 ≤ l.s := by
  have h1 := h.szStep hl hf
  have h2 := h.step_pos hf
  have h3 := bsz_pos h.form f.m
  have h0 := (h.lok hl).size0
  obtain ⟨m, hm, hm2⟩ := h.mode hf
  have h4 := hc.2 m hm2
  rcases Int.lt_or_le l.s 1 with hh | hh
  · have : l.s = 0 := by omega
    rw [this, Int.zero_mul, hm, Int.toNat_natCast] at h1
    split at h1
    · rw [hm] at h3; omega
    · omega
  · exact hh
theorem Tok.atK_range (h : Tok xs fs ls) {k : Nat} {l : Lv} {f : Sp} (hl : ls[k]? = some l) (hf : fs[k]? = some f) {c : List Int} (hc : InC xs c) : 0 ≤ atK fs ls c k ∧ atK fs ls c k < l.s := by
  have h1 := h.size_pos hl hf hc
  rw [atK_eq hf hl]
  exact ⟨Int.emod_nonneg _ (by omega), Int.emod_lt_of_pos _ (by omega)⟩
theorem Tok.atK_eq2 (h : Tok xs fs ls) {k : Nat} {l : Lv} {f : Sp} (hl : ls[k]? = some l) (hf : fs[k]? = some f) {c : List Int} (hc : InC xs c) : ((c.getD f.m.toNat 0).tdiv (stAt fs k)).tmod l.s = atK fs ls c k := by
  obtain ⟨m, hm, hm2⟩ := h.mode hf
  have h4 := hc.2 m hm2
  rw [atK_eq hf hl, hm, Int.toNat_natCast, Int.tdiv_eq_ediv_of_nonneg h4.1, Int.tmod_eq_emod_of_nonneg (Int.ediv_nonneg h4.1 (by have := h.step_pos hf; omega))]
end
def AtCut (fs : List Sp) (fn : Nat) (W0 : World) (gs gt : Nat) (wx : World) : Prop :=
  W0.heap.size ≤ gs ∧ W0.heap.size ≤ gt ∧ gs ≠ gt ∧ wx.heap[gs]? = some (.cells (stC (stepK fs fn)).toArray 3 (0, 0)) ∧ wx.heap[gt]? = some (.cells (Array.replicate fn (Value.int .i64 0)) 3 (0, 0)) ∧ Below W0.heap.size W0 wx
theorem atCut_a {fs : List Sp} {fn : Nat} {W0 w3 : World} (hst : w3.heap[W0.heap.size]? = some (.cells (stC (stepK fs fn)).toArray 3 (0, 0))) (hb : Below W0.heap.size W0 w3) : AtCut fs fn W0 W0.heap.size w3.heap.size (w3.alloc (.cells (Array.replicate fn (Value.int .i64 0)) 3)) :=
  ⟨Nat.le_refl _, hb.size, Nat.ne_of_lt (lt_of_heap hst), heapPast_ _ hst, heap_alloc_new _ _, hb.alloc hb.size _⟩
theorem atCut_b {fs : List Sp} {fn : Nat} {W0 w3 : World} (hst : w3.heap[W0.heap.size + 1]? = some (.cells (stC (stepK fs fn)).toArray 3 (0, 0))) (hb : Below (W0.alloc (.cells (Array.replicate fn (Value.int .i64 0)) 3)).heap.size (W0.alloc (.cells (Array.replicate fn (Value.int .i64 0)) 3)) w3) : AtCut fs fn W0 (W0.heap.size + 1) W0.heap.size w3 :=
  ⟨by omega, Nat.le_refl _, by omega, hst, keep_b hb (heap_alloc_new _ _), ((Below.refl _ _).alloc (Nat.le_refl _) _).trans (hb.mono (by simp))⟩
def AtPost (w : World) (T : Ten) (cs : List Int) (e : Ending) (w' : World) : Prop :=
  Below w.heap.size w w' ∧ ∃ g, w.heap.size ≤ g ∧ e = .returned (.slice (some ⟨g, 0, none⟩) T.fn T.fn) ∧ w'.heap[g]? = some (.cells (stC (atR T.fs T.ls cs T.fn T.fn)).toArray 3 (0, 0))
set_option maxRecDepth 100000 in
set_option maxHeartbeats 8000000 in
theorem placesAt_aux (T : Ten) (A : Option Addr) (n c : Nat) (xs : List Int) (F : Option Addr) (fn fc : Nat) (fs : List Sp) (L : Option Addr) (lc : Nat) (ls : List Lv) (V : Option Addr) (vn vc : Nat) (vs : List Int) (w : World) (hT : T = ⟨A, n, c, xs, F, fn, fc, fs, L, fn, lc, ls, V, vn, vc, vs⟩) (ht : Ten.In w w.heap.size ⟨A, n, c, xs, F, fn, fc, fs, L, fn, lc, ls, V, vn, vc, vs⟩)
    (hTok : Tok xs fs ls) (Cc : Option Addr) (cc : Nat) (cs : List Int) (hc : Ints w w.heap.size Cc n cs) (hi : InC xs cs) :
    Calls Try.prog 44 #[.agg #[.slice A n c, .slice F fn fc, .slice L fn lc, .slice V vn vc], .slice Cc n cc] w (AtPost w T cs) := by
  have HT := Lib.hid hT
  have HI := Lib.hid ht
  have HC := Lib.hid hc
  have HIN := Lib.hid hi
  have HTok := Lib.hid hTok
  have HFL : Hid (fs.length = fn) := ht.form.1
  have HLL : Hid (ls.length = fn) := ht.lvs.1
  have HXL : Hid (xs.length = n) := ht.shape.1
  have HXR : Hid (∀ z ∈ xs, -9223372036854775808 ≤ z ∧ z ≤ 9223372036854775807) := ht.shape.2.1
  have b1 := ht.f1
  have b2 := ht.n1
  dsimp only at b1 b2
  obtain ⟨W0, hW0⟩ : ∃ W, w.alloc (.cells #[.slice A n c, .slice F fn fc, .slice L fn lc, .slice V vn vc] 27) = W := ⟨_, rfl⟩
  have HB0 : Hid (Below w.heap.size w W0) := by rw [← hW0]; exact lvBelow w _
  have HX0 : Hid (W0.heap[w.heap.size]? = some (.cells #[.slice A n c, .slice F fn fc, .slice L fn lc, .slice V vn vc] 27 (0, 0))) := by rw [← hW0]; exact heap_alloc_new w _
  obtain ⟨k0, k1, k2, k3, _⟩ := lvCells HX0.out
  have HS : Hid (∀ W, Below W0.heap.size W0 W → Calls Try.prog 35 #[.slice F fn fc] W fun r w' => r = .returned (.slice (some ⟨W.heap.size, 0, none⟩) fn fn) ∧ w'.heap[W.heap.size]? = some (.cells (stC (stepK fs fn)).toArray 3 (0, 0)) ∧ Below W.heap.size W w') := by
    intro W hW
    exact steps_any F fn fc fs W ((HI.out.on (HB0.out.trans (hW.mono HB0.out.size))).form) b1
  have hmk := fun W => vrun_make fn b1 W
  have HW0 := Lib.hid hW0
  clear hT ht hc hi hTok hW0
  go_enter Try.func44, Try.ntmps44
  go_upto_region 1 with fail
  rw [HW0.out]
  have k1a := fun o => cellPast o k1
  go_cut [5, 6] (fun a b wx => ∃ gs gt, a = .slice (some ⟨gs, 0, none⟩) fn fn ∧ b = .slice (some ⟨gt, 0, none⟩) fn fn ∧ AtCut fs fn W0 gs gt wx)
  case first =>
    go_region_law (go_simp; go_at_call 35; refine (HS.out _ ?b0).mono ?_; (case b0 => first | exact Below.refl _ _ | exact (Below.refl _ _).drew | exact (Below.refl _ _).alloc (Nat.le_refl _) _ | exact ((Below.refl _ _).alloc (Nat.le_refl _) _).drew); rintro e w3 ⟨rfl, hst, hb3⟩; have hx3 : w3.heap[w.heap.size]? = some (.cells #[.slice A n c, .slice F fn fc, .slice L fn lc, .slice V vn vc] 27 (0, 0)) := (by first | exact keep_b hb3 HX0.out | exact keep_b hb3 (heapPast_ _ HX0.out)); obtain ⟨j0, j1, _, _, _⟩ := lvCells hx3)
    all_goals go_wp2_with fail
    all_goals go_meet
    all_goals first
      | exact ⟨_, _, rfl, rfl, atCut_a hst hb3⟩
      | exact ⟨_, _, rfl, rfl, atCut_a hst ((Below.refl W0.heap.size W0).drew.trans hb3)⟩
      | exact ⟨_, _, rfl, rfl, atCut_b hst hb3⟩
      | exact ⟨_, _, rfl, rfl, atCut_b (by simpa using hst) ((Below.refl _ (W0.alloc (.cells (Array.replicate fn (Value.int .i64 0)) 3))).drew.trans hb3)⟩
  case rest =>
    obtain ⟨gs, gt, rfl, rfl, o1, o2, o3, hgs, hgt, hbc⟩ := hcut
    have HBC := Lib.hid (HB0.out.trans (hbc.mono HB0.out.size))
    have HXC := Lib.hid (keep_b hbc HX0.out)
    have hgt0 : wc.heap[gt]? = some (.cells (stC (atR fs ls cs fn 0)).toArray 3 (0, 0)) := by rw [hgt, atR_zero]; simp
    have HGT := Lib.hid hgt0
    have HGS := Lib.hid hgs
    have hw0 : w.heap.size < W0.heap.size := lt_of_heap HX0.out
    clear k0 k1 k2 k3 k1a HS hmk hgs hgt hgt0 hbc
    obtain ⟨k0, k1, k2, k3, _⟩ := lvCells HXC.out
    obtain ⟨wo, rfl⟩ : ∃ wo : World, wo = wc := ⟨_, rfl⟩
    go_wp2_with fail
    clear k0 k1 k2 k3
    go_loopw [19] (fun i wr => ∃ k : Nat, k ≤ fn ∧ i = .int .i64 k ∧ Hid (wr.heap[gt]? = some (.cells (stC (atR fs ls cs fn k)).toArray 3 (0, 0))) ∧ Hid (wr.heap[gs]? = some (.cells (stC (stepK fs fn)).toArray 3 (0, 0))) ∧ Hid (Below w.heap.size w wr) ∧ Hid (wr.heap[w.heap.size]? = some (.cells #[.slice A n c, .slice F fn fc, .slice L fn lc, .slice V vn vc] 27 (0, 0)))) (fun i _ => fn - (intOf i).toNat)
    case atStart => exact ⟨0, Nat.zero_le _, rfl, HGT, HGS, HBC, HXC⟩
    case round =>
      obtain ⟨k, hk, rfl, HG, HS, HB, HX⟩ := hrel
      by_cases hlt : k < fn
      · obtain ⟨bl, ol, s, hFA, hbb, HFk, f0, f1, f2, sok⟩ := (HI.out.on HB.out).form.at_ hlt
        obtain ⟨bl2, ol2, l, hLA, hbb2, HLk, l0, l1, l2, l3, li⟩ := (HI.out.on HB.out).lvs.at_ hlt
        dsimp only at HFk HLk hFA hLA
        obtain ⟨m, hm, hm2⟩ := HTok.out.mode HFk.out
        have hrg := HTok.out.atK_range HLk.out HFk.out HIN.out
        have heq := HTok.out.atK_eq2 HLk.out HFk.out HIN.out
        have hsp := HTok.out.size_pos HLk.out HFk.out HIN.out
        have hst := HTok.out.step_pos HFk.out
        have hls := ((HTok.out.lok HLk.out).size1)
        have hin := HIN.out.2 m hm2
        rw [hm, Int.toNat_natCast] at heq
        obtain ⟨S, hS⟩ : ∃ S, stAt fs k = S := ⟨_, rfl⟩
        obtain ⟨Z, hZ⟩ : ∃ Z, l.s = Z := ⟨_, rfl⟩
        obtain ⟨CV, hCV⟩ : ∃ z, cs.getD m 0 = z := ⟨_, rfl⟩
        obtain ⟨R, hR⟩ : ∃ z, atK fs ls cs k = z := ⟨_, rfl⟩
        have hmn : m < n := by rw [← HXL.out]; exact hm2
        have hxm : xs.getD m 0 ≤ 9223372036854775807 := by rw [List.getD_eq_getElem?_getD, List.getElem?_eq_getElem hm2]; exact (HXR.out _ (List.getElem_mem hm2)).2
        rw [hS] at hst heq
        rw [hZ] at hsp hls heq hrg l1
        rw [hCV] at heq hin
        rw [hR] at heq hrg
        rw [hm] at f1
        obtain ⟨bc, oc, z, rfl, hbc, HCk, c0, c1, c2⟩ := (HC.out.below HB.out).at_ hmn
        have hz : CV = z := by rw [← hCV, List.getD_eq_getElem?_getD, HCk.out]; rfl
        subst hz
        have hnb := heap_alloc_new wr (.cells #[.int .i64 s.k, .int .i64 (m : Int), .int .i64 s.s] 60)
        have t0 := cell_of_row _ _ 0 _ _ _ hnb
        have t1 := cell_of_row _ _ 1 _ _ _ hnb
        have t2 := cell_of_row _ _ 2 _ _ _ hnb
        have g0 : (0 : Int) ≤ (k : Int) := by omega
        have g1 : (k : Int) < (fn : Int) := by omega
        have g2 : (0 : Int) ≤ (m : Int) := by omega
        have g3 : (m : Int) < (n : Int) := by omega
        have e1 : ¬ S = 0 := by omega
        have e2 : ¬ Z = 0 := by omega
        have q0 := Int.tdiv_nonneg (a := CV) (b := S) hin.1 (by omega)
        have q1 := Int.tdiv_le_self (a := CV) S hin.1
        have w1 : IntKind.i64.wrap (CV.tdiv S) = CV.tdiv S := IntWalk.i64_in _ (by omega)
        have w2 : IntKind.i64.wrap ((CV.tdiv S).tmod Z) = R := by rw [heq]; exact IntWalk.i64_in _ (by omega)
        have hlc : fn ≤ lc := HI.out.lc
        obtain ⟨j0, j1, j2, j3, _⟩ := lvCells HX.out
        obtain ⟨s0, s1⟩ := vblk_cell (i := k) (v := .int .i64 S) HS.out (by
          have hl := stepK_length fs fn
          have hf2 := HFL.out
          unfold stC
          rw [List.getElem?_map, List.getElem?_eq_getElem (by omega), ← hS]
          unfold stAt
          rw [HFL.out, List.getD_eq_getElem?_getD, List.getElem?_eq_getElem (by omega)]
          rfl)
        obtain ⟨v0, hv0⟩ : ∃ v, (stC (atR fs ls cs fn k))[k]? = some v := ⟨_, List.getElem?_eq_getElem (by unfold stC; rw [List.length_map, atR_length _ _ _ hk]; exact hlt)⟩
        obtain ⟨y0, y1⟩ := vblk_cell HG.out hv0
        have hset : Hid ((stC (atR fs ls cs fn k)).set k (.int .i64 R) = stC (atR fs ls cs fn (k + 1))) := by unfold Hid; rw [stC_set, ← hR, atR_set _ _ _ hlt]
        subst hFA
        subst hLA
        obtain ⟨W6, hW6⟩ : ∃ W, wr.alloc (.cells #[.int .i64 s.k, .int .i64 (m : Int), .int .i64 s.s] 60) = W := ⟨_, rfl⟩
        have hb6 : Below wr.heap.size wr W6 := by rw [← hW6]; exact (Below.refl _ _).alloc (Nat.le_refl _) _
        rw [hW6] at t0 t1 t2
        clear hnb
        go_upto_region 5 with fail
        try rw [hW6]
        have x1 := cell_regrown t1
        have x2 := cell_regrown ((hb6.cell (p := ⟨w.heap.size, 2, none⟩) (lt_of_heap HX.out)).trans j2)
        have x3 := cell_regrown ((hb6.cell (p := ⟨bc, oc + m, none⟩) (Nat.lt_of_lt_of_le hbc HB.out.size)).trans c0)
        have x4 := cell_regrown ((hb6.cell (p := ⟨gs, k, none⟩) (lt_of_heap HS.out)).trans s0)
        have x5 := cell_regrown ((hb6.cell (p := ⟨bl2, ol2 + k * 4 + 1, none⟩) hbb2).trans l1)
        have hmx : Try.prog.follows .mixedOrders = true := by kernel_rfl
        refine wp_region_below_tail 20 hmx (by kernel_rfl) ?_
        simp only [List.take_succ_cons, List.take_zero, List.drop_succ_cons, List.drop_zero]
        repeat (quiet_step (fail))
        refine wpQuiet_nil ?_
        intro _ hw'
        obtain ⟨⟨dq, osq⟩, hw''⟩ := hw'
        subst hw''
        obtain ⟨W7, hW7⟩ : ∃ W, grow (redrawn W6 dq) osq = W := ⟨_, rfl⟩
        have hb7 := below_regrown W6 dq osq
        rw [hW7] at hb7 ⊢
        have hbr := hb6.trans (hb7.mono hb6.size)
        have HG7 := Lib.hid (keep_b hbr HG.out)
        have HS7 := Lib.hid (keep_b hbr HS.out)
        have HX7 := Lib.hid (keep_b hbr HX.out)
        have HB7 := Lib.hid (HB.out.trans (hbr.mono HB.out.size))
        obtain ⟨y0, y1⟩ := vblk_cell HG7.out hv0
        have hngt : w.heap.size ≤ gt := by have := HB0.out.size; omega
        have hnx : w.heap.size ≠ gt := by omega
        clear x1 x2 x3 x4 x5 s0 s1 t0 t1 t2 j0 j1 j2 j3 c0 f0 f1 f2 l0 l1 l2 l3 hW7 hb7 hbr hW6 hb6
        go_wp2_with fail
        go_roundw
        case rel => exact ⟨k + 1, by omega, by go_num, by unfold Hid; rw [vblk_set HG7.out, hset.out], (Below.heap_setCell _ _ _ _ o3).trans HS7.out, HB7.out.setCell (p := ⟨gt, k, none⟩) hngt _, (Below.heap_setCell _ _ _ _ hnx).trans HX7.out⟩
        case measure => simp [intOf]; omega
      · obtain rfl : k = fn := by omega
        go_wp2_with fail
        go_ret
        refine ⟨HB.out, gt, by have := HB0.out.size; omega, ?_, ?_⟩
        · rw [HT.out]; rfl
        · rw [HT.out]; exact HG.out
theorem placesAt_any (T : Ten) (w : World) (ht : T.In w w.heap.size) (hTok : Tok T.xs T.fs T.ls) (Cc : Option Addr) (cc : Nat) (cs : List Int) (hc : Ints w w.heap.size Cc T.n cs) (hi : InC T.xs cs) :
    Calls Try.prog 44 #[T.val, .slice Cc T.n cc] w (AtPost w T cs) := by
  obtain ⟨A, n, c, xs, F, fn, fc, fs, L, ln, lc, ls, V, vn, vc, vs⟩ := T
  have h1 : fs.length = fn := ht.form.1
  have h2 : ls.length = ln := ht.lvs.1
  have h3 := hTok.of.1
  dsimp only at h3
  obtain rfl : fn = ln := by omega
  exact placesAt_aux _ A n c xs F fn fc fs L lc ls V vn vc vs w rfl ht hTok Cc cc cs hc hi
end Go.Proofs.Yteepiifhmbcciaa
/- The document's rises: whether places behind a loose level rise. -/
namespace Go.Proofs.Yteepiifhmbcciaa
open Go.RowKit Go.Sort

set_option maxRecDepth 100000 in
set_option maxHeartbeats 8000000 in
theorem refRises_aux (T : Ten) (A : Option Addr) (n c : Nat) (xs : List Int) (F : Option Addr) (fn fc : Nat) (fs : List Sp) (L : Option Addr) (ln lc : Nat) (ls : List Lv) (V : Option Addr) (vn vc : Nat) (vs : List Int) (w : World) (hT : T = ⟨A, n, c, xs, F, fn, fc, fs, L, ln, lc, ls, V, vn, vc, vs⟩) (ht : Ten.In w w.heap.size ⟨A, n, c, xs, F, fn, fc, fs, L, ln, lc, ls, V, vn, vc, vs⟩) (hok : LooseOK ls) :
    Calls Try.prog 28 #[.agg #[.slice A n c, .slice F fn fc, .slice L ln lc, .slice V vn vc]] w fun r w' => r = .returned (.bool (pB (RiseL T.ls))) ∧ Below w.heap.size w w' := by
  obtain ⟨PB, hPB⟩ : ∃ b, pB (RiseL ls) = b := ⟨_, rfl⟩
  rw [hT]
  dsimp only
  rw [hPB]
  have HB0 := Lib.hid (lvBelow w (.cells #[.slice A n c, .slice F fn fc, .slice L ln lc, .slice V vn vc] 27))
  have HX0 := Lib.hid (heap_alloc_new w (.cells #[.slice A n c, .slice F fn fc, .slice L ln lc, .slice V vn vc] 27))
  obtain ⟨W0, hW0⟩ : ∃ W, w.alloc (.cells #[.slice A n c, .slice F fn fc, .slice L ln lc, .slice V vn vc] 27) = W := ⟨_, rfl⟩
  rw [hW0] at HB0 HX0
  obtain ⟨k0, k1, k2, k3, _⟩ := lvCells HX0.out
  have HI := Lib.hid ht
  have hll : ls.length = ln := ht.lvs.1
  have HLL := Lib.hid hll
  have b1 := ht.l1
  have b2 := ht.lc
  dsimp only at b1 b2
  have HOK := Lib.hid hok
  have HKP : Hid (∀ W, Below W0.heap.size W0 W → Below w.heap.size w W ∧ W.heap[w.heap.size]? = some (.cells #[.slice A n c, .slice F fn fc, .slice L ln lc, .slice V vn vc] 27 (0, 0)) ∧ Lvs W W.heap.size L ln ls) := fun W hW => ⟨HB0.out.trans (hW.mono HB0.out.size), keep_b hW HX0.out, (HI.out.on (HB0.out.trans (hW.mono HB0.out.size))).lvs⟩
  have HT : Hid (RiseL ls → PB = true) := fun h => by rw [← hPB]; exact pB_t h
  have HN : Hid (∀ (kl : Nat) (l : Lv) (p q : Nat), ls[kl]? = some l → l.k = 2 → p + 1 < l.xs.length → offN 2 l.s l.xs p < q → q < offN 2 l.s l.xs (p + 1) → aheadB (q - 1) q (ls.drop kl) = false → PB = false) := fun kl l p q h1 h2 h3 h4 h5 h6 => by
    rw [← hPB]
    exact pB_f fun h => by rw [h kl l h1 h2 p q h3 h4 h5] at h6; cases h6
  have hmx : Try.prog.follows .mixedOrders = true := by kernel_rfl
  clear hT ht hok hPB hll
  go_enter Try.func28, Try.ntmps28
  go_upto_region 1 with fail
  try rw [hW0]
  clear hW0
  go_wp2_with fail
  clear k0 k1 k2 k3
  go_loopw [13] (fun i wr => ∃ k : Nat, k ≤ ln ∧ i = .int .i64 k ∧ Hid (∀ (kl : Nat) (l : Lv), kl < k → ls[kl]? = some l → l.k = 2 → ∀ p n, p + 1 < l.xs.length → offN 2 l.s l.xs p < n → n < offN 2 l.s l.xs (p + 1) → aheadB (n - 1) n (ls.drop kl) = true) ∧ Hid (Below W0.heap.size W0 wr)) (fun i _ => ln - (intOf i).toNat)
  case atStart => exact ⟨0, Nat.zero_le _, rfl, fun kl _ h => absurd h (by omega), Below.refl _ _⟩
  case round =>
    obtain ⟨k, hk, rfl, HR, HB⟩ := hrel
    by_cases hlt : k < ln
    · obtain ⟨wo, rfl⟩ : ∃ wo : World, wo = wr := ⟨_, rfl⟩
      obtain ⟨bl, ol, l, hLA, hbl, HL, d0, d1, d2, d3, li⟩ := ((HKP.out _ HB.out).2.2).at_ hlt
      subst hLA
      have hkI : (k : Int) < (ln : Int) := by omega
      have hk0 : (0 : Int) ≤ (k : Int) := by omega
      have hkc : (k : Int) < (lc : Int) := by omega
      have hkc2 : ¬ lc = k := by omega
      obtain ⟨W1, hW1⟩ : ∃ W, wo.alloc (lvO l.k l.s l.A l.n l.c l.B l.m l.e) = W := ⟨_, rfl⟩
      have hb1 : Below wo.heap.size wo W1 := by rw [← hW1]; exact lvBelow wo _
      have hn1 : W1.heap[wo.heap.size]? = some (lvO l.k l.s l.A l.n l.c l.B l.m l.e) := by rw [← hW1]; exact heap_alloc_new _ _
      have HB1 := Lib.hid (HB.out.trans (hb1.mono HB.out.size))
      have HN1 := Lib.hid hn1
      have HLT : Hid (k + 1 ≤ ln) := hlt
      obtain ⟨q0, q1, q2, q3, _⟩ := lvCells hn1
      have HLI : Hid (∀ W, Below W1.heap.size W1 W → l.In W W.heap.size) := fun W hW => (li.below (hb1.trans (hW.mono hb1.size))).more ((hb1.trans (hW.mono hb1.size)).size)
      clear li hb1 hn1 hlt hbl HB
      by_cases hk2 : l.k = 2
      · have e1 : (l.k != 2) = false := by rw [hk2]; rfl
        obtain ⟨⟨a, hLok⟩, hlen, huni⟩ := HOK.out k l HL.out hk2
        have hpl := hLok.posLen (.inr rfl)
        have hnx : l.n = a + 1 := by rw [← (HLI.out W1 (Below.refl _ _)).pos.1, hpl]
        have ha := hLok.ahead
        have e0 : IntKind.i64.wrap ((l.n : Int) - 1) = (a : Int) := by rw [hnx, IntWalk.i64_in _ (by omega)]; omega
        have hnz : l.n ≤ 1048577 := by omega
        have HLok := Lib.hid hLok
        have HPL := Lib.hid hpl
        have HLen := Lib.hid hlen
        have HK2 := Lib.hid hk2
        have HNX := Lib.hid hnx
        clear hk2 hLok hlen huni hpl hnx
        go_upto_region 4 with fail
        try rw [hW1]
        clear hW1 d0 d1 d2 d3
        go_wp2_with fail
        clear q0 q1 q2 q3
        go_loopw [25] (fun i wr => ∃ p : Nat, p ≤ a ∧ i = .int .i64 p ∧ Hid (∀ p' n, p' < p → offN 2 l.s l.xs p' < n → n < offN 2 l.s l.xs (p' + 1) → aheadB (n - 1) n (ls.drop k) = true) ∧ Hid (Below W1.heap.size W1 wr)) (fun i _ => a - (intOf i).toNat)
        case atStart => exact ⟨0, Nat.zero_le _, rfl, fun p' _ hp => absurd hp (by omega), Below.refl _ _⟩
        case round =>
          obtain ⟨p, hp, rfl, HP, HBp⟩ := hrel
          by_cases hpa : p < a
          · obtain ⟨wp, rfl⟩ : ∃ wp : World, wp = wr := ⟨_, rfl⟩
            obtain ⟨X, hX⟩ : ∃ X, offN 2 l.s l.xs p = X := ⟨_, rfl⟩
            obtain ⟨Z, hZ⟩ : ∃ Z, offN 2 l.s l.xs (p + 1) = Z := ⟨_, rfl⟩
            have hx1 := HLok.out.pos (.inr rfl) p (by omega)
            have hx2 := HLok.out.pos (.inr rfl) (p + 1) (by omega)
            have hXZ := HLok.out.step p hpa
            have hZt := HLok.out.le_tot (p := p + 1) (by omega)
            rw [← HLok.out.crdLen (by rfl)] at hZt
            rw [hX] at hx1 hXZ
            rw [hZ] at hx2 hXZ hZt
            have hyl := HLok.out.crd
            have hnn := HNX.out
            have HPC : Hid (∀ W, Below W1.heap.size W1 W → ∃ bp op, l.A = some ⟨bp, op, none⟩ ∧ W.cell? ⟨bp, op + p, none⟩ = some (.int .i64 (X : Int)) ∧ W.cell? ⟨bp, op + (p + 1), none⟩ = some (.int .i64 (Z : Int))) := by
              intro W hW
              have hi := (HLI.out W hW).pos
              obtain ⟨b1', o1', y1, hA1, _, HY1, hc1, _, _⟩ := hi.at_ (k := p) (by omega)
              obtain ⟨b2', o2', y2, hA2, _, HY2, hc2, _, _⟩ := hi.at_ (k := p + 1) (by omega)
              rw [hA1] at hA2
              injection hA2 with hA2
              injection hA2 with g1 g2
              subst g1 g2
              rw [HY1.out] at hx1
              rw [HY2.out] at hx2
              injection hx1 with hx1
              injection hx2 with hx2
              exact ⟨b1', o1', hA1, by rw [hc1, hx1], by rw [hc2, hx2]⟩
            obtain ⟨bp, op, hAA, hcx, hcz⟩ := HPC.out wp HBp.out
            obtain ⟨q0, q1, q2, q3, _⟩ := lvCells (keep_b HBp.out HN1.out)
            rw [hAA] at q2
            have hpI : (p : Int) < (l.n : Int) := by omega
            have hp0 : (0 : Int) ≤ (p : Int) := by omega
            have hp1I : (p : Int) + 1 < (l.n : Int) := by omega
            have hp10 : (0 : Int) ≤ (p : Int) + 1 := by omega
            have w1 : IntKind.i64.wrap ((X : Int) + 1) = (X : Int) + 1 := IntWalk.i64_in _ (by omega)
            have w2 : IntKind.i64.wrap ((p : Int) + 1) = ((p + 1 : Nat) : Int) := by rw [IntWalk.i64_in _ (by omega)]; omega
            have HX := Lib.hid hX
            have HZ := Lib.hid hZ
            have HAA := Lib.hid hAA
            clear hx1 hx2 hX hZ hnn
            go_wp2_with fail
            clear q0 q1 q2 q3 hcx hcz hAA
            go_loopw [6] (fun i wr => ∃ q : Nat, X + 1 ≤ q ∧ (q ≤ Z ∨ q = X + 1) ∧ i = .int .i64 q ∧ Hid (∀ n, X < n → n < q → aheadB (n - 1) n (ls.drop k) = true) ∧ Hid (Below W1.heap.size W1 wr)) (fun i _ => Z - (intOf i).toNat)
            case atStart => exact ⟨X + 1, Nat.le_refl _, .inr rfl, by go_num, (fun n h1 h2 => by omega), HBp.out⟩
            case round =>
              obtain ⟨q, hq1, hq2, rfl, HQ, HBq⟩ := hrel
              obtain ⟨wq, rfl⟩ : ∃ wq : World, wq = wr := ⟨_, rfl⟩
              obtain ⟨bp2, op2, hAA, hcx, hcz⟩ := HPC.out wq HBq.out
              obtain ⟨q0, q1, q2, q3, _⟩ := lvCells (keep_b HBq.out HN1.out)
              rw [hAA] at q2
              by_cases hqZ : q < Z
              · have hqI : (q : Int) < (Z : Int) := by omega
                have dq : decide (q < Z) = true := decide_eq_true hqZ
                obtain ⟨FB, hFB⟩ : ∃ FB, aheadB (q - 1) q (ls.drop k) = FB := ⟨_, rfl⟩
                have HFB := Lib.hid hFB
                have HQZ := Lib.hid hqZ
                have hXq := (HKP.out _ (HB1.out.trans (HBq.out.mono HB1.out.size))).2.1
                obtain ⟨k0, k1, k2, k3, _⟩ := lvCells hXq
                have HFT : Hid (FB = true → ∀ n, X < n → n < q + 1 → aheadB (n - 1) n (ls.drop k) = true) := fun hf n h1 h2 => by
                  rcases Nat.lt_or_ge n q with h3 | h3
                  · exact HQ.out n h1 h3
                  · obtain rfl : n = q := by omega
                    rw [hFB, hf]
                have HFF : Hid (FB = false → PB = false) := fun hf => HN.out k l p q HL.out HK2.out (by rw [HPL.out]; omega) (by rw [HX.out]; omega) (by rw [HZ.out]; exact hqZ) (by rw [hFB, hf])
                have wq1 : IntKind.i64.wrap ((q : Int) - 1) = ((q - 1 : Nat) : Int) := by rw [show (q : Int) - 1 = ((q - 1 : Nat) : Int) by omega]; exact IntWalk.i64_in _ (by omega)
                have wq2 : IntKind.i64.wrap ((q : Int) + 1) = (q : Int) + 1 := IntWalk.i64_in _ (by omega)
                have HQL : Hid (1 ≤ q ∧ q < l.ys.length) := by unfold Hid; omega
                clear hFB hXq
                go_wp2_with fail
                clear q0 q1 q2 q3 k0 k1 k2 k3 hcx hcz hAA
                go_loopw [49, 7] (fun i b wr => ∃ j : Nat, j ≤ ln - k ∧ i = .int .i64 j ∧ b = .bool false ∧ Hid (aheadB (q - 1) q (ls.drop (k + j)) = FB) ∧ Hid (Below W1.heap.size W1 wr)) (fun i _ _ => (ln - k) - (intOf i).toNat)
                case atStart => exact ⟨0, Nat.zero_le _, rfl, rfl, HFB, HBq.out⟩
                case round =>
                  obtain ⟨j, hj, rfl, rfl, HJ, HBj⟩ := hrel
                  have hBj := HB1.out.trans (HBj.out.mono HB1.out.size)
                  have hd := ((HKP.out wr hBj).2.2).drop_ (k := k) (c := lc) hk b2
                  rw [if_neg hkc2, Option.map_some, Addr.add_lit] at hd
                  by_cases hjl : j < ln - k
                  · obtain ⟨b3, o3, x, hA3, _, HXl, d0, d1, d2, d3, lix⟩ := hd.at_ hjl
                    obtain ⟨rfl, rfl⟩ : b3 = bl ∧ o3 = ol + k * 4 := by injection hA3 with hA3; injection hA3 with h1 h2; exact ⟨h1.symm, h2.symm⟩
                    have hxj : ls[k + j]? = some x := by have := HXl.out; rwa [List.getElem?_drop] at this
                    have hxm : x.m = l.ys.length := by
                      have h1 := HLen.out x (List.mem_of_getElem? HXl.out)
                      rw [← lix.crd.1]; exact h1
                    have hql := HQL.out
                    obtain ⟨W3, hW3⟩ : ∃ W, wr.alloc (lvO x.k x.s x.A x.n x.c x.B x.m x.e) = W := ⟨_, rfl⟩
                    have hb3 : Below wr.heap.size wr W3 := by rw [← hW3]; exact lvBelow wr _
                    have hn3 : W3.heap[wr.heap.size]? = some (lvO x.k x.s x.A x.n x.c x.B x.m x.e) := by rw [← hW3]; exact heap_alloc_new _ _
                    have hic := (lix.crd.below hb3)
                    obtain ⟨bA, oA, u, hA, hbA, HU, cu, _, _⟩ := hic.at_ (k := q - 1) (by omega)
                    obtain ⟨bA2, oA2, v, hA2, _, HV, cv, _, _⟩ := hic.at_ (k := q) (by omega)
                    obtain ⟨rfl, rfl⟩ : bA2 = bA ∧ oA2 = oA := by rw [hA] at hA2; injection hA2 with hA2; injection hA2 with h1 h2; exact ⟨h1.symm, h2.symm⟩
                    obtain ⟨q0, q1, q2, q3, _⟩ := lvCells hn3
                    rw [hA] at q3
                    have hai : ((q - 1 : Nat) : Int) < (x.m : Int) := by omega
                    have hai0 : (0 : Int) ≤ ((q - 1 : Nat) : Int) := by omega
                    have hbi : (q : Int) < (x.m : Int) := by omega
                    have hbi0 : (0 : Int) ≤ (q : Int) := by omega
                    have hjI : (j : Int) < ((ln - k : Nat) : Int) := by omega
                    have hj0 : (0 : Int) ≤ (j : Int) := by omega
                    have hjc : (j : Int) < ((lc - k : Nat) : Int) := by omega
                    have HB3 := Lib.hid (HBj.out.trans (hb3.mono HBj.out.size))
                    have HD : Hid (FB = if u = v then aheadB (q - 1) q (ls.drop (k + j + 1)) else decide (u < v)) := by
                      unfold Hid
                      rw [← HJ.out, aheadB_drop hxj, HU.out, HV.out]
                      rfl
                    have HJL : Hid (j + 1 ≤ ln - k) := by unfold Hid; omega
                    have hbw3 : wr.heap.size < W3.heap.size := lt_of_heap hn3
                    have hbA3 : bA2 < W3.heap.size := by omega
                    clear hd hA3 lix hic hA hA2 hn3 hjl hxm hql hxj hBj hbA
                    have z3 := cell_regrown q3
                    have zu := cell_regrown cu
                    have zv := cell_regrown cv
                    by_cases a1 : u = v
                    · have HNX2 : Hid (aheadB (q - 1) q (ls.drop (k + (j + 1))) = FB) := by
                        have := HD.out
                        rw [if_pos a1] at this
                        exact this.symm
                      have e5 : (u != v) = false := by simpa using a1
                      clear a1
                      go_upto_region 15 with fail
                      try rw [hW3]
                      clear hW3 d0 d1 d2 d3
                      go_wp2_with fail
                      refine wp_region_quiet_below hmx (by kernel_rfl) ?_
                      repeat (quiet_step (fail))
                      refine wpQuiet_nil ?_
                      intro _ hw'
                      obtain ⟨⟨da, oa⟩, hw''⟩ := hw'
                      subst hw''
                      obtain ⟨W4, hWa⟩ : ∃ W, grow (redrawn W3 da) oa = W := ⟨_, rfl⟩
                      have hba := below_regrown W3 da oa
                      rw [hWa] at hba ⊢
                      have HB4 := Lib.hid (HB3.out.trans (hba.mono HB3.out.size))
                      clear z3 zu zv q0 q1 q2 q3 cu cv hba hWa
                      go_wp2_with fail
                      go_roundw
                      case rel => exact ⟨j + 1, HJL.out, by go_num, rfl, HNX2, HB4⟩
                      case measure => have := HJL.out; simp [intOf]; omega
                    · have HFd : Hid (FB = decide (u < v)) := by
                        have := HD.out
                        rw [if_neg a1] at this
                        exact this
                      have e5 : (u != v) = true := by simpa using a1
                      have hc3 := fun W (hW : Below W3.heap.size W3 W) => (hW.cell (p := ⟨wr.heap.size, 3, none⟩) hbw3).trans q3
                      have hcu := fun W (hW : Below W3.heap.size W3 W) => (hW.cell (p := ⟨bA2, oA2 + (q - 1), none⟩) hbA3).trans cu
                      have hcv := fun W (hW : Below W3.heap.size W3 W) => (hW.cell (p := ⟨bA2, oA2 + q, none⟩) hbA3).trans cv
                      have HC3 := Lib.hid hc3
                      have HCU := Lib.hid hcu
                      have HCV := Lib.hid hcv
                      clear a1 hc3 hcu hcv
                      go_upto_region 15 with fail
                      try rw [hW3]
                      clear hW3 d0 d1 d2 d3
                      go_wp2_with fail
                      refine wp_region_quiet_below hmx (by kernel_rfl) ?_
                      repeat (quiet_step (fail))
                      refine wpQuiet_nil ?_
                      intro _ hw'
                      obtain ⟨⟨da, oa⟩, hw''⟩ := hw'
                      subst hw''
                      obtain ⟨W4, hWa⟩ : ∃ W, grow (redrawn W3 da) oa = W := ⟨_, rfl⟩
                      have hba := below_regrown W3 da oa
                      rw [hWa] at hba ⊢
                      have HB4 := Lib.hid (HB3.out.trans (hba.mono HB3.out.size))
                      clear z3 zu zv q0 q1 q2 q3 cu cv
                      have z3 := cell_regrown (HC3.out W4 hba)
                      have zu := cell_regrown (HCU.out W4 hba)
                      have zv := cell_regrown (HCV.out W4 hba)
                      clear hba hWa
                      by_cases huv : u < v
                      · have du : decide (u < v) = true := decide_eq_true huv
                        have HFB2 : Hid (FB = true) := by unfold Hid; rw [HFd.out, du]
                        clear huv
                        go_upto_region 16 with fail
                        refine wp_region_quiet_below hmx (by kernel_rfl) ?_
                        repeat (quiet_step (fail))
                        refine wpQuiet_nil ?_
                        intro _ hw'
                        obtain ⟨⟨db, ob⟩, hw''⟩ := hw'
                        subst hw''
                        obtain ⟨W5, hWb⟩ : ∃ W, grow (redrawn W4 db) ob = W := ⟨_, rfl⟩
                        have hbb := below_regrown W4 db ob
                        rw [hWb] at hbb ⊢
                        have HB5 := Lib.hid (HB4.out.trans (hbb.mono HB4.out.size))
                        clear z3 zu zv hbb hWb
                        have hff := HFT.out HFB2.out
                        have HQ2 := Lib.hid hff
                        clear hff
                        go_wp2_with fail
                        go_roundw
                        case rel => exact ⟨q + 1, by omega, .inl HQZ.out, by go_num, HQ2, HB5⟩
                        case measure => have := HQZ.out; simp [intOf]; omega
                      · have du : decide (u < v) = false := decide_eq_false huv
                        have HFB2 : Hid (FB = false) := by unfold Hid; rw [HFd.out, du]
                        clear huv
                        go_upto_region 16 with fail
                        refine wp_region_quiet_below hmx (by kernel_rfl) ?_
                        repeat (quiet_step (fail))
                        refine wpQuiet_nil ?_
                        intro _ hw'
                        obtain ⟨⟨db, ob⟩, hw''⟩ := hw'
                        subst hw''
                        obtain ⟨W5, hWb⟩ : ∃ W, grow (redrawn W4 db) ob = W := ⟨_, rfl⟩
                        have hbb := below_regrown W4 db ob
                        rw [hWb] at hbb ⊢
                        have HB5 := Lib.hid (HKP.out _ (HB1.out.trans ((HB4.out.trans (hbb.mono HB4.out.size)).mono HB1.out.size))).1
                        clear z3 zu zv hbb hWb
                        have HPF := Lib.hid (HFF.out HFB2.out)
                        go_wp2_with fail
                        go_ret
                        exact ⟨by rw [HPF.out]; rfl, HB5.out⟩
                  · obtain rfl : j = ln - k := by omega
                    have HFB2 : Hid (FB = false) := by
                      have := HJ.out
                      rw [List.drop_of_length_le (by rw [HLL.out]; omega)] at this
                      exact this.symm
                    have HBE := Lib.hid (HKP.out wr hBj).1
                    clear hd hBj hjl
                    have HPF := Lib.hid (HFF.out HFB2.out)
                    go_wp2_with fail
                    go_ret
                    exact ⟨by rw [HPF.out]; rfl, HBE.out⟩
              · have dq : decide (q < Z) = false := decide_eq_false hqZ
                have dqI : ¬ (q : Int) < (Z : Int) := by omega
                have HP2 : Hid (∀ p' n, p' < p + 1 → offN 2 l.s l.xs p' < n → n < offN 2 l.s l.xs (p' + 1) → aheadB (n - 1) n (ls.drop k) = true) := by
                  intro p' n h1 h2 h3
                  rcases Nat.lt_or_ge p' p with h4 | h4
                  · exact HP.out p' n h4 h2 h3
                  · obtain rfl : p' = p := by omega
                    rw [HX.out] at h2
                    rw [HZ.out] at h3
                    exact HQ.out n h2 (by omega)
                clear hqZ
                go_wp2_with fail
                go_roundw
                case rel => exact ⟨p + 1, hpa, by go_num, HP2, HBq⟩
                case measure => simp [intOf]; omega
          · obtain rfl : p = a := by omega
            have HR2 : Hid (∀ (kl : Nat) (l : Lv), kl < k + 1 → ls[kl]? = some l → l.k = 2 → ∀ p n, p + 1 < l.xs.length → offN 2 l.s l.xs p < n → n < offN 2 l.s l.xs (p + 1) → aheadB (n - 1) n (ls.drop kl) = true) := by
              intro kl l2 h1 h2 h3 p' n' h4 h5 h6
              rcases Nat.lt_or_ge kl k with h7 | h7
              · exact HR.out kl l2 h7 h2 h3 p' n' h4 h5 h6
              · obtain rfl : kl = k := by omega
                rw [HL.out] at h2
                cases h2
                exact HP.out p' n' (by rw [HPL.out] at h4; omega) h5 h6
            clear hpa
            go_wp2_with fail
            go_roundw
            case rel => exact ⟨k + 1, HLT.out, by go_num, HR2, HB1.out.trans (HBp.out.mono HB1.out.size)⟩
            case measure => have := HLT.out; simp [intOf]; omega
      · have e1 : (l.k != 2) = true := by simpa using hk2
        have HR2 : Hid (∀ (kl : Nat) (l : Lv), kl < k + 1 → ls[kl]? = some l → l.k = 2 → ∀ p n, p + 1 < l.xs.length → offN 2 l.s l.xs p < n → n < offN 2 l.s l.xs (p + 1) → aheadB (n - 1) n (ls.drop kl) = true) := by
          intro kl l2 h1 h2 h3
          rcases Nat.lt_or_ge kl k with h7 | h7
          · exact HR.out kl l2 h7 h2 h3
          · obtain rfl : kl = k := by omega
            rw [HL.out] at h2
            cases h2
            exact absurd h3 hk2
        clear hk2
        go_upto_region 4 with fail
        try rw [hW1]
        clear hW1 d0 d1 d2 d3
        go_wp2_with fail
        go_roundw
        case rel => exact ⟨k + 1, HLT.out, by go_num, HR2, HB1⟩
        case measure => have := HLT.out; simp [intOf]; omega
    · obtain rfl : k = ln := by omega
      have HPT : Hid (PB = true) := HT.out fun kl l h1 h2 p' n' h3 h4 h5 => HR.out kl l (by have := (List.getElem?_eq_some_iff.1 h1).1; have := HLL.out; omega) h1 h2 p' n' h3 h4 h5
      have HBE := Lib.hid (HKP.out wr HB.out).1
      clear hlt
      go_wp2_with fail
      go_ret
      exact ⟨by rw [HPT.out]; rfl, HBE.out⟩
end Go.Proofs.Yteepiifhmbcciaa
