/- The walk of the law BoxSums behind its early exits. -/
import Derived.Test.YtbicdbheclldcaaSumsWalk
import Derived.Deep.DeepCutAuto
import Derived.Lib.QuietBelow
namespace Go.Proofs.Ytbicdbheclldcaa
open Go.RowKit

section
variable {xs ys ys2 L V : List Int} {n m n' m' k : Nat} {A B A2 B2 : Option Addr} {c e c2 e2 : Nat} {W : World}
def TPost (L V : List Int) (n' m' : Nat) (E : Int) (W : World) (x : Ending) (W' : World) : Prop := ∃ A1 c1 A3 c3, x = .returned (.tuple #[.agg #[.slice A1 n' c1, .slice A3 m' c3], .int .i64 E]) ∧
  Ints W' W'.heap.size A1 n' L ∧ Ints W' W'.heap.size A3 m' V ∧ n' ≤ c1 ∧ Below W.heap.size W W'
theorem sumT (hck : checkF xs m = 0) (i1 : Ints W W.heap.size A n xs) (i2 : Ints W W.heap.size B m ys) (hc : n ≤ c) (hm : m ≤ 65536) (hk : k < n) (hL : xs.eraseIdx k = L) (hV : sumV xs k ys = V) (hn' : L.length = n') (hm' : V.length = m') (hE : (laidF L).2 = 0) :
    Calls Try.prog 24 #[.agg #[.slice A n c, .slice B m e], .int .i64 (k : Int)] W (TPost L V n' m' 0 W) := by
  have h4 := laidF_erase hck
  have := sum_ok A B n c m e k xs ys W i1 i2 (by have := i1.1; omega) hc (by omega) hck hk
  rw [hL, hV, hE, if_pos rfl, if_pos rfl] at this
  subst hn'
  subst hm'
  exact this.mono fun x W' ⟨A1, c1, A3, c3, h1, h2, h3, h4⟩ => ⟨A1, c1, A3, c3, h1, h2.ints, h3.ints, h2.cap, h4⟩
theorem sumE (hck : checkF xs m = 0) (i1 : Ints W W.heap.size A n xs) (i2 : Ints W W.heap.size B m ys) (hc : n ≤ c) (hm : m ≤ 65536) (hk : k < n) (hL : xs.eraseIdx k = L) (hE : (laidF L).2 = 2) :
    Calls Try.prog 24 #[.agg #[.slice A n c, .slice B m e], .int .i64 (k : Int)] W (TPost [] [] 0 0 2 W) := by
  have h4 := laidF_erase hck
  have := sum_ok A B n c m e k xs ys W i1 i2 (by have := i1.1; omega) hc (by omega) hck hk
  rw [hL, hE, if_neg (by decide), if_neg (by decide)] at this
  exact this.mono fun x W' ⟨A1, c1, A3, c3, h1, h2, h3, h4⟩ => ⟨A1, c1, A3, c3, h1, h2.ints, h3.ints, h2.cap, h4⟩
theorem addT (hck : checkF xs m = 0) (i1 : Ints W W.heap.size A n xs) (i2 : Ints W W.heap.size B m ys) (i3 : Ints W W.heap.size A2 n xs) (i4 : Ints W W.heap.size B2 m ys2) (hV : addL ys ys2 = V) :
    Calls Try.prog 17 #[.agg #[.slice A n c, .slice B m e], .agg #[.slice A2 n c2, .slice B2 m e2]] W (TPost xs V n m 0 W) := by
  have h4 := laidF_erase hck
  have hl := i1.1
  have hs : V.length = m := by rw [← hV]; exact addL_length i2.1 i4.1
  have := add_ok A B A2 B2 n c m e n c2 e2 xs ys ys2 W i1 i2 i3 i4 (by omega) (by omega) hck
  rw [show List.zipWith (fun x y => wrap64 (x + y)) ys ys2 = V from hV] at this
  subst hl
  subst hs
  exact this.mono fun x W' ⟨A1, c1, A3, c3, h1, h2, h3, h4⟩ => ⟨A1, c1, A3, c3, h1, h2.ints, h3.ints, h2.cap, h4⟩
theorem scaleT (z : Int) (hck : checkF xs m = 0) (i1 : Ints W W.heap.size A n xs) (i2 : Ints W W.heap.size B m ys) (hV : byL z ys = V) :
    Calls Try.prog 22 #[.agg #[.slice A n c, .slice B m e], .int .i64 z] W (TPost xs V n m 0 W) := by
  have h4 := laidF_erase hck
  have hl := i1.1
  have hs : V.length = m := by rw [← hV, byL_length]; exact i2.1
  have := scale_ok A B n c m e z xs ys W i1 i2 (by omega) hck
  rw [show List.zipWith (fun x _ => wrap64 (x * z)) ys ys = V from hV] at this
  subst hl
  subst hs
  exact this.mono fun x W' ⟨A1, c1, A3, c3, h1, h2, h3, h4⟩ => ⟨A1, c1, A3, c3, h1, h2.ints, h3.ints, h2.cap, h4⟩
theorem sameT (hck : checkF xs m = 0) (hm : m ≤ 65536) (i1 : Ints W W.heap.size A n xs) (i2 : Ints W W.heap.size B m ys) (i3 : Ints W W.heap.size A2 n xs) (i4 : Ints W W.heap.size B2 m ys2) (hy : ys = ys2) :
    Calls Try.prog 28 #[.agg #[.slice A n c, .slice B m e], .agg #[.slice A2 n c2, .slice B2 m e2]] W fun x W' => x = .returned (.bool true) ∧ Below W.heap.size W W' := by
  subst hy
  have h4 := laidF_erase hck
  have hl := i1.1
  have := same_any A B A2 B2 n c m e n c2 m e2 xs ys xs ys W i1 i2 i3 i4 (by omega) (by omega) (by omega) (by omega) (by omega)
  have hs : sameF xs m xs ys ys = true := by simp [sameF, hck]
  rwa [hs] at this
end
theorem uPast {w : World} {g : Nat} {o : Obj} (X : Obj) (hg : w.heap[g]? = some o) : (w.alloc X).heap[g]? = some o := (Below.heap_alloc w X g (Array.getElem?_eq_some_iff.1 hg).1).trans hg
theorem uFar {w : World} {g g' : Nat} {o : Obj} (a b : Value) (hne : g ≠ g') (hg : w.heap[g]? = some o) : ((w.setCell ⟨g', 0, none⟩ a).setCell ⟨g', 1, none⟩ b).heap[g]? = some o :=
  (Below.heap_setCell _ _ _ g (fun e => hne e)).trans ((Below.heap_setCell _ _ _ g (fun e => hne e)).trans hg)
theorem iFar {w : World} {n g : Nat} {A : Option Addr} {xs : List Int} {a0 a1 : Option Addr} {n0 n1 c0 c1 : Nat} {t : TypeId} (a b : Value) (hg : w.heap[g]? = some (.cells #[.slice a0 n0 c0, .slice a1 n1 c1] t (0, 0))) (h : Ints w w.heap.size A n xs) :
    Ints ((w.setCell ⟨g, 0, none⟩ a).setCell ⟨g, 1, none⟩ b) ((w.setCell ⟨g, 0, none⟩ a).setCell ⟨g, 1, none⟩ b).heap.size A n xs := by
  have := h.off2 hg a b; simpa using this
set_option maxRecDepth 100000 in
set_option maxHeartbeats 10000000 in
theorem sums_in (w : World) (A : Option Addr) (n c : Nat) (B : Option Addr) (m e : Nat) (xs ys : List Int) (h : Ints w w.heap.size A n xs) (hn : n ≤ 9223372036854775807) (hv : Ints w w.heap.size B m ys) (hm : m ≤ 9223372036854775807) (hnc : n ≤ c)
    (A2 : Option Addr) (n2 c2 : Nat) (B2 : Option Addr) (m2 e2 : Nat) (xs2 ys2 : List Int) (h2 : Ints w w.heap.size A2 n2 xs2) (hn2 : n2 ≤ 9223372036854775807) (hv2 : Ints w w.heap.size B2 m2 ys2) (hm2 : m2 ≤ 9223372036854775807) (hnc2 : n2 ≤ c2) (z v1 v2 : Int)
    (hfw : fewF [⟨A, n, c, B, m, e⟩, ⟨A2, n2, c2, B2, m2, e2⟩] = true) (hca : checkF xs m = 0) (hcb : checkF xs2 m2 = 0) (hxx : xs = xs2) (hge : 2 ≤ n) :
    Calls Try.prog 4 #[.agg #[.slice A n c, .slice B m e], .agg #[.slice A2 n2 c2, .slice B2 m2 e2], .int .i64 z, .int .i64 v1, .int .i64 v2] w fun e w' => e = .returned (.bool true) ∧ Below w.heap.size w w' := by
  subst hxx
  obtain rfl : n = n2 := by have := h.1; have := h2.1; omega
  obtain rfl : m = m2 := by have := (check_parts hca).2.2; have := (check_parts hcb).2.2; omega
  have hn4 : n ≤ 4 := by have := laidF_erase hca; have := h.1; omega
  have hm65 : m ≤ 65536 := by have := (check_parts hca).2.2; have := laidF_nonneg (xs := xs); omega
  have hL := fun W => live_any W
  have hW := fun W => few_two ⟨A, n, c, B, m, e⟩ ⟨A2, n, c2, B2, m, e2⟩ W
  dsimp only at hW
  have HCa := fun W (hb : Below w.heap.size w W) => check_any A B n c m e xs W ((h.below hb).more hb.size) hn
  have HCb := fun W (hb : Below w.heap.size w W) => check_any A2 B2 n c2 m e2 xs W ((h2.below hb).more hb.size) hn
  have hB0 : Below w.heap.size w ((w.alloc (.cells #[.slice A n c, .slice B m e] 25)).alloc (.cells #[.slice A2 n c2, .slice B2 m e2] 25)) := below_two w _ _
  have z0 := zf_two w (.cells #[.slice A n c, .slice B m e] 25) (.cells #[.slice A2 n c2, .slice B2 m e2] 25)
  have z1 := zf_snd w (.cells #[.slice A2 n c2, .slice B2 m e2] 25) (.cells #[.slice A n c, .slice B m e] 25)
  have HQ := fun W (hb : Below w.heap.size w W) => eqB A A2 n n c c2 xs xs W ((h.below hb).more hb.size) ((h2.below hb).more hb.size) (by omega) hn
  rw [hfw] at hW
  rw [hca] at HCa
  rw [hcb] at HCb
  simp only [decide_true] at HQ
  obtain ⟨t1, s1, md, a1, a2, a3, a4, a5, a6, hmd, a7, a8, a9⟩ := mode_run v1 n (by omega) (by omega)
  obtain ⟨t2, s2, od, b1, b2, b3, b4, b5, b6, hod, b7, b8, b9⟩ := mode_run v2 n (by omega) (by omega)
  obtain ⟨nd, hnd, hne, c1', c2', c3'⟩ := next_run md n hmd hge (by omega)
  have hd2 : decide (n < 2) = false := by simp; omega
  have hr0 : ¬ n = 0 := by omega
  have HCK := Lib.hid hca
  have HL := Lib.hid h.1
  have HL2 := Lib.hid hv.1
  have HL3 := Lib.hid hv2.1
  clear hfw hca hcb
  go_enter Try.func4, Try.ntmps4
  go_upto_if 85 with (first | (go_at_call 15; refine (hL _).mono ?_; rintro x w1 ⟨rfl, hb1⟩; have u0 := dKeep hb1 z0; have u1 := dKeep hb1 z1; have hT := hB0.trans (hb1.mono hB0.size); obtain ⟨k0, k1, _, _⟩ := dCells u0; obtain ⟨k2, k3, _, _⟩ := dCells u1) | (go_at_call 16; refine (hW _).mono ?_; rintro x w3 ⟨rfl, hb3⟩; replace u0 := keepFew hb3 u0; replace u1 := keepFew hb3 u1; replace hT := belowFew hT hT.size hb3; clear k0 k1 k2 k3; obtain ⟨k0, k1, _, _⟩ := dCells u0; obtain ⟨k2, k3, _, _⟩ := dCells u1) | (go_at_call 27; (with_reducible refine (HCa _ hT).mono ?_); rintro x w4 ⟨rfl, hb4⟩; replace u0 := dKeep hb4 u0; replace u1 := dKeep hb4 u1; replace hT := hT.trans (hb4.mono hT.size); clear k0 k1 k2 k3; obtain ⟨k0, k1, _, _⟩ := dCells u0; obtain ⟨k2, k3, _, _⟩ := dCells u1) | (go_at_call 27; (with_reducible refine (HCb _ hT).mono ?_); rintro x w5 ⟨rfl, hb5⟩; replace u0 := dKeep hb5 u0; replace u1 := dKeep hb5 u1; replace hT := hT.trans (hb5.mono hT.size); clear k0 k1 k2 k3; obtain ⟨k0, k1, _, _⟩ := dCells u0; obtain ⟨k2, k3, _, _⟩ := dCells u1) | (go_at_call 26; (with_reducible refine (HQ _ hT).mono ?_); rintro x w6 ⟨rfl, hb6⟩; replace u0 := dKeep hb6 u0; replace u1 := dKeep hb6 u1; replace hT := hT.trans (hb6.mono hT.size); clear k0 k1 k2 k3; obtain ⟨k0, k1, _, _⟩ := dCells u0; obtain ⟨k2, k3, _, _⟩ := dCells u1))
  go_cut [4] (fun s wx => (∃ q : Nat, q < n ∧ q ≠ md ∧ s = .int .i64 q) ∧ wx = w6)
  case first =>
    by_cases hmo : md = od
    · have d1 : ((md : Int) == (od : Int)) = true := by simp; omega
      have d2 : (md == od) = true := by simp; omega
      have HNE := Lib.hid hne
      have HND := Lib.hid hnd
      clear hmo hne hnd
      go_wp2_with fail
      go_meet
      exact ⟨⟨nd, HND.out, HNE.out, rfl⟩, rfl⟩
    · have d1 : ((md : Int) == (od : Int)) = false := by simp; omega
      have d2 : (md == od) = false := by simp; omega
      have HMO := Lib.hid hmo
      clear hmo
      go_wp2_with fail
      go_meet
      exact ⟨⟨od, hod, fun e => HMO.out e.symm, rfl⟩, rfl⟩
  case rest =>
    obtain ⟨⟨q, hq, hqm, rfl⟩, rfl⟩ := hcut
    obtain ⟨l, hi, hlh, hhn, hmn, hmx', hor⟩ : ∃ l hi : Nat, l < hi ∧ hi < n ∧ min (md : Int) (q : Int) = (l : Int) ∧ max (md : Int) (q : Int) = (hi : Int) ∧ (md = l ∨ md = hi) := by
      rcases Nat.lt_or_ge md q with h | h
      · exact ⟨md, q, h, hq, by omega, by omega, .inl rfl⟩
      · exact ⟨q, md, by omega, hmd, by omega, by omega, .inr rfl⟩
    go_wp2_with fail
    obtain ⟨h1, hh1⟩ : ∃ h1, hi = h1 + 1 := ⟨hi - 1, by omega⟩
    have e1' : (hi : Int) - 1 = (h1 : Int) := by omega
    have e2' : IntKind.i64.wrap ((hi : Int) - 1) = (h1 : Int) := by rw [e1', wrap_eq]; exact IntWalk.wrap64_in _ ⟨by omega, by omega⟩
    have HH1 := Lib.hid hh1
    obtain ⟨n1, hn1⟩ : ∃ n1, n = n1 + 1 := ⟨n - 1, by omega⟩
    obtain ⟨Lh, hLh⟩ : ∃ L, xs.eraseIdx hi = L := ⟨_, rfl⟩
    obtain ⟨Ll, hLl⟩ : ∃ L, xs.eraseIdx l = L := ⟨_, rfl⟩
    obtain ⟨Lm, hLm⟩ : ∃ L, xs.eraseIdx md = L := ⟨_, rfl⟩
    have nLh : Lh.length = n1 := by rw [← hLh, List.length_eraseIdx_of_lt (by rw [HL.out]; exact hhn), HL.out]; omega
    have nLl : Ll.length = n1 := by rw [← hLl, List.length_eraseIdx_of_lt (by rw [HL.out]; omega), HL.out]; omega
    have nLm : Lm.length = n1 := by rw [← hLm, List.length_eraseIdx_of_lt (by rw [HL.out]; exact hmd), HL.out]; omega
    have EH := erase_err HCK.out hi
    have EL := erase_err HCK.out l
    rw [hLh] at EH
    rw [hLl] at EL
    have hlm : Lm = Ll ∨ Lm = Lh := by
      rcases hor with e | e
      · exact .inl (by rw [← hLm, ← hLl, e])
      · exact .inr (by rw [← hLm, ← hLh, e])
    obtain ⟨Vh, hVh⟩ : ∃ V, sumV xs hi ys = V := ⟨_, rfl⟩
    obtain ⟨Vl, hVl⟩ : ∃ V, sumV xs l ys = V := ⟨_, rfl⟩
    obtain ⟨mh, hmh⟩ : ∃ k, Vh.length = k := ⟨_, rfl⟩
    obtain ⟨ml, hml⟩ : ∃ k, Vl.length = k := ⟨_, rfl⟩
    have bh : mh ≤ 65536 := by rw [← hmh, ← hVh, sumV_length]; exact laidF_le _
    have bl : ml ≤ 65536 := by rw [← hml, ← hVl, sumV_length]; exact laidF_le _
    obtain ⟨L2, hL2⟩ : ∃ L, Lh.eraseIdx l = L := ⟨_, rfl⟩
    have hL3 : Ll.eraseIdx h1 = L2 := by rw [← hL2, ← hLh, ← hLl, erase_two hlh (by rw [HL.out]; exact hhn), hh1, Nat.add_sub_cancel]
    obtain ⟨V2, hV2⟩ : ∃ V, sumV Lh l Vh = V := ⟨_, rfl⟩
    obtain ⟨n2, hn2'⟩ : ∃ k, L2.length = k := ⟨_, rfl⟩
    obtain ⟨m2, hm2'⟩ : ∃ k, V2.length = k := ⟨_, rfl⟩
    have bm2 : m2 ≤ 65536 := by rw [← hm2', ← hV2, sumV_length]; exact laidF_le _
    have IA := (h.below hT).more hT.size
    have IB := (hv.below hT).more hT.size
    have IA2 := (h2.below hT).more hT.size
    have IB2 := (hv2.below hT).more hT.size
    have HhLh := Lib.hid hLh
    have HhLl := Lib.hid hLl
    have HhLm := Lib.hid hLm
    have HnLh := Lib.hid nLh
    have HnLl := Lib.hid nLl
    have HnLm := Lib.hid nLm
    have HhVh := Lib.hid hVh
    have HhVl := Lib.hid hVl
    have Hhmh := Lib.hid hmh
    have Hhml := Lib.hid hml
    have HhL2 := Lib.hid hL2
    have HhL3 := Lib.hid hL3
    have HhV2 := Lib.hid hV2
    have Hhn2p := Lib.hid hn2'
    have Hhm2p := Lib.hid hm2'
    have hl1 : l < n1 := by omega
    have hh2 : h1 < n1 := by omega
    clear hh1 hn1 hLh hLl hLm nLh nLl nLm hVh hVl hmh hml hL2 hL3 hV2 hn2' hm2' h hv h2 hv2 hq hqm hmn hmx' hor a1 a2 a3 a4 a5 a6 b1 b2 b3 b4 b5 b6 c1' c2' c3' z0 z1 hL hW HCa HCb HQ hB0
    clear k0 k1 k2 k3
    have hln : l < n := by omega
    rcases EH with eh | eh
    · rcases EL with el | el
      · have kh : checkF Lh mh = 0 := by have := sumV_check (xs := xs) (k := hi) ys (by rw [HhLh.out]; exact eh); rwa [HhVh.out, Hhmh.out, HhLh.out] at this
        have kl : checkF Ll ml = 0 := by have := sumV_check (xs := xs) (k := l) ys (by rw [HhLl.out]; exact el); rwa [HhVl.out, Hhml.out, HhLl.out] at this
        have hV3 : Hid (sumV Ll h1 Vl = V2) := by unfold Hid; rw [← HhV2.out, ← HhVh.out, ← HhVl.out, ← HhLh.out, ← HhLl.out, sumV_swap (by rw [HL2.out]; exact HCK.out) hlh (by rw [HL.out]; exact hhn) (by rw [HhLh.out]; exact eh) (by rw [HhLl.out]; exact el), HH1.out, Nat.add_sub_cancel]
        have em : (laidF Lm).2 = 0 := by rcases hlm with e | e <;> rw [e] <;> assumption
        have E2 := erase_err kh l
        rw [HhL2.out] at E2
        refine (sumT HCK.out IA IB hnc hm65 hhn HhLh.out HhVh.out HnLh.out Hhmh.out eh).mono ?_
        rintro x w1 ⟨A1, c1, B1, e1, rfl, I1, J1, C1, hb1⟩
        replace IA := (IA.below hb1).more hb1.size
        replace IB := (IB.below hb1).more hb1.size
        replace IA2 := (IA2.below hb1).more hb1.size
        replace IB2 := (IB2.below hb1).more hb1.size
        replace u0 := dKeep hb1 u0
        replace u1 := dKeep hb1 u1
        replace hT := hT.trans (hb1.mono hT.size)
        clear hb1
        have z1a : w.heap.size < w1.heap.size := (Array.getElem?_eq_some_iff.1 u0).1
        have z1b : w.heap.size + 1 < w1.heap.size := (Array.getElem?_eq_some_iff.1 u1).1
        obtain ⟨xa, ya, fa, ra⟩ := dCells u0
        have ma := fun o => cellPast o xa
        have pa := fun o => cellPast o ya
        go_wp2_with fail
        clear xa ya fa ra ma pa
        replace IA := IA.alloc' (.cells #[.slice A1 n1 c1, .slice B1 mh e1] 25)
        replace IB := IB.alloc' (.cells #[.slice A1 n1 c1, .slice B1 mh e1] 25)
        replace IA2 := IA2.alloc' (.cells #[.slice A1 n1 c1, .slice B1 mh e1] 25)
        replace IB2 := IB2.alloc' (.cells #[.slice A1 n1 c1, .slice B1 mh e1] 25)
        replace I1 := I1.alloc' (.cells #[.slice A1 n1 c1, .slice B1 mh e1] 25)
        replace J1 := J1.alloc' (.cells #[.slice A1 n1 c1, .slice B1 mh e1] 25)
        replace u0 := uPast (.cells #[.slice A1 n1 c1, .slice B1 mh e1] 25) u0
        replace u1 := uPast (.cells #[.slice A1 n1 c1, .slice B1 mh e1] 25) u1
        replace hT := hT.alloc hT.size (.cells #[.slice A1 n1 c1, .slice B1 mh e1] 25)
        have bx1 := heap_alloc_new w1 (.cells #[.slice A1 n1 c1, .slice B1 mh e1] 25)
        refine (sumT HCK.out IA IB hnc hm65 hln HhLl.out HhVl.out HnLl.out Hhml.out el).mono ?_
        rintro x w2 ⟨A2, c2, B2, e2, rfl, I2, J2, C2, hb2⟩
        replace IA := (IA.below hb2).more hb2.size
        replace IB := (IB.below hb2).more hb2.size
        replace IA2 := (IA2.below hb2).more hb2.size
        replace IB2 := (IB2.below hb2).more hb2.size
        replace I1 := (I1.below hb2).more hb2.size
        replace J1 := (J1.below hb2).more hb2.size
        replace u0 := dKeep hb2 u0
        replace u1 := dKeep hb2 u1
        replace bx1 := dKeep hb2 bx1
        replace hT := hT.trans (hb2.mono hT.size)
        clear hb2
        have z2a : w.heap.size < w2.heap.size := (Array.getElem?_eq_some_iff.1 u0).1
        have z2b : w.heap.size + 1 < w2.heap.size := (Array.getElem?_eq_some_iff.1 u1).1
        have z2x : w1.heap.size < w2.heap.size := (Array.getElem?_eq_some_iff.1 bx1).1
        obtain ⟨xx, yx, fx, rx⟩ := dCells bx1
        have mx := fun o => cellPast o xx
        have px := fun o => cellPast o yx
        go_wp2_with fail
        clear xx yx fx rx mx px
        replace IA := IA.alloc' (.cells #[.slice A2 n1 c2, .slice B2 ml e2] 25)
        replace IB := IB.alloc' (.cells #[.slice A2 n1 c2, .slice B2 ml e2] 25)
        replace IA2 := IA2.alloc' (.cells #[.slice A2 n1 c2, .slice B2 ml e2] 25)
        replace IB2 := IB2.alloc' (.cells #[.slice A2 n1 c2, .slice B2 ml e2] 25)
        replace I1 := I1.alloc' (.cells #[.slice A2 n1 c2, .slice B2 ml e2] 25)
        replace J1 := J1.alloc' (.cells #[.slice A2 n1 c2, .slice B2 ml e2] 25)
        replace I2 := I2.alloc' (.cells #[.slice A2 n1 c2, .slice B2 ml e2] 25)
        replace J2 := J2.alloc' (.cells #[.slice A2 n1 c2, .slice B2 ml e2] 25)
        replace u0 := uPast (.cells #[.slice A2 n1 c2, .slice B2 ml e2] 25) u0
        replace u1 := uPast (.cells #[.slice A2 n1 c2, .slice B2 ml e2] 25) u1
        replace bx1 := uPast (.cells #[.slice A2 n1 c2, .slice B2 ml e2] 25) bx1
        replace hT := hT.alloc hT.size (.cells #[.slice A2 n1 c2, .slice B2 ml e2] 25)
        have bx2 := heap_alloc_new w2 (.cells #[.slice A2 n1 c2, .slice B2 ml e2] 25)
        rcases E2 with q2 | q2
        · refine (sumT kh I1 J1 C1 bh hl1 HhL2.out HhV2.out Hhn2p.out Hhm2p.out q2).mono ?_
          rintro x w3 ⟨A3, c3, B3, e3, rfl, I3, J3, C3, hb3⟩
          replace IA := (IA.below hb3).more hb3.size
          replace IB := (IB.below hb3).more hb3.size
          replace IA2 := (IA2.below hb3).more hb3.size
          replace IB2 := (IB2.below hb3).more hb3.size
          replace I1 := (I1.below hb3).more hb3.size
          replace J1 := (J1.below hb3).more hb3.size
          replace I2 := (I2.below hb3).more hb3.size
          replace J2 := (J2.below hb3).more hb3.size
          replace u0 := dKeep hb3 u0
          replace u1 := dKeep hb3 u1
          replace bx1 := dKeep hb3 bx1
          replace bx2 := dKeep hb3 bx2
          replace hT := hT.trans (hb3.mono hT.size)
          clear hb3
          obtain ⟨xO, yO, fO, rO⟩ := dCells bx1
          obtain ⟨xy, yy, fy, ry⟩ := dCells (uFar (.slice A3 n2 c3) (.slice B3 m2 e3) (show w2.heap.size ≠ w1.heap.size by omega) bx2)
          go_wp2_with fail
          clear xO yO fO rO xy yy fy ry
          replace IA := iFar (.slice A3 n2 c3) (.slice B3 m2 e3) bx1 IA
          replace IB := iFar (.slice A3 n2 c3) (.slice B3 m2 e3) bx1 IB
          replace IA2 := iFar (.slice A3 n2 c3) (.slice B3 m2 e3) bx1 IA2
          replace IB2 := iFar (.slice A3 n2 c3) (.slice B3 m2 e3) bx1 IB2
          replace I1 := iFar (.slice A3 n2 c3) (.slice B3 m2 e3) bx1 I1
          replace J1 := iFar (.slice A3 n2 c3) (.slice B3 m2 e3) bx1 J1
          replace I2 := iFar (.slice A3 n2 c3) (.slice B3 m2 e3) bx1 I2
          replace J2 := iFar (.slice A3 n2 c3) (.slice B3 m2 e3) bx1 J2
          replace I3 := iFar (.slice A3 n2 c3) (.slice B3 m2 e3) bx1 I3
          replace J3 := iFar (.slice A3 n2 c3) (.slice B3 m2 e3) bx1 J3
          replace u0 := uFar (.slice A3 n2 c3) (.slice B3 m2 e3) (show w.heap.size ≠ w1.heap.size by omega) u0
          replace u1 := uFar (.slice A3 n2 c3) (.slice B3 m2 e3) (show w.heap.size + 1 ≠ w1.heap.size by omega) u1
          replace bx2 := uFar (.slice A3 n2 c3) (.slice B3 m2 e3) (show w2.heap.size ≠ w1.heap.size by omega) bx2
          replace bx1 := set_both (a := .slice A3 n2 c3) (b := .slice B3 m2 e3) bx1
          replace hT := (hT.setCell (p := ⟨w1.heap.size, 0, none⟩) (by show w.heap.size ≤ w1.heap.size; omega) (.slice A3 n2 c3)).setCell (p := ⟨w1.heap.size, 1, none⟩) (by show w.heap.size ≤ w1.heap.size; omega) (.slice B3 m2 e3)
          clear I1 J1
          refine (sumT kl I2 J2 C2 bl hh2 HhL3.out hV3.out Hhn2p.out Hhm2p.out q2).mono ?_
          rintro x w4 ⟨A4, c4, B4, e4, rfl, I4, J4, C4, hb4⟩
          replace IA := (IA.below hb4).more hb4.size
          replace IB := (IB.below hb4).more hb4.size
          replace IA2 := (IA2.below hb4).more hb4.size
          replace IB2 := (IB2.below hb4).more hb4.size
          replace I2 := (I2.below hb4).more hb4.size
          replace J2 := (J2.below hb4).more hb4.size
          replace I3 := (I3.below hb4).more hb4.size
          replace J3 := (J3.below hb4).more hb4.size
          replace u0 := dKeep hb4 u0
          replace u1 := dKeep hb4 u1
          replace bx1 := dKeep hb4 bx1
          replace bx2 := dKeep hb4 bx2
          replace hT := hT.trans (hb4.mono hT.size)
          clear hb4
          obtain ⟨xO, yO, fO, rO⟩ := dCells bx2
          obtain ⟨xx, yx, fx, rx⟩ := dCells (uFar (.slice A4 n2 c4) (.slice B4 m2 e4) (show w1.heap.size ≠ w2.heap.size by omega) bx1)
          obtain ⟨xy, yy, fy, ry⟩ := dCells (set_both (a := .slice A4 n2 c4) (b := .slice B4 m2 e4) bx2)
          go_wp2_with fail
          clear xO yO fO rO xx yx fx rx xy yy fy ry
          replace IA := iFar (.slice A4 n2 c4) (.slice B4 m2 e4) bx2 IA
          replace IB := iFar (.slice A4 n2 c4) (.slice B4 m2 e4) bx2 IB
          replace IA2 := iFar (.slice A4 n2 c4) (.slice B4 m2 e4) bx2 IA2
          replace IB2 := iFar (.slice A4 n2 c4) (.slice B4 m2 e4) bx2 IB2
          replace I2 := iFar (.slice A4 n2 c4) (.slice B4 m2 e4) bx2 I2
          replace J2 := iFar (.slice A4 n2 c4) (.slice B4 m2 e4) bx2 J2
          replace I3 := iFar (.slice A4 n2 c4) (.slice B4 m2 e4) bx2 I3
          replace J3 := iFar (.slice A4 n2 c4) (.slice B4 m2 e4) bx2 J3
          replace I4 := iFar (.slice A4 n2 c4) (.slice B4 m2 e4) bx2 I4
          replace J4 := iFar (.slice A4 n2 c4) (.slice B4 m2 e4) bx2 J4
          replace u0 := uFar (.slice A4 n2 c4) (.slice B4 m2 e4) (show w.heap.size ≠ w2.heap.size by omega) u0
          replace u1 := uFar (.slice A4 n2 c4) (.slice B4 m2 e4) (show w.heap.size + 1 ≠ w2.heap.size by omega) u1
          replace bx1 := uFar (.slice A4 n2 c4) (.slice B4 m2 e4) (show w1.heap.size ≠ w2.heap.size by omega) bx1
          replace bx2 := set_both (a := .slice A4 n2 c4) (b := .slice B4 m2 e4) bx2
          replace hT := (hT.setCell (p := ⟨w2.heap.size, 0, none⟩) (by show w.heap.size ≤ w2.heap.size; omega) (.slice A4 n2 c4)).setCell (p := ⟨w2.heap.size, 1, none⟩) (by show w.heap.size ≤ w2.heap.size; omega) (.slice B4 m2 e4)
          clear I2 J2
          have k2 : checkF L2 m2 = 0 := by have := sumV_check (xs := Lh) (k := l) Vh (by rw [HhL2.out]; exact q2); rwa [HhV2.out, Hhm2p.out, HhL2.out] at this
          refine (sameT k2 bm2 I3 J3 I4 J4 rfl).mono ?_
          rintro x w13 ⟨rfl, hb13⟩
          replace IA := (IA.below hb13).more hb13.size
          replace IB := (IB.below hb13).more hb13.size
          replace IA2 := (IA2.below hb13).more hb13.size
          replace IB2 := (IB2.below hb13).more hb13.size
          replace I3 := (I3.below hb13).more hb13.size
          replace J3 := (J3.below hb13).more hb13.size
          replace I4 := (I4.below hb13).more hb13.size
          replace J4 := (J4.below hb13).more hb13.size
          replace u0 := dKeep hb13 u0
          replace u1 := dKeep hb13 u1
          replace bx1 := dKeep hb13 bx1
          replace bx2 := dKeep hb13 bx2
          replace hT := hT.trans (hb13.mono hT.size)
          clear hb13
          obtain ⟨xa, ya, fa, ra⟩ := dCells u0
          obtain ⟨xb, yb, fb, rb⟩ := dCells u1
          go_wp2_with fail
          clear xa ya fa ra xb yb fb rb
          clear I3 J3 I4 J4 bx1 bx2
          obtain ⟨Vs, hVs⟩ : ∃ V, addL ys ys2 = V := ⟨_, rfl⟩
          obtain ⟨Vt, hVt⟩ : ∃ V, sumV xs md Vs = V := ⟨_, rfl⟩
          obtain ⟨Vp, hVp⟩ : ∃ V, sumV xs md ys = V := ⟨_, rfl⟩
          obtain ⟨Vq, hVq⟩ : ∃ V, sumV xs md ys2 = V := ⟨_, rfl⟩
          obtain ⟨Vu, hVu⟩ : ∃ V, byL z ys = V := ⟨_, rfl⟩
          obtain ⟨mt, hmt⟩ : ∃ k, Vp.length = k := ⟨_, rfl⟩
          have lt : Vt.length = mt := by rw [← hVt, sumV_length, ← hmt, ← hVp, sumV_length]
          have lq : Vq.length = mt := by rw [← hVq, sumV_length, ← hmt, ← hVp, sumV_length]
          have km : checkF Lm mt = 0 := by have := sumV_check (xs := xs) (k := md) ys (by rw [HhLm.out]; exact em); rwa [hVp, hmt, HhLm.out] at this
          have bt : mt ≤ 65536 := by rw [← hmt, ← hVp, sumV_length]; exact laidF_le _
          have hR1 : Vt = addL Vp Vq := by rw [← hVt, ← hVs, sumV_add _ _ _ _ (by rw [HL2.out, HL3.out]), hVp, hVq]
          have hR2 : sumV xs md Vu = byL z Vp := by rw [← hVu, sumV_by, hVp]
          obtain ⟨Vv, hVv⟩ : ∃ V, sumV xs md Vu = V := ⟨_, rfl⟩
          rw [hVv] at hR2
          have lv : Vv.length = mt := by rw [hR2, byL_length, hmt]
          have HhVs := Lib.hid hVs
          have HhVt := Lib.hid hVt
          have HhVp := Lib.hid hVp
          have HhVq := Lib.hid hVq
          have HhVu := Lib.hid hVu
          have Hhmt := Lib.hid hmt
          have Hlt := Lib.hid lt
          have Hlq := Lib.hid lq
          have HhR1 := Lib.hid hR1
          have HhR2 := Lib.hid hR2
          have HhVv := Lib.hid hVv
          have Hlv := Lib.hid lv
          clear hVs hVt hVp hVq hVu hmt lt lq hR1 hR2 hVv lv
          refine (addT HCK.out IA IB IA2 IB2 HhVs.out).mono ?_
          rintro x w5 ⟨A5, c5, B5, e5, rfl, I5, J5, C5, hb5⟩
          replace IA := (IA.below hb5).more hb5.size
          replace IB := (IB.below hb5).more hb5.size
          replace IA2 := (IA2.below hb5).more hb5.size
          replace IB2 := (IB2.below hb5).more hb5.size
          replace u0 := dKeep hb5 u0
          replace u1 := dKeep hb5 u1
          replace hT := hT.trans (hb5.mono hT.size)
          clear hb5
          go_wp2_with fail
          replace IA := IA.alloc' (.cells #[.slice A5 n c5, .slice B5 m e5] 25)
          replace IB := IB.alloc' (.cells #[.slice A5 n c5, .slice B5 m e5] 25)
          replace IA2 := IA2.alloc' (.cells #[.slice A5 n c5, .slice B5 m e5] 25)
          replace IB2 := IB2.alloc' (.cells #[.slice A5 n c5, .slice B5 m e5] 25)
          replace I5 := I5.alloc' (.cells #[.slice A5 n c5, .slice B5 m e5] 25)
          replace J5 := J5.alloc' (.cells #[.slice A5 n c5, .slice B5 m e5] 25)
          replace u0 := uPast (.cells #[.slice A5 n c5, .slice B5 m e5] 25) u0
          replace u1 := uPast (.cells #[.slice A5 n c5, .slice B5 m e5] 25) u1
          replace hT := hT.alloc hT.size (.cells #[.slice A5 n c5, .slice B5 m e5] 25)
          have bx5 := heap_alloc_new w5 (.cells #[.slice A5 n c5, .slice B5 m e5] 25)
          refine (sumT HCK.out I5 J5 C5 hm65 hmd HhLm.out HhVt.out HnLm.out Hlt.out em).mono ?_
          rintro x w6 ⟨A6, c6, B6, e6, rfl, I6, J6, C6, hb6⟩
          replace IA := (IA.below hb6).more hb6.size
          replace IB := (IB.below hb6).more hb6.size
          replace IA2 := (IA2.below hb6).more hb6.size
          replace IB2 := (IB2.below hb6).more hb6.size
          replace I5 := (I5.below hb6).more hb6.size
          replace J5 := (J5.below hb6).more hb6.size
          replace u0 := dKeep hb6 u0
          replace u1 := dKeep hb6 u1
          replace bx5 := dKeep hb6 bx5
          replace hT := hT.trans (hb6.mono hT.size)
          clear hb6
          obtain ⟨xa, ya, fa, ra⟩ := dCells u0
          have ma := fun o => cellPast o xa
          have pa := fun o => cellPast o ya
          go_wp2_with fail
          clear xa ya fa ra ma pa
          replace IA := IA.alloc' (.cells #[.slice A6 n1 c6, .slice B6 mt e6] 25)
          replace IB := IB.alloc' (.cells #[.slice A6 n1 c6, .slice B6 mt e6] 25)
          replace IA2 := IA2.alloc' (.cells #[.slice A6 n1 c6, .slice B6 mt e6] 25)
          replace IB2 := IB2.alloc' (.cells #[.slice A6 n1 c6, .slice B6 mt e6] 25)
          replace I5 := I5.alloc' (.cells #[.slice A6 n1 c6, .slice B6 mt e6] 25)
          replace J5 := J5.alloc' (.cells #[.slice A6 n1 c6, .slice B6 mt e6] 25)
          replace I6 := I6.alloc' (.cells #[.slice A6 n1 c6, .slice B6 mt e6] 25)
          replace J6 := J6.alloc' (.cells #[.slice A6 n1 c6, .slice B6 mt e6] 25)
          replace u0 := uPast (.cells #[.slice A6 n1 c6, .slice B6 mt e6] 25) u0
          replace u1 := uPast (.cells #[.slice A6 n1 c6, .slice B6 mt e6] 25) u1
          replace bx5 := uPast (.cells #[.slice A6 n1 c6, .slice B6 mt e6] 25) bx5
          replace hT := hT.alloc hT.size (.cells #[.slice A6 n1 c6, .slice B6 mt e6] 25)
          have bx6 := heap_alloc_new w6 (.cells #[.slice A6 n1 c6, .slice B6 mt e6] 25)
          clear I5 J5 bx5
          refine (sumT HCK.out IA IB hnc hm65 hmd HhLm.out HhVp.out HnLm.out Hhmt.out em).mono ?_
          rintro x w7 ⟨A7, c7, B7, e7, rfl, I7, J7, C7, hb7⟩
          replace IA := (IA.below hb7).more hb7.size
          replace IB := (IB.below hb7).more hb7.size
          replace IA2 := (IA2.below hb7).more hb7.size
          replace IB2 := (IB2.below hb7).more hb7.size
          replace I6 := (I6.below hb7).more hb7.size
          replace J6 := (J6.below hb7).more hb7.size
          replace u0 := dKeep hb7 u0
          replace u1 := dKeep hb7 u1
          replace bx6 := dKeep hb7 bx6
          replace hT := hT.trans (hb7.mono hT.size)
          clear hb7
          obtain ⟨xb, yb, fb, rb⟩ := dCells u1
          have mb := fun o => cellPast o xb
          have pb := fun o => cellPast o yb
          go_wp2_with fail
          clear xb yb fb rb mb pb
          replace IA := IA.alloc' (.cells #[.slice A7 n1 c7, .slice B7 mt e7] 25)
          replace IB := IB.alloc' (.cells #[.slice A7 n1 c7, .slice B7 mt e7] 25)
          replace IA2 := IA2.alloc' (.cells #[.slice A7 n1 c7, .slice B7 mt e7] 25)
          replace IB2 := IB2.alloc' (.cells #[.slice A7 n1 c7, .slice B7 mt e7] 25)
          replace I6 := I6.alloc' (.cells #[.slice A7 n1 c7, .slice B7 mt e7] 25)
          replace J6 := J6.alloc' (.cells #[.slice A7 n1 c7, .slice B7 mt e7] 25)
          replace I7 := I7.alloc' (.cells #[.slice A7 n1 c7, .slice B7 mt e7] 25)
          replace J7 := J7.alloc' (.cells #[.slice A7 n1 c7, .slice B7 mt e7] 25)
          replace u0 := uPast (.cells #[.slice A7 n1 c7, .slice B7 mt e7] 25) u0
          replace u1 := uPast (.cells #[.slice A7 n1 c7, .slice B7 mt e7] 25) u1
          replace bx6 := uPast (.cells #[.slice A7 n1 c7, .slice B7 mt e7] 25) bx6
          replace hT := hT.alloc hT.size (.cells #[.slice A7 n1 c7, .slice B7 mt e7] 25)
          have bx7 := heap_alloc_new w7 (.cells #[.slice A7 n1 c7, .slice B7 mt e7] 25)
          refine (sumT HCK.out IA2 IB2 hnc2 hm65 hmd HhLm.out HhVq.out HnLm.out Hlq.out em).mono ?_
          rintro x w8 ⟨A8, c8, B8, e8, rfl, I8, J8, C8, hb8⟩
          replace IA := (IA.below hb8).more hb8.size
          replace IB := (IB.below hb8).more hb8.size
          replace IA2 := (IA2.below hb8).more hb8.size
          replace IB2 := (IB2.below hb8).more hb8.size
          replace I6 := (I6.below hb8).more hb8.size
          replace J6 := (J6.below hb8).more hb8.size
          replace I7 := (I7.below hb8).more hb8.size
          replace J7 := (J7.below hb8).more hb8.size
          replace u0 := dKeep hb8 u0
          replace u1 := dKeep hb8 u1
          replace bx6 := dKeep hb8 bx6
          replace bx7 := dKeep hb8 bx7
          replace hT := hT.trans (hb8.mono hT.size)
          clear hb8
          obtain ⟨xp, yp, fp, rp⟩ := dCells bx7
          have mp := fun o => cellPast o xp
          have pp := fun o => cellPast o yp
          go_wp2_with fail
          clear xp yp fp rp mp pp
          replace IA := IA.alloc' (.cells #[.slice A8 n1 c8, .slice B8 mt e8] 25)
          replace IB := IB.alloc' (.cells #[.slice A8 n1 c8, .slice B8 mt e8] 25)
          replace IA2 := IA2.alloc' (.cells #[.slice A8 n1 c8, .slice B8 mt e8] 25)
          replace IB2 := IB2.alloc' (.cells #[.slice A8 n1 c8, .slice B8 mt e8] 25)
          replace I6 := I6.alloc' (.cells #[.slice A8 n1 c8, .slice B8 mt e8] 25)
          replace J6 := J6.alloc' (.cells #[.slice A8 n1 c8, .slice B8 mt e8] 25)
          replace I7 := I7.alloc' (.cells #[.slice A8 n1 c8, .slice B8 mt e8] 25)
          replace J7 := J7.alloc' (.cells #[.slice A8 n1 c8, .slice B8 mt e8] 25)
          replace I8 := I8.alloc' (.cells #[.slice A8 n1 c8, .slice B8 mt e8] 25)
          replace J8 := J8.alloc' (.cells #[.slice A8 n1 c8, .slice B8 mt e8] 25)
          replace u0 := uPast (.cells #[.slice A8 n1 c8, .slice B8 mt e8] 25) u0
          replace u1 := uPast (.cells #[.slice A8 n1 c8, .slice B8 mt e8] 25) u1
          replace bx6 := uPast (.cells #[.slice A8 n1 c8, .slice B8 mt e8] 25) bx6
          replace bx7 := uPast (.cells #[.slice A8 n1 c8, .slice B8 mt e8] 25) bx7
          replace hT := hT.alloc hT.size (.cells #[.slice A8 n1 c8, .slice B8 mt e8] 25)
          have bx8 := heap_alloc_new w8 (.cells #[.slice A8 n1 c8, .slice B8 mt e8] 25)
          clear IA2 IB2 u1
          refine (addT km I7 J7 I8 J8 HhR1.out.symm).mono ?_
          rintro x w9 ⟨A9, c9, B9, e9, rfl, I9, J9, C9, hb9⟩
          replace IA := (IA.below hb9).more hb9.size
          replace IB := (IB.below hb9).more hb9.size
          replace I6 := (I6.below hb9).more hb9.size
          replace J6 := (J6.below hb9).more hb9.size
          replace I7 := (I7.below hb9).more hb9.size
          replace J7 := (J7.below hb9).more hb9.size
          replace I8 := (I8.below hb9).more hb9.size
          replace J8 := (J8.below hb9).more hb9.size
          replace u0 := dKeep hb9 u0
          replace bx6 := dKeep hb9 bx6
          replace bx7 := dKeep hb9 bx7
          replace bx8 := dKeep hb9 bx8
          replace hT := hT.trans (hb9.mono hT.size)
          clear hb9
          obtain ⟨xa, ya, fa, ra⟩ := dCells u0
          have ma := fun o => cellPast o xa
          have pa := fun o => cellPast o ya
          go_wp2_with fail
          clear xa ya fa ra ma pa
          replace IA := IA.alloc' (.cells #[.slice A9 n1 c9, .slice B9 mt e9] 25)
          replace IB := IB.alloc' (.cells #[.slice A9 n1 c9, .slice B9 mt e9] 25)
          replace I6 := I6.alloc' (.cells #[.slice A9 n1 c9, .slice B9 mt e9] 25)
          replace J6 := J6.alloc' (.cells #[.slice A9 n1 c9, .slice B9 mt e9] 25)
          replace I7 := I7.alloc' (.cells #[.slice A9 n1 c9, .slice B9 mt e9] 25)
          replace J7 := J7.alloc' (.cells #[.slice A9 n1 c9, .slice B9 mt e9] 25)
          replace I8 := I8.alloc' (.cells #[.slice A9 n1 c9, .slice B9 mt e9] 25)
          replace J8 := J8.alloc' (.cells #[.slice A9 n1 c9, .slice B9 mt e9] 25)
          replace I9 := I9.alloc' (.cells #[.slice A9 n1 c9, .slice B9 mt e9] 25)
          replace J9 := J9.alloc' (.cells #[.slice A9 n1 c9, .slice B9 mt e9] 25)
          replace u0 := uPast (.cells #[.slice A9 n1 c9, .slice B9 mt e9] 25) u0
          replace bx6 := uPast (.cells #[.slice A9 n1 c9, .slice B9 mt e9] 25) bx6
          replace bx7 := uPast (.cells #[.slice A9 n1 c9, .slice B9 mt e9] 25) bx7
          replace bx8 := uPast (.cells #[.slice A9 n1 c9, .slice B9 mt e9] 25) bx8
          replace hT := hT.alloc hT.size (.cells #[.slice A9 n1 c9, .slice B9 mt e9] 25)
          have bx9 := heap_alloc_new w9 (.cells #[.slice A9 n1 c9, .slice B9 mt e9] 25)
          clear I8 J8 bx8
          refine (scaleT z HCK.out IA IB HhVu.out).mono ?_
          rintro x w10 ⟨A10, c10, B10, e10, rfl, I10, J10, C10, hb10⟩
          replace IA := (IA.below hb10).more hb10.size
          replace IB := (IB.below hb10).more hb10.size
          replace I6 := (I6.below hb10).more hb10.size
          replace J6 := (J6.below hb10).more hb10.size
          replace I7 := (I7.below hb10).more hb10.size
          replace J7 := (J7.below hb10).more hb10.size
          replace I9 := (I9.below hb10).more hb10.size
          replace J9 := (J9.below hb10).more hb10.size
          replace u0 := dKeep hb10 u0
          replace bx6 := dKeep hb10 bx6
          replace bx7 := dKeep hb10 bx7
          replace bx9 := dKeep hb10 bx9
          replace hT := hT.trans (hb10.mono hT.size)
          clear hb10
          go_wp2_with fail
          replace IA := IA.alloc' (.cells #[.slice A10 n c10, .slice B10 m e10] 25)
          replace IB := IB.alloc' (.cells #[.slice A10 n c10, .slice B10 m e10] 25)
          replace I6 := I6.alloc' (.cells #[.slice A10 n c10, .slice B10 m e10] 25)
          replace J6 := J6.alloc' (.cells #[.slice A10 n c10, .slice B10 m e10] 25)
          replace I7 := I7.alloc' (.cells #[.slice A10 n c10, .slice B10 m e10] 25)
          replace J7 := J7.alloc' (.cells #[.slice A10 n c10, .slice B10 m e10] 25)
          replace I9 := I9.alloc' (.cells #[.slice A10 n c10, .slice B10 m e10] 25)
          replace J9 := J9.alloc' (.cells #[.slice A10 n c10, .slice B10 m e10] 25)
          replace I10 := I10.alloc' (.cells #[.slice A10 n c10, .slice B10 m e10] 25)
          replace J10 := J10.alloc' (.cells #[.slice A10 n c10, .slice B10 m e10] 25)
          replace u0 := uPast (.cells #[.slice A10 n c10, .slice B10 m e10] 25) u0
          replace bx6 := uPast (.cells #[.slice A10 n c10, .slice B10 m e10] 25) bx6
          replace bx7 := uPast (.cells #[.slice A10 n c10, .slice B10 m e10] 25) bx7
          replace bx9 := uPast (.cells #[.slice A10 n c10, .slice B10 m e10] 25) bx9
          replace hT := hT.alloc hT.size (.cells #[.slice A10 n c10, .slice B10 m e10] 25)
          have bx10 := heap_alloc_new w10 (.cells #[.slice A10 n c10, .slice B10 m e10] 25)
          clear IA IB u0
          refine (sumT HCK.out I10 J10 C10 hm65 hmd HhLm.out HhVv.out HnLm.out Hlv.out em).mono ?_
          rintro x w11 ⟨A11, c11, B11, e11, rfl, I11, J11, C11, hb11⟩
          replace I6 := (I6.below hb11).more hb11.size
          replace J6 := (J6.below hb11).more hb11.size
          replace I7 := (I7.below hb11).more hb11.size
          replace J7 := (J7.below hb11).more hb11.size
          replace I9 := (I9.below hb11).more hb11.size
          replace J9 := (J9.below hb11).more hb11.size
          replace I10 := (I10.below hb11).more hb11.size
          replace J10 := (J10.below hb11).more hb11.size
          replace bx6 := dKeep hb11 bx6
          replace bx7 := dKeep hb11 bx7
          replace bx9 := dKeep hb11 bx9
          replace bx10 := dKeep hb11 bx10
          replace hT := hT.trans (hb11.mono hT.size)
          clear hb11
          obtain ⟨xp, yp, fp, rp⟩ := dCells bx7
          have mp := fun o => cellPast o xp
          have pp := fun o => cellPast o yp
          go_wp2_with fail
          clear xp yp fp rp mp pp
          replace I6 := I6.alloc' (.cells #[.slice A11 n1 c11, .slice B11 mt e11] 25)
          replace J6 := J6.alloc' (.cells #[.slice A11 n1 c11, .slice B11 mt e11] 25)
          replace I7 := I7.alloc' (.cells #[.slice A11 n1 c11, .slice B11 mt e11] 25)
          replace J7 := J7.alloc' (.cells #[.slice A11 n1 c11, .slice B11 mt e11] 25)
          replace I9 := I9.alloc' (.cells #[.slice A11 n1 c11, .slice B11 mt e11] 25)
          replace J9 := J9.alloc' (.cells #[.slice A11 n1 c11, .slice B11 mt e11] 25)
          replace I10 := I10.alloc' (.cells #[.slice A11 n1 c11, .slice B11 mt e11] 25)
          replace J10 := J10.alloc' (.cells #[.slice A11 n1 c11, .slice B11 mt e11] 25)
          replace I11 := I11.alloc' (.cells #[.slice A11 n1 c11, .slice B11 mt e11] 25)
          replace J11 := J11.alloc' (.cells #[.slice A11 n1 c11, .slice B11 mt e11] 25)
          replace bx6 := uPast (.cells #[.slice A11 n1 c11, .slice B11 mt e11] 25) bx6
          replace bx7 := uPast (.cells #[.slice A11 n1 c11, .slice B11 mt e11] 25) bx7
          replace bx9 := uPast (.cells #[.slice A11 n1 c11, .slice B11 mt e11] 25) bx9
          replace bx10 := uPast (.cells #[.slice A11 n1 c11, .slice B11 mt e11] 25) bx10
          replace hT := hT.alloc hT.size (.cells #[.slice A11 n1 c11, .slice B11 mt e11] 25)
          have bx11 := heap_alloc_new w11 (.cells #[.slice A11 n1 c11, .slice B11 mt e11] 25)
          clear I10 J10 bx10
          refine (scaleT z km I7 J7 HhR2.out.symm).mono ?_
          rintro x w12 ⟨A12, c12, B12, e12, rfl, I12, J12, C12, hb12⟩
          replace I6 := (I6.below hb12).more hb12.size
          replace J6 := (J6.below hb12).more hb12.size
          replace I7 := (I7.below hb12).more hb12.size
          replace J7 := (J7.below hb12).more hb12.size
          replace I9 := (I9.below hb12).more hb12.size
          replace J9 := (J9.below hb12).more hb12.size
          replace I11 := (I11.below hb12).more hb12.size
          replace J11 := (J11.below hb12).more hb12.size
          replace bx6 := dKeep hb12 bx6
          replace bx7 := dKeep hb12 bx7
          replace bx9 := dKeep hb12 bx9
          replace bx11 := dKeep hb12 bx11
          replace hT := hT.trans (hb12.mono hT.size)
          clear hb12
          have z12t : w6.heap.size < w12.heap.size := (Array.getElem?_eq_some_iff.1 bx6).1
          have z12p : w7.heap.size < w12.heap.size := (Array.getElem?_eq_some_iff.1 bx7).1
          have z12r : w9.heap.size < w12.heap.size := (Array.getElem?_eq_some_iff.1 bx9).1
          have z12v : w11.heap.size < w12.heap.size := (Array.getElem?_eq_some_iff.1 bx11).1
          obtain ⟨xt, yt, ft, rt⟩ := dCells bx6
          have mt := fun o => cellPast o xt
          have pt := fun o => cellPast o yt
          obtain ⟨xr, yr, fr, rr⟩ := dCells bx9
          have mr := fun o => cellPast o xr
          have pr := fun o => cellPast o yr
          obtain ⟨xv, yv, fv, rv⟩ := dCells bx11
          have mv := fun o => cellPast o xv
          have pv := fun o => cellPast o yv
          go_wp2_with fail
          clear xt yt ft rt xr yr fr rr xv yv fv rv mt pt mr pr mv pv
          replace I6 := I6.alloc' (.cells #[.slice A12 n1 c12, .slice B12 mt e12] 25)
          replace J6 := J6.alloc' (.cells #[.slice A12 n1 c12, .slice B12 mt e12] 25)
          replace I7 := I7.alloc' (.cells #[.slice A12 n1 c12, .slice B12 mt e12] 25)
          replace J7 := J7.alloc' (.cells #[.slice A12 n1 c12, .slice B12 mt e12] 25)
          replace I9 := I9.alloc' (.cells #[.slice A12 n1 c12, .slice B12 mt e12] 25)
          replace J9 := J9.alloc' (.cells #[.slice A12 n1 c12, .slice B12 mt e12] 25)
          replace I11 := I11.alloc' (.cells #[.slice A12 n1 c12, .slice B12 mt e12] 25)
          replace J11 := J11.alloc' (.cells #[.slice A12 n1 c12, .slice B12 mt e12] 25)
          replace I12 := I12.alloc' (.cells #[.slice A12 n1 c12, .slice B12 mt e12] 25)
          replace J12 := J12.alloc' (.cells #[.slice A12 n1 c12, .slice B12 mt e12] 25)
          replace bx6 := uPast (.cells #[.slice A12 n1 c12, .slice B12 mt e12] 25) bx6
          replace bx7 := uPast (.cells #[.slice A12 n1 c12, .slice B12 mt e12] 25) bx7
          replace bx9 := uPast (.cells #[.slice A12 n1 c12, .slice B12 mt e12] 25) bx9
          replace bx11 := uPast (.cells #[.slice A12 n1 c12, .slice B12 mt e12] 25) bx11
          replace hT := hT.alloc hT.size (.cells #[.slice A12 n1 c12, .slice B12 mt e12] 25)
          have bx12 := heap_alloc_new w12 (.cells #[.slice A12 n1 c12, .slice B12 mt e12] 25)
          clear I7 J7 bx7
          refine (sameT km bt I6 J6 I9 J9 rfl).mono ?_
          rintro x w14 ⟨rfl, hb14⟩
          replace I6 := (I6.below hb14).more hb14.size
          replace J6 := (J6.below hb14).more hb14.size
          replace I9 := (I9.below hb14).more hb14.size
          replace J9 := (J9.below hb14).more hb14.size
          replace I11 := (I11.below hb14).more hb14.size
          replace J11 := (J11.below hb14).more hb14.size
          replace I12 := (I12.below hb14).more hb14.size
          replace J12 := (J12.below hb14).more hb14.size
          replace bx6 := dKeep hb14 bx6
          replace bx9 := dKeep hb14 bx9
          replace bx11 := dKeep hb14 bx11
          replace bx12 := dKeep hb14 bx12
          replace hT := hT.trans (hb14.mono hT.size)
          clear hb14
          obtain ⟨xv, yv, fv, rv⟩ := dCells bx11
          obtain ⟨xw, yw, fw, rw⟩ := dCells bx12
          go_wp2_with fail
          refine (sameT km bt I11 J11 I12 J12 rfl).mono ?_
          rintro x w15 ⟨rfl, hb15⟩
          replace hT := hT.trans (hb15.mono hT.size)
          go_wp2_with fail
          go_ret
          exact ⟨rfl, hT⟩
        · refine (sumE kh I1 J1 C1 bh hl1 HhL2.out q2).mono ?_
          rintro x w3 ⟨A3, c3, B3, e3, rfl, I3, J3, C3, hb3⟩
          replace IA := (IA.below hb3).more hb3.size
          replace IB := (IB.below hb3).more hb3.size
          replace IA2 := (IA2.below hb3).more hb3.size
          replace IB2 := (IB2.below hb3).more hb3.size
          replace I1 := (I1.below hb3).more hb3.size
          replace J1 := (J1.below hb3).more hb3.size
          replace I2 := (I2.below hb3).more hb3.size
          replace J2 := (J2.below hb3).more hb3.size
          replace u0 := dKeep hb3 u0
          replace u1 := dKeep hb3 u1
          replace bx1 := dKeep hb3 bx1
          replace bx2 := dKeep hb3 bx2
          replace hT := hT.trans (hb3.mono hT.size)
          clear hb3
          obtain ⟨xO, yO, fO, rO⟩ := dCells bx1
          obtain ⟨xy, yy, fy, ry⟩ := dCells (uFar (.slice A3 0 c3) (.slice B3 0 e3) (show w2.heap.size ≠ w1.heap.size by omega) bx2)
          go_wp2_with fail
          clear xO yO fO rO xy yy fy ry
          replace IA := iFar (.slice A3 0 c3) (.slice B3 0 e3) bx1 IA
          replace IB := iFar (.slice A3 0 c3) (.slice B3 0 e3) bx1 IB
          replace IA2 := iFar (.slice A3 0 c3) (.slice B3 0 e3) bx1 IA2
          replace IB2 := iFar (.slice A3 0 c3) (.slice B3 0 e3) bx1 IB2
          replace I1 := iFar (.slice A3 0 c3) (.slice B3 0 e3) bx1 I1
          replace J1 := iFar (.slice A3 0 c3) (.slice B3 0 e3) bx1 J1
          replace I2 := iFar (.slice A3 0 c3) (.slice B3 0 e3) bx1 I2
          replace J2 := iFar (.slice A3 0 c3) (.slice B3 0 e3) bx1 J2
          replace I3 := iFar (.slice A3 0 c3) (.slice B3 0 e3) bx1 I3
          replace J3 := iFar (.slice A3 0 c3) (.slice B3 0 e3) bx1 J3
          replace u0 := uFar (.slice A3 0 c3) (.slice B3 0 e3) (show w.heap.size ≠ w1.heap.size by omega) u0
          replace u1 := uFar (.slice A3 0 c3) (.slice B3 0 e3) (show w.heap.size + 1 ≠ w1.heap.size by omega) u1
          replace bx2 := uFar (.slice A3 0 c3) (.slice B3 0 e3) (show w2.heap.size ≠ w1.heap.size by omega) bx2
          replace bx1 := set_both (a := .slice A3 0 c3) (b := .slice B3 0 e3) bx1
          replace hT := (hT.setCell (p := ⟨w1.heap.size, 0, none⟩) (by show w.heap.size ≤ w1.heap.size; omega) (.slice A3 0 c3)).setCell (p := ⟨w1.heap.size, 1, none⟩) (by show w.heap.size ≤ w1.heap.size; omega) (.slice B3 0 e3)
          clear I1 J1
          refine (sumE kl I2 J2 C2 bl hh2 HhL3.out q2).mono ?_
          rintro x w4 ⟨A4, c4, B4, e4, rfl, I4, J4, C4, hb4⟩
          replace IA := (IA.below hb4).more hb4.size
          replace IB := (IB.below hb4).more hb4.size
          replace IA2 := (IA2.below hb4).more hb4.size
          replace IB2 := (IB2.below hb4).more hb4.size
          replace I2 := (I2.below hb4).more hb4.size
          replace J2 := (J2.below hb4).more hb4.size
          replace I3 := (I3.below hb4).more hb4.size
          replace J3 := (J3.below hb4).more hb4.size
          replace u0 := dKeep hb4 u0
          replace u1 := dKeep hb4 u1
          replace bx1 := dKeep hb4 bx1
          replace bx2 := dKeep hb4 bx2
          replace hT := hT.trans (hb4.mono hT.size)
          clear hb4
          obtain ⟨xO, yO, fO, rO⟩ := dCells bx2
          obtain ⟨xa, ya, fa, ra⟩ := dCells (uFar (.slice A4 0 c4) (.slice B4 0 e4) (show w.heap.size ≠ w2.heap.size by omega) u0)
          obtain ⟨xb, yb, fb, rb⟩ := dCells (uFar (.slice A4 0 c4) (.slice B4 0 e4) (show w.heap.size + 1 ≠ w2.heap.size by omega) u1)
          go_wp2_with fail
          clear xO yO fO rO xa ya fa ra xb yb fb rb
          replace IA := iFar (.slice A4 0 c4) (.slice B4 0 e4) bx2 IA
          replace IB := iFar (.slice A4 0 c4) (.slice B4 0 e4) bx2 IB
          replace IA2 := iFar (.slice A4 0 c4) (.slice B4 0 e4) bx2 IA2
          replace IB2 := iFar (.slice A4 0 c4) (.slice B4 0 e4) bx2 IB2
          replace I2 := iFar (.slice A4 0 c4) (.slice B4 0 e4) bx2 I2
          replace J2 := iFar (.slice A4 0 c4) (.slice B4 0 e4) bx2 J2
          replace I3 := iFar (.slice A4 0 c4) (.slice B4 0 e4) bx2 I3
          replace J3 := iFar (.slice A4 0 c4) (.slice B4 0 e4) bx2 J3
          replace I4 := iFar (.slice A4 0 c4) (.slice B4 0 e4) bx2 I4
          replace J4 := iFar (.slice A4 0 c4) (.slice B4 0 e4) bx2 J4
          replace u0 := uFar (.slice A4 0 c4) (.slice B4 0 e4) (show w.heap.size ≠ w2.heap.size by omega) u0
          replace u1 := uFar (.slice A4 0 c4) (.slice B4 0 e4) (show w.heap.size + 1 ≠ w2.heap.size by omega) u1
          replace bx1 := uFar (.slice A4 0 c4) (.slice B4 0 e4) (show w1.heap.size ≠ w2.heap.size by omega) bx1
          replace bx2 := set_both (a := .slice A4 0 c4) (b := .slice B4 0 e4) bx2
          replace hT := (hT.setCell (p := ⟨w2.heap.size, 0, none⟩) (by show w.heap.size ≤ w2.heap.size; omega) (.slice A4 0 c4)).setCell (p := ⟨w2.heap.size, 1, none⟩) (by show w.heap.size ≤ w2.heap.size; omega) (.slice B4 0 e4)
          clear I2 J2 I3 J3 I4 J4 bx1 bx2
          obtain ⟨Vs, hVs⟩ : ∃ V, addL ys ys2 = V := ⟨_, rfl⟩
          obtain ⟨Vt, hVt⟩ : ∃ V, sumV xs md Vs = V := ⟨_, rfl⟩
          obtain ⟨Vp, hVp⟩ : ∃ V, sumV xs md ys = V := ⟨_, rfl⟩
          obtain ⟨Vq, hVq⟩ : ∃ V, sumV xs md ys2 = V := ⟨_, rfl⟩
          obtain ⟨Vu, hVu⟩ : ∃ V, byL z ys = V := ⟨_, rfl⟩
          obtain ⟨mt, hmt⟩ : ∃ k, Vp.length = k := ⟨_, rfl⟩
          have lt : Vt.length = mt := by rw [← hVt, sumV_length, ← hmt, ← hVp, sumV_length]
          have lq : Vq.length = mt := by rw [← hVq, sumV_length, ← hmt, ← hVp, sumV_length]
          have km : checkF Lm mt = 0 := by have := sumV_check (xs := xs) (k := md) ys (by rw [HhLm.out]; exact em); rwa [hVp, hmt, HhLm.out] at this
          have bt : mt ≤ 65536 := by rw [← hmt, ← hVp, sumV_length]; exact laidF_le _
          have hR1 : Vt = addL Vp Vq := by rw [← hVt, ← hVs, sumV_add _ _ _ _ (by rw [HL2.out, HL3.out]), hVp, hVq]
          have hR2 : sumV xs md Vu = byL z Vp := by rw [← hVu, sumV_by, hVp]
          obtain ⟨Vv, hVv⟩ : ∃ V, sumV xs md Vu = V := ⟨_, rfl⟩
          rw [hVv] at hR2
          have lv : Vv.length = mt := by rw [hR2, byL_length, hmt]
          have HhVs := Lib.hid hVs
          have HhVt := Lib.hid hVt
          have HhVp := Lib.hid hVp
          have HhVq := Lib.hid hVq
          have HhVu := Lib.hid hVu
          have Hhmt := Lib.hid hmt
          have Hlt := Lib.hid lt
          have Hlq := Lib.hid lq
          have HhR1 := Lib.hid hR1
          have HhR2 := Lib.hid hR2
          have HhVv := Lib.hid hVv
          have Hlv := Lib.hid lv
          clear hVs hVt hVp hVq hVu hmt lt lq hR1 hR2 hVv lv
          refine (addT HCK.out IA IB IA2 IB2 HhVs.out).mono ?_
          rintro x w5 ⟨A5, c5, B5, e5, rfl, I5, J5, C5, hb5⟩
          replace IA := (IA.below hb5).more hb5.size
          replace IB := (IB.below hb5).more hb5.size
          replace IA2 := (IA2.below hb5).more hb5.size
          replace IB2 := (IB2.below hb5).more hb5.size
          replace u0 := dKeep hb5 u0
          replace u1 := dKeep hb5 u1
          replace hT := hT.trans (hb5.mono hT.size)
          clear hb5
          go_wp2_with fail
          replace IA := IA.alloc' (.cells #[.slice A5 n c5, .slice B5 m e5] 25)
          replace IB := IB.alloc' (.cells #[.slice A5 n c5, .slice B5 m e5] 25)
          replace IA2 := IA2.alloc' (.cells #[.slice A5 n c5, .slice B5 m e5] 25)
          replace IB2 := IB2.alloc' (.cells #[.slice A5 n c5, .slice B5 m e5] 25)
          replace I5 := I5.alloc' (.cells #[.slice A5 n c5, .slice B5 m e5] 25)
          replace J5 := J5.alloc' (.cells #[.slice A5 n c5, .slice B5 m e5] 25)
          replace u0 := uPast (.cells #[.slice A5 n c5, .slice B5 m e5] 25) u0
          replace u1 := uPast (.cells #[.slice A5 n c5, .slice B5 m e5] 25) u1
          replace hT := hT.alloc hT.size (.cells #[.slice A5 n c5, .slice B5 m e5] 25)
          have bx5 := heap_alloc_new w5 (.cells #[.slice A5 n c5, .slice B5 m e5] 25)
          refine (sumT HCK.out I5 J5 C5 hm65 hmd HhLm.out HhVt.out HnLm.out Hlt.out em).mono ?_
          rintro x w6 ⟨A6, c6, B6, e6, rfl, I6, J6, C6, hb6⟩
          replace IA := (IA.below hb6).more hb6.size
          replace IB := (IB.below hb6).more hb6.size
          replace IA2 := (IA2.below hb6).more hb6.size
          replace IB2 := (IB2.below hb6).more hb6.size
          replace I5 := (I5.below hb6).more hb6.size
          replace J5 := (J5.below hb6).more hb6.size
          replace u0 := dKeep hb6 u0
          replace u1 := dKeep hb6 u1
          replace bx5 := dKeep hb6 bx5
          replace hT := hT.trans (hb6.mono hT.size)
          clear hb6
          obtain ⟨xa, ya, fa, ra⟩ := dCells u0
          have ma := fun o => cellPast o xa
          have pa := fun o => cellPast o ya
          go_wp2_with fail
          clear xa ya fa ra ma pa
          replace IA := IA.alloc' (.cells #[.slice A6 n1 c6, .slice B6 mt e6] 25)
          replace IB := IB.alloc' (.cells #[.slice A6 n1 c6, .slice B6 mt e6] 25)
          replace IA2 := IA2.alloc' (.cells #[.slice A6 n1 c6, .slice B6 mt e6] 25)
          replace IB2 := IB2.alloc' (.cells #[.slice A6 n1 c6, .slice B6 mt e6] 25)
          replace I5 := I5.alloc' (.cells #[.slice A6 n1 c6, .slice B6 mt e6] 25)
          replace J5 := J5.alloc' (.cells #[.slice A6 n1 c6, .slice B6 mt e6] 25)
          replace I6 := I6.alloc' (.cells #[.slice A6 n1 c6, .slice B6 mt e6] 25)
          replace J6 := J6.alloc' (.cells #[.slice A6 n1 c6, .slice B6 mt e6] 25)
          replace u0 := uPast (.cells #[.slice A6 n1 c6, .slice B6 mt e6] 25) u0
          replace u1 := uPast (.cells #[.slice A6 n1 c6, .slice B6 mt e6] 25) u1
          replace bx5 := uPast (.cells #[.slice A6 n1 c6, .slice B6 mt e6] 25) bx5
          replace hT := hT.alloc hT.size (.cells #[.slice A6 n1 c6, .slice B6 mt e6] 25)
          have bx6 := heap_alloc_new w6 (.cells #[.slice A6 n1 c6, .slice B6 mt e6] 25)
          clear I5 J5 bx5
          refine (sumT HCK.out IA IB hnc hm65 hmd HhLm.out HhVp.out HnLm.out Hhmt.out em).mono ?_
          rintro x w7 ⟨A7, c7, B7, e7, rfl, I7, J7, C7, hb7⟩
          replace IA := (IA.below hb7).more hb7.size
          replace IB := (IB.below hb7).more hb7.size
          replace IA2 := (IA2.below hb7).more hb7.size
          replace IB2 := (IB2.below hb7).more hb7.size
          replace I6 := (I6.below hb7).more hb7.size
          replace J6 := (J6.below hb7).more hb7.size
          replace u0 := dKeep hb7 u0
          replace u1 := dKeep hb7 u1
          replace bx6 := dKeep hb7 bx6
          replace hT := hT.trans (hb7.mono hT.size)
          clear hb7
          obtain ⟨xb, yb, fb, rb⟩ := dCells u1
          have mb := fun o => cellPast o xb
          have pb := fun o => cellPast o yb
          go_wp2_with fail
          clear xb yb fb rb mb pb
          replace IA := IA.alloc' (.cells #[.slice A7 n1 c7, .slice B7 mt e7] 25)
          replace IB := IB.alloc' (.cells #[.slice A7 n1 c7, .slice B7 mt e7] 25)
          replace IA2 := IA2.alloc' (.cells #[.slice A7 n1 c7, .slice B7 mt e7] 25)
          replace IB2 := IB2.alloc' (.cells #[.slice A7 n1 c7, .slice B7 mt e7] 25)
          replace I6 := I6.alloc' (.cells #[.slice A7 n1 c7, .slice B7 mt e7] 25)
          replace J6 := J6.alloc' (.cells #[.slice A7 n1 c7, .slice B7 mt e7] 25)
          replace I7 := I7.alloc' (.cells #[.slice A7 n1 c7, .slice B7 mt e7] 25)
          replace J7 := J7.alloc' (.cells #[.slice A7 n1 c7, .slice B7 mt e7] 25)
          replace u0 := uPast (.cells #[.slice A7 n1 c7, .slice B7 mt e7] 25) u0
          replace u1 := uPast (.cells #[.slice A7 n1 c7, .slice B7 mt e7] 25) u1
          replace bx6 := uPast (.cells #[.slice A7 n1 c7, .slice B7 mt e7] 25) bx6
          replace hT := hT.alloc hT.size (.cells #[.slice A7 n1 c7, .slice B7 mt e7] 25)
          have bx7 := heap_alloc_new w7 (.cells #[.slice A7 n1 c7, .slice B7 mt e7] 25)
          refine (sumT HCK.out IA2 IB2 hnc2 hm65 hmd HhLm.out HhVq.out HnLm.out Hlq.out em).mono ?_
          rintro x w8 ⟨A8, c8, B8, e8, rfl, I8, J8, C8, hb8⟩
          replace IA := (IA.below hb8).more hb8.size
          replace IB := (IB.below hb8).more hb8.size
          replace IA2 := (IA2.below hb8).more hb8.size
          replace IB2 := (IB2.below hb8).more hb8.size
          replace I6 := (I6.below hb8).more hb8.size
          replace J6 := (J6.below hb8).more hb8.size
          replace I7 := (I7.below hb8).more hb8.size
          replace J7 := (J7.below hb8).more hb8.size
          replace u0 := dKeep hb8 u0
          replace u1 := dKeep hb8 u1
          replace bx6 := dKeep hb8 bx6
          replace bx7 := dKeep hb8 bx7
          replace hT := hT.trans (hb8.mono hT.size)
          clear hb8
          obtain ⟨xp, yp, fp, rp⟩ := dCells bx7
          have mp := fun o => cellPast o xp
          have pp := fun o => cellPast o yp
          go_wp2_with fail
          clear xp yp fp rp mp pp
          replace IA := IA.alloc' (.cells #[.slice A8 n1 c8, .slice B8 mt e8] 25)
          replace IB := IB.alloc' (.cells #[.slice A8 n1 c8, .slice B8 mt e8] 25)
          replace IA2 := IA2.alloc' (.cells #[.slice A8 n1 c8, .slice B8 mt e8] 25)
          replace IB2 := IB2.alloc' (.cells #[.slice A8 n1 c8, .slice B8 mt e8] 25)
          replace I6 := I6.alloc' (.cells #[.slice A8 n1 c8, .slice B8 mt e8] 25)
          replace J6 := J6.alloc' (.cells #[.slice A8 n1 c8, .slice B8 mt e8] 25)
          replace I7 := I7.alloc' (.cells #[.slice A8 n1 c8, .slice B8 mt e8] 25)
          replace J7 := J7.alloc' (.cells #[.slice A8 n1 c8, .slice B8 mt e8] 25)
          replace I8 := I8.alloc' (.cells #[.slice A8 n1 c8, .slice B8 mt e8] 25)
          replace J8 := J8.alloc' (.cells #[.slice A8 n1 c8, .slice B8 mt e8] 25)
          replace u0 := uPast (.cells #[.slice A8 n1 c8, .slice B8 mt e8] 25) u0
          replace u1 := uPast (.cells #[.slice A8 n1 c8, .slice B8 mt e8] 25) u1
          replace bx6 := uPast (.cells #[.slice A8 n1 c8, .slice B8 mt e8] 25) bx6
          replace bx7 := uPast (.cells #[.slice A8 n1 c8, .slice B8 mt e8] 25) bx7
          replace hT := hT.alloc hT.size (.cells #[.slice A8 n1 c8, .slice B8 mt e8] 25)
          have bx8 := heap_alloc_new w8 (.cells #[.slice A8 n1 c8, .slice B8 mt e8] 25)
          clear IA2 IB2 u1
          refine (addT km I7 J7 I8 J8 HhR1.out.symm).mono ?_
          rintro x w9 ⟨A9, c9, B9, e9, rfl, I9, J9, C9, hb9⟩
          replace IA := (IA.below hb9).more hb9.size
          replace IB := (IB.below hb9).more hb9.size
          replace I6 := (I6.below hb9).more hb9.size
          replace J6 := (J6.below hb9).more hb9.size
          replace I7 := (I7.below hb9).more hb9.size
          replace J7 := (J7.below hb9).more hb9.size
          replace I8 := (I8.below hb9).more hb9.size
          replace J8 := (J8.below hb9).more hb9.size
          replace u0 := dKeep hb9 u0
          replace bx6 := dKeep hb9 bx6
          replace bx7 := dKeep hb9 bx7
          replace bx8 := dKeep hb9 bx8
          replace hT := hT.trans (hb9.mono hT.size)
          clear hb9
          obtain ⟨xa, ya, fa, ra⟩ := dCells u0
          have ma := fun o => cellPast o xa
          have pa := fun o => cellPast o ya
          go_wp2_with fail
          clear xa ya fa ra ma pa
          replace IA := IA.alloc' (.cells #[.slice A9 n1 c9, .slice B9 mt e9] 25)
          replace IB := IB.alloc' (.cells #[.slice A9 n1 c9, .slice B9 mt e9] 25)
          replace I6 := I6.alloc' (.cells #[.slice A9 n1 c9, .slice B9 mt e9] 25)
          replace J6 := J6.alloc' (.cells #[.slice A9 n1 c9, .slice B9 mt e9] 25)
          replace I7 := I7.alloc' (.cells #[.slice A9 n1 c9, .slice B9 mt e9] 25)
          replace J7 := J7.alloc' (.cells #[.slice A9 n1 c9, .slice B9 mt e9] 25)
          replace I8 := I8.alloc' (.cells #[.slice A9 n1 c9, .slice B9 mt e9] 25)
          replace J8 := J8.alloc' (.cells #[.slice A9 n1 c9, .slice B9 mt e9] 25)
          replace I9 := I9.alloc' (.cells #[.slice A9 n1 c9, .slice B9 mt e9] 25)
          replace J9 := J9.alloc' (.cells #[.slice A9 n1 c9, .slice B9 mt e9] 25)
          replace u0 := uPast (.cells #[.slice A9 n1 c9, .slice B9 mt e9] 25) u0
          replace bx6 := uPast (.cells #[.slice A9 n1 c9, .slice B9 mt e9] 25) bx6
          replace bx7 := uPast (.cells #[.slice A9 n1 c9, .slice B9 mt e9] 25) bx7
          replace bx8 := uPast (.cells #[.slice A9 n1 c9, .slice B9 mt e9] 25) bx8
          replace hT := hT.alloc hT.size (.cells #[.slice A9 n1 c9, .slice B9 mt e9] 25)
          have bx9 := heap_alloc_new w9 (.cells #[.slice A9 n1 c9, .slice B9 mt e9] 25)
          clear I8 J8 bx8
          refine (scaleT z HCK.out IA IB HhVu.out).mono ?_
          rintro x w10 ⟨A10, c10, B10, e10, rfl, I10, J10, C10, hb10⟩
          replace IA := (IA.below hb10).more hb10.size
          replace IB := (IB.below hb10).more hb10.size
          replace I6 := (I6.below hb10).more hb10.size
          replace J6 := (J6.below hb10).more hb10.size
          replace I7 := (I7.below hb10).more hb10.size
          replace J7 := (J7.below hb10).more hb10.size
          replace I9 := (I9.below hb10).more hb10.size
          replace J9 := (J9.below hb10).more hb10.size
          replace u0 := dKeep hb10 u0
          replace bx6 := dKeep hb10 bx6
          replace bx7 := dKeep hb10 bx7
          replace bx9 := dKeep hb10 bx9
          replace hT := hT.trans (hb10.mono hT.size)
          clear hb10
          go_wp2_with fail
          replace IA := IA.alloc' (.cells #[.slice A10 n c10, .slice B10 m e10] 25)
          replace IB := IB.alloc' (.cells #[.slice A10 n c10, .slice B10 m e10] 25)
          replace I6 := I6.alloc' (.cells #[.slice A10 n c10, .slice B10 m e10] 25)
          replace J6 := J6.alloc' (.cells #[.slice A10 n c10, .slice B10 m e10] 25)
          replace I7 := I7.alloc' (.cells #[.slice A10 n c10, .slice B10 m e10] 25)
          replace J7 := J7.alloc' (.cells #[.slice A10 n c10, .slice B10 m e10] 25)
          replace I9 := I9.alloc' (.cells #[.slice A10 n c10, .slice B10 m e10] 25)
          replace J9 := J9.alloc' (.cells #[.slice A10 n c10, .slice B10 m e10] 25)
          replace I10 := I10.alloc' (.cells #[.slice A10 n c10, .slice B10 m e10] 25)
          replace J10 := J10.alloc' (.cells #[.slice A10 n c10, .slice B10 m e10] 25)
          replace u0 := uPast (.cells #[.slice A10 n c10, .slice B10 m e10] 25) u0
          replace bx6 := uPast (.cells #[.slice A10 n c10, .slice B10 m e10] 25) bx6
          replace bx7 := uPast (.cells #[.slice A10 n c10, .slice B10 m e10] 25) bx7
          replace bx9 := uPast (.cells #[.slice A10 n c10, .slice B10 m e10] 25) bx9
          replace hT := hT.alloc hT.size (.cells #[.slice A10 n c10, .slice B10 m e10] 25)
          have bx10 := heap_alloc_new w10 (.cells #[.slice A10 n c10, .slice B10 m e10] 25)
          clear IA IB u0
          refine (sumT HCK.out I10 J10 C10 hm65 hmd HhLm.out HhVv.out HnLm.out Hlv.out em).mono ?_
          rintro x w11 ⟨A11, c11, B11, e11, rfl, I11, J11, C11, hb11⟩
          replace I6 := (I6.below hb11).more hb11.size
          replace J6 := (J6.below hb11).more hb11.size
          replace I7 := (I7.below hb11).more hb11.size
          replace J7 := (J7.below hb11).more hb11.size
          replace I9 := (I9.below hb11).more hb11.size
          replace J9 := (J9.below hb11).more hb11.size
          replace I10 := (I10.below hb11).more hb11.size
          replace J10 := (J10.below hb11).more hb11.size
          replace bx6 := dKeep hb11 bx6
          replace bx7 := dKeep hb11 bx7
          replace bx9 := dKeep hb11 bx9
          replace bx10 := dKeep hb11 bx10
          replace hT := hT.trans (hb11.mono hT.size)
          clear hb11
          obtain ⟨xp, yp, fp, rp⟩ := dCells bx7
          have mp := fun o => cellPast o xp
          have pp := fun o => cellPast o yp
          go_wp2_with fail
          clear xp yp fp rp mp pp
          replace I6 := I6.alloc' (.cells #[.slice A11 n1 c11, .slice B11 mt e11] 25)
          replace J6 := J6.alloc' (.cells #[.slice A11 n1 c11, .slice B11 mt e11] 25)
          replace I7 := I7.alloc' (.cells #[.slice A11 n1 c11, .slice B11 mt e11] 25)
          replace J7 := J7.alloc' (.cells #[.slice A11 n1 c11, .slice B11 mt e11] 25)
          replace I9 := I9.alloc' (.cells #[.slice A11 n1 c11, .slice B11 mt e11] 25)
          replace J9 := J9.alloc' (.cells #[.slice A11 n1 c11, .slice B11 mt e11] 25)
          replace I10 := I10.alloc' (.cells #[.slice A11 n1 c11, .slice B11 mt e11] 25)
          replace J10 := J10.alloc' (.cells #[.slice A11 n1 c11, .slice B11 mt e11] 25)
          replace I11 := I11.alloc' (.cells #[.slice A11 n1 c11, .slice B11 mt e11] 25)
          replace J11 := J11.alloc' (.cells #[.slice A11 n1 c11, .slice B11 mt e11] 25)
          replace bx6 := uPast (.cells #[.slice A11 n1 c11, .slice B11 mt e11] 25) bx6
          replace bx7 := uPast (.cells #[.slice A11 n1 c11, .slice B11 mt e11] 25) bx7
          replace bx9 := uPast (.cells #[.slice A11 n1 c11, .slice B11 mt e11] 25) bx9
          replace bx10 := uPast (.cells #[.slice A11 n1 c11, .slice B11 mt e11] 25) bx10
          replace hT := hT.alloc hT.size (.cells #[.slice A11 n1 c11, .slice B11 mt e11] 25)
          have bx11 := heap_alloc_new w11 (.cells #[.slice A11 n1 c11, .slice B11 mt e11] 25)
          clear I10 J10 bx10
          refine (scaleT z km I7 J7 HhR2.out.symm).mono ?_
          rintro x w12 ⟨A12, c12, B12, e12, rfl, I12, J12, C12, hb12⟩
          replace I6 := (I6.below hb12).more hb12.size
          replace J6 := (J6.below hb12).more hb12.size
          replace I7 := (I7.below hb12).more hb12.size
          replace J7 := (J7.below hb12).more hb12.size
          replace I9 := (I9.below hb12).more hb12.size
          replace J9 := (J9.below hb12).more hb12.size
          replace I11 := (I11.below hb12).more hb12.size
          replace J11 := (J11.below hb12).more hb12.size
          replace bx6 := dKeep hb12 bx6
          replace bx7 := dKeep hb12 bx7
          replace bx9 := dKeep hb12 bx9
          replace bx11 := dKeep hb12 bx11
          replace hT := hT.trans (hb12.mono hT.size)
          clear hb12
          have z12t : w6.heap.size < w12.heap.size := (Array.getElem?_eq_some_iff.1 bx6).1
          have z12p : w7.heap.size < w12.heap.size := (Array.getElem?_eq_some_iff.1 bx7).1
          have z12r : w9.heap.size < w12.heap.size := (Array.getElem?_eq_some_iff.1 bx9).1
          have z12v : w11.heap.size < w12.heap.size := (Array.getElem?_eq_some_iff.1 bx11).1
          obtain ⟨xt, yt, ft, rt⟩ := dCells bx6
          have mt := fun o => cellPast o xt
          have pt := fun o => cellPast o yt
          obtain ⟨xr, yr, fr, rr⟩ := dCells bx9
          have mr := fun o => cellPast o xr
          have pr := fun o => cellPast o yr
          obtain ⟨xv, yv, fv, rv⟩ := dCells bx11
          have mv := fun o => cellPast o xv
          have pv := fun o => cellPast o yv
          go_wp2_with fail
          clear xt yt ft rt xr yr fr rr xv yv fv rv mt pt mr pr mv pv
          replace I6 := I6.alloc' (.cells #[.slice A12 n1 c12, .slice B12 mt e12] 25)
          replace J6 := J6.alloc' (.cells #[.slice A12 n1 c12, .slice B12 mt e12] 25)
          replace I7 := I7.alloc' (.cells #[.slice A12 n1 c12, .slice B12 mt e12] 25)
          replace J7 := J7.alloc' (.cells #[.slice A12 n1 c12, .slice B12 mt e12] 25)
          replace I9 := I9.alloc' (.cells #[.slice A12 n1 c12, .slice B12 mt e12] 25)
          replace J9 := J9.alloc' (.cells #[.slice A12 n1 c12, .slice B12 mt e12] 25)
          replace I11 := I11.alloc' (.cells #[.slice A12 n1 c12, .slice B12 mt e12] 25)
          replace J11 := J11.alloc' (.cells #[.slice A12 n1 c12, .slice B12 mt e12] 25)
          replace I12 := I12.alloc' (.cells #[.slice A12 n1 c12, .slice B12 mt e12] 25)
          replace J12 := J12.alloc' (.cells #[.slice A12 n1 c12, .slice B12 mt e12] 25)
          replace bx6 := uPast (.cells #[.slice A12 n1 c12, .slice B12 mt e12] 25) bx6
          replace bx7 := uPast (.cells #[.slice A12 n1 c12, .slice B12 mt e12] 25) bx7
          replace bx9 := uPast (.cells #[.slice A12 n1 c12, .slice B12 mt e12] 25) bx9
          replace bx11 := uPast (.cells #[.slice A12 n1 c12, .slice B12 mt e12] 25) bx11
          replace hT := hT.alloc hT.size (.cells #[.slice A12 n1 c12, .slice B12 mt e12] 25)
          have bx12 := heap_alloc_new w12 (.cells #[.slice A12 n1 c12, .slice B12 mt e12] 25)
          clear I7 J7 bx7
          refine (sameT km bt I6 J6 I9 J9 rfl).mono ?_
          rintro x w14 ⟨rfl, hb14⟩
          replace I6 := (I6.below hb14).more hb14.size
          replace J6 := (J6.below hb14).more hb14.size
          replace I9 := (I9.below hb14).more hb14.size
          replace J9 := (J9.below hb14).more hb14.size
          replace I11 := (I11.below hb14).more hb14.size
          replace J11 := (J11.below hb14).more hb14.size
          replace I12 := (I12.below hb14).more hb14.size
          replace J12 := (J12.below hb14).more hb14.size
          replace bx6 := dKeep hb14 bx6
          replace bx9 := dKeep hb14 bx9
          replace bx11 := dKeep hb14 bx11
          replace bx12 := dKeep hb14 bx12
          replace hT := hT.trans (hb14.mono hT.size)
          clear hb14
          obtain ⟨xv, yv, fv, rv⟩ := dCells bx11
          obtain ⟨xw, yw, fw, rw⟩ := dCells bx12
          go_wp2_with fail
          refine (sameT km bt I11 J11 I12 J12 rfl).mono ?_
          rintro x w15 ⟨rfl, hb15⟩
          replace hT := hT.trans (hb15.mono hT.size)
          go_wp2_with fail
          go_ret
          exact ⟨rfl, hT⟩
      · refine (sumT HCK.out IA IB hnc hm65 hhn HhLh.out HhVh.out HnLh.out Hhmh.out eh).mono ?_
        rintro x w1 ⟨A1, c1, B1, e1, rfl, I1, J1, C1, hb1⟩
        replace IA := (IA.below hb1).more hb1.size
        replace IB := (IB.below hb1).more hb1.size
        replace IA2 := (IA2.below hb1).more hb1.size
        replace IB2 := (IB2.below hb1).more hb1.size
        replace u0 := dKeep hb1 u0
        replace u1 := dKeep hb1 u1
        replace hT := hT.trans (hb1.mono hT.size)
        clear hb1
        have z1a : w.heap.size < w1.heap.size := (Array.getElem?_eq_some_iff.1 u0).1
        have z1b : w.heap.size + 1 < w1.heap.size := (Array.getElem?_eq_some_iff.1 u1).1
        obtain ⟨xa, ya, fa, ra⟩ := dCells u0
        have ma := fun o => cellPast o xa
        have pa := fun o => cellPast o ya
        go_wp2_with fail
        clear xa ya fa ra ma pa
        replace IA := IA.alloc' (.cells #[.slice A1 n1 c1, .slice B1 mh e1] 25)
        replace IB := IB.alloc' (.cells #[.slice A1 n1 c1, .slice B1 mh e1] 25)
        replace IA2 := IA2.alloc' (.cells #[.slice A1 n1 c1, .slice B1 mh e1] 25)
        replace IB2 := IB2.alloc' (.cells #[.slice A1 n1 c1, .slice B1 mh e1] 25)
        replace I1 := I1.alloc' (.cells #[.slice A1 n1 c1, .slice B1 mh e1] 25)
        replace J1 := J1.alloc' (.cells #[.slice A1 n1 c1, .slice B1 mh e1] 25)
        replace u0 := uPast (.cells #[.slice A1 n1 c1, .slice B1 mh e1] 25) u0
        replace u1 := uPast (.cells #[.slice A1 n1 c1, .slice B1 mh e1] 25) u1
        replace hT := hT.alloc hT.size (.cells #[.slice A1 n1 c1, .slice B1 mh e1] 25)
        have bx1 := heap_alloc_new w1 (.cells #[.slice A1 n1 c1, .slice B1 mh e1] 25)
        refine (sumE HCK.out IA IB hnc hm65 hln HhLl.out el).mono ?_
        rintro x w2 ⟨A2, c2, B2, e2, rfl, I2, J2, C2, hb2⟩
        replace IA := (IA.below hb2).more hb2.size
        replace IB := (IB.below hb2).more hb2.size
        replace IA2 := (IA2.below hb2).more hb2.size
        replace IB2 := (IB2.below hb2).more hb2.size
        replace I1 := (I1.below hb2).more hb2.size
        replace J1 := (J1.below hb2).more hb2.size
        replace u0 := dKeep hb2 u0
        replace u1 := dKeep hb2 u1
        replace bx1 := dKeep hb2 bx1
        replace hT := hT.trans (hb2.mono hT.size)
        clear hb2
        have z2a : w.heap.size < w2.heap.size := (Array.getElem?_eq_some_iff.1 u0).1
        have z2b : w.heap.size + 1 < w2.heap.size := (Array.getElem?_eq_some_iff.1 u1).1
        have z2x : w1.heap.size < w2.heap.size := (Array.getElem?_eq_some_iff.1 bx1).1
        go_wp2_with fail
        replace IA := IA.alloc' (.cells #[.slice A2 0 c2, .slice B2 0 e2] 25)
        replace IB := IB.alloc' (.cells #[.slice A2 0 c2, .slice B2 0 e2] 25)
        replace IA2 := IA2.alloc' (.cells #[.slice A2 0 c2, .slice B2 0 e2] 25)
        replace IB2 := IB2.alloc' (.cells #[.slice A2 0 c2, .slice B2 0 e2] 25)
        replace I1 := I1.alloc' (.cells #[.slice A2 0 c2, .slice B2 0 e2] 25)
        replace J1 := J1.alloc' (.cells #[.slice A2 0 c2, .slice B2 0 e2] 25)
        replace I2 := I2.alloc' (.cells #[.slice A2 0 c2, .slice B2 0 e2] 25)
        replace J2 := J2.alloc' (.cells #[.slice A2 0 c2, .slice B2 0 e2] 25)
        replace u0 := uPast (.cells #[.slice A2 0 c2, .slice B2 0 e2] 25) u0
        replace u1 := uPast (.cells #[.slice A2 0 c2, .slice B2 0 e2] 25) u1
        replace bx1 := uPast (.cells #[.slice A2 0 c2, .slice B2 0 e2] 25) bx1
        replace hT := hT.alloc hT.size (.cells #[.slice A2 0 c2, .slice B2 0 e2] 25)
        have bx2 := heap_alloc_new w2 (.cells #[.slice A2 0 c2, .slice B2 0 e2] 25)
        go_ret
        exact ⟨rfl, hT⟩
    · rcases EL with el | el
      · refine (sumE HCK.out IA IB hnc hm65 hhn HhLh.out eh).mono ?_
        rintro x w1 ⟨A1, c1, B1, e1, rfl, I1, J1, C1, hb1⟩
        replace IA := (IA.below hb1).more hb1.size
        replace IB := (IB.below hb1).more hb1.size
        replace IA2 := (IA2.below hb1).more hb1.size
        replace IB2 := (IB2.below hb1).more hb1.size
        replace u0 := dKeep hb1 u0
        replace u1 := dKeep hb1 u1
        replace hT := hT.trans (hb1.mono hT.size)
        clear hb1
        have z1a : w.heap.size < w1.heap.size := (Array.getElem?_eq_some_iff.1 u0).1
        have z1b : w.heap.size + 1 < w1.heap.size := (Array.getElem?_eq_some_iff.1 u1).1
        obtain ⟨xa, ya, fa, ra⟩ := dCells u0
        have ma := fun o => cellPast o xa
        have pa := fun o => cellPast o ya
        go_wp2_with fail
        clear xa ya fa ra ma pa
        replace IA := IA.alloc' (.cells #[.slice A1 0 c1, .slice B1 0 e1] 25)
        replace IB := IB.alloc' (.cells #[.slice A1 0 c1, .slice B1 0 e1] 25)
        replace IA2 := IA2.alloc' (.cells #[.slice A1 0 c1, .slice B1 0 e1] 25)
        replace IB2 := IB2.alloc' (.cells #[.slice A1 0 c1, .slice B1 0 e1] 25)
        replace I1 := I1.alloc' (.cells #[.slice A1 0 c1, .slice B1 0 e1] 25)
        replace J1 := J1.alloc' (.cells #[.slice A1 0 c1, .slice B1 0 e1] 25)
        replace u0 := uPast (.cells #[.slice A1 0 c1, .slice B1 0 e1] 25) u0
        replace u1 := uPast (.cells #[.slice A1 0 c1, .slice B1 0 e1] 25) u1
        replace hT := hT.alloc hT.size (.cells #[.slice A1 0 c1, .slice B1 0 e1] 25)
        have bx1 := heap_alloc_new w1 (.cells #[.slice A1 0 c1, .slice B1 0 e1] 25)
        refine (sumT HCK.out IA IB hnc hm65 hln HhLl.out HhVl.out HnLl.out Hhml.out el).mono ?_
        rintro x w2 ⟨A2, c2, B2, e2, rfl, I2, J2, C2, hb2⟩
        replace IA := (IA.below hb2).more hb2.size
        replace IB := (IB.below hb2).more hb2.size
        replace IA2 := (IA2.below hb2).more hb2.size
        replace IB2 := (IB2.below hb2).more hb2.size
        replace I1 := (I1.below hb2).more hb2.size
        replace J1 := (J1.below hb2).more hb2.size
        replace u0 := dKeep hb2 u0
        replace u1 := dKeep hb2 u1
        replace bx1 := dKeep hb2 bx1
        replace hT := hT.trans (hb2.mono hT.size)
        clear hb2
        have z2a : w.heap.size < w2.heap.size := (Array.getElem?_eq_some_iff.1 u0).1
        have z2b : w.heap.size + 1 < w2.heap.size := (Array.getElem?_eq_some_iff.1 u1).1
        have z2x : w1.heap.size < w2.heap.size := (Array.getElem?_eq_some_iff.1 bx1).1
        go_wp2_with fail
        replace IA := IA.alloc' (.cells #[.slice A2 n1 c2, .slice B2 ml e2] 25)
        replace IB := IB.alloc' (.cells #[.slice A2 n1 c2, .slice B2 ml e2] 25)
        replace IA2 := IA2.alloc' (.cells #[.slice A2 n1 c2, .slice B2 ml e2] 25)
        replace IB2 := IB2.alloc' (.cells #[.slice A2 n1 c2, .slice B2 ml e2] 25)
        replace I1 := I1.alloc' (.cells #[.slice A2 n1 c2, .slice B2 ml e2] 25)
        replace J1 := J1.alloc' (.cells #[.slice A2 n1 c2, .slice B2 ml e2] 25)
        replace I2 := I2.alloc' (.cells #[.slice A2 n1 c2, .slice B2 ml e2] 25)
        replace J2 := J2.alloc' (.cells #[.slice A2 n1 c2, .slice B2 ml e2] 25)
        replace u0 := uPast (.cells #[.slice A2 n1 c2, .slice B2 ml e2] 25) u0
        replace u1 := uPast (.cells #[.slice A2 n1 c2, .slice B2 ml e2] 25) u1
        replace bx1 := uPast (.cells #[.slice A2 n1 c2, .slice B2 ml e2] 25) bx1
        replace hT := hT.alloc hT.size (.cells #[.slice A2 n1 c2, .slice B2 ml e2] 25)
        have bx2 := heap_alloc_new w2 (.cells #[.slice A2 n1 c2, .slice B2 ml e2] 25)
        go_ret
        exact ⟨rfl, hT⟩
      · refine (sumE HCK.out IA IB hnc hm65 hhn HhLh.out eh).mono ?_
        rintro x w1 ⟨A1, c1, B1, e1, rfl, I1, J1, C1, hb1⟩
        replace IA := (IA.below hb1).more hb1.size
        replace IB := (IB.below hb1).more hb1.size
        replace IA2 := (IA2.below hb1).more hb1.size
        replace IB2 := (IB2.below hb1).more hb1.size
        replace u0 := dKeep hb1 u0
        replace u1 := dKeep hb1 u1
        replace hT := hT.trans (hb1.mono hT.size)
        clear hb1
        have z1a : w.heap.size < w1.heap.size := (Array.getElem?_eq_some_iff.1 u0).1
        have z1b : w.heap.size + 1 < w1.heap.size := (Array.getElem?_eq_some_iff.1 u1).1
        obtain ⟨xa, ya, fa, ra⟩ := dCells u0
        have ma := fun o => cellPast o xa
        have pa := fun o => cellPast o ya
        go_wp2_with fail
        clear xa ya fa ra ma pa
        replace IA := IA.alloc' (.cells #[.slice A1 0 c1, .slice B1 0 e1] 25)
        replace IB := IB.alloc' (.cells #[.slice A1 0 c1, .slice B1 0 e1] 25)
        replace IA2 := IA2.alloc' (.cells #[.slice A1 0 c1, .slice B1 0 e1] 25)
        replace IB2 := IB2.alloc' (.cells #[.slice A1 0 c1, .slice B1 0 e1] 25)
        replace I1 := I1.alloc' (.cells #[.slice A1 0 c1, .slice B1 0 e1] 25)
        replace J1 := J1.alloc' (.cells #[.slice A1 0 c1, .slice B1 0 e1] 25)
        replace u0 := uPast (.cells #[.slice A1 0 c1, .slice B1 0 e1] 25) u0
        replace u1 := uPast (.cells #[.slice A1 0 c1, .slice B1 0 e1] 25) u1
        replace hT := hT.alloc hT.size (.cells #[.slice A1 0 c1, .slice B1 0 e1] 25)
        have bx1 := heap_alloc_new w1 (.cells #[.slice A1 0 c1, .slice B1 0 e1] 25)
        refine (sumE HCK.out IA IB hnc hm65 hln HhLl.out el).mono ?_
        rintro x w2 ⟨A2, c2, B2, e2, rfl, I2, J2, C2, hb2⟩
        replace IA := (IA.below hb2).more hb2.size
        replace IB := (IB.below hb2).more hb2.size
        replace IA2 := (IA2.below hb2).more hb2.size
        replace IB2 := (IB2.below hb2).more hb2.size
        replace I1 := (I1.below hb2).more hb2.size
        replace J1 := (J1.below hb2).more hb2.size
        replace u0 := dKeep hb2 u0
        replace u1 := dKeep hb2 u1
        replace bx1 := dKeep hb2 bx1
        replace hT := hT.trans (hb2.mono hT.size)
        clear hb2
        have z2a : w.heap.size < w2.heap.size := (Array.getElem?_eq_some_iff.1 u0).1
        have z2b : w.heap.size + 1 < w2.heap.size := (Array.getElem?_eq_some_iff.1 u1).1
        have z2x : w1.heap.size < w2.heap.size := (Array.getElem?_eq_some_iff.1 bx1).1
        go_wp2_with fail
        replace IA := IA.alloc' (.cells #[.slice A2 0 c2, .slice B2 0 e2] 25)
        replace IB := IB.alloc' (.cells #[.slice A2 0 c2, .slice B2 0 e2] 25)
        replace IA2 := IA2.alloc' (.cells #[.slice A2 0 c2, .slice B2 0 e2] 25)
        replace IB2 := IB2.alloc' (.cells #[.slice A2 0 c2, .slice B2 0 e2] 25)
        replace I1 := I1.alloc' (.cells #[.slice A2 0 c2, .slice B2 0 e2] 25)
        replace J1 := J1.alloc' (.cells #[.slice A2 0 c2, .slice B2 0 e2] 25)
        replace I2 := I2.alloc' (.cells #[.slice A2 0 c2, .slice B2 0 e2] 25)
        replace J2 := J2.alloc' (.cells #[.slice A2 0 c2, .slice B2 0 e2] 25)
        replace u0 := uPast (.cells #[.slice A2 0 c2, .slice B2 0 e2] 25) u0
        replace u1 := uPast (.cells #[.slice A2 0 c2, .slice B2 0 e2] 25) u1
        replace bx1 := uPast (.cells #[.slice A2 0 c2, .slice B2 0 e2] 25) bx1
        replace hT := hT.alloc hT.size (.cells #[.slice A2 0 c2, .slice B2 0 e2] 25)
        have bx2 := heap_alloc_new w2 (.cells #[.slice A2 0 c2, .slice B2 0 e2] 25)
        go_ret
        exact ⟨rfl, hT⟩
end Go.Proofs.Ytbicdbheclldcaa
