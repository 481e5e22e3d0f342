/- The program's Check: whether code may be. -/
import Derived.Test.YtgkngimeokhhgaaGreatDoorG20
import Derived.Test.YtgkngimeokhhgaaGreatDoorG21
import Derived.Deep.WholeRow
import Derived.Test.YtgkngimeokhhgaaGreatDoorG14
import Derived.Test.YtgkngimeokhhgaaGreatDoorG15
import Derived.Test.YtgkngimeokhhgaaGreatDoorG13
namespace Go.Proofs.YtgkngimeokhhgaaGreatDoor
open Go.RowKit

abbrev ckF : Fn := .func 41
set_option maxRecDepth 100000 in
theorem ckClo_any (x : Ji) (q : Cq) (g : Nat) (w : World) (hx : x.ok) (hq : q.In w) (hg : w.heap[g]? = some q.obj) (hS : ShT w) : Calls Tryz.prog 41 #[x.val, .pointer (some ⟨g, 0, none⟩)] w fun e w' => e = .returned (.bool (!(mayJ q.R q.A q.n x))) ∧ Below w.heap.size w w' := by
  have hb0 := (Below.refl w.heap.size w).alloc (Nat.le_refl _) x.obj
  obtain ⟨W0, hW0⟩ : ∃ W, w.alloc x.obj = W := ⟨_, rfl⟩
  have HB0 : Hid (Below w.heap.size w W0) := by rw [← hW0]; exact hb0
  have hX : W0.heap[w.heap.size]? = some x.obj := by rw [← hW0]; exact newJ w x
  have hQ : W0.heap[g]? = some q.obj := by rw [← hW0]; exact pastJ _ hg
  have cM := codeMay_any x q W0 hx (hq.on HB0.out) (hS.on HB0.out)
  obtain ⟨⟨k0, k1, k2, k3, k4⟩, kf⟩ := box_cellsJ hX
  obtain ⟨q0, q1, q2, q3, _⟩ := lvCells hQ
  generalize mayJ q.R q.A q.n x = b at cM ⊢
  clear hb0 hX hQ hS hq hx hg
  go_enter Tryz.func41, Tryz.ntmps41
  go_upto_region 1 with fail
  try rw [hW0]
  go_wp2_with fail
  refine cM.mono ?_
  rintro e w1 ⟨rfl, hb⟩
  have HB1 := Lib.hid (HB0.out.trans (hb.mono HB0.out.size))
  clear hb cM
  go_wp2_with fail
  go_ret
  exact ⟨rfl, HB1.out⟩
def IdxJP (w : World) (q : Cq) (e : Ending) (w' : World) : Prop := ∃ v : Int, e = .returned (.int .i64 v) ∧ decide (0 ≤ v) = !(q.l.all (mayJ q.R q.A q.n)) ∧ Below w.heap.size w w'
set_option maxRecDepth 100000 in
set_option maxHeartbeats 4000000 in
theorem indexJ_any (q : Cq) (g : Nat) (w : World) (hq : q.In w) (hg : w.heap[g]? = some q.obj) (hn : q.n ≤ 1000000) (hS : ShT w) : Calls Tryz.prog 68 #[.slice q.P q.n q.c, .func ckF #[] #[.pointer (some ⟨g, 0, none⟩)]] w (IdxJP w q) := by
  have HN := Lib.hid hq.len
  have HIN := Lib.hid hq
  have HG := Lib.hid hg
  have HS := Lib.hid hS
  clear hq hg hS
  go_enter Tryz.func68, Tryz.ntmps68
  go_wp2
  go_loopw [8] (fun i wr => ∃ k : Nat, k ≤ q.n ∧ i = .int .i64 k ∧ Hid (∀ j x, j < k → q.l[j]? = some x → mayJ q.R q.A q.n x = true) ∧ Hid (Below w.heap.size w wr)) (fun i _ => q.n - (intOf i).toNat)
  case atStart => exact ⟨0, Nat.zero_le _, rfl, fun j x hj => absurd hj (by omega), Below.refl _ _⟩
  case round =>
    obtain ⟨k, hk, rfl, HA, HB⟩ := hrel
    by_cases hlt : k < q.n
    · obtain ⟨b, off, y, hA, hbl, HX, ⟨y0, y1, y2, y3, y4⟩, hyo⟩ := ((HIN.out.on HB.out).ins).at_ hlt
      have hbw : w.heap.size ≤ wr.heap.size := HB.out.size
      have hk0 : (0 : Int) ≤ k := by omega
      have hk1 : (k : Int) < q.n := by omega
      have cB := ckClo_any y q g wr hyo (HIN.out.on HB.out) (keep_b HB.out HG.out) (HS.out.on HB.out)
      rw [hA]
      clear hyo
      by_cases hm : mayJ q.R q.A q.n y = true
      · rw [hm] at cB
        have HA2 : Hid (∀ j z, j < k + 1 → q.l[j]? = some z → mayJ q.R q.A q.n z = true) := fun j z hj hz => by
          by_cases e : j = k
          · subst e
            rw [HX.out] at hz
            injection hz with hz
            subst hz
            exact hm
          · exact HA.out j z (by omega) hz
        clear hm HA
        go_wp2_with (go_at_call 41; (with_reducible refine cB.mono ?_); rintro e w2 ⟨rfl, hb2⟩)
        go_roundw
        case rel => exact ⟨k + 1, by omega, by go_num, HA2, HB.out.trans (hb2.mono hbw)⟩
        case measure => simp [intOf]; omega
      · have hmf : mayJ q.R q.A q.n y = false := by simpa using hm
        rw [hmf] at cB
        have HF : Hid (decide ((0 : Int) ≤ (k : Int)) = !(q.l.all (mayJ q.R q.A q.n))) := by
          have : q.l.all (mayJ q.R q.A q.n) = false := by
            rw [List.all_eq_false]
            exact ⟨y, List.mem_of_getElem? HX.out, hm⟩
          unfold Hid
          rw [this]
          simp
        clear hm hmf HA
        go_wp2_with (go_at_call 41; (with_reducible refine cB.mono ?_); rintro e w2 ⟨rfl, hb2⟩)
        go_ret
        exact ⟨k, rfl, HF.out, HB.out.trans (hb2.mono hbw)⟩
    · have hkn : ¬ (k : Int) < (q.n : Int) := by omega
      have HF : Hid (decide ((0 : Int) ≤ -1) = !(q.l.all (mayJ q.R q.A q.n))) := by
        have : q.l.all (mayJ q.R q.A q.n) = true := by
          rw [List.all_eq_true]
          intro t ht
          obtain ⟨j, hj, e⟩ := List.getElem_of_mem ht
          exact HA.out j t (by have := HN.out; omega) (by rw [List.getElem?_eq_getElem hj, e])
        unfold Hid
        rw [this]
        decide
      clear HA hlt
      go_wp2
      go_ret
      exact ⟨-1, rfl, HF.out, HB.out⟩
set_option maxRecDepth 100000 in
theorem someJ_any (q : Cq) (g : Nat) (w : World) (hq : q.In w) (hg : w.heap[g]? = some q.obj) (hn : q.n ≤ 1000000) (hS : ShT w) : Calls Tryz.prog 40 #[.slice q.P q.n q.c, .func ckF #[] #[.pointer (some ⟨g, 0, none⟩)]] w fun e w' => e = .returned (.bool (!(q.l.all (mayJ q.R q.A q.n)))) ∧ Below w.heap.size w w' := by
  have cI := indexJ_any q g w hq hg hn hS
  clear hq hg hS
  go_enter Tryz.func40, Tryz.ntmps40
  go_wp2_with (go_at_call 68; (with_reducible refine cI.mono ?_); rintro e w2 ⟨v, rfl, hv, hb2⟩; have HV := Lib.hid hv; clear hv)
  go_ret
  exact ⟨by rw [← HV.out]; rfl, hb2⟩
/-- the numbers of code may be -/
def okHB (c : Cd) : Bool := decide c.okH
set_option maxRecDepth 100000 in
theorem counted_any (q : Cq) (w : World) (hq : q.In w) : Calls Tryz.prog 39 #[q.val] w fun e w' => e = .returned (.bool (okHB q.cd)) ∧ Below w.heap.size w w' := by
  have HL : Hid (okHB q.cd = decide (0 ≤ q.R ∧ q.R ≤ 128 ∧ 0 ≤ q.A ∧ q.A ≤ 128 ∧ 0 ≤ q.I ∧ q.I ≤ q.A ∧ 1 ≤ q.n ∧ q.n ≤ 4096)) := by
    unfold Hid okHB Cd.okH
    rw [show q.cd.l.length = q.n from hq.len]; rfl
  obtain ⟨R, A, I, P, n, c, l⟩ := q
  have hX := heap_alloc_new w (Cq.obj ⟨R, A, I, P, n, c, l⟩)
  obtain ⟨k0, k1, k2, k3, _⟩ := lvCells hX
  have HB := Lib.hid (lvBelow w (Cq.obj ⟨R, A, I, P, n, c, l⟩))
  clear hX hq
  dsimp only at HL
  go_enter Tryz.func39, Tryz.ntmps39
  go_wp2_with fail
  all_goals
    go_ret
    refine ⟨ret_boolJ2 ?_, HB.out⟩
    rw [HL.out]
    symm
    first | (rw [decide_eq_false_iff_not]; omega) | (rw [decide_eq_decide]; omega)
set_option maxRecDepth 100000 in
set_option maxHeartbeats 4000000 in
theorem codeCheck_any (q : Cq) (w : World) (hq : q.In w) (hS : ShT w) : Calls Tryz.prog 28 #[q.val] w (CkP q w) := by
  have HIN := Lib.hid hq
  have hb0 := lvBelow w q.obj
  obtain ⟨W0, hW0⟩ : ∃ W, w.alloc q.obj = W := ⟨_, rfl⟩
  have HB0 : Hid (Below w.heap.size w W0) := by rw [← hW0]; exact hb0
  have HQ0 : Hid (W0.heap[w.heap.size]? = some q.obj) := by rw [← hW0]; exact newQ w q
  have HS := Lib.hid hS
  have cK := counted_any q W0 (hq.on HB0.out)
  have hlen : q.cd.l.length = q.n := hq.len
  obtain ⟨q0, q1, q2, q3, _⟩ := lvCells HQ0.out
  clear hb0 hq hS
  by_cases h1 : q.cd.okH
  case neg =>
    have HE : Hid (q.cd.e = 1) := Cd.may_head h1
    rw [show okHB q.cd = false from decide_eq_false h1] at cK
    clear h1 hlen
    go_enter Tryz.func28, Tryz.ntmps28
    go_upto_region 1 with fail
    try rw [hW0]
    go_wp2_with fail
    refine cK.mono ?_
    rintro e w1 ⟨rfl, hb⟩
    have HB1 := Lib.hid (HB0.out.trans (hb.mono HB0.out.size))
    clear hb cK q0 q1 q2 q3
    go_wp2_with fail
    go_ret
    exact ⟨by rw [HE.out]; rfl, HB1.out⟩
  have hn : 1 ≤ q.n ∧ q.n ≤ 4096 := by obtain ⟨_, _, _, _, _, _, g6, g7⟩ := h1; omega
  rw [show okHB q.cd = true from decide_eq_true h1] at cK
  by_cases h2 : q.cd.l.all (mayJ q.R q.A q.n) = true
  case neg =>
    have h2f : q.l.all (mayJ q.R q.A q.n) = false := eq_false_of_ne_true h2
    have HE : Hid (q.cd.e = 1) := Cd.may_all (by rw [hlen]; exact h2f)
    have HAF := Lib.hid h2f
    clear h1 h2 hlen h2f
    go_enter Tryz.func28, Tryz.ntmps28
    go_upto_region 1 with fail
    try rw [hW0]
    go_wp2_with fail
    refine cK.mono ?_
    rintro e w1 ⟨rfl, hb⟩
    have HB1 := Lib.hid (HB0.out.trans (hb.mono HB0.out.size))
    have HQ1 := Lib.hid (keep_b hb HQ0.out)
    have cC := someJ_any q w.heap.size w1 (HIN.out.on HB1.out) HQ1.out (by omega) (HS.out.on HB1.out)
    rw [HAF.out] at cC
    clear hb cK q0 q1 q2 q3
    obtain ⟨q0, q1, q2, q3, _⟩ := lvCells HQ1.out
    go_wp2_with fail
    refine cC.mono ?_
    rintro e w2 ⟨rfl, hb⟩
    have HB2 := Lib.hid (HB1.out.trans (hb.mono HB1.out.size))
    clear hb cC q0 q1 q2 q3
    go_wp2_with fail
    go_ret
    exact ⟨by rw [HE.out]; rfl, HB2.out⟩
  obtain ⟨k, hk⟩ : ∃ k, q.n = k + 1 := ⟨q.n - 1, by omega⟩
  have hkl : k < q.cd.l.length := by omega
  have hx : q.cd.l[q.cd.l.length - 1]? = some q.cd.l[k] := by rw [show q.cd.l.length - 1 = k by omega, List.getElem?_eq_getElem hkl]
  have HE := Lib.hid (Cd.may_last h1 (by rw [hlen]; exact h2) hx)
  have HAT : Hid (q.l.all (mayJ q.R q.A q.n) = true) := h2
  have HXK : Hid (q.l[k]? = some q.cd.l[k]) := List.getElem?_eq_getElem hkl
  generalize q.cd.l[k] = y at HE HXK
  have HK := Lib.hid hk
  clear h1 h2 hx hkl hlen hk
  go_enter Tryz.func28, Tryz.ntmps28
  go_upto_region 1 with fail
  try rw [hW0]
  go_wp2_with fail
  refine cK.mono ?_
  rintro e w1 ⟨rfl, hb⟩
  have HB1 := Lib.hid (HB0.out.trans (hb.mono HB0.out.size))
  have HQ1 := Lib.hid (keep_b hb HQ0.out)
  have cC := someJ_any q w.heap.size w1 (HIN.out.on HB1.out) HQ1.out (by omega) (HS.out.on HB1.out)
  rw [HAT.out] at cC
  clear hb cK q0 q1 q2 q3
  obtain ⟨q0, q1, q2, q3, _⟩ := lvCells HQ1.out
  go_wp2_with fail
  refine cC.mono ?_
  rintro e w2 ⟨rfl, hb⟩
  have HB2 := Lib.hid (HB1.out.trans (hb.mono HB1.out.size))
  have HQ2 := Lib.hid (keep_b hb HQ1.out)
  obtain ⟨b, off, y2, hA, hbl, HX, ⟨y0, y1, y3, y4, y5⟩, hyo⟩ := ((HIN.out.on HB2.out).ins).at_ (k := k) (by have := HK.out; omega)
  obtain rfl : y = y2 := by have := HX.out; rw [HXK.out] at this; exact Option.some.inj this
  clear hb cC q0 q1 q2 q3 hbl hyo y1 y3 y4 y5
  obtain ⟨q0, q1, q2, q3, _⟩ := lvCells HQ2.out
  rw [hA] at q3
  have hi : IntKind.i64.wrap ((q.n : Int) - 1) = (k : Int) := by
    have := HK.out
    rw [show (q.n : Int) - 1 = (k : Int) by omega]
    rw [wrap_eq]
    exact IntWalk.wrap64_in _ ⟨by omega, by omega⟩
  have hk0 : (0 : Int) ≤ (k : Int) := by omega
  have hk1 : (k : Int) < (q.n : Int) := by have := HK.out; omega
  clear hA HX HXK
  go_upto_region 4 with fail
  by_cases e0 : y.op = 0
  · have d0 : (y.op != 0) = false := by simp [e0]
    have HR : Hid (q.cd.e = 0) := by unfold Hid; rw [HE.out, if_pos (.inl e0)]
    clear e0 HE
    go_wp2_with fail
    go_ret
    exact ⟨by rw [HR.out]; rfl, HB2.out⟩
  · have d0 : (y.op != 0) = true := by simpa using e0
    by_cases e1 : y.op = 10
    · have d1 : (y.op != 10) = false := by simp [e1]
      have HR : Hid (q.cd.e = 0) := by unfold Hid; rw [HE.out, if_pos (.inr e1)]
      clear e0 e1 HE
      go_wp2_with fail
      go_ret
      exact ⟨by rw [HR.out]; rfl, HB2.out⟩
    · have d1 : (y.op != 10) = true := by simpa using e1
      have HR : Hid (q.cd.e = 1) := by unfold Hid; rw [HE.out, if_neg (by omega)]
      clear e0 e1 HE
      go_wp2_with fail
      go_ret
      exact ⟨by rw [HR.out]; rfl, HB2.out⟩
end Go.Proofs.YtgkngimeokhhgaaGreatDoor
/- The program's Reach and Set. -/
namespace Go.Proofs.YtgkngimeokhhgaaGreatDoor
open Go.RowKit

theorem may_no {c : Cd} (h : c.may = false) : c.e = 1 ∧ reachC c = [] ∧ setC c = [] ∧ unsetC c = [] ∧ loopsC c = [] := by
  refine ⟨Cd.e_no h, ?_, ?_, ?_, ?_⟩
  · unfold reachC; rw [h]; rfl
  · unfold setC; rw [h]; rfl
  · unfold unsetC; rw [h]; rfl
  · unfold loopsC; rw [h]; rfl
/-- lists of the call's own, in a slice of the call's own: each is put once -/
structure SetR (w : World) (base g : Nat) (rs : List RowN) : Prop where
  lo : base ≤ g
  blk : w.heap[g]? = some (.cells (rs.map RowN.hdr).toArray 36 (0, 0))
  ins : ∀ r ∈ rs, OwnI w base 3 r.A r.c r.L
section
variable {w w' : World} {base g : Nat} {rs : List RowN}
theorem SetR.made (w : World) (base n : Nat) (hb : base ≤ w.heap.size) : SetR (w.alloc (.cells (Array.replicate n (Value.slice none 0 0)) 36)) base w.heap.size (List.replicate n ⟨none, 0, []⟩) := by
  refine ⟨hb, ?_, fun r hr => ?_⟩
  · rw [heap_alloc_new, List.map_replicate]
    simp [RowN.hdr]
  · rw [(List.mem_replicate.1 hr).2]
    exact OwnI.nil_ _ _ _
theorem SetR.on (h : SetR w base g rs) (hb : Below w.heap.size w w') : SetR w' base g rs := ⟨h.lo, keep_b hb h.blk, fun r hr => (h.ins r hr).below hb (Nat.le_refl _)⟩
theorem SetR.at_ {i : Nat} {r : RowN} (h : SetR w base g rs) (hr : rs[i]? = some r) : w.cell? ⟨g, i, none⟩ = some r.hdr ∧ w.frozen? ⟨g, i, none⟩ = false :=
  blk_cell h.blk (by rw [List.getElem?_map, hr]; rfl)
theorem SetR.put (h : SetR w base g rs) (i : Nat) {r : RowN} (hr : OwnI w base 3 r.A r.c r.L) : SetR (w.setCell ⟨g, i, none⟩ r.hdr) base g (rs.set i r) := by
  refine ⟨h.lo, ?_, fun s hs => ?_⟩
  · rw [List.map_set]
    exact set_j h.blk _
  · rcases List.mem_or_eq_of_mem_set hs with hs | hs
    · exact (h.ins s hs).other h.blk (by decide) i _
    · rw [hs]; exact hr.other h.blk (by decide) i _
theorem SetR.reads (h : SetR w base g rs) : IntsLL w w.heap.size (some ⟨g, 0, none⟩) rs.length (rs.map (·.L)) := by
  refine ⟨by simp, fun _ => ⟨g, 0, rfl, lt_of_heap h.blk, fun k L hL => ?_⟩⟩
  rw [List.getElem?_map, Option.map_eq_some_iff] at hL
  obtain ⟨r, hr, rfl⟩ := hL
  have hO := h.ins r (List.mem_of_getElem? hr)
  rw [Nat.zero_add]
  exact ⟨r.A, r.c, (h.at_ hr).1, OwnI.len_cap hO, hO.ints⟩
end
/-- the lists of the first k are put -/
def SetK (c : Cd) (k : Nat) (rs : List RowN) : Prop := rs.length = c.l.length ∧ ∀ (j : Nat) (r : RowN), j < k → rs[j]? = some r → r.L = setN c j
theorem SetK.start (c : Cd) {n : Nat} (hn : c.l.length = n) : SetK c 0 (List.replicate n ⟨none, 0, []⟩) := ⟨by simp [hn], fun j r hj => absurd hj (by omega)⟩
theorem SetK.put {c : Cd} {k : Nat} {rs : List RowN} {r : RowN} (h : SetK c k rs) (hr : r.L = setN c k) : SetK c (k + 1) (rs.set k r) := by
  refine ⟨by rw [List.length_set]; exact h.1, fun j s hj hs => ?_⟩
  by_cases e : k = j
  · subst e
    have hlt : k < rs.length := by have := (List.getElem?_eq_some_iff.1 hs).1; rwa [List.length_set] at this
    rw [List.getElem?_set_self hlt] at hs
    injection hs with hs
    rw [← hs]; exact hr
  · rw [List.getElem?_set_ne e] at hs
    exact h.2 j s (by omega) hs
theorem SetK.done {c : Cd} {rs : List RowN} (h : SetK c c.l.length rs) : rs.map (·.L) = setsN c := by
  apply List.ext_getElem?
  intro j
  unfold setsN
  by_cases hj : j < c.l.length
  · have hjr : j < rs.length := by rw [h.1]; exact hj
    rw [List.getElem?_map, List.getElem?_map, List.getElem?_range hj, List.getElem?_eq_getElem hjr]
    simp only [Option.map_some, Option.some.injEq]
    exact h.2 j _ hj (List.getElem?_eq_getElem hjr)
  · rw [List.getElem?_eq_none (by simp [h.1]; omega), List.getElem?_eq_none (by simp; omega)]
end Go.Proofs.YtgkngimeokhhgaaGreatDoor
/- The program's places: those of the instructions that a closure tells. -/
namespace Go.Proofs.YtgkngimeokhhgaaGreatDoor
open Go.RowKit

def PlcP (p : Nat → Bool) (n : Nat) (w : World) (e : Ending) (w' : World) : Prop := ∃ A c, e = .returned (.slice A (flN p n).length c) ∧ OwnI w' w.heap.size 3 A c (flN p n) ∧ Below w.heap.size w w'

set_option maxRecDepth 100000 in
set_option maxHeartbeats 8000000 in
theorem places_unset (q : Cq) (p0 p1 : Value) (p : Nat → Bool) (w : World) (hq : q.In w) (hn : q.n ≤ 4096) (hC : ∀ W, Below w.heap.size w W → ∀ (i : Nat) (x : Ji), q.l[i]? = some x → Calls Tryz.prog 73 #[.int .i64 (i : Int), x.val, p0, p1] W fun e w' => e = .returned (.bool (p i)) ∧ Below W.heap.size W w') :
    Calls Tryz.prog 72 #[q.val, .func (.func 73) #[] #[p0, p1]] w (PlcP p q.n w) := by
  obtain ⟨R, A, I, P, n, c, l⟩ := q
  obtain ⟨i1, hi1, hy0, hy1, hy2⟩ := info_parts infoInt
  have HQ := Lib.hid hq
  have HC := Lib.hid hC
  have HLN : Hid (l.length = n) := hq.len
  have hn : n ≤ 4096 := hn
  obtain ⟨W0, hW0⟩ : ∃ W, w.alloc (Cq.obj ⟨R, A, I, P, n, c, l⟩) = W := ⟨_, rfl⟩
  have HB0 : Hid (Below w.heap.size w W0) := by rw [← hW0]; exact lvBelow w _
  have HX0 : Hid (W0.heap[w.heap.size]? = some (Cq.obj ⟨R, A, I, P, n, c, l⟩)) := by rw [← hW0]; exact heap_alloc_new w _
  obtain ⟨k0, k1, k2, k3, _⟩ := lvCells HX0.out
  clear hq hC
  go_enter Tryz.func72, Tryz.ntmps72
  go_upto_region 2 with fail
  try rw [hW0]
  clear hW0
  go_wp2_with fail
  clear k0 k1 k2 k3
  go_loopw [5, 11] (fun v a wr => ∃ (i m : Nat) (A' : Option Addr) (c' : Nat), i ≤ n ∧ a = .int .i64 i ∧ v = .slice A' m c' ∧ m ≤ i ∧ Hid ((flN p i).length = m) ∧ Hid (OwnI wr w.heap.size 3 A' c' (flN p i)) ∧ Hid (Below w.heap.size w wr)) (fun _ a _ => n - (intOf a).toNat)
  case atStart => exact ⟨0, 0, none, 0, Nat.zero_le _, rfl, rfl, Nat.le_refl _, rfl, OwnI.nil_ _ _ _, HB0⟩
  case round =>
    obtain ⟨i, m, A', c', hi, rfl, rfl, hmi, HPL, HO, HB⟩ := hrel
    by_cases hin : i < n
    case neg =>
      obtain rfl : i = n := by omega
      go_wp2_with fail
      go_ret
      exact ⟨A', c', by rw [HPL.out]; rfl, HO.out, HB.out⟩
    have hii : (i : Int) < (n : Int) := by omega
    obtain ⟨b, off, x, hA, hbb, HX, ⟨y0, y1, y2, y3, y4⟩, hxo⟩ := ((HQ.out.on HB.out).ins).at_ hin
    subst hA
    obtain ⟨W4, hW4⟩ : ∃ W, wr.alloc x.obj = W := ⟨_, rfl⟩
    obtain ⟨g4, hg4⟩ : ∃ z, wr.heap.size = z := ⟨_, rfl⟩
    have hb4 : Below wr.heap.size wr W4 := by rw [← hW4]; exact lvBelow _ _
    have HB4 := Lib.hid (HB.out.trans (hb4.mono HB.out.size))
    have HO4 := Lib.hid (HO.out.below hb4 (Nat.le_refl _))
    have HY4 : Hid (W4.heap[g4]? = some x.obj) := by rw [← hW4, ← hg4]; exact newJ wr x
    have HWQ := Lib.hid hW4
    have hCX := HC.out W4 HB4.out i x HX.out
    clear hbb hxo hb4 hW4 HX
    go_upto_region 5 with fail
    try rw [HWQ.out]
    try rw [hg4]
    clear hg4 HWQ y0 y1 y2 y3 y4
    obtain ⟨⟨y0, y1, y2, y3, y4⟩, _⟩ := box_cellsJ HY4.out
    go_wp2_with fail
    (with_reducible refine hCX.mono ?_)
    rintro e w5 ⟨rfl, hb5⟩
    have HB5 := Lib.hid (HB4.out.trans (hb5.mono HB4.out.size))
    have HO5 := Lib.hid (HO4.out.below hb5 (Nat.le_refl _))
    clear hb5 hCX y0 y1 y2 y3 y4
    cases hp : p i with
    | false =>
      have HFL : Hid (flN p (i + 1) = flN p i) := flN_no hp
      clear hp
      go_wp2_with fail
      go_roundw
      case rel => exact ⟨i + 1, m, A', c', by omega, by go_num, rfl, by omega, by rw [HFL.out]; exact HPL, by rw [HFL.out]; exact HO5, HB5⟩
      case measure => simp [intOf]; omega
    | true =>
      have HFL : Hid (flN p (i + 1) = flN p i ++ [(i : Int)]) := flN_yes hp
      clear hp
      have hsz := HB5.out.size
      have hle : m + 1 ≤ 1000000 := by omega
      have HB6 := Lib.hid (HB5.out.alloc hsz (.cells #[.int .i64 i] 3))
      have HO6 := Lib.hid (HO5.out.alloc (.cells #[.int .i64 i] 3))
      go_wp2_with (at_builtin; refine wpList_appendInts _ rfl (.tmp 20) (.tmp 22) 36 rfl w.heap.size 3 i1 Tryz.underlying36 hi1 hy0 hy1 hy2 A' (some ⟨w5.heap.size, 0, none⟩) c' 1 1 (w5.heap.size + 1) m (m + 1) (flN p i) [(i : Int)] rfl rfl HO6.out HPL.out rfl (src_new w5 ⟨by omega, by omega⟩) hle (by simp; omega) ?_; intro A8 c8 w8 hO8 hG8; have HO8 := Lib.hid hO8; have HB8 := Lib.hid (below_app HB6.out hG8 HO6.out HPL.out (by simp; omega)); clear hO8 hG8)
      go_roundw
      case rel => exact ⟨i + 1, m + 1, A8, c8, by omega, by go_num, rfl, by omega, by unfold Hid; rw [HFL.out, List.length_append, HPL.out]; rfl, by rw [HFL.out]; exact HO8, HB8⟩
      case measure => simp [intOf]; omega

end Go.Proofs.YtgkngimeokhhgaaGreatDoor
/- slices.ContainsFunc over the closures of valid: whether one of a list's numbers is such. -/
namespace Go.Proofs.YtgkngimeokhhgaaGreatDoor
open Go.RowKit

set_option maxRecDepth 100000 in
set_option maxHeartbeats 4000000 in
theorem index_unset (A : Option Addr) (n c : Nat) (xs : List Int) (p0 p1 : Value) (p : Int → Bool) (w : World) (hI : Ints w w.heap.size A n xs) (hn : n ≤ 1000000) (hC : ∀ W, Below w.heap.size w W → ∀ x ∈ xs, Calls Tryz.prog 76 #[.int .i64 x, p0, p1] W fun e w' => e = .returned (.bool (p x)) ∧ Below W.heap.size W w') :
    Calls Tryz.prog 91 #[.slice A n c, .func (.func 76) #[] #[p0, p1]] w fun e w' => ∃ v : Int, e = .returned (.int .i64 v) ∧ decide (0 ≤ v) = xs.any p ∧ Below w.heap.size w w' := by
  have HN : Hid (xs.length = n) := hI.1
  have HI := Lib.hid hI
  have HC := Lib.hid hC
  clear hI hC
  go_enter Tryz.func91, Tryz.ntmps91
  go_wp2
  go_loopw [8] (fun i wr => ∃ k : Nat, k ≤ n ∧ i = .int .i64 k ∧ Hid (∀ j x, j < k → xs[j]? = some x → p x = false) ∧ Hid (Below w.heap.size w wr)) (fun i _ => n - (intOf i).toNat)
  case atStart => exact ⟨0, Nat.zero_le _, rfl, fun j x hj => absurd hj (by omega), Below.refl _ _⟩
  case round =>
    obtain ⟨k, hk, rfl, HA, HB⟩ := hrel
    by_cases hlt : k < n
    · obtain ⟨b, off, y, hA, hbl, hx, y0⟩ := (HI.out.below HB.out).at_ hlt
      have hbw : w.heap.size ≤ wr.heap.size := HB.out.size
      have hk0 : (0 : Int) ≤ k := by omega
      have hk1 : (k : Int) < n := by omega
      have cB := HC.out wr HB.out y (List.mem_of_getElem? hx)
      have HX := Lib.hid hx
      rw [hA]
      clear hx
      cases hm : p y with
      | false =>
        rw [hm] at cB
        have HA2 : Hid (∀ j z, j < k + 1 → xs[j]? = some z → p z = false) := fun j z hj hz => by
          by_cases e : j = k
          · subst e
            rw [HX.out] at hz
            injection hz with hz
            subst hz
            exact hm
          · exact HA.out j z (by omega) hz
        clear hm HA
        go_wp2_with (go_at_call 76; (with_reducible refine cB.mono ?_); rintro e w2 ⟨rfl, hb2⟩)
        go_roundw
        case rel => exact ⟨k + 1, by omega, by go_num, HA2, HB.out.trans (hb2.mono hbw)⟩
        case measure => simp [intOf]; omega
      | true =>
        rw [hm] at cB
        have HF : Hid (decide ((0 : Int) ≤ (k : Int)) = xs.any p) := by
          have : xs.any p = true := List.any_eq_true.2 ⟨y, List.mem_of_getElem? HX.out, hm⟩
          unfold Hid
          rw [this]
          simp
        clear hm HA
        go_wp2_with (go_at_call 76; (with_reducible refine cB.mono ?_); rintro e w2 ⟨rfl, hb2⟩)
        go_ret
        exact ⟨k, rfl, HF.out, HB.out.trans (hb2.mono hbw)⟩
    · have hkn : ¬ (k : Int) < (n : Int) := by omega
      have HF : Hid (decide ((0 : Int) ≤ -1) = xs.any p) := by
        have : xs.any p = false := by
          rw [List.any_eq_false]
          intro t ht
          obtain ⟨j, hj, e⟩ := List.getElem_of_mem ht
          rw [HA.out j t (by have := HN.out; omega) (by rw [List.getElem?_eq_getElem hj, e])]
          decide
        unfold Hid
        rw [this]
        decide
      clear HA hlt
      go_wp2
      go_ret
      exact ⟨-1, rfl, HF.out, HB.out⟩
set_option maxRecDepth 100000 in
theorem some_unset (A : Option Addr) (n c : Nat) (xs : List Int) (p0 p1 : Value) (p : Int → Bool) (w : World) (hI : Ints w w.heap.size A n xs) (hn : n ≤ 1000000) (hC : ∀ W, Below w.heap.size w W → ∀ x ∈ xs, Calls Tryz.prog 76 #[.int .i64 x, p0, p1] W fun e w' => e = .returned (.bool (p x)) ∧ Below W.heap.size W w') :
    Calls Tryz.prog 74 #[.slice A n c, .func (.func 76) #[] #[p0, p1]] w fun e w' => e = .returned (.bool (xs.any p)) ∧ Below w.heap.size w w' := by
  have cI := index_unset A n c xs p0 p1 p w hI hn hC
  clear hI hC
  go_enter Tryz.func74, Tryz.ntmps74
  go_wp2_with (go_at_call 91; (with_reducible refine cI.mono ?_); rintro e w2 ⟨v, rfl, hv, hb2⟩; have HV := Lib.hid hv; clear hv)
  go_ret
  exact ⟨by rw [← HV.out]; rfl, hb2⟩

end Go.Proofs.YtgkngimeokhhgaaGreatDoor
/- The program's Unset and Loops. -/
namespace Go.Proofs.YtgkngimeokhhgaaGreatDoor
open Go.RowKit

set_option maxRecDepth 100000 in
/-- a register is not set ahead of an instruction -/
theorem unsetIn_any (gA bA bx i k n : Nat) (rows : List (List Bool)) (r : List Bool) (w : World) (hA : w.heap[bA]? = some (.cells #[.slice (some ⟨gA, 0, none⟩) n n] 109 (0, 0))) (hX : w.heap[bx]? = some (.cells #[.int .i64 (i : Int)] 3 (0, 0))) (hR : RwB w gA rows) (hl : ∀ s ∈ rows, s.length = 128) (hr : rows[i]? = some r) (hin : i < n) (hk : k < 128) :
    Calls Tryz.prog 76 #[.int .i64 (k : Int), .pointer (some ⟨bA, 0, none⟩), .pointer (some ⟨bx, 0, none⟩)] w fun e w' => e = .returned (.bool (!(bitR r k))) ∧ Below w.heap.size w w' := by
  obtain ⟨a0, _⟩ := one_cell hA
  obtain ⟨x0, _⟩ := one_cell hX
  have hr8 := hl r (List.mem_of_getElem? hr)
  obtain ⟨v, hv⟩ : ∃ v, r[k]? = some v := ⟨_, List.getElem?_eq_getElem (by omega)⟩
  have c0 := hR.cell hl hr hv
  rw [bit_some hv]
  have i0 : (0 : Int) ≤ (i : Int) := by omega
  have i1 : (i : Int) < (n : Int) := by omega
  have k0 : (0 : Int) ≤ (k : Int) := by omega
  have k1 : (k : Int) < 128 := by omega
  clear hA hX hR hl hr hr8 hv
  go_enter Tryz.func76, Tryz.ntmps76
  go_wp2_with fail
  go_ret
  exact ⟨rfl, Below.refl _ _⟩
theorem unsetB_any {c : Cd} (hm : c.may = true) {o : List Bool} {rows : List (List Bool)} (h : FolD c o rows) {i : Nat} {x : Ji} {r : List Bool} {v : Bool} (hx : c.l[i]? = some x) (hr : rows[i]? = some r) (hv : (reachB c (-1))[i]? = some v) : unsetB c i = (v && (readsJ x).any fun n => !(bitR r n.toNat)) := by
  refine unsetB_of hx ?_
  have hreg := reads_in ((Cd.may_parts hm).2.1 x (List.mem_of_getElem? hx))
  rw [Bool.and_eq_true, List.any_eq_true, reachB_iff hv]
  have key : ∀ n ∈ readsJ x, ((!(bitR r n.toNat)) = true ↔ n ∉ setN c i) := by
    intro n hn
    have h1 := h.bit i n.toNat r hr
    rw [Int.toNat_of_nonneg (hreg n hn).1] at h1
    rw [← h1]
    cases bitR r n.toNat <;> simp
  constructor
  · rintro ⟨h1, n, hn, h2⟩
    exact ⟨h1, n, hn, (key n hn).1 h2⟩
  · rintro ⟨h1, n, hn, h2⟩
    exact ⟨h1, n, hn, (key n hn).2 h2⟩
set_option maxRecDepth 100000 in
set_option maxHeartbeats 8000000 in
/-- an instruction asks for what is not set -/
theorem unsetAt_any (cd : Cd) (gR gA bR bA i n : Nat) (rows : List (List Bool)) (x : Ji) (w : World) (hm : cd.may = true) (hB : w.heap[bR]? = some (.cells #[.slice (some ⟨gR, 0, none⟩) n n] 108 (0, 0))) (hA : w.heap[bA]? = some (.cells #[.slice (some ⟨gA, 0, none⟩) n n] 109 (0, 0))) (hR : BoB w gR (reachB cd (-1))) (hW : RwB w gA rows) (hD : FolD cd (reachB cd (-1)) rows) (hx : cd.l[i]? = some x) (hxo : x.ok) (hn : cd.l.length = n) (hS : ShT w) :
    Calls Tryz.prog 73 #[.int .i64 (i : Int), x.val, .pointer (some ⟨bR, 0, none⟩), .pointer (some ⟨bA, 0, none⟩)] w fun e w' => e = .returned (.bool (unsetB cd i)) ∧ Below w.heap.size w w' := by
  have hin : i < n := by rw [← hn]; exact (List.getElem?_eq_some_iff.1 hx).1
  obtain ⟨r, hr⟩ : ∃ r, rows[i]? = some r := ⟨_, List.getElem?_eq_getElem (by rw [hD.la, hn]; exact hin)⟩
  obtain ⟨v, hv⟩ := reachB_get (c := cd) (-1) (i := i) (by rw [hn]; exact hin)
  rw [unsetB_any hm hD hx hr hv]
  obtain ⟨W0, hW0⟩ : ∃ W, (w.alloc (.cells #[.int .i64 (i : Int)] 3)).alloc x.obj = W := ⟨_, rfl⟩
  obtain ⟨g0, hg0⟩ : ∃ z, w.heap.size = z := ⟨_, rfl⟩
  have hb1 := lvBelow w (.cells #[.int .i64 (i : Int)] 3)
  have hb2 := lvBelow (w.alloc (.cells #[.int .i64 (i : Int)] 3)) x.obj
  have h1 := keep_b hb2 (heap_alloc_new w (.cells #[.int .i64 (i : Int)] 3))
  have h2 := newJ (w.alloc (.cells #[.int .i64 (i : Int)] 3)) x
  have hb := hb1.trans (hb2.mono hb1.size)
  rw [hW0] at h1 h2 hb
  simp only [World.size_alloc] at h2
  rw [hg0] at h1 h2
  have HB := Lib.hid hb
  have H1 := Lib.hid h1
  have H2 := Lib.hid h2
  have HBR := Lib.hid hB
  have HBA := Lib.hid hA
  have HR := Lib.hid hR
  have HW := Lib.hid hW
  have HD := Lib.hid hD
  have HRI := Lib.hid hr
  have HXO := Lib.hid hxo
  have HS := Lib.hid hS
  have HV := Lib.hid hv
  have HIN := Lib.hid hin
  have hreg : Hid (∀ z ∈ readsJ x, 0 ≤ z ∧ z < 128) := fun z hz => by
    have h1 := reads_in ((Cd.may_parts hm).2.1 x (List.mem_of_getElem? hx)) z hz
    have h2 := (Cd.may_parts hm).1.2.1
    omega
  have i0 : (0 : Int) ≤ (i : Int) := by omega
  have i1 : (i : Int) < (n : Int) := by omega
  clear hb1 hb2 h1 h2 hb hB hA hR hW hD hr hxo hS hv hx hm hin
  go_enter Tryz.func73, Tryz.ntmps73
  go_upto_region 1 with fail
  try rw [hW0]
  try rw [hg0]
  clear hW0 hg0
  obtain ⟨a0, _⟩ := one_cell (keep_b HB.out HBR.out)
  obtain ⟨x0, _⟩ := one_cell H1.out
  obtain ⟨c0, _⟩ := (show BoB W0 gR (reachB cd (-1)) from keep_b HB.out HR.out).at_ HV.out
  cases v with
  | false =>
    go_wp2_with fail
    go_ret
    exact ⟨rfl, HB.out⟩
  | true =>
    obtain ⟨⟨y0, y1, y2, y3, y4⟩, _⟩ := box_cellsJ H2.out
    have hC := codeReads_any x W0 HXO.out (HS.out.on HB.out)
    unfold ReadsP at hC
    go_wp2_with fail
    (with_reducible refine hC.mono ?_)
    rintro e w1 ⟨A1, c1, rfl, hO, hb⟩
    have HB1 := Lib.hid (HB.out.trans (hb.mono HB.out.size))
    have H11 := Lib.hid (keep_b hb H1.out)
    have hmf : ∀ (fn : Fn) (first cap : Array Value) (w : World), (Instr.makeFunc fn first cap).run Tryz.prog w = .ok (.func fn first cap) w := fun _ _ _ _ => rfl
    have hSm := some_unset A1 (readsJ x).length c1 (readsJ x) (.pointer (some ⟨bA, 0, none⟩)) (.pointer (some ⟨g0, 0, none⟩)) (fun z => !(bitR r z.toNat)) w1 hO.ints (by have := readsJ_length x; omega) (fun W hbW z hz => by
      obtain ⟨z0, z1⟩ := hreg.out z hz
      have hbb := HB1.out.trans (hbW.mono HB1.out.size)
      have := unsetIn_any gA bA g0 i z.toNat n rows r W (keep_b hbb HBA.out) (keep_b hbW H11.out) (keep_b hbb HW.out) HD.out.l8 HRI.out HIN.out (by omega)
      rw [Int.toNat_of_nonneg z0] at this
      exact this)
    clear hb hO hC y0 y1 y2 y3 y4 a0 x0 c0
    go_wp2_with fail
    (with_reducible refine hSm.mono ?_)
    rintro e w2 ⟨rfl, hb⟩
    have HB2 := Lib.hid (HB1.out.trans (hb.mono HB1.out.size))
    clear hb hSm
    go_wp2_with fail
    go_ret
    exact ⟨by rw [Bool.true_and]; rfl, HB2.out⟩
end Go.Proofs.YtgkngimeokhhgaaGreatDoor
/- The program's Unset and Loops. -/
namespace Go.Proofs.YtgkngimeokhhgaaGreatDoor
open Go.RowKit

set_option maxRecDepth 100000 in
set_option maxHeartbeats 8000000 in
theorem validUnset_any (q : Cq) (w : World) (hq : q.In w) (hS : ShT w) : Calls Tryz.prog 43 #[q.val] w (UnsetP q w) := by
  have HQ := Lib.hid hq
  have HS := Lib.hid hS
  obtain ⟨R, A, I, P, n, c, l⟩ := q
  have HLN : Hid (l.length = n) := hq.len
  obtain ⟨W0, hW0⟩ : ∃ W, w.alloc (Cq.obj ⟨R, A, I, P, n, c, l⟩) = W := ⟨_, rfl⟩
  have HB0 : Hid (Below w.heap.size w W0) := by rw [← hW0]; exact lvBelow w _
  have HX0 : Hid (W0.heap[w.heap.size]? = some (Cq.obj ⟨R, A, I, P, n, c, l⟩)) := by rw [← hW0]; exact heap_alloc_new w _
  have hC := codeCheck_any ⟨R, A, I, P, n, c, l⟩ W0 (HQ.out.on HB0.out) (HS.out.on HB0.out)
  unfold CkP at hC
  obtain ⟨k0, k1, k2, k3, _⟩ := lvCells HX0.out
  clear hq hS
  cases hm : Cd.may (Cq.cd ⟨R, A, I, P, n, c, l⟩) with
  | false =>
    have HE := Lib.hid (may_no hm)
    rw [HE.out.1] at hC
    clear hm
    go_enter Tryz.func43, Tryz.ntmps43
    go_wp2_with fail
    try rw [hW0]
    refine hC.mono ?_
    rintro e w1 ⟨rfl, hb⟩
    have HB1 := Lib.hid (HB0.out.trans (hb.mono HB0.out.size))
    clear hb hC k0 k1 k2 k3
    go_wp2_with fail
    go_ret2
    exact ⟨none, 0, 0, by rw [HE.out.1]; rfl, by rw [HE.out.2.2.2.1]; exact OwnI.ints (OwnI.nil_ _ 0 3), HB1.out⟩
  | true =>
    have HE := Lib.hid (Cd.e_yes hm)
    have HM := Lib.hid hm
    obtain ⟨⟨_, _, _, _, _, _, hl0, hl1⟩, _⟩ := Cd.may_parts hm
    have hl1 : l.length ≤ 4096 := hl1
    rw [HLN.out] at hl1
    rw [HE.out] at hC
    clear hm hl0
    go_enter Tryz.func43, Tryz.ntmps43
    go_wp2_with fail
    try rw [hW0]
    refine hC.mono ?_
    rintro e w1 ⟨rfl, hb⟩
    have HB1 := Lib.hid (HB0.out.trans (hb.mono HB0.out.size))
    have HX1 := Lib.hid (keep_b hb HX0.out)
    clear hb hC k0 k1 k2 k3 hW0
    obtain ⟨k0, k1, k2, k3, _⟩ := lvCells HX1.out
    have hF := follow_any ⟨R, A, I, P, n, c, l⟩ w1 (HQ.out.on HB1.out) HM.out (HS.out.on HB1.out)
    go_wp2_with fail
    refine hF.mono ?_
    rintro e w2 ⟨gR, gA, rows, rfl, _, _, hR, hA, hD, hb⟩
    have HB2 := Lib.hid (HB1.out.trans (hb.mono HB1.out.size))
    have HX2 := Lib.hid (keep_b hb HX1.out)
    have HR := Lib.hid hR
    have HA := Lib.hid hA
    have HD := Lib.hid hD
    clear hb hF hA hD hR k0 k1 k2 k3
    have hmf : ∀ (fn : Fn) (first cap : Array Value) (w : World), (Instr.makeFunc fn first cap).run Tryz.prog w = .ok (.func fn first cap) w := fun _ _ _ _ => rfl
    obtain ⟨W4, hW4⟩ : ∃ W, (w2.alloc (.cells #[.slice (some ⟨gR, 0, none⟩) n n] 108)).alloc (.cells #[.slice (some ⟨gA, 0, none⟩) n n] 109) = W := ⟨_, rfl⟩
    obtain ⟨g4, hg4⟩ : ∃ z, w2.heap.size = z := ⟨_, rfl⟩
    have hb3 := lvBelow w2 (.cells #[.slice (some ⟨gR, 0, none⟩) n n] 108)
    have hb4 := lvBelow (w2.alloc (.cells #[.slice (some ⟨gR, 0, none⟩) n n] 108)) (.cells #[.slice (some ⟨gA, 0, none⟩) n n] 109)
    have h1 := keep_b hb4 (heap_alloc_new w2 (.cells #[.slice (some ⟨gR, 0, none⟩) n n] 108))
    have h2 := heap_alloc_new (w2.alloc (.cells #[.slice (some ⟨gR, 0, none⟩) n n] 108)) (.cells #[.slice (some ⟨gA, 0, none⟩) n n] 109)
    have hb := hb3.trans (hb4.mono hb3.size)
    rw [hW4] at h1 h2 hb
    simp only [World.size_alloc] at h2
    rw [hg4] at h1 h2
    have HB4 := Lib.hid (HB2.out.trans (hb.mono HB2.out.size))
    have HX4 := Lib.hid (keep_b hb HX2.out)
    have hCl := fun (W : World) (hW : Below W4.heap.size W4 W) (i : Nat) (x : Ji) (hx : l[i]? = some x) => unsetAt_any (Cq.cd ⟨R, A, I, P, n, c, l⟩) gR gA g4 (g4 + 1) i n rows x W HM.out (keep_b hW h1) (keep_b hW h2) (keep_b hW (keep_b hb HR.out)) (keep_b hW (keep_b hb HA.out)) HD.out hx (HQ.out.ins.2.1 x (List.mem_of_getElem? hx)) HLN.out (HS.out.on (HB4.out.trans (hW.mono HB4.out.size)))
    have hPl := places_unset ⟨R, A, I, P, n, c, l⟩ (.pointer (some ⟨g4, 0, none⟩)) (.pointer (some ⟨g4 + 1, 0, none⟩)) (unsetB (Cq.cd ⟨R, A, I, P, n, c, l⟩)) W4 (HQ.out.on HB4.out) hl1 hCl
    unfold PlcP at hPl
    have HW4 := Lib.hid hW4
    have HG4 := Lib.hid hg4
    clear hb3 hb4 h1 h2 hb hCl hW4 hg4
    go_upto_region 5 with fail
    try rw [HW4.out]
    try rw [HG4.out]
    obtain ⟨k0, k1, k2, k3, _⟩ := lvCells HX4.out
    go_wp2_with fail
    (with_reducible refine hPl.mono ?_)
    rintro e w5 ⟨A5, c5, rfl, hO, hb⟩
    have HB5 := Lib.hid (HB4.out.trans (hb.mono HB4.out.size))
    have HO := Lib.hid hO
    clear hb hO hPl k0 k1 k2 k3
    go_wp2_with fail
    go_ret2
    have hU : unsetC (Cq.cd ⟨R, A, I, P, n, c, l⟩) = flN (unsetB (Cq.cd ⟨R, A, I, P, n, c, l⟩)) n := by
      unfold unsetC
      rw [HM.out, if_pos rfl, unset_fl]
      rw [show (Cq.cd ⟨R, A, I, P, n, c, l⟩).l.length = n from HLN.out]
    exact ⟨A5, _, c5, by rw [HE.out]; rfl, by rw [hU]; exact HO.out.ints, HB5.out⟩
end Go.Proofs.YtgkngimeokhhgaaGreatDoor
/- The program's Check of valid. -/
namespace Go.Proofs.YtgkngimeokhhgaaGreatDoor
open Go.RowKit

def wrA (x : Ji) : Bool := x.op == 7 || x.op == 9
set_option maxRecDepth 100000 in
theorem writesArray_any (x : Ji) (w : World) : Calls Tryz.prog 45 #[x.val] w fun e w' => e = .returned (.bool (wrA x)) ∧ Below w.heap.size w w' := by
  have HB0 := Lib.hid (lvBelow w x.obj)
  have HX0 := Lib.hid (newJ w x)
  obtain ⟨W0, hW0⟩ : ∃ W, w.alloc x.obj = W := ⟨_, rfl⟩
  rw [hW0] at HB0 HX0
  obtain ⟨⟨y0, y1, y2, y3, y4⟩, _⟩ := box_cellsJ HX0.out
  have HW : Hid (wrA x = (x.op == 7 || x.op == 9)) := rfl
  cases h7 : (x.op == 7) with
  | true =>
    rw [h7, Bool.true_or] at HW
    go_enter Tryz.func45, Tryz.ntmps45
    go_upto_region 1 with fail
    try rw [hW0]
    go_wp2_with fail
    go_ret
    exact ⟨by rw [HW.out]; rfl, HB0.out⟩
  | false =>
    rw [h7, Bool.false_or] at HW
    cases h9 : (x.op == 9) with
    | true =>
      rw [h9] at HW
      go_enter Tryz.func45, Tryz.ntmps45
      go_upto_region 1 with fail
      try rw [hW0]
      go_wp2_with fail
      go_ret
      exact ⟨by rw [HW.out]; rfl, HB0.out⟩
    | false =>
      rw [h9] at HW
      go_enter Tryz.func45, Tryz.ntmps45
      go_upto_region 1 with fail
      try rw [hW0]
      go_wp2_with fail
      go_ret
      exact ⟨by rw [HW.out]; rfl, HB0.out⟩
set_option maxRecDepth 100000 in
theorem badAt_any (x : Ji) (q : Cq) (g : Nat) (w : World) (hg : w.heap[g]? = some q.obj) : Calls Tryz.prog 44 #[x.val, .pointer (some ⟨g, 0, none⟩)] w fun e w' => e = .returned (.bool (wrA x && decide (x.a < q.I))) ∧ Below w.heap.size w w' := by
  have HB0 := Lib.hid (lvBelow w x.obj)
  have HX0 := Lib.hid (newJ w x)
  have HQ0 := Lib.hid (pastJ x.obj hg)
  obtain ⟨W0, hW0⟩ : ∃ W, w.alloc x.obj = W := ⟨_, rfl⟩
  rw [hW0] at HB0 HX0 HQ0
  obtain ⟨⟨y0, y1, y2, y3, y4⟩, _⟩ := box_cellsJ HX0.out
  have hC := writesArray_any x W0
  clear hg
  cases hw : wrA x with
  | false =>
    rw [hw] at hC
    go_enter Tryz.func44, Tryz.ntmps44
    go_upto_region 1 with fail
    try rw [hW0]
    go_wp2_with fail
    (with_reducible refine hC.mono ?_)
    rintro e w1 ⟨rfl, hb⟩
    have HB1 := Lib.hid (HB0.out.trans (hb.mono HB0.out.size))
    clear hb hC y0 y1 y2 y3 y4
    go_wp2_with fail
    go_ret
    exact ⟨rfl, HB1.out⟩
  | true =>
    rw [hw] at hC
    go_enter Tryz.func44, Tryz.ntmps44
    go_upto_region 1 with fail
    try rw [hW0]
    go_wp2_with fail
    (with_reducible refine hC.mono ?_)
    rintro e w1 ⟨rfl, hb⟩
    have HB1 := Lib.hid (HB0.out.trans (hb.mono HB0.out.size))
    have HX1 := Lib.hid (keep_b hb HX0.out)
    have HQ1 := Lib.hid (keep_b hb HQ0.out)
    clear hb hC y0 y1 y2 y3 y4
    obtain ⟨⟨y0, y1, y2, y3, y4⟩, _⟩ := box_cellsJ HX1.out
    obtain ⟨q0, q1, q2, q3, _⟩ := lvCells HQ1.out
    go_wp2_with fail
    go_ret
    exact ⟨by rw [Bool.true_and]; rfl, HB1.out⟩
set_option maxRecDepth 100000 in
set_option maxHeartbeats 4000000 in
theorem indexBad_any (q : Cq) (g : Nat) (w : World) (hq : q.In w) (hg : w.heap[g]? = some q.obj) (hn : q.n ≤ 1000000) : Calls Tryz.prog 68 #[.slice q.P q.n q.c, .func (.func 44) #[] #[.pointer (some ⟨g, 0, none⟩)]] w fun e w' => ∃ v : Int, e = .returned (.int .i64 v) ∧ decide (0 ≤ v) = q.l.any (fun x => wrA x && decide (x.a < q.I)) ∧ Below w.heap.size w w' := by
  have HN := Lib.hid hq.len
  have HIN := Lib.hid hq
  have HG := Lib.hid hg
  clear hq hg
  go_enter Tryz.func68, Tryz.ntmps68
  go_wp2
  go_loopw [8] (fun i wr => ∃ k : Nat, k ≤ q.n ∧ i = .int .i64 k ∧ Hid (∀ j x, j < k → q.l[j]? = some x → (wrA x && decide (x.a < q.I)) = false) ∧ Hid (Below w.heap.size w wr)) (fun i _ => q.n - (intOf i).toNat)
  case atStart => exact ⟨0, Nat.zero_le _, rfl, fun j x hj => absurd hj (by omega), Below.refl _ _⟩
  case round =>
    obtain ⟨k, hk, rfl, HA, HB⟩ := hrel
    by_cases hlt : k < q.n
    · obtain ⟨b, off, y, hA, hbl, HX, ⟨y0, y1, y2, y3, y4⟩, hyo⟩ := ((HIN.out.on HB.out).ins).at_ hlt
      have hbw : w.heap.size ≤ wr.heap.size := HB.out.size
      have hk0 : (0 : Int) ≤ k := by omega
      have hk1 : (k : Int) < q.n := by omega
      have cB := badAt_any y q g wr (keep_b HB.out HG.out)
      rw [hA]
      clear hyo
      cases hm : (wrA y && decide (y.a < q.I)) with
      | false =>
        rw [hm] at cB
        have HA2 : Hid (∀ j z, j < k + 1 → q.l[j]? = some z → (wrA z && decide (z.a < q.I)) = false) := fun j z hj hz => by
          by_cases e : j = k
          · subst e
            rw [HX.out] at hz
            injection hz with hz
            subst hz
            exact hm
          · exact HA.out j z (by omega) hz
        clear hm HA
        go_wp2_with (go_at_call 44; (with_reducible refine cB.mono ?_); rintro e w2 ⟨rfl, hb2⟩)
        go_roundw
        case rel => exact ⟨k + 1, by omega, by go_num, HA2, HB.out.trans (hb2.mono hbw)⟩
        case measure => simp [intOf]; omega
      | true =>
        rw [hm] at cB
        have HF : Hid (decide ((0 : Int) ≤ (k : Int)) = q.l.any (fun x => wrA x && decide (x.a < q.I))) := by
          have : q.l.any (fun x => wrA x && decide (x.a < q.I)) = true := List.any_eq_true.2 ⟨y, List.mem_of_getElem? HX.out, hm⟩
          unfold Hid
          rw [this]
          simp
        clear hm HA
        go_wp2_with (go_at_call 44; (with_reducible refine cB.mono ?_); rintro e w2 ⟨rfl, hb2⟩)
        go_ret
        exact ⟨k, rfl, HF.out, HB.out.trans (hb2.mono hbw)⟩
    · have hkn : ¬ (k : Int) < (q.n : Int) := by omega
      have HF : Hid (decide ((0 : Int) ≤ -1) = q.l.any (fun x => wrA x && decide (x.a < q.I))) := by
        have : q.l.any (fun x => wrA x && decide (x.a < q.I)) = false := by
          rw [List.any_eq_false]
          intro t ht
          obtain ⟨j, hj, e⟩ := List.getElem_of_mem ht
          rw [HA.out j t (by have := HN.out; omega) (by rw [List.getElem?_eq_getElem hj, e])]
          decide
        unfold Hid
        rw [this]
        decide
      clear HA hlt
      go_wp2
      go_ret
      exact ⟨-1, rfl, HF.out, HB.out⟩
set_option maxRecDepth 100000 in
theorem someBad_valid (q : Cq) (g : Nat) (w : World) (hq : q.In w) (hg : w.heap[g]? = some q.obj) (hn : q.n ≤ 1000000) : Calls Tryz.prog 40 #[.slice q.P q.n q.c, .func (.func 44) #[] #[.pointer (some ⟨g, 0, none⟩)]] w fun e w' => e = .returned (.bool (q.l.any (fun x => wrA x && decide (x.a < q.I)))) ∧ Below w.heap.size w w' := by
  have cI := indexBad_any q g w hq hg hn
  clear hq hg
  go_enter Tryz.func40, Tryz.ntmps40
  go_wp2_with (go_at_call 68; (with_reducible refine cI.mono ?_); rintro e w2 ⟨v, rfl, hv, hb2⟩; have HV := Lib.hid hv; clear hv)
  go_ret
  exact ⟨by rw [← HV.out]; rfl, hb2⟩
set_option maxRecDepth 100000 in
set_option maxHeartbeats 8000000 in
theorem validCheck_any (q : Cq) (w : World) (hq : q.In w) (hS : ShT w) : Calls Tryz.prog 29 #[q.val] w (ValidP q w) := by
  have HQ := Lib.hid hq
  have HS := Lib.hid hS
  obtain ⟨R, A, I, P, n, c, l⟩ := q
  have HLN : Hid (l.length = n) := hq.len
  obtain ⟨W0, hW0⟩ : ∃ W, w.alloc (Cq.obj ⟨R, A, I, P, n, c, l⟩) = W := ⟨_, rfl⟩
  have HB0 : Hid (Below w.heap.size w W0) := by rw [← hW0]; exact lvBelow w _
  have HX0 : Hid (W0.heap[w.heap.size]? = some (Cq.obj ⟨R, A, I, P, n, c, l⟩)) := by rw [← hW0]; exact heap_alloc_new w _
  have hC := validUnset_any ⟨R, A, I, P, n, c, l⟩ W0 (HQ.out.on HB0.out) (HS.out.on HB0.out)
  unfold UnsetP at hC
  obtain ⟨k0, k1, k2, k3, _⟩ := lvCells HX0.out
  clear hq hS
  cases hm : Cd.may (Cq.cd ⟨R, A, I, P, n, c, l⟩) with
  | false =>
    have HE := Lib.hid (may_no hm)
    have HV : Hid (validE (Cq.cd ⟨R, A, I, P, n, c, l⟩) = 1) := by unfold Hid validE; rw [if_pos hm]
    rw [HE.out.1] at hC
    clear hm
    go_enter Tryz.func29, Tryz.ntmps29
    go_wp2_with fail
    try rw [hW0]
    refine hC.mono ?_
    rintro e w1 ⟨A1, n1, c1, rfl, _, hb⟩
    have HB1 := Lib.hid (HB0.out.trans (hb.mono HB0.out.size))
    clear hb hC k0 k1 k2 k3
    go_wp2_with fail
    go_ret
    exact ⟨by rw [HV.out]; rfl, HB1.out⟩
  | true =>
    have HE := Lib.hid (Cd.e_yes hm)
    have HM := Lib.hid hm
    obtain ⟨⟨_, _, _, _, _, _, hl0, hl1⟩, _⟩ := Cd.may_parts hm
    have hl1 : l.length ≤ 4096 := hl1
    rw [HLN.out] at hl1
    have HU : Hid (unsetC (Cq.cd ⟨R, A, I, P, n, c, l⟩) = (unsetN (Cq.cd ⟨R, A, I, P, n, c, l⟩)).map (fun n : Nat => (n : Int))) := by unfold Hid unsetC; rw [hm]; rfl
    rw [HE.out] at hC
    clear hm hl0
    go_enter Tryz.func29, Tryz.ntmps29
    go_wp2_with fail
    try rw [hW0]
    refine hC.mono ?_
    rintro e w1 ⟨A1, n1, c1, rfl, hO, hb⟩
    have HB1 := Lib.hid (HB0.out.trans (hb.mono HB0.out.size))
    have HX1 := Lib.hid (keep_b hb HX0.out)
    have HL1 : Hid ((unsetN (Cq.cd ⟨R, A, I, P, n, c, l⟩)).length = n1) := by
      have := hO.1
      rw [HU.out, List.length_map] at this
      exact this
    clear hb hC hO k0 k1 k2 k3 hW0
    by_cases h0 : n1 = 0
    case neg =>
      have HV : Hid (validE (Cq.cd ⟨R, A, I, P, n, c, l⟩) = 7) := by
        unfold Hid validE
        rw [if_neg (by rw [HM.out]; decide), if_pos (fun e => h0 (by have := HL1.out; rw [e] at this; exact this.symm))]
      have l0 : (0 : Int) < (n1 : Int) := by omega
      go_wp2_with fail
      go_ret
      exact ⟨by rw [HV.out]; rfl, HB1.out⟩
    subst h0
    have HU0 : Hid (unsetN (Cq.cd ⟨R, A, I, P, n, c, l⟩) = []) := List.eq_nil_of_length_eq_zero HL1.out
    have hmf : ∀ (fn : Fn) (first cap : Array Value) (w : World), (Instr.makeFunc fn first cap).run Tryz.prog w = .ok (.func fn first cap) w := fun _ _ _ _ => rfl
    have hSm := someBad_valid ⟨R, A, I, P, n, c, l⟩ w.heap.size w1 (HQ.out.on HB1.out) HX1.out (by show n ≤ 1000000; omega)
    obtain ⟨k0, k1, k2, k3, _⟩ := lvCells HX1.out
    obtain ⟨v, hv⟩ : ∃ v, l.any (fun x => wrA x && decide (x.a < I)) = v := ⟨_, rfl⟩
    have HV : Hid (validE (Cq.cd ⟨R, A, I, P, n, c, l⟩) = if v = true then 3 else 0) := by
      unfold Hid validE
      rw [if_neg (by rw [HM.out]; decide), if_neg (by rw [HU0.out]; exact fun h => h rfl), ← hv]
      rfl
    dsimp only at hSm
    rw [hv] at hSm
    clear hv
    go_wp2_with fail
    (with_reducible refine hSm.mono ?_)
    rintro e w2 ⟨rfl, hb⟩
    have HB2 := Lib.hid (HB1.out.trans (hb.mono HB1.out.size))
    clear hb hSm k0 k1 k2 k3
    cases v with
    | true =>
      go_wp2_with fail
      go_ret
      exact ⟨by rw [HV.out]; rfl, HB2.out⟩
    | false =>
      go_wp2_with fail
      go_ret
      exact ⟨by rw [HV.out]; rfl, HB2.out⟩
end Go.Proofs.YtgkngimeokhhgaaGreatDoor
/- The document's run: where the code, or what is handed in, is wrong. -/
namespace Go.Proofs.YtgkngimeokhhgaaGreatDoor
open Go.RowKit Go.Sort

@[reducible] def stN : Value := .agg #[.int .i64 0, .slice none 0 0, .slice none 0 0, .int .i64 0, .int .i64 0]
/-- what a run comes to -/
def RunP (c : Cd) (fuel cells : Int) (ins : List (List Int)) (w : World) (e : Ending) (w' : World) : Prop :=
  (∃ v, runM c fuel cells ins = .error v ∧ e = .returned (.tuple #[stN, .slice none 0 0, .int .i64 v]) ∧ Below w.heap.size w w') ∨
  (∃ z p gR gA rs Ap cp, runM c fuel cells ins = .ok (z, p) ∧ e = .returned (.tuple #[stV z gR gA, .slice Ap p.length cp, .int .i64 0]) ∧ MsW w' w.heap.size gR gA z rs ∧ OwnI w' w.heap.size 3 Ap cp (p.map fun n : Nat => (n : Int)) ∧ Below w.heap.size w w')
def lenOfV : Value → Nat
  | .slice _ n _ => n
  | _ => 0
set_option maxRecDepth 100000 in
set_option maxHeartbeats 8000000 in
theorem refRun_bad (q : Cq) (fuel cells : Int) (A : Option Addr) (n c : Nat) (ins : List (List Int)) (w : World) (hq : q.In w) (hI : IntsLL w w.heap.size A n ins) (hv : validE q.cd ≠ 0) :
    Calls Tryz.prog 21 #[q.val, .int .i64 fuel, .int .i64 cells, .slice A n c] w (RunP q.cd fuel cells ins w) := by
  have HQ := Lib.hid hq
  obtain ⟨R, A0, I, P, n0, c0, l⟩ := q
  obtain ⟨W0, hW0⟩ : ∃ W, (w.alloc (Cq.obj ⟨R, A0, I, P, n0, c0, l⟩)).alloc stZ = W := ⟨_, rfl⟩
  obtain ⟨g0, hg0⟩ : ∃ z, w.heap.size = z := ⟨_, rfl⟩
  have hb1 := lvBelow w (Cq.obj ⟨R, A0, I, P, n0, c0, l⟩)
  have hb2 := lvBelow (w.alloc (Cq.obj ⟨R, A0, I, P, n0, c0, l⟩)) stZ
  have h1 := keep_b hb2 (heap_alloc_new w (Cq.obj ⟨R, A0, I, P, n0, c0, l⟩))
  have h2 := heap_alloc_new (w.alloc (Cq.obj ⟨R, A0, I, P, n0, c0, l⟩)) stZ
  have hb := hb1.trans (hb2.mono hb1.size)
  rw [hW0] at h1 h2 hb
  simp only [World.size_alloc] at h2
  rw [hg0] at h1 h2
  have HB0 := Lib.hid hb
  have HX0 := Lib.hid h1
  have HZ0 := Lib.hid h2
  have HG0 := Lib.hid hg0
  have HII := Lib.hid hI
  have hC := refValid15_any ⟨R, A0, I, P, n0, c0, l⟩ W0 (hq.on hb)
  unfold ValidP at hC
  clear hb1 hb2 h1 h2 hb hq
  obtain ⟨k0, k1, k2, k3, _⟩ := lvCells HX0.out
  obtain ⟨v, hvv⟩ : ∃ v, validE (Cq.cd ⟨R, A0, I, P, n0, c0, l⟩) = v := ⟨_, rfl⟩
  rw [hvv] at hv hC
  have HV := Lib.hid hvv
  have hv2 : (v != 0) = true := by simpa using hv
  clear hvv
  go_enter Tryz.func21, Tryz.ntmps21
  go_wp2_with fail
  try rw [hW0]
  try rw [hg0]
  refine hC.mono ?_
  rintro e w1 ⟨rfl, hb1⟩
  have HB1 := Lib.hid (HB0.out.trans (hb1.mono HB0.out.size))
  have HZ1 := Lib.hid (keep_b hb1 HZ0.out)
  have HX1 := Lib.hid (keep_b hb1 HX0.out)
  clear hb1 hC k0 k1 k2 k3 hW0 hg0
  obtain ⟨q0, q1, q2, q3, q4, qf0, qf1, qf2, qf3, qf4⟩ := cells5 HZ1.out
  obtain ⟨k0, k1, k2, k3, _⟩ := lvCells HX1.out
  go_wp2_with fail
  obtain ⟨s0, s1, s2, s3, s4, _⟩ := cells5 (five_cells HZ1.out (.int .i64 0) (.slice none 0 0) (.slice none 0 0) (.int .i64 0) (.int .i64 0))
  exact bodyPost_ret (v := .tuple #[stN, .slice none 0 0, .int .i64 v]) (by simp [results, Tryz.results21, go_sem, s0, s1, s2, s3, s4]) rfl (.inl ⟨v, (by unfold runM; rw [if_pos (by rw [HV.out]; exact hv), HV.out]), rfl, put5_below HB1.out (by have := HG0.out; omega) _ _ _ _ _⟩)
set_option maxRecDepth 100000 in
set_option maxHeartbeats 8000000 in
theorem refRun_fuel (q : Cq) (fuel cells : Int) (A : Option Addr) (n c : Nat) (ins : List (List Int)) (w : World) (hq : q.In w) (hI : IntsLL w w.heap.size A n ins) (hv : validE q.cd = 0) (hf : fuel < 0) :
    Calls Tryz.prog 21 #[q.val, .int .i64 fuel, .int .i64 cells, .slice A n c] w (RunP q.cd fuel cells ins w) := by
  have HQ := Lib.hid hq
  obtain ⟨R, A0, I, P, n0, c0, l⟩ := q
  obtain ⟨W0, hW0⟩ : ∃ W, (w.alloc (Cq.obj ⟨R, A0, I, P, n0, c0, l⟩)).alloc stZ = W := ⟨_, rfl⟩
  obtain ⟨g0, hg0⟩ : ∃ z, w.heap.size = z := ⟨_, rfl⟩
  have hb1 := lvBelow w (Cq.obj ⟨R, A0, I, P, n0, c0, l⟩)
  have hb2 := lvBelow (w.alloc (Cq.obj ⟨R, A0, I, P, n0, c0, l⟩)) stZ
  have h1 := keep_b hb2 (heap_alloc_new w (Cq.obj ⟨R, A0, I, P, n0, c0, l⟩))
  have h2 := heap_alloc_new (w.alloc (Cq.obj ⟨R, A0, I, P, n0, c0, l⟩)) stZ
  have hb := hb1.trans (hb2.mono hb1.size)
  rw [hW0] at h1 h2 hb
  simp only [World.size_alloc] at h2
  rw [hg0] at h1 h2
  have HB0 := Lib.hid hb
  have HX0 := Lib.hid h1
  have HZ0 := Lib.hid h2
  have HG0 := Lib.hid hg0
  have HII := Lib.hid hI
  have hC := refValid15_any ⟨R, A0, I, P, n0, c0, l⟩ W0 (hq.on hb)
  unfold ValidP at hC
  clear hb1 hb2 h1 h2 hb hq
  obtain ⟨k0, k1, k2, k3, _⟩ := lvCells HX0.out
  have HV : Hid (validE (Cq.cd ⟨R, A0, I, P, n0, c0, l⟩) = 0) := hv
  rw [HV.out] at hC
  clear hv
  have HA := Lib.hid hf
  have d0 : decide (fuel < 0) = true := decide_eq_true hf
  clear hf
  go_enter Tryz.func21, Tryz.ntmps21
  go_wp2_with fail
  try rw [hW0]
  try rw [hg0]
  refine hC.mono ?_
  rintro e w1 ⟨rfl, hb1⟩
  have HB1 := Lib.hid (HB0.out.trans (hb1.mono HB0.out.size))
  have HZ1 := Lib.hid (keep_b hb1 HZ0.out)
  have HX1 := Lib.hid (keep_b hb1 HX0.out)
  clear hb1 hC k0 k1 k2 k3 hW0 hg0
  obtain ⟨q0, q1, q2, q3, q4, qf0, qf1, qf2, qf3, qf4⟩ := cells5 HZ1.out
  obtain ⟨k0, k1, k2, k3, _⟩ := lvCells HX1.out
  go_wp2_with fail
  obtain ⟨s0, s1, s2, s3, s4, _⟩ := cells5 (five_cells HZ1.out (.int .i64 0) (.slice none 0 0) (.slice none 0 0) (.int .i64 0) (.int .i64 0))
  exact bodyPost_ret (v := .tuple #[stN, .slice none 0 0, .int .i64 1]) (by simp [results, Tryz.results21, go_sem, s0, s1, s2, s3, s4]) rfl (.inl ⟨1, (by unfold runM; rw [if_neg (by rw [HV.out]; simp), if_pos (by first | exact .inl HA.out | exact .inr (.inl HA.out) | exact .inr (.inr HA.out))]), rfl, put5_below HB1.out (by have := HG0.out; omega) _ _ _ _ _⟩)
set_option maxRecDepth 100000 in
set_option maxHeartbeats 8000000 in
theorem refRun_cells (q : Cq) (fuel cells : Int) (A : Option Addr) (n c : Nat) (ins : List (List Int)) (w : World) (hq : q.In w) (hI : IntsLL w w.heap.size A n ins) (hv : validE q.cd = 0) (hf : ¬ fuel < 0) (hc : cells < 0) :
    Calls Tryz.prog 21 #[q.val, .int .i64 fuel, .int .i64 cells, .slice A n c] w (RunP q.cd fuel cells ins w) := by
  have HQ := Lib.hid hq
  obtain ⟨R, A0, I, P, n0, c0, l⟩ := q
  obtain ⟨W0, hW0⟩ : ∃ W, (w.alloc (Cq.obj ⟨R, A0, I, P, n0, c0, l⟩)).alloc stZ = W := ⟨_, rfl⟩
  obtain ⟨g0, hg0⟩ : ∃ z, w.heap.size = z := ⟨_, rfl⟩
  have hb1 := lvBelow w (Cq.obj ⟨R, A0, I, P, n0, c0, l⟩)
  have hb2 := lvBelow (w.alloc (Cq.obj ⟨R, A0, I, P, n0, c0, l⟩)) stZ
  have h1 := keep_b hb2 (heap_alloc_new w (Cq.obj ⟨R, A0, I, P, n0, c0, l⟩))
  have h2 := heap_alloc_new (w.alloc (Cq.obj ⟨R, A0, I, P, n0, c0, l⟩)) stZ
  have hb := hb1.trans (hb2.mono hb1.size)
  rw [hW0] at h1 h2 hb
  simp only [World.size_alloc] at h2
  rw [hg0] at h1 h2
  have HB0 := Lib.hid hb
  have HX0 := Lib.hid h1
  have HZ0 := Lib.hid h2
  have HG0 := Lib.hid hg0
  have HII := Lib.hid hI
  have hC := refValid15_any ⟨R, A0, I, P, n0, c0, l⟩ W0 (hq.on hb)
  unfold ValidP at hC
  clear hb1 hb2 h1 h2 hb hq
  obtain ⟨k0, k1, k2, k3, _⟩ := lvCells HX0.out
  have HV : Hid (validE (Cq.cd ⟨R, A0, I, P, n0, c0, l⟩) = 0) := hv
  rw [HV.out] at hC
  clear hv
  have HA := Lib.hid hc
  have d0 : decide (fuel < 0) = false := decide_eq_false hf
  have d1 : decide (cells < 0) = true := decide_eq_true hc
  clear hf hc
  go_enter Tryz.func21, Tryz.ntmps21
  go_wp2_with fail
  try rw [hW0]
  try rw [hg0]
  refine hC.mono ?_
  rintro e w1 ⟨rfl, hb1⟩
  have HB1 := Lib.hid (HB0.out.trans (hb1.mono HB0.out.size))
  have HZ1 := Lib.hid (keep_b hb1 HZ0.out)
  have HX1 := Lib.hid (keep_b hb1 HX0.out)
  clear hb1 hC k0 k1 k2 k3 hW0 hg0
  obtain ⟨q0, q1, q2, q3, q4, qf0, qf1, qf2, qf3, qf4⟩ := cells5 HZ1.out
  obtain ⟨k0, k1, k2, k3, _⟩ := lvCells HX1.out
  go_wp2_with fail
  obtain ⟨s0, s1, s2, s3, s4, _⟩ := cells5 (five_cells HZ1.out (.int .i64 0) (.slice none 0 0) (.slice none 0 0) (.int .i64 0) (.int .i64 0))
  exact bodyPost_ret (v := .tuple #[stN, .slice none 0 0, .int .i64 1]) (by simp [results, Tryz.results21, go_sem, s0, s1, s2, s3, s4]) rfl (.inl ⟨1, (by unfold runM; rw [if_neg (by rw [HV.out]; simp), if_pos (by first | exact .inl HA.out | exact .inr (.inl HA.out) | exact .inr (.inr HA.out))]), rfl, put5_below HB1.out (by have := HG0.out; omega) _ _ _ _ _⟩)
set_option maxRecDepth 100000 in
set_option maxHeartbeats 8000000 in
theorem refRun_ins (q : Cq) (fuel cells : Int) (A : Option Addr) (n c : Nat) (ins : List (List Int)) (w : World) (hq : q.In w) (hI : IntsLL w w.heap.size A n ins) (hv : validE q.cd = 0) (hf : ¬ fuel < 0) (hc : ¬ cells < 0) (hn : (ins.length : Int) ≠ q.I) :
    Calls Tryz.prog 21 #[q.val, .int .i64 fuel, .int .i64 cells, .slice A n c] w (RunP q.cd fuel cells ins w) := by
  have HQ := Lib.hid hq
  obtain ⟨R, A0, I, P, n0, c0, l⟩ := q
  obtain ⟨W0, hW0⟩ : ∃ W, (w.alloc (Cq.obj ⟨R, A0, I, P, n0, c0, l⟩)).alloc stZ = W := ⟨_, rfl⟩
  obtain ⟨g0, hg0⟩ : ∃ z, w.heap.size = z := ⟨_, rfl⟩
  have hb1 := lvBelow w (Cq.obj ⟨R, A0, I, P, n0, c0, l⟩)
  have hb2 := lvBelow (w.alloc (Cq.obj ⟨R, A0, I, P, n0, c0, l⟩)) stZ
  have h1 := keep_b hb2 (heap_alloc_new w (Cq.obj ⟨R, A0, I, P, n0, c0, l⟩))
  have h2 := heap_alloc_new (w.alloc (Cq.obj ⟨R, A0, I, P, n0, c0, l⟩)) stZ
  have hb := hb1.trans (hb2.mono hb1.size)
  rw [hW0] at h1 h2 hb
  simp only [World.size_alloc] at h2
  rw [hg0] at h1 h2
  have HB0 := Lib.hid hb
  have HX0 := Lib.hid h1
  have HZ0 := Lib.hid h2
  have HG0 := Lib.hid hg0
  have HII := Lib.hid hI
  have hC := refValid15_any ⟨R, A0, I, P, n0, c0, l⟩ W0 (hq.on hb)
  unfold ValidP at hC
  clear hb1 hb2 h1 h2 hb hq
  obtain ⟨k0, k1, k2, k3, _⟩ := lvCells HX0.out
  have HV : Hid (validE (Cq.cd ⟨R, A0, I, P, n0, c0, l⟩) = 0) := hv
  rw [HV.out] at hC
  clear hv
  have HA : Hid ((ins.length : Int) ≠ Cd.I (Cq.cd ⟨R, A0, I, P, n0, c0, l⟩)) := hn
  have hn2 : (n : Int) ≠ I := by rw [← HII.out.1]; exact hn
  have d0 : decide (fuel < 0) = false := decide_eq_false hf
  have d1 : decide (cells < 0) = false := decide_eq_false hc
  have d2 : ((n : Int) != I) = true := by simpa using hn2
  clear hf hc hn hn2
  go_enter Tryz.func21, Tryz.ntmps21
  go_wp2_with fail
  try rw [hW0]
  try rw [hg0]
  refine hC.mono ?_
  rintro e w1 ⟨rfl, hb1⟩
  have HB1 := Lib.hid (HB0.out.trans (hb1.mono HB0.out.size))
  have HZ1 := Lib.hid (keep_b hb1 HZ0.out)
  have HX1 := Lib.hid (keep_b hb1 HX0.out)
  clear hb1 hC k0 k1 k2 k3 hW0 hg0
  obtain ⟨q0, q1, q2, q3, q4, qf0, qf1, qf2, qf3, qf4⟩ := cells5 HZ1.out
  obtain ⟨k0, k1, k2, k3, _⟩ := lvCells HX1.out
  go_wp2_with fail
  obtain ⟨s0, s1, s2, s3, s4, _⟩ := cells5 (five_cells HZ1.out (.int .i64 0) (.slice none 0 0) (.slice none 0 0) (.int .i64 0) (.int .i64 0))
  exact bodyPost_ret (v := .tuple #[stN, .slice none 0 0, .int .i64 1]) (by simp [results, Tryz.results21, go_sem, s0, s1, s2, s3, s4]) rfl (.inl ⟨1, (by unfold runM; rw [if_neg (by rw [HV.out]; simp), if_pos (by first | exact .inl HA.out | exact .inr (.inl HA.out) | exact .inr (.inr HA.out))]), rfl, put5_below HB1.out (by have := HG0.out; omega) _ _ _ _ _⟩)
end Go.Proofs.YtgkngimeokhhgaaGreatDoor
