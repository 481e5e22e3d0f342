/- The program's Check of valid. -/
import Derived.Test.YtgkngimeokhhgaaDoorG20
import Derived.Test.YtgkngimeokhhgaaDoorG10
import Derived.Test.YtgkngimeokhhgaaDoorG15
import Derived.Test.YtgkngimeokhhgaaDoorG5
import Derived.BigQuiet
import Derived.Test.YtgkngimeokhhgaaDoorG16
import Derived.Test.YtgkngimeokhhgaaDoorG6
namespace Go.Proofs.YtgkngimeokhhgaaDoor
open Go.RowKit

def wrA (x : Ji) : Bool := x.op == 7 || x.op == 9
set_option maxRecDepth 100000 in
theorem writesArray_any (x : Ji) (w : World) : Calls Tryd.prog 27 #[x.val] w fun e w' => e = .returned (.bool (wrA x)) ∧ Below w.heap.size w w' := by
  have HB0 := Lib.hid (lvBelow w x.obj)
  have HX0 := Lib.hid (newJ w x)
  obtain ⟨W0, hW0⟩ : ∃ W, w.alloc x.obj = W := ⟨_, rfl⟩
  rw [hW0] at HB0 HX0
  obtain ⟨⟨y0, y1, y2, y3, y4⟩, _⟩ := box_cellsJ HX0.out
  have HW : Hid (wrA x = (x.op == 7 || x.op == 9)) := rfl
  cases h7 : (x.op == 7) with
  | true =>
    rw [h7, Bool.true_or] at HW
    go_enter Tryd.func27, Tryd.ntmps27
    go_upto_region 1 with fail
    try rw [hW0]
    go_wp2_with fail
    go_ret
    exact ⟨by rw [HW.out]; rfl, HB0.out⟩
  | false =>
    rw [h7, Bool.false_or] at HW
    cases h9 : (x.op == 9) with
    | true =>
      rw [h9] at HW
      go_enter Tryd.func27, Tryd.ntmps27
      go_upto_region 1 with fail
      try rw [hW0]
      go_wp2_with fail
      go_ret
      exact ⟨by rw [HW.out]; rfl, HB0.out⟩
    | false =>
      rw [h9] at HW
      go_enter Tryd.func27, Tryd.ntmps27
      go_upto_region 1 with fail
      try rw [hW0]
      go_wp2_with fail
      go_ret
      exact ⟨by rw [HW.out]; rfl, HB0.out⟩
set_option maxRecDepth 100000 in
theorem badAt_any (x : Ji) (q : Cq) (g : Nat) (w : World) (hg : w.heap[g]? = some q.obj) : Calls Tryd.prog 26 #[x.val, .pointer (some ⟨g, 0, none⟩)] w fun e w' => e = .returned (.bool (wrA x && decide (x.a < q.I))) ∧ Below w.heap.size w w' := by
  have HB0 := Lib.hid (lvBelow w x.obj)
  have HX0 := Lib.hid (newJ w x)
  have HQ0 := Lib.hid (pastJ x.obj hg)
  obtain ⟨W0, hW0⟩ : ∃ W, w.alloc x.obj = W := ⟨_, rfl⟩
  rw [hW0] at HB0 HX0 HQ0
  obtain ⟨⟨y0, y1, y2, y3, y4⟩, _⟩ := box_cellsJ HX0.out
  have hC := writesArray_any x W0
  clear hg
  cases hw : wrA x with
  | false =>
    rw [hw] at hC
    go_enter Tryd.func26, Tryd.ntmps26
    go_upto_region 1 with fail
    try rw [hW0]
    go_wp2_with fail
    (with_reducible refine hC.mono ?_)
    rintro e w1 ⟨rfl, hb⟩
    have HB1 := Lib.hid (HB0.out.trans (hb.mono HB0.out.size))
    clear hb hC y0 y1 y2 y3 y4
    go_wp2_with fail
    go_ret
    exact ⟨rfl, HB1.out⟩
  | true =>
    rw [hw] at hC
    go_enter Tryd.func26, Tryd.ntmps26
    go_upto_region 1 with fail
    try rw [hW0]
    go_wp2_with fail
    (with_reducible refine hC.mono ?_)
    rintro e w1 ⟨rfl, hb⟩
    have HB1 := Lib.hid (HB0.out.trans (hb.mono HB0.out.size))
    have HX1 := Lib.hid (keep_b hb HX0.out)
    have HQ1 := Lib.hid (keep_b hb HQ0.out)
    clear hb hC y0 y1 y2 y3 y4
    obtain ⟨⟨y0, y1, y2, y3, y4⟩, _⟩ := box_cellsJ HX1.out
    obtain ⟨q0, q1, q2, q3, _⟩ := lvCells HQ1.out
    go_wp2_with fail
    go_ret
    exact ⟨by rw [Bool.true_and]; rfl, HB1.out⟩
set_option maxRecDepth 100000 in
set_option maxHeartbeats 4000000 in
theorem indexBad_any (q : Cq) (g : Nat) (w : World) (hq : q.In w) (hg : w.heap[g]? = some q.obj) (hn : q.n ≤ 1000000) : Calls Tryd.prog 53 #[.slice q.P q.n q.c, .func (.func 26) #[] #[.pointer (some ⟨g, 0, none⟩)]] w fun e w' => ∃ v : Int, e = .returned (.int .i64 v) ∧ decide (0 ≤ v) = q.l.any (fun x => wrA x && decide (x.a < q.I)) ∧ Below w.heap.size w w' := by
  have HN := Lib.hid hq.len
  have HIN := Lib.hid hq
  have HG := Lib.hid hg
  clear hq hg
  go_enter Tryd.func53, Tryd.ntmps53
  go_wp2
  go_loopw [8] (fun i wr => ∃ k : Nat, k ≤ q.n ∧ i = .int .i64 k ∧ Hid (∀ j x, j < k → q.l[j]? = some x → (wrA x && decide (x.a < q.I)) = false) ∧ Hid (Below w.heap.size w wr)) (fun i _ => q.n - (intOf i).toNat)
  case atStart => exact ⟨0, Nat.zero_le _, rfl, fun j x hj => absurd hj (by omega), Below.refl _ _⟩
  case round =>
    obtain ⟨k, hk, rfl, HA, HB⟩ := hrel
    by_cases hlt : k < q.n
    · obtain ⟨b, off, y, hA, hbl, HX, ⟨y0, y1, y2, y3, y4⟩, hyo⟩ := ((HIN.out.on HB.out).ins).at_ hlt
      have hbw : w.heap.size ≤ wr.heap.size := HB.out.size
      have hk0 : (0 : Int) ≤ k := by omega
      have hk1 : (k : Int) < q.n := by omega
      have cB := badAt_any y q g wr (keep_b HB.out HG.out)
      rw [hA]
      clear hyo
      cases hm : (wrA y && decide (y.a < q.I)) with
      | false =>
        rw [hm] at cB
        have HA2 : Hid (∀ j z, j < k + 1 → q.l[j]? = some z → (wrA z && decide (z.a < q.I)) = false) := fun j z hj hz => by
          by_cases e : j = k
          · subst e
            rw [HX.out] at hz
            injection hz with hz
            subst hz
            exact hm
          · exact HA.out j z (by omega) hz
        clear hm HA
        go_wp2_with (go_at_call 26; (with_reducible refine cB.mono ?_); rintro e w2 ⟨rfl, hb2⟩)
        go_roundw
        case rel => exact ⟨k + 1, by omega, by go_num, HA2, HB.out.trans (hb2.mono hbw)⟩
        case measure => simp [intOf]; omega
      | true =>
        rw [hm] at cB
        have HF : Hid (decide ((0 : Int) ≤ (k : Int)) = q.l.any (fun x => wrA x && decide (x.a < q.I))) := by
          have : q.l.any (fun x => wrA x && decide (x.a < q.I)) = true := List.any_eq_true.2 ⟨y, List.mem_of_getElem? HX.out, hm⟩
          unfold Hid
          rw [this]
          simp
        clear hm HA
        go_wp2_with (go_at_call 26; (with_reducible refine cB.mono ?_); rintro e w2 ⟨rfl, hb2⟩)
        go_ret
        exact ⟨k, rfl, HF.out, HB.out.trans (hb2.mono hbw)⟩
    · have hkn : ¬ (k : Int) < (q.n : Int) := by omega
      have HF : Hid (decide ((0 : Int) ≤ -1) = q.l.any (fun x => wrA x && decide (x.a < q.I))) := by
        have : q.l.any (fun x => wrA x && decide (x.a < q.I)) = false := by
          rw [List.any_eq_false]
          intro t ht
          obtain ⟨j, hj, e⟩ := List.getElem_of_mem ht
          rw [HA.out j t (by have := HN.out; omega) (by rw [List.getElem?_eq_getElem hj, e])]
          decide
        unfold Hid
        rw [this]
        decide
      clear HA hlt
      go_wp2
      go_ret
      exact ⟨-1, rfl, HF.out, HB.out⟩
set_option maxRecDepth 100000 in
theorem someBad_valid (q : Cq) (g : Nat) (w : World) (hq : q.In w) (hg : w.heap[g]? = some q.obj) (hn : q.n ≤ 1000000) : Calls Tryd.prog 25 #[.slice q.P q.n q.c, .func (.func 26) #[] #[.pointer (some ⟨g, 0, none⟩)]] w fun e w' => e = .returned (.bool (q.l.any (fun x => wrA x && decide (x.a < q.I)))) ∧ Below w.heap.size w w' := by
  have cI := indexBad_any q g w hq hg hn
  clear hq hg
  go_enter Tryd.func25, Tryd.ntmps25
  go_wp2_with (go_at_call 53; (with_reducible refine cI.mono ?_); rintro e w2 ⟨v, rfl, hv, hb2⟩; have HV := Lib.hid hv; clear hv)
  go_ret
  exact ⟨by rw [← HV.out]; rfl, hb2⟩
set_option maxRecDepth 100000 in
set_option maxHeartbeats 8000000 in
theorem validCheck_any (q : Cq) (w : World) (hq : q.In w) (hS : ShT w) : Calls Tryd.prog 11 #[q.val] w (ValidP q w) := by
  have HQ := Lib.hid hq
  have HS := Lib.hid hS
  obtain ⟨R, A, I, P, n, c, l⟩ := q
  have HLN : Hid (l.length = n) := hq.len
  obtain ⟨W0, hW0⟩ : ∃ W, w.alloc (Cq.obj ⟨R, A, I, P, n, c, l⟩) = W := ⟨_, rfl⟩
  have HB0 : Hid (Below w.heap.size w W0) := by rw [← hW0]; exact lvBelow w _
  have HX0 : Hid (W0.heap[w.heap.size]? = some (Cq.obj ⟨R, A, I, P, n, c, l⟩)) := by rw [← hW0]; exact heap_alloc_new w _
  have hC := validUnset_any ⟨R, A, I, P, n, c, l⟩ W0 (HQ.out.on HB0.out) (HS.out.on HB0.out)
  unfold UnsetP at hC
  obtain ⟨k0, k1, k2, k3, _⟩ := lvCells HX0.out
  clear hq hS
  cases hm : Cd.may (Cq.cd ⟨R, A, I, P, n, c, l⟩) with
  | false =>
    have HE := Lib.hid (may_no hm)
    have HV : Hid (validE (Cq.cd ⟨R, A, I, P, n, c, l⟩) = 1) := by unfold Hid validE; rw [if_pos hm]
    rw [HE.out.1] at hC
    clear hm
    go_enter Tryd.func11, Tryd.ntmps11
    go_wp2_with fail
    try rw [hW0]
    refine hC.mono ?_
    rintro e w1 ⟨A1, n1, c1, rfl, _, hb⟩
    have HB1 := Lib.hid (HB0.out.trans (hb.mono HB0.out.size))
    clear hb hC k0 k1 k2 k3
    go_wp2_with fail
    go_ret
    exact ⟨by rw [HV.out]; rfl, HB1.out⟩
  | true =>
    have HE := Lib.hid (Cd.e_yes hm)
    have HM := Lib.hid hm
    obtain ⟨⟨_, _, _, _, _, _, hl0, hl1⟩, _⟩ := Cd.may_parts hm
    have hl1 : l.length ≤ 4096 := hl1
    rw [HLN.out] at hl1
    have HU : Hid (unsetC (Cq.cd ⟨R, A, I, P, n, c, l⟩) = (unsetN (Cq.cd ⟨R, A, I, P, n, c, l⟩)).map (fun n : Nat => (n : Int))) := by unfold Hid unsetC; rw [hm]; rfl
    rw [HE.out] at hC
    clear hm hl0
    go_enter Tryd.func11, Tryd.ntmps11
    go_wp2_with fail
    try rw [hW0]
    refine hC.mono ?_
    rintro e w1 ⟨A1, n1, c1, rfl, hO, hb⟩
    have HB1 := Lib.hid (HB0.out.trans (hb.mono HB0.out.size))
    have HX1 := Lib.hid (keep_b hb HX0.out)
    have HL1 : Hid ((unsetN (Cq.cd ⟨R, A, I, P, n, c, l⟩)).length = n1) := by
      have := hO.1
      rw [HU.out, List.length_map] at this
      exact this
    clear hb hC hO k0 k1 k2 k3 hW0
    by_cases h0 : n1 = 0
    case neg =>
      have HV : Hid (validE (Cq.cd ⟨R, A, I, P, n, c, l⟩) = 7) := by
        unfold Hid validE
        rw [if_neg (by rw [HM.out]; decide), if_pos (fun e => h0 (by have := HL1.out; rw [e] at this; exact this.symm))]
      have l0 : (0 : Int) < (n1 : Int) := by omega
      go_wp2_with fail
      go_ret
      exact ⟨by rw [HV.out]; rfl, HB1.out⟩
    subst h0
    have HU0 : Hid (unsetN (Cq.cd ⟨R, A, I, P, n, c, l⟩) = []) := List.eq_nil_of_length_eq_zero HL1.out
    have hmf : ∀ (fn : Fn) (first cap : Array Value) (w : World), (Instr.makeFunc fn first cap).run Tryd.prog w = .ok (.func fn first cap) w := fun _ _ _ _ => rfl
    have hSm := someBad_valid ⟨R, A, I, P, n, c, l⟩ w.heap.size w1 (HQ.out.on HB1.out) HX1.out (by show n ≤ 1000000; omega)
    obtain ⟨k0, k1, k2, k3, _⟩ := lvCells HX1.out
    obtain ⟨v, hv⟩ : ∃ v, l.any (fun x => wrA x && decide (x.a < I)) = v := ⟨_, rfl⟩
    have HV : Hid (validE (Cq.cd ⟨R, A, I, P, n, c, l⟩) = if v = true then 3 else 0) := by
      unfold Hid validE
      rw [if_neg (by rw [HM.out]; decide), if_neg (by rw [HU0.out]; exact fun h => h rfl), ← hv]
      rfl
    dsimp only at hSm
    rw [hv] at hSm
    clear hv
    go_wp2_with fail
    (with_reducible refine hSm.mono ?_)
    rintro e w2 ⟨rfl, hb⟩
    have HB2 := Lib.hid (HB1.out.trans (hb.mono HB1.out.size))
    clear hb hSm k0 k1 k2 k3
    cases v with
    | true =>
      go_wp2_with fail
      go_ret
      exact ⟨by rw [HV.out]; rfl, HB2.out⟩
    | false =>
      go_wp2_with fail
      go_ret
      exact ⟨by rw [HV.out]; rfl, HB2.out⟩
end Go.Proofs.YtgkngimeokhhgaaDoor
/- The document's run. -/
namespace Go.Proofs.YtgkngimeokhhgaaDoor
open Go.RowKit Go.Sort

set_option maxRecDepth 100000 in
theorem infoRu64 : (Tryd.prog.info? 50).map (fun i => (i.zero, i.size, i.bytes)) = some (some (.slice none 0 0), 1, 24) := by kernel_rfl
theorem may_of_validE {c : Cd} (h : validE c = 0) : c.may = true := by
  cases e : c.may with
  | true => rfl
  | false => rw [validE_may e] at h; cases h
end Go.Proofs.YtgkngimeokhhgaaDoor
/- The document's SameLists. -/
namespace Go.Proofs.YtgkngimeokhhgaaDoor
open Go.RowKit

theorem take_succU {α : Type} {l : List α} {k : Nat} {x : α} (h : l[k]? = some x) : l.take (k + 1) = l.take k ++ [x] := by rw [List.take_add_one, h]; rfl
set_option maxRecDepth 100000 in
set_option maxHeartbeats 2000000 in
theorem sameListsU_any (A A2 : Option Addr) (n n2 c c2 : Nat) (XS YS : List (List Int)) (w : World) (B : Nat) (h : IntsLL w B A n XS) (h2 : IntsLL w B A2 n2 YS) (hn : n ≤ 100000) (hn2 : n2 ≤ 100000) (hx : ∀ L ∈ XS, L.length ≤ 100000) (hy : ∀ L ∈ YS, L.length ≤ 100000) :
    Calls Tryd.prog 21 #[.slice A n c, .slice A2 n2 c2] w fun e w' => e = .returned (.bool (decide (XS = YS))) ∧ ∃ m, w' = w.drewN m := by
  have HL : Hid (XS.length = n) := h.1
  have HL2 : Hid (YS.length = n2) := h2.1
  by_cases hne : n = n2
  · subst hne
    go_enter Tryd.func21, Tryd.ntmps21
    go_wp2
    go_loopw [14] (fun i wr => ∃ (k m : Nat), k ≤ n ∧ i = .int .i64 k ∧ wr = w.drewN m ∧ Hid (XS.take k = YS.take k)) (fun i _ => n - (intOf i).toNat)
    case atStart => exact ⟨0, 0, Nat.zero_le _, rfl, rfl, by unfold Hid; simp⟩
    case round =>
      obtain ⟨k, m, hk, rfl, rfl, HK⟩ := hrel
      by_cases hlt : k < n
      · obtain ⟨b, off, L, a, cL, rfl, _, HX, hc, _, hI⟩ := h.at_ hlt
        obtain ⟨b2, off2, M, a2, cM, rfl, _, HY, hc2, _, hI2⟩ := h2.at_ hlt
        have hlL := hx L (List.mem_of_getElem? HX.out)
        have hlM := hy M (List.mem_of_getElem? HY.out)
        have hk0 : (0 : Int) ≤ k := by omega
        have hk1 : (k : Int) < n := by omega
        obtain ⟨lL, hlLe⟩ : ∃ l, L.length = l := ⟨_, rfl⟩
        obtain ⟨lM, hlMe⟩ : ∃ l, M.length = l := ⟨_, rfl⟩
        rw [hlLe] at hc hI hlL
        rw [hlMe] at hc2 hI2 hlM
        have HLL := Lib.hid hlLe
        have HLM := Lib.hid hlMe
        clear hlLe hlMe
        by_cases hll : lL = lM
        · subst hll
          have e1 : ((lL : Int) == (lL : Int)) = true := by simp
          have e2 : ((lL : Int) != (lL : Int)) = false := by simp
          go_wp2
          go_quiet (fail)
          go_wp2
          go_loopw [33] (fun i wr => ∃ (j m : Nat), j ≤ lL ∧ i = .int .i64 j ∧ wr = w.drewN m ∧ Hid (L.take j = M.take j)) (fun i _ => lL - (intOf i).toNat)
          case atStart => exact ⟨0, _, Nat.zero_le _, rfl, rfl, by unfold Hid; simp⟩
          case round =>
            obtain ⟨j, m2, hj, rfl, rfl, HJ⟩ := hrel
            by_cases hjl : j < lL
            · obtain ⟨b3, off3, x, rfl, _, HX3, hc3, hx1, hx2⟩ := hI.at_ hjl
              obtain ⟨b4, off4, y, rfl, _, HY3, hc4, hy1, hy2⟩ := hI2.at_ hjl
              have hj0 : (0 : Int) ≤ j := by omega
              have hj1 : (j : Int) < lL := by omega
              by_cases hxy : x = y
              · have HN : Hid (L.take (j + 1) = M.take (j + 1)) := by unfold Hid; rw [take_succU HX3.out, take_succU HY3.out, HJ.out, hxy]
                have e1 : (x == y) = true := by simpa using hxy
                have e2 : (x != y) = false := by simpa using hxy
                clear hxy
                go_wp2
                go_quiet (fail)
                go_wp2
                go_roundw
                case rel => exact ⟨j + 1, _, by omega, by go_num, rfl, HN⟩
                case measure => simp [intOf]; omega
              · have HF : Hid (decide (XS = YS) = false) := by
                  unfold Hid; rw [decide_eq_false]; intro e; subst e
                  have e3 := HX.out; rw [HY.out] at e3; injection e3 with e3; subst e3
                  have := HX3.out; rw [HY3.out] at this; exact hxy (by injection this with this; exact this.symm)
                have e1 : (x == y) = false := by simpa using hxy
                have e2 : (x != y) = true := by simpa using hxy
                clear hxy
                go_wp2
                go_quiet (fail)
                go_wp2
                go_ret
                exact ⟨by rw [HF.out]; rfl, _, World.drewN_drewN _ _ _⟩
            · have HN : Hid (XS.take (k + 1) = YS.take (k + 1)) := by
                unfold Hid; rw [take_succU HX.out, take_succU HY.out, HK.out]
                have := HJ.out
                rw [List.take_of_length_le (by rw [HLL.out]; omega), List.take_of_length_le (by rw [HLM.out]; omega)] at this
                rw [this]
              go_wp2
              go_roundw
              case rel => exact ⟨k + 1, _, by omega, by go_num, rfl, HN⟩
              case measure => simp [intOf]; omega
        · have HF : Hid (decide (XS = YS) = false) := by
            unfold Hid; rw [decide_eq_false]; intro e; subst e
            have e3 := HX.out; rw [HY.out] at e3; injection e3 with e3; subst e3
            exact hll (by rw [← HLL.out, ← HLM.out])
          have e1 : ((lL : Int) == (lM : Int)) = false := by simp; omega
          have e2 : ((lL : Int) != (lM : Int)) = true := by simp; omega
          clear hll
          go_wp2
          go_quiet (fail)
          go_wp2
          go_ret
          exact ⟨by rw [HF.out]; rfl, _, World.drewN_drewN _ _ _⟩
      · have HF : Hid (decide (XS = YS) = true) := by
          unfold Hid; rw [decide_eq_true]; have := HK.out
          rwa [List.take_of_length_le (by rw [HL.out]; omega), List.take_of_length_le (by rw [HL2.out]; omega)] at this
        go_wp2
        go_ret
        exact ⟨by rw [HF.out]; rfl, _, rfl⟩
  · have HF : Hid (decide (XS = YS) = false) := by unfold Hid; rw [decide_eq_false]; intro e; subst e; exact hne (by rw [← HL.out, ← HL2.out])
    have hne1 : ((n : Int) == (n2 : Int)) = false := by simp; omega
    have hne2 : ((n : Int) != (n2 : Int)) = true := by simp; omega
    clear hne
    go_enter Tryd.func21, Tryd.ntmps21
    go_wp2
    go_ret
    exact ⟨by rw [HF.out]; rfl, 0, rfl⟩

end Go.Proofs.YtgkngimeokhhgaaDoor
/- What a run comes to, as it is handed on; the document's Same of two of them. -/
namespace Go.Proofs.YtgkngimeokhhgaaDoor
open Go.RowKit

structure Rq where
  A : Option Addr
  n : Nat
  c : Nat
  L : List (List Int)
  st : Int
  ce : Int
@[reducible] def Rq.val (r : Rq) : Value := .agg #[.slice r.A r.n r.c, .int .i64 r.st, .int .i64 r.ce]
@[reducible] def Rq.obj (r : Rq) : Obj := .cells #[.slice r.A r.n r.c, .int .i64 r.st, .int .i64 r.ce] 31
structure Rq.In (r : Rq) (w : World) : Prop where
  out : IntsLL w w.heap.size r.A r.n r.L
  few : r.n ≤ 100000
  all : ∀ l ∈ r.L, l.length ≤ 100000
theorem Rq.In.on {r : Rq} {w w' : World} (h : r.In w) (hb : Below w.heap.size w w') : r.In w' := ⟨(h.out.below hb).more hb.size, h.few, h.all⟩
def sameR (a b : Rq) : Bool := decide (a.st = b.st) && (decide (a.ce = b.ce) && decide (a.L = b.L))
theorem cells3U {W : World} {g : Nat} {u v x : Value} {t : TypeId} (h : W.heap[g]? = some (.cells #[u, v, x] t (0, 0))) :
    W.cell? ⟨g, 0, none⟩ = some u ∧ W.cell? ⟨g, 1, none⟩ = some v ∧ W.cell? ⟨g, 2, none⟩ = some x :=
  ⟨by simpa using cell_of_row _ _ 0 _ t (0, 0) h, by simpa using cell_of_row _ _ 1 _ t (0, 0) h, by simpa using cell_of_row _ _ 2 _ t (0, 0) h⟩
theorem ret_boolU {a b : Bool} (h : a = b) : Ending.returned (.bool a) = .returned (.bool b) := by rw [h]
end Go.Proofs.YtgkngimeokhhgaaDoor
/- The document's Run, Need and Path. -/
namespace Go.Proofs.YtgkngimeokhhgaaDoor
open Go.RowKit Go.Sort

/-- what a run is asked for -/
structure RunIn (q : Cq) (fuel : Int) (A : Option Addr) (n : Nat) (ins : List (List Int)) (M : Nat) (w : World) : Prop where
  code : q.In w
  rows : IntsLL w w.heap.size A n ins
  len : ∀ L ∈ ins, L.length ≤ M
  vals : ∀ L ∈ ins, ∀ v ∈ L, I64 v
  few : (M : Int) + fuel ≤ 900000
theorem RunIn.on {q : Cq} {fuel : Int} {A : Option Addr} {n M : Nat} {ins : List (List Int)} {w w' : World} (h : RunIn q fuel A n ins M w) (hb : Below w.heap.size w w') : RunIn q fuel A n ins M w' := ⟨h.code.on hb, (h.rows.below hb).more hb.size, h.len, h.vals, h.few⟩
/-- what it takes -/
noncomputable def needR (r : Except Int (Ms × List Nat)) : Int × Int × Int := match r with
  | .ok zp => ((zp.1.st : Int), (zp.1.ce : Int), 0)
  | .error e => (0, 0, e)
/-- where it goes -/
def pathR (r : Except Int (Ms × List Nat)) : List Int × Int := match r with
  | .ok zp => (zp.2.map fun n : Nat => (n : Int), 0)
  | .error e => ([], e)
theorem runM_err {c : Cd} {fuel cells v : Int} {ins : List (List Int)} (h : runM c fuel cells ins = .error v) : v ≠ 0 := by
  unfold runM at h
  split at h
  · rename_i h1
    injection h with h
    rw [← h]; exact h1
  · split at h
    · injection h with h; omega
    · rcases goM_errors h with h1 | h1 | ⟨h1, _⟩ <;> omega
theorem runM_ok {c : Cd} {fuel cells : Int} {ins : List (List Int)} {z : Ms} {p : List Nat} (h : runM c fuel cells ins = .ok (z, p)) : ∃ i : Nat, c.I = (i : Int) ∧ i ≤ z.A.length ∧ z.A.length ≤ 128 := by
  unfold runM at h
  split at h
  · cases h
  · rename_i h1
    split at h
    · cases h
    · rename_i h2
      have hv : validE c = 0 := Classical.byContradiction h1
      obtain ⟨⟨_, _, m2, m3, m4, m5, _, _⟩, _⟩ := Cd.may_parts (may_of_validE hv)
      have hk := (goM_keeps h).2.2.2.1
      have e : (startM c ins).A.length = ins.length + (c.A.toNat - ins.length) := by
        show (ins ++ List.replicate (c.A.toNat - ins.length) []).length = _
        rw [List.length_append, List.length_replicate]
      refine ⟨ins.length, ?_, ?_, ?_⟩
      · exact (Classical.byContradiction fun h3 => h2 (.inr (.inr h3))).symm
      · omega
      · have : (ins.length : Int) = c.I := Classical.byContradiction fun h3 => h2 (.inr (.inr h3))
        omega
theorem cells3V {W : World} {g : Nat} {u v x : Value} {t : TypeId} (h : W.heap[g]? = some (.cells #[u, v, x] t (0, 0))) :
    W.cell? ⟨g, 0, none⟩ = some u ∧ W.cell? ⟨g, 1, none⟩ = some v ∧ W.cell? ⟨g, 2, none⟩ = some x ∧ W.frozen? ⟨g, 0, none⟩ = false ∧ W.frozen? ⟨g, 1, none⟩ = false ∧ W.frozen? ⟨g, 2, none⟩ = false :=
  ⟨by simpa using cell_of_row _ _ 0 _ t (0, 0) h, by simpa using cell_of_row _ _ 1 _ t (0, 0) h, by simpa using cell_of_row _ _ 2 _ t (0, 0) h, by simp [World.frozen?, h], by simp [World.frozen?, h], by simp [World.frozen?, h]⟩
theorem three_cellsV {w : World} {g : Nat} {a b c : Value} {t : TypeId} (h : w.heap[g]? = some (.cells #[a, b, c] t (0, 0))) (x0 x1 x2 : Value) :
    (((w.setCell ⟨g, 0, none⟩ x0).setCell ⟨g, 1, none⟩ x1).setCell ⟨g, 2, none⟩ x2).heap[g]? = some (.cells #[x0, x1, x2] t (0, 0)) := by
  have h1 := set_j (i := 0) (cs := [a, b, c]) h x0
  have h2 := set_j (i := 1) (cs := [x0, b, c]) h1 x1
  exact set_j (i := 2) (cs := [x0, x1, c]) h2 x2
theorem MsW.put3 {w : World} {base gR gA g : Nat} {s : Ms} {rs : List RowU} {a b c : Value} (h : MsW w base gR gA s rs) (hg : w.heap[g]? = some (.cells #[a, b, c] 31 (0, 0))) (x0 x1 x2 : Value) : MsW (((w.setCell ⟨g, 0, none⟩ x0).setCell ⟨g, 1, none⟩ x1).setCell ⟨g, 2, none⟩ x2) base gR gA s rs := by
  have k0 := set_j (i := 0) (cs := [a, b, c]) hg x0
  have k1 := set_j (i := 1) (cs := [x0, b, c]) k0 x1
  exact ((h.box hg (by decide) (by decide) 0 x0).box k0 (by decide) (by decide) 1 x1).box k1 (by decide) (by decide) 2 x2
theorem MsW.lower {w : World} {base base' gR gA : Nat} {s : Ms} {rs : List RowU} (h : MsW w base gR gA s rs) (hb : base' ≤ base) : MsW w base' gR gA s rs := by
  refine ⟨h.R.mono hb, ⟨⟨h.A.rows.1, ?_⟩, fun r hr => (h.A.ins r hr).mono hb, h.A.apart⟩, h.L, h.far⟩
  rcases h.A.rows.2 with h1 | ⟨g, cap, cur, h1, h2, h3⟩
  · exact .inl h1
  · exact .inr ⟨g, cap, cur, h1, Nat.le_trans hb h2, h3⟩
/-- what comes out -/
def RunQ (q : Cq) (fuel cells : Int) (ins : List (List Int)) (w : World) (e : Ending) (w' : World) : Prop :=
  (∃ v, runM q.cd fuel cells ins = .error v ∧ e = .returned (.tuple #[.agg #[.slice none 0 0, .int .i64 0, .int .i64 0], .int .i64 v]) ∧ Below w.heap.size w w') ∨
  (∃ (z : Ms) (p : List Nat) (gR gA : Nat) (rs : List RowU) (i a : Nat), runM q.cd fuel cells ins = .ok (z, p) ∧ q.I = (i : Int) ∧ z.A.length = a ∧ i ≤ a ∧ (∃ X : Option Addr, (i < a → X = some ⟨gA, i, none⟩) ∧ e = .returned (.tuple #[.agg #[.slice X (a - i) (a - i), .int .i64 (z.st : Int), .int .i64 (z.ce : Int)], .int .i64 0])) ∧ MsW w' w.heap.size gR gA z rs ∧ Below w.heap.size w w')
end Go.Proofs.YtgkngimeokhhgaaDoor
/- The program's check and Run. -/
namespace Go.Proofs.YtgkngimeokhhgaaDoor
open Go.RowKit Go.Sort

theorem below_put3 {w0 w : World} {B g : Nat} (h : Below B w0 w) (hg : B ≤ g) (x0 x1 x2 : Value) : Below B w0 (((w.setCell ⟨g, 0, none⟩ x0).setCell ⟨g, 1, none⟩ x1).setCell ⟨g, 2, none⟩ x2) :=
  ((h.setCell (p := ⟨g, 0, none⟩) hg _).setCell (p := ⟨g, 1, none⟩) hg _).setCell (p := ⟨g, 2, none⟩) hg _
noncomputable def chk16 (c : Cd) (fuel cells : Int) (n : Nat) : Int := if validE c ≠ 0 then validE c else if fuel < 0 ∨ cells < 0 ∨ (n : Int) ≠ c.I then 1 else 0
set_option maxRecDepth 100000 in
set_option maxHeartbeats 4000000 in
theorem check16_any (q : Cq) (fuel cells : Int) (A : Option Addr) (n c : Nat) (w : World) (hq : q.In w) (hS : ShT w) :
    Calls Tryd.prog 28 #[q.val, .int .i64 fuel, .int .i64 cells, .slice A n c] w fun e w' => e = .returned (.int .i64 (chk16 q.cd fuel cells n)) ∧ Below w.heap.size w w' := by
  obtain ⟨W0, hW0⟩ : ∃ W, w.alloc q.obj = W := ⟨_, rfl⟩
  obtain ⟨g0, hg0⟩ : ∃ z, w.heap.size = z := ⟨_, rfl⟩
  have hb1 : Below w.heap.size w W0 := by rw [← hW0]; exact lvBelow w _
  have h1 : W0.heap[g0]? = some q.obj := by rw [← hW0, ← hg0]; exact heap_alloc_new w _
  have HB0 := Lib.hid hb1
  have HX0 := Lib.hid h1
  have hC := validCheck_any q W0 (hq.on hb1) (hS.on hb1)
  unfold ValidP at hC
  unfold chk16
  obtain ⟨v, hv⟩ : ∃ v, validE q.cd = v := ⟨_, rfl⟩
  rw [hv] at hC ⊢
  obtain ⟨R, A0, I, P, n0, c0, l⟩ := q
  have hIe : (Cq.cd ⟨R, A0, I, P, n0, c0, l⟩).I = I := rfl
  rw [hIe]
  obtain ⟨k0, k1, k2, k3, _⟩ := lvCells h1
  clear hb1 h1 hq hS hv hIe
  by_cases hv0 : v = 0
  case neg =>
    rw [if_pos hv0]
    have d0 : (v != 0) = true := by simpa using hv0
    clear hv0
    go_enter Tryd.func28, Tryd.ntmps28
    go_wp2_with fail
    try rw [hW0]
    try rw [hg0]
    (with_reducible refine hC.mono ?_)
    rintro e w3 ⟨rfl, hb3⟩
    have HB3 := Lib.hid (HB0.out.trans (hb3.mono HB0.out.size))
    clear hb3 hC k0 k1 k2 k3 hW0 hg0
    go_wp2_with fail
    go_ret
    exact ⟨rfl, HB3.out⟩
  subst hv0
  rw [if_neg (by simp)]
  by_cases h1 : fuel < 0
  · have d1 : decide (fuel < 0) = true := decide_eq_true h1
    rw [if_pos (.inl h1)]
    clear h1
    go_enter Tryd.func28, Tryd.ntmps28
    go_wp2_with fail
    try rw [hW0]
    try rw [hg0]
    (with_reducible refine hC.mono ?_)
    rintro e w3 ⟨rfl, hb3⟩
    have HB3 := Lib.hid (HB0.out.trans (hb3.mono HB0.out.size))
    clear hb3 hC k0 k1 k2 k3 hW0 hg0
    go_wp2_with fail
    go_ret
    exact ⟨rfl, HB3.out⟩
  have d1 : decide (fuel < 0) = false := decide_eq_false h1
  by_cases h2 : cells < 0
  · have d2 : decide (cells < 0) = true := decide_eq_true h2
    rw [if_pos (.inr (.inl h2))]
    clear h1 h2
    go_enter Tryd.func28, Tryd.ntmps28
    go_wp2_with fail
    try rw [hW0]
    try rw [hg0]
    (with_reducible refine hC.mono ?_)
    rintro e w3 ⟨rfl, hb3⟩
    have HB3 := Lib.hid (HB0.out.trans (hb3.mono HB0.out.size))
    clear hb3 hC k0 k1 k2 k3 hW0 hg0
    go_wp2_with fail
    go_ret
    exact ⟨rfl, HB3.out⟩
  have d2 : decide (cells < 0) = false := decide_eq_false h2
  obtain ⟨b, hb⟩ : ∃ b, ((n : Int) != I) = b := ⟨_, rfl⟩
  have hr : (if fuel < 0 ∨ cells < 0 ∨ (n : Int) ≠ I then (1 : Int) else 0) = if b = true then 1 else 0 := by
    cases b with
    | true => rw [if_pos (.inr (.inr (by simpa using hb))), if_pos rfl]
    | false => rw [if_neg (by rintro (h | h | h); · exact h1 h
                              · exact h2 h
                              · have := (by simpa using hb : (n : Int) = I); exact h this), if_neg (by simp)]
  rw [hr]
  clear h1 h2 hr
  cases b with
  | true =>
    go_enter Tryd.func28, Tryd.ntmps28
    go_wp2_with fail
    try rw [hW0]
    try rw [hg0]
    (with_reducible refine hC.mono ?_)
    rintro e w3 ⟨rfl, hb3⟩
    have HB3 := Lib.hid (HB0.out.trans (hb3.mono HB0.out.size))
    have HX3 := Lib.hid (keep_b hb3 HX0.out)
    clear hb3 hC k0 k1 k2 k3 hW0 hg0
    obtain ⟨k0, k1, k2, k3, _⟩ := lvCells HX3.out
    go_wp2_with fail
    go_ret
    exact ⟨rfl, HB3.out⟩
  | false =>
    go_enter Tryd.func28, Tryd.ntmps28
    go_wp2_with fail
    try rw [hW0]
    try rw [hg0]
    (with_reducible refine hC.mono ?_)
    rintro e w3 ⟨rfl, hb3⟩
    have HB3 := Lib.hid (HB0.out.trans (hb3.mono HB0.out.size))
    have HX3 := Lib.hid (keep_b hb3 HX0.out)
    clear hb3 hC k0 k1 k2 k3 hW0 hg0
    obtain ⟨k0, k1, k2, k3, _⟩ := lvCells HX3.out
    go_wp2_with fail
    go_ret
    exact ⟨rfl, HB3.out⟩
/-- what a run comes to -/
def RunO (q : Cq) (fuel cells : Int) (ins : List (List Int)) (w : World) (e : Ending) (w' : World) : Prop :=
  (∃ v, runM q.cd fuel cells ins = .error v ∧ e = .returned (.tuple #[.agg #[.slice none 0 0, .int .i64 0, .int .i64 0], .int .i64 v]) ∧ Below w.heap.size w w') ∨
  (∃ z p i a gO rs, runM q.cd fuel cells ins = .ok (z, p) ∧ q.I = ((i : Nat) : Int) ∧ z.A.length = a ∧ i ≤ a ∧ e = .returned (.tuple #[.agg #[.slice (some ⟨gO, 0, none⟩) (a - i) (a - i), .int .i64 (z.st : Int), .int .i64 (z.ce : Int)], .int .i64 0]) ∧ RowsU w' w.heap.size gO rs ∧ rs.map (·.L) = z.A.drop i ∧ Below w.heap.size w w')
theorem chk_runM {c : Cd} {fuel cells : Int} {ins : List (List Int)} {n : Nat} (hn : ins.length = n) : (chk16 c fuel cells n ≠ 0 → runM c fuel cells ins = .error (chk16 c fuel cells n)) ∧ (chk16 c fuel cells n = 0 → runM c fuel cells ins = goM c cells fuel.toNat (startM c ins) ∧ validE c = 0 ∧ 0 ≤ fuel ∧ 0 ≤ cells ∧ (ins.length : Int) = c.I) := by
  subst hn
  unfold chk16 runM
  by_cases h0 : validE c ≠ 0
  · rw [if_pos h0, if_pos h0]
    exact ⟨fun _ => rfl, fun h => absurd h h0⟩
  · rw [if_neg h0, if_neg h0]
    by_cases h1 : fuel < 0 ∨ cells < 0 ∨ (ins.length : Int) ≠ c.I
    · rw [if_pos h1, if_pos h1]
      exact ⟨fun _ => rfl, fun h => absurd h (by decide)⟩
    · rw [if_neg h1, if_neg h1]
      exact ⟨fun h => absurd rfl h, fun _ => ⟨rfl, Classical.byContradiction h0, by omega, by omega, Classical.byContradiction fun h => h1 (.inr (.inr h))⟩⟩
theorem valid_own {c : Cd} (h : validE c = 0) : ∀ x ∈ c.l, x.op = 7 ∨ x.op = 9 → c.I ≤ x.a := by
  unfold validE at h
  split at h
  · cases h
  · split at h
    · cases h
    · split at h
      · cases h
      · rename_i h1
        intro x hx ho
        refine Classical.byContradiction fun h2 => h1 (List.any_eq_true.2 ⟨x, hx, ?_⟩)
        rw [Bool.and_eq_true, Bool.or_eq_true]
        refine ⟨?_, decide_eq_true (by omega)⟩
        rcases ho with ho | ho
        · exact .inl (by simp [ho])
        · exact .inr (by simp [ho])
/-- where a machine stands that begins -/
theorem MsAt.begin {m : Mc} {c : Cd} {M : Nat} {fuel cells : Int} {ins : List (List Int)} (_hm : McOk m c M) (h : validE c = 0) (hf : 0 ≤ fuel) (hc : 0 ≤ cells) (hfm : m.fuel = fuel) (hcm : m.cells = cells) (hi : (ins.length : Int) = c.I) (hv : ∀ l ∈ ins, ∀ v ∈ l, I64 v) (hl : ∀ l ∈ ins, l.length ≤ M) : MsAt m c M (startM c ins) := by
  obtain ⟨⟨_, _, m2, m3, m4, m5, _, _⟩, _⟩ := Cd.may_parts (may_of_validE h)
  refine ⟨MsOk.start (by omega) hv hl, Way.start, ?_, ?_, Nat.le_refl _⟩
  · rw [hfm]; exact hf
  · rw [hcm]; exact hc
set_option maxRecDepth 100000 in
set_option maxHeartbeats 8000000 in
theorem run16_any (q : Cq) (fuel cells : Int) (A : Option Addr) (n c : Nat) (ins : List (List Int)) (M : Nat) (w : World) (h : RunIn q fuel A n ins M w) (hS : ShT w) :
    Calls Tryd.prog 12 #[q.val, .int .i64 fuel, .int .i64 cells, .slice A n c] w (RunO q fuel cells ins w) := by
  obtain ⟨W0, hW0⟩ : ∃ W, (w.alloc q.obj).alloc (.cells #[.slice none 0 0, .int .i64 0, .int .i64 0] 31) = W := ⟨_, rfl⟩
  obtain ⟨g0, hg0⟩ : ∃ z, w.heap.size = z := ⟨_, rfl⟩
  have hba := lvBelow w q.obj
  have hbb := lvBelow (w.alloc q.obj) (.cells #[.slice none 0 0, .int .i64 0, .int .i64 0] 31)
  have hb1 := hba.trans (hbb.mono hba.size)
  have h1 := keep_b hbb (heap_alloc_new w q.obj)
  have h2 := heap_alloc_new (w.alloc q.obj) (.cells #[.slice none 0 0, .int .i64 0, .int .i64 0] 31)
  rw [hW0] at hb1 h1 h2
  simp only [World.size_alloc] at h2
  rw [hg0] at h1 h2
  have HB0 := Lib.hid hb1
  have HG0 := Lib.hid hg0
  have HX0 := Lib.hid h1
  have HZ0 := Lib.hid h2
  have HIN := Lib.hid h
  have hC := check16_any q fuel cells A n c W0 (h.code.on hb1) (hS.on hb1)
  obtain ⟨u, hu⟩ : ∃ u, chk16 q.cd fuel cells n = u := ⟨_, rfl⟩
  obtain ⟨hr1, hr2⟩ := chk_runM (c := q.cd) (fuel := fuel) (cells := cells) h.rows.1
  rw [hu] at hC hr1 hr2
  have HR1 := Lib.hid hr1
  have HR2 := Lib.hid hr2
  obtain ⟨R, A0, I, P, n0, c0, l⟩ := q
  obtain ⟨k0, k1, k2, k3, _⟩ := lvCells h1
  clear hb1 hba hbb h1 h2 h hu hr1 hr2 hS
  go_enter Tryd.func12, Tryd.ntmps12
  go_wp2_with fail
  try rw [hW0]
  try rw [hg0]
  (with_reducible refine hC.mono ?_)
  rintro e w3 ⟨rfl, hb3⟩
  have HB3 := Lib.hid (HB0.out.trans (hb3.mono HB0.out.size))
  have HX3 := Lib.hid (keep_b hb3 HX0.out)
  have HZ3 := Lib.hid (keep_b hb3 HZ0.out)
  clear hb3 hC k0 k1 k2 k3 hW0 hg0
  by_cases hv0 : u = 0
  case neg =>
    have d0 : (u != 0) = true := by simpa using hv0
    have HR := Lib.hid (HR1.out hv0)
    clear hv0
    obtain ⟨u0, u1, u2, f0, f1, f2⟩ := cells3V HZ3.out
    go_wp2_with fail
    obtain ⟨s0, s1, s2, _⟩ := cells3V (three_cellsV HZ3.out (.slice none 0 0) (.int .i64 0) (.int .i64 0))
    exact bodyPost_ret (v := .tuple #[.agg #[.slice none 0 0, .int .i64 0, .int .i64 0], .int .i64 u]) (by simp [results, Tryd.results12, go_sem, s0, s1, s2]) rfl (.inl ⟨u, HR.out, rfl, below_put3 HB3.out (by have := HG0.out; omega) _ _ _⟩)
  subst hv0
  obtain ⟨hrun, hval, hf0, hc0, hil⟩ := HR2.out rfl
  have hmay := may_of_validE hval
  have hil : (ins.length : Int) = I := hil
  have hB := begin_any ⟨R, A0, I, P, n0, c0, l⟩ fuel cells A n c ins w3 (HIN.out.code.on HB3.out) ((HIN.out.rows.below HB3.out).more HB3.out.size) hmay hil
  have HRUN := Lib.hid hrun
  have HVAL := Lib.hid hval
  have HFC := Lib.hid (And.intro hf0 (And.intro hc0 hil))
  obtain ⟨k0, k1, k2, k3, _⟩ := lvCells HX3.out
  clear hrun hval hf0 hc0 hil hmay
  go_upto_region 4 with fail
  go_wp2_with (first | (go_at_call 29; (with_reducible refine hB.mono ?_); rintro e w4 ⟨m, rs, rfl, hM, hmc, hb4⟩))
  obtain ⟨m1, m2, m3, m4, m5, m6, _⟩ := hmc
  have hlen : l.length = n0 := HIN.out.code.len
  have hfew := HIN.out.few
  have hok : McOk m (Cq.cd ⟨R, A0, I, P, n0, c0, l⟩) M := ⟨m1, m2.trans hlen.symm, may_of_validE HVAL.out, fun x hx ho => by rw [m3]; exact valid_own HVAL.out x hx ho, HIN.out.code.ins.2.1, by have := HFC.out.2.2; rw [m4]; omega, m3, by rw [m5]; exact hfew, by rw [m6]; exact HFC.out.2.1⟩
  have hat := MsAt.begin hok HVAL.out HFC.out.1 HFC.out.2.1 m5 m6 HFC.out.2.2 HIN.out.vals HIN.out.len
  have hF := finish_any m _ M _ rs w3.heap.size w4 hM hok hat
  have hst : (startM (Cq.cd ⟨R, A0, I, P, n0, c0, l⟩) ins).st = 0 := rfl
  rw [hst, m5, m6, show (fuel - ((0 : Nat) : Int)).toNat = fuel.toNat by simp, ← HRUN.out] at hF
  have HX4 := Lib.hid (keep_b hb4 HX3.out)
  have HZ4 := Lib.hid (keep_b hb4 HZ3.out)
  have HB4 := Lib.hid (HB3.out.trans (hb4.mono HB3.out.size))
  have HMI : Hid ((m.i : Int) = I) := m3
  have HS3 : Hid (g0 + 1 < w3.heap.size) := lt_of_heap HZ3.out
  have HS34 : Hid (w.heap.size ≤ w3.heap.size) := HB3.out.size
  clear hM hok hat hst m1 m2 m3 m4 m5 m6 hlen hfew hb4 hB k0 k1 k2 k3
  (with_reducible refine hF.mono ?_)
  rintro e w5 (⟨v, hr, rfl, hb5⟩ | ⟨z, p, rs', hr, rfl, hM, hb5⟩)
  · have d0 : (v != 0) = true := by
      rcases goM_errors ((HRUN.out.symm.trans hr)) with h1 | h1 | ⟨h1, _⟩ <;> (subst h1; decide)
    have HR := Lib.hid hr
    have HZ5 : Hid (w5.heap[g0 + 1]? = some (.cells #[.slice none 0 0, .int .i64 0, .int .i64 0] 31 (0, 0))) := (hb5.bel.block _ HS3.out).trans HZ4.out
    have HB5 := Lib.hid (HB4.out.trans (hb5.bel.mono HS34.out))
    clear hr hb5 hF
    obtain ⟨u0, u1, u2, f0, f1, f2⟩ := cells3V HZ5.out
    go_wp2_with fail
    obtain ⟨s0, s1, s2, _⟩ := cells3V (three_cellsV HZ5.out (.slice none 0 0) (.int .i64 0) (.int .i64 0))
    exact bodyPost_ret (v := .tuple #[.agg #[.slice none 0 0, .int .i64 0, .int .i64 0], .int .i64 v]) (by simp [results, Tryd.results12, go_sem, s0, s1, s2]) rfl (.inl ⟨v, HR.out, rfl, below_put3 HB5.out (by have := HG0.out; omega) _ _ _⟩)
  · have HR := Lib.hid hr
    have HZ5 : Hid (w5.heap[g0 + 1]? = some (.cells #[.slice none 0 0, .int .i64 0, .int .i64 0] 31 (0, 0))) := (hb5.bel.block _ HS3.out).trans HZ4.out
    have HB5 := Lib.hid (HB4.out.trans (hb5.bel.mono HS34.out))
    have HMF := Lib.hid hM
    obtain ⟨x0, x1, x2, x3, x4, x5, x6, x7, x8, x9, x10, x11, x12, x13⟩ := MsM.cells hM
    clear hr hb5 hF hM x3 x4 x5 x6 x7 x8 x9 x10 x11 x12 x13
    obtain ⟨u0, u1, u2, f0, f1, f2⟩ := cells3V HZ5.out
    go_wp2_with fail
    obtain ⟨s0, s1, s2, _⟩ := cells3V (three_cellsV HZ5.out (.slice (some ⟨m.gO, 0, none⟩) m.na m.na) (.int .i64 (z.st : Int)) (.int .i64 (z.ce : Int)))
    obtain ⟨i, hi, hia, _⟩ := runM_ok HR.out
    have hmi : m.i = i := by have h1 := HMI.out; have h2 : I = (i : Int) := hi; omega
    have hna : m.na = z.A.length - m.i := by rw [← HMF.out.na, List.length_drop]
    have hMp := (HMF.out.M.lower HS34.out).put3 HZ5.out (.slice (some ⟨m.gO, 0, none⟩) m.na m.na) (.int .i64 (z.st : Int)) (.int .i64 (z.ce : Int))
    exact bodyPost_ret (v := .tuple #[.agg #[.slice (some ⟨m.gO, 0, none⟩) m.na m.na, .int .i64 (z.st : Int), .int .i64 (z.ce : Int)], .int .i64 0]) (by simp [results, Tryd.results12, go_sem, s0, s1, s2]) rfl (.inr ⟨z, p, m.i, z.A.length, m.gO, rs', HR.out, HMI.out.symm, rfl, (by rw [hmi]; exact hia), (by rw [hna]), hMp.A, hMp.L, below_put3 HB5.out (by have := HG0.out; omega) _ _ _⟩)
end Go.Proofs.YtgkngimeokhhgaaDoor
/- How long arrays get; what a run comes to within other steps and room. -/
namespace Go.Proofs.YtgkngimeokhhgaaDoor
open Go.RowKit

theorem a_long {M : Nat} {s : Ms} (hl : ∀ l ∈ s.A, l.length ≤ M + s.ce) (i : Int) : (s.a i).length ≤ M + s.ce := by
  rcases getD_mem (l := s.A) (i := i.toNat) (d := []) with h1 | h1
  · exact hl _ h1
  · have : s.a i = [] := h1
    rw [this]; exact Nat.zero_le _
theorem doM_A {s z : Ms} {x : Ji} {cells : Int} (h : doM s x cells = .ok z) : (z.A = s.A ∧ z.ce = s.ce) ∨ (∃ (i : Int) (L : List Int), z.A = s.A.set i.toNat L ∧ L.length ≤ (s.a i).length ∧ z.ce = s.ce) ∨ (∃ (i v : Int), z.A = s.A.set i.toNat (s.a i ++ [v]) ∧ z.ce = s.ce + 1) := by
  by_cases e1 : x.op = 1
  · unfold doM at h; rw [if_pos e1] at h; injection h with h; subst h; exact .inl ⟨rfl, rfl⟩
  by_cases e2 : x.op = 2
  · unfold doM at h; rw [if_neg e1, if_pos e2] at h; injection h with h; subst h; exact .inl ⟨rfl, rfl⟩
  by_cases e3 : x.op = 3
  · unfold doM at h; rw [if_neg e1, if_neg e2, if_pos e3] at h; injection h with h; subst h; exact .inl ⟨rfl, rfl⟩
  by_cases e4 : x.op = 4
  · unfold doM at h; rw [if_neg e1, if_neg e2, if_neg e3, if_pos e4] at h; injection h with h; subst h; exact .inl ⟨rfl, rfl⟩
  by_cases e5 : x.op = 5
  · unfold doM at h; rw [if_neg e1, if_neg e2, if_neg e3, if_neg e4, if_pos e5] at h; injection h with h; subst h; exact .inl ⟨rfl, rfl⟩
  by_cases e6 : x.op = 6
  · unfold doM at h; rw [if_neg e1, if_neg e2, if_neg e3, if_neg e4, if_neg e5, if_pos e6] at h; split at h
    · cases h
    · injection h with h; subst h; exact .inl ⟨rfl, rfl⟩
  by_cases e7 : x.op = 7
  · unfold doM at h; rw [if_neg e1, if_neg e2, if_neg e3, if_neg e4, if_neg e5, if_neg e6, if_pos e7] at h; split at h
    · cases h
    · injection h with h; subst h; exact .inr (.inl ⟨x.a, _, rfl, by rw [List.length_set]; exact Nat.le_refl _, rfl⟩)
  by_cases e8 : x.op = 8
  · unfold doM at h; rw [if_neg e1, if_neg e2, if_neg e3, if_neg e4, if_neg e5, if_neg e6, if_neg e7, if_pos e8] at h; injection h with h; subst h; exact .inl ⟨rfl, rfl⟩
  by_cases e9 : x.op = 9
  · unfold doM at h; rw [if_neg e1, if_neg e2, if_neg e3, if_neg e4, if_neg e5, if_neg e6, if_neg e7, if_neg e8, if_pos e9] at h; split at h
    · cases h
    · injection h with h; subst h; exact .inr (.inr ⟨x.a, _, rfl, rfl⟩)
  by_cases e10 : x.op = 10
  · unfold doM at h; rw [if_neg e1, if_neg e2, if_neg e3, if_neg e4, if_neg e5, if_neg e6, if_neg e7, if_neg e8, if_neg e9, if_pos e10] at h; injection h with h; subst h; exact .inl ⟨rfl, rfl⟩
  by_cases e11 : x.op = 11
  · unfold doM at h; rw [if_neg e1, if_neg e2, if_neg e3, if_neg e4, if_neg e5, if_neg e6, if_neg e7, if_neg e8, if_neg e9, if_neg e10, if_pos e11] at h; split at h
    · injection h with h; subst h; exact .inl ⟨rfl, rfl⟩
    · injection h with h; subst h; exact .inl ⟨rfl, rfl⟩
  by_cases e12 : x.op = 12
  · unfold doM at h; rw [if_neg e1, if_neg e2, if_neg e3, if_neg e4, if_neg e5, if_neg e6, if_neg e7, if_neg e8, if_neg e9, if_neg e10, if_neg e11, if_pos e12] at h; split at h
    · injection h with h; subst h; exact .inl ⟨rfl, rfl⟩
    · injection h with h; subst h; exact .inl ⟨rfl, rfl⟩
  unfold doM at h; rw [if_neg e1, if_neg e2, if_neg e3, if_neg e4, if_neg e5, if_neg e6, if_neg e7, if_neg e8, if_neg e9, if_neg e10, if_neg e11, if_neg e12] at h; injection h with h; subst h; exact .inl ⟨rfl, rfl⟩
theorem doM_long {M : Nat} {s z : Ms} {x : Ji} {cells : Int} (h : doM s x cells = .ok z) (hl : ∀ l ∈ s.A, l.length ≤ M + s.ce) : ∀ l ∈ z.A, l.length ≤ M + z.ce := by
  rcases doM_A h with ⟨h1, h2⟩ | ⟨i, L, h1, h3, h2⟩ | ⟨i, v, h1, h2⟩
  · rw [h1, h2]; exact hl
  · rw [h1, h2]
    intro l hm
    rcases List.mem_or_eq_of_mem_set hm with h4 | h4
    · exact hl l h4
    · rw [h4]; exact Nat.le_trans h3 (a_long hl i)
  · rw [h1, h2]
    intro l hm
    rcases List.mem_or_eq_of_mem_set hm with h4 | h4
    · have := hl l h4; omega
    · rw [h4, List.length_append]; have := a_long hl i; simp; omega
theorem goM_long {M : Nat} {c : Cd} {cells : Int} : ∀ {k : Nat} {s z : Ms} {p : List Nat}, (∀ l ∈ s.A, l.length ≤ M + s.ce) → goM c cells k s = .ok (z, p) → ∀ l ∈ z.A, l.length ≤ M + z.ce
  | 0, _, _, _, _, h => by cases h
  | k + 1, s, z, p, hl, h => by
    unfold goM at h
    split at h
    · cases h
    · rename_i s2 hs
      have h2 : ∀ l ∈ s2.A, l.length ≤ M + s2.ce := doM_long (s := s.tick) hs hl
      split at h
      · injection h with h; injection h with h1 _
        subst h1; exact h2
      · split at h
        · cases h
        · rename_i zp hg
          obtain ⟨z2, p2⟩ := zp
          injection h with h; injection h with h1 _
          subst h1
          exact goM_long h2 hg
section
variable {c : Cd} {fuel cells : Int} {ins : List (List Int)} {z : Ms} {p : List Nat}
theorem runM_parts (h : runM c fuel cells ins = .ok (z, p)) : validE c = 0 ∧ 0 ≤ fuel ∧ 0 ≤ cells ∧ (ins.length : Int) = c.I ∧ goM c cells fuel.toNat (startM c ins) = .ok (z, p) := by
  unfold runM at h
  split at h
  · cases h
  · rename_i h1
    split at h
    · cases h
    · rename_i h2
      exact ⟨Classical.byContradiction h1, by omega, by omega, Classical.byContradiction fun h3 => h2 (.inr (.inr h3)), h⟩
theorem runM_go {fuel2 cells2 : Int} (h : runM c fuel cells ins = .ok (z, p)) (h0 : 0 ≤ fuel2) (h1 : 0 ≤ cells2) : runM c fuel2 cells2 ins = goM c cells2 fuel2.toNat (startM c ins) := by
  obtain ⟨a, _, _, b, _⟩ := runM_parts h
  unfold runM
  rw [if_neg (by rw [a]; simp), if_neg (by rintro (h3 | h3 | h3) <;> omega)]
theorem runM_keeps (h : runM c fuel cells ins = .ok (z, p)) : z.st = p.length ∧ 1 ≤ p.length ∧ (p.length : Int) ≤ fuel ∧ (z.ce : Int) ≤ cells ∧ z.ce ≤ p.length := by
  obtain ⟨_, h1, h2, _, hg⟩ := runM_parts h
  obtain ⟨k1, k2, k3, _, _, k6⟩ := goM_keeps hg
  have k1 : z.st = 0 + p.length := k1
  have k6 := k6 (by show ((0 : Nat) : Int) ≤ cells; omega)
  refine ⟨by omega, k2, by omega, k6, ?_⟩
  by_cases hc : (z.ce : Int) ≤ (p.length : Int)
  · omega
  · exfalso
    have := goM_short hg (Nat.le_refl _) (show (((startM c ins).ce : Nat) : Int) ≤ (p.length : Int) from by show ((0 : Nat) : Int) ≤ _; omega) (cells2 := (p.length : Int)) (by omega)
    have hb : ∀ {k : Nat} {s : Ms} {cc : Int}, goM c cc k s = .error 10 → cc < (s.ce : Int) + k := by
      intro k
      induction k with
      | zero => intro s cc hh; injection hh with hh; cases hh
      | succ k ih =>
        intro s cc hh
        unfold goM at hh
        split at hh
        · rename_i e he
          injection hh with hh
          subst hh
          rcases doM_errors he with ⟨h5, _⟩ | ⟨_, _, h5⟩
          · cases h5
          · have h5 : cc ≤ ((s.ce : Nat) : Int) := h5
            omega
        · rename_i s2 hs
          split at hh
          · cases hh
          · split at hh
            · rename_i e he
              injection hh with hh
              subst hh
              have h6 := ih he
              have h7 : s2.ce = s.ce + _ := (doM_keeps hs).2.2.2.2.1
              have h8 : s2.ce ≤ s.ce + 1 := by rw [h7]; split <;> omega
              omega
            · cases hh
    have h9 := hb this
    have h9 : (p.length : Int) < ((0 : Nat) : Int) + (p.length : Nat) := h9
    omega
theorem runM_long {M : Nat} (h : runM c fuel cells ins = .ok (z, p)) (hl : ∀ L ∈ ins, L.length ≤ M) : ∀ l ∈ z.A, l.length ≤ M + p.length := by
  obtain ⟨_, _, _, _, hg⟩ := runM_parts h
  have hk := (runM_keeps h).2.2.2.2
  intro l hm
  have := goM_long (M := M) (fun l hm => by
    rcases List.mem_append.1 hm with h1 | h1
    · exact Nat.le_trans (hl l h1) (Nat.le_add_right _ _)
    · rw [(List.mem_replicate.1 h1).2]; exact Nat.zero_le _) hg l hm
  omega
theorem runM_more {fuel2 cells2 : Int} (h : runM c fuel cells ins = .ok (z, p)) (h1 : (p.length : Int) ≤ fuel2) (h2 : (z.ce : Int) ≤ cells2) : runM c fuel2 cells2 ins = .ok (z, p) := by
  rw [runM_go h (by omega) (by omega)]
  exact goM_more (runM_parts h).2.2.2.2 (by omega) h2
theorem runM_fewer {fuel2 cells2 : Int} (h : runM c fuel cells ins = .ok (z, p)) (h0 : 0 ≤ fuel2) (h1 : fuel2 < (p.length : Int)) (h2 : (z.ce : Int) ≤ cells2) : runM c fuel2 cells2 ins = .error 9 := by
  rw [runM_go h h0 (by omega)]
  exact goM_fewer (runM_parts h).2.2.2.2 (by omega) h2
theorem runM_short {fuel2 cells2 : Int} (h : runM c fuel cells ins = .ok (z, p)) (h1 : (p.length : Int) ≤ fuel2) (h2 : 0 ≤ cells2) (h3 : cells2 < (z.ce : Int)) : runM c fuel2 cells2 ins = .error 10 := by
  rw [runM_go h (by omega) h2]
  exact goM_short (runM_parts h).2.2.2.2 (by omega) (by show ((0 : Nat) : Int) ≤ _; omega) h3
end
end Go.Proofs.YtgkngimeokhhgaaDoor
/- What a run comes to, as it is read. -/
namespace Go.Proofs.YtgkngimeokhhgaaDoor
open Go.RowKit Go.Sort

theorem IntsLL.dropU {w : World} {B n b off k : Nat} {LL : List (List Int)} (h : IntsLL w B (some ⟨b, off, none⟩) n LL) (hk : k ≤ n) : IntsLL w B (some ⟨b, off + k, none⟩) (n - k) (LL.drop k) := by
  refine ⟨by rw [List.length_drop, h.1], fun h0 => ?_⟩
  obtain ⟨b2, off2, e, hB, hx⟩ := h.2 (by omega)
  injection e with e; injection e with e1 e2
  subst e1; subst e2
  refine ⟨b, off + k, rfl, hB, fun j L hL => ?_⟩
  rw [List.getElem?_drop] at hL
  obtain ⟨a, c, h1, h2⟩ := hx _ L hL
  rw [show off + k + j = off + (k + j) by omega]
  exact ⟨a, c, h1, h2⟩
/-- what came out, read -/
theorem MsW.rq {w : World} {base gR gA i a : Nat} {z : Ms} {rs : List RowU} {X : Option Addr} (h : MsW w base gR gA z rs) (ha : z.A.length = a) (hi : i ≤ a) (hX : i < a → X = some ⟨gA, i, none⟩) (h1 : a ≤ 128) (hl : ∀ l ∈ z.A, l.length ≤ 100000) :
    Rq.In ⟨X, a - i, a - i, z.A.drop i, (z.st : Int), (z.ce : Int)⟩ w := by
  have hr := h.A.reads
  rw [h.L, h.len, ha] at hr
  refine ⟨?_, by show a - i ≤ 100000; omega, fun l hm => hl l (List.mem_of_mem_drop hm)⟩
  show IntsLL w w.heap.size X (a - i) (z.A.drop i)
  by_cases hia : i < a
  · rw [hX hia]
    have := hr.dropU (k := i) hi
    rwa [Nat.zero_add] at this
  · exact ⟨by rw [List.length_drop, ha], fun h0 => by omega⟩
theorem sameR_refl (a b : Rq) (h1 : a.st = b.st) (h2 : a.ce = b.ce) (h3 : a.L = b.L) : sameR a b = true := by unfold sameR; simp [h1, h2, h3]
end Go.Proofs.YtgkngimeokhhgaaDoor
/- The program's Need. -/
namespace Go.Proofs.YtgkngimeokhhgaaDoor
open Go.RowKit Go.Sort

/-- what came out, read -/
theorem rowsU_rq {w : World} {base gO i a : Nat} {z : Ms} {rs : List RowU} (h : RowsU w base gO rs) (hL : rs.map (·.L) = z.A.drop i) (ha : z.A.length = a) (h1 : a ≤ 128) (hl : ∀ l ∈ z.A, l.length ≤ 100000) :
    Rq.In ⟨some ⟨gO, 0, none⟩, a - i, a - i, z.A.drop i, (z.st : Int), (z.ce : Int)⟩ w := by
  have hr := h.reads
  have hlen : rs.length = a - i := by
    have : (rs.map (·.L)).length = _ := congrArg List.length hL
    rw [List.length_map, List.length_drop, ha] at this
    exact this
  rw [hL, hlen] at hr
  exact ⟨hr, by show a - i ≤ 100000; omega, fun l hm => hl l (List.mem_of_mem_drop hm)⟩
set_option maxRecDepth 100000 in
set_option maxHeartbeats 8000000 in
theorem need16_any (q : Cq) (fuel cells : Int) (A : Option Addr) (n c : Nat) (ins : List (List Int)) (M : Nat) (w : World) (h : RunIn q fuel A n ins M w) (hS : ShT w) :
    Calls Tryd.prog 33 #[q.val, .int .i64 fuel, .int .i64 cells, .slice A n c] w fun e w' => e = .returned (.tuple #[.int .i64 (needR (runM q.cd fuel cells ins)).1, .int .i64 (needR (runM q.cd fuel cells ins)).2.1, .int .i64 (needR (runM q.cd fuel cells ins)).2.2]) ∧ Below w.heap.size w w' := by
  obtain ⟨W0, hW0⟩ : ∃ W, w.alloc q.obj = W := ⟨_, rfl⟩
  obtain ⟨g0, hg0⟩ : ∃ z, w.heap.size = z := ⟨_, rfl⟩
  have hb1 : Below w.heap.size w W0 := by rw [← hW0]; exact lvBelow w _
  have h1 : W0.heap[g0]? = some q.obj := by rw [← hW0, ← hg0]; exact heap_alloc_new w _
  have HB0 := Lib.hid hb1
  have hC := run16_any q fuel cells A n c ins M W0 (h.on hb1) (hS.on hb1)
  unfold RunO at hC
  obtain ⟨rr, hrr⟩ : ∃ rr, runM q.cd fuel cells ins = rr := ⟨_, rfl⟩
  rw [hrr] at hC ⊢
  obtain ⟨R, A0, I, P, n0, c0, l⟩ := q
  obtain ⟨k0, k1, k2, k3, _⟩ := lvCells h1
  clear hb1 h1 h hrr hS
  go_enter Tryd.func33, Tryd.ntmps33
  go_wp2_with fail
  try rw [hW0]
  try rw [hg0]
  (with_reducible refine hC.mono ?_)
  rintro e w9 (⟨v, rfl, rfl, hb⟩ | ⟨z, p, i, a, gO, rs, rfl, _, _, _, rfl, _, _, hb⟩)
  · obtain ⟨W10, hW10⟩ : ∃ W, w9.alloc (.cells #[.slice none 0 0, .int .i64 0, .int .i64 0] 31) = W := ⟨_, rfl⟩
    obtain ⟨g10, hg10⟩ : ∃ z, w9.heap.size = z := ⟨_, rfl⟩
    have hb10 : Below w9.heap.size w9 W10 := by rw [← hW10]; exact lvBelow _ _
    have HB9 := HB0.out.trans (hb.mono HB0.out.size)
    have HB10 := Lib.hid (HB9.trans (hb10.mono HB9.size))
    have HT10 : W10.heap[g10]? = some (.cells #[.slice none 0 0, .int .i64 0, .int .i64 0] 31 (0, 0)) := by rw [← hW10, ← hg10]; exact heap_alloc_new w9 _
    have HWQ := Lib.hid hW10
    clear hW0 hg0 hC k0 k1 k2 k3 hb hb10 HB9 hW10
    obtain ⟨u0, u1, u2, _⟩ := cells3V HT10
    go_upto_region 2 with fail
    try rw [HWQ.out]
    try rw [hg10]
    clear HWQ hg10
    go_quiet (fail)
    go_wp2_with fail
    exact bodyPost_ret (v := .tuple #[.int .i64 0, .int .i64 0, .int .i64 v]) (by simp [results, Tryd.results33, go_sem]) rfl ⟨rfl, below_N HB10.out _⟩
  · obtain ⟨W10, hW10⟩ : ∃ W, w9.alloc (.cells #[.slice (some ⟨gO, 0, none⟩) (a - i) (a - i), .int .i64 (z.st : Int), .int .i64 (z.ce : Int)] 31) = W := ⟨_, rfl⟩
    obtain ⟨g10, hg10⟩ : ∃ z, w9.heap.size = z := ⟨_, rfl⟩
    have hb10 : Below w9.heap.size w9 W10 := by rw [← hW10]; exact lvBelow _ _
    have HB9 := HB0.out.trans (hb.mono HB0.out.size)
    have HB10 := Lib.hid (HB9.trans (hb10.mono HB9.size))
    have HT10 : W10.heap[g10]? = some (.cells #[.slice (some ⟨gO, 0, none⟩) (a - i) (a - i), .int .i64 (z.st : Int), .int .i64 (z.ce : Int)] 31 (0, 0)) := by rw [← hW10, ← hg10]; exact heap_alloc_new w9 _
    have HWQ := Lib.hid hW10
    clear hW0 hg0 hC k0 k1 k2 k3 hb hb10 HB9 hW10
    obtain ⟨u0, u1, u2, _⟩ := cells3V HT10
    go_upto_region 2 with fail
    try rw [HWQ.out]
    try rw [hg10]
    clear HWQ hg10
    go_quiet (fail)
    go_wp2_with fail
    exact bodyPost_ret (v := .tuple #[.int .i64 (z.st : Int), .int .i64 (z.ce : Int), .int .i64 0]) (by simp [results, Tryd.results33, go_sem]) rfl ⟨rfl, below_N HB10.out _⟩
end Go.Proofs.YtgkngimeokhhgaaDoor
