/- merge.Pick, where all that is named is some list. -/
import Derived.Test.YtnaehnlpcjaaeaaPMPickC
import Derived.Test.YtnaehnlpcjaaeaaG8
import Derived.Deep.RegionLaw
import Derived.Laws.EntriesVeiled
namespace Go.Proofs.Ytnaehnlpcjaaeaa
open Go.RowKit

theorem step_appendStop {ops : Array Oper} {o : Oper} {a : Act} {w : World} {K : Act → World → Prop} {Q : Exit → Act → World → Prop} {E : Prop}
    (hg : o.guard = none) (s x : Operand) (hop : o.op = Op.call { callee := Callee.builtin Builtin.append, args := #[s, x], argTypes := #[30, 30] })
    (base : Nat) (A : Option Addr) (c p r : Nat) (y : St) (L : List St) (hs : a.eval s = .slice A p c) (hx : a.eval x = .slice (some ⟨w.heap.size, 0, none⟩) 1 1)
    (ho : OwnS w base A c L) (hp : L.length = p) (hr : p + 1 = r) (hl : r ≤ 1000000) (hb : base ≤ w.heap.size)
    (hK : ∀ A' c' w', OwnS w' base A' c' (L ++ [y]) → w.grownBy w' (Value.slice A p c).ownBlock → K (a.put o.dst (.slice A' r c')) w') :
    if Region.wanted o (yielded ops a.tmps) = true then Oper.wp Try.prog o a (w.alloc (.cells #[.int .i64 y.at_, .slice y.A y.n y.c] 36)) K Q else E := by
  have hw : Region.wanted o (yielded ops a.tmps) = true := by simp [Region.wanted, hg]
  rw [if_pos hw]
  subst hp
  subst hr
  obtain ⟨i, hi, hz, h1, h2⟩ := info_parts infoStop
  obtain ⟨v', w', hrun, hown, hgr, _⟩ := run_append_own (P := Try.prog) (w.alloc (.cells #[.int .i64 y.at_, .slice y.A y.n y.c] 36)) base 30 o.type 36 i (.agg #[.int .i64 0, .slice none 0 0]) 2 32 Try.underlying30 hi hz h1 h2 rfl (by decide) (.slice A L.length c) L.length (cellsS L) (World.ownsRow.alloc ho _) ⟨w.heap.size, 0, none⟩ 1 1 [.int .i64 y.at_, .slice y.A y.n y.c] rfl (by
    intro j u hj
    match j, hj with
    | 0, hj => simp at hj; subst hj; simp [Addr.add]
    | 1, hj => simp at hj; subst hj; simp [Addr.add]
    | j + 2, hj => simp at hj) (by simp [Value.oneCell']) (by unfold maxLen; omega) (by omega) (by simp; omega)
  obtain ⟨A', c', rfl⟩ : ∃ A' c', v' = .slice A' (L.length + 1) c' := by
    rcases hown.2 with ⟨rfl, h0⟩ | ⟨g, cap, cur, rfl, _⟩
    · omega
    · exact ⟨_, _, rfl⟩
  unfold Oper.wp
  simp [execOp, hop, resolve, invoke, builtin, hs, hx, hrun, Result.andThen]
  refine hK A' c' w' ?_ ((World.grownBy_alloc w _ _).trans hgr)
  unfold OwnS
  rw [List.length_append, cellsS_append]
  exact hown
/-- stops of the call's own, and so are their places -/
structure PickW (w : World) (base ln : Nat) (H : Option Addr) (ch : Nat) (ps : List St) : Prop where
  rows : OwnS w base H ch ps
  ins : ∀ s ∈ ps, OwnI w base 3 s.A s.c s.ins ∧ s.ins.length = s.n ∧ s.n = ln ∧ -9223372036854775808 ≤ s.at_ ∧ s.at_ ≤ 9223372036854775807
section
variable {w w' w4 : World} {base ln ch : Nat} {H H4 : Option Addr} {ps : List St}
theorem PickW.below {B : Nat} (h : PickW w base ln H ch ps) (hb : Below B w w') (hB : w.heap.size ≤ B) : PickW w' base ln H ch ps :=
  ⟨h.rows.below hb hB, fun s hs => ⟨(h.ins s hs).1.below hb hB, (h.ins s hs).2⟩⟩
theorem PickW.app {p c4 : Nat} {y : St} (h : PickW w base ln H ch ps) (hO : OwnS w4 base H4 c4 (ps ++ [y])) (hg : w.grownBy w4 (Value.slice H p ch).ownBlock)
    (hy : OwnI w base 3 y.A y.c y.ins ∧ y.ins.length = y.n ∧ y.n = ln ∧ -9223372036854775808 ≤ y.at_ ∧ y.at_ ≤ 9223372036854775807) : PickW w4 base ln H4 c4 (ps ++ [y]) := by
  refine ⟨hO, fun s hs => ?_⟩
  have key : OwnI w base 3 s.A s.c s.ins ∧ s.ins.length = s.n ∧ s.n = ln ∧ -9223372036854775808 ≤ s.at_ ∧ s.at_ ≤ 9223372036854775807 := by
    rcases List.mem_append.1 hs with hs | hs
    · exact h.ins s hs
    · rw [List.mem_singleton.1 hs]; exact hy
  exact ⟨key.1.keptS h.rows hg, key.2⟩
theorem PickW.stops (h : PickW w base ln H ch ps) : Stops w w.heap.size H ps.length ps := h.rows.stops fun s hs => by
  obtain ⟨h1, h2, _, h4⟩ := h.ins s hs
  have h7 := h1.ints
  have h8 := h1.len_cap
  rw [h2] at h7 h8
  exact ⟨h7, h8, h4⟩
end
set_option maxRecDepth 100000 in
set_option maxHeartbeats 8000000 in
theorem pick_in (S A : Option Addr) (n ln lc m c : Nat) (ss : List St) (sets : List (List Int)) (w : World) (h : Stops w w.heap.size S n ss) (hn : n ≤ 100000) (hsn : ∀ s ∈ ss, s.n = ln ∧ s.n ≤ 100000) (h2 : IntsLL w w.heap.size A m sets) (hm : m ≤ 100000) (hl : ∀ L ∈ sets, L.length ≤ 100000) (hs : ∀ L ∈ sets, InS ln L) :
    Calls Try.prog 21 #[.slice S n lc, .slice A m c] w fun e w' => ∃ ps P r k, e = .returned (.tuple #[.slice P r k, .int .i64 0]) ∧ ps.length = r ∧ r ≤ n ∧ ps.map keyS = (ss.filter fun s => sets.any (haveB s)).map keyS ∧ (∀ s ∈ ps, s.n = ln) ∧ Stops w' w'.heap.size P r ps ∧ Below w.heap.size w w' := by
  have cI := inside_sets A m c sets w h2 (fun L hL => by have := hl L hL; omega) (by omega)
  have hR : 0 ≤ loI sets.flatten ∧ hiI sets.flatten < (ln : Int) := (inI_iff sets.flatten ln (by omega)).2 fun x hx => by
    obtain ⟨L, hL, hx⟩ := List.mem_flatten.1 hx
    exact hs L hL x hx
  have HRR : Hid (∀ s ∈ ss, 0 ≤ loI sets.flatten ∧ hiI sets.flatten < (s.n : Int)) := fun s hm => by rw [(hsn s hm).1]; exact hR
  have HH := Lib.hid h
  have HH2 := Lib.hid h2
  have HSN := Lib.hid hsn
  have HLL := Lib.hid hl
  have HS := Lib.hid hs
  clear h h2 hsn hl hs hR
  go_enter Try.func21, Try.ntmps21
  go_wp2_with (first | (go_at_call 31; refine cI.mono ?_; rintro e w1 ⟨rfl, hA1, hB1, hb1⟩; have hbf := belowM w1 (.cells #[.func (.func 46) #[] #[.pointer (some ⟨w.heap.size, 0, none⟩), .pointer (some ⟨w.heap.size + 1, 0, none⟩)]] 40); have hb2 := hb1.trans (hbf.mono hb1.size)) | (go_at_call 32; refine (stopCon_any w1.heap.size w.heap.size (w.heap.size + 1) n lc S _ _ ss _ (heap_alloc_new w1 _) (hA1.below hbf hA1.lt) (hB1.below hbf hB1.lt) ((HH.out.below hb2).more hb2.size) hn HRR.out).mono ?_; rintro e w2 ⟨rfl, hb3⟩; have HB2 := Lib.hid (hb2.trans (hb3.mono hb2.size)); clear hA1 hB1 hb1 hbf hb2 hb3))

  go_loopw [17, 7] (fun v u wr => ∃ (k : Nat) (ps : List St) (r : Nat) (P : Option Addr) (cp : Nat), v = .int .i64 (k : Int) ∧ u = .slice P r cp ∧ k ≤ n ∧ r ≤ k ∧ Hid (ps.length = r) ∧ Hid (ps.map keyS = ((ss.take k).filter fun s => sets.any (haveB s)).map keyS) ∧ Hid (PickW wr w2.heap.size ln P cp ps) ∧ Hid (Below w2.heap.size w2 wr)) (fun v _ _ => n - (intOf v).toNat)
  case atStart => exact ⟨0, [], 0, none, 0, rfl, rfl, Nat.zero_le _, Nat.le_refl _, rfl, by unfold Hid; simp, ⟨OwnS.nil_ _ _, fun s hs => by cases hs⟩, Below.refl _ _⟩
  case round =>
    obtain ⟨k, ps, r, P, cp, rfl, rfl, hk, hr, HPL, HPK, HPW, HB⟩ := hrel
    by_cases hlt : k < n
    · have hbw := HB2.out.trans (HB.out.mono HB2.out.size)
      obtain ⟨b, off, s, rfl, _, HX, hc, hc', hI, _, hx1, hx2⟩ := (HH.out.below hbw).at_ hlt
      have k0 : (0 : Int) ≤ (k : Int) := by omega
      have k1 : (k : Int) < (n : Int) := by omega
      have hsm := List.mem_of_getElem? HX.out
      obtain ⟨hsl, hsb⟩ := HSN.out s hsm
      have hbx := belowM wr (.cells #[.int .i64 s.at_, .slice s.A s.n s.c] 36)
      have hbw2 := hbw.trans (hbx.mono hbw.size)
      have hI3 : Ints wr wr.heap.size s.A s.n s.ins := hI.more hbw.size
      have hI2 := (hI3.below hbx).more hbx.size
      have cC := pickCon_any wr.heap.size m c A sets s (wr.alloc (.cells #[.int .i64 s.at_, .slice s.A s.n s.c] 36)) (heap_alloc_new wr _) hI2 ((HH2.out.below hbw2).more hbw2.size) hm HLL.out (by rw [hsl]; exact HS.out)
      have HBX := Lib.hid hbx
      have HI3 := Lib.hid hI3
      have HXB : Hid (StopB (wr.alloc (.cells #[.int .i64 s.at_, .slice s.A s.n s.c] 36)) wr.heap.size s) := heap_alloc_new wr _
      have HBD := Lib.hid (And.intro hx1 hx2)
      have HSL := Lib.hid hsl
      obtain ⟨R, hR⟩ : ∃ R, sets.any (haveB s) = R := ⟨_, rfl⟩
      rw [hR] at cC
      have HTK := Lib.hid (take_succ_of HX.out)
      cases R with
      | false =>
        have HP2 : Hid (ps.map keyS = ((ss.take (k + 1)).filter fun s => sets.any (haveB s)).map keyS) := by
          unfold Hid
          rw [HTK.out, List.filter_append, List.filter_cons_of_neg (by rw [hR]; simp), List.filter_nil, List.append_nil]
          exact HPK.out
        clear hI hI2 hI3 hbx hbw hbw2 hx1 hx2 hsm hR hsl
        go_wp2_with (go_at_call 34; refine cC.mono ?_; rintro e w5 ⟨rfl, hb5⟩; have hb6 := HBX.out.trans (hb5.mono HBX.out.size))
        go_roundw
        case rel => exact ⟨k + 1, ps, r, P, cp, by go_num, rfl, by omega, by omega, HPL, HP2, HPW.out.below hb6 (Nat.le_refl _), HB.out.trans (hb6.mono HB.out.size)⟩
        case measure => simp [intOf]; omega
      | true =>
        have HP2 : Hid (ps.map keyS ++ [keyS s] = ((ss.take (k + 1)).filter fun s => sets.any (haveB s)).map keyS) := by
          unfold Hid
          rw [HTK.out, List.filter_append, List.filter_cons_of_pos (by rw [hR]), List.filter_nil, List.map_append, ← HPK.out]
          rfl
        clear hI hI2 hI3 hbx hbw hbw2 hx1 hx2 hsm hR hsl
        go_wp2_with (go_at_call 34; refine cC.mono ?_; rintro e w5 ⟨rfl, hb5⟩; have HB6 := Lib.hid (HBX.out.trans (hb5.mono HBX.out.size)); have HX5 : Hid (StopB w5 wr.heap.size s) := ((hb5.block wr.heap.size (by simp)).trans HXB.out); clear hb5)
        have hxl := (Array.getElem?_eq_some_iff.1 HX5.out).1
        obtain ⟨p0, p1⟩ := HX5.out.cells
        have cK := fun (W : World) (hW : W = w5.drew) => clone_any s.A s.n s.c s.ins W w5.heap.size (by rw [hW]; exact (HI3.out.below HB6.out).more HB6.out.size) (by rw [hW]; exact Nat.le_refl _) hsb
        have HW5 := Lib.hid (HPW.out.below HB6.out (Nat.le_refl _))
        have HB5 := Lib.hid (HB.out.trans (HB6.out.mono HB.out.size))
        have hr1 : r + 1 ≤ 1000000 := by omega
        have hz5 := HB5.out.size
        go_region_law (first | (refine step_appendStop rfl (.tmp 24) (.tmp 31) rfl w2.heap.size P cp r (r + 1) ⟨s.at_, A6, s.n, c6, s.ins⟩ ps rfl rfl HW6.out.rows HPL.out rfl hr1 (by omega) ?_; intro H7 c7 w7 HO7 HG7) | (go_simp; go_at_call 37; refine (cK _ rfl).mono ?_; rintro e w6 ⟨A6, c6, rfl, hO6, hb6⟩; have hb56 : Below w5.heap.size w5 w6 := ⟨hb6.os, hb6.tape, hb6.output, hb6.size, hb6.block⟩; have HW6 := Lib.hid (HW5.out.below hb56 (Nat.le_refl _)); have l0 := (hb56.block wr.heap.size hxl).trans HX5.out; obtain ⟨l1, l2⟩ := StopB.cells l0; have hz6 := hb56.size))
        all_goals
          have HO6 := Lib.hid hO6
          have HB6' := Lib.hid hb56
          clear hO6 hb6 hb56 l0 l1 l2 cK
          simp [Act.put]
          go_wp2_with fail
          go_roundw
          case rel =>
            have hb7 := below_appS (Below.refl w2.heap.size w6) HG7 HW6.out.rows (by omega)
            refine ⟨k + 1, ps ++ [⟨s.at_, A6, s.n, c6, s.ins⟩], r + 1, H7, c7, by go_num, rfl, by omega, by omega, by unfold Hid; rw [List.length_append, HPL.out]; rfl, ?_, HW6.out.app HO7 HG7 ⟨HO6.out.mono hz5, HI3.out.1, HSL.out, HBD.out.1, HBD.out.2⟩, (HB5.out.trans (HB6'.out.mono hz5)).trans hb7⟩
            unfold Hid
            rw [List.map_append, ← HP2.out]
            rfl
          case measure => simp [intOf]; omega
    · obtain rfl : k = n := by omega
      have he : ss.take k = ss := by rw [← HH.out.1, List.take_length]
      rw [he] at HPK
      have HST := Lib.hid HPW.out.stops
      rw [HPL.out] at HST
      clear hlt he
      go_wp2_with fail
      go_ret2
      exact ⟨ps, P, r, cp, rfl, HPL.out, hr, HPK.out, fun s hs => (HPW.out.ins s hs).2.2.1, HST.out, HB2.out.trans (HB.out.mono HB2.out.size)⟩
end Go.Proofs.Ytnaehnlpcjaaeaa
