/- purflelaw08.LexerJoins returns true at every list of tokens. -/
import Derived.Test.YtinjkakfnppjpaaPXJoinsM
import Derived.Lib.QuietBelow
import Derived.Deep.DeepCutAuto
namespace Go.Proofs.Ytinjkakfnppjpaa
open Go.RowKit Go.Sort

set_option maxRecDepth 100000 in
set_option maxHeartbeats 4000000 in
theorem lexerJoins_few (W : World) (A : Option Addr) (n c : Nat) (L : List Tk) (h1 : Toks W W.heap.size A n L) (hn : n ≤ 4398046511104) (hf : fewL L = false) : Calls Try.prog 4 #[.slice A n c] W fun e w' => e = .returned (.bool true) ∧ Below W.heap.size W w' := by
  have F1 := Lib.hid hf
  clear hf
  go_enter Try.func4, Try.ntmps4
  go_wp2_with (first | (go_at_call 9; refine (live_any _).mono ?_; rintro e w1 ⟨rfl, hb1⟩) | (go_at_call 13; (with_reducible refine (fewT_any A n c L _ ((h1.on hb1 (Nat.le_refl _)).more hb1.size) hn).mono ?_); rintro e w2 ⟨rfl, hb2⟩; rw [F1.out]))
  go_ret
  exact ⟨rfl, hb1.trans (hb2.mono hb1.size)⟩
set_option maxRecDepth 100000 in
set_option maxHeartbeats 16000000 in
theorem lexerJoins_main (W : World) (A : Option Addr) (n c : Nat) (L : List Tk) (h1 : Toks W W.heap.size A n L) (hn : n ≤ 5000) (hf : fewL L = true) : Calls Try.prog 4 #[.slice A n c] W fun e w' => e = .returned (.bool true) ∧ Below W.heap.size W w' := by
  have F1 := Lib.hid hf
  have ok := Lib.hid h1.2.1
  have HL := Lib.hid h1.1
  have sL := Lib.hid (sameTL_rfl L)
  have hl1 : n ≤ 1000000 := by omega
  have hnB : n ≤ 4398046511104 := by omega
  have cJ := fun w h => join_any A n c L w h hn
  have cRJ := fun w h => refJoin_any A n c L w h hn
  generalize (joinF L).1 = JT at cJ cRJ
  generalize (joinF L).2 = JE at cJ cRJ
  have hmx : Try.prog.follows .mixedOrders = true := by kernel_rfl
  clear hf
  go_enter Try.func4, Try.ntmps4
  go_wp2_with (first | (go_at_call 9; refine (live_any _).mono ?_; rintro e w1 ⟨rfl, hb1⟩) | (go_at_call 13; (with_reducible refine (fewT_any A n c L _ ((h1.on hb1 (Nat.le_refl _)).more hb1.size) hnB).mono ?_); rintro e w2 ⟨rfl, hb2⟩; rw [F1.out]; have HB2 : Below W.heap.size W w2 := hb1.trans (hb2.mono hb1.size); have hs2 := HB2.size) | (at_builtin; refine wpList_appendToks rfl (.const (.slice none 0 0)) (.tmp 20) rfl w2.heap.size none A 0 n c W.heap.size 0 n [] L rfl rfl (OwnT.nil_ _ _) rfl (Nat.zero_add _) (h1.on HB2 (Nat.le_refl _)) hl1 (Nat.le_refl _) ?_; intro A4 c4 w3 HO4 HG4; rw [List.nil_append] at HO4; have HB3 : Below W.heap.size W w3 := HB2.grown HG4 hs2 (fun g e => by cases e); have hs3 := HB3.size; have TW := HO4.rd ok.out HL.out) | (go_at_call 14; (with_reducible refine (cJ _ ((h1.on HB3 (Nat.le_refl _)).more hs3)).mono ?_); rintro e w4 ⟨rfl, hb4⟩; have HB4 : Below W.heap.size W w4 := HB3.trans (hb4.mono hs3); have hs4 := HB4.size) | (go_at_call 15; (with_reducible refine (cRJ _ ((h1.on HB4 (Nat.le_refl _)).more hs4)).mono ?_); rintro e w5 ⟨rfl, hb5⟩; have HB5 : Below W.heap.size W w5 := HB4.trans (hb5.mono hs4); have hs5 := HB5.size))
  have TW5 := ((TW.on hb4 (Nat.le_refl _)).on hb5 hb4.size).more (Nat.le_trans hb4.size hb5.size)
  go_wp2_with (go_at_call 16; (with_reducible refine (lines_any A n c L w5 ((h1.on HB5 (Nat.le_refl _)).more hs5) (by omega)).mono ?_); rintro e w7 ⟨HA, na, cha, ra, rfl, hna, hLa, KA, hb7⟩)
  go_upto_region 9 with (go_at_call 17; (with_reducible refine (refLines_any A n c L w7 (((h1.on HB5 (Nat.le_refl _)).on hb7 hs5).more (Nat.le_trans hs5 hb7.size)) (by omega)).mono ?_); rintro e w8 ⟨HBd, nb, chb, rb, rfl, hnb, hLb, KB, hb8⟩; skip)
  have hs7 := hb7.size
  have hs8 := hb8.size
  have hmap : ra.map (·.L) = rb.map (·.L) := hLa.trans hLb.symm
  obtain rfl : na = nb := by rw [← hna, ← hnb, ← List.length_map (f := (·.L)), hmap, List.length_map]
  have HB8 : Hid (Below W.heap.size W w8) := (HB5.trans (hb7.mono hs5)).trans (hb8.mono (Nat.le_trans hs5 hs7))
  have h58 : Below w5.heap.size w5 w8 := hb7.trans (hb8.mono hs7)
  have TW8 := TW5.on h58 (Nat.le_refl _)
  have KA8 : Hid (RowsK w8 w5.heap.size HA cha ra) := KA.below hb8 (Nat.le_refl _)
  have HKB : Hid (RowsK w8 w7.heap.size HBd chb rb) := KB
  have HFAR : Hid (∀ r ∈ ra, ∀ g, r.A = some ⟨g, 0, none⟩ → g < w7.heap.size) := fun r hr g hg => by
    have hO := KA.ins r hr
    exact (show OwnT w7 w5.heap.size (some ⟨g, 0, none⟩) r.c r.L from hg ▸ hO).lt.2
  have HMAP := Lib.hid hmap
  have HNA := Lib.hid hna
  have HNB := Lib.hid hnb
  have HOKA : Hid (∀ r ∈ ra, ∀ t ∈ r.L, t.ok) := rows_mem Tk.ok hLa fun t ht _ => ok.out t ht
  have HSH : Hid (∀ r ∈ ra, r.L.length ≤ 5000) := fun r hr => by
    have := linesL_short (l := L) (R := r.L) (by rw [← hLa]; exact List.mem_map_of_mem hr)
    rw [HL.out] at this
    omega
  have hna9 : na ≤ 5001 := by
    have := linesL_len L
    rw [← hLa, List.length_map, hna, HL.out] at this
    omega
  clear hmap hna hnb hLa hLb KA KB hb7 h58 TW5 TW HB5 HB4 HB3 HB2 hb1 hb2 hb4 hb5 HO4 HG4 cJ cRJ
  go_wp2
  go_loopw [53] (fun i wr => ∃ k : Nat, k ≤ na ∧ i = .int .i64 k ∧ Hid (UnT w8 wr ra k) ∧ Hid (Below w5.heap.size w8 wr)) (fun i _ => na - (intOf i).toNat)
  case atStart => exact ⟨0, Nat.zero_le _, rfl, UnT.refl _ _ _, Below.refl _ _⟩
  case round =>
    obtain ⟨k, hk, rfl, HU, HB⟩ := hrel
    obtain ⟨wo, rfl⟩ : ∃ wo : World, wo = wr := ⟨_, rfl⟩
    by_cases hlt : k < na
    · obtain ⟨⟨rA, rc, rL⟩, hr⟩ : ∃ r, ra[k]? = some r := ⟨_, List.getElem?_eq_getElem (by rw [HNA.out]; exact hlt)⟩
      obtain ⟨⟨sA, sc, sL2⟩, hr2⟩ : ∃ r, rb[k]? = some r := ⟨_, List.getElem?_eq_getElem (by rw [HNB.out]; exact hlt)⟩
      have hLL : rL = sL2 := by
        have := congrArg (fun l => l[k]?) HMAP.out
        simp only [List.getElem?_map, hr, hr2, Option.map_some, Option.some.injEq] at this
        exact this
      subst hLL
      have hmr := List.mem_of_getElem? hr
      have hps := HSH.out _ hmr
      have hok := HOKA.out _ hmr
      obtain ⟨gA, rfl, hgA, hgA2⟩ := KA8.out.some_ (by rw [HNA.out]; omega)
      obtain ⟨gB, rfl, hgB, hgB2⟩ := HKB.out.some_ (by rw [HNB.out]; omega)
      have hca := HU.out.hdr KA8.out hr
      have hcb := (World.cell?_of_block (a := ⟨gB, k, none⟩) (HU.out.far HFAR.out hgB hgB2)).trans (HKB.out.hdr_at hr2).1
      have OA := HU.out.row KA8.out hr
      have OB0 := HKB.out.ins _ (List.mem_of_getElem? hr2)
      have OB : OwnT wo w7.heap.size sA sc rL := OB0.same fun b hb => by
        have := (show OwnT w8 w7.heap.size (some ⟨b, 0, none⟩) sc rL from hb ▸ OB0).lt
        exact HU.out.far HFAR.out this.1 this.2
      obtain ⟨p, hp⟩ : ∃ p, rL.length = p := ⟨_, rfl⟩
      have TA := OA.rd hok hp
      have TB := OB.rd hok hp
      have HQ0 : Hid (intsAt p (cellsT rL)) := Lib.hid (by rw [← hp]; exact intsAt_toks hok)
      have HO0 : Hid (wo.ownsRow w5.heap.size 35 3 (.slice rA p rc) p (cellsT rL)) := Lib.hid (by rw [← hp]; exact OA)
      simp only [RowK.hdr, hp] at hca hcb hps
      have cE : ∀ q, Calls Try.prog 12 #[.slice rA p rc, .slice sA p sc] (wo.drewN q) fun e w' => e = .returned (.bool true) ∧ ∃ m, w' = (wo.drewN q).drewN m := fun q => by
        have := refSame_any rA sA p rc p sc wo.heap.size rL rL (wo.drewN q) (TA.drewN q) (TB.drewN q) (by omega)
        rw [sameTL_rfl] at this
        exact this
      have hk0 : (0 : Int) ≤ k := by omega
      have hk1 : (k : Int) < na := by omega
      have HR := Lib.hid hr
      have HO0L := Lib.hid hp
      have HKL := Lib.hid hlt
      have HN9 := Lib.hid hna9
      have HBq : Hid (∀ q, Below w5.heap.size w8 (wo.drewN q)) := fun q => below_dX HB.out q
      have HUq : Hid (∀ q, UnT w8 (wo.drewN q) ra (k + 1)) := fun q => (HU.out.next).drewN q
      have HOq : Hid (∀ q, (wo.drewN q).ownsRow w5.heap.size 35 3 (.slice rA p rc) p (cellsT rL)) := fun q => HO0.out
      clear hp hr hr2 hmr hok OA OB OB0 TA TB HO0 HU
      go_wp2
      go_quiet ((go_at_call 12; with_reducible exact Calls.quiet_of (cE _)))
      clear cE hcb
      go_wp2
      go_loopw [71] (fun i wi => ∃ (j : Nat) (xs : List Value), j ≤ p ∧ i = .int .i64 j ∧ Hid (wi.ownsRow w5.heap.size 35 3 (.slice rA p rc) p xs) ∧ Hid (intsAt p xs) ∧ Hid (UnT w8 wi ra (k + 1)) ∧ Hid (Below w5.heap.size w8 wi)) (fun i _ => p - (intOf i).toNat)
      case atStart => exact ⟨0, cellsT rL, Nat.zero_le _, rfl, HOq.out _, HQ0, HUq.out _, HBq.out _⟩
      case round =>
        obtain ⟨j, xs, hj, rfl, HO, HQ, HU, HBi⟩ := hrel
        by_cases hjl : j < p
        · obtain ⟨g, cap, hv, hbg, hlg⟩ := World.ownsRow.form HO.out (by omega)
          injection hv with hv1 _ hv2
          subst hv1
          subst hv2
          have hch := HU.out.hdr KA8.out HR.out
          have hPL : rL.length = p := by
            have := HO0L.out
            exact this
          simp only [RowK.hdr, hPL] at hch
          obtain ⟨N, hN1, hN2, hN3⟩ := HQ.out j hjl
          have hcN : wr.cell? ⟨g, j * 3 + 2, none⟩ = some (.int .i64 N) := by
            rw [Nat.mul_comm]
            exact (World.ownsRow.cellAt HO.out (3 * j + 2) (by omega)).trans hN3
          have hfN : wr.frozen? ⟨g, j * 3 + 2, none⟩ = false := World.ownsRow.frozenAt HO.out _
          have HS : ∀ u, Hid ((wr.setCell ⟨g, j * 3 + 2, none⟩ u).ownsRow w5.heap.size 35 3 (.slice (some ⟨g, 0, none⟩) p rc) p (xs.set (3 * j + 2) u)) := fun u => by
            have := (World.ownsRow.stored HO.out (3 * j + 2) u).1
            rw [Nat.mul_comm 3 j] at this ⊢
            exact this
          have HSS := Lib.hid HS
          have hj0 : (0 : Int) ≤ j := by omega
          have hj1 : (j : Int) < p := by omega
          have hg5 : w5.heap.size ≤ g := hbg
          clear hN3 HS hPL hbg
          go_wp2
          go_roundw
          case rel => exact ⟨j + 1, _, by omega, by go_num, HSS.out _, intsAt_set HQ.out j _, HU.out.set HR.out rfl _, HBi.out.setCell hg5 _⟩
          case measure => simp [intOf]; omega
        · obtain rfl : p = j := by omega
          have hlt9 := HKL.out
          have hna8 := HN9.out
          go_wp2
          go_roundw
          case rel => exact ⟨k + 1, by omega, by go_num, HU, HBi⟩
          case measure => simp [intOf]; omega
    · obtain rfl : na = k := by omega
      have hB0 := HB8.out.size
      clear HU hlt HMAP HFAR HSH HOKA
      go_wp2
      go_loopw [89] (fun i wr => ∃ k : Nat, k ≤ n ∧ i = .int .i64 k ∧ Hid (Below w5.heap.size w8 wr)) (fun i _ => n - (intOf i).toNat)
      case atStart => exact ⟨0, Nat.zero_le _, rfl, HB⟩
      case round =>
        obtain ⟨k, hk2, rfl, HBk⟩ := hrel
        obtain ⟨wq, rfl⟩ : ∃ wq : World, wq = wr := ⟨_, rfl⟩
        have HW : Hid (Below W.heap.size W wq) := HB8.out.trans (HBk.out.mono hs5)
        have hsq := HBk.out.size
        have h5q : w5.heap.size ≤ wq.heap.size := by omega
        by_cases hlt : k < n
        · obtain ⟨b, off, x, rfl, hbl, HX, hc0, hc1, hc2, hxo⟩ := (h1.on HW.out (Nat.le_refl _)).at_ hlt
          have hxs := hxo.2.2.2.2
          obtain ⟨w1x, hw1⟩ : ∃ w1x, wq.alloc (.cells #[.int .i64 x.k, .string x.s, .int .i64 x.n] 35) = w1x := ⟨_, rfl⟩
          obtain ⟨q0, q1, q2⟩ : w1x.cell? ⟨wq.heap.size, 0, none⟩ = some (.int .i64 x.k) ∧ w1x.cell? ⟨wq.heap.size, 1, none⟩ = some (.string x.s) ∧ w1x.cell? ⟨wq.heap.size, 2, none⟩ = some (.int .i64 x.n) := by
            rw [← hw1]
            exact boxCells (box_new wq x)
          have HB1 : Hid (Below w5.heap.size w8 w1x) := by unfold Hid; rw [← hw1]; exact HBk.out.alloc h5q _
          obtain ⟨v, hv⟩ : ∃ v, chkE (mayB x) = v := ⟨_, rfl⟩
          have y0 := cell_regrown q0
          have y1 := cell_regrown q1
          have y2 := cell_regrown q2
          have cA := fun d os => Calls.regrown_of (check_any x (grow (redrawn w1x d) os) hxs)
          have cB := fun d os => Calls.regrown_of (refCheck_any x (grow (redrawn w1x d) os) hxs)
          rw [hv] at cA cB
          have h51 : w5.heap.size ≤ w1x.heap.size := by rw [← hw1]; exact Nat.le_trans h5q (size_allocT _ _)
          clear hxo hxs hv q0 q1 q2
          go_upto_region 25 with fail
          refine wp_region_quiet_below hmx (by kernel_rfl) ?_
          repeat (quiet_step (first | (go_at_call 18; with_reducible exact cA _ _) | (go_at_call 19; with_reducible exact cB _ _)))
          refine wpQuiet_nil ?_
          intro _ hw'
          obtain ⟨⟨dq, osq⟩, hw''⟩ := hw'
          subst hw''
          clear cA cB y0 y1 y2
          have HB2 : Hid (Below w5.heap.size w8 (grow (redrawn w1x dq) osq)) := HB1.out.trans ((below_regrown w1x dq osq).mono h51)
          go_wp2
          go_roundw
          case rel => exact ⟨k + 1, by omega, by go_num, HB2⟩
          case measure => simp [intOf]; omega
        · obtain rfl : n = k := by omega
          have T1 := (h1.on HW.out (Nat.le_refl _)).more HW.out.size
          have T2 := (TW8.on HBk.out (Nat.le_refl _)).more h5q
          go_wp2_with (go_at_call 12; (with_reducible refine (refSame_any A A4 n c n c4 _ L L _ T1 T2 hl1).mono ?_); rintro e w9 ⟨rfl, m9, rfl⟩; rw [sL.out])
          go_ret
          exact ⟨rfl, below_dX HW.out m9⟩
theorem lexerJoins_any (W : World) (A : Option Addr) (n c : Nat) (L : List Tk) (h1 : Toks W W.heap.size A n L) (hn : n ≤ 4398046511104) (_ : n ≤ c) : Calls Try.prog 4 #[.slice A n c] W fun e w' => e = .returned (.bool true) ∧ Below W.heap.size W w' := by
  cases hf : fewL L
  · exact lexerJoins_few W A n c L h1 hn hf
  · have e1 : n ≤ 5000 := by
      have := hf
      unfold fewL at this
      rw [decide_eq_true_iff, h1.1] at this
      exact this.2
    exact lexerJoins_main W A n c L h1 e1 hf
end Go.Proofs.Ytinjkakfnppjpaa
