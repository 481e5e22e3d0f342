/- The document's Join of layer 2. -/
import Derived.Test.YtpfabbapfmfmmaaPRSort
import Derived.Test.YtpfabbapfmfmmaaG13
namespace Go.Proofs.Ytpfabbapfmfmmaa
open Go.RowKit Go.Sort

theorem refEqual_bel (A A2 : Option Addr) (n n2 c c2 : Nat) (xs ys : List Int) (w : World) (h : Ints w w.heap.size A n xs) (h2 : Ints w w.heap.size A2 n2 ys) (hn : n ≤ 100000) (hn2 : n2 ≤ 9223372036854775807) :
    Calls Try.prog 36 #[.slice A n c, .slice A2 n2 c2] w fun e w' => e = .returned (.bool (decide (xs = ys))) ∧ Below w.heap.size w w' :=
  (refEqual_any A A2 n n2 c c2 xs ys w w.heap.size h h2 hn hn2).mono fun e w' ⟨he, m, hm⟩ => ⟨he, by subst hm; exact below_dN (Below.refl _ _) m⟩

set_option maxRecDepth 100000 in
set_option maxHeartbeats 8000000 in
theorem refJoinV_ok (A B Ao : Option Addr) (n c m e ro co : Nat) (xs os : List Int) (es : List Ent) (w : World) (h : CooV w A n B m xs es) (hE : cooF xs es = 0) (hok : OrdOk n os) (ho : Ints w w.heap.size Ao ro os) :
    Calls Try.prog 17 #[.agg #[.slice A n c, .slice B m e], .slice Ao ro co] w fun x w' => ∃ A1 c1 A2 m2 c2 Js, x = .returned (.tuple #[.agg #[.slice A1 n c1, .slice A2 m2 c2], .int .i64 0]) ∧ CooV w' A1 n A2 m2 xs Js ∧ Hid (Js.map keyE = joinK (sortK (ordL n os) (es.map keyE))) ∧ m2 ≤ m ∧ Below w.heap.size w w' := by
  have hn4 : n ≤ 4 := by rw [← h.1.1]; exact (cellsF_ok (cooF_parts hE).1).1
  have hm5 : m ≤ 65536 := by rw [← h.2.1]; exact (cooF_parts hE).2.1
  have z0 := (Below.refl w.heap.size w).alloc (Nat.le_refl _) (.cells #[.slice A n c, .slice B m e] 25)
  have z1 := z0.alloc z0.size (.cells #[.slice none 0 0, .slice none 0 0] 25)
  have b2 := zf_snd w (.cells #[.slice none 0 0, .slice none 0 0] 25) (.cells #[.slice A n c, .slice B m e] 25)
  have HS := fun W (hb : Below w.heap.size w W) => refSortV_ok A B Ao n c m e ro co xs os es W (h.below hb) hE hok ((ho.below hb).more hb.size)
  have HKO := Lib.hid ((keyOk_of h hE).perm (sortK_perm (ordL n os) _))
  clear h hE z0 ho hok
  go_enter Try.func17, Try.ntmps17
  go_wp2_with fail
  refine (HS _ z1).mono ?_
  rintro x w1 ⟨A1, c1, A2, c2, Ss, rfl, VS, HKEY, hb1⟩
  have hsz0 : w.heap.size + 2 ≤ w1.heap.size := by have := hb1.size; simp at this; omega
  have hb := z1.trans (hb1.mono z1.size)
  have q2 := (hb1.block (w.heap.size + 1) (by simp)).trans b2
  have yb := ((Below.refl w1.heap.size w1).alloc (Nat.le_refl _) (.cells #[.slice A1 n c1, .slice A2 m c2] 25)).alloc (by simp) (.cells #[.slice A1 n c1, .slice none 0 0] 25)
  have y0 := zf_two w1 (.cells #[.slice A1 n c1, .slice A2 m c2] 25) (.cells #[.slice A1 n c1, .slice none 0 0] 25)
  have y1 := zf_snd w1 (.cells #[.slice A1 n c1, .slice none 0 0] 25) (.cells #[.slice A1 n c1, .slice A2 m c2] 25)
  have hsB : ((w1.alloc (.cells #[.slice A1 n c1, .slice A2 m c2] 25)).alloc (.cells #[.slice A1 n c1, .slice none 0 0] 25)).heap.size = w1.heap.size + 2 := by simp
  obtain ⟨wB, hwB⟩ : ∃ wB, (w1.alloc (.cells #[.slice A1 n c1, .slice A2 m c2] 25)).alloc (.cells #[.slice A1 n c1, .slice none 0 0] 25) = wB := ⟨_, rfl⟩
  rw [hwB] at yb y0 y1 hsB
  have H0 := Lib.hid hwB
  have HXN : Hid (∀ x ∈ Ss, x.n = n) := fun x hx => (HKO.out (keyE x) (by rw [← HKEY.out]; exact List.mem_map_of_mem hx)).2.1
  have HNEW : Hid (∀ x ∈ Ss, Ints wB w1.heap.size x.A x.n x.cs ∧ x.n ≤ x.c ∧ -9223372036854775808 ≤ x.v ∧ x.v ≤ 9223372036854775807) := fun x hx => by
    have := VS.2.ok hx
    exact ⟨this.1.below yb, this.2.2⟩
  have hsBa : w1.heap.size + 2 ≤ wB.heap.size := by omega
  have HB0 := Lib.hid (hb.trans (yb.mono hb.size))
  have HYB := Lib.hid yb
  have HQ2 := Lib.hid ((yb.block (w.heap.size + 1) (by omega)).trans q2)
  have HY0 := Lib.hid y0
  have HY1 := Lib.hid y1
  have HSL : Hid (Ss.length = m) := VS.2.1
  obtain ⟨k0, k1, _, _⟩ := pair_cells y0
  clear hsB hwB yb hb b2 z1 hb1 q2 y1 y0 HS
  go_upto_region 5 with fail
  rw [H0.out]
  go_wp2_with fail
  go_loopw [28] (fun v wr => ∃ (i : Nat) (Js : List Ent) (A3 : Option Addr) (c3 : Nat), v = .int .i64 (i : Int) ∧ i ≤ m ∧ Js.length ≤ i ∧ Hid (wr.heap[w1.heap.size + 1]? = some (.cells #[.slice A1 n c1, .slice A3 Js.length c3] 25 (0, 0))) ∧ Hid (OwnE wr wB.heap.size A3 c3 Js) ∧ Hid (Js.map keyE = joinK ((Ss.take i).map keyE)) ∧ Hid (∀ x ∈ Js, OfE Ss x) ∧ Hid (Below (w1.heap.size + 1) wB wr)) (fun v _ => m - (intOf v).toNat)
  case atStart => exact ⟨0, [], none, 0, rfl, Nat.zero_le _, Nat.le_refl _, HY1, Lib.hid (OwnE.nil_ _ _), rfl, (fun x hx => by cases hx), Lib.hid (Below.refl _ _)⟩
  case round =>
    clear k0 k1
    obtain ⟨i, Js, A3, c3, rfl, hi, hji, HBJ, HOJ, HKJ, HOF, HB⟩ := hrel
    have hszr := HB.out.size
    obtain ⟨p0, p1, pf0, pf1⟩ := pair_cells HBJ.out
    by_cases hlt : i < m
    · obtain ⟨t, ht⟩ : ∃ t, Ss[i]? = some t := ⟨_, List.getElem?_eq_getElem (by rw [HSL.out]; exact hlt)⟩
      have HT := Lib.hid ht
      have htm := List.mem_of_getElem? ht
      have hrw := VS.below (HYB.out.trans (HB.out.mono (by omega)))
      obtain ⟨b0, off0, t', hA2, hb0, HT', a1, a3, _, _, _, _, _⟩ := hrw.2.at_ hlt
      have htt : t' = t := by have := HT'.out; rw [ht] at this; injection this with this; exact this.symm
      rw [htt, Nat.mul_comm 2 i] at a1 a3
      subst hA2
      clear htt HT'
      have HNT := Lib.hid (HNEW.out t htm)
      have HTN := Lib.hid (HXN.out t htm)
      have hin : (i : Int) < (m : Int) := by omega
      have hi0 : (0 : Int) ≤ (i : Int) := by omega
      have wt0 := heap_alloc_new wr (.cells #[.slice t.A t.n t.c, .int .i64 t.v] 37)
      have hbt := (Below.refl wr.heap.size wr).alloc (Nat.le_refl _) (.cells #[.slice t.A t.n t.c, .int .i64 t.v] 37)
      have HBT := Lib.hid hbt
      have HWT := Lib.hid wt0
      have HJK : Hid (joinK ((Ss.take (i + 1)).map keyE) = joinStep (Js.map keyE) (keyE t)) := by unfold Hid; rw [take_succ_of ht, List.map_append, HKJ.out]; exact joinK_snoc _ _
      have HOT : Hid (OfE Ss t) := ⟨⟨t, htm, rfl, rfl, rfl, rfl⟩, HNT.out.2.2⟩
      clear ht hrw wt0 hbt
      obtain ⟨wt, hwt⟩ : ∃ wt, wr.alloc (.cells #[.slice t.A t.n t.c, .int .i64 t.v] 37) = wt := ⟨_, rfl⟩
      rw [hwt] at HBT HWT
      have HWE := Lib.hid hwt
      have hszt : wr.heap.size < wt.heap.size := lt_of_heap HWT.out
      have hbjt := (HBT.out.block (w1.heap.size + 1) (by omega)).trans HBJ.out
      have HOT2 : Hid (OwnE wt wB.heap.size A3 c3 Js) := by unfold Hid; rw [← hwt]; exact World.ownsRow.alloc HOJ.out _
      obtain ⟨t0, t1, _, _⟩ := pair_cells HWT.out
      obtain ⟨N, hN⟩ : ∃ N, Js.length = N := ⟨_, rfl⟩
      have HLJ := Lib.hid hN
      rw [hN] at p1 hbjt hji
      have HBJT := Lib.hid hbjt
      obtain ⟨u0, u1, uf0, uf1⟩ := pair_cells hbjt
      clear hbjt hN hwt
      rcases Nat.eq_zero_or_pos N with hj0 | hj0
      · subst hj0
        have hjn : Js = [] := List.eq_nil_of_length_eq_zero HLJ.out
        go_upto_region 8 with fail
        rw [HWE.out]
        go_wp2_with fail
        go_quiet (fail)
        go_wp2_with (at_builtin; refine wpList_appendEnt rfl (.tmp 62) (.tmp 64) rfl wB.heap.size A3 c3 0 1 t Js rfl rfl HOT2.out HLJ.out rfl (by omega) (by show wB.heap.size ≤ wt.heap.size; omega) ?_; intro A4 c4 w3 HO4 hb5; have HO5 := Lib.hid HO4; clear HO4; have rbj := (hb5.block (w1.heap.size + 1) (by omega)).trans HBJT.out; obtain ⟨s0, s1, sf0, sf1⟩ := pair_cells rbj; have HRB := Lib.hid rbj; have HB5 := Lib.hid hb5; clear rbj hb5)
        have hsn := set_snd w3 (w1.heap.size + 1) _ _ (.slice A4 1 c4) _ HRB.out
        have HOWN6 : Hid (OwnE (w3.setCell ⟨w1.heap.size + 1, 1, none⟩ (.slice A4 1 c4)) wB.heap.size A4 c4 (Js ++ [t])) := World.ownsRow.kept HO5.out hsn.2 (rows_ne HO5.out HRB.out (by decide))
        have HBF6 : Hid (Below (w1.heap.size + 1) wB (w3.setCell ⟨w1.heap.size + 1, 1, none⟩ (.slice A4 1 c4))) := (((HB.out.trans (HBT.out.mono (by omega))).trans (below_drewN (Below.refl _ wt) _)).trans (HB5.out.mono (by omega))).setCell (p := ⟨w1.heap.size + 1, 1, none⟩) (Nat.le_refl _) _
        have HHP6 : Hid ((w3.setCell ⟨w1.heap.size + 1, 1, none⟩ (.slice A4 1 c4)).heap[w1.heap.size + 1]? = some (.cells #[.slice A1 n c1, .slice A4 (Js ++ [t]).length c4] 25 (0, 0))) := by unfold Hid; rw [List.length_append, HLJ.out]; exact hsn.1
        have HKJ6 : Hid ((Js ++ [t]).map keyE = joinK ((Ss.take (i + 1)).map keyE)) := by unfold Hid; rw [HJK.out]; rw [hjn]; rfl
        have HOF6 : Hid (∀ x ∈ Js ++ [t], OfE Ss x) := fun x hx => by
          rcases List.mem_append.1 hx with h | h
          · exact HOF.out x h
          · rw [List.mem_singleton.1 h]; exact HOT.out
        have hlen6 : (Js ++ [t]).length ≤ i + 1 := by rw [List.length_append, HLJ.out]; first | (show _ + 1 ≤ _; omega) | (simp <;> omega)
        clear hsn
        go_roundw
        case rel => exact ⟨i + 1, Js ++ [t], A4, c4, by go_num, by omega, hlen6, HHP6, HOWN6, HKJ6, HOF6, HBF6⟩
        case measure => simp [intOf]; omega
      · obtain ⟨q, hq⟩ : ∃ q, N = q + 1 := ⟨N - 1, by omega⟩
        obtain ⟨Js0, z, hjz⟩ : ∃ Js0 z, Js = Js0 ++ [z] := ⟨Js.dropLast, Js.getLast (by intro e; have := HLJ.out; rw [e] at this; simp at this; omega), (List.dropLast_concat_getLast _).symm⟩
        have hl0 : Js0.length = q := by have := HLJ.out; rw [hjz] at this; simp at this; omega
        have hz : Js[q]? = some z := by rw [hjz, List.getElem?_append_right (by omega), hl0, Nat.sub_self]; rfl
        have HJZ := Lib.hid hjz
        obtain ⟨g2, rfl, hg2, hg2l⟩ := OwnE.block_ HOT2.out (by rw [HLJ.out]; exact hj0)
        obtain ⟨⟨d1, d2⟩, d3, d4⟩ := OwnE.cell_ HOT2.out hz
        obtain ⟨⟨y, hy, e1, e2, e3, e4⟩, hzv⟩ := HOF.out z (by rw [hjz]; simp)
        have HZV := Lib.hid hzv
        have hIz : Ints wt wt.heap.size z.A z.n z.cs := by rw [e1, e2, e4]; exact (((HNEW.out y hy).1.below (HB.out.mono (by omega))).below (HBT.out.mono (by omega))).more (by omega)
        have hIt : Ints wt wt.heap.size t.A t.n t.cs := ((HNT.out.1.below (HB.out.mono (by omega))).below (HBT.out.mono (by omega))).more (by omega)
        have hzn : z.n ≤ 4 := by rw [e2, HXN.out y hy]; exact hn4
        have hmx : Try.prog.follows .mixedOrders = true := by kernel_rfl
        have cQ := fun d os => Calls.regrown_of (refEqual_bel z.A t.A z.n t.n z.c t.c z.cs t.cs (grow (redrawn wt d) os) ((hIz.below (below_regrown wt d os)).more (below_regrown wt d os).size) ((hIt.below (below_regrown wt d os)).more (below_regrown wt d os).size) (by omega) (by have := HTN.out; omega))
        have x1 := cell_regrown u1
        have x2 := cell_regrown d1
        have x3 := cell_regrown t0
        have eq1 : (N : Int) - 1 = (q : Int) := by omega
        have hqN : (q : Int) < (N : Int) := by omega
        have hq0 : (0 : Int) ≤ (q : Int) := by omega
        have hdq : decide ((0 : Int) ≤ (q : Int)) = true := decide_eq_true hq0
        have hdn : decide ((0 : Int) < (N : Int)) = true := decide_eq_true (by omega)
        have hdn2 : decide (0 < N) = true := decide_eq_true hj0
        have eqw2 : IntKind.i64.wrap (q : Int) = (q : Int) := wrap_nat _ (by omega)
        have eqw : IntKind.i64.wrap ((N : Int) - 1) = (q : Int) := by rw [eq1]; exact wrap_nat _ (by omega)
        have HZ := Lib.hid hz
        have HL0 := Lib.hid hl0
        have HEQ := Lib.hid hq
        clear hz hl0 hq hy e1 e2 e3 e4 hzv hIz hIt hjz
        by_cases hcs : z.cs = t.cs
        · rw [decide_eq_true hcs] at cQ
          have HCS := Lib.hid hcs
          clear hcs
          go_upto_region 8 with fail
          rw [HWE.out]
          go_wp2_with fail
          refine wp_region_quiet_below hmx (by kernel_rfl) ?_
          repeat (quiet_step (first | (go_at_call 36; with_reducible exact cQ _ _)))
          refine wpQuiet_nil ?_
          intro _ hw'
          obtain ⟨⟨dq, osq⟩, hw''⟩ := hw'
          subst hw''
          have hb5 := below_regrown wt dq osq
          obtain ⟨w5, hw5⟩ : ∃ w5, grow (redrawn wt dq) osq = w5 := ⟨_, rfl⟩
          have HO5 : Hid (OwnE w5 wB.heap.size (some ⟨g2, 0, none⟩) c3 Js) := by unfold Hid; rw [← hw5]; exact OwnE.below HOT2.out hb5 (Nat.le_refl _)
          rw [hw5] at hb5 ⊢
          have HW5 := Lib.hid hb5
          have rb5 := (hb5.block (w1.heap.size + 1) (by omega)).trans HBJT.out
          have rt5 := (hb5.block wr.heap.size hszt).trans HWT.out
          obtain ⟨k0, k1, _, _⟩ := pair_cells rb5
          obtain ⟨m0, m1, _, _⟩ := pair_cells rt5
          obtain ⟨⟨n1, n2⟩, n3, n4⟩ := OwnE.cell_ HO5.out HZ.out
          have HRB := Lib.hid rb5
          clear x1 x2 x3 u0 u1 uf0 uf1 d1 d2 d3 d4 t0 t1 cQ hw5 rb5 rt5
          go_wp2_with fail
          have hset := OwnE.setV HO5.out HZ.out (wrap64 (z.v + t.v))
          have hgs := grownBy_setE (grown_same w5 g2) (q * 2 + 1) (.int .i64 (wrap64 (z.v + t.v)))
          have HBJ6 : Hid ((w5.setCell ⟨g2, q * 2 + 1, none⟩ (.int .i64 (wrap64 (z.v + t.v)))).heap[w1.heap.size + 1]? = some (.cells #[.slice A1 n c1, .slice (some ⟨g2, 0, none⟩) N c3] 25 (0, 0))) := (hgs.block (w1.heap.size + 1) (lt_of_heap HRB.out) (by intro e; injection e with e; omega)).trans HRB.out
          have HOS := Lib.hid hset
          have HB6 : Hid (Below (w1.heap.size + 1) wB (w5.setCell ⟨g2, q * 2 + 1, none⟩ (.int .i64 (wrap64 (z.v + t.v))))) := ((HB.out.trans (HBT.out.mono (by omega))).trans (HW5.out.mono (by omega))).setCell (p := ⟨g2, q * 2 + 1, none⟩) (by show w1.heap.size + 1 ≤ g2; omega) _
          have HKJ6 : Hid ((Js.set q ⟨z.A, z.n, z.c, z.cs, wrap64 (z.v + t.v)⟩).map keyE = joinK ((Ss.take (i + 1)).map keyE)) := by
            unfold Hid
            rw [HJK.out, HJZ.out, List.set_append_right _ _ (by rw [HL0.out]; exact Nat.le_refl _), HL0.out, Nat.sub_self, List.set_cons_zero, List.map_append, List.map_append]
            exact (joinStep_same (L := Js0.map keyE) (z := keyE z) (t := keyE t) HCS.out).symm
          have HOF6 : Hid (∀ x ∈ Js.set q ⟨z.A, z.n, z.c, z.cs, wrap64 (z.v + t.v)⟩, OfE Ss x) := fun x hx => by
            rcases List.mem_or_eq_of_mem_set hx with h | h
            · exact HOF.out x h
            · rw [h]; exact ⟨(HOF.out z (List.mem_of_getElem? HZ.out)).1, wrap64_range _⟩
          have hlen6 : (Js.set q ⟨z.A, z.n, z.c, z.cs, wrap64 (z.v + t.v)⟩).length ≤ i + 1 := by rw [List.length_set, HLJ.out]; omega
          have HHP6 : Hid ((w5.setCell ⟨g2, q * 2 + 1, none⟩ (.int .i64 (wrap64 (z.v + t.v)))).heap[w1.heap.size + 1]? = some (.cells #[.slice A1 n c1, .slice (some ⟨g2, 0, none⟩) (Js.set q ⟨z.A, z.n, z.c, z.cs, wrap64 (z.v + t.v)⟩).length c3] 25 (0, 0))) := by unfold Hid; rw [List.length_set, HLJ.out]; exact HBJ6.out
          clear hset hgs
          go_region
          all_goals
            obtain ⟨w6, hw6⟩ : ∃ w6, w5.setCell ⟨g2, q * 2 + 1, none⟩ (.int .i64 (wrap64 (z.v + t.v))) = w6 := ⟨_, rfl⟩
            rw [hw6] at HOS HB6 HHP6 ⊢
            clear hw6 k0 k1 m0 m1 n1 n2 n3 n4
            go_wp2_with fail
            go_roundw
            case rel => exact ⟨i + 1, _, _, c3, by go_num, by omega, hlen6, HHP6, HOS, HKJ6, HOF6, Lib.hid HB6.out.drew⟩
            case measure => simp [intOf]; omega
        · rw [decide_eq_false hcs] at cQ
          have HCS := Lib.hid hcs
          clear hcs
          go_upto_region 8 with fail
          rw [HWE.out]
          go_wp2_with fail
          refine wp_region_quiet_below hmx (by kernel_rfl) ?_
          repeat (quiet_step (first | (go_at_call 36; with_reducible exact cQ _ _)))
          refine wpQuiet_nil ?_
          intro _ hw'
          obtain ⟨⟨dq, osq⟩, hw''⟩ := hw'
          subst hw''
          have hb5 := below_regrown wt dq osq
          obtain ⟨w5, hw5⟩ : ∃ w5, grow (redrawn wt dq) osq = w5 := ⟨_, rfl⟩
          have HO4' : Hid (OwnE w5 wB.heap.size (some ⟨g2, 0, none⟩) c3 Js) := by unfold Hid; rw [← hw5]; exact OwnE.below HOT2.out hb5 (Nat.le_refl _)
          rw [hw5] at hb5 ⊢
          have HW5 := Lib.hid hb5
          have hs5 : wB.heap.size ≤ w5.heap.size := by have := hb5.size; omega
          have rb5 := (hb5.block (w1.heap.size + 1) (by omega)).trans HBJT.out
          have rt5 := (hb5.block wr.heap.size hszt).trans HWT.out
          obtain ⟨k0, k1, _, _⟩ := pair_cells rb5
          obtain ⟨m0, m1, _, _⟩ := pair_cells rt5
          have HBJ5 := Lib.hid rb5
          have hne : ¬ (keyE z).1 = (keyE t).1 := HCS.out
          clear x1 x2 x3 u0 u1 uf0 uf1 d1 d2 d3 d4 t0 t1 cQ hw5 rb5 rt5
          go_wp2_with (at_builtin; refine wpList_appendEnt rfl (.tmp 62) (.tmp 64) rfl wB.heap.size (some ⟨g2, 0, none⟩) c3 N (N + 1) t Js rfl rfl HO4'.out HLJ.out rfl (by omega) hs5 ?_; intro A4 c4 w3 HO4 hb5; have HO5 := Lib.hid HO4; clear HO4; have rbj := (hb5.block (w1.heap.size + 1) (by omega)).trans HBJ5.out; obtain ⟨s0, s1, sf0, sf1⟩ := pair_cells rbj; have HRB := Lib.hid rbj; have HB5 := Lib.hid hb5; clear rbj hb5)
          have hsn := set_snd w3 (w1.heap.size + 1) _ _ (.slice A4 (N + 1 : Nat) c4) _ HRB.out
          have HOWN6 : Hid (OwnE (w3.setCell ⟨w1.heap.size + 1, 1, none⟩ (.slice A4 (N + 1 : Nat) c4)) wB.heap.size A4 c4 (Js ++ [t])) := World.ownsRow.kept HO5.out hsn.2 (rows_ne HO5.out HRB.out (by decide))
          have HBF6 : Hid (Below (w1.heap.size + 1) wB (w3.setCell ⟨w1.heap.size + 1, 1, none⟩ (.slice A4 (N + 1 : Nat) c4))) := (((HB.out.trans (HBT.out.mono (by omega))).trans (HW5.out.mono (by omega))).trans (HB5.out.mono (by omega))).setCell (p := ⟨w1.heap.size + 1, 1, none⟩) (Nat.le_refl _) _
          have HHP6 : Hid ((w3.setCell ⟨w1.heap.size + 1, 1, none⟩ (.slice A4 (N + 1 : Nat) c4)).heap[w1.heap.size + 1]? = some (.cells #[.slice A1 n c1, .slice A4 (Js ++ [t]).length c4] 25 (0, 0))) := by unfold Hid; rw [List.length_append, HLJ.out]; exact hsn.1
          have HKJ6 : Hid ((Js ++ [t]).map keyE = joinK ((Ss.take (i + 1)).map keyE)) := by unfold Hid; rw [HJK.out]; rw [HJZ.out, List.map_append, List.map_append]; exact (joinStep_other hne).symm
          have HOF6 : Hid (∀ x ∈ Js ++ [t], OfE Ss x) := fun x hx => by
            rcases List.mem_append.1 hx with h | h
            · exact HOF.out x h
            · rw [List.mem_singleton.1 h]; exact HOT.out
          have hlen6 : (Js ++ [t]).length ≤ i + 1 := by rw [List.length_append, HLJ.out]; first | (show _ + 1 ≤ _; omega) | (simp <;> omega)
          clear hsn
          go_roundw
          case rel => exact ⟨i + 1, Js ++ [t], A4, c4, by go_num, by omega, hlen6, HHP6, HOWN6, HKJ6, HOF6, HBF6⟩
          case measure => simp [intOf]; omega
    · obtain rfl : i = m := by omega
      have hrv := (HB.out.block (w.heap.size + 1) (by omega)).trans HQ2.out
      obtain ⟨v0, v1, vf0, vf1⟩ := pair_cells hrv
      have HRV2 := Lib.hid hrv
      obtain ⟨N, hN⟩ : ∃ N, Js.length = N := ⟨_, rfl⟩
      rw [hN] at p1 hji
      have HNN := Lib.hid hN
      clear hrv hN
      go_wp2_with fail
      have hres := set_two wr (w.heap.size + 1) _ _ (.slice A1 n c1) (.slice A3 N c3) _ HRV2.out
      obtain ⟨s0, s1, _, _⟩ := pair_cells hres.1
      obtain ⟨wz, hwz⟩ : ∃ wz, (wr.setCell ⟨w.heap.size + 1, 0, none⟩ (.slice A1 n c1)).setCell ⟨w.heap.size + 1, 1, none⟩ (.slice A3 N c3) = wz := ⟨_, rfl⟩
      rw [hwz] at hres s0 s1 ⊢
      have hb5 := HB0.out.trans (HB.out.mono (by omega))
      have hEJ : Ents wr wr.heap.size A3 Js.length Js := HOJ.out.entsOf fun x hx => by
        obtain ⟨⟨y, hy, e1, e2, e3, e4⟩, hvb⟩ := HOF.out x hx
        obtain ⟨n1, n3, _⟩ := HNEW.out y hy
        have hyn := HXN.out y hy
        exact ⟨by rw [e1, e2, e4]; exact (n1.below (HB.out.mono (by omega))).more (by omega), by rw [e2]; omega, by rw [e2, e3]; exact n3, hvb⟩
      rw [HNN.out] at hEJ
      have VJ : CooV wr A1 n A3 N xs Js := ⟨(VS.below (HYB.out.trans (HB.out.mono (by omega)))).1, hEJ⟩
      exact bodyPost_ret (v := .tuple #[.agg #[.slice A1 n c1, .slice A3 N c3], .int .i64 0]) (by simp [results, Try.results17, go_sem, s0, s1]) rfl ⟨A1, c1, A3, N, c3, Js, rfl, VJ.skip hres.2 HRV2.out, by unfold Hid; rw [HKJ.out, List.take_of_length_le (Nat.le_of_eq HSL.out), HKEY.out], hji, hb5.grown hres.2 hb5.size (fun k hk => by injection hk with hk; omega)⟩
end Go.Proofs.Ytpfabbapfmfmmaa
