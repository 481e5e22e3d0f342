/- purflelaw03.PermCycles returns true at every input, and nothing that lay there has turned. -/
import Derived.Test.YtnjjmeaggnlafaaPMap
namespace Go.Proofs.Ytnjjmeaggnlafaa
open Go.RowKit Go.Maps

theorem rise_next {LL : List (List Int)} (h : LL.Pairwise (fun a b => a.headD 0 < b.headD 0)) {k : Nat} {c : List Int} (hc : LL[k]? = some c) : ∀ d, LL[k + 1]? = some d → c.headD 0 < d.headD 0 := by
  intro d hd
  obtain ⟨h1, rfl⟩ := List.getElem?_eq_some_iff.1 hc
  obtain ⟨h2, rfl⟩ := List.getElem?_eq_some_iff.1 hd
  exact List.pairwise_iff_getElem.1 h k (k + 1) h1 h2 (by omega)
theorem flat_succ {LL : List (List Int)} {k : Nat} {c : List Int} (hc : LL[k]? = some c) : (LL.take (k + 1)).flatten = (LL.take k).flatten ++ c := by
  rw [take_succ_of hc, List.flatten_append]; simp
theorem flat_new {LL : List (List Int)} (h : LL.flatten.Nodup) {k j : Nat} {c : List Int} {x : Int} (hc : LL[k]? = some c) (hx : c[j]? = some x) : ((LL.take k).flatten ++ c.take j).contains x = false := by
  have h1 : ((LL.take (k + 1)).flatten).Nodup := by
    have : LL.flatten = (LL.take (k + 1)).flatten ++ (LL.drop (k + 1)).flatten := by rw [← List.flatten_append, List.take_append_drop]
    rw [this, List.nodup_append] at h
    exact h.1
  rw [flat_succ hc] at h1
  have e : (LL.take k).flatten ++ c = ((LL.take k).flatten ++ c.take j) ++ x :: c.drop (j + 1) := by
    rw [List.append_assoc, ← drop_of hx, List.take_append_drop]
  rw [e, List.nodup_append] at h1
  have h2 : x ∉ (LL.take k).flatten ++ c.take j := fun hm => h1.2.2 x hm x (by simp) rfl
  cases hh : ((LL.take k).flatten ++ c.take j).contains x with
  | false => rfl
  | true => exact absurd (by simpa using hh) (by simpa using h2)
theorem flat_short {p L : List Int} {n : Nat} (hp : Perm_ p) (hl : p.length = n) (k j : Nat) (hL : (cycsL p)[k]? = some L) : (((cycsL p).take k).flatten ++ L.take j).length ≤ n := by
  have h1 := met_all hp
  have e : (cycsL p).flatten = ((cycsL p).take (k + 1)).flatten ++ ((cycsL p).drop (k + 1)).flatten := by rw [← List.flatten_append, List.take_append_drop]
  rw [e, flat_succ hL] at h1
  simp only [List.length_append, List.length_take] at h1 ⊢
  omega
/-- what a statement reads off one cycle -/
theorem cyc_facts {p c : List Int} {n : Nat} (hp : Perm_ p) (hl : p.length = n) (hc : c ∈ cycsL p) : 0 < c.length ∧ c.length ≤ n ∧ c[0]? = some (c.headD 0) ∧ 0 ≤ c.headD 0 ∧
    ∀ (j : Nat) (x : Int), c[j]? = some x → c.headD 0 ≤ x ∧ 0 ≤ x ∧ x < n ∧ ∃ y, p[x.toNat]? = some y ∧ c[(j + 1) % c.length]? = some y := by
  obtain ⟨i, hi, rfl, hm⟩ := cycs_mem hc
  have h := cyc_of hp hi
  have hpos := h.pos
  have hh : (cycL p (i : Int)).headD 0 = (i : Int) := rfl
  rw [hh]
  refine ⟨hpos, by rw [← hl]; exact nodup_len h.nodup h.inn, h.head, by omega, fun j x hx => ?_⟩
  have hxm := List.mem_of_getElem? hx
  have hb := h.inn x hxm
  have hle := minL_le hxm
  have hj := (List.getElem?_eq_some_iff.1 hx).1
  refine ⟨by omega, hb.1, by omega, ?_⟩
  by_cases hl2 : j + 1 < (cycL p (i : Int)).length
  · obtain ⟨y, hy⟩ : ∃ y, (cycL p (i : Int))[j + 1]? = some y := ⟨_, List.getElem?_eq_getElem hl2⟩
    exact ⟨y, (h.way j x y hx hy).1, by rw [Nat.mod_eq_of_lt hl2]; exact hy⟩
  · obtain ⟨z, hz, hzf⟩ := h.last
    have e : j = (cycL p (i : Int)).length - 1 := by omega
    rw [e, hz] at hx; injection hx with hx; subst hx
    refine ⟨(i : Int), hzf, ?_⟩
    rw [show j + 1 = (cycL p (i : Int)).length by omega, Nat.mod_self]; exact h.head

set_option maxRecDepth 100000 in
set_option maxHeartbeats 8000000 in
theorem permCycles_any (w : World) (A0 : Option Addr) (n c0 : Nat) (p : List Int) (I0 : Ints w w.heap.size A0 n p) (hn : n ≤ 9223372036854775807) (hc0 : n ≤ c0) :
    Calls Try.prog 8 #[.slice A0 n c0] w fun e w' => e = .returned (.bool true) ∧ Below w.heap.size w w' := by
  have HB : Below w.heap.size w w := Below.refl _ _
  obtain ⟨fb, hfb⟩ : ∃ fb, fewB [n] = fb := ⟨_, rfl⟩
  have HFB := Lib.hid hfb
  clear hfb
  cases fb
  · have T : True := trivial
    go_enter Try.func8, Try.ntmps8
    go_wp2_with fail
    refine (lawLive_any _).mono ?_
    rintro e w1 ⟨rfl, hb⟩
    replace I0 := (I0.below hb).more hb.size
    replace HB := HB.trans (hb.mono HB.size)
    clear hb
    go_wp2_with fail
    refine (few1_s A0 n c0 _ false hn HFB.out).mono ?_
    rintro e w2 ⟨rfl, hb⟩
    replace I0 := (I0.below hb).more hb.size
    replace HB := HB.trans (hb.mono HB.size)
    clear hb
    go_wp2_with fail
    go_ret
    exact ⟨rfl, HB⟩
  by_cases h : ¬ Perm_ p
  · have HP := Lib.hid h
    clear h
    go_enter Try.func8, Try.ntmps8
    go_wp2_with fail
    refine (lawLive_any _).mono ?_
    rintro e w1 ⟨rfl, hb⟩
    replace I0 := (I0.below hb).more hb.size
    replace HB := HB.trans (hb.mono HB.size)
    clear hb
    go_wp2_with fail
    refine (few1_s A0 n c0 _ true hn HFB.out).mono ?_
    rintro e w2 ⟨rfl, hb⟩
    replace I0 := (I0.below hb).more hb.size
    replace HB := HB.trans (hb.mono HB.size)
    clear hb
    go_wp2_with fail
    refine (check_n A0 n c0 p _ I0 hn HP.out).mono ?_
    rintro e w3 ⟨rfl, hb⟩
    replace I0 := (I0.below hb).more hb.size
    replace HB := HB.trans (hb.mono HB.size)
    clear hb
    go_wp2_with fail
    go_ret
    exact ⟨rfl, HB⟩
  have HP := Lib.hid (Classical.not_not.1 h)
  clear h
  have h12 : n ≤ 12 := by rw [← I0.1]; exact HP.out.len
  have HL : Hid (p.length = n) := I0.1
  obtain ⟨m, hm⟩ : ∃ m, (cycsL p).length = m := ⟨_, rfl⟩
  have hm12 : m ≤ n := by rw [← hm, ← HL.out]; exact cycsTo_length_le p p.length
  have HM := Lib.hid hm
  clear hm
  obtain ⟨BO, hBO⟩ : ∃ BO, oddB p = BO := ⟨_, rfl⟩
  have HBO := Lib.hid hBO
  clear hBO
  have hmm := @run_makeMap Try.prog
  have HND : Hid ((cycsL p).flatten.Nodup) := met_nodup HP.out p.length (Nat.le_refl _)
  have HRI : Hid ((cycsL p).Pairwise (fun a b => a.headD 0 < b.headD 0)) := (cycs_rise p.length (Nat.le_refl _)).1
  go_enter Try.func8, Try.ntmps8
  go_wp2_with fail
  refine (lawLive_any _).mono ?_
  rintro e w1 ⟨rfl, hb⟩
  replace I0 := (I0.below hb).more hb.size
  replace HB := HB.trans (hb.mono HB.size)
  clear hb
  go_wp2_with fail
  refine (few1_s A0 n c0 _ true hn HFB.out).mono ?_
  rintro e w2 ⟨rfl, hb⟩
  replace I0 := (I0.below hb).more hb.size
  replace HB := HB.trans (hb.mono HB.size)
  clear hb
  go_wp2_with fail
  refine (check_s A0 n c0 p _ I0 hn HP.out).mono ?_
  rintro e w3 ⟨rfl, hb⟩
  replace I0 := (I0.below hb).more hb.size
  replace HB := HB.trans (hb.mono HB.size)
  clear hb
  go_wp2_with fail
  refine (cycles_s A0 n c0 p _ I0 HP.out m HM.out).mono ?_
  rintro e w4 ⟨A3, c3, rfl, I3, hb⟩
  replace I0 := (I0.below hb).more hb.size
  replace HB := HB.trans (hb.mono HB.size)
  clear hb
  go_wp2_with fail
  refine (odd_s A0 n c0 p _ _ I0 HP.out hc0 HBO.out).mono ?_
  rintro e w5 ⟨rfl, hb⟩
  replace I0 := (I0.below hb).more hb.size
  replace I3 := (I3.below hb).more hb.size
  replace HB := HB.trans (hb.mono HB.size)
  clear hb
  go_wp2
  have HBH := Lib.hid HB
  clear HB hmm
  go_loopw [9, 10, 45] (fun ve vl vi wr => ∃ (k ev : Nat) (last : Int), ve = .int .i64 ev ∧ vl = .int .i64 last ∧ vi = .int .i64 k ∧ k ≤ m ∧ ev ≤ k ∧ -1 ≤ last ∧ Hid (ev = evenC ((cycsL p).take k)) ∧ Hid (∀ c, (cycsL p)[k]? = some c → last < c.headD 0) ∧ Hid (MetMap wr w5.heap.size ((cycsL p).take k).flatten.length ((cycsL p).take k).flatten) ∧ Hid (size (setD ((cycsL p).take k).flatten) = ((cycsL p).take k).flatten.length) ∧ Below w5.heap.size w5 wr) (fun _ _ i _ => m - (intOf i).toNat)
  case atStart =>
    refine ⟨0, 0, -1, rfl, rfl, rfl, Nat.zero_le _, Nat.le_refl _, by omega, by unfold Hid; simp [evenC], ?_, ?_, by unfold Hid; simp only [List.take_zero, List.flatten_nil]; rfl, (Below.refl _ w5).alloc (Nat.le_refl _) _⟩
    · intro c hc
      have := cyc_facts HP.out HL.out (List.mem_of_getElem? hc); omega
    · unfold Hid; simp only [List.take_zero, List.flatten_nil]; exact World.ownsMap_made _ _ _ _
  case round =>
    obtain ⟨k, ev, last, rfl, rfl, rfl, hk, hev, hlast, HEV, HLA, HMT, HSZ, hb⟩ := hrel
    by_cases hlt : k < m
    · obtain ⟨b, off, L, a3, cL, hA3, hB3, HX, hc, hcap, hI⟩ := I3.at_ hlt
      have hcw := (hb.cell (p := ⟨b, off + k, none⟩) hB3).trans hc
      obtain ⟨q1, q2, q3, q4, q5⟩ := cyc_facts HP.out HL.out (List.mem_of_getElem? HX.out)
      have q6 := HLA.out L HX.out
      have HR7 := Lib.hid (rise_next HRI.out HX.out)
      have HEN : Hid (evenC ((cycsL p).take (k + 1)) = evenC ((cycsL p).take k) + if L.length % 2 = 0 then 1 else 0) := by unfold Hid; rw [take_succ_of HX.out, evenC_snoc]
      obtain ⟨s, hs⟩ : ∃ s, L.length = s := ⟨_, rfl⟩
      rw [hs] at hcw hcap hI q1 q2 q5 HEN
      have HS := Lib.hid hs
      obtain ⟨f, hf⟩ : ∃ f, L.headD 0 = f := ⟨_, rfl⟩
      rw [hf] at q3 q4 q5 q6 HR7
      have HQ5 := Lib.hid q5
      obtain ⟨b2, off2, f2, ha3, hB2, HX2, hcf0, hf1, hf2⟩ := hI.at_ (k := 0) q1
      have HF2 : Hid (f2 = f) := by unfold Hid; have := HX2.out; rw [q3] at this; injection this with this; exact this.symm
      rw [HF2.out, Nat.add_zero] at hcf0
      have hcf := (hb.cell (p := ⟨b2, off2, none⟩) hB2).trans hcf0
      have HCF0 := Lib.hid hcf0
      have HIL := Lib.hid hI
      subst hA3
      subst ha3
      have e1 : ((s : Int) == 0) = false := by simp; omega
      have e2 : decide (f ≤ last) = false := by simp; omega
      have hff : -9223372036854775808 ≤ f ∧ f ≤ 9223372036854775807 := by rw [← HF2.out]; exact ⟨hf1, hf2⟩
      clear q3 q5 hs hf HX2 hc hcf0 hI hf1 hf2 HF2 HLA
      rcases Nat.mod_two_eq_zero_or_one s with hev2 | hev2
      · have hs2 : (s : Int) % 2 = 0 := by omega
        have e3 : ((s : Int) % 2 == 0) = true := by simp; omega
        have HEN2 : Hid (ev + 1 = evenC ((cycsL p).take (k + 1))) := by unfold Hid; rw [HEN.out, HEV.out, if_pos hev2]
        clear hev2 HEN HEV hs2
        go_wp2
        obtain ⟨wo, rfl⟩ : ∃ wo : World, wo = wr := ⟨_, rfl⟩
        go_loopw [70] (fun vi wr => ∃ j : Nat, vi = .int .i64 j ∧ j ≤ s ∧ Hid (MetMap wr w5.heap.size (((cycsL p).take k).flatten ++ L.take j).length (((cycsL p).take k).flatten ++ L.take j)) ∧ Hid (size (setD (((cycsL p).take k).flatten ++ L.take j)) = (((cycsL p).take k).flatten ++ L.take j).length) ∧ Below w5.heap.size w5 wr) (fun vi _ => s - (intOf vi).toNat)
        case atStart => exact ⟨0, rfl, Nat.zero_le _, by unfold Hid; rw [List.take_zero, List.append_nil]; exact HMT.out, by unfold Hid; rw [List.take_zero, List.append_nil]; exact HSZ.out, hb⟩
        case round =>
          clear HMT HSZ hb hcf hcw
          obtain ⟨j, rfl, hj, HMT, HSZ, hb⟩ := hrel
          by_cases hjs : j < s
          · obtain ⟨b5, off5, x, hA5, _, HXJ, hcx, hx1, hx2⟩ := (HIL.out.below hb).at_ hjs
            obtain ⟨rfl, rfl⟩ : b2 = b5 ∧ off2 = off5 := by injection hA5 with hA5; injection hA5 with h1 h2; exact ⟨h1, h2⟩
            obtain ⟨r1, r2, r3, y, r4, r5⟩ := HQ5.out j x HXJ.out
            obtain ⟨jn, hjn⟩ : ∃ jn, (j + 1) % s = jn := ⟨_, rfl⟩
            have hjn2 : jn < s := by rw [← hjn]; exact Nat.mod_lt _ (by omega)
            rw [hjn] at r5
            obtain ⟨b6, off6, y2, hA6, _, HXN, hcn, hy1, hy2⟩ := (HIL.out.below hb).at_ hjn2
            obtain ⟨rfl, rfl⟩ : b2 = b6 ∧ off2 = off6 := by injection hA6 with hA6; injection hA6 with h1 h2; exact ⟨h1, h2⟩
            obtain rfl : y2 = y := by have := HXN.out; rw [r5] at this; injection this with this; exact this.symm
            obtain ⟨b7, off7, y3, hA7, _, HXP, hcp, _, _⟩ := ((I0.below hb).at_ (k := x.toNat) (by omega))
            obtain rfl : y3 = y2 := by have := HXP.out; rw [r4] at this; injection this with this; exact this.symm
            have hcf := (hb.cell (p := ⟨b2, off2, none⟩) hB2).trans HCF0.out
            have hnew := flat_new HND.out HX.out HXJ.out
            have hlk := fun q => met_look (w := wr.drewN q) HMT.out (x := x) ⟨hx1, hx2⟩
            rw [hnew] at hlk
            have HNEW := Lib.hid hnew
            have HSN : Hid (((cycsL p).take k).flatten ++ L.take (j + 1) = (((cycsL p).take k).flatten ++ L.take j) ++ [x]) := by unfold Hid; rw [take_succ_of HXJ.out, List.append_assoc]
            have t1 : decide (x < f) = false := by simp; omega
            have t2 : decide (x < 0) = false := by simp; omega
            have t3 : decide ((n : Int) ≤ x) = false := by simp; omega
            have t4 : (y3 == y3) = true := by simp
            have t5 : (y3 != y3) = false := by simp
            have t6 : IntKind.i64.wrap ((j : Int) + 1) = (j : Int) + 1 := by rw [wrap_eq]; exact IntWalk.wrap64_in _ ⟨by omega, by omega⟩
            have t7 : ((j : Int) + 1) % (s : Int) = (jn : Int) := by rw [← hjn]; exact (Int.natCast_emod (j + 1) s).symm ▸ rfl
            have t8 : ((j : Int) + 1).tmod (s : Int) = (jn : Int) := by rw [Int.tmod_eq_emod_of_nonneg (by omega)]; exact t7
            have t9 : ¬ (s : Int) = 0 := by omega
            have hjn3 : (jn : Int) < s := by omega
            have HAP := Lib.hid hA7
            have HT8 := Lib.hid t8
            subst hA7
            clear hA5 hA6 r4 r5 hjn hnew HXN HXP
            go_wp2
            go_quiet (fail)
            have hmm8 : World.ownsMap (wr.drewN nq) Try.prog 3 (plainElem Try.prog 4) w5.heap.size (((cycsL p).take k).flatten ++ L.take j).length (setD (((cycsL p).take k).flatten ++ L.take j)) := HMT.out
            have hmx : (((cycsL p).take k).flatten ++ L.take j).length < maxLen := by have := flat_short HP.out HL.out (L := L) k j HX.out; unfold maxLen; omega
            have hky := keyOf_int_mk (P := Try.prog) Try.underlying3 (int_wf (x := x) ⟨hx1, hx2⟩)
            go_wp2_with (at_mapUpdate; refine wpList_mapUpdate_own _ rfl _ _ _ 48 rfl 3 4 (int_keyed Try.underlying3) Try.underlying48 _ w5.heap.size _ _ rfl hmm8 hmx _ _ _ rfl rfl hky _ [] (plainElem_bool Try.underlying4 true) ?_; intro w8 hown8 hg8)
            have HM8 : Hid (MetMap w8 w5.heap.size (((cycsL p).take k).flatten ++ L.take (j + 1)).length (((cycsL p).take k).flatten ++ L.take (j + 1))) := by unfold Hid MetMap; rw [HSN.out, setD_snoc, List.length_append]; exact hown8
            have HS8 : Hid (size (setD (((cycsL p).take k).flatten ++ L.take (j + 1))) = (((cycsL p).take k).flatten ++ L.take (j + 1)).length) := by unfold Hid; rw [HSN.out, setD_size HNEW.out, HSZ.out]; simp only [List.length_append, List.length_singleton]
            have hb8 : Below w5.heap.size w5 w8 := (below_drewN hb nq).grown hg8 hb.size (fun k hk => by injection hk with hk; omega)
            go_roundw
            case rel => exact ⟨j + 1, by go_num, by omega, HM8, HS8, hb8⟩
            case measure => simp [intOf]; omega
          · have hLj : L.take j = L := List.take_of_length_le (by rw [HS.out]; omega)
            have HM9 : Hid (MetMap wr w5.heap.size ((cycsL p).take (k + 1)).flatten.length ((cycsL p).take (k + 1)).flatten) := by unfold Hid; have := HMT.out; rwa [hLj, ← flat_succ HX.out] at this
            have HS9 : Hid (size (setD ((cycsL p).take (k + 1)).flatten) = ((cycsL p).take (k + 1)).flatten.length) := by unfold Hid; have := HSZ.out; rwa [hLj, ← flat_succ HX.out] at this
            clear hLj HMT HSZ
            go_wp2
            go_roundw
            case rel => exact ⟨k + 1, ev + 1, f, by go_num, rfl, by go_num, by omega, by omega, by omega, HEN2, HR7, HM9, HS9, hb⟩
            case measure => simp [intOf]; omega
      · have hs2 : (s : Int) % 2 = 1 := by omega
        have e3 : ((s : Int) % 2 == 0) = false := by simp; omega
        have HEN2 : Hid (ev = evenC ((cycsL p).take (k + 1))) := by unfold Hid; rw [HEN.out, HEV.out, if_neg (by omega), Nat.add_zero]
        clear hev2 HEN HEV hs2
        go_wp2
        obtain ⟨wo, rfl⟩ : ∃ wo : World, wo = wr := ⟨_, rfl⟩
        go_loopw [70] (fun vi wr => ∃ j : Nat, vi = .int .i64 j ∧ j ≤ s ∧ Hid (MetMap wr w5.heap.size (((cycsL p).take k).flatten ++ L.take j).length (((cycsL p).take k).flatten ++ L.take j)) ∧ Hid (size (setD (((cycsL p).take k).flatten ++ L.take j)) = (((cycsL p).take k).flatten ++ L.take j).length) ∧ Below w5.heap.size w5 wr) (fun vi _ => s - (intOf vi).toNat)
        case atStart => exact ⟨0, rfl, Nat.zero_le _, by unfold Hid; rw [List.take_zero, List.append_nil]; exact HMT.out, by unfold Hid; rw [List.take_zero, List.append_nil]; exact HSZ.out, hb⟩
        case round =>
          clear HMT HSZ hb hcf hcw
          obtain ⟨j, rfl, hj, HMT, HSZ, hb⟩ := hrel
          by_cases hjs : j < s
          · obtain ⟨b5, off5, x, hA5, _, HXJ, hcx, hx1, hx2⟩ := (HIL.out.below hb).at_ hjs
            obtain ⟨rfl, rfl⟩ : b2 = b5 ∧ off2 = off5 := by injection hA5 with hA5; injection hA5 with h1 h2; exact ⟨h1, h2⟩
            obtain ⟨r1, r2, r3, y, r4, r5⟩ := HQ5.out j x HXJ.out
            obtain ⟨jn, hjn⟩ : ∃ jn, (j + 1) % s = jn := ⟨_, rfl⟩
            have hjn2 : jn < s := by rw [← hjn]; exact Nat.mod_lt _ (by omega)
            rw [hjn] at r5
            obtain ⟨b6, off6, y2, hA6, _, HXN, hcn, hy1, hy2⟩ := (HIL.out.below hb).at_ hjn2
            obtain ⟨rfl, rfl⟩ : b2 = b6 ∧ off2 = off6 := by injection hA6 with hA6; injection hA6 with h1 h2; exact ⟨h1, h2⟩
            obtain rfl : y2 = y := by have := HXN.out; rw [r5] at this; injection this with this; exact this.symm
            obtain ⟨b7, off7, y3, hA7, _, HXP, hcp, _, _⟩ := ((I0.below hb).at_ (k := x.toNat) (by omega))
            obtain rfl : y3 = y2 := by have := HXP.out; rw [r4] at this; injection this with this; exact this.symm
            have hcf := (hb.cell (p := ⟨b2, off2, none⟩) hB2).trans HCF0.out
            have hnew := flat_new HND.out HX.out HXJ.out
            have hlk := fun q => met_look (w := wr.drewN q) HMT.out (x := x) ⟨hx1, hx2⟩
            rw [hnew] at hlk
            have HNEW := Lib.hid hnew
            have HSN : Hid (((cycsL p).take k).flatten ++ L.take (j + 1) = (((cycsL p).take k).flatten ++ L.take j) ++ [x]) := by unfold Hid; rw [take_succ_of HXJ.out, List.append_assoc]
            have t1 : decide (x < f) = false := by simp; omega
            have t2 : decide (x < 0) = false := by simp; omega
            have t3 : decide ((n : Int) ≤ x) = false := by simp; omega
            have t4 : (y3 == y3) = true := by simp
            have t5 : (y3 != y3) = false := by simp
            have t6 : IntKind.i64.wrap ((j : Int) + 1) = (j : Int) + 1 := by rw [wrap_eq]; exact IntWalk.wrap64_in _ ⟨by omega, by omega⟩
            have t7 : ((j : Int) + 1) % (s : Int) = (jn : Int) := by rw [← hjn]; exact (Int.natCast_emod (j + 1) s).symm ▸ rfl
            have t8 : ((j : Int) + 1).tmod (s : Int) = (jn : Int) := by rw [Int.tmod_eq_emod_of_nonneg (by omega)]; exact t7
            have t9 : ¬ (s : Int) = 0 := by omega
            have hjn3 : (jn : Int) < s := by omega
            have HAP := Lib.hid hA7
            have HT8 := Lib.hid t8
            subst hA7
            clear hA5 hA6 r4 r5 hjn hnew HXN HXP
            go_wp2
            go_quiet (fail)
            have hmm8 : World.ownsMap (wr.drewN nq) Try.prog 3 (plainElem Try.prog 4) w5.heap.size (((cycsL p).take k).flatten ++ L.take j).length (setD (((cycsL p).take k).flatten ++ L.take j)) := HMT.out
            have hmx : (((cycsL p).take k).flatten ++ L.take j).length < maxLen := by have := flat_short HP.out HL.out (L := L) k j HX.out; unfold maxLen; omega
            have hky := keyOf_int_mk (P := Try.prog) Try.underlying3 (int_wf (x := x) ⟨hx1, hx2⟩)
            go_wp2_with (at_mapUpdate; refine wpList_mapUpdate_own _ rfl _ _ _ 48 rfl 3 4 (int_keyed Try.underlying3) Try.underlying48 _ w5.heap.size _ _ rfl hmm8 hmx _ _ _ rfl rfl hky _ [] (plainElem_bool Try.underlying4 true) ?_; intro w8 hown8 hg8)
            have HM8 : Hid (MetMap w8 w5.heap.size (((cycsL p).take k).flatten ++ L.take (j + 1)).length (((cycsL p).take k).flatten ++ L.take (j + 1))) := by unfold Hid MetMap; rw [HSN.out, setD_snoc, List.length_append]; exact hown8
            have HS8 : Hid (size (setD (((cycsL p).take k).flatten ++ L.take (j + 1))) = (((cycsL p).take k).flatten ++ L.take (j + 1)).length) := by unfold Hid; rw [HSN.out, setD_size HNEW.out, HSZ.out]; simp only [List.length_append, List.length_singleton]
            have hb8 : Below w5.heap.size w5 w8 := (below_drewN hb nq).grown hg8 hb.size (fun k hk => by injection hk with hk; omega)
            go_roundw
            case rel => exact ⟨j + 1, by go_num, by omega, HM8, HS8, hb8⟩
            case measure => simp [intOf]; omega
          · have hLj : L.take j = L := List.take_of_length_le (by rw [HS.out]; omega)
            have HM9 : Hid (MetMap wr w5.heap.size ((cycsL p).take (k + 1)).flatten.length ((cycsL p).take (k + 1)).flatten) := by unfold Hid; have := HMT.out; rwa [hLj, ← flat_succ HX.out] at this
            have HS9 : Hid (size (setD ((cycsL p).take (k + 1)).flatten) = ((cycsL p).take (k + 1)).flatten.length) := by unfold Hid; have := HSZ.out; rwa [hLj, ← flat_succ HX.out] at this
            clear hLj HMT HSZ
            go_wp2
            go_roundw
            case rel => exact ⟨k + 1, ev, f, by go_num, rfl, by go_num, by omega, by omega, by omega, HEN2, HR7, HM9, HS9, hb⟩
            case measure => simp [intOf]; omega
    · have hfull : (cycsL p).take k = cycsL p := List.take_of_length_le (by rw [HM.out]; omega)
      have hod : BO = (ev % 2 == 1) := by rw [← HBO.out, odd_cycles HP.out, HEV.out, hfull]
      have hlen := met_len HMT.out
      rw [HSZ.out, hfull, met_all HP.out, HL.out] at hlen
      have hbb := HBH.out.trans (hb.mono HBH.out.size)
      have g1 : ((n : Int) == (n : Int)) = true := by simp
      clear hfull HMT HSZ HEV HLA hb HBO
      rcases Nat.mod_two_eq_zero_or_one ev with h2 | h2
      · obtain rfl : BO = false := by rw [hod, h2]; rfl
        have hs2 : (ev : Int) % 2 = 0 := by omega
        have e3 : ((ev : Int) % 2 == 1) = false := by simp; omega
        clear hod h2
        go_wp2
        go_ret
        exact ⟨rfl, hbb⟩
      · obtain rfl : BO = true := by rw [hod, h2]; rfl
        have hs2 : (ev : Int) % 2 = 1 := by omega
        have e3 : ((ev : Int) % 2 == 1) = true := by simp; omega
        clear hod h2
        go_wp2
        go_ret
        exact ⟨rfl, hbb⟩
end Go.Proofs.Ytnjjmeaggnlafaa
