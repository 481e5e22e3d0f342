/- purflelaw03.PermRanks returns true at every input, and nothing that lay there has turned. -/
import Derived.Test.YtnjjmeaggnlafaaPRefE
namespace Go.Proofs.Ytnjjmeaggnlafaa
open Go.RowKit

theorem nthF_len (n k : Int) : (nthF n k).1.length ≤ 12 := by
  unfold nthF; split
  · simp
  · split
    · simp
    · dsimp only; rw [nthL_length]; omega
theorem nextF_len (p : List Int) : (nextF p).1.length ≤ 12 := by
  unfold nextF; split
  · rename_i h
    have := (ordF_ok.1 h).len
    split
    · dsimp only; rw [nthL_length]; exact this
    · exact this
  · simp
theorem cyclesF_len (p : List Int) : (cyclesF p).1.length ≤ 12 ∧ ∀ L ∈ (cyclesF p).1, L.length ≤ 12 := by
  unfold cyclesF; split
  · rename_i h
    have hp := ordF_ok.1 h
    have h12 := hp.len
    refine ⟨Nat.le_trans (cycsTo_length_le p p.length) h12, fun L hL => ?_⟩
    have hs : L ∈ cycsTo p p.length := hL
    unfold cycsTo at hs
    rw [List.mem_filterMap] at hs
    obtain ⟨i, hi, hh⟩ := hs
    rw [List.mem_range] at hi
    split at hh
    · injection hh with hh; rw [← hh]; exact Nat.le_trans (cycL_len hp hi).1 h12
    · cases hh
  · simp
theorem same_s {A A2 : Option Addr} {n c c2 : Nat} {w : World} {LL : List (List Int)} (h : IntsLL w w.heap.size A n LL) (h2 : IntsLL w w.heap.size A2 n LL) (hn : n ≤ 100000) (hl : ∀ L ∈ LL, L.length ≤ 12) :
    Calls Try.prog 34 #[.slice A n c, .slice A2 n c2] w fun e w' => e = .returned (.bool true) ∧ Below w.heap.size w w' := by
  refine (sameLists_any A A2 n n c c2 LL LL w w.heap.size h h2 hn hn (fun L hL => Nat.le_trans (hl L hL) (by omega)) (fun L hL => Nat.le_trans (hl L hL) (by omega))).mono ?_
  rintro e w' ⟨rfl, k, rfl⟩
  exact ⟨by simp, below_drewN (Below.refl _ _) k⟩

set_option maxRecDepth 100000 in
set_option maxHeartbeats 8000000 in
theorem permRanks_any (w : World) (A0 : Option Addr) (n0 c0 : Nat) (p : List Int) (I0 : Ints w w.heap.size A0 n0 p) (hn0 : n0 ≤ 9223372036854775807) (hc0 : n0 ≤ c0) (a : Int) (_ha1 : -9223372036854775808 ≤ a) (_ha2 : a ≤ 9223372036854775807) (b : Int) (_hb1 : -9223372036854775808 ≤ b) (_hb2 : b ≤ 9223372036854775807) :
    Calls Try.prog 4 #[.slice A0 n0 c0, .int .i64 a, .int .i64 b] w fun e w' => e = .returned (.bool true) ∧ Below w.heap.size w w' := by
  have HB : Below w.heap.size w w := Below.refl _ _
  obtain ⟨fb, hfb⟩ : ∃ fb, fewB [n0] = fb := ⟨_, rfl⟩
  have HFB := Lib.hid hfb
  clear hfb
  cases fb
  · have T : True := trivial
    go_enter Try.func4, Try.ntmps4
    go_wp2_with fail
    refine (lawLive_any _).mono ?_
    rintro e w1 ⟨rfl, hb⟩
    replace I0 := (I0.below hb).more hb.size
    replace HB := HB.trans (hb.mono HB.size)
    clear hb
    go_wp2_with fail
    refine (few1_s A0 n0 c0 _ false hn0 HFB.out).mono ?_
    rintro e w2 ⟨rfl, hb⟩
    replace I0 := (I0.below hb).more hb.size
    replace HB := HB.trans (hb.mono HB.size)
    clear hb
    go_wp2_with fail
    go_ret
    exact ⟨rfl, HB⟩
  · have h100 : n0 ≤ 100 := fewB_all HFB.out (by simp)
    obtain ⟨i0, hi0, hz0, hz1, hz2⟩ := info_parts infoInt
    have HL : Hid (p.length = n0) := I0.1
    go_enter Try.func4, Try.ntmps4
    go_wp2_with fail
    refine (lawLive_any _).mono ?_
    rintro e w1 ⟨rfl, hb⟩
    replace I0 := (I0.below hb).more hb.size
    replace HB := HB.trans (hb.mono HB.size)
    clear hb
    go_wp2_with fail
    refine (few1_s A0 n0 c0 _ true hn0 HFB.out).mono ?_
    rintro e w2 ⟨rfl, hb⟩
    replace I0 := (I0.below hb).more hb.size
    replace HB := HB.trans (hb.mono HB.size)
    clear hb
    have HH := Lib.hid I0
    have HBH := Lib.hid HB
    clear I0 HB
    go_wp2_with (at_builtin; refine wpList_appendInts _ rfl (.const (.slice none 0 0)) (.tmp 38) 22 rfl _ 3 i0 Try.underlying22 hi0 hz0 hz1 hz2 none A0 0 n0 c0 _ 0 n0 [] p rfl rfl (OwnI.nil_ _ _ _) rfl (Nat.zero_add _) HH.out (by omega) (Nat.le_refl _) ?_; intro A3 c3 wm HO5 HG5)
    rw [List.nil_append] at HO5
    have hb := below_of_none HG5
    have I0 := (HH.out.below hb).more hb.size
    have I3 := HO5.ints
    rw [HL.out] at I3
    have HB0 := Lib.hid (HBH.out.trans (hb.mono HBH.out.size))
    have HB : Below wm.heap.size wm wm := Below.refl _ _
    clear hb HH HBH HO5 HG5
    have HR1 := fun W (hb : Below wm.heap.size wm W) => rank_any A0 n0 c0 p W ((I0.below hb).more hb.size) hn0 hc0
    have HR2 := fun W (hb : Below wm.heap.size wm W) => refRank_any A0 n0 c0 p W ((I0.below hb).more hb.size) hn0 hc0
    obtain ⟨RR, hRR⟩ : ∃ R, (rankF p).1 = R := ⟨_, rfl⟩
    obtain ⟨ER, hER⟩ : ∃ R, (rankF p).2 = R := ⟨_, rfl⟩
    rw [hRR, hER] at HR1 HR2
    clear hRR hER
    have xRR : (RR == RR) = true := by simp
    have yRR : (RR != RR) = false := by simp
    have xER : (ER == ER) = true := by simp
    have yER : (ER != ER) = false := by simp
    have HN1 := fun W => nth_any a b W
    have HN2 := fun W => refNth_any a b W
    have hlN := nthF_len a b
    obtain ⟨RN, hRN⟩ : ∃ R, (nthF a b).1 = R := ⟨_, rfl⟩
    obtain ⟨EN, hEN⟩ : ∃ R, (nthF a b).2 = R := ⟨_, rfl⟩
    rw [hRN, hEN] at HN1 HN2
    rw [hRN] at hlN
    clear hRN hEN
    have xEN : (EN == EN) = true := by simp
    have yEN : (EN != EN) = false := by simp
    have HX1 := fun W (hb : Below wm.heap.size wm W) => next_any A0 n0 c0 p W ((I0.below hb).more hb.size) hn0 hc0
    have HX2 := fun W (hb : Below wm.heap.size wm W) => refNext_any A0 n0 c0 p W ((I0.below hb).more hb.size) hn0 hc0
    have hlX := nextF_len p
    obtain ⟨RX, hRX⟩ : ∃ R, (nextF p).1 = R := ⟨_, rfl⟩
    obtain ⟨BX, hBX⟩ : ∃ R, (nextF p).2.1 = R := ⟨_, rfl⟩
    obtain ⟨EX, hEX⟩ : ∃ R, (nextF p).2.2 = R := ⟨_, rfl⟩
    rw [hRX, hBX, hEX] at HX1 HX2
    rw [hRX] at hlX
    clear hRX hBX hEX
    have xBX : (BX == BX) = true := by simp
    have yBX : (BX != BX) = false := by simp
    have xEX : (EX == EX) = true := by simp
    have yEX : (EX != EX) = false := by simp
    have HC1 := fun W (hb : Below wm.heap.size wm W) => cycles_any A0 n0 c0 p W ((I0.below hb).more hb.size) hn0
    have HC2 := fun W (hb : Below wm.heap.size wm W) => refCycles_any A0 n0 c0 p W ((I0.below hb).more hb.size) hn0
    have hlC := cyclesF_len p
    obtain ⟨RC, hRC⟩ : ∃ R, (cyclesF p).1 = R := ⟨_, rfl⟩
    obtain ⟨EC, hEC⟩ : ∃ R, (cyclesF p).2 = R := ⟨_, rfl⟩
    rw [hRC, hEC] at HC1 HC2
    rw [hRC] at hlC
    clear hRC hEC
    have xEC : (EC == EC) = true := by simp
    have yEC : (EC != EC) = false := by simp
    have HO1 := fun W (hb : Below wm.heap.size wm W) => odd_any A0 n0 c0 p W ((I0.below hb).more hb.size) hn0 hc0
    have HO2 := fun W (hb : Below wm.heap.size wm W) => refOdd_any A0 n0 c0 p W ((I0.below hb).more hb.size) hn0 hc0
    obtain ⟨RO, hRO⟩ : ∃ R, (oddF p).1 = R := ⟨_, rfl⟩
    obtain ⟨EO, hEO⟩ : ∃ R, (oddF p).2 = R := ⟨_, rfl⟩
    rw [hRO, hEO] at HO1 HO2
    clear hRO hEO
    have xRO : (RO == RO) = true := by simp
    have yRO : (RO != RO) = false := by simp
    have xEO : (EO == EO) = true := by simp
    have yEO : (EO != EO) = false := by simp
    go_wp2_with fail
    refine (HR1 _ HB).mono ?_
    rintro e w11 ⟨rfl, hb⟩
    replace HB := HB.trans (hb.mono HB.size)
    clear hb
    go_wp2_with fail
    refine (HR2 _ HB).mono ?_
    rintro e w12 ⟨rfl, hb⟩
    replace HB := HB.trans (hb.mono HB.size)
    clear hb
    go_wp2_with fail
    refine (HN1 _).mono ?_
    rintro e w13 ⟨Ac, cc, rfl, Oc, hb⟩
    replace Oc := Oc.mono HB.size
    replace HB := HB.trans (hb.mono HB.size)
    clear hb
    go_wp2_with fail
    refine (HN2 _).mono ?_
    rintro e w14 ⟨Ad, cd, rfl, Od, hb⟩
    replace Oc := Oc.below hb (Nat.le_refl _)
    replace Od := Od.mono HB.size
    replace HB := HB.trans (hb.mono HB.size)
    clear hb
    go_wp2_with fail
    refine (HX1 _ HB).mono ?_
    rintro e w15 ⟨Ax, cx, rfl, Ox, hb⟩
    replace Oc := Oc.below hb (Nat.le_refl _)
    replace Od := Od.below hb (Nat.le_refl _)
    replace Ox := Ox.mono HB.size
    replace HB := HB.trans (hb.mono HB.size)
    clear hb
    go_wp2_with fail
    refine (HX2 _ HB).mono ?_
    rintro e w16 ⟨Ay, cy, rfl, Oy, hb⟩
    replace Oc := Oc.below hb (Nat.le_refl _)
    replace Od := Od.below hb (Nat.le_refl _)
    replace Ox := Ox.below hb (Nat.le_refl _)
    replace Oy := Oy.mono HB.size
    replace HB := HB.trans (hb.mono HB.size)
    clear hb
    go_wp2_with fail
    refine (HC1 _ HB).mono ?_
    rintro e w17 ⟨As, cs, rfl, Os, hb⟩
    replace Oc := Oc.below hb (Nat.le_refl _)
    replace Od := Od.below hb (Nat.le_refl _)
    replace Ox := Ox.below hb (Nat.le_refl _)
    replace Oy := Oy.below hb (Nat.le_refl _)
    replace Os := Os.mono HB.size
    replace HB := HB.trans (hb.mono HB.size)
    clear hb
    go_wp2_with fail
    refine (HC2 _ HB).mono ?_
    rintro e w18 ⟨At, ct, rfl, Ot, hb⟩
    replace Oc := Oc.below hb (Nat.le_refl _)
    replace Od := Od.below hb (Nat.le_refl _)
    replace Ox := Ox.below hb (Nat.le_refl _)
    replace Oy := Oy.below hb (Nat.le_refl _)
    replace Os := Os.below hb (Nat.le_refl _)
    replace Ot := Ot.mono HB.size
    replace HB := HB.trans (hb.mono HB.size)
    clear hb
    go_wp2_with fail
    refine (HO1 _ HB).mono ?_
    rintro e w19 ⟨rfl, hb⟩
    replace Oc := Oc.below hb (Nat.le_refl _)
    replace Od := Od.below hb (Nat.le_refl _)
    replace Ox := Ox.below hb (Nat.le_refl _)
    replace Oy := Oy.below hb (Nat.le_refl _)
    replace Os := Os.below hb (Nat.le_refl _)
    replace Ot := Ot.below hb (Nat.le_refl _)
    replace HB := HB.trans (hb.mono HB.size)
    clear hb
    go_wp2_with fail
    refine (HO2 _ HB).mono ?_
    rintro e w20 ⟨rfl, hb⟩
    replace Oc := Oc.below hb (Nat.le_refl _)
    replace Od := Od.below hb (Nat.le_refl _)
    replace Ox := Ox.below hb (Nat.le_refl _)
    replace Oy := Oy.below hb (Nat.le_refl _)
    replace Os := Os.below hb (Nat.le_refl _)
    replace Ot := Ot.below hb (Nat.le_refl _)
    replace HB := HB.trans (hb.mono HB.size)
    clear hb
    go_wp2_with fail
    refine (equal_s Ac Ad _ cc cd _ _ _ true Oc.ints Od.ints (by omega) (by omega) (by simp)).mono ?_
    rintro e w21 ⟨rfl, hb⟩
    replace Oc := Oc.below hb (Nat.le_refl _)
    replace Od := Od.below hb (Nat.le_refl _)
    replace Ox := Ox.below hb (Nat.le_refl _)
    replace Oy := Oy.below hb (Nat.le_refl _)
    replace Os := Os.below hb (Nat.le_refl _)
    replace Ot := Ot.below hb (Nat.le_refl _)
    replace HB := HB.trans (hb.mono HB.size)
    clear hb
    go_wp2_with fail
    refine (equal_s Ax Ay _ cx cy _ _ _ true Ox.ints Oy.ints (by omega) (by omega) (by simp)).mono ?_
    rintro e w22 ⟨rfl, hb⟩
    replace Oc := Oc.below hb (Nat.le_refl _)
    replace Od := Od.below hb (Nat.le_refl _)
    replace Ox := Ox.below hb (Nat.le_refl _)
    replace Oy := Oy.below hb (Nat.le_refl _)
    replace Os := Os.below hb (Nat.le_refl _)
    replace Ot := Ot.below hb (Nat.le_refl _)
    replace HB := HB.trans (hb.mono HB.size)
    clear hb
    go_wp2_with fail
    refine (same_s Os.ints Ot.ints (by omega) hlC.2).mono ?_
    rintro e w23 ⟨rfl, hb⟩
    replace Oc := Oc.below hb (Nat.le_refl _)
    replace Od := Od.below hb (Nat.le_refl _)
    replace Ox := Ox.below hb (Nat.le_refl _)
    replace Oy := Oy.below hb (Nat.le_refl _)
    replace Os := Os.below hb (Nat.le_refl _)
    replace Ot := Ot.below hb (Nat.le_refl _)
    replace HB := HB.trans (hb.mono HB.size)
    clear hb
    have HBAG2 : Hid (Bag w23 wm.heap.size [(Ax, RX.length, cx)]) := by
      intro t ht
      simp only [List.mem_cons, List.not_mem_nil, or_false] at ht
      subst ht
      exact ⟨_, rfl, Ox⟩
    have HB7 := Lib.hid HB
    clear Oc Od Ox Oy Os Ot HR1 HR2 HN1 HN2 HX1 HX2 HC1 HC2 HO1 HO2 HB hz0 hz1 hz2 hi0 hlN hlC
    have HI0 := Lib.hid (And.intro I0 I3)
    clear I0 I3
    go_wp2
    go_loopw [152] (fun i wr => ∃ j : Nat, j ≤ RX.length ∧ i = .int .i64 j ∧ Hid (Bag wr wm.heap.size [(Ax, RX.length, cx)]) ∧ Below wm.heap.size wm wr) (fun i _ => RX.length - (intOf i).toNat)
    case atStart => exact ⟨0, Nat.zero_le _, rfl, HBAG2, HB7.out⟩
    case round =>
      obtain ⟨j, hj, rfl, HBG, hb⟩ := hrel
      by_cases hjm : j < RX.length
      · obtain ⟨g, y, rfl, hg1, hcy, hfy, hyb, cs4, hblk⟩ := HBG.out.at_ (List.mem_cons_self) hjm
        have hv := wrap_fits (y + 1)
        have e1 := wrap_eq (y + 1)
        obtain ⟨v, hvv⟩ : ∃ v, wrap64 (y + 1) = v := ⟨_, rfl⟩
        rw [hvv] at hv e1
        have HBG2 : Hid (Bag (wr.setCell ⟨g, j, none⟩ (.int .i64 v)) wm.heap.size [(some ⟨g, 0, none⟩, RX.length, cx)]) := HBG.out.set g j v hv
        have hb2 := hb.setCell (p := ⟨g, j, none⟩) hg1 (.int .i64 v)
        clear HBG hblk hb HBAG2
        go_wp2
        go_roundw
        case rel => exact ⟨j + 1, by omega, by go_num, HBG2, hb2⟩
        case measure => simp [intOf]; omega
      · have HE := equal_s A0 A3 n0 c0 c3 wr p p true ((HI0.out.1.below hb).more hb.size) ((HI0.out.2.below hb).more hb.size) (by omega) (by omega) (by simp)
        have hbb := HB0.out.trans (hb.mono HB0.out.size)
        clear hb HBG HBAG2 HB7
        go_wp2_with (go_at_call 21; refine HE.mono ?_; rintro e w99 ⟨rfl, hb9⟩)
        go_ret
        exact ⟨rfl, hbb.trans (hb9.mono hbb.size)⟩
end Go.Proofs.Ytnjjmeaggnlafaa
