/- purflelaw03.PermTurns returns true at every input, and nothing that lay there has turned. -/
import Derived.Test.YtnjjmeaggnlafaaPBag
namespace Go.Proofs.Ytnjjmeaggnlafaa
open Go.RowKit

theorem plainF_len (n : Int) : (plainF n).1.length ≤ 12 := by unfold plainF; split <;> simp [plainL]; omega
theorem invF_len (p : List Int) : (invF p).1.length ≤ 12 := by
  unfold invF; split
  · rename_i h; dsimp only; rw [invL_length]; exact (ordF_ok.1 h).len
  · simp
theorem turnF_len (l p : List Int) : (turnF l p).1.length ≤ 12 := by
  unfold turnF; split
  · rename_i h
    split
    · dsimp only; rw [turnL_length]; exact (ordF_ok.1 h).len
    · simp
  · simp
theorem afterF_len (p q : List Int) : (afterF p q).1.length ≤ 12 := by
  unfold afterF; split
  · exact turnF_len _ _
  · simp

set_option maxRecDepth 100000 in
set_option maxHeartbeats 8000000 in
theorem permTurns_any (w : World) (A0 : Option Addr) (n0 c0 : Nat) (p : List Int) (I0 : Ints w w.heap.size A0 n0 p) (hn0 : n0 ≤ 9223372036854775807) (_hc0 : n0 ≤ c0) (A1 : Option Addr) (n1 c1 : Nat) (q : List Int) (I1 : Ints w w.heap.size A1 n1 q) (hn1 : n1 ≤ 9223372036854775807) (_hc1 : n1 ≤ c1)
    (A2 : Option Addr) (n2 c2 : Nat) (l : List Int) (I2 : Ints w w.heap.size A2 n2 l) (hn2 : n2 ≤ 9223372036854775807) (_hc2 : n2 ≤ c2) (a : Int) (_ha1 : -9223372036854775808 ≤ a) (_ha2 : a ≤ 9223372036854775807) :
    Calls Try.prog 3 #[.slice A0 n0 c0, .slice A1 n1 c1, .slice A2 n2 c2, .int .i64 a] w fun e w' => e = .returned (.bool true) ∧ Below w.heap.size w w' := by
  have HB : Below w.heap.size w w := Below.refl _ _
  obtain ⟨fb, hfb⟩ : ∃ fb, fewB [n0, n1, n2] = fb := ⟨_, rfl⟩
  have HFB := Lib.hid hfb
  clear hfb
  cases fb
  · have T : True := trivial
    go_enter Try.func3, Try.ntmps3
    go_wp2_with fail
    refine (lawLive_any _).mono ?_
    rintro e w1 ⟨rfl, hb⟩
    replace I0 := (I0.below hb).more hb.size
    replace I1 := (I1.below hb).more hb.size
    replace I2 := (I2.below hb).more hb.size
    replace HB := HB.trans (hb.mono HB.size)
    clear hb
    go_wp2_with fail
    refine (few3_s A0 A1 A2 n0 n1 n2 c0 c1 c2 _ false hn0 hn1 hn2 HFB.out).mono ?_
    rintro e w2 ⟨rfl, hb⟩
    replace I0 := (I0.below hb).more hb.size
    replace I1 := (I1.below hb).more hb.size
    replace I2 := (I2.below hb).more hb.size
    replace HB := HB.trans (hb.mono HB.size)
    clear hb
    go_wp2_with fail
    go_ret
    exact ⟨rfl, HB⟩
  · have h100 : n0 ≤ 100 := fewB_all HFB.out (by simp)
    obtain ⟨i0, hi0, hz0, hz1, hz2⟩ := info_parts infoInt
    have HL : Hid (p.length = n0) := I0.1
    go_enter Try.func3, Try.ntmps3
    go_wp2_with fail
    refine (lawLive_any _).mono ?_
    rintro e w1 ⟨rfl, hb⟩
    replace I0 := (I0.below hb).more hb.size
    replace I1 := (I1.below hb).more hb.size
    replace I2 := (I2.below hb).more hb.size
    replace HB := HB.trans (hb.mono HB.size)
    clear hb
    go_wp2_with fail
    refine (few3_s A0 A1 A2 n0 n1 n2 c0 c1 c2 _ true hn0 hn1 hn2 HFB.out).mono ?_
    rintro e w2 ⟨rfl, hb⟩
    replace I0 := (I0.below hb).more hb.size
    replace I1 := (I1.below hb).more hb.size
    replace I2 := (I2.below hb).more hb.size
    replace HB := HB.trans (hb.mono HB.size)
    clear hb
    have HH := Lib.hid (And.intro I0 (And.intro I1 I2))
    have HBH := Lib.hid HB
    clear I0 I1 I2 HB
    go_wp2_with (at_builtin; refine wpList_appendInts _ rfl (.const (.slice none 0 0)) (.tmp 38) 22 rfl _ 3 i0 Try.underlying22 hi0 hz0 hz1 hz2 none A0 0 n0 c0 _ 0 n0 [] p rfl rfl (OwnI.nil_ _ _ _) rfl (Nat.zero_add _) HH.out.1 (by omega) (Nat.le_refl _) ?_; intro A3 c3 wm HO5 HG5)
    rw [List.nil_append] at HO5
    have hb := below_of_none HG5
    have I0 := (HH.out.1.below hb).more hb.size
    have I1 := (HH.out.2.1.below hb).more hb.size
    have I2 := (HH.out.2.2.below hb).more hb.size
    have I3 := HO5.ints
    rw [HL.out] at I3
    have HB0 := Lib.hid (HBH.out.trans (hb.mono HBH.out.size))
    have HB : Below wm.heap.size wm wm := Below.refl _ _
    clear hb HH HBH HO5 HG5
    have HP1 := fun W => plain_any a W
    have HP2 := fun W => refPlain_any a W
    have hlP := plainF_len a
    obtain ⟨RP, hRP⟩ : ∃ R, (plainF a).1 = R := ⟨_, rfl⟩
    obtain ⟨EP, hEP⟩ : ∃ E, (plainF a).2 = E := ⟨_, rfl⟩
    rw [hRP, hEP] at HP1 HP2
    rw [hRP] at hlP
    clear hRP hEP
    have xP : (EP == EP) = true := by simp
    have yP : (EP != EP) = false := by simp
    have HV1 := fun W (hb : Below wm.heap.size wm W) => inverse_any A0 n0 c0 p W ((I0.below hb).more hb.size) hn0
    have HV2 := fun W (hb : Below wm.heap.size wm W) => refInverse_any A0 n0 c0 p W ((I0.below hb).more hb.size) hn0
    have hlV := invF_len p
    obtain ⟨RV, hRV⟩ : ∃ R, (invF p).1 = R := ⟨_, rfl⟩
    obtain ⟨EV, hEV⟩ : ∃ E, (invF p).2 = E := ⟨_, rfl⟩
    rw [hRV, hEV] at HV1 HV2
    rw [hRV] at hlV
    clear hRV hEV
    have xV : (EV == EV) = true := by simp
    have yV : (EV != EV) = false := by simp
    have HF1 := fun W (hb : Below wm.heap.size wm W) => after_any A0 A1 n0 c0 n1 c1 p q W ((I0.below hb).more hb.size) ((I1.below hb).more hb.size) hn0 hn1
    have HF2 := fun W (hb : Below wm.heap.size wm W) => refAfter_any A0 A1 n0 c0 n1 c1 p q W ((I0.below hb).more hb.size) ((I1.below hb).more hb.size) hn0 hn1
    have hlF := afterF_len p q
    obtain ⟨RF, hRF⟩ : ∃ R, (afterF p q).1 = R := ⟨_, rfl⟩
    obtain ⟨EF, hEF⟩ : ∃ E, (afterF p q).2 = E := ⟨_, rfl⟩
    rw [hRF, hEF] at HF1 HF2
    rw [hRF] at hlF
    clear hRF hEF
    have xF : (EF == EF) = true := by simp
    have yF : (EF != EF) = false := by simp
    have HT1 := fun W (hb : Below wm.heap.size wm W) => turn_any A2 A0 n2 c2 n0 c0 l p W ((I2.below hb).more hb.size) ((I0.below hb).more hb.size) hn0
    have HT2 := fun W (hb : Below wm.heap.size wm W) => refTurn_any A2 A0 n2 c2 n0 c0 l p W ((I2.below hb).more hb.size) ((I0.below hb).more hb.size) hn0
    have hlT := turnF_len l p
    obtain ⟨RT, hRT⟩ : ∃ R, (turnF l p).1 = R := ⟨_, rfl⟩
    obtain ⟨ET, hET⟩ : ∃ E, (turnF l p).2 = E := ⟨_, rfl⟩
    rw [hRT, hET] at HT1 HT2
    rw [hRT] at hlT
    clear hRT hET
    have xT : (ET == ET) = true := by simp
    have yT : (ET != ET) = false := by simp
    obtain ⟨EC, hEC⟩ : ∃ E, ordF p = E := ⟨_, rfl⟩
    have HC1 := fun W (hb : Below wm.heap.size wm W) => check_ok A0 n0 c0 p W W.heap.size ((I0.below hb).more hb.size) (Nat.le_refl _) hn0
    have HC2 := fun W (hb : Below wm.heap.size wm W) => refCheck_ok A0 n0 c0 p W W.heap.size ((I0.below hb).more hb.size) hn0
    rw [hEC] at HC1 HC2
    clear hEC
    have xC : (EC == EC) = true := by simp
    have yC : (EC != EC) = false := by simp
    go_wp2_with fail
    refine (HP1 _).mono ?_
    rintro e w11 ⟨Aa, ca, rfl, Oa, hb⟩
    replace Oa := Oa.mono HB.size
    replace HB := HB.trans (hb.mono HB.size)
    clear hb
    go_wp2_with fail
    refine (HP2 _).mono ?_
    rintro e w12 ⟨Ab, cb, rfl, Ob, hb⟩
    replace Oa := Oa.below hb (Nat.le_refl _)
    replace Ob := Ob.mono HB.size
    replace HB := HB.trans (hb.mono HB.size)
    clear hb
    go_wp2_with fail
    refine (HV1 _ HB).mono ?_
    rintro e w13 ⟨Ac, cc, rfl, Oc, hb⟩
    replace Oa := Oa.below hb (Nat.le_refl _)
    replace Ob := Ob.below hb (Nat.le_refl _)
    replace Oc := Oc.mono HB.size
    replace HB := HB.trans (hb.mono HB.size)
    clear hb
    go_wp2_with fail
    refine (HV2 _ HB).mono ?_
    rintro e w14 ⟨Ad, cd, rfl, Od, hb⟩
    replace Oa := Oa.below hb (Nat.le_refl _)
    replace Ob := Ob.below hb (Nat.le_refl _)
    replace Oc := Oc.below hb (Nat.le_refl _)
    replace Od := Od.mono HB.size
    replace HB := HB.trans (hb.mono HB.size)
    clear hb
    go_wp2_with fail
    refine (HF1 _ HB).mono ?_
    rintro e w15 ⟨Ax, cx, rfl, Ox, hb⟩
    replace Oa := Oa.below hb (Nat.le_refl _)
    replace Ob := Ob.below hb (Nat.le_refl _)
    replace Oc := Oc.below hb (Nat.le_refl _)
    replace Od := Od.below hb (Nat.le_refl _)
    replace Ox := Ox.mono HB.size
    replace HB := HB.trans (hb.mono HB.size)
    clear hb
    go_wp2_with fail
    refine (HF2 _ HB).mono ?_
    rintro e w16 ⟨Ay, cy, rfl, Oy, hb⟩
    replace Oa := Oa.below hb (Nat.le_refl _)
    replace Ob := Ob.below hb (Nat.le_refl _)
    replace Oc := Oc.below hb (Nat.le_refl _)
    replace Od := Od.below hb (Nat.le_refl _)
    replace Ox := Ox.below hb (Nat.le_refl _)
    replace Oy := Oy.mono HB.size
    replace HB := HB.trans (hb.mono HB.size)
    clear hb
    go_wp2_with fail
    refine (HT1 _ HB).mono ?_
    rintro e w17 ⟨As, cs, rfl, Os, hb⟩
    replace Oa := Oa.below hb (Nat.le_refl _)
    replace Ob := Ob.below hb (Nat.le_refl _)
    replace Oc := Oc.below hb (Nat.le_refl _)
    replace Od := Od.below hb (Nat.le_refl _)
    replace Ox := Ox.below hb (Nat.le_refl _)
    replace Oy := Oy.below hb (Nat.le_refl _)
    replace Os := Os.mono HB.size
    replace HB := HB.trans (hb.mono HB.size)
    clear hb
    go_wp2_with fail
    refine (HT2 _ HB).mono ?_
    rintro e w18 ⟨At, ct, rfl, Ot, hb⟩
    replace Oa := Oa.below hb (Nat.le_refl _)
    replace Ob := Ob.below hb (Nat.le_refl _)
    replace Oc := Oc.below hb (Nat.le_refl _)
    replace Od := Od.below hb (Nat.le_refl _)
    replace Ox := Ox.below hb (Nat.le_refl _)
    replace Oy := Oy.below hb (Nat.le_refl _)
    replace Os := Os.below hb (Nat.le_refl _)
    replace Ot := Ot.mono HB.size
    replace HB := HB.trans (hb.mono HB.size)
    clear hb
    go_wp2_with fail
    refine (equal_s Aa Ab _ ca cb _ _ _ true Oa.ints Ob.ints (by omega) (by omega) (by simp)).mono ?_
    rintro e w19 ⟨rfl, hb⟩
    replace Oa := Oa.below hb (Nat.le_refl _)
    replace Ob := Ob.below hb (Nat.le_refl _)
    replace Oc := Oc.below hb (Nat.le_refl _)
    replace Od := Od.below hb (Nat.le_refl _)
    replace Ox := Ox.below hb (Nat.le_refl _)
    replace Oy := Oy.below hb (Nat.le_refl _)
    replace Os := Os.below hb (Nat.le_refl _)
    replace Ot := Ot.below hb (Nat.le_refl _)
    replace HB := HB.trans (hb.mono HB.size)
    clear hb
    go_wp2_with fail
    refine (equal_s Ac Ad _ cc cd _ _ _ true Oc.ints Od.ints (by omega) (by omega) (by simp)).mono ?_
    rintro e w20 ⟨rfl, hb⟩
    replace Oa := Oa.below hb (Nat.le_refl _)
    replace Ob := Ob.below hb (Nat.le_refl _)
    replace Oc := Oc.below hb (Nat.le_refl _)
    replace Od := Od.below hb (Nat.le_refl _)
    replace Ox := Ox.below hb (Nat.le_refl _)
    replace Oy := Oy.below hb (Nat.le_refl _)
    replace Os := Os.below hb (Nat.le_refl _)
    replace Ot := Ot.below hb (Nat.le_refl _)
    replace HB := HB.trans (hb.mono HB.size)
    clear hb
    go_wp2_with fail
    refine (equal_s Ax Ay _ cx cy _ _ _ true Ox.ints Oy.ints (by omega) (by omega) (by simp)).mono ?_
    rintro e w21 ⟨rfl, hb⟩
    replace Oa := Oa.below hb (Nat.le_refl _)
    replace Ob := Ob.below hb (Nat.le_refl _)
    replace Oc := Oc.below hb (Nat.le_refl _)
    replace Od := Od.below hb (Nat.le_refl _)
    replace Ox := Ox.below hb (Nat.le_refl _)
    replace Oy := Oy.below hb (Nat.le_refl _)
    replace Os := Os.below hb (Nat.le_refl _)
    replace Ot := Ot.below hb (Nat.le_refl _)
    replace HB := HB.trans (hb.mono HB.size)
    clear hb
    go_wp2_with fail
    refine (equal_s As At _ cs ct _ _ _ true Os.ints Ot.ints (by omega) (by omega) (by simp)).mono ?_
    rintro e w22 ⟨rfl, hb⟩
    replace Oa := Oa.below hb (Nat.le_refl _)
    replace Ob := Ob.below hb (Nat.le_refl _)
    replace Oc := Oc.below hb (Nat.le_refl _)
    replace Od := Od.below hb (Nat.le_refl _)
    replace Ox := Ox.below hb (Nat.le_refl _)
    replace Oy := Oy.below hb (Nat.le_refl _)
    replace Os := Os.below hb (Nat.le_refl _)
    replace Ot := Ot.below hb (Nat.le_refl _)
    replace HB := HB.trans (hb.mono HB.size)
    clear hb
    go_wp2_with fail
    refine (HC1 _ HB).mono ?_
    rintro e w23 ⟨rfl, hb⟩
    replace Oa := Oa.below hb (Nat.le_refl _)
    replace Ob := Ob.below hb (Nat.le_refl _)
    replace Oc := Oc.below hb (Nat.le_refl _)
    replace Od := Od.below hb (Nat.le_refl _)
    replace Ox := Ox.below hb (Nat.le_refl _)
    replace Oy := Oy.below hb (Nat.le_refl _)
    replace Os := Os.below hb (Nat.le_refl _)
    replace Ot := Ot.below hb (Nat.le_refl _)
    replace HB := HB.trans (hb.mono HB.size)
    clear hb
    go_wp2_with fail
    refine (HC2 _ HB).mono ?_
    rintro e w24 ⟨rfl, rfl⟩
    have HBAG : Bag w23 wm.heap.size [(Ac, RV.length, cc), (Ax, RF.length, cx), (As, RT.length, cs)] := by
      intro t ht
      simp only [List.mem_cons, List.not_mem_nil, or_false] at ht
      rcases ht with rfl | rfl | rfl
      · exact ⟨_, rfl, Oc⟩
      · exact ⟨_, rfl, Ox⟩
      · exact ⟨_, rfl, Os⟩
    have HBAG2 : Hid (Bag (w23.alloc (.cells #[.slice Ac RV.length cc, .slice Ax RF.length cx, .slice As RT.length cs] 22)) wm.heap.size [(Ac, RV.length, cc), (Ax, RF.length, cx), (As, RT.length, cs)]) := by
      intro t ht
      obtain ⟨L, h1, h2⟩ := HBAG t ht
      exact ⟨L, h1, h2.alloc _⟩
    have HG3 : Hid ((w23.alloc (.cells #[.slice Ac RV.length cc, .slice Ax RF.length cx, .slice As RT.length cs] 22)).heap[w23.heap.size]? = some (.cells #[.slice Ac RV.length cc, .slice Ax RF.length cx, .slice As RT.length cs] 22 (0, 0))) := heap_alloc_new _ _
    have HB7 : Below wm.heap.size wm (w23.alloc (.cells #[.slice Ac RV.length cc, .slice Ax RF.length cx, .slice As RT.length cs] 22)) := HB.alloc HB.size _
    obtain ⟨g3, hg3⟩ : ∃ g3, w23.heap.size = g3 := ⟨_, rfl⟩
    have HGE := Lib.hid hg3
    rw [hg3] at HG3
    clear hg3 HBAG Oa Ob Oc Od Ox Oy Os Ot HP1 HP2 HV1 HV2 HF1 HF2 HT1 HT2 HC1 HC2 HB hz0 hz1 hz2 hi0
    go_wp2
    rw [HGE.out]
    have HI0 := Lib.hid (And.intro I0 I3)
    clear I0 I1 I2 I3
    go_loopw [138] (fun i wr => ∃ k : Nat, k ≤ 3 ∧ i = .int .i64 k ∧ Hid (Bag wr wm.heap.size [(Ac, RV.length, cc), (Ax, RF.length, cx), (As, RT.length, cs)]) ∧ Hid (wr.heap[g3]? = some (.cells #[.slice Ac RV.length cc, .slice Ax RF.length cx, .slice As RT.length cs] 22 (0, 0))) ∧ Below wm.heap.size wm wr) (fun i _ => 3 - (intOf i).toNat)
    case atStart => exact ⟨0, Nat.zero_le _, rfl, HBAG2, HG3, HB7⟩
    case round =>
      obtain ⟨k, hk, rfl, HBG, HGG, hb⟩ := hrel
      by_cases hlt : k < 3
      · obtain ⟨AA, mm, cz, hsel, hmem, hmb⟩ : ∃ (AA : Option Addr) (mm cz : Nat), (#[Value.slice Ac RV.length cc, .slice Ax RF.length cx, .slice As RT.length cs] : Array Value)[k]? = some (.slice AA mm cz) ∧ (AA, mm, cz) ∈ [(Ac, RV.length, cc), (Ax, RF.length, cx), (As, RT.length, cs)] ∧ mm ≤ 12 := by
          have : k = 0 ∨ k = 1 ∨ k = 2 := by omega
          rcases this with rfl | rfl | rfl
          · exact ⟨_, _, _, rfl, by simp, hlV⟩
          · exact ⟨_, _, _, rfl, by simp, hlF⟩
          · exact ⟨_, _, _, rfl, by simp, hlT⟩
        have hcell : wr.cell? ⟨g3, k, none⟩ = some (.slice AA mm cz) := (cell_of_row _ _ k _ _ (0, 0) HGG.out).trans hsel
        have HMEM := Lib.hid hmem
        clear hsel hmem hlV hlF hlT
        go_wp2
        go_loopw [144] (fun i w2 => ∃ j : Nat, j ≤ mm ∧ i = .int .i64 j ∧ Hid (Bag w2 wm.heap.size [(Ac, RV.length, cc), (Ax, RF.length, cx), (As, RT.length, cs)]) ∧ Hid (w2.heap[g3]? = some (.cells #[.slice Ac RV.length cc, .slice Ax RF.length cx, .slice As RT.length cs] 22 (0, 0))) ∧ Below wm.heap.size wm w2) (fun i _ => mm - (intOf i).toNat)
        case atStart => exact ⟨0, Nat.zero_le _, rfl, HBG, HGG, hb⟩
        case round =>
          clear HBG HGG hb hcell
          obtain ⟨j, hj, rfl, HBG, HGG, hb⟩ := hrel
          by_cases hjm : j < mm
          · obtain ⟨g, y, rfl, hg1, hcy, hfy, hyb, cs4, hblk⟩ := HBG.out.at_ HMEM.out hjm
            have hv := wrap_fits (y + 1)
            have e1 := wrap_eq (y + 1)
            obtain ⟨v, hvv⟩ : ∃ v, wrap64 (y + 1) = v := ⟨_, rfl⟩
            rw [hvv] at hv e1
            have HBG2 : Hid (Bag (wr.setCell ⟨g, j, none⟩ (.int .i64 v)) wm.heap.size [(Ac, RV.length, cc), (Ax, RF.length, cx), (As, RT.length, cs)]) := HBG.out.set g j v hv
            have HGG2 := Lib.hid (blk_other (j := j) (v := .int .i64 v) hblk HGG.out)
            have hb2 := hb.setCell (p := ⟨g, j, none⟩) hg1 (.int .i64 v)
            clear HBG HGG hblk hb
            go_wp2
            go_roundw
            case rel => exact ⟨j + 1, by omega, by go_num, HBG2, HGG2, hb2⟩
            case measure => simp [intOf]; omega
          · go_wp2
            go_roundw
            case rel => exact ⟨k + 1, by omega, by go_num, HBG, HGG, hb⟩
            case measure => simp [intOf]; omega
      · have HE := equal_s A0 A3 n0 c0 c3 wr p p true ((HI0.out.1.below hb).more hb.size) ((HI0.out.2.below hb).more hb.size) (by omega) (by omega) (by simp)
        have hbb := HB0.out.trans (hb.mono HB0.out.size)
        clear hb HBG HGG HBAG2 HG3 HB7
        go_wp2_with (go_at_call 21; refine HE.mono ?_; rintro e w99 ⟨rfl, hb9⟩)
        go_ret
        exact ⟨rfl, hbb.trans (hb9.mono hbb.size)⟩
end Go.Proofs.Ytnjjmeaggnlafaa
