/- The walk of MergeJoins, where lists do not rise, and where they do. -/
import Derived.Test.YtnaehnlpcjaaeaaPMJoins
namespace Go.Proofs.Ytnaehnlpcjaaeaa
open Go.RowKit

/-- the error that lists bring -/
def ErrU (LL : List (List Int)) (E : Int) : Prop := (AllRise LL ∧ E = 0) ∨ (¬ AllRise LL ∧ E = 1)
theorem errU (LL : List (List Int)) : ∃ E, ErrU LL E := by
  by_cases h : AllRise LL
  · exact ⟨0, .inl ⟨h, rfl⟩⟩
  · exact ⟨1, .inr ⟨h, rfl⟩⟩
theorem union_v (E : Int) (LA : Option Addr) (ln lc : Nat) (LL : List (List Int)) (w : World) (h : IntsLL w w.heap.size LA ln LL) (hln : ln ≤ 1000) (hT : LL.flatten.length ≤ 100000) (hE : ErrU LL E) :
    Calls Try.prog 13 #[.slice LA ln lc] w fun e w' => ∃ u A r c, e = .returned (.tuple #[.slice A r c, .int .i64 E]) ∧ Ints w' w'.heap.size A r u ∧ r ≤ c ∧ (E = 0 → UnionI LL u) ∧ Below w.heap.size w w' := by
  refine (union_e LA ln lc LL w h hln hT).mono ?_
  rintro e w' ⟨u, A, r, c, E', rfl, h1, h2, h3, h4⟩
  have : E' = E := by
    rcases hE with ⟨a1, a2⟩ | ⟨a1, a2⟩ <;> rcases h3 with ⟨b1, b2, _⟩ | ⟨b1, b2⟩
    · rw [a2, b2]
    · exact absurd a1 b1
    · exact absurd b1 a1
    · rw [a2, b2]
  subst this
  refine ⟨u, A, r, c, rfl, h1, h2, fun e0 => ?_, h4⟩
  rcases h3 with ⟨_, _, b3⟩ | ⟨_, b2⟩
  · exact b3
  · rw [b2] at e0; cases e0
theorem both_v (E : Int) (LA : Option Addr) (ln lc : Nat) (LL : List (List Int)) (w : World) (h : IntsLL w w.heap.size LA ln LL) (hln : ln ≤ 1000) (hT : LL.flatten.length ≤ 100000) (hE : ErrU LL E) :
    Calls Try.prog 15 #[.slice LA ln lc] w fun e w' => ∃ u A r c, e = .returned (.tuple #[.slice A r c, .int .i64 E]) ∧ Ints w' w'.heap.size A r u ∧ r ≤ c ∧ (E = 0 → BothI LL u) ∧ Below w.heap.size w w' := by
  refine (both_e LA ln lc LL w h hln hT).mono ?_
  rintro e w' ⟨u, A, r, c, E', rfl, h1, h2, h3, h4⟩
  have : E' = E := by
    rcases hE with ⟨a1, a2⟩ | ⟨a1, a2⟩ <;> rcases h3 with ⟨b1, b2, _⟩ | ⟨b1, b2⟩
    · rw [a2, b2]
    · exact absurd a1 b1
    · exact absurd b1 a1
    · rw [a2, b2]
  subst this
  refine ⟨u, A, r, c, rfl, h1, h2, fun e0 => ?_, h4⟩
  rcases h3 with ⟨_, _, b3⟩ | ⟨_, b2⟩
  · exact b3
  · rw [b2] at e0; cases e0
set_option maxRecDepth 100000 in
set_option maxHeartbeats 8000000 in
theorem mergeJoins_err (w : World) (A : Option Addr) (n c : Nat) (AA : List (List Int)) (h : IntsLL w w.heap.size A n AA) (hA : ∀ L ∈ AA, L.length ≤ 17592186044416) (B : Option Addr) (m d : Nat) (BB : List (List Int)) (h2 : IntsLL w w.heap.size B m BB) (hB : ∀ L ∈ BB, L.length ≤ 17592186044416) (s1 : n ≤ 50) (s2 : AA.flatten.length ≤ 500) (s3 : m ≤ 50) (s4 : BB.flatten.length ≤ 500) (s5 : 0 < n) (s6 : 0 < m) (hR : ¬ (AllRise AA ∧ AllRise BB)) :
    Calls Try.prog 7 #[.slice A n c, .slice B m d] w fun e w' => e = .returned (.bool true) ∧ Below w.heap.size w w' := by
  have cL := mLive_any w
  have c1 := fun W (hb : Below w.heap.size w W) => few_small A n c _ AA W (h.below hb) hA s1 true (decide_eq_true s2)
  have c2 := fun W (hb : Below w.heap.size w W) => few_small B m d _ BB W (h2.below hb) hB s3 true (decide_eq_true s4)
  obtain ⟨E1, hE1⟩ := errU AA
  obtain ⟨E2, hE2⟩ := errU BB
  have c3 := fun W (hb : Below w.heap.size w W) => union_v E1 A n c AA W ((h.below hb).more hb.size) (by omega) (by omega) hE1
  have c4 := fun W (hb : Below w.heap.size w W) => union_v E2 B m d BB W ((h2.below hb).more hb.size) (by omega) (by omega) hE2
  have c5 := fun W (hb : Below w.heap.size w W) => both_v E1 A n c AA W ((h.below hb).more hb.size) (by omega) (by omega) hE1
  have c6 := fun W (hb : Below w.heap.size w W) => both_v E2 B m d BB W ((h2.below hb).more hb.size) (by omega) (by omega) hE2
  have e5 : ((n : Int) == 0) = false := by simp; omega
  have e6 : ((m : Int) == 0) = false := by simp; omega
  have hcase : (E1 = 1 ∧ E2 = 1) ∨ (E1 = 1 ∧ E2 = 0) ∨ (E1 = 0 ∧ E2 = 1) := by
    rcases hE1 with ⟨a1, a2⟩ | ⟨a1, a2⟩ <;> rcases hE2 with ⟨b1, b2⟩ | ⟨b1, b2⟩
    · exact absurd ⟨a1, b1⟩ hR
    · exact .inr (.inr ⟨a2, b2⟩)
    · exact .inr (.inl ⟨a2, b2⟩)
    · exact .inl ⟨a2, b2⟩
  clear h h2 hA hB s2 s4 hE1 hE2 hR
  rcases hcase with ⟨rfl, rfl⟩ | ⟨rfl, rfl⟩ | ⟨rfl, rfl⟩
  all_goals
    go_enter Try.func7, Try.ntmps7
    go_wp2_with (go_at_call 9; refine cL.mono ?_; rintro e w1 ⟨rfl, hb1⟩)
    refine (c1 w1 hb1).mono ?_
    rintro e w2 ⟨rfl, q2, hw2⟩
    have hb2 := belowQ hb1 hw2
    clear hw2
    go_wp2_with fail
    refine (c2 w2 hb2).mono ?_
    rintro e w3 ⟨rfl, q3, hw3⟩
    have hb3 := belowQ hb2 hw3
    clear hw3
    go_wp2_with fail
    refine (c3 w3 hb3).mono ?_
    rintro e w4 ⟨_, A4, r4, k4, rfl, _, _, _, hb⟩
    have hb4 := hb3.trans (hb.mono hb3.size)
    go_wp2_with fail
    refine (c4 w4 hb4).mono ?_
    rintro e w5 ⟨_, A5, r5, k5, rfl, _, _, _, hb⟩
    have hb5 := hb4.trans (hb.mono hb4.size)
    go_wp2_with fail
    refine (c5 w5 hb5).mono ?_
    rintro e w6 ⟨_, A6, r6, k6, rfl, _, _, _, hb⟩
    have hb6 := hb5.trans (hb.mono hb5.size)
    go_wp2_with fail
    refine (c6 w6 hb6).mono ?_
    rintro e w7 ⟨_, A7, r7, k7, rfl, _, _, _, hb⟩
    have hb7 := hb6.trans (hb.mono hb6.size)
    go_wp2_with fail
    go_ret
    exact ⟨rfl, hb7⟩
set_option maxRecDepth 100000 in
set_option maxHeartbeats 8000000 in
theorem mergeJoins_in (w : World) (A : Option Addr) (n c : Nat) (AA : List (List Int)) (h : IntsLL w w.heap.size A n AA) (hA : ∀ L ∈ AA, L.length ≤ 17592186044416) (B : Option Addr) (m d : Nat) (BB : List (List Int)) (h2 : IntsLL w w.heap.size B m BB) (hB : ∀ L ∈ BB, L.length ≤ 17592186044416) (s1 : n ≤ 50) (s2 : AA.flatten.length ≤ 500) (s3 : m ≤ 50) (s4 : BB.flatten.length ≤ 500) (s5 : 0 < n) (s6 : 0 < m) (hR1 : AllRise AA) (hR2 : AllRise BB) :
    Calls Try.prog 7 #[.slice A n c, .slice B m d] w fun e w' => e = .returned (.bool true) ∧ Below w.heap.size w w' := by
  have cL := mLive_any w
  have c1 := fun W (hb : Below w.heap.size w W) => few_small A n c _ AA W (h.below hb) hA s1 true (decide_eq_true s2)
  have c2 := fun W (hb : Below w.heap.size w W) => few_small B m d _ BB W (h2.below hb) hB s3 true (decide_eq_true s4)
  have c3 := fun W (hb : Below w.heap.size w W) => union_v 0 A n c AA W ((h.below hb).more hb.size) (by omega) (by omega) (.inl ⟨hR1, rfl⟩)
  have c4 := fun W (hb : Below w.heap.size w W) => union_v 0 B m d BB W ((h2.below hb).more hb.size) (by omega) (by omega) (.inl ⟨hR2, rfl⟩)
  have c5 := fun W (hb : Below w.heap.size w W) => both_v 0 A n c AA W ((h.below hb).more hb.size) (by omega) (by omega) (.inl ⟨hR1, rfl⟩)
  have c6 := fun W (hb : Below w.heap.size w W) => both_v 0 B m d BB W ((h2.below hb).more hb.size) (by omega) (by omega) (.inl ⟨hR2, rfl⟩)
  have e5 : ((n : Int) == 0) = false := by simp; omega
  have e6 : ((m : Int) == 0) = false := by simp; omega
  have HH := Lib.hid h
  have HH2 := Lib.hid h2
  have HRR : Hid (AllRise (AA ++ BB)) := fun L hL => by
    rcases List.mem_append.1 hL with hL | hL
    · exact hR1 L hL
    · exact hR2 L hL
  have HLA : Hid (AA.length = n) := h.1
  have HLB : Hid (BB.length = m) := h2.1
  have HTT : Hid ((AA ++ BB).flatten.length ≤ 1000) := by unfold Hid; rw [List.flatten_append, List.length_append]; omega
  have HS2 := Lib.hid s2
  have HS4 := Lib.hid s4
  clear h h2 hA hB s2 s4 hR1 hR2
  go_enter Try.func7, Try.ntmps7
  go_wp2_with (go_at_call 9; refine cL.mono ?_; rintro e w1 ⟨rfl, hb1⟩)
  refine (c1 w1 hb1).mono ?_
  rintro e w2 ⟨rfl, q2, hw2⟩
  have hb2 := belowQ hb1 hw2
  clear hw2 hb1
  go_wp2_with fail
  refine (c2 w2 hb2).mono ?_
  rintro e w3 ⟨rfl, q3, hw3⟩
  have hb3 := belowQ hb2 hw3
  clear hw3 hb2
  go_wp2_with fail
  refine (c3 w3 hb3).mono ?_
  rintro e w4 ⟨x, A4, r4, k4, rfl, hx, hk4, hux, hb⟩
  have hb4 := hb3.trans (hb.mono hb3.size)
  have HX := Lib.hid hx
  have HUX := Lib.hid (hux (by trivial))
  clear hb hb3 hx hux
  go_wp2_with fail
  refine (c4 w4 hb4).mono ?_
  rintro e w5 ⟨y, A5, r5, k5, rfl, hy, hk5, huy, hb⟩
  have hb5 := hb4.trans (hb.mono hb4.size)
  replace HX := Lib.hid ((HX.out.below hb).more hb.size)
  have HY := Lib.hid hy
  have HUY := Lib.hid (huy (by trivial))
  clear hb hb4 hy huy
  go_wp2_with fail
  refine (c5 w5 hb5).mono ?_
  rintro e w6 ⟨p, A6, r6, k6, rfl, hp, hk6, hbp, hb⟩
  have hb6 := hb5.trans (hb.mono hb5.size)
  replace HX := Lib.hid ((HX.out.below hb).more hb.size)
  replace HY := Lib.hid ((HY.out.below hb).more hb.size)
  have HP := Lib.hid hp
  have HBP := Lib.hid (hbp (by trivial))
  clear hb hb5 hp hbp
  go_wp2_with fail
  refine (c6 w6 hb6).mono ?_
  rintro e w7 ⟨q, A7, r7, k7, rfl, hq, hk7, hbq, hb⟩
  have HB7 := Lib.hid (hb6.trans (hb.mono hb6.size))
  replace HX := Lib.hid ((HX.out.below hb).more hb.size)
  replace HY := Lib.hid ((HY.out.below hb).more hb.size)
  replace HP := Lib.hid ((HP.out.below hb).more hb.size)
  have HQ := Lib.hid hq
  have HBQ := Lib.hid (hbq (by trivial))
  clear hb hb6 hq hbq cL c1 c2 c3 c4 c5 c6
  go_wp2_with (first | (at_builtin; refine wpList_appendHeads rfl (.const (.slice none 0 0)) (.tmp 88) rfl w.heap.size w7.heap.size none A 0 n c 0 n [] AA rfl rfl (OwnH.nil_ _ _ _) (HH.out.below HB7.out) rfl (Nat.zero_add _) (by omega) (Nat.le_refl _) HB7.out.size ?_; intro A8 k8 w8 HO8 hb8; have HB8 := Lib.hid (HB7.out.trans (hb8.mono HB7.out.size))) | (at_builtin; refine wpList_appendHeads rfl (.tmp 89) (.tmp 90) rfl w.heap.size w7.heap.size A8 B k8 m d n (n + m) ([] ++ AA) BB rfl rfl HO8 (HH2.out.below HB8.out) HLA.out rfl (by omega) hb8.size HB7.out.size ?_; intro A9 k9 w9 HO9 hb9))
  have HB9 := Lib.hid (HB8.out.trans (hb9.mono HB7.out.size))
  have h79 : Below w7.heap.size w7 w9 := hb8.trans hb9
  replace HX := Lib.hid ((HX.out.below h79).more h79.size)
  replace HY := Lib.hid ((HY.out.below h79).more h79.size)
  replace HP := Lib.hid ((HP.out.below h79).more h79.size)
  replace HQ := Lib.hid ((HQ.out.below h79).more h79.size)
  have hall := HO9.ints HB9.out.size
  rw [List.nil_append, List.length_append, HLA.out, HLB.out] at hall
  have HALL := Lib.hid hall
  have c7 := union_v 0 A9 (n + m) k9 (AA ++ BB) w9 hall (by omega) (by have := HTT.out; omega) (.inl ⟨HRR.out, rfl⟩)
  have hlx := HUX.out.len
  have hly := HUY.out.len
  have hlp := HBP.out.len
  have hlq := HBQ.out.len
  have HXL : Hid (x.length ≤ 500 ∧ y.length ≤ 500 ∧ p.length ≤ 500 ∧ q.length ≤ 500) := by have := HS2.out; have := HS4.out; exact ⟨by omega, by omega, by omega, by omega⟩
  clear hall h79 hb8 hb9 HO8 HO9 HB8 hlx hly hlp hlq
  refine c7.mono ?_
  rintro e w10 ⟨u, A10, r10, k10, rfl, hu, hk10, huu, hb⟩
  have HB10 := Lib.hid (HB9.out.trans (hb.mono HB9.out.size))
  replace HX := Lib.hid ((HX.out.below hb).more hb.size)
  replace HY := Lib.hid ((HY.out.below hb).more hb.size)
  replace HP := Lib.hid ((HP.out.below hb).more hb.size)
  replace HQ := Lib.hid ((HQ.out.below hb).more hb.size)
  replace HALL := Lib.hid ((HALL.out.below hb).more hb.size)
  have HU := Lib.hid hu
  have HUU := Lib.hid (huu (by trivial))
  have hr1 := (((Heads.nil_ w10 w10.heap.size).cons (a := A5) (c := k5) HY.out.1 hk5 HY.out).cons (a := A4) (c := k4) HX.out.1 hk4 HX.out).new
  have c8 := union_v 0 (some ⟨w10.heap.size, 0, none⟩) 2 2 [x, y] _ (hr1.more (by simp)) (by omega) (by have := HXL.out; simp; omega) (.inl ⟨by intro L hL; simp at hL; rcases hL with rfl | rfl; exact HUX.out.rise; exact HUY.out.rise, rfl⟩)
  have HBA := Lib.hid (belowM w10 (.cells [Value.slice A4 r4 k4, Value.slice A5 r5 k5].toArray 25))
  clear hb hu huu hr1 c7
  go_wp2_with fail
  refine c8.mono ?_
  rintro e w11 ⟨v, A11, r11, k11, rfl, hv, hk11, hvv, hb⟩
  have h11 := HBA.out.trans (hb.mono HBA.out.size)
  have HB11 := Lib.hid (HB10.out.trans (h11.mono HB10.out.size))
  replace HP := Lib.hid ((HP.out.below h11).more h11.size)
  replace HQ := Lib.hid ((HQ.out.below h11).more h11.size)
  replace HALL := Lib.hid ((HALL.out.below h11).more h11.size)
  replace HU := Lib.hid ((HU.out.below h11).more h11.size)
  have HV := Lib.hid hv
  have HVV := Lib.hid (hvv (by trivial))
  have c9 := both_v 0 A9 (n + m) k9 (AA ++ BB) w11 HALL.out (by omega) (by have := HTT.out; omega) (.inl ⟨HRR.out, rfl⟩)
  clear hb h11 hv hvv c8 HBA
  go_wp2_with fail
  refine c9.mono ?_
  rintro e w12 ⟨s, A12, r12, k12, rfl, hs, hk12, hss, hb⟩
  have HB12 := Lib.hid (HB11.out.trans (hb.mono HB11.out.size))
  replace HP := Lib.hid ((HP.out.below hb).more hb.size)
  replace HQ := Lib.hid ((HQ.out.below hb).more hb.size)
  replace HU := Lib.hid ((HU.out.below hb).more hb.size)
  replace HV := Lib.hid ((HV.out.below hb).more hb.size)
  have HS := Lib.hid hs
  have HSS := Lib.hid (hss (by trivial))
  have hr2 := (((Heads.nil_ w12 w12.heap.size).cons (a := A7) (c := k7) HQ.out.1 hk7 HQ.out).cons (a := A6) (c := k6) HP.out.1 hk6 HP.out).new
  have c10 := both_v 0 (some ⟨w12.heap.size, 0, none⟩) 2 2 [p, q] _ (hr2.more (by simp)) (by omega) (by have := HXL.out; simp; omega) (.inl ⟨by intro L hL; simp at hL; rcases hL with rfl | rfl; exact HBP.out.rise; exact HBQ.out.rise, rfl⟩)
  have HBA := Lib.hid (belowM w12 (.cells [Value.slice A6 r6 k6, Value.slice A7 r7 k7].toArray 25))
  clear hb hs hss hr2 c9
  go_wp2_with fail
  refine c10.mono ?_
  rintro e w13 ⟨t, A13, r13, k13, rfl, ht, hk13, htt, hb⟩
  have h13 := HBA.out.trans (hb.mono HBA.out.size)
  have HB13 := Lib.hid (HB12.out.trans (h13.mono HB12.out.size))
  replace HU := Lib.hid ((HU.out.below h13).more h13.size)
  replace HV := Lib.hid ((HV.out.below h13).more h13.size)
  replace HS := Lib.hid ((HS.out.below h13).more h13.size)
  have HT := Lib.hid ht
  have hTT := htt (by trivial)
  have hne1 : AA ≠ [] := fun e => by have := HLA.out; rw [e] at this; simp at this; omega
  have hne2 : BB ≠ [] := fun e => by have := HLB.out; rw [e] at this; simp at this; omega
  have heq1 := joins_union HUX.out HUY.out HUU.out HVV.out
  have heq2 := joins_both hne1 hne2 HBP.out HBQ.out HSS.out hTT
  have hul := HUU.out.len
  have hsl := HSS.out.len
  have hu1 := HU.out.1
  have hv1 := HV.out.1
  have hs1 := HS.out.1
  have ht1 := HT.out.1
  have hbt := HTT.out
  have q1 := fun k => refEqual_any A10 A11 r10 r11 k10 k11 u v (w13.drewN k) w13.heap.size (HU.out.drewN k) (HV.out.drewN k) (by omega) (by rw [← heq1] at hv1; omega)
  have q2 := fun k => refEqual_any A12 A13 r12 r13 k12 k13 s t (w13.drewN k) w13.heap.size (HS.out.drewN k) (HT.out.drewN k) (by omega) (by rw [← heq2] at ht1; omega)
  simp only [decide_eq_true heq1] at q1
  simp only [decide_eq_true heq2] at q2
  have q3 := fun k => rises_any A10 r10 k10 w13.heap.size u (w13.drewN k) (HU.out.drewN k) (by omega) true (decide_eq_true HUU.out.rise)
  have q4 := fun k => rises_any A12 r12 k12 w13.heap.size s (w13.drewN k) (HS.out.drewN k) (by omega) true (decide_eq_true HSS.out.rise)
  clear hb h13 ht htt hne1 hne2 heq1 heq2 hul hsl hu1 hv1 hs1 ht1 hbt hTT c10 HBA
  go_wp2_with fail
  refine (q1 0).mono ?_
  rintro e w14 ⟨rfl, k14, rfl⟩
  go_wp2_with fail
  refine (q2 _).mono ?_
  rintro e w15 ⟨rfl, k15, rfl⟩
  go_wp2_with fail
  refine (q3 _).mono ?_
  rintro e w16 ⟨rfl, k16, rfl⟩
  go_wp2_with fail
  refine (q4 _).mono ?_
  rintro e w17 ⟨rfl, k17, rfl⟩
  go_wp2_with fail
  go_ret
  exact ⟨rfl, ⟨HB13.out.os, HB13.out.tape, HB13.out.output, HB13.out.size, HB13.out.block⟩⟩
theorem mergeJoins_any (w : World) (A : Option Addr) (n c : Nat) (AA : List (List Int)) (h : IntsLL w w.heap.size A n AA) (hn : n ≤ 5864062014805) (_ : n ≤ c) (hA : ∀ L ∈ AA, L.length ≤ 17592186044416) (B : Option Addr) (m d : Nat) (BB : List (List Int)) (h2 : IntsLL w w.heap.size B m BB) (hm : m ≤ 5864062014805) (_ : m ≤ d) (hB : ∀ L ∈ BB, L.length ≤ 17592186044416) :
    Calls Try.prog 7 #[.slice A n c, .slice B m d] w fun e w' => e = .returned (.bool true) ∧ Below w.heap.size w w' := by
  by_cases hs : (n ≤ 50 ∧ AA.flatten.length ≤ 500) ∧ (m ≤ 50 ∧ BB.flatten.length ≤ 500) ∧ 0 < n ∧ 0 < m
  · obtain ⟨⟨s1, s2⟩, ⟨s3, s4⟩, s5, s6⟩ := hs
    by_cases hR : AllRise AA ∧ AllRise BB
    · exact mergeJoins_in w A n c AA h hA B m d BB h2 hB s1 s2 s3 s4 s5 s6 hR.1 hR.2
    · exact mergeJoins_err w A n c AA h hA B m d BB h2 hB s1 s2 s3 s4 s5 s6 hR
  · exact mergeJoins_out w A n c AA h hn hA B m d BB h2 hm hB hs
end Go.Proofs.Ytnaehnlpcjaaeaa
