/- The document's Both. -/
import Derived.Test.YtnaehnlpcjaaeaaPMRefU
import Derived.Test.YtnaehnlpcjaaeaaG5
namespace Go.Proofs.Ytnaehnlpcjaaeaa
open Go.RowKit

/-- have the first lists a number -/
def haveJ (LL : List (List Int)) (v : Int) (j : Nat) : Bool := (LL.take j).all fun L => L.contains v
theorem haveJ_succ {LL : List (List Int)} {v : Int} {j : Nat} {L : List Int} (h : LL[j]? = some L) : haveJ LL v (j + 1) = (haveJ LL v j && L.contains v) := by
  unfold haveJ
  rw [take_succ_of h, List.all_append]
  simp
theorem haveJ_all (LL : List (List Int)) (v : Int) : haveJ LL v LL.length = allHave LL v := by
  unfold haveJ allHave
  rw [List.take_length]
set_option maxRecDepth 100000 in
set_option maxHeartbeats 8000000 in
theorem refBoth_v (E : Int) (LA : Option Addr) (ln lc : Nat) (LL : List (List Int)) (w : World) (h : IntsLL w w.heap.size LA ln LL) (hln : ln ≤ 1000) (hT : LL.flatten.length ≤ 10000) (hE : ErrU LL E) :
    Calls Try.prog 16 #[.slice LA ln lc] w fun e w' => ∃ u A r c, e = .returned (.tuple #[.slice A r c, .int .i64 E]) ∧ Ints w' w'.heap.size A r u ∧ r ≤ c ∧ (E = 0 → BothI LL u) ∧ (E = 1 → u = []) ∧ Below w.heap.size w w' := by
  have cU := refUnion_v E LA ln lc LL w h hln hT hE
  have hE2 : E = 0 ∨ E = 1 := by rcases hE with ⟨_, h1⟩ | ⟨_, h1⟩; exact .inl h1; exact .inr h1
  have HLB : Hid (∀ L ∈ LL, L.length ≤ 10000) := fun L hL => by
    have : L.length ≤ LL.flatten.length := (List.sublist_flatten_of_mem hL).length_le
    omega
  obtain ⟨i0, hi0, hz0, hz1, hz2⟩ := info_parts infoInt
  have HLN : Hid (LL.length = ln) := h.1
  have HH := Lib.hid h
  have HT := Lib.hid hT
  clear h hT hE
  rcases hE2 with rfl | rfl
  · go_enter Try.func16, Try.ntmps16
    go_wp2_with (go_at_call 14; refine cU.mono ?_; rintro e w1 ⟨u, A, r, c, rfl, hI, hrc, hU, _, hb1⟩; have HI := Lib.hid hI; have HB1 := Lib.hid hb1; clear hI hb1)
    have HU := Lib.hid (hU (by trivial))
    have hul := HU.out.len
    have hru := HI.out.1
    have hr4 : r ≤ 10000 := by have := HT.out; omega
    clear hU hul hru
    go_loopw [22, 6] (fun v s wr => ∃ (k : Nat) (H : Option Addr) (t ch : Nat), v = .int .i64 (k : Int) ∧ s = .slice H t ch ∧ k ≤ r ∧ t ≤ k ∧ Hid (((u.take k).filter (allHave LL)).length = t) ∧ Hid (OwnI wr w1.heap.size 3 H ch ((u.take k).filter (allHave LL))) ∧ Hid (Below w1.heap.size w1 wr)) (fun v _ _ => r - (intOf v).toNat)
    case atStart => exact ⟨0, none, 0, 0, rfl, rfl, Nat.zero_le _, Nat.le_refl _, by unfold Hid; simp, by unfold Hid; simp only [List.take_zero, List.filter_nil]; exact OwnI.nil_ _ _ _, Below.refl _ _⟩
    case round =>
      obtain ⟨k, H, t, ch, rfl, rfl, hk, htk, HTL, HO, HX⟩ := hrel
      obtain ⟨wo, hwo⟩ : ∃ wo : World, wo = wr := ⟨_, rfl⟩
      rw [← hwo] at HO HX ⊢
      clear hwo
      by_cases hlt : k < r
      · obtain ⟨b, off, n, rfl, _, HY, hcy, hn1, hn2⟩ := (HI.out.below HX.out).at_ hlt
        have k0 : (0 : Int) ≤ (k : Int) := by omega
        have k1 : (k : Int) < (r : Int) := by omega
        have HN := Lib.hid (And.intro hn1 hn2)
        have HFN := Lib.hid (filt_snoc (allHave LL) HY.out)
        clear HY
        go_wp2_with fail
        go_loopw [28, 9] (fun v s wx => ∃ (j q : Nat), v = .int .i64 (j : Int) ∧ s = .bool (haveJ LL n j) ∧ j ≤ ln ∧ Hid (wx = wo.drewN q)) (fun v _ _ => ln - (intOf v).toNat)
        case atStart => exact ⟨0, 0, rfl, rfl, Nat.zero_le _, rfl⟩
        case round =>
          clear hcy
          obtain ⟨j, q, rfl, rfl, hj, HW⟩ := hrel
          have HXq := Lib.hid (belowQ HX.out HW.out)
          have hbw := HB1.out.trans (HXq.out.mono HB1.out.size)
          by_cases hjn : j < ln
          · obtain ⟨b3, off3, L, a, lc', rfl, _, HL, hc1, hcap, hIL⟩ := (HH.out.below hbw).at_ hjn
            have hLb := HLB.out L (List.mem_of_getElem? HL.out)
            have cW := refWhere_any a L.length lc' w.heap.size L n wr hIL (by omega)
            have hs := haveJ_succ (v := n) HL.out
            obtain ⟨M, hM⟩ : ∃ M, L.length = M := ⟨_, rfl⟩
            rw [hM] at hc1 cW
            have j0 : (0 : Int) ≤ (j : Int) := by omega
            have j1 : (j : Int) < (ln : Int) := by omega
            obtain ⟨F, hF⟩ : ∃ F, haveJ LL n j = F := ⟨_, rfl⟩
            rw [hF] at hs ⊢
            cases F with
            | false =>
              have HS : Hid (haveJ LL n (j + 1) = false) := by unfold Hid; rw [hs]; rfl
              clear hs hF hM hbw hIL hcap cW
              go_wp2_with fail
              go_roundw
              case rel => exact ⟨j + 1, q, by go_num, by rw [HS.out], by omega, HW⟩
              case measure => simp [intOf]; omega
            | true =>
              have HS : Hid (haveJ LL n (j + 1) = L.contains n) := by unfold Hid; rw [hs]; rfl
              by_cases hin : n ∈ L
              · have HS2 : Hid (haveJ LL n (j + 1) = true) := by unfold Hid; rw [HS.out]; simpa using hin
                clear hs hF hM hbw hIL hcap
                go_wp2_with (go_at_call 29; refine cW.mono ?_; rintro e w5 ⟨i, rfl, hW, q5, hw5⟩; have d0 : decide (0 ≤ i) = true := decide_eq_true (hW.mem.2 hin))
                go_roundw
                case rel => exact ⟨j + 1, _, by go_num, by rw [HS2.out], by omega, by unfold Hid; rw [HW.out]; exact World.drewN_drewN _ _ _⟩
                case measure => simp [intOf]; omega
              · have HS2 : Hid (haveJ LL n (j + 1) = false) := by unfold Hid; rw [HS.out]; simpa using hin
                clear hs hF hM hbw hIL hcap
                go_wp2_with (go_at_call 29; refine cW.mono ?_; rintro e w5 ⟨i, rfl, hW, q5, hw5⟩; have d0 : decide (0 ≤ i) = false := decide_eq_false (fun h => hin (hW.mem.1 h)))
                go_roundw
                case rel => exact ⟨j + 1, _, by go_num, by rw [HS2.out], by omega, by unfold Hid; rw [HW.out]; exact World.drewN_drewN _ _ _⟩
                case measure => simp [intOf]; omega
          · obtain rfl : j = ln := by omega
            have hall := haveJ_all LL n
            rw [HLN.out] at hall
            have HOq : Hid (OwnI wr w1.heap.size 3 H ch ((u.take k).filter (allHave LL))) := by rw [HW.out]; exact HO.out
            have hz := HXq.out.size
            rw [hall]
            obtain ⟨F, hF⟩ : ∃ F, allHave LL n = F := ⟨_, rfl⟩
            rw [hF]
            cases F with
            | true =>
              have HFN2 : Hid ((u.take (k + 1)).filter (allHave LL) = (u.take k).filter (allHave LL) ++ [n]) := by unfold Hid; rw [HFN.out, if_pos hF]
              clear hall hF hbw hjn
              go_wp2_with (at_builtin; refine wpList_appendWhere _ rfl (.tmp 41) (.tmp 43) 25 rfl w1.heap.size 3 i0 Try.underlying25 hi0 hz0 hz1 hz2 H (some ⟨wr.heap.size, 0, none⟩) ch 1 1 (wr.heap.size + 1) t (t + 1) _ [n] rfl rfl (HOq.out.alloc _) HTL.out rfl (src_new wr HN.out) (by omega) (by simp; omega) ?_; intro H6 c6 w6 HO6 HG6 HW6; have hb0 : Below w1.heap.size w1 (wr.alloc (.cells #[.int .i64 n] 3)) := HXq.out.alloc hz _; have hb6 := below_app hb0 HG6 (HOq.out.alloc _) HTL.out (by simp; omega))
              go_roundw
              case rel => exact ⟨k + 1, H6, t + 1, c6, by go_num, rfl, by omega, by omega, by unfold Hid; rw [HFN2.out, List.length_append, HTL.out]; rfl, by unfold Hid; rw [HFN2.out]; exact HO6, hb6⟩
              case measure => simp [intOf]; omega
            | false =>
              have HFN2 : Hid ((u.take (k + 1)).filter (allHave LL) = (u.take k).filter (allHave LL)) := by unfold Hid; rw [HFN.out, if_neg (by rw [hF]; simp), List.append_nil]
              clear hall hF hbw hjn
              go_wp2_with fail
              go_roundw
              case rel => exact ⟨k + 1, H, t, ch, by go_num, rfl, by omega, by omega, by unfold Hid; rw [HFN2.out]; exact HTL.out, by unfold Hid; rw [HFN2.out]; exact HOq.out, HXq⟩
              case measure => simp [intOf]; omega
      · obtain rfl : k = r := by omega
        have he : u.take k = u := by rw [← HI.out.1, List.take_length]
        rw [he] at HTL HO
        have hin2 := HO.out.ints
        have hcp := HO.out.len_cap
        rw [HTL.out] at hin2 hcp
        have HIN2 := Lib.hid hin2
        have HCP := Lib.hid hcp
        clear hlt he hin2 hcp
        go_wp2_with fail
        go_ret2
        exact ⟨_, H, t, ch, rfl, HIN2.out, HCP.out, fun _ => HU.out.both, fun h => (by cases h), HB1.out.trans (HX.out.mono HB1.out.size)⟩
  · go_enter Try.func16, Try.ntmps16
    go_wp2_with (go_at_call 14; refine cU.mono ?_; rintro e w1 ⟨u, A, r, c, rfl, _, _, _, _, hb1⟩)
    go_ret2
    exact ⟨[], none, 0, 0, rfl, Ints.nil_, Nat.le_refl _, fun h => (by cases h), fun _ => rfl, hb1⟩
end Go.Proofs.Ytnaehnlpcjaaeaa
