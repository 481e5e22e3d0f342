/- The document's Union. -/
import Derived.Test.YtnaehnlpcjaaeaaPMRefW
import Derived.Test.YtnaehnlpcjaaeaaPMJoinsE
namespace Go.Proofs.Ytnaehnlpcjaaeaa
open Go.RowKit

/-- n put among those that rise -/
def putN (u : List Int) (n : Int) : List Int := u.filter (fun m => decide (m < n)) ++ n :: u.filter (fun m => decide (n < m))
theorem putN_mem {u : List Int} {n : Int} (m : Int) : m ∈ putN u n ↔ m ∈ u ∨ m = n := by
  unfold putN
  simp only [List.mem_append, List.mem_cons, List.mem_filter, decide_eq_true_eq]
  constructor
  · rintro (⟨h, _⟩ | h | ⟨h, _⟩)
    · exact .inl h
    · exact .inr h
    · exact .inl h
  · rintro (h | h)
    · rcases Int.lt_trichotomy m n with h1 | h1 | h1
      · exact .inl ⟨h, h1⟩
      · exact .inr (.inl h1)
      · exact .inr (.inr ⟨h, h1⟩)
    · exact .inr (.inl h)
theorem putN_rise {u : List Int} {n : Int} (h : u.Pairwise (· < ·)) : (putN u n).Pairwise (· < ·) := by
  unfold putN
  rw [List.pairwise_append, List.pairwise_cons]
  refine ⟨h.sublist List.filter_sublist, ⟨fun m hm => ?_, h.sublist List.filter_sublist⟩, fun a ha b hb => ?_⟩
  · exact of_decide_eq_true (List.mem_filter.1 hm).2
  · have h1 := of_decide_eq_true (List.mem_filter.1 ha).2
    rcases List.mem_cons.1 hb with rfl | hb
    · exact h1
    · have h2 := of_decide_eq_true (List.mem_filter.1 hb).2
      omega
theorem filt_snoc {u : List Int} {k : Nat} {x : Int} (P : Int → Bool) (h : u[k]? = some x) : (u.take (k + 1)).filter P = (u.take k).filter P ++ if P x = true then [x] else [] := by
  rw [take_succ_of h, List.filter_append]
  congr 1
  by_cases hp : P x = true
  · rw [if_pos hp, List.filter_cons_of_pos hp, List.filter_nil]
  · rw [if_neg hp, List.filter_cons_of_neg hp, List.filter_nil]
theorem filt_le (u : List Int) (k : Nat) (P : Int → Bool) : ((u.take k).filter P).length ≤ u.length :=
  Nat.le_trans (List.length_filter_le _ _) (by rw [List.length_take]; omega)
theorem own_bound {w : World} {base c : Nat} {e : TypeId} {A : Option Addr} {xs : List Int} (h : OwnI w base e A c xs) {x : Int} (hx : x ∈ xs) : -9223372036854775808 ≤ x ∧ x ≤ 9223372036854775807 := h.2 x hx
set_option maxRecDepth 100000 in
set_option maxHeartbeats 8000000 in
theorem refUnion_ok (LA : Option Addr) (ln lc : Nat) (LL : List (List Int)) (w : World) (h : IntsLL w w.heap.size LA ln LL) (hln : ln ≤ 1000) (hT : LL.flatten.length ≤ 10000) (hR : AllRise LL) :
    Calls Try.prog 14 #[.slice LA ln lc] w fun e w' => ∃ u A r c, e = .returned (.tuple #[.slice A r c, .int .i64 0]) ∧ Ints w' w'.heap.size A r u ∧ r ≤ c ∧ UnionI LL u ∧ Below w.heap.size w w' := by
  have HLB : Hid (∀ L ∈ LL, L.length ≤ 10000) := fun L hL => by
    have : L.length ≤ LL.flatten.length := (List.sublist_flatten_of_mem hL).length_le
    omega
  have cA := refAll_any LA ln lc w.heap.size LL w h (fun L hL => by have := HLB.out L hL; omega) (by omega) true ⟨fun _ => hR, fun _ => rfl⟩
  obtain ⟨i0, hi0, hz0, hz1, hz2⟩ := info_parts infoInt
  have HLN : Hid (LL.length = ln) := h.1
  have HH := Lib.hid h
  have HT := Lib.hid hT
  have HUL : Hid (∀ (u : List Int), u.Pairwise (· < ·) → (∀ m ∈ u, m ∈ LL.flatten) → u.length ≤ 10000) := fun u hu hm => by
    have := List.Nodup.length_le_of_subset (hu.imp fun h e => by omega) hm
    have := HT.out
    omega
  clear h hR hT
  go_enter Try.func14, Try.ntmps14
  go_wp2_with (go_at_call 28; refine cA.mono ?_; rintro e w1 ⟨rfl, q1, hw1⟩; have HB1 := Lib.hid (belowQ (Below.refl w.heap.size w) hw1); clear hw1)
  go_loopw [19, 4] (fun v s wr => ∃ (k : Nat) (u : List Int) (A : Option Addr) (r c : Nat), v = .int .i64 (k : Int) ∧ s = .slice A r c ∧ k ≤ ln ∧ Hid (Ints wr wr.heap.size A r u) ∧ r ≤ c ∧ Hid (u.Pairwise (· < ·)) ∧ Hid (∀ m, m ∈ u ↔ m ∈ (LL.take k).flatten) ∧ Hid (Below w.heap.size w wr)) (fun v _ _ => ln - (intOf v).toNat)
  case atStart => exact ⟨0, [], none, 0, 0, rfl, rfl, Nat.zero_le _, Ints.nil_, Nat.le_refl _, List.Pairwise.nil, by simp [Hid], HB1⟩
  case round =>
    clear HB1
    obtain ⟨k, u, A, r, c, rfl, rfl, hk, HI, hrc, HP, HM, HB⟩ := hrel
    by_cases hlt : k < ln
    · obtain ⟨b, off, L, a, lc', rfl, hbl, HX, hc0, hcap, hIL⟩ := HH.out.at_ hlt
      have hc1 := (HB.out.cell (p := ⟨b, off + k, none⟩) hbl).trans hc0
      have HLM := Lib.hid (List.mem_of_getElem? HX.out)
      have hLb := HLB.out L HLM.out
      have HFS : Hid ((LL.take (k + 1)).flatten = (LL.take k).flatten ++ L) := by unfold Hid; rw [take_succ_of HX.out, List.flatten_append]; simp
      have HIL := Lib.hid hIL
      obtain ⟨M, hM⟩ : ∃ M, L.length = M := ⟨_, rfl⟩
      rw [hM] at hc1 hcap HIL hLb
      have k0 : (0 : Int) ≤ (k : Int) := by omega
      have k1 : (k : Int) < (ln : Int) := by omega
      obtain ⟨wo, hwo⟩ : ∃ wo : World, wo = wr := ⟨_, rfl⟩
      rw [← hwo] at HI HB hc1 ⊢
      clear hwo hM hIL hc0
      go_wp2_with fail
      go_loopw [25, 4] (fun v s wx => ∃ (j : Nat) (u : List Int) (A : Option Addr) (r c : Nat), v = .int .i64 (j : Int) ∧ s = .slice A r c ∧ j ≤ M ∧ Hid (Ints wx wx.heap.size A r u) ∧ r ≤ c ∧ Hid (u.Pairwise (· < ·)) ∧ Hid (∀ m, m ∈ u ↔ m ∈ (LL.take k).flatten ++ L.take j) ∧ Hid (Below w.heap.size w wx)) (fun v _ _ => M - (intOf v).toNat)
      case atStart => exact ⟨0, u, A, r, c, rfl, rfl, Nat.zero_le _, HI, hrc, HP, by unfold Hid; rw [List.take_zero, List.append_nil]; exact HM.out, HB⟩
      case round =>
        clear HI hrc HP HM HB hc1
        obtain ⟨j, u, A, r, c, rfl, rfl, hj, HI, hrc, HP, HM, HB⟩ := hrel
        obtain ⟨wb, hwb⟩ : ∃ wb : World, wb = wr := ⟨_, rfl⟩
        rw [← hwb] at HI HB ⊢
        clear hwb
        by_cases hjm : j < M
        · obtain ⟨b3, off3, n, rfl, _, HY, hcy, hn1, hn2⟩ := (HIL.out.below HB.out).at_ hjm
          have j0 : (0 : Int) ≤ (j : Int) := by omega
          have j1 : (j : Int) < (M : Int) := by omega
          have HTJ := Lib.hid (take_succ_of HY.out)
          have hul : u.length ≤ 10000 := HUL.out u HP.out fun m hm => by
            have h1 := (HM.out m).1 hm
            rcases List.mem_append.1 h1 with h2 | h2
            · obtain ⟨L', hL', hm'⟩ := List.mem_flatten.1 h2
              exact List.mem_flatten.2 ⟨L', List.mem_of_mem_take hL', hm'⟩
            · exact List.mem_flatten.2 ⟨L, HLM.out, List.mem_of_mem_take h2⟩
          have hur := HI.out.1
          have cW := refWhere_any A r c wb.heap.size u n wb HI.out (by omega)
          have HN := Lib.hid (And.intro hn1 hn2)
          have hr4 : r ≤ 10000 := by omega
          clear hul hur
          by_cases hin : n ∈ u
          · have HM2 : Hid (∀ m, m ∈ u ↔ m ∈ (LL.take k).flatten ++ L.take (j + 1)) := fun m => by
              rw [HTJ.out, ← List.append_assoc, List.mem_append, ← HM.out m, List.mem_singleton]
              constructor
              · exact .inl
              · rintro (h | h)
                · exact h
                · rw [h]; exact hin
            go_wp2_with (go_at_call 29; refine cW.mono ?_; rintro e w5 ⟨i, rfl, hW, q5, hw5⟩; have hi0 := hW.mem.2 hin; have d0 : decide (0 ≤ i) = true := decide_eq_true hi0; have hb5 := belowQ (Below.refl wb.heap.size wb) hw5; clear hw5 hW)
            go_roundw
            case rel => exact ⟨j + 1, u, A, r, c, by go_num, rfl, by omega, (HI.out.below hb5).more hb5.size, hrc, HP, HM2, HB.out.trans (hb5.mono HB.out.size)⟩
            case measure => simp [intOf]; omega
          · have HNI := Lib.hid hin
            go_wp2_with (go_at_call 29; refine cW.mono ?_; rintro e w5 ⟨i, rfl, hW, q5, hw5⟩; have hi0 := fun h => hin (hW.mem.1 h); have d0 : decide (0 ≤ i) = false := decide_eq_false hi0; have hb5 := belowQ (Below.refl wb.heap.size wb) hw5; clear hw5 hW)
            have HI5 := Lib.hid ((HI.out.below hb5).more hb5.size)
            have HB5 := Lib.hid (HB.out.trans (hb5.mono HB.out.size))
            clear HI HB hb5 hin hi0 cW hcy
            go_loopw [35, 9] (fun v s wx => ∃ (p : Nat) (H : Option Addr) (t ch : Nat), v = .int .i64 (p : Int) ∧ s = .slice H t ch ∧ p ≤ r ∧ t ≤ p ∧ Hid (((u.take p).filter fun m => decide (m < n)).length = t) ∧ Hid (OwnI wx w5.heap.size 3 H ch ((u.take p).filter fun m => decide (m < n))) ∧ Hid (Below w5.heap.size w5 wx)) (fun v _ _ => r - (intOf v).toNat)
            case atStart => exact ⟨0, none, 0, 0, rfl, rfl, Nat.zero_le _, Nat.le_refl _, by unfold Hid; simp, by unfold Hid; simp only [List.take_zero, List.filter_nil]; exact OwnI.nil_ _ _ _, Below.refl _ _⟩
            case round =>
              obtain ⟨p, H, t, ch, rfl, rfl, hp, htp, HTL, HO, HX5⟩ := hrel
              obtain ⟨wd, hwd⟩ : ∃ wd : World, wd = wr := ⟨_, rfl⟩
              rw [← hwd] at HO HX5 ⊢
              clear hwd
              have hz5 := HX5.out.size
              by_cases hpr : p < r
              · obtain ⟨b4, off4, m, rfl, _, HZ, hcz, hm1, hm2⟩ := (HI5.out.below HX5.out).at_ hpr
                have p0 : (0 : Int) ≤ (p : Int) := by omega
                have p1 : (p : Int) < (r : Int) := by omega
                have HFN := Lib.hid (filt_snoc (fun m => decide (m < n)) HZ.out)
                by_cases hmn : m < n
                · have dm : decide (m < n) = true := decide_eq_true hmn
                  have HFN2 : Hid ((u.take (p + 1)).filter (fun m => decide (m < n)) = (u.take p).filter (fun m => decide (m < n)) ++ [m]) := by unfold Hid; rw [HFN.out, if_pos dm]
                  clear HFN hmn
                  go_wp2_with (at_builtin; refine wpList_appendWhere _ rfl (.tmp 42) (.tmp 44) 25 rfl w5.heap.size 3 i0 Try.underlying25 hi0 hz0 hz1 hz2 H (some ⟨wd.heap.size, 0, none⟩) ch 1 1 (wd.heap.size + 1) t (t + 1) _ [m] rfl rfl (HO.out.alloc _) HTL.out rfl (src_new wd ⟨hm1, hm2⟩) (by omega) (by simp; omega) ?_; intro H4 c4 w4 HO4 HG4 HW4; have hb0 : Below w5.heap.size w5 (wd.alloc (.cells #[.int .i64 m] 3)) := HX5.out.alloc hz5 _; have hb4 := below_app hb0 HG4 (HO.out.alloc _) HTL.out (by simp; omega))
                  go_roundw
                  case rel => exact ⟨p + 1, H4, t + 1, c4, by go_num, rfl, by omega, by omega, by unfold Hid; rw [HFN2.out, List.length_append, HTL.out]; rfl, by unfold Hid; rw [HFN2.out]; exact HO4, hb4⟩
                  case measure => simp [intOf]; omega
                · have dm : decide (m < n) = false := decide_eq_false hmn
                  have HFN2 : Hid ((u.take (p + 1)).filter (fun m => decide (m < n)) = (u.take p).filter (fun m => decide (m < n))) := by unfold Hid; rw [HFN.out, if_neg (by rw [dm]; simp), List.append_nil]
                  clear HFN hmn
                  go_wp2_with fail
                  go_roundw
                  case rel => exact ⟨p + 1, H, t, ch, by go_num, rfl, by omega, by omega, by unfold Hid; rw [HFN2.out]; exact HTL.out, by unfold Hid; rw [HFN2.out]; exact HO.out, HX5⟩
                  case measure => simp [intOf]; omega
              · obtain rfl : p = r := by omega
                have he : u.take p = u := by rw [← HI5.out.1, List.take_length]
                rw [he] at HTL HO
                clear hpr he
                go_wp2_with (at_builtin; refine wpList_appendWhere _ rfl (.tmp 47) (.tmp 49) 25 rfl w5.heap.size 3 i0 Try.underlying25 hi0 hz0 hz1 hz2 H (some ⟨wd.heap.size, 0, none⟩) ch 1 1 (wd.heap.size + 1) t (t + 1) _ [n] rfl rfl (HO.out.alloc _) HTL.out rfl (src_new wd HN.out) (by omega) (by simp; omega) ?_; intro H4 c4 w4 HO4 HG4 HW4; have hb0 : Below w5.heap.size w5 (wd.alloc (.cells #[.int .i64 n] 3)) := HX5.out.alloc hz5 _; have hb4 := below_app hb0 HG4 (HO.out.alloc _) HTL.out (by simp; omega))
                have HO4' : Hid (OwnI w4 w5.heap.size 3 H4 c4 (u.filter (fun m => decide (m < n)) ++ n :: (u.take 0).filter (fun m => decide (n < m)))) := by unfold Hid; rw [List.take_zero, List.filter_nil]; exact HO4
                have HTL4 : Hid ((u.filter (fun m => decide (m < n)) ++ n :: (u.take 0).filter (fun m => decide (n < m))).length = t + 1) := by unfold Hid; rw [List.take_zero, List.filter_nil, List.length_append, HTL.out]; rfl
                have HB4 := Lib.hid hb4
                clear HO HX5 HO4 HG4 HW4 hb0 hb4 hz5 hp
                go_loopw [53, 9] (fun v s wx => ∃ (x : Nat) (H : Option Addr) (t ch : Nat), v = .int .i64 (x : Int) ∧ s = .slice H t ch ∧ x ≤ p ∧ t ≤ p + 1 + x ∧ Hid ((u.filter (fun m => decide (m < n)) ++ n :: (u.take x).filter (fun m => decide (n < m))).length = t) ∧ Hid (OwnI wx w5.heap.size 3 H ch (u.filter (fun m => decide (m < n)) ++ n :: (u.take x).filter (fun m => decide (n < m)))) ∧ Hid (Below w5.heap.size w5 wx)) (fun v _ _ => p - (intOf v).toNat)
                case atStart => exact ⟨0, H4, t + 1, c4, rfl, rfl, Nat.zero_le _, by omega, HTL4, HO4', HB4⟩
                case round =>
                  clear HTL4 HO4' HB4
                  obtain ⟨x, H, t, ch, rfl, rfl, hx, htx, HTL, HO, HX5⟩ := hrel
                  obtain ⟨wd, hwd⟩ : ∃ wd : World, wd = wr := ⟨_, rfl⟩
                  rw [← hwd] at HO HX5 ⊢
                  clear hwd
                  have hz5 := HX5.out.size
                  by_cases hpr : x < p
                  · obtain ⟨b4, off4, m, rfl, _, HZ, hcz, hm1, hm2⟩ := (HI5.out.below HX5.out).at_ hpr
                    have p0 : (0 : Int) ≤ (x : Int) := by omega
                    have p1 : (x : Int) < (p : Int) := by omega
                    have HFN := Lib.hid (filt_snoc (fun m => decide (n < m)) HZ.out)
                    by_cases hmn : n < m
                    · have dm : decide (n < m) = true := decide_eq_true hmn
                      have HFN2 : Hid (u.filter (fun m => decide (m < n)) ++ n :: (u.take (x + 1)).filter (fun m => decide (n < m)) = (u.filter (fun m => decide (m < n)) ++ n :: (u.take x).filter (fun m => decide (n < m))) ++ [m]) := by unfold Hid; rw [HFN.out, if_pos dm]; simp
                      clear HFN hmn
                      go_wp2_with (at_builtin; refine wpList_appendWhere _ rfl (.tmp 60) (.tmp 62) 25 rfl w5.heap.size 3 i0 Try.underlying25 hi0 hz0 hz1 hz2 H (some ⟨wd.heap.size, 0, none⟩) ch 1 1 (wd.heap.size + 1) t (t + 1) _ [m] rfl rfl (HO.out.alloc _) HTL.out rfl (src_new wd ⟨hm1, hm2⟩) (by omega) (by simp; omega) ?_; intro H6 c6 w6 HO6 HG6 HW6; have hb0 : Below w5.heap.size w5 (wd.alloc (.cells #[.int .i64 m] 3)) := HX5.out.alloc hz5 _; have hb6 := below_app hb0 HG6 (HO.out.alloc _) HTL.out (by simp; omega))
                      go_roundw
                      case rel => exact ⟨x + 1, H6, t + 1, c6, by go_num, rfl, by omega, by omega, by unfold Hid; rw [HFN2.out, List.length_append, HTL.out]; rfl, by unfold Hid; rw [HFN2.out]; exact HO6, hb6⟩
                      case measure => simp [intOf]; omega
                    · have dm : decide (n < m) = false := decide_eq_false hmn
                      have HFN2 : Hid (u.filter (fun m => decide (m < n)) ++ n :: (u.take (x + 1)).filter (fun m => decide (n < m)) = u.filter (fun m => decide (m < n)) ++ n :: (u.take x).filter (fun m => decide (n < m))) := by unfold Hid; rw [HFN.out, if_neg (by rw [dm]; simp), List.append_nil]
                      clear HFN hmn
                      go_wp2_with fail
                      go_roundw
                      case rel => exact ⟨x + 1, H, t, ch, by go_num, rfl, by omega, by omega, by unfold Hid; rw [HFN2.out]; exact HTL.out, by unfold Hid; rw [HFN2.out]; exact HO.out, HX5⟩
                      case measure => simp [intOf]; omega
                  · obtain rfl : x = p := by omega
                    have he : u.take x = u := by rw [← HI5.out.1, List.take_length]
                    rw [he] at HTL HO
                    have HOP : Hid (OwnI wd w5.heap.size 3 H ch (putN u n)) := HO.out
                    have HTP : Hid ((putN u n).length = t) := HTL.out
                    have hin2 := HOP.out.ints
                    have hcp := HOP.out.len_cap
                    rw [HTP.out] at hin2 hcp
                    have HIN2 := Lib.hid hin2
                    have HM2 : Hid (∀ m, m ∈ putN u n ↔ m ∈ (LL.take k).flatten ++ L.take (j + 1)) := fun m => by
                      rw [HTJ.out, ← List.append_assoc, List.mem_append, ← HM.out m, List.mem_singleton, putN_mem]
                    have HB6 := Lib.hid (HB5.out.trans (HX5.out.mono HB5.out.size))
                    clear hpr he hin2 HO HTL HOP
                    go_wp2_with fail
                    go_roundw
                    case rel => exact ⟨j + 1, putN u n, H, t, ch, by go_num, rfl, by omega, HIN2, hcp, putN_rise HP.out, HM2, HB6⟩
                    case measure => simp [intOf]; omega
        · obtain rfl : j = M := by omega
          have he : L.take j = L := by rw [← HIL.out.1, List.take_length]
          rw [he, ← HFS.out] at HM
          clear hjm he
          go_wp2_with fail
          go_roundw
          case rel => exact ⟨k + 1, u, A, r, c, by go_num, rfl, by omega, HI, hrc, HP, HM, HB⟩
          case measure => simp [intOf]; omega
    · obtain rfl : k = ln := by omega
      have he : LL.take k = LL := by rw [← HLN.out, List.take_length]
      rw [he] at HM
      clear hlt he
      go_wp2_with fail
      go_ret2
      exact ⟨u, A, r, c, rfl, HI.out, hrc, ⟨HP.out, fun m => (HM.out m).trans List.mem_flatten⟩, HB.out⟩
set_option maxRecDepth 100000 in
theorem refUnion_err (LA : Option Addr) (ln lc : Nat) (LL : List (List Int)) (w : World) (h : IntsLL w w.heap.size LA ln LL) (hln : ln ≤ 1000) (hT : LL.flatten.length ≤ 10000) (hR : ¬ AllRise LL) :
    Calls Try.prog 14 #[.slice LA ln lc] w fun e w' => e = .returned (.tuple #[.slice none 0 0, .int .i64 1]) ∧ Below w.heap.size w w' := by
  have hL : ∀ L ∈ LL, L.length ≤ 9223372036854775806 := fun L hL => by
    have : L.length ≤ LL.flatten.length := (List.sublist_flatten_of_mem hL).length_le
    omega
  have cA := refAll_any LA ln lc w.heap.size LL w h hL (by omega) false ⟨fun h => (by cases h), fun h => absurd h hR⟩
  clear h hL hR
  go_enter Try.func14, Try.ntmps14
  go_wp2_with (go_at_call 28; refine cA.mono ?_; rintro e w1 ⟨rfl, q1, hw1⟩; have hb1 := belowQ (Below.refl w.heap.size w) hw1; clear hw1)
  go_ret2
  exact ⟨rfl, hb1⟩
theorem refUnion_v (E : Int) (LA : Option Addr) (ln lc : Nat) (LL : List (List Int)) (w : World) (h : IntsLL w w.heap.size LA ln LL) (hln : ln ≤ 1000) (hT : LL.flatten.length ≤ 10000) (hE : ErrU LL E) :
    Calls Try.prog 14 #[.slice LA ln lc] w fun e w' => ∃ u A r c, e = .returned (.tuple #[.slice A r c, .int .i64 E]) ∧ Ints w' w'.heap.size A r u ∧ r ≤ c ∧ (E = 0 → UnionI LL u) ∧ (E = 1 → u = []) ∧ Below w.heap.size w w' := by
  rcases hE with ⟨h1, rfl⟩ | ⟨h1, rfl⟩
  · refine (refUnion_ok LA ln lc LL w h hln hT h1).mono ?_
    rintro e w' ⟨u, A, r, c, rfl, a1, a2, a3, a4⟩
    exact ⟨u, A, r, c, rfl, a1, a2, fun _ => a3, fun h => (by cases h), a4⟩
  · refine (refUnion_err LA ln lc LL w h hln hT h1).mono ?_
    rintro e w' ⟨rfl, a4⟩
    exact ⟨[], none, 0, 0, rfl, Ints.nil_, Nat.le_refl _, fun h => (by cases h), fun _ => rfl, a4⟩
end Go.Proofs.Ytnaehnlpcjaaeaa
