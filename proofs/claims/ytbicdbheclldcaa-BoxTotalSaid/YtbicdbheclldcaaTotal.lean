/- The walk of the law BoxTotal. -/
import Derived.Test.YtbicdbheclldcaaSumLaw
import Derived.Test.YtbicdbheclldcaaLive
namespace Go.Proofs.Ytbicdbheclldcaa
open Go.RowKit

theorem few_one (d : Hdr) (w : World) : Calls Try.prog 16 #[.slice (some ⟨w.heap.size, 0, none⟩) 1 1] (w.alloc (.cells #[.slice d.A d.n d.c, .slice d.B d.m d.e] 25))
    fun x w' => x = .returned (.bool (fewF [d])) ∧ Below (w.heap.size + 1) (w.alloc (.cells #[.slice d.A d.n d.c, .slice d.B d.m d.e] 25)) w' := by
  have hb : (w.alloc (.cells #[.slice d.A d.n d.c, .slice d.B d.m d.e] 25)).heap[w.heap.size]? = some (.cells #[.slice d.A d.n d.c, .slice d.B d.m d.e] 25 (0, 0)) := heap_alloc_new w _
  have := few_any w.heap.size 1 1 [d] (w.alloc (.cells #[.slice d.A d.n d.c, .slice d.B d.m d.e] 25)) rfl (by simp) (fun k x hx => by
    match k, hx with
    | 0, hx => simp at hx; subst hx; exact ⟨(cell_of_row _ _ 0 _ _ (0, 0) hb).trans (by simp), (cell_of_row _ _ 1 _ _ (0, 0) hb).trans (by simp)⟩
    | k + 1, hx => simp at hx) (by omega)
  simpa using this
theorem get_zero {V : List Int} (hck : checkF [] V.length = 0) (hb : ∀ x ∈ V, -9223372036854775808 ≤ x ∧ x ≤ 9223372036854775807) : getF [] V.length V [] = (totL V, 0) := by
  have h1 := (check_parts hck).2.2
  have e1 : laidF [] = (1, 0) := by decide
  rw [e1] at h1
  match V, h1, hck, hb with
  | [v], _, hck, hb =>
    unfold getF
    rw [if_pos hck]
    have e2 : atF [] [] = (0, 0) := by decide
    rw [e2, totL_one (hb v (by simp))]
    rfl
  | [], h1, _, _ => simp at h1
  | _ :: _ :: _, h1, _, _ => simp at h1; omega
def TotInv (w : World) (T : Int) (n q : Nat) (wr : World) : Prop := ∃ A1 c1 B1 e1 S V, S.length + q = n ∧ wr.heap[w.heap.size]? = some (.cells #[.slice A1 S.length c1, .slice B1 V.length e1] 25 (0, 0)) ∧
  Ints wr wr.heap.size A1 S.length S ∧ Ints wr wr.heap.size B1 V.length V ∧ S.length ≤ c1 ∧ V.length ≤ 65536 ∧ checkF S V.length = 0 ∧ totL V = T ∧ Below w.heap.size w wr ∧ w.heap.size < wr.heap.size

theorem tot_next {w w7 : World} {T : Int} {n q md : Nat} {a0 a1 A6 A7 : Option Addr} {n0 n1 c0 c1 c6 c7 base : Nat} {S V : List Int} (X : Obj) (hlen : S.length + q = n) (hmd : md < S.length) (hck : checkF S V.length = 0) (hE : (laidF (S.eraseIdx md)).2 = 0) (hT : totL V = T)
    (hg : w7.heap[w.heap.size]? = some (.cells #[.slice a0 n0 c0, .slice a1 n1 c1] 25 (0, 0))) (hb : Below w.heap.size w w7) (hO : OwnI w7 base 3 A6 c6 (S.eraseIdx md)) (hV : OwnI w7 base 2 A7 c7 (sumV S md V)) :
    TotInv w T n (q + 1) (((w7.alloc X).setCell ⟨w.heap.size, 0, none⟩ (.slice A6 (S.eraseIdx md).length c6)).setCell ⟨w.heap.size, 1, none⟩ (.slice A7 (sumV S md V).length c7)) := by
  have hlt : w.heap.size < w7.heap.size := (Array.getElem?_eq_some_iff.1 hg).1
  have hg2 : (w7.alloc X).heap[w.heap.size]? = some (.cells #[.slice a0 n0 c0, .slice a1 n1 c1] 25 (0, 0)) := (Below.heap_alloc _ X _ hlt).trans hg
  refine ⟨A6, c6, A7, c7, S.eraseIdx md, sumV S md V, ?_, set_both hg2, ?_, ?_, hO.cap, ?_, sumV_check V hE, (totL_sumV hck hmd).trans hT, ?_, ?_⟩
  · rw [List.length_eraseIdx_of_lt hmd]; omega
  · have := (hO.ints.alloc' X).off2 hg2 (.slice A6 (S.eraseIdx md).length c6) (.slice A7 (sumV S md V).length c7); simpa using this
  · have := (hV.ints.alloc' X).off2 hg2 (.slice A6 (S.eraseIdx md).length c6) (.slice A7 (sumV S md V).length c7); simpa using this
  · rw [sumV_length]; exact laidF_le _
  · exact ((hb.alloc hb.size X).setCell (p := ⟨w.heap.size, 0, none⟩) (Nat.le_refl _) _).setCell (p := ⟨w.heap.size, 1, none⟩) (Nat.le_refl _) _
  · simp; omega

set_option maxRecDepth 100000 in
set_option maxHeartbeats 2000000 in
theorem total_any (w : World) (A : Option Addr) (n c : Nat) (B : Option Addr) (m e : Nat) (xs ys : List Int) (h : Ints w w.heap.size A n xs) (hn : n ≤ 9223372036854775807) (hv : Ints w w.heap.size B m ys) (hm : m ≤ 9223372036854775807) (hnc : n ≤ c) (_ : m ≤ e)
    (A2 : Option Addr) (n2 c2 : Nat) (zs : List Int) (h2 : Ints w w.heap.size A2 n2 zs) (_ : n2 ≤ 9223372036854775807) :
    Calls Try.prog 6 #[.agg #[.slice A n c, .slice B m e], .slice A2 n2 c2] w fun e w' => e = .returned (.bool true) ∧ Below w.heap.size w w' := by
  have hL := fun W => live_any W
  have hW := fun W => few_one ⟨A, n, c, B, m, e⟩ W
  dsimp only at hW
  have HC := fun W (hb : Below w.heap.size w W) => check_any A B n c m e xs W ((h.below hb).more hb.size) hn
  have hB0 : Below w.heap.size w (w.alloc (.cells #[.slice A n c, .slice B m e] 25)) := (Below.refl _ w).alloc (Nat.le_refl _) _
  obtain ⟨fw, hfw⟩ : ∃ fw, fewF [⟨A, n, c, B, m, e⟩] = fw := ⟨_, rfl⟩
  rw [hfw] at hW
  obtain ⟨ck, hck⟩ : ∃ ck, checkF xs m = ck := ⟨_, rfl⟩
  rw [hck] at HC
  cases fw with
  | false =>
    clear hfw hck
    go_enter Try.func6, Try.ntmps6
    go_wp2_with (first | (go_at_call 15; refine (hL _).mono ?_; rintro x w1 ⟨rfl, hb1⟩; have hb2 := hB0.trans (hb1.mono hB0.size); obtain ⟨k0, k1⟩ := one_box hb1) | (go_at_call 16; refine (hW _).mono ?_; rintro x w3 ⟨rfl, hb3⟩; have hb4 := (hb2.alloc hb2.size _).trans (hb3.mono (by have := hb2.size; omega))))
    go_ret
    exact ⟨rfl, hb4⟩
  | true =>
    by_cases hc0 : ck = 0
    · subst hc0
      have hfw' : n ≤ 20 ∧ m ≤ 70000 := by simpa [fewF] using hfw
      obtain ⟨hn20, hm70⟩ := hfw'
      have hm65 : m ≤ 65536 := by have := (check_parts hck).2.2; have := laidF_nonneg (xs := xs); omega
      have HCK := Lib.hid hck
      have HL := Lib.hid h.1
      have HL2 := Lib.hid hv.1
      clear hfw hck
      have hmx : Try.prog.follows .mixedOrders = true := by kernel_rfl
      go_enter Try.func6, Try.ntmps6
      go_wp2_with (first | (go_at_call 15; refine (hL _).mono ?_; rintro x w1 ⟨rfl, hb1⟩; have hb2 := hB0.trans (hb1.mono hB0.size); obtain ⟨k0, k1⟩ := one_box hb1) | (go_at_call 16; refine (hW _).mono ?_; rintro x w3 ⟨rfl, hb3⟩; have hs1 := hb1.size; simp only [World.size_alloc] at hs1; have hd3 := (hb1.alloc hb1.size _).trans (hb3.mono (by simp only [World.size_alloc]; omega)); have hb4 := (hb2.alloc hb2.size _).trans (hb3.mono (by have := hb2.size; omega)); clear k0 k1; obtain ⟨k0, k1⟩ := one_box hd3) | (go_at_call 27; refine (HC _ hb4).mono ?_; rintro x w5 ⟨rfl, hb5⟩; have hb6 := hb4.trans (hb5.mono hb4.size); have hd5 := hd3.trans (hb5.mono hd3.size); clear k0 k1; obtain ⟨k0, k1⟩ := one_box hd5))
      have hg5 : w5.heap[w.heap.size]? = some (.cells #[.slice A n c, .slice B m e] 25 (0, 0)) := (hd5.block w.heap.size (by simp)).trans (heap_alloc_new w _)
      clear hb1 hb2 hb3 hb4 hb5 hd3 hd5 hB0 k0 k1 hs1
      have hv5 := hv.below hb6
      have h5 := h.below hb6
      go_loop [6, 29] (fun s i => ∃ q : Nat, q ≤ m ∧ i = .int .i64 q ∧ s = .int .i64 (totL (ys.take q))) (fun _ i => m - (intOf i).toNat)
      case atStart => exact ⟨0, Nat.zero_le _, rfl, by simp [totL]⟩
      case round =>
        obtain ⟨q, hq, rfl, rfl⟩ := hrel
        obtain ⟨t, ht⟩ : ∃ t, totL (ys.take q) = t := ⟨_, rfl⟩
        rw [ht]
        by_cases hlt : q < m
        · obtain ⟨b, off, x, rfl, hbb, HX, hcx, hx1, hx2⟩ := hv5.at_ hlt
          have HN : Hid (totL (ys.take (q + 1)) = wrap64 (t + x)) := by unfold Hid; rw [take_succ_of HX.out, totL_snoc, ht]
          clear ht
          go_wp2_with fail
          go_round
          case rel => exact ⟨q + 1, by omega, by go_num, by rw [HN.out]⟩
          case measure => simp [intOf]; omega
        · have HT : Hid (totL ys = t) := by unfold Hid; rw [← ht, List.take_of_length_le (by rw [HL2.out]; omega)]
          clear ht
          have hinv : TotInv w t n 0 w5 := ⟨A, c, B, e, xs, ys, by rw [HL.out]; rfl, by rw [HL.out, HL2.out]; exact hg5, by rw [HL.out]; exact h5.more hb6.size, by rw [HL2.out]; exact hv5.more hb6.size, by rw [HL.out]; exact hnc, by rw [HL2.out]; exact hm65, by rw [HL2.out]; exact HCK.out, HT.out, hb6, (Array.getElem?_eq_some_iff.1 hg5).1⟩
          clear hg5 hv5 h5
          go_wp2_with fail
          go_loopw [9] (fun i wr => ∃ q : Nat, q ≤ n ∧ i = .int .i64 q ∧ TotInv w t n q wr) (fun i _ => n - (intOf i).toNat)
          case atStart => exact ⟨0, Nat.zero_le _, rfl, hinv⟩
          case round =>
            obtain ⟨k, hk, rfl, hinv⟩ := hrel
            obtain ⟨A1, c1, B1, e1, S, V, hlen, hg, hS, hV, hcap, hV65, hckS, hTS, hb, hbl⟩ := hinv
            obtain ⟨r, hr⟩ : ∃ r, S.length = r := ⟨_, rfl⟩
            obtain ⟨v, hvl⟩ : ∃ v, V.length = v := ⟨_, rfl⟩
            rw [hr] at hlen hg hS hcap
            rw [hvl] at hg hV hV65 hckS
            obtain ⟨k0, k1, _, _⟩ := dCells hg
            have HR := Lib.hid hr
            have HVl := Lib.hid hvl
            have HTS := Lib.hid hTS
            have HCS := Lib.hid hckS
            clear hr hvl hTS hckS
            rcases Nat.eq_zero_or_pos r with h0 | h0
            · subst h0
              obtain rfl : S = [] := List.eq_nil_of_length_eq_zero HR.out
              have HG := fun W => fun (hb : Below w.heap.size w W) (hx : Ints W W.heap.size A1 0 []) (hy : Ints W W.heap.size B1 v V) => get_any A1 B1 none 0 c1 v e1 0 0 [] V [] W hx hy Ints.nil_ (by omega) (by omega)
              have hgz := get_zero (V := V) (by rw [HVl.out]; exact HCS.out) hV.2.1
              rw [HVl.out, HTS.out] at hgz
              rw [hgz] at HG
              clear hgz
              go_wp2_with (go_at_call 32; refine (HG _ hb hS hV).mono ?_; rintro x w9 ⟨rfl, hb9⟩)
              go_ret
              exact ⟨rfl, hb.trans (hb9.mono hb.size)⟩
            · have hr4 : r ≤ 4 := by have := laidF_erase HCS.out; rw [HR.out] at this; exact this
              have hkn : k < n := by omega
              go_upto_if 46 with fail
              go_cut [10] (fun s wx => ∃ md : Nat, md < r ∧ s = .int .i64 md ∧ Below wr.heap.size wr wx)
              case first =>
                by_cases hlt2 : k < n2
                · obtain ⟨b, off, x, rfl, hbb, HX, hcx, hx1, hx2⟩ := (h2.below hb).at_ hlt2
                  obtain ⟨t1, u1, md, E1, E2, E3, E4, E5, E6, hmd, U1, U2, U3⟩ := mode_run x r (by omega) (by omega)
                  have hk0 : (0 : Int) ≤ (k : Int) := by omega
                  have hk2 : (k : Int) < (n2 : Int) := by omega
                  have hr0 : ¬ r = 0 := by omega
                  clear E2 E3 E6
                  have HMD := Lib.hid hmd
                  clear hmd
                  go_wp2_with fail
                  refine wp_region_still_tail 16 hmx (by kernel_rfl) ?_
                  simp only [List.take_succ_cons, List.take_zero, List.drop_succ_cons, List.drop_zero]
                  repeat still_step
                  refine wpStill_nil ?_
                  change wpList _ _ _ _ _ wr.drew
                  go_wp2_with fail
                  go_meet
                  exact ⟨md, HMD.out, rfl, (Below.refl _ _).drew⟩
                · go_wp2_with fail
                  go_meet
                  exact ⟨0, h0, rfl, Below.refl _ _⟩
              case rest =>
                obtain ⟨md, hmd, rfl, hbc⟩ := hcut
                have hg2 := dKeep hbc hg
                have hb2 := hb.trans (hbc.mono hb.size)
                have hS2 := (hS.below hbc).more hbc.size
                have hV2 := (hV.below hbc).more hbc.size
                have HS := sum_ok A1 B1 r c1 v e1 md S V wc hS2 hV2 (by omega) hcap (by omega) HCS.out hmd
                clear k0 k1 hg hS hV hbc
                obtain ⟨k0, k1, _, _⟩ := dCells hg2
                rcases erase_err HCS.out md with hE | hE
                · rw [hE, if_pos rfl, if_pos rfl] at HS
                  go_wp2_with (go_at_call 24; refine HS.mono ?_; rintro x w7 ⟨A6, c6, A7, c7, rfl, HO, HV, hb7⟩; have hg7 := dKeep hb7 hg2; obtain ⟨m0, m1, m2, m3⟩ := dCells hg7; have m4 := fun o => cellPast o m0; have m5 := fun o => cellPast o m1; have m6 := fun o => frozenPast o m0 m2; have m7 := fun o => frozenPast o m1 m3)
                  have hnx := tot_next (.cells #[.slice A6 (S.eraseIdx md).length c6, .slice A7 (sumV S md V).length c7] 25) (q := k) (n := n) (by rw [HR.out]; exact hlen) (by rw [HR.out]; exact hmd) (by rw [HVl.out]; exact HCS.out) hE HTS.out hg7 (hb2.trans (hb7.mono hb2.size)) HO HV
                  go_roundw
                  case rel => exact ⟨k + 1, by omega, by go_num, hnx⟩
                  case measure => simp [intOf]; omega
                · rw [hE, if_neg (by decide), if_neg (by decide)] at HS
                  go_wp2_with (go_at_call 24; refine HS.mono ?_; rintro x w7 ⟨A6, c6, A7, c7, rfl, HO, HV, hb7⟩)
                  go_ret
                  exact ⟨rfl, (hb2.trans (hb7.mono hb2.size)).alloc (Nat.le_trans hb2.size hb7.size) _⟩
    · clear hfw hck
      go_enter Try.func6, Try.ntmps6
      go_wp2_with (first | (go_at_call 15; refine (hL _).mono ?_; rintro x w1 ⟨rfl, hb1⟩; have hb2 := hB0.trans (hb1.mono hB0.size); obtain ⟨k0, k1⟩ := one_box hb1) | (go_at_call 16; refine (hW _).mono ?_; rintro x w3 ⟨rfl, hb3⟩; have hs1 := hb1.size; simp only [World.size_alloc] at hs1; have hd3 := (hb1.alloc hb1.size _).trans (hb3.mono (by simp only [World.size_alloc]; omega)); have hb4 := (hb2.alloc hb2.size _).trans (hb3.mono (by have := hb2.size; omega)); clear k0 k1; obtain ⟨k0, k1⟩ := one_box hd3) | (go_at_call 27; refine (HC _ hb4).mono ?_; rintro x w5 ⟨rfl, hb5⟩; have hb6 := hb4.trans (hb5.mono hb4.size)))
      go_ret
      exact ⟨rfl, hb6⟩
end Go.Proofs.Ytbicdbheclldcaa
