/- The contracts of the document's Odd, Nth, Next. -/
import Derived.Test.YtnjjmeaggnlafaaPRefC
namespace Go.Proofs.Ytnjjmeaggnlafaa
open Go.RowKit

set_option maxRecDepth 100000 in
set_option maxHeartbeats 1000000 in
theorem refOdd_any (A : Option Addr) (n c : Nat) (xs : List Int) (w : World) (h : Ints w w.heap.size A n xs) (hn : n ≤ 9223372036854775807) (hcap : n ≤ c) :
    Calls Try.prog 33 #[.slice A n c] w fun e w' => e = .returned (.tuple #[.bool (oddF xs).1, .int .i64 (oddF xs).2]) ∧ Below w.heap.size w w' := by
  have hI := is_ok A n c xs w w.heap.size h hn
  rcases permB_ord xs with ⟨ho, hb, hp⟩ | ⟨ho, hb, hp⟩
  · have h12 : n ≤ 12 := by rw [← h.1]; exact hp.len
    have HL : Hid (xs.length = n) := h.1
    have HF : Hid (oddF xs = (oddB xs, 0)) := by unfold Hid oddF; rw [if_pos ho]
    rw [hb] at hI
    clear ho hb hp
    go_enter Try.func33, Try.ntmps33
    go_wp2_with (go_at_call 38; refine hI.mono ?_; rintro e w' ⟨rfl, rfl⟩)
    clear hI
    go_loop [4, 14] (fun s i => ∃ k q : Nat, k ≤ n ∧ i = .int .i64 k ∧ s = .int .i64 q ∧ q ≤ k * 12 ∧ Hid (q = invsL (xs.take k))) (fun _ i => n - (intOf i).toNat)
    case atStart => exact ⟨0, 0, Nat.zero_le _, rfl, rfl, by omega, by unfold Hid; simp [invsL]⟩
    case round =>
      obtain ⟨k, q, hk, rfl, rfl, hq, HQ⟩ := hrel
      by_cases hlt : k < n
      · obtain ⟨b, off, x, hA, _, HX, hcx, hx1, hx2⟩ := h.at_ hlt
        have hsl := fun W => run_take (w := W) A n c k (by omega) hcap
        have hdr := h.take_ (k := k) (by omega)
        have hA2 := Lib.hid hA
        subst hA
        have HLd : Hid ((xs.take k).length = k) := hdr.1
        have HS : Hid (xs.take (k + 1) = xs.take k ++ [x]) := take_succ_of HX.out
        go_wp2
        go_loop [4, 23] (fun s i => ∃ j m : Nat, j ≤ k ∧ i = .int .i64 j ∧ s = .int .i64 m ∧ m ≤ q + j ∧ Hid (m = q + moreC x ((xs.take k).take j))) (fun _ i => n - (intOf i).toNat)
        case atStart => exact ⟨0, q, Nat.zero_le _, rfl, rfl, by omega, by unfold Hid; simp [moreC]⟩
        case round =>
          obtain ⟨j, m, hj, rfl, rfl, hm, HM⟩ := hrel
          by_cases hjn : j < k
          · obtain ⟨b2, off2, y, hA3, _, HY, hcy, hy1, hy2⟩ := hdr.at_ hjn
            obtain ⟨rfl, rfl⟩ : b = b2 ∧ off = off2 := by injection hA3 with hA3; injection hA3 with h1 h2; exact ⟨h1, h2⟩
            clear hA3
            by_cases hyx : x < y
            · have HM' : Hid (m + 1 = q + moreC x ((xs.take k).take (j + 1))) := by unfold Hid; rw [take_succ_of HY.out, moreC_snoc, if_pos hyx, HM.out]; omega
              have e1 : decide (x < y) = true := by simpa using hyx
              clear hyx
              go_wp2
              go_round
              case rel => exact ⟨j + 1, m + 1, by omega, by go_num, by go_num, by omega, HM'⟩
              case measure => simp [intOf]; omega
            · have HM' : Hid (m = q + moreC x ((xs.take k).take (j + 1))) := by unfold Hid; rw [take_succ_of HY.out, moreC_snoc, if_neg hyx, HM.out]; rfl
              have e1 : decide (x < y) = false := by simpa using hyx
              clear hyx
              go_wp2
              go_round
              case rel => exact ⟨j + 1, m, by omega, by go_num, rfl, by omega, HM'⟩
              case measure => simp [intOf]; omega
          · have HM' : Hid (m = invsL (xs.take (k + 1))) := by
              unfold Hid; rw [HS.out, invsL_snoc, HM.out, List.take_of_length_le (by rw [HLd.out]; omega), HQ.out]
            go_wp2
            go_round
            case rel => exact ⟨k + 1, m, by omega, by go_num, rfl, by omega, HM'⟩
            case measure => simp [intOf]; omega
      · have hR : invsL xs = q := by have := HQ.out; rw [List.take_of_length_le (by rw [HL.out]; omega)] at this; exact this.symm
        by_cases hodd : invsL xs % 2 = 1
        · have e1 : ((q : Int) % 2 == 1) = true := by simp; omega
          have HR : Hid (oddB xs = true) := by unfold Hid oddB; simp [hodd]
          have hq2 : (q : Int) % 2 = 1 := by omega
          clear hR hodd
          go_wp2
          go_ret2
          exact ⟨by rw [HF.out]; dsimp only; rw [HR.out]; rfl, Below.refl _ _⟩
        · have e1 : ((q : Int) % 2 == 1) = false := by simp; omega
          have HR : Hid (oddB xs = false) := by unfold Hid oddB; simp; omega
          clear hR hodd
          go_wp2
          go_ret2
          exact ⟨by rw [HF.out]; dsimp only; rw [HR.out]; rfl, Below.refl _ _⟩
  · have HF : Hid (oddF xs = (false, 1)) := by unfold Hid oddF; rw [if_neg (by omega)]
    rw [hb] at hI
    clear ho hb hp
    go_enter Try.func33, Try.ntmps33
    go_wp2_with (go_at_call 38; refine hI.mono ?_; rintro e w' ⟨rfl, rfl⟩)
    go_ret2
    exact ⟨by rw [HF.out]; rfl, Below.refl _ _⟩

theorem OwnI.grown_ {w w' : World} {base c : Nat} {e : TypeId} {A : Option Addr} {xs : List Int} {row : Option Nat} (h : OwnI w base e A c xs) (hg : w.grownBy w' row) (hr : ∀ g, A = some ⟨g, 0, none⟩ → some g ≠ row) : OwnI w' base e A c xs := by
  refine ⟨h.1.kept hg ?_, h.2⟩
  rcases h.1.2 with ⟨hv, _⟩ | ⟨g', cap, cur, hv, _⟩
  · rw [hv]; exact .inl rfl
  · right
    have hA : A = some ⟨g', 0, none⟩ := by injection hv
    subst hA
    exact hr g' rfl
theorem OwnI.lt_ {w : World} {base c g : Nat} {e : TypeId} {xs : List Int} (h : OwnI w base e (some ⟨g, 0, none⟩) c xs) : base ≤ g ∧ g < w.heap.size := h.1.lt g rfl

theorem own_block_ne {w : World} {base c r g : Nat} {e : TypeId} {A : Option Addr} {xs : List Int} (h : OwnI w base e A c xs) (hr : xs.length = r) (hne : A ≠ some ⟨g, 0, none⟩) : some g ≠ (Value.slice A r c).ownBlock := by
  subst hr
  rcases h.1.2 with ⟨hv, _⟩ | ⟨g', cap, cur, hv, _⟩
  · rw [hv]; intro h; cases h
  · have hA : A = some ⟨g', 0, none⟩ := by injection hv
    subst hA
    intro h
    simp only [Value.ownBlock, Option.some.injEq] at h
    exact hne (by rw [h])
theorem nth_step2 {Lf O R : List Int} {m kk f : Nat} (h0 : 0 < m) (hl : Lf.length = m) (hf : f = fact (m - 1)) (hk : kk < fact m) (hR : R = O ++ nthL m Lf kk) :
    kk / f < m ∧ kk % f < fact (m - 1) ∧ ∃ y, Lf[kk / f]? = some y ∧ R = (O ++ [y]) ++ nthL (m - 1) (Lf.eraseIdx (kk / f)) (kk % f) := by
  obtain ⟨m, rfl⟩ : ∃ j, m = j + 1 := ⟨m - 1, by omega⟩
  rw [Nat.add_sub_cancel] at hf ⊢
  subst hf
  have hfp := fact_pos m
  have h1 : kk / fact m < m + 1 := by rw [Nat.div_lt_iff_lt_mul hfp]; exact hk
  refine ⟨h1, Nat.mod_lt _ hfp, Lf[kk / fact m], List.getElem?_eq_getElem (by omega), ?_⟩
  rw [hR]
  simp only [nthL]
  rw [List.getD_eq_getElem?_getD, List.getElem?_eq_getElem (by omega)]
  simp
/-- a list without the number at i, as far as it is laid -/
def skipTo (L : List Int) (i j : Nat) : List Int := if i < j then (L.take j).eraseIdx i else L.take j
theorem skipTo_next {L : List Int} {i j : Nat} {x : Int} (hx : L[j]? = some x) : skipTo L i (j + 1) = if j = i then skipTo L i j else skipTo L i j ++ [x] := by
  have hj := (List.getElem?_eq_some_iff.1 hx).1
  unfold skipTo
  rw [take_succ_of hx]
  by_cases h1 : j = i
  · subst h1
    rw [if_pos rfl, if_pos (by omega), if_neg (by omega), List.eraseIdx_append_of_length_le (by rw [List.length_take]; omega)]
    have e : j - (L.take j).length = 0 := by rw [List.length_take]; omega
    rw [e]; simp
  · rw [if_neg h1]
    by_cases h2 : i < j
    · rw [if_pos (by omega), if_pos h2, List.eraseIdx_append_of_lt_length (by rw [List.length_take]; omega)]
    · rw [if_neg (by omega), if_neg h2]
theorem skipTo_all {L : List Int} {i : Nat} (h : i < L.length) : skipTo L i L.length = L.eraseIdx i := by unfold skipTo; rw [if_pos h, List.take_length]
theorem skipTo_len {L : List Int} {i j : Nat} (hj : j ≤ L.length) : (skipTo L i j).length ≤ j := by
  unfold skipTo; split
  · rw [List.length_eraseIdx, List.length_take]; split <;> omega
  · rw [List.length_take]; omega

set_option maxRecDepth 100000 in
theorem refNth_err (n k : Int) (w : World) (h : (nthF n k).2 ≠ 0) :
    Calls Try.prog 27 #[.int .i64 n, .int .i64 k] w fun e w' => e = .returned (.tuple #[.slice none 0 0, .int .i64 (nthF n k).2]) ∧ Below w.heap.size w w' := by
  have hP := refPlain_any n w
  by_cases hn : n < 0 ∨ 12 < n
  · have HF : Hid ((nthF n k).2 = 1) := by unfold Hid nthF; rw [if_pos hn]
    have e : plainF n = ([], 1) := by unfold plainF; rw [if_pos hn]
    rw [e] at hP
    clear hn h e
    go_enter Try.func27, Try.ntmps27
    go_wp2_with (go_at_call 14; refine hP.mono ?_; rintro e w1 ⟨A', c', rfl, HO, hb1⟩)
    go_ret2
    exact ⟨by rw [HF.out]; rfl, hb1⟩
  · have h3 : k < 0 ∨ (fact n.toNat : Int) ≤ k := by
      by_cases h3 : k < 0 ∨ (fact n.toNat : Int) ≤ k
      · exact h3
      · exact absurd (by unfold nthF; rw [if_neg hn, if_neg h3]) h
    have HF : Hid ((nthF n k).2 = 3) := by unfold Hid nthF; rw [if_neg hn, if_pos h3]
    have e : plainF n = (plainL n.toNat, 0) := by unfold plainF; rw [if_neg hn]
    rw [e] at hP
    have hO := fun W => many_ok n W (by omega) (by omega)
    clear h hn e
    by_cases hk : k < 0
    · have hd : decide (k < 0) = true := by simpa using hk
      clear h3
      go_enter Try.func27, Try.ntmps27
      go_wp2_with (first | (go_at_call 14; refine hP.mono ?_; rintro e w1 ⟨A', c', rfl, HO, hb1⟩))
      go_ret2
      exact ⟨by rw [HF.out]; rfl, hb1⟩
    · have hd : decide (k < 0) = false := by simpa using hk
      obtain ⟨F, hF⟩ : ∃ F : Int, (fact n.toNat : Int) = F := ⟨_, rfl⟩
      rw [hF] at hO h3
      have hge : F ≤ k := by omega
      have hd2 : decide (F ≤ k) = true := by simpa using hge
      clear h3 hF
      go_enter Try.func27, Try.ntmps27
      go_wp2_with (first | (go_at_call 14; refine hP.mono ?_; rintro e w1 ⟨A', c', rfl, HO, hb1⟩) | (go_at_call 43; refine (hO _).mono ?_; rintro e w' ⟨rfl, rfl⟩))
      go_ret2
      exact ⟨by rw [HF.out]; rfl, hb1⟩

set_option maxRecDepth 100000 in
set_option maxHeartbeats 4000000 in
theorem refNth_ok (n k : Nat) (w : World) (hn : n ≤ 12) (hk : k < fact n) :
    Calls Try.prog 27 #[.int .i64 (n : Int), .int .i64 (k : Int)] w fun e w' => ∃ A' c', e = .returned (.tuple #[.slice A' n c', .int .i64 0]) ∧ OwnI w' w.heap.size 3 A' c' (nthL n (plainL n) k) ∧ Below w.heap.size w w' := by
  have hP := refPlain_any n w
  have e : plainF n = (plainL n, 0) := by unfold plainF; rw [if_neg (by omega), Int.toNat_natCast]
  rw [e] at hP
  dsimp only at hP
  rw [plainL_length] at hP
  have hO := fun W (m : Int) (h0 : 0 ≤ m) (hm : m ≤ 12) => many_ok m W h0 hm
  have hO1 := fun W => hO W (n : Int) (by omega) (by omega)
  rw [Int.toNat_natCast] at hO1
  obtain ⟨F, hF⟩ : ∃ F : Int, (fact n : Int) = F := ⟨_, rfl⟩
  have HK := Lib.hid hk
  rw [hF] at hO1
  have hd : decide ((k : Int) < 0) = false := by simp
  have hd2 : decide (F ≤ (k : Int)) = false := by simp; omega
  have hd3 : (k : Int) < F := by omega
  obtain ⟨i0, hi0, hz0, hz1, hz2⟩ := info_parts infoInt
  have HPL : Hid ((plainL n).length = n) := plainL_length n
  clear hF hk e
  go_enter Try.func27, Try.ntmps27
  go_wp2_with (first | (go_at_call 14; refine hP.mono ?_; rintro e w1 ⟨A1, c1, rfl, HO1, hb1⟩) | (go_at_call 43; refine (hO1 _).mono ?_; rintro e w' ⟨rfl, rfl⟩))
  have HO0 := Lib.hid HO1
  clear hP hO1 HO1
  go_loopw [1, 6, 8] (fun q v u wr => ∃ (m kk r : Nat) (Lf O : List Int) (Al Ao : Option Addr) (cl co : Nat), q = .int .i64 kk ∧ v = .slice Al m cl ∧ u = .slice Ao r co ∧ m + r = n ∧ Hid (Lf.length = m) ∧ Hid (O.length = r) ∧ Hid (kk < fact m) ∧
      Hid (nthL n (plainL n) k = O ++ nthL m Lf kk) ∧ Hid (OwnI wr w.heap.size 3 Al cl Lf) ∧ Hid (OwnI wr w.heap.size 3 Ao co O) ∧ Hid (∀ g, Al = some ⟨g, 0, none⟩ → Ao ≠ some ⟨g, 0, none⟩) ∧ Below w.heap.size w wr)
    (fun _ v _ _ => match v with | .slice _ m _ => m | _ => 0)
  case atStart => exact ⟨n, k, 0, plainL n, [], A1, none, c1, 0, rfl, rfl, rfl, by omega, HPL, rfl, HK, by unfold Hid; simp, HO0, OwnI.nil_ _ _ _, (by unfold Hid; intro g _ hh; cases hh), hb1⟩
  case round =>
    obtain ⟨m, kk, r, Lf, O, Al, Ao, cl, co, rfl, rfl, rfl, hmr, HLl, HLo, HKK, HR, HOl, HOo, HAP, hb⟩ := hrel
    by_cases hm0 : 0 < m
    · obtain ⟨f, hf⟩ : ∃ f, f = fact (m - 1) := ⟨_, rfl⟩
      obtain ⟨s1, s2, y, s3, s4⟩ := nth_step2 hm0 HLl.out hf HKK.out HR.out
      obtain ⟨i, hi⟩ : ∃ i, kk / f = i := ⟨_, rfl⟩
      have hO2 := fun W => hO W ((m : Int) - 1) (by omega) (by omega)
      have e1 : ((m : Int) - 1).toNat = m - 1 := by omega
      rw [e1, ← hf] at hO2
      have hf1 : 1 ≤ f := by rw [hf]; exact fact_pos _
      have hf2 : f ≤ 479001600 := by rw [hf]; exact fact_le (by omega)
      have hkb : kk < 479001601 := by have := HKK.out; have := fact_le (n := m) (by omega); omega
      have hib : kk / f ≤ kk := Nat.div_le_self _ _
      have hq1 : IntKind.i64.wrap ((kk : Int).tdiv (f : Int)) = (i : Int) := by
        rw [Int.tdiv_eq_ediv_of_nonneg (by omega), wrap_eq, ← hi, ← Int.natCast_ediv]; exact IntWalk.wrap64_in _ ⟨by omega, by omega⟩
      have hq2 : (kk : Int) / (f : Int) = (i : Int) := by rw [← hi, ← Int.natCast_ediv]
      have hq3 : (kk : Int) % (f : Int) = ((kk % f : Nat) : Int) := by rw [Int.natCast_emod]
      rw [hi] at s1 s3 s4
      obtain ⟨gl, hAl, hgl1, hgl2⟩ := HOl.out.some_ (by rw [HLl.out]; omega)
      have hapart := HAP.out gl hAl
      subst hAl
      obtain ⟨hcy, hfy⟩ := HOl.out.cell_ s3
      have hyb := HOl.out.2 y (List.mem_of_getElem? s3)
      have hsz := hb.size
      have HS2 := Lib.hid s2
      have HS4 := Lib.hid s4
      have HI := Lib.hid hi
      have HFF := Lib.hid hf
      have HAP2 := Lib.hid hapart
      obtain ⟨km, hkm⟩ : ∃ km, kk % f = km := ⟨_, rfl⟩
      rw [hkm] at hq3 HS2 HS4
      clear hi hf s2 s4 s3 e1 HR HKK hib HAP hapart hkm hO
      have hfz : ¬ f = 0 := by omega
      have hfz2 : ¬ (f : Int) = 0 := by omega
      go_wp2_with (first | (go_at_call 43; refine (hO2 _).mono ?_; rintro e w' ⟨rfl, rfl⟩) | (at_builtin; refine wpList_appendInts _ rfl (.tmp 43) (.tmp 48) 22 rfl w.heap.size 3 i0 Try.underlying22 hi0 hz0 hz1 hz2 Ao (some ⟨wr.heap.size, 0, none⟩) co 1 1 (wr.heap.size + 1) r (r + 1) O [y] rfl rfl (HOo.out.alloc _) HLo.out rfl (src_new wr hyb) (by omega) (by simp; omega) ?_; intro A2 c2 w2 HO2 HG2))
      have hb2 := below_app (hb.alloc hsz _) HG2 (HOo.out.alloc _) HLo.out (by simp; omega)
      have HOl2 := Lib.hid ((HOl.out.alloc (.cells #[.int .i64 y] 3)).grown_ HG2 (fun g hg => by injection hg with hg; injection hg with hg; subst hg; exact own_block_ne HOo.out HLo.out HAP2.out))
      have HO3 := Lib.hid HO2
      have hsz2 := hb2.size
      clear HG2 HO2 hb HOl HOo hcy hfy
      obtain ⟨wo, rfl⟩ : ∃ wo : World, wo = w2 := ⟨_, rfl⟩
      go_loopw [11, 52] (fun v u wr => ∃ (j s : Nat) (A3 : Option Addr) (c3 : Nat), v = .slice A3 s c3 ∧ u = .int .i64 j ∧ j ≤ m ∧ s ≤ j ∧ Hid ((skipTo Lf i j).length = s) ∧ Hid (OwnI wr wo.heap.size 3 A3 c3 (skipTo Lf i j)) ∧ Below wo.heap.size wo wr) (fun _ u _ => m - (intOf u).toNat)
      case atStart => exact ⟨0, 0, none, 0, rfl, rfl, Nat.zero_le _, Nat.le_refl _, by unfold Hid; simp [skipTo], by unfold Hid; simp only [skipTo, if_neg (Nat.not_lt_zero i), List.take_zero]; exact OwnI.nil_ _ _ _, Below.refl _ _⟩
      case round =>
        obtain ⟨j, s, A3, c3, rfl, rfl, hj, hs, HSL, HO4, hb3⟩ := hrel
        by_cases hjm : j < m
        · obtain ⟨b5, off5, x, hA5, _, HX, hcx, hx1, hx2⟩ := (HOl2.out.ints.below hb3).at_ (k := j) (by rw [HLl.out]; exact hjm)
          obtain ⟨rfl, rfl⟩ : gl = b5 ∧ 0 = off5 := by injection hA5 with hA5; injection hA5 with h1 h2; exact ⟨h1, h2⟩
          rw [Nat.zero_add] at hcx
          have hnx := skipTo_next (i := i) HX.out
          have hxb : -9223372036854775808 ≤ x ∧ x ≤ 9223372036854775807 := ⟨hx1, hx2⟩
          have hsz3 := hb3.size
          clear hA5
          by_cases hji : j = i
          · rw [if_pos hji] at hnx
            have e3 : ((j : Int) == (i : Int)) = true := by simp; omega
            have e4 : ((j : Int) != (i : Int)) = false := by simp; omega
            have HN := Lib.hid hnx
            clear hji hnx
            go_wp2
            go_roundw
            case rel => exact ⟨j + 1, s, A3, c3, rfl, by go_num, by omega, by omega, by unfold Hid; rw [HN.out]; exact HSL.out, by unfold Hid; rw [HN.out]; exact HO4.out, hb3⟩
            case measure => simp [intOf]; omega
          · rw [if_neg hji] at hnx
            have e3 : ((j : Int) == (i : Int)) = false := by simp; omega
            have e4 : ((j : Int) != (i : Int)) = true := by simp; omega
            have HN := Lib.hid hnx
            clear hji hnx
            go_wp2_with (at_builtin; refine wpList_appendInts _ rfl (.tmp 60) (.tmp 62) 22 rfl wo.heap.size 3 i0 Try.underlying22 hi0 hz0 hz1 hz2 A3 (some ⟨wr.heap.size, 0, none⟩) c3 1 1 (wr.heap.size + 1) s (s + 1) (skipTo Lf i j) [x] rfl rfl (HO4.out.alloc _) HSL.out rfl (src_new wr hxb) (by omega) (by simp; omega) ?_; intro A6 c6 w6 HO6 HG6; have hb6 := below_app (hb3.alloc hsz3 _) HG6 (HO4.out.alloc _) HSL.out (by simp; omega); have HO7 := Lib.hid HO6; clear HO6 HG6)
            go_roundw
            case rel => exact ⟨j + 1, s + 1, A6, c6, rfl, by go_num, by omega, by omega, by unfold Hid; rw [HN.out, List.length_append, HSL.out]; rfl, by unfold Hid; rw [HN.out]; exact HO7.out, hb6⟩
            case measure => simp [intOf]; omega
        · have hjm2 : j = m := by omega
          have hall : skipTo Lf i j = Lf.eraseIdx i := by rw [hjm2]; have := skipTo_all (L := Lf) (i := i) (by rw [HLl.out]; exact s1); rwa [HLl.out] at this
          have hsl := HSL.out
          have ho4 := HO4.out
          rw [hall] at hsl ho4
          have hsm : s = m - 1 := by rw [← hsl, List.length_eraseIdx, if_pos (by rw [HLl.out]; exact s1), HLl.out]
          subst hsm
          have HR2 : Hid (nthL n (plainL n) k = (O ++ [y]) ++ nthL (m - 1) (Lf.eraseIdx i) km) := HS4.out
          have HAP3 : Hid (∀ g, A3 = some ⟨g, 0, none⟩ → A2 ≠ some ⟨g, 0, none⟩) := by
            unfold Hid
            intro g hg hg2
            subst hg
            subst hg2
            have h1 := ho4.lt_.1
            have h2 := HO3.out.lt_.2
            omega
          have HO5 := Lib.hid (HO3.out.below hb3 (Nat.le_refl _))
          have HO8 := Lib.hid (ho4.mono hsz2)
          have HSL2 := Lib.hid hsl
          have hbb := hb2.trans (hb3.mono hsz2)
          clear hall hsl ho4 HO4 HSL hb3 hb2 HO3 HOl2
          go_wp2
          go_roundw
          case rel => exact ⟨m - 1, km, r + 1, Lf.eraseIdx i, O ++ [y], A3, A2, c3, c2, rfl, rfl, rfl, by omega, HSL2, by unfold Hid; rw [List.length_append, HLo.out]; rfl, HS2, HR2, HO8, HO5, HAP3, hbb⟩
          case measure => simp; omega
    · obtain rfl : m = 0 := by omega
      have HFF : Hid (nthL n (plainL n) k = O) := by unfold Hid; rw [HR.out]; simp [nthL]
      obtain rfl : r = n := by omega
      go_wp2
      go_ret2
      exact ⟨Ao, co, rfl, by rw [HFF.out]; exact HOo.out, hb⟩
theorem refNth_any (n k : Int) (w : World) :
    Calls Try.prog 27 #[.int .i64 n, .int .i64 k] w fun e w' => ∃ A' c', e = .returned (.tuple #[.slice A' (nthF n k).1.length c', .int .i64 (nthF n k).2]) ∧ OwnI w' w.heap.size 3 A' c' (nthF n k).1 ∧ Below w.heap.size w w' := by
  by_cases h : (nthF n k).2 = 0
  · by_cases h1 : n < 0 ∨ 12 < n
    · unfold nthF at h; rw [if_pos h1] at h; cases h
    · by_cases h2 : k < 0 ∨ (fact n.toNat : Int) ≤ k
      · unfold nthF at h; rw [if_neg h1, if_pos h2] at h; cases h
      · have e : nthF n k = (nthL n.toNat (plainL n.toNat) k.toNat, 0) := by unfold nthF; rw [if_neg h1, if_neg h2]
        rw [e]
        dsimp only
        rw [nthL_length]
        have := refNth_ok n.toNat k.toNat w (by omega) (by omega)
        rwa [Int.toNat_of_nonneg (by omega), Int.toNat_of_nonneg (by omega)] at this
  · have e : (nthF n k).1 = [] := by
      unfold nthF at h ⊢
      split
      · rfl
      · rename_i h1; rw [if_neg h1] at h; split
        · rfl
        · rename_i h2; rw [if_neg h2] at h; exact absurd rfl h
    refine (refNth_err n k w h).mono ?_
    rintro x w' ⟨rfl, hb⟩
    rw [e]
    exact ⟨none, 0, rfl, OwnI.nil_ _ _ _, hb⟩
theorem nth_any (n k : Int) (w : World) :
    Calls Try.prog 26 #[.int .i64 n, .int .i64 k] w fun e w' => ∃ A' c', e = .returned (.tuple #[.slice A' (nthF n k).1.length c', .int .i64 (nthF n k).2]) ∧ OwnI w' w.heap.size 3 A' c' (nthF n k).1 ∧ Below w.heap.size w w' := by
  by_cases h : (nthF n k).2 = 0
  · by_cases h1 : n < 0 ∨ 12 < n
    · unfold nthF at h; rw [if_pos h1] at h; cases h
    · by_cases h2 : k < 0 ∨ (fact n.toNat : Int) ≤ k
      · unfold nthF at h; rw [if_neg h1, if_pos h2] at h; cases h
      · have e : nthF n k = (nthL n.toNat (plainL n.toNat) k.toNat, 0) := by unfold nthF; rw [if_neg h1, if_neg h2]
        rw [e]
        dsimp only
        rw [nthL_length]
        have := nth_ok n.toNat k.toNat w (by omega) (by omega)
        rw [Int.toNat_of_nonneg (by omega), Int.toNat_of_nonneg (by omega)] at this
        refine this.mono ?_
        rintro x w' ⟨rfl, ho, hb⟩
        exact ⟨_, _, rfl, ho, hb⟩
  · have e : (nthF n k).1 = [] := by
      unfold nthF at h ⊢
      split
      · rfl
      · rename_i h1; rw [if_neg h1] at h; split
        · rfl
        · rename_i h2; rw [if_neg h2] at h; exact absurd rfl h
    refine (nth_err n k w h).mono ?_
    rintro x w' ⟨rfl, hb⟩
    rw [e]
    exact ⟨none, 0, rfl, OwnI.nil_ _ _ _, hb⟩

set_option maxRecDepth 100000 in
set_option maxHeartbeats 1000000 in
theorem refNext_any (A : Option Addr) (n c : Nat) (xs : List Int) (w : World) (h : Ints w w.heap.size A n xs) (hn : n ≤ 9223372036854775807) (hcap : n ≤ c) :
    Calls Try.prog 29 #[.slice A n c] w fun e w' => ∃ A' c', e = .returned (.tuple #[.slice A' (nextF xs).1.length c', .bool (nextF xs).2.1, .int .i64 (nextF xs).2.2]) ∧ OwnI w' w.heap.size 3 A' c' (nextF xs).1 ∧ Below w.heap.size w w' := by
  have hR := refRank_any A n c xs w h hn hcap
  rcases ordF_two xs with hz | hz
  · have hp := ordF_ok.1 hz
    have h12 : n ≤ 12 := by rw [← h.1]; exact hp.len
    have HL : Hid (xs.length = n) := h.1
    have hrl := rankL_lt xs
    have hfl := fact_le h12
    rw [HL.out] at hrl
    have e0 : rankF xs = ((rankL xs : Int), 0) := by unfold rankF; rw [if_pos hz]
    rw [e0] at hR
    dsimp only at hR
    have hM := fun W => many_ok (n : Int) W (by omega) (by omega)
    rw [Int.toNat_natCast] at hM
    obtain ⟨F, hF⟩ : ∃ F : Int, (fact n : Int) = F := ⟨_, rfl⟩
    rw [hF] at hM
    by_cases hl : rankL xs + 1 < fact n
    · have HF : Hid (nextF xs = (nthL n (plainL n) (rankL xs + 1), true, 0)) := by unfold Hid nextF; rw [if_pos hz, HL.out, if_pos hl]
      have hN := fun W => refNth_ok n (rankL xs + 1) W h12 hl
      obtain ⟨r, hr⟩ : ∃ r, rankL xs = r := ⟨_, rfl⟩
      rw [hr] at hR hN hrl
      rw [hr] at HF
      simp only [Int.natCast_add, Int.cast_ofNat_Int] at hN
      have HLL : Hid ((nthL n (plainL n) (r + 1)).length = n) := nthL_length _ _ _
      have hrb : r < 479001600 := by omega
      have hd : decide (F ≤ (r : Int) + 1) = false := by simp; omega
      have hd2 : (r : Int) + 1 < F := by omega
      clear hz hp e0 hr hl hrl hfl hF
      go_enter Try.func29, Try.ntmps29
      go_wp2_with (first | (go_at_call 25; refine hR.mono ?_; rintro e w1 ⟨rfl, hb1⟩) | (go_at_call 43; refine (hM _).mono ?_; rintro e w' ⟨rfl, rfl⟩) | (go_at_call 27; refine (hN _).mono ?_; rintro e w2 ⟨A', c', rfl, HO, hb2⟩))
      go_ret3
      exact ⟨_, _, by rw [HF.out]; dsimp only; rw [HLL.out]; rfl, by rw [HF.out]; exact HO.mono hb1.size, hb1.trans (hb2.mono hb1.size)⟩
    · have HF : Hid (nextF xs = (xs, false, 0)) := by unfold Hid nextF; rw [if_pos hz, HL.out, if_neg hl]
      obtain ⟨r, hr⟩ : ∃ r, rankL xs = r := ⟨_, rfl⟩
      rw [hr] at hR hrl
      have hrb : r < 479001600 := by omega
      have hd : decide (F ≤ (r : Int) + 1) = true := by simp; omega
      have hd2 : F ≤ (r : Int) + 1 := by omega
      obtain ⟨i0, hi0, hz0, hz1, hz2⟩ := info_parts infoInt
      have HH := Lib.hid h
      clear hz hp e0 hr hl hrl hfl hF h
      go_enter Try.func29, Try.ntmps29
      go_wp2_with (first | (go_at_call 25; refine hR.mono ?_; rintro e w1 ⟨rfl, hb1⟩) | (go_at_call 43; refine (hM _).mono ?_; rintro e w' ⟨rfl, rfl⟩) | (at_builtin; refine wpList_appendInts _ rfl (.const (.slice none 0 0)) (.tmp 22) 22 rfl _ 3 i0 Try.underlying22 hi0 hz0 hz1 hz2 none A 0 n c _ 0 n [] xs rfl rfl (OwnI.nil_ _ _ _) rfl (Nat.zero_add _) (HH.out.below hb1) (by omega) (Nat.le_refl _) ?_; intro A' c' w2 HO HG; have hb2 := below_of_none HG))
      go_ret3
      exact ⟨A', c', by rw [HF.out]; dsimp only; rw [HL.out]; rfl, by rw [HF.out]; exact HO.mono hb1.size, hb1.trans (hb2.mono hb1.size)⟩
  · have HF : Hid (nextF xs = ([], false, 1)) := by unfold Hid nextF; rw [if_neg (by omega)]
    have e0 : rankF xs = (0, 1) := by unfold rankF; rw [if_neg (by omega)]
    rw [e0] at hR
    clear hz e0
    go_enter Try.func29, Try.ntmps29
    go_wp2_with (first | (go_at_call 25; refine hR.mono ?_; rintro e w1 ⟨rfl, hb1⟩))
    go_ret3
    exact ⟨none, 0, by rw [HF.out]; rfl, by rw [HF.out]; exact OwnI.nil_ _ _ _, hb1⟩
end Go.Proofs.Ytnjjmeaggnlafaa
