/- purflelaw02.CooCounts returns true at every list and numbers. -/
import Derived.Test.YtpjelcghlnmoeaaCntM
import Derived.Test.YtpjelcghlnmoeaaCooFew
import Derived.Test.YtpjelcghlnmoeaaELive
import Derived.StillTailTactics
namespace Go.Proofs.Ytpjelcghlnmoeaa
open Go.RowKit

theorem small_mod2 (a : Int) (n : Nat) (hn : 0 < n) : ∃ (t : Int) (v : Nat), a.tmod (n : Int) = t ∧ -(n : Int) < t ∧ t < n ∧ (t + n) % (n : Int) = (v : Int) ∧ v < n := by
  have h1 := Int.lt_tmod_of_pos a (b := (n : Int)) (by omega)
  have h2 := Int.tmod_lt_of_pos a (b := (n : Int)) (by omega)
  have h3 := Int.emod_nonneg (a.tmod n + n) (b := (n : Int)) (by omega)
  have h4 := Int.emod_lt_of_pos (a.tmod n + n) (b := (n : Int)) (by omega)
  exact ⟨_, ((a.tmod n + n) % (n : Int)).toNat, rfl, h1, h2, by omega, by omega⟩
set_option maxRecDepth 100000 in
theorem run_takeE {w : World} (A : Option Addr) (n c k : Nat) (hk : k ≤ n) (hc : n ≤ c) : (Instr.slice 23 (.slice A n c) none (some (.int .i64 (k : Int))) none).run Try.prog w = .ok (.slice A k c) w := by
  obtain ⟨i0, hi0, hz0, hz1, hz2⟩ := info_parts infoEnt
  rw [run_slice_h w 23 A n c (by kernel_rfl) .i64 (k : Int) (by omega) (by omega)]
  have hs : (sizeOf (Try.prog.elem 23)).run Try.prog w = .ok 2 w := by
    have he : Try.prog.elem 23 = 37 := by kernel_rfl
    rw [he]; simp [sizeOf, typeInfo, hi0, hz1]
  rw [hs]
  simp only [Result.andThen, sliced, Int.toNat_natCast, Nat.zero_mul, Nat.sub_zero]
  have : (if c = 0 then A else A.map (·.add 0)) = A := by
    split
    · rfl
    · cases A <;> simp [Addr.add]
  rw [this]
set_option maxRecDepth 100000 in
theorem run_dropE {w : World} (A : Option Addr) (n c k : Nat) (hk : k ≤ n) : (Instr.slice 23 (.slice A n c) (some (.int .i64 (k : Int))) none none).run Try.prog w = .ok (.slice (if c = k then A else A.map (·.add (k * 2))) (n - k) (c - k)) w := by
  obtain ⟨i0, hi0, hz0, hz1, hz2⟩ := info_parts infoEnt
  rw [run_slice_l w 23 A n c (by kernel_rfl) .i64 (k : Int) (by omega) (by omega)]
  have hs : (sizeOf (Try.prog.elem 23)).run Try.prog w = .ok 2 w := by
    have he : Try.prog.elem 23 = 37 := by kernel_rfl
    rw [he]; simp [sizeOf, typeInfo, hi0, hz1]
  rw [hs]
  simp only [Result.andThen, sliced, Int.toNat_natCast]
theorem inside_at {xs cs : List Int} {md : Nat} {S : Int} (h : insideF xs cs = true) (hS : xs[md]? = some S) : (cs.getD md 0).toNat < S.toNat := by
  unfold insideF at h
  rw [Bool.and_eq_true] at h
  obtain ⟨h1, h2⟩ := h
  have h1 := of_decide_eq_true h1
  have hmd := (List.getElem?_eq_some_iff.1 hS).1
  have hc := List.getElem?_eq_getElem (l := cs) (i := md) (by omega)
  have hz : (cs.zip xs)[md]? = some (cs[md], S) := zip_at hc hS
  have hb : badAt (cs[md], S) = false := by
    cases hq : badAt (cs[md], S) with
    | false => rfl
    | true =>
      have : (cs.zip xs).any badAt = true := List.any_eq_true.2 ⟨_, List.mem_of_getElem? hz, hq⟩
      rw [this] at h2; simp at h2
  have hg : cs.getD md 0 = cs[md] := by simp [List.getD, hc]
  rw [hg]
  unfold badAt at hb
  simp only [Bool.or_eq_false_iff, decide_eq_false_iff_not] at hb
  omega

set_option maxRecDepth 100000 in
set_option maxHeartbeats 4000000 in
theorem cooCounts_exit (A B : Option Addr) (n c m e : Nat) (xs : List Int) (es : List Ent) (kk md : Int) (w : World) (h : Ints w w.heap.size A n xs) (hn : n ≤ 9223372036854775807) (hv : Ents w w.heap.size B m es) (hm : m ≤ 9223372036854775807) (hx : ¬ (fewC [((⟨A, n, c, B, m, e⟩ : Hdr), es)] = true ∧ cooF xs es = 0 ∧ 0 < n)) :
    Calls Try.prog 8 #[.agg #[.slice A n c, .slice B m e], .int .i64 kk, .int .i64 md] w fun x w' => x = .returned (.bool true) ∧ Below w.heap.size w w' := by
  have z0 := (Below.refl w.heap.size w).alloc (Nat.le_refl _) (.cells #[.slice A n c, .slice B m e] 25)
  have b0 := heap_alloc_new w (.cells #[.slice A n c, .slice B m e] 25)
  have HFW := fun W (hb : Below w.heap.size w W) => fewC_any W.heap.size 1 1 [(⟨A, n, c, B, m, e⟩, es)] (W.alloc (.cells #[.slice A n c, .slice B m e] 25)) rfl (by simp) (fun k d hd => by
      match k, hd with
      | 0, hd => simp at hd; subst hd; exact ⟨(pair_cells (heap_alloc_new W (.cells #[.slice A n c, .slice B m e] 25))).1, (pair_cells (heap_alloc_new W (.cells #[.slice A n c, .slice B m e] 25))).2.1⟩
      | k + 1, hd => simp at hd) (fun x hx => by rw [List.mem_singleton.1 hx]; exact (hv.below (hb.alloc hb.size _)).more (hb.alloc hb.size _).size) (by omega)
  have HCK := fun W (hb : Below w.heap.size w W) => cooCheck_any A B n c m e xs es W ((h.below hb).more hb.size) hn ((hv.below hb).more hb.size) hm
  obtain ⟨F, hF⟩ : ∃ F, fewC [((⟨A, n, c, B, m, e⟩ : Hdr), es)] = F := ⟨_, rfl⟩
  rw [hF] at HFW
  by_cases h1 : F = true
  · subst h1
    by_cases h2 : cooF xs es = 0
    · have h3 : n = 0 := by
        rcases Nat.eq_zero_or_pos n with q | q
        · exact q
        · exact absurd ⟨hF, h2, q⟩ hx
      rw [h2] at HCK
      have e3 : ((n : Int) == 0) = true := by simp; omega
      clear hx hF h2 h3
      go_enter Try.func8, Try.ntmps8
      go_wp2_with fail
      refine (cooLive_any _).mono ?_
      rintro x w1 ⟨rfl, hb1⟩
      have hb2 := z0.trans (hb1.mono z0.size)
      have q1 := (hb1.block w.heap.size (by simp)).trans b0
      have hbp := (Below.refl w1.heap.size w1).alloc (Nat.le_refl _) (.cells #[.slice A n c, .slice B m e] 25)
      have hq1l := lt_of_heap q1
      obtain ⟨k0, k1, _, _⟩ := pair_cells q1
      clear hb1 z0 b0
      go_wp2_with fail
      refine (HFW _ hb2).mono ?_
      rintro x w2 ⟨rfl, hb3⟩
      have hbq := hb2.trans (hbp.mono hb2.size); have hb4 := hbq.trans (hb3.mono hbq.size)
      have q2 := (hb3.block w.heap.size (by simp; omega)).trans ((hbp.block w.heap.size hq1l).trans q1)
      clear k0 k1 hb2 hbp hbq hb3 q1 hq1l
      obtain ⟨k0, k1, _, _⟩ := pair_cells q2
      go_wp2_with fail
      refine (HCK _ hb4).mono ?_
      rintro x w5 ⟨rfl, hb5⟩
      have q3 := (hb5.block w.heap.size (lt_of_heap q2)).trans q2
      clear k0 k1
      obtain ⟨k0, k1, _, _⟩ := pair_cells q3
      go_wp2_with fail
      go_ret
      exact ⟨rfl, hb4.trans (hb5.mono hb4.size)⟩
    · obtain ⟨E, hE⟩ : ∃ E, cooF xs es = E := ⟨_, rfl⟩
      rw [hE] at HCK h2
      have e1 : (E == 0) = false := by simpa using h2
      have e2 : (E != 0) = true := by simpa using h2
      clear hx hF h2 hE
      go_enter Try.func8, Try.ntmps8
      go_wp2_with fail
      refine (cooLive_any _).mono ?_
      rintro x w1 ⟨rfl, hb1⟩
      have hb2 := z0.trans (hb1.mono z0.size)
      have q1 := (hb1.block w.heap.size (by simp)).trans b0
      have hbp := (Below.refl w1.heap.size w1).alloc (Nat.le_refl _) (.cells #[.slice A n c, .slice B m e] 25)
      have hq1l := lt_of_heap q1
      obtain ⟨k0, k1, _, _⟩ := pair_cells q1
      clear hb1 z0 b0
      go_wp2_with fail
      refine (HFW _ hb2).mono ?_
      rintro x w2 ⟨rfl, hb3⟩
      have hbq := hb2.trans (hbp.mono hb2.size); have hb4 := hbq.trans (hb3.mono hbq.size)
      have q2 := (hb3.block w.heap.size (by simp; omega)).trans ((hbp.block w.heap.size hq1l).trans q1)
      clear k0 k1 hb2 hbp hbq hb3 q1 hq1l
      obtain ⟨k0, k1, _, _⟩ := pair_cells q2
      go_wp2_with fail
      refine (HCK _ hb4).mono ?_
      rintro x w5 ⟨rfl, hb5⟩
      go_wp2_with fail
      go_ret
      exact ⟨rfl, hb4.trans (hb5.mono hb4.size)⟩
  · obtain rfl : F = false := by simpa using h1
    clear hx hF h1
    go_enter Try.func8, Try.ntmps8
    go_wp2_with fail
    refine (cooLive_any _).mono ?_
    rintro x w1 ⟨rfl, hb1⟩
    have hb2 := z0.trans (hb1.mono z0.size)
    have q1 := (hb1.block w.heap.size (by simp)).trans b0
    have hbp := (Below.refl w1.heap.size w1).alloc (Nat.le_refl _) (.cells #[.slice A n c, .slice B m e] 25)
    have hq1l := lt_of_heap q1
    obtain ⟨k0, k1, _, _⟩ := pair_cells q1
    clear hb1 z0 b0
    go_wp2_with fail
    refine (HFW _ hb2).mono ?_
    rintro x w2 ⟨rfl, hb3⟩
    have hbq := hb2.trans (hbp.mono hb2.size); have hb4 := hbq.trans (hb3.mono hbq.size)
    have q2 := (hb3.block w.heap.size (by simp; omega)).trans ((hbp.block w.heap.size hq1l).trans q1)
    clear k0 k1 hb2 hbp hbq hb3 q1 hq1l
    obtain ⟨k0, k1, _, _⟩ := pair_cells q2
    go_wp2_with fail
    go_ret
    exact ⟨rfl, hb4⟩

set_option maxRecDepth 100000 in
set_option maxHeartbeats 8000000 in
theorem cooCounts_main (A B : Option Addr) (n c m e : Nat) (xs : List Int) (es : List Ent) (kk md : Int) (w : World) (h : Ints w w.heap.size A n xs) (hn : n ≤ 9223372036854775807) (hv : Ents w w.heap.size B m es) (hm : m ≤ 9223372036854775807) (hme : m ≤ e) (hfw : fewC [((⟨A, n, c, B, m, e⟩ : Hdr), es)] = true) (hck : cooF xs es = 0) (hn0 : 0 < n) :
    Calls Try.prog 8 #[.agg #[.slice A n c, .slice B m e], .int .i64 kk, .int .i64 md] w fun x w' => x = .returned (.bool true) ∧ Below w.heap.size w w' := by
  have z0 := (Below.refl w.heap.size w).alloc (Nat.le_refl _) (.cells #[.slice A n c, .slice B m e] 25)
  have b0 := heap_alloc_new w (.cells #[.slice A n c, .slice B m e] 25)
  have HFW := fun W (hb : Below w.heap.size w W) => fewC_any W.heap.size 1 1 [(⟨A, n, c, B, m, e⟩, es)] (W.alloc (.cells #[.slice A n c, .slice B m e] 25)) rfl (by simp) (fun k d hd => by
      match k, hd with
      | 0, hd => simp at hd; subst hd; exact ⟨(pair_cells (heap_alloc_new W (.cells #[.slice A n c, .slice B m e] 25))).1, (pair_cells (heap_alloc_new W (.cells #[.slice A n c, .slice B m e] 25))).2.1⟩
      | k + 1, hd => simp at hd) (fun x hx => by rw [List.mem_singleton.1 hx]; exact (hv.below (hb.alloc hb.size _)).more (hb.alloc hb.size _).size) (by omega)
  have HCK := fun W (hb : Below w.heap.size w W) => cooCheck_any A B n c m e xs es W ((h.below hb).more hb.size) hn ((hv.below hb).more hb.size) hm
  obtain ⟨F, hF⟩ : ∃ F, fewC [((⟨A, n, c, B, m, e⟩ : Hdr), es)] = F := ⟨_, rfl⟩
  rw [hF] at HFW
  rw [hfw] at hF
  subst hF
  rw [hck] at HCK
  have hn4 : n ≤ 4 := by rw [← h.1]; exact (cellsF_ok (cooF_parts hck).1).1
  have hm5 : m ≤ 65536 := by rw [← hv.1]; exact (cooF_parts hck).2.1
  obtain ⟨t, v, ht, ht1, ht2, hv1, hvn⟩ := small_mod2 md n hn0
  obtain ⟨t', k, ht', ht1', ht2', hv1', hkm⟩ := small_mod2 kk (m + 1) (by omega)
  obtain ⟨M1, hM1⟩ : ∃ M1 : Nat, m + 1 = M1 := ⟨_, rfl⟩
  rw [hM1] at ht' ht1' ht2' hv1' hkm
  have eM1 : (m : Int) + 1 = (M1 : Int) := by omega
  have hM1b : M1 ≤ 65537 := by omega
  have hM10 : ¬ (M1 : Int) = 0 := by omega
  have hn00 : ¬ (n : Int) = 0 := by omega
  have hkm2 : k ≤ m := by omega
  have hv2' : (t' + (m : Int) + 1) % (M1 : Int) = (k : Int) := by rw [← hv1']; congr 1; omega
  obtain ⟨S, hS⟩ : ∃ S, xs[v]? = some S := ⟨_, List.getElem?_eq_getElem (by rw [h.1]; exact hvn)⟩
  have hS0 : 0 ≤ S := (cellsF_ok (cooF_parts hck).1).2 S (List.mem_of_getElem? hS)
  have hgd : xs.getD v 0 = S := by simp [List.getD, hS]
  have e3 : ((n : Int) == 0) = false := by simp; omega
  have HVT := Lib.hid hv
  clear hv1'
  by_cases hbig : 65536 < S
  · have HCL := fun W (hb : Below w.heap.size w W) => cooCount_large A B n c m e v xs es W ((h.below hb).more hb.size) hn ((hv.below hb).more hb.size) hm hck hvn (by rw [hgd]; exact hbig)
    clear hck h hv hS hgd hS0 hfw
    go_enter Try.func8, Try.ntmps8
    go_wp2_with fail
    refine (cooLive_any _).mono ?_
    rintro x w1 ⟨rfl, hb1⟩
    have hb2 := z0.trans (hb1.mono z0.size)
    have q1 := (hb1.block w.heap.size (by simp)).trans b0
    have hbp := (Below.refl w1.heap.size w1).alloc (Nat.le_refl _) (.cells #[.slice A n c, .slice B m e] 25)
    have hq1l := lt_of_heap q1
    obtain ⟨k0, k1, _, _⟩ := pair_cells q1
    clear hb1 z0 b0
    go_wp2_with fail
    refine (HFW _ hb2).mono ?_
    rintro x w2 ⟨rfl, hb3⟩
    have hbq := hb2.trans (hbp.mono hb2.size); have hb4 := hbq.trans (hb3.mono hbq.size)
    have q2 := (hb3.block w.heap.size (by simp; omega)).trans ((hbp.block w.heap.size hq1l).trans q1)
    clear k0 k1 hb2 hbp hbq hb3 q1 hq1l
    obtain ⟨k0, k1, _, _⟩ := pair_cells q2
    go_wp2_with fail
    refine (HCK _ hb4).mono ?_
    rintro x w5 ⟨rfl, hb5⟩
    have hb6 := hb4.trans (hb5.mono hb4.size)
    have q3 := (hb5.block w.heap.size (lt_of_heap q2)).trans q2
    clear k0 k1 q2 hb5 hb4 HFW HCK
    obtain ⟨k0, k1, _, _⟩ := pair_cells q3
    go_wp2_with fail
    go_quiet (fail)
    go_wp2_with fail
    go_quiet (fail)
    go_wp2_with fail
    refine (HCL _ (below_drewN hb6 _)).mono ?_
    rintro x w7 ⟨rfl, hb7⟩
    have hb8 := (below_drewN hb6 _).trans (hb7.mono (below_drewN hb6 _).size)
    go_wp2_with fail
    go_ret
    exact ⟨rfl, hb8⟩
  · obtain ⟨M, rfl⟩ : ∃ M : Nat, S = (M : Int) := ⟨S.toNat, by omega⟩
    have hM : M ≤ 65536 := by omega
    have HC1 := fun W (hb : Below w.heap.size w W) => cooCount_ok A B n c m e v xs es W ((h.below hb).more hb.size) hn ((hv.below hb).more hb.size) hm hck hvn (by rw [hgd]; omega)
    have HC2 := fun W (hb : Below w.heap.size w W) => cooCount_ok A B n c k e v xs (es.take k) W ((h.below hb).more hb.size) hn (((hv.below hb).more hb.size).take_ hkm2) (by omega) (cooF_take hck k) hvn (by rw [hgd]; omega)
    have HC3 := fun W (hb : Below w.heap.size w W) => cooCount_ok A (if e = k then B else B.map (·.add (k * 2))) n c (m - k) (e - k) v xs (es.drop k) W ((h.below hb).more hb.size) hn (((hv.below hb).more hb.size).drop_ hkm2 hme) (by omega) (cooF_drop hck k) hvn (by rw [hgd]; omega)
    have hlM : ∀ L : List Ent, (countV xs v L).length = M := fun L => by rw [countV_length, hgd]; rfl
    rw [hlM] at HC1 HC2 HC3
    have HAT : Hid (∀ (L : List Ent) (j : Nat), L.length ≤ 65536 → j < M → (countV xs v L)[j]? = some (cntE v j L : Int)) := fun L j h1 h2 => countV_at h1 (by rw [hgd]; exact h2)
    have HPL : Hid (∀ x ∈ es, plE v x < M) := fun x hx => by have := inside_at ((cooF_parts hck).2.2 x hx) hS; exact this
    have htk := fun W => run_takeE (w := W) B m e k hkm2 hme
    have hdp := fun W => run_dropE (w := W) B m e k hkm2
    obtain ⟨B3, hB3⟩ : ∃ B3, (if e = k then B else B.map (·.add (k * 2))) = B3 := ⟨_, rfl⟩
    rw [hB3] at HC3 hdp
    obtain ⟨V1, hV1⟩ : ∃ V1, countV xs v es = V1 := ⟨_, rfl⟩
    obtain ⟨V2, hV2⟩ : ∃ V2, countV xs v (es.take k) = V2 := ⟨_, rfl⟩
    obtain ⟨V3, hV3⟩ : ∃ V3, countV xs v (es.drop k) = V3 := ⟨_, rfl⟩
    rw [hV1] at HC1
    rw [hV2] at HC2
    rw [hV3] at HC3
    have hel : es.length = m := hv.1
    have HV1 : Hid (∀ j, j < M → V1[j]? = some (cntE v j es : Int)) := fun j hj => by rw [← hV1]; exact HAT.out es j (by omega) hj
    have HV2 : Hid (∀ j, j < M → V2[j]? = some (cntE v j (es.take k) : Int)) := fun j hj => by rw [← hV2]; exact HAT.out _ j (by rw [List.length_take]; omega) hj
    have HV3 : Hid (∀ j, j < M → V3[j]? = some (cntE v j (es.drop k) : Int)) := fun j hj => by rw [← hV3]; exact HAT.out _ j (by rw [List.length_drop]; omega) hj
    have HVL : Hid (V1.length = M ∧ V2.length = M ∧ V3.length = M) := ⟨by rw [← hV1]; exact hlM _, by rw [← hV2]; exact hlM _, by rw [← hV3]; exact hlM _⟩
    have HEL := Lib.hid hel
    obtain ⟨bs, offs, x', rfl, hbs, HXS, hcs, _, _⟩ := h.at_ hvn
    obtain rfl : x' = (M : Int) := by have := HXS.out; rw [hS] at this; injection this with this; exact this.symm
    have e5 : ((M : Int) != (M : Int)) = false := by simp
    clear hck h hv hS hgd hS0 hfw hlM hB3 hV1 hV2 hV3 hbig HXS hel HAT
    go_enter Try.func8, Try.ntmps8
    go_wp2_with fail
    refine (cooLive_any _).mono ?_
    rintro x w1 ⟨rfl, hb1⟩
    have hb2 := z0.trans (hb1.mono z0.size)
    have q1 := (hb1.block w.heap.size (by simp)).trans b0
    have hbp := (Below.refl w1.heap.size w1).alloc (Nat.le_refl _) (.cells #[.slice (some ⟨bs, offs, none⟩) n c, .slice B m e] 25)
    have hq1l := lt_of_heap q1
    obtain ⟨k0, k1, _, _⟩ := pair_cells q1
    clear hb1 z0 b0
    go_wp2_with fail
    refine (HFW _ hb2).mono ?_
    rintro x w2 ⟨rfl, hb3⟩
    have hbq := hb2.trans (hbp.mono hb2.size); have hb4 := hbq.trans (hb3.mono hbq.size)
    have q2 := (hb3.block w.heap.size (by simp; omega)).trans ((hbp.block w.heap.size hq1l).trans q1)
    clear k0 k1 hb2 hbp hbq hb3 q1 hq1l
    obtain ⟨k0, k1, _, _⟩ := pair_cells q2
    go_wp2_with fail
    refine (HCK _ hb4).mono ?_
    rintro x w5 ⟨rfl, hb5⟩
    have hb6 := hb4.trans (hb5.mono hb4.size)
    have q3 := (hb5.block w.heap.size (lt_of_heap q2)).trans q2
    clear k0 k1 q2 hb5 hb4 HFW HCK
    obtain ⟨k0, k1, _, _⟩ := pair_cells q3
    go_wp2_with fail
    go_quiet (fail)
    go_wp2_with fail
    go_quiet (fail)
    go_wp2_with fail
    refine (HC1 _ (below_drewN hb6 _)).mono ?_
    rintro x w7 ⟨A1, c1, rfl, HO1, hb7⟩
    have hb8 := (below_drewN hb6 _).trans (hb7.mono (below_drewN hb6 _).size)
    have q4 := (hb7.block w.heap.size (lt_of_heap q3)).trans q3
    have hi1 := HO1.ints
    rw [HVL.out.1] at hi1
    have HI1 := Lib.hid hi1
    clear k0 k1 q3 hb6 hb7 HO1 HC1 hi1
    obtain ⟨k0, k1, _, _⟩ := pair_cells q4
    go_upto_region 9 with fail
    go_cut [10, 11] (fun a b wx => ∃ A2 c2, a = .slice A2 M c2 ∧ b = .int .i64 0 ∧ Ints wx wx.heap.size A2 M V2 ∧ Below w7.heap.size w7 wx)
    case first =>
      go_region_law (go_simp; go_at_call 33; refine (HC2 _ ?b0).mono ?_; (case b0 => first | exact hb8 | exact hb8.drew); rintro x w8 ⟨A2, c2, rfl, HO2, hb9⟩; have HI2 := HO2.ints; have hb9' : Below w7.heap.size w7 w8 := by first | exact hb9 | exact ((Below.refl w7.heap.size w7).drew).trans hb9)
      all_goals go_wp2_with fail
      all_goals go_meet
      all_goals exact ⟨A2, c2, rfl, rfl, by have q := HI2; rw [HVL.out.2.1] at q; exact q, hb9'⟩
    case rest =>
      obtain ⟨A2, c2, rfl, rfl, hi2, hb9⟩ := hcut
      have HI2 := Lib.hid hi2
      have hb10 := hb8.trans (hb9.mono hb8.size)
      have q5 := (hb9.block w.heap.size (lt_of_heap q4)).trans q4
      have HI1b := Lib.hid ((HI1.out.below hb9).more hb9.size)
      obtain ⟨w8, hw8⟩ : ∃ w8 : World, w8 = wc := ⟨wc, rfl⟩
      subst hw8
      clear k0 k1 q4 hb8 hb9 HC2 HI1 hi2
      obtain ⟨k0, k1, _, _⟩ := pair_cells q5
      go_upto_region 10 with fail
      go_cut [12, 13] (fun a b wx => ∃ A3 c3, a = .slice A3 M c3 ∧ b = .int .i64 0 ∧ Ints wx wx.heap.size A3 M V3 ∧ Below w8.heap.size w8 wx)
      case first =>
        go_region_law (go_simp; go_at_call 33; refine (HC3 _ ?b0).mono ?_; (case b0 => first | exact hb10 | exact hb10.drew); rintro x w9 ⟨A3, c3, rfl, HO3, hb11⟩; have HI3 := HO3.ints; have hb11' : Below w8.heap.size w8 w9 := by first | exact hb11 | exact ((Below.refl w8.heap.size w8).drew).trans hb11)
        all_goals go_wp2_with fail
        all_goals go_meet
        all_goals exact ⟨A3, c3, rfl, rfl, by have q := HI3; rw [HVL.out.2.2] at q; exact q, hb11'⟩
      case rest =>
        obtain ⟨A3, c3, rfl, rfl, hi3, hb11⟩ := hcut
        have HI3 := Lib.hid hi3
        have hb12 := hb10.trans (hb11.mono hb10.size)
        have q6 := (hb11.block w.heap.size (lt_of_heap q5)).trans q5
        have HI1c := Lib.hid ((HI1b.out.below hb11).more hb11.size)
        have HI2c := Lib.hid ((HI2.out.below hb11).more hb11.size)
        obtain ⟨w9, hw9⟩ : ∃ w9 : World, w9 = wc := ⟨wc, rfl⟩
        subst hw9
        have hcs2 := (hb12.cell (p := ⟨bs, offs + v, none⟩) hbs).trans hcs
        clear k0 k1 q5 hb10 hb11 HC3 HI1b HI2 hi3
        obtain ⟨k0, k1, _, _⟩ := pair_cells q6
        go_wp2_with fail
        have hbF := Lib.hid hb12
        clear hcs2 hb12
        go_loopw [14, 132] (fun a b wr => ∃ (i s q : Nat), a = .int .i64 (s : Int) ∧ b = .int .i64 (i : Int) ∧ i ≤ M ∧ s ≤ 65536 ∧ Hid (s = sumTo v es i) ∧ wr = w9.drewN q) (fun _ b _ => M - (intOf b).toNat)
        case atStart => exact ⟨0, 0, 0, rfl, rfl, Nat.zero_le _, Nat.zero_le _, rfl, rfl⟩
        case round =>
          obtain ⟨i, s, q, rfl, rfl, hi, hs, HSU, rfl⟩ := hrel
          by_cases hlt : i < M
          · obtain ⟨b1, o1, x1, rfl, _, HX1, d1, _, _⟩ := HI1c.out.at_ hlt
            obtain ⟨b2, o2, x2, rfl, _, HX2, d2, _, _⟩ := HI2c.out.at_ hlt
            obtain ⟨b3, o3, x3, rfl, _, HX3, d3, _, _⟩ := HI3.out.at_ hlt
            obtain rfl : x1 = (cntE v i es : Int) := by have := HX1.out; rw [HV1.out i hlt] at this; injection this with this; exact this.symm
            obtain rfl : x2 = (cntE v i (es.take k) : Int) := by have := HX2.out; rw [HV2.out i hlt] at this; injection this with this; exact this.symm
            obtain rfl : x3 = (cntE v i (es.drop k) : Int) := by have := HX3.out; rw [HV3.out i hlt] at this; injection this with this; exact this.symm
            have hap := cntE_append v i (es.take k) (es.drop k)
            rw [List.take_append_drop] at hap
            have hle := cntE_le v i es
            rw [HEL.out] at hle
            have hst := sumTo_le v es (i + 1)
            rw [HEL.out] at hst
            have HSN : Hid (s + cntE v i es = sumTo v es (i + 1)) := by unfold Hid; rw [HSU.out]; rfl
            obtain ⟨ca, hca⟩ : ∃ ca, cntE v i es = ca := ⟨_, rfl⟩
            obtain ⟨cb, hcb⟩ : ∃ cb, cntE v i (es.take k) = cb := ⟨_, rfl⟩
            obtain ⟨cc, hcc⟩ : ∃ cc, cntE v i (es.drop k) = cc := ⟨_, rfl⟩
            rw [hca] at d1 hap hle HSN
            rw [hcb] at d2 hap
            rw [hcc] at d3 hap
            have e7 : (cb : Int) + (cc : Int) = (ca : Int) := by omega
            have e8 : ((ca : Int) != (ca : Int)) = false := by simp
            have hiM : (i : Int) < (M : Int) := by omega
            have hi0 : (0 : Int) ≤ (i : Int) := by omega
            have hsn : s + ca ≤ 65536 := by have := HSN.out; omega
            clear hca hcb hcc HX1 HX2 HX3 hap hst
            go_wp2
            go_quiet (fail)
            go_wp2
            go_roundw
            case rel => exact ⟨i + 1, s + ca, _, by go_num, by go_num, by omega, hsn, HSN, rfl⟩
            case measure => simp [intOf]; omega
          · obtain rfl : i = M := by omega
            have hsm : s = m := by rw [HSU.out, sumTo_all v i es HPL.out, HEL.out]
            have e6 : ((s : Int) == (m : Int)) = true := by simp; omega
            clear hsm
            go_wp2
            go_ret
            exact ⟨rfl, below_drewN hbF.out _⟩

theorem cooCounts_any (w : World) (A : Option Addr) (n c : Nat) (B : Option Addr) (m e : Nat) (xs : List Int) (es : List Ent) (h1 : Ints w w.heap.size A n xs) (h2 : n ≤ 9223372036854775807) (h3 : Ents w w.heap.size B m es) (h4 : m ≤ 9223372036854775807) (_h5 : n ≤ c) (h6 : m ≤ e) (kk : Int) (_ : -9223372036854775808 ≤ kk) (_ : kk ≤ 9223372036854775807) (md : Int) (_ : -9223372036854775808 ≤ md) (_ : md ≤ 9223372036854775807) :
    Calls Try.prog 8 #[.agg #[.slice A n c, .slice B m e], .int .i64 kk, .int .i64 md] w fun x w' => x = .returned (.bool true) ∧ Below w.heap.size w w' := by
  by_cases hx : fewC [((⟨A, n, c, B, m, e⟩ : Hdr), es)] = true ∧ cooF xs es = 0 ∧ 0 < n
  · exact cooCounts_main A B n c m e xs es kk md w h1 h2 h3 h4 h6 hx.1 hx.2.1 hx.2.2
  · exact cooCounts_exit A B n c m e xs es kk md w h1 h2 h3 h4 hx
end Go.Proofs.Ytpjelcghlnmoeaa
