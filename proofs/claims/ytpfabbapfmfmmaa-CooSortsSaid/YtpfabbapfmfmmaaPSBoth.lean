/- Sort, Join, Trim and Plain: there is one answer, and the program and the document both end in it; what the program lays is its own. -/
import Derived.Test.YtpfabbapfmfmmaaPRPlain
import Derived.Test.YtpfabbapfmfmmaaPRSFail
import Derived.Test.YtpfabbapfmfmmaaPRBoth
namespace Go.Proofs.Ytpfabbapfmfmmaa
open Go.RowKit

theorem FarC.mono {w : World} {base base' : Nat} {A B : Option Addr} {es : List Ent} (h : FarC w base A B es) (hb : base' ≤ base) : FarC w base' A B es :=
  ⟨fun b off e => Nat.le_trans hb (h.1 b off e), fun h0 b off e => ⟨Nat.le_trans hb (h.2.1 h0 b off e).1, (h.2.1 h0 b off e).2⟩, fun x hx b off e => ⟨Nat.le_trans hb (h.2.2 x hx b off e).1, (h.2.2 x hx b off e).2⟩⟩
theorem FarC.none_ {w : World} {base : Nat} : FarC w base none none [] := ⟨fun b off e => (by cases e), fun h0 => absurd rfl h0, fun x hx => (by cases hx)⟩
/-- what lies in blocks keeps them where another block alone is written -/
theorem FarC.keep {w w' : World} {base : Nat} {A B : Option Addr} {es : List Ent} (h : FarC w base A B es) (hk : ∀ (b : Nat) (cs : Array Value) (t : TypeId), w.heap[b]? = some (Obj.cells cs t (0, 0)) → ∃ (cs' : Array Value) (t' : TypeId), w'.heap[b]? = some (Obj.cells cs' t' (0, 0))) : FarC w' base A B es :=
  ⟨h.1, fun h0 b off e => ⟨(h.2.1 h0 b off e).1, by obtain ⟨cs, t, hc⟩ := (h.2.1 h0 b off e).2; exact hk b cs t hc⟩, fun x hx b off e => ⟨(h.2.2 x hx b off e).1, by obtain ⟨cs, t, hc⟩ := (h.2.2 x hx b off e).2; exact hk b cs t hc⟩⟩
theorem FarC.below {w w' : World} {base : Nat} {A B : Option Addr} {es : List Ent} (h : FarC w base A B es) (hb : Below w.heap.size w w') : FarC w' base A B es :=
  h.keep fun _ cs t hc => ⟨cs, t, heapAt hb hc⟩
theorem FarC.kept {w w' : World} {base q n m : Nat} {A B a0 a1 : Option Addr} {n0 n1 c0 c1 : Nat} {t : TypeId} {xs : List Int} {es : List Ent} (h : FarC w base A B es) (hg : w.grownBy w' (some q)) (hq : w.heap[q]? = some (.cells #[.slice a0 n0 c0, .slice a1 n1 c1] t (0, 0))) (_ : CooV w A n B m xs es)
    (hq2 : ∃ (cs' : Array Value) (t' : TypeId), w'.heap[q]? = some (Obj.cells cs' t' (0, 0))) : FarC w' base A B es :=
  h.keep fun b cs u hc => by
    by_cases e : b = q
    · subst e; exact hq2
    · exact ⟨cs, u, (hg.block b (lt_of_heap hc) (by intro e2; injection e2 with e2; exact e e2)).trans hc⟩

set_option maxRecDepth 100000 in
set_option maxHeartbeats 4000000 in
theorem plainF_ok (A B : Option Addr) (n c m e : Nat) (xs : List Int) (es : List Ent) (w : World) (h : CooV w A n B m xs es) (hE : cooF xs es = 0) :
    Calls Try.prog 20 #[.agg #[.slice A n c, .slice B m e]] w fun x w' => ∃ A1 c1 A2 m2 c2 Ts, x = .returned (.tuple #[.agg #[.slice A1 n c1, .slice A2 m2 c2], .int .i64 0]) ∧ CooV w' A1 n A2 m2 xs Ts ∧ Hid (Ts.map keyE = (joinK (sortK (iotaL n) (es.map keyE))).filter nzK) ∧ Hid (cooF xs Ts = 0) ∧ m2 ≤ 65536 ∧ FarC w' w.heap.size A1 A2 Ts ∧ Below w.heap.size w w' := by
  have z0 := (Below.refl w.heap.size w).alloc (Nat.le_refl _) (.cells #[.slice A n c, .slice B m e] 25)
  have z1 := z0.alloc z0.size (.cells #[.slice none 0 0, .slice none 0 0] 25)
  have b2 := zf_snd w (.cells #[.slice none 0 0, .slice none 0 0] 25) (.cells #[.slice A n c, .slice B m e] 25)
  have HJ := fun W (hb : Below w.heap.size w W) => joinV_ok A B none n c m e 0 0 xs [] es W (h.below hb) (by rw [sortE'_nil]; exact hE) Ints.nil_ (by omega)
  rw [ordL_nil] at HJ
  clear h hE z0
  go_enter Try.func20, Try.ntmps20
  go_wp2_with fail
  refine (HJ _ z1).mono ?_
  rintro x w1 ⟨A1, c1, A2, m2, c2, Js, rfl, VJ, HK, HC, hm2, hb1⟩
  have hsz0 : w.heap.size + 2 ≤ w1.heap.size := by have := hb1.size; simp at this; omega
  have hb := z1.trans (hb1.mono z1.size)
  have q2 := (hb1.block (w.heap.size + 1) (by simp)).trans b2
  have hal := (Below.refl w1.heap.size w1).alloc (Nat.le_refl _) (.cells #[.slice A1 n c1, .slice A2 m2 c2] 25)
  have y0 := heap_alloc_new w1 (.cells #[.slice A1 n c1, .slice A2 m2 c2] 25)
  have VJ2 := VJ.below hal
  have hb2 := hb.trans (hal.mono hb.size)
  replace q2 := (hal.block (w.heap.size + 1) (by omega)).trans q2
  obtain ⟨w2, hw2⟩ : ∃ w2, w1.alloc (.cells #[.slice A1 n c1, .slice A2 m2 c2] 25) = w2 := ⟨_, rfl⟩
  rw [hw2] at y0 VJ2 hb2 q2
  have hs12 : w1.heap.size ≤ w2.heap.size := by rw [← hw2]; simp
  have HW := Lib.hid hw2
  have HT := trimV_ok A1 A2 n c1 m2 c2 xs Js w2 VJ2 HC.out
  obtain ⟨k0, k1, _, _⟩ := pair_cells y0
  clear b2 z1 hb1 hb hal hw2 HJ VJ
  go_upto_region 2 with fail
  rw [HW.out]
  go_wp2_with fail
  refine HT.mono ?_
  rintro x w3 ⟨A3, c3, A4, m4, c4, Ts, rfl, VT, HK2, HC2, hm4, hfar, hb3⟩
  have hb4 := hb2.trans (hb3.mono hb2.size)
  have hsz2 := hb2.size
  have hle24 := hb2.size
  have r3 := (hb3.block (w.heap.size + 1) (lt_of_heap q2)).trans q2
  obtain ⟨v0, v1, vf0, vf1⟩ := pair_cells r3
  have HR3 := Lib.hid r3
  clear k0 k1 hb3 hb2 q2 y0 VJ2 HT r3
  go_wp2_with fail
  have hres := set_two w3 (w.heap.size + 1) _ _ (.slice A3 n c3) (.slice A4 m4 c4) _ HR3.out
  obtain ⟨s0, s1, _, _⟩ := pair_cells hres.1
  obtain ⟨wz, hwz⟩ : ∃ wz, (w3.setCell ⟨w.heap.size + 1, 0, none⟩ (.slice A3 n c3)).setCell ⟨w.heap.size + 1, 1, none⟩ (.slice A4 m4 c4) = wz := ⟨_, rfl⟩
  rw [hwz] at hres s0 s1 ⊢
  refine bodyPost_ret (v := .tuple #[.agg #[.slice A3 n c3, .slice A4 m4 c4], .int .i64 0]) (by simp [results, Try.results20, go_sem, s0, s1]) rfl ⟨A3, c3, A4, m4, c4, Ts, rfl, ?_, by unfold Hid; rw [HK2.out, HK.out], HC2, hm4, (hfar.mono hle24).kept hres.2 HR3.out VT ⟨_, _, hres.1⟩, hb4.grown hres.2 hb4.size (fun k hk => by injection hk with hk; omega)⟩
  exact VT.far hfar hres.2 (by omega)

/-- a list of the call's own and an error are the answer -/
def CooPF (w : World) (S : List Int) (K : List KeyT) (E : Int) (x : Ending) (w' : World) : Prop :=
  ∃ A1 n c1 A2 m c2 Ts, x = .returned (.tuple #[.agg #[.slice A1 n c1, .slice A2 m c2], .int .i64 E]) ∧ CooV w' A1 n A2 m S Ts ∧ Hid (Ts.map keyE = K) ∧ n ≤ 100000 ∧ m ≤ 100000 ∧ (∀ x ∈ Ts, x.n ≤ 100000) ∧ FarC w' w.heap.size A1 A2 Ts ∧ Below w.heap.size w w'
theorem CooPF.none_ {w w' : World} {x : Ending} {E : Int} (h : x = .returned (.tuple #[.agg #[.slice none 0 0, .slice none 0 0], .int .i64 E]) ∧ Below w.heap.size w w') : CooPF w [] [] E x w' :=
  ⟨none, 0, 0, none, 0, 0, [], h.1, ⟨Ints.nil_, Ents.nil_⟩, rfl, by omega, by omega, (fun x hx => by cases hx), FarC.none_, h.2⟩
theorem keyOk_n {N : Nat} {K : List KeyT} (h : KeyOk N K) (hN : N ≤ 100000) : ∀ t ∈ K, t.2.2 ≤ 100000 := fun t ht => by have := (h t ht).2.1; omega
theorem KeyOk.filter {N : Nat} {K : List KeyT} (h : KeyOk N K) (p : KeyT → Bool) : KeyOk N (K.filter p) := fun t ht => h t (List.mem_filter.1 ht).1

theorem sort_both (A B Ao : Option Addr) (n c m e ro co : Nat) (xs os : List Int) (es : List Ent) (w : World) (h : CooV w A n B m xs es) (hn : n ≤ 100000) (hm : m ≤ 9223372036854775807) (ho : Ints w w.heap.size Ao ro os) (hro : ro ≤ 100000) :
    ∃ (S : List Int) (K : List KeyT) (E : Int), (∀ W, Below w.heap.size w W → Calls Try.prog 14 #[.agg #[.slice A n c, .slice B m e], .slice Ao ro co] W (CooPF W S K E)) ∧
      ∀ W, Below w.heap.size w W → Calls Try.prog 15 #[.agg #[.slice A n c, .slice B m e], .slice Ao ro co] W (CooP W S K E) := by
  by_cases hE : cooF xs es = 0
  · by_cases hok : OrdOk n os
    · have hm5 : m ≤ 65536 := by rw [← h.2.1]; exact (cooF_parts hE).2.1
      have hKO := (keyOk_of h hE).perm (sortK_perm (ordL n os) _)
      have hK := keyOk_n hKO hn
      refine ⟨xs, sortK (ordL n os) (es.map keyE), 0, fun W hb => ?_, fun W hb => ?_⟩
      · refine (cooSort_ok A B Ao n c m e ro co xs os es W (h.below hb).1 (h.below hb).2 hE ((ho.below hb).more hb.size) hro hok).mono ?_
        rintro x w' ⟨A1, c1, A2, c2, Ss, rfl, hO, hN, hkey, hb2⟩
        have hi := hO.ints
        rw [h.1.1] at hi
        have hns := ns_of hkey hK
        have hlen : Ss.length = m := by
          have := congrArg List.length hkey
          rw [List.length_map, (sortK_perm _ _).length_eq, List.length_map, h.2.1] at this
          exact this
        have hen := hN.ents (fun x hx => by have := hns x hx; omega)
        rw [hlen] at hen
        exact ⟨A1, n, c1, A2, m, c2, Ss, rfl, ⟨hi, hen⟩, hkey, hn, by omega, hns, ⟨hO.farA, hN.farB⟩, hb2⟩
      · refine (refSortV_ok A B Ao n c m e ro co xs os es W (h.below hb) hE hok ((ho.below hb).more hb.size)).mono ?_
        rintro x w' ⟨A1, c1, A2, c2, Ts, rfl, hv, hk, hb2⟩
        exact ⟨A1, n, c1, A2, m, c2, Ts, rfl, hv, hk, hn, by omega, ns_of hk.out hK, hb2⟩
    · have hs : Hid (sortE' xs os n es = 1) := by unfold Hid sortE'; rw [if_pos hE, if_neg hok]
      refine ⟨[], [], 1, fun W hb => ?_, fun W hb => ?_⟩
      · exact (sortV_bad A B Ao n c m e ro co xs os es W (h.below hb) hn hm 1 hs (by decide) ((ho.below hb).more hb.size) hro).mono fun _ _ => CooPF.none_
      · exact (refSort_bad2 A B Ao n c m e ro co xs os es W (h.below hb) hm hE ((ho.below hb).more hb.size) (by omega) hok 1 rfl).mono fun _ _ => CooP.none_
  · obtain ⟨E, hEE⟩ : ∃ E, cooF xs es = E := ⟨_, rfl⟩
    have hs : Hid (sortE' xs os n es = E) := by unfold Hid sortE'; rw [if_neg hE, hEE]
    have hE0 : E ≠ 0 := by rw [← hEE]; exact hE
    refine ⟨[], [], E, fun W hb => ?_, fun W hb => ?_⟩
    · exact (sortV_bad A B Ao n c m e ro co xs os es W (h.below hb) hn hm E hs hE0 ((ho.below hb).more hb.size) hro).mono fun _ _ => CooPF.none_
    · exact (refSort_bad1 A B Ao n c m e ro co xs es W (h.below hb) (by omega) hm E hEE hE0).mono fun _ _ => CooP.none_

theorem join_both (A B Ao : Option Addr) (n c m e ro co : Nat) (xs os : List Int) (es : List Ent) (w : World) (h : CooV w A n B m xs es) (hn : n ≤ 100000) (hm : m ≤ 9223372036854775807) (ho : Ints w w.heap.size Ao ro os) (hro : ro ≤ 100000) :
    ∃ (S : List Int) (K : List KeyT) (E : Int), (∀ W, Below w.heap.size w W → Calls Try.prog 16 #[.agg #[.slice A n c, .slice B m e], .slice Ao ro co] W (CooPF W S K E)) ∧
      ∀ W, Below w.heap.size w W → Calls Try.prog 17 #[.agg #[.slice A n c, .slice B m e], .slice Ao ro co] W (CooP W S K E) := by
  by_cases hE : cooF xs es = 0
  · by_cases hok : OrdOk n os
    · have hm5 : m ≤ 65536 := by rw [← h.2.1]; exact (cooF_parts hE).2.1
      have hKO := joinK_ok ((keyOk_of h hE).perm (sortK_perm (ordL n os) _))
      have hK := keyOk_n hKO hn
      refine ⟨xs, joinK (sortK (ordL n os) (es.map keyE)), 0, fun W hb => ?_, fun W hb => ?_⟩
      · refine (cooJoin_ok A B Ao n c m e ro co xs os es W (h.below hb).1 (h.below hb).2 hE ((ho.below hb).more hb.size) hro hok).mono ?_
        rintro x w' ⟨A1, c1, A2, c2, Ss, rfl, hO, hN, hkey, hb2⟩
        have hi := hO.ints
        rw [h.1.1] at hi
        have hns := ns_of hkey hK
        have hf := (cooF_parts (cooF_join hE hkey)).2.1
        exact ⟨A1, n, c1, A2, Ss.length, c2, Ss, rfl, ⟨hi, hN.ents (fun x hx => by have := hns x hx; omega)⟩, hkey, hn, by omega, hns, ⟨hO.farA, hN.farB⟩, hb2⟩
      · refine (refJoinV_ok A B Ao n c m e ro co xs os es W (h.below hb) hE hok ((ho.below hb).more hb.size)).mono ?_
        rintro x w' ⟨A1, c1, A2, m2, c2, Ts, rfl, hv, hk, hm2, hb2⟩
        exact ⟨A1, n, c1, A2, m2, c2, Ts, rfl, hv, hk, hn, by omega, ns_of hk.out hK, hb2⟩
    · have hs : Hid (sortE' xs os n es = 1) := by unfold Hid sortE'; rw [if_pos hE, if_neg hok]
      refine ⟨[], [], 1, fun W hb => ?_, fun W hb => ?_⟩
      · exact (joinV_bad A B Ao n c m e ro co xs os es W (h.below hb) hn hm 1 hs (by decide) ((ho.below hb).more hb.size) hro).mono fun _ _ => CooPF.none_
      · exact (refJoin_fail A B Ao n c m e ro co 1 W (by decide) fun V hV => refSort_bad2 A B Ao n c m e ro co xs os es V (h.below (hb.trans (hV.mono hb.size))) hm hE ((ho.below (hb.trans (hV.mono hb.size))).more (Nat.le_trans hb.size hV.size)) (by omega) hok 1 rfl).mono fun _ _ => CooP.none_
  · obtain ⟨E, hEE⟩ : ∃ E, cooF xs es = E := ⟨_, rfl⟩
    have hs : Hid (sortE' xs os n es = E) := by unfold Hid sortE'; rw [if_neg hE, hEE]
    have hE0 : E ≠ 0 := by rw [← hEE]; exact hE
    refine ⟨[], [], E, fun W hb => ?_, fun W hb => ?_⟩
    · exact (joinV_bad A B Ao n c m e ro co xs os es W (h.below hb) hn hm E hs hE0 ((ho.below hb).more hb.size) hro).mono fun _ _ => CooPF.none_
    · exact (refJoin_fail A B Ao n c m e ro co E W hE0 fun V hV => refSort_bad1 A B Ao n c m e ro co xs es V (h.below (hb.trans (hV.mono hb.size))) (by omega) hm E hEE hE0).mono fun _ _ => CooP.none_

theorem trim_both (A B : Option Addr) (n c m e : Nat) (xs : List Int) (es : List Ent) (w : World) (h : CooV w A n B m xs es) (hn : n ≤ 100000) (hm : m ≤ 9223372036854775807) :
    ∃ (S : List Int) (K : List KeyT) (E : Int), (∀ W, Below w.heap.size w W → Calls Try.prog 18 #[.agg #[.slice A n c, .slice B m e]] W (CooPF W S K E)) ∧
      ∀ W, Below w.heap.size w W → Calls Try.prog 19 #[.agg #[.slice A n c, .slice B m e]] W (CooP W S K E) := by
  by_cases hE : cooF xs es = 0
  · have hm5 : m ≤ 65536 := by rw [← h.2.1]; exact (cooF_parts hE).2.1
    have hK := keyOk_n ((keyOk_of h hE).filter nzK) hn
    refine ⟨xs, (es.map keyE).filter nzK, 0, fun W hb => ?_, fun W hb => ?_⟩
    · refine (trimV_ok A B n c m e xs es W (h.below hb) hE).mono ?_
      rintro x w' ⟨A1, c1, A2, m2, c2, Ts, rfl, hv, hk, _, hm2, hf, hb2⟩
      exact ⟨A1, n, c1, A2, m2, c2, Ts, rfl, hv, hk, hn, by omega, ns_of hk.out hK, hf, hb2⟩
    · refine (refTrimV_ok A B n c m e xs es W (h.below hb) hE).mono ?_
      rintro x w' ⟨A1, c1, A2, m2, c2, Ts, rfl, hv, hk, hm2, hb2⟩
      exact ⟨A1, n, c1, A2, m2, c2, Ts, rfl, hv, hk, hn, by omega, ns_of hk.out hK, hb2⟩
  · obtain ⟨E, hEE⟩ : ∃ E, cooF xs es = E := ⟨_, rfl⟩
    have hE0 : E ≠ 0 := by rw [← hEE]; exact hE
    refine ⟨[], [], E, fun W hb => ?_, fun W hb => ?_⟩
    · exact (cooTrim_bad A B n c m e xs es W (h.below hb) (by omega) hm E hEE hE0).mono fun _ _ => CooPF.none_
    · exact (refTrim_bad A B n c m e xs es W (h.below hb) (by omega) hm E hEE hE0).mono fun _ _ => CooP.none_

theorem plain_both (A B : Option Addr) (n c m e : Nat) (xs : List Int) (es : List Ent) (w : World) (h : CooV w A n B m xs es) (hn : n ≤ 100000) (hm : m ≤ 9223372036854775807) :
    ∃ (S : List Int) (K : List KeyT) (E : Int), (∀ W, Below w.heap.size w W → Calls Try.prog 20 #[.agg #[.slice A n c, .slice B m e]] W (CooPF W S K E)) ∧
      ∀ W, Below w.heap.size w W → Calls Try.prog 21 #[.agg #[.slice A n c, .slice B m e]] W (CooP W S K E) := by
  by_cases hE : cooF xs es = 0
  · have hm5 : m ≤ 65536 := by rw [← h.2.1]; exact (cooF_parts hE).2.1
    have hK := keyOk_n ((joinK_ok ((keyOk_of h hE).perm (sortK_perm (iotaL n) _))).filter nzK) hn
    refine ⟨xs, (joinK (sortK (iotaL n) (es.map keyE))).filter nzK, 0, fun W hb => ?_, fun W hb => ?_⟩
    · refine (plainF_ok A B n c m e xs es W (h.below hb) hE).mono ?_
      rintro x w' ⟨A1, c1, A2, m2, c2, Ts, rfl, hv, hk, _, hm2, hf, hb2⟩
      exact ⟨A1, n, c1, A2, m2, c2, Ts, rfl, hv, hk, hn, by omega, ns_of hk.out hK, hf, hb2⟩
    · refine (refPlainV_ok A B n c m e xs es W (h.below hb) hE).mono ?_
      rintro x w' ⟨A1, c1, A2, m2, c2, Ts, rfl, hv, hk, hm2, hb2⟩
      exact ⟨A1, n, c1, A2, m2, c2, Ts, rfl, hv, hk, hn, by omega, ns_of hk.out hK, hb2⟩
  · obtain ⟨E, hEE⟩ : ∃ E, cooF xs es = E := ⟨_, rfl⟩
    have hE0 : E ≠ 0 := by rw [← hEE]; exact hE
    have hs : Hid (sortE' xs [] n es = E) := by unfold Hid; rw [sortE'_nil, hEE]
    refine ⟨[], [], E, fun W hb => ?_, fun W hb => ?_⟩
    · exact (cooPlain_fail A B n c m e E W hE0 fun V hV => joinV_bad A B none n c m e 0 0 xs [] es V (h.below (hb.trans (hV.mono hb.size))) hn hm E hs hE0 Ints.nil_ (by omega)).mono fun _ _ => CooPF.none_
    · exact (refPlain_fail A B n c m e E W hE0 fun V hV => refJoin_fail A B none n c m e 0 0 E V hE0 fun U hU => refSort_bad1 A B none n c m e 0 0 xs es U (h.below ((hb.trans (hV.mono hb.size)).trans (hU.mono (Nat.le_trans hb.size hV.size)))) (by omega) hm E hEE hE0).mono fun _ _ => CooP.none_
end Go.Proofs.Ytpfabbapfmfmmaa
