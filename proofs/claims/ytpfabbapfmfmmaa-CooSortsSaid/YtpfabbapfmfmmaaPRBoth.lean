/- Turn, Dense, Of and Count: there is one answer, and the program and the document both end in it. -/
import Derived.Test.YtpfabbapfmfmmaaPRTurn
import Derived.Test.YtpfabbapfmfmmaaPRFail
import Derived.Test.YtpfabbapfmfmmaaPRDen
import Derived.Test.YtpfabbapfmfmmaaPROf
import Derived.Test.YtpfabbapfmfmmaaPREq
namespace Go.Proofs.Ytpfabbapfmfmmaa
open Go.RowKit

/-- a list and an error are the answer -/
def CooP (w : World) (S : List Int) (K : List KeyT) (E : Int) (x : Ending) (w' : World) : Prop :=
  ∃ A1 n c1 A2 m c2 Ts, x = .returned (.tuple #[.agg #[.slice A1 n c1, .slice A2 m c2], .int .i64 E]) ∧ CooV w' A1 n A2 m S Ts ∧ Hid (Ts.map keyE = K) ∧ n ≤ 100000 ∧ m ≤ 100000 ∧ (∀ x ∈ Ts, x.n ≤ 100000) ∧ Below w.heap.size w w'
/-- a tensor that is laid out and an error are the answer -/
def DenP (w : World) (S V : List Int) (E : Int) (x : Ending) (w' : World) : Prop :=
  ∃ A1 n c1 A2 m c2, x = .returned (.tuple #[.agg #[.slice A1 n c1, .slice A2 m c2], .int .i64 E]) ∧ DenV w' A1 n A2 m S V ∧ n ≤ 100000 ∧ m ≤ 100000 ∧ Below w.heap.size w w'
/-- numbers and an error are the answer -/
def CntP (w : World) (L : List Int) (E : Int) (x : Ending) (w' : World) : Prop :=
  ∃ A1 n c1, x = .returned (.tuple #[.slice A1 n c1, .int .i64 E]) ∧ Ints w' w'.heap.size A1 n L ∧ n ≤ 100000 ∧ Below w.heap.size w w'
theorem CooP.none_ {w w' : World} {x : Ending} {E : Int} (h : x = .returned (.tuple #[.agg #[.slice none 0 0, .slice none 0 0], .int .i64 E]) ∧ Below w.heap.size w w') : CooP w [] [] E x w' :=
  ⟨none, 0, 0, none, 0, 0, [], h.1, ⟨Ints.nil_, Ents.nil_⟩, rfl, by omega, by omega, (fun x hx => by cases hx), h.2⟩
theorem DenP.none_ {w w' : World} {x : Ending} {E : Int} (h : x = .returned (.tuple #[.agg #[.slice none 0 0, .slice none 0 0], .int .i64 E]) ∧ Below w.heap.size w w') : DenP w [] [] E x w' :=
  ⟨none, 0, 0, none, 0, 0, h.1, ⟨Ints.nil_, Ints.nil_⟩, by omega, by omega, h.2⟩
theorem CntP.none_ {w w' : World} {x : Ending} {E : Int} (h : x = .returned (.tuple #[.slice none 0 0, .int .i64 E]) ∧ Below w.heap.size w w') : CntP w [] E x w' :=
  ⟨none, 0, 0, h.1, Ints.nil_, by omega, h.2⟩
theorem ns_of {Ts : List Ent} {K : List KeyT} (h : Ts.map keyE = K) (hK : ∀ t ∈ K, t.2.2 ≤ 100000) : ∀ x ∈ Ts, x.n ≤ 100000 := fun x hx => hK (keyE x) (by rw [← h]; exact List.mem_map_of_mem hx)

theorem turn_both (A B Ao : Option Addr) (n c m e ro co : Nat) (xs os : List Int) (es : List Ent) (w : World) (h : CooV w A n B m xs es) (hn : n ≤ 100000) (hm : m ≤ 9223372036854775807) (ho : Ints w w.heap.size Ao ro os) (hro : ro ≤ 100000) :
    ∃ (S : List Int) (K : List KeyT) (E : Int), (∀ W, Below w.heap.size w W → Calls Try.prog 27 #[.agg #[.slice A n c, .slice B m e], .slice Ao ro co] W (CooP W S K E)) ∧
      ∀ W, Below w.heap.size w W → Calls Try.prog 28 #[.agg #[.slice A n c, .slice B m e], .slice Ao ro co] W (CooP W S K E) := by
  by_cases hE : cooF xs es = 0
  · by_cases hok : OrdOk n os
    · have hn4 : n ≤ 4 := by rw [← h.1.1]; exact (cellsF_ok (cooF_parts hE).1).1
      have hm5 : m ≤ 65536 := by rw [← h.2.1]; exact (cooF_parts hE).2.1
      have hK : ∀ t ∈ (es.map keyE).map (turnK (ordL n os)), t.2.2 ≤ 100000 := fun t ht => by
        obtain ⟨q, _, rfl⟩ := List.mem_map.1 ht
        show (ordL n os).length ≤ _
        rw [ordL_len hok]; omega
      refine ⟨turnL (ordL n os) xs, (es.map keyE).map (turnK (ordL n os)), 0, fun W hb => ?_, fun W hb => ?_⟩
      · refine (turnV_ok A B Ao n c m e ro co xs os es W (h.below hb) hE hok ((ho.below hb).more hb.size) hro).mono ?_
        rintro x w' ⟨A1, c1, A2, c2, Ts, rfl, hv, hk, hb2⟩
        exact ⟨A1, n, c1, A2, m, c2, Ts, rfl, hv, hk, by omega, by omega, ns_of hk.out hK, hb2⟩
      · refine (refTurnV_ok A B Ao n c m e ro co xs os es W (h.below hb) hE hok ((ho.below hb).more hb.size)).mono ?_
        rintro x w' ⟨A1, c1, A2, c2, Ts, rfl, hv, hk, hb2⟩
        exact ⟨A1, n, c1, A2, m, c2, Ts, rfl, hv, hk, by omega, by omega, ns_of hk.out hK, hb2⟩
    · have hs : Hid (sortE' xs os n es = 1) := by unfold Hid sortE'; rw [if_pos hE, if_neg hok]
      refine ⟨[], [], 1, fun W hb => ?_, fun W hb => ?_⟩
      · exact (turnV_bad A B Ao n c m e ro co xs os es W (h.below hb) hn hm 1 hs (by decide) ((ho.below hb).more hb.size) hro).mono fun _ _ => CooP.none_
      · exact (refTurn_bad2 A B Ao n c m e ro co xs os es W (h.below hb) hm hE ((ho.below hb).more hb.size) (by omega) hok 1 rfl).mono fun _ _ => CooP.none_
  · obtain ⟨E, hEE⟩ : ∃ E, cooF xs es = E := ⟨_, rfl⟩
    have hs : Hid (sortE' xs os n es = E) := by unfold Hid sortE'; rw [if_neg hE, hEE]
    refine ⟨[], [], E, fun W hb => ?_, fun W hb => ?_⟩
    · exact (turnV_bad A B Ao n c m e ro co xs os es W (h.below hb) hn hm E hs (by rw [← hEE]; exact hE) ((ho.below hb).more hb.size) hro).mono fun _ _ => CooP.none_
    · exact (refTurn_bad1 A B Ao n c m e ro co xs es W (h.below hb) (by omega) hm E hEE (by rw [← hEE]; exact hE)).mono fun _ _ => CooP.none_

theorem dense_both (A B : Option Addr) (n c m e : Nat) (xs : List Int) (es : List Ent) (w : World) (h : CooV w A n B m xs es) (hn : n ≤ 100000) (hm : m ≤ 9223372036854775807) :
    ∃ (S V : List Int) (E : Int), (∀ W, Below w.heap.size w W → Calls Try.prog 29 #[.agg #[.slice A n c, .slice B m e]] W (DenP W S V E)) ∧
      ∀ W, Below w.heap.size w W → Calls Try.prog 30 #[.agg #[.slice A n c, .slice B m e]] W (DenP W S V E) := by
  by_cases hE : cooF xs es = 0
  · by_cases hl : (laidF xs).2 = 0
    · have hn4 : n ≤ 4 := by rw [← h.1.1]; exact (cellsF_ok (cooF_parts hE).1).1
      have hlen : (denseV xs es).length = (laidF xs).1.toNat := by unfold denseV; rw [scat_length]
      have hla := laidF_nonneg (xs := xs)
      have hmk : ∀ (W : World) (x : Ending) (w' : World), (∃ A1 c1 A2 c2, x = .returned (.tuple #[.agg #[.slice A1 n c1, .slice A2 (denseV xs es).length c2], .int .i64 0]) ∧ OwnI w' W.heap.size 3 A1 c1 xs ∧ OwnI w' W.heap.size 2 A2 c2 (denseV xs es) ∧ Below W.heap.size W w') → DenP W xs (denseV xs es) 0 x w' := by
        rintro W x w' ⟨A1, c1, A2, c2, rfl, h1, h2, hb2⟩
        have i1 := h1.ints
        rw [h.1.1] at i1
        exact ⟨A1, n, c1, A2, _, c2, rfl, ⟨i1, h2.ints⟩, by omega, by omega, hb2⟩
      refine ⟨xs, denseV xs es, 0, fun W hb => ?_, fun W hb => ?_⟩
      · exact (cooDense_ok A B n c m e xs es W (h.below hb).1 (h.below hb).2 hm hE hl).mono (hmk W)
      · exact (refDen_ok A B n c m e xs es W (h.below hb).1 (h.below hb).2 hm hE hl).mono (hmk W)
    · obtain ⟨E, hEE⟩ : ∃ E, (laidF xs).2 = E := ⟨_, rfl⟩
      refine ⟨[], [], E, fun W hb => ?_, fun W hb => ?_⟩
      · exact (cooDense_large A B n c m e xs es E W (h.below hb).1 (by omega) (h.below hb).2 hm hE hEE (by rw [← hEE]; exact hl)).mono fun _ _ => DenP.none_
      · exact (refDen_large A B n c m e xs es E W (h.below hb).1 (by omega) (h.below hb).2 hm hE hEE (by rw [← hEE]; exact hl)).mono fun _ _ => DenP.none_
  · obtain ⟨E, hEE⟩ : ∃ E, cooF xs es = E := ⟨_, rfl⟩
    refine ⟨[], [], E, fun W hb => ?_, fun W hb => ?_⟩
    · exact (cooDense_err A B n c m e xs es E W (h.below hb).1 (by omega) (h.below hb).2 hm hEE (by rw [← hEE]; exact hE)).mono fun _ _ => DenP.none_
    · exact (refDen_err A B n c m e xs es E W (h.below hb).1 (by omega) (h.below hb).2 hm hEE (by rw [← hEE]; exact hE)).mono fun _ _ => DenP.none_

theorem ofK_n {xs : List Int} {ys : List Int} {N : Nat} (h : xs.length ≤ N) : ∀ t ∈ ofK xs 0 ys, t.2.2 ≤ N := fun t ht => by
  obtain ⟨i, v, _, _, rfl⟩ := (ofK_mem 0 ys).1 ht
  exact h
theorem of_both (A B : Option Addr) (n c m e : Nat) (xs ys : List Int) (w : World) (h : DenV w A n B m xs ys) (hn : n ≤ 100000) :
    ∃ (S : List Int) (K : List KeyT) (E : Int), (∀ W, Below w.heap.size w W → Calls Try.prog 31 #[.agg #[.slice A n c, .slice B m e]] W (CooP W S K E)) ∧
      ∀ W, Below w.heap.size w W → Calls Try.prog 32 #[.agg #[.slice A n c, .slice B m e]] W (CooP W S K E) := by
  by_cases hE : checkF xs m = 0
  · obtain ⟨c1', c2', c3'⟩ := check_parts hE
    have hnn := laidF_nonneg (xs := xs)
    have hm5 : m ≤ 65536 := by omega
    refine ⟨xs, ofK xs 0 ys, 0, fun W hb => ?_, fun W hb => ?_⟩
    · refine (ofV_ok A B n c m e xs ys W (h.below hb) hE).mono ?_
      rintro x w' ⟨A1, c1, A2, m2, c2, Ts, rfl, hv, hk, hm2, hb2⟩
      exact ⟨A1, n, c1, A2, m2, c2, Ts, rfl, hv, hk, hn, by omega, ns_of hk.out (ofK_n (by rw [h.1.1]; exact hn)), hb2⟩
    · refine (refOfV_ok A B n c m e xs ys W (h.below hb) hE).mono ?_
      rintro x w' ⟨A1, c1, A2, m2, c2, Ts, rfl, hv, hk, hm2, hb2⟩
      exact ⟨A1, n, c1, A2, m2, c2, Ts, rfl, hv, hk, hn, by omega, ns_of hk.out (ofK_n (by rw [h.1.1]; exact hn)), hb2⟩
  · obtain ⟨E, hEE⟩ : ∃ E, checkF xs m = E := ⟨_, rfl⟩
    refine ⟨[], [], E, fun W hb => ?_, fun W hb => ?_⟩
    · exact (cooOf_bad A B n c m e xs W (h.below hb).1 (by omega) E hEE (by rw [← hEE]; exact hE)).mono fun _ _ => CooP.none_
    · exact (refOf_bad A B n c m e xs W (h.below hb).1 (by omega) E hEE (by rw [← hEE]; exact hE)).mono fun _ _ => CooP.none_

theorem count_both (A B : Option Addr) (n c m e : Nat) (md : Int) (xs : List Int) (es : List Ent) (w : World) (h : CooV w A n B m xs es) (hn : n ≤ 100000) (hm : m ≤ 9223372036854775807) :
    ∃ (L : List Int) (E : Int), (∀ W, Below w.heap.size w W → Calls Try.prog 33 #[.agg #[.slice A n c, .slice B m e], .int .i64 md] W (CntP W L E)) ∧
      ∀ W, Below w.heap.size w W → Calls Try.prog 34 #[.agg #[.slice A n c, .slice B m e], .int .i64 md] W (CntP W L E) := by
  by_cases hE : cooF xs es = 0
  · by_cases hmd : md < 0 ∨ (n : Int) ≤ md
    · refine ⟨[], 3, fun W hb => ?_, fun W hb => ?_⟩
      · exact (cooCnt_bad3 A B n c m e md xs es W (h.below hb) (by omega) hm hE hmd).mono fun _ _ => CntP.none_
      · exact (refCount_bad3 A B n c m e md xs es W (h.below hb) (by omega) hm hE hmd).mono fun _ _ => CntP.none_
    · obtain ⟨k, rfl⟩ : ∃ k : Nat, md = (k : Int) := ⟨md.toNat, by omega⟩
      have hk : k < n := by omega
      by_cases hs : 65536 < xs.getD k 0
      · refine ⟨[], 2, fun W hb => ?_, fun W hb => ?_⟩
        · exact (cooCount_large A B n c m e k xs es W (h.below hb).1 (by omega) (h.below hb).2 hm hE hk hs).mono fun _ _ => CntP.none_
        · exact (refCount_large A B n c m e k xs es W (h.below hb).1 (by omega) (h.below hb).2 hm hE hk hs).mono fun _ _ => CntP.none_
      · have hl : (countV xs k es).length ≤ 100000 := by unfold countV; rw [scat_length]; omega
        refine ⟨countV xs k es, 0, fun W hb => ?_, fun W hb => ?_⟩
        · refine (cooCount_ok A B n c m e k xs es W (h.below hb).1 (by omega) (h.below hb).2 hm hE hk (by omega)).mono ?_
          rintro x w' ⟨A1, c1, rfl, h1, hb2⟩
          exact ⟨A1, _, c1, rfl, h1.ints, hl, hb2⟩
        · refine (refCooCount_ok A B n c m e k xs es W (h.below hb).1 (by omega) (h.below hb).2 hm hE hk (by omega)).mono ?_
          rintro x w' ⟨A1, c1, rfl, h1, hb2⟩
          exact ⟨A1, _, c1, rfl, h1.ints, hl, hb2⟩
  · obtain ⟨E, hEE⟩ : ∃ E, cooF xs es = E := ⟨_, rfl⟩
    refine ⟨[], E, fun W hb => ?_, fun W hb => ?_⟩
    · exact (cooCnt_bad1 A B n c m e md xs es W (h.below hb) (by omega) hm E hEE (by rw [← hEE]; exact hE)).mono fun _ _ => CntP.none_
    · exact (refCount_bad1 A B n c m e md xs es W (h.below hb) (by omega) hm E hEE (by rw [← hEE]; exact hE)).mono fun _ _ => CntP.none_
end Go.Proofs.Ytpfabbapfmfmmaa
