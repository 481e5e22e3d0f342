/- MergeSets: its mathematics. -/
import Derived.Test.YtnaehnlpcjaaeaaPMPick
import Derived.Test.YtnaehnlpcjaaeaaPMJoinsE
import Derived.Test.YtnaehnlpcjaaeaaPMLeastL
namespace Go.Proofs.Ytnaehnlpcjaaeaa
open Go.RowKit

theorem placeI_lacks (L : List Int) (v : Int) : (placeI L v == -1) = !(L.contains v) := by
  unfold placeI
  by_cases h : v ∈ L
  · rw [if_pos h]
    have : L.contains v = true := by simpa using h
    rw [this]
    simp
  · rw [if_neg h]
    have : L.contains v = false := by simpa using h
    rw [this]; rfl
theorem lacksB_of {LL : List (List Int)} {s : St} (h : s.ins = LL.map fun L => placeI L s.at_) {m : Nat} (hm : m < LL.length) : lacksB s (m : Int) = !((LL.getD m []).contains s.at_) := by
  unfold lacksB
  rw [h, Int.toNat_natCast, List.getD_eq_getElem?_getD, List.getElem?_map, List.getD_eq_getElem?_getD, List.getElem?_eq_getElem hm]
  exact placeI_lacks _ _
theorem haveB_every {LL : List (List Int)} {s : St} (h : s.ins = LL.map fun L => placeI L s.at_) : haveB s (rangeI LL.length) = allHave LL s.at_ := by
  rw [Bool.eq_iff_iff, allHave_iff]
  unfold haveB
  rw [Bool.not_eq_true', List.any_eq_false]
  constructor
  · intro h1 L hL
    obtain ⟨m, hm, rfl⟩ := List.getElem_of_mem hL
    have h2 := h1 (m : Int) (mem_rangeI.2 hm)
    rw [lacksB_of h hm] at h2
    simpa [List.getD, List.getElem?_eq_getElem hm] using h2
  · intro h1 x hx
    unfold rangeI at hx
    obtain ⟨m, hm, rfl⟩ := List.mem_map.1 hx
    have hm := List.mem_range.1 hm
    rw [lacksB_of h hm]
    have := h1 _ (List.getElem_mem hm)
    simpa [List.getD, List.getElem?_eq_getElem hm] using this
theorem haveB_one {LL : List (List Int)} {s : St} (h : s.ins = LL.map fun L => placeI L s.at_) {k : Nat} (hk : k < LL.length) : haveB s [(k : Int)] = (LL.getD k []).contains s.at_ := by
  unfold haveB
  simp only [List.any_cons, List.any_nil, Bool.or_false]
  rw [lacksB_of h hk, Bool.not_not]
theorem filter_ats {ss : List St} {P : St → Bool} {Q : Int → Bool} (h : ∀ s ∈ ss, P s = Q s.at_) : (ss.filter P).map (·.at_) = (ss.map (·.at_)).filter Q := by
  rw [List.filter_map]
  congr 1
  exact List.filter_congr fun s hs => h s hs
theorem keys_ats {ps qs : List St} (h : ps.map keyS = qs.map keyS) : ps.map (·.at_) = qs.map (·.at_) := by
  have := congrArg (List.map Prod.fst) h
  rw [List.map_map, List.map_map] at this
  exact this
theorem sets_every {LL : List (List Int)} {ln : Nat} {ss ps : List St} {b : List Int} (h : WalkI LL ln ss) (hl : LL.length = ln) (hk : ps.map keyS = (ss.filter fun s => [rangeI ln].any (haveB s)).map keyS) (hb : BothI LL b) : ps.map (·.at_) = b := by
  rw [keys_ats hk, filter_ats (Q := allHave LL) fun s hs => ?_]
  · exact rise_same (h.union.both.rise) hb.rise fun m => (h.union.both.mem m).trans (hb.mem m).symm
  · simp only [List.any_cons, List.any_nil, Bool.or_false]
    rw [← hl]
    exact haveB_every (h.ins s hs).2
theorem sets_one {LL : List (List Int)} {ln k : Nat} {ss ps : List St} (h : WalkI LL ln ss) (hl : LL.length = ln) (hR : AllRise LL) (hkn : k < ln) (hk : ps.map keyS = (ss.filter fun s => [[(k : Int)]].any (haveB s)).map keyS) :
    ps.map (·.at_) = LL.getD k [] ∧ ∀ (i : Nat) (x : St), ps[i]? = some x → x.ins[k]? = some (i : Int) := by
  have hLm : LL.getD k [] ∈ LL := getD_mem (by omega)
  have e1 : ps.map (·.at_) = LL.getD k [] := by
    rw [keys_ats hk, filter_ats (Q := fun v => (LL.getD k []).contains v) fun s hs => ?_]
    · exact (list_of_union h.union hR hLm).symm
    · simp only [List.any_cons, List.any_nil, Bool.or_false]
      exact haveB_one (h.ins s hs).2 (by omega)
  refine ⟨e1, fun i x hx => ?_⟩
  have h1 : keyS x ∈ (ss.filter fun s => [[(k : Int)]].any (haveB s)).map keyS := by
    rw [← hk]; exact List.mem_map.2 ⟨x, List.mem_of_getElem? hx, rfl⟩
  obtain ⟨s, hs, e⟩ := List.mem_map.1 h1
  have h2 := (h.ins s (List.mem_filter.1 hs).1).2
  simp only [keyS, Prod.mk.injEq] at e
  rw [e.1, e.2] at h2
  have h3 : (LL.getD k [])[i]? = some x.at_ := by rw [← e1, List.getElem?_map, hx]; rfl
  rw [h2, List.getElem?_map]
  have h4 : LL[k]? = some (LL.getD k []) := by rw [List.getD_eq_getElem?_getD, List.getElem?_eq_getElem (by omega)]; rfl
  rw [h4, Option.map_some, placeI_of (hR _ hLm) h3]
theorem union_self {L u : List Int} (hR : L.Pairwise (· < ·)) (h : UnionI [L, L] u) : u = L := rise_same h.rise hR fun m => by
  rw [h.mem]
  constructor
  · rintro ⟨M, hM, hm⟩
    simp at hM
    rw [hM] at hm; exact hm
  · intro hm; exact ⟨L, by simp, hm⟩
theorem both_self {L u : List Int} (hR : L.Pairwise (· < ·)) (h : BothI [L, L] u) : u = L := rise_same h.rise hR fun m => by
  rw [both_all h (by simp)]
  constructor
  · intro h2; exact h2 L (by simp)
  · intro hm M hM
    simp at hM
    rw [hM]; exact hm
theorem rangeI_in (n : Nat) : InS n (rangeI n) := fun m hm => by
  unfold rangeI at hm
  obtain ⟨k, hk, rfl⟩ := List.mem_map.1 hm
  have := List.mem_range.1 hk
  omega
/-- Go's (k % n + n) % n -/
theorem turn_mod (a : Int) (n : Nat) (hn : 0 < n) : ∃ k : Nat, k < n ∧ Int.tmod (Int.tmod a n + n) n = (k : Int) ∧ -(n : Int) < Int.tmod a n ∧ Int.tmod a n < (n : Int) := by
  have h1 := Int.tmod_lt_of_pos a (b := (n : Int)) (by omega)
  have h2 : -(n : Int) < Int.tmod a n := by
    have h3 := Int.tmod_lt_of_pos (-a) (b := (n : Int)) (by omega)
    rw [Int.neg_tmod] at h3
    omega
  have h3 := Int.tmod_nonneg (n : Int) (a := Int.tmod a n + n) (by omega)
  have h4 := Int.tmod_lt_of_pos (Int.tmod a n + n) (b := (n : Int)) (by omega)
  exact ⟨(Int.tmod (Int.tmod a n + n) n).toNat, by omega, by omega, h2, h1⟩
end Go.Proofs.Ytnaehnlpcjaaeaa
