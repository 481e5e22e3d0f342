/- MergeWhole: its mathematics. -/
import Derived.Test.YtnaehnlpcjaaeaaG9
namespace Go.Proofs.Ytnaehnlpcjaaeaa
open Go.RowKit

/-- how many of the first stops have a list's number -/
def nextF (L u : List Int) (i : Nat) : Nat := ((u.take i).filter fun v => L.contains v).length
theorem list_of_union {LL : List (List Int)} {u : List Int} (h : UnionI LL u) (hR : AllRise LL) {L : List Int} (hL : L ∈ LL) : L = u.filter fun v => L.contains v := by
  refine rise_same (hR L hL) (h.rise.sublist List.filter_sublist) fun x => ?_
  rw [List.mem_filter]
  constructor
  · intro hx; exact ⟨(h.mem x).2 ⟨L, hL, hx⟩, by simpa using hx⟩
  · rintro ⟨_, hx⟩; simpa using hx
theorem nextF_succ {L u : List Int} {i : Nat} {v : Int} (hv : u[i]? = some v) : nextF L u (i + 1) = nextF L u i + if v ∈ L then 1 else 0 := by
  unfold nextF
  rw [take_succ_of hv, List.filter_append, List.length_append]
  congr 1
  by_cases h : v ∈ L
  · rw [if_pos h, List.filter_cons_of_pos (by simpa using h)]; rfl
  · rw [if_neg h, List.filter_cons_of_neg (by simpa using h)]; rfl
theorem nextF_at {LL : List (List Int)} {u : List Int} (h : UnionI LL u) (hR : AllRise LL) {L : List Int} (hL : L ∈ LL) {i : Nat} {v : Int} (hv : u[i]? = some v) (hm : v ∈ L) : L[nextF L u i]? = some v ∧ placeI L v = (nextF L u i : Int) := by
  have e := list_of_union h hR hL
  have h1 : u = u.take i ++ v :: u.drop (i + 1) := by
    obtain ⟨h1, h2⟩ := List.getElem?_eq_some_iff.1 hv
    rw [← h2, ← List.drop_eq_getElem_cons h1, List.take_append_drop]
  have key : L[nextF L u i]? = some v := by
    have e2 : u.filter (fun v => L.contains v) = (u.take i).filter (fun v => L.contains v) ++ v :: (u.drop (i + 1)).filter (fun v => L.contains v) := by
      conv => lhs; rw [h1]
      rw [List.filter_append, List.filter_cons_of_pos (by simpa using hm)]
    have e3 : L = (u.take i).filter (fun v => L.contains v) ++ v :: (u.drop (i + 1)).filter (fun v => L.contains v) := e.trans e2
    have e4 : L[nextF L u i]? = ((u.take i).filter (fun v => L.contains v) ++ v :: (u.drop (i + 1)).filter (fun v => L.contains v))[nextF L u i]? := congrArg (·[nextF L u i]?) e3
    rw [e4]
    unfold nextF
    rw [List.getElem?_append_right (Nat.le_refl _), Nat.sub_self]
    rfl
  exact ⟨key, placeI_of (hR L hL) key⟩
theorem nextF_all {LL : List (List Int)} {u : List Int} (h : UnionI LL u) (hR : AllRise LL) {L : List Int} (hL : L ∈ LL) : nextF L u u.length = L.length := by
  have e := congrArg List.length (list_of_union h hR hL)
  unfold nextF
  rw [List.take_length]
  exact e.symm
theorem nextF_le (L u : List Int) (i : Nat) : nextF L u i ≤ u.length := by
  unfold nextF
  exact Nat.le_trans (List.length_filter_le _ _) (by rw [List.length_take]; omega)
/-- how far the lists are gone by, within stop i, list j -/
def nxV (LL : List (List Int)) (u : List Int) (i j : Nat) : List Int := (List.range LL.length).map fun k => if k < j then (nextF (LL.getD k []) u (i + 1) : Int) else (nextF (LL.getD k []) u i : Int)
theorem nxV_len (LL : List (List Int)) (u : List Int) (i j : Nat) : (nxV LL u i j).length = LL.length := by simp [nxV]
theorem nxV_at {LL : List (List Int)} {u : List Int} {i j k : Nat} (hk : k < LL.length) : (nxV LL u i j)[k]? = some (if k < j then (nextF (LL.getD k []) u (i + 1) : Int) else (nextF (LL.getD k []) u i : Int)) := by
  simp only [nxV, List.getElem?_map, List.getElem?_range hk, Option.map_some]
theorem nxV_start (LL : List (List Int)) (u : List Int) : nxV LL u 0 0 = List.replicate LL.length 0 := by
  refine List.ext_getElem (by simp [nxV]) fun k h1 h2 => ?_
  simp [nxV, nextF]
theorem nxV_turn (LL : List (List Int)) (u : List Int) (i : Nat) : nxV LL u i LL.length = nxV LL u (i + 1) 0 := by
  unfold nxV
  refine List.map_congr_left fun k hk => ?_
  rw [if_pos (List.mem_range.1 hk), if_neg (by omega)]
theorem nxV_has {LL : List (List Int)} {u : List Int} {i j : Nat} {v : Int} {L : List Int} (hL : LL[j]? = some L) (hv : u[i]? = some v) (hm : v ∈ L) : nxV LL u i (j + 1) = (nxV LL u i j).set j ((nextF L u i : Int) + 1) := by
  have hj := (List.getElem?_eq_some_iff.1 hL).1
  have hg : LL.getD j [] = L := by rw [List.getD_eq_getElem?_getD, hL]; rfl
  refine List.ext_getElem? fun k => ?_
  rw [List.getElem?_set, nxV_len]
  by_cases hk : k < LL.length
  · rw [nxV_at hk]
    by_cases e : j = k
    · subst e
      rw [if_pos rfl, if_pos hj, if_pos (by omega), hg, nextF_succ hv, if_pos hm]; rfl
    · rw [if_neg e, nxV_at hk]
      by_cases h1 : k < j
      · rw [if_pos (by omega), if_pos h1]
      · rw [if_neg (by omega), if_neg h1]
  · rw [List.getElem?_eq_none (by rw [nxV_len]; omega), if_neg (by omega), List.getElem?_eq_none (by rw [nxV_len]; omega)]
theorem nxV_not {LL : List (List Int)} {u : List Int} {i j : Nat} {v : Int} {L : List Int} (hL : LL[j]? = some L) (hv : u[i]? = some v) (hm : v ∉ L) : nxV LL u i (j + 1) = nxV LL u i j := by
  have hj := (List.getElem?_eq_some_iff.1 hL).1
  have hg : LL.getD j [] = L := by rw [List.getD_eq_getElem?_getD, hL]; rfl
  refine List.ext_getElem? fun k => ?_
  by_cases hk : k < LL.length
  · rw [nxV_at hk, nxV_at hk]
    by_cases e : j = k
    · subst e
      rw [if_pos (by omega), if_neg (by omega), hg, nextF_succ hv, if_neg hm]; rfl
    · by_cases h1 : k < j
      · rw [if_pos (by omega), if_pos h1]
      · rw [if_neg (by omega), if_neg h1]
  · rw [List.getElem?_eq_none (by rw [nxV_len]; omega), List.getElem?_eq_none (by rw [nxV_len]; omega)]
/-- does one of the first lists have it -/
def someB (LL : List (List Int)) (v : Int) (j : Nat) : Bool := (LL.take j).any fun L => L.contains v
theorem someB_succ {LL : List (List Int)} {v : Int} {j : Nat} {L : List Int} (hL : LL[j]? = some L) : someB LL v (j + 1) = (someB LL v j || L.contains v) := by
  unfold someB
  rw [take_succ_of hL, List.any_append]
  simp
theorem someB_all {LL : List (List Int)} {u : List Int} (h : UnionI LL u) {i : Nat} {v : Int} (hv : u[i]? = some v) : someB LL v LL.length = true := by
  unfold someB
  rw [List.take_length, List.any_eq_true]
  obtain ⟨L, hL, hm⟩ := (h.mem v).1 (List.mem_of_getElem? hv)
  exact ⟨L, hL, by simpa using hm⟩
end Go.Proofs.Ytnaehnlpcjaaeaa
