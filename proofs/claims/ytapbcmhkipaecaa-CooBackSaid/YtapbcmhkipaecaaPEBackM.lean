/- Places in another order, and back (maths of CooBack). -/
import Derived.Test.YtapbcmhkipaecaaPETurn
import Derived.Test.YtapbcmhkipaecaaPEOfM
namespace Go.Proofs.Ytapbcmhkipaecaa
open Go.RowKit

theorem turnL_iota {n : Nat} {xs : List Int} (h : xs.length = n) : turnL (iotaL n) xs = xs := by
  unfold turnL iotaL
  rw [List.map_map]
  apply List.ext_getElem (by simp [h])
  intro k h1 h2
  simp [pickE, h2]
theorem turnL_perm {n : Nat} {os xs : List Int} (ho : os.Perm (iotaL n)) (h : xs.length = n) : (turnL os xs).Perm xs := by
  have := ho.map (pickE xs)
  rw [show (iotaL n).map (pickE xs) = xs from turnL_iota h] at this
  exact this
theorem prodI_perm {a b : List Int} (h : a.Perm b) : prodI a = prodI b := by
  induction h with
  | nil => rfl
  | cons x _ ih => simp only [prodI, ih]
  | swap x y l => simp only [prodI]; rw [← Int.mul_assoc, ← Int.mul_assoc, Int.mul_comm x y]
  | trans _ _ ih1 ih2 => rw [ih1, ih2]
theorem any_perm {α : Type} {p : α → Bool} {a b : List α} (h : a.Perm b) : a.any p = b.any p := by
  rw [Bool.eq_iff_iff, List.any_eq_true, List.any_eq_true]
  constructor
  · rintro ⟨x, hx, hp⟩; exact ⟨x, h.mem_iff.1 hx, hp⟩
  · rintro ⟨x, hx, hp⟩; exact ⟨x, h.mem_iff.2 hx, hp⟩
theorem cellsF_turn {n : Nat} {os xs : List Int} (ho : os.Perm (iotaL n)) (h : xs.length = n) (h4 : n ≤ 4) : cellsF (turnL os xs) = cellsF xs := by
  have hp := turnL_perm ho h
  exact cellsF_same (by rw [hp.length_eq]; omega) (by omega) (any_perm hp) (any_perm hp) (prodI_perm hp)
theorem laidF_turn {n : Nat} {os xs : List Int} (ho : os.Perm (iotaL n)) (h : xs.length = n) (h4 : n ≤ 4) : laidF (turnL os xs) = laidF xs := by
  unfold laidF; rw [cellsF_turn ho h h4]
theorem turnL_inj {n : Nat} {os a b : List Int} (ho : os.Perm (iotaL n)) (ha : a.length = n) (hb : b.length = n) (h : turnL os a = turnL os b) : a = b := by
  apply List.ext_getElem (by omega)
  intro k h1 h2
  have hm : (k : Int) ∈ os := ho.mem_iff.2 (by unfold iotaL; exact List.mem_map.2 ⟨k, List.mem_range.2 (by omega), rfl⟩)
  unfold turnL at h
  have := (List.map_inj_left.1 h) _ hm
  unfold pickE at this
  simpa [List.getD, List.getElem?_eq_getElem h1, List.getElem?_eq_getElem h2] using this
/-- a list that turns an order back -/
def IsInv (n : Nat) (os bs : List Int) : Prop := bs.length = n ∧ ∀ (k : Nat) (m : Int), os[k]? = some m → pickE bs m = (k : Int)
theorem turnL_at {os xs : List Int} {k : Nat} {m : Int} (h : os[k]? = some m) : pickE (turnL os xs) (k : Int) = pickE xs m := by
  unfold turnL
  conv => lhs; unfold pickE
  rw [List.getD_eq_getElem?_getD, Int.toNat_natCast, List.getElem?_map, h]; rfl
theorem inv_turn {n : Nat} {os bs : List Int} (hl : os.length = n) (hi : IsInv n os bs) : turnL os bs = iotaL n := by
  apply List.ext_getElem (by rw [turnL_len, iotaL_len, hl])
  intro k h1 h2
  rw [turnL_len] at h1
  have e := hi.2 k os[k] (List.getElem?_eq_getElem h1)
  simp only [turnL, List.getElem_map, iotaL, List.getElem_range]
  exact e
theorem inv_perm {n : Nat} {os bs : List Int} (ho : os.Perm (iotaL n)) (hi : IsInv n os bs) : bs.Perm (iotaL n) := by
  have hl : os.length = n := by rw [ho.length_eq, iotaL_len]
  have := turnL_perm ho hi.1
  rw [inv_turn hl hi] at this
  exact this.symm
theorem turn_back {n : Nat} {os bs l : List Int} (ho : os.Perm (iotaL n)) (hi : IsInv n os bs) (hl : l.length = n) : turnL bs (turnL os l) = l := by
  refine turnL_inj ho (by rw [turnL_len]; exact hi.1) hl ?_
  apply List.ext_getElem (by rw [turnL_len, turnL_len])
  intro k h1 h2
  rw [turnL_len] at h1
  have hk := List.getElem?_eq_getElem h1
  have hm := ho.mem_iff.1 (List.getElem_mem h1)
  have hb : ∃ j, bs[os[k].toNat]? = some j := by
    unfold iotaL at hm
    obtain ⟨q, hq, e⟩ := List.mem_map.1 hm
    have := List.mem_range.1 hq
    exact ⟨_, List.getElem?_eq_getElem (by have := hi.1; omega)⟩
  obtain ⟨j, hj⟩ := hb
  have e2 : j = (k : Int) := by
    have := hi.2 k _ hk
    unfold pickE at this
    rw [List.getD_eq_getElem?_getD, hj] at this
    exact this
  have hnn : ((os[k]).toNat : Int) = os[k] := by
    unfold iotaL at hm
    obtain ⟨q, hq, e⟩ := List.mem_map.1 hm
    omega
  have e3 := turnL_at (os := bs) (xs := turnL os l) (k := os[k].toNat) hj
  rw [hnn, e2] at e3
  have g1 : (turnL os (turnL bs (turnL os l)))[k] = pickE (turnL bs (turnL os l)) os[k] := by simp [turnL]
  have g2 : (turnL os l)[k] = pickE (turnL os l) (k : Int) := by
    unfold pickE
    rw [List.getD_eq_getElem?_getD, Int.toNat_natCast, List.getElem?_eq_getElem h2]
    rfl
  rw [g1, e3, g2]

theorem inside_turn {n : Nat} {os xs cs : List Int} (ho : os.Perm (iotaL n)) (h : xs.length = n) (hi : insideF xs cs = true) : insideF (turnL os xs) (turnL os cs) = true := by
  have hinn := inn_of_insideF hi
  have hcl : cs.length = n := by have := hinn.len; omega
  unfold insideF
  rw [turnL_len, turnL_len, decide_eq_true rfl, Bool.true_and, Bool.not_eq_true', List.any_eq_false]
  intro p hp
  obtain ⟨k, hk, e⟩ := List.mem_iff_getElem.1 hp
  have hko : k < os.length := by simp [turnL_len] at hk; exact hk
  have hm := ho.mem_iff.1 (List.getElem_mem hko)
  unfold iotaL at hm
  obtain ⟨q, hq, eq⟩ := List.mem_map.1 hm
  have hqn := List.mem_range.1 hq
  have hb := hinn.at_ (k := q) (List.getElem?_eq_getElem (by omega)) (List.getElem?_eq_getElem (by omega))
  rw [← e, List.getElem_zip]
  have g1 : (turnL os cs)[k]'(by rw [turnL_len]; exact hko) = cs[q] := by
    simp only [turnL, List.getElem_map, ← eq, pickE, List.getD_eq_getElem?_getD, Int.toNat_natCast]
    rw [List.getElem?_eq_getElem (by omega)]; rfl
  have g2 : (turnL os xs)[k]'(by rw [turnL_len]; exact hko) = xs[q] := by
    simp only [turnL, List.getElem_map, ← eq, pickE, List.getD_eq_getElem?_getD, Int.toNat_natCast]
    rw [List.getElem?_eq_getElem (by omega)]; rfl
  rw [g1, g2]
  unfold badAt
  simp
  omega
/-- turned and laid out, a cell holds what the cell of the turned place holds -/
theorem tot_turn {n : Nat} {os xs p : List Int} {K : List KeyT} (ho : os.Perm (iotaL n)) (h : xs.length = n) (hp : insideF xs p = true) (hK : ∀ t ∈ K, insideF xs t.1 = true) :
    totP (fun q => decide ((numR (turnL os xs) q).toNat = (numR (turnL os xs) (turnL os p)).toNat)) (K.map fun t => (turnL os t.1, t.2.1, os.length)) = totP (fun q => decide ((numR xs q).toNat = (numR xs p).toNat)) K := by
  induction K with
  | nil => rfl
  | cons t K ih =>
    have ht := hK t (by simp)
    have ih' := ih (fun s hs => hK s (by simp [hs]))
    simp only [List.map_cons, totP]
    rw [ih']
    congr 1
    have hi1 := inn_of_insideF ht
    have hi2 := inn_of_insideF hp
    have hj1 := inn_of_insideF (inside_turn ho h ht)
    have hj2 := inn_of_insideF (inside_turn ho h hp)
    have b1 := hi1.bound
    have b2 := hi2.bound
    have b3 := hj1.bound
    have b4 := hj2.bound
    have e : (numR (turnL os xs) (turnL os t.1)).toNat = (numR (turnL os xs) (turnL os p)).toNat ↔ (numR xs t.1).toNat = (numR xs p).toNat := by
      constructor
      · intro hq
        have := numR_inj _ _ _ hj1 hj2 (by omega)
        have := turnL_inj ho (by have := hi1.len; omega) (by have := hi2.len; omega) this
        rw [this]
      · intro hq
        have := numR_inj _ _ _ hi1 hi2 (by omega)
        rw [this]
    by_cases hq : (numR xs t.1).toNat = (numR xs p).toNat
    · rw [if_pos (decide_eq_true (e.2 hq)), if_pos (decide_eq_true hq)]
    · rw [if_neg (by simpa using fun h => hq (e.1 h)), if_neg (by simpa using hq)]
end Go.Proofs.Ytapbcmhkipaecaa
