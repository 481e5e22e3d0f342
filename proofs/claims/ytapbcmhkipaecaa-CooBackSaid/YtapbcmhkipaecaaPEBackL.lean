/- CooBack: the list that turns an order back, as far as it went, and the cells that are held beside each other. -/
import Derived.Test.YtapbcmhkipaecaaPEBackM
import Derived.Test.YtapbcmhkipaecaaPERefO
import Derived.Test.YtapbcmhkipaecaaPETurnB
namespace Go.Proofs.Ytapbcmhkipaecaa
open Go.RowKit

/-- the list that turns an order back, as far as place k -/
def InvTo (n : Nat) (os bs : List Int) (k : Nat) : Prop := bs.length = n ∧ ∀ (j : Nat) (m : Int), j < k → os[j]? = some m → pickE bs m = (j : Int)
theorem order_at {n : Nat} {os : List Int} (ho : os.Perm (iotaL n)) {k : Nat} (hk : k < n) : ∃ q : Nat, os[k]? = some (q : Int) ∧ q < n := by
  have hl : os.length = n := by rw [ho.length_eq, iotaL_len]
  have hm := ho.mem_iff.1 (List.getElem_mem (by omega : k < os.length))
  unfold iotaL at hm
  obtain ⟨q, hq, eq⟩ := List.mem_map.1 hm
  exact ⟨q, by rw [List.getElem?_eq_getElem (by omega), ← eq], List.mem_range.1 hq⟩
theorem invTo_zero (n : Nat) (os : List Int) : InvTo n os (List.replicate n 0) 0 := ⟨by simp, fun j _ h => absurd h (by omega)⟩
theorem invTo_step {n k q : Nat} {os bs : List Int} (ho : os.Perm (iotaL n)) (hi : InvTo n os bs k) (hq : os[k]? = some (q : Int)) (hqn : q < n) : InvTo n os (bs.set q (k : Int)) (k + 1) := by
  have hnd : os.Nodup := ho.nodup_iff.2 (iota_nodup n)
  refine ⟨by rw [List.length_set]; exact hi.1, fun j m hj hm => ?_⟩
  have hbl := hi.1
  by_cases hjk : j = k
  · subst hjk
    rw [hq] at hm
    injection hm with hm
    subst hm
    unfold pickE
    rw [List.getD_eq_getElem?_getD, Int.toNat_natCast, List.getElem?_set_self (by omega)]
    rfl
  · obtain ⟨hjl, _⟩ := List.getElem?_eq_some_iff.1 hm
    have hl : os.length = n := by rw [ho.length_eq, iotaL_len]
    obtain ⟨p, hp, hpn⟩ := order_at ho (show j < n by omega)
    rw [hm] at hp
    injection hp with hp
    subst hp
    have hne : p ≠ q := by
      intro e
      subst e
      obtain ⟨hkl, hke⟩ := List.getElem?_eq_some_iff.1 hq
      obtain ⟨_, hje⟩ := List.getElem?_eq_some_iff.1 hm
      exact hjk ((List.getElem_inj hnd).1 (hje.trans hke.symm))
    have := hi.2 j p (by omega) hm
    unfold pickE at this ⊢
    rw [List.getD_eq_getElem?_getD, Int.toNat_natCast] at this ⊢
    rw [List.getElem?_set_ne (fun e => hne e.symm)]
    exact this
theorem invTo_end {n : Nat} {os bs : List Int} (hl : os.length = n) (hi : InvTo n os bs n) : IsInv n os bs := by
  refine ⟨hi.1, fun k m hm => ?_⟩
  obtain ⟨hk, _⟩ := List.getElem?_eq_some_iff.1 hm
  exact hi.2 k m (by omega) hm
/-- a turned list is one -/
theorem cooF_turn {n : Nat} {os xs : List Int} {es Ts : List Ent} (ho : os.Perm (iotaL n)) (h : xs.length = n) (hE : cooF xs es = 0) (hT : Ts.map keyE = (es.map keyE).map (turnK os)) : cooF (turnL os xs) Ts = 0 := by
  obtain ⟨p1, p2, p3⟩ := cooF_parts hE
  have h4 : n ≤ 4 := by rw [← h]; exact (cellsF_ok p1).1
  refine cooF_mk (by rw [cellsF_turn ho h h4]; exact p1) ?_ fun x hx => ?_
  · have := congrArg List.length hT
    simp only [List.length_map] at this
    omega
  · have hm : keyE x ∈ (es.map keyE).map (turnK os) := by rw [← hT]; exact List.mem_map_of_mem hx
    obtain ⟨t, ht, e⟩ := List.mem_map.1 hm
    obtain ⟨y, hy, rfl⟩ := List.mem_map.1 ht
    have : x.cs = turnL os y.cs := (congrArg Prod.fst e).symm
    rw [this]
    exact inside_turn ho h (p3 y hy)
/-- a cell that is laid out -/
theorem get_cell {xs p : List Int} {M : Nat} {K : List KeyT} (hM : checkF xs M = 0) (hp : insideF xs p = true) : getF xs M (denseK xs K) p = (wrap64 (totP (fun q => decide ((numR xs q).toNat = (numR xs p).toNat)) K), 0) := by
  have hc := checkF_ok hM
  have hi := inn_of_insideF hp
  have hb := hi.bound
  have hpr := cellsF_ok_pos hc.1 hi.pos
  have ha : atF xs p = (numR xs p, 0) := by unfold atF; rw [if_pos hc.1, if_pos hp]
  have hla : (laidF xs).1 = (cellsF xs).1 := by
    unfold laidF
    rw [if_pos hc.1, if_neg (by omega)]
  unfold getF
  rw [if_pos hM, ha]
  simp only [if_true]
  unfold denseK
  rw [List.getD_eq_getElem?_getD, List.getElem?_map, List.getElem?_range (by rw [hla]; omega)]
  rfl
/-- turned, a cell holds the same -/
theorem get_turn {n M M2 : Nat} {os xs p : List Int} {K : List KeyT} (ho : os.Perm (iotaL n)) (h : xs.length = n) (hM : checkF xs M = 0) (hM2 : checkF (turnL os xs) M2 = 0) (hp : insideF xs p = true) (hK : ∀ t ∈ K, insideF xs t.1 = true) :
    getF (turnL os xs) M2 (denseK (turnL os xs) (K.map (turnK os))) (turnL os p) = getF xs M (denseK xs K) p := by
  rw [get_cell hM hp, get_cell hM2 (inside_turn ho h hp)]
  have := tot_turn ho h hp hK
  unfold turnK
  rw [this]
/-- turned, and turned back -/
theorem keys_back {n : Nat} {os bs : List Int} {K : List KeyT} (ho : os.Perm (iotaL n)) (hi : IsInv n os bs) (hK : KeyOk n K) : (K.map (turnK os)).map (turnK bs) = K := by
  rw [List.map_map]
  conv => rhs; rw [← List.map_id K]
  apply List.map_congr_left
  intro t ht
  obtain ⟨h1, h2, _⟩ := hK t ht
  unfold turnK
  simp only [Function.comp, id_eq]
  rw [turn_back ho hi h1, hi.1, ← h2]
end Go.Proofs.Ytapbcmhkipaecaa
