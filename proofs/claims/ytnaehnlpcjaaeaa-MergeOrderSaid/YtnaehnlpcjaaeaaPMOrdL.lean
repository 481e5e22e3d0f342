/- The walk of MergeOrder. -/
import Derived.Test.YtnaehnlpcjaaeaaPMMay
import Derived.Test.YtnaehnlpcjaaeaaPMJoins
import Derived.Deep.RegionLaw
namespace Go.Proofs.Ytnaehnlpcjaaeaa
open Go.RowKit

/-- marks of those that have come -/
def cmO (n : Nat) (o : List Int) : List Bool := (List.range n).map fun i : Nat => o.contains (i : Int)
theorem cmO_len (n : Nat) (o : List Int) : (cmO n o).length = n := by simp [cmO]
theorem cmO_at {n : Nat} {o : List Int} {i : Nat} (hi : i < n) : (cmO n o).getD i false = o.contains (i : Int) := by
  rw [List.getD_eq_getElem?_getD]
  simp [cmO, hi]
theorem cmO_nil (n : Nat) : cmO n [] = List.replicate n false := by
  refine List.ext_getElem (by simp [cmO]) fun k h1 h2 => ?_
  simp [cmO]
theorem cmO_snoc (n : Nat) (o : List Int) (i : Nat) : cmO n (o ++ [(i : Int)]) = (cmO n o).set i true := by
  refine List.ext_getElem (by simp [cmO]) fun k h1 h2 => ?_
  rw [List.getElem_set]
  simp only [cmO, List.getElem_map, List.getElem_range]
  by_cases e : i = k
  · subst e; simp
  · rw [if_neg e]
    have : ¬ (k : Int) = (i : Int) := by omega
    simp [this]
theorem mayC_cmO {LL : List (List Int)} {n : Nat} {o : List Int} {i : Nat} (hi : i < n) (hin : ∀ L ∈ LL, ∀ y ∈ L, 0 ≤ y ∧ y < (n : Int)) (hl : LL.length = n) : mayC LL (cmO n o) i = true ↔ MayO LL n o i := by
  have hLm : LL.getD i [] ∈ LL := getD_mem (by omega)
  unfold mayC MayO
  rw [Bool.and_eq_true, cmO_at hi, Bool.not_eq_true', List.all_eq_true]
  constructor
  · rintro ⟨h1, h2⟩
    refine ⟨hi, by simpa using h1, fun y hy => ?_⟩
    have h3 := h2 y hy
    have h4 := hin _ hLm y hy
    rw [cmO_at (by omega)] at h3
    have e : ((y.toNat : Nat) : Int) = y := by omega
    rw [e] at h3
    simpa using h3
  · rintro ⟨_, h1, h2⟩
    refine ⟨by simpa using h1, fun y hy => ?_⟩
    have h4 := hin _ hLm y hy
    have e : ((y.toNat : Nat) : Int) = y := by omega
    rw [cmO_at (by omega), e]
    simpa using h2 y hy
/-- marks of none but those that have come -/
def SubO (n : Nat) (o : List Int) (cm : List Bool) : Prop := cm.length = n ∧ ∀ i, i < n → cm.getD i false = true → (i : Int) ∈ o
theorem SubO.start (n : Nat) (o : List Int) : SubO n o (List.replicate n false) := ⟨by simp, fun i hi h => by simp [List.getD, hi] at h⟩
theorem SubO.turn {LL : List (List Int)} {n : Nat} {o : List Int} {cm : List Bool} (h : SubO n o cm) (hin : ∀ L ∈ LL, ∀ y ∈ L, 0 ≤ y ∧ y < (n : Int)) (hl : LL.length = n) (hno : ∀ j, ¬ MayO LL n o j) {i : Nat} (hi : i < n) : SubO n o (cm.set i (cm.getD i false || mayC LL cm i)) := by
  refine ⟨by rw [List.length_set]; exact h.1, fun k hk hc => ?_⟩
  rw [getD_set _ _ _ _ _ (by rw [h.1]; exact hi)] at hc
  by_cases e : k = i
  · subst e
    rw [if_pos rfl] at hc
    refine Decidable.byContradiction fun hn => hno k ⟨hk, hn, fun y hy => ?_⟩
    have h1 : cm.getD k false = false := by
      cases e : cm.getD k false
      · rfl
      · exact absurd (h.2 k hk e) hn
    rw [h1, Bool.false_or] at hc
    unfold mayC at hc
    rw [Bool.and_eq_true, List.all_eq_true] at hc
    have h2 := hc.2 y hy
    have h3 := hin _ (getD_mem (by omega)) y hy
    have h4 := h.2 y.toNat (by omega) h2
    have e : ((y.toNat : Nat) : Int) = y := by omega
    rw [e] at h4
    exact h4
  · rw [if_neg e] at hc
    exact h.2 k hk hc
theorem SubO.left {n : Nat} {o : List Int} {cm : List Bool} (h : SubO n o cm) (hl : o.length < n) : ∃ i, i < n ∧ cm.getD i false = false := by
  refine Decidable.byContradiction fun hn => ?_
  have hall : ∀ i, i < n → (i : Int) ∈ o := fun i hi => h.2 i hi (by
    cases e : cm.getD i false
    · exact absurd ⟨i, hi, e⟩ hn
    · rfl)
  have hnd : ((List.range n).map fun k : Nat => (k : Int)).Nodup := by
    unfold List.Nodup
    rw [List.pairwise_map]
    exact List.nodup_range.imp fun h e => h (by omega)
  have := hnd.length_le_of_subset (l₂ := o) fun x hx => by
    obtain ⟨k, hk, rfl⟩ := List.mem_map.1 hx
    exact hall k (List.mem_range.1 hk)
  rw [List.length_map, List.length_range] at this
  omega
theorem boxM (w : World) (A : Option Addr) (n c : Nat) : (w.alloc (.cells #[.slice A n c] 22)).heap[w.heap.size]? = some (.cells #[.slice A n c] 22 (0, 0)) := heap_alloc_new w _
theorem box_cell {w : World} {g : Nat} {v : Value} {t : TypeId} (h : w.heap[g]? = some (.cells #[v] t (0, 0))) : w.cell? ⟨g, 0, none⟩ = some v ∧ w.frozen? ⟨g, 0, none⟩ = false := blk_cell (cs := [v]) (i := 0) h rfl
theorem box_below {w w' : World} {g B : Nat} {o : Obj} (h : w.heap[g]? = some o) (hb : Below B w w') (hg : g < B) : w'.heap[g]? = some o := (hb.block g hg).trans h
set_option maxRecDepth 100000 in
set_option maxHeartbeats 4000000 in
theorem mergeOrder_many (w : World) (A : Option Addr) (n c : Nat) (LL : List (List Int)) (h : IntsLL w w.heap.size A n LL) (hn : n ≤ 5864062014805) (hL : ∀ L ∈ LL, L.length ≤ 17592186044416) (hs : ¬ (n ≤ 50 ∧ LL.flatten.length ≤ 500)) :
    Calls Try.prog 6 #[.slice A n c] w fun e w' => e = .returned (.bool true) ∧ Below w.heap.size w w' := by
  have hb0 := belowM w (.cells #[.slice A n c] 22)
  have hbx := boxM w A n c
  have cL := mLive_any (w.alloc (.cells #[.slice A n c] 22))
  have c1 := fun W (hb : Below w.heap.size w W) => fewM_any A n c _ LL W (h.below hb) hn hL false (decide_eq_false hs)
  clear h hL hs
  go_enter Try.func6, Try.ntmps6
  go_wp2_with (first | (go_at_call 9; refine cL.mono ?_; rintro e w1 ⟨rfl, hb1⟩; have hb2 := hb0.trans (hb1.mono hb0.size); obtain ⟨p1, _⟩ := box_cell (box_below hbx hb1 (by simp))) | (go_at_call 10; refine (c1 w1 hb2).mono ?_; rintro e w2 ⟨rfl, q2, hw2⟩; have hb3 := belowQ hb2 hw2; clear hw2))
  go_ret
  exact ⟨rfl, hb3⟩
set_option maxRecDepth 100000 in
set_option maxHeartbeats 4000000 in
theorem mergeOrder_out (w : World) (A : Option Addr) (n c : Nat) (LL : List (List Int)) (h : IntsLL w w.heap.size A n LL) (hL : ∀ L ∈ LL, L.length ≤ 17592186044416) (s1 : n ≤ 50) (s2 : LL.flatten.length ≤ 500) (hin : ¬ ∀ L ∈ LL, ∀ y ∈ L, 0 ≤ y ∧ y < (n : Int)) :
    Calls Try.prog 6 #[.slice A n c] w fun e w' => e = .returned (.bool true) ∧ Below w.heap.size w w' := by
  have hb0 := belowM w (.cells #[.slice A n c] 22)
  have hbx := boxM w A n c
  have cL := mLive_any (w.alloc (.cells #[.slice A n c] 22))
  have c1 := fun W (hb : Below w.heap.size w W) => few_small A n c _ LL W (h.below hb) hL s1 true (decide_eq_true s2)
  have hll : ∀ L ∈ LL, L.length ≤ 500 := fun L hm => by
    have : L.length ≤ LL.flatten.length := (List.sublist_flatten_of_mem hm).length_le
    omega
  have c2 := fun W (hb : Below w.heap.size w W) => order_out A n c LL W ((h.below hb).more hb.size) (by omega) (fun L hm => by have := hll L hm; omega) hin
  have HH := Lib.hid h
  have HLL := Lib.hid hll
  have HIN := Lib.hid hin
  clear h hL s2 hin hll
  go_enter Try.func6, Try.ntmps6
  go_wp2_with (first | (go_at_call 9; refine cL.mono ?_; rintro e w1 ⟨rfl, hb1⟩; have hb2 := hb0.trans (hb1.mono hb0.size); have hbx2 := box_below hbx hb1 (by simp); obtain ⟨p1, _⟩ := box_cell hbx2; clear hb1) | (go_at_call 10; refine (c1 w1 hb2).mono ?_; rintro e w2 ⟨rfl, q2, hw2⟩; have hb3 := belowQ hb2 hw2; have hbx3 : w2.heap[w.heap.size]? = some (.cells #[.slice A n c] 22 (0, 0)) := (by rw [hw2]; exact hbx2); clear hw2 p1 hb2; obtain ⟨p2, _⟩ := box_cell hbx3) | (go_at_call 22; refine (c2 w2 hb3).mono ?_; rintro e w3 ⟨rfl, hb4⟩; have HB := Lib.hid (hb3.trans (hb4.mono hb3.size)); have hbx4 := box_below hbx3 hb4 ((Array.getElem?_eq_some_iff.1 hbx3).1); clear hb3 hb4 p2; obtain ⟨p3, _⟩ := box_cell hbx4))
  go_loopw [30] (fun v wr => ∃ (k : Nat), v = .int .i64 (k : Int) ∧ k ≤ n ∧ Hid (∀ L ∈ LL.take k, ∀ y ∈ L, 0 ≤ y ∧ y < (n : Int)) ∧ wr = w3) (fun v _ => n - (intOf v).toNat)
  case atStart => exact ⟨0, rfl, Nat.zero_le _, fun L hL => by simp at hL, rfl⟩
  case round =>
    obtain ⟨k, rfl, hk, HK, rfl⟩ := hrel
    by_cases hlt : k < n
    · obtain ⟨b, off, L, a, lc, rfl, _, HX, hc1, hcap, hI⟩ := (HH.out.below HB.out).at_ hlt
      have hLb := HLL.out L (List.mem_of_getElem? HX.out)
      obtain ⟨M, hM⟩ : ∃ M, L.length = M := ⟨_, rfl⟩
      rw [hM] at hc1 hcap hI hLb
      have k0 : (0 : Int) ≤ (k : Int) := by omega
      have k1 : (k : Int) < (n : Int) := by omega
      obtain ⟨wo, hwo⟩ : ∃ wo : World, wo = wr := ⟨_, rfl⟩
      rw [← hwo] at HB hc1 hI p3 ⊢
      clear hwo hM
      go_wp2_with fail
      go_loopw [36] (fun v wx => ∃ (j : Nat), v = .int .i64 (j : Int) ∧ j ≤ M ∧ Hid (∀ y ∈ L.take j, 0 ≤ y ∧ y < (n : Int)) ∧ wx = wo) (fun v _ => M - (intOf v).toNat)
      case atStart => exact ⟨0, rfl, Nat.zero_le _, fun y hy => by simp at hy, rfl⟩
      case round =>
        obtain ⟨j, rfl, hj, HJ, rfl⟩ := hrel
        by_cases hjm : j < M
        · obtain ⟨b3, off3, y, rfl, _, HY, hcy, _, _⟩ := hI.at_ hjm
          have j0 : (0 : Int) ≤ (j : Int) := by omega
          have j1 : (j : Int) < (M : Int) := by omega
          by_cases hy0 : y < 0
          · have d0 : decide (y < 0) = true := decide_eq_true hy0
            go_wp2_with fail
            go_ret
            exact ⟨rfl, HB.out⟩
          · have d0 : decide (y < 0) = false := decide_eq_false hy0
            by_cases hyn : (n : Int) ≤ y
            · have d1 : decide ((n : Int) ≤ y) = true := decide_eq_true hyn
              go_wp2_with fail
              go_ret
              exact ⟨rfl, HB.out⟩
            · have d1 : decide ((n : Int) ≤ y) = false := decide_eq_false hyn
              have HJ2 : Hid (∀ y ∈ L.take (j + 1), 0 ≤ y ∧ y < (n : Int)) := fun z hz => by
                rw [take_succ_of HY.out] at hz
                rcases List.mem_append.1 hz with hz | hz
                · exact HJ.out z hz
                · rw [List.mem_singleton.1 hz]; omega
              clear hy0 hyn
              go_wp2_with fail
              go_roundw
              case rel => exact ⟨j + 1, by go_num, by omega, HJ2, by first | trivial | rfl⟩
              case measure => simp [intOf]; omega
        · obtain rfl : j = M := by omega
          have he : L.take j = L := by rw [← hI.1, List.take_length]
          have HK2 : Hid (∀ L ∈ LL.take (k + 1), ∀ y ∈ L, 0 ≤ y ∧ y < (n : Int)) := fun L' hL' y hy => by
            rw [take_succ_of HX.out] at hL'
            rcases List.mem_append.1 hL' with hL' | hL'
            · exact HK.out L' hL' y hy
            · rw [List.mem_singleton.1 hL'] at hy
              exact HJ.out y (by rw [he]; exact hy)
          clear hjm he
          go_wp2_with fail
          go_roundw
          case rel => exact ⟨k + 1, by go_num, by omega, HK2, by first | trivial | rfl⟩
          case measure => simp [intOf]; omega
    · exact absurd (fun L hL => HK.out L (by rw [List.take_of_length_le (by have := HH.out.1; omega)]; exact hL)) HIN.out
end Go.Proofs.Ytnaehnlpcjaaeaa
