/- The walk of MergeJoins. -/
import Derived.Test.YtnaehnlpcjaaeaaPMWhole
import Derived.Test.YtnaehnlpcjaaeaaG6
import Derived.Test.YtnaehnlpcjaaeaaG8
namespace Go.Proofs.Ytnaehnlpcjaaeaa
open Go.RowKit

theorem fewM_any (A : Option Addr) (n c B : Nat) (LL : List (List Int)) (w : World) (h : IntsLL w B A n LL) (hn : n ≤ 5864062014805) (hL : ∀ L ∈ LL, L.length ≤ 17592186044416) (R : Bool) (HR : decide (n ≤ 50 ∧ LL.flatten.length ≤ 500) = R) :
    Calls Try.prog 10 #[.slice A n c] w fun e w' => e = .returned (.bool R) ∧ ∃ q, w' = w.drewN q := by
  subst HR
  by_cases h1 : n ≤ 50
  · refine few_small A n c B LL w h hL h1 _ ?_
    unfold Hid
    congr 1
    exact propext ⟨fun h2 => ⟨h1, h2⟩, fun h2 => h2.2⟩
  · have e : decide (n ≤ 50 ∧ LL.flatten.length ≤ 500) = false := decide_eq_false fun h2 => h1 h2.1
    rw [e]
    exact few_big A n c B LL w h hn (by omega)
theorem UnionI.len {LL : List (List Int)} {u : List Int} (h : UnionI LL u) : u.length ≤ LL.flatten.length :=
  List.Nodup.length_le_of_subset (h.rise.imp fun h e => by omega) fun m hm => by
    obtain ⟨L, hL, hmL⟩ := (h.mem m).1 hm
    exact List.mem_flatten.2 ⟨L, hL, hmL⟩
theorem BothI.len {LL : List (List Int)} {u : List Int} (h : BothI LL u) : u.length ≤ LL.flatten.length :=
  List.Nodup.length_le_of_subset (h.rise.imp fun h e => by omega) fun m hm => by
    obtain ⟨L, hL, hmL⟩ := ((h.mem m).1 hm).1
    exact List.mem_flatten.2 ⟨L, hL, hmL⟩
theorem joins_union {a b : List (List Int)} {x y u v : List Int} (hx : UnionI a x) (hy : UnionI b y) (hu : UnionI (a ++ b) u) (hv : UnionI [x, y] v) : u = v := by
  refine rise_same hu.rise hv.rise fun m => ?_
  rw [hu.mem, hv.mem]
  constructor
  · rintro ⟨L, hL, hm⟩
    rcases List.mem_append.1 hL with hL | hL
    · exact ⟨x, by simp, (hx.mem m).2 ⟨L, hL, hm⟩⟩
    · exact ⟨y, by simp, (hy.mem m).2 ⟨L, hL, hm⟩⟩
  · rintro ⟨L, hL, hm⟩
    simp at hL
    rcases hL with rfl | rfl
    · obtain ⟨M, hM, hmm⟩ := (hx.mem m).1 hm
      exact ⟨M, List.mem_append.2 (.inl hM), hmm⟩
    · obtain ⟨M, hM, hmm⟩ := (hy.mem m).1 hm
      exact ⟨M, List.mem_append.2 (.inr hM), hmm⟩
theorem both_all {LL : List (List Int)} {u : List Int} (h : BothI LL u) (hne : LL ≠ []) (m : Int) : m ∈ u ↔ ∀ L ∈ LL, m ∈ L := by
  rw [h.mem]
  constructor
  · exact fun h => h.2
  · intro h2
    cases LL with
    | nil => exact absurd rfl hne
    | cons L r => exact ⟨⟨L, by simp, h2 L (by simp)⟩, h2⟩
theorem joins_both {a b : List (List Int)} {p q s t : List Int} (ha : a ≠ []) (hb : b ≠ []) (hp : BothI a p) (hq : BothI b q) (hs : BothI (a ++ b) s) (ht : BothI [p, q] t) : s = t := by
  refine rise_same hs.rise ht.rise fun m => ?_
  rw [both_all hs (by simp [ha]), both_all ht (by simp)]
  simp only [List.mem_append, List.mem_cons, List.not_mem_nil, or_false]
  constructor
  · intro h L hL
    rcases hL with rfl | rfl
    · exact (both_all hp ha m).2 fun M hM => h M (.inl hM)
    · exact (both_all hq hb m).2 fun M hM => h M (.inr hM)
  · intro h L hL
    rcases hL with hL | hL
    · exact (both_all hp ha m).1 (h p (.inl rfl)) L hL
    · exact (both_all hq hb m).1 (h q (.inr rfl)) L hL
/-- what Union, or Both, ends in, at any lists -/
theorem union_e (LA : Option Addr) (ln lc : Nat) (LL : List (List Int)) (w : World) (h : IntsLL w w.heap.size LA ln LL) (hln : ln ≤ 1000) (hT : LL.flatten.length ≤ 100000) :
    Calls Try.prog 13 #[.slice LA ln lc] w fun e w' => ∃ u A r c E, e = .returned (.tuple #[.slice A r c, .int .i64 E]) ∧ Ints w' w'.heap.size A r u ∧ r ≤ c ∧ ((AllRise LL ∧ E = 0 ∧ UnionI LL u) ∨ (¬ AllRise LL ∧ E = 1)) ∧ Below w.heap.size w w' := by
  by_cases hR : AllRise LL
  · refine (union_ok LA ln lc LL w h hln hT hR).mono ?_
    rintro e w' ⟨u, A, r, c, rfl, hr, hU, hO, hb⟩
    have h1 := hO.ints
    have h2 := hO.len_cap
    rw [hr] at h1 h2
    exact ⟨u, A, r, c, 0, rfl, h1, h2, .inl ⟨hR, rfl, hU⟩, hb⟩
  · have hL : ∀ L ∈ LL, L.length ≤ 9223372036854775806 := fun L hL => by
      have : L.length ≤ LL.flatten.length := (List.sublist_flatten_of_mem hL).length_le
      omega
    refine (union_err LA ln lc LL w h hL hln hR).mono ?_
    rintro e w' ⟨rfl, hb⟩
    exact ⟨[], none, 0, 0, 1, rfl, Ints.nil_, Nat.le_refl _, .inr ⟨hR, rfl⟩, hb⟩
theorem both_e (LA : Option Addr) (ln lc : Nat) (LL : List (List Int)) (w : World) (h : IntsLL w w.heap.size LA ln LL) (hln : ln ≤ 1000) (hT : LL.flatten.length ≤ 100000) :
    Calls Try.prog 15 #[.slice LA ln lc] w fun e w' => ∃ u A r c E, e = .returned (.tuple #[.slice A r c, .int .i64 E]) ∧ Ints w' w'.heap.size A r u ∧ r ≤ c ∧ ((AllRise LL ∧ E = 0 ∧ BothI LL u) ∨ (¬ AllRise LL ∧ E = 1)) ∧ Below w.heap.size w w' := by
  by_cases hR : AllRise LL
  · refine (both_ok LA ln lc LL w h hln hT hR).mono ?_
    rintro e w' ⟨u, A, r, c, rfl, hr, hU, hO, hb⟩
    have h1 := hO.ints
    have h2 := hO.len_cap
    rw [hr] at h1 h2
    exact ⟨u, A, r, c, 0, rfl, h1, h2, .inl ⟨hR, rfl, hU⟩, hb⟩
  · have hL : ∀ L ∈ LL, L.length ≤ 9223372036854775806 := fun L hL => by
      have : L.length ≤ LL.flatten.length := (List.sublist_flatten_of_mem hL).length_le
      omega
    refine (both_err LA ln lc LL w h hL hln hR).mono ?_
    rintro e w' ⟨rfl, hb⟩
    exact ⟨[], none, 0, 0, 1, rfl, Ints.nil_, Nat.le_refl _, .inr ⟨hR, rfl⟩, hb⟩
set_option maxRecDepth 100000 in
set_option maxHeartbeats 4000000 in
theorem mergeJoins_out (w : World) (A : Option Addr) (n c : Nat) (AA : List (List Int)) (h : IntsLL w w.heap.size A n AA) (hn : n ≤ 5864062014805) (hA : ∀ L ∈ AA, L.length ≤ 17592186044416) (B : Option Addr) (m d : Nat) (BB : List (List Int)) (h2 : IntsLL w w.heap.size B m BB) (hm : m ≤ 5864062014805) (hB : ∀ L ∈ BB, L.length ≤ 17592186044416) (hs : ¬ ((n ≤ 50 ∧ AA.flatten.length ≤ 500) ∧ (m ≤ 50 ∧ BB.flatten.length ≤ 500) ∧ 0 < n ∧ 0 < m)) :
    Calls Try.prog 7 #[.slice A n c, .slice B m d] w fun e w' => e = .returned (.bool true) ∧ Below w.heap.size w w' := by
  have cL := mLive_any w
  obtain ⟨R1, hR1⟩ : ∃ R, decide (n ≤ 50 ∧ AA.flatten.length ≤ 500) = R := ⟨_, rfl⟩
  obtain ⟨R2, hR2⟩ : ∃ R, decide (m ≤ 50 ∧ BB.flatten.length ≤ 500) = R := ⟨_, rfl⟩
  have c1 := fun W (hb : Below w.heap.size w W) => fewM_any A n c _ AA W (h.below hb) hn hA R1 hR1
  have c2 := fun W (hb : Below w.heap.size w W) => fewM_any B m d _ BB W (h2.below hb) hm hB R2 hR2
  have hcase : R1 = false ∨ (R1 = true ∧ R2 = false) ∨ (R1 = true ∧ R2 = true ∧ n = 0) ∨ (R1 = true ∧ R2 = true ∧ 0 < n ∧ m = 0) := by
    cases R1 with
    | false => exact .inl rfl
    | true =>
      cases R2 with
      | false => exact .inr (.inl ⟨rfl, rfl⟩)
      | true =>
        have h3 := of_decide_eq_true hR1
        have h4 := of_decide_eq_true hR2
        rcases Nat.eq_zero_or_pos n with h5 | h5
        · exact .inr (.inr (.inl ⟨rfl, rfl, h5⟩))
        · rcases Nat.eq_zero_or_pos m with h6 | h6
          · exact .inr (.inr (.inr ⟨rfl, rfl, h5, h6⟩))
          · exact absurd ⟨h3, h4, h5, h6⟩ hs
  clear h h2 hA hB hR1 hR2 hs
  rcases hcase with rfl | ⟨rfl, rfl⟩ | ⟨rfl, rfl, rfl⟩ | ⟨rfl, rfl, h5, rfl⟩
  · go_enter Try.func7, Try.ntmps7
    go_wp2_with (first | (go_at_call 9; refine cL.mono ?_; rintro e w1 ⟨rfl, hb1⟩) | (go_at_call 10; refine (c1 w1 hb1).mono ?_; rintro e w2 ⟨rfl, q2, hw2⟩; have hb2 := belowQ hb1 hw2; clear hw2))
    go_ret
    exact ⟨rfl, hb2⟩
  · go_enter Try.func7, Try.ntmps7
    go_wp2_with (go_at_call 9; refine cL.mono ?_; rintro e w1 ⟨rfl, hb1⟩)
    refine (c1 w1 hb1).mono ?_
    rintro e w2 ⟨rfl, q2, hw2⟩
    have hb2 := belowQ hb1 hw2
    clear hw2
    go_wp2_with fail
    refine (c2 w2 hb2).mono ?_
    rintro e w3 ⟨rfl, q3, hw3⟩
    have hb3 := belowQ hb2 hw3
    clear hw3
    go_wp2_with fail
    go_ret
    exact ⟨rfl, hb3⟩
  · go_enter Try.func7, Try.ntmps7
    go_wp2_with (go_at_call 9; refine cL.mono ?_; rintro e w1 ⟨rfl, hb1⟩)
    refine (c1 w1 hb1).mono ?_
    rintro e w2 ⟨rfl, q2, hw2⟩
    have hb2 := belowQ hb1 hw2
    clear hw2
    go_wp2_with fail
    refine (c2 w2 hb2).mono ?_
    rintro e w3 ⟨rfl, q3, hw3⟩
    have hb3 := belowQ hb2 hw3
    clear hw3
    go_wp2_with fail
    go_ret
    exact ⟨rfl, hb3⟩
  · have e5 : ((n : Int) == 0) = false := by simp; omega
    go_enter Try.func7, Try.ntmps7
    go_wp2_with (go_at_call 9; refine cL.mono ?_; rintro e w1 ⟨rfl, hb1⟩)
    refine (c1 w1 hb1).mono ?_
    rintro e w2 ⟨rfl, q2, hw2⟩
    have hb2 := belowQ hb1 hw2
    clear hw2
    go_wp2_with fail
    refine (c2 w2 hb2).mono ?_
    rintro e w3 ⟨rfl, q3, hw3⟩
    have hb3 := belowQ hb2 hw3
    clear hw3
    go_wp2_with fail
    go_ret
    exact ⟨rfl, hb3⟩
end Go.Proofs.Ytnaehnlpcjaaeaa
