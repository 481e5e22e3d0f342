/- Code without what is not reached: plain mathematics. Nothing is claimed of the program here. -/
import Derived.Test.YtgkngimeokhhgaaDoorG5
namespace Go.Proofs.YtgkngimeokhhgaaDoor
open Go.RowKit

open Classical in
noncomputable def wayB (c : Cd) (i : Nat) : Bool := decide (Way c.l (-1) i)
theorem wayB_iff {c : Cd} {i : Nat} : wayB c i = true ↔ Way c.l (-1) i := by unfold wayB; simp only [decide_eq_true_eq]
/-- how many are reached ahead of one -/
noncomputable def rk (c : Cd) (i : Nat) : Nat := ((List.range i).filter (wayB c)).length
def zJi : Ji := ⟨0, 0, 0, 0, 0⟩
/-- an instruction with its place told anew -/
def renum (f : Nat → Nat) (x : Ji) : Ji := if x.op = 10 then { x with a := (f x.a.toNat : Nat) } else if x.op = 11 ∨ x.op = 12 then { x with c := (f x.c.toNat : Nat) } else x
noncomputable def idxT (c : Cd) : List Nat := (List.range c.l.length).filter (wayB c)
noncomputable def Cd.trim (c : Cd) : Cd := ⟨c.R, c.A, c.I, (idxT c).map fun i => renum (rk c) (c.l.getD i zJi)⟩
theorem filter_at (p : Nat → Bool) {n i : Nat} (hi : i < n) (hp : p i = true) : ((List.range n).filter p)[((List.range i).filter p).length]? = some i := by
  obtain ⟨m, rfl⟩ : ∃ m, n = i + (m + 1) := ⟨n - i - 1, by omega⟩
  rw [List.range_add, List.filter_append, List.getElem?_append_right (Nat.le_refl _), Nat.sub_self, List.range_succ_eq_map]
  rw [List.map_cons, List.filter_cons]
  simp [hp]
theorem filter_lt (p : Nat → Bool) {n i : Nat} (hi : i < n) (hp : p i = true) : ((List.range i).filter p).length < ((List.range n).filter p).length := by
  have := filter_at p hi hp
  exact (List.getElem?_eq_some_iff.1 this).1
section
variable {c : Cd}
theorem rk_zero : rk c 0 = 0 := rfl
theorem rk_succ {i : Nat} (h : wayB c i = true) : rk c (i + 1) = rk c i + 1 := by
  unfold rk
  rw [List.range_succ, List.filter_append, List.length_append]
  simp [h]
theorem rk_lt {i j : Nat} (h : i < j) (hw : wayB c i = true) : rk c i < rk c j := filter_lt _ h hw
theorem idx_at {i : Nat} (hi : i < c.l.length) (hw : wayB c i = true) : (idxT c)[rk c i]? = some i := filter_at _ hi hw
theorem trim_len : c.trim.l.length = rk c c.l.length := by
  show ((idxT c).map _).length = _
  rw [List.length_map]; rfl
theorem trim_at {i : Nat} {x : Ji} (hx : c.l[i]? = some x) (hw : wayB c i = true) : c.trim.l[rk c i]? = some (renum (rk c) x) := by
  have hi := (List.getElem?_eq_some_iff.1 hx).1
  show ((idxT c).map _)[rk c i]? = _
  rw [List.getElem?_map, idx_at hi hw, Option.map_some, List.getD_eq_getElem?_getD, hx]
  rfl
theorem trim_of {k : Nat} {y : Ji} (hy : c.trim.l[k]? = some y) : ∃ i x, c.l[i]? = some x ∧ wayB c i = true ∧ k = rk c i ∧ y = renum (rk c) x := by
  have hk : k < (idxT c).length := by
    have := (List.getElem?_eq_some_iff.1 hy).1
    rw [trim_len] at this; exact this
  obtain ⟨i, hi⟩ : ∃ i, (idxT c)[k]? = some i := ⟨_, List.getElem?_eq_getElem hk⟩
  have hm := List.mem_of_getElem? hi
  unfold idxT at hm
  rw [List.mem_filter, List.mem_range] at hm
  have hat := idx_at hm.1 hm.2
  have hki : k = rk c i := by
    have hnd : (idxT c).Pairwise (· < ·) := List.Pairwise.sublist List.filter_sublist List.pairwise_lt_range
    obtain ⟨hk1, e1⟩ := List.getElem?_eq_some_iff.1 hi
    obtain ⟨hk2, e2⟩ := List.getElem?_eq_some_iff.1 hat
    have hp := List.pairwise_iff_getElem.1 hnd
    rcases Nat.lt_trichotomy k (rk c i) with hlt | heq | hgt
    · have := hp _ _ hk1 hk2 hlt; omega
    · exact heq
    · have := hp _ _ hk2 hk1 hgt; omega
  obtain ⟨x, hx⟩ : ∃ x, c.l[i]? = some x := ⟨_, List.getElem?_eq_getElem hm.1⟩
  subst hki
  rw [trim_at hx hm.2] at hy
  injection hy with hy
  exact ⟨i, x, hx, hm.2, rfl, hy.symm⟩
theorem renum_reads (f : Nat → Nat) (x : Ji) (h : 0 ≤ x.op ∧ x.op ≤ 12) : readsJ (renum f x) = readsJ x ∧ setsJ (renum f x) = setsJ x ∧ writesJ (renum f x) = writesJ x ∧ (renum f x).op = x.op ∧ (renum f x).n = x.n := by
  obtain ⟨op, a, b, c, n⟩ := x
  dsimp only at h
  rcases op_cases h.1 h.2 with rfl | rfl | rfl | rfl | rfl | rfl | rfl | rfl | rfl | rfl | rfl | rfl | rfl <;> exact ⟨rfl, rfl, rfl, rfl, rfl⟩
end
section
variable {c : Cd} (h : c.may = true)
include h
theorem next_trim {i : Nat} {x : Ji} (hx : c.l[i]? = some x) (hw : wayB c i = true) : nextJ (renum (rk c) x) (rk c i : Nat) = (nextJ x i).map fun z => ((rk c z.toNat : Nat) : Int) := by
  obtain ⟨⟨_, _, _, _, _, _, n0, n1⟩, h2, _⟩ := Cd.may_parts h
  have hm := h2 x (List.mem_of_getElem? hx)
  have hi := (List.getElem?_eq_some_iff.1 hx).1
  have hr : rk c i ≤ i := by
    unfold rk
    have := List.length_filter_le (wayB c) (List.range i)
    rwa [List.length_range] at this
  have w1 : wrap64 (((rk c i : Nat) : Int) + 1) = ((rk c i : Nat) : Int) + 1 := wrap_small (by omega) (by omega)
  have w2 : wrap64 ((i : Int) + 1) = (i : Int) + 1 := wrap_small (by omega) (by omega)
  have hs := rk_succ hw
  have hs2 : ((rk c i : Nat) : Int) + 1 = ((rk c ((i : Int) + 1).toNat : Nat) : Int) := by rw [show ((i : Int) + 1).toNat = i + 1 by omega, hs]; omega
  obtain ⟨⟨h0, h1⟩, _⟩ := mayJ_parts hm
  obtain ⟨op, a, b, cc, m⟩ := x
  dsimp only at h0 h1
  unfold nextJ
  rw [w1, w2, hs2]
  rcases op_cases h0 h1 with rfl | rfl | rfl | rfl | rfl | rfl | rfl | rfl | rfl | rfl | rfl | rfl | rfl <;> rfl
theorem way_trim {but : Int} {k : Nat} : Way c.trim.l but k ↔ ∃ i, Way c.l but i ∧ k = rk c i := by
  constructor
  · intro hw
    induction hw with
    | start => exact ⟨0, .start, rfl⟩
    | @step j k y hj hy hs hk ih =>
      obtain ⟨i, hi, hji⟩ := ih
      obtain ⟨i', x, hx, hwb, hji', rfl⟩ := trim_of hy
      have hib := wayB_iff.2 (Way.all_ h hi)
      have hii : i = i' := by
        rcases Nat.lt_trichotomy i i' with hlt | heq | hgt
        · have := rk_lt (c := c) hlt hib; omega
        · exact heq
        · have := rk_lt (c := c) hgt hwb; omega
      subst hii
      have hm := (Cd.may_parts h).2.1 x (List.mem_of_getElem? hx)
      obtain ⟨_, r2, r3, _⟩ := renum_reads (rk c) x (mayJ_parts hm).1
      rw [r2, r3] at hs
      rw [hji, next_trim h hx hwb, List.mem_map] at hk
      obtain ⟨z, hz, hzk⟩ := hk
      have hzr := Cd.next_in h hx z hz
      refine ⟨z.toNat, .step hi hx hs (by rw [Int.toNat_of_nonneg hzr.1]; exact hz), by omega⟩
  · rintro ⟨i, hi, rfl⟩
    induction hi with
    | start => exact .start
    | @step j k x hj hx hs hk ih =>
      have hib := wayB_iff.2 (Way.all_ h hj)
      have hm := (Cd.may_parts h).2.1 x (List.mem_of_getElem? hx)
      obtain ⟨_, r2, r3, _⟩ := renum_reads (rk c) x (mayJ_parts hm).1
      refine .step ih (trim_at hx hib) (by rw [r2, r3]; exact hs) ?_
      rw [next_trim h hx hib, List.mem_map]
      exact ⟨(k : Int), hk, by rw [Int.toNat_natCast]⟩
theorem way_trim_at {but : Int} {i : Nat} (hw : wayB c i = true) : Way c.trim.l but (rk c i) ↔ Way c.l but i := by
  rw [way_trim h]
  constructor
  · rintro ⟨j, hj, e⟩
    have hjb := wayB_iff.2 (Way.all_ h hj)
    rcases Nat.lt_trichotomy i j with hlt | heq | hgt
    · have := rk_lt (c := c) hlt hw; omega
    · rw [heq]; exact hj
    · have := rk_lt (c := c) hgt hjb; omega
  · exact fun hi => ⟨i, hi, rfl⟩
theorem set_trim {i : Nat} (hw : wayB c i = true) : setN c.trim (rk c i) = setN c i := by
  unfold setN
  show ((List.range c.R.toNat).filter _).map _ = _
  congr 1
  refine List.filter_congr fun n _ => ?_
  rw [decide_eq_decide, way_trim_at h hw, way_trim_at h hw]
/-- all of it is reached -/
theorem reach_trim {k : Nat} (hk : k < c.trim.l.length) : Way c.trim.l (-1) k := by
  obtain ⟨y, hy⟩ : ∃ y, c.trim.l[k]? = some y := ⟨_, List.getElem?_eq_getElem hk⟩
  obtain ⟨i, x, hx, hwb, rfl, rfl⟩ := trim_of hy
  exact (way_trim_at h hwb).2 (wayB_iff.1 hwb)
omit h in
theorem rk_in {z : Int} (h0 : 0 ≤ z) (h1 : z < c.l.length) (hw : wayB c z.toNat = true) : rk c z.toNat < c.trim.l.length := by
  rw [trim_len]
  exact rk_lt (by omega) hw
theorem next_way {i : Nat} {x : Ji} (hx : c.l[i]? = some x) (hw : wayB c i = true) {z : Int} (hz : z ∈ nextJ x i) : wayB c z.toNat = true := by
  have hzr := Cd.next_in h hx z hz
  exact wayB_iff.2 (Way.on h (wayB_iff.1 hw) hx (by rw [Int.toNat_of_nonneg hzr.1]; exact hz))
theorem mayJ_trim {i : Nat} {x : Ji} (hx : c.l[i]? = some x) (hw : wayB c i = true) : mayJ c.R c.A c.trim.l.length (renum (rk c) x) = true := by
  have hm := (Cd.may_parts h).2.1 x (List.mem_of_getElem? hx)
  have hnx := fun z hz => next_way h hx hw (z := z) hz
  have hnr := Cd.next_in h hx
  have hrk := fun z h0 h1 hw => rk_in (c := c) (z := z) h0 h1 hw
  obtain ⟨h0, h2, h3, h4⟩ := mayJ_parts hm
  obtain ⟨_, _, _, ro, rn⟩ := renum_reads (rk c) x h0
  refine mayJ_intro (by rw [ro]; exact h0) (fun j hj => ?_) (by rw [ro, rn]; exact h3) (by rw [ro, rn]; exact h4)
  have q := h2 j hj
  obtain ⟨op, a, b, cc, m⟩ := x
  dsimp only at h0
  unfold InB at q ⊢
  have key10 : op = 10 → (rk c a.toNat : Nat) < c.trim.l.length := fun e => by
    subst e
    have hz : a ∈ nextJ ⟨10, a, b, cc, m⟩ (i : Int) := by simp [nextJ]
    exact hrk a (hnr a hz).1 (hnr a hz).2 (hnx a hz)
  have key11 : op = 11 ∨ op = 12 → (rk c cc.toNat : Nat) < c.trim.l.length := fun e => by
    have hz : cc ∈ nextJ ⟨op, a, b, cc, m⟩ (i : Int) := by rcases e with rfl | rfl <;> simp [nextJ]
    exact hrk cc (hnr cc hz).1 (hnr cc hz).2 (hnx cc hz)
  match j, hj with
  | 0, _ => rcases op_cases h0.1 h0.2 with rfl | rfl | rfl | rfl | rfl | rfl | rfl | rfl | rfl | rfl | rfl | rfl | rfl <;> (simp [kJ, kindsJ, limJ, Ji.f, renum] at q key10 key11 ⊢; try omega)
  | 1, _ => rcases op_cases h0.1 h0.2 with rfl | rfl | rfl | rfl | rfl | rfl | rfl | rfl | rfl | rfl | rfl | rfl | rfl <;> (simp [kJ, kindsJ, limJ, Ji.f, renum] at q key10 key11 ⊢; try omega)
  | 2, _ => rcases op_cases h0.1 h0.2 with rfl | rfl | rfl | rfl | rfl | rfl | rfl | rfl | rfl | rfl | rfl | rfl | rfl <;> (simp [kJ, kindsJ, limJ, Ji.f, renum] at q key10 key11 ⊢; try omega)
/-- trimmed, code may be -/
theorem trim_may : c.trim.may = true := by
  obtain ⟨⟨r0, r1, a0, a1, i0, i1, n0, n1⟩, h2, _⟩ := Cd.may_parts h
  have hw0 : wayB c 0 = true := wayB_iff.2 .start
  have hpos : 1 ≤ c.trim.l.length := by
    rw [trim_len]
    have := rk_lt (c := c) (i := 0) (j := c.l.length) (by omega) hw0
    omega
  have hle : c.trim.l.length ≤ c.l.length := by
    rw [trim_len]
    unfold rk
    have := List.length_filter_le (wayB c) (List.range c.l.length)
    rwa [List.length_range] at this
  unfold Cd.may
  rw [Bool.and_eq_true, Bool.and_eq_true]
  refine ⟨⟨decide_eq_true ⟨r0, r1, a0, a1, i0, i1, hpos, by omega⟩, List.all_eq_true.2 fun y hy => ?_⟩, ?_⟩
  · obtain ⟨k, hk⟩ := List.mem_iff_getElem?.1 hy
    obtain ⟨i, x, hx, hwb, rfl, rfl⟩ := trim_of hk
    exact mayJ_trim h hx hwb
  · obtain ⟨y, hy⟩ : ∃ y, c.trim.l[c.trim.l.length - 1]? = some y := ⟨_, List.getElem?_eq_getElem (by omega)⟩
    rw [List.getLast?_eq_getElem?, hy]
    obtain ⟨i, x, hx, hwb, hk, rfl⟩ := trim_of hy
    have hm := h2 x (List.mem_of_getElem? hx)
    obtain ⟨h0, _⟩ := mayJ_parts hm
    obtain ⟨_, _, _, ro, _⟩ := renum_reads (rk c) x h0
    show decide ((renum (rk c) x).op = 0 ∨ (renum (rk c) x).op = 10) = true
    rw [ro]
    refine decide_eq_true ?_
    apply Classical.byContradiction
    intro hn
    have hi := (List.getElem?_eq_some_iff.1 hx).1
    have hz : ((i : Int) + 1) ∈ nextJ x i := by
      have w2 : wrap64 ((i : Int) + 1) = (i : Int) + 1 := wrap_small (by omega) (by omega)
      unfold nextJ
      rw [w2, if_neg (by omega), if_neg (by omega)]
      split <;> simp
    have hw1 := next_way h hx hwb hz
    have hr1 := Cd.next_in h hx _ hz
    rw [show ((i : Int) + 1).toNat = i + 1 by omega] at hw1
    have e1 := rk_succ hwb
    have e2 := rk_lt (c := c) (i := i + 1) (j := c.l.length) (by omega) hw1
    rw [trim_len] at hk
    omega
theorem trim_again : c.trim.trim = c.trim := by
  have hall : ∀ k, k < c.trim.l.length → wayB c.trim k = true := fun k hk => wayB_iff.2 (reach_trim h hk)
  have hidx : idxT c.trim = List.range c.trim.l.length := by
    unfold idxT
    exact List.filter_eq_self.2 fun k hk => hall k (List.mem_range.1 hk)
  have hrk : ∀ k, k ≤ c.trim.l.length → rk c.trim k = k := by
    intro k hk
    unfold rk
    rw [List.filter_eq_self.2 fun j hj => hall j (by have := List.mem_range.1 hj; omega), List.length_range]
  have hmay := trim_may h
  have : c.trim.trim.l = c.trim.l := by
    show (idxT c.trim).map _ = _
    rw [hidx]
    refine List.ext_getElem? fun k => ?_
    rw [List.getElem?_map]
    by_cases hk : k < c.trim.l.length
    · obtain ⟨y, hy⟩ : ∃ y, c.trim.l[k]? = some y := ⟨_, List.getElem?_eq_getElem hk⟩
      rw [List.getElem?_range hk, Option.map_some, List.getD_eq_getElem?_getD, hy]
      show some (renum (rk c.trim) y) = some y
      congr 1
      have hnr := Cd.next_in hmay hy
      obtain ⟨op, a, b, cc, m⟩ := y
      unfold renum
      dsimp only
      split
      · rename_i e
        subst e
        have hz : a ∈ nextJ ⟨10, a, b, cc, m⟩ (k : Int) := by simp [nextJ]
        have := hnr a hz
        rw [hrk a.toNat (by omega), Int.toNat_of_nonneg this.1]
      · split
        · rename_i e
          have hz : cc ∈ nextJ ⟨op, a, b, cc, m⟩ (k : Int) := by rcases e with rfl | rfl <;> simp [nextJ]
          have := hnr cc hz
          rw [hrk cc.toNat (by omega), Int.toNat_of_nonneg this.1]
        · rfl
    · rw [List.getElem?_eq_none (by simpa using hk), List.getElem?_eq_none (by omega)]
      rfl
  show (⟨c.R, c.A, c.I, c.trim.trim.l⟩ : Cd) = ⟨c.R, c.A, c.I, c.trim.l⟩
  rw [this]
/-- trimmed, code is checked, if it was -/
theorem trim_valid (hv : validE c = 0) : validE c.trim = 0 := by
  unfold validE at hv ⊢
  rw [h] at hv
  rw [trim_may h]
  simp only [Bool.true_eq_false, if_false] at hv ⊢
  split at hv
  · cases hv
  · rename_i hu
    have hu : unsetN c = [] := Classical.not_not.1 hu
    split at hv
    · cases hv
    · rename_i ha
      have hu2 : unsetN c.trim = [] := by
        unfold unsetN
        refine List.filter_eq_nil_iff.2 fun k _ => ?_
        simp only [decide_eq_true_eq]
        rintro ⟨hk, y, hy, r, hr, hrs⟩
        obtain ⟨i, x, hx, hwb, rfl, rfl⟩ := trim_of hy
        have hm := (Cd.may_parts h).2.1 x (List.mem_of_getElem? hx)
        rw [(renum_reads (rk c) x (mayJ_parts hm).1).1] at hr
        rw [set_trim h hwb] at hrs
        have : i ∈ unsetN c := by
          unfold unsetN
          rw [List.mem_filter, List.mem_range]
          exact ⟨(List.getElem?_eq_some_iff.1 hx).1, by simp only [decide_eq_true_eq]; exact ⟨wayB_iff.1 hwb, x, hx, r, hr, hrs⟩⟩
        rw [hu] at this
        cases this
      rw [if_neg (by rw [hu2]; simp), if_neg]
      intro hc
      apply ha
      rw [List.any_eq_true] at hc ⊢
      obtain ⟨y, hy, hp⟩ := hc
      obtain ⟨k, hk⟩ := List.mem_iff_getElem?.1 hy
      obtain ⟨i, x, hx, hwb, rfl, rfl⟩ := trim_of hk
      have hm := (Cd.may_parts h).2.1 x (List.mem_of_getElem? hx)
      obtain ⟨_, _, _, ro, _⟩ := renum_reads (rk c) x (mayJ_parts hm).1
      refine ⟨x, List.mem_of_getElem? hx, ?_⟩
      rw [ro] at hp
      rw [Bool.and_eq_true] at hp ⊢
      refine ⟨hp.1, ?_⟩
      have h79 : x.op = 7 ∨ x.op = 9 := by simpa using hp.1
      have : (renum (rk c) x).a = x.a := by
        unfold renum
        rw [if_neg (by omega), if_neg (by omega)]
      rw [this] at hp
      exact hp.2
end
end Go.Proofs.YtgkngimeokhhgaaDoor
/- Code that runs, step by step, as plain lists; what more steps and more room do, and fewer. -/
namespace Go.Proofs.YtgkngimeokhhgaaDoor
open Go.RowKit

/-- where code stands: its place, its registers, its arrays, how many steps, how many numbers were pushed -/
structure Ms where
  at_ : Nat
  R : List Int
  A : List (List Int)
  st : Nat
  ce : Nat
def Ms.r (s : Ms) (i : Int) : Int := s.R.getD i.toNat 0
def Ms.a (s : Ms) (i : Int) : List Int := s.A.getD i.toNat []
def Ms.put (s : Ms) (i v : Int) : Ms := { s with R := s.R.set i.toNat v }
def Ms.arr (s : Ms) (i : Int) (l : List Int) : Ms := { s with A := s.A.set i.toNat l }
def Ms.goto_ (s : Ms) (i : Int) : Ms := { s with at_ := i.toNat }
/-- one instruction, once its step is counted -/
def doM (s : Ms) (x : Ji) (cells : Int) : Except Int Ms :=
  if x.op = 1 then .ok (s.put x.a x.n)
  else if x.op = 2 then .ok (s.put x.a (s.r x.b))
  else if x.op = 3 then .ok (s.put x.a (wrap64 (s.r x.b + s.r x.c)))
  else if x.op = 4 then .ok (s.put x.a (wrap64 (s.r x.b - s.r x.c)))
  else if x.op = 5 then .ok (s.put x.a (wrap64 (s.r x.b * s.r x.c)))
  else if x.op = 6 then
    if s.r x.c < 0 ∨ ((s.a x.b).length : Int) ≤ s.r x.c then .error 3 else .ok (s.put x.a ((s.a x.b).getD (s.r x.c).toNat 0))
  else if x.op = 7 then
    if s.r x.b < 0 ∨ ((s.a x.a).length : Int) ≤ s.r x.b then .error 3 else .ok (s.arr x.a ((s.a x.a).set (s.r x.b).toNat (s.r x.c)))
  else if x.op = 8 then .ok (s.put x.a ((s.a x.b).length : Int))
  else if x.op = 9 then
    if cells ≤ (s.ce : Int) then .error 10 else .ok { s.arr x.a (s.a x.a ++ [s.r x.b]) with ce := s.ce + 1 }
  else if x.op = 10 then .ok (s.goto_ x.a)
  else if x.op = 11 then .ok (if s.r x.a < s.r x.b then s.goto_ x.c else s)
  else if x.op = 12 then .ok (if s.r x.a = s.r x.b then s.goto_ x.c else s)
  else .ok s
def Ms.tick (s : Ms) : Ms := { s with at_ := s.at_ + 1, st := s.st + 1 }
def stepM (s : Ms) (x : Ji) (cells : Int) : Except Int Ms := doM s.tick x cells
/-- code from where it stands, with so many steps left: where it ends, and the way there -/
def goM (c : Cd) (cells : Int) : Nat → Ms → Except Int (Ms × List Nat)
  | 0, _ => .error 9
  | k + 1, s => match stepM s (c.l.getD s.at_ zJi) cells with
    | .error e => .error e
    | .ok s2 => if (c.l.getD s.at_ zJi).op = 0 then .ok (s2, [s.at_]) else match goM c cells k s2 with
      | .error e => .error e
      | .ok zp => .ok (zp.1, s.at_ :: zp.2)
def startM (c : Cd) (ins : List (List Int)) : Ms := ⟨0, List.replicate c.R.toNat 0, ins ++ List.replicate (c.A.toNat - ins.length) [], 0, 0⟩
noncomputable def runM (c : Cd) (fuel cells : Int) (ins : List (List Int)) : Except Int (Ms × List Nat) :=
  if validE c ≠ 0 then .error (validE c) else if fuel < 0 ∨ cells < 0 ∨ (ins.length : Int) ≠ c.I then .error 1 else goM c cells fuel.toNat (startM c ins)

/-- what a step does, and keeps: it counts one, pushes one at most, and no array comes or goes -/
theorem doM_cases (s : Ms) (x : Ji) (cells : Int) :
    ((x.op = 6 ∨ x.op = 7) ∧ ∀ cells2, doM s x cells2 = .error 3) ∨ (x.op = 9 ∧ cells ≤ (s.ce : Int) ∧ doM s x cells = .error 10) ∨
    (x.op = 9 ∧ ¬ cells ≤ (s.ce : Int) ∧ doM s x cells = .ok { s.arr x.a (s.a x.a ++ [s.r x.b]) with ce := s.ce + 1 }) ∨
    (x.op ≠ 9 ∧ ∃ z, (∀ cells2, doM s x cells2 = .ok z) ∧ z.st = s.st ∧ z.R.length = s.R.length ∧ z.A.length = s.A.length ∧ z.ce = s.ce) := by
  by_cases e1 : x.op = 1
  · exact .inr (.inr (.inr ⟨by omega, s.put x.a x.n, fun _ => (by unfold doM; rw [if_pos e1]), rfl, by simp [Ms.put], rfl, rfl⟩))
  by_cases e2 : x.op = 2
  · exact .inr (.inr (.inr ⟨by omega, s.put x.a (s.r x.b), fun _ => (by unfold doM; rw [if_neg e1, if_pos e2]), rfl, by simp [Ms.put], rfl, rfl⟩))
  by_cases e3 : x.op = 3
  · exact .inr (.inr (.inr ⟨by omega, s.put x.a (wrap64 (s.r x.b + s.r x.c)), fun _ => (by unfold doM; rw [if_neg e1, if_neg e2, if_pos e3]), rfl, by simp [Ms.put], rfl, rfl⟩))
  by_cases e4 : x.op = 4
  · exact .inr (.inr (.inr ⟨by omega, s.put x.a (wrap64 (s.r x.b - s.r x.c)), fun _ => (by unfold doM; rw [if_neg e1, if_neg e2, if_neg e3, if_pos e4]), rfl, by simp [Ms.put], rfl, rfl⟩))
  by_cases e5 : x.op = 5
  · exact .inr (.inr (.inr ⟨by omega, s.put x.a (wrap64 (s.r x.b * s.r x.c)), fun _ => (by unfold doM; rw [if_neg e1, if_neg e2, if_neg e3, if_neg e4, if_pos e5]), rfl, by simp [Ms.put], rfl, rfl⟩))
  by_cases e6 : x.op = 6
  · by_cases e : s.r x.c < 0 ∨ ((s.a x.b).length : Int) ≤ s.r x.c
    · exact .inl ⟨by omega, fun _ => (by unfold doM; rw [if_neg e1, if_neg e2, if_neg e3, if_neg e4, if_neg e5, if_pos e6, if_pos e])⟩
    · exact .inr (.inr (.inr ⟨by omega, s.put x.a ((s.a x.b).getD (s.r x.c).toNat 0), fun _ => (by unfold doM; rw [if_neg e1, if_neg e2, if_neg e3, if_neg e4, if_neg e5, if_pos e6, if_neg e]), rfl, by simp [Ms.put], by simp [Ms.put], rfl⟩))
  by_cases e7 : x.op = 7
  · by_cases e : s.r x.b < 0 ∨ ((s.a x.a).length : Int) ≤ s.r x.b
    · exact .inl ⟨by omega, fun _ => (by unfold doM; rw [if_neg e1, if_neg e2, if_neg e3, if_neg e4, if_neg e5, if_neg e6, if_pos e7, if_pos e])⟩
    · exact .inr (.inr (.inr ⟨by omega, s.arr x.a ((s.a x.a).set (s.r x.b).toNat (s.r x.c)), fun _ => (by unfold doM; rw [if_neg e1, if_neg e2, if_neg e3, if_neg e4, if_neg e5, if_neg e6, if_pos e7, if_neg e]), rfl, by simp [Ms.arr], by simp [Ms.arr], rfl⟩))
  by_cases e8 : x.op = 8
  · exact .inr (.inr (.inr ⟨by omega, s.put x.a ((s.a x.b).length : Int), fun _ => (by unfold doM; rw [if_neg e1, if_neg e2, if_neg e3, if_neg e4, if_neg e5, if_neg e6, if_neg e7, if_pos e8]), rfl, by simp [Ms.put], rfl, rfl⟩))
  by_cases e9 : x.op = 9
  · by_cases e : cells ≤ (s.ce : Int)
    · exact .inr (.inl ⟨e9, e, by unfold doM; rw [if_neg e1, if_neg e2, if_neg e3, if_neg e4, if_neg e5, if_neg e6, if_neg e7, if_neg e8, if_pos e9, if_pos e]⟩)
    · exact .inr (.inr (.inl ⟨e9, e, by unfold doM; rw [if_neg e1, if_neg e2, if_neg e3, if_neg e4, if_neg e5, if_neg e6, if_neg e7, if_neg e8, if_pos e9, if_neg e]⟩))
  by_cases e10 : x.op = 10
  · exact .inr (.inr (.inr ⟨by omega, s.goto_ x.a, fun _ => (by unfold doM; rw [if_neg e1, if_neg e2, if_neg e3, if_neg e4, if_neg e5, if_neg e6, if_neg e7, if_neg e8, if_neg e9, if_pos e10]), rfl, rfl, rfl, rfl⟩))
  by_cases e11 : x.op = 11
  · by_cases e : s.r x.a < s.r x.b
    · exact .inr (.inr (.inr ⟨by omega, s.goto_ x.c, fun _ => (by unfold doM; rw [if_neg e1, if_neg e2, if_neg e3, if_neg e4, if_neg e5, if_neg e6, if_neg e7, if_neg e8, if_neg e9, if_neg e10, if_pos e11, if_pos e]), rfl, rfl, rfl, rfl⟩))
    · exact .inr (.inr (.inr ⟨by omega, s, fun _ => (by unfold doM; rw [if_neg e1, if_neg e2, if_neg e3, if_neg e4, if_neg e5, if_neg e6, if_neg e7, if_neg e8, if_neg e9, if_neg e10, if_pos e11, if_neg e]), rfl, rfl, rfl, rfl⟩))
  by_cases e12 : x.op = 12
  · by_cases e : s.r x.a = s.r x.b
    · exact .inr (.inr (.inr ⟨by omega, s.goto_ x.c, fun _ => (by unfold doM; rw [if_neg e1, if_neg e2, if_neg e3, if_neg e4, if_neg e5, if_neg e6, if_neg e7, if_neg e8, if_neg e9, if_neg e10, if_neg e11, if_pos e12, if_pos e]), rfl, rfl, rfl, rfl⟩))
    · exact .inr (.inr (.inr ⟨by omega, s, fun _ => (by unfold doM; rw [if_neg e1, if_neg e2, if_neg e3, if_neg e4, if_neg e5, if_neg e6, if_neg e7, if_neg e8, if_neg e9, if_neg e10, if_neg e11, if_pos e12, if_neg e]), rfl, rfl, rfl, rfl⟩))
  exact .inr (.inr (.inr ⟨by omega, s, fun _ => (by unfold doM; rw [if_neg e1, if_neg e2, if_neg e3, if_neg e4, if_neg e5, if_neg e6, if_neg e7, if_neg e8, if_neg e9, if_neg e10, if_neg e11, if_neg e12]), rfl, rfl, rfl, rfl⟩))
theorem doM_keeps {s z : Ms} {x : Ji} {cells : Int} (h : doM s x cells = .ok z) : z.st = s.st ∧ z.R.length = s.R.length ∧ z.A.length = s.A.length ∧ s.ce ≤ z.ce ∧ z.ce = s.ce + (if x.op = 9 then 1 else 0) ∧ (s.ce ≤ cells → z.ce ≤ cells) := by
  rcases doM_cases s x cells with ⟨_, h1⟩ | ⟨_, _, h1⟩ | ⟨e, h2, h1⟩ | ⟨e, z2, h1, k1, k2, k3, k4⟩
  · rw [h1] at h; cases h
  · rw [h1] at h; cases h
  · rw [h1] at h
    injection h with h
    subst h
    rw [if_pos e]
    refine ⟨rfl, rfl, by simp [Ms.arr], Nat.le_succ _, rfl, fun h3 => ?_⟩
    show ((s.ce + 1 : Nat) : Int) ≤ cells
    omega
  · rw [h1] at h
    injection h with h
    subst h
    rw [if_neg e]
    exact ⟨k1, k2, k3, by omega, by omega, fun h3 => by omega⟩
theorem doM_errors {s : Ms} {x : Ji} {cells e : Int} (h : doM s x cells = .error e) : (e = 3 ∧ (x.op = 6 ∨ x.op = 7)) ∨ (e = 10 ∧ x.op = 9 ∧ cells ≤ s.ce) := by
  rcases doM_cases s x cells with ⟨h2, h1⟩ | ⟨h2, h3, h1⟩ | ⟨_, h2, h1⟩ | ⟨_, z2, h1, _⟩
  · rw [h1] at h; injection h with h; exact .inl ⟨h.symm, h2⟩
  · rw [h1] at h; injection h with h; exact .inr ⟨h.symm, h2, h3⟩
  · rw [h1] at h; cases h
  · rw [h1] at h; cases h
/-- more room does no harm; nor does less, if it is enough -/
theorem doM_room {s z : Ms} {x : Ji} {cells cells2 : Int} (h : doM s x cells = .ok z) (h2 : (z.ce : Int) ≤ cells2) : doM s x cells2 = .ok z := by
  rcases doM_cases s x cells with ⟨_, h1⟩ | ⟨_, _, h1⟩ | ⟨e, _, h1⟩ | ⟨_, z2, h1, _⟩
  · rw [h1] at h; cases h
  · rw [h1] at h; cases h
  · rw [h1] at h
    injection h with h
    subst h
    have h2 : ((s.ce + 1 : Nat) : Int) ≤ cells2 := h2
    rcases doM_cases s x cells2 with ⟨h3, _⟩ | ⟨_, h3, _⟩ | ⟨_, _, h4⟩ | ⟨h3, _⟩
    · omega
    · omega
    · exact h4
    · exact absurd e h3
  · rw [h1] at h
    injection h with h
    subst h
    exact h1 _
/-- less room than it took -/
theorem doM_short {s z : Ms} {x : Ji} {cells cells2 : Int} (h : doM s x cells = .ok z) (h1 : (s.ce : Int) ≤ cells2) : doM s x cells2 = .ok z ∨ (doM s x cells2 = .error 10 ∧ cells2 < z.ce) := by
  by_cases h3 : (z.ce : Int) ≤ cells2
  · exact .inl (doM_room h h3)
  · refine .inr ⟨?_, by omega⟩
    have hk := (doM_keeps h).2.2.2.2.1
    split at hk
    · rename_i e
      rcases doM_cases s x cells2 with ⟨h4, _⟩ | ⟨_, _, h5⟩ | ⟨_, h4, _⟩ | ⟨h4, _⟩
      · omega
      · exact h5
      · omega
      · exact absurd e h4
    · omega
section
variable {c : Cd} {cells : Int}
theorem goM_keeps : ∀ {k : Nat} {s z : Ms} {p : List Nat}, goM c cells k s = .ok (z, p) → z.st = s.st + p.length ∧ 1 ≤ p.length ∧ p.length ≤ k ∧ z.A.length = s.A.length ∧ s.ce ≤ z.ce ∧ (s.ce ≤ cells → z.ce ≤ cells)
  | 0, _, _, _, h => by cases h
  | k + 1, s, z, p, h => by
    unfold goM at h
    split at h
    · cases h
    · rename_i s2 hs
      obtain ⟨a1, _, a3, a4, _, a6⟩ := doM_keeps (s := s.tick) hs
      have b1 : s2.st = s.st + 1 := a1
      have b4 : s.ce ≤ s2.ce := a4
      have b6 : (s.ce : Int) ≤ cells → (s2.ce : Int) ≤ cells := a6
      split at h
      · injection h with h; injection h with h1 h2
        subst h1; subst h2
        exact ⟨b1, by simp, by simp, a3, b4, b6⟩
      · split at h
        · cases h
        · rename_i z2 p2 hg
          injection h with h; injection h with h1 h2
          subst h1; subst h2
          obtain ⟨d1, d2, d3, d4, d5, d6⟩ := goM_keeps hg
          simp only [List.length_cons]
          exact ⟨by omega, by omega, by omega, d4.trans a3, by omega, fun h => d6 (b6 h)⟩
/-- with more steps, and as much room as it took, it comes to the same -/
theorem goM_more {cells2 : Int} : ∀ {k k2 : Nat} {s z : Ms} {p : List Nat}, goM c cells k s = .ok (z, p) → p.length ≤ k2 → (z.ce : Int) ≤ cells2 → goM c cells2 k2 s = .ok (z, p)
  | 0, _, _, _, _, h, _, _ => by cases h
  | k + 1, 0, s, z, p, h, h2, _ => by have := (goM_keeps h).2.1; omega
  | k + 1, k2 + 1, s, z, p, h, h2, h3 => by
    unfold goM at h ⊢
    split at h
    · cases h
    · rename_i s2 hs
      split at h
      · rename_i h0
        injection h with h; injection h with h1 h4
        subst h1; subst h4
        have hs2 : stepM s (c.l.getD s.at_ zJi) cells2 = .ok s2 := doM_room hs h3
        rw [hs2]
        simp only [h0, if_true]
      · rename_i h0
        split at h
        · cases h
        · rename_i z2 p2 hg
          injection h with h; injection h with h1 h4
          subst h1; subst h4
          have hce := (goM_keeps hg).2.2.2.2.1
          have hs2 : stepM s (c.l.getD s.at_ zJi) cells2 = .ok s2 := doM_room hs (by omega)
          rw [hs2]
          simp only [h0, if_false]
          rw [goM_more hg (by simp only [List.length_cons] at h2; omega) h3]
/-- with fewer steps it runs out of them -/
theorem goM_fewer {cells2 : Int} : ∀ {k k2 : Nat} {s z : Ms} {p : List Nat}, goM c cells k s = .ok (z, p) → k2 < p.length → (z.ce : Int) ≤ cells2 → goM c cells2 k2 s = .error 9
  | _, 0, _, _, _, _, _, _ => rfl
  | 0, _ + 1, _, _, _, h, _, _ => by cases h
  | k + 1, k2 + 1, s, z, p, h, h2, h3 => by
    unfold goM at h ⊢
    split at h
    · cases h
    · rename_i s2 hs
      split at h
      · injection h with h; injection h with h1 h4
        subst h1; subst h4
        simp at h2
      · rename_i h0
        split at h
        · cases h
        · rename_i z2 p2 hg
          injection h with h; injection h with h1 h4
          subst h1; subst h4
          have hce := (goM_keeps hg).2.2.2.2.1
          have hs2 : stepM s (c.l.getD s.at_ zJi) cells2 = .ok s2 := doM_room hs (by omega)
          rw [hs2]
          simp only [h0, if_false]
          rw [goM_fewer hg (by simp only [List.length_cons] at h2; omega) h3]
/-- with less room than it took it runs out of it -/
theorem goM_short {cells2 : Int} : ∀ {k k2 : Nat} {s z : Ms} {p : List Nat}, goM c cells k s = .ok (z, p) → p.length ≤ k2 → (s.ce : Int) ≤ cells2 → cells2 < z.ce → goM c cells2 k2 s = .error 10
  | 0, _, _, _, _, h, _, _, _ => by cases h
  | k + 1, 0, s, z, p, h, h2, _, _ => by have := (goM_keeps h).2.1; omega
  | k + 1, k2 + 1, s, z, p, h, h2, h3, h4 => by
    unfold goM at h ⊢
    split at h
    · cases h
    · rename_i s2 hs
      rcases doM_short (cells2 := cells2) hs h3 with hs2 | ⟨hs2, _⟩
      · have hs3 : stepM s (c.l.getD s.at_ zJi) cells2 = .ok s2 := hs2
        rw [hs3]
        split at h
        · rename_i h0
          injection h with h; injection h with h1 h5
          subst h1; subst h5
          have hk := (doM_keeps hs).2.2.2.2.1
          rw [h0] at hk
          have hk2 : s2.ce = s.ce := by simpa [Ms.tick] using hk
          omega
        · rename_i h0
          split at h
          · cases h
          · rename_i z2 p2 hg
            injection h with h; injection h with h1 h5
            subst h1; subst h5
            simp only [h0, if_false]
            have hc2 : (s2.ce : Int) ≤ cells2 := ((doM_keeps hs2).2.2.2.2.2) h3
            rw [goM_short hg (by simp only [List.length_cons] at h2; omega) hc2 h4]
      · have hs3 : stepM s (c.l.getD s.at_ zJi) cells2 = .error 10 := hs2
        rw [hs3]
/-- what can be wrong -/
theorem goM_errors : ∀ {k : Nat} {s : Ms} {e : Int}, goM c cells k s = .error e → e = 9 ∨ e = 10 ∨ (e = 3 ∧ ∃ x : Ji, x ∈ c.l ∧ (x.op = 6 ∨ x.op = 7))
  | 0, _, _, h => by injection h with h; exact .inl h.symm
  | k + 1, s, e, h => by
    unfold goM at h
    split at h
    · rename_i e2 hs
      injection h with h
      subst h
      rcases doM_errors hs with ⟨h1, h2⟩ | ⟨h1, _⟩
      · refine .inr (.inr ⟨h1, c.l.getD s.at_ zJi, ?_, h2⟩)
        by_cases hl : s.at_ < c.l.length
        · rw [List.getD_eq_getElem?_getD, List.getElem?_eq_getElem hl]; exact List.getElem_mem hl
        · rw [List.getD_eq_getElem?_getD, List.getElem?_eq_none (by omega)] at h2
          simp [zJi] at h2
      · exact .inr (.inl h1)
    · split at h
      · cases h
      · split at h
        · rename_i hg
          injection h with h
          subst h
          exact goM_errors hg
        · cases h
end
end Go.Proofs.YtgkngimeokhhgaaDoor
/- The way that code goes when it runs; code without loops ends. -/
namespace Go.Proofs.YtgkngimeokhhgaaDoor
open Go.RowKit

/-- where a step goes -/
theorem doM_at {s z : Ms} {x : Ji} {cells : Int} (h : doM s x cells = .ok z) : (x.op = 10 ∧ z.at_ = x.a.toNat) ∨ (x.op ≠ 10 ∧ z.at_ = s.at_) ∨ ((x.op = 11 ∨ x.op = 12) ∧ z.at_ = x.c.toNat) := by
  by_cases e1 : x.op = 1
  · unfold doM at h; rw [if_pos e1] at h; injection h with h; subst h; exact .inr (.inl ⟨by omega, rfl⟩)
  by_cases e2 : x.op = 2
  · unfold doM at h; rw [if_neg e1, if_pos e2] at h; injection h with h; subst h; exact .inr (.inl ⟨by omega, rfl⟩)
  by_cases e3 : x.op = 3
  · unfold doM at h; rw [if_neg e1, if_neg e2, if_pos e3] at h; injection h with h; subst h; exact .inr (.inl ⟨by omega, rfl⟩)
  by_cases e4 : x.op = 4
  · unfold doM at h; rw [if_neg e1, if_neg e2, if_neg e3, if_pos e4] at h; injection h with h; subst h; exact .inr (.inl ⟨by omega, rfl⟩)
  by_cases e5 : x.op = 5
  · unfold doM at h; rw [if_neg e1, if_neg e2, if_neg e3, if_neg e4, if_pos e5] at h; injection h with h; subst h; exact .inr (.inl ⟨by omega, rfl⟩)
  by_cases e6 : x.op = 6
  · by_cases e : s.r x.c < 0 ∨ ((s.a x.b).length : Int) ≤ s.r x.c
    · unfold doM at h; rw [if_neg e1, if_neg e2, if_neg e3, if_neg e4, if_neg e5, if_pos e6, if_pos e] at h; cases h
    · unfold doM at h; rw [if_neg e1, if_neg e2, if_neg e3, if_neg e4, if_neg e5, if_pos e6, if_neg e] at h; injection h with h; subst h; exact .inr (.inl ⟨by omega, rfl⟩)
  by_cases e7 : x.op = 7
  · by_cases e : s.r x.b < 0 ∨ ((s.a x.a).length : Int) ≤ s.r x.b
    · unfold doM at h; rw [if_neg e1, if_neg e2, if_neg e3, if_neg e4, if_neg e5, if_neg e6, if_pos e7, if_pos e] at h; cases h
    · unfold doM at h; rw [if_neg e1, if_neg e2, if_neg e3, if_neg e4, if_neg e5, if_neg e6, if_pos e7, if_neg e] at h; injection h with h; subst h; exact .inr (.inl ⟨by omega, rfl⟩)
  by_cases e8 : x.op = 8
  · unfold doM at h; rw [if_neg e1, if_neg e2, if_neg e3, if_neg e4, if_neg e5, if_neg e6, if_neg e7, if_pos e8] at h; injection h with h; subst h; exact .inr (.inl ⟨by omega, rfl⟩)
  by_cases e9 : x.op = 9
  · by_cases e : cells ≤ (s.ce : Int)
    · unfold doM at h; rw [if_neg e1, if_neg e2, if_neg e3, if_neg e4, if_neg e5, if_neg e6, if_neg e7, if_neg e8, if_pos e9, if_pos e] at h; cases h
    · unfold doM at h; rw [if_neg e1, if_neg e2, if_neg e3, if_neg e4, if_neg e5, if_neg e6, if_neg e7, if_neg e8, if_pos e9, if_neg e] at h; injection h with h; subst h; exact .inr (.inl ⟨by omega, rfl⟩)
  by_cases e10 : x.op = 10
  · unfold doM at h; rw [if_neg e1, if_neg e2, if_neg e3, if_neg e4, if_neg e5, if_neg e6, if_neg e7, if_neg e8, if_neg e9, if_pos e10] at h; injection h with h; subst h; exact .inl ⟨e10, rfl⟩
  by_cases e11 : x.op = 11
  · by_cases e : s.r x.a < s.r x.b
    · unfold doM at h; rw [if_neg e1, if_neg e2, if_neg e3, if_neg e4, if_neg e5, if_neg e6, if_neg e7, if_neg e8, if_neg e9, if_neg e10, if_pos e11, if_pos e] at h; injection h with h; subst h; exact .inr (.inr ⟨.inl e11, rfl⟩)
    · unfold doM at h; rw [if_neg e1, if_neg e2, if_neg e3, if_neg e4, if_neg e5, if_neg e6, if_neg e7, if_neg e8, if_neg e9, if_neg e10, if_pos e11, if_neg e] at h; injection h with h; subst h; exact .inr (.inl ⟨by omega, rfl⟩)
  by_cases e12 : x.op = 12
  · by_cases e : s.r x.a = s.r x.b
    · unfold doM at h; rw [if_neg e1, if_neg e2, if_neg e3, if_neg e4, if_neg e5, if_neg e6, if_neg e7, if_neg e8, if_neg e9, if_neg e10, if_neg e11, if_pos e12, if_pos e] at h; injection h with h; subst h; exact .inr (.inr ⟨.inr e12, rfl⟩)
    · unfold doM at h; rw [if_neg e1, if_neg e2, if_neg e3, if_neg e4, if_neg e5, if_neg e6, if_neg e7, if_neg e8, if_neg e9, if_neg e10, if_neg e11, if_pos e12, if_neg e] at h; injection h with h; subst h; exact .inr (.inl ⟨by omega, rfl⟩)
  unfold doM at h; rw [if_neg e1, if_neg e2, if_neg e3, if_neg e4, if_neg e5, if_neg e6, if_neg e7, if_neg e8, if_neg e9, if_neg e10, if_neg e11, if_neg e12] at h; injection h with h; subst h; exact .inr (.inl ⟨e10, rfl⟩)
theorem jump_in {R A : Int} {n : Nat} {x : Ji} (h : mayJ R A n x = true) : (x.op = 10 → 0 ≤ x.a ∧ x.a < n) ∧ (x.op = 11 ∨ x.op = 12 → 0 ≤ x.c ∧ x.c < n) := by
  obtain ⟨⟨h0, h1⟩, h2, _⟩ := mayJ_parts h
  have i0 := h2 0 (by omega)
  have i2 := h2 2 (by omega)
  unfold InB at i0 i2
  obtain ⟨op, a, b, cc, m⟩ := x
  dsimp only at h0 h1
  refine ⟨fun e => ?_, fun e => ?_⟩
  · dsimp only at e
    subst e
    simp [kJ, kindsJ, limJ, Ji.f] at i0
    exact i0
  · dsimp only at e
    rcases e with rfl | rfl <;> simp [kJ, kindsJ, limJ, Ji.f] at i2 <;> exact i2
theorem stepM_next {R A : Int} {n : Nat} {s z : Ms} {x : Ji} {cells : Int} (hx : mayJ R A n x = true) (hi : s.at_ < 100000) (h : stepM s x cells = .ok z) (h0 : x.op ≠ 0) : (z.at_ : Int) ∈ nextJ x s.at_ := by
  obtain ⟨⟨g0, g1⟩, _⟩ := mayJ_parts hx
  obtain ⟨j0, j1⟩ := jump_in hx
  have hw : wrap64 ((s.at_ : Int) + 1) = (s.at_ : Int) + 1 := by unfold wrap64; omega
  unfold nextJ
  rw [hw, if_neg (by omega)]
  rcases doM_at h with ⟨e, h1⟩ | ⟨e, h1⟩ | ⟨e, h1⟩
  · rw [if_pos e, h1]
    have := j0 e
    simp; omega
  · rw [if_neg e, h1]
    have e2 : (s.tick.at_ : Int) = (s.at_ : Int) + 1 := by show ((s.at_ + 1 : Nat) : Int) = _; omega
    rw [e2]
    split <;> simp
  · rw [if_neg (by omega), if_pos e, h1]
    have := j1 e
    simp; omega
section
variable {c : Cd} {cells : Int} (hm : c.may = true)
include hm
theorem may_get {i : Nat} (hi : i < c.l.length) : mayJ c.R c.A c.l.length (c.l.getD i zJi) = true ∧ c.l[i]? = some (c.l.getD i zJi) := by
  have e : c.l[i]? = some c.l[i] := List.getElem?_eq_getElem hi
  rw [List.getD_eq_getElem?_getD, e]
  exact ⟨(Cd.may_parts hm).2.1 _ (List.getElem_mem hi), rfl⟩
theorem small_at {i : Nat} (hw : Way c.l (-1) i) : i < c.l.length ∧ i < 100000 := by
  have h1 := Way.lt hm hw
  obtain ⟨⟨_, _, _, _, _, _, _, h2⟩, _⟩ := Cd.may_parts hm
  omega
/-- the way code goes -/
theorem goM_path : ∀ {k : Nat} {s z : Ms} {p : List Nat}, Way c.l (-1) s.at_ → goM c cells k s = .ok (z, p) →
    (∃ r, p = s.at_ :: r) ∧ (∀ (i a b : Nat), p[i]? = some a → p[i + 1]? = some b → (b : Int) ∈ nextJ (c.l.getD a zJi) a) ∧ (∀ a ∈ p, Way c.l (-1) a) ∧ (∀ a, p.getLast? = some a → (c.l.getD a zJi).op = 0) ∧ z.ce = s.ce + (p.filter fun a => decide ((c.l.getD a zJi).op = 9)).length
  | 0, _, _, _, _, h => by cases h
  | k + 1, s, z, p, hw, h => by
    obtain ⟨hl, hs4⟩ := small_at hm hw
    obtain ⟨hmx, hxl⟩ := may_get hm hl
    unfold goM at h
    split at h
    · cases h
    · rename_i s2 hs
      have hce : s2.ce = s.ce + (if (c.l.getD s.at_ zJi).op = 9 then 1 else 0) := (doM_keeps hs).2.2.2.2.1
      split at h
      · rename_i h0
        injection h with h; injection h with h1 h2
        subst h1; subst h2
        refine ⟨⟨[], rfl⟩, fun i a b _ h2 => (by simp at h2), fun a ha => ?_, fun a ha => ?_, ?_⟩
        · rw [List.mem_singleton] at ha; subst ha; exact hw
        · simp at ha; subst ha; exact h0
        · rw [hce, List.filter_cons, if_neg (by rw [h0]; decide), if_neg (by rw [h0]; decide)]; rfl
      · rename_i h0
        split at h
        · cases h
        · rename_i zp hg
          obtain ⟨z2, p2⟩ := zp
          injection h with h; injection h with h1 h2
          subst h1; subst h2
          have hn := stepM_next hmx hs4 hs h0
          have hw2 : Way c.l (-1) s2.at_ := Way.on hm hw hxl hn
          obtain ⟨⟨r, hr⟩, b2, b3, b4, b5⟩ := goM_path hw2 hg
          refine ⟨⟨p2, rfl⟩, fun i a b ha hb => ?_, fun a ha => ?_, fun a ha => ?_, ?_⟩
          · cases i with
            | zero =>
              simp at ha hb
              subst ha
              subst hr
              simp at hb
              subst hb
              exact hn
            | succ i => exact b2 i a b (by simpa using ha) (by simpa using hb)
          · rcases List.mem_cons.1 ha with rfl | ha
            · exact hw
            · exact b3 a ha
          · refine b4 a ?_
            subst hr
            simpa using ha
          · show z2.ce = _
            rw [b5, hce, List.filter_cons]
            split <;> simp_all <;> omega
/-- code without loops ends -/
theorem goM_ends (hl : loopsN c = []) : ∀ {k : Nat} {s : Ms}, Way c.l (-1) s.at_ → c.l.length ≤ k + s.at_ → (s.ce : Int) + k ≤ cells → goM c cells k s = .error 3 ∨ ∃ z p, goM c cells k s = .ok (z, p)
  | 0, s, hw, h1, _ => by have := (small_at hm hw).1; omega
  | k + 1, s, hw, h1, h2 => by
    obtain ⟨hlt, hs4⟩ := small_at hm hw
    obtain ⟨hmx, hxl⟩ := may_get hm hlt
    unfold goM
    cases hs : stepM s (c.l.getD s.at_ zJi) cells with
    | error e =>
      rcases doM_errors hs with ⟨h3, _⟩ | ⟨_, _, h3⟩
      · subst h3; exact .inl rfl
      · have h3 : cells ≤ (s.ce : Int) := h3
        omega
    | ok s2 =>
      by_cases h0 : (c.l.getD s.at_ zJi).op = 0
      · simp only [h0, if_true]
        exact .inr ⟨_, _, rfl⟩
      · simp only [h0, if_false]
        have hn := stepM_next hmx hs4 hs h0
        have hw2 : Way c.l (-1) s2.at_ := Way.on hm hw hxl hn
        have hgt := loops_none hl hw hxl _ hn
        have hce : s2.ce = s.ce + (if (c.l.getD s.at_ zJi).op = 9 then 1 else 0) := (doM_keeps hs).2.2.2.2.1
        have hce2 : s2.ce ≤ s.ce + 1 := by rw [hce]; split <;> omega
        rcases goM_ends hl (k := k) (s := s2) hw2 (by omega) (by omega) with hg | ⟨z, p, hg⟩
        · rw [hg]; exact .inl rfl
        · rw [hg]; exact .inr ⟨_, _, rfl⟩
end
end Go.Proofs.YtgkngimeokhhgaaDoor
/- What holds wherever code stands that runs: how many registers and arrays there are, what numbers they hold, how long the arrays are. -/
namespace Go.Proofs.YtgkngimeokhhgaaDoor
open Go.RowKit

def I64 (v : Int) : Prop := -9223372036854775808 ≤ v ∧ v ≤ 9223372036854775807
theorem I64.wrap (v : Int) : I64 (wrap64 v) := by unfold I64 wrap64; omega
theorem I64.zero : I64 0 := by unfold I64; omega
/-- with at most M numbers in each list that was handed in -/
structure MsOk (c : Cd) (M : Nat) (s : Ms) : Prop where
  rl : s.R.length = c.R.toNat
  al : s.A.length = c.A.toNat
  rv : ∀ v ∈ s.R, I64 v
  av : ∀ l ∈ s.A, ∀ v ∈ l, I64 v
  ll : ∀ l ∈ s.A, l.length ≤ M + s.ce
section
variable {c : Cd} {M : Nat} {s : Ms}
theorem getD_mem {α : Type} {l : List α} {i : Nat} {d : α} : l.getD i d ∈ l ∨ l.getD i d = d := by
  rw [List.getD_eq_getElem?_getD]
  by_cases h : i < l.length
  · rw [List.getElem?_eq_getElem h]; exact .inl (List.getElem_mem h)
  · rw [List.getElem?_eq_none (by omega)]; exact .inr rfl
theorem MsOk.r (h : MsOk c M s) (i : Int) : I64 (s.r i) := by
  rcases getD_mem (l := s.R) (i := i.toNat) (d := 0) with h1 | h1
  · exact h.rv _ h1
  · show I64 (s.R.getD i.toNat 0); rw [h1]; exact .zero
theorem MsOk.a (h : MsOk c M s) (i : Int) : (∀ v ∈ s.a i, I64 v) ∧ (s.a i).length ≤ M + s.ce := by
  rcases getD_mem (l := s.A) (i := i.toNat) (d := []) with h1 | h1
  · exact ⟨h.av _ h1, h.ll _ h1⟩
  · show (∀ v ∈ s.A.getD i.toNat [], I64 v) ∧ (s.A.getD i.toNat []).length ≤ _
    rw [h1]
    exact ⟨fun v hv => (by cases hv), Nat.zero_le _⟩
theorem MsOk.cell (h : MsOk c M s) (i : Int) (k : Nat) : I64 ((s.a i).getD k 0) := by
  rcases getD_mem (l := s.a i) (i := k) (d := 0) with h1 | h1
  · exact (h.a i).1 _ h1
  · rw [h1]; exact .zero
theorem MsOk.put (h : MsOk c M s) (i : Int) {v : Int} (hv : I64 v) : MsOk c M (s.put i v) :=
  ⟨by show (s.R.set i.toNat v).length = _; rw [List.length_set]; exact h.rl, h.al, fun u hu => by
    rcases List.mem_or_eq_of_mem_set hu with h1 | h1
    · exact h.rv u h1
    · rw [h1]; exact hv, h.av, h.ll⟩
theorem MsOk.arr (h : MsOk c M s) (i : Int) {l : List Int} (k : Nat) (hl : ∀ v ∈ l, I64 v) (hn : l.length ≤ M + k) (hk : s.ce ≤ k) : MsOk c M { s.arr i l with ce := k } :=
  ⟨h.rl, by show (s.A.set i.toNat l).length = _; rw [List.length_set]; exact h.al, h.rv, fun m hm => by
    rcases List.mem_or_eq_of_mem_set hm with h1 | h1
    · exact h.av m h1
    · rw [h1]; exact hl, fun m hm => by
    rcases List.mem_or_eq_of_mem_set hm with h1 | h1
    · have := h.ll m h1
      show m.length ≤ M + k
      omega
    · rw [h1]; exact hn⟩
theorem MsOk.goto_ (h : MsOk c M s) (i : Int) : MsOk c M (s.goto_ i) := ⟨h.rl, h.al, h.rv, h.av, h.ll⟩
theorem MsOk.tick (h : MsOk c M s) : MsOk c M s.tick := ⟨h.rl, h.al, h.rv, h.av, h.ll⟩
theorem MsOk.do_ {x : Ji} {z : Ms} {cells : Int} (h : MsOk c M s) (hx : x.ok) (hM : M + s.ce ≤ 1000000) (hd : doM s x cells = .ok z) : MsOk c M z := by
  by_cases e1 : x.op = 1
  · unfold doM at hd; rw [if_pos e1] at hd; injection hd with hd; subst hd; exact h.put _ hx.n
  by_cases e2 : x.op = 2
  · unfold doM at hd; rw [if_neg e1, if_pos e2] at hd; injection hd with hd; subst hd; exact h.put _ (h.r _)
  by_cases e3 : x.op = 3
  · unfold doM at hd; rw [if_neg e1, if_neg e2, if_pos e3] at hd; injection hd with hd; subst hd; exact h.put _ (.wrap _)
  by_cases e4 : x.op = 4
  · unfold doM at hd; rw [if_neg e1, if_neg e2, if_neg e3, if_pos e4] at hd; injection hd with hd; subst hd; exact h.put _ (.wrap _)
  by_cases e5 : x.op = 5
  · unfold doM at hd; rw [if_neg e1, if_neg e2, if_neg e3, if_neg e4, if_pos e5] at hd; injection hd with hd; subst hd; exact h.put _ (.wrap _)
  by_cases e6 : x.op = 6
  · by_cases e : s.r x.c < 0 ∨ ((s.a x.b).length : Int) ≤ s.r x.c
    · unfold doM at hd; rw [if_neg e1, if_neg e2, if_neg e3, if_neg e4, if_neg e5, if_pos e6, if_pos e] at hd; cases hd
    · unfold doM at hd; rw [if_neg e1, if_neg e2, if_neg e3, if_neg e4, if_neg e5, if_pos e6, if_neg e] at hd; injection hd with hd; subst hd; exact h.put _ (h.cell _ _)
  by_cases e7 : x.op = 7
  · by_cases e : s.r x.b < 0 ∨ ((s.a x.a).length : Int) ≤ s.r x.b
    · unfold doM at hd; rw [if_neg e1, if_neg e2, if_neg e3, if_neg e4, if_neg e5, if_neg e6, if_pos e7, if_pos e] at hd; cases hd
    · unfold doM at hd; rw [if_neg e1, if_neg e2, if_neg e3, if_neg e4, if_neg e5, if_neg e6, if_pos e7, if_neg e] at hd; injection hd with hd; subst hd
      exact h.arr x.a s.ce (fun v hv => by
        rcases List.mem_or_eq_of_mem_set hv with h1 | h1
        · exact (h.a x.a).1 v h1
        · rw [h1]; exact h.r _) (by rw [List.length_set]; exact (h.a x.a).2) (Nat.le_refl _)
  by_cases e8 : x.op = 8
  · unfold doM at hd; rw [if_neg e1, if_neg e2, if_neg e3, if_neg e4, if_neg e5, if_neg e6, if_neg e7, if_pos e8] at hd; injection hd with hd; subst hd; exact h.put _ (by have := (h.a x.b).2; unfold I64; omega)
  by_cases e9 : x.op = 9
  · by_cases e : cells ≤ (s.ce : Int)
    · unfold doM at hd; rw [if_neg e1, if_neg e2, if_neg e3, if_neg e4, if_neg e5, if_neg e6, if_neg e7, if_neg e8, if_pos e9, if_pos e] at hd; cases hd
    · unfold doM at hd; rw [if_neg e1, if_neg e2, if_neg e3, if_neg e4, if_neg e5, if_neg e6, if_neg e7, if_neg e8, if_pos e9, if_neg e] at hd; injection hd with hd; subst hd
      exact h.arr x.a (s.ce + 1) (fun v hv => by
        rcases List.mem_append.1 hv with h1 | h1
        · exact (h.a x.a).1 v h1
        · rw [List.mem_singleton.1 h1]; exact h.r _) (by have := (h.a x.a).2; rw [List.length_append]; simp; omega) (Nat.le_succ _)
  by_cases e10 : x.op = 10
  · unfold doM at hd; rw [if_neg e1, if_neg e2, if_neg e3, if_neg e4, if_neg e5, if_neg e6, if_neg e7, if_neg e8, if_neg e9, if_pos e10] at hd; injection hd with hd; subst hd; exact h.goto_ _
  by_cases e11 : x.op = 11
  · by_cases e : s.r x.a < s.r x.b
    · unfold doM at hd; rw [if_neg e1, if_neg e2, if_neg e3, if_neg e4, if_neg e5, if_neg e6, if_neg e7, if_neg e8, if_neg e9, if_neg e10, if_pos e11, if_pos e] at hd; injection hd with hd; subst hd; exact h.goto_ _
    · unfold doM at hd; rw [if_neg e1, if_neg e2, if_neg e3, if_neg e4, if_neg e5, if_neg e6, if_neg e7, if_neg e8, if_neg e9, if_neg e10, if_pos e11, if_neg e] at hd; injection hd with hd; subst hd; exact h
  by_cases e12 : x.op = 12
  · by_cases e : s.r x.a = s.r x.b
    · unfold doM at hd; rw [if_neg e1, if_neg e2, if_neg e3, if_neg e4, if_neg e5, if_neg e6, if_neg e7, if_neg e8, if_neg e9, if_neg e10, if_neg e11, if_pos e12, if_pos e] at hd; injection hd with hd; subst hd; exact h.goto_ _
    · unfold doM at hd; rw [if_neg e1, if_neg e2, if_neg e3, if_neg e4, if_neg e5, if_neg e6, if_neg e7, if_neg e8, if_neg e9, if_neg e10, if_neg e11, if_pos e12, if_neg e] at hd; injection hd with hd; subst hd; exact h
  unfold doM at hd; rw [if_neg e1, if_neg e2, if_neg e3, if_neg e4, if_neg e5, if_neg e6, if_neg e7, if_neg e8, if_neg e9, if_neg e10, if_neg e11, if_neg e12] at hd; injection hd with hd; subst hd; exact h
/-- where code begins -/
theorem MsOk.start {ins : List (List Int)} (hA : ins.length ≤ c.A.toNat) (hv : ∀ l ∈ ins, ∀ v ∈ l, I64 v) (hl : ∀ l ∈ ins, l.length ≤ M) : MsOk c M (startM c ins) := by
  refine ⟨by simp [startM], by simp [startM]; omega, fun v hv => ?_, fun l hm => ?_, fun l hm => ?_⟩
  · rw [(List.mem_replicate.1 hv).2]; exact .zero
  · rcases List.mem_append.1 hm with h1 | h1
    · exact hv l h1
    · rw [(List.mem_replicate.1 h1).2]; intro v h; cases h
  · rcases List.mem_append.1 hm with h1 | h1
    · exact Nat.le_trans (hl l h1) (Nat.le_add_right _ _)
    · rw [(List.mem_replicate.1 h1).2]; exact Nat.zero_le _
end
end Go.Proofs.YtgkngimeokhhgaaDoor
/- Where code that runs has its registers and its arrays: own rows of numbers, written to one by one. -/
namespace Go.Proofs.YtgkngimeokhhgaaDoor
open Go.RowKit

/-- blocks of other types stay -/
structure KeepU (base : Nat) (w w' : World) : Prop where
  bel : Below base w w'
  blk : ∀ (b : Nat) (cs : Array Value) (t : TypeId), w.heap[b]? = some (.cells cs t (0, 0)) → t ≠ 2 → t ≠ 50 → w'.heap[b]? = some (.cells cs t (0, 0))
section
variable {base : Nat} {w w' w'' : World}
theorem KeepU.refl (base : Nat) (w : World) : KeepU base w w := ⟨Below.refl _ _, fun _ _ _ h _ _ => h⟩
theorem KeepU.trans (h : KeepU base w w') (k : KeepU base w' w'') : KeepU base w w'' := ⟨h.bel.trans k.bel, fun b cs t hb h1 h2 => k.blk b cs t (h.blk b cs t hb h1 h2) h1 h2⟩
theorem KeepU.of_below (hb : Below w.heap.size w w') (hB : base ≤ w.heap.size) : KeepU base w w' := ⟨hb.mono hB, fun _ _ _ h _ _ => keep_b hb h⟩
end
/-- registers and arrays -/
structure MsW (w : World) (base gR gA : Nat) (s : Ms) (rs : List RowU) : Prop where
  R : OwnI w base 2 (some ⟨gR, 0, none⟩) s.R.length s.R
  A : RowsU w base gA rs
  L : rs.map (·.L) = s.A
  far : ∀ r ∈ rs, r.A ≠ some ⟨gR, 0, none⟩
section
variable {w w' w4 : World} {base gR gA : Nat} {s : Ms} {rs : List RowU}
theorem MsW.len (h : MsW w base gR gA s rs) : rs.length = s.A.length := by rw [← h.L, List.length_map]
theorem MsW.on (h : MsW w base gR gA s rs) (hb : Below w.heap.size w w') : MsW w' base gR gA s rs := ⟨h.R.below hb (Nat.le_refl _), h.A.below hb (Nat.le_refl _), h.L, h.far⟩
theorem MsW.ne (h : MsW w base gR gA s rs) : gA ≠ gR := by
  obtain ⟨_, cur, hg⟩ := h.A.heap
  intro e
  subst e
  rcases h.R.1.2 with ⟨h1, _⟩ | ⟨g', cap, cur2, h1, _, h3, _⟩
  · injection h1 with h1; cases h1
  · injection h1 with h1; injection h1 with h1; injection h1 with h1
    subst h1
    rw [hg] at h3
    injection h3 with h3; injection h3 with _ h3
    exact absurd h3 (by decide)
theorem MsW.reg (h : MsW w base gR gA s rs) {i : Nat} (hi : i < s.R.length) : w.cell? ⟨gR, i, none⟩ = some (.int .i64 (s.r i)) ∧ w.frozen? ⟨gR, i, none⟩ = false := by
  refine h.R.cell_ ?_
  unfold Ms.r
  rw [Int.toNat_natCast, List.getD_eq_getElem?_getD, List.getElem?_eq_getElem hi]; rfl
theorem MsW.row (h : MsW w base gR gA s rs) {i : Nat} (hi : i < s.A.length) : ∃ r, Hid (rs[i]? = some r) ∧ r.L = s.a i ∧ OwnI w base 2 r.A r.c r.L ∧ w.cell? ⟨gA, i, none⟩ = some (.slice r.A (s.a i).length r.c) ∧ w.frozen? ⟨gA, i, none⟩ = false := by
  have hi2 : i < rs.length := by rw [h.len]; exact hi
  have hr := List.getElem?_eq_getElem hi2
  have hL : (rs[i]).L = s.a i := by
    unfold Ms.a
    rw [Int.toNat_natCast, ← h.L, List.getD_eq_getElem?_getD, List.getElem?_map, hr]; rfl
  obtain ⟨c0, c1⟩ := h.A.at_ hr
  refine ⟨rs[i], hr, hL, h.A.ins _ (List.getElem_mem hi2), ?_, c1⟩
  rw [c0, ← hL]; rfl
/-- a register is another number -/
theorem MsW.setR (h : MsW w base gR gA s rs) (i : Nat) {v : Int} (hv : I64 v) : MsW (w.setCell ⟨gR, i, none⟩ (.int .i64 v)) base gR gA (s.put i v) rs ∧ KeepU base w (w.setCell ⟨gR, i, none⟩ (.int .i64 v)) := by
  have hgs : w.grownBy (w.setCell ⟨gR, i, none⟩ (.int .i64 v)) (some gR) := (World.ownsRow.stored h.R.1 i (.int .i64 v)).2
  have hlt := h.R.ltL
  refine ⟨⟨?_, ⟨World.ownsRow.kept h.A.rows hgs (.inr (by simpa [Value.ownBlock] using h.ne)), fun r hr => (h.A.ins r hr).grownL hgs fun q hq e => ?_, h.A.apart⟩, h.L, h.far⟩, ⟨?_, fun b cs t hb h1 _ => ?_⟩⟩
  · have := h.R.set_ i v hv
    show OwnI _ base 2 _ (s.R.set (i : Int).toNat v).length (s.R.set (i : Int).toNat v)
    rw [Int.toNat_natCast, List.length_set]
    exact this
  · injection e with e
    subst e
    exact h.far r hr hq
  · exact (Below.refl _ _).setCell (p := ⟨gR, i, none⟩) hlt.1 _
  · refine (Below.heap_setCell _ ⟨gR, i, none⟩ _ _ (fun e => ?_)).trans hb
    have e : b = gR := e
    subst e
    rcases h.R.1.2 with ⟨h3, _⟩ | ⟨g', cap, cur2, h3, _, h4, _⟩
    · injection h3 with h3; cases h3
    · injection h3 with h3; injection h3 with h3; injection h3 with h3
      subst h3
      rw [hb] at h4
      injection h4 with h4; injection h4 with _ h4
      exact h1 h4
/-- a number of an array is another one -/
theorem MsW.setA (h : MsW w base gR gA s rs) {i k : Nat} {r : RowU} {v : Int} (hr : rs[i]? = some r) (hk : k < r.L.length) (hv : I64 v) :
    ∃ b, r.A = some ⟨b, 0, none⟩ ∧ w.frozen? ⟨b, k, none⟩ = false ∧ MsW (w.setCell ⟨b, k, none⟩ (.int .i64 v)) base gR gA (s.arr i ((s.a i).set k v)) (rs.set i ⟨r.A, r.c, r.L.set k v⟩) ∧ KeepU base w (w.setCell ⟨b, k, none⟩ (.int .i64 v)) := by
  obtain ⟨b, hA, hb, hne, hf, hR⟩ := h.A.cell hr hk hv
  have hbR : gR ≠ b := fun e => h.far r (List.mem_of_getElem? hr) (by rw [hA, e])
  have hrO := h.A.ins r (List.mem_of_getElem? hr)
  rw [hA] at hrO
  have hL : r.L = s.a i := by
    unfold Ms.a
    rw [Int.toNat_natCast, ← h.L, List.getD_eq_getElem?_getD, List.getElem?_map, hr]; rfl
  refine ⟨b, hA, hf, ⟨h.R.apart hbR k _, hR, ?_, fun q hq => ?_⟩, ⟨(Below.refl _ _).setCell (p := ⟨b, k, none⟩) hb _, fun b2 cs t hb2 h1 _ => ?_⟩⟩
  · rw [List.map_set, h.L, hL]
    show s.A.set i _ = s.A.set (i : Int).toNat _
    rw [Int.toNat_natCast]
  · rcases List.mem_or_eq_of_mem_set hq with hq | hq
    · exact h.far q hq
    · rw [hq]; exact h.far r (List.mem_of_getElem? hr)
  · refine (Below.heap_setCell _ ⟨b, k, none⟩ _ _ (fun e => ?_)).trans hb2
    have e : b2 = b := e
    subst e
    rcases hrO.1.2 with ⟨h3, _⟩ | ⟨g', cap, cur2, h3, _, h4, _⟩
    · injection h3 with h3; cases h3
    · injection h3 with h3; injection h3 with h3; injection h3 with h3
      subst h3
      rw [hb2] at h4
      injection h4 with h4; injection h4 with _ h4
      exact h1 h4
/-- an array has a number more -/
theorem MsW.push (h : MsW w base gR gA s rs) {i m : Nat} {r : RowU} {v : Int} {c4 : Nat} {A4 : Option Addr} (hr : rs[i]? = some r) (hm : r.L.length = m) (hO : OwnI w4 base 2 A4 c4 (r.L ++ [v])) (hG : w.grownBy w4 (Value.slice r.A m r.c).ownBlock) (hl : ∀ b, A4 = some ⟨b, 0, none⟩ → r.A = some ⟨b, 0, none⟩ ∨ w.heap.size ≤ b) :
    MsW (w4.setCell ⟨gA, i, none⟩ (.slice A4 (m + 1) c4)) base gR gA { s.arr i (s.a i ++ [v]) with ce := s.ce + 1 } (rs.set i ⟨A4, c4, r.L ++ [v]⟩) ∧ KeepU base w (w4.setCell ⟨gA, i, none⟩ (.slice A4 (m + 1) c4)) ∧ w4.cell? ⟨gA, i, none⟩ = some r.hdr ∧ w4.frozen? ⟨gA, i, none⟩ = false := by
  subst hm
  have hrm := List.mem_of_getElem? hr
  have hrO := h.A.ins r hrm
  obtain ⟨p1, p2, p3, p4, p5⟩ := h.A.put hr hO hG hl
  obtain ⟨hbg, cur, hg⟩ := h.A.heap
  have hL : r.L = s.a i := by
    unfold Ms.a
    rw [Int.toNat_natCast, ← h.L, List.getD_eq_getElem?_getD, List.getElem?_map, hr]; rfl
  have hR4 : OwnI w4 base 2 (some ⟨gR, 0, none⟩) s.R.length s.R := h.R.grownL hG fun q hq e => by
    injection hq with hq; injection hq with hq
    subst hq
    rcases hrO.1.2 with ⟨h1, _⟩ | ⟨g', cap, cur2, h1, _⟩
    · injection h1 with h1; rw [h1] at e; cases e
    · injection h1 with h1
      rw [h1] at e
      simp only [Value.ownBlock, Option.some.injEq] at e
      subst e
      exact h.far r hrm h1
  have hgne : some gA ≠ (Value.slice r.A r.L.length r.c).ownBlock := by
    intro e
    rcases hrO.1.2 with ⟨h1, _⟩ | ⟨g', cap, cur2, h1, _, h3, _⟩
    · injection h1 with h1; rw [h1] at e; cases e
    · injection h1 with h1
      rw [h1] at e
      simp only [Value.ownBlock, Option.some.injEq] at e
      subst e
      rw [hg] at h3
      injection h3 with h3; injection h3 with _ h3
      exact absurd h3 (by decide)
  have hg4 : w4.heap[gA]? = some (.cells cur 50 (0, 0)) := (hG.block gA (lt_of_heap hg) hgne).trans hg
  refine ⟨⟨hR4.other hg4 (by decide) i _, p1, ?_, fun q hq => ?_⟩, ⟨p4 base w (Nat.le_refl _) (Below.refl _ _), fun b cs t hb h1 h2 => p5 b cs t hb h1 h2⟩, p2, p3⟩
  · rw [List.map_set, h.L, hL]
    show s.A.set i _ = s.A.set (i : Int).toNat _
    rw [Int.toNat_natCast]
  · rcases List.mem_or_eq_of_mem_set hq with hq | hq
    · exact h.far q hq
    · rw [hq]
      intro e
      have e : A4 = some ⟨gR, 0, none⟩ := e
      rcases hl gR e with h1 | h1
      · exact h.far r hrm h1
      · have := h.R.ltL
        omega
end
section
variable {w W : World} {base gR gA g : Nat} {s : Ms} {rs : List RowU}
/-- what is written to a box of another type turns nothing here -/
theorem MsW.box {cs : Array Value} {t : TypeId} (h : MsW w base gR gA s rs) (hg : w.heap[g]? = some (.cells cs t (0, 0))) (h1 : t ≠ 2) (h2 : t ≠ 50) (i : Nat) (v : Value) : MsW (w.setCell ⟨g, i, none⟩ v) base gR gA s rs := by
  obtain ⟨_, cur, hA⟩ := h.A.heap
  have hne : gA ≠ g := fun e => by
    subst e
    rw [hA] at hg
    injection hg with hg; injection hg with _ hg
    exact h2 hg.symm
  have hG : w.grownBy (w.setCell ⟨g, i, none⟩ v) (some g) := ⟨rfl, rfl, rfl, by rw [World.size_setCell]; exact Nat.le_refl _, fun k _ hk => heap_setCell_other w _ k _ (fun e => hk (by rw [e]))⟩
  refine ⟨h.R.other hg (Ne.symm h1) i v, ⟨World.ownsRow.kept h.A.rows hG (.inr (by simpa [Value.ownBlock] using hne)), fun r hr => (h.A.ins r hr).other hg (Ne.symm h1) i v, h.A.apart⟩, h.L, h.far⟩
theorem KeepU.box (h : KeepU base w W) (hg : w.heap.size ≤ g) (hB : base ≤ w.heap.size) (i : Nat) (v : Value) : KeepU base w (W.setCell ⟨g, i, none⟩ v) :=
  ⟨h.bel.setCell (p := ⟨g, i, none⟩) (by show base ≤ g; omega) _, fun b cs t hb h1 h2 => (heap_setCell_other W _ b _ (by have := lt_of_heap hb; show b ≠ g; omega)).trans (h.blk b cs t hb h1 h2)⟩
theorem KeepU.below (h : KeepU base w W) (hB : base ≤ w.heap.size) {W' : World} (hb : Below W.heap.size W W') : KeepU base w W' := h.trans (KeepU.of_below hb (Nat.le_trans hB h.bel.size))
end
/-- where code stands, as it is handed on -/
@[reducible] def stV (s : Ms) (gR gA : Nat) : Value := .agg #[.int .i64 (s.at_ : Int), .slice (some ⟨gR, 0, none⟩) s.R.length s.R.length, .slice (some ⟨gA, 0, none⟩) s.A.length s.A.length, .int .i64 (s.st : Int), .int .i64 (s.ce : Int)]
end Go.Proofs.YtgkngimeokhhgaaDoor
