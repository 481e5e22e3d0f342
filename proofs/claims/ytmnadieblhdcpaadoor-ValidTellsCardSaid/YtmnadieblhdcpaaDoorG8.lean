/- Which instructions are reached, which registers are surely set: plain mathematics. Nothing is claimed of the program here. -/
import Derived.Test.YtmnadieblhdcpaaDoorG6
import Derived.Test.YtmnadieblhdcpaaDoorG7
import Derived.Test.YtmnadieblhdcpaaDoorG3
import Derived.Test.YtmnadieblhdcpaaDoorG2
namespace Go.Proofs.YtmnadieblhdcpaaDoor
open Go.RowKit

/-- an instruction is reached without going through one that sets a register (below 0: through all) -/
inductive Way (l : List Ji) (but : Int) : Nat → Prop
  | start : Way l but 0
  | step {i k : Nat} {x : Ji} : Way l but i → l[i]? = some x → ¬(setsJ x = true ∧ writesJ x = but) → (k : Int) ∈ nextJ x i → Way l but k
theorem Way.more {l : List Ji} {but : Int} {i : Nat} (hx : ∀ x ∈ l, ¬(setsJ x = true ∧ writesJ x = -1)) (h : Way l but i) : Way l (-1) i := by
  induction h with
  | start => exact .start
  | step _ hl _ hk ih => exact .step ih hl (hx _ (List.mem_of_getElem? hl)) hk
/-- where an instruction that may be goes on -/
theorem next_in {R A : Int} {n : Nat} {x : Ji} {i : Nat} (hm : mayJ R A n x = true) (hi : i < n) (hn : n ≤ 4096) (hl : i + 1 < n ∨ x.op = 0 ∨ x.op = 10) : ∀ k ∈ nextJ x i, 0 ≤ k ∧ k < n := by
  obtain ⟨⟨h0, h1⟩, h2, _⟩ := mayJ_parts hm
  intro k hk
  have i0 := h2 0 (by omega)
  have i2 := h2 2 (by omega)
  have hw : wrap64 ((i : Int) + 1) = (i : Int) + 1 := by unfold wrap64; omega
  unfold nextJ at hk
  rw [hw] at hk
  obtain ⟨op, a, b, c, m⟩ := x
  dsimp only at h0 h1 hk hl
  unfold InB at i0 i2
  rcases op_cases h0 h1 with rfl | rfl | rfl | rfl | rfl | rfl | rfl | rfl | rfl | rfl | rfl | rfl | rfl
  all_goals simp [kJ, kindsJ, limJ, Ji.f] at i0 i2 hk hl
  all_goals first
    | (subst hk; omega)
    | (rcases hk with rfl | rfl <;> omega)
/-- an instruction of code that may be goes on within it -/
theorem Cd.next_in {c : Cd} (h : c.may = true) {i : Nat} {x : Ji} (hx : c.l[i]? = some x) : ∀ k ∈ nextJ x i, 0 ≤ k ∧ k < c.l.length := by
  obtain ⟨⟨_, _, _, _, _, _, n0, n1⟩, h2, y, hy, hy2⟩ := Cd.may_parts h
  have hi := (List.getElem?_eq_some_iff.1 hx).1
  refine Go.Proofs.YtmnadieblhdcpaaDoor.next_in (h2 x (List.mem_of_getElem? hx)) hi n1 ?_
  by_cases hl : i + 1 < c.l.length
  · exact .inl hl
  · right
    rw [List.getLast?_eq_getElem?, show c.l.length - 1 = i by omega, hx] at hy
    injection hy with hy
    rw [hy]; exact hy2
theorem Way.lt {c : Cd} (h : c.may = true) {but : Int} {i : Nat} (hw : Way c.l but i) : i < c.l.length := by
  cases hw with
  | start => obtain ⟨⟨_, _, _, _, _, _, n0, n1⟩, _⟩ := Cd.may_parts h; omega
  | step _ hl _ hk => have := c.next_in h hl _ hk; omega
theorem mem_kJ {ks : List UInt8} {i : Nat} {k : UInt8} (h : ks[i]? = some k) : ks.getD i 32 = k := by rw [List.getD_eq_getElem?_getD, h]; rfl
/-- registers of an instruction that may be -/
theorem reads_in {R A L : Int} {x : Ji} (h : mayJ R A L x = true) : ∀ r ∈ readsJ x, 0 ≤ r ∧ r < R := by
  intro r hr
  obtain ⟨i, h1, h2⟩ := readsG_mem _ _ r hr
  obtain ⟨_, h3, _⟩ := mayJ_parts h
  have hi : i < 3 := (List.getElem?_eq_some_iff.1 h2).1
  have := h3 i hi
  unfold InB at this
  rw [mem_kJ h1, List.getD_eq_getElem?_getD, h2] at this
  exact this
theorem sets_in {R A L : Int} {x : Ji} (h : mayJ R A L x = true) (hs : setsJ x = true) : 0 ≤ writesJ x ∧ writesJ x < R := by
  obtain ⟨_, h3, _⟩ := mayJ_parts h
  have := h3 0 (by omega)
  have hk : (kJ x.op)[0]? = some 119 := by
    unfold setsJ at hs
    rw [List.head?_eq_getElem?] at hs
    exact eq_of_beq hs
  unfold InB at this
  rw [mem_kJ hk] at this
  unfold writesJ
  rw [if_pos hs]
  exact this
theorem Cd.no_minus {c : Cd} (h : c.may = true) : ∀ x ∈ c.l, ¬(setsJ x = true ∧ writesJ x = -1) := by
  intro x hx ⟨h1, h2⟩
  have := sets_in ((Cd.may_parts h).2.1 x hx) h1
  omega
theorem Way.all_ {c : Cd} (h : c.may = true) {but : Int} {i : Nat} (hw : Way c.l but i) : Way c.l (-1) i := hw.more (c.no_minus h)
theorem Way.on {c : Cd} (h : c.may = true) {i k : Nat} {x : Ji} (hw : Way c.l (-1) i) (hx : c.l[i]? = some x) (hk : (k : Int) ∈ nextJ x i) : Way c.l (-1) k :=
  .step hw hx (c.no_minus h x (List.mem_of_getElem? hx)) hk
open Classical in
/-- which instructions are reached -/
noncomputable def reachB (c : Cd) (but : Int) : List Bool := (List.range c.l.length).map fun i => decide (Way c.l but i)
open Classical in
/-- which registers are surely set ahead of an instruction -/
noncomputable def setN (c : Cd) (i : Nat) : List Int := ((List.range c.R.toNat).filter fun (n : Nat) => decide (Way c.l (-1) i ∧ ¬ Way c.l (n : Int) i)).map fun (n : Nat) => (n : Int)
noncomputable def setsN (c : Cd) : List (List Int) := (List.range c.l.length).map (setN c)
theorem mem_setN {c : Cd} {i : Nat} {n : Int} : n ∈ setN c i ↔ 0 ≤ n ∧ n < c.R ∧ Way c.l (-1) i ∧ ¬ Way c.l n i := by
  unfold setN
  rw [List.mem_map]
  constructor
  · rintro ⟨m, hm, rfl⟩
    rw [List.mem_filter, List.mem_range] at hm
    have := hm.2
    simp only [decide_eq_true_eq] at this
    exact ⟨by omega, by omega, this.1, this.2⟩
  · rintro ⟨h0, h1, h2, h3⟩
    refine ⟨n.toNat, ?_, by omega⟩
    rw [List.mem_filter, List.mem_range]
    refine ⟨by omega, ?_⟩
    simp only [decide_eq_true_eq]
    refine ⟨h2, ?_⟩
    rwa [Int.toNat_of_nonneg h0]
open Classical in
/-- the instructions that ask for what is not surely set -/
noncomputable def unsetN (c : Cd) : List Nat := (List.range c.l.length).filter fun i => decide (Way c.l (-1) i ∧ ∃ x, c.l[i]? = some x ∧ ∃ r ∈ readsJ x, r ∉ setN c i)
/-- the error of code that is checked -/
noncomputable def validE (c : Cd) : Int := if c.may = false then 1 else if unsetN c ≠ [] then 7 else if c.l.any (fun x => (x.op == 7 || x.op == 9) && decide (x.a < c.I)) then 3 else 0
open Classical in
noncomputable def loopsN (c : Cd) : List Nat := (List.range c.l.length).filter fun i => decide (Way c.l (-1) i ∧ ∃ x, c.l[i]? = some x ∧ ∃ k ∈ nextJ x i, k ≤ (i : Int))
/-- where one way has come to, and what was set on it -/
structure Goes (c : Cd) (at_ : Nat) (was : Int → Bool) : Prop where
  way : Way c.l (-1) at_
  set_ : ∀ n, 0 ≤ n → n < c.R → was n = false → Way c.l n at_
theorem Goes.start (c : Cd) : Goes c 0 (fun _ => false) := ⟨.start, fun _ _ _ _ => .start⟩
theorem Goes.was {c : Cd} {at_ : Nat} {was : Int → Bool} (h : Goes c at_ was) : ∀ n ∈ setN c at_, was n = true := by
  intro n hn
  obtain ⟨h0, h1, _, h3⟩ := mem_setN.1 hn
  cases e : was n with
  | true => rfl
  | false => exact absurd (h.set_ n h0 h1 e) h3
theorem Goes.reads {c : Cd} (hf : unsetN c = []) {at_ : Nat} {was : Int → Bool} (h : Goes c at_ was) {x : Ji} (hx : c.l[at_]? = some x) : ∀ r ∈ readsJ x, was r = true := by
  intro r hr
  refine h.was r ?_
  apply Classical.byContradiction
  intro hn
  have : at_ ∈ unsetN c := by
    unfold unsetN
    rw [List.mem_filter, List.mem_range]
    exact ⟨(List.getElem?_eq_some_iff.1 hx).1, by simp only [decide_eq_true_eq]; exact ⟨h.way, x, hx, r, hr, hn⟩⟩
  rw [hf] at this
  cases this
/-- what was set, with what an instruction sets -/
def wasX (x : Ji) (was : Int → Bool) : Int → Bool := fun n => if setsJ x = true ∧ writesJ x = n then true else was n
theorem Goes.step {c : Cd} (hm : c.may = true) {at_ k : Nat} {was : Int → Bool} (h : Goes c at_ was) {x : Ji} (hx : c.l[at_]? = some x) (hk : (k : Int) ∈ nextJ x at_) : Goes c k (wasX x was) := by
  refine ⟨h.way.on hm hx hk, fun n h0 h1 hn => ?_⟩
  unfold wasX at hn
  split at hn
  · cases hn
  · rename_i hs
    exact .step (h.set_ n h0 h1 hn) hx hs hk
/-- code without loops goes on behind each time -/
theorem loops_none {c : Cd} (hl : loopsN c = []) {i : Nat} (hw : Way c.l (-1) i) {x : Ji} (hx : c.l[i]? = some x) : ∀ k ∈ nextJ x i, (i : Int) < k := by
  intro k hk
  apply Classical.byContradiction
  intro hn
  have : i ∈ loopsN c := by
    unfold loopsN
    rw [List.mem_filter, List.mem_range]
    exact ⟨(List.getElem?_eq_some_iff.1 hx).1, by simp only [decide_eq_true_eq]; exact ⟨hw, x, hx, k, hk, by omega⟩⟩
  rw [hl] at this
  cases this
end Go.Proofs.YtmnadieblhdcpaaDoor
/- How the instructions that are reached are marked, round by round: plain mathematics. Nothing is claimed of the program here. -/
namespace Go.Proofs.YtmnadieblhdcpaaDoor
open Go.RowKit

/-- what is marked of a list of instructions -/
structure RcI (l : List Ji) (but : Int) (o : List Bool) : Prop where
  len : o.length = l.length
  z : o[0]? = some true
  snd : ∀ i : Nat, o[i]? = some true → Way l but i
/-- where it goes on from what is marked is marked -/
def RcC (l : List Ji) (but : Int) (o : List Bool) : Prop := ∀ (i : Nat) (x : Ji) (k : Nat), o[i]? = some true → l[i]? = some x → ¬(setsJ x = true ∧ writesJ x = but) → (k : Int) ∈ nextJ x i → o[k]? = some true
def RcL (o o2 : List Bool) : Prop := ∀ i : Nat, o[i]? = some true → o2[i]? = some true
def cntB (o : List Bool) : Nat := o.countP id
theorem rcL_cons {a b : Bool} {o o2 : List Bool} (h : RcL (a :: o) (b :: o2)) : (a = true → b = true) ∧ RcL o o2 :=
  ⟨fun e => by have := h 0 (by simp [e]); simpa using this, fun i hi => by have := h (i + 1) (by simpa using hi); simpa using this⟩
theorem cnt_le : ∀ {o o2 : List Bool}, o.length = o2.length → RcL o o2 → cntB o ≤ cntB o2 ∧ (cntB o = cntB o2 → o = o2)
  | [], [], _, _ => ⟨Nat.le_refl _, fun _ => rfl⟩
  | [], _ :: _, h, _ => by simp at h
  | _ :: _, [], h, _ => by simp at h
  | a :: o, b :: o2, h, hl => by
    obtain ⟨h1, h2⟩ := rcL_cons hl
    obtain ⟨i1, i2⟩ := cnt_le (o := o) (o2 := o2) (by simpa using h) h2
    unfold cntB at *
    rw [List.countP_cons, List.countP_cons]
    cases a <;> cases b
    · simp only [id, Bool.false_eq_true, if_false, Nat.add_zero]
      exact ⟨i1, fun e => by rw [i2 e]⟩
    · simp only [id, Bool.false_eq_true, if_false, if_true, Nat.add_zero]
      exact ⟨by omega, fun e => by omega⟩
    · exact absurd (h1 rfl) (by decide)
    · simp only [id, if_true]
      exact ⟨by omega, fun e => by rw [i2 (by omega)]⟩
theorem cnt_len (o : List Bool) : cntB o ≤ o.length := List.countP_le_length
theorem closed_all {l : List Ji} {but : Int} {o : List Bool} (hz : o[0]? = some true) (hc : RcC l but o) {k : Nat} (h : Way l but k) : o[k]? = some true := by
  induction h with
  | start => exact hz
  | step _ hl hn hk ih => exact hc _ _ _ ih hl hn hk
/-- behind r rounds -/
structure RcR (l : List Ji) (but : Int) (r : Nat) (o : List Bool) : Prop where
  base : RcI l but o
  pr : RcC l but o ∨ r + 1 ≤ cntB o
theorem RcR.start {l : List Ji} {but : Int} (h : 0 < l.length) : RcR l but 0 ((List.replicate l.length false).set 0 true) := by
  have h0 : ((List.replicate l.length false).set 0 true)[0]? = some true := by rw [List.getElem?_set_self (by simpa using h)]
  refine ⟨⟨by simp, h0, fun i hi => ?_⟩, .inr ?_⟩
  · by_cases e : i = 0
    · subst e; exact .start
    · rw [List.getElem?_set_ne (by omega), List.getElem?_replicate] at hi
      split at hi <;> simp at hi
  · unfold cntB
    have : 0 < ((List.replicate l.length false).set 0 true).countP id := List.countP_pos_iff.2 ⟨true, List.mem_of_getElem? h0, rfl⟩
    omega
/-- in a round, ahead of instruction i; o0 is what was marked at its start -/
structure RcN (l : List Ji) (but : Int) (o0 : List Bool) (i : Nat) (o : List Bool) : Prop where
  base : RcI l but o
  le : RcL o0 o
  done : ∀ i2, i2 < i → ∀ (x : Ji) (k : Nat), o0[i2]? = some true → l[i2]? = some x → ¬(setsJ x = true ∧ writesJ x = but) → (k : Int) ∈ nextJ x i2 → o[k]? = some true
theorem RcN.start {l : List Ji} {but : Int} {o : List Bool} (h : RcI l but o) : RcN l but o 0 o := ⟨h, fun _ h => h, fun i2 h2 => absurd h2 (by omega)⟩
theorem RcN.skip {l : List Ji} {but : Int} {o0 o : List Bool} {i : Nat} {x : Ji} (h : RcN l but o0 i o) (hx : l[i]? = some x) (hs : o[i]? ≠ some true ∨ (setsJ x = true ∧ writesJ x = but)) : RcN l but o0 (i + 1) o := by
  refine ⟨h.base, h.le, fun i2 h2 y k h3 h4 h5 h6 => ?_⟩
  by_cases e : i2 = i
  · subst e
    rw [hx] at h4
    injection h4 with h4
    subst h4
    rcases hs with hs | hs
    · exact absurd (h.le _ h3) hs
    · exact absurd hs h5
  · exact h.done i2 (by omega) y k h3 h4 h5 h6
/-- at an instruction that is marked, and may be gone through: the first j of those where it goes on are marked -/
structure RcJ (l : List Ji) (but : Int) (o0 : List Bool) (i : Nat) (x : Ji) (j : Nat) (o : List Bool) : Prop where
  base : RcN l but o0 i o
  at_ : l[i]? = some x
  mkd : o[i]? = some true
  may : ¬(setsJ x = true ∧ writesJ x = but)
  done : ∀ j2, j2 < j → ∀ k : Nat, (nextJ x i)[j2]? = some (k : Int) → o[k]? = some true
theorem RcN.open_ {l : List Ji} {but : Int} {o0 o : List Bool} {i : Nat} {x : Ji} (h : RcN l but o0 i o) (hx : l[i]? = some x) (hm : o[i]? = some true) (hn : ¬(setsJ x = true ∧ writesJ x = but)) : RcJ l but o0 i x 0 o := ⟨h, hx, hm, hn, fun j2 h2 => absurd h2 (by omega)⟩
theorem set_true {o : List Bool} {k i : Nat} (h : o[i]? = some true) : (o.set k true)[i]? = some true := by
  by_cases e : k = i
  · subst e
    exact List.getElem?_set_self (List.getElem?_eq_some_iff.1 h).1
  · rw [List.getElem?_set_ne e]; exact h
theorem RcJ.step {l : List Ji} {but : Int} {o0 o : List Bool} {i j k : Nat} {x : Ji} (h : RcJ l but o0 i x j o) (hk : (nextJ x i)[j]? = some (k : Int)) (hl : k < l.length) : RcJ l but o0 i x (j + 1) (o.set k true) := by
  refine ⟨⟨⟨by rw [List.length_set]; exact h.base.base.len, set_true h.base.base.z, fun i2 h2 => ?_⟩, fun i2 h2 => set_true (h.base.le _ h2), fun i2 h2 y k2 h3 h4 h5 h6 => set_true (h.base.done i2 h2 y k2 h3 h4 h5 h6)⟩, h.at_, set_true h.mkd, h.may, fun j2 h2 k2 h3 => ?_⟩
  · by_cases e : k = i2
    · subst e
      exact .step (h.base.base.snd i h.mkd) h.at_ h.may (List.mem_of_getElem? hk)
    · rw [List.getElem?_set_ne e] at h2
      exact h.base.base.snd _ h2
  · by_cases e : j2 = j
    · subst e
      rw [hk] at h3
      injection h3 with h3
      have : k = k2 := by omega
      subst this
      exact List.getElem?_set_self (by rw [h.base.base.len]; exact hl)
    · exact set_true (h.done j2 (by omega) k2 h3)
theorem RcJ.close {l : List Ji} {but : Int} {o0 o : List Bool} {i j : Nat} {x : Ji} (h : RcJ l but o0 i x j o) (hj : j = (nextJ x i).length) : RcN l but o0 (i + 1) o := by
  refine ⟨h.base.base, h.base.le, fun i2 h2 y k h3 h4 h5 h6 => ?_⟩
  by_cases e : i2 = i
  · subst e
    rw [h.at_] at h4
    injection h4 with h4
    subst h4
    obtain ⟨j2, e2⟩ := List.mem_iff_getElem?.1 h6
    have hj2 := (List.getElem?_eq_some_iff.1 e2).1
    exact h.done j2 (by omega) k e2
  · exact h.base.done i2 (by omega) y k h3 h4 h5 h6
theorem RcN.close {l : List Ji} {but : Int} {o0 o : List Bool} {r : Nat} (h0 : RcR l but r o0) (h : RcN l but o0 l.length o) : RcR l but (r + 1) o := by
  refine ⟨h.base, ?_⟩
  rcases h0.pr with hc | hc
  · left
    intro i x k h1 h2 h3 h4
    exact h.le _ (closed_all h0.base.z hc (.step (h.base.snd i h1) h2 h3 h4))
  · obtain ⟨h1, h2⟩ := cnt_le (o := o0) (o2 := o) (h0.base.len.trans h.base.len.symm) h.le
    by_cases e : cntB o0 = cntB o
    · left
      have e2 := h2 e
      intro i x k h3 h4 h5 h6
      refine h.done i (List.getElem?_eq_some_iff.1 h4).1 x k ?_ h4 h5 h6
      rw [e2]; exact h3
    · right; omega
open Classical in
theorem RcR.done {c : Cd} {but : Int} {o : List Bool} (h : RcR c.l but c.l.length o) : o = reachB c but := by
  have hc : RcC c.l but o := by
    rcases h.pr with hc | hc
    · exact hc
    · have := cnt_len o
      have := h.base.len
      omega
  apply List.ext_getElem?
  intro i
  unfold reachB
  by_cases hi : i < c.l.length
  · rw [List.getElem?_map, List.getElem?_range hi]
    have hio : i < o.length := by rw [h.base.len]; exact hi
    rw [List.getElem?_eq_getElem hio]
    simp only [Option.map_some, Option.some.injEq]
    by_cases hw : Way c.l but i
    · have := closed_all h.base.z hc hw
      rw [List.getElem?_eq_getElem hio] at this
      injection this with this
      rw [this]
      exact (by simpa using hw)
    · cases hv : o[i] with
      | false => simpa using hw
      | true => exact absurd (h.base.snd i (by rw [List.getElem?_eq_getElem hio, hv])) hw
  · rw [List.getElem?_eq_none (by rw [h.base.len]; omega), List.getElem?_eq_none (by simp; omega)]
end Go.Proofs.YtmnadieblhdcpaaDoor
/- The document's marking of what is reached. -/
namespace Go.Proofs.YtmnadieblhdcpaaDoor
open Go.RowKit

theorem next_two15 (x : Ji) (i : Int) : (nextJ x i).length ≤ 2 := by
  unfold nextJ
  repeat' split
  all_goals simp
/-- where the variables of reach lie -/
structure RchI (w : World) (q : Cq) (g : Nat) (W : World) (o : List Bool) : Prop where
  bel : Below w.heap.size w W
  bx : W.heap[w.heap.size]? = some q.obj
  gn : w.heap.size < g
  ob : BoB W g o
section
variable {w W W' : World} {q : Cq} {g : Nat} {o : List Bool}
theorem RchI.on (h : RchI w q g W o) (hb : Below W.heap.size W W') : RchI w q g W' o := ⟨h.bel.trans (hb.mono h.bel.size), keep_b hb h.bx, h.gn, keep_b hb h.ob⟩
theorem RchI.set (h : RchI w q g W o) (k : Nat) : RchI w q g (W.setCell ⟨g, k, none⟩ (.bool true)) (o.set k true) := by
  have := h.gn
  exact ⟨h.bel.setCell (p := ⟨g, k, none⟩) (by show w.heap.size ≤ g; omega) _, (Below.heap_setCell _ ⟨g, k, none⟩ _ _ (by show w.heap.size ≠ g; omega)).trans h.bx, h.gn, h.ob.set k true⟩
end
def RchP (q : Cq) (but : Int) (w : World) (e : Ending) (w' : World) : Prop := ∃ g, e = .returned (.slice (some ⟨g, 0, none⟩) q.n q.n) ∧ w.heap.size ≤ g ∧ BoB w' g (reachB q.cd but) ∧ Below w.heap.size w w'
set_option maxRecDepth 100000 in
set_option maxHeartbeats 8000000 in
theorem refReachI_any (q : Cq) (but : Int) (w : World) (hq : q.In w) (hm : q.cd.may = true) : Calls Tryd.prog 35 #[q.val, .int .i64 but] w (RchP q but w) := by
  obtain ⟨R, A, I, P, n, c, l⟩ := q
  have HQ := Lib.hid hq
  have HLN : Hid (l.length = n) := hq.len
  have HM := Lib.hid hm
  obtain ⟨⟨_, _, _, _, _, _, hl0, hl1⟩, _⟩ := Cd.may_parts hm
  have hl0 : 1 ≤ l.length := hl0
  have hl1 : l.length ≤ 4096 := hl1
  rw [HLN.out] at hl0 hl1
  obtain ⟨i2, hi2, hx0, hx1, hx2⟩ := info_parts infoBo
  have hmk := fun W => run_makeBo (P := Tryd.prog) 27 4 i2 Tryd.underlying27 hi2 hx0 hx1 hx2 n (by omega) W
  have HXO : Hid (∀ x ∈ l, x.ok) := hq.ins.2.1
  obtain ⟨W0, hW0⟩ : ∃ W, w.alloc (Cq.obj ⟨R, A, I, P, n, c, l⟩) = W := ⟨_, rfl⟩
  obtain ⟨W1, hW1⟩ : ∃ W, W0.alloc (.cells (Array.replicate n (Value.bool false)) 4) = W := ⟨_, rfl⟩
  obtain ⟨g, hg⟩ : ∃ z, W0.heap.size = z := ⟨_, rfl⟩
  have HI0 : Hid (RchI w ⟨R, A, I, P, n, c, l⟩ g W1 (List.replicate n false)) := by
    have h0 : W0.heap[w.heap.size]? = some (Cq.obj ⟨R, A, I, P, n, c, l⟩) := by rw [← hW0]; exact heap_alloc_new w _
    have hb0 : Below w.heap.size w W0 := by rw [← hW0]; exact lvBelow w _
    have hb1 : Below W0.heap.size W0 W1 := by rw [← hW1]; exact lvBelow W0 _
    exact ⟨hb0.trans (hb1.mono hb0.size), keep_b hb1 h0, by rw [← hg]; exact lt_of_heap h0, by rw [← hg, ← hW1]; exact BoB.made W0 n⟩
  have hX0 := heap_alloc_new w (Cq.obj ⟨R, A, I, P, n, c, l⟩)
  rw [hW0] at hX0
  obtain ⟨k0, k1, k2, k3, _⟩ := lvCells hX0
  have HW1 := Lib.hid hW1
  have HGG := Lib.hid hg
  have l0 : (0 : Int) < (n : Int) := by omega
  clear hq hm hX0 hW1 hg
  go_enter Tryd.func35, Tryd.ntmps35
  go_upto_region 2 with fail
  try rw [hW0]
  rw [HW1.out, HGG.out]
  clear k0 k1 k2 k3 hmk
  obtain ⟨o0, of0⟩ := HI0.out.ob.at_ (i := 0) (v := false) (by rw [List.getElem?_replicate, if_pos (by omega)])
  have HI1 := Lib.hid (HI0.out.set 0)
  obtain ⟨W2, hW2⟩ : ∃ W, W1.setCell ⟨g, 0, none⟩ (.bool true) = W := ⟨_, rfl⟩
  rw [hW2] at HI1
  have HW2 := Lib.hid hW2
  clear hW2
  go_upto_region 3 with fail
  try rw [HW2.out]
  clear HW2 o0 of0 hW0 HW1 HGG HI0
  have HR0 : Hid (RcR l but 0 ((List.replicate n false).set 0 true)) := by rw [← HLN.out]; exact RcR.start (by rw [HLN.out]; exact hl0)
  obtain ⟨k0, k1, k2, k3, _⟩ := lvCells HI1.out.bx
  go_wp2_with fail
  clear k0 k1 k2 k3
  go_loopw [21] (fun a wr => ∃ (r : Nat) (o : List Bool), r ≤ n ∧ a = .int .i64 r ∧ Hid (RcR l but r o) ∧ Hid (RchI w ⟨R, A, I, P, n, c, l⟩ g wr o)) (fun a _ => n - (intOf a).toNat)
  case atStart => exact ⟨0, _, Nat.zero_le _, rfl, HR0, HI1⟩
  case round =>
    obtain ⟨r, o0, hr, rfl, HR, HI⟩ := hrel
    by_cases hlt : r < n
    case neg =>
      obtain rfl : r = n := by omega
      have HD : Hid (o0 = reachB (Cq.cd ⟨R, A, I, P, r, c, l⟩) but) := RcR.done (c := Cq.cd ⟨R, A, I, P, r, c, l⟩) (by have h := HR.out; rw [← HLN.out] at h; exact h)
      go_wp2_with fail
      go_ret
      have hgn := HI.out.gn
      exact ⟨g, rfl, by omega, by rw [← HD.out]; exact HI.out.ob, HI.out.bel⟩
    obtain ⟨k0, k1, k2, k3, _⟩ := lvCells HI.out.bx
    have HN0 : Hid (RcN l but o0 0 o0) := RcN.start HR.out.base
    obtain ⟨wo, rfl⟩ : ∃ wo : World, wo = wr := ⟨_, rfl⟩
    go_wp2_with fail
    clear k0 k1 k2 k3
    go_loopw [26] (fun a wr => ∃ (i : Nat) (o : List Bool), i ≤ n ∧ a = .int .i64 i ∧ Hid (RcN l but o0 i o) ∧ Hid (RchI w ⟨R, A, I, P, n, c, l⟩ g wr o)) (fun a _ => n - (intOf a).toNat)
    case atStart => exact ⟨0, o0, Nat.zero_le _, rfl, HN0, HI⟩
    case round =>
      obtain ⟨i, o, hi, rfl, HN, HI⟩ := hrel
      by_cases hin : i < n
      case neg =>
        obtain rfl : i = n := by omega
        have HR2 : Hid (RcR l but (r + 1) o) := RcN.close HR.out (by rw [HLN.out]; exact HN.out)
        go_wp2_with fail
        go_roundw
        case rel => exact ⟨r + 1, o, by omega, by go_num, HR2, HI⟩
        case measure => simp [intOf]; omega
      obtain ⟨b, off, x, hA, hbb, HX, ⟨y0, y1, y2, y3, y4⟩, hxo⟩ := ((HQ.out.on HI.out.bel).ins).at_ hin
      subst hA
      have hij : (i : Int) < (n : Int) := by omega
      obtain ⟨v, hv⟩ : ∃ v, o[i]? = some v := ⟨_, List.getElem?_eq_getElem (by rw [HN.out.base.len, HLN.out]; exact hin)⟩
      have HV := Lib.hid hv
      have HXK := Lib.hid hxo
      obtain ⟨W4, hW4⟩ : ∃ W, wr.alloc x.obj = W := ⟨_, rfl⟩
      obtain ⟨g4, hg4⟩ : ∃ z, wr.heap.size = z := ⟨_, rfl⟩
      have hb4 : Below wr.heap.size wr W4 := by rw [← hW4]; exact lvBelow _ _
      have HI4 := Lib.hid (HI.out.on hb4)
      have HY4 : Hid (W4.heap[g4]? = some x.obj) := by rw [← hW4, ← hg4]; exact newJ wr x
      have HW4 := Lib.hid hW4
      clear hbb hxo hb4 hW4 hv
      go_upto_region 8 with fail
      try rw [HW4.out]
      try rw [hg4]
      clear hg4 HW4 y0 y1 y2 y3 y4
      obtain ⟨⟨y0, y1, y2, y3, y4⟩, _⟩ := box_cellsJ HY4.out
      go_wp2_with fail
      refine (refWrites_any x W4).mono ?_
      rintro e w5 ⟨rfl, hb⟩
      have HI5 := Lib.hid (HI4.out.on hb)
      have HY5 := Lib.hid (keep_b hb HY4.out)
      clear hb y0 y1 y2 y3 y4
      obtain ⟨o1, _⟩ := HI5.out.ob.at_ HV.out
      by_cases hgo : v = true ∧ ¬(setsJ x = true ∧ writesJ x = but)
      case neg =>
        have HN2 : Hid (RcN l but o0 (i + 1) o) := HN.out.skip HX.out (by
          by_cases h1 : setsJ x = true ∧ writesJ x = but
          · exact .inr h1
          · left
            rw [HV.out]
            intro e
            injection e with e
            exact hgo ⟨e, h1⟩)
        cases v with
        | false =>
          clear hgo
          go_wp2_with fail
          go_roundw
          case rel => exact ⟨i + 1, o, by omega, by go_num, HN2, HI5⟩
          case measure => simp [intOf]; omega
        | true =>
          have h1 : setsJ x = true ∧ writesJ x = but := Classical.byContradiction fun h => hgo ⟨rfl, h⟩
          have s1 := h1.1
          have s2 : (writesJ x == but) = true := by simpa using h1.2
          clear hgo h1
          go_wp2_with fail
          go_roundw
          case rel => exact ⟨i + 1, o, by omega, by go_num, HN2, HI5⟩
          case measure => simp [intOf]; omega
      obtain ⟨rfl, hns⟩ := hgo
      have HJ0 : Hid (RcJ l but o0 i x 0 o) := HN.out.open_ HX.out HV.out hns
      have HNS := Lib.hid hns
      have hMX : ∀ k ∈ nextJ x i, 0 ≤ k ∧ k < n := by
        have h := Cd.next_in HM.out (i := i) (x := x) HX.out
        have e : (Cq.cd ⟨R, A, I, some ⟨b, off, none⟩, n, c, l⟩).l.length = n := HLN.out
        rw [e] at h
        exact h
      have HMX := Lib.hid hMX
      obtain ⟨⟨y0, y1, y2, y3, y4⟩, _⟩ := box_cellsJ HY5.out
      have hNx := refNext14_any x (i : Int) w5 HXK.out
      unfold NextP at hNx
      obtain ⟨nx, hnx⟩ : ∃ z, nextJ x (i : Int) = z := ⟨_, rfl⟩
      have hnx2 : nx.length ≤ 2 := by rw [← hnx]; exact next_two15 x i
      rw [hnx] at hNx HMX
      have HNX := Lib.hid hnx
      obtain ⟨m, hm⟩ : ∃ m, nx.length = m := ⟨_, rfl⟩
      rw [hm] at hNx hnx2
      have HML := Lib.hid hm
      clear hnx hm hMX HN
      clear y0 y1 y2 y3 y4
      go_upto_region 9 with fail
      go_cut [9, 31, 33, 35, 48] (fun a9 a31 a33 a35 a wx => a9 = .bool (setsJ x) ∧ a31 = .tuple #[.int .i64 (writesJ x), .bool (setsJ x)] ∧ a33 = .tuple #[.int .i64 (writesJ x), .bool (setsJ x)] ∧ a35 = .bool (setsJ x) ∧ a = .bool false ∧ wx = w5)
      case first =>
        cases hst : setsJ x with
        | false =>
          go_wp2_with fail
          go_meet
          case rel => exact ⟨by rw [hst], by rw [hst], by rw [hst], by rw [hst], rfl, rfl⟩
        | true =>
          have s2 : (writesJ x == but) = false := by
            rw [beq_eq_false_iff_ne]
            exact fun e => HNS.out ⟨hst, e⟩
          go_wp2_with fail
          go_meet
          case rel => exact ⟨by rw [hst], by rw [hst], by rw [hst], by rw [hst], rfl, rfl⟩
      obtain ⟨rfl, rfl, rfl, rfl, rfl, rfl⟩ := hcut
      obtain ⟨⟨y0, y1, y2, y3, y4⟩, _⟩ := box_cellsJ HY5.out
      clear o1
      go_wp2_with fail
      (with_reducible refine hNx.mono ?_)
      rintro e w6 ⟨A6, c6, rfl, hO6, hb⟩
      have HI6 := Lib.hid (HI5.out.on hb)
      have HO6 := Lib.hid hO6
      clear hb hO6 hNx y0 y1 y2 y3 y4
      go_wp2_with fail
      go_loopw [53] (fun a wr => ∃ (j : Nat) (o : List Bool), j ≤ m ∧ a = .int .i64 j ∧ Hid (RcJ l but o0 i x j o) ∧ Hid (RchI w ⟨R, A, I, some ⟨b, off, none⟩, n, c, l⟩ g wr o) ∧ Hid (OwnI wr wc.heap.size 3 A6 c6 nx) ∧ Hid (g < wc.heap.size)) (fun a _ => m - (intOf a).toNat)
      case atStart => exact ⟨0, o, Nat.zero_le _, rfl, HJ0, HI6, HO6, Lib.hid (lt_of_heap HI5.out.ob)⟩
      case round =>
        obtain ⟨j, o2, hj, rfl, HJ, HI7, HO7, HGL⟩ := hrel
        by_cases hjm : j < m
        case neg =>
          obtain rfl : j = m := by omega
          have HN2 : Hid (RcN l but o0 (i + 1) o2) := HJ.out.close (by rw [HNX.out]; exact HML.out.symm)
          go_wp2_with fail
          go_roundw
          case rel => exact ⟨i + 1, o2, by omega, by go_num, HN2, HI7⟩
          case measure => simp [intOf]; omega
        obtain ⟨z, hz⟩ : ∃ z, nx[j]? = some z := ⟨_, List.getElem?_eq_getElem (by rw [HML.out]; exact hjm)⟩
        have hzb := HMX.out z (List.mem_of_getElem? hz)
        obtain ⟨k, rfl⟩ : ∃ k : Nat, z = (k : Int) := ⟨z.toNat, by omega⟩
        have hkn : k < n := by omega
        have hkz : (k : Int) < (n : Int) := by omega
        have hk0 : (0 : Int) ≤ (k : Int) := by omega
        have hjj : (j : Int) < (m : Int) := by omega
        have HJ2 : Hid (RcJ l but o0 i x (j + 1) (o2.set k true)) := HJ.out.step (by rw [HNX.out]; exact hz) (by rw [HLN.out]; exact hkn)
        obtain ⟨g6, rfl, z0⟩ := own_at15 HO7.out hz
        obtain ⟨vk, hvk⟩ : ∃ v, o2[k]? = some v := ⟨_, List.getElem?_eq_getElem (by rw [HJ.out.base.base.len, HLN.out]; exact hkn)⟩
        obtain ⟨ok, okf⟩ := HI7.out.ob.at_ hvk
        have HI8 := Lib.hid (HI7.out.set k)
        have HO8 : Hid (OwnI (wr.setCell ⟨g, k, none⟩ (.bool true)) wc.heap.size 3 (some ⟨g6, 0, none⟩) c6 nx) := HO7.out.far HGL.out k (.bool true)
        clear hz hvk hzb
        go_wp2_with fail
        go_roundw
        case rel => exact ⟨j + 1, _, by omega, by go_num, HJ2, HI8, HO8, HGL⟩
        case measure => simp [intOf]; omega
end Go.Proofs.YtmnadieblhdcpaaDoor
/- append onto a slice of the call's own: where the result lies (the slice's own block, or a new one), so that two slices may grow side by side. Nothing is claimed of the program here. -/
namespace Go.Proofs.YtmnadieblhdcpaaDoor
open Go.RowKit

theorem OwnI.grownL {w w' : World} {base c : Nat} {e : TypeId} {A : Option Addr} {xs : List Int} {row : Option Nat} (h : OwnI w base e A c xs) (hg : w.grownBy w' row) (hr : ∀ g, A = some ⟨g, 0, none⟩ → some g ≠ row) : OwnI w' base e A c xs := by
  refine ⟨h.1.kept hg ?_, h.2⟩
  rcases h.1.2 with ⟨hv, _⟩ | ⟨g', cap, cur, hv, _⟩
  · rw [hv]; exact .inl rfl
  · right
    have hA : A = some ⟨g', 0, none⟩ := by injection hv
    subst hA
    exact hr g' rfl
theorem OwnI.ltL {w : World} {base c g : Nat} {e : TypeId} {xs : List Int} (h : OwnI w base e (some ⟨g, 0, none⟩) c xs) : base ≤ g ∧ g < w.heap.size := h.1.lt g rfl
theorem own_block_neL {w : World} {base c r g : Nat} {e : TypeId} {A : Option Addr} {xs : List Int} (h : OwnI w base e A c xs) (hr : xs.length = r) (hne : A ≠ some ⟨g, 0, none⟩) : some g ≠ (Value.slice A r c).ownBlock := by
  subst hr
  rcases h.1.2 with ⟨hv, _⟩ | ⟨g', cap, cur, hv, _⟩
  · rw [hv]; intro h; cases h
  · have hA : A = some ⟨g', 0, none⟩ := by injection hv
    subst hA
    intro h
    simp only [Value.ownBlock, Option.some.injEq] at h
    exact hne (by rw [h])
/-- two slices of the call's own that share no block -/
def Apart (A B : Option Addr) : Prop := ∀ g, A = some ⟨g, 0, none⟩ → B ≠ some ⟨g, 0, none⟩

theorem append_where {P : Program} (w : World) (base : Nat) (t ty e : TypeId) (i : TypeInfo) (ht : P.underlying t = some (.slice e)) (hi : P.info? e = some i) (hz : i.zero = some (.int .i64 0)) (h1 : i.size = 1) (h2 : i.bytes = 8)
    (A A2 : Option Addr) (c m c2 B : Nat) (xs ys : List Int) (ho : OwnI w base e A c xs) (hs : Ints w B A2 m ys) (hl : xs.length + m ≤ 1000000) {A' : Option Addr} {r c' : Nat} {w' : World}
    (hrun : (Builtin.append_ #[t, t] ty #[.slice A xs.length c, .slice A2 m c2]).run P w = .ok (.slice A' r c') w') : ∀ g, A' = some ⟨g, 0, none⟩ → A = some ⟨g, 0, none⟩ ∨ w.heap.size ≤ g := by
  intro g hg
  have hlen := hs.1
  rcases Option.eq_none_or_eq_some A2 with rfl | ⟨ad, rfl⟩
  · obtain rfl : m = 0 := by
      rcases Nat.eq_zero_or_pos m with h0 | h0
      · exact h0
      · obtain ⟨b, off, e', _⟩ := hs.2.2 h0; cases e'
    have hr := run_appendNil (P := P) w base t ty e i ht hi (.slice A xs.length c) xs.length (xs.map (Value.int .i64)) ho.1 c2
    rw [hr] at hrun
    injection hrun with hrun _
    injection hrun with hrun _ _
    left; rw [hrun]; exact hg
  · have hl2 : (ys.map (Value.int .i64)).length = m * i.size := by rw [List.length_map, hlen, h1, Nat.mul_one]
    have hc := hs.cells_
    rcases ho.1.2 with ⟨hv, hn0⟩ | ⟨g0, cap, cur, hv, hbg, hgg, hnc, hcm, hcs, htk⟩
    · injection hv with hA hn hcc
      subst hA
      subst hcc
      rw [hn] at hrun
      rcases Nat.eq_zero_or_pos m with rfl | hm
      · obtain ⟨v', w2, hr, _, _, hiff⟩ := run_append_own (P := P) w 0 t ty e i (.int .i64 0) 1 8 ht hi hz h1 h2 rfl (by decide) (.slice none 0 0) 0 [] (World.ownsRow_nil w 0 e 1) ad 0 c2 (ys.map (Value.int .i64)) (by rw [hl2, h1]) hc (ints_one ys) (by unfold maxLen; omega) (by omega) (Nat.zero_le _)
        rw [hr] at hrun
        injection hrun with hrun _
        rw [hiff.2 ⟨rfl, rfl⟩] at hrun
        injection hrun with hrun _ _
        rw [← hrun] at hg; cases hg
      · have hr := run_append_nil (P := P) w t ty e i (.int .i64 0) ht hi hz ad m c2 (ys.map (Value.int .i64)) hl2 hc hm (by omega) (by rw [h2]; omega)
        rw [hr] at hrun
        injection hrun with hrun _
        injection hrun with hrun _ _
        right
        rw [← hrun] at hg
        injection hg with hg; injection hg with hg; omega
    · injection hv with hA hn hcc
      subst hA
      subst hcc
      by_cases hroom : xs.length + m ≤ c
      · have hr := run_append_room (P := P) w t ty e i ht hi g0 xs.length c cur hgg ad m c2 (ys.map (Value.int .i64)) hl2 hc (ints_one ys) hroom (by rw [hl2, h1, hcs]; omega)
        rw [hr] at hrun
        injection hrun with hrun _
        injection hrun with hrun _ _
        left; rw [hrun]; exact hg
      · have hr := run_append_grow (P := P) w t ty e i (.int .i64 0) ht hi hz ⟨g0, 0, none⟩ xs.length c (xs.map (Value.int .i64)) (by rw [List.length_map, h1, Nat.mul_one]) (ho.1.cells (g := g0) rfl) ad m c2 (ys.map (Value.int .i64)) hl2 hc (by omega) (by omega) (growslice_fits (by omega) (by rw [h2]; omega))
        rw [hr] at hrun
        injection hrun with hrun _
        injection hrun with hrun _ _
        right
        rw [← hrun] at hg
        injection hg with hg; injection hg with hg; omega

/-- append of integers: the result, its block, what stands -/
theorem wpList_appendWhere {P : Program} (w : World) {ops : Array Oper} {rest : List Oper} {o : Oper} {a : Act} {Q : Exit → Act → World → Prop}
    (hg : o.guard = none) (s x : Operand) (t : TypeId) (hop : o.op = Op.call { callee := Callee.builtin Builtin.append, args := #[s, x], argTypes := #[t, t] })
    (base : Nat) (e : TypeId) (i : TypeInfo) (ht : P.underlying t = some (.slice e)) (hi : P.info? e = some i) (hz : i.zero = some (.int .i64 0)) (h1 : i.size = 1) (h2 : i.bytes = 8)
    (A A2 : Option Addr) (c m c2 B p r : Nat) (xs ys : List Int) (hs : a.eval s = .slice A p c) (hx : a.eval x = .slice A2 m c2) (ho : OwnI w base e A c xs) (hp : xs.length = p) (hr : p + m = r) (hi2 : Ints w B A2 m ys) (hl : r ≤ 1000000) (hb : base ≤ w.heap.size)
    (hK : ∀ A' c' w', OwnI w' base e A' c' (xs ++ ys) → w.grownBy w' (Value.slice A p c).ownBlock → (∀ g, A' = some ⟨g, 0, none⟩ → A = some ⟨g, 0, none⟩ ∨ w.heap.size ≤ g) → wpList P ops Q rest (a.put o.dst (.slice A' r c')) w') : wpList P ops Q (o :: rest) a w := by
  refine wpList_plain hg fun K hK' => ?_
  subst hp
  subst hr
  obtain ⟨A', c', w', hrun, ho', hb'⟩ := run_appendInts (P := P) w base t o.type e i ht hi hz h1 h2 A A2 c m c2 B xs ys ho hi2 hl hb
  have hw := append_where (P := P) w base t o.type e i ht hi hz h1 h2 A A2 c m c2 B xs ys ho hi2 hl hrun
  unfold Oper.wp
  simp [execOp, hop, resolve, invoke, builtin, hs, hx, hrun, Result.andThen]
  exact hK' _ _ (hK _ _ _ ho' hb' hw)
end Go.Proofs.YtmnadieblhdcpaaDoor
/- Slices of slices of integers: how they read, those of the call's own, and one more behind them. -/
namespace Go.Proofs.YtmnadieblhdcpaaDoor
open Go.RowKit

set_option maxRecDepth 100000 in
theorem infoRow : (Tryd.prog.info? 34).map (fun i => (i.zero, i.size, i.bytes)) = some (some (.slice none 0 0), 1, 24) := by kernel_rfl

/-- the header (A, n) leads to slices that read as the lists LL -/
def IntsLL (w : World) (B : Nat) (A : Option Addr) (n : Nat) (LL : List (List Int)) : Prop :=
  LL.length = n ∧ (0 < n → ∃ b off, A = some ⟨b, off, none⟩ ∧ b < B ∧ ∀ (k : Nat) (L : List Int), LL[k]? = some L → ∃ a c, w.cell? ⟨b, off + k, none⟩ = some (.slice a L.length c) ∧ L.length ≤ c ∧ Ints w B a L.length L)
theorem IntsLL.at_ {w : World} {B n k : Nat} {A : Option Addr} {LL : List (List Int)} (h : IntsLL w B A n LL) (hk : k < n) :
    ∃ b off L a c, A = some ⟨b, off, none⟩ ∧ b < B ∧ Hid (LL[k]? = some L) ∧ w.cell? ⟨b, off + k, none⟩ = some (.slice a L.length c) ∧ L.length ≤ c ∧ Ints w B a L.length L := by
  obtain ⟨hl, hc⟩ := h
  obtain ⟨b, off, rfl, hB, hx⟩ := hc (by omega)
  have hk' : k < LL.length := by omega
  obtain ⟨a, c, h1, h2, h3⟩ := hx k _ (List.getElem?_eq_getElem hk')
  exact ⟨b, off, LL[k], a, c, rfl, hB, List.getElem?_eq_getElem hk', h1, h2, h3⟩
theorem IntsLL.below {w w' : World} {B n : Nat} {A : Option Addr} {LL : List (List Int)} (h : IntsLL w B A n LL) (hb : Below B w w') : IntsLL w' B A n LL := by
  refine ⟨h.1, fun h0 => ?_⟩
  obtain ⟨b, off, rfl, hB, hx⟩ := h.2 h0
  refine ⟨b, off, rfl, hB, fun k L hL => ?_⟩
  obtain ⟨a, c, h1, h2, h3⟩ := hx k L hL
  exact ⟨a, c, (hb.cell (p := ⟨b, off + k, none⟩) hB).trans h1, h2, h3.below hb⟩
theorem IntsLL.more {w : World} {B B' n : Nat} {A : Option Addr} {LL : List (List Int)} (h : IntsLL w B A n LL) (hb : B ≤ B') : IntsLL w B' A n LL := by
  refine ⟨h.1, fun h0 => ?_⟩
  obtain ⟨b, off, rfl, hB, hx⟩ := h.2 h0
  refine ⟨b, off, rfl, by omega, fun k L hL => ?_⟩
  obtain ⟨a, c, h1, h2, h3⟩ := hx k L hL
  exact ⟨a, c, h1, h2, h3.more hb⟩
theorem IntsLL.nil_ (w : World) (B : Nat) (A : Option Addr) : IntsLL w B A 0 [] := ⟨rfl, fun h => absurd h (by omega)⟩

/-- the heads of slices of the call's own -/
def HeadsOK (w : World) (base : Nat) : List Value → List (List Int) → Prop
  | [], [] => True
  | v :: vs, L :: LL => (∃ a c, v = .slice a L.length c ∧ OwnI w base 3 a c L) ∧ HeadsOK w base vs LL
  | _, _ => False
theorem HeadsOK.len {w : World} {base : Nat} {vs : List Value} {LL : List (List Int)} (h : HeadsOK w base vs LL) : vs.length = LL.length := by
  induction vs generalizing LL with
  | nil => cases LL with | nil => rfl | cons L LL => exact h.elim
  | cons v vs ih => cases LL with | nil => exact h.elim | cons L LL => simp [ih h.2]
theorem HeadsOK.at_ {w : World} {base k : Nat} {vs : List Value} {LL : List (List Int)} {L : List Int} (h : HeadsOK w base vs LL) (hk : LL[k]? = some L) : ∃ a c, vs[k]? = some (.slice a L.length c) ∧ OwnI w base 3 a c L := by
  induction vs generalizing LL k with
  | nil => cases LL with | nil => simp at hk | cons L LL => exact h.elim
  | cons v vs ih => cases LL with
    | nil => exact h.elim
    | cons L' LL => cases k with
      | zero => simp at hk; subst hk; obtain ⟨a, c, rfl, ho⟩ := h.1; exact ⟨a, c, rfl, ho⟩
      | succ k => exact ih h.2 (by simpa using hk)
theorem HeadsOK.map {w w' : World} {base base' : Nat} {vs : List Value} {LL : List (List Int)} (h : HeadsOK w base vs LL) (hm : ∀ a c L, OwnI w base 3 a c L → OwnI w' base' 3 a c L) : HeadsOK w' base' vs LL := by
  induction vs generalizing LL with
  | nil => cases LL with | nil => trivial | cons L LL => exact h.elim
  | cons v vs ih => cases LL with
    | nil => exact h.elim
    | cons L LL => obtain ⟨⟨a, c, e, ho⟩, h2⟩ := h; exact ⟨⟨a, c, e, hm _ _ _ ho⟩, ih h2⟩
theorem HeadsOK.snoc {w : World} {base c : Nat} {a : Option Addr} {vs : List Value} {LL : List (List Int)} {L : List Int} (h : HeadsOK w base vs LL) (ho : OwnI w base 3 a c L) : HeadsOK w base (vs ++ [.slice a L.length c]) (LL ++ [L]) := by
  induction vs generalizing LL with
  | nil => cases LL with | nil => exact ⟨⟨a, c, rfl, ho⟩, trivial⟩ | cons L LL => exact h.elim
  | cons v vs ih => cases LL with
    | nil => exact h.elim
    | cons L LL => exact ⟨h.1, ih h.2⟩

/-- a slice of the call's own, of slices of the call's own -/
def OwnLL (w : World) (base : Nat) (A : Option Addr) (c : Nat) (LL : List (List Int)) : Prop :=
  ∃ vs, w.ownsRow base 34 1 (.slice A LL.length c) LL.length vs ∧ HeadsOK w base vs LL
theorem OwnLL.nil_ (w : World) (base : Nat) : OwnLL w base none 0 [] := ⟨[], w.ownsRow_nil base _ 1, trivial⟩
theorem OwnI.len_cap {w : World} {base : Nat} {e : TypeId} {A : Option Addr} {c : Nat} {xs : List Int} (h : OwnI w base e A c xs) : xs.length ≤ c := by
  rcases h.1.2 with ⟨hv, h0⟩ | ⟨g', cap, cur, hv, hb, hh, hc, _⟩
  · omega
  · injection hv with h1 h2 h3; omega
theorem OwnLL.ints {w : World} {base : Nat} {A : Option Addr} {c : Nat} {LL : List (List Int)} (h : OwnLL w base A c LL) : IntsLL w w.heap.size A LL.length LL := by
  obtain ⟨vs, hr, hh⟩ := h
  refine ⟨rfl, fun h0 => ?_⟩
  rcases hr.2 with ⟨_, h1⟩ | ⟨g, cap, cur, hv, _, hg, _⟩
  · omega
  have hA : A = some ⟨g, 0, none⟩ := by injection hv
  subst hA
  have hlt : g < w.heap.size := (hr.lt g rfl).2
  refine ⟨g, 0, rfl, hlt, fun k L hL => ?_⟩
  obtain ⟨a, c2, h1, h2⟩ := hh.at_ hL
  have hk := (List.getElem?_eq_some_iff.1 h1).1
  refine ⟨a, c2, ?_, h2.len_cap, h2.ints⟩
  rw [Nat.zero_add]
  exact (hr.cellAt k (by rw [← hh.len]; omega)).trans h1
theorem OwnLL.below {w w' : World} {base B : Nat} {A : Option Addr} {c : Nat} {LL : List (List Int)} (h : OwnLL w base A c LL) (hb : Below B w w') (hB : w.heap.size ≤ B) : OwnLL w' base A c LL := by
  obtain ⟨vs, hr, hh⟩ := h
  refine ⟨vs, ?_, hh.map fun a c L ho => ho.below hb hB⟩
  exact hr.kept ⟨hb.os, hb.tape, hb.output, hb.size, fun i hi _ => hb.block i (by omega)⟩ (row := none) (by cases hh : (Value.slice A LL.length c).ownBlock with | none => exact .inl rfl | some k => exact .inr (by simp))
theorem OwnLL.mono {w : World} {base base' : Nat} {A : Option Addr} {c : Nat} {LL : List (List Int)} (h : OwnLL w base A c LL) (hb : base' ≤ base) : OwnLL w base' A c LL := by
  obtain ⟨vs, hr, hh⟩ := h
  refine ⟨vs, ⟨hr.1, ?_⟩, hh.map fun a c L ho => ho.mono hb⟩
  rcases hr.2 with hh | ⟨g, cap, cur, h1, h2, h3⟩
  · exact .inl hh
  · exact .inr ⟨g, cap, cur, h1, by omega, h3⟩
theorem OwnLL.alloc {w : World} {base : Nat} {A : Option Addr} {c : Nat} {LL : List (List Int)} (h : OwnLL w base A c LL) (o : Obj) : OwnLL (w.alloc o) base A c LL := by
  obtain ⟨vs, hr, hh⟩ := h
  exact ⟨vs, hr.alloc o, hh.map fun a c L ho => ho.alloc o⟩

/-- one more -/
theorem wpList_appendRow {ops : Array Oper} {rest : List Oper} {o : Oper} {a : Act} {w : World} {Q : Exit → Act → World → Prop}
    (hg : o.guard = none) (s x : Operand) (hop : o.op = Op.call { callee := Callee.builtin Builtin.append, args := #[s, x], argTypes := #[31, 31] })
    (base : Nat) (i : TypeInfo) (hi : Tryd.prog.info? 34 = some i) (hz : i.zero = some (.slice none 0 0)) (h1 : i.size = 1) (h2 : i.bytes = 24)
    (A : Option Addr) (c p r c2 c3 : Nat) (a2 : Option Addr) (LL : List (List Int)) (L : List Int) (hs : a.eval s = .slice A p c) (hx : a.eval x = .slice (some ⟨w.heap.size, 0, none⟩) 1 1)
    (ho : OwnLL w base A c LL) (hL : OwnI w base 3 a2 c2 L) (hc3 : L.length = c3) (hp : LL.length = p) (hr : p + 1 = r) (hl : r ≤ 1000000) (hb : base ≤ w.heap.size)
    (hK : ∀ A' c' w', OwnLL w' base A' c' (LL ++ [L]) → Below base w w' → wpList Tryd.prog ops Q rest (a.put o.dst (.slice A' r c')) w') :
    wpList Tryd.prog ops Q (o :: rest) a (w.alloc (.cells #[.slice a2 c3 c2] 34)) := by
  obtain ⟨vs, hrow, hh⟩ := ho
  subst hp
  subst hr
  subst hc3
  have hbk : ∀ k, (Value.slice A LL.length c).ownBlock = some k → ∃ cs, w.heap[k]? = some (.cells cs 34 (0, 0)) := by
    intro k hk
    rcases hrow.2 with ⟨hv, _⟩ | ⟨g, cap, cur, hv, _, hg, _⟩
    · rw [hv] at hk; cases hk
    · rw [hv] at hk; injection hk with hk; subst hk; exact ⟨cur, hg⟩
  refine wpList_append_own _ hg s x 31 hop base 34 i (.slice none 0 0) 1 24 Tryd.underlying31 hi hz h1 h2 rfl (by decide) _ LL.length vs hs (hrow.alloc _) ⟨w.heap.size, 0, none⟩ 1 1 [.slice a2 L.length c2] hx rfl ?_ (by simp [Value.oneCell']) (by unfold maxLen; omega) (by omega) (by simp; omega) ?_
  · intro j u hj
    cases j with
    | zero => simp at hj; subst hj; simp [Addr.add]
    | succ j => simp at hj
  · intro v' w' hown hgr _
    obtain ⟨A', c', rfl⟩ := row_form hown
    have hgr2 : w.grownBy w' (Value.slice A LL.length c).ownBlock := (World.grownBy_alloc w _ _).trans hgr
    refine hK A' c' w' ⟨vs ++ [.slice a2 L.length c2], by simpa using hown, ?_⟩ ?_
    · refine (hh.snoc hL).map fun a c L ho => ⟨ho.1.kept hgr2 ?_, ho.2⟩
      cases hob : (Value.slice a L.length c).ownBlock with
      | none => exact .inl rfl
      | some k =>
        right
        intro e
        obtain ⟨cs, hcs⟩ := hbk k e.symm
        rcases ho.1.2 with ⟨hv, _⟩ | ⟨g, cap, cur, hv, _, hg2, _⟩
        · rw [hv] at hob; cases hob
        · rw [hv] at hob; injection hob with hob; subst hob
          have := hcs.symm.trans hg2
          injection this with this; injection this with _ this _
          exact absurd this (by decide)
    · refine (Below.refl _ w).grown hgr2 hb (fun k hk => (hrow.lt k hk).1)
end Go.Proofs.YtmnadieblhdcpaaDoor
/- Lists of numbers of the call's own, in a slice of the call's own, that are written to in any order; no two share a block. -/
namespace Go.Proofs.YtmnadieblhdcpaaDoor
open Go.RowKit

structure RowN where
  A : Option Addr
  c : Nat
  L : List Int
def RowN.hdr (r : RowN) : Value := .slice r.A r.L.length r.c
structure RowsN (w : World) (base g : Nat) (rs : List RowN) : Prop where
  rows : w.ownsRow base 34 1 (.slice (some ⟨g, 0, none⟩) rs.length rs.length) rs.length (rs.map RowN.hdr)
  ins : ∀ r ∈ rs, OwnI w base 3 r.A r.c r.L
  apart : ∀ (i j : Nat) (r s : RowN), i ≠ j → rs[i]? = some r → rs[j]? = some s → ∀ g, r.A = some ⟨g, 0, none⟩ → s.A ≠ some ⟨g, 0, none⟩
theorem run_makeRo {P : Program} (t e : TypeId) (i : TypeInfo) (ht : P.underlying t = some (.slice e)) (hi : P.info? e = some i) (hz : i.zero = some (.slice none 0 0)) (h1 : i.size = 1) (h2 : i.bytes = 24) (n : Nat) (hn : n ≤ 100000) (w : World) :
    (Instr.makeSlice t (.int .i64 (n : Int)) (.int .i64 (n : Int))).run P w = .ok (.slice (some ⟨w.heap.size, 0, none⟩) n n) (w.alloc (.cells (Array.replicate n (Value.slice none 0 0)) e)) := by
  have hr := run_make (P := P) w t e i (.slice none 0 0) ht hi hz .i64 .i64 n n (by omega) (by omega) (by rw [h2]; omega) (by omega)
  simp only [Int.toNat_natCast, h1, Nat.mul_one] at hr
  have he : (madeCells #[.slice none 0 0] n) = Array.replicate n (Value.slice none 0 0) := by
    apply Array.ext'
    rw [toList_madeCells_one]
    simp
  have hr2 : (Instr.makeSlice t (.int .i64 (n : Int)) (.int .i64 (n : Int))).run P w = .ok (.slice (some ⟨w.heap.size, 0, none⟩) n n) (w.alloc (.cells (madeCells #[.slice none 0 0] n) e)) := hr
  rw [he] at hr2
  exact hr2
section
variable {w w' w4 : World} {base g : Nat} {rs : List RowN}
theorem RowsN.made (w : World) (base n : Nat) (hb : base ≤ w.heap.size) (hn : n ≤ 100000) : RowsN (w.alloc (.cells (Array.replicate n (Value.slice none 0 0)) 34)) base w.heap.size (List.replicate n ⟨none, 0, []⟩) := by
  refine ⟨?_, fun r hr => ?_, fun i j r s _ hr _ g hA => ?_⟩
  · rw [List.length_replicate, List.map_replicate]
    exact ⟨by simp, .inr ⟨w.heap.size, n, Array.replicate n (Value.slice none 0 0), rfl, hb, heap_alloc_new w _, Nat.le_refl _, by unfold maxLen; omega, by simp, by simp [RowN.hdr]⟩⟩
  · rw [(List.mem_replicate.1 hr).2]
    exact OwnI.nil_ _ _ _
  · have := (List.mem_replicate.1 (List.mem_of_getElem? hr)).2
    rw [this] at hA
    cases hA
theorem RowsN.heap (h : RowsN w base g rs) : base ≤ g ∧ ∃ cur, w.heap[g]? = some (.cells cur 34 (0, 0)) := by
  rcases h.rows.2 with ⟨h1, _⟩ | ⟨g', cap, cur, h1, h2, h3, _⟩
  · injection h1 with h1; cases h1
  · injection h1 with h1; injection h1 with h1; injection h1 with h1
    subst h1
    exact ⟨h2, cur, h3⟩
theorem RowsN.below {B : Nat} (h : RowsN w base g rs) (hb : Below B w w') (hB : w.heap.size ≤ B) : RowsN w' base g rs :=
  ⟨World.ownsRow.kept h.rows ⟨hb.os, hb.tape, hb.output, hb.size, fun i hi _ => hb.block i (by omega)⟩ (row := none) (by cases hh : (Value.slice (some ⟨g, 0, none⟩) rs.length rs.length).ownBlock with | none => exact .inl rfl | some k => exact .inr (by simp)), fun s hs => (h.ins s hs).below hb hB, h.apart⟩
theorem RowsN.at_ {i : Nat} {r : RowN} (h : RowsN w base g rs) (hr : rs[i]? = some r) : w.cell? ⟨g, i, none⟩ = some r.hdr ∧ w.frozen? ⟨g, i, none⟩ = false := by
  have hk := (List.getElem?_eq_some_iff.1 hr).1
  exact ⟨(h.rows.cellAt i (by simpa using hk)).trans (by rw [List.getElem?_map, hr]; rfl), h.rows.frozenAt i⟩
/-- lists stay over what is written to a slice of slices -/
theorem OwnI.past_rowsN {base' c' : Nat} {A : Option Addr} {xs : List Int} {cur : Array Value} (hO : OwnI w base' 3 A c' xs) (hg : w.heap[g]? = some (.cells cur 34 (0, 0))) (hG : w.grownBy w' (some g)) : OwnI w' base' 3 A c' xs := by
  refine hO.grownL hG fun k e => ?_
  intro e2
  injection e2 with e2
  subst e2
  rcases hO.1.2 with ⟨h1, _⟩ | ⟨g', cap, cur2, h1, _, h3, _⟩
  · injection h1 with h1; rw [e] at h1; cases h1
  · injection h1 with h1
    rw [e] at h1
    injection h1 with h1; injection h1 with h1
    subst h1
    rw [hg] at h3
    injection h3 with h3; injection h3 with _ h3
    exact absurd h3 (by decide)
/-- the i-th list has a number more -/
theorem RowsN.put {i : Nat} {r : RowN} {v : Int} {c4 : Nat} {A4 : Option Addr} (h : RowsN w base g rs) (hr : rs[i]? = some r) (hO : OwnI w4 base 3 A4 c4 (r.L ++ [v])) (hG : w.grownBy w4 (Value.slice r.A r.L.length r.c).ownBlock) (hl : ∀ b, A4 = some ⟨b, 0, none⟩ → r.A = some ⟨b, 0, none⟩ ∨ w.heap.size ≤ b) :
    RowsN (w4.setCell ⟨g, i, none⟩ (.slice A4 (r.L.length + 1) c4)) base g (rs.set i ⟨A4, c4, r.L ++ [v]⟩) ∧ w4.cell? ⟨g, i, none⟩ = some r.hdr ∧ w4.frozen? ⟨g, i, none⟩ = false ∧ (∀ B w0, B ≤ base → Below B w0 w → Below B w0 (w4.setCell ⟨g, i, none⟩ (.slice A4 (r.L.length + 1) c4))) ∧
      (∀ (b : Nat) (cs : Array Value) (t : TypeId), w.heap[b]? = some (.cells cs t (0, 0)) → t ≠ 3 → t ≠ 34 → (w4.setCell ⟨g, i, none⟩ (.slice A4 (r.L.length + 1) c4)).heap[b]? = some (.cells cs t (0, 0))) := by
  have hrm := List.mem_of_getElem? hr
  have hrO := h.ins r hrm
  have hil := (List.getElem?_eq_some_iff.1 hr).1
  obtain ⟨hbg, cur, hg⟩ := h.heap
  have hltg := (Array.getElem?_eq_some_iff.1 hg).1
  -- the row's own block is of numbers
  have hrb : ∀ b, (Value.slice r.A r.L.length r.c).ownBlock = some b → base ≤ b ∧ ∃ cs, w.heap[b]? = some (.cells cs 3 (0, 0)) := by
    intro b hb
    rcases hrO.1.2 with ⟨h1, _⟩ | ⟨g', cap, cur2, h1, h2, h3, _⟩
    · rw [h1] at hb; cases hb
    · rw [h1] at hb
      simp only [Value.ownBlock, Option.some.injEq] at hb
      subst hb
      exact ⟨h2, cur2, h3⟩
  have hne : some g ≠ (Value.slice r.A r.L.length r.c).ownBlock := by
    intro e
    obtain ⟨_, cs, h2⟩ := hrb g e.symm
    rw [hg] at h2
    injection h2 with h2; injection h2 with _ h2
    exact absurd h2 (by decide)
  have hg4 : w4.heap[g]? = some (.cells cur 34 (0, 0)) := (hG.block g hltg hne).trans hg
  have hrows4 : w4.ownsRow base 34 1 (.slice (some ⟨g, 0, none⟩) rs.length rs.length) rs.length (rs.map RowN.hdr) :=
    World.ownsRow.kept h.rows hG (.inr (by simpa [Value.ownBlock] using hne))
  obtain ⟨hst, hgs⟩ := hrows4.stored i (.slice A4 (r.L.length + 1) c4)
  have hothers : ∀ j s, j ≠ i → rs[j]? = some s → OwnI w4 base 3 s.A s.c s.L := by
    intro j s hj hs
    refine (h.ins s (List.mem_of_getElem? hs)).grownL hG fun b e e2 => ?_
    rcases hrO.1.2 with ⟨h1, _⟩ | ⟨g', cap, cur2, h1, _⟩
    · rw [h1] at e2; cases e2
    · rw [h1] at e2
      simp only [Value.ownBlock, Option.some.injEq] at e2
      subst e2
      injection h1 with h1
      exact h.apart j i s r hj hs hr b e h1
  refine ⟨⟨?_, fun s hs => ?_, fun a b s t hab hs ht k hk => ?_⟩, ?_, hrows4.frozenAt _, fun B w0 hB hb0 => ?_, fun b cs t hb h1 h2 => ?_⟩
  · rw [List.length_set, List.map_set]
    have e : RowN.hdr ⟨A4, c4, r.L ++ [v]⟩ = .slice A4 (r.L.length + 1) c4 := by simp [RowN.hdr]
    rw [e]
    exact hst
  · obtain ⟨j, hj⟩ := List.getElem?_of_mem hs
    by_cases e : i = j
    · subst e
      rw [List.getElem?_set_self hil] at hj
      injection hj with hj
      subst hj
      exact hO.past_rowsN hg4 hgs
    · rw [List.getElem?_set_ne e] at hj
      exact (hothers j s (Ne.symm e) hj).past_rowsN hg4 hgs
  · have hnew : ∀ j s, j ≠ i → rs[j]? = some s → ∀ k, s.A = some ⟨k, 0, none⟩ → A4 ≠ some ⟨k, 0, none⟩ := by
      intro j s hj hs k hk e
      rcases hl k e with h1 | h1
      · exact h.apart j i s r hj hs hr k hk h1
      · have hsO := h.ins s (List.mem_of_getElem? hs)
        rw [hk] at hsO
        have := hsO.ltL.2
        omega
    by_cases ea : a = i
    · subst ea
      rw [List.getElem?_set_self hil] at hs
      injection hs with hs
      subst hs
      rw [List.getElem?_set_ne hab] at ht
      intro e
      exact hnew b t (Ne.symm hab) ht k e hk
    · rw [List.getElem?_set_ne (Ne.symm ea)] at hs
      by_cases eb : b = i
      · subst eb
        rw [List.getElem?_set_self hil] at ht
        injection ht with ht
        subst ht
        exact hnew a s ea hs k hk
      · rw [List.getElem?_set_ne (Ne.symm eb)] at ht
        exact h.apart a b s t hab hs ht k hk
  · exact (hrows4.cellAt i (by simpa using hil)).trans (by rw [List.getElem?_map, hr]; rfl)
  · have hb4 : Below B w0 w4 := hb0.grown hG (by omega) fun k hk => Nat.le_trans hB (hrb k hk).1
    exact hb4.setCell (by show B ≤ g; omega) _
  · have hlt := (Array.getElem?_eq_some_iff.1 hb).1
    have n1 : some b ≠ (Value.slice r.A r.L.length r.c).ownBlock := by
      intro e
      obtain ⟨_, cs2, h3⟩ := hrb b e.symm
      rw [hb] at h3
      injection h3 with h3; injection h3 with _ h3
      exact h1 h3
    have n2 : b ≠ g := by
      intro e
      subst e
      rw [hg] at hb
      injection hb with hb; injection hb with _ hb
      exact h2 hb.symm
    exact (Below.heap_setCell _ ⟨g, i, none⟩ _ _ n2).trans ((hG.block b hlt n1).trans hb)
/-- lists of the call's own read as lists -/
theorem RowsN.reads (h : RowsN w base g rs) : IntsLL w w.heap.size (some ⟨g, 0, none⟩) rs.length (rs.map (·.L)) := by
  obtain ⟨_, cur, hg⟩ := h.heap
  refine ⟨by simp, fun _ => ⟨g, 0, rfl, lt_of_heap hg, fun k L hL => ?_⟩⟩
  rw [List.getElem?_map, Option.map_eq_some_iff] at hL
  obtain ⟨r, hr, rfl⟩ := hL
  have hO := h.ins r (List.mem_of_getElem? hr)
  rw [Nat.zero_add]
  exact ⟨r.A, r.c, (h.at_ hr).1, OwnI.len_cap hO, hO.ints⟩
end
end Go.Proofs.YtmnadieblhdcpaaDoor
