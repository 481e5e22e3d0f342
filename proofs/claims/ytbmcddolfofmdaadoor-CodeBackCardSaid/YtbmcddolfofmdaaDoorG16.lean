/- Code put further on: plain mathematics. Nothing is claimed of the program here. -/
import Derived.Test.YtbmcddolfofmdaaDoorG15
import Derived.Test.YtbmcddolfofmdaaDoorG5
import Derived.Test.YtbmcddolfofmdaaDoorG11
import Derived.Test.YtbmcddolfofmdaaDoorG14
import Derived.BigQuiet
namespace Go.Proofs.YtbmcddolfofmdaaDoor
open Go.RowKit

theorem wrap_small {v : Int} (h0 : 0 ≤ v) (h1 : v ≤ 100000) : wrap64 v = v := by unfold wrap64; omega
theorem shiftJ_op (b : Int) (x : Ji) : (shiftJ b x).op = x.op := by
  unfold shiftJ
  split
  · rfl
  · split <;> rfl
theorem shiftJ_n (b : Int) (x : Ji) : (shiftJ b x).n = x.n := by
  unfold shiftJ
  split
  · rfl
  · split <;> rfl
/-- what an instruction that may be is, put further on: no number goes around -/
theorem shiftJ_eq {R A : Int} {n : Nat} {x : Ji} (h : mayJ R A n x = true) (hn : n ≤ 4096) {b : Nat} (hb : b ≤ 4096) :
    shiftJ b x = ⟨x.op, if x.op = 10 then x.a + b else x.a, x.b, if x.op = 11 ∨ x.op = 12 then x.c + b else x.c, x.n⟩ := by
  obtain ⟨_, h2, _⟩ := mayJ_parts h
  have i0 := h2 0 (by omega)
  have i2 := h2 2 (by omega)
  obtain ⟨op, a, bb, c, m⟩ := x
  unfold InB at i0 i2
  unfold shiftJ
  dsimp only
  split
  · rename_i ho
    subst ho
    simp [kJ, kindsJ, limJ, Ji.f] at i0 i2
    rw [wrap_small (by omega) (by omega)]
    simp
  · rename_i ho
    split
    · rename_i ho2
      have hc : 0 ≤ c ∧ c < n := by
        rcases ho2 with rfl | rfl <;> (simp [kJ, kindsJ, limJ, Ji.f] at i2; exact i2)
      rw [wrap_small (by omega) (by omega)]
    · rfl
theorem shiftJ_reads {R A : Int} {n : Nat} {x : Ji} (h : mayJ R A n x = true) (hn : n ≤ 4096) {b : Nat} (hb : b ≤ 4096) : readsJ (shiftJ b x) = readsJ x ∧ setsJ (shiftJ b x) = setsJ x ∧ writesJ (shiftJ b x) = writesJ x := by
  rw [shiftJ_eq h hn hb]
  obtain ⟨⟨h0, h1⟩, _⟩ := mayJ_parts h
  obtain ⟨op, a, bb, c, m⟩ := x
  dsimp only at h0 h1
  rcases op_cases h0 h1 with rfl | rfl | rfl | rfl | rfl | rfl | rfl | rfl | rfl | rfl | rfl | rfl | rfl <;> exact ⟨rfl, rfl, rfl⟩
theorem shiftJ_next {R A : Int} {n : Nat} {x : Ji} (h : mayJ R A n x = true) (hn : n ≤ 4096) {b : Nat} (hb : b ≤ 4096) {i : Nat} (hi : i ≤ 8192) : nextJ (shiftJ b x) ((b + i : Nat) : Int) = (nextJ x i).map (· + (b : Int)) := by
  rw [shiftJ_eq h hn hb]
  obtain ⟨⟨h0, h1⟩, _⟩ := mayJ_parts h
  have w1 : wrap64 (((b + i : Nat) : Int) + 1) = ((b + i : Nat) : Int) + 1 := wrap_small (by omega) (by omega)
  have w2 : wrap64 ((i : Int) + 1) = (i : Int) + 1 := wrap_small (by omega) (by omega)
  obtain ⟨op, a, bb, c, m⟩ := x
  dsimp only at h0 h1
  unfold nextJ
  rw [w1, w2]
  rcases op_cases h0 h1 with rfl | rfl | rfl | rfl | rfl | rfl | rfl | rfl | rfl | rfl | rfl | rfl | rfl <;> simp <;> omega
theorem shift_l (c : Cd) (b : Nat) : (c.shift b).l = jumpsJ b ++ c.l.map (shiftJ b) := by show jumpsJ ((b : Int)).toNat ++ _ = _; rw [Int.toNat_natCast]
theorem shift_length (c : Cd) (b : Nat) : (c.shift b).l.length = b + c.l.length := by rw [shift_l, List.length_append, jumpsJ_length, List.length_map]
theorem shift_jump (c : Cd) {b k : Nat} (h : k < b) : (c.shift b).l[k]? = some ⟨10, ((k + 1 : Nat) : Int), 0, 0, 0⟩ := by
  rw [shift_l, List.getElem?_append_left (by rw [jumpsJ_length]; exact h)]
  unfold jumpsJ
  rw [List.getElem?_map, List.getElem?_range h]
  rfl
theorem shift_at (c : Cd) (b i : Nat) : (c.shift b).l[b + i]? = c.l[i]?.map (shiftJ b) := by
  rw [shift_l, List.getElem?_append_right (by rw [jumpsJ_length]; omega), jumpsJ_length, List.getElem?_map, show b + i - b = i by omega]
section
variable {c : Cd} (h : c.may = true) {b : Nat} (hb : b ≤ 4096)
include h hb
theorem way_shift {but : Int} {i : Nat} : Way (c.shift b).l but (b + i) ↔ Way c.l but i := by
  have hn := (Cd.may_parts h).1.2.2.2.2.2.2.2
  constructor
  · intro hw
    have : ∀ k, Way (c.shift b).l but k → ∀ i, k = b + i → Way c.l but i := by
      intro k hk
      induction hk with
      | start =>
        intro i hi
        have : i = 0 := by omega
        subst this
        exact .start
      | @step j k x hj hx hs hk ih =>
        intro i hi
        by_cases hjb : j < b
        · rw [shift_jump c hjb] at hx
          injection hx with hx
          subst hx
          have hk2 : (k : Int) = ((j + 1 : Nat) : Int) := by simpa [nextJ] using hk
          have : i = 0 := by omega
          subst this
          exact .start
        · obtain ⟨m, rfl⟩ : ∃ m, j = b + m := ⟨j - b, by omega⟩
          rw [shift_at] at hx
          cases e : c.l[m]? with
          | none => rw [e] at hx; cases hx
          | some y =>
            rw [e] at hx
            simp only [Option.map_some, Option.some.injEq] at hx
            subst hx
            have hm := (Cd.may_parts h).2.1 y (List.mem_of_getElem? e)
            have hml := (List.getElem?_eq_some_iff.1 e).1
            obtain ⟨r1, r2, r3⟩ := shiftJ_reads hm hn hb
            rw [r2, r3] at hs
            rw [shiftJ_next hm hn hb (by omega), List.mem_map] at hk
            obtain ⟨z, hz, hzk⟩ := hk
            refine .step (ih m rfl) e hs ?_
            have : z = (i : Int) := by omega
            rw [← this]; exact hz
    exact this _ hw i rfl
  · intro hw
    have h0 : ∀ k, k ≤ b → Way (c.shift b).l but k := by
      intro k
      induction k with
      | zero => intro _; exact .start
      | succ k ih =>
        intro hk
        refine .step (ih (by omega)) (shift_jump c (by omega)) ?_ ?_
        · rintro ⟨h1, _⟩
          exact absurd h1 (by simp [setsJ, kJ, kindsJ])
        · simp [nextJ]
    induction hw with
    | start => exact h0 b (Nat.le_refl _)
    | @step j k x hj hx hs hk ih =>
      have hm := (Cd.may_parts h).2.1 x (List.mem_of_getElem? hx)
      have hml := (List.getElem?_eq_some_iff.1 hx).1
      obtain ⟨r1, r2, r3⟩ := shiftJ_reads hm hn hb
      refine .step (x := shiftJ b x) ih (by rw [shift_at, hx]; rfl) (by rw [r2, r3]; exact hs) ?_
      rw [shiftJ_next hm hn hb (by omega), List.mem_map]
      exact ⟨k, hk, by omega⟩
omit h hb in
theorem way_jump {but : Int} {k : Nat} (hk : k < b) : Way (c.shift b).l but k := by
  induction k with
  | zero => exact .start
  | succ k ih =>
    refine .step (ih (by omega)) (shift_jump c (by omega)) ?_ ?_
    · rintro ⟨h1, _⟩
      exact absurd h1 (by simp [setsJ, kJ, kindsJ])
    · simp [nextJ]
theorem set_shift (i : Nat) : setN (c.shift b) (b + i) = setN c i := by
  unfold setN
  show ((List.range c.R.toNat).filter _).map _ = _
  congr 1
  refine List.filter_congr fun n _ => ?_
  rw [decide_eq_decide, way_shift h hb, way_shift h hb]
omit h hb in
theorem set_jump {k : Nat} (hk : k < b) : setN (c.shift b) k = [] := by
  cases e : setN (c.shift b) k with
  | nil => rfl
  | cons n r =>
    have := mem_setN.1 (show n ∈ setN (c.shift b) k by rw [e]; simp)
    exact absurd (way_jump hk) this.2.2.2
end
theorem filter_range_add (p : Nat → Bool) (q : Nat → Bool) (b n : Nat) (h1 : ∀ k, k < b → p k = false) (h2 : ∀ i, i < n → p (b + i) = q i) : (List.range (b + n)).filter p = ((List.range n).filter q).map (b + ·) := by
  rw [List.range_add, List.filter_append, List.filter_map]
  have e1 : (List.range b).filter p = [] := List.filter_eq_nil_iff.2 fun k hk => by rw [h1 k (List.mem_range.1 hk)]; simp
  rw [e1, List.nil_append]
  congr 1
  exact List.filter_congr fun i hi => h2 i (List.mem_range.1 hi)
section
variable {c : Cd} (h : c.may = true) {b : Nat} (hb : b ≤ 4096)
include h hb
theorem unset_shift : unsetN (c.shift b) = (unsetN c).map (b + ·) := by
  have hn := (Cd.may_parts h).1.2.2.2.2.2.2.2
  unfold unsetN
  rw [shift_length]
  refine filter_range_add _ _ _ _ (fun k hk => ?_) (fun i hi => ?_)
  · simp only [decide_eq_false_iff_not]
    rintro ⟨_, x, hx, r, hr, _⟩
    rw [shift_jump c hk] at hx
    injection hx with hx
    subst hx
    exact absurd hr (by simp [readsJ, kJ, kindsJ, readsG, Ji.f])
  · rw [decide_eq_decide, way_shift h hb, shift_at, set_shift h hb]
    constructor
    · rintro ⟨h1, x, hx, r, hr, hs⟩
      cases e : c.l[i]? with
      | none => rw [e] at hx; cases hx
      | some y =>
        rw [e] at hx
        simp only [Option.map_some, Option.some.injEq] at hx
        subst hx
        have hm := (Cd.may_parts h).2.1 y (List.mem_of_getElem? e)
        rw [(shiftJ_reads hm hn hb).1] at hr
        exact ⟨h1, y, rfl, r, hr, hs⟩
    · rintro ⟨h1, y, hy, r, hr, hs⟩
      have hm := (Cd.may_parts h).2.1 y (List.mem_of_getElem? hy)
      exact ⟨h1, shiftJ b y, by rw [hy]; rfl, r, by rw [(shiftJ_reads hm hn hb).1]; exact hr, hs⟩
theorem loops_shift : loopsN (c.shift b) = (loopsN c).map (b + ·) := by
  have hn := (Cd.may_parts h).1.2.2.2.2.2.2.2
  unfold loopsN
  rw [shift_length]
  refine filter_range_add _ _ _ _ (fun k hk => ?_) (fun i hi => ?_)
  · simp only [decide_eq_false_iff_not]
    rintro ⟨_, x, hx, r, hr, hle⟩
    rw [shift_jump c hk] at hx
    injection hx with hx
    subst hx
    have : r = ((k + 1 : Nat) : Int) := by simpa [nextJ] using hr
    omega
  · rw [decide_eq_decide, way_shift h hb, shift_at]
    constructor
    · rintro ⟨h1, x, hx, r, hr, hs⟩
      cases e : c.l[i]? with
      | none => rw [e] at hx; cases hx
      | some y =>
        rw [e] at hx
        simp only [Option.map_some, Option.some.injEq] at hx
        subst hx
        have hm := (Cd.may_parts h).2.1 y (List.mem_of_getElem? e)
        rw [shiftJ_next hm hn hb (by omega), List.mem_map] at hr
        obtain ⟨z, hz, rfl⟩ := hr
        exact ⟨h1, y, rfl, z, hz, by omega⟩
    · rintro ⟨h1, y, hy, r, hr, hs⟩
      have hm := (Cd.may_parts h).2.1 y (List.mem_of_getElem? hy)
      exact ⟨h1, shiftJ b y, by rw [hy]; rfl, r + b, by rw [shiftJ_next hm hn hb (by omega), List.mem_map]; exact ⟨r, hr, rfl⟩, by omega⟩
end
theorem mayJ_intro {R A L : Int} {x : Ji} (h0 : 0 ≤ x.op ∧ x.op ≤ 12) (h : ∀ j, j < 3 → InB R A L x j) (h3 : (110 : UInt8) ∈ kJ x.op → -1000000000000000000 < x.n ∧ x.n < 1000000000000000000) (h4 : (110 : UInt8) ∉ kJ x.op → x.n = 0) : mayJ R A L x = true := by
  rw [mayJ_yes h0 h]
  split
  · rename_i hm
    exact decide_eq_true (h3 hm)
  · rename_i hm
    exact decide_eq_true (h4 hm)
theorem mayJ_shift {R A : Int} {n : Nat} {x : Ji} (h : mayJ R A n x = true) (hn : n ≤ 4096) {b : Nat} (hb : b ≤ 4096) : mayJ R A ((b + n : Nat) : Int) (shiftJ b x) = true := by
  rw [shiftJ_eq h hn hb]
  obtain ⟨h0, h2, h3, h4⟩ := mayJ_parts h
  refine mayJ_intro h0 (fun j hj => ?_) h3 h4
  have i := h2 j hj
  obtain ⟨op, a, bb, c, m⟩ := x
  dsimp only at h0
  unfold InB at i ⊢
  match j, hj with
  | 0, _ => rcases op_cases h0.1 h0.2 with rfl | rfl | rfl | rfl | rfl | rfl | rfl | rfl | rfl | rfl | rfl | rfl | rfl <;> (simp [kJ, kindsJ, limJ, Ji.f] at i ⊢; omega)
  | 1, _ => rcases op_cases h0.1 h0.2 with rfl | rfl | rfl | rfl | rfl | rfl | rfl | rfl | rfl | rfl | rfl | rfl | rfl <;> (simp [kJ, kindsJ, limJ, Ji.f] at i ⊢; omega)
  | 2, _ => rcases op_cases h0.1 h0.2 with rfl | rfl | rfl | rfl | rfl | rfl | rfl | rfl | rfl | rfl | rfl | rfl | rfl <;> (simp [kJ, kindsJ, limJ, Ji.f] at i ⊢; omega)
theorem mayJ_jump {R A : Int} {n k : Nat} (h : k + 1 < n) : mayJ R A n ⟨10, ((k + 1 : Nat) : Int), 0, 0, 0⟩ = true := by
  refine mayJ_intro (by simp) (fun j hj => ?_) (fun h => absurd h (by simp [kJ, kindsJ])) (fun _ => rfl)
  unfold InB
  match j, hj with
  | 0, _ => simp [kJ, kindsJ, limJ, Ji.f]; omega
  | 1, _ => simp [kJ, kindsJ, limJ, Ji.f]
  | 2, _ => simp [kJ, kindsJ, limJ, Ji.f]
theorem mem_shift {c : Cd} {b : Nat} {x : Ji} (hx : x ∈ (c.shift b).l) : (∃ k, k < b ∧ x = ⟨10, ((k + 1 : Nat) : Int), 0, 0, 0⟩) ∨ ∃ y ∈ c.l, x = shiftJ b y := by
  rw [shift_l] at hx
  rcases List.mem_append.1 hx with hx | hx
  · left
    unfold jumpsJ at hx
    obtain ⟨k, hk, rfl⟩ := List.mem_map.1 hx
    exact ⟨k, List.mem_range.1 hk, rfl⟩
  · right
    obtain ⟨y, hy, rfl⟩ := List.mem_map.1 hx
    exact ⟨y, hy, rfl⟩
/-- code that is put further on may be -/
theorem shift_may {c : Cd} (h : c.may = true) {b : Nat} (hb : c.l.length + b ≤ 4096) : (c.shift b).may = true := by
  obtain ⟨⟨r0, r1, a0, a1, i0, i1, n0, n1⟩, h2, y, hy, hy2⟩ := Cd.may_parts h
  unfold Cd.may
  rw [Bool.and_eq_true, Bool.and_eq_true]
  refine ⟨⟨decide_eq_true ⟨r0, r1, a0, a1, i0, i1, by rw [shift_length]; omega, by rw [shift_length]; omega⟩, List.all_eq_true.2 fun x hx => ?_⟩, ?_⟩
  · rw [shift_length]
    show mayJ c.R c.A ((b + c.l.length : Nat) : Int) x = true
    rcases mem_shift hx with ⟨k, hk, rfl⟩ | ⟨z, hz, rfl⟩
    · exact mayJ_jump (by omega)
    · exact mayJ_shift (h2 z hz) n1 (by omega)
  · have : (c.shift b).l.getLast? = some (shiftJ b y) := by
      rw [List.getLast?_eq_getElem?, shift_length, show b + c.l.length - 1 = b + (c.l.length - 1) by omega, shift_at]
      rw [List.getLast?_eq_getElem?] at hy
      rw [hy]; rfl
    rw [this]
    show decide ((shiftJ b y).op = 0 ∨ (shiftJ b y).op = 10) = true
    rw [shiftJ_op]
    exact decide_eq_true hy2
theorem shiftJ_two {R A : Int} {n : Nat} {x : Ji} (h : mayJ R A n x = true) (hn : n ≤ 4096) {a b : Nat} (hab : n + (a + b) ≤ 4096) : shiftJ b (shiftJ a x) = shiftJ ((a + b : Nat) : Int) x := by
  have h1 := mayJ_shift h hn (b := a) (by omega)
  rw [shiftJ_eq h1 (by omega) (by omega), shiftJ_eq h hn (by omega), shiftJ_eq h hn (b := a + b) (by omega)]
  obtain ⟨op, a', bb, c, m⟩ := x
  dsimp only
  congr 1
  · split <;> omega
  · split <;> omega
/-- put further on twice -/
theorem shift_shift {c : Cd} (h : c.may = true) {a b : Nat} (hab : c.l.length + (a + b) ≤ 4096) : (c.shift a).shift b = c.shift ((a + b : Nat) : Int) := by
  obtain ⟨⟨r0, r1, a0, a1, i0, i1, n0, n1⟩, h2, _⟩ := Cd.may_parts h
  have e : ((c.shift a).shift b).l = (c.shift ((a + b : Nat) : Int)).l := by
    refine List.ext_getElem? fun k => ?_
    by_cases hk : k < b
    · rw [shift_jump _ hk, shift_jump _ (by omega)]
    · obtain ⟨m, rfl⟩ : ∃ m, k = b + m := ⟨k - b, by omega⟩
      rw [shift_at]
      by_cases hm : m < a
      · rw [shift_jump _ hm, shift_jump _ (by omega)]
        show some (shiftJ (b : Int) ⟨10, ((m + 1 : Nat) : Int), 0, 0, 0⟩) = _
        unfold shiftJ
        rw [if_pos rfl]
        show some (⟨10, wrap64 (((m + 1 : Nat) : Int) + (b : Int)), 0, 0, 0⟩ : Ji) = _
        rw [wrap_small (v := ((m + 1 : Nat) : Int) + (b : Int)) (by omega) (by omega), show ((m + 1 : Nat) : Int) + (b : Int) = ((b + m + 1 : Nat) : Int) by omega]
      · obtain ⟨i, rfl⟩ : ∃ i, m = a + i := ⟨m - a, by omega⟩
        rw [shift_at, show b + (a + i) = (a + b) + i by omega, shift_at, Option.map_map]
        cases e : c.l[i]? with
        | none => rfl
        | some x =>
          show some (shiftJ b (shiftJ a x)) = some (shiftJ _ x)
          rw [shiftJ_two (h2 x (List.mem_of_getElem? e)) n1 hab]
  show (⟨c.R, c.A, c.I, ((c.shift a).shift b).l⟩ : Cd) = ⟨c.R, c.A, c.I, (c.shift ((a + b : Nat) : Int)).l⟩
  rw [e]
theorem any_same {l : List Ji} {p q : Ji → Bool} (h : ∀ x ∈ l, p x = q x) : l.any p = l.any q := by
  induction l with
  | nil => rfl
  | cons x l ih => rw [List.any_cons, List.any_cons, h x (by simp), ih fun y hy => h y (by simp [hy])]
/-- whether code is checked, further on -/
theorem valid_shift {c : Cd} (h : c.may = true) {b : Nat} (hb : c.l.length + b ≤ 4096) : validE (c.shift b) = validE c := by
  obtain ⟨⟨r0, r1, a0, a1, i0, i1, n0, n1⟩, h2, _⟩ := Cd.may_parts h
  have hu := unset_shift h (b := b) (by omega)
  have hany : (c.shift b).l.any (fun x => (x.op == 7 || x.op == 9) && decide (x.a < (c.shift b).I)) = c.l.any (fun x => (x.op == 7 || x.op == 9) && decide (x.a < c.I)) := by
    show (c.shift b).l.any (fun x => (x.op == 7 || x.op == 9) && decide (x.a < c.I)) = _
    rw [shift_l, List.any_append]
    have e1 : (jumpsJ b).any (fun x => (x.op == 7 || x.op == 9) && decide (x.a < c.I)) = false := by
      rw [List.any_eq_false]
      intro x hx
      unfold jumpsJ at hx
      obtain ⟨k, _, rfl⟩ := List.mem_map.1 hx
      simp
    rw [e1, Bool.false_or, List.any_map]
    refine any_same fun x hx => ?_
    show (((shiftJ b x).op == 7 || (shiftJ b x).op == 9) && decide ((shiftJ b x).a < c.I)) = ((x.op == 7 || x.op == 9) && decide (x.a < c.I))
    rw [shiftJ_op]
    by_cases h79 : x.op = 7 ∨ x.op = 9
    · have : (shiftJ b x).a = x.a := by
        rw [shiftJ_eq (h2 x hx) n1 (by omega)]
        show (if x.op = 10 then _ else x.a) = x.a
        rw [if_neg (by omega)]
      rw [this]
    · have e : (x.op == 7 || x.op == 9) = false := by simp; omega
      rw [e]; rfl
  unfold validE
  rw [shift_may h hb, h, hu, hany]
  simp
end Go.Proofs.YtbmcddolfofmdaaDoor
/- Code with one register less: plain mathematics. Nothing is claimed of the program here. -/
namespace Go.Proofs.YtbmcddolfofmdaaDoor
open Go.RowKit

/-- the registers that are asked for, and the one that is set -/
def regsJ (x : Ji) : List Int := readsJ x ++ if setsJ x then [writesJ x] else []
def lastX (R : Int) (x : Ji) : Bool := (regsJ x).any fun r => r == R - 1
def lastL (R : Int) (l : List Ji) : Bool := l.any (lastX R)
theorem readsG_has : ∀ (ks : List UInt8) (vs : List Int) (i : Nat) (v : Int), ks[i]? = some 114 → vs[i]? = some v → v ∈ readsG ks vs
  | [], _, i, _, h, _ => by simp at h
  | _ :: _, [], i, _, _, h => by simp at h
  | k :: ks, u :: vs, 0, v, h, h2 => by
    simp at h h2
    subst h; subst h2
    simp [readsG]
  | k :: ks, u :: vs, i + 1, v, h, h2 => by
    have := readsG_has ks vs i v (by simpa using h) (by simpa using h2)
    unfold readsG
    split
    · exact List.mem_cons_of_mem _ this
    · exact this
theorem kind_first {op : Int} (h : 0 ≤ op ∧ op ≤ 12) {i : Nat} (hi : (kJ op)[i]? = some 119) : i = 0 := by
  match i with
  | 0 => rfl
  | i + 1 =>
    exfalso
    rcases op_cases h.1 h.2 with rfl | rfl | rfl | rfl | rfl | rfl | rfl | rfl | rfl | rfl | rfl | rfl | rfl
    all_goals
      match i, hi with
      | 0, hi => exact absurd hi (by decide)
      | 1, hi => exact absurd hi (by decide)
      | i + 2, hi => simp [kJ, kindsJ] at hi
theorem regs_in {R A L : Int} {x : Ji} (h : mayJ R A L x = true) : ∀ r ∈ regsJ x, 0 ≤ r ∧ r < R := by
  intro r hr
  unfold regsJ at hr
  rcases List.mem_append.1 hr with hr | hr
  · exact reads_in h r hr
  · split at hr
    · rename_i hs
      rw [List.mem_singleton.1 hr]
      exact sets_in h hs
    · cases hr
theorem bend_one {R A L : Int} {x : Ji} (h : mayJ R A L x = true) : mayJ (R - 1) A L x = !(lastX R x) := by
  obtain ⟨h0, h2, h3, h4⟩ := mayJ_parts h
  cases e : lastX R x with
  | true =>
    unfold lastX at e
    rw [List.any_eq_true] at e
    obtain ⟨r, hr, hr1⟩ := e
    have hr1 : r = R - 1 := by simpa using hr1
    show mayJ (R - 1) A L x = false
    cases q : mayJ (R - 1) A L x with
    | false => rfl
    | true => have := regs_in q r hr; omega
  | false =>
    show mayJ (R - 1) A L x = true
    have hno : ∀ r ∈ regsJ x, r ≠ R - 1 := by
      intro r hr e2
      unfold lastX at e
      rw [List.any_eq_false] at e
      exact e r hr (by simpa using e2)
    refine mayJ_intro h0 (fun j hj => ?_) h3 h4
    have q := h2 j hj
    unfold InB at q ⊢
    obtain ⟨v, hv, hvd⟩ := x.f_at hj
    rw [hvd] at q ⊢
    cases hk : (kJ x.op)[j]? with
    | none =>
      have e3 : (kJ x.op).getD j 32 = 32 := by rw [List.getD_eq_getElem?_getD, hk]; rfl
      rw [e3] at q ⊢
      exact q
    | some k =>
      rw [mem_kJ hk] at q ⊢
      by_cases k1 : k = 119
      · subst k1
        have hj0 := kind_first h0 hk
        subst hj0
        have hs : setsJ x = true := by unfold setsJ; rw [List.head?_eq_getElem?, hk]; rfl
        have hva : v = writesJ x := by unfold writesJ; rw [if_pos hs]; cases hv; rfl
        have := hno v (by unfold regsJ; rw [if_pos hs, hva]; simp)
        have q : 0 ≤ v ∧ v < R := q
        show 0 ≤ v ∧ v < R - 1
        omega
      · by_cases k2 : k = 114
        · subst k2
          have := hno v (by unfold regsJ; exact List.mem_append_left _ (readsG_has _ _ j v hk hv))
          have q : 0 ≤ v ∧ v < R := q
          show 0 ≤ v ∧ v < R - 1
          omega
        · unfold limJ at q ⊢
          rw [if_neg (by simp [k1, k2])] at q ⊢
          exact q
theorem bend_may {c : Cd} (h : c.may = true) : Cd.may ⟨c.R - 1, c.A, c.I, c.l⟩ = (!(lastL c.R c.l) && decide (0 ≤ c.R - 1)) := by
  obtain ⟨⟨r0, r1, a0, a1, i0, i1, n0, n1⟩, h2, y, hy, hy2⟩ := Cd.may_parts h
  have hall : c.l.all (mayJ (c.R - 1) c.A c.l.length) = !(lastL c.R c.l) := by
    unfold lastL
    have : ∀ l : List Ji, (∀ x ∈ l, mayJ c.R c.A c.l.length x = true) → l.all (mayJ (c.R - 1) c.A c.l.length) = !(l.any (lastX c.R)) := by
      intro l
      induction l with
      | nil => intro _; rfl
      | cons x l ih =>
        intro hl
        rw [List.all_cons, List.any_cons, ih fun z hz => hl z (by simp [hz]), bend_one (hl x (by simp)), Bool.not_or]
    exact this c.l h2
  unfold Cd.may
  show (decide _ && c.l.all (mayJ (c.R - 1) c.A c.l.length) && (match c.l.getLast? with | some x => decide (x.op = 0 ∨ x.op = 10) | none => false)) = _
  rw [hall, hy]
  simp only
  rw [decide_eq_true hy2, Bool.and_true]
  by_cases hR : 0 ≤ c.R - 1
  · rw [decide_eq_true (show 0 ≤ c.R - 1 ∧ c.R - 1 ≤ 128 ∧ 0 ≤ c.A ∧ c.A ≤ 128 ∧ 0 ≤ c.I ∧ c.I ≤ c.A ∧ 1 ≤ c.l.length ∧ c.l.length ≤ 4096 from ⟨hR, by omega, a0, a1, i0, i1, n0, n1⟩), decide_eq_true hR, Bool.true_and, Bool.and_true]
  · rw [decide_eq_false (show ¬(0 ≤ c.R - 1 ∧ c.R - 1 ≤ 128 ∧ 0 ≤ c.A ∧ c.A ≤ 128 ∧ 0 ≤ c.I ∧ c.I ≤ c.A ∧ 1 ≤ c.l.length ∧ c.l.length ≤ 4096) from fun q => hR q.1), decide_eq_false hR, Bool.false_and, Bool.and_false]
theorem any_snocJ {l : List Ji} {k : Nat} {x : Ji} (f : Ji → Bool) (h : l[k]? = some x) : (l.take (k + 1)).any f = ((l.take k).any f || f x) := by
  rw [List.take_add_one, h, List.any_append]; simp
theorem any_snocI {l : List Int} {k : Nat} {x : Int} (f : Int → Bool) (h : l[k]? = some x) : (l.take (k + 1)).any f = ((l.take k).any f || f x) := by
  rw [List.take_add_one, h, List.any_append]; simp
end Go.Proofs.YtbmcddolfofmdaaDoor
/- purflelaw14.CodeBends returns true. -/
namespace Go.Proofs.YtbmcddolfofmdaaDoor
open Go.RowKit

theorem Cd.e_may {c : Cd} (h : c.e = 0) : c.may = true := by
  unfold Cd.e at h
  split at h
  · assumption
  · cases h
theorem own_int_at {w : World} {base c k : Nat} {A : Option Addr} {xs : List Int} {x : Int} (h : OwnI w base 3 A c xs) (hx : xs[k]? = some x) : ∃ g, A = some ⟨g, 0, none⟩ ∧ w.cell? ⟨g, k, none⟩ = some (.int .i64 x) := by
  have hk := (List.getElem?_eq_some_iff.1 hx).1
  rcases h.1.2 with ⟨_, h0⟩ | ⟨g, cap, cur, h1, _⟩
  · omega
  · have hA : A = some ⟨g, 0, none⟩ := by injection h1
    have h2 := h
    rw [hA] at h2
    exact ⟨g, hA, (h2.cell_ hx).1⟩
set_option maxRecDepth 100000 in
set_option maxHeartbeats 8000000 in
theorem codeBends_any (w : World) (q : Cq) (hq : q.In w) (hS : ShT w) : Calls Tryd.prog 6 #[q.val] w fun r w' => r = .returned (.bool true) ∧ Below w.heap.size w w' := by
  obtain ⟨R, A, I, P, n, c, l⟩ := q
  have HQ := Lib.hid hq
  have HSH := Lib.hid hS
  clear hS
  have hn1 : n ≤ 9223372036854775807 := hq.n1
  have HLN : Hid (l.length = n) := hq.len
  obtain ⟨i0, hi0, hz0, hz1, hz2⟩ := info_parts infoInt
  obtain ⟨W0, hW0⟩ : ∃ W, w.alloc (Cq.obj ⟨R, A, I, P, n, c, l⟩) = W := ⟨_, rfl⟩
  have HB0 : Hid (Below w.heap.size w W0) := by rw [← hW0]; exact lvBelow w _
  have HX0 : Hid (W0.heap[w.heap.size]? = some (Cq.obj ⟨R, A, I, P, n, c, l⟩)) := by rw [← hW0]; exact heap_alloc_new w _
  clear hq
  by_cases hf : n ≤ 300
  case neg =>
    have d0 : decide (n ≤ 300) = false := decide_eq_false hf
    go_enter Tryd.func6, Tryd.ntmps6
    go_wp2_with fail
    try rw [hW0]
    refine (live14_any W0 (HSH.out.on HB0.out)).mono ?_
    rintro e w1 ⟨rfl, hb⟩
    have HB1 := Lib.hid (HB0.out.trans (hb.mono HB0.out.size))
    have HX1 := Lib.hid (keep_b hb HX0.out)
    clear hb hW0
    obtain ⟨m0, m1, m2, m3, _⟩ := lvCells HX1.out
    go_wp2_with fail
    refine (refFew14_any ⟨R, A, I, P, n, c, l⟩ w1 (HQ.out.on HB1.out)).mono ?_
    rintro e w2 ⟨rfl, hb⟩
    have HB2 := Lib.hid (HB1.out.trans (hb.mono HB1.out.size))
    have HX2 := Lib.hid (keep_b hb HX1.out)
    clear hb m0 m1 m2 m3
    dsimp only
    rw [d0]
    go_wp2_with fail
    go_ret
    exact ⟨rfl, HB2.out⟩
  have d0 : decide (n ≤ 300) = true := decide_eq_true hf
  obtain ⟨E, hE⟩ : ∃ E, (Cq.cd ⟨R, A, I, P, n, c, l⟩).e = E := ⟨_, rfl⟩
  have HE := Lib.hid hE
  go_enter Tryd.func6, Tryd.ntmps6
  go_wp2_with fail
  try rw [hW0]
  refine (live14_any W0 (HSH.out.on HB0.out)).mono ?_
  rintro e w1 ⟨rfl, hb⟩
  have HB1 := Lib.hid (HB0.out.trans (hb.mono HB0.out.size))
  have HX1 := Lib.hid (keep_b hb HX0.out)
  clear hb hW0
  obtain ⟨m0, m1, m2, m3, _⟩ := lvCells HX1.out
  go_wp2_with fail
  refine (refFew14_any ⟨R, A, I, P, n, c, l⟩ w1 (HQ.out.on HB1.out)).mono ?_
  rintro e w2 ⟨rfl, hb⟩
  have HB2 := Lib.hid (HB1.out.trans (hb.mono HB1.out.size))
  have HX2 := Lib.hid (keep_b hb HX1.out)
  clear hb m0 m1 m2 m3
  dsimp only
  rw [d0]
  have hC := codeCheck_any ⟨R, A, I, P, n, c, l⟩ w2 (HQ.out.on HB2.out) (HSH.out.on HB2.out)
  unfold CkP at hC
  rw [hE] at hC
  clear hE d0
  obtain ⟨m0, m1, m2, m3, _⟩ := lvCells HX2.out
  go_wp2_with fail
  refine hC.mono ?_
  rintro e w3 ⟨rfl, hb⟩
  have HB3 := Lib.hid (HB2.out.trans (hb.mono HB2.out.size))
  have HX3 := Lib.hid (keep_b hb HX2.out)
  clear hb m0 m1 m2 m3 hC
  by_cases hE0 : E = 0
  case neg =>
    have e0 : (E != 0) = true := by simpa using hE0
    clear hE0
    go_wp2_with fail
    go_ret
    exact ⟨rfl, HB3.out⟩
  subst hE0
  have HM := Lib.hid (Cd.e_may HE.out)
  have HMX : Hid (∀ x ∈ l, mayJ R A n x = true) := fun x hx => by
    have := (Cd.may_parts HM.out).2.1 x hx
    rwa [show (Cq.cd ⟨R, A, I, P, n, c, l⟩).l.length = n from HLN.out] at this
  have hR0 : 0 ≤ R := (Cd.may_parts HM.out).1.1
  have hR1 : R ≤ 128 := (Cd.may_parts HM.out).1.2.1
  obtain ⟨m0, m1, m2, m3, _⟩ := lvCells HX3.out
  go_wp2_with fail
  clear m0 m1 m2 m3
  go_loopw [4, 27] (fun v i wr => ∃ k : Nat, k ≤ n ∧ i = .int .i64 k ∧ v = .bool (lastL R (l.take k)) ∧ Hid (Below w.heap.size w wr) ∧ Hid (wr.heap[w.heap.size]? = some (Cq.obj ⟨R, A, I, P, n, c, l⟩))) (fun _ i _ => n - (intOf i).toNat)
  case atStart => exact ⟨0, Nat.zero_le _, rfl, by rw [List.take_zero]; rfl, HB3, HX3⟩
  case round =>
    obtain ⟨k, hk, rfl, rfl, HB, HX⟩ := hrel
    obtain ⟨bb, hbb⟩ : ∃ b, lastL R (l.take k) = b := ⟨_, rfl⟩
    have HBB := Lib.hid hbb
    rw [hbb]
    clear hbb
    by_cases hlt : k < n
    · obtain ⟨b, off, y, hA, hb, HY, ⟨y0, y1, y2, y3, y4⟩, hyo⟩ := ((HQ.out.on HB.out).ins).at_ hlt
      subst hA
      have HYO := Lib.hid hyo
      have HMY : Hid (mayJ R A n y = true) := HMX.out y (List.mem_of_getElem? HY.out)
      have HSN := Lib.hid (any_snocJ (lastX R) HY.out)
      obtain ⟨W4, hW4⟩ : ∃ W, wr.alloc y.obj = W := ⟨_, rfl⟩
      obtain ⟨gy, hgy⟩ : ∃ g, wr.heap.size = g := ⟨_, rfl⟩
      have hb4 : Below wr.heap.size wr W4 := by rw [← hW4]; exact lvBelow _ _
      have HB4 := Lib.hid (HB.out.trans (hb4.mono HB.out.size))
      have HX4 := Lib.hid (keep_b hb4 HX.out)
      have HY4 : Hid (W4.heap[gy]? = some y.obj) := by rw [← hW4, ← hgy]; exact newJ wr y
      have hk0 : (0 : Int) ≤ (k : Int) := by omega
      have hki : (k : Int) < (n : Int) := by omega
      have HW4 := Lib.hid hW4
      clear hb hyo hb4 hW4
      go_upto_region 8 with fail
      try rw [HW4.out]
      try rw [hgy]
      clear y0 y1 y2 y3 y4 hgy
      obtain ⟨⟨y0, y1, y2, y3, y4⟩, yf⟩ := box_cellsJ HY4.out
      clear yf
      go_wp2_with fail
      refine (codeReads_any y W4 HYO.out (HSH.out.on HB4.out)).mono ?_
      rintro e w5 ⟨A5, c5, rfl, hO5, hb⟩
      have HB5 := Lib.hid (HB4.out.trans (hb.mono HB4.out.size))
      have hsz45 : W4.heap.size ≤ w5.heap.size := hb.size
      have HX5 := Lib.hid (keep_b hb HX4.out)
      have HY5 := Lib.hid (keep_b hb HY4.out)
      have HO5 := Lib.hid hO5
      clear hb hO5 y0 y1 y2 y3 y4
      obtain ⟨⟨y0, y1, y2, y3, y4⟩, yf⟩ := box_cellsJ HY5.out
      clear yf
      go_wp2_with fail
      refine (codeWrites_any y w5 HYO.out (HSH.out.on HB5.out)).mono ?_
      rintro e w6 ⟨rfl, hb⟩
      have HB6 := Lib.hid (HB5.out.trans (hb.mono HB5.out.size))
      have HX6 := Lib.hid (keep_b hb HX5.out)
      have HY6 := Lib.hid (keep_b hb HY5.out)
      have HO6 : Hid (OwnI w6 W4.heap.size 3 A5 c5 (readsJ y)) := HO5.out.below hb (Nat.le_refl _)
      have hs46 : W4.heap.size ≤ w6.heap.size := Nat.le_trans hsz45 hb.size
      clear hb y0 y1 y2 y3 y4
      have hrl := readsJ_length y
      obtain ⟨rl, hrl2⟩ : ∃ m, (readsJ y).length = m := ⟨_, rfl⟩
      have HRL := Lib.hid hrl2
      rw [hrl2] at hrl ⊢
      clear hrl2
      obtain ⟨wn, hwn⟩ : ∃ v, writesJ y = v := ⟨_, rfl⟩
      have HWN := Lib.hid hwn
      rw [hwn]
      clear hwn
      cases hst : setsJ y with
      | true =>
        have HRG : Hid (regsJ y = readsJ y ++ [wn]) := by unfold Hid regsJ; rw [if_pos hst, HWN.out]
        have hwr := sets_in HMY.out hst
        rw [HWN.out] at hwr
        have hle : rl + 1 ≤ 1000000 := by omega
        have hwf : -9223372036854775808 ≤ wn ∧ wn ≤ 9223372036854775807 := by omega
        clear hst
        go_upto_region 12 with (at_builtin; refine wpList_appendInts _ rfl (.tmp 40) (.tmp 42) 43 rfl W4.heap.size 3 i0 Tryd.underlying43 hi0 hz0 hz1 hz2 A5 (some ⟨w6.heap.size, 0, none⟩) c5 1 1 (w6.heap.size + 1) rl (rl + 1) (readsJ y) [wn] rfl rfl (HO6.out.alloc _) HRL.out rfl (src_new w6 hwf) hle (by simp; omega) ?_; intro A7 c7 w7 hO7 hG7)
        have hb7 : Below w.heap.size w w7 := below_app (HB6.out.alloc HB6.out.size _) hG7 ((HO6.out.alloc _).mono (by have := HB4.out.size; omega)) HRL.out (by simp; have := HB6.out.size; omega)
        have HB7 := Lib.hid hb7
        have HX7 : Hid (w7.heap[w.heap.size]? = some (Cq.obj ⟨R, A, I, some ⟨b, off, none⟩, n, c, l⟩)) := past_int (HO6.out.alloc _) (pastJ _ HX6.out) (by decide) HRL.out hG7
        have HY7 : Hid (w7.heap[gy]? = some y.obj) := past_int (HO6.out.alloc _) (pastJ _ HY6.out) (by decide) HRL.out hG7
        have HO7 : Hid (OwnI w7 W4.heap.size 3 A7 c7 (regsJ y)) := by unfold Hid; rw [HRG.out]; exact hO7
        have HML : Hid ((regsJ y).length = rl + 1) := by unfold Hid; rw [HRG.out, List.length_append, HRL.out]; rfl
        obtain ⟨m, hm⟩ : ∃ m, rl + 1 = m := ⟨_, rfl⟩
        rw [hm] at HML ⊢
        have hm4 : m ≤ 4 := by omega
        clear hm hO7 hG7 hb7 hrl hle
        have HRI : Hid (∀ r ∈ regsJ y, 0 ≤ r ∧ r < R) := regs_in HMY.out
        go_wp2_with fail
        obtain ⟨wo, rfl⟩ : ∃ wo : World, wo = w7 := ⟨_, rfl⟩
        go_loop [4, 46] (fun v i => ∃ j : Nat, j ≤ m ∧ i = .int .i64 j ∧ v = .bool (bb || ((regsJ y).take j).any fun r => r == R - 1)) (fun _ i => m - (intOf i).toNat)
        case atStart => exact ⟨0, Nat.zero_le _, rfl, by rw [List.take_zero]; simp⟩
        case round =>
          obtain ⟨j, hj, rfl, rfl⟩ := hrel
          obtain ⟨b2, hb2⟩ : ∃ x, (bb || ((regsJ y).take j).any fun r => r == R - 1) = x := ⟨_, rfl⟩
          have HB2x := Lib.hid hb2
          rw [hb2]
          clear hb2
          by_cases hjm : j < m
          · obtain ⟨v, hv⟩ : ∃ v, (regsJ y)[j]? = some v := ⟨_, List.getElem?_eq_getElem (by rw [HML.out]; exact hjm)⟩
            obtain ⟨gv, hAv, hcv⟩ := own_int_at HO7.out hv
            have hvr := HRI.out v (List.mem_of_getElem? hv)
            have HVS := Lib.hid (any_snocI (fun r => r == R - 1) hv)
            obtain ⟨m0, m1, m2, m3, _⟩ := lvCells HX7.out
            subst hAv
            have dv0 : decide (v < 0) = false := decide_eq_false (by omega)
            have dv1 : decide (R ≤ v) = false := decide_eq_false (by omega)
            have hj0 : (0 : Int) ≤ (j : Int) := by omega
            have hji : (j : Int) < (m : Int) := by omega
            clear hv
            cases b2 with
            | true =>
              go_wp2_with fail
              go_round
              case rel => exact ⟨j + 1, by omega, by go_num, by rw [HVS.out, ← Bool.or_assoc, HB2x.out]; rfl⟩
              case measure => simp [intOf]; omega
            | false =>
              go_wp2_with fail
              go_round
              case rel => exact ⟨j + 1, by omega, by go_num, by rw [HVS.out, ← Bool.or_assoc, HB2x.out]; rfl⟩
              case measure => simp [intOf]; omega
          · have dj : decide ((j : Int) < (m : Int)) = false := by simp; omega
            have dj2 : decide (j < m) = false := by simp; omega
            have HLX : Hid (lastL R (l.take (k + 1)) = b2) := by
              unfold Hid
              have e1 : (regsJ y).take j = regsJ y := List.take_of_length_le (by have := HML.out; omega)
              have e2 := HB2x.out
              rw [e1] at e2
              rw [show lastL R (l.take (k + 1)) = (lastL R (l.take k) || lastX R y) from HSN.out, HBB.out]
              exact e2
            obtain ⟨⟨y0, y1, y2, y3, y4⟩, yf⟩ := box_cellsJ HY7.out
            clear yf
            have hN := codeNext_any y (k : Int) wo HYO.out (by omega) (HSH.out.on HB7.out)
            go_wp2_with fail
            refine hN.mono ?_
            rintro e w8 ⟨A8, c8, rfl, hO8, hb⟩
            have HB8 := Lib.hid (HB7.out.trans (hb.mono HB7.out.size))
            have HX8 := Lib.hid (keep_b hb HX7.out)
            have HO8 := Lib.hid hO8
            clear hb hO8 y0 y1 y2 y3 y4 hN dj dj2
            have HNI : Hid (∀ z ∈ nextJ y k, 0 ≤ z ∧ z < n) := by
              have := Cd.next_in HM.out HY.out
              rwa [show (Cq.cd ⟨R, A, I, some ⟨b, off, none⟩, n, c, l⟩).l.length = n from HLN.out] at this
            obtain ⟨nl, hnl⟩ : ∃ m, (nextJ y k).length = m := ⟨_, rfl⟩
            have HNL := Lib.hid hnl
            rw [hnl]
            clear hnl
            have hnl4 : nl ≤ 4 := by
              rw [← HNL.out]
              unfold nextJ
              split
              · simp
              · split
                · simp
                · split <;> simp
            go_wp2_with fail
            go_loop [71] (fun i => ∃ j : Nat, j ≤ nl ∧ i = .int .i64 j) (fun i => nl - (intOf i).toNat)
            case atStart => exact ⟨0, Nat.zero_le _, rfl⟩
            case round =>
              obtain ⟨j, hj, rfl⟩ := hrel
              by_cases hjm : j < nl
              · obtain ⟨v, hv⟩ : ∃ v, (nextJ y k)[j]? = some v := ⟨_, List.getElem?_eq_getElem (by rw [HNL.out]; exact hjm)⟩
                obtain ⟨gv, hAv, hcv⟩ := own_int_at HO8.out hv
                have hvr := HNI.out v (List.mem_of_getElem? hv)
                obtain ⟨m0, m1, m2, m3, _⟩ := lvCells HX8.out
                subst hAv
                have dv0 : decide (v < 0) = false := decide_eq_false (by omega)
                have dv1 : decide ((n : Int) ≤ v) = false := decide_eq_false (by omega)
                have hj0 : (0 : Int) ≤ (j : Int) := by omega
                have hji : (j : Int) < (nl : Int) := by omega
                clear hv
                go_wp2_with fail
                go_round
                case rel => exact ⟨j + 1, by omega, by go_num⟩
                case measure => simp [intOf]; omega
              · have dj : decide ((j : Int) < (nl : Int)) = false := by simp; omega
                have dj2 : decide (j < nl) = false := by simp; omega
                go_wp2_with fail
                go_roundw
                case rel => exact ⟨k + 1, by omega, by go_num, by rw [HLX.out], HB8, HX8⟩
                case measure => simp [intOf]; omega
      | false =>
        have HRG : Hid (regsJ y = readsJ y) := by unfold Hid regsJ; rw [hst]; simp
        clear hst
        go_upto_region 12 with fail
        obtain ⟨A7, hA7⟩ : ∃ A, A5 = A := ⟨_, rfl⟩
        obtain ⟨c7, hc7⟩ : ∃ c, c5 = c := ⟨_, rfl⟩
        obtain ⟨w7, hw7⟩ : ∃ W, w6 = W := ⟨_, rfl⟩
        obtain ⟨m, hm⟩ : ∃ m, rl = m := ⟨_, rfl⟩
        subst hA7; subst hc7; subst hw7; subst hm
        have HB7 := HB6
        have HX7 := HX6
        have HY7 := HY6
        have HO7 : Hid (OwnI w6 W4.heap.size 3 A5 c5 (regsJ y)) := by unfold Hid; rw [HRG.out]; exact HO6.out
        have HML : Hid ((regsJ y).length = rl) := by unfold Hid; rw [HRG.out]; exact HRL.out
        have hm4 : rl ≤ 4 := by omega
        have HRI : Hid (∀ r ∈ regsJ y, 0 ≤ r ∧ r < R) := regs_in HMY.out
        go_wp2_with fail
        obtain ⟨wo, rfl⟩ : ∃ wo : World, wo = w6 := ⟨_, rfl⟩
        go_loop [4, 46] (fun v i => ∃ j : Nat, j ≤ rl ∧ i = .int .i64 j ∧ v = .bool (bb || ((regsJ y).take j).any fun r => r == R - 1)) (fun _ i => rl - (intOf i).toNat)
        case atStart => exact ⟨0, Nat.zero_le _, rfl, by rw [List.take_zero]; simp⟩
        case round =>
          obtain ⟨j, hj, rfl, rfl⟩ := hrel
          obtain ⟨b2, hb2⟩ : ∃ x, (bb || ((regsJ y).take j).any fun r => r == R - 1) = x := ⟨_, rfl⟩
          have HB2x := Lib.hid hb2
          rw [hb2]
          clear hb2
          by_cases hjm : j < rl
          · obtain ⟨v, hv⟩ : ∃ v, (regsJ y)[j]? = some v := ⟨_, List.getElem?_eq_getElem (by rw [HML.out]; exact hjm)⟩
            obtain ⟨gv, hAv, hcv⟩ := own_int_at HO7.out hv
            have hvr := HRI.out v (List.mem_of_getElem? hv)
            have HVS := Lib.hid (any_snocI (fun r => r == R - 1) hv)
            obtain ⟨m0, m1, m2, m3, _⟩ := lvCells HX7.out
            subst hAv
            have dv0 : decide (v < 0) = false := decide_eq_false (by omega)
            have dv1 : decide (R ≤ v) = false := decide_eq_false (by omega)
            have hj0 : (0 : Int) ≤ (j : Int) := by omega
            have hji : (j : Int) < (rl : Int) := by omega
            clear hv
            cases b2 with
            | true =>
              go_wp2_with fail
              go_round
              case rel => exact ⟨j + 1, by omega, by go_num, by rw [HVS.out, ← Bool.or_assoc, HB2x.out]; rfl⟩
              case measure => simp [intOf]; omega
            | false =>
              go_wp2_with fail
              go_round
              case rel => exact ⟨j + 1, by omega, by go_num, by rw [HVS.out, ← Bool.or_assoc, HB2x.out]; rfl⟩
              case measure => simp [intOf]; omega
          · have dj : decide ((j : Int) < (rl : Int)) = false := by simp; omega
            have dj2 : decide (j < rl) = false := by simp; omega
            have HLX : Hid (lastL R (l.take (k + 1)) = b2) := by
              unfold Hid
              have e1 : (regsJ y).take j = regsJ y := List.take_of_length_le (by have := HML.out; omega)
              have e2 := HB2x.out
              rw [e1] at e2
              rw [show lastL R (l.take (k + 1)) = (lastL R (l.take k) || lastX R y) from HSN.out, HBB.out]
              exact e2
            obtain ⟨⟨y0, y1, y2, y3, y4⟩, yf⟩ := box_cellsJ HY7.out
            clear yf
            have hN := codeNext_any y (k : Int) wo HYO.out (by omega) (HSH.out.on HB7.out)
            go_wp2_with fail
            refine hN.mono ?_
            rintro e w8 ⟨A8, c8, rfl, hO8, hb⟩
            have HB8 := Lib.hid (HB7.out.trans (hb.mono HB7.out.size))
            have HX8 := Lib.hid (keep_b hb HX7.out)
            have HO8 := Lib.hid hO8
            clear hb hO8 y0 y1 y2 y3 y4 hN dj dj2
            have HNI : Hid (∀ z ∈ nextJ y k, 0 ≤ z ∧ z < n) := by
              have := Cd.next_in HM.out HY.out
              rwa [show (Cq.cd ⟨R, A, I, some ⟨b, off, none⟩, n, c, l⟩).l.length = n from HLN.out] at this
            obtain ⟨nl, hnl⟩ : ∃ m, (nextJ y k).length = m := ⟨_, rfl⟩
            have HNL := Lib.hid hnl
            rw [hnl]
            clear hnl
            have hnl4 : nl ≤ 4 := by
              rw [← HNL.out]
              unfold nextJ
              split
              · simp
              · split
                · simp
                · split <;> simp
            go_wp2_with fail
            go_loop [71] (fun i => ∃ j : Nat, j ≤ nl ∧ i = .int .i64 j) (fun i => nl - (intOf i).toNat)
            case atStart => exact ⟨0, Nat.zero_le _, rfl⟩
            case round =>
              obtain ⟨j, hj, rfl⟩ := hrel
              by_cases hjm : j < nl
              · obtain ⟨v, hv⟩ : ∃ v, (nextJ y k)[j]? = some v := ⟨_, List.getElem?_eq_getElem (by rw [HNL.out]; exact hjm)⟩
                obtain ⟨gv, hAv, hcv⟩ := own_int_at HO8.out hv
                have hvr := HNI.out v (List.mem_of_getElem? hv)
                obtain ⟨m0, m1, m2, m3, _⟩ := lvCells HX8.out
                subst hAv
                have dv0 : decide (v < 0) = false := decide_eq_false (by omega)
                have dv1 : decide ((n : Int) ≤ v) = false := decide_eq_false (by omega)
                have hj0 : (0 : Int) ≤ (j : Int) := by omega
                have hji : (j : Int) < (nl : Int) := by omega
                clear hv
                go_wp2_with fail
                go_round
                case rel => exact ⟨j + 1, by omega, by go_num⟩
                case measure => simp [intOf]; omega
              · have dj : decide ((j : Int) < (nl : Int)) = false := by simp; omega
                have dj2 : decide (j < nl) = false := by simp; omega
                go_wp2_with fail
                go_roundw
                case rel => exact ⟨k + 1, by omega, by go_num, by rw [HLX.out], HB8, HX8⟩
                case measure => simp [intOf]; omega
    · obtain rfl : k = n := by omega
      have HLB : Hid (lastL R l = bb) := by unfold Hid; rw [← HBB.out, List.take_of_length_le (by have := HLN.out; omega)]
      have hx1 := set_j (i := 0) (cs := [.int .i64 R, .int .i64 A, .int .i64 I, .slice P k c]) HX.out (.int .i64 (R - 1))
      obtain ⟨m0, m1, m2, m3, mf0, _⟩ := lvCells HX.out
      obtain ⟨W8, hW8⟩ : ∃ W, wr.setCell ⟨w.heap.size, 0, none⟩ (.int .i64 (R - 1)) = W := ⟨_, rfl⟩
      rw [hW8] at hx1
      have HB8 : Hid (Below w.heap.size w W8) := by rw [← hW8]; exact HB.out.setCell (p := ⟨w.heap.size, 0, none⟩) (Nat.le_refl _) _
      have HX8 : Hid (W8.heap[w.heap.size]? = some (Cq.obj ⟨R - 1, A, I, P, k, c, l⟩)) := hx1
      have HIN : Hid (Cq.In ⟨R - 1, A, I, P, k, c, l⟩ W8) := by
        have h := HQ.out.on HB8.out
        exact ⟨h.ins, by show -9223372036854775808 ≤ R - 1 ∧ R - 1 ≤ 9223372036854775807; omega, h.a, h.i, h.n1, h.nc⟩
      have hC8 := codeCheck_any ⟨R - 1, A, I, P, k, c, l⟩ W8 HIN.out (HSH.out.on HB8.out)
      unfold CkP at hC8
      have hbm := bend_may HM.out
      have hee : (Cq.cd ⟨R - 1, A, I, P, k, c, l⟩).e = if (!bb && decide (0 ≤ R - 1)) = true then 0 else 1 := by
        unfold Cd.e
        rw [show (Cq.cd ⟨R - 1, A, I, P, k, c, l⟩).may = (!bb && decide (0 ≤ R - 1)) by rw [← HLB.out]; exact hbm]
      obtain ⟨E2, hE2⟩ : ∃ E2, (Cq.cd ⟨R - 1, A, I, P, k, c, l⟩).e = E2 := ⟨_, rfl⟩
      rw [hE2] at hee hC8
      have HEE := Lib.hid hee
      have HW8 := Lib.hid hW8
      clear hee hE2 hbm hx1 hW8
      go_upto_region 27 with fail
      try rw [HW8.out]
      clear m0 m1 m2 m3 mf0
      obtain ⟨m0, m1, m2, m3, _⟩ := lvCells HX8.out
      go_wp2_with fail
      refine hC8.mono ?_
      rintro e w9 ⟨rfl, hb⟩
      have HB9 := Lib.hid (HB8.out.trans (hb.mono HB8.out.size))
      have HX9 := Lib.hid (keep_b hb HX8.out)
      clear hb m0 m1 m2 m3 hC8
      obtain ⟨m0, m1, m2, m3, _⟩ := lvCells HX9.out
      cases bb with
      | true =>
        have hE2 : E2 = 1 := HEE.out
        subst hE2
        go_wp2_with fail
        go_ret
        exact ⟨rfl, HB9.out⟩
      | false =>
        by_cases hr : 0 ≤ R - 1
        · have d1 : decide (0 ≤ R - 1) = true := decide_eq_true hr
          have hr1 : 1 ≤ R := by omega
          have d2 : decide (1 ≤ R) = true := decide_eq_true hr1
          have hE2 : E2 = 0 := by rw [HEE.out, d1]; rfl
          subst hE2
          go_wp2_with fail
          go_ret
          exact ⟨rfl, HB9.out⟩
        · have d1 : decide (0 ≤ R - 1) = false := decide_eq_false hr
          have hr1 : ¬ 1 ≤ R := by omega
          have d2 : decide (1 ≤ R) = false := decide_eq_false hr1
          have hE2 : E2 = 1 := by rw [HEE.out, d1]; rfl
          subst hE2
          go_wp2_with fail
          go_ret
          exact ⟨rfl, HB9.out⟩
end Go.Proofs.YtbmcddolfofmdaaDoor
/- What code's text is read as: contracts as a law wants them. -/
namespace Go.Proofs.YtbmcddolfofmdaaDoor
open Go.RowKit

theorem codeParse_c (s : ByteArray) (w : World) (hs : s.size ≤ maxLen) (hS : ShT w) {D : Cd} {N E : Int} (h : parseF (bl s) = (D, N, E)) :
    Calls Tryd.prog 9 #[.string s] w fun e w' => ∃ A' c', e = .returned (.tuple #[.agg #[.int .i64 D.R, .int .i64 D.A, .int .i64 D.I, .slice A' D.l.length c'], .int .i64 N, .int .i64 E]) ∧ OwnJ w' w.heap.size A' c' D.l ∧ Below w.heap.size w w' := by
  have hP := codeParse_any s w hs hS
  unfold ParseP at hP
  rw [h] at hP
  exact hP
theorem codeSame_yes (a b : Cq) (w : World) (ha : a.In w) (hb : b.In w) (h : a.cd = b.cd) :
    Calls Tryd.prog 14 #[a.val, b.val] w fun e w' => e = .returned (.bool true) ∧ Below w.heap.size w w' := by
  have hP := codeSame_any a b w ha hb
  unfold SameP at hP
  rw [h, sameB_refl] at hP
  exact hP
/-- what is not read is no code -/
theorem parse_err {l : List UInt8} {D : Cd} {N E : Int} (h : parseF l = (D, N, E)) (hE : E ≠ 0) : D = noCd := by
  unfold parseF parseR at h
  split at h
  · injection h with h _
    exact h.symm
  · split at h
    · injection h with h _
      exact h.symm
    · split at h
      · split at h
        · injection h with h _
          exact h.symm
        · split at h
          · injection h with h1 h2
            injection h2 with _ h3
            exact absurd h3.symm hE
          · injection h with h _
            exact h.symm
      · injection h with h _
        exact h.symm
/-- what Text tells, read again -/
theorem text_back {C : Cd} {T : ByteArray} (h : textF C = (T, 0)) (hn : C.l.length ≤ 300) : C.may = true ∧ T.size ≤ 65536 ∧ parseF (bl T) = (C, ((C.l.length + 1 : Nat) : Int), 0) := by
  unfold textF at h
  cases hm : C.may with
  | false => rw [hm] at h; injection h with _ h; cases h
  | true =>
    rw [hm] at h
    have h : joinF (progT C) = (T, 0) := h
    have h0 : progT C ≠ [] := by simp [progT, headT]
    have hl := progT_len C
    have hs := (join_size h0 h).1
    have hs2 : T.size ≤ 65536 := by
      have : 19 * (progT C).length ≤ 19 * (7 + 8 * 300) := Nat.mul_le_mul_left 19 (by omega)
      omega
    exact ⟨rfl, hs2, parse_text hm h hs2⟩
theorem parse_back {s : ByteArray} {D : Cd} {N : Int} (h : parseF (bl s) = (D, N, 0)) (hs : s.size ≤ 20000) : D.may = true ∧ ∃ T, textF D = (T, 0) ∧ T.size ≤ 65536 ∧ parseF (bl T) = (D, ((D.l.length + 1 : Nat) : Int), 0) := by
  obtain ⟨h1, T, h2, h3⟩ := text_of_parse h (by rw [bl_len]; exact hs)
  exact ⟨h1, T, by unfold textF; rw [if_pos h1]; exact h2, h3, parse_text h1 h2 h3⟩
end Go.Proofs.YtbmcddolfofmdaaDoor
/- The document's Parse of code. -/
namespace Go.Proofs.YtbmcddolfofmdaaDoor
open Go.RowKit

set_option maxRecDepth 100000 in
set_option maxHeartbeats 8000000 in
theorem refParse14_any (s : ByteArray) (w : World) (hs : s.size ≤ maxLen) : Calls Tryd.prog 10 #[.string s] w (ParseP s w) := by
  obtain ⟨W0, hW0⟩ : ∃ W, w.alloc zeroC = W := ⟨_, rfl⟩
  have HB0 : Hid (Below w.heap.size w W0) := by rw [← hW0]; exact lvBelow _ _
  have HR0 : Hid (W0.heap[w.heap.size]? = some zeroC) := by rw [← hW0]; exact heap_alloc_new w zeroC
  have hC := refCut_any s W0 hs
  have hcl := cutF_len (bl s)
  have hcm := cutF_may (bl s)
  have hco := cutF_ok (bl s)
  have hcz : (cutF (bl s)).2.2 ≠ 0 → parseF (bl s) = (noCd, (cutF (bl s)).2.1, (cutF (bl s)).2.2) := parse_cut
  have hcy : (cutF (bl s)).2.2 = 0 → parseF (bl s) = parseR (linesL (cutF (bl s)).1) := parse_lines
  obtain ⟨⟨L, N, E⟩, hcut⟩ : ∃ p, cutF (bl s) = p := ⟨_, rfl⟩
  rw [hcut] at hC hcl hcm hco hcz hcy
  dsimp only at hC hcl hcm hco hcz hcy
  unfold CutP at hC
  clear hcut hs
  by_cases hE : E = 0
  case neg =>
    have HP := Lib.hid (hcz hE)
    have e0 : (E != 0) = true := by simpa using hE
    clear hE hcz hcy hcl hcm hco
    go_enter Tryd.func10, Tryd.ntmps10
    go_wp2_with fail
    try rw [hW0]
    refine hC.mono ?_
    rintro e w1 ⟨A, n, c, rfl, _, _, hb⟩
    have HB1 := Lib.hid (HB0.out.trans (hb.mono HB0.out.size))
    have HR1 := Lib.hid (keep_b hb HR0.out)
    clear hb hC
    obtain ⟨r0, r1, r2, r3, rf0, rf1, rf2, rf3⟩ := lvCells HR1.out
    go_wp2_with fail
    obtain ⟨s0, s1, s2, s3⟩ := putC_cells HR1.out 0 0 0 (.slice none 0 0)
    have hd := parse_none HB1.out HP.out
    obtain ⟨wz, hwz⟩ : ∃ wz, putC w1 w.heap.size 0 0 0 (.slice none 0 0) = wz := ⟨_, rfl⟩
    rw [hwz] at hd s0 s1 s2 s3
    unfold putC at hwz
    try rw [hwz]
    exact bodyPost_ret (v := .tuple #[.agg #[.int .i64 0, .int .i64 0, .int .i64 0, .slice none 0 0], .int .i64 N, .int .i64 E]) (by simp [results, Tryd.results10, go_sem, s0, s1, s2, s3]) rfl hd
  subst hE
  have HPL0 := Lib.hid (hcy rfl)
  have HCM := Lib.hid hcm
  have HCO := Lib.hid hco
  obtain ⟨RL, hRL⟩ : ∃ RL, linesL L = RL := ⟨_, rfl⟩
  have HLM : Hid (∀ r ∈ RL, ∀ t ∈ r, mayT t) := by rw [← hRL]; exact Lib.hid (fun r hr => linesL_mayAll hcm hr)
  have HLW : Hid (∀ r ∈ RL, r.length ≤ 4096) := by rw [← hRL]; exact Lib.hid (fun r hr => Nat.le_trans (linesL_row hr) hcl)
  have HLF : Hid (RL.length ≤ 4097) := by rw [← hRL]; exact Lib.hid (Nat.le_trans (linesL_few L) (by omega))
  rw [hRL] at HPL0
  have HRL := Lib.hid hRL
  have HCL := Lib.hid hcl
  clear hcz hcy hcm hco hRL hcl
  go_enter Tryd.func10, Tryd.ntmps10
  go_wp2_with fail
  try rw [hW0]
  refine hC.mono ?_
  rintro e w1 ⟨A1, n1, c1, rfl, hn1, hO1, hb⟩
  have HB1 := Lib.hid (HB0.out.trans (hb.mono HB0.out.size))
  have HR1 := Lib.hid (keep_b hb HR0.out)
  have hT1 := hO1.toks HCO.out
  rw [hn1] at hT1
  have hL := refLines_any A1 n1 c1 L w1 hT1 (by have := HCL.out; omega)
  rw [HRL.out] at hL
  clear hb hC hW0 hO1 hT1 hn1
  go_wp2_with fail
  (with_reducible refine hL.mono ?_)
  rintro e w2 ⟨H, n, ch, rs, rfl, hrn, hrm, hRK, hb⟩
  have HB2 := Lib.hid (HB1.out.trans (hb.mono HB1.out.size))
  have HR2 := Lib.hid (keep_b hb HR1.out)
  have HRR : Hid (RowsR w2 w2.heap.size H n rs) := hRK.reads hrn (fun r hr t ht => (HLM.out r.L (by rw [← hrm]; exact List.mem_map_of_mem hr) t ht).ok)
  have HCC : Hid (∀ r ∈ rs, r.L.length ≤ r.c) := fun r hr => (hRK.ins r hr).lenCap
  have hnc : n ≤ ch := hRK.lenCap hrn
  have HRM := Lib.hid hrm
  have HRN := Lib.hid hrn
  clear hb hL hrm hRK
  by_cases h0 : n = 0
  · subst h0
    obtain rfl : rs = [] := List.eq_nil_of_length_eq_zero hrn
    have HP : Hid (parseF (bl s) = (noCd, 0, 6)) := by unfold Hid; rw [HPL0.out, ← HRM.out]; rfl
    clear hrn
    obtain ⟨r0, r1, r2, r3, rf0, rf1, rf2, rf3⟩ := lvCells HR2.out
    go_wp2_with fail
    obtain ⟨s0, s1, s2, s3⟩ := putC_cells HR2.out 0 0 0 (.slice none 0 0)
    have hd := parse_none HB2.out HP.out
    obtain ⟨wz, hwz⟩ : ∃ wz, putC w2 w.heap.size 0 0 0 (.slice none 0 0) = wz := ⟨_, rfl⟩
    rw [hwz] at hd s0 s1 s2 s3
    unfold putC at hwz
    try rw [hwz]
    exact bodyPost_ret (v := .tuple #[.agg #[.int .i64 0, .int .i64 0, .int .i64 0, .slice none 0 0], .int .i64 0, .int .i64 6]) (by simp [results, Tryd.results10, go_sem, s0, s1, s2, s3]) rfl hd
  obtain ⟨hr, rs, rfl⟩ : ∃ r l, rs = r :: l := by
    cases rs with
    | nil => exact absurd hrn.symm h0
    | cons r l => exact ⟨r, l, rfl⟩
  obtain ⟨n, rfl⟩ : ∃ k, n = k + 1 := ⟨n - 1, by omega⟩
  obtain ⟨bH, r9, rfl, hbH, h9, hc0, hTH⟩ := HRR.out.row (k := 0) (by omega)
  obtain rfl : hr = r9 := by have := h9.out; simpa using this
  have HHC : Hid (hr.L.length ≤ hr.c) := HCC.out hr (by simp)
  have HHL : Hid (hr.L.length ≤ 4096) := HLW.out hr.L (by rw [← HRM.out]; simp)
  obtain ⟨RT, hRT⟩ : ∃ RT, rs.map (·.L) = RT := ⟨_, rfl⟩
  have HPL : Hid (parseF (bl s) = parseR (hr.L :: RT)) := by unfold Hid; rw [HPL0.out, ← HRM.out, ← hRT]; rfl
  have HRT := Lib.hid hRT
  have hnn : n ≤ 4096 := by
    have h1 := HLF.out
    rw [← HRM.out, List.length_map, HRN.out] at h1
    omega
  obtain ⟨A3, c3, L3⟩ := hr
  dsimp only [RowK.hdr] at hc0 hTH HHC HHL HPL
  have n0 : (((n + 1 : Nat) : Int) == 0) = false := by rw [beq_eq_false_iff_ne]; omega
  have n1' : ((n : Int) + 1 == 0) = false := by rw [beq_eq_false_iff_ne]; omega
  have p0 : (0 : Int) < (n : Int) + 1 := by omega
  have HTH := Lib.hid hTH
  clear h0 h9 hRT hTH hbH HPL0 hrn
  obtain ⟨m3, hm3⟩ : ∃ m, L3.length = m := ⟨_, rfl⟩
  have HM3 := Lib.hid hm3
  rw [hm3] at hc0 HTH HHC HHL
  clear hm3
  by_cases h4 : m3 = 4
  case neg =>
    have e4 : ((m3 : Int) != 4) = true := by simp; omega
    have HP : Hid (parseF (bl s) = (noCd, 0, 6)) := by unfold Hid; rw [HPL.out, parse_head (by unfold headOK; rw [decide_eq_false (by rw [HM3.out]; exact h4), Bool.false_and])]
    clear h4
    obtain ⟨r0, r1, r2, r3, rf0, rf1, rf2, rf3⟩ := lvCells HR2.out
    go_wp2_with fail
    obtain ⟨s0, s1, s2, s3⟩ := putC_cells HR2.out 0 0 0 (.slice none 0 0)
    have hd := parse_none HB2.out HP.out
    obtain ⟨wz, hwz⟩ : ∃ wz, putC w2 w.heap.size 0 0 0 (.slice none 0 0) = wz := ⟨_, rfl⟩
    rw [hwz] at hd s0 s1 s2 s3
    unfold putC at hwz
    try rw [hwz]
    exact bodyPost_ret (v := .tuple #[.agg #[.int .i64 0, .int .i64 0, .int .i64 0, .slice none 0 0], .int .i64 0, .int .i64 6]) (by simp [results, Tryd.results10, go_sem, s0, s1, s2, s3]) rfl hd
  subst h4
  obtain ⟨a, b, c, d, rfl⟩ : ∃ a b c d, L3 = [a, b, c, d] := by
    match L3, HM3.out with
    | [a, b, c, d], _ => exact ⟨a, b, c, d, rfl⟩
  obtain ⟨b3, o3, t9, R9, rfl, -, -⟩ := HTH.out.cut (by omega)
  obtain ⟨a0, a1, a2, _⟩ := HTH.out.first
  obtain ⟨b0, b1, b2, _⟩ := HTH.out.rest.first
  obtain ⟨d0, d1, d2, _⟩ := HTH.out.rest.rest.first
  obtain ⟨f0, f1, f2, _⟩ := HTH.out.rest.rest.rest.first
  by_cases hk0 : a.k = 1
  case neg =>
    have e0 : (a.k != 1) = true := by simpa using hk0
    have HP : Hid (parseF (bl s) = (noCd, 0, 6)) := by unfold Hid; rw [HPL.out, parse_head (by unfold headOK; simp [zTk, hk0])]
    clear hk0
    obtain ⟨r0, r1, r2, r3, rf0, rf1, rf2, rf3⟩ := lvCells HR2.out
    go_wp2_with fail
    obtain ⟨s0, s1, s2, s3⟩ := putC_cells HR2.out 0 0 0 (.slice none 0 0)
    have hd := parse_none HB2.out HP.out
    obtain ⟨wz, hwz⟩ : ∃ wz, putC w2 w.heap.size 0 0 0 (.slice none 0 0) = wz := ⟨_, rfl⟩
    rw [hwz] at hd s0 s1 s2 s3
    unfold putC at hwz
    try rw [hwz]
    exact bodyPost_ret (v := .tuple #[.agg #[.int .i64 0, .int .i64 0, .int .i64 0, .slice none 0 0], .int .i64 0, .int .i64 6]) (by simp [results, Tryd.results10, go_sem, s0, s1, s2, s3]) rfl hd
  have e0 : (a.k != 1) = false := by simpa using hk0
  by_cases hk1 : bl a.s = codeW
  case neg =>
    have e1 : (a.s.toList == [99, 111, 100, 101]) = false := by rw [Lib.toList_data]; simpa [bl, codeW] using hk1
    have HP : Hid (parseF (bl s) = (noCd, 0, 6)) := by unfold Hid; rw [HPL.out, parse_head (by unfold headOK; simp [zTk, hk0, hk1])]
    clear hk1
    obtain ⟨r0, r1, r2, r3, rf0, rf1, rf2, rf3⟩ := lvCells HR2.out
    go_wp2_with fail
    obtain ⟨s0, s1, s2, s3⟩ := putC_cells HR2.out 0 0 0 (.slice none 0 0)
    have hd := parse_none HB2.out HP.out
    obtain ⟨wz, hwz⟩ : ∃ wz, putC w2 w.heap.size 0 0 0 (.slice none 0 0) = wz := ⟨_, rfl⟩
    rw [hwz] at hd s0 s1 s2 s3
    unfold putC at hwz
    try rw [hwz]
    exact bodyPost_ret (v := .tuple #[.agg #[.int .i64 0, .int .i64 0, .int .i64 0, .slice none 0 0], .int .i64 0, .int .i64 6]) (by simp [results, Tryd.results10, go_sem, s0, s1, s2, s3]) rfl hd
  have e1 : (a.s.toList == [99, 111, 100, 101]) = true := by rw [Lib.toList_data]; simpa [bl, codeW] using hk1
  by_cases hk2 : b.k = 2
  case neg =>
    have e2 : (b.k != 2) = true := by simpa using hk2
    have HP : Hid (parseF (bl s) = (noCd, 0, 6)) := by unfold Hid; rw [HPL.out, parse_head (by unfold headOK; simp [zTk, hk0, hk1, hk2])]
    clear hk2
    obtain ⟨r0, r1, r2, r3, rf0, rf1, rf2, rf3⟩ := lvCells HR2.out
    go_wp2_with fail
    obtain ⟨s0, s1, s2, s3⟩ := putC_cells HR2.out 0 0 0 (.slice none 0 0)
    have hd := parse_none HB2.out HP.out
    obtain ⟨wz, hwz⟩ : ∃ wz, putC w2 w.heap.size 0 0 0 (.slice none 0 0) = wz := ⟨_, rfl⟩
    rw [hwz] at hd s0 s1 s2 s3
    unfold putC at hwz
    try rw [hwz]
    exact bodyPost_ret (v := .tuple #[.agg #[.int .i64 0, .int .i64 0, .int .i64 0, .slice none 0 0], .int .i64 0, .int .i64 6]) (by simp [results, Tryd.results10, go_sem, s0, s1, s2, s3]) rfl hd
  have e2 : (b.k != 2) = false := by simpa using hk2
  by_cases hk3 : c.k = 2
  case neg =>
    have e3 : (c.k != 2) = true := by simpa using hk3
    have HP : Hid (parseF (bl s) = (noCd, 0, 6)) := by unfold Hid; rw [HPL.out, parse_head (by unfold headOK; simp [zTk, hk0, hk1, hk2, hk3])]
    clear hk3
    obtain ⟨r0, r1, r2, r3, rf0, rf1, rf2, rf3⟩ := lvCells HR2.out
    go_wp2_with fail
    obtain ⟨s0, s1, s2, s3⟩ := putC_cells HR2.out 0 0 0 (.slice none 0 0)
    have hd := parse_none HB2.out HP.out
    obtain ⟨wz, hwz⟩ : ∃ wz, putC w2 w.heap.size 0 0 0 (.slice none 0 0) = wz := ⟨_, rfl⟩
    rw [hwz] at hd s0 s1 s2 s3
    unfold putC at hwz
    try rw [hwz]
    exact bodyPost_ret (v := .tuple #[.agg #[.int .i64 0, .int .i64 0, .int .i64 0, .slice none 0 0], .int .i64 0, .int .i64 6]) (by simp [results, Tryd.results10, go_sem, s0, s1, s2, s3]) rfl hd
  have e3 : (c.k != 2) = false := by simpa using hk3
  by_cases hk4 : d.k = 2
  case neg =>
    have e4 : (d.k != 2) = true := by simpa using hk4
    have HP : Hid (parseF (bl s) = (noCd, 0, 6)) := by unfold Hid; rw [HPL.out, parse_head (by unfold headOK; simp [zTk, hk0, hk1, hk2, hk3, hk4])]
    clear hk4
    obtain ⟨r0, r1, r2, r3, rf0, rf1, rf2, rf3⟩ := lvCells HR2.out
    go_wp2_with fail
    obtain ⟨s0, s1, s2, s3⟩ := putC_cells HR2.out 0 0 0 (.slice none 0 0)
    have hd := parse_none HB2.out HP.out
    obtain ⟨wz, hwz⟩ : ∃ wz, putC w2 w.heap.size 0 0 0 (.slice none 0 0) = wz := ⟨_, rfl⟩
    rw [hwz] at hd s0 s1 s2 s3
    unfold putC at hwz
    try rw [hwz]
    exact bodyPost_ret (v := .tuple #[.agg #[.int .i64 0, .int .i64 0, .int .i64 0, .slice none 0 0], .int .i64 0, .int .i64 6]) (by simp [results, Tryd.results10, go_sem, s0, s1, s2, s3]) rfl hd
  have e4 : (d.k != 2) = false := by simpa using hk4
  have HHK : Hid (headOK [a, b, c, d] = true) := by unfold Hid headOK; simp [zTk, hk0, hk1, hk2, hk3, hk4]
  have HNB : Hid ((0 ≤ b.n ∧ b.n < 1000000000000000000) ∧ (0 ≤ c.n ∧ c.n < 1000000000000000000) ∧ (0 ≤ d.n ∧ d.n < 1000000000000000000)) := by
    have hm := HLM.out [a, b, c, d] (by rw [← HRM.out]; simp)
    exact ⟨may_n (hm b (by simp)), may_n (hm c (by simp)), may_n (hm d (by simp))⟩
  have HZ2 : Hid (w.heap.size < w2.heap.size) := lt_of_heap HR2.out
  have q1 := fun o => cellPastT b2 o
  have q2 := fun o => cellPastT d2 o
  have q3 := fun o => cellPastT f2 o
  have l1 : (1 : Int) < 4 := by decide
  have l2 : (2 : Int) < 4 := by decide
  have l3 : (3 : Int) < 4 := by decide
  clear hk0 hk1 hk2 hk3 hk4
  go_upto_region 10 with fail
  clear e0 e1 e2 e3 e4 a0 a1 a2 b0 b1 d0 d1 f0 f1
  go_cut [10] (fun v wx => ∃ g, v = .pointer (some ⟨g, 0, none⟩) ∧ w2.heap.size ≤ g ∧ wx.heap[g]? = some (.cells #[.int .i64 b.n, .int .i64 c.n, .int .i64 d.n, .slice none 0 0] 25 (0, 0)) ∧ Below w2.heap.size w2 wx)
  case first =>
    go_region
    all_goals go_wp2_with fail
    all_goals go_meet
    all_goals exact ⟨_, rfl, Nat.le_refl _, heap_alloc_new w2 _, (lvBelow _ _).drew⟩
  obtain ⟨g, rfl, hg2, hbx, hbc⟩ := hcut
  have HI0 : Hid (PaI w w2 b.n c.n d.n g wc none 0 []) := ⟨HB2.out.trans (hbc.mono HB2.out.size), hbc, HZ2.out, keep_b hbc HR2.out, hg2, hbx, OwnJ.nil_ _ _⟩
  clear hbx hbc hg2 b2 d2 f2 q1 q2 q3 l1 l2 l3
  go_upto_region 11 with fail
  go_cut [88, 89, 90] (fun v l i wx => ∃ o', v = .slice (some ⟨bH, o', none⟩) n (ch - 1) ∧ l = .int .i64 n ∧ i = .int .i64 0 ∧ Hid (ch = 1 ∨ o' = 1) ∧ wx = wc)
  case first =>
    by_cases hc1 : ch = 1
    · go_wp2_with fail
      go_meet
      case rel => exact ⟨0, by rw [hc1], rfl, rfl, .inl hc1, rfl⟩
    · go_wp2_with fail
      go_meet
      case rel => exact ⟨1, rfl, rfl, rfl, .inr rfl, rfl⟩
  obtain ⟨o9, rfl, rfl, rfl, HO9, rfl⟩ := hcut
  have HHP := Lib.hid (show parseF (bl s) = parseR ([a, b, c, d] :: RT) from HPL.out)
  have HRTL : Hid (RT.length = n) := by
    rw [← HRT.out]
    have h := HRN.out
    simp only [List.length_cons] at h
    exact Lib.hid (by rw [List.length_map]; omega)
  go_wp2_with fail
  go_loopw [90] (fun i wr => ∃ (k : Nat) (A' : Option Addr) (c' : Nat) (xs : List Ji), k ≤ n ∧ i = .int .i64 k ∧ Hid (xs.length = k) ∧ Hid (∀ x ∈ xs, x.ok) ∧ Hid (GoR RT (1 + k) (RT.drop k) xs) ∧ Hid (PaI w w2 b.n c.n d.n g wr A' c' xs)) (fun i _ => n - (intOf i).toNat)
  case atStart => exact ⟨0, none, 0, [], Nat.zero_le _, rfl, rfl, fun x hx => absurd hx (by simp), GoR.start RT, HI0⟩
  case round =>
    obtain ⟨k, A', c', xs, hk, rfl, HXL, HXO, HG, HI⟩ := hrel
    by_cases hlt : k < n
    · obtain ⟨bR, r, eR, -, HRK, hcR, hTR⟩ := (HRR.out.on HI.out.bel2 (Nat.le_refl _)).row (k := k + 1) (by omega)
      injection eR with eR; injection eR with eR
      subst eR
      obtain ⟨Ar, cr, Lr⟩ := r
      have hrk : rs[k]? = some ⟨Ar, cr, Lr⟩ := by have := HRK.out; simpa using this
      have hRk : RT[k]? = some Lr := by rw [← HRT.out, List.getElem?_map, hrk]; rfl
      have hRL : Lr ∈ RL := by rw [← HRM.out]; exact List.mem_map.2 ⟨⟨Ar, cr, Lr⟩, List.mem_cons_of_mem _ (List.mem_of_getElem? hrk), rfl⟩
      have hcap : Lr.length ≤ cr := HCC.out ⟨Ar, cr, Lr⟩ (List.mem_cons_of_mem _ (List.mem_of_getElem? hrk))
      have hdr : RT.drop k = Lr :: RT.drop (k + 1) := by
        obtain ⟨hk', e⟩ := List.getElem?_eq_some_iff.1 hRk
        rw [List.drop_eq_getElem_cons hk', e]
      have HG2 : Hid (GoR RT (1 + k) (Lr :: RT.drop (k + 1)) xs) := by unfold Hid; rw [← hdr]; exact HG.out
      dsimp only [RowK.hdr] at hcR hTR
      have hI := refIns_any Ar Lr.length cr Lr wr (hTR.more HI.out.bel2.size) (HLM.out Lr hRL) hcap (by have := HLW.out Lr hRL; omega)
      have ho9 : o9 = 1 := by rcases HO9.out with h | h <;> omega
      subst ho9
      rw [Nat.add_comm k 1] at hcR
      obtain ⟨mr, hmr⟩ : ∃ m, Lr.length = m := ⟨_, rfl⟩
      rw [hmr] at hcR hI
      clear hTR hrk hRk hRL hcap hdr HRK hmr
      go_wp2_with fail
      (with_reducible refine hI.mono ?_)
      rintro e w3 ⟨x, ok, rfl, hxo, hxr, hb⟩
      have HXX := Lib.hid hxo
      have HI3 := Lib.hid (HI.out.below hb)
      obtain ⟨W4, hW4⟩ : ∃ W, w3.alloc x.obj = W := ⟨_, rfl⟩
      obtain ⟨gx, hgx⟩ : ∃ z, w3.heap.size = z := ⟨_, rfl⟩
      have hb4 : Below w3.heap.size w3 W4 := by rw [← hW4]; exact lvBelow _ _
      have HI4 := Lib.hid (HI3.out.below hb4)
      have HX4 : Hid (W4.heap[gx]? = some x.obj) := by rw [← hW4, ← hgx]; exact newJ w3 x
      have HW4 := Lib.hid hW4
      have HXR := Lib.hid hxr
      clear hb hI hb4 hW4 hxo hxr hcR
      go_upto_region 15 with fail
      try rw [HW4.out]
      try rw [hgx]
      clear hgx HW4
      cases ok with
      | false =>
        have HP : Hid (parseF (bl s) = (noCd, (k : Int) + 1, 6)) := by
          unfold Hid
          rw [HHP.out, parse_bad HHK.out (HG2.out.bad (insR_false HXR.out))]
          rw [show ((1 + k : Nat) : Int) = (k : Int) + 1 by omega]
        have HR4 := Lib.hid HI4.out.rv
        have HBB := Lib.hid HI4.out.bel
        obtain ⟨r0, r1, r2, r3, rf0, rf1, rf2, rf3⟩ := lvCells HR4.out
        go_wp2_with fail
        obtain ⟨s0, s1, s2, s3⟩ := putC_cells HR4.out 0 0 0 (.slice none 0 0)
        have hd := parse_none HBB.out HP.out
        obtain ⟨wz, hwz⟩ : ∃ wz, putC W4 w.heap.size 0 0 0 (.slice none 0 0) = wz := ⟨_, rfl⟩
        rw [hwz] at hd s0 s1 s2 s3
        unfold putC at hwz
        try rw [hwz]
        exact bodyPost_ret (v := .tuple #[.agg #[.int .i64 0, .int .i64 0, .int .i64 0, .slice none 0 0], .int .i64 ((k : Int) + 1), .int .i64 6]) (by simp [results, Tryd.results10, go_sem, s0, s1, s2, s3]) rfl hd
      | true =>
        have HG3 := Lib.hid (HG2.out.step (insR_true HXR.out))
        obtain ⟨x0, x1, x2, x3, _, _, _, xf3⟩ := lvCells HI4.out.box
        rw [HXL.out] at x3
        obtain ⟨⟨y0, y1, y2, y3, y4⟩, yf⟩ := box_cellsJ HX4.out
        clear yf
        have hle : k + 1 ≤ 1000000 := by omega
        have hsz : w2.heap.size ≤ W4.heap.size := HI4.out.bel2.size
        go_wp2_with (at_builtin; refine wpList_appendJ rfl (.tmp 106) (.tmp 108) rfl w2.heap.size A' c' k (k + 1) W4.heap.size x xs rfl rfl rfl HI4.out.own HXL.out rfl hle hsz ?_; intro A5 c5 w5 hO5 hG5; have hG5' : W4.grownBy w5 (Value.slice A' xs.length c').ownBlock := (by rw [HXL.out]; exact hG5); have h5 := box_keptJ HI4.out.box (by decide) hG5' HI4.out.own; obtain ⟨_, _, _, v3, _, _, _, vf3⟩ := lvCells h5)
        have hadd := HI4.out.add hO5 hG5'
        rw [HXL.out] at hadd
        go_roundw
        case rel => exact ⟨k + 1, A5, c5, xs ++ [x], by omega, by go_num, Lib.hid (by rw [List.length_append, HXL.out]; rfl), Lib.hid (fun y hy => (List.mem_append.1 hy).elim (fun hy => HXO.out y hy) (fun hy => by rw [List.mem_singleton.1 hy]; exact HXX.out)), HG3, hadd⟩
        case measure => simp [intOf]; omega
    · obtain rfl : k = n := by omega
      have HRW : Hid (rowsF 1 RT = .ok xs) := GoR.done (i := 1 + k) (by have h := HG.out; rw [List.drop_of_length_le (by rw [HRTL.out]; exact Nat.le_refl _)] at h; exact h)
      have hN := HNB.out
      have hQ : Cq.In ⟨b.n, c.n, d.n, A', k, c', xs⟩ wr := by
        refine ⟨?_, by dsimp only; omega, by dsimp only; omega, by dsimp only; omega, by dsimp only; omega, ?_⟩
        · have := HI.out.own.jis HXO.out
          rw [HXL.out] at this
          exact this
        · show k ≤ c'
          have := HI.out.own.lenCap
          rw [HXL.out] at this
          exact this
      have hK := refCheck14_any ⟨b.n, c.n, d.n, A', k, c', xs⟩ wr hQ
      obtain ⟨x0, x1, x2, x3, _⟩ := lvCells HI.out.box
      rw [HXL.out] at x3
      clear hN hQ hlt HG
      go_wp2_with fail
      (with_reducible refine hK.mono ?_)
      rintro e w3 ⟨rfl, hb⟩
      have HI3 := Lib.hid (HI.out.below hb)
      clear hb hK x0 x1 x2 x3
      cases hmay : Cd.may ⟨b.n, c.n, d.n, xs⟩ with
      | false =>
        have hce : (Cq.cd ⟨b.n, c.n, d.n, A', k, c', xs⟩).e = 1 := by show Cd.e ⟨b.n, c.n, d.n, xs⟩ = 1; unfold Cd.e; rw [hmay]; rfl
        rw [hce]
        have HP : Hid (parseF (bl s) = (noCd, 0, 1)) := by unfold Hid; rw [HHP.out, parse_no HHK.out HRW.out hmay]
        have HR4 := Lib.hid HI3.out.rv
        have HBB := Lib.hid HI3.out.bel
        clear hce hmay
        obtain ⟨r0, r1, r2, r3, rf0, rf1, rf2, rf3⟩ := lvCells HR4.out
        go_wp2_with fail
        obtain ⟨s0, s1, s2, s3⟩ := putC_cells HR4.out 0 0 0 (.slice none 0 0)
        have hd := parse_none HBB.out HP.out
        obtain ⟨wz, hwz⟩ : ∃ wz, putC w3 w.heap.size 0 0 0 (.slice none 0 0) = wz := ⟨_, rfl⟩
        rw [hwz] at hd s0 s1 s2 s3
        unfold putC at hwz
        try rw [hwz]
        exact bodyPost_ret (v := .tuple #[.agg #[.int .i64 0, .int .i64 0, .int .i64 0, .slice none 0 0], .int .i64 0, .int .i64 1]) (by simp [results, Tryd.results10, go_sem, s0, s1, s2, s3]) rfl hd
      | true =>
        have hce : (Cq.cd ⟨b.n, c.n, d.n, A', k, c', xs⟩).e = 0 := by show Cd.e ⟨b.n, c.n, d.n, xs⟩ = 0; unfold Cd.e; rw [hmay]; rfl
        rw [hce]
        have HP : Hid (parseF (bl s) = (⟨b.n, c.n, d.n, xs⟩, (k : Int) + 1, 0)) := by
          unfold Hid
          rw [HHP.out, parse_yes HHK.out HRW.out hmay, HRTL.out]
          rfl
        clear hce hmay
        obtain ⟨x0, x1, x2, x3, _⟩ := lvCells HI3.out.box
        rw [HXL.out] at x3
        obtain ⟨r0, r1, r2, r3, rf0, rf1, rf2, rf3⟩ := lvCells HI3.out.rv
        go_wp2_with fail
        obtain ⟨s0, s1, s2, s3⟩ := putC_cells HI3.out.rv b.n c.n d.n (.slice A' k c')
        have hd : ParseP s w (.returned (.tuple #[.agg #[.int .i64 b.n, .int .i64 c.n, .int .i64 d.n, .slice A' k c'], .int .i64 ((k : Int) + 1), .int .i64 0])) (putC w3 w.heap.size b.n c.n d.n (.slice A' k c')) := by
          unfold ParseP
          rw [HP.out]
          have ho := HI3.out.own.mono (base' := w.heap.size) (by have := HI3.out.lt; omega)
          exact ⟨A', c', by dsimp only; rw [HXL.out], putC_own ho HI3.out.rv _ _ _ _, putC_below HI3.out.bel _ _ _ _⟩
        obtain ⟨wz, hwz⟩ : ∃ wz, putC w3 w.heap.size b.n c.n d.n (.slice A' k c') = wz := ⟨_, rfl⟩
        rw [hwz] at hd s0 s1 s2 s3
        unfold putC at hwz
        try rw [hwz]
        exact bodyPost_ret (v := .tuple #[.agg #[.int .i64 b.n, .int .i64 c.n, .int .i64 d.n, .slice A' k c'], .int .i64 ((k : Int) + 1), .int .i64 0]) (by simp [results, Tryd.results10, go_sem, s0, s1, s2, s3]) rfl hd
end Go.Proofs.YtbmcddolfofmdaaDoor
