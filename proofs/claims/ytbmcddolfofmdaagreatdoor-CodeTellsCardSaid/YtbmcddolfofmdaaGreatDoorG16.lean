/- Code put further on: plain mathematics. Nothing is claimed of the program here. -/
import Derived.Test.YtbmcddolfofmdaaGreatDoorG15
import Derived.Test.YtbmcddolfofmdaaGreatDoorG5
namespace Go.Proofs.YtbmcddolfofmdaaGreatDoor
open Go.RowKit

theorem wrap_small {v : Int} (h0 : 0 ≤ v) (h1 : v ≤ 100000) : wrap64 v = v := by unfold wrap64; omega
theorem shiftJ_op (b : Int) (x : Ji) : (shiftJ b x).op = x.op := by
  unfold shiftJ
  split
  · rfl
  · split <;> rfl
theorem shiftJ_n (b : Int) (x : Ji) : (shiftJ b x).n = x.n := by
  unfold shiftJ
  split
  · rfl
  · split <;> rfl
/-- what an instruction that may be is, put further on: no number goes around -/
theorem shiftJ_eq {R A : Int} {n : Nat} {x : Ji} (h : mayJ R A n x = true) (hn : n ≤ 4096) {b : Nat} (hb : b ≤ 4096) :
    shiftJ b x = ⟨x.op, if x.op = 10 then x.a + b else x.a, x.b, if x.op = 11 ∨ x.op = 12 then x.c + b else x.c, x.n⟩ := by
  obtain ⟨_, h2, _⟩ := mayJ_parts h
  have i0 := h2 0 (by omega)
  have i2 := h2 2 (by omega)
  obtain ⟨op, a, bb, c, m⟩ := x
  unfold InB at i0 i2
  unfold shiftJ
  dsimp only
  split
  · rename_i ho
    subst ho
    simp [kJ, kindsJ, limJ, Ji.f] at i0 i2
    rw [wrap_small (by omega) (by omega)]
    simp
  · rename_i ho
    split
    · rename_i ho2
      have hc : 0 ≤ c ∧ c < n := by
        rcases ho2 with rfl | rfl <;> (simp [kJ, kindsJ, limJ, Ji.f] at i2; exact i2)
      rw [wrap_small (by omega) (by omega)]
    · rfl
theorem shiftJ_reads {R A : Int} {n : Nat} {x : Ji} (h : mayJ R A n x = true) (hn : n ≤ 4096) {b : Nat} (hb : b ≤ 4096) : readsJ (shiftJ b x) = readsJ x ∧ setsJ (shiftJ b x) = setsJ x ∧ writesJ (shiftJ b x) = writesJ x := by
  rw [shiftJ_eq h hn hb]
  obtain ⟨⟨h0, h1⟩, _⟩ := mayJ_parts h
  obtain ⟨op, a, bb, c, m⟩ := x
  dsimp only at h0 h1
  rcases op_cases h0 h1 with rfl | rfl | rfl | rfl | rfl | rfl | rfl | rfl | rfl | rfl | rfl | rfl | rfl <;> exact ⟨rfl, rfl, rfl⟩
theorem shiftJ_next {R A : Int} {n : Nat} {x : Ji} (h : mayJ R A n x = true) (hn : n ≤ 4096) {b : Nat} (hb : b ≤ 4096) {i : Nat} (hi : i ≤ 8192) : nextJ (shiftJ b x) ((b + i : Nat) : Int) = (nextJ x i).map (· + (b : Int)) := by
  rw [shiftJ_eq h hn hb]
  obtain ⟨⟨h0, h1⟩, _⟩ := mayJ_parts h
  have w1 : wrap64 (((b + i : Nat) : Int) + 1) = ((b + i : Nat) : Int) + 1 := wrap_small (by omega) (by omega)
  have w2 : wrap64 ((i : Int) + 1) = (i : Int) + 1 := wrap_small (by omega) (by omega)
  obtain ⟨op, a, bb, c, m⟩ := x
  dsimp only at h0 h1
  unfold nextJ
  rw [w1, w2]
  rcases op_cases h0 h1 with rfl | rfl | rfl | rfl | rfl | rfl | rfl | rfl | rfl | rfl | rfl | rfl | rfl <;> simp <;> omega
theorem shift_l (c : Cd) (b : Nat) : (c.shift b).l = jumpsJ b ++ c.l.map (shiftJ b) := by show jumpsJ ((b : Int)).toNat ++ _ = _; rw [Int.toNat_natCast]
theorem shift_length (c : Cd) (b : Nat) : (c.shift b).l.length = b + c.l.length := by rw [shift_l, List.length_append, jumpsJ_length, List.length_map]
theorem shift_jump (c : Cd) {b k : Nat} (h : k < b) : (c.shift b).l[k]? = some ⟨10, ((k + 1 : Nat) : Int), 0, 0, 0⟩ := by
  rw [shift_l, List.getElem?_append_left (by rw [jumpsJ_length]; exact h)]
  unfold jumpsJ
  rw [List.getElem?_map, List.getElem?_range h]
  rfl
theorem shift_at (c : Cd) (b i : Nat) : (c.shift b).l[b + i]? = c.l[i]?.map (shiftJ b) := by
  rw [shift_l, List.getElem?_append_right (by rw [jumpsJ_length]; omega), jumpsJ_length, List.getElem?_map, show b + i - b = i by omega]
section
variable {c : Cd} (h : c.may = true) {b : Nat} (hb : b ≤ 4096)
include h hb
theorem way_shift {but : Int} {i : Nat} : Way (c.shift b).l but (b + i) ↔ Way c.l but i := by
  have hn := (Cd.may_parts h).1.2.2.2.2.2.2.2
  constructor
  · intro hw
    have : ∀ k, Way (c.shift b).l but k → ∀ i, k = b + i → Way c.l but i := by
      intro k hk
      induction hk with
      | start =>
        intro i hi
        have : i = 0 := by omega
        subst this
        exact .start
      | @step j k x hj hx hs hk ih =>
        intro i hi
        by_cases hjb : j < b
        · rw [shift_jump c hjb] at hx
          injection hx with hx
          subst hx
          have hk2 : (k : Int) = ((j + 1 : Nat) : Int) := by simpa [nextJ] using hk
          have : i = 0 := by omega
          subst this
          exact .start
        · obtain ⟨m, rfl⟩ : ∃ m, j = b + m := ⟨j - b, by omega⟩
          rw [shift_at] at hx
          cases e : c.l[m]? with
          | none => rw [e] at hx; cases hx
          | some y =>
            rw [e] at hx
            simp only [Option.map_some, Option.some.injEq] at hx
            subst hx
            have hm := (Cd.may_parts h).2.1 y (List.mem_of_getElem? e)
            have hml := (List.getElem?_eq_some_iff.1 e).1
            obtain ⟨r1, r2, r3⟩ := shiftJ_reads hm hn hb
            rw [r2, r3] at hs
            rw [shiftJ_next hm hn hb (by omega), List.mem_map] at hk
            obtain ⟨z, hz, hzk⟩ := hk
            refine .step (ih m rfl) e hs ?_
            have : z = (i : Int) := by omega
            rw [← this]; exact hz
    exact this _ hw i rfl
  · intro hw
    have h0 : ∀ k, k ≤ b → Way (c.shift b).l but k := by
      intro k
      induction k with
      | zero => intro _; exact .start
      | succ k ih =>
        intro hk
        refine .step (ih (by omega)) (shift_jump c (by omega)) ?_ ?_
        · rintro ⟨h1, _⟩
          exact absurd h1 (by simp [setsJ, kJ, kindsJ])
        · simp [nextJ]
    induction hw with
    | start => exact h0 b (Nat.le_refl _)
    | @step j k x hj hx hs hk ih =>
      have hm := (Cd.may_parts h).2.1 x (List.mem_of_getElem? hx)
      have hml := (List.getElem?_eq_some_iff.1 hx).1
      obtain ⟨r1, r2, r3⟩ := shiftJ_reads hm hn hb
      refine .step (x := shiftJ b x) ih (by rw [shift_at, hx]; rfl) (by rw [r2, r3]; exact hs) ?_
      rw [shiftJ_next hm hn hb (by omega), List.mem_map]
      exact ⟨k, hk, by omega⟩
omit h hb in
theorem way_jump {but : Int} {k : Nat} (hk : k < b) : Way (c.shift b).l but k := by
  induction k with
  | zero => exact .start
  | succ k ih =>
    refine .step (ih (by omega)) (shift_jump c (by omega)) ?_ ?_
    · rintro ⟨h1, _⟩
      exact absurd h1 (by simp [setsJ, kJ, kindsJ])
    · simp [nextJ]
theorem set_shift (i : Nat) : setN (c.shift b) (b + i) = setN c i := by
  unfold setN
  show ((List.range c.R.toNat).filter _).map _ = _
  congr 1
  refine List.filter_congr fun n _ => ?_
  rw [decide_eq_decide, way_shift h hb, way_shift h hb]
omit h hb in
theorem set_jump {k : Nat} (hk : k < b) : setN (c.shift b) k = [] := by
  cases e : setN (c.shift b) k with
  | nil => rfl
  | cons n r =>
    have := mem_setN.1 (show n ∈ setN (c.shift b) k by rw [e]; simp)
    exact absurd (way_jump hk) this.2.2.2
end
theorem filter_range_add (p : Nat → Bool) (q : Nat → Bool) (b n : Nat) (h1 : ∀ k, k < b → p k = false) (h2 : ∀ i, i < n → p (b + i) = q i) : (List.range (b + n)).filter p = ((List.range n).filter q).map (b + ·) := by
  rw [List.range_add, List.filter_append, List.filter_map]
  have e1 : (List.range b).filter p = [] := List.filter_eq_nil_iff.2 fun k hk => by rw [h1 k (List.mem_range.1 hk)]; simp
  rw [e1, List.nil_append]
  congr 1
  exact List.filter_congr fun i hi => h2 i (List.mem_range.1 hi)
section
variable {c : Cd} (h : c.may = true) {b : Nat} (hb : b ≤ 4096)
include h hb
theorem unset_shift : unsetN (c.shift b) = (unsetN c).map (b + ·) := by
  have hn := (Cd.may_parts h).1.2.2.2.2.2.2.2
  unfold unsetN
  rw [shift_length]
  refine filter_range_add _ _ _ _ (fun k hk => ?_) (fun i hi => ?_)
  · simp only [decide_eq_false_iff_not]
    rintro ⟨_, x, hx, r, hr, _⟩
    rw [shift_jump c hk] at hx
    injection hx with hx
    subst hx
    exact absurd hr (by simp [readsJ, kJ, kindsJ, readsG, Ji.f])
  · rw [decide_eq_decide, way_shift h hb, shift_at, set_shift h hb]
    constructor
    · rintro ⟨h1, x, hx, r, hr, hs⟩
      cases e : c.l[i]? with
      | none => rw [e] at hx; cases hx
      | some y =>
        rw [e] at hx
        simp only [Option.map_some, Option.some.injEq] at hx
        subst hx
        have hm := (Cd.may_parts h).2.1 y (List.mem_of_getElem? e)
        rw [(shiftJ_reads hm hn hb).1] at hr
        exact ⟨h1, y, rfl, r, hr, hs⟩
    · rintro ⟨h1, y, hy, r, hr, hs⟩
      have hm := (Cd.may_parts h).2.1 y (List.mem_of_getElem? hy)
      exact ⟨h1, shiftJ b y, by rw [hy]; rfl, r, by rw [(shiftJ_reads hm hn hb).1]; exact hr, hs⟩
theorem loops_shift : loopsN (c.shift b) = (loopsN c).map (b + ·) := by
  have hn := (Cd.may_parts h).1.2.2.2.2.2.2.2
  unfold loopsN
  rw [shift_length]
  refine filter_range_add _ _ _ _ (fun k hk => ?_) (fun i hi => ?_)
  · simp only [decide_eq_false_iff_not]
    rintro ⟨_, x, hx, r, hr, hle⟩
    rw [shift_jump c hk] at hx
    injection hx with hx
    subst hx
    have : r = ((k + 1 : Nat) : Int) := by simpa [nextJ] using hr
    omega
  · rw [decide_eq_decide, way_shift h hb, shift_at]
    constructor
    · rintro ⟨h1, x, hx, r, hr, hs⟩
      cases e : c.l[i]? with
      | none => rw [e] at hx; cases hx
      | some y =>
        rw [e] at hx
        simp only [Option.map_some, Option.some.injEq] at hx
        subst hx
        have hm := (Cd.may_parts h).2.1 y (List.mem_of_getElem? e)
        rw [shiftJ_next hm hn hb (by omega), List.mem_map] at hr
        obtain ⟨z, hz, rfl⟩ := hr
        exact ⟨h1, y, rfl, z, hz, by omega⟩
    · rintro ⟨h1, y, hy, r, hr, hs⟩
      have hm := (Cd.may_parts h).2.1 y (List.mem_of_getElem? hy)
      exact ⟨h1, shiftJ b y, by rw [hy]; rfl, r + b, by rw [shiftJ_next hm hn hb (by omega), List.mem_map]; exact ⟨r, hr, rfl⟩, by omega⟩
end
theorem mayJ_intro {R A L : Int} {x : Ji} (h0 : 0 ≤ x.op ∧ x.op ≤ 12) (h : ∀ j, j < 3 → InB R A L x j) (h3 : (110 : UInt8) ∈ kJ x.op → -1000000000000000000 < x.n ∧ x.n < 1000000000000000000) (h4 : (110 : UInt8) ∉ kJ x.op → x.n = 0) : mayJ R A L x = true := by
  rw [mayJ_yes h0 h]
  split
  · rename_i hm
    exact decide_eq_true (h3 hm)
  · rename_i hm
    exact decide_eq_true (h4 hm)
theorem mayJ_shift {R A : Int} {n : Nat} {x : Ji} (h : mayJ R A n x = true) (hn : n ≤ 4096) {b : Nat} (hb : b ≤ 4096) : mayJ R A ((b + n : Nat) : Int) (shiftJ b x) = true := by
  rw [shiftJ_eq h hn hb]
  obtain ⟨h0, h2, h3, h4⟩ := mayJ_parts h
  refine mayJ_intro h0 (fun j hj => ?_) h3 h4
  have i := h2 j hj
  obtain ⟨op, a, bb, c, m⟩ := x
  dsimp only at h0
  unfold InB at i ⊢
  match j, hj with
  | 0, _ => rcases op_cases h0.1 h0.2 with rfl | rfl | rfl | rfl | rfl | rfl | rfl | rfl | rfl | rfl | rfl | rfl | rfl <;> (simp [kJ, kindsJ, limJ, Ji.f] at i ⊢; omega)
  | 1, _ => rcases op_cases h0.1 h0.2 with rfl | rfl | rfl | rfl | rfl | rfl | rfl | rfl | rfl | rfl | rfl | rfl | rfl <;> (simp [kJ, kindsJ, limJ, Ji.f] at i ⊢; omega)
  | 2, _ => rcases op_cases h0.1 h0.2 with rfl | rfl | rfl | rfl | rfl | rfl | rfl | rfl | rfl | rfl | rfl | rfl | rfl <;> (simp [kJ, kindsJ, limJ, Ji.f] at i ⊢; omega)
theorem mayJ_jump {R A : Int} {n k : Nat} (h : k + 1 < n) : mayJ R A n ⟨10, ((k + 1 : Nat) : Int), 0, 0, 0⟩ = true := by
  refine mayJ_intro (by simp) (fun j hj => ?_) (fun h => absurd h (by simp [kJ, kindsJ])) (fun _ => rfl)
  unfold InB
  match j, hj with
  | 0, _ => simp [kJ, kindsJ, limJ, Ji.f]; omega
  | 1, _ => simp [kJ, kindsJ, limJ, Ji.f]
  | 2, _ => simp [kJ, kindsJ, limJ, Ji.f]
theorem mem_shift {c : Cd} {b : Nat} {x : Ji} (hx : x ∈ (c.shift b).l) : (∃ k, k < b ∧ x = ⟨10, ((k + 1 : Nat) : Int), 0, 0, 0⟩) ∨ ∃ y ∈ c.l, x = shiftJ b y := by
  rw [shift_l] at hx
  rcases List.mem_append.1 hx with hx | hx
  · left
    unfold jumpsJ at hx
    obtain ⟨k, hk, rfl⟩ := List.mem_map.1 hx
    exact ⟨k, List.mem_range.1 hk, rfl⟩
  · right
    obtain ⟨y, hy, rfl⟩ := List.mem_map.1 hx
    exact ⟨y, hy, rfl⟩
/-- code that is put further on may be -/
theorem shift_may {c : Cd} (h : c.may = true) {b : Nat} (hb : c.l.length + b ≤ 4096) : (c.shift b).may = true := by
  obtain ⟨⟨r0, r1, a0, a1, i0, i1, n0, n1⟩, h2, y, hy, hy2⟩ := Cd.may_parts h
  unfold Cd.may
  rw [Bool.and_eq_true, Bool.and_eq_true]
  refine ⟨⟨decide_eq_true ⟨r0, r1, a0, a1, i0, i1, by rw [shift_length]; omega, by rw [shift_length]; omega⟩, List.all_eq_true.2 fun x hx => ?_⟩, ?_⟩
  · rw [shift_length]
    show mayJ c.R c.A ((b + c.l.length : Nat) : Int) x = true
    rcases mem_shift hx with ⟨k, hk, rfl⟩ | ⟨z, hz, rfl⟩
    · exact mayJ_jump (by omega)
    · exact mayJ_shift (h2 z hz) n1 (by omega)
  · have : (c.shift b).l.getLast? = some (shiftJ b y) := by
      rw [List.getLast?_eq_getElem?, shift_length, show b + c.l.length - 1 = b + (c.l.length - 1) by omega, shift_at]
      rw [List.getLast?_eq_getElem?] at hy
      rw [hy]; rfl
    rw [this]
    show decide ((shiftJ b y).op = 0 ∨ (shiftJ b y).op = 10) = true
    rw [shiftJ_op]
    exact decide_eq_true hy2
theorem shiftJ_two {R A : Int} {n : Nat} {x : Ji} (h : mayJ R A n x = true) (hn : n ≤ 4096) {a b : Nat} (hab : n + (a + b) ≤ 4096) : shiftJ b (shiftJ a x) = shiftJ ((a + b : Nat) : Int) x := by
  have h1 := mayJ_shift h hn (b := a) (by omega)
  rw [shiftJ_eq h1 (by omega) (by omega), shiftJ_eq h hn (by omega), shiftJ_eq h hn (b := a + b) (by omega)]
  obtain ⟨op, a', bb, c, m⟩ := x
  dsimp only
  congr 1
  · split <;> omega
  · split <;> omega
/-- put further on twice -/
theorem shift_shift {c : Cd} (h : c.may = true) {a b : Nat} (hab : c.l.length + (a + b) ≤ 4096) : (c.shift a).shift b = c.shift ((a + b : Nat) : Int) := by
  obtain ⟨⟨r0, r1, a0, a1, i0, i1, n0, n1⟩, h2, _⟩ := Cd.may_parts h
  have e : ((c.shift a).shift b).l = (c.shift ((a + b : Nat) : Int)).l := by
    refine List.ext_getElem? fun k => ?_
    by_cases hk : k < b
    · rw [shift_jump _ hk, shift_jump _ (by omega)]
    · obtain ⟨m, rfl⟩ : ∃ m, k = b + m := ⟨k - b, by omega⟩
      rw [shift_at]
      by_cases hm : m < a
      · rw [shift_jump _ hm, shift_jump _ (by omega)]
        show some (shiftJ (b : Int) ⟨10, ((m + 1 : Nat) : Int), 0, 0, 0⟩) = _
        unfold shiftJ
        rw [if_pos rfl]
        show some (⟨10, wrap64 (((m + 1 : Nat) : Int) + (b : Int)), 0, 0, 0⟩ : Ji) = _
        rw [wrap_small (v := ((m + 1 : Nat) : Int) + (b : Int)) (by omega) (by omega), show ((m + 1 : Nat) : Int) + (b : Int) = ((b + m + 1 : Nat) : Int) by omega]
      · obtain ⟨i, rfl⟩ : ∃ i, m = a + i := ⟨m - a, by omega⟩
        rw [shift_at, show b + (a + i) = (a + b) + i by omega, shift_at, Option.map_map]
        cases e : c.l[i]? with
        | none => rfl
        | some x =>
          show some (shiftJ b (shiftJ a x)) = some (shiftJ _ x)
          rw [shiftJ_two (h2 x (List.mem_of_getElem? e)) n1 hab]
  show (⟨c.R, c.A, c.I, ((c.shift a).shift b).l⟩ : Cd) = ⟨c.R, c.A, c.I, (c.shift ((a + b : Nat) : Int)).l⟩
  rw [e]
theorem any_same {l : List Ji} {p q : Ji → Bool} (h : ∀ x ∈ l, p x = q x) : l.any p = l.any q := by
  induction l with
  | nil => rfl
  | cons x l ih => rw [List.any_cons, List.any_cons, h x (by simp), ih fun y hy => h y (by simp [hy])]
/-- whether code is checked, further on -/
theorem valid_shift {c : Cd} (h : c.may = true) {b : Nat} (hb : c.l.length + b ≤ 4096) : validE (c.shift b) = validE c := by
  obtain ⟨⟨r0, r1, a0, a1, i0, i1, n0, n1⟩, h2, _⟩ := Cd.may_parts h
  have hu := unset_shift h (b := b) (by omega)
  have hany : (c.shift b).l.any (fun x => (x.op == 7 || x.op == 9) && decide (x.a < (c.shift b).I)) = c.l.any (fun x => (x.op == 7 || x.op == 9) && decide (x.a < c.I)) := by
    show (c.shift b).l.any (fun x => (x.op == 7 || x.op == 9) && decide (x.a < c.I)) = _
    rw [shift_l, List.any_append]
    have e1 : (jumpsJ b).any (fun x => (x.op == 7 || x.op == 9) && decide (x.a < c.I)) = false := by
      rw [List.any_eq_false]
      intro x hx
      unfold jumpsJ at hx
      obtain ⟨k, _, rfl⟩ := List.mem_map.1 hx
      simp
    rw [e1, Bool.false_or, List.any_map]
    refine any_same fun x hx => ?_
    show (((shiftJ b x).op == 7 || (shiftJ b x).op == 9) && decide ((shiftJ b x).a < c.I)) = ((x.op == 7 || x.op == 9) && decide (x.a < c.I))
    rw [shiftJ_op]
    by_cases h79 : x.op = 7 ∨ x.op = 9
    · have : (shiftJ b x).a = x.a := by
        rw [shiftJ_eq (h2 x hx) n1 (by omega)]
        show (if x.op = 10 then _ else x.a) = x.a
        rw [if_neg (by omega)]
      rw [this]
    · have e : (x.op == 7 || x.op == 9) = false := by simp; omega
      rw [e]; rfl
  unfold validE
  rw [shift_may h hb, h, hu, hany]
  simp
end Go.Proofs.YtbmcddolfofmdaaGreatDoor
/- Code with one register less: plain mathematics. Nothing is claimed of the program here. -/
namespace Go.Proofs.YtbmcddolfofmdaaGreatDoor
open Go.RowKit

/-- the registers that are asked for, and the one that is set -/
def regsJ (x : Ji) : List Int := readsJ x ++ if setsJ x then [writesJ x] else []
def lastX (R : Int) (x : Ji) : Bool := (regsJ x).any fun r => r == R - 1
def lastL (R : Int) (l : List Ji) : Bool := l.any (lastX R)
theorem readsG_has : ∀ (ks : List UInt8) (vs : List Int) (i : Nat) (v : Int), ks[i]? = some 114 → vs[i]? = some v → v ∈ readsG ks vs
  | [], _, i, _, h, _ => by simp at h
  | _ :: _, [], i, _, _, h => by simp at h
  | k :: ks, u :: vs, 0, v, h, h2 => by
    simp at h h2
    subst h; subst h2
    simp [readsG]
  | k :: ks, u :: vs, i + 1, v, h, h2 => by
    have := readsG_has ks vs i v (by simpa using h) (by simpa using h2)
    unfold readsG
    split
    · exact List.mem_cons_of_mem _ this
    · exact this
theorem kind_first {op : Int} (h : 0 ≤ op ∧ op ≤ 12) {i : Nat} (hi : (kJ op)[i]? = some 119) : i = 0 := by
  match i with
  | 0 => rfl
  | i + 1 =>
    exfalso
    rcases op_cases h.1 h.2 with rfl | rfl | rfl | rfl | rfl | rfl | rfl | rfl | rfl | rfl | rfl | rfl | rfl
    all_goals
      match i, hi with
      | 0, hi => exact absurd hi (by decide)
      | 1, hi => exact absurd hi (by decide)
      | i + 2, hi => simp [kJ, kindsJ] at hi
theorem regs_in {R A L : Int} {x : Ji} (h : mayJ R A L x = true) : ∀ r ∈ regsJ x, 0 ≤ r ∧ r < R := by
  intro r hr
  unfold regsJ at hr
  rcases List.mem_append.1 hr with hr | hr
  · exact reads_in h r hr
  · split at hr
    · rename_i hs
      rw [List.mem_singleton.1 hr]
      exact sets_in h hs
    · cases hr
theorem bend_one {R A L : Int} {x : Ji} (h : mayJ R A L x = true) : mayJ (R - 1) A L x = !(lastX R x) := by
  obtain ⟨h0, h2, h3, h4⟩ := mayJ_parts h
  cases e : lastX R x with
  | true =>
    unfold lastX at e
    rw [List.any_eq_true] at e
    obtain ⟨r, hr, hr1⟩ := e
    have hr1 : r = R - 1 := by simpa using hr1
    show mayJ (R - 1) A L x = false
    cases q : mayJ (R - 1) A L x with
    | false => rfl
    | true => have := regs_in q r hr; omega
  | false =>
    show mayJ (R - 1) A L x = true
    have hno : ∀ r ∈ regsJ x, r ≠ R - 1 := by
      intro r hr e2
      unfold lastX at e
      rw [List.any_eq_false] at e
      exact e r hr (by simpa using e2)
    refine mayJ_intro h0 (fun j hj => ?_) h3 h4
    have q := h2 j hj
    unfold InB at q ⊢
    obtain ⟨v, hv, hvd⟩ := x.f_at hj
    rw [hvd] at q ⊢
    cases hk : (kJ x.op)[j]? with
    | none =>
      have e3 : (kJ x.op).getD j 32 = 32 := by rw [List.getD_eq_getElem?_getD, hk]; rfl
      rw [e3] at q ⊢
      exact q
    | some k =>
      rw [mem_kJ hk] at q ⊢
      by_cases k1 : k = 119
      · subst k1
        have hj0 := kind_first h0 hk
        subst hj0
        have hs : setsJ x = true := by unfold setsJ; rw [List.head?_eq_getElem?, hk]; rfl
        have hva : v = writesJ x := by unfold writesJ; rw [if_pos hs]; cases hv; rfl
        have := hno v (by unfold regsJ; rw [if_pos hs, hva]; simp)
        have q : 0 ≤ v ∧ v < R := q
        show 0 ≤ v ∧ v < R - 1
        omega
      · by_cases k2 : k = 114
        · subst k2
          have := hno v (by unfold regsJ; exact List.mem_append_left _ (readsG_has _ _ j v hk hv))
          have q : 0 ≤ v ∧ v < R := q
          show 0 ≤ v ∧ v < R - 1
          omega
        · unfold limJ at q ⊢
          rw [if_neg (by simp [k1, k2])] at q ⊢
          exact q
theorem bend_may {c : Cd} (h : c.may = true) : Cd.may ⟨c.R - 1, c.A, c.I, c.l⟩ = (!(lastL c.R c.l) && decide (0 ≤ c.R - 1)) := by
  obtain ⟨⟨r0, r1, a0, a1, i0, i1, n0, n1⟩, h2, y, hy, hy2⟩ := Cd.may_parts h
  have hall : c.l.all (mayJ (c.R - 1) c.A c.l.length) = !(lastL c.R c.l) := by
    unfold lastL
    have : ∀ l : List Ji, (∀ x ∈ l, mayJ c.R c.A c.l.length x = true) → l.all (mayJ (c.R - 1) c.A c.l.length) = !(l.any (lastX c.R)) := by
      intro l
      induction l with
      | nil => intro _; rfl
      | cons x l ih =>
        intro hl
        rw [List.all_cons, List.any_cons, ih fun z hz => hl z (by simp [hz]), bend_one (hl x (by simp)), Bool.not_or]
    exact this c.l h2
  unfold Cd.may
  show (decide _ && c.l.all (mayJ (c.R - 1) c.A c.l.length) && (match c.l.getLast? with | some x => decide (x.op = 0 ∨ x.op = 10) | none => false)) = _
  rw [hall, hy]
  simp only
  rw [decide_eq_true hy2, Bool.and_true]
  by_cases hR : 0 ≤ c.R - 1
  · rw [decide_eq_true (show 0 ≤ c.R - 1 ∧ c.R - 1 ≤ 128 ∧ 0 ≤ c.A ∧ c.A ≤ 128 ∧ 0 ≤ c.I ∧ c.I ≤ c.A ∧ 1 ≤ c.l.length ∧ c.l.length ≤ 4096 from ⟨hR, by omega, a0, a1, i0, i1, n0, n1⟩), decide_eq_true hR, Bool.true_and, Bool.and_true]
  · rw [decide_eq_false (show ¬(0 ≤ c.R - 1 ∧ c.R - 1 ≤ 128 ∧ 0 ≤ c.A ∧ c.A ≤ 128 ∧ 0 ≤ c.I ∧ c.I ≤ c.A ∧ 1 ≤ c.l.length ∧ c.l.length ≤ 4096) from fun q => hR q.1), decide_eq_false hR, Bool.false_and, Bool.and_false]
theorem any_snocJ {l : List Ji} {k : Nat} {x : Ji} (f : Ji → Bool) (h : l[k]? = some x) : (l.take (k + 1)).any f = ((l.take k).any f || f x) := by
  rw [List.take_add_one, h, List.any_append]; simp
theorem any_snocI {l : List Int} {k : Nat} {x : Int} (f : Int → Bool) (h : l[k]? = some x) : (l.take (k + 1)).any f = ((l.take k).any f || f x) := by
  rw [List.take_add_one, h, List.any_append]; simp
end Go.Proofs.YtbmcddolfofmdaaGreatDoor
/- purflelaw14.CodeBends returns true. -/
namespace Go.Proofs.YtbmcddolfofmdaaGreatDoor
open Go.RowKit

theorem Cd.e_may {c : Cd} (h : c.e = 0) : c.may = true := by
  unfold Cd.e at h
  split at h
  · assumption
  · cases h
theorem own_int_at {w : World} {base c k : Nat} {A : Option Addr} {xs : List Int} {x : Int} (h : OwnI w base 3 A c xs) (hx : xs[k]? = some x) : ∃ g, A = some ⟨g, 0, none⟩ ∧ w.cell? ⟨g, k, none⟩ = some (.int .i64 x) := by
  have hk := (List.getElem?_eq_some_iff.1 hx).1
  rcases h.1.2 with ⟨_, h0⟩ | ⟨g, cap, cur, h1, _⟩
  · omega
  · have hA : A = some ⟨g, 0, none⟩ := by injection h1
    have h2 := h
    rw [hA] at h2
    exact ⟨g, hA, (h2.cell_ hx).1⟩
end Go.Proofs.YtbmcddolfofmdaaGreatDoor
