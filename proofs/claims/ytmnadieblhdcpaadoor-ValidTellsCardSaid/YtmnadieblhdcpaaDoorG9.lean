/- Code put further on: plain mathematics. Nothing is claimed of the program here. -/
import Derived.Test.YtmnadieblhdcpaaDoorG8
import Derived.Test.YtmnadieblhdcpaaDoorG7
namespace Go.Proofs.YtmnadieblhdcpaaDoor
open Go.RowKit

theorem wrap_small {v : Int} (h0 : 0 ≤ v) (h1 : v ≤ 100000) : wrap64 v = v := by unfold wrap64; omega
theorem shiftJ_op (b : Int) (x : Ji) : (shiftJ b x).op = x.op := by
  unfold shiftJ
  split
  · rfl
  · split <;> rfl
theorem shiftJ_n (b : Int) (x : Ji) : (shiftJ b x).n = x.n := by
  unfold shiftJ
  split
  · rfl
  · split <;> rfl
/-- what an instruction that may be is, put further on: no number goes around -/
theorem shiftJ_eq {R A : Int} {n : Nat} {x : Ji} (h : mayJ R A n x = true) (hn : n ≤ 4096) {b : Nat} (hb : b ≤ 4096) :
    shiftJ b x = ⟨x.op, if x.op = 10 then x.a + b else x.a, x.b, if x.op = 11 ∨ x.op = 12 then x.c + b else x.c, x.n⟩ := by
  obtain ⟨_, h2, _⟩ := mayJ_parts h
  have i0 := h2 0 (by omega)
  have i2 := h2 2 (by omega)
  obtain ⟨op, a, bb, c, m⟩ := x
  unfold InB at i0 i2
  unfold shiftJ
  dsimp only
  split
  · rename_i ho
    subst ho
    simp [kJ, kindsJ, limJ, Ji.f] at i0 i2
    rw [wrap_small (by omega) (by omega)]
    simp
  · rename_i ho
    split
    · rename_i ho2
      have hc : 0 ≤ c ∧ c < n := by
        rcases ho2 with rfl | rfl <;> (simp [kJ, kindsJ, limJ, Ji.f] at i2; exact i2)
      rw [wrap_small (by omega) (by omega)]
    · rfl
theorem shiftJ_reads {R A : Int} {n : Nat} {x : Ji} (h : mayJ R A n x = true) (hn : n ≤ 4096) {b : Nat} (hb : b ≤ 4096) : readsJ (shiftJ b x) = readsJ x ∧ setsJ (shiftJ b x) = setsJ x ∧ writesJ (shiftJ b x) = writesJ x := by
  rw [shiftJ_eq h hn hb]
  obtain ⟨⟨h0, h1⟩, _⟩ := mayJ_parts h
  obtain ⟨op, a, bb, c, m⟩ := x
  dsimp only at h0 h1
  rcases op_cases h0 h1 with rfl | rfl | rfl | rfl | rfl | rfl | rfl | rfl | rfl | rfl | rfl | rfl | rfl <;> exact ⟨rfl, rfl, rfl⟩
theorem shiftJ_next {R A : Int} {n : Nat} {x : Ji} (h : mayJ R A n x = true) (hn : n ≤ 4096) {b : Nat} (hb : b ≤ 4096) {i : Nat} (hi : i ≤ 8192) : nextJ (shiftJ b x) ((b + i : Nat) : Int) = (nextJ x i).map (· + (b : Int)) := by
  rw [shiftJ_eq h hn hb]
  obtain ⟨⟨h0, h1⟩, _⟩ := mayJ_parts h
  have w1 : wrap64 (((b + i : Nat) : Int) + 1) = ((b + i : Nat) : Int) + 1 := wrap_small (by omega) (by omega)
  have w2 : wrap64 ((i : Int) + 1) = (i : Int) + 1 := wrap_small (by omega) (by omega)
  obtain ⟨op, a, bb, c, m⟩ := x
  dsimp only at h0 h1
  unfold nextJ
  rw [w1, w2]
  rcases op_cases h0 h1 with rfl | rfl | rfl | rfl | rfl | rfl | rfl | rfl | rfl | rfl | rfl | rfl | rfl <;> simp <;> omega
theorem shift_l (c : Cd) (b : Nat) : (c.shift b).l = jumpsJ b ++ c.l.map (shiftJ b) := by show jumpsJ ((b : Int)).toNat ++ _ = _; rw [Int.toNat_natCast]
theorem shift_length (c : Cd) (b : Nat) : (c.shift b).l.length = b + c.l.length := by rw [shift_l, List.length_append, jumpsJ_length, List.length_map]
theorem shift_jump (c : Cd) {b k : Nat} (h : k < b) : (c.shift b).l[k]? = some ⟨10, ((k + 1 : Nat) : Int), 0, 0, 0⟩ := by
  rw [shift_l, List.getElem?_append_left (by rw [jumpsJ_length]; exact h)]
  unfold jumpsJ
  rw [List.getElem?_map, List.getElem?_range h]
  rfl
theorem shift_at (c : Cd) (b i : Nat) : (c.shift b).l[b + i]? = c.l[i]?.map (shiftJ b) := by
  rw [shift_l, List.getElem?_append_right (by rw [jumpsJ_length]; omega), jumpsJ_length, List.getElem?_map, show b + i - b = i by omega]
section
variable {c : Cd} (h : c.may = true) {b : Nat} (hb : b ≤ 4096)
include h hb
theorem way_shift {but : Int} {i : Nat} : Way (c.shift b).l but (b + i) ↔ Way c.l but i := by
  have hn := (Cd.may_parts h).1.2.2.2.2.2.2.2
  constructor
  · intro hw
    have : ∀ k, Way (c.shift b).l but k → ∀ i, k = b + i → Way c.l but i := by
      intro k hk
      induction hk with
      | start =>
        intro i hi
        have : i = 0 := by omega
        subst this
        exact .start
      | @step j k x hj hx hs hk ih =>
        intro i hi
        by_cases hjb : j < b
        · rw [shift_jump c hjb] at hx
          injection hx with hx
          subst hx
          have hk2 : (k : Int) = ((j + 1 : Nat) : Int) := by simpa [nextJ] using hk
          have : i = 0 := by omega
          subst this
          exact .start
        · obtain ⟨m, rfl⟩ : ∃ m, j = b + m := ⟨j - b, by omega⟩
          rw [shift_at] at hx
          cases e : c.l[m]? with
          | none => rw [e] at hx; cases hx
          | some y =>
            rw [e] at hx
            simp only [Option.map_some, Option.some.injEq] at hx
            subst hx
            have hm := (Cd.may_parts h).2.1 y (List.mem_of_getElem? e)
            have hml := (List.getElem?_eq_some_iff.1 e).1
            obtain ⟨r1, r2, r3⟩ := shiftJ_reads hm hn hb
            rw [r2, r3] at hs
            rw [shiftJ_next hm hn hb (by omega), List.mem_map] at hk
            obtain ⟨z, hz, hzk⟩ := hk
            refine .step (ih m rfl) e hs ?_
            have : z = (i : Int) := by omega
            rw [← this]; exact hz
    exact this _ hw i rfl
  · intro hw
    have h0 : ∀ k, k ≤ b → Way (c.shift b).l but k := by
      intro k
      induction k with
      | zero => intro _; exact .start
      | succ k ih =>
        intro hk
        refine .step (ih (by omega)) (shift_jump c (by omega)) ?_ ?_
        · rintro ⟨h1, _⟩
          exact absurd h1 (by simp [setsJ, kJ, kindsJ])
        · simp [nextJ]
    induction hw with
    | start => exact h0 b (Nat.le_refl _)
    | @step j k x hj hx hs hk ih =>
      have hm := (Cd.may_parts h).2.1 x (List.mem_of_getElem? hx)
      have hml := (List.getElem?_eq_some_iff.1 hx).1
      obtain ⟨r1, r2, r3⟩ := shiftJ_reads hm hn hb
      refine .step (x := shiftJ b x) ih (by rw [shift_at, hx]; rfl) (by rw [r2, r3]; exact hs) ?_
      rw [shiftJ_next hm hn hb (by omega), List.mem_map]
      exact ⟨k, hk, by omega⟩
omit h hb in
theorem way_jump {but : Int} {k : Nat} (hk : k < b) : Way (c.shift b).l but k := by
  induction k with
  | zero => exact .start
  | succ k ih =>
    refine .step (ih (by omega)) (shift_jump c (by omega)) ?_ ?_
    · rintro ⟨h1, _⟩
      exact absurd h1 (by simp [setsJ, kJ, kindsJ])
    · simp [nextJ]
theorem set_shift (i : Nat) : setN (c.shift b) (b + i) = setN c i := by
  unfold setN
  show ((List.range c.R.toNat).filter _).map _ = _
  congr 1
  refine List.filter_congr fun n _ => ?_
  rw [decide_eq_decide, way_shift h hb, way_shift h hb]
omit h hb in
theorem set_jump {k : Nat} (hk : k < b) : setN (c.shift b) k = [] := by
  cases e : setN (c.shift b) k with
  | nil => rfl
  | cons n r =>
    have := mem_setN.1 (show n ∈ setN (c.shift b) k by rw [e]; simp)
    exact absurd (way_jump hk) this.2.2.2
end
theorem filter_range_add (p : Nat → Bool) (q : Nat → Bool) (b n : Nat) (h1 : ∀ k, k < b → p k = false) (h2 : ∀ i, i < n → p (b + i) = q i) : (List.range (b + n)).filter p = ((List.range n).filter q).map (b + ·) := by
  rw [List.range_add, List.filter_append, List.filter_map]
  have e1 : (List.range b).filter p = [] := List.filter_eq_nil_iff.2 fun k hk => by rw [h1 k (List.mem_range.1 hk)]; simp
  rw [e1, List.nil_append]
  congr 1
  exact List.filter_congr fun i hi => h2 i (List.mem_range.1 hi)
section
variable {c : Cd} (h : c.may = true) {b : Nat} (hb : b ≤ 4096)
include h hb
theorem unset_shift : unsetN (c.shift b) = (unsetN c).map (b + ·) := by
  have hn := (Cd.may_parts h).1.2.2.2.2.2.2.2
  unfold unsetN
  rw [shift_length]
  refine filter_range_add _ _ _ _ (fun k hk => ?_) (fun i hi => ?_)
  · simp only [decide_eq_false_iff_not]
    rintro ⟨_, x, hx, r, hr, _⟩
    rw [shift_jump c hk] at hx
    injection hx with hx
    subst hx
    exact absurd hr (by simp [readsJ, kJ, kindsJ, readsG, Ji.f])
  · rw [decide_eq_decide, way_shift h hb, shift_at, set_shift h hb]
    constructor
    · rintro ⟨h1, x, hx, r, hr, hs⟩
      cases e : c.l[i]? with
      | none => rw [e] at hx; cases hx
      | some y =>
        rw [e] at hx
        simp only [Option.map_some, Option.some.injEq] at hx
        subst hx
        have hm := (Cd.may_parts h).2.1 y (List.mem_of_getElem? e)
        rw [(shiftJ_reads hm hn hb).1] at hr
        exact ⟨h1, y, rfl, r, hr, hs⟩
    · rintro ⟨h1, y, hy, r, hr, hs⟩
      have hm := (Cd.may_parts h).2.1 y (List.mem_of_getElem? hy)
      exact ⟨h1, shiftJ b y, by rw [hy]; rfl, r, by rw [(shiftJ_reads hm hn hb).1]; exact hr, hs⟩
theorem loops_shift : loopsN (c.shift b) = (loopsN c).map (b + ·) := by
  have hn := (Cd.may_parts h).1.2.2.2.2.2.2.2
  unfold loopsN
  rw [shift_length]
  refine filter_range_add _ _ _ _ (fun k hk => ?_) (fun i hi => ?_)
  · simp only [decide_eq_false_iff_not]
    rintro ⟨_, x, hx, r, hr, hle⟩
    rw [shift_jump c hk] at hx
    injection hx with hx
    subst hx
    have : r = ((k + 1 : Nat) : Int) := by simpa [nextJ] using hr
    omega
  · rw [decide_eq_decide, way_shift h hb, shift_at]
    constructor
    · rintro ⟨h1, x, hx, r, hr, hs⟩
      cases e : c.l[i]? with
      | none => rw [e] at hx; cases hx
      | some y =>
        rw [e] at hx
        simp only [Option.map_some, Option.some.injEq] at hx
        subst hx
        have hm := (Cd.may_parts h).2.1 y (List.mem_of_getElem? e)
        rw [shiftJ_next hm hn hb (by omega), List.mem_map] at hr
        obtain ⟨z, hz, rfl⟩ := hr
        exact ⟨h1, y, rfl, z, hz, by omega⟩
    · rintro ⟨h1, y, hy, r, hr, hs⟩
      have hm := (Cd.may_parts h).2.1 y (List.mem_of_getElem? hy)
      exact ⟨h1, shiftJ b y, by rw [hy]; rfl, r + b, by rw [shiftJ_next hm hn hb (by omega), List.mem_map]; exact ⟨r, hr, rfl⟩, by omega⟩
end
theorem mayJ_intro {R A L : Int} {x : Ji} (h0 : 0 ≤ x.op ∧ x.op ≤ 12) (h : ∀ j, j < 3 → InB R A L x j) (h3 : (110 : UInt8) ∈ kJ x.op → -1000000000000000000 < x.n ∧ x.n < 1000000000000000000) (h4 : (110 : UInt8) ∉ kJ x.op → x.n = 0) : mayJ R A L x = true := by
  rw [mayJ_yes h0 h]
  split
  · rename_i hm
    exact decide_eq_true (h3 hm)
  · rename_i hm
    exact decide_eq_true (h4 hm)
theorem mayJ_shift {R A : Int} {n : Nat} {x : Ji} (h : mayJ R A n x = true) (hn : n ≤ 4096) {b : Nat} (hb : b ≤ 4096) : mayJ R A ((b + n : Nat) : Int) (shiftJ b x) = true := by
  rw [shiftJ_eq h hn hb]
  obtain ⟨h0, h2, h3, h4⟩ := mayJ_parts h
  refine mayJ_intro h0 (fun j hj => ?_) h3 h4
  have i := h2 j hj
  obtain ⟨op, a, bb, c, m⟩ := x
  dsimp only at h0
  unfold InB at i ⊢
  match j, hj with
  | 0, _ => rcases op_cases h0.1 h0.2 with rfl | rfl | rfl | rfl | rfl | rfl | rfl | rfl | rfl | rfl | rfl | rfl | rfl <;> (simp [kJ, kindsJ, limJ, Ji.f] at i ⊢; omega)
  | 1, _ => rcases op_cases h0.1 h0.2 with rfl | rfl | rfl | rfl | rfl | rfl | rfl | rfl | rfl | rfl | rfl | rfl | rfl <;> (simp [kJ, kindsJ, limJ, Ji.f] at i ⊢; omega)
  | 2, _ => rcases op_cases h0.1 h0.2 with rfl | rfl | rfl | rfl | rfl | rfl | rfl | rfl | rfl | rfl | rfl | rfl | rfl <;> (simp [kJ, kindsJ, limJ, Ji.f] at i ⊢; omega)
theorem mayJ_jump {R A : Int} {n k : Nat} (h : k + 1 < n) : mayJ R A n ⟨10, ((k + 1 : Nat) : Int), 0, 0, 0⟩ = true := by
  refine mayJ_intro (by simp) (fun j hj => ?_) (fun h => absurd h (by simp [kJ, kindsJ])) (fun _ => rfl)
  unfold InB
  match j, hj with
  | 0, _ => simp [kJ, kindsJ, limJ, Ji.f]; omega
  | 1, _ => simp [kJ, kindsJ, limJ, Ji.f]
  | 2, _ => simp [kJ, kindsJ, limJ, Ji.f]
theorem mem_shift {c : Cd} {b : Nat} {x : Ji} (hx : x ∈ (c.shift b).l) : (∃ k, k < b ∧ x = ⟨10, ((k + 1 : Nat) : Int), 0, 0, 0⟩) ∨ ∃ y ∈ c.l, x = shiftJ b y := by
  rw [shift_l] at hx
  rcases List.mem_append.1 hx with hx | hx
  · left
    unfold jumpsJ at hx
    obtain ⟨k, hk, rfl⟩ := List.mem_map.1 hx
    exact ⟨k, List.mem_range.1 hk, rfl⟩
  · right
    obtain ⟨y, hy, rfl⟩ := List.mem_map.1 hx
    exact ⟨y, hy, rfl⟩
/-- code that is put further on may be -/
theorem shift_may {c : Cd} (h : c.may = true) {b : Nat} (hb : c.l.length + b ≤ 4096) : (c.shift b).may = true := by
  obtain ⟨⟨r0, r1, a0, a1, i0, i1, n0, n1⟩, h2, y, hy, hy2⟩ := Cd.may_parts h
  unfold Cd.may
  rw [Bool.and_eq_true, Bool.and_eq_true]
  refine ⟨⟨decide_eq_true ⟨r0, r1, a0, a1, i0, i1, by rw [shift_length]; omega, by rw [shift_length]; omega⟩, List.all_eq_true.2 fun x hx => ?_⟩, ?_⟩
  · rw [shift_length]
    show mayJ c.R c.A ((b + c.l.length : Nat) : Int) x = true
    rcases mem_shift hx with ⟨k, hk, rfl⟩ | ⟨z, hz, rfl⟩
    · exact mayJ_jump (by omega)
    · exact mayJ_shift (h2 z hz) n1 (by omega)
  · have : (c.shift b).l.getLast? = some (shiftJ b y) := by
      rw [List.getLast?_eq_getElem?, shift_length, show b + c.l.length - 1 = b + (c.l.length - 1) by omega, shift_at]
      rw [List.getLast?_eq_getElem?] at hy
      rw [hy]; rfl
    rw [this]
    show decide ((shiftJ b y).op = 0 ∨ (shiftJ b y).op = 10) = true
    rw [shiftJ_op]
    exact decide_eq_true hy2
theorem shiftJ_two {R A : Int} {n : Nat} {x : Ji} (h : mayJ R A n x = true) (hn : n ≤ 4096) {a b : Nat} (hab : n + (a + b) ≤ 4096) : shiftJ b (shiftJ a x) = shiftJ ((a + b : Nat) : Int) x := by
  have h1 := mayJ_shift h hn (b := a) (by omega)
  rw [shiftJ_eq h1 (by omega) (by omega), shiftJ_eq h hn (by omega), shiftJ_eq h hn (b := a + b) (by omega)]
  obtain ⟨op, a', bb, c, m⟩ := x
  dsimp only
  congr 1
  · split <;> omega
  · split <;> omega
/-- put further on twice -/
theorem shift_shift {c : Cd} (h : c.may = true) {a b : Nat} (hab : c.l.length + (a + b) ≤ 4096) : (c.shift a).shift b = c.shift ((a + b : Nat) : Int) := by
  obtain ⟨⟨r0, r1, a0, a1, i0, i1, n0, n1⟩, h2, _⟩ := Cd.may_parts h
  have e : ((c.shift a).shift b).l = (c.shift ((a + b : Nat) : Int)).l := by
    refine List.ext_getElem? fun k => ?_
    by_cases hk : k < b
    · rw [shift_jump _ hk, shift_jump _ (by omega)]
    · obtain ⟨m, rfl⟩ : ∃ m, k = b + m := ⟨k - b, by omega⟩
      rw [shift_at]
      by_cases hm : m < a
      · rw [shift_jump _ hm, shift_jump _ (by omega)]
        show some (shiftJ (b : Int) ⟨10, ((m + 1 : Nat) : Int), 0, 0, 0⟩) = _
        unfold shiftJ
        rw [if_pos rfl]
        show some (⟨10, wrap64 (((m + 1 : Nat) : Int) + (b : Int)), 0, 0, 0⟩ : Ji) = _
        rw [wrap_small (v := ((m + 1 : Nat) : Int) + (b : Int)) (by omega) (by omega), show ((m + 1 : Nat) : Int) + (b : Int) = ((b + m + 1 : Nat) : Int) by omega]
      · obtain ⟨i, rfl⟩ : ∃ i, m = a + i := ⟨m - a, by omega⟩
        rw [shift_at, show b + (a + i) = (a + b) + i by omega, shift_at, Option.map_map]
        cases e : c.l[i]? with
        | none => rfl
        | some x =>
          show some (shiftJ b (shiftJ a x)) = some (shiftJ _ x)
          rw [shiftJ_two (h2 x (List.mem_of_getElem? e)) n1 hab]
  show (⟨c.R, c.A, c.I, ((c.shift a).shift b).l⟩ : Cd) = ⟨c.R, c.A, c.I, (c.shift ((a + b : Nat) : Int)).l⟩
  rw [e]
theorem any_same {l : List Ji} {p q : Ji → Bool} (h : ∀ x ∈ l, p x = q x) : l.any p = l.any q := by
  induction l with
  | nil => rfl
  | cons x l ih => rw [List.any_cons, List.any_cons, h x (by simp), ih fun y hy => h y (by simp [hy])]
/-- whether code is checked, further on -/
theorem valid_shift {c : Cd} (h : c.may = true) {b : Nat} (hb : c.l.length + b ≤ 4096) : validE (c.shift b) = validE c := by
  obtain ⟨⟨r0, r1, a0, a1, i0, i1, n0, n1⟩, h2, _⟩ := Cd.may_parts h
  have hu := unset_shift h (b := b) (by omega)
  have hany : (c.shift b).l.any (fun x => (x.op == 7 || x.op == 9) && decide (x.a < (c.shift b).I)) = c.l.any (fun x => (x.op == 7 || x.op == 9) && decide (x.a < c.I)) := by
    show (c.shift b).l.any (fun x => (x.op == 7 || x.op == 9) && decide (x.a < c.I)) = _
    rw [shift_l, List.any_append]
    have e1 : (jumpsJ b).any (fun x => (x.op == 7 || x.op == 9) && decide (x.a < c.I)) = false := by
      rw [List.any_eq_false]
      intro x hx
      unfold jumpsJ at hx
      obtain ⟨k, _, rfl⟩ := List.mem_map.1 hx
      simp
    rw [e1, Bool.false_or, List.any_map]
    refine any_same fun x hx => ?_
    show (((shiftJ b x).op == 7 || (shiftJ b x).op == 9) && decide ((shiftJ b x).a < c.I)) = ((x.op == 7 || x.op == 9) && decide (x.a < c.I))
    rw [shiftJ_op]
    by_cases h79 : x.op = 7 ∨ x.op = 9
    · have : (shiftJ b x).a = x.a := by
        rw [shiftJ_eq (h2 x hx) n1 (by omega)]
        show (if x.op = 10 then _ else x.a) = x.a
        rw [if_neg (by omega)]
      rw [this]
    · have e : (x.op == 7 || x.op == 9) = false := by simp; omega
      rw [e]; rfl
  unfold validE
  rw [shift_may h hb, h, hu, hany]
  simp
end Go.Proofs.YtmnadieblhdcpaaDoor
/- Code without what is not reached: plain mathematics. Nothing is claimed of the program here. -/
namespace Go.Proofs.YtmnadieblhdcpaaDoor
open Go.RowKit

open Classical in
noncomputable def wayB (c : Cd) (i : Nat) : Bool := decide (Way c.l (-1) i)
theorem wayB_iff {c : Cd} {i : Nat} : wayB c i = true ↔ Way c.l (-1) i := by unfold wayB; simp only [decide_eq_true_eq]
/-- how many are reached ahead of one -/
noncomputable def rk (c : Cd) (i : Nat) : Nat := ((List.range i).filter (wayB c)).length
def zJi : Ji := ⟨0, 0, 0, 0, 0⟩
/-- an instruction with its place told anew -/
def renum (f : Nat → Nat) (x : Ji) : Ji := if x.op = 10 then { x with a := (f x.a.toNat : Nat) } else if x.op = 11 ∨ x.op = 12 then { x with c := (f x.c.toNat : Nat) } else x
noncomputable def idxT (c : Cd) : List Nat := (List.range c.l.length).filter (wayB c)
noncomputable def Cd.trim (c : Cd) : Cd := ⟨c.R, c.A, c.I, (idxT c).map fun i => renum (rk c) (c.l.getD i zJi)⟩
theorem filter_at (p : Nat → Bool) {n i : Nat} (hi : i < n) (hp : p i = true) : ((List.range n).filter p)[((List.range i).filter p).length]? = some i := by
  obtain ⟨m, rfl⟩ : ∃ m, n = i + (m + 1) := ⟨n - i - 1, by omega⟩
  rw [List.range_add, List.filter_append, List.getElem?_append_right (Nat.le_refl _), Nat.sub_self, List.range_succ_eq_map]
  rw [List.map_cons, List.filter_cons]
  simp [hp]
theorem filter_lt (p : Nat → Bool) {n i : Nat} (hi : i < n) (hp : p i = true) : ((List.range i).filter p).length < ((List.range n).filter p).length := by
  have := filter_at p hi hp
  exact (List.getElem?_eq_some_iff.1 this).1
section
variable {c : Cd}
theorem rk_zero : rk c 0 = 0 := rfl
theorem rk_succ {i : Nat} (h : wayB c i = true) : rk c (i + 1) = rk c i + 1 := by
  unfold rk
  rw [List.range_succ, List.filter_append, List.length_append]
  simp [h]
theorem rk_lt {i j : Nat} (h : i < j) (hw : wayB c i = true) : rk c i < rk c j := filter_lt _ h hw
theorem idx_at {i : Nat} (hi : i < c.l.length) (hw : wayB c i = true) : (idxT c)[rk c i]? = some i := filter_at _ hi hw
theorem trim_len : c.trim.l.length = rk c c.l.length := by
  show ((idxT c).map _).length = _
  rw [List.length_map]; rfl
theorem trim_at {i : Nat} {x : Ji} (hx : c.l[i]? = some x) (hw : wayB c i = true) : c.trim.l[rk c i]? = some (renum (rk c) x) := by
  have hi := (List.getElem?_eq_some_iff.1 hx).1
  show ((idxT c).map _)[rk c i]? = _
  rw [List.getElem?_map, idx_at hi hw, Option.map_some, List.getD_eq_getElem?_getD, hx]
  rfl
theorem trim_of {k : Nat} {y : Ji} (hy : c.trim.l[k]? = some y) : ∃ i x, c.l[i]? = some x ∧ wayB c i = true ∧ k = rk c i ∧ y = renum (rk c) x := by
  have hk : k < (idxT c).length := by
    have := (List.getElem?_eq_some_iff.1 hy).1
    rw [trim_len] at this; exact this
  obtain ⟨i, hi⟩ : ∃ i, (idxT c)[k]? = some i := ⟨_, List.getElem?_eq_getElem hk⟩
  have hm := List.mem_of_getElem? hi
  unfold idxT at hm
  rw [List.mem_filter, List.mem_range] at hm
  have hat := idx_at hm.1 hm.2
  have hki : k = rk c i := by
    have hnd : (idxT c).Pairwise (· < ·) := List.Pairwise.sublist List.filter_sublist List.pairwise_lt_range
    obtain ⟨hk1, e1⟩ := List.getElem?_eq_some_iff.1 hi
    obtain ⟨hk2, e2⟩ := List.getElem?_eq_some_iff.1 hat
    have hp := List.pairwise_iff_getElem.1 hnd
    rcases Nat.lt_trichotomy k (rk c i) with hlt | heq | hgt
    · have := hp _ _ hk1 hk2 hlt; omega
    · exact heq
    · have := hp _ _ hk2 hk1 hgt; omega
  obtain ⟨x, hx⟩ : ∃ x, c.l[i]? = some x := ⟨_, List.getElem?_eq_getElem hm.1⟩
  subst hki
  rw [trim_at hx hm.2] at hy
  injection hy with hy
  exact ⟨i, x, hx, hm.2, rfl, hy.symm⟩
theorem renum_reads (f : Nat → Nat) (x : Ji) (h : 0 ≤ x.op ∧ x.op ≤ 12) : readsJ (renum f x) = readsJ x ∧ setsJ (renum f x) = setsJ x ∧ writesJ (renum f x) = writesJ x ∧ (renum f x).op = x.op ∧ (renum f x).n = x.n := by
  obtain ⟨op, a, b, c, n⟩ := x
  dsimp only at h
  rcases op_cases h.1 h.2 with rfl | rfl | rfl | rfl | rfl | rfl | rfl | rfl | rfl | rfl | rfl | rfl | rfl <;> exact ⟨rfl, rfl, rfl, rfl, rfl⟩
end
section
variable {c : Cd} (h : c.may = true)
include h
theorem next_trim {i : Nat} {x : Ji} (hx : c.l[i]? = some x) (hw : wayB c i = true) : nextJ (renum (rk c) x) (rk c i : Nat) = (nextJ x i).map fun z => ((rk c z.toNat : Nat) : Int) := by
  obtain ⟨⟨_, _, _, _, _, _, n0, n1⟩, h2, _⟩ := Cd.may_parts h
  have hm := h2 x (List.mem_of_getElem? hx)
  have hi := (List.getElem?_eq_some_iff.1 hx).1
  have hr : rk c i ≤ i := by
    unfold rk
    have := List.length_filter_le (wayB c) (List.range i)
    rwa [List.length_range] at this
  have w1 : wrap64 (((rk c i : Nat) : Int) + 1) = ((rk c i : Nat) : Int) + 1 := wrap_small (by omega) (by omega)
  have w2 : wrap64 ((i : Int) + 1) = (i : Int) + 1 := wrap_small (by omega) (by omega)
  have hs := rk_succ hw
  have hs2 : ((rk c i : Nat) : Int) + 1 = ((rk c ((i : Int) + 1).toNat : Nat) : Int) := by rw [show ((i : Int) + 1).toNat = i + 1 by omega, hs]; omega
  obtain ⟨⟨h0, h1⟩, _⟩ := mayJ_parts hm
  obtain ⟨op, a, b, cc, m⟩ := x
  dsimp only at h0 h1
  unfold nextJ
  rw [w1, w2, hs2]
  rcases op_cases h0 h1 with rfl | rfl | rfl | rfl | rfl | rfl | rfl | rfl | rfl | rfl | rfl | rfl | rfl <;> rfl
theorem way_trim {but : Int} {k : Nat} : Way c.trim.l but k ↔ ∃ i, Way c.l but i ∧ k = rk c i := by
  constructor
  · intro hw
    induction hw with
    | start => exact ⟨0, .start, rfl⟩
    | @step j k y hj hy hs hk ih =>
      obtain ⟨i, hi, hji⟩ := ih
      obtain ⟨i', x, hx, hwb, hji', rfl⟩ := trim_of hy
      have hib := wayB_iff.2 (Way.all_ h hi)
      have hii : i = i' := by
        rcases Nat.lt_trichotomy i i' with hlt | heq | hgt
        · have := rk_lt (c := c) hlt hib; omega
        · exact heq
        · have := rk_lt (c := c) hgt hwb; omega
      subst hii
      have hm := (Cd.may_parts h).2.1 x (List.mem_of_getElem? hx)
      obtain ⟨_, r2, r3, _⟩ := renum_reads (rk c) x (mayJ_parts hm).1
      rw [r2, r3] at hs
      rw [hji, next_trim h hx hwb, List.mem_map] at hk
      obtain ⟨z, hz, hzk⟩ := hk
      have hzr := Cd.next_in h hx z hz
      refine ⟨z.toNat, .step hi hx hs (by rw [Int.toNat_of_nonneg hzr.1]; exact hz), by omega⟩
  · rintro ⟨i, hi, rfl⟩
    induction hi with
    | start => exact .start
    | @step j k x hj hx hs hk ih =>
      have hib := wayB_iff.2 (Way.all_ h hj)
      have hm := (Cd.may_parts h).2.1 x (List.mem_of_getElem? hx)
      obtain ⟨_, r2, r3, _⟩ := renum_reads (rk c) x (mayJ_parts hm).1
      refine .step ih (trim_at hx hib) (by rw [r2, r3]; exact hs) ?_
      rw [next_trim h hx hib, List.mem_map]
      exact ⟨(k : Int), hk, by rw [Int.toNat_natCast]⟩
theorem way_trim_at {but : Int} {i : Nat} (hw : wayB c i = true) : Way c.trim.l but (rk c i) ↔ Way c.l but i := by
  rw [way_trim h]
  constructor
  · rintro ⟨j, hj, e⟩
    have hjb := wayB_iff.2 (Way.all_ h hj)
    rcases Nat.lt_trichotomy i j with hlt | heq | hgt
    · have := rk_lt (c := c) hlt hw; omega
    · rw [heq]; exact hj
    · have := rk_lt (c := c) hgt hjb; omega
  · exact fun hi => ⟨i, hi, rfl⟩
theorem set_trim {i : Nat} (hw : wayB c i = true) : setN c.trim (rk c i) = setN c i := by
  unfold setN
  show ((List.range c.R.toNat).filter _).map _ = _
  congr 1
  refine List.filter_congr fun n _ => ?_
  rw [decide_eq_decide, way_trim_at h hw, way_trim_at h hw]
/-- all of it is reached -/
theorem reach_trim {k : Nat} (hk : k < c.trim.l.length) : Way c.trim.l (-1) k := by
  obtain ⟨y, hy⟩ : ∃ y, c.trim.l[k]? = some y := ⟨_, List.getElem?_eq_getElem hk⟩
  obtain ⟨i, x, hx, hwb, rfl, rfl⟩ := trim_of hy
  exact (way_trim_at h hwb).2 (wayB_iff.1 hwb)
omit h in
theorem rk_in {z : Int} (h0 : 0 ≤ z) (h1 : z < c.l.length) (hw : wayB c z.toNat = true) : rk c z.toNat < c.trim.l.length := by
  rw [trim_len]
  exact rk_lt (by omega) hw
theorem next_way {i : Nat} {x : Ji} (hx : c.l[i]? = some x) (hw : wayB c i = true) {z : Int} (hz : z ∈ nextJ x i) : wayB c z.toNat = true := by
  have hzr := Cd.next_in h hx z hz
  exact wayB_iff.2 (Way.on h (wayB_iff.1 hw) hx (by rw [Int.toNat_of_nonneg hzr.1]; exact hz))
theorem mayJ_trim {i : Nat} {x : Ji} (hx : c.l[i]? = some x) (hw : wayB c i = true) : mayJ c.R c.A c.trim.l.length (renum (rk c) x) = true := by
  have hm := (Cd.may_parts h).2.1 x (List.mem_of_getElem? hx)
  have hnx := fun z hz => next_way h hx hw (z := z) hz
  have hnr := Cd.next_in h hx
  have hrk := fun z h0 h1 hw => rk_in (c := c) (z := z) h0 h1 hw
  obtain ⟨h0, h2, h3, h4⟩ := mayJ_parts hm
  obtain ⟨_, _, _, ro, rn⟩ := renum_reads (rk c) x h0
  refine mayJ_intro (by rw [ro]; exact h0) (fun j hj => ?_) (by rw [ro, rn]; exact h3) (by rw [ro, rn]; exact h4)
  have q := h2 j hj
  obtain ⟨op, a, b, cc, m⟩ := x
  dsimp only at h0
  unfold InB at q ⊢
  have key10 : op = 10 → (rk c a.toNat : Nat) < c.trim.l.length := fun e => by
    subst e
    have hz : a ∈ nextJ ⟨10, a, b, cc, m⟩ (i : Int) := by simp [nextJ]
    exact hrk a (hnr a hz).1 (hnr a hz).2 (hnx a hz)
  have key11 : op = 11 ∨ op = 12 → (rk c cc.toNat : Nat) < c.trim.l.length := fun e => by
    have hz : cc ∈ nextJ ⟨op, a, b, cc, m⟩ (i : Int) := by rcases e with rfl | rfl <;> simp [nextJ]
    exact hrk cc (hnr cc hz).1 (hnr cc hz).2 (hnx cc hz)
  match j, hj with
  | 0, _ => rcases op_cases h0.1 h0.2 with rfl | rfl | rfl | rfl | rfl | rfl | rfl | rfl | rfl | rfl | rfl | rfl | rfl <;> (simp [kJ, kindsJ, limJ, Ji.f, renum] at q key10 key11 ⊢; try omega)
  | 1, _ => rcases op_cases h0.1 h0.2 with rfl | rfl | rfl | rfl | rfl | rfl | rfl | rfl | rfl | rfl | rfl | rfl | rfl <;> (simp [kJ, kindsJ, limJ, Ji.f, renum] at q key10 key11 ⊢; try omega)
  | 2, _ => rcases op_cases h0.1 h0.2 with rfl | rfl | rfl | rfl | rfl | rfl | rfl | rfl | rfl | rfl | rfl | rfl | rfl <;> (simp [kJ, kindsJ, limJ, Ji.f, renum] at q key10 key11 ⊢; try omega)
/-- trimmed, code may be -/
theorem trim_may : c.trim.may = true := by
  obtain ⟨⟨r0, r1, a0, a1, i0, i1, n0, n1⟩, h2, _⟩ := Cd.may_parts h
  have hw0 : wayB c 0 = true := wayB_iff.2 .start
  have hpos : 1 ≤ c.trim.l.length := by
    rw [trim_len]
    have := rk_lt (c := c) (i := 0) (j := c.l.length) (by omega) hw0
    omega
  have hle : c.trim.l.length ≤ c.l.length := by
    rw [trim_len]
    unfold rk
    have := List.length_filter_le (wayB c) (List.range c.l.length)
    rwa [List.length_range] at this
  unfold Cd.may
  rw [Bool.and_eq_true, Bool.and_eq_true]
  refine ⟨⟨decide_eq_true ⟨r0, r1, a0, a1, i0, i1, hpos, by omega⟩, List.all_eq_true.2 fun y hy => ?_⟩, ?_⟩
  · obtain ⟨k, hk⟩ := List.mem_iff_getElem?.1 hy
    obtain ⟨i, x, hx, hwb, rfl, rfl⟩ := trim_of hk
    exact mayJ_trim h hx hwb
  · obtain ⟨y, hy⟩ : ∃ y, c.trim.l[c.trim.l.length - 1]? = some y := ⟨_, List.getElem?_eq_getElem (by omega)⟩
    rw [List.getLast?_eq_getElem?, hy]
    obtain ⟨i, x, hx, hwb, hk, rfl⟩ := trim_of hy
    have hm := h2 x (List.mem_of_getElem? hx)
    obtain ⟨h0, _⟩ := mayJ_parts hm
    obtain ⟨_, _, _, ro, _⟩ := renum_reads (rk c) x h0
    show decide ((renum (rk c) x).op = 0 ∨ (renum (rk c) x).op = 10) = true
    rw [ro]
    refine decide_eq_true ?_
    apply Classical.byContradiction
    intro hn
    have hi := (List.getElem?_eq_some_iff.1 hx).1
    have hz : ((i : Int) + 1) ∈ nextJ x i := by
      have w2 : wrap64 ((i : Int) + 1) = (i : Int) + 1 := wrap_small (by omega) (by omega)
      unfold nextJ
      rw [w2, if_neg (by omega), if_neg (by omega)]
      split <;> simp
    have hw1 := next_way h hx hwb hz
    have hr1 := Cd.next_in h hx _ hz
    rw [show ((i : Int) + 1).toNat = i + 1 by omega] at hw1
    have e1 := rk_succ hwb
    have e2 := rk_lt (c := c) (i := i + 1) (j := c.l.length) (by omega) hw1
    rw [trim_len] at hk
    omega
theorem trim_again : c.trim.trim = c.trim := by
  have hall : ∀ k, k < c.trim.l.length → wayB c.trim k = true := fun k hk => wayB_iff.2 (reach_trim h hk)
  have hidx : idxT c.trim = List.range c.trim.l.length := by
    unfold idxT
    exact List.filter_eq_self.2 fun k hk => hall k (List.mem_range.1 hk)
  have hrk : ∀ k, k ≤ c.trim.l.length → rk c.trim k = k := by
    intro k hk
    unfold rk
    rw [List.filter_eq_self.2 fun j hj => hall j (by have := List.mem_range.1 hj; omega), List.length_range]
  have hmay := trim_may h
  have : c.trim.trim.l = c.trim.l := by
    show (idxT c.trim).map _ = _
    rw [hidx]
    refine List.ext_getElem? fun k => ?_
    rw [List.getElem?_map]
    by_cases hk : k < c.trim.l.length
    · obtain ⟨y, hy⟩ : ∃ y, c.trim.l[k]? = some y := ⟨_, List.getElem?_eq_getElem hk⟩
      rw [List.getElem?_range hk, Option.map_some, List.getD_eq_getElem?_getD, hy]
      show some (renum (rk c.trim) y) = some y
      congr 1
      have hnr := Cd.next_in hmay hy
      obtain ⟨op, a, b, cc, m⟩ := y
      unfold renum
      dsimp only
      split
      · rename_i e
        subst e
        have hz : a ∈ nextJ ⟨10, a, b, cc, m⟩ (k : Int) := by simp [nextJ]
        have := hnr a hz
        rw [hrk a.toNat (by omega), Int.toNat_of_nonneg this.1]
      · split
        · rename_i e
          have hz : cc ∈ nextJ ⟨op, a, b, cc, m⟩ (k : Int) := by rcases e with rfl | rfl <;> simp [nextJ]
          have := hnr cc hz
          rw [hrk cc.toNat (by omega), Int.toNat_of_nonneg this.1]
        · rfl
    · rw [List.getElem?_eq_none (by simpa using hk), List.getElem?_eq_none (by omega)]
      rfl
  show (⟨c.R, c.A, c.I, c.trim.trim.l⟩ : Cd) = ⟨c.R, c.A, c.I, c.trim.l⟩
  rw [this]
/-- trimmed, code is checked, if it was -/
theorem trim_valid (hv : validE c = 0) : validE c.trim = 0 := by
  unfold validE at hv ⊢
  rw [h] at hv
  rw [trim_may h]
  simp only [Bool.true_eq_false, if_false] at hv ⊢
  split at hv
  · cases hv
  · rename_i hu
    have hu : unsetN c = [] := Classical.not_not.1 hu
    split at hv
    · cases hv
    · rename_i ha
      have hu2 : unsetN c.trim = [] := by
        unfold unsetN
        refine List.filter_eq_nil_iff.2 fun k _ => ?_
        simp only [decide_eq_true_eq]
        rintro ⟨hk, y, hy, r, hr, hrs⟩
        obtain ⟨i, x, hx, hwb, rfl, rfl⟩ := trim_of hy
        have hm := (Cd.may_parts h).2.1 x (List.mem_of_getElem? hx)
        rw [(renum_reads (rk c) x (mayJ_parts hm).1).1] at hr
        rw [set_trim h hwb] at hrs
        have : i ∈ unsetN c := by
          unfold unsetN
          rw [List.mem_filter, List.mem_range]
          exact ⟨(List.getElem?_eq_some_iff.1 hx).1, by simp only [decide_eq_true_eq]; exact ⟨wayB_iff.1 hwb, x, hx, r, hr, hrs⟩⟩
        rw [hu] at this
        cases this
      rw [if_neg (by rw [hu2]; simp), if_neg]
      intro hc
      apply ha
      rw [List.any_eq_true] at hc ⊢
      obtain ⟨y, hy, hp⟩ := hc
      obtain ⟨k, hk⟩ := List.mem_iff_getElem?.1 hy
      obtain ⟨i, x, hx, hwb, rfl, rfl⟩ := trim_of hk
      have hm := (Cd.may_parts h).2.1 x (List.mem_of_getElem? hx)
      obtain ⟨_, _, _, ro, _⟩ := renum_reads (rk c) x (mayJ_parts hm).1
      refine ⟨x, List.mem_of_getElem? hx, ?_⟩
      rw [ro] at hp
      rw [Bool.and_eq_true] at hp ⊢
      refine ⟨hp.1, ?_⟩
      have h79 : x.op = 7 ∨ x.op = 9 := by simpa using hp.1
      have : (renum (rk c) x).a = x.a := by
        unfold renum
        rw [if_neg (by omega), if_neg (by omega)]
      rw [this] at hp
      exact hp.2
end
end Go.Proofs.YtmnadieblhdcpaaDoor
/- What the document's valid tells, as calls' ends; which registers are surely set, register by register. -/
namespace Go.Proofs.YtmnadieblhdcpaaDoor
open Go.RowKit

noncomputable def reachC (c : Cd) : List Bool := if c.may then reachB c (-1) else []
noncomputable def setC (c : Cd) : List (List Int) := if c.may then setsN c else []
noncomputable def unsetC (c : Cd) : List Int := if c.may then (unsetN c).map (fun n : Nat => (n : Int)) else []
noncomputable def loopsC (c : Cd) : List Int := if c.may then (loopsN c).map (fun n : Nat => (n : Int)) else []
def ReachP (q : Cq) (w : World) (e : Ending) (w' : World) : Prop := ∃ A n c, e = .returned (.tuple #[.slice A n c, .int .i64 q.cd.e]) ∧ Bools w' w'.heap.size A n (reachC q.cd) ∧ Below w.heap.size w w'
def SetP (q : Cq) (w : World) (e : Ending) (w' : World) : Prop := ∃ A n c, e = .returned (.tuple #[.slice A n c, .int .i64 q.cd.e]) ∧ IntsLL w' w'.heap.size A n (setC q.cd) ∧ n ≤ c ∧ Below w.heap.size w w'
def UnsetP (q : Cq) (w : World) (e : Ending) (w' : World) : Prop := ∃ A n c, e = .returned (.tuple #[.slice A n c, .int .i64 q.cd.e]) ∧ Ints w' w'.heap.size A n (unsetC q.cd) ∧ Below w.heap.size w w'
def LoopsP (q : Cq) (w : World) (e : Ending) (w' : World) : Prop := ∃ A n c, e = .returned (.tuple #[.slice A n c, .int .i64 q.cd.e]) ∧ Ints w' w'.heap.size A n (loopsC q.cd) ∧ Below w.heap.size w w'
def ValidP (q : Cq) (w : World) (e : Ending) (w' : World) : Prop := e = .returned (.int .i64 (validE q.cd)) ∧ Below w.heap.size w w'
theorem Cd.e_yes {c : Cd} (h : c.may = true) : c.e = 0 := by unfold Cd.e; rw [h]; rfl
theorem Cd.e_no {c : Cd} (h : c.may = false) : c.e = 1 := by unfold Cd.e; rw [h]; rfl
open Classical in
/-- those of the first k registers that are surely set -/
noncomputable def setK (c : Cd) (k : Nat) (i : Nat) : List Int := ((List.range k).filter fun (n : Nat) => decide (Way c.l (-1) i ∧ ¬ Way c.l (n : Int) i)).map fun (n : Nat) => (n : Int)
theorem setK_all (c : Cd) (i : Nat) : setK c c.R.toNat i = setN c i := rfl
theorem setK_zero (c : Cd) (i : Nat) : setK c 0 i = [] := rfl
theorem setK_yes {c : Cd} {k i : Nat} (h1 : Way c.l (-1) i) (h2 : ¬ Way c.l (k : Int) i) : setK c (k + 1) i = setK c k i ++ [(k : Int)] := by
  unfold setK
  rw [List.range_succ, List.filter_append, List.map_append]
  congr 1
  rw [List.filter_cons_of_pos (by simpa using ⟨h1, h2⟩)]; rfl
theorem setK_no {c : Cd} {k i : Nat} (h : ¬ (Way c.l (-1) i ∧ ¬ Way c.l (k : Int) i)) : setK c (k + 1) i = setK c k i := by
  unfold setK
  rw [List.range_succ, List.filter_append, List.map_append, List.filter_cons_of_neg (by simpa using h)]
  simp
theorem setK_len (c : Cd) (k i : Nat) : (setK c k i).length ≤ k := by
  unfold setK
  rw [List.length_map]
  refine Nat.le_trans (List.length_filter_le _ _) ?_
  simp
theorem setK_fit (c : Cd) {k i : Nat} (hk : k ≤ 100000) : ∀ v ∈ setK c k i, -9223372036854775808 ≤ v ∧ v ≤ 9223372036854775807 := by
  intro v hv
  unfold setK at hv
  obtain ⟨m, hm, rfl⟩ := List.mem_map.1 hv
  have := List.mem_range.1 (List.mem_filter.1 hm).1
  omega
/-- the lists ahead of instruction i have what is told of register k, too -/
structure SetI (c : Cd) (k i : Nat) (rs : List RowN) : Prop where
  len : rs.length = c.l.length
  at_ : ∀ (j : Nat) (r : RowN), rs[j]? = some r → r.L = setK c (if j < i then k + 1 else k) j
theorem SetI.start (c : Cd) {n : Nat} (hn : c.l.length = n) : SetI c 0 0 (List.replicate n ⟨none, 0, []⟩) :=
  ⟨by simp [hn], fun j r hr => by rw [(List.mem_replicate.1 (List.mem_of_getElem? hr)).2, if_neg (by omega)]; rfl⟩
theorem SetI.next {c : Cd} {k n : Nat} {rs : List RowN} (hn : c.l.length = n) (h : SetI c k n rs) : SetI c (k + 1) 0 rs := by
  refine ⟨h.len, fun j r hr => ?_⟩
  have hj : j < n := by have := (List.getElem?_eq_some_iff.1 hr).1; rw [h.len, hn] at this; exact this
  rw [if_neg (by omega), h.at_ j r hr, if_pos hj]
theorem SetI.skip {c : Cd} {k i : Nat} {rs : List RowN} (h : SetI c k i rs) (hw : ¬ (Way c.l (-1) i ∧ ¬ Way c.l (k : Int) i)) : SetI c k (i + 1) rs := by
  refine ⟨h.len, fun j r hr => ?_⟩
  rw [h.at_ j r hr]
  by_cases e : j = i
  · subst e
    rw [if_neg (by omega), if_pos (by omega), setK_no hw]
  · by_cases h2 : j < i
    · rw [if_pos h2, if_pos (by omega)]
    · rw [if_neg h2, if_neg (by omega)]
theorem SetI.put {c : Cd} {k i c4 : Nat} {A4 : Option Addr} {r : RowN} {rs : List RowN} (h : SetI c k i rs) (hr : rs[i]? = some r) (h1 : Way c.l (-1) i) (h2 : ¬ Way c.l (k : Int) i) : SetI c k (i + 1) (rs.set i ⟨A4, c4, r.L ++ [(k : Int)]⟩) := by
  refine ⟨by rw [List.length_set]; exact h.len, fun j s hs => ?_⟩
  by_cases e : i = j
  · subst e
    rw [List.getElem?_set_self (List.getElem?_eq_some_iff.1 hr).1] at hs
    injection hs with hs
    subst hs
    show r.L ++ [(k : Int)] = _
    rw [if_pos (by omega), setK_yes h1 h2, h.at_ i r hr, if_neg (by omega)]
  · rw [List.getElem?_set_ne e] at hs
    rw [h.at_ j s hs]
    by_cases h3 : j < i
    · rw [if_pos h3, if_pos (by omega)]
    · rw [if_neg h3, if_neg (by omega)]
theorem SetI.done {c : Cd} {rs : List RowN} (h : SetI c c.R.toNat 0 rs) : rs.map (·.L) = setsN c := by
  apply List.ext_getElem?
  intro j
  unfold setsN
  by_cases hj : j < c.l.length
  · have hjr : j < rs.length := by rw [h.len]; exact hj
    rw [List.getElem?_map, List.getElem?_map, List.getElem?_range hj, List.getElem?_eq_getElem hjr]
    simp only [Option.map_some, Option.some.injEq]
    rw [h.at_ j _ (List.getElem?_eq_getElem hjr), if_neg (by omega)]
    exact setK_all c j
  · rw [List.getElem?_eq_none (by simp [h.len]; omega), List.getElem?_eq_none (by simp; omega)]
open Classical in
theorem reachB_at {c : Cd} {but : Int} {i : Nat} (hi : i < c.l.length) : (reachB c but)[i]? = some (decide (Way c.l but i)) := by
  unfold reachB
  rw [List.getElem?_map, List.getElem?_range hi]; rfl
theorem reachB_len (c : Cd) (but : Int) : (reachB c but).length = c.l.length := by simp [reachB]
theorem reachB_iff {c : Cd} {but : Int} {i : Nat} {v : Bool} (h : (reachB c but)[i]? = some v) : v = true ↔ Way c.l but i := by
  have hi : i < c.l.length := by have := (List.getElem?_eq_some_iff.1 h).1; rwa [reachB_len] at this
  rw [reachB_at hi] at h
  injection h with h
  rw [← h]
  simp
theorem reachB_get {c : Cd} (but : Int) {i : Nat} (hi : i < c.l.length) : ∃ v, (reachB c but)[i]? = some v := ⟨_, reachB_at hi⟩
end Go.Proofs.YtmnadieblhdcpaaDoor
/- The document's Reach, and Set. -/
namespace Go.Proofs.YtmnadieblhdcpaaDoor
open Go.RowKit

set_option maxRecDepth 100000 in
set_option maxHeartbeats 4000000 in
theorem refReach15_any (q : Cq) (w : World) (hq : q.In w) : Calls Tryd.prog 11 #[q.val] w (ReachP q w) := by
  have HQ := Lib.hid hq
  obtain ⟨R, A, I, P, n, c, l⟩ := q
  have HLN : Hid (l.length = n) := hq.len
  obtain ⟨W0, hW0⟩ : ∃ W, w.alloc (Cq.obj ⟨R, A, I, P, n, c, l⟩) = W := ⟨_, rfl⟩
  have HB0 : Hid (Below w.heap.size w W0) := by rw [← hW0]; exact lvBelow w _
  have HX0 : Hid (W0.heap[w.heap.size]? = some (Cq.obj ⟨R, A, I, P, n, c, l⟩)) := by rw [← hW0]; exact heap_alloc_new w _
  have hC := refCheck14_any ⟨R, A, I, P, n, c, l⟩ W0 (hq.on HB0.out)
  unfold CkP at hC
  obtain ⟨k0, k1, k2, k3, _⟩ := lvCells HX0.out
  clear hq
  cases hm : Cd.may (Cq.cd ⟨R, A, I, P, n, c, l⟩) with
  | false =>
    have HE := Lib.hid (Cd.e_no hm)
    have HD : Hid (reachC (Cq.cd ⟨R, A, I, P, n, c, l⟩) = []) := by unfold Hid reachC; rw [hm]; rfl
    rw [HE.out] at hC
    clear hm
    go_enter Tryd.func11, Tryd.ntmps11
    go_wp2_with fail
    try rw [hW0]
    refine hC.mono ?_
    rintro e w1 ⟨rfl, hb⟩
    have HB1 := Lib.hid (HB0.out.trans (hb.mono HB0.out.size))
    clear hb hC k0 k1 k2 k3
    go_wp2_with fail
    go_ret2
    exact ⟨none, 0, 0, by rw [HE.out]; rfl, by rw [HD.out]; exact Bools.nil_, HB1.out⟩
  | true =>
    have HE := Lib.hid (Cd.e_yes hm)
    have HD : Hid (reachC (Cq.cd ⟨R, A, I, P, n, c, l⟩) = reachB (Cq.cd ⟨R, A, I, P, n, c, l⟩) (-1)) := by unfold Hid reachC; rw [hm]; rfl
    have HM := Lib.hid hm
    rw [HE.out] at hC
    clear hm
    go_enter Tryd.func11, Tryd.ntmps11
    go_wp2_with fail
    try rw [hW0]
    refine hC.mono ?_
    rintro e w1 ⟨rfl, hb⟩
    have HB1 := Lib.hid (HB0.out.trans (hb.mono HB0.out.size))
    have HX1 := Lib.hid (keep_b hb HX0.out)
    clear hb hC k0 k1 k2 k3
    obtain ⟨k0, k1, k2, k3, _⟩ := lvCells HX1.out
    go_wp2_with fail
    refine (refReachI_any ⟨R, A, I, P, n, c, l⟩ (-1) w1 (HQ.out.on HB1.out) HM.out).mono ?_
    rintro e w2 ⟨g, rfl, _, hO, hb⟩
    have HB2 := Lib.hid (HB1.out.trans (hb.mono HB1.out.size))
    have HO := Lib.hid hO
    clear hb hO k0 k1 k2 k3
    go_wp2_with fail
    go_ret2
    exact ⟨some ⟨g, 0, none⟩, n, n, by rw [HE.out]; rfl, by rw [HD.out]; exact HO.out.bools ((reachB_len _ _).trans HLN.out), HB2.out⟩
/-- where the variables of Set lie -/
structure SetW (w w1 : World) (q : Cq) (g : Nat) (W : World) (rs : List RowN) : Prop where
  bel : Below w.heap.size w W
  bel1 : Below w1.heap.size w1 W
  lt : w.heap.size < w1.heap.size
  bx : W.heap[w.heap.size]? = some q.obj
  rows : RowsN W w1.heap.size g rs
theorem SetW.on {w w1 W W' : World} {q : Cq} {g : Nat} {rs : List RowN} (h : SetW w w1 q g W rs) (hb : Below W.heap.size W W') : SetW w w1 q g W' rs :=
  ⟨h.bel.trans (hb.mono h.bel.size), h.bel1.trans (hb.mono h.bel1.size), h.lt, keep_b hb h.bx, h.rows.below hb (Nat.le_refl _)⟩
theorem SetW.put {w w1 W w4 : World} {q : Cq} {g i c4 p : Nat} {A4 : Option Addr} {rs : List RowN} {r : RowN} {v : Int} (h : SetW w w1 q g W rs) (hr : rs[i]? = some r) (hp : r.L.length = p) (hO : OwnI w4 w1.heap.size 3 A4 c4 (r.L ++ [v])) (hG : W.grownBy w4 (Value.slice r.A p r.c).ownBlock) (hl : ∀ b, A4 = some ⟨b, 0, none⟩ → r.A = some ⟨b, 0, none⟩ ∨ W.heap.size ≤ b) :
    SetW w w1 q g (w4.setCell ⟨g, i, none⟩ (.slice A4 (p + 1) c4)) (rs.set i ⟨A4, c4, r.L ++ [v]⟩) ∧ w4.cell? ⟨g, i, none⟩ = some (.slice r.A p r.c) ∧ w4.frozen? ⟨g, i, none⟩ = false ∧ (∀ bw bs, BoB W bw bs → BoB (w4.setCell ⟨g, i, none⟩ (.slice A4 (p + 1) c4)) bw bs) := by
  subst hp
  obtain ⟨h1, h2, h3, h4, h5⟩ := h.rows.put hr hO hG hl
  have := h.lt
  exact ⟨⟨h4 _ _ (by omega) h.bel, h4 _ _ (Nat.le_refl _) h.bel1, h.lt, h5 _ _ _ h.bx (by decide) (by decide), h1⟩, h2, h3, fun bw bs hb => h5 _ _ _ hb (by decide) (by decide)⟩
set_option maxRecDepth 100000 in
set_option maxHeartbeats 8000000 in
theorem refSet15_any (q : Cq) (w : World) (hq : q.In w) : Calls Tryd.prog 13 #[q.val] w (SetP q w) := by
  have HQ := Lib.hid hq
  obtain ⟨R, A, I, P, n, c, l⟩ := q
  have HLN : Hid (l.length = n) := hq.len
  obtain ⟨W0, hW0⟩ : ∃ W, w.alloc (Cq.obj ⟨R, A, I, P, n, c, l⟩) = W := ⟨_, rfl⟩
  have HB0 : Hid (Below w.heap.size w W0) := by rw [← hW0]; exact lvBelow w _
  have HX0 : Hid (W0.heap[w.heap.size]? = some (Cq.obj ⟨R, A, I, P, n, c, l⟩)) := by rw [← hW0]; exact heap_alloc_new w _
  have hC := refReach15_any ⟨R, A, I, P, n, c, l⟩ W0 (hq.on HB0.out)
  unfold ReachP at hC
  obtain ⟨k0, k1, k2, k3, _⟩ := lvCells HX0.out
  clear hq
  cases hm : Cd.may (Cq.cd ⟨R, A, I, P, n, c, l⟩) with
  | false =>
    have HE := Lib.hid (Cd.e_no hm)
    have HD : Hid (setC (Cq.cd ⟨R, A, I, P, n, c, l⟩) = []) := by unfold Hid setC; rw [hm]; rfl
    rw [HE.out] at hC
    clear hm
    go_enter Tryd.func13, Tryd.ntmps13
    go_wp2_with fail
    try rw [hW0]
    refine hC.mono ?_
    rintro e w1 ⟨A1, n1, c1, rfl, _, hb⟩
    have HB1 := Lib.hid (HB0.out.trans (hb.mono HB0.out.size))
    clear hb hC k0 k1 k2 k3
    go_wp2_with fail
    go_ret2
    exact ⟨none, 0, 0, by rw [HE.out]; rfl, by rw [HD.out]; exact IntsLL.nil_ _ _ _, Nat.le_refl _, HB1.out⟩
  | true =>
    have HE := Lib.hid (Cd.e_yes hm)
    have HD : Hid (setC (Cq.cd ⟨R, A, I, P, n, c, l⟩) = setsN (Cq.cd ⟨R, A, I, P, n, c, l⟩)) := by unfold Hid setC; rw [hm]; rfl
    have HRC : Hid (reachC (Cq.cd ⟨R, A, I, P, n, c, l⟩) = reachB (Cq.cd ⟨R, A, I, P, n, c, l⟩) (-1)) := by unfold Hid reachC; rw [hm]; rfl
    have HM := Lib.hid hm
    obtain ⟨⟨hR0, hR1, _, _, _, _, hl0, hl1⟩, _⟩ := Cd.may_parts hm
    have hR0 : 0 ≤ R := hR0
    have hR1 : R ≤ 128 := hR1
    have hl0 : 1 ≤ l.length := hl0
    have hl1 : l.length ≤ 4096 := hl1
    rw [HLN.out] at hl0 hl1
    obtain ⟨K, rfl⟩ : ∃ K : Nat, R = (K : Int) := ⟨R.toNat, by omega⟩
    obtain ⟨i2, hi2, hx0, hx1, hx2⟩ := info_parts infoRow
    have hmk := fun W => run_makeRo (P := Tryd.prog) 31 34 i2 Tryd.underlying31 hi2 hx0 hx1 hx2 n (by omega) W
    rw [HE.out, HRC.out] at hC
    clear hm
    go_enter Tryd.func13, Tryd.ntmps13
    go_wp2_with fail
    try rw [hW0]
    refine hC.mono ?_
    rintro e w1 ⟨A1, n1, c1, rfl, hO, hb⟩
    have HB1 := Lib.hid (HB0.out.trans (hb.mono HB0.out.size))
    have HX1 := Lib.hid (keep_b hb HX0.out)
    have hn1 : n1 = n := by rw [← hO.1, reachB_len]; exact HLN.out
    subst hn1
    have HO := Lib.hid hO
    clear hb hC hO k0 k1 k2 k3 hW0
    obtain ⟨k0, k1, k2, k3, _⟩ := lvCells HX1.out
    obtain ⟨W2, hW2⟩ : ∃ W, w1.alloc (.cells (Array.replicate n1 (Value.slice none 0 0)) 34) = W := ⟨_, rfl⟩
    obtain ⟨g, hg⟩ : ∃ z, w1.heap.size = z := ⟨_, rfl⟩
    have hb2 : Below w1.heap.size w1 W2 := by rw [← hW2]; exact lvBelow _ _
    have HB2 := Lib.hid (HB1.out.trans (hb2.mono HB1.out.size))
    have HX2 := Lib.hid (keep_b hb2 HX1.out)
    have HC2 := Lib.hid hb2
    have HRW : Hid (RowsN W2 w1.heap.size g (List.replicate n1 ⟨none, 0, []⟩)) := by rw [← hg, ← hW2]; exact RowsN.made w1 w1.heap.size n1 (Nat.le_refl _) (by omega)
    have HW2 := Lib.hid hW2
    have HGG := Lib.hid hg
    clear hW2 hg hb2
    go_upto_region 5 with fail
    rw [HW2.out, HGG.out]
    clear k0 k1 k2 k3 hmk HW2
    obtain ⟨k0, k1, k2, k3, _⟩ := lvCells HX2.out
    go_wp2_with fail
    clear k0 k1 k2 k3
    have HW0 : Hid (SetW w w1 ⟨(K : Int), A, I, P, n1, c, l⟩ g W2 (List.replicate n1 ⟨none, 0, []⟩)) := ⟨HB2.out, HC2.out, lt_of_heap HX1.out, HX2.out, HRW.out⟩
    obtain ⟨i1, hi1, hy0, hy1, hy2⟩ := info_parts infoInt
    obtain ⟨cd, hcd⟩ : ∃ cd, Cq.cd ⟨(K : Int), A, I, P, n1, c, l⟩ = cd := ⟨_, rfl⟩
    have HCL : Hid (cd.l.length = n1) := by rw [← hcd]; exact HLN
    have HCR : Hid (cd.R.toNat = K) := by rw [← hcd]; exact Int.toNat_natCast K
    have HRI : Hid (∀ (b : Int) (W : World), Below w.heap.size w W → W.heap[w.heap.size]? = some (Cq.obj ⟨(K : Int), A, I, P, n1, c, l⟩) → Calls Tryd.prog 35 #[Cq.val ⟨(K : Int), A, I, P, n1, c, l⟩, .int .i64 b] W (RchP ⟨(K : Int), A, I, P, n1, c, l⟩ b W)) := fun b W hb _ => refReachI_any _ b W (HQ.out.on hb) HM.out
    rw [hcd] at HO HD HE
    have HSI0 : Hid (SetI cd 0 0 (List.replicate n1 ⟨none, 0, []⟩)) := SetI.start cd HCL.out
    have HCD := Lib.hid hcd
    clear hcd HGG
    go_loopw [24] (fun a wr => ∃ (k : Nat) (rs : List RowN), k ≤ K ∧ a = .int .i64 k ∧ Hid (SetI cd k 0 rs) ∧ Hid (SetW w w1 ⟨(K : Int), A, I, P, n1, c, l⟩ g wr rs)) (fun a _ => K - (intOf a).toNat)
    case atStart => exact ⟨0, _, Nat.zero_le _, rfl, HSI0, HW0⟩
    case round =>
      obtain ⟨k, rs, hk, rfl, HS, HW⟩ := hrel
      by_cases hkK : k < K
      case neg =>
        obtain rfl : k = K := by omega
        have HDN : Hid (rs.map (·.L) = setsN cd) := SetI.done (by rw [HCR.out]; exact HS.out)
        have HLL : Hid (rs.length = n1) := Lib.hid (HS.out.len.trans HCL.out)
        go_wp2_with fail
        go_ret2
        have hrd := HW.out.rows.reads
        rw [HDN.out, HLL.out] at hrd
        exact ⟨some ⟨g, 0, none⟩, n1, n1, by rw [HCD.out, HE.out]; rfl, by rw [HCD.out, HD.out]; exact hrd, Nat.le_refl _, HW.out.bel⟩
      have hkk : (k : Int) < (K : Int) := by omega
      obtain ⟨k0, k1, k2, k3, _⟩ := lvCells HW.out.bx
      have hRC := HRI.out (k : Int) wr HW.out.bel HW.out.bx
      obtain ⟨wo, rfl⟩ : ∃ wo : World, wo = wr := ⟨_, rfl⟩
      unfold RchP at hRC
      rw [HCD.out] at hRC
      go_wp2_with fail
      (with_reducible refine hRC.mono ?_)
      rintro e w5 ⟨gw, rfl, _, hOw, hb⟩
      have HW5 := Lib.hid (HW.out.on hb)
      have HOW := Lib.hid hOw
      clear hb hOw hRC k0 k1 k2 k3
      obtain ⟨k0, k1, k2, k3, _⟩ := lvCells HW5.out.bx
      go_wp2_with fail
      clear k0 k1 k2 k3
      go_loopw [33] (fun a wr => ∃ (i : Nat) (rs : List RowN), i ≤ n1 ∧ a = .int .i64 i ∧ Hid (SetI cd k i rs) ∧ Hid (SetW w w1 ⟨(K : Int), A, I, P, n1, c, l⟩ g wr rs) ∧ Hid (BoB wr gw (reachB cd (k : Int)))) (fun a _ => n1 - (intOf a).toNat)
      case atStart => exact ⟨0, rs, Nat.zero_le _, rfl, HS, HW5, HOW⟩
      case round =>
        obtain ⟨i, rs, hi, rfl, HS, HW, HOW⟩ := hrel
        by_cases hin : i < n1
        case neg =>
          obtain rfl : i = n1 := by omega
          have HS2 : Hid (SetI cd (k + 1) 0 rs) := SetI.next HCL.out HS.out
          go_wp2_with fail
          go_roundw
          case rel => exact ⟨k + 1, rs, by omega, by go_num, HS2, HW⟩
          case measure => simp [intOf]; omega
        have hii : (i : Int) < (n1 : Int) := by omega
        obtain ⟨ba, offa, v, hA1, _, hv, v0⟩ := (HO.out.keep fun p hp => HW.out.bel1.cell hp).at_ hin
        subst hA1
        have hic : i < cd.l.length := by rw [HCL.out]; exact hin
        have hv2 := reachB_iff hv.out
        obtain ⟨u, hu⟩ := reachB_get (c := cd) (k : Int) hic
        have hu2 := reachB_iff hu
        obtain ⟨u0, _⟩ := HOW.out.at_ hu
        have HU := Lib.hid hu2
        have HV := Lib.hid hv2
        clear hv hu hu2 hv2
        cases v with
        | false =>
          have HS2 : Hid (SetI cd k (i + 1) rs) := HS.out.skip (fun h => absurd h.1 (fun hw => by have := HV.out.2 hw; cases this))
          go_wp2_with fail
          go_roundw
          case rel => exact ⟨i + 1, rs, by omega, by go_num, HS2, HW, HOW⟩
          case measure => simp [intOf]; omega
        | true =>
          cases u with
          | true =>
            have HS2 : Hid (SetI cd k (i + 1) rs) := HS.out.skip (fun h => absurd (HU.out.1 rfl) h.2)
            go_wp2_with fail
            go_roundw
            case rel => exact ⟨i + 1, rs, by omega, by go_num, HS2, HW, HOW⟩
            case measure => simp [intOf]; omega
          | false =>
            obtain ⟨r, hr⟩ : ∃ r, rs[i]? = some r := ⟨_, List.getElem?_eq_getElem (by rw [HS.out.len]; exact hic)⟩
            have hrL : r.L.length ≤ k := by rw [HS.out.at_ i r hr, if_neg (by omega)]; exact setK_len _ _ _
            have HRR := Lib.hid hr
            obtain ⟨rv, _⟩ := HW.out.rows.at_ hr
            have HRO : Hid (OwnI wr w1.heap.size 3 r.A r.c r.L) := HW.out.rows.ins r (List.mem_of_getElem? hr)
            obtain ⟨p, hp⟩ : ∃ p, r.L.length = p := ⟨_, rfl⟩
            have HPL := Lib.hid hp
            have hrv : wr.cell? ⟨g, i, none⟩ = some (.slice r.A p r.c) := by rw [rv, ← hp]; rfl
            rw [hp] at hrL
            have hsz : w1.heap.size ≤ wr.heap.size := HW.out.bel1.size
            have HWA : Hid (SetW w w1 ⟨(K : Int), A, I, P, n1, c, l⟩ g (wr.alloc (.cells #[.int .i64 (k : Int)] 3)) rs) := HW.out.on (lvBelow _ _)
            have HOA : Hid (BoB (wr.alloc (.cells #[.int .i64 (k : Int)] 3)) gw (reachB cd (k : Int))) := HOW.out.keep (lvBelow _ _)
            clear hr rv hp
            go_wp2_with (at_builtin; refine wpList_appendWhere _ rfl (.tmp 52) (.tmp 54) 34 rfl w1.heap.size 3 i1 Tryd.underlying34 hi1 hy0 hy1 hy2 r.A (some ⟨wr.heap.size, 0, none⟩) r.c 1 1 (wr.heap.size + 1) p (p + 1) r.L [(k : Int)] rfl rfl (HRO.out.alloc _) HPL.out rfl (src_new wr ⟨by omega, by omega⟩) (by omega) (by simp; omega) ?_; intro A4 c4 w4 hO4 hG4 hL4; obtain ⟨P1, P2, P3, P4⟩ := HWA.out.put HRR.out HPL.out hO4 hG4 hL4; have HP1 := Lib.hid P1; have HP4 := Lib.hid P4; clear P1 P4 hO4 hG4 hL4)
            have HS2 : Hid (SetI cd k (i + 1) (rs.set i ⟨A4, c4, r.L ++ [(k : Int)]⟩)) := HS.out.put HRR.out (HV.out.1 rfl) (fun hw => by have := HU.out.2 hw; cases this)
            have HOW4 : Hid (BoB (w4.setCell ⟨g, i, none⟩ (.slice A4 (p + 1) c4)) gw (reachB cd (k : Int))) := HP4.out _ _ HOA.out
            go_roundw
            case rel => exact ⟨i + 1, _, by omega, by go_num, HS2, HP1, HOW4⟩
            case measure => simp [intOf]; omega
end Go.Proofs.YtmnadieblhdcpaaDoor
