/- A map from integers to bools that a statement made: the set of those that are true, and how many they are. -/
import Derived.Test.YtanbhpdobpiafaaLTwo
import Derived.Maps.OwnSet
namespace Go.Proofs.Ytanbhpdobpiafaa
open Go.RowKit Go.Maps

def setD (S : List Int) : DataW Unit := setOf (.lit (.bool true)) (S.map (Lit.int .i64))
def MetMap (w : World) (b n : Nat) (S : List Int) : Prop := w.ownsMap Try.prog 3 (plainElem Try.prog 4) b n (setD S)
theorem keyInts (S : List Int) : ∀ x ∈ S.map (Lit.int .i64), WideAt.IsKeyLit x := by
  intro x hx
  obtain ⟨y, _, rfl⟩ := List.mem_map.1 hx
  simp [WideAt.IsKeyLit]
theorem setD_has (S : List Int) (x : Int) : has (setD S) (.int .i64 x) = S.contains x := by
  unfold setD
  rw [has_setOf _ _ _ (keyInts S), List.any_map]
  induction S with
  | nil => rfl
  | cons y S ih =>
    rw [List.any_cons, ih, List.contains_cons]
    congr 1
    show (Lit.int .i64 y).sameKey (.int .i64 x) = _
    rw [Bool.eq_iff_iff]
    simp only [Lit.sameKey, true_and, decide_eq_true_eq, beq_iff_eq]
    exact ⟨Eq.symm, Eq.symm⟩
theorem setD_tidy (S : List Int) : Tidy (setD S) := tidy_setOf _ _ (keyInts S)
theorem setD_snoc (S : List Int) (x : Int) : setD (S ++ [x]) = (setD S).put (.int .i64 x) (.lit (.bool true)) := by
  unfold setD; rw [List.map_append]; exact setOf_snoc _ _ _
theorem setD_size {S : List Int} {x : Int} (h : S.contains x = false) : size (setD (S ++ [x])) = size (setD S) + 1 := by
  rw [setD_snoc, size_put (setD_tidy S), setD_has, h]; rfl
theorem setD_at (S : List Int) (x : Int) : (setD S).atKey (.int .i64 x) (.lit (.bool false)) = .lit (.bool (S.contains x)) := by
  have key : ∀ (n : Nat) (S : List Int), S.length = n → (setD S).atKey (.int .i64 x) (.lit (.bool false)) = .lit (.bool (S.contains x)) := by
    intro n
    induction n with
    | zero => intro S h; obtain rfl := List.eq_nil_of_length_eq_zero h; exact atKey_of_not_has (setD_has [] x) _
    | succ n ih =>
      intro S h
      obtain ⟨T, y, rfl⟩ : ∃ T y, S = T ++ [y] := ⟨S.dropLast, S.getLast (by intro e; subst e; simp at h), (List.dropLast_concat_getLast _).symm⟩
      have hT : T.length = n := by simpa using h
      rw [setD_snoc]
      by_cases hxy : x = y
      · subst hxy
        rw [atKey_put_same (k := .int .i64 x) (setD_tidy T).isMap (by simp [WideAt.IsKeyLit])]
        simp
      · rw [atKey_put_other (by intro e; injection e with _ e; exact hxy e), ih T hT]
        simp [hxy]
  exact key _ S rfl

theorem plainElem_bool_inv {v : Value} {z : DataW Unit × List MemPlace} (h : plainElem Try.prog 4 v = some z) : ∃ x, v = .bool x ∧ z = (.lit (.bool x), []) := by
  unfold plainElem at h
  rw [Try.underlying4] at h
  cases v <;> simp at h
  exact ⟨_, rfl, h.symm⟩
set_option maxRecDepth 100000 in
theorem zeroBool (w : World) : (zeroValue 4).run Try.prog w = .ok (.bool false) w := by kernel_rfl
theorem int_wf {x : Int} (h : -9223372036854775808 ≤ x ∧ x ≤ 9223372036854775807) : (Lit.int .i64 x).wf = true := by
  simp [Lit.wf, IntKind.min, IntKind.max, IntKind.signed, IntKind.bits]; omega
theorem met_look {w : World} {b n : Nat} {S : List Int} (h : MetMap w b n S) {x : Int} (hx : -9223372036854775808 ≤ x ∧ x ≤ 9223372036854775807) :
    (Instr.lookup 49 (.map (some b)) (.int .i64 x) false).run Try.prog w = .ok (.bool (S.contains x)) w := by
  obtain ⟨v, ps, hrun, hv⟩ := World.ownsMap.lookup h (int_keyed Try.underlying3) Try.underlying49 (zeroBool w) (plainElem_bool Try.underlying4 false) (keyOf_int_mk Try.underlying3 (int_wf hx))
  rw [setD_at] at hv
  obtain ⟨c, rfl, hc⟩ := plainElem_bool_inv hv
  simp only [Prod.mk.injEq, DataW.lit.injEq, Lit.bool.injEq] at hc
  rw [hrun, hc.1]
theorem met_len {w : World} {b n : Nat} {S : List Int} (h : MetMap w b n S) : (Builtin.len_ #[49] 3 #[.map (some b)]).run Try.prog w = .ok (.int .i64 (size (setD S))) w :=
  World.ownsMap.len h Try.underlying49 3

/-- how many of the first T numbers are in S -/
def cntTo (S : List Int) (T : Nat) : Nat := (List.range T).countP fun u => S.contains ((u : Nat) : Int)
theorem cntTo_succ (S : List Int) (T : Nat) : cntTo S (T + 1) = cntTo S T + if S.contains (T : Int) = true then 1 else 0 := by
  unfold cntTo; rw [List.range_succ, List.countP_append]; simp [List.countP_cons]
theorem cntTo_le (S : List Int) (T : Nat) : cntTo S T ≤ T := by
  unfold cntTo; have := List.countP_le_length (p := fun u : Nat => S.contains ((u : Nat) : Int)) (l := List.range T); simpa using this
theorem cntTo_out (S : List Int) (x : Nat) (T : Nat) (h : T ≤ x) : cntTo (S ++ [(x : Int)]) T = cntTo S T := by
  unfold cntTo
  refine List.countP_congr (fun u hu => ?_)
  have := List.mem_range.1 hu
  simp
  omega
theorem cntTo_snoc (S : List Int) (x : Nat) (T : Nat) (h : x < T) : cntTo (S ++ [(x : Int)]) T = cntTo S T + if S.contains (x : Int) = true then 0 else 1 := by
  induction T with
  | zero => omega
  | succ T ih =>
    rw [cntTo_succ, cntTo_succ]
    by_cases e : x = T
    · subst e
      rw [cntTo_out S x x (Nat.le_refl _)]
      have h1 : (S ++ [(x : Int)]).contains (x : Int) = true := by simp
      rw [if_pos h1]
      split <;> omega
    · rw [ih (by omega)]
      have h1 : (S ++ [(x : Int)]).contains (T : Int) = S.contains (T : Int) := by
        simp; omega
      rw [h1]; omega
theorem setD_count {S : List Int} {T : Nat} (h : ∀ x ∈ S, 0 ≤ x ∧ x < T) : size (setD S) = cntTo S T := by
  have key : ∀ (n : Nat) (S : List Int), S.length = n → (∀ x ∈ S, 0 ≤ x ∧ x < T) → size (setD S) = cntTo S T := by
    intro n
    induction n with
    | zero =>
      intro S hn _
      obtain rfl := List.eq_nil_of_length_eq_zero hn
      have : cntTo [] T = 0 := by unfold cntTo; simp
      rw [this]; rfl
    | succ n ih =>
      intro S hn hb
      obtain ⟨R, y, rfl⟩ : ∃ R y, S = R ++ [y] := ⟨S.dropLast, S.getLast (by intro e; subst e; simp at hn), (List.dropLast_concat_getLast _).symm⟩
      have hR : R.length = n := by simpa using hn
      have hy := hb y (by simp)
      obtain ⟨x, rfl⟩ : ∃ x : Nat, y = x := ⟨y.toNat, by omega⟩
      rw [cntTo_snoc R x T (by omega), ← ih R hR (fun z hz => hb z (by simp [hz]))]
      by_cases hc : R.contains (x : Int) = true
      · rw [if_pos hc, setD_snoc, size_put (setD_tidy R), setD_has, if_pos hc]; rfl
      · rw [if_neg hc, setD_size (by simpa using hc)]
  exact key _ S rfl h
end Go.Proofs.Ytanbhpdobpiafaa
