/- A map from integers to bools that a statement made: the set of those that are true. -/
import Derived.Test.YtnjjmeaggnlafaaPRefE
import Derived.Test.YtnjjmeaggnlafaaPCycQ
import Derived.Maps.OwnSet
namespace Go.Proofs.Ytnjjmeaggnlafaa
open Go.RowKit Go.Maps

def setD (S : List Int) : DataW Unit := setOf (.lit (.bool true)) (S.map (Lit.int .i64))
def MetMap (w : World) (b n : Nat) (S : List Int) : Prop := w.ownsMap Try.prog 3 (plainElem Try.prog 4) b n (setD S)
theorem keyInts (S : List Int) : ∀ x ∈ S.map (Lit.int .i64), WideAt.IsKeyLit x := by
  intro x hx
  obtain ⟨y, _, rfl⟩ := List.mem_map.1 hx
  simp [WideAt.IsKeyLit]
theorem setD_has (S : List Int) (x : Int) : has (setD S) (.int .i64 x) = S.contains x := by
  unfold setD
  rw [has_setOf _ _ _ (keyInts S), List.any_map]
  induction S with
  | nil => rfl
  | cons y S ih =>
    rw [List.any_cons, ih, List.contains_cons]
    congr 1
    show (Lit.int .i64 y).sameKey (.int .i64 x) = _
    rw [Bool.eq_iff_iff]
    simp only [Lit.sameKey, true_and, decide_eq_true_eq, beq_iff_eq]
    exact ⟨Eq.symm, Eq.symm⟩
theorem setD_tidy (S : List Int) : Tidy (setD S) := tidy_setOf _ _ (keyInts S)
theorem setD_snoc (S : List Int) (x : Int) : setD (S ++ [x]) = (setD S).put (.int .i64 x) (.lit (.bool true)) := by
  unfold setD; rw [List.map_append]; exact setOf_snoc _ _ _
theorem setD_size {S : List Int} {x : Int} (h : S.contains x = false) : size (setD (S ++ [x])) = size (setD S) + 1 := by
  rw [setD_snoc, size_put (setD_tidy S), setD_has, h]; rfl
theorem setD_at (S : List Int) (x : Int) : (setD S).atKey (.int .i64 x) (.lit (.bool false)) = .lit (.bool (S.contains x)) := by
  have key : ∀ (n : Nat) (S : List Int), S.length = n → (setD S).atKey (.int .i64 x) (.lit (.bool false)) = .lit (.bool (S.contains x)) := by
    intro n
    induction n with
    | zero => intro S h; obtain rfl := List.eq_nil_of_length_eq_zero h; exact atKey_of_not_has (setD_has [] x) _
    | succ n ih =>
      intro S h
      obtain ⟨T, y, rfl⟩ : ∃ T y, S = T ++ [y] := ⟨S.dropLast, S.getLast (by intro e; subst e; simp at h), (List.dropLast_concat_getLast _).symm⟩
      have hT : T.length = n := by simpa using h
      rw [setD_snoc]
      by_cases hxy : x = y
      · subst hxy
        rw [atKey_put_same (k := .int .i64 x) (setD_tidy T).isMap (by simp [WideAt.IsKeyLit])]
        simp
      · rw [atKey_put_other (by intro e; injection e with _ e; exact hxy e), ih T hT]
        simp [hxy]
  exact key _ S rfl

theorem plainElem_bool_inv {v : Value} {z : DataW Unit × List MemPlace} (h : plainElem Try.prog 4 v = some z) : ∃ x, v = .bool x ∧ z = (.lit (.bool x), []) := by
  unfold plainElem at h
  rw [Try.underlying4] at h
  cases v <;> simp at h
  exact ⟨_, rfl, h.symm⟩
set_option maxRecDepth 100000 in
theorem zeroBool (w : World) : (zeroValue 4).run Try.prog w = .ok (.bool false) w := by kernel_rfl
theorem int_wf {x : Int} (h : -9223372036854775808 ≤ x ∧ x ≤ 9223372036854775807) : (Lit.int .i64 x).wf = true := by
  simp [Lit.wf, IntKind.min, IntKind.max, IntKind.signed, IntKind.bits]; omega
theorem met_look {w : World} {b n : Nat} {S : List Int} (h : MetMap w b n S) {x : Int} (hx : -9223372036854775808 ≤ x ∧ x ≤ 9223372036854775807) :
    (Instr.lookup 48 (.map (some b)) (.int .i64 x) false).run Try.prog w = .ok (.bool (S.contains x)) w := by
  obtain ⟨v, ps, hrun, hv⟩ := World.ownsMap.lookup h (int_keyed Try.underlying3) Try.underlying48 (zeroBool w) (plainElem_bool Try.underlying4 false) (keyOf_int_mk Try.underlying3 (int_wf hx))
  rw [setD_at] at hv
  obtain ⟨c, rfl, hc⟩ := plainElem_bool_inv hv
  simp only [Prod.mk.injEq, DataW.lit.injEq, Lit.bool.injEq] at hc
  rw [hrun, hc.1]
theorem met_len {w : World} {b n : Nat} {S : List Int} (h : MetMap w b n S) : (Builtin.len_ #[48] 3 #[.map (some b)]).run Try.prog w = .ok (.int .i64 (size (setD S))) w :=
  World.ownsMap.len h Try.underlying48 3
end Go.Proofs.Ytnjjmeaggnlafaa
