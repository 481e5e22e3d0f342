/- What lies in memory while the program tells a path. -/
import Derived.Test.YtgkngimeokhhgaaDoorG21
namespace Go.Proofs.YtgkngimeokhhgaaDoor
open Go.RowKit Go.Sort

theorem MsM.lower {w : World} {base base' : Nat} {m : Mc} {s : Ms} {rs : List RowU} {en : Bool} (h : MsM w base m s rs en) (hb : base' ≤ base) (hj : Jis w base' m.P m.n0 m.l) (hi : IntsLL w base' m.A m.n m.ins) : MsM w base' m s rs en :=
  ⟨h.H, h.M.lower hb, h.D, hj, hi, h.pre, h.nr, h.na, Nat.le_trans hb h.g0⟩
/-- what begin tells of a machine -/
def BegF (q : Cq) (fuel cells : Int) (A : Option Addr) (n : Nat) (ins : List (List Int)) (m : Mc) : Prop := m.l = q.l ∧ m.n0 = q.n ∧ (m.i : Int) = q.I ∧ m.ins = ins ∧ m.fuel = fuel ∧ m.cells = cells ∧ m.P = q.P ∧ m.A = A ∧ m.n = n
/-- a machine, and a list of numbers, come up in some order -/
structure PtJ (W : World) (N : Nat) (q : Cq) (fuel cells : Int) (A : Option Addr) (n : Nat) (ins : List (List Int)) (F : Nat → Value) (D : Nat → Bool) (vs : Nat → Value) (w' : World) : Prop where
  bel : Below W.heap.size W w'
  vals : ∀ i, i < 6 → i ≠ 4 → D i = true → vs i = F i
  c4 : D 4 = true → ∃ m rs B, vs 4 = .pointer (some ⟨m.g, 0, none⟩) ∧ MsM w' B m (startM q.cd ins) rs false ∧ W.heap.size ≤ B ∧ BegF q fuel cells A n ins m
  m6 : D 6 = true → ∃ g, vs 6 = .slice (some ⟨g, 0, none⟩) N N ∧ W.heap.size ≤ g ∧ w'.heap[g]? = some (.cells (Array.replicate N (Value.int .i64 0)) 3 (0, 0))
  v7 : D 7 = true → D 4 = true ∧ vs 7 = vs 4
  v8 : D 8 = true → D 6 = true ∧ vs 8 = vs 6
section
variable {W w' w'' : World} {N n : Nat} {q : Cq} {fuel cells : Int} {A : Option Addr} {ins : List (List Int)} {F : Nat → Value} {D D' : Nat → Bool} {vs : Nat → Value}
theorem PtJ.other (h : PtJ W N q fuel cells A n ins F D vs w') {i : Nat} (hi : i < 6 ∧ i ≠ 4) (hD : ∀ j, j ≠ i → D' j = D j) : PtJ W N q fuel cells A n ins F D' (fun j => if j = i then F i else vs j) w' := by
  obtain ⟨i6, i4⟩ := hi
  have n4 : (4 : Nat) ≠ i := fun e => i4 e.symm
  have n6 : (6 : Nat) ≠ i := by omega
  have n7 : (7 : Nat) ≠ i := by omega
  have n8 : (8 : Nat) ≠ i := by omega
  refine ⟨h.bel, fun j hj j4 hd => ?_, ?_, ?_, ?_, ?_⟩
  · by_cases e : j = i
    · subst e; exact if_pos rfl
    · show (if j = i then F i else vs j) = _
      rw [if_neg e]
      exact h.vals j hj j4 (by rw [← hD j e]; exact hd)
  · rw [hD 4 n4, if_neg n4]; exact h.c4
  · rw [hD 6 n6, if_neg n6]; exact h.m6
  · rw [hD 7 n7, hD 4 n4, if_neg n7, if_neg n4]; exact h.v7
  · rw [hD 8 n8, hD 6 n6, if_neg n8, if_neg n6]; exact h.v8
theorem PtJ.call (h : PtJ W N q fuel cells A n ins F D vs w') (hDi : D 4 = false) {m : Mc} {rs : List RowU} (hM : MsM w'' w'.heap.size m (startM q.cd ins) rs false) (hmc : BegF q fuel cells A n ins m) (hb : Below w'.heap.size w' w'') (hD : ∀ j, j ≠ 4 → D' j = D j) :
    PtJ W N q fuel cells A n ins F D' (fun j => if j = 4 then .pointer (some ⟨m.g, 0, none⟩) else vs j) w'' := by
  have e7 : D 7 = false := by
    cases e : D 7 with
    | false => rfl
    | true => rw [(h.v7 e).1] at hDi; cases hDi
  refine ⟨h.bel.trans (hb.mono h.bel.size), fun j hj j4 hd => ?_, fun _ => ⟨m, rs, _, if_pos rfl, hM, h.bel.size, hmc⟩, fun hd => ?_, fun hd => ?_, fun hd => ?_⟩
  · show (if j = 4 then _ else vs j) = _
    rw [if_neg j4]
    exact h.vals j hj j4 (by rw [← hD j j4]; exact hd)
  · rw [hD 6 (by decide)] at hd
    obtain ⟨g, a1, a2, a3⟩ := h.m6 hd
    exact ⟨g, by rw [if_neg (by decide)]; exact a1, a2, keep_b hb a3⟩
  · rw [hD 7 (by decide), e7] at hd; cases hd
  · rw [hD 8 (by decide)] at hd
    rw [hD 6 (by decide), if_neg (show (8 : Nat) ≠ 4 by decide), if_neg (show (6 : Nat) ≠ 4 by decide)]
    exact h.v8 hd
theorem PtJ.made (h : PtJ W N q fuel cells A n ins F D vs w') (hDi : D 6 = false) (hD : ∀ j, j ≠ 6 → D' j = D j) : PtJ W N q fuel cells A n ins F D' (fun j => if j = 6 then .slice (some ⟨w'.heap.size, 0, none⟩) N N else vs j) (w'.alloc (.cells (Array.replicate N (Value.int .i64 0)) 3)) := by
  have hb := lvBelow w' (.cells (Array.replicate N (Value.int .i64 0)) 3)
  have e8 : D 8 = false := by
    cases e : D 8 with
    | false => rfl
    | true => rw [(h.v8 e).1] at hDi; cases hDi
  refine ⟨h.bel.trans (hb.mono h.bel.size), fun j hj j4 hd => ?_, fun hd => ?_, fun _ => ⟨_, if_pos rfl, h.bel.size, heap_alloc_new w' _⟩, fun hd => ?_, fun hd => ?_⟩
  · have e : j ≠ 6 := by omega
    show (if j = 6 then _ else vs j) = _
    rw [if_neg e]
    exact h.vals j hj j4 (by rw [← hD j e]; exact hd)
  · rw [hD 4 (by decide)] at hd
    obtain ⟨m, rs, B, a1, a2, a3, a4⟩ := h.c4 hd
    exact ⟨m, rs, B, by rw [if_neg (by decide)]; exact a1, a2.on hb, a3, a4⟩
  · rw [hD 7 (by decide)] at hd
    rw [hD 4 (by decide), if_neg (show (7 : Nat) ≠ 6 by decide), if_neg (show (4 : Nat) ≠ 6 by decide)]
    exact h.v7 hd
  · rw [hD 8 (by decide), e8] at hd; cases hd
theorem PtJ.as7 (h : PtJ W N q fuel cells A n ins F D vs w') (h4 : D 4 = true) (hD : ∀ j, j ≠ 7 → D' j = D j) : PtJ W N q fuel cells A n ins F D' (fun j => if j = 7 then vs 4 else vs j) w' := by
  refine ⟨h.bel, fun j hj j4 hd => ?_, ?_, ?_, fun _ => ?_, ?_⟩
  · have e : j ≠ 7 := by omega
    show (if j = 7 then _ else vs j) = _
    rw [if_neg e]
    exact h.vals j hj j4 (by rw [← hD j e]; exact hd)
  · rw [hD 4 (by decide), if_neg (by decide)]; exact h.c4
  · rw [hD 6 (by decide), if_neg (by decide)]; exact h.m6
  · rw [hD 4 (by decide)]
    exact ⟨h4, by rw [if_pos rfl, if_neg (by decide)]⟩
  · rw [hD 8 (by decide), hD 6 (by decide), if_neg (show (8 : Nat) ≠ 7 by decide), if_neg (show (6 : Nat) ≠ 7 by decide)]; exact h.v8
theorem PtJ.as8 (h : PtJ W N q fuel cells A n ins F D vs w') (h6 : D 6 = true) (hD : ∀ j, j ≠ 8 → D' j = D j) : PtJ W N q fuel cells A n ins F D' (fun j => if j = 8 then vs 6 else vs j) w' := by
  refine ⟨h.bel, fun j hj j4 hd => ?_, ?_, ?_, ?_, fun _ => ?_⟩
  · have e : j ≠ 8 := by omega
    show (if j = 8 then _ else vs j) = _
    rw [if_neg e]
    exact h.vals j hj j4 (by rw [← hD j e]; exact hd)
  · rw [hD 4 (by decide), if_neg (by decide)]; exact h.c4
  · rw [hD 6 (by decide), if_neg (by decide)]; exact h.m6
  · rw [hD 7 (by decide), hD 4 (by decide), if_neg (show (7 : Nat) ≠ 8 by decide), if_neg (show (4 : Nat) ≠ 8 by decide)]; exact h.v7
  · rw [hD 6 (by decide)]
    exact ⟨h6, by rw [if_pos rfl, if_neg (by decide)]⟩
theorem PtJ.same (h : PtJ W N q fuel cells A n ins F D vs w') (hD : ∀ i, i < 9 → D i = D' i) : PtJ W N q fuel cells A n ins F D' vs w' := by
  have e4 := hD 4 (by decide); have e6 := hD 6 (by decide); have e7 := hD 7 (by decide); have e8 := hD 8 (by decide)
  refine ⟨h.bel, fun j hj j4 hd => h.vals j hj j4 (by rw [hD j (by omega)]; exact hd), ?_, ?_, ?_, ?_⟩
  · rw [← e4]; exact h.c4
  · rw [← e6]; exact h.m6
  · rw [← e7, ← e4]; exact h.v7
  · rw [← e8, ← e6]; exact h.v8
end
theorem OwnI.keepI {w w' : World} {base base' c : Nat} {A : Option Addr} {xs : List Int} (h : OwnI w base 3 A c xs) (hk : BelI base' w w') : OwnI w' base 3 A c xs := by
  refine ⟨⟨h.1.1, ?_⟩, h.2⟩
  rcases h.1.2 with h1 | ⟨g, cap, cur, h1, h2, h3, h4⟩
  · exact .inl h1
  · exact .inr ⟨g, cap, cur, h1, h2, hk.int_ _ _ h3, h4⟩
theorem OwnI.madeN {w : World} {base g n : Nat} (hg : w.heap[g]? = some (.cells (Array.replicate n (Value.int .i64 0)) 3 (0, 0))) (hb : base ≤ g) (hn : n ≤ 100000) : OwnI w base 3 (some ⟨g, 0, none⟩) n (List.replicate n 0) := by
  refine ⟨?_, fun x hx => by rw [(List.mem_replicate.1 hx).2]; omega⟩
  rw [List.length_replicate, List.map_replicate]
  exact ⟨by simp, .inr ⟨g, n, Array.replicate n (Value.int .i64 0), rfl, hb, hg, Nat.le_refl _, by unfold maxLen; omega, by simp, by simp⟩⟩
/-- a machine's block is none of a list's -/
theorem OwnI.offM {w : World} {base base' gl n : Nat} {m : Mc} {s : Ms} {rs : List RowU} {en : Bool} {xs : List Int} (h : OwnI w base 3 (some ⟨gl, 0, none⟩) n xs) (hM : MsM w base' m s rs en) (k : Nat) (v : Value) (hB : base' ≤ gl) : MsM (w.setCell ⟨gl, k, none⟩ v) base' m s rs en := by
  obtain ⟨cur, hg⟩ : ∃ cur : Array Value, w.heap[gl]? = some (.cells cur 3 (0, 0)) := by
    rcases h.1.2 with ⟨h1, _⟩ | ⟨g, cap, cur, h1, _, h3, _⟩
    · injection h1 with h1; cases h1
    · injection h1 with h1; injection h1 with h1; injection h1 with h1
      subst h1
      exact ⟨cur, h3⟩
  have hM2 := hM.M.box hg (by decide) (by decide) k v
  have hb : Below base' w (w.setCell ⟨gl, k, none⟩ v) := (Below.refl _ _).setCell (p := ⟨gl, k, none⟩) hB _
  obtain ⟨cD, h1, h2⟩ := hM.D
  refine ⟨(heap_setCell_other w _ m.g _ fun e => ?_).trans hM.H, hM2, ⟨cD, (heap_setCell_other w _ m.gD _ fun e => ?_).trans h1, h2⟩, hM.jis.below hb, hM.ill.below hb, hM.pre, hM.nr, hM.na, hM.g0⟩
  · have e : m.g = gl := e
    have h3 := hM.H
    rw [e, hg] at h3
    injection h3 with h3; injection h3 with _ h3
    exact absurd h3 (by decide)
  · have e : m.gD = gl := e
    rw [e, hg] at h1
    injection h1 with h1; injection h1 with _ h1
    exact absurd h1 (by decide)
/-- a run that ended, told step by step -/
def PthI (m : Mc) (cd : Cd) (M : Nat) (P : List Nat) (z : Ms) (k : Nat) (s : Ms) (en : Bool) : Prop :=
  (en = false ∧ MsAt m cd M s ∧ s.st = k ∧ goM cd m.cells (m.fuel - (k : Int)).toNat s = .ok (z, P.drop k)) ∨ (en = true ∧ k = P.length)
theorem PthI.step {m : Mc} {cd : Cd} {M k : Nat} {P : List Nat} {z s : Ms} (h : PthI m cd M P z k s false) (hm : McOk m cd M) :
    (s.st : Int) < m.fuel ∧ P[k]? = some s.at_ ∧ ∃ z2, doM s.tick (cd.l.getD s.at_ zJi) m.cells = .ok z2 ∧ PthI m cd M P z (k + 1) z2 (decide ((cd.l.getD s.at_ zJi).op = 0)) := by
  rcases h with ⟨_, ha, hk, hg⟩ | ⟨h, _⟩
  · cases e : (m.fuel - (k : Int)).toNat with
    | zero => rw [e] at hg; injection hg
    | succ f =>
      rw [e] at hg
      have hf : (s.st : Int) < m.fuel := by omega
      unfold goM at hg
      split at hg
      · cases hg
      · rename_i s2 hs
        have hs' : doM s.tick (cd.l.getD s.at_ zJi) m.cells = .ok s2 := hs
        have hst := MsAt.st_ hs'
        split at hg
        · rename_i h0
          injection hg with hg; injection hg with h1 h2
          have hP : P[k]? = some s.at_ := by
            have : (P.drop k)[0]? = some s.at_ := by rw [← h2]; rfl
            rwa [List.getElem?_drop, Nat.add_zero] at this
          refine ⟨hf, hP, s2, hs', .inr ⟨decide_eq_true h0, ?_⟩⟩
          have := congrArg List.length h2
          rw [List.length_drop] at this
          simp at this
          omega
        · rename_i h0
          split at hg
          · cases hg
          · rename_i zp hg2
            obtain ⟨z3, p3⟩ := zp
            injection hg with hg; injection hg with h1 h2
            subst h1
            have hP : P[k]? = some s.at_ := by
              have : (P.drop k)[0]? = some s.at_ := by rw [← h2]; rfl
              rwa [List.getElem?_drop, Nat.add_zero] at this
            have hd : P.drop (k + 1) = p3 := by
              rw [← List.drop_drop, ← h2]; rfl
            refine ⟨hf, hP, s2, hs', .inl ⟨decide_eq_false h0, ha.next hm hf hs' h0, by omega, ?_⟩⟩
            rw [show (m.fuel - ((k + 1 : Nat) : Int)).toNat = f by omega, hd]
            exact hg2
  · cases h
end Go.Proofs.YtgkngimeokhhgaaDoor
