/- The document's step, on any instruction that may be. -/
import Derived.Test.YtgkngimeokhhgaaGreatDoorG10
import Derived.Test.YtgkngimeokhhgaaGreatDoorG3
import Derived.Test.YtgkngimeokhhgaaGreatDoorG5
import Derived.Test.YtgkngimeokhhgaaGreatDoorG9
namespace Go.Proofs.YtgkngimeokhhgaaGreatDoor
open Go.RowKit Go.Sort

/-- what the kind of a place says of what stands there -/
theorem may_at {R A L : Int} {x : Ji} (h : mayJ R A L x = true) : (0 ≤ x.a ∧ x.a < limJ R A L ((kJ x.op).getD 0 32)) ∧ (0 ≤ x.b ∧ x.b < limJ R A L ((kJ x.op).getD 1 32)) ∧ (0 ≤ x.c ∧ x.c < limJ R A L ((kJ x.op).getD 2 32)) := by
  obtain ⟨_, h2, _, _⟩ := mayJ_parts h
  exact ⟨h2 0 (by omega), h2 1 (by omega), h2 2 (by omega)⟩
theorem refStep_any (cd : Cd) (M : Nat) (x : Ji) (cells : Int) (s : Ms) (rs : List RowU) (base gR gA : Nat) (w : World) (h : MsW w base gR gA s rs) (hB : base ≤ w.heap.size) (hs : s.at_ ≤ 1000000 ∧ s.st ≤ 1000000 ∧ s.ce ≤ 1000000)
    (hk : MsOk cd M s) (hM : M + s.ce ≤ 900000) (hx : mayJ cd.R cd.A cd.l.length x = true) (hn : I64 x.n) :
    Calls Tryz.prog 32 #[stV s gR gA, Ji.val x, .int .i64 cells] w (StepP base gR gA s x cells w) := by
  obtain ⟨op, a, b, c, n⟩ := x
  obtain ⟨ha, hb, hc⟩ := may_at hx
  obtain ⟨⟨o1, o2⟩, _⟩ := mayJ_parts hx
  have hrl := hk.rl
  have hal := hk.al
  have hlen : ∀ i : Nat, (s.a (i : Int)).length ≤ 900000 := fun i => Nat.le_trans (hk.a _).2 hM
  have hlen2 : ∀ i : Nat, (s.a (i : Int)).length ≤ 1000000 := fun i => Nat.le_trans (hlen i) (by omega)
  have hrv := hk.rv
  have hav := hk.av
  clear hx hk
  simp only at o1 o2 ha hb hc hn
  obtain ⟨i, rfl⟩ := Int.eq_ofNat_of_zero_le ha.1
  obtain ⟨j, rfl⟩ := Int.eq_ofNat_of_zero_le hb.1
  obtain ⟨k, rfl⟩ := Int.eq_ofNat_of_zero_le hc.1
  have ha := ha.2
  have hb := hb.2
  have hc := hc.2
  rcases op_cases o1 o2 with rfl | rfl | rfl | rfl | rfl | rfl | rfl | rfl | rfl | rfl | rfl | rfl | rfl
  · exact refStep_0 _ _ _ _ cells s rs base gR gA w h hB hs hrv
  · have ha : (i : Int) < cd.R := ha
    exact refStep_1 _ _ _ i cells s rs base gR gA w h hB hs hrv hn (by omega)
  · have ha : (i : Int) < cd.R := ha
    have hb : (j : Int) < cd.R := hb
    exact refStep_2 _ _ i j cells s rs base gR gA w h hB hs hrv (by omega) (by omega)
  · have ha : (i : Int) < cd.R := ha
    have hb : (j : Int) < cd.R := hb
    have hc : (k : Int) < cd.R := hc
    exact refStep_3 _ i j k cells s rs base gR gA w h hB hs hrv (by omega) (by omega) (by omega)
  · have ha : (i : Int) < cd.R := ha
    have hb : (j : Int) < cd.R := hb
    have hc : (k : Int) < cd.R := hc
    exact refStep_4 _ i j k cells s rs base gR gA w h hB hs hrv (by omega) (by omega) (by omega)
  · have ha : (i : Int) < cd.R := ha
    have hb : (j : Int) < cd.R := hb
    have hc : (k : Int) < cd.R := hc
    exact refStep_5 _ i j k cells s rs base gR gA w h hB hs hrv (by omega) (by omega) (by omega)
  · have ha : (i : Int) < cd.R := ha
    have hb : (j : Int) < cd.A := hb
    have hc : (k : Int) < cd.R := hc
    exact refStep_6 _ i j k cells s rs base gR gA w h hB hs hrv (by omega) (by omega) (by omega) hlen2 hav
  · have ha : (i : Int) < cd.A := ha
    have hb : (j : Int) < cd.R := hb
    have hc : (k : Int) < cd.R := hc
    exact refStep_7 _ i j k cells s rs base gR gA w h hB hs hrv (by omega) (by omega) (by omega) hlen2 hav
  · have ha : (i : Int) < cd.R := ha
    have hb : (j : Int) < cd.A := hb
    exact refStep_8 _ _ i j cells s rs base gR gA w h hB hs hrv (by omega) (by omega) hlen2 hav
  · have ha : (i : Int) < cd.A := ha
    have hb : (j : Int) < cd.R := hb
    exact refStep_9 _ _ i j cells s rs base gR gA w h hB hs hrv (by omega) (by omega) hlen hav
  · exact refStep_10 _ _ _ i cells s rs base gR gA w h hB hs hrv
  · have ha : (i : Int) < cd.R := ha
    have hb : (j : Int) < cd.R := hb
    exact refStep_11 _ i j k cells s rs base gR gA w h hB hs hrv (by omega) (by omega)
  · have ha : (i : Int) < cd.R := ha
    have hb : (j : Int) < cd.R := hb
    exact refStep_12 _ i j k cells s rs base gR gA w h hB hs hrv (by omega) (by omega)
end Go.Proofs.YtgkngimeokhhgaaGreatDoor
/- What a run lays ahead: registers, arrays, and a box for where it stands. -/
namespace Go.Proofs.YtgkngimeokhhgaaGreatDoor
open Go.RowKit Go.Sort

theorem OwnI.madeU {w : World} {base g n : Nat} (hg : w.heap[g]? = some (.cells (Array.replicate n (Value.int .i64 0)) 2 (0, 0))) (hb : base ≤ g) (hn : n ≤ 100000) : OwnI w base 2 (some ⟨g, 0, none⟩) n (List.replicate n 0) := by
  refine ⟨?_, fun x hx => by rw [(List.mem_replicate.1 hx).2]; omega⟩
  rw [List.length_replicate, List.map_replicate]
  exact ⟨by simp, .inr ⟨g, n, Array.replicate n (Value.int .i64 0), rfl, hb, hg, Nat.le_refl _, by unfold maxLen; omega, by simp, by simp⟩⟩
theorem RowsU.madeU {w : World} {base g n : Nat} (hg : w.heap[g]? = some (.cells (Array.replicate n (Value.slice none 0 0)) 28 (0, 0))) (hb : base ≤ g) (hn : n ≤ 100000) : RowsU w base g (List.replicate n ⟨none, 0, []⟩) := by
  refine ⟨?_, fun r hr => ?_, fun i j r s _ hr _ g hA => ?_⟩
  · rw [List.length_replicate, List.map_replicate]
    exact ⟨by simp, .inr ⟨g, n, Array.replicate n (Value.slice none 0 0), rfl, hb, hg, Nat.le_refl _, by unfold maxLen; omega, by simp, by simp [RowU.hdr]⟩⟩
  · rw [(List.mem_replicate.1 hr).2]
    exact OwnI.nil_ _ _ _
  · have := (List.mem_replicate.1 (List.mem_of_getElem? hr)).2
    rw [this] at hA
    cases hA
/-- where code begins, before anything is handed in -/
def freshM (R A : Nat) : Ms := ⟨0, List.replicate R 0, List.replicate A [], 0, 0⟩
theorem MsW.madeU {w : World} {base gR gA R A : Nat} (h1 : w.heap[gR]? = some (.cells (Array.replicate R (Value.int .i64 0)) 2 (0, 0))) (h2 : w.heap[gA]? = some (.cells (Array.replicate A (Value.slice none 0 0)) 28 (0, 0))) (b1 : base ≤ gR) (b2 : base ≤ gA) (hR : R ≤ 100000) (hA : A ≤ 100000) :
    MsW w base gR gA (freshM R A) (List.replicate A ⟨none, 0, []⟩) := by
  refine ⟨?_, RowsU.madeU h2 b2 hA, ?_, fun r hr => ?_⟩
  · show OwnI w base 2 (some ⟨gR, 0, none⟩) (List.replicate R (0 : Int)).length (List.replicate R 0)
    rw [List.length_replicate]
    exact OwnI.madeU h1 b1 hR
  · rw [List.map_replicate]; rfl
  · rw [(List.mem_replicate.1 hr).2]; simp
structure MkU (W : World) (R A : Nat) (F : Nat → Value) (D : Nat → Bool) (vs : Nat → Value) (w' : World) : Prop where
  bel : Below W.heap.size W w'
  vals : ∀ i, i < 5 → i ≠ 2 → D i = true → vs i = F i
  m2 : D 2 = true → ∃ g, vs 2 = .slice (some ⟨g, 0, none⟩) R R ∧ W.heap.size ≤ g ∧ w'.heap[g]? = some (.cells (Array.replicate R (Value.int .i64 0)) 2 (0, 0))
  m5 : D 5 = true → ∃ g, vs 5 = .slice (some ⟨g, 0, none⟩) A A ∧ W.heap.size ≤ g ∧ w'.heap[g]? = some (.cells (Array.replicate A (Value.slice none 0 0)) 28 (0, 0))
  v6 : D 6 = true → D 2 = true ∧ D 5 = true ∧ vs 6 = .agg #[.int .i64 0, vs 2, vs 5, .int .i64 0, .int .i64 0]
  b7 : D 7 = true → ∃ g, vs 7 = .pointer (some ⟨g, 0, none⟩) ∧ W.heap.size ≤ g ∧ w'.heap[g]? = some (if D 8 = true then .cells #[.int .i64 0, vs 2, vs 5, .int .i64 0, .int .i64 0] 54 (0, 0) else stZ)
  o8 : D 8 = true → D 6 = true ∧ D 7 = true
section
variable {W w' w'' : World} {R A : Nat} {F : Nat → Value} {D D' : Nat → Bool} {vs : Nat → Value}
theorem MkU.other (h : MkU W R A F D vs w') {i : Nat} (hi : i ≠ 2 ∧ i ≠ 5 ∧ i ≠ 6 ∧ i ≠ 7 ∧ i ≠ 8) (hD : ∀ j, j ≠ i → D' j = D j) : MkU W R A F D' (fun j => if j = i then F i else vs j) w' := by
  obtain ⟨i2, i5, i6, i7, i8⟩ := hi
  refine ⟨h.bel, fun j hj j3 hd => ?_, ?_, ?_, ?_, ?_, ?_⟩
  · by_cases e : j = i
    · subst e; exact if_pos rfl
    · show (if j = i then F i else vs j) = _
      rw [if_neg e]
      exact h.vals j hj j3 (by rw [← hD j e]; exact hd)
  · rw [hD 2 i2.symm, if_neg i2.symm]; exact h.m2
  · rw [hD 5 i5.symm, if_neg i5.symm]; exact h.m5
  · rw [hD 6 i6.symm, hD 2 i2.symm, hD 5 i5.symm, if_neg i6.symm, if_neg i2.symm, if_neg i5.symm]; exact h.v6
  · rw [hD 7 i7.symm, hD 8 i8.symm, if_neg i7.symm, if_neg i2.symm, if_neg i5.symm]; exact h.b7
  · rw [hD 8 i8.symm, hD 6 i6.symm, hD 7 i7.symm]; exact h.o8
/-- a new block: which of the three it is -/
theorem MkU.fresh (h : MkU W R A F D vs w') {i : Nat} {u : Value} {ob : Obj} (hi : i = 2 ∨ i = 5 ∨ i = 7) (hDi : D i = false) (hD : ∀ j, j ≠ i → D' j = D j)
    (h2 : i = 2 → u = .slice (some ⟨w'.heap.size, 0, none⟩) R R ∧ ob = .cells (Array.replicate R (Value.int .i64 0)) 2 (0, 0))
    (h5 : i = 5 → u = .slice (some ⟨w'.heap.size, 0, none⟩) A A ∧ ob = .cells (Array.replicate A (Value.slice none 0 0)) 28 (0, 0))
    (h7 : i = 7 → u = .pointer (some ⟨w'.heap.size, 0, none⟩) ∧ ob = stZ) :
    MkU W R A F D' (fun j => if j = i then u else vs j) (w'.alloc ob) := by
  have hb : Below w'.heap.size w' (w'.alloc ob) := lvBelow w' ob
  have hsz := h.bel.size
  have hnew := heap_alloc_new w' ob
  have n6 : i ≠ 7 → D 6 = false := fun e => by
    cases e6 : D 6 with
    | false => rfl
    | true =>
      obtain ⟨q2, q5, _⟩ := h.v6 e6
      rcases hi with rfl | rfl | rfl
      · rw [q2] at hDi; cases hDi
      · rw [q5] at hDi; cases hDi
      · exact absurd rfl e
  have n8 : D 8 = false := by
    cases e8 : D 8 with
    | false => rfl
    | true =>
      obtain ⟨q6, q7⟩ := h.o8 e8
      by_cases e : i = 7
      · subst e; rw [q7] at hDi; cases hDi
      · rw [n6 e] at q6; cases q6
  refine ⟨h.bel.trans (hb.mono hsz), fun j hj j3 hd => ?_, fun hd => ?_, fun hd => ?_, fun hd => ?_, fun hd => ?_, fun hd => ?_⟩
  · have e : j ≠ i := by omega
    show (if j = i then u else vs j) = _
    rw [if_neg e]
    exact h.vals j hj j3 (by rw [← hD j e]; exact hd)
  · by_cases e : i = 2
    · obtain ⟨a1, a2⟩ := h2 e
      exact ⟨_, by rw [if_pos e.symm]; exact a1, hsz, a2 ▸ hnew⟩
    · rw [hD 2 (Ne.symm e)] at hd
      obtain ⟨g, a1, a2, a3⟩ := h.m2 hd
      exact ⟨g, by rw [if_neg (Ne.symm e)]; exact a1, a2, keep_b hb a3⟩
  · by_cases e : i = 5
    · obtain ⟨a1, a2⟩ := h5 e
      exact ⟨_, by rw [if_pos e.symm]; exact a1, hsz, a2 ▸ hnew⟩
    · rw [hD 5 (Ne.symm e)] at hd
      obtain ⟨g, a1, a2, a3⟩ := h.m5 hd
      exact ⟨g, by rw [if_neg (Ne.symm e)]; exact a1, a2, keep_b hb a3⟩
  · rw [hD 6 (by omega)] at hd
    have e : i = 7 := by
      rcases hi with rfl | rfl | rfl
      · rw [n6 (by decide)] at hd; cases hd
      · rw [n6 (by decide)] at hd; cases hd
      · rfl
    subst e
    rw [hD 2 (by decide), hD 5 (by decide)]
    exact h.v6 hd
  · rw [hD 8 (by omega), n8, if_neg (show ¬ (false = true) by decide)]
    by_cases e : i = 7
    · obtain ⟨a1, a2⟩ := h7 e
      exact ⟨_, by rw [if_pos e.symm]; exact a1, hsz, a2 ▸ hnew⟩
    · rw [hD 7 (Ne.symm e)] at hd
      obtain ⟨g, a1, a2, a3⟩ := h.b7 hd
      rw [n8, if_neg (show ¬ (false = true) by decide)] at a3
      exact ⟨g, by rw [if_neg (Ne.symm e)]; exact a1, a2, keep_b hb a3⟩
  · rw [hD 8 (by omega), n8] at hd; cases hd
theorem MkU.build (h : MkU W R A F D vs w') (h2 : D 2 = true) (h5 : D 5 = true) (h6 : D 6 = false) (hD : ∀ j, j ≠ 6 → D' j = D j) : MkU W R A F D' (fun j => if j = 6 then .agg #[.int .i64 0, vs 2, vs 5, .int .i64 0, .int .i64 0] else vs j) w' := by
  have n8 : D 8 = false := by
    cases e8 : D 8 with
    | false => rfl
    | true => rw [(h.o8 e8).1] at h6; cases h6
  refine ⟨h.bel, fun j hj j3 hd => ?_, ?_, ?_, fun _ => ?_, ?_, fun hd => ?_⟩
  · have e : j ≠ 6 := by omega
    show (if j = 6 then _ else vs j) = _
    rw [if_neg e]
    exact h.vals j hj j3 (by rw [← hD j e]; exact hd)
  · rw [hD 2 (by decide)]; exact h.m2
  · rw [hD 5 (by decide)]; exact h.m5
  · rw [hD 2 (by decide), hD 5 (by decide)]
    exact ⟨h2, h5, rfl⟩
  · rw [hD 7 (by decide), hD 8 (by decide)]; exact h.b7
  · rw [hD 8 (by decide), n8] at hd; cases hd
theorem MkU.put8 (h : MkU W R A F D vs w') (h6 : D 6 = true) (h7 : D 7 = true) (h8 : D 8 = false) {g7 : Nat} (v7 : vs 7 = .pointer (some ⟨g7, 0, none⟩)) (u : Value) (hD : ∀ j, j ≠ 8 → D' j = D j) (hDs : D' 8 = true) :
    MkU W R A F D' (fun j => if j = 8 then u else vs j) (put5 w' g7 (.int .i64 0) (vs 2) (vs 5) (.int .i64 0) (.int .i64 0)) := by
  obtain ⟨h2, h5, v6⟩ := h.v6 h6
  obtain ⟨g2, a1, a2, a3⟩ := h.m2 h2
  obtain ⟨g5, b1, b2, b3⟩ := h.m5 h5
  obtain ⟨g, c1, c2, c3⟩ := h.b7 h7
  rw [h8, if_neg (show ¬ (false = true) by decide)] at c3
  obtain rfl : g7 = g := by rw [v7] at c1; injection c1 with c1; injection c1 with c1; injection c1
  have hk : ∀ (b : Nat) (ob : Obj), b ≠ g7 → w'.heap[b]? = some ob → (put5 w' g7 (.int .i64 0) (vs 2) (vs 5) (.int .i64 0) (.int .i64 0)).heap[b]? = some ob := fun b ob hb ho => by
    unfold put5
    rw [heap_setCell_other _ _ _ _ hb, heap_setCell_other _ _ _ _ hb, heap_setCell_other _ _ _ _ hb, heap_setCell_other _ _ _ _ hb, heap_setCell_other _ _ _ _ hb]
    exact ho
  have e2 : g2 ≠ g7 := fun e => by
    rw [e, c3] at a3; injection a3 with a3; injection a3 with _ a3; exact absurd a3 (by decide)
  have e5 : g5 ≠ g7 := fun e => by
    rw [e, c3] at b3; injection b3 with b3; injection b3 with _ b3; exact absurd b3 (by decide)
  refine ⟨?_, fun j hj j3 hd => ?_, fun _ => ⟨g2, a1, a2, hk _ _ e2 a3⟩, fun _ => ⟨g5, b1, b2, hk _ _ e5 b3⟩, fun _ => ?_, fun _ => ⟨g7, v7, c2, ?_⟩, fun _ => ?_⟩
  · unfold put5
    exact ((((h.bel.setCell (p := ⟨g7, 0, none⟩) c2 _).setCell (p := ⟨g7, 1, none⟩) c2 _).setCell (p := ⟨g7, 2, none⟩) c2 _).setCell (p := ⟨g7, 3, none⟩) c2 _).setCell (p := ⟨g7, 4, none⟩) c2 _
  · have e : j ≠ 8 := by omega
    show (if j = 8 then _ else vs j) = _
    rw [if_neg e]
    exact h.vals j hj j3 (by rw [← hD j e]; exact hd)
  · rw [hD 2 (by decide), hD 5 (by decide)]; exact ⟨h2, h5, v6⟩
  · rw [hDs, if_pos rfl]
    exact five_cells c3 _ _ _ _ _
  · rw [hD 6 (by decide), hD 7 (by decide)]; exact ⟨h6, h7⟩
theorem MkU.same (h : MkU W R A F D vs w') (hD : ∀ i, i < 9 → D i = D' i) : MkU W R A F D' vs w' := by
  have e2 := hD 2 (by decide); have e5 := hD 5 (by decide); have e6 := hD 6 (by decide); have e7 := hD 7 (by decide); have e8 := hD 8 (by decide)
  refine ⟨h.bel, fun j hj j3 hd => h.vals j hj j3 (by rw [hD j (by omega)]; exact hd), ?_, ?_, ?_, ?_, ?_⟩
  · rw [← e2]; exact h.m2
  · rw [← e5]; exact h.m5
  · rw [← e6, ← e2, ← e5]; exact h.v6
  · rw [← e7, ← e8]; exact h.b7
  · rw [← e8, ← e6, ← e7]; exact h.o8
end
end Go.Proofs.YtgkngimeokhhgaaGreatDoor
/- What the machine's instructions do: registers. -/
namespace Go.Proofs.YtgkngimeokhhgaaGreatDoor
open Go.RowKit Go.Sort

set_option maxRecDepth 100000 in
set_option maxHeartbeats 8000000 in
theorem act_1 (m : Mc) (s : Ms) (rs : List RowU) (base : Nat) (w : World) (b c n : Int) (i : Nat) (h : MsM w base m s rs false) (_t0 : s.at_ ≤ 1000000) (_t1 : s.st ≤ 1000000) (_t2 : s.ce ≤ 1000000) (hrv : ∀ i, I64 (s.r i)) (hi : i < m.nr) (hn : I64 n) :
    Calls Tryz.prog 47 #[.pointer (some ⟨m.g, 0, none⟩), Ji.val (⟨1, (i : Int), b, c, n⟩)] w (ActP base m s (⟨1, (i : Int), b, c, n⟩) w) := by
  have hmx : Tryz.prog.follows .mixedOrders = true := by kernel_rfl
  obtain ⟨W0, hW0⟩ : ∃ W, w.alloc (Ji.obj (⟨1, (i : Int), b, c, n⟩)) = W := ⟨_, rfl⟩
  obtain ⟨g0, hg0⟩ : ∃ z, w.heap.size = z := ⟨_, rfl⟩
  have hb0 := lvBelow w (Ji.obj (⟨1, (i : Int), b, c, n⟩))
  have h2 := heap_alloc_new w (Ji.obj (⟨1, (i : Int), b, c, n⟩))
  rw [hW0] at hb0 h2
  rw [hg0] at h2
  have HB0 : Hid (BelI base w W0) := .of hb0 h.size_
  have HM0 := Lib.hid (h.on hb0)
  have HX0 := Lib.hid h2
  have HRV := Lib.hid hrv
  clear hb0 h2 h hrv
  go_enter Tryz.func47, Tryz.ntmps47
  go_upto_region 1 with fail
  try rw [hW0]
  try rw [hg0]
  clear hW0 hg0
  obtain ⟨x0, x1, x2, x3, x4, x5, x6, x7, x8, x9, x10, x11, x12, x13⟩ := MsM.cells HM0.out
  obtain ⟨⟨y0, y1, y2, y3, y4⟩, _⟩ := box_cellsJ HX0.out
  have hi0 : (0 : Int) ≤ (i : Int) := by omega
  have hi1 : (i : Int) < (m.nr : Int) := by omega
  clear x0 x1 x2 x3 x4 x5 x6 x8 x9 x10 x11 x12 x13 y0 y2 y3
  have xx7 := cell_regrown x7
  have xy1 := cell_regrown y1
  have xy4 := cell_regrown y4
  refine wp_region_below_tail 8 hmx (by kernel_rfl) ?_
  simp only [List.take_succ_cons, List.take_zero, List.drop_succ_cons, List.drop_zero]
  repeat (quiet_step (fail))
  refine wpQuiet_nil ?_
  intro _ hw'
  obtain ⟨⟨dq, osq⟩, hw''⟩ := hw'
  subst hw''
  obtain ⟨W9, hW9⟩ : ∃ W, grow (redrawn W0 dq) osq = W := ⟨_, rfl⟩
  have hb9 := below_regrown W0 dq osq
  rw [hW9] at hb9 ⊢
  have HM9 := Lib.hid (HM0.out.on hb9)
  have HB9 := Lib.hid (HB0.out.trans (.of hb9 HM0.out.size_))
  clear xx7 xy1 xy4 x7 y1 y4 hW9 hb9
  obtain ⟨c0, cf⟩ := HM9.out.reg (i := i) hi
  obtain ⟨hm2, hb2⟩ := HM9.out.setR i (v := n) (hn)
  have HM2 := Lib.hid hm2
  have HB2 := Lib.hid (HB9.out.trans hb2)
  clear hm2 hb2
  go_wp2_with fail
  go_ret
  exact .inl ⟨s.put (i : Int) n, rs, rfl, rfl, HM2.out, HB2.out⟩
set_option maxRecDepth 100000 in
set_option maxHeartbeats 8000000 in
theorem act_2 (m : Mc) (s : Ms) (rs : List RowU) (base : Nat) (w : World) (c n : Int) (i j : Nat) (h : MsM w base m s rs false) (_t0 : s.at_ ≤ 1000000) (_t1 : s.st ≤ 1000000) (_t2 : s.ce ≤ 1000000) (hrv : ∀ i, I64 (s.r i)) (hi : i < m.nr) (hj : j < m.nr) :
    Calls Tryz.prog 48 #[.pointer (some ⟨m.g, 0, none⟩), Ji.val (⟨2, (i : Int), (j : Int), c, n⟩)] w (ActP base m s (⟨2, (i : Int), (j : Int), c, n⟩) w) := by
  have hmx : Tryz.prog.follows .mixedOrders = true := by kernel_rfl
  obtain ⟨W0, hW0⟩ : ∃ W, w.alloc (Ji.obj (⟨2, (i : Int), (j : Int), c, n⟩)) = W := ⟨_, rfl⟩
  obtain ⟨g0, hg0⟩ : ∃ z, w.heap.size = z := ⟨_, rfl⟩
  have hb0 := lvBelow w (Ji.obj (⟨2, (i : Int), (j : Int), c, n⟩))
  have h2 := heap_alloc_new w (Ji.obj (⟨2, (i : Int), (j : Int), c, n⟩))
  rw [hW0] at hb0 h2
  rw [hg0] at h2
  have HB0 : Hid (BelI base w W0) := .of hb0 h.size_
  have HM0 := Lib.hid (h.on hb0)
  have HX0 := Lib.hid h2
  have HRV := Lib.hid hrv
  clear hb0 h2 h hrv
  go_enter Tryz.func48, Tryz.ntmps48
  go_upto_region 1 with fail
  try rw [hW0]
  try rw [hg0]
  clear hW0 hg0
  obtain ⟨x0, x1, x2, x3, x4, x5, x6, x7, x8, x9, x10, x11, x12, x13⟩ := MsM.cells HM0.out
  obtain ⟨⟨y0, y1, y2, y3, y4⟩, _⟩ := box_cellsJ HX0.out
  have hi0 : (0 : Int) ≤ (i : Int) := by omega
  have hi1 : (i : Int) < (m.nr : Int) := by omega
  have hj0 : (0 : Int) ≤ (j : Int) := by omega
  have hj1 : (j : Int) < (m.nr : Int) := by omega
  obtain ⟨b0, _⟩ := HM0.out.reg (i := j) hj
  clear x0 x1 x2 x3 x4 x5 x6 x8 x9 x10 x11 x12 x13 y0 y3 y4
  have xx7 := cell_regrown x7
  have xy1 := cell_regrown y1
  have xy2 := cell_regrown y2
  have xb0 := cell_regrown b0
  refine wp_region_below_tail 14 hmx (by kernel_rfl) ?_
  simp only [List.take_succ_cons, List.take_zero, List.drop_succ_cons, List.drop_zero]
  repeat (quiet_step (fail))
  refine wpQuiet_nil ?_
  intro _ hw'
  obtain ⟨⟨dq, osq⟩, hw''⟩ := hw'
  subst hw''
  obtain ⟨W9, hW9⟩ : ∃ W, grow (redrawn W0 dq) osq = W := ⟨_, rfl⟩
  have hb9 := below_regrown W0 dq osq
  rw [hW9] at hb9 ⊢
  have HM9 := Lib.hid (HM0.out.on hb9)
  have HB9 := Lib.hid (HB0.out.trans (.of hb9 HM0.out.size_))
  clear xx7 xy1 xy2 xb0 x7 y1 y2 b0 hW9 hb9
  obtain ⟨c0, cf⟩ := HM9.out.reg (i := i) hi
  obtain ⟨hm2, hb2⟩ := HM9.out.setR i (v := s.r (j : Int)) (HRV.out _)
  have HM2 := Lib.hid hm2
  have HB2 := Lib.hid (HB9.out.trans hb2)
  clear hm2 hb2
  go_wp2_with fail
  go_ret
  exact .inl ⟨s.put (i : Int) (s.r (j : Int)), rs, rfl, rfl, HM2.out, HB2.out⟩
set_option maxRecDepth 100000 in
set_option maxHeartbeats 8000000 in
theorem act_3 (m : Mc) (s : Ms) (rs : List RowU) (base : Nat) (w : World) (n : Int) (i j k : Nat) (h : MsM w base m s rs false) (_t0 : s.at_ ≤ 1000000) (_t1 : s.st ≤ 1000000) (_t2 : s.ce ≤ 1000000) (hrv : ∀ i, I64 (s.r i)) (hi : i < m.nr) (hj : j < m.nr) (hk : k < m.nr) :
    Calls Tryz.prog 49 #[.pointer (some ⟨m.g, 0, none⟩), Ji.val (⟨3, (i : Int), (j : Int), (k : Int), n⟩)] w (ActP base m s (⟨3, (i : Int), (j : Int), (k : Int), n⟩) w) := by
  have hmx : Tryz.prog.follows .mixedOrders = true := by kernel_rfl
  obtain ⟨W0, hW0⟩ : ∃ W, w.alloc (Ji.obj (⟨3, (i : Int), (j : Int), (k : Int), n⟩)) = W := ⟨_, rfl⟩
  obtain ⟨g0, hg0⟩ : ∃ z, w.heap.size = z := ⟨_, rfl⟩
  have hb0 := lvBelow w (Ji.obj (⟨3, (i : Int), (j : Int), (k : Int), n⟩))
  have h2 := heap_alloc_new w (Ji.obj (⟨3, (i : Int), (j : Int), (k : Int), n⟩))
  rw [hW0] at hb0 h2
  rw [hg0] at h2
  have HB0 : Hid (BelI base w W0) := .of hb0 h.size_
  have HM0 := Lib.hid (h.on hb0)
  have HX0 := Lib.hid h2
  have HRV := Lib.hid hrv
  clear hb0 h2 h hrv
  go_enter Tryz.func49, Tryz.ntmps49
  go_upto_region 1 with fail
  try rw [hW0]
  try rw [hg0]
  clear hW0 hg0
  obtain ⟨x0, x1, x2, x3, x4, x5, x6, x7, x8, x9, x10, x11, x12, x13⟩ := MsM.cells HM0.out
  obtain ⟨⟨y0, y1, y2, y3, y4⟩, _⟩ := box_cellsJ HX0.out
  have hi0 : (0 : Int) ≤ (i : Int) := by omega
  have hi1 : (i : Int) < (m.nr : Int) := by omega
  have hj0 : (0 : Int) ≤ (j : Int) := by omega
  have hj1 : (j : Int) < (m.nr : Int) := by omega
  have hk0 : (0 : Int) ≤ (k : Int) := by omega
  have hk1 : (k : Int) < (m.nr : Int) := by omega
  obtain ⟨b0, _⟩ := HM0.out.reg (i := j) hj
  obtain ⟨d0, _⟩ := HM0.out.reg (i := k) hk
  clear x0 x1 x2 x3 x4 x5 x6 x8 x9 x10 x11 x12 x13 y0 y4
  have xx7 := cell_regrown x7
  have xy1 := cell_regrown y1
  have xy2 := cell_regrown y2
  have xy3 := cell_regrown y3
  have xb0 := cell_regrown b0
  have xd0 := cell_regrown d0
  refine wp_region_below_tail 23 hmx (by kernel_rfl) ?_
  simp only [List.take_succ_cons, List.take_zero, List.drop_succ_cons, List.drop_zero]
  repeat (quiet_step (fail))
  refine wpQuiet_nil ?_
  intro _ hw'
  obtain ⟨⟨dq, osq⟩, hw''⟩ := hw'
  subst hw''
  obtain ⟨W9, hW9⟩ : ∃ W, grow (redrawn W0 dq) osq = W := ⟨_, rfl⟩
  have hb9 := below_regrown W0 dq osq
  rw [hW9] at hb9 ⊢
  have HM9 := Lib.hid (HM0.out.on hb9)
  have HB9 := Lib.hid (HB0.out.trans (.of hb9 HM0.out.size_))
  clear xx7 xy1 xy2 xy3 xb0 xd0 x7 y1 y2 y3 b0 d0 hW9 hb9
  obtain ⟨c0, cf⟩ := HM9.out.reg (i := i) hi
  obtain ⟨hm2, hb2⟩ := HM9.out.setR i (v := wrap64 (s.r (j : Int) + s.r (k : Int))) (.wrap _)
  have HM2 := Lib.hid hm2
  have HB2 := Lib.hid (HB9.out.trans hb2)
  clear hm2 hb2
  go_wp2_with fail
  go_ret
  exact .inl ⟨s.put (i : Int) (wrap64 (s.r (j : Int) + s.r (k : Int))), rs, rfl, rfl, HM2.out, HB2.out⟩
set_option maxRecDepth 100000 in
set_option maxHeartbeats 8000000 in
theorem act_4 (m : Mc) (s : Ms) (rs : List RowU) (base : Nat) (w : World) (n : Int) (i j k : Nat) (h : MsM w base m s rs false) (_t0 : s.at_ ≤ 1000000) (_t1 : s.st ≤ 1000000) (_t2 : s.ce ≤ 1000000) (hrv : ∀ i, I64 (s.r i)) (hi : i < m.nr) (hj : j < m.nr) (hk : k < m.nr) :
    Calls Tryz.prog 50 #[.pointer (some ⟨m.g, 0, none⟩), Ji.val (⟨4, (i : Int), (j : Int), (k : Int), n⟩)] w (ActP base m s (⟨4, (i : Int), (j : Int), (k : Int), n⟩) w) := by
  have hmx : Tryz.prog.follows .mixedOrders = true := by kernel_rfl
  obtain ⟨W0, hW0⟩ : ∃ W, w.alloc (Ji.obj (⟨4, (i : Int), (j : Int), (k : Int), n⟩)) = W := ⟨_, rfl⟩
  obtain ⟨g0, hg0⟩ : ∃ z, w.heap.size = z := ⟨_, rfl⟩
  have hb0 := lvBelow w (Ji.obj (⟨4, (i : Int), (j : Int), (k : Int), n⟩))
  have h2 := heap_alloc_new w (Ji.obj (⟨4, (i : Int), (j : Int), (k : Int), n⟩))
  rw [hW0] at hb0 h2
  rw [hg0] at h2
  have HB0 : Hid (BelI base w W0) := .of hb0 h.size_
  have HM0 := Lib.hid (h.on hb0)
  have HX0 := Lib.hid h2
  have HRV := Lib.hid hrv
  clear hb0 h2 h hrv
  go_enter Tryz.func50, Tryz.ntmps50
  go_upto_region 1 with fail
  try rw [hW0]
  try rw [hg0]
  clear hW0 hg0
  obtain ⟨x0, x1, x2, x3, x4, x5, x6, x7, x8, x9, x10, x11, x12, x13⟩ := MsM.cells HM0.out
  obtain ⟨⟨y0, y1, y2, y3, y4⟩, _⟩ := box_cellsJ HX0.out
  have hi0 : (0 : Int) ≤ (i : Int) := by omega
  have hi1 : (i : Int) < (m.nr : Int) := by omega
  have hj0 : (0 : Int) ≤ (j : Int) := by omega
  have hj1 : (j : Int) < (m.nr : Int) := by omega
  have hk0 : (0 : Int) ≤ (k : Int) := by omega
  have hk1 : (k : Int) < (m.nr : Int) := by omega
  obtain ⟨b0, _⟩ := HM0.out.reg (i := j) hj
  obtain ⟨d0, _⟩ := HM0.out.reg (i := k) hk
  clear x0 x1 x2 x3 x4 x5 x6 x8 x9 x10 x11 x12 x13 y0 y4
  have xx7 := cell_regrown x7
  have xy1 := cell_regrown y1
  have xy2 := cell_regrown y2
  have xy3 := cell_regrown y3
  have xb0 := cell_regrown b0
  have xd0 := cell_regrown d0
  refine wp_region_below_tail 23 hmx (by kernel_rfl) ?_
  simp only [List.take_succ_cons, List.take_zero, List.drop_succ_cons, List.drop_zero]
  repeat (quiet_step (fail))
  refine wpQuiet_nil ?_
  intro _ hw'
  obtain ⟨⟨dq, osq⟩, hw''⟩ := hw'
  subst hw''
  obtain ⟨W9, hW9⟩ : ∃ W, grow (redrawn W0 dq) osq = W := ⟨_, rfl⟩
  have hb9 := below_regrown W0 dq osq
  rw [hW9] at hb9 ⊢
  have HM9 := Lib.hid (HM0.out.on hb9)
  have HB9 := Lib.hid (HB0.out.trans (.of hb9 HM0.out.size_))
  clear xx7 xy1 xy2 xy3 xb0 xd0 x7 y1 y2 y3 b0 d0 hW9 hb9
  obtain ⟨c0, cf⟩ := HM9.out.reg (i := i) hi
  obtain ⟨hm2, hb2⟩ := HM9.out.setR i (v := wrap64 (s.r (j : Int) - s.r (k : Int))) (.wrap _)
  have HM2 := Lib.hid hm2
  have HB2 := Lib.hid (HB9.out.trans hb2)
  clear hm2 hb2
  go_wp2_with fail
  go_ret
  exact .inl ⟨s.put (i : Int) (wrap64 (s.r (j : Int) - s.r (k : Int))), rs, rfl, rfl, HM2.out, HB2.out⟩
set_option maxRecDepth 100000 in
set_option maxHeartbeats 8000000 in
theorem act_5 (m : Mc) (s : Ms) (rs : List RowU) (base : Nat) (w : World) (n : Int) (i j k : Nat) (h : MsM w base m s rs false) (_t0 : s.at_ ≤ 1000000) (_t1 : s.st ≤ 1000000) (_t2 : s.ce ≤ 1000000) (hrv : ∀ i, I64 (s.r i)) (hi : i < m.nr) (hj : j < m.nr) (hk : k < m.nr) :
    Calls Tryz.prog 51 #[.pointer (some ⟨m.g, 0, none⟩), Ji.val (⟨5, (i : Int), (j : Int), (k : Int), n⟩)] w (ActP base m s (⟨5, (i : Int), (j : Int), (k : Int), n⟩) w) := by
  have hmx : Tryz.prog.follows .mixedOrders = true := by kernel_rfl
  obtain ⟨W0, hW0⟩ : ∃ W, w.alloc (Ji.obj (⟨5, (i : Int), (j : Int), (k : Int), n⟩)) = W := ⟨_, rfl⟩
  obtain ⟨g0, hg0⟩ : ∃ z, w.heap.size = z := ⟨_, rfl⟩
  have hb0 := lvBelow w (Ji.obj (⟨5, (i : Int), (j : Int), (k : Int), n⟩))
  have h2 := heap_alloc_new w (Ji.obj (⟨5, (i : Int), (j : Int), (k : Int), n⟩))
  rw [hW0] at hb0 h2
  rw [hg0] at h2
  have HB0 : Hid (BelI base w W0) := .of hb0 h.size_
  have HM0 := Lib.hid (h.on hb0)
  have HX0 := Lib.hid h2
  have HRV := Lib.hid hrv
  clear hb0 h2 h hrv
  go_enter Tryz.func51, Tryz.ntmps51
  go_upto_region 1 with fail
  try rw [hW0]
  try rw [hg0]
  clear hW0 hg0
  obtain ⟨x0, x1, x2, x3, x4, x5, x6, x7, x8, x9, x10, x11, x12, x13⟩ := MsM.cells HM0.out
  obtain ⟨⟨y0, y1, y2, y3, y4⟩, _⟩ := box_cellsJ HX0.out
  have hi0 : (0 : Int) ≤ (i : Int) := by omega
  have hi1 : (i : Int) < (m.nr : Int) := by omega
  have hj0 : (0 : Int) ≤ (j : Int) := by omega
  have hj1 : (j : Int) < (m.nr : Int) := by omega
  have hk0 : (0 : Int) ≤ (k : Int) := by omega
  have hk1 : (k : Int) < (m.nr : Int) := by omega
  obtain ⟨b0, _⟩ := HM0.out.reg (i := j) hj
  obtain ⟨d0, _⟩ := HM0.out.reg (i := k) hk
  clear x0 x1 x2 x3 x4 x5 x6 x8 x9 x10 x11 x12 x13 y0 y4
  have xx7 := cell_regrown x7
  have xy1 := cell_regrown y1
  have xy2 := cell_regrown y2
  have xy3 := cell_regrown y3
  have xb0 := cell_regrown b0
  have xd0 := cell_regrown d0
  refine wp_region_below_tail 23 hmx (by kernel_rfl) ?_
  simp only [List.take_succ_cons, List.take_zero, List.drop_succ_cons, List.drop_zero]
  repeat (quiet_step (fail))
  refine wpQuiet_nil ?_
  intro _ hw'
  obtain ⟨⟨dq, osq⟩, hw''⟩ := hw'
  subst hw''
  obtain ⟨W9, hW9⟩ : ∃ W, grow (redrawn W0 dq) osq = W := ⟨_, rfl⟩
  have hb9 := below_regrown W0 dq osq
  rw [hW9] at hb9 ⊢
  have HM9 := Lib.hid (HM0.out.on hb9)
  have HB9 := Lib.hid (HB0.out.trans (.of hb9 HM0.out.size_))
  clear xx7 xy1 xy2 xy3 xb0 xd0 x7 y1 y2 y3 b0 d0 hW9 hb9
  obtain ⟨c0, cf⟩ := HM9.out.reg (i := i) hi
  obtain ⟨hm2, hb2⟩ := HM9.out.setR i (v := wrap64 (s.r (j : Int) * s.r (k : Int))) (.wrap _)
  have HM2 := Lib.hid hm2
  have HB2 := Lib.hid (HB9.out.trans hb2)
  clear hm2 hb2
  go_wp2_with fail
  go_ret
  exact .inl ⟨s.put (i : Int) (wrap64 (s.r (j : Int) * s.r (k : Int))), rs, rfl, rfl, HM2.out, HB2.out⟩
end Go.Proofs.YtgkngimeokhhgaaGreatDoor
/- What the machine's instructions do: the end, and places. -/
namespace Go.Proofs.YtgkngimeokhhgaaGreatDoor
open Go.RowKit Go.Sort

set_option maxRecDepth 100000 in
set_option maxHeartbeats 8000000 in
theorem act_0 (m : Mc) (s : Ms) (rs : List RowU) (base : Nat) (w : World) (a b c n : Int) (h : MsM w base m s rs false) (_t0 : s.at_ ≤ 1000000) (_t1 : s.st ≤ 1000000) (_t2 : s.ce ≤ 1000000) (hrv : ∀ i, I64 (s.r i)) :
    Calls Tryz.prog 46 #[.pointer (some ⟨m.g, 0, none⟩), Ji.val (⟨0, a, b, c, n⟩)] w (ActP base m s (⟨0, a, b, c, n⟩) w) := by
  have hmx : Tryz.prog.follows .mixedOrders = true := by kernel_rfl
  obtain ⟨W0, hW0⟩ : ∃ W, w.alloc (Ji.obj (⟨0, a, b, c, n⟩)) = W := ⟨_, rfl⟩
  obtain ⟨g0, hg0⟩ : ∃ z, w.heap.size = z := ⟨_, rfl⟩
  have hb0 := lvBelow w (Ji.obj (⟨0, a, b, c, n⟩))
  have h2 := heap_alloc_new w (Ji.obj (⟨0, a, b, c, n⟩))
  rw [hW0] at hb0 h2
  rw [hg0] at h2
  have HB0 : Hid (BelI base w W0) := .of hb0 h.size_
  have HM0 := Lib.hid (h.on hb0)
  have HX0 := Lib.hid h2
  have HRV := Lib.hid hrv
  clear hb0 h2 h hrv
  go_enter Tryz.func46, Tryz.ntmps46
  go_upto_region 1 with fail
  try rw [hW0]
  try rw [hg0]
  clear hW0 hg0
  obtain ⟨x0, x1, x2, x3, x4, x5, x6, x7, x8, x9, x10, x11, x12, x13⟩ := MsM.cells HM0.out
  obtain ⟨⟨y0, y1, y2, y3, y4⟩, _⟩ := box_cellsJ HX0.out
  have HF := Lib.hid (HM0.out.field (i := 13) (v := .bool true) (s' := s) (en' := true) rfl rfl rfl)
  have z13 := HM0.out.fz 13
  clear x0 x1 x2 x3 x4 x5 x6 x7 x8 x9 x10 x11 x12 y0 y1 y2 y3 y4
  go_wp2_with fail
  go_ret
  exact .inl ⟨s, rs, rfl, rfl, HF.out.1, HB0.out.trans HF.out.2⟩
set_option maxRecDepth 100000 in
set_option maxHeartbeats 8000000 in
theorem act_10 (m : Mc) (s : Ms) (rs : List RowU) (base : Nat) (w : World) (b c n : Int) (i : Nat) (h : MsM w base m s rs false) (_t0 : s.at_ ≤ 1000000) (_t1 : s.st ≤ 1000000) (_t2 : s.ce ≤ 1000000) (hrv : ∀ i, I64 (s.r i)) :
    Calls Tryz.prog 56 #[.pointer (some ⟨m.g, 0, none⟩), Ji.val (⟨10, (i : Int), b, c, n⟩)] w (ActP base m s (⟨10, (i : Int), b, c, n⟩) w) := by
  have hmx : Tryz.prog.follows .mixedOrders = true := by kernel_rfl
  obtain ⟨W0, hW0⟩ : ∃ W, w.alloc (Ji.obj (⟨10, (i : Int), b, c, n⟩)) = W := ⟨_, rfl⟩
  obtain ⟨g0, hg0⟩ : ∃ z, w.heap.size = z := ⟨_, rfl⟩
  have hb0 := lvBelow w (Ji.obj (⟨10, (i : Int), b, c, n⟩))
  have h2 := heap_alloc_new w (Ji.obj (⟨10, (i : Int), b, c, n⟩))
  rw [hW0] at hb0 h2
  rw [hg0] at h2
  have HB0 : Hid (BelI base w W0) := .of hb0 h.size_
  have HM0 := Lib.hid (h.on hb0)
  have HX0 := Lib.hid h2
  have HRV := Lib.hid hrv
  clear hb0 h2 h hrv
  go_enter Tryz.func56, Tryz.ntmps56
  go_upto_region 1 with fail
  try rw [hW0]
  try rw [hg0]
  clear hW0 hg0
  obtain ⟨x0, x1, x2, x3, x4, x5, x6, x7, x8, x9, x10, x11, x12, x13⟩ := MsM.cells HM0.out
  obtain ⟨⟨y0, y1, y2, y3, y4⟩, _⟩ := box_cellsJ HX0.out
  have HF := Lib.hid (HM0.out.field (i := 12) (v := .int .i64 (i : Int)) (s' := s.goto_ (i : Int)) (en' := false) rfl rfl rfl)
  have z12 := HM0.out.fz 12
  clear x0 x1 x2 x3 x4 x5 x6 x7 x8 x9 x10 x11 x13 y0 y2 y3 y4
  go_wp2_with fail
  go_ret
  exact .inl ⟨s.goto_ (i : Int), rs, rfl, rfl, HF.out.1, HB0.out.trans HF.out.2⟩
set_option maxRecDepth 100000 in
set_option maxHeartbeats 8000000 in
theorem act_11 (m : Mc) (s : Ms) (rs : List RowU) (base : Nat) (w : World) (n : Int) (i j k : Nat) (h : MsM w base m s rs false) (_t0 : s.at_ ≤ 1000000) (_t1 : s.st ≤ 1000000) (_t2 : s.ce ≤ 1000000) (hrv : ∀ i, I64 (s.r i)) (hi : i < m.nr) (hj : j < m.nr) :
    Calls Tryz.prog 57 #[.pointer (some ⟨m.g, 0, none⟩), Ji.val (⟨11, (i : Int), (j : Int), (k : Int), n⟩)] w (ActP base m s (⟨11, (i : Int), (j : Int), (k : Int), n⟩) w) := by
  have hmx : Tryz.prog.follows .mixedOrders = true := by kernel_rfl
  obtain ⟨W0, hW0⟩ : ∃ W, w.alloc (Ji.obj (⟨11, (i : Int), (j : Int), (k : Int), n⟩)) = W := ⟨_, rfl⟩
  obtain ⟨g0, hg0⟩ : ∃ z, w.heap.size = z := ⟨_, rfl⟩
  have hb0 := lvBelow w (Ji.obj (⟨11, (i : Int), (j : Int), (k : Int), n⟩))
  have h2 := heap_alloc_new w (Ji.obj (⟨11, (i : Int), (j : Int), (k : Int), n⟩))
  rw [hW0] at hb0 h2
  rw [hg0] at h2
  have HB0 : Hid (BelI base w W0) := .of hb0 h.size_
  have HM0 := Lib.hid (h.on hb0)
  have HX0 := Lib.hid h2
  have HRV := Lib.hid hrv
  clear hb0 h2 h hrv
  go_enter Tryz.func57, Tryz.ntmps57
  go_upto_region 1 with fail
  try rw [hW0]
  try rw [hg0]
  clear hW0 hg0
  obtain ⟨x0, x1, x2, x3, x4, x5, x6, x7, x8, x9, x10, x11, x12, x13⟩ := MsM.cells HM0.out
  obtain ⟨⟨y0, y1, y2, y3, y4⟩, _⟩ := box_cellsJ HX0.out
  have hi0 : (0 : Int) ≤ (i : Int) := by omega
  have hi1 : (i : Int) < (m.nr : Int) := by omega
  have hj0 : (0 : Int) ≤ (j : Int) := by omega
  have hj1 : (j : Int) < (m.nr : Int) := by omega
  obtain ⟨b0, _⟩ := HM0.out.reg (i := i) hi
  obtain ⟨d0, _⟩ := HM0.out.reg (i := j) hj
  have HF := fun x => Lib.hid ((HM0.out.drewN x).field (i := 12) (v := .int .i64 (k : Int)) (s' := s.goto_ (k : Int)) (en' := false) rfl rfl rfl)
  have z12 := HM0.out.fz 12
  obtain ⟨u, hu⟩ : ∃ u, s.r (i : Int) = u := ⟨_, rfl⟩
  obtain ⟨v, hv⟩ : ∃ v, s.r (j : Int) = v := ⟨_, rfl⟩
  rw [hu] at b0
  rw [hv] at d0
  have HUV := Lib.hid (And.intro hu hv)
  clear hu hv
  clear x0 x1 x2 x3 x4 x5 x6 x8 x9 x10 x11 x13 y0 y4
  by_cases hc : u < v
  · have hd : decide (u < v) = true := decide_eq_true hc
    have HC := Lib.hid hc
    clear hc
    go_quiet (fail)
    go_wp2_with fail
    go_ret
    exact .inl ⟨s.goto_ (k : Int), rs, by unfold doM; simp only [if_true, if_false, Int.reduceEq]; rw [HUV.out.1, HUV.out.2, if_pos HC.out], rfl, (HF _).out.1, (HB0.out.N _).trans (HF _).out.2⟩
  · have hd : decide (u < v) = false := decide_eq_false hc
    have HC := Lib.hid hc
    clear hc
    go_quiet (fail)
    go_wp2_with fail
    go_ret
    exact .inl ⟨s, rs, by unfold doM; simp only [if_true, if_false, Int.reduceEq]; rw [HUV.out.1, HUV.out.2, if_neg (Int.not_lt.2 HC.out)], rfl, HM0.out.drewN _, HB0.out.N _⟩
set_option maxRecDepth 100000 in
set_option maxHeartbeats 8000000 in
theorem act_12 (m : Mc) (s : Ms) (rs : List RowU) (base : Nat) (w : World) (n : Int) (i j k : Nat) (h : MsM w base m s rs false) (_t0 : s.at_ ≤ 1000000) (_t1 : s.st ≤ 1000000) (_t2 : s.ce ≤ 1000000) (hrv : ∀ i, I64 (s.r i)) (hi : i < m.nr) (hj : j < m.nr) :
    Calls Tryz.prog 58 #[.pointer (some ⟨m.g, 0, none⟩), Ji.val (⟨12, (i : Int), (j : Int), (k : Int), n⟩)] w (ActP base m s (⟨12, (i : Int), (j : Int), (k : Int), n⟩) w) := by
  have hmx : Tryz.prog.follows .mixedOrders = true := by kernel_rfl
  obtain ⟨W0, hW0⟩ : ∃ W, w.alloc (Ji.obj (⟨12, (i : Int), (j : Int), (k : Int), n⟩)) = W := ⟨_, rfl⟩
  obtain ⟨g0, hg0⟩ : ∃ z, w.heap.size = z := ⟨_, rfl⟩
  have hb0 := lvBelow w (Ji.obj (⟨12, (i : Int), (j : Int), (k : Int), n⟩))
  have h2 := heap_alloc_new w (Ji.obj (⟨12, (i : Int), (j : Int), (k : Int), n⟩))
  rw [hW0] at hb0 h2
  rw [hg0] at h2
  have HB0 : Hid (BelI base w W0) := .of hb0 h.size_
  have HM0 := Lib.hid (h.on hb0)
  have HX0 := Lib.hid h2
  have HRV := Lib.hid hrv
  clear hb0 h2 h hrv
  go_enter Tryz.func58, Tryz.ntmps58
  go_upto_region 1 with fail
  try rw [hW0]
  try rw [hg0]
  clear hW0 hg0
  obtain ⟨x0, x1, x2, x3, x4, x5, x6, x7, x8, x9, x10, x11, x12, x13⟩ := MsM.cells HM0.out
  obtain ⟨⟨y0, y1, y2, y3, y4⟩, _⟩ := box_cellsJ HX0.out
  have hi0 : (0 : Int) ≤ (i : Int) := by omega
  have hi1 : (i : Int) < (m.nr : Int) := by omega
  have hj0 : (0 : Int) ≤ (j : Int) := by omega
  have hj1 : (j : Int) < (m.nr : Int) := by omega
  obtain ⟨b0, _⟩ := HM0.out.reg (i := i) hi
  obtain ⟨d0, _⟩ := HM0.out.reg (i := j) hj
  have HF := fun x => Lib.hid ((HM0.out.drewN x).field (i := 12) (v := .int .i64 (k : Int)) (s' := s.goto_ (k : Int)) (en' := false) rfl rfl rfl)
  have z12 := HM0.out.fz 12
  obtain ⟨u, hu⟩ : ∃ u, s.r (i : Int) = u := ⟨_, rfl⟩
  obtain ⟨v, hv⟩ : ∃ v, s.r (j : Int) = v := ⟨_, rfl⟩
  rw [hu] at b0
  rw [hv] at d0
  have HUV := Lib.hid (And.intro hu hv)
  clear hu hv
  clear x0 x1 x2 x3 x4 x5 x6 x8 x9 x10 x11 x13 y0 y4
  by_cases hc : u = v
  · have hd : (u == v) = true := beq_iff_eq.2 hc
    have HC := Lib.hid hc
    clear hc
    go_quiet (fail)
    go_wp2_with fail
    go_ret
    exact .inl ⟨s.goto_ (k : Int), rs, by unfold doM; simp only [if_true, if_false, Int.reduceEq]; rw [HUV.out.1, HUV.out.2, if_pos HC.out], rfl, (HF _).out.1, (HB0.out.N _).trans (HF _).out.2⟩
  · have hd : (u == v) = false := by simpa using hc
    have HC := Lib.hid hc
    clear hc
    go_quiet (fail)
    go_wp2_with fail
    go_ret
    exact .inl ⟨s, rs, by unfold doM; simp only [if_true, if_false, Int.reduceEq]; rw [HUV.out.1, HUV.out.2, if_neg HC.out], rfl, HM0.out.drewN _, HB0.out.N _⟩
end Go.Proofs.YtgkngimeokhhgaaGreatDoor
/- The machine's arrays: which one a number tells; whether a list has a place. -/
namespace Go.Proofs.YtgkngimeokhhgaaGreatDoor
open Go.RowKit Go.Sort

/-- where an array's header lies -/
def RowAt (w : World) (m : Mc) (s : Ms) (k : Nat) (a : Option Addr) (c : Nat) : Prop :=
  (k < m.i ∧ k < m.n ∧ ∃ b off, m.A = some ⟨b, off, none⟩ ∧ w.cell? ⟨b, off + k, none⟩ = some (.slice a (s.a (k : Int)).length c)) ∨
  (m.i ≤ k ∧ k - m.i < m.na ∧ w.cell? ⟨m.gO, k - m.i, none⟩ = some (.slice a (s.a (k : Int)).length c))
theorem MsM.rowAt {w : World} {base : Nat} {m : Mc} {s : Ms} {rs : List RowU} {en : Bool} (h : MsM w base m s rs en) {k : Nat} (hk : k < s.A.length) (hi : m.ins.length = m.i) :
    ∃ a c, Hid (RowAt w m s k a c) ∧ Hid (Ints w w.heap.size a (s.a (k : Int)).length (s.a (k : Int))) ∧ Hid (m.i ≤ k → ∃ r, rs[k - m.i]? = some r ∧ r.A = a ∧ r.L = s.a (k : Int)) := by
  by_cases h1 : k < m.i
  · obtain ⟨h2, b, off, a, c, h3, h4, _, h6⟩ := h.rowI h1 hi
    exact ⟨a, c, .inl ⟨h1, h2, b, off, h3, h4⟩, h6.more h.size_, fun h7 => by omega⟩
  · obtain ⟨h2, r, h3, h4, h5, h6, _⟩ := h.rowO (k := k) (by omega) hk
    exact ⟨r.A, r.c, .inr ⟨by omega, h2, h6⟩, by rw [← h4]; exact h5.ints, fun _ => ⟨r, h3, rfl, h4⟩⟩
set_option maxRecDepth 100000 in
set_option maxHeartbeats 1000000 in
theorem has_any (A : Option Addr) (n c : Nat) (v : Int) (w : World) : Calls Tryz.prog 78 #[.slice A n c, .int .i64 v] w fun e w' => e = .returned (.bool (decide (0 ≤ v) && decide (v < (n : Int)))) ∧ w' = w := by
  by_cases h0 : 0 ≤ v
  · have d0 : decide (0 ≤ v) = true := decide_eq_true h0
    obtain ⟨b, hb⟩ : ∃ b, decide (v < (n : Int)) = b := ⟨_, rfl⟩
    rw [d0, hb]
    clear h0
    go_enter Tryz.func78, Tryz.ntmps78
    go_wp2_with fail
    go_ret
    exact ⟨rfl, rfl⟩
  · have d0 : decide (0 ≤ v) = false := decide_eq_false h0
    rw [d0]
    clear h0
    go_enter Tryz.func78, Tryz.ntmps78
    go_wp2_with fail
    go_ret
    exact ⟨rfl, rfl⟩
set_option maxRecDepth 100000 in
set_option maxHeartbeats 4000000 in
theorem array_any (m : Mc) (s : Ms) (rs : List RowU) (base : Nat) (w : World) (en : Bool) (h : MsM w base m s rs en) (k : Nat) (a : Option Addr) (c : Nat) (hr : RowAt w m s k a c) (h1 : k ≤ 1000) (h2 : m.i ≤ 1000) :
    Calls Tryz.prog 77 #[.pointer (some ⟨m.g, 0, none⟩), .int .i64 (k : Int)] w fun e w' => e = .returned (.slice a (s.a (k : Int)).length c) ∧ ∃ q, w' = w.drewN q := by
  obtain ⟨x0, x1, x2, x3, x4, x5, x6, x7, x8, x9, x10, x11, x12, x13⟩ := MsM.cells h
  clear h x1 x2 x3 x4 x6 x7 x9 x10 x11 x12 x13
  rcases hr with ⟨h3, h4, b, off, h5, h6⟩ | ⟨h3, h4, h6⟩
  · rw [h5] at x8
    have k0 : (0 : Int) ≤ (k : Int) := by omega
    have k1 : (k : Int) < (m.n : Int) := by omega
    have hd : decide (k < m.i) = true := decide_eq_true (by omega)
    clear h1 h2 h4 h5 x0
    go_enter Tryz.func77, Tryz.ntmps77
    go_wp2_with fail
    go_ret
    exact ⟨rfl, 0, rfl⟩
  · obtain ⟨p, hp⟩ : ∃ p, k - m.i = p := ⟨_, rfl⟩
    rw [hp] at h4 h6
    have hd : decide (k < m.i) = false := decide_eq_false (by omega)
    have hn : ¬ k < m.i := by omega
    have hs : (k : Int) - (m.i : Int) = (p : Int) := by omega
    have p0 : (0 : Int) ≤ (p : Int) := by omega
    have p1 : (p : Int) < (m.na : Int) := by omega
    clear h3 h4 hp x8
    go_enter Tryz.func77, Tryz.ntmps77
    go_upto_region 3 with fail
    go_quiet (fail)
    go_wp2_with fail
    go_ret
    exact ⟨rfl, _, rfl⟩
theorem array_b (m : Mc) (s : Ms) (rs : List RowU) (base : Nat) (w : World) (en : Bool) (h : MsM w base m s rs en) (k : Nat) (a : Option Addr) (c : Nat) (hr : RowAt w m s k a c) (h1 : k ≤ 1000) (h2 : m.i ≤ 1000) :
    Calls Tryz.prog 77 #[.pointer (some ⟨m.g, 0, none⟩), .int .i64 (k : Int)] w fun e w' => e = .returned (.slice a (s.a (k : Int)).length c) ∧ Below w.heap.size w w' :=
  (array_any m s rs base w en h k a c hr h1 h2).mono fun _ _ ⟨he, q, hw⟩ => ⟨he, by rw [hw]; exact below_N (Below.refl _ _) q⟩
theorem RowAt.on {w w' : World} {m : Mc} {s : Ms} {k c : Nat} {a : Option Addr} (h : RowAt w m s k a c) (hb : Below w.heap.size w w') : RowAt w' m s k a c := by
  rcases h with ⟨h1, h2, b, off, h3, h4⟩ | ⟨h1, h2, h4⟩
  · exact .inl ⟨h1, h2, b, off, h3, (hb.cell (World.block_lt_of_cell? _ _ h4)).trans h4⟩
  · exact .inr ⟨h1, h2, (hb.cell (World.block_lt_of_cell? _ _ h4)).trans h4⟩
end Go.Proofs.YtgkngimeokhhgaaGreatDoor
