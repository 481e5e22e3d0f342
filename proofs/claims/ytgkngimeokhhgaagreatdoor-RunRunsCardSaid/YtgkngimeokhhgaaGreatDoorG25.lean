/- What lies in memory while the program tells a path. -/
import Derived.Test.YtgkngimeokhhgaaGreatDoorG24
import Derived.Test.YtgkngimeokhhgaaGreatDoorG23
import Derived.Test.YtgkngimeokhhgaaGreatDoorG10
import Derived.Test.YtgkngimeokhhgaaGreatDoorG19
import Derived.Test.YtgkngimeokhhgaaGreatDoorG20
import Derived.Test.YtgkngimeokhhgaaGreatDoorG22
import Derived.Test.YtgkngimeokhhgaaGreatDoorG4
import Derived.Test.YtgkngimeokhhgaaGreatDoorG6
import Derived.Test.YtgkngimeokhhgaaGreatDoorG16
namespace Go.Proofs.YtgkngimeokhhgaaGreatDoor
open Go.RowKit Go.Sort

theorem MsM.lower {w : World} {base base' : Nat} {m : Mc} {s : Ms} {rs : List RowU} {en : Bool} (h : MsM w base m s rs en) (hb : base' ≤ base) (hj : Jis w base' m.P m.n0 m.l) (hi : IntsLL w base' m.A m.n m.ins) : MsM w base' m s rs en :=
  ⟨h.H, h.M.lower hb, h.D, hj, hi, h.pre, h.nr, h.na, Nat.le_trans hb h.g0⟩
/-- what begin tells of a machine -/
def BegF (q : Cq) (fuel cells : Int) (A : Option Addr) (n : Nat) (ins : List (List Int)) (m : Mc) : Prop := m.l = q.l ∧ m.n0 = q.n ∧ (m.i : Int) = q.I ∧ m.ins = ins ∧ m.fuel = fuel ∧ m.cells = cells ∧ m.P = q.P ∧ m.A = A ∧ m.n = n
/-- a machine, and a list of numbers, come up in some order -/
structure PtJ (W : World) (N : Nat) (q : Cq) (fuel cells : Int) (A : Option Addr) (n : Nat) (ins : List (List Int)) (F : Nat → Value) (D : Nat → Bool) (vs : Nat → Value) (w' : World) : Prop where
  bel : Below W.heap.size W w'
  vals : ∀ i, i < 6 → i ≠ 4 → D i = true → vs i = F i
  c4 : D 4 = true → ∃ m rs B, vs 4 = .pointer (some ⟨m.g, 0, none⟩) ∧ MsM w' B m (startM q.cd ins) rs false ∧ W.heap.size ≤ B ∧ BegF q fuel cells A n ins m
  m6 : D 6 = true → ∃ g, vs 6 = .slice (some ⟨g, 0, none⟩) N N ∧ W.heap.size ≤ g ∧ w'.heap[g]? = some (.cells (Array.replicate N (Value.int .i64 0)) 3 (0, 0))
  v7 : D 7 = true → D 4 = true ∧ vs 7 = vs 4
  v8 : D 8 = true → D 6 = true ∧ vs 8 = vs 6
section
variable {W w' w'' : World} {N n : Nat} {q : Cq} {fuel cells : Int} {A : Option Addr} {ins : List (List Int)} {F : Nat → Value} {D D' : Nat → Bool} {vs : Nat → Value}
theorem PtJ.other (h : PtJ W N q fuel cells A n ins F D vs w') {i : Nat} (hi : i < 6 ∧ i ≠ 4) (hD : ∀ j, j ≠ i → D' j = D j) : PtJ W N q fuel cells A n ins F D' (fun j => if j = i then F i else vs j) w' := by
  obtain ⟨i6, i4⟩ := hi
  have n4 : (4 : Nat) ≠ i := fun e => i4 e.symm
  have n6 : (6 : Nat) ≠ i := by omega
  have n7 : (7 : Nat) ≠ i := by omega
  have n8 : (8 : Nat) ≠ i := by omega
  refine ⟨h.bel, fun j hj j4 hd => ?_, ?_, ?_, ?_, ?_⟩
  · by_cases e : j = i
    · subst e; exact if_pos rfl
    · show (if j = i then F i else vs j) = _
      rw [if_neg e]
      exact h.vals j hj j4 (by rw [← hD j e]; exact hd)
  · rw [hD 4 n4, if_neg n4]; exact h.c4
  · rw [hD 6 n6, if_neg n6]; exact h.m6
  · rw [hD 7 n7, hD 4 n4, if_neg n7, if_neg n4]; exact h.v7
  · rw [hD 8 n8, hD 6 n6, if_neg n8, if_neg n6]; exact h.v8
theorem PtJ.call (h : PtJ W N q fuel cells A n ins F D vs w') (hDi : D 4 = false) {m : Mc} {rs : List RowU} (hM : MsM w'' w'.heap.size m (startM q.cd ins) rs false) (hmc : BegF q fuel cells A n ins m) (hb : Below w'.heap.size w' w'') (hD : ∀ j, j ≠ 4 → D' j = D j) :
    PtJ W N q fuel cells A n ins F D' (fun j => if j = 4 then .pointer (some ⟨m.g, 0, none⟩) else vs j) w'' := by
  have e7 : D 7 = false := by
    cases e : D 7 with
    | false => rfl
    | true => rw [(h.v7 e).1] at hDi; cases hDi
  refine ⟨h.bel.trans (hb.mono h.bel.size), fun j hj j4 hd => ?_, fun _ => ⟨m, rs, _, if_pos rfl, hM, h.bel.size, hmc⟩, fun hd => ?_, fun hd => ?_, fun hd => ?_⟩
  · show (if j = 4 then _ else vs j) = _
    rw [if_neg j4]
    exact h.vals j hj j4 (by rw [← hD j j4]; exact hd)
  · rw [hD 6 (by decide)] at hd
    obtain ⟨g, a1, a2, a3⟩ := h.m6 hd
    exact ⟨g, by rw [if_neg (by decide)]; exact a1, a2, keep_b hb a3⟩
  · rw [hD 7 (by decide), e7] at hd; cases hd
  · rw [hD 8 (by decide)] at hd
    rw [hD 6 (by decide), if_neg (show (8 : Nat) ≠ 4 by decide), if_neg (show (6 : Nat) ≠ 4 by decide)]
    exact h.v8 hd
theorem PtJ.made (h : PtJ W N q fuel cells A n ins F D vs w') (hDi : D 6 = false) (hD : ∀ j, j ≠ 6 → D' j = D j) : PtJ W N q fuel cells A n ins F D' (fun j => if j = 6 then .slice (some ⟨w'.heap.size, 0, none⟩) N N else vs j) (w'.alloc (.cells (Array.replicate N (Value.int .i64 0)) 3)) := by
  have hb := lvBelow w' (.cells (Array.replicate N (Value.int .i64 0)) 3)
  have e8 : D 8 = false := by
    cases e : D 8 with
    | false => rfl
    | true => rw [(h.v8 e).1] at hDi; cases hDi
  refine ⟨h.bel.trans (hb.mono h.bel.size), fun j hj j4 hd => ?_, fun hd => ?_, fun _ => ⟨_, if_pos rfl, h.bel.size, heap_alloc_new w' _⟩, fun hd => ?_, fun hd => ?_⟩
  · have e : j ≠ 6 := by omega
    show (if j = 6 then _ else vs j) = _
    rw [if_neg e]
    exact h.vals j hj j4 (by rw [← hD j e]; exact hd)
  · rw [hD 4 (by decide)] at hd
    obtain ⟨m, rs, B, a1, a2, a3, a4⟩ := h.c4 hd
    exact ⟨m, rs, B, by rw [if_neg (by decide)]; exact a1, a2.on hb, a3, a4⟩
  · rw [hD 7 (by decide)] at hd
    rw [hD 4 (by decide), if_neg (show (7 : Nat) ≠ 6 by decide), if_neg (show (4 : Nat) ≠ 6 by decide)]
    exact h.v7 hd
  · rw [hD 8 (by decide), e8] at hd; cases hd
theorem PtJ.as7 (h : PtJ W N q fuel cells A n ins F D vs w') (h4 : D 4 = true) (hD : ∀ j, j ≠ 7 → D' j = D j) : PtJ W N q fuel cells A n ins F D' (fun j => if j = 7 then vs 4 else vs j) w' := by
  refine ⟨h.bel, fun j hj j4 hd => ?_, ?_, ?_, fun _ => ?_, ?_⟩
  · have e : j ≠ 7 := by omega
    show (if j = 7 then _ else vs j) = _
    rw [if_neg e]
    exact h.vals j hj j4 (by rw [← hD j e]; exact hd)
  · rw [hD 4 (by decide), if_neg (by decide)]; exact h.c4
  · rw [hD 6 (by decide), if_neg (by decide)]; exact h.m6
  · rw [hD 4 (by decide)]
    exact ⟨h4, by rw [if_pos rfl, if_neg (by decide)]⟩
  · rw [hD 8 (by decide), hD 6 (by decide), if_neg (show (8 : Nat) ≠ 7 by decide), if_neg (show (6 : Nat) ≠ 7 by decide)]; exact h.v8
theorem PtJ.as8 (h : PtJ W N q fuel cells A n ins F D vs w') (h6 : D 6 = true) (hD : ∀ j, j ≠ 8 → D' j = D j) : PtJ W N q fuel cells A n ins F D' (fun j => if j = 8 then vs 6 else vs j) w' := by
  refine ⟨h.bel, fun j hj j4 hd => ?_, ?_, ?_, ?_, fun _ => ?_⟩
  · have e : j ≠ 8 := by omega
    show (if j = 8 then _ else vs j) = _
    rw [if_neg e]
    exact h.vals j hj j4 (by rw [← hD j e]; exact hd)
  · rw [hD 4 (by decide), if_neg (by decide)]; exact h.c4
  · rw [hD 6 (by decide), if_neg (by decide)]; exact h.m6
  · rw [hD 7 (by decide), hD 4 (by decide), if_neg (show (7 : Nat) ≠ 8 by decide), if_neg (show (4 : Nat) ≠ 8 by decide)]; exact h.v7
  · rw [hD 6 (by decide)]
    exact ⟨h6, by rw [if_pos rfl, if_neg (by decide)]⟩
theorem PtJ.same (h : PtJ W N q fuel cells A n ins F D vs w') (hD : ∀ i, i < 9 → D i = D' i) : PtJ W N q fuel cells A n ins F D' vs w' := by
  have e4 := hD 4 (by decide); have e6 := hD 6 (by decide); have e7 := hD 7 (by decide); have e8 := hD 8 (by decide)
  refine ⟨h.bel, fun j hj j4 hd => h.vals j hj j4 (by rw [hD j (by omega)]; exact hd), ?_, ?_, ?_, ?_⟩
  · rw [← e4]; exact h.c4
  · rw [← e6]; exact h.m6
  · rw [← e7, ← e4]; exact h.v7
  · rw [← e8, ← e6]; exact h.v8
end
theorem OwnI.keepI {w w' : World} {base base' c : Nat} {A : Option Addr} {xs : List Int} (h : OwnI w base 3 A c xs) (hk : BelI base' w w') : OwnI w' base 3 A c xs := by
  refine ⟨⟨h.1.1, ?_⟩, h.2⟩
  rcases h.1.2 with h1 | ⟨g, cap, cur, h1, h2, h3, h4⟩
  · exact .inl h1
  · exact .inr ⟨g, cap, cur, h1, h2, hk.int_ _ _ h3, h4⟩
theorem OwnI.madeN {w : World} {base g n : Nat} (hg : w.heap[g]? = some (.cells (Array.replicate n (Value.int .i64 0)) 3 (0, 0))) (hb : base ≤ g) (hn : n ≤ 100000) : OwnI w base 3 (some ⟨g, 0, none⟩) n (List.replicate n 0) := by
  refine ⟨?_, fun x hx => by rw [(List.mem_replicate.1 hx).2]; omega⟩
  rw [List.length_replicate, List.map_replicate]
  exact ⟨by simp, .inr ⟨g, n, Array.replicate n (Value.int .i64 0), rfl, hb, hg, Nat.le_refl _, by unfold maxLen; omega, by simp, by simp⟩⟩
/-- a machine's block is none of a list's -/
theorem OwnI.offM {w : World} {base base' gl n : Nat} {m : Mc} {s : Ms} {rs : List RowU} {en : Bool} {xs : List Int} (h : OwnI w base 3 (some ⟨gl, 0, none⟩) n xs) (hM : MsM w base' m s rs en) (k : Nat) (v : Value) (hB : base' ≤ gl) : MsM (w.setCell ⟨gl, k, none⟩ v) base' m s rs en := by
  obtain ⟨cur, hg⟩ : ∃ cur : Array Value, w.heap[gl]? = some (.cells cur 3 (0, 0)) := by
    rcases h.1.2 with ⟨h1, _⟩ | ⟨g, cap, cur, h1, _, h3, _⟩
    · injection h1 with h1; cases h1
    · injection h1 with h1; injection h1 with h1; injection h1 with h1
      subst h1
      exact ⟨cur, h3⟩
  have hM2 := hM.M.box hg (by decide) (by decide) k v
  have hb : Below base' w (w.setCell ⟨gl, k, none⟩ v) := (Below.refl _ _).setCell (p := ⟨gl, k, none⟩) hB _
  obtain ⟨cD, h1, h2⟩ := hM.D
  refine ⟨(heap_setCell_other w _ m.g _ fun e => ?_).trans hM.H, hM2, ⟨cD, (heap_setCell_other w _ m.gD _ fun e => ?_).trans h1, h2⟩, hM.jis.below hb, hM.ill.below hb, hM.pre, hM.nr, hM.na, hM.g0⟩
  · have e : m.g = gl := e
    have h3 := hM.H
    rw [e, hg] at h3
    injection h3 with h3; injection h3 with _ h3
    exact absurd h3 (by decide)
  · have e : m.gD = gl := e
    rw [e, hg] at h1
    injection h1 with h1; injection h1 with _ h1
    exact absurd h1 (by decide)
/-- a run that ended, told step by step -/
def PthI (m : Mc) (cd : Cd) (M : Nat) (P : List Nat) (z : Ms) (k : Nat) (s : Ms) (en : Bool) : Prop :=
  (en = false ∧ MsAt m cd M s ∧ s.st = k ∧ goM cd m.cells (m.fuel - (k : Int)).toNat s = .ok (z, P.drop k)) ∨ (en = true ∧ k = P.length)
theorem PthI.step {m : Mc} {cd : Cd} {M k : Nat} {P : List Nat} {z s : Ms} (h : PthI m cd M P z k s false) (hm : McOk m cd M) :
    (s.st : Int) < m.fuel ∧ P[k]? = some s.at_ ∧ ∃ z2, doM s.tick (cd.l.getD s.at_ zJi) m.cells = .ok z2 ∧ PthI m cd M P z (k + 1) z2 (decide ((cd.l.getD s.at_ zJi).op = 0)) := by
  rcases h with ⟨_, ha, hk, hg⟩ | ⟨h, _⟩
  · cases e : (m.fuel - (k : Int)).toNat with
    | zero => rw [e] at hg; injection hg
    | succ f =>
      rw [e] at hg
      have hf : (s.st : Int) < m.fuel := by omega
      unfold goM at hg
      split at hg
      · cases hg
      · rename_i s2 hs
        have hs' : doM s.tick (cd.l.getD s.at_ zJi) m.cells = .ok s2 := hs
        have hst := MsAt.st_ hs'
        split at hg
        · rename_i h0
          injection hg with hg; injection hg with h1 h2
          have hP : P[k]? = some s.at_ := by
            have : (P.drop k)[0]? = some s.at_ := by rw [← h2]; rfl
            rwa [List.getElem?_drop, Nat.add_zero] at this
          refine ⟨hf, hP, s2, hs', .inr ⟨decide_eq_true h0, ?_⟩⟩
          have := congrArg List.length h2
          rw [List.length_drop] at this
          simp at this
          omega
        · rename_i h0
          split at hg
          · cases hg
          · rename_i zp hg2
            obtain ⟨z3, p3⟩ := zp
            injection hg with hg; injection hg with h1 h2
            subst h1
            have hP : P[k]? = some s.at_ := by
              have : (P.drop k)[0]? = some s.at_ := by rw [← h2]; rfl
              rwa [List.getElem?_drop, Nat.add_zero] at this
            have hd : P.drop (k + 1) = p3 := by
              rw [← List.drop_drop, ← h2]; rfl
            refine ⟨hf, hP, s2, hs', .inl ⟨decide_eq_false h0, ha.next hm hf hs' h0, by omega, ?_⟩⟩
            rw [show (m.fuel - ((k + 1 : Nat) : Int)).toNat = f by omega, hd]
            exact hg2
  · cases h
end Go.Proofs.YtgkngimeokhhgaaGreatDoor
/- The program's Path. -/
namespace Go.Proofs.YtgkngimeokhhgaaGreatDoor
open Go.RowKit Go.Sort

set_option maxRecDepth 100000 in
set_option maxHeartbeats 8000000 in
theorem path16_any (q : Cq) (fuel cells : Int) (A : Option Addr) (n c : Nat) (ins : List (List Int)) (M : Nat) (w : World) (h : RunIn q fuel A n ins M w) (hfu : fuel ≤ 100000) (hS : ShT w) :
    Calls Tryz.prog 10 #[q.val, .int .i64 fuel, .int .i64 cells, .slice A n c] w fun e w' => ∃ Ap np cp, e = .returned (.tuple #[.slice Ap np cp, .int .i64 (pathR (runM q.cd fuel cells ins)).2]) ∧ (pathR (runM q.cd fuel cells ins)).1.length = np ∧ OwnI w' w.heap.size 3 Ap cp (pathR (runM q.cd fuel cells ins)).1 ∧ Below w.heap.size w w' := by
  have hmx : Tryz.prog.follows .mixedOrders = true := by kernel_rfl
  obtain ⟨W0, hW0⟩ : ∃ W, w.alloc q.obj = W := ⟨_, rfl⟩
  obtain ⟨g0, hg0⟩ : ∃ z, w.heap.size = z := ⟨_, rfl⟩
  have hb1 : Below w.heap.size w W0 := by rw [← hW0]; exact lvBelow w _
  have h1 : W0.heap[g0]? = some q.obj := by rw [← hW0, ← hg0]; exact heap_alloc_new w _
  have HB0 := Lib.hid hb1
  have HX0 := Lib.hid h1
  have HIN := Lib.hid h
  have hC := need16_any q fuel cells A n c ins M W0 (h.on hb1) (hS.on hb1)
  obtain ⟨rr, hrr⟩ : ∃ rr, runM q.cd fuel cells ins = rr := ⟨_, rfl⟩
  rw [hrr] at hC ⊢
  have HR := Lib.hid hrr
  obtain ⟨R, A0, I, P, n0, c0, l⟩ := q
  obtain ⟨k0, k1, k2, k3, _⟩ := lvCells h1
  clear hb1 h1 h hrr hS
  cases rr with
  | error v =>
    have d0 : (v != 0) = true := by simpa using runM_err HR.out
    have hC : Calls Tryz.prog 8 #[Cq.val ⟨R, A0, I, P, n0, c0, l⟩, .int .i64 fuel, .int .i64 cells, .slice A n c] W0 fun e w' => e = .returned (.tuple #[.int .i64 0, .int .i64 0, .int .i64 v]) ∧ Below W0.heap.size W0 w' := hC
    go_enter Tryz.func10, Tryz.ntmps10
    go_wp2_with fail
    try rw [hW0]
    try rw [hg0]
    (with_reducible refine hC.mono ?_)
    rintro e w3 ⟨rfl, hb3⟩
    have HB3 := Lib.hid (HB0.out.trans (hb3.mono HB0.out.size))
    clear hb3 hC k0 k1 k2 k3 hW0 hg0
    go_wp2_with fail
    go_ret2
    exact ⟨none, 0, 0, rfl, rfl, OwnI.nil_ _ _ _, HB3.out⟩
  | ok zp =>
    obtain ⟨z, PP⟩ := zp
    have hC : Calls Tryz.prog 8 #[Cq.val ⟨R, A0, I, P, n0, c0, l⟩, .int .i64 fuel, .int .i64 cells, .slice A n c] W0 fun e w' => e = .returned (.tuple #[.int .i64 (z.st : Int), .int .i64 (z.ce : Int), .int .i64 0]) ∧ Below W0.heap.size W0 w' := hC
    obtain ⟨ks1, ks2, ks3, ks4, ks5⟩ := runM_keeps HR.out
    obtain ⟨hval, hf0, hc0, hil, hgo⟩ := runM_parts HR.out
    obtain ⟨N, hN⟩ : ∃ N, z.st = N := ⟨_, rfl⟩
    rw [hN] at hC
    have HN : Hid (PP.length = N) := by rw [← hN]; exact ks1.symm
    have hN9 : N ≤ 100000 := by have := HN.out; omega
    have HV := Lib.hid (And.intro hval (And.intro hf0 (And.intro hc0 (And.intro hil hgo))))
    go_enter Tryz.func10, Tryz.ntmps10
    go_wp2_with fail
    try rw [hW0]
    try rw [hg0]
    (with_reducible refine hC.mono ?_)
    rintro e w3 ⟨rfl, hb3⟩
    have HB3 := Lib.hid (HB0.out.trans (hb3.mono HB0.out.size))
    have HX9 := Lib.hid (keep_b hb3 HX0.out)
    have HBC : Hid (∀ w2, Below w3.heap.size w3 w2 → Calls Tryz.prog 19 #[Cq.val ⟨R, A0, I, P, n0, c0, l⟩, .int .i64 fuel, .int .i64 cells, .slice A n c] w2 fun e w' => ∃ m rs, e = .returned (.pointer (some ⟨m.g, 0, none⟩)) ∧ MsM w' w2.heap.size m (startM (Cq.cd ⟨R, A0, I, P, n0, c0, l⟩) ins) rs false ∧ BegF ⟨R, A0, I, P, n0, c0, l⟩ fuel cells A n ins m ∧ Below w2.heap.size w2 w') := fun w2 hb2 =>
      begin_any ⟨R, A0, I, P, n0, c0, l⟩ fuel cells A n c ins w2 (HIN.out.code.on (HB3.out.trans (hb2.mono HB3.out.size))) ((HIN.out.rows.below (HB3.out.trans (hb2.mono HB3.out.size))).more (HB3.out.trans (hb2.mono HB3.out.size)).size) (may_of_validE hval) hil
    obtain ⟨i0, hi0, hz0, hz1, hz2⟩ := info_parts infoInt
    have hmk := run_makeIn (P := Tryz.prog) 36 3 i0 Tryz.underlying36 hi0 hz0 hz1 hz2 N hN9
    clear hb3 hC k0 k1 k2 k3 hW0 hg0 hval hf0 hc0 hil hgo ks1 ks2 ks3 ks4 ks5 hN hi0 hz0 hz1 hz2
    go_upto_region 4 with fail
    let F : Nat → Value := fun o => match o with
      | 0 => .agg #[.int .i64 R, .int .i64 A0, .int .i64 I, .slice P n0 c0]
      | 1 => .int .i64 fuel
      | 2 => .int .i64 cells
      | 3 => .slice A n c
      | 5 => .int .i64 (N : Int)
      | _ => undef
    refine wp_region_joint (PtJ w3 N ⟨R, A0, I, P, n0, c0, l⟩ fuel cells A n ins F) hmx (by kernel_rfl) (by kernel_rfl) ?_ ?_ ?_ ?_
    · intro D vs hD
      exact ⟨(Below.refl _ _).drew, fun i hi _ hd => (by rw [hD i (by show i < 9; omega)] at hd; cases hd), fun hd => (by rw [hD 4 (by decide)] at hd; cases hd), fun hd => (by rw [hD 6 (by decide)] at hd; cases hd), fun hd => (by rw [hD 7 (by decide)] at hd; cases hd), fun hd => (by rw [hD 8 (by decide)] at hd; cases hd)⟩
    · intro o o9 ho D vs w2 hJ hDi hd K hK
      have hi9 : o < 9 := (List.getElem?_eq_some_iff.1 ho).1
      generalize hlit : putV vs 0 _ _ = zz at hK ⊢
      simp only [List.map_cons, List.map_nil, putV, Act.put, List.setIfInBounds_toArray, List.set_cons_succ, List.set_cons_zero] at hlit
      subst hlit
      rcases (by omega : o = 0 ∨ o = 1 ∨ o = 2 ∨ o = 3 ∨ o = 4 ∨ o = 5 ∨ o = 6 ∨ o = 7 ∨ o = 8) with rfl | rfl | rfl | rfl | rfl | rfl | rfl | rfl | rfl
      · -- 0
        obtain rfl := Option.some.inj ho
        obtain ⟨z0, z1, z2, z3, _⟩ := lvCells (keep_b hJ.bel HX9.out)
        clear ho hd hi9
        go_simp
        exact hK _ (F 0) _ (fun q => q == 0 || D q) (by simp [Act.put]; try rfl) (fun q hq => by simp [hq]) (by simp) (hJ.other (by decide) (fun q hq => by simp [hq]))
      · -- 1
        obtain rfl := Option.some.inj ho
        clear ho hd hi9
        go_simp
        exact hK _ (F 1) _ (fun q => q == 1 || D q) (by simp [Act.put]; try rfl) (fun q hq => by simp [hq]) (by simp) (hJ.other (by decide) (fun q hq => by simp [hq]))
      · -- 2
        obtain rfl := Option.some.inj ho
        clear ho hd hi9
        go_simp
        exact hK _ (F 2) _ (fun q => q == 2 || D q) (by simp [Act.put]; try rfl) (fun q hq => by simp [hq]) (by simp) (hJ.other (by decide) (fun q hq => by simp [hq]))
      · -- 3
        obtain rfl := Option.some.inj ho
        clear ho hd hi9
        go_simp
        exact hK _ (F 3) _ (fun q => q == 3 || D q) (by simp [Act.put]; try rfl) (fun q hq => by simp [hq]) (by simp) (hJ.other (by decide) (fun q hq => by simp [hq]))
      · -- 4
        obtain rfl := Option.some.inj ho
        have v0 : vs 0 = F 0 := hJ.vals 0 (by decide) (by decide) (hd 0 (by kernel_rfl))
        have v1 : vs 1 = F 1 := hJ.vals 1 (by decide) (by decide) (hd 1 (by kernel_rfl))
        have v2 : vs 2 = F 2 := hJ.vals 2 (by decide) (by decide) (hd 2 (by kernel_rfl))
        have v3 : vs 3 = F 3 := hJ.vals 3 (by decide) (by decide) (hd 3 (by kernel_rfl))
        clear ho hd hi9
        dsimp only [F] at v0 v1 v2 v3
        have hcc := HBC.out w2 hJ.bel
        go_simp
        go_at_call 19
        refine hcc.mono ?_
        rintro e wf ⟨m, rs, rfl, hM, hmc, hbf⟩
        exact hK _ (.pointer (some ⟨m.g, 0, none⟩)) _ (fun j => j == 4 || D j) (by simp [Act.put, v0, v1, v2, v3]; try rfl) (fun j hj => by simp [hj]) (by simp) (hJ.call hDi hM hmc hbf (fun j hj => by simp [hj]))
      · -- 5
        obtain rfl := Option.some.inj ho
        clear ho hd hi9
        go_simp
        exact hK _ (F 5) _ (fun q => q == 5 || D q) (by simp [Act.put]; try rfl) (fun q hq => by simp [hq]) (by simp) (hJ.other (by decide) (fun q hq => by simp [hq]))
      · -- 6
        obtain rfl := Option.some.inj ho
        have v5 : vs 5 = F 5 := hJ.vals 5 (by decide) (by decide) (hd 5 (by kernel_rfl))
        clear ho hd hi9
        dsimp only [F] at v5
        have hmk2 := hmk w2
        go_simp
        exact hK _ (.slice (some ⟨w2.heap.size, 0, none⟩) N N) _ (fun q => q == 6 || D q) (by simp [Act.put, v5]; try rfl) (fun q hq => by simp [hq]) (by simp) (hJ.made hDi (fun q hq => by simp [hq]))
      · -- 7
        obtain rfl := Option.some.inj ho
        have h4 := hd 4 (by kernel_rfl)
        have h7 := hJ.as7 (D' := fun q => q == 7 || D q) h4 (fun q hq => by simp [hq])
        clear ho hd hi9
        go_simp
        exact hK _ (vs 4) _ (fun q => q == 7 || D q) (by simp [Act.put]; try rfl) (fun q hq => by simp [hq]) (by simp) h7
      · -- 8
        obtain rfl := Option.some.inj ho
        have h6 := hd 6 (by kernel_rfl)
        have h8 := hJ.as8 (D' := fun q => q == 8 || D q) h6 (fun q hq => by simp [hq])
        clear ho hd hi9
        go_simp
        exact hK _ (vs 6) _ (fun q => q == 8 || D q) (by simp [Act.put]; try rfl) (fun q hq => by simp [hq]) (by simp) h8
    · intro D vs w5 hJ hall
      obtain ⟨h4, e7⟩ := hJ.v7 (hall 7 (by decide))
      obtain ⟨h6, e8⟩ := hJ.v8 (hall 8 (by decide))
      obtain ⟨m, rs, B, v4, hM, hBB, hmc⟩ := hJ.c4 h4
      obtain ⟨gl, v6, hglb, hgl⟩ := hJ.m6 h6
      have v7 : vs 7 = .pointer (some ⟨m.g, 0, none⟩) := e7.trans v4
      have v8 : vs 8 = .slice (some ⟨gl, 0, none⟩) N N := e8.trans v6
      have v0 : vs 0 = F 0 := hJ.vals 0 (by decide) (by decide) (hall 0 (by decide))
      have v1 : vs 1 = F 1 := hJ.vals 1 (by decide) (by decide) (hall 1 (by decide))
      have v2 : vs 2 = F 2 := hJ.vals 2 (by decide) (by decide) (hall 2 (by decide))
      have v3 : vs 3 = F 3 := hJ.vals 3 (by decide) (by decide) (hall 3 (by decide))
      have v5 : vs 5 = F 5 := hJ.vals 5 (by decide) (by decide) (hall 5 (by decide))
      dsimp only [F] at v0 v1 v2 v3 v5
      have hbel := hJ.bel
      generalize hlit : putV vs 0 _ _ = zz
      simp only [List.map_cons, List.map_nil, putV, Act.put, List.setIfInBounds_toArray, List.set_cons_succ, List.set_cons_zero] at hlit
      rw [v0, v1, v2, v3, v4, v5, v6, v7, v8] at hlit
      subst hlit
      clear hJ hall v0 v1 v2 v3 v4 v5 v6 v7 v8 e7 e8 h4 h6 D vs
      clear F
      have HB5 := Lib.hid (HB3.out.trans (hbel.mono HB3.out.size))
      obtain ⟨m1, m2, m3, m4, m5, m6, m7, m8, m9⟩ := hmc
      have m1 : m.l = l := m1
      have m2 : m.n0 = n0 := m2
      have m3 : (m.i : Int) = I := m3
      have m7 : m.P = P := m7
      have hlen : l.length = n0 := HIN.out.code.len
      have hfew := HIN.out.few
      have hok : McOk m (Cq.cd ⟨R, A0, I, P, n0, c0, l⟩) M := ⟨m1, m2.trans hlen.symm, may_of_validE HV.out.1, fun x hx ho => by rw [m3]; exact valid_own HV.out.1 x hx ho, HIN.out.code.ins.2.1, by have := HV.out.2.2.2.1; have h9 : (ins.length : Int) = I := this; rw [m4]; omega, m3, by rw [m5]; exact hfew, by rw [m6]; exact HV.out.2.2.1⟩
      have hat := MsAt.begin hok HV.out.1 HV.out.2.1 HV.out.2.2.1 m5 m6 HV.out.2.2.2.1 HIN.out.vals HIN.out.len
      have hst : (startM (Cq.cd ⟨R, A0, I, P, n0, c0, l⟩) ins).st = 0 := rfl
      have HPI : Hid (PthI m (Cq.cd ⟨R, A0, I, P, n0, c0, l⟩) M PP z 0 (startM (Cq.cd ⟨R, A0, I, P, n0, c0, l⟩) ins) false) := .inl ⟨rfl, hat, hst, by rw [m5, m6, show (fuel - ((0 : Nat) : Int)).toNat = fuel.toNat by simp, List.drop_zero]; exact HV.out.2.2.2.2⟩
      have HOK := Lib.hid hok
      have hw3 : w.heap.size ≤ w3.heap.size := HB3.out.size
      have HM5 : Hid (MsM w5 w.heap.size m (startM (Cq.cd ⟨R, A0, I, P, n0, c0, l⟩) ins) rs false) := hM.lower (Nat.le_trans hw3 hBB) (by rw [m1, m2, m7]; exact HIN.out.code.ins.below HB5.out) (by rw [m8, m9, m4]; exact HIN.out.rows.below HB5.out)
      have HL5 : Hid (OwnI w5 w.heap.size 3 (some ⟨gl, 0, none⟩) N (List.replicate N 0)) := OwnI.madeN hgl (Nat.le_trans hw3 hglb) hN9
      have HGL : Hid (w.heap.size ≤ gl) := Nat.le_trans hw3 hglb
      clear hM hBB hglb hgl hbel m1 m2 m3 m4 m5 m6 hlen hfew hok hat hst hmk
      go_upto_region 6 with fail
      go_loopw [37] (fun v wr => ∃ (k : Nat) (s : Ms) (rs' : List RowU) (en : Bool) (xs : List Int), v = .int .i64 (k : Int) ∧ k ≤ N ∧ Hid (xs.length = N ∧ ∀ j, j < k → xs[j]? = (PP.map fun n : Nat => (n : Int))[j]?) ∧ Hid (MsM wr w.heap.size m s rs' en) ∧ Hid (PthI m (Cq.cd ⟨R, A0, I, P, n0, c0, l⟩) M PP z k s en) ∧ Hid (OwnI wr w.heap.size 3 (some ⟨gl, 0, none⟩) N xs) ∧ Hid (Below w.heap.size w wr)) (fun v _ => N - (intOf v).toNat)
      case atStart => exact ⟨0, _, rs, false, _, rfl, Nat.zero_le _, ⟨List.length_replicate, fun j hj => absurd hj (Nat.not_lt_zero j)⟩, HM5, HPI, HL5, HB5⟩
      case round =>
        obtain ⟨k, s, rs', en, xs, rfl, hk, HXS, HM, HPK, HOL, HBW⟩ := hrel
        clear HM5 HPI HL5 HB5
        by_cases hkn : k < N
        case neg =>
          obtain rfl : k = N := by omega
          have d0 : decide (k < k) = false := decide_eq_false (Nat.lt_irrefl _)
          go_wp2_with fail
          go_ret2
          have e : xs = PP.map fun n : Nat => (n : Int) := by
            refine List.ext_getElem? fun j => ?_
            by_cases hj : j < k
            · exact HXS.out.2 j hj
            · rw [List.getElem?_eq_none (by have := HXS.out.1; omega), List.getElem?_eq_none (by rw [List.length_map]; have := HN.out; omega)]
          refine ⟨some ⟨gl, 0, none⟩, k, k, rfl, ?_, by have := HOL.out; rw [e] at this; exact this, HBW.out⟩
          show (PP.map fun n : Nat => (n : Int)).length = k
          rw [List.length_map]; exact HN.out
        have hk1 : (k : Int) < (N : Int) := by omega
        have hk0 : (0 : Int) ≤ (k : Int) := by omega
        have hen : en = false := by
          rcases HPK.out with ⟨h, _⟩ | ⟨_, h⟩
          · exact h
          · have := HN.out; omega
        subst hen
        obtain ⟨hf, hPk, z2, hz2, hP2⟩ := HPK.out.step HOK.out
        have hat : MsAt m (Cq.cd ⟨R, A0, I, P, n0, c0, l⟩) M s := by
          rcases HPK.out with ⟨_, h, _⟩ | ⟨h, _⟩
          · exact h
          · cases h
        have hsm := (small_at HOK.out.may hat.way).2
        have hv9 : (-9223372036854775808 : Int) ≤ (s.at_ : Int) ∧ (s.at_ : Int) ≤ 9223372036854775807 := by omega
        obtain ⟨x0, x1, x2, x3, x4, x5, x6, x7, x8, x9, x10, x11, x12, x13⟩ := MsM.cells HM.out
        obtain ⟨old, hold⟩ : ∃ u, xs[k]? = some u := ⟨_, List.getElem?_eq_getElem (by have := HXS.out.1; omega)⟩
        obtain ⟨o0, of⟩ := HOL.out.cell_ hold
        have hO2 := HOL.out.set_ k (s.at_ : Int) hv9
        have hM2 := HOL.out.offM HM.out k (.int .i64 (s.at_ : Int)) HGL.out
        have hB2 : Below w.heap.size w (wr.setCell ⟨gl, k, none⟩ (.int .i64 (s.at_ : Int))) := HBW.out.setCell (p := ⟨gl, k, none⟩) HGL.out _
        obtain ⟨W2, hW2⟩ : ∃ W, wr.setCell ⟨gl, k, none⟩ (.int .i64 (s.at_ : Int)) = W := ⟨_, rfl⟩
        rw [hW2] at hO2 hM2 hB2
        have cS := step_any m (Cq.cd ⟨R, A0, I, P, n0, c0, l⟩) M s rs' w.heap.size W2 hM2 HOK.out hat
        have cS2 := cS.mono (R' := fun e w' => e = .returned (.int .i64 0) ∧ ∃ rs9, MsM w' w.heap.size m z2 rs9 (decide (((Cq.cd ⟨R, A0, I, P, n0, c0, l⟩).l.getD s.at_ zJi).op = 0)) ∧ BelI w.heap.size W2 w') (fun e w9 hP => by
          rcases hP.ne with ⟨hf2, _, _⟩ | ⟨_, z3, rs9, hz3, he, hM9, hB9⟩ | ⟨_, v, _, hz3, _⟩
          · exact absurd hf2 (by omega)
          · obtain rfl : z2 = z3 := by have := hz2.symm.trans hz3; injection this
            exact ⟨he, rs9, hM9, hB9⟩
          · have := hz2.symm.trans hz3; cases this)
        clear cS
        have HP2 := Lib.hid hP2
        have HO2 := Lib.hid hO2
        have HB2 := Lib.hid hB2
        have HXS2 : Hid ((xs.set k (s.at_ : Int)).length = N ∧ ∀ j, j < k + 1 → (xs.set k (s.at_ : Int))[j]? = (PP.map fun n : Nat => (n : Int))[j]?) := by
          refine ⟨by rw [List.length_set]; exact HXS.out.1, fun j hj => ?_⟩
          by_cases e : j = k
          · subst e
            rw [List.getElem?_set_self (by have := HXS.out.1; omega), List.getElem?_map, hPk]; rfl
          · rw [List.getElem?_set_ne (Ne.symm e)]
            exact HXS.out.2 j (by omega)
        clear hf hPk hz2 hP2 hat hO2 hM2 hB2 x0 x1 x2 x3 x4 x5 x6 x7 x8 x9 x10 x11 x13 hold hsm hv9 hk
        go_upto_region 9 with fail
        try rw [hW2]
        clear hW2 x12 o0 of
        go_wp2_with (first | (go_at_call 22; refine cS2.mono ?_; rintro e w9 ⟨rfl, rs9, hM9, hB9⟩))
        have HO9 := Lib.hid (HO2.out.keepI hB9)
        have HB9 := Lib.hid (HB2.out.trans hB9.bel)
        have HM9 := Lib.hid hM9
        clear hM9 hB9 cS2
        go_roundw
        case rel => exact ⟨k + 1, z2, rs9, _, _, rfl, by omega, HXS2, HM9, HP2, HO9, HB9⟩
        case measure => simp [intOf]; omega
    · exact fun D D' vs w' hD h => h.same hD
end Go.Proofs.YtgkngimeokhhgaaGreatDoor
/- The program's Same of two results. -/
namespace Go.Proofs.YtgkngimeokhhgaaGreatDoor
open Go.RowKit

set_option maxRecDepth 100000 in
set_option maxHeartbeats 2000000 in
theorem eqI64_any (A A2 : Option Addr) (n n2 c c2 : Nat) (L M : List Int) (w : World) (B : Nat) (h : Ints w B A n L) (h2 : Ints w B A2 n2 M) (hn : n ≤ 100000) (hn2 : n2 ≤ 100000) :
    Calls Tryz.prog 24 #[.slice A n c, .slice A2 n2 c2] w fun e w' => e = .returned (.bool (decide (L = M))) ∧ ∃ m, w' = w.drewN m := by
  have HL : Hid (L.length = n) := h.1
  have HL2 : Hid (M.length = n2) := h2.1
  by_cases hne : n = n2
  · subst hne
    have e1 : ((n : Int) != (n : Int)) = false := by simp
    go_enter Tryz.func24, Tryz.ntmps24
    go_wp2
    go_loopw [13] (fun i wr => ∃ (j m : Nat), j ≤ n ∧ i = .int .i64 j ∧ wr = w.drewN m ∧ Hid (L.take j = M.take j)) (fun i _ => n - (intOf i).toNat)
    case atStart => exact ⟨0, 0, Nat.zero_le _, rfl, rfl, by unfold Hid; simp⟩
    case round =>
      obtain ⟨j, m2, hj, rfl, rfl, HJ⟩ := hrel
      by_cases hjl : j < n
      · obtain ⟨b3, off3, x, rfl, _, HX3, hc3, hx1, hx2⟩ := h.at_ hjl
        obtain ⟨b4, off4, y, rfl, _, HY3, hc4, hy1, hy2⟩ := h2.at_ hjl
        have hj0 : (0 : Int) ≤ j := by omega
        have hj1 : (j : Int) < n := by omega
        by_cases hxy : x = y
        · have HN : Hid (L.take (j + 1) = M.take (j + 1)) := by unfold Hid; rw [take_succU HX3.out, take_succU HY3.out, HJ.out, hxy]
          have e2 : (x != y) = false := by simpa using hxy
          clear hxy
          go_wp2
          go_quiet (fail)
          go_wp2
          go_roundw
          case rel => exact ⟨j + 1, _, by omega, by go_num, rfl, HN⟩
          case measure => simp [intOf]; omega
        · have HF : Hid (decide (L = M) = false) := by
            unfold Hid; rw [decide_eq_false]; intro e; subst e
            have := HX3.out; rw [HY3.out] at this; exact hxy (by injection this with this; exact this.symm)
          have e2 : (x != y) = true := by simpa using hxy
          clear hxy
          go_wp2
          go_quiet (fail)
          go_wp2
          go_ret
          exact ⟨by rw [HF.out]; rfl, _, World.drewN_drewN _ _ _⟩
      · have HF : Hid (decide (L = M) = true) := by
          unfold Hid; rw [decide_eq_true]; have := HJ.out
          rwa [List.take_of_length_le (by rw [HL.out]; omega), List.take_of_length_le (by rw [HL2.out]; omega)] at this
        go_wp2
        go_ret
        exact ⟨by rw [HF.out]; rfl, _, rfl⟩
  · have HF : Hid (decide (L = M) = false) := by unfold Hid; rw [decide_eq_false]; intro e; subst e; exact hne (by rw [← HL.out, ← HL2.out])
    have hne2 : ((n : Int) != (n2 : Int)) = true := by simp; omega
    clear hne
    go_enter Tryz.func24, Tryz.ntmps24
    go_wp2
    go_ret
    exact ⟨by rw [HF.out]; rfl, 0, rfl⟩
set_option maxRecDepth 100000 in
set_option maxHeartbeats 2000000 in
theorem eqFn_any (A A2 : Option Addr) (n n2 c c2 : Nat) (XS YS : List (List Int)) (w : World) (B : Nat) (h : IntsLL w B A n XS) (h2 : IntsLL w B A2 n2 YS) (hn : n ≤ 100000) (hn2 : n2 ≤ 100000) (hx : ∀ L ∈ XS, L.length ≤ 100000) (hy : ∀ L ∈ YS, L.length ≤ 100000) :
    Calls Tryz.prog 23 #[.slice A n c, .slice A2 n2 c2, .func (.func 24) #[] #[]] w fun e w' => e = .returned (.bool (decide (XS = YS))) ∧ ∃ m, w' = w.drewN m := by
  have HL : Hid (XS.length = n) := h.1
  have HL2 : Hid (YS.length = n2) := h2.1
  by_cases hne : n = n2
  · subst hne
    have e1 : ((n : Int) != (n : Int)) = false := by simp
    go_enter Tryz.func23, Tryz.ntmps23
    go_wp2
    go_loopw [17] (fun i wr => ∃ (k m : Nat), k ≤ n ∧ i = .int .i64 k ∧ wr = w.drewN m ∧ Hid (XS.take k = YS.take k)) (fun i _ => n - (intOf i).toNat)
    case atStart => exact ⟨0, 0, Nat.zero_le _, rfl, rfl, by unfold Hid; simp⟩
    case round =>
      obtain ⟨k, m, hk, rfl, rfl, HK⟩ := hrel
      by_cases hlt : k < n
      · obtain ⟨b, off, L, a, cL, rfl, _, HX, hc, _, hI⟩ := h.at_ hlt
        obtain ⟨b2, off2, M, a2, cM, rfl, _, HY, hc2, _, hI2⟩ := h2.at_ hlt
        have hlL := hx L (List.mem_of_getElem? HX.out)
        have hlM := hy M (List.mem_of_getElem? HY.out)
        have hk0 : (0 : Int) ≤ k := by omega
        have hk1 : (k : Int) < n := by omega
        have cE := fun q => eqI64_any a a2 L.length M.length cL cM L M (w.drewN q) B hI hI2 hlL hlM
        clear hI hI2 hlL hlM
        by_cases hxy : L = M
        · have HN : Hid (XS.take (k + 1) = YS.take (k + 1)) := by unfold Hid; rw [take_succU HX.out, take_succU HY.out, HK.out, hxy]
          rw [decide_eq_true hxy] at cE
          clear hxy
          go_wp2_with (first | (go_at_call 24; refine (cE _).mono ?_; rintro e w3 ⟨rfl, q, rfl⟩))
          go_roundw
          case rel => exact ⟨k + 1, _, by omega, by go_num, (by first | rfl | exact World.drewN_drewN _ _ _), HN⟩
          case measure => simp [intOf]; omega
        · have HF : Hid (decide (XS = YS) = false) := by
            unfold Hid; rw [decide_eq_false]; intro e; subst e
            have e3 := HX.out; rw [HY.out] at e3; injection e3 with e3; exact hxy e3.symm
          rw [decide_eq_false hxy] at cE
          clear hxy
          go_wp2_with (first | (go_at_call 24; refine (cE _).mono ?_; rintro e w3 ⟨rfl, q, rfl⟩))
          go_ret
          exact ⟨by rw [HF.out]; rfl, _, (by first | rfl | exact World.drewN_drewN _ _ _)⟩
      · have HF : Hid (decide (XS = YS) = true) := by
          unfold Hid; rw [decide_eq_true]; have := HK.out
          rwa [List.take_of_length_le (by rw [HL.out]; omega), List.take_of_length_le (by rw [HL2.out]; omega)] at this
        go_wp2
        go_ret
        exact ⟨by rw [HF.out]; rfl, _, rfl⟩
  · have HF : Hid (decide (XS = YS) = false) := by unfold Hid; rw [decide_eq_false]; intro e; subst e; exact hne (by rw [← HL.out, ← HL2.out])
    have hne2 : ((n : Int) != (n2 : Int)) = true := by simp; omega
    clear hne
    go_enter Tryz.func23, Tryz.ntmps23
    go_wp2
    go_ret
    exact ⟨by rw [HF.out]; rfl, 0, rfl⟩
set_option maxRecDepth 100000 in
set_option maxHeartbeats 2000000 in
theorem progSame_any (a b : Rq) (w : World) (ha : a.In w) (hb : b.In w) : Calls Tryz.prog 14 #[a.val, b.val] w fun e w' => e = .returned (.bool (sameR a b)) ∧ Below w.heap.size w w' := by
  obtain ⟨A, n, c, L, st, ce⟩ := a
  obtain ⟨A2, n2, c2, L2, st2, ce2⟩ := b
  obtain ⟨W0, hW0⟩ : ∃ W, (w.alloc (Rq.obj ⟨A, n, c, L, st, ce⟩)).alloc (Rq.obj ⟨A2, n2, c2, L2, st2, ce2⟩) = W := ⟨_, rfl⟩
  obtain ⟨g0, hg0⟩ : ∃ z, w.heap.size = z := ⟨_, rfl⟩
  have hba := lvBelow w (Rq.obj ⟨A, n, c, L, st, ce⟩)
  have hbb := lvBelow (w.alloc (Rq.obj ⟨A, n, c, L, st, ce⟩)) (Rq.obj ⟨A2, n2, c2, L2, st2, ce2⟩)
  have hb1 := hba.trans (hbb.mono hba.size)
  have h1 := keep_b hbb (heap_alloc_new w (Rq.obj ⟨A, n, c, L, st, ce⟩))
  have h2 := heap_alloc_new (w.alloc (Rq.obj ⟨A, n, c, L, st, ce⟩)) (Rq.obj ⟨A2, n2, c2, L2, st2, ce2⟩)
  rw [hW0] at hb1 h1 h2
  simp only [World.size_alloc] at h2
  rw [hg0] at h1 h2
  have HB0 := Lib.hid hb1
  have hA := ha.on hb1
  have hC := hb.on hb1
  have cE := eqFn_any A A2 n n2 c c2 L L2 W0 W0.heap.size hA.out hC.out hA.few hC.few hA.all hC.all
  obtain ⟨k0, k1, k2⟩ := cells3U h1
  obtain ⟨k3, k4, k5⟩ := cells3U h2
  clear hb1 hba hbb h1 h2 ha hb hA hC
  by_cases e0 : st = st2
  case neg =>
    have f0 : (st == st2) = false := by simpa using e0
    have HS : Hid (sameR ⟨A, n, c, L, st, ce⟩ ⟨A2, n2, c2, L2, st2, ce2⟩ = false) := by unfold Hid sameR; simp [e0]
    clear e0
    go_enter Tryz.func14, Tryz.ntmps14
    go_upto_region 1 with fail
    try rw [hW0]
    try rw [hg0]
    clear hW0 hg0
    go_wp2_with fail
    go_ret
    exact ⟨by rw [HS.out]; rfl, HB0.out⟩
  have f0 : (st == st2) = true := by simpa using e0
  by_cases e1 : ce = ce2
  case neg =>
    have f1 : (ce == ce2) = false := by simpa using e1
    have HS : Hid (sameR ⟨A, n, c, L, st, ce⟩ ⟨A2, n2, c2, L2, st2, ce2⟩ = false) := by unfold Hid sameR; simp [e1]
    clear e0 e1
    go_enter Tryz.func14, Tryz.ntmps14
    go_upto_region 1 with fail
    try rw [hW0]
    try rw [hg0]
    clear hW0 hg0
    go_wp2_with fail
    go_ret
    exact ⟨by rw [HS.out]; rfl, HB0.out⟩
  have f1 : (ce == ce2) = true := by simpa using e1
  have HS : Hid (sameR ⟨A, n, c, L, st, ce⟩ ⟨A2, n2, c2, L2, st2, ce2⟩ = decide (L = L2)) := by unfold Hid sameR; simp [e0, e1]
  clear e0 e1
  go_enter Tryz.func14, Tryz.ntmps14
  go_upto_region 1 with fail
  try rw [hW0]
  try rw [hg0]
  clear hW0 hg0
  go_wp2_with (first | (go_at_call 23; refine cE.mono ?_; rintro e w3 ⟨rfl, q, rfl⟩))
  go_ret
  exact ⟨by rw [HS.out]; rfl, below_N HB0.out _⟩
end Go.Proofs.YtgkngimeokhhgaaGreatDoor
/- The program's Shift: code put further on. -/
namespace Go.Proofs.YtgkngimeokhhgaaGreatDoor
open Go.RowKit

/-- where the variables lie in the program's Shift -/
structure ShC (w : World) (q : Cq) (wr : World) (A' : Option Addr) (c' : Nat) (L : List Ji) : Prop where
  bel : Below w.heap.size w wr
  bx : wr.heap[w.heap.size]? = some q.obj
  rv : wr.heap[w.heap.size + 1]? = some (.cells #[.int .i64 0, .int .i64 0, .int .i64 0, .slice none 0 0] 24 (0, 0))
  own : OwnJ wr w.heap.size A' c' L
section
variable {w wr w' : World} {q : Cq} {c' c2 : Nat} {A' A2 : Option Addr} {L : List Ji} {y : Ji}
theorem ShC.below (h : ShC w q wr A' c' L) (hb : Below wr.heap.size wr w') : ShC w q w' A' c' L :=
  ⟨h.bel.trans (hb.mono h.bel.size), keep_b hb h.bx, keep_b hb h.rv, h.own.below hb (Nat.le_refl _)⟩
theorem ShC.add (h : ShC w q wr A' c' L) (hO : OwnJ w' w.heap.size A2 c2 (L ++ [y])) (hG : wr.grownBy w' (Value.slice A' L.length c').ownBlock) : ShC w q w' A2 c2 (L ++ [y]) :=
  ⟨below_appJ h.bel hG h.own h.bel.size, box_keptJ h.bx (by decide) hG h.own, box_keptJ h.rv (by decide) hG h.own, hO⟩
end
/-- the program's Shift: what is returned, stored -/
theorem ShC.done (q : Cq) (by_ : Int) {w wr : World} {c' : Nat} {A' : Option Addr} {L : List Ji} (h : ShC w q wr A' c' L) (hE : q.cd.shiftE by_ = 0) (hL : (q.cd.shift by_).l = L) (n : Nat) (hn : L.length = n) :
    ShP q by_ w (.returned (.tuple #[.agg #[.int .i64 q.R, .int .i64 q.A, .int .i64 q.I, .slice A' n c'], .int .i64 0])) (((((wr.setCell ⟨w.heap.size, 3, none⟩ (.slice A' n c')).setCell ⟨w.heap.size + 1, 0, none⟩ (.int .i64 q.R)).setCell ⟨w.heap.size + 1, 1, none⟩ (.int .i64 q.A)).setCell ⟨w.heap.size + 1, 2, none⟩ (.int .i64 q.I)).setCell ⟨w.heap.size + 1, 3, none⟩ (.slice A' n c')) := by
  have hC : q.cd.shiftC by_ = q.cd.shift by_ := by unfold Cd.shiftC; rw [if_pos hE]
  have h1 : OwnJ (wr.setCell ⟨w.heap.size, 3, none⟩ (.slice A' n c')) w.heap.size A' c' L := h.own.set_other h.bx (by decide) _ _
  have hb1 : Below w.heap.size w (wr.setCell ⟨w.heap.size, 3, none⟩ (.slice A' n c')) := h.bel.setCell (p := ⟨w.heap.size, 3, none⟩) (Nat.le_refl _) _
  have hr1 : (wr.setCell ⟨w.heap.size, 3, none⟩ (.slice A' n c')).heap[w.heap.size + 1]? = _ := (Below.heap_setCell _ ⟨w.heap.size, 3, none⟩ _ _ (by show w.heap.size + 1 ≠ w.heap.size; omega)).trans h.rv
  generalize wr.setCell ⟨w.heap.size, 3, none⟩ (.slice A' n c') = wr2 at h1 hb1 hr1
  have hg : wr2.grownBy ((((wr2.setCell ⟨w.heap.size + 1, 0, none⟩ (.int .i64 q.R)).setCell ⟨w.heap.size + 1, 1, none⟩ (.int .i64 q.A)).setCell ⟨w.heap.size + 1, 2, none⟩ (.int .i64 q.I)).setCell ⟨w.heap.size + 1, 3, none⟩ (.slice A' n c')) (some (w.heap.size + 1)) :=
    grownBy_setE (grownBy_setE (grownBy_setE (grownBy_setE (grown_same wr2 _) _ _) _ _) _ _) _ _
  refine ⟨A', c', ?_, ?_, hb1.grown hg hb1.size (fun k hk => by injection hk with hk; omega)⟩
  · rw [hC, hE, hL, hn]; rfl
  · rw [hC, hL]
    exact World.ownsRow.kept h1 hg (rows_ne h1 hr1 (by decide))
end Go.Proofs.YtgkngimeokhhgaaGreatDoor
/- How the program reads a line of tokens, part by part: plain mathematics. -/
namespace Go.Proofs.YtgkngimeokhhgaaGreatDoor
open Go.RowKit

def markL (kd : Int) : List UInt8 := if kd = 1 ∨ kd = 2 then [114] else if kd = 3 then [97] else []
def cutPL (p s : List UInt8) : List UInt8 × Bool := if s.take p.length = p then (s.drop p.length, true) else (s, false)
/-- one token as a part -/
def rdOne (kd : Int) (t : Tk) : Int × Nat := if (cutPL (markL kd) (bl t.s)).2 = true ∧ isNumL (cutPL (markL kd) (bl t.s)).1 = true then (numL (cutPL (markL kd) (bl t.s)).1, 1) else (0, 0)
/-- the part that tokens begin with -/
def rdPart (kd : Int) : List Tk → Int × Nat
  | [] => (0, 0)
  | t :: r => if kd = 0 then (0, 0) else if kd = 6 ∧ eqTk t minusTk = true then (match r with | [] => (0, 0) | u :: _ => if 0 < (rdOne 5 u).1 then (-(rdOne 5 u).1, (rdOne 5 u).2 + 1) else (0, 0)) else rdOne kd t
theorem rdOne_le (kd : Int) (t : Tk) : (rdOne kd t).2 ≤ 1 ∧ 0 ≤ (rdOne kd t).1 ∧ (rdOne kd t).1 < 1000000000000000000 := by
  unfold rdOne
  split
  · rename_i h
    have := isNumL_bound h.2
    exact ⟨Nat.le_refl _, this.1, this.2⟩
  · exact ⟨by omega, by omega, by omega⟩
theorem rdPart_zero (l : List Tk) : rdPart 0 l = (0, 0) := by cases l <;> simp [rdPart]
theorem rdPart_minus {t u : Tk} {r : List Tk} (h : eqTk t minusTk = true) : rdPart 6 (t :: u :: r) = if 0 < (rdOne 5 u).1 then (-(rdOne 5 u).1, (rdOne 5 u).2 + 1) else (0, 0) := by
  show (if (6 : Int) = 0 then (0, 0) else if (6 : Int) = 6 ∧ eqTk t minusTk = true then _ else _) = _
  rw [if_neg (by decide), if_pos ⟨rfl, h⟩]
theorem rdPart_alone {t : Tk} (h : eqTk t minusTk = true) : rdPart 6 [t] = (0, 0) := by
  show (if (6 : Int) = 0 then (0, 0) else if (6 : Int) = 6 ∧ eqTk t minusTk = true then _ else _) = _
  rw [if_neg (by decide), if_pos ⟨rfl, h⟩]
theorem rdPart_one {kd : Int} {t : Tk} {r : List Tk} (h0 : kd ≠ 0) (h : ¬ (kd = 6 ∧ eqTk t minusTk = true)) : rdPart kd (t :: r) = rdOne kd t := by
  show (if kd = 0 then (0, 0) else if kd = 6 ∧ eqTk t minusTk = true then _ else _) = _
  rw [if_neg h0, if_neg h]
theorem rdPart_le (kd : Int) (l : List Tk) : (rdPart kd l).2 ≤ l.length ∧ (rdPart kd l).2 ≤ 2 ∧ -1000000000000000000 < (rdPart kd l).1 ∧ (rdPart kd l).1 < 1000000000000000000 := by
  cases l with
  | nil => exact ⟨Nat.le_refl _, by simp [rdPart], by simp [rdPart], by simp [rdPart]⟩
  | cons t r =>
    by_cases h0 : kd = 0
    · subst h0
      rw [rdPart_zero]
      exact ⟨by simp, by simp, by simp, by simp⟩
    · by_cases h6 : kd = 6 ∧ eqTk t minusTk = true
      · obtain ⟨rfl, h6⟩ := h6
        cases r with
        | nil =>
          rw [rdPart_alone h6]
          exact ⟨by simp, by simp, by simp, by simp⟩
        | cons u r =>
          have hu := rdOne_le 5 u
          rw [rdPart_minus h6]
          by_cases hp : 0 < (rdOne 5 u).1
          · rw [if_pos hp]
            exact ⟨by simp only [List.length_cons]; omega, by show (rdOne 5 u).2 + 1 ≤ 2; omega, by show _ < -(rdOne 5 u).1; omega, by show -(rdOne 5 u).1 < _; omega⟩
          · rw [if_neg hp]
            exact ⟨by simp, by simp, by simp, by simp⟩
      · rw [rdPart_one h0 h6]
        have := rdOne_le kd t
        exact ⟨by simp only [List.length_cons]; omega, by omega, by omega, by omega⟩
/-- the parts of kinds, one behind the other -/
def rdG : List Int → List Tk → List Int × Bool × List Tk
  | [], l => ([], true, l)
  | k :: ks, l => ((rdPart k l).1 :: (rdG ks (l.drop (rdPart k l).2)).1, (decide (0 < (rdPart k l).2) || k == 0) && (rdG ks (l.drop (rdPart k l).2)).2.1, (rdG ks (l.drop (rdPart k l).2)).2.2)
/-- the same, as the loop goes -/
def rdS (ks : List Int) (b : Bool) (l : List Tk) : Nat → List Int × Bool × List Tk
  | 0 => ([0, 0, 0, 0], b, l)
  | k + 1 => ((rdS ks b l k).1.set k (rdPart (ks.getD k 0) (rdS ks b l k).2.2).1, (rdS ks b l k).2.1 && (decide (0 < (rdPart (ks.getD k 0) (rdS ks b l k).2.2).2) || ks.getD k 0 == 0), (rdS ks b l k).2.2.drop (rdPart (ks.getD k 0) (rdS ks b l k).2.2).2)
theorem rdS_four (k0 k1 k2 k3 : Int) (b : Bool) (l : List Tk) : rdS [k0, k1, k2, k3] b l 4 = ((rdG [k0, k1, k2, k3] l).1, b && (rdG [k0, k1, k2, k3] l).2.1, (rdG [k0, k1, k2, k3] l).2.2) := by
  simp only [rdS, rdG, List.getD_cons_zero, List.getD_cons_succ, List.set_cons_zero, List.set_cons_succ, Bool.and_assoc, Bool.and_true]
theorem rdS_len (ks : List Int) (b : Bool) (l : List Tk) (k : Nat) : (rdS ks b l k).1.length = 4 := by
  induction k with
  | zero => rfl
  | succ k ih => show ((rdS ks b l k).1.set k _).length = 4; rw [List.length_set, ih]
theorem rdS_fit (ks : List Int) (b : Bool) (l : List Tk) (k : Nat) : ∀ v ∈ (rdS ks b l k).1, -1000000000000000000 < v ∧ v < 1000000000000000000 := by
  induction k with
  | zero => intro v hv; simp [rdS] at hv; omega
  | succ k ih =>
    intro v hv
    rcases List.mem_or_eq_of_mem_set hv with h | rfl
    · exact ih v h
    · exact ⟨(rdPart_le _ _).2.2.1, (rdPart_le _ _).2.2.2⟩
theorem may_kinds {t : Tk} (h : mayT t) : (t.k = 4 ∧ bl t.s = []) ∨ (t.k = 1 ∧ ∃ c, (bl t.s)[0]? = some c ∧ kb c = 4) ∨ (t.k = 2 ∧ isNumL (bl t.s) = true ∧ t.n = numL (bl t.s)) ∨ (t.k = 3 ∧ ∃ c, (bl t.s)[0]? = some c ∧ kb c = 6) := by
  unfold mayT tokF at h
  split at h
  · rename_i h0
    injection h with h
    exact .inl ⟨by rw [← h], List.eq_nil_of_length_eq_zero (by rw [bl_len]; exact h0)⟩
  · split at h
    · rename_i hw
      injection h with h
      unfold isWordL at hw
      rw [decide_eq_true_iff] at hw
      exact .inr (.inl ⟨by rw [← h], hw.2.1⟩)
    · split at h
      · rename_i hn
        injection h with h
        exact .inr (.inr (.inl ⟨by rw [← h], hn, by rw [← h]⟩))
      · split at h
        · rename_i hs
          injection h with h
          unfold isSignL at hs
          rw [decide_eq_true_iff] at hs
          exact .inr (.inr (.inr ⟨by rw [← h], hs.2⟩))
        · cases h
theorem num_head {l : List UInt8} (h : isNumL l = true) : ∃ c, l[0]? = some c ∧ kb c = 5 := by
  unfold isNumL at h
  rw [decide_eq_true_iff] at h
  exact h.2.2.2 0 h.1
/-- a token that begins with a letter is a word -/
theorem may_letter {t : Tk} {c : UInt8} (h : mayT t) (hc : (bl t.s)[0]? = some c) (hk : kb c = 4) : t.k = 1 := by
  rcases may_kinds h with ⟨_, h2⟩ | ⟨h1, _⟩ | ⟨_, h2, _⟩ | ⟨_, d, h2, h3⟩
  · rw [h2] at hc; cases hc
  · exact h1
  · obtain ⟨d, h3, h4⟩ := num_head h2
    rw [hc] at h3
    injection h3 with h3
    subst h3
    omega
  · rw [hc] at h2
    injection h2 with h2
    subst h2
    omega
theorem may_num_iff {t : Tk} (h : mayT t) : (isNumL (bl t.s) = true ↔ t.k = 2) ∧ (t.k = 2 → t.n = numL (bl t.s)) := by
  rcases may_kinds h with ⟨h1, h2⟩ | ⟨h1, d, h2, h3⟩ | ⟨h1, h2, h3⟩ | ⟨h1, d, h2, h3⟩
  · refine ⟨⟨fun hn => ?_, fun hk => by omega⟩, fun hk => by omega⟩
    obtain ⟨e, h4, _⟩ := num_head hn
    rw [h2] at h4; cases h4
  · refine ⟨⟨fun hn => ?_, fun hk => by omega⟩, fun hk => by omega⟩
    obtain ⟨e, h4, h5⟩ := num_head hn
    rw [h2] at h4; injection h4 with h4; subst h4; omega
  · exact ⟨⟨fun _ => h1, fun _ => h2⟩, fun _ => h3⟩
  · refine ⟨⟨fun hn => ?_, fun hk => by omega⟩, fun hk => by omega⟩
    obtain ⟨e, h4, h5⟩ := num_head hn
    rw [h2] at h4; injection h4 with h4; subst h4; omega
theorem cutPL_one (c : UInt8) (s : List UInt8) : cutPL [c] s = if s.head? = some c then (s.drop 1, true) else (s, false) := by
  unfold cutPL
  cases s with
  | nil => rfl
  | cons d r => simp
theorem rdOne_letter {kd : Int} {t : Tk} {c : UInt8} (h : mayT t) (hk : markL kd = [c]) (hc : kb c = 4) : rdOne kd t = if (behindF t c).2 then ((behindF t c).1, 1) else (0, 0) := by
  unfold rdOne
  rw [hk, cutPL_one]
  by_cases h1 : (bl t.s).head? = some c
  · have hk1 : t.k = 1 := may_letter h (by rw [← List.head?_eq_getElem?]; exact h1) hc
    rw [if_pos h1]
    by_cases h2 : isNumL ((bl t.s).drop 1) = true
    · have hB : behindF t c = (numL ((bl t.s).drop 1), true) := by unfold behindF; rw [if_pos ⟨hk1, h1, h2⟩]
      rw [if_pos ⟨rfl, h2⟩, hB]; rfl
    · have hB : behindF t c = (0, false) := by unfold behindF; rw [if_neg (fun q => h2 q.2.2)]
      rw [if_neg (fun q => h2 q.2), hB]; rfl
  · have hB : behindF t c = (0, false) := by unfold behindF; rw [if_neg (fun q => h1 q.2.1)]
    rw [if_neg h1, if_neg (by rintro ⟨q, _⟩; cases q), hB]; rfl
theorem rdOne_reg {kd : Int} {t : Tk} (h : mayT t) (hk : kd = 1 ∨ kd = 2) : rdOne kd t = if (behindF t 114).2 then ((behindF t 114).1, 1) else (0, 0) :=
  rdOne_letter h (by unfold markL; rw [if_pos hk]) (by decide)
theorem rdOne_arr {t : Tk} (h : mayT t) : rdOne 3 t = if (behindF t 97).2 then ((behindF t 97).1, 1) else (0, 0) :=
  rdOne_letter h rfl (by decide)
theorem rdOne_num {kd : Int} {t : Tk} (h : mayT t) (hk : kd = 4 ∨ kd = 5 ∨ kd = 6) : rdOne kd t = if t.k = 2 then (t.n, 1) else (0, 0) := by
  have hm : markL kd = [] := by unfold markL; rw [if_neg (by omega), if_neg (by omega)]
  unfold rdOne
  rw [hm]
  show (if (true = true ∧ isNumL (bl t.s) = true) then (numL (bl t.s), 1) else (0, 0)) = _
  obtain ⟨h1, h2⟩ := may_num_iff h
  by_cases hk2 : t.k = 2
  · rw [if_pos ⟨rfl, h1.2 hk2⟩, if_pos hk2, h2 hk2]
  · rw [if_neg (fun q => hk2 (h1.1 q.2)), if_neg hk2]
end Go.Proofs.YtgkngimeokhhgaaGreatDoor
