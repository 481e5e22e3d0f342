/- The document's Run, Need and Path. -/
import Derived.Test.YtgkngimeokhhgaaGreatDoorG23
import Derived.Test.YtgkngimeokhhgaaGreatDoorG18
import Derived.Test.YtgkngimeokhhgaaGreatDoorG22
import Derived.Test.YtgkngimeokhhgaaGreatDoorG5
namespace Go.Proofs.YtgkngimeokhhgaaGreatDoor
open Go.RowKit Go.Sort

/-- what a run is asked for -/
structure RunIn (q : Cq) (fuel : Int) (A : Option Addr) (n : Nat) (ins : List (List Int)) (M : Nat) (w : World) : Prop where
  code : q.In w
  rows : IntsLL w w.heap.size A n ins
  len : ∀ L ∈ ins, L.length ≤ M
  vals : ∀ L ∈ ins, ∀ v ∈ L, I64 v
  few : (M : Int) + fuel ≤ 900000
theorem RunIn.on {q : Cq} {fuel : Int} {A : Option Addr} {n M : Nat} {ins : List (List Int)} {w w' : World} (h : RunIn q fuel A n ins M w) (hb : Below w.heap.size w w') : RunIn q fuel A n ins M w' := ⟨h.code.on hb, (h.rows.below hb).more hb.size, h.len, h.vals, h.few⟩
theorem refRun16_any (q : Cq) (fuel cells : Int) (A : Option Addr) (n c : Nat) (ins : List (List Int)) (M : Nat) (w : World) (h : RunIn q fuel A n ins M w) :
    Calls Tryz.prog 21 #[q.val, .int .i64 fuel, .int .i64 cells, .slice A n c] w (RunP q.cd fuel cells ins w) := by
  by_cases h0 : validE q.cd = 0
  · by_cases h1 : fuel < 0
    · exact refRun_fuel q fuel cells A n c ins w h.code h.rows h0 h1
    by_cases h2 : cells < 0
    · exact refRun_cells q fuel cells A n c ins w h.code h.rows h0 h1 h2
    by_cases h3 : (ins.length : Int) = q.I
    · exact refRun_go q fuel cells A n c ins w h.code h.rows h0 h1 h2 h3 M h.len h.vals h.few
    · exact refRun_ins q fuel cells A n c ins w h.code h.rows h0 h1 h2 h3
  · exact refRun_bad q fuel cells A n c ins w h.code h.rows h0
/-- what it takes -/
noncomputable def needR (r : Except Int (Ms × List Nat)) : Int × Int × Int := match r with
  | .ok zp => ((zp.1.st : Int), (zp.1.ce : Int), 0)
  | .error e => (0, 0, e)
set_option maxRecDepth 100000 in
set_option maxHeartbeats 8000000 in
theorem refNeed16_any (q : Cq) (fuel cells : Int) (A : Option Addr) (n c : Nat) (ins : List (List Int)) (M : Nat) (w : World) (h : RunIn q fuel A n ins M w) :
    Calls Tryz.prog 9 #[q.val, .int .i64 fuel, .int .i64 cells, .slice A n c] w fun e w' => e = .returned (.tuple #[.int .i64 (needR (runM q.cd fuel cells ins)).1, .int .i64 (needR (runM q.cd fuel cells ins)).2.1, .int .i64 (needR (runM q.cd fuel cells ins)).2.2]) ∧ Below w.heap.size w w' := by
  obtain ⟨W0, hW0⟩ : ∃ W, w.alloc q.obj = W := ⟨_, rfl⟩
  obtain ⟨g0, hg0⟩ : ∃ z, w.heap.size = z := ⟨_, rfl⟩
  have hb1 : Below w.heap.size w W0 := by rw [← hW0]; exact lvBelow w _
  have h1 : W0.heap[g0]? = some q.obj := by rw [← hW0, ← hg0]; exact heap_alloc_new w _
  have HB0 := Lib.hid hb1
  have hC := refRun16_any q fuel cells A n c ins M W0 (h.on hb1)
  unfold RunP at hC
  obtain ⟨rr, hrr⟩ : ∃ rr, runM q.cd fuel cells ins = rr := ⟨_, rfl⟩
  rw [hrr] at hC ⊢
  obtain ⟨R, A0, I, P, n0, c0, l⟩ := q
  obtain ⟨k0, k1, k2, k3, _⟩ := lvCells h1
  clear hb1 h1 h hrr
  go_enter Tryz.func9, Tryz.ntmps9
  go_wp2_with fail
  try rw [hW0]
  try rw [hg0]
  (with_reducible refine hC.mono ?_)
  rintro e w9 (⟨v, rfl, rfl, hb⟩ | ⟨z, p, gR, gA, rs, Ap, cp, rfl, rfl, hM, hO, hb⟩)
  · obtain ⟨W10, hW10⟩ : ∃ W, w9.alloc stZ = W := ⟨_, rfl⟩
    obtain ⟨g10, hg10⟩ : ∃ z, w9.heap.size = z := ⟨_, rfl⟩
    have hb10 : Below w9.heap.size w9 W10 := by rw [← hW10]; exact lvBelow _ _
    have HB9 := HB0.out.trans (hb.mono HB0.out.size)
    have HB10 := Lib.hid (HB9.trans (hb10.mono HB9.size))
    have HT10 : W10.heap[g10]? = some stZ := by rw [← hW10, ← hg10]; exact heap_alloc_new w9 _
    have HWQ := Lib.hid hW10
    clear hW0 hg0 hC k0 k1 k2 k3 hb hb10 HB9 hW10
    obtain ⟨u0, u1, u2, u3, u4, _⟩ := cells5 HT10
    go_upto_region 2 with fail
    try rw [HWQ.out]
    try rw [hg10]
    clear HWQ hg10
    go_quiet (fail)
    go_wp2_with fail
    exact bodyPost_ret (v := .tuple #[.int .i64 0, .int .i64 0, .int .i64 v]) (by simp [results, Tryz.results9, go_sem]) rfl ⟨rfl, ⟨HB10.out.os, HB10.out.tape, HB10.out.output, HB10.out.size, HB10.out.block⟩⟩
  · obtain ⟨W10, hW10⟩ : ∃ W, w9.alloc (stO z gR gA) = W := ⟨_, rfl⟩
    obtain ⟨g10, hg10⟩ : ∃ z, w9.heap.size = z := ⟨_, rfl⟩
    have hb10 : Below w9.heap.size w9 W10 := by rw [← hW10]; exact lvBelow _ _
    have HB9 := HB0.out.trans (hb.mono HB0.out.size)
    have HB10 := Lib.hid (HB9.trans (hb10.mono HB9.size))
    have HT10 : W10.heap[g10]? = some (stO z gR gA) := by rw [← hW10, ← hg10]; exact heap_alloc_new w9 _
    have HWQ := Lib.hid hW10
    clear hW0 hg0 hC k0 k1 k2 k3 hb hb10 HB9 hW10 hM hO
    obtain ⟨u0, u1, u2, u3, u4, _⟩ := cells5 HT10
    go_upto_region 2 with fail
    try rw [HWQ.out]
    try rw [hg10]
    clear HWQ hg10
    go_quiet (fail)
    go_wp2_with fail
    exact bodyPost_ret (v := .tuple #[.int .i64 (z.st : Int), .int .i64 (z.ce : Int), .int .i64 0]) (by simp [results, Tryz.results9, go_sem]) rfl ⟨rfl, ⟨HB10.out.os, HB10.out.tape, HB10.out.output, HB10.out.size, HB10.out.block⟩⟩
/-- where it goes -/
def pathR (r : Except Int (Ms × List Nat)) : List Int × Int := match r with
  | .ok zp => (zp.2.map fun n : Nat => (n : Int), 0)
  | .error e => ([], e)
set_option maxRecDepth 100000 in
set_option maxHeartbeats 8000000 in
theorem refPath16_any (q : Cq) (fuel cells : Int) (A : Option Addr) (n c : Nat) (ins : List (List Int)) (M : Nat) (w : World) (h : RunIn q fuel A n ins M w) :
    Calls Tryz.prog 11 #[q.val, .int .i64 fuel, .int .i64 cells, .slice A n c] w fun e w' => ∃ Ap np cp, e = .returned (.tuple #[.slice Ap np cp, .int .i64 (pathR (runM q.cd fuel cells ins)).2]) ∧ (pathR (runM q.cd fuel cells ins)).1.length = np ∧ OwnI w' w.heap.size 3 Ap cp (pathR (runM q.cd fuel cells ins)).1 ∧ Below w.heap.size w w' := by
  obtain ⟨W0, hW0⟩ : ∃ W, w.alloc q.obj = W := ⟨_, rfl⟩
  obtain ⟨g0, hg0⟩ : ∃ z, w.heap.size = z := ⟨_, rfl⟩
  have hb1 : Below w.heap.size w W0 := by rw [← hW0]; exact lvBelow w _
  have h1 : W0.heap[g0]? = some q.obj := by rw [← hW0, ← hg0]; exact heap_alloc_new w _
  have HB0 := Lib.hid hb1
  have hC := refRun16_any q fuel cells A n c ins M W0 (h.on hb1)
  unfold RunP at hC
  obtain ⟨rr, hrr⟩ : ∃ rr, runM q.cd fuel cells ins = rr := ⟨_, rfl⟩
  rw [hrr] at hC ⊢
  obtain ⟨R, A0, I, P, n0, c0, l⟩ := q
  obtain ⟨k0, k1, k2, k3, _⟩ := lvCells h1
  clear hb1 h1 h hrr
  go_enter Tryz.func11, Tryz.ntmps11
  go_wp2_with fail
  try rw [hW0]
  try rw [hg0]
  (with_reducible refine hC.mono ?_)
  rintro e w9 (⟨v, rfl, rfl, hb⟩ | ⟨z, p, gR, gA, rs, Ap, cp, rfl, rfl, hM, hO, hb⟩)
  · have hb10 := lvBelow w9 stZ
    have HB9 := HB0.out.trans (hb.mono HB0.out.size)
    have HB10 := Lib.hid (HB9.trans (hb10.mono HB9.size))
    clear hW0 hg0 hC k0 k1 k2 k3 hb hb10 HB9
    go_wp2_with fail
    go_ret2
    exact ⟨none, 0, 0, rfl, rfl, OwnI.nil_ _ _ _, HB10.out⟩
  · have hb10 := lvBelow w9 (stO z gR gA)
    have HB9 := HB0.out.trans (hb.mono HB0.out.size)
    have HB10 := Lib.hid (HB9.trans (hb10.mono HB9.size))
    have HO := Lib.hid ((hO.mono HB0.out.size).below hb10 (Nat.le_refl _))
    clear hW0 hg0 hC k0 k1 k2 k3 hb hb10 HB9 hM hO
    go_wp2_with fail
    go_ret2
    exact ⟨Ap, p.length, cp, rfl, by simp [pathR], HO.out, HB10.out⟩
theorem runM_err {c : Cd} {fuel cells v : Int} {ins : List (List Int)} (h : runM c fuel cells ins = .error v) : v ≠ 0 := by
  unfold runM at h
  split at h
  · rename_i h1
    injection h with h
    rw [← h]; exact h1
  · split at h
    · injection h with h; omega
    · rcases goM_errors h with h1 | h1 | ⟨h1, _⟩ <;> omega
theorem runM_ok {c : Cd} {fuel cells : Int} {ins : List (List Int)} {z : Ms} {p : List Nat} (h : runM c fuel cells ins = .ok (z, p)) : ∃ i : Nat, c.I = (i : Int) ∧ i ≤ z.A.length ∧ z.A.length ≤ 128 := by
  unfold runM at h
  split at h
  · cases h
  · rename_i h1
    split at h
    · cases h
    · rename_i h2
      have hv : validE c = 0 := Classical.byContradiction h1
      obtain ⟨⟨_, _, m2, m3, m4, m5, _, _⟩, _⟩ := Cd.may_parts (may_of_validE hv)
      have hk := (goM_keeps h).2.2.2.1
      have e : (startM c ins).A.length = ins.length + (c.A.toNat - ins.length) := by
        show (ins ++ List.replicate (c.A.toNat - ins.length) []).length = _
        rw [List.length_append, List.length_replicate]
      refine ⟨ins.length, ?_, ?_, ?_⟩
      · exact (Classical.byContradiction fun h3 => h2 (.inr (.inr h3))).symm
      · omega
      · have : (ins.length : Int) = c.I := Classical.byContradiction fun h3 => h2 (.inr (.inr h3))
        omega
theorem cells3V {W : World} {g : Nat} {u v x : Value} {t : TypeId} (h : W.heap[g]? = some (.cells #[u, v, x] t (0, 0))) :
    W.cell? ⟨g, 0, none⟩ = some u ∧ W.cell? ⟨g, 1, none⟩ = some v ∧ W.cell? ⟨g, 2, none⟩ = some x ∧ W.frozen? ⟨g, 0, none⟩ = false ∧ W.frozen? ⟨g, 1, none⟩ = false ∧ W.frozen? ⟨g, 2, none⟩ = false :=
  ⟨by simpa using cell_of_row _ _ 0 _ t (0, 0) h, by simpa using cell_of_row _ _ 1 _ t (0, 0) h, by simpa using cell_of_row _ _ 2 _ t (0, 0) h, by simp [World.frozen?, h], by simp [World.frozen?, h], by simp [World.frozen?, h]⟩
theorem three_cellsV {w : World} {g : Nat} {a b c : Value} {t : TypeId} (h : w.heap[g]? = some (.cells #[a, b, c] t (0, 0))) (x0 x1 x2 : Value) :
    (((w.setCell ⟨g, 0, none⟩ x0).setCell ⟨g, 1, none⟩ x1).setCell ⟨g, 2, none⟩ x2).heap[g]? = some (.cells #[x0, x1, x2] t (0, 0)) := by
  have h1 := set_j (i := 0) (cs := [a, b, c]) h x0
  have h2 := set_j (i := 1) (cs := [x0, b, c]) h1 x1
  exact set_j (i := 2) (cs := [x0, x1, c]) h2 x2
theorem MsW.put3 {w : World} {base gR gA g : Nat} {s : Ms} {rs : List RowU} {a b c : Value} (h : MsW w base gR gA s rs) (hg : w.heap[g]? = some (.cells #[a, b, c] 30 (0, 0))) (x0 x1 x2 : Value) : MsW (((w.setCell ⟨g, 0, none⟩ x0).setCell ⟨g, 1, none⟩ x1).setCell ⟨g, 2, none⟩ x2) base gR gA s rs := by
  have k0 := set_j (i := 0) (cs := [a, b, c]) hg x0
  have k1 := set_j (i := 1) (cs := [x0, b, c]) k0 x1
  exact ((h.box hg (by decide) (by decide) 0 x0).box k0 (by decide) (by decide) 1 x1).box k1 (by decide) (by decide) 2 x2
theorem MsW.lower {w : World} {base base' gR gA : Nat} {s : Ms} {rs : List RowU} (h : MsW w base gR gA s rs) (hb : base' ≤ base) : MsW w base' gR gA s rs := by
  refine ⟨h.R.mono hb, ⟨⟨h.A.rows.1, ?_⟩, fun r hr => (h.A.ins r hr).mono hb, h.A.apart⟩, h.L, h.far⟩
  rcases h.A.rows.2 with h1 | ⟨g, cap, cur, h1, h2, h3⟩
  · exact .inl h1
  · exact .inr ⟨g, cap, cur, h1, Nat.le_trans hb h2, h3⟩
/-- what comes out -/
def RunQ (q : Cq) (fuel cells : Int) (ins : List (List Int)) (w : World) (e : Ending) (w' : World) : Prop :=
  (∃ v, runM q.cd fuel cells ins = .error v ∧ e = .returned (.tuple #[.agg #[.slice none 0 0, .int .i64 0, .int .i64 0], .int .i64 v]) ∧ Below w.heap.size w w') ∨
  (∃ (z : Ms) (p : List Nat) (gR gA : Nat) (rs : List RowU) (i a : Nat), runM q.cd fuel cells ins = .ok (z, p) ∧ q.I = (i : Int) ∧ z.A.length = a ∧ i ≤ a ∧ (∃ X : Option Addr, (i < a → X = some ⟨gA, i, none⟩) ∧ e = .returned (.tuple #[.agg #[.slice X (a - i) (a - i), .int .i64 (z.st : Int), .int .i64 (z.ce : Int)], .int .i64 0])) ∧ MsW w' w.heap.size gR gA z rs ∧ Below w.heap.size w w')
set_option maxRecDepth 100000 in
set_option maxHeartbeats 8000000 in
theorem refRunQ16_any (q : Cq) (fuel cells : Int) (A : Option Addr) (n c : Nat) (ins : List (List Int)) (M : Nat) (w : World) (h : RunIn q fuel A n ins M w) :
    Calls Tryz.prog 7 #[q.val, .int .i64 fuel, .int .i64 cells, .slice A n c] w (RunQ q fuel cells ins w) := by
  obtain ⟨W0, hW0⟩ : ∃ W, (w.alloc q.obj).alloc (.cells #[.slice none 0 0, .int .i64 0, .int .i64 0] 30) = W := ⟨_, rfl⟩
  obtain ⟨g0, hg0⟩ : ∃ z, w.heap.size = z := ⟨_, rfl⟩
  have hba := lvBelow w q.obj
  have hbb := lvBelow (w.alloc q.obj) (.cells #[.slice none 0 0, .int .i64 0, .int .i64 0] 30)
  have hb1 := hba.trans (hbb.mono hba.size)
  have h1 := keep_b hbb (heap_alloc_new w q.obj)
  have h2 := heap_alloc_new (w.alloc q.obj) (.cells #[.slice none 0 0, .int .i64 0, .int .i64 0] 30)
  rw [hW0] at hb1 h1 h2
  simp only [World.size_alloc] at h2
  rw [hg0] at h1 h2
  have HB0 := Lib.hid hb1
  have HG0 := Lib.hid hg0
  have HX0 := Lib.hid h1
  have HZ0 := Lib.hid h2
  have hC := refRun16_any q fuel cells A n c ins M W0 (h.on hb1)
  unfold RunP at hC
  obtain ⟨R, A0, I, P, n0, c0, l⟩ := q
  obtain ⟨k0, k1, k2, k3, _⟩ := lvCells h1
  clear hb1 hba hbb h1 h2 h
  go_enter Tryz.func7, Tryz.ntmps7
  go_wp2_with fail
  try rw [hW0]
  try rw [hg0]
  (with_reducible refine hC.mono ?_)
  rintro e w9 (⟨v, hr, rfl, hb⟩ | ⟨z, p, gR, gA, rs, Ap, cp, hr, rfl, hM, hO, hb⟩)
  · obtain ⟨W10, hW10⟩ : ∃ W, w9.alloc stZ = W := ⟨_, rfl⟩
    obtain ⟨g10, hg10⟩ : ∃ z, w9.heap.size = z := ⟨_, rfl⟩
    have hb10 : Below w9.heap.size w9 W10 := by rw [← hW10]; exact lvBelow _ _
    have HB9 := HB0.out.trans (hb.mono HB0.out.size)
    have HB10 := Lib.hid (HB9.trans (hb10.mono HB9.size))
    have HZ10 := Lib.hid (keep_b hb10 (keep_b hb HZ0.out))
    have HWQ := Lib.hid hW10
    have HR := Lib.hid hr
    have hv0 : (v != 0) = true := by simpa using runM_err hr
    clear hW0 hg0 hC k0 k1 k2 k3 hb hb10 HB9 hW10 hr
    go_upto_region 2 with fail
    try rw [HWQ.out]
    try rw [hg10]
    clear HWQ hg10
    obtain ⟨u0, u1, u2, f0, f1, f2⟩ := cells3V HZ10.out
    go_wp2_with fail
    obtain ⟨s0, s1, s2, _⟩ := cells3V (three_cellsV HZ10.out (.slice none 0 0) (.int .i64 0) (.int .i64 0))
    exact bodyPost_ret (v := .tuple #[.agg #[.slice none 0 0, .int .i64 0, .int .i64 0], .int .i64 v]) (by simp [results, Tryz.results7, go_sem, s0, s1, s2]) rfl (.inl ⟨v, HR.out, rfl, ((HB10.out.setCell (p := ⟨g0 + 1, 0, none⟩) (by have := HG0.out; show _ ≤ g0 + 1; omega) _).setCell (p := ⟨g0 + 1, 1, none⟩) (by have := HG0.out; show _ ≤ g0 + 1; omega) _).setCell (p := ⟨g0 + 1, 2, none⟩) (by have := HG0.out; show _ ≤ g0 + 1; omega) _⟩)
  · obtain ⟨W10, hW10⟩ : ∃ W, w9.alloc (stO z gR gA) = W := ⟨_, rfl⟩
    obtain ⟨g10, hg10⟩ : ∃ z, w9.heap.size = z := ⟨_, rfl⟩
    have hb10 : Below w9.heap.size w9 W10 := by rw [← hW10]; exact lvBelow _ _
    have HB9 := HB0.out.trans (hb.mono HB0.out.size)
    have HB10 := Lib.hid (HB9.trans (hb10.mono HB9.size))
    have HZ10 := Lib.hid (keep_b hb10 (keep_b hb HZ0.out))
    have HX10 := Lib.hid (keep_b hb10 (keep_b hb HX0.out))
    have HT10 : Hid (W10.heap[g10]? = some (stO z gR gA)) := by rw [← hW10, ← hg10]; exact heap_alloc_new w9 _
    have HM10 := Lib.hid ((hM.lower HB0.out.size).on hb10)
    have HWQ := Lib.hid hW10
    have HR := Lib.hid hr
    obtain ⟨i, hi, hia, ha⟩ := runM_ok hr
    have hi : I = (i : Int) := hi
    subst hi
    obtain ⟨a, haa⟩ : ∃ a, z.A.length = a := ⟨_, rfl⟩
    rw [haa] at hia ha
    have HAL := Lib.hid haa
    have HT11 : Hid (W10.heap[g10]? = some (.cells #[.int .i64 (z.at_ : Int), .slice (some ⟨gR, 0, none⟩) z.R.length z.R.length, .slice (some ⟨gA, 0, none⟩) a a, .int .i64 (z.st : Int), .int .i64 (z.ce : Int)] 54 (0, 0))) := by rw [← haa]; exact HT10.out
    have hi0 : (0 : Int) ≤ (i : Int) := by omega
    have hi1 : (i : Int) ≤ (a : Int) := by omega
    have hmx : Tryz.prog.follows .mixedOrders = true := by kernel_rfl
    clear hW0 hg0 hC k0 k1 k2 k3 hb hb10 HB9 hW10 hr hM hO haa HT10
    go_upto_region 4 with fail
    try rw [HWQ.out]
    try rw [hg10]
    clear HWQ hg10
    obtain ⟨t0, t1, t2, t3, t4, _⟩ := cells5 HT11.out
    obtain ⟨k0, k1, k2, k3, _⟩ := lvCells HX10.out
    have xt2 := cell_regrown t2
    have xt3 := cell_regrown t3
    have xt4 := cell_regrown t4
    have xk2 := cell_regrown k2
    by_cases hai : a = i
    case neg =>
      refine wp_region_below_tail 10 hmx (by kernel_rfl) ?_
      simp only [List.take_succ_cons, List.take_zero, List.drop_succ_cons, List.drop_zero]
      repeat (quiet_step (fail))
      refine wpQuiet_nil ?_
      intro _ hw'
      obtain ⟨⟨dq, osq⟩, hw''⟩ := hw'
      subst hw''
      obtain ⟨W9, hW9⟩ : ∃ W, grow (redrawn W10 dq) osq = W := ⟨_, rfl⟩
      have hb9 := below_regrown W10 dq osq
      rw [hW9] at hb9 ⊢
      have HMZ := Lib.hid (HM10.out.on hb9)
      have HZ11 := Lib.hid (keep_b hb9 HZ10.out)
      have HB11 := Lib.hid (HB10.out.trans (hb9.mono HB10.out.size))
      clear xt2 xt3 xt4 xk2 t0 t1 t2 t3 t4 k0 k1 k2 k3 hW9 hb9
      obtain ⟨u0, u1, u2, f0, f1, f2⟩ := cells3V HZ11.out
      go_wp2_with fail
      obtain ⟨s0, s1, s2, _⟩ := cells3V (three_cellsV HZ11.out (.slice (some ⟨gA, i, none⟩) (a - i) (a - i)) (.int .i64 (z.st : Int)) (.int .i64 (z.ce : Int)))
      exact bodyPost_ret (v := .tuple #[.agg #[.slice (some ⟨gA, i, none⟩) (a - i) (a - i), .int .i64 (z.st : Int), .int .i64 (z.ce : Int)], .int .i64 0]) (by simp [results, Tryz.results7, go_sem, s0, s1, s2]) rfl (.inr ⟨z, p, gR, gA, rs, i, a, HR.out, rfl, HAL.out, hia, ⟨(some ⟨gA, i, none⟩), fun _ => rfl, rfl⟩, HMZ.out.put3 HZ11.out _ _ _, ((HB11.out.setCell (p := ⟨g0 + 1, 0, none⟩) (by have := HG0.out; show _ ≤ g0 + 1; omega) _).setCell (p := ⟨g0 + 1, 1, none⟩) (by have := HG0.out; show _ ≤ g0 + 1; omega) _).setCell (p := ⟨g0 + 1, 2, none⟩) (by have := HG0.out; show _ ≤ g0 + 1; omega) _⟩)
    subst hai
    refine wp_region_below_tail 10 hmx (by kernel_rfl) ?_
    simp only [List.take_succ_cons, List.take_zero, List.drop_succ_cons, List.drop_zero]
    repeat (quiet_step (fail))
    refine wpQuiet_nil ?_
    intro _ hw'
    obtain ⟨⟨dq, osq⟩, hw''⟩ := hw'
    subst hw''
    obtain ⟨W9, hW9⟩ : ∃ W, grow (redrawn W10 dq) osq = W := ⟨_, rfl⟩
    have hb9 := below_regrown W10 dq osq
    rw [hW9] at hb9 ⊢
    have HMZ := Lib.hid (HM10.out.on hb9)
    have HZ11 := Lib.hid (keep_b hb9 HZ10.out)
    have HB11 := Lib.hid (HB10.out.trans (hb9.mono HB10.out.size))
    clear xt2 xt3 xt4 xk2 t0 t1 t2 t3 t4 k0 k1 k2 k3 hW9 hb9
    obtain ⟨u0, u1, u2, f0, f1, f2⟩ := cells3V HZ11.out
    go_wp2_with fail
    obtain ⟨s0, s1, s2, _⟩ := cells3V (three_cellsV HZ11.out (.slice (some ⟨gA, 0, none⟩) 0 0) (.int .i64 (z.st : Int)) (.int .i64 (z.ce : Int)))
    exact bodyPost_ret (v := .tuple #[.agg #[.slice (some ⟨gA, 0, none⟩) 0 0, .int .i64 (z.st : Int), .int .i64 (z.ce : Int)], .int .i64 0]) (by simp [results, Tryz.results7, go_sem, s0, s1, s2]) rfl (.inr ⟨z, p, gR, gA, rs, _, _, HR.out, rfl, HAL.out, hia, ⟨(some ⟨gA, 0, none⟩), fun h => absurd h (Nat.lt_irrefl _), by rw [Nat.sub_self]⟩, HMZ.out.put3 HZ11.out _ _ _, ((HB11.out.setCell (p := ⟨g0 + 1, 0, none⟩) (by have := HG0.out; show _ ≤ g0 + 1; omega) _).setCell (p := ⟨g0 + 1, 1, none⟩) (by have := HG0.out; show _ ≤ g0 + 1; omega) _).setCell (p := ⟨g0 + 1, 2, none⟩) (by have := HG0.out; show _ ≤ g0 + 1; omega) _⟩)
end Go.Proofs.YtgkngimeokhhgaaGreatDoor
/- The program's check and Run. -/
namespace Go.Proofs.YtgkngimeokhhgaaGreatDoor
open Go.RowKit Go.Sort

theorem below_put3 {w0 w : World} {B g : Nat} (h : Below B w0 w) (hg : B ≤ g) (x0 x1 x2 : Value) : Below B w0 (((w.setCell ⟨g, 0, none⟩ x0).setCell ⟨g, 1, none⟩ x1).setCell ⟨g, 2, none⟩ x2) :=
  ((h.setCell (p := ⟨g, 0, none⟩) hg _).setCell (p := ⟨g, 1, none⟩) hg _).setCell (p := ⟨g, 2, none⟩) hg _
noncomputable def chk16 (c : Cd) (fuel cells : Int) (n : Nat) : Int := if validE c ≠ 0 then validE c else if fuel < 0 ∨ cells < 0 ∨ (n : Int) ≠ c.I then 1 else 0
set_option maxRecDepth 100000 in
set_option maxHeartbeats 4000000 in
theorem check16_any (q : Cq) (fuel cells : Int) (A : Option Addr) (n c : Nat) (w : World) (hq : q.In w) (hS : ShT w) :
    Calls Tryz.prog 18 #[q.val, .int .i64 fuel, .int .i64 cells, .slice A n c] w fun e w' => e = .returned (.int .i64 (chk16 q.cd fuel cells n)) ∧ Below w.heap.size w w' := by
  obtain ⟨W0, hW0⟩ : ∃ W, w.alloc q.obj = W := ⟨_, rfl⟩
  obtain ⟨g0, hg0⟩ : ∃ z, w.heap.size = z := ⟨_, rfl⟩
  have hb1 : Below w.heap.size w W0 := by rw [← hW0]; exact lvBelow w _
  have h1 : W0.heap[g0]? = some q.obj := by rw [← hW0, ← hg0]; exact heap_alloc_new w _
  have HB0 := Lib.hid hb1
  have HX0 := Lib.hid h1
  have hC := validCheck_any q W0 (hq.on hb1) (hS.on hb1)
  unfold ValidP at hC
  unfold chk16
  obtain ⟨v, hv⟩ : ∃ v, validE q.cd = v := ⟨_, rfl⟩
  rw [hv] at hC ⊢
  obtain ⟨R, A0, I, P, n0, c0, l⟩ := q
  have hIe : (Cq.cd ⟨R, A0, I, P, n0, c0, l⟩).I = I := rfl
  rw [hIe]
  obtain ⟨k0, k1, k2, k3, _⟩ := lvCells h1
  clear hb1 h1 hq hS hv hIe
  by_cases hv0 : v = 0
  case neg =>
    rw [if_pos hv0]
    have d0 : (v != 0) = true := by simpa using hv0
    clear hv0
    go_enter Tryz.func18, Tryz.ntmps18
    go_wp2_with fail
    try rw [hW0]
    try rw [hg0]
    (with_reducible refine hC.mono ?_)
    rintro e w3 ⟨rfl, hb3⟩
    have HB3 := Lib.hid (HB0.out.trans (hb3.mono HB0.out.size))
    clear hb3 hC k0 k1 k2 k3 hW0 hg0
    go_wp2_with fail
    go_ret
    exact ⟨rfl, HB3.out⟩
  subst hv0
  rw [if_neg (by simp)]
  by_cases h1 : fuel < 0
  · have d1 : decide (fuel < 0) = true := decide_eq_true h1
    rw [if_pos (.inl h1)]
    clear h1
    go_enter Tryz.func18, Tryz.ntmps18
    go_wp2_with fail
    try rw [hW0]
    try rw [hg0]
    (with_reducible refine hC.mono ?_)
    rintro e w3 ⟨rfl, hb3⟩
    have HB3 := Lib.hid (HB0.out.trans (hb3.mono HB0.out.size))
    clear hb3 hC k0 k1 k2 k3 hW0 hg0
    go_wp2_with fail
    go_ret
    exact ⟨rfl, HB3.out⟩
  have d1 : decide (fuel < 0) = false := decide_eq_false h1
  by_cases h2 : cells < 0
  · have d2 : decide (cells < 0) = true := decide_eq_true h2
    rw [if_pos (.inr (.inl h2))]
    clear h1 h2
    go_enter Tryz.func18, Tryz.ntmps18
    go_wp2_with fail
    try rw [hW0]
    try rw [hg0]
    (with_reducible refine hC.mono ?_)
    rintro e w3 ⟨rfl, hb3⟩
    have HB3 := Lib.hid (HB0.out.trans (hb3.mono HB0.out.size))
    clear hb3 hC k0 k1 k2 k3 hW0 hg0
    go_wp2_with fail
    go_ret
    exact ⟨rfl, HB3.out⟩
  have d2 : decide (cells < 0) = false := decide_eq_false h2
  obtain ⟨b, hb⟩ : ∃ b, ((n : Int) != I) = b := ⟨_, rfl⟩
  have hr : (if fuel < 0 ∨ cells < 0 ∨ (n : Int) ≠ I then (1 : Int) else 0) = if b = true then 1 else 0 := by
    cases b with
    | true => rw [if_pos (.inr (.inr (by simpa using hb))), if_pos rfl]
    | false => rw [if_neg (by rintro (h | h | h); · exact h1 h
                              · exact h2 h
                              · have := (by simpa using hb : (n : Int) = I); exact h this), if_neg (by simp)]
  rw [hr]
  clear h1 h2 hr
  cases b with
  | true =>
    go_enter Tryz.func18, Tryz.ntmps18
    go_wp2_with fail
    try rw [hW0]
    try rw [hg0]
    (with_reducible refine hC.mono ?_)
    rintro e w3 ⟨rfl, hb3⟩
    have HB3 := Lib.hid (HB0.out.trans (hb3.mono HB0.out.size))
    have HX3 := Lib.hid (keep_b hb3 HX0.out)
    clear hb3 hC k0 k1 k2 k3 hW0 hg0
    obtain ⟨k0, k1, k2, k3, _⟩ := lvCells HX3.out
    go_wp2_with fail
    go_ret
    exact ⟨rfl, HB3.out⟩
  | false =>
    go_enter Tryz.func18, Tryz.ntmps18
    go_wp2_with fail
    try rw [hW0]
    try rw [hg0]
    (with_reducible refine hC.mono ?_)
    rintro e w3 ⟨rfl, hb3⟩
    have HB3 := Lib.hid (HB0.out.trans (hb3.mono HB0.out.size))
    have HX3 := Lib.hid (keep_b hb3 HX0.out)
    clear hb3 hC k0 k1 k2 k3 hW0 hg0
    obtain ⟨k0, k1, k2, k3, _⟩ := lvCells HX3.out
    go_wp2_with fail
    go_ret
    exact ⟨rfl, HB3.out⟩
/-- what a run comes to -/
def RunO (q : Cq) (fuel cells : Int) (ins : List (List Int)) (w : World) (e : Ending) (w' : World) : Prop :=
  (∃ v, runM q.cd fuel cells ins = .error v ∧ e = .returned (.tuple #[.agg #[.slice none 0 0, .int .i64 0, .int .i64 0], .int .i64 v]) ∧ Below w.heap.size w w') ∨
  (∃ z p i a gO rs, runM q.cd fuel cells ins = .ok (z, p) ∧ q.I = ((i : Nat) : Int) ∧ z.A.length = a ∧ i ≤ a ∧ e = .returned (.tuple #[.agg #[.slice (some ⟨gO, 0, none⟩) (a - i) (a - i), .int .i64 (z.st : Int), .int .i64 (z.ce : Int)], .int .i64 0]) ∧ RowsU w' w.heap.size gO rs ∧ rs.map (·.L) = z.A.drop i ∧ Below w.heap.size w w')
theorem chk_runM {c : Cd} {fuel cells : Int} {ins : List (List Int)} {n : Nat} (hn : ins.length = n) : (chk16 c fuel cells n ≠ 0 → runM c fuel cells ins = .error (chk16 c fuel cells n)) ∧ (chk16 c fuel cells n = 0 → runM c fuel cells ins = goM c cells fuel.toNat (startM c ins) ∧ validE c = 0 ∧ 0 ≤ fuel ∧ 0 ≤ cells ∧ (ins.length : Int) = c.I) := by
  subst hn
  unfold chk16 runM
  by_cases h0 : validE c ≠ 0
  · rw [if_pos h0, if_pos h0]
    exact ⟨fun _ => rfl, fun h => absurd h h0⟩
  · rw [if_neg h0, if_neg h0]
    by_cases h1 : fuel < 0 ∨ cells < 0 ∨ (ins.length : Int) ≠ c.I
    · rw [if_pos h1, if_pos h1]
      exact ⟨fun _ => rfl, fun h => absurd h (by decide)⟩
    · rw [if_neg h1, if_neg h1]
      exact ⟨fun h => absurd rfl h, fun _ => ⟨rfl, Classical.byContradiction h0, by omega, by omega, Classical.byContradiction fun h => h1 (.inr (.inr h))⟩⟩
theorem valid_own {c : Cd} (h : validE c = 0) : ∀ x ∈ c.l, x.op = 7 ∨ x.op = 9 → c.I ≤ x.a := by
  unfold validE at h
  split at h
  · cases h
  · split at h
    · cases h
    · split at h
      · cases h
      · rename_i h1
        intro x hx ho
        refine Classical.byContradiction fun h2 => h1 (List.any_eq_true.2 ⟨x, hx, ?_⟩)
        rw [Bool.and_eq_true, Bool.or_eq_true]
        refine ⟨?_, decide_eq_true (by omega)⟩
        rcases ho with ho | ho
        · exact .inl (by simp [ho])
        · exact .inr (by simp [ho])
/-- where a machine stands that begins -/
theorem MsAt.begin {m : Mc} {c : Cd} {M : Nat} {fuel cells : Int} {ins : List (List Int)} (_hm : McOk m c M) (h : validE c = 0) (hf : 0 ≤ fuel) (hc : 0 ≤ cells) (hfm : m.fuel = fuel) (hcm : m.cells = cells) (hi : (ins.length : Int) = c.I) (hv : ∀ l ∈ ins, ∀ v ∈ l, I64 v) (hl : ∀ l ∈ ins, l.length ≤ M) : MsAt m c M (startM c ins) := by
  obtain ⟨⟨_, _, m2, m3, m4, m5, _, _⟩, _⟩ := Cd.may_parts (may_of_validE h)
  refine ⟨MsOk.start (by omega) hv hl, Way.start, ?_, ?_, Nat.le_refl _⟩
  · rw [hfm]; exact hf
  · rw [hcm]; exact hc
set_option maxRecDepth 100000 in
set_option maxHeartbeats 8000000 in
theorem run16_any (q : Cq) (fuel cells : Int) (A : Option Addr) (n c : Nat) (ins : List (List Int)) (M : Nat) (w : World) (h : RunIn q fuel A n ins M w) (hS : ShT w) :
    Calls Tryz.prog 6 #[q.val, .int .i64 fuel, .int .i64 cells, .slice A n c] w (RunO q fuel cells ins w) := by
  obtain ⟨W0, hW0⟩ : ∃ W, (w.alloc q.obj).alloc (.cells #[.slice none 0 0, .int .i64 0, .int .i64 0] 30) = W := ⟨_, rfl⟩
  obtain ⟨g0, hg0⟩ : ∃ z, w.heap.size = z := ⟨_, rfl⟩
  have hba := lvBelow w q.obj
  have hbb := lvBelow (w.alloc q.obj) (.cells #[.slice none 0 0, .int .i64 0, .int .i64 0] 30)
  have hb1 := hba.trans (hbb.mono hba.size)
  have h1 := keep_b hbb (heap_alloc_new w q.obj)
  have h2 := heap_alloc_new (w.alloc q.obj) (.cells #[.slice none 0 0, .int .i64 0, .int .i64 0] 30)
  rw [hW0] at hb1 h1 h2
  simp only [World.size_alloc] at h2
  rw [hg0] at h1 h2
  have HB0 := Lib.hid hb1
  have HG0 := Lib.hid hg0
  have HX0 := Lib.hid h1
  have HZ0 := Lib.hid h2
  have HIN := Lib.hid h
  have hC := check16_any q fuel cells A n c W0 (h.code.on hb1) (hS.on hb1)
  obtain ⟨u, hu⟩ : ∃ u, chk16 q.cd fuel cells n = u := ⟨_, rfl⟩
  obtain ⟨hr1, hr2⟩ := chk_runM (c := q.cd) (fuel := fuel) (cells := cells) h.rows.1
  rw [hu] at hC hr1 hr2
  have HR1 := Lib.hid hr1
  have HR2 := Lib.hid hr2
  obtain ⟨R, A0, I, P, n0, c0, l⟩ := q
  obtain ⟨k0, k1, k2, k3, _⟩ := lvCells h1
  clear hb1 hba hbb h1 h2 h hu hr1 hr2 hS
  go_enter Tryz.func6, Tryz.ntmps6
  go_wp2_with fail
  try rw [hW0]
  try rw [hg0]
  (with_reducible refine hC.mono ?_)
  rintro e w3 ⟨rfl, hb3⟩
  have HB3 := Lib.hid (HB0.out.trans (hb3.mono HB0.out.size))
  have HX3 := Lib.hid (keep_b hb3 HX0.out)
  have HZ3 := Lib.hid (keep_b hb3 HZ0.out)
  clear hb3 hC k0 k1 k2 k3 hW0 hg0
  by_cases hv0 : u = 0
  case neg =>
    have d0 : (u != 0) = true := by simpa using hv0
    have HR := Lib.hid (HR1.out hv0)
    clear hv0
    obtain ⟨u0, u1, u2, f0, f1, f2⟩ := cells3V HZ3.out
    go_wp2_with fail
    obtain ⟨s0, s1, s2, _⟩ := cells3V (three_cellsV HZ3.out (.slice none 0 0) (.int .i64 0) (.int .i64 0))
    exact bodyPost_ret (v := .tuple #[.agg #[.slice none 0 0, .int .i64 0, .int .i64 0], .int .i64 u]) (by simp [results, Tryz.results6, go_sem, s0, s1, s2]) rfl (.inl ⟨u, HR.out, rfl, below_put3 HB3.out (by have := HG0.out; omega) _ _ _⟩)
  subst hv0
  obtain ⟨hrun, hval, hf0, hc0, hil⟩ := HR2.out rfl
  have hmay := may_of_validE hval
  have hil : (ins.length : Int) = I := hil
  have hB := begin_any ⟨R, A0, I, P, n0, c0, l⟩ fuel cells A n c ins w3 (HIN.out.code.on HB3.out) ((HIN.out.rows.below HB3.out).more HB3.out.size) hmay hil
  have HRUN := Lib.hid hrun
  have HVAL := Lib.hid hval
  have HFC := Lib.hid (And.intro hf0 (And.intro hc0 hil))
  obtain ⟨k0, k1, k2, k3, _⟩ := lvCells HX3.out
  clear hrun hval hf0 hc0 hil hmay
  go_upto_region 4 with fail
  go_wp2_with (first | (go_at_call 19; (with_reducible refine hB.mono ?_); rintro e w4 ⟨m, rs, rfl, hM, hmc, hb4⟩))
  obtain ⟨m1, m2, m3, m4, m5, m6, _⟩ := hmc
  have hlen : l.length = n0 := HIN.out.code.len
  have hfew := HIN.out.few
  have hok : McOk m (Cq.cd ⟨R, A0, I, P, n0, c0, l⟩) M := ⟨m1, m2.trans hlen.symm, may_of_validE HVAL.out, fun x hx ho => by rw [m3]; exact valid_own HVAL.out x hx ho, HIN.out.code.ins.2.1, by have := HFC.out.2.2; rw [m4]; omega, m3, by rw [m5]; exact hfew, by rw [m6]; exact HFC.out.2.1⟩
  have hat := MsAt.begin hok HVAL.out HFC.out.1 HFC.out.2.1 m5 m6 HFC.out.2.2 HIN.out.vals HIN.out.len
  have hF := finish_any m _ M _ rs w3.heap.size w4 hM hok hat
  have hst : (startM (Cq.cd ⟨R, A0, I, P, n0, c0, l⟩) ins).st = 0 := rfl
  rw [hst, m5, m6, show (fuel - ((0 : Nat) : Int)).toNat = fuel.toNat by simp, ← HRUN.out] at hF
  have HX4 := Lib.hid (keep_b hb4 HX3.out)
  have HZ4 := Lib.hid (keep_b hb4 HZ3.out)
  have HB4 := Lib.hid (HB3.out.trans (hb4.mono HB3.out.size))
  have HMI : Hid ((m.i : Int) = I) := m3
  have HS3 : Hid (g0 + 1 < w3.heap.size) := lt_of_heap HZ3.out
  have HS34 : Hid (w.heap.size ≤ w3.heap.size) := HB3.out.size
  clear hM hok hat hst m1 m2 m3 m4 m5 m6 hlen hfew hb4 hB k0 k1 k2 k3
  (with_reducible refine hF.mono ?_)
  rintro e w5 (⟨v, hr, rfl, hb5⟩ | ⟨z, p, rs', hr, rfl, hM, hb5⟩)
  · have d0 : (v != 0) = true := by
      rcases goM_errors ((HRUN.out.symm.trans hr)) with h1 | h1 | ⟨h1, _⟩ <;> (subst h1; decide)
    have HR := Lib.hid hr
    have HZ5 : Hid (w5.heap[g0 + 1]? = some (.cells #[.slice none 0 0, .int .i64 0, .int .i64 0] 30 (0, 0))) := (hb5.bel.block _ HS3.out).trans HZ4.out
    have HB5 := Lib.hid (HB4.out.trans (hb5.bel.mono HS34.out))
    clear hr hb5 hF
    obtain ⟨u0, u1, u2, f0, f1, f2⟩ := cells3V HZ5.out
    go_wp2_with fail
    obtain ⟨s0, s1, s2, _⟩ := cells3V (three_cellsV HZ5.out (.slice none 0 0) (.int .i64 0) (.int .i64 0))
    exact bodyPost_ret (v := .tuple #[.agg #[.slice none 0 0, .int .i64 0, .int .i64 0], .int .i64 v]) (by simp [results, Tryz.results6, go_sem, s0, s1, s2]) rfl (.inl ⟨v, HR.out, rfl, below_put3 HB5.out (by have := HG0.out; omega) _ _ _⟩)
  · have HR := Lib.hid hr
    have HZ5 : Hid (w5.heap[g0 + 1]? = some (.cells #[.slice none 0 0, .int .i64 0, .int .i64 0] 30 (0, 0))) := (hb5.bel.block _ HS3.out).trans HZ4.out
    have HB5 := Lib.hid (HB4.out.trans (hb5.bel.mono HS34.out))
    have HMF := Lib.hid hM
    obtain ⟨x0, x1, x2, x3, x4, x5, x6, x7, x8, x9, x10, x11, x12, x13⟩ := MsM.cells hM
    clear hr hb5 hF hM x3 x4 x5 x6 x7 x8 x9 x10 x11 x12 x13
    obtain ⟨u0, u1, u2, f0, f1, f2⟩ := cells3V HZ5.out
    go_wp2_with fail
    obtain ⟨s0, s1, s2, _⟩ := cells3V (three_cellsV HZ5.out (.slice (some ⟨m.gO, 0, none⟩) m.na m.na) (.int .i64 (z.st : Int)) (.int .i64 (z.ce : Int)))
    obtain ⟨i, hi, hia, _⟩ := runM_ok HR.out
    have hmi : m.i = i := by have h1 := HMI.out; have h2 : I = (i : Int) := hi; omega
    have hna : m.na = z.A.length - m.i := by rw [← HMF.out.na, List.length_drop]
    have hMp := (HMF.out.M.lower HS34.out).put3 HZ5.out (.slice (some ⟨m.gO, 0, none⟩) m.na m.na) (.int .i64 (z.st : Int)) (.int .i64 (z.ce : Int))
    exact bodyPost_ret (v := .tuple #[.agg #[.slice (some ⟨m.gO, 0, none⟩) m.na m.na, .int .i64 (z.st : Int), .int .i64 (z.ce : Int)], .int .i64 0]) (by simp [results, Tryz.results6, go_sem, s0, s1, s2]) rfl (.inr ⟨z, p, m.i, z.A.length, m.gO, rs', HR.out, HMI.out.symm, rfl, (by rw [hmi]; exact hia), (by rw [hna]), hMp.A, hMp.L, below_put3 HB5.out (by have := HG0.out; omega) _ _ _⟩)
end Go.Proofs.YtgkngimeokhhgaaGreatDoor
/- How long arrays get; what a run comes to within other steps and room. -/
namespace Go.Proofs.YtgkngimeokhhgaaGreatDoor
open Go.RowKit

theorem a_long {M : Nat} {s : Ms} (hl : ∀ l ∈ s.A, l.length ≤ M + s.ce) (i : Int) : (s.a i).length ≤ M + s.ce := by
  rcases getD_mem (l := s.A) (i := i.toNat) (d := []) with h1 | h1
  · exact hl _ h1
  · have : s.a i = [] := h1
    rw [this]; exact Nat.zero_le _
theorem doM_A {s z : Ms} {x : Ji} {cells : Int} (h : doM s x cells = .ok z) : (z.A = s.A ∧ z.ce = s.ce) ∨ (∃ (i : Int) (L : List Int), z.A = s.A.set i.toNat L ∧ L.length ≤ (s.a i).length ∧ z.ce = s.ce) ∨ (∃ (i v : Int), z.A = s.A.set i.toNat (s.a i ++ [v]) ∧ z.ce = s.ce + 1) := by
  by_cases e1 : x.op = 1
  · unfold doM at h; rw [if_pos e1] at h; injection h with h; subst h; exact .inl ⟨rfl, rfl⟩
  by_cases e2 : x.op = 2
  · unfold doM at h; rw [if_neg e1, if_pos e2] at h; injection h with h; subst h; exact .inl ⟨rfl, rfl⟩
  by_cases e3 : x.op = 3
  · unfold doM at h; rw [if_neg e1, if_neg e2, if_pos e3] at h; injection h with h; subst h; exact .inl ⟨rfl, rfl⟩
  by_cases e4 : x.op = 4
  · unfold doM at h; rw [if_neg e1, if_neg e2, if_neg e3, if_pos e4] at h; injection h with h; subst h; exact .inl ⟨rfl, rfl⟩
  by_cases e5 : x.op = 5
  · unfold doM at h; rw [if_neg e1, if_neg e2, if_neg e3, if_neg e4, if_pos e5] at h; injection h with h; subst h; exact .inl ⟨rfl, rfl⟩
  by_cases e6 : x.op = 6
  · unfold doM at h; rw [if_neg e1, if_neg e2, if_neg e3, if_neg e4, if_neg e5, if_pos e6] at h; split at h
    · cases h
    · injection h with h; subst h; exact .inl ⟨rfl, rfl⟩
  by_cases e7 : x.op = 7
  · unfold doM at h; rw [if_neg e1, if_neg e2, if_neg e3, if_neg e4, if_neg e5, if_neg e6, if_pos e7] at h; split at h
    · cases h
    · injection h with h; subst h; exact .inr (.inl ⟨x.a, _, rfl, by rw [List.length_set]; exact Nat.le_refl _, rfl⟩)
  by_cases e8 : x.op = 8
  · unfold doM at h; rw [if_neg e1, if_neg e2, if_neg e3, if_neg e4, if_neg e5, if_neg e6, if_neg e7, if_pos e8] at h; injection h with h; subst h; exact .inl ⟨rfl, rfl⟩
  by_cases e9 : x.op = 9
  · unfold doM at h; rw [if_neg e1, if_neg e2, if_neg e3, if_neg e4, if_neg e5, if_neg e6, if_neg e7, if_neg e8, if_pos e9] at h; split at h
    · cases h
    · injection h with h; subst h; exact .inr (.inr ⟨x.a, _, rfl, rfl⟩)
  by_cases e10 : x.op = 10
  · unfold doM at h; rw [if_neg e1, if_neg e2, if_neg e3, if_neg e4, if_neg e5, if_neg e6, if_neg e7, if_neg e8, if_neg e9, if_pos e10] at h; injection h with h; subst h; exact .inl ⟨rfl, rfl⟩
  by_cases e11 : x.op = 11
  · unfold doM at h; rw [if_neg e1, if_neg e2, if_neg e3, if_neg e4, if_neg e5, if_neg e6, if_neg e7, if_neg e8, if_neg e9, if_neg e10, if_pos e11] at h; split at h
    · injection h with h; subst h; exact .inl ⟨rfl, rfl⟩
    · injection h with h; subst h; exact .inl ⟨rfl, rfl⟩
  by_cases e12 : x.op = 12
  · unfold doM at h; rw [if_neg e1, if_neg e2, if_neg e3, if_neg e4, if_neg e5, if_neg e6, if_neg e7, if_neg e8, if_neg e9, if_neg e10, if_neg e11, if_pos e12] at h; split at h
    · injection h with h; subst h; exact .inl ⟨rfl, rfl⟩
    · injection h with h; subst h; exact .inl ⟨rfl, rfl⟩
  unfold doM at h; rw [if_neg e1, if_neg e2, if_neg e3, if_neg e4, if_neg e5, if_neg e6, if_neg e7, if_neg e8, if_neg e9, if_neg e10, if_neg e11, if_neg e12] at h; injection h with h; subst h; exact .inl ⟨rfl, rfl⟩
theorem doM_long {M : Nat} {s z : Ms} {x : Ji} {cells : Int} (h : doM s x cells = .ok z) (hl : ∀ l ∈ s.A, l.length ≤ M + s.ce) : ∀ l ∈ z.A, l.length ≤ M + z.ce := by
  rcases doM_A h with ⟨h1, h2⟩ | ⟨i, L, h1, h3, h2⟩ | ⟨i, v, h1, h2⟩
  · rw [h1, h2]; exact hl
  · rw [h1, h2]
    intro l hm
    rcases List.mem_or_eq_of_mem_set hm with h4 | h4
    · exact hl l h4
    · rw [h4]; exact Nat.le_trans h3 (a_long hl i)
  · rw [h1, h2]
    intro l hm
    rcases List.mem_or_eq_of_mem_set hm with h4 | h4
    · have := hl l h4; omega
    · rw [h4, List.length_append]; have := a_long hl i; simp; omega
theorem goM_long {M : Nat} {c : Cd} {cells : Int} : ∀ {k : Nat} {s z : Ms} {p : List Nat}, (∀ l ∈ s.A, l.length ≤ M + s.ce) → goM c cells k s = .ok (z, p) → ∀ l ∈ z.A, l.length ≤ M + z.ce
  | 0, _, _, _, _, h => by cases h
  | k + 1, s, z, p, hl, h => by
    unfold goM at h
    split at h
    · cases h
    · rename_i s2 hs
      have h2 : ∀ l ∈ s2.A, l.length ≤ M + s2.ce := doM_long (s := s.tick) hs hl
      split at h
      · injection h with h; injection h with h1 _
        subst h1; exact h2
      · split at h
        · cases h
        · rename_i zp hg
          obtain ⟨z2, p2⟩ := zp
          injection h with h; injection h with h1 _
          subst h1
          exact goM_long h2 hg
section
variable {c : Cd} {fuel cells : Int} {ins : List (List Int)} {z : Ms} {p : List Nat}
theorem runM_parts (h : runM c fuel cells ins = .ok (z, p)) : validE c = 0 ∧ 0 ≤ fuel ∧ 0 ≤ cells ∧ (ins.length : Int) = c.I ∧ goM c cells fuel.toNat (startM c ins) = .ok (z, p) := by
  unfold runM at h
  split at h
  · cases h
  · rename_i h1
    split at h
    · cases h
    · rename_i h2
      exact ⟨Classical.byContradiction h1, by omega, by omega, Classical.byContradiction fun h3 => h2 (.inr (.inr h3)), h⟩
theorem runM_keeps (h : runM c fuel cells ins = .ok (z, p)) : z.st = p.length ∧ 1 ≤ p.length ∧ (p.length : Int) ≤ fuel ∧ (z.ce : Int) ≤ cells ∧ z.ce ≤ p.length := by
  obtain ⟨_, h1, h2, _, hg⟩ := runM_parts h
  obtain ⟨k1, k2, k3, _, _, k6⟩ := goM_keeps hg
  have k1 : z.st = 0 + p.length := k1
  have k6 := k6 (by show ((0 : Nat) : Int) ≤ cells; omega)
  refine ⟨by omega, k2, by omega, k6, ?_⟩
  by_cases hc : (z.ce : Int) ≤ (p.length : Int)
  · omega
  · exfalso
    have := goM_short hg (Nat.le_refl _) (show (((startM c ins).ce : Nat) : Int) ≤ (p.length : Int) from by show ((0 : Nat) : Int) ≤ _; omega) (cells2 := (p.length : Int)) (by omega)
    have hb : ∀ {k : Nat} {s : Ms} {cc : Int}, goM c cc k s = .error 10 → cc < (s.ce : Int) + k := by
      intro k
      induction k with
      | zero => intro s cc hh; injection hh with hh; cases hh
      | succ k ih =>
        intro s cc hh
        unfold goM at hh
        split at hh
        · rename_i e he
          injection hh with hh
          subst hh
          rcases doM_errors he with ⟨h5, _⟩ | ⟨_, _, h5⟩
          · cases h5
          · have h5 : cc ≤ ((s.ce : Nat) : Int) := h5
            omega
        · rename_i s2 hs
          split at hh
          · cases hh
          · split at hh
            · rename_i e he
              injection hh with hh
              subst hh
              have h6 := ih he
              have h7 : s2.ce = s.ce + _ := (doM_keeps hs).2.2.2.2.1
              have h8 : s2.ce ≤ s.ce + 1 := by rw [h7]; split <;> omega
              omega
            · cases hh
    have h9 := hb this
    have h9 : (p.length : Int) < ((0 : Nat) : Int) + (p.length : Nat) := h9
    omega
theorem runM_long {M : Nat} (h : runM c fuel cells ins = .ok (z, p)) (hl : ∀ L ∈ ins, L.length ≤ M) : ∀ l ∈ z.A, l.length ≤ M + p.length := by
  obtain ⟨_, _, _, _, hg⟩ := runM_parts h
  have hk := (runM_keeps h).2.2.2.2
  intro l hm
  have := goM_long (M := M) (fun l hm => by
    rcases List.mem_append.1 hm with h1 | h1
    · exact Nat.le_trans (hl l h1) (Nat.le_add_right _ _)
    · rw [(List.mem_replicate.1 h1).2]; exact Nat.zero_le _) hg l hm
  omega
end
end Go.Proofs.YtgkngimeokhhgaaGreatDoor
/- What a run comes to, as it is read. -/
namespace Go.Proofs.YtgkngimeokhhgaaGreatDoor
open Go.RowKit Go.Sort

theorem IntsLL.dropU {w : World} {B n b off k : Nat} {LL : List (List Int)} (h : IntsLL w B (some ⟨b, off, none⟩) n LL) (hk : k ≤ n) : IntsLL w B (some ⟨b, off + k, none⟩) (n - k) (LL.drop k) := by
  refine ⟨by rw [List.length_drop, h.1], fun h0 => ?_⟩
  obtain ⟨b2, off2, e, hB, hx⟩ := h.2 (by omega)
  injection e with e; injection e with e1 e2
  subst e1; subst e2
  refine ⟨b, off + k, rfl, hB, fun j L hL => ?_⟩
  rw [List.getElem?_drop] at hL
  obtain ⟨a, c, h1, h2⟩ := hx _ L hL
  rw [show off + k + j = off + (k + j) by omega]
  exact ⟨a, c, h1, h2⟩
/-- what came out, read -/
theorem MsW.rq {w : World} {base gR gA i a : Nat} {z : Ms} {rs : List RowU} {X : Option Addr} (h : MsW w base gR gA z rs) (ha : z.A.length = a) (hi : i ≤ a) (hX : i < a → X = some ⟨gA, i, none⟩) (h1 : a ≤ 128) (hl : ∀ l ∈ z.A, l.length ≤ 100000) :
    Rq.In ⟨X, a - i, a - i, z.A.drop i, (z.st : Int), (z.ce : Int)⟩ w := by
  have hr := h.A.reads
  rw [h.L, h.len, ha] at hr
  refine ⟨?_, by show a - i ≤ 100000; omega, fun l hm => hl l (List.mem_of_mem_drop hm)⟩
  show IntsLL w w.heap.size X (a - i) (z.A.drop i)
  by_cases hia : i < a
  · rw [hX hia]
    have := hr.dropU (k := i) hi
    rwa [Nat.zero_add] at this
  · exact ⟨by rw [List.length_drop, ha], fun h0 => by omega⟩
theorem sameR_refl (a b : Rq) (h1 : a.st = b.st) (h2 : a.ce = b.ce) (h3 : a.L = b.L) : sameR a b = true := by unfold sameR; simp [h1, h2, h3]
end Go.Proofs.YtgkngimeokhhgaaGreatDoor
/- The program's Need. -/
namespace Go.Proofs.YtgkngimeokhhgaaGreatDoor
open Go.RowKit Go.Sort

/-- what came out, read -/
theorem rowsU_rq {w : World} {base gO i a : Nat} {z : Ms} {rs : List RowU} (h : RowsU w base gO rs) (hL : rs.map (·.L) = z.A.drop i) (ha : z.A.length = a) (h1 : a ≤ 128) (hl : ∀ l ∈ z.A, l.length ≤ 100000) :
    Rq.In ⟨some ⟨gO, 0, none⟩, a - i, a - i, z.A.drop i, (z.st : Int), (z.ce : Int)⟩ w := by
  have hr := h.reads
  have hlen : rs.length = a - i := by
    have : (rs.map (·.L)).length = _ := congrArg List.length hL
    rw [List.length_map, List.length_drop, ha] at this
    exact this
  rw [hL, hlen] at hr
  exact ⟨hr, by show a - i ≤ 100000; omega, fun l hm => hl l (List.mem_of_mem_drop hm)⟩
set_option maxRecDepth 100000 in
set_option maxHeartbeats 8000000 in
theorem need16_any (q : Cq) (fuel cells : Int) (A : Option Addr) (n c : Nat) (ins : List (List Int)) (M : Nat) (w : World) (h : RunIn q fuel A n ins M w) (hS : ShT w) :
    Calls Tryz.prog 8 #[q.val, .int .i64 fuel, .int .i64 cells, .slice A n c] w fun e w' => e = .returned (.tuple #[.int .i64 (needR (runM q.cd fuel cells ins)).1, .int .i64 (needR (runM q.cd fuel cells ins)).2.1, .int .i64 (needR (runM q.cd fuel cells ins)).2.2]) ∧ Below w.heap.size w w' := by
  obtain ⟨W0, hW0⟩ : ∃ W, w.alloc q.obj = W := ⟨_, rfl⟩
  obtain ⟨g0, hg0⟩ : ∃ z, w.heap.size = z := ⟨_, rfl⟩
  have hb1 : Below w.heap.size w W0 := by rw [← hW0]; exact lvBelow w _
  have h1 : W0.heap[g0]? = some q.obj := by rw [← hW0, ← hg0]; exact heap_alloc_new w _
  have HB0 := Lib.hid hb1
  have hC := run16_any q fuel cells A n c ins M W0 (h.on hb1) (hS.on hb1)
  unfold RunO at hC
  obtain ⟨rr, hrr⟩ : ∃ rr, runM q.cd fuel cells ins = rr := ⟨_, rfl⟩
  rw [hrr] at hC ⊢
  obtain ⟨R, A0, I, P, n0, c0, l⟩ := q
  obtain ⟨k0, k1, k2, k3, _⟩ := lvCells h1
  clear hb1 h1 h hrr hS
  go_enter Tryz.func8, Tryz.ntmps8
  go_wp2_with fail
  try rw [hW0]
  try rw [hg0]
  (with_reducible refine hC.mono ?_)
  rintro e w9 (⟨v, rfl, rfl, hb⟩ | ⟨z, p, i, a, gO, rs, rfl, _, _, _, rfl, _, _, hb⟩)
  · obtain ⟨W10, hW10⟩ : ∃ W, w9.alloc (.cells #[.slice none 0 0, .int .i64 0, .int .i64 0] 30) = W := ⟨_, rfl⟩
    obtain ⟨g10, hg10⟩ : ∃ z, w9.heap.size = z := ⟨_, rfl⟩
    have hb10 : Below w9.heap.size w9 W10 := by rw [← hW10]; exact lvBelow _ _
    have HB9 := HB0.out.trans (hb.mono HB0.out.size)
    have HB10 := Lib.hid (HB9.trans (hb10.mono HB9.size))
    have HT10 : W10.heap[g10]? = some (.cells #[.slice none 0 0, .int .i64 0, .int .i64 0] 30 (0, 0)) := by rw [← hW10, ← hg10]; exact heap_alloc_new w9 _
    have HWQ := Lib.hid hW10
    clear hW0 hg0 hC k0 k1 k2 k3 hb hb10 HB9 hW10
    obtain ⟨u0, u1, u2, _⟩ := cells3V HT10
    go_upto_region 2 with fail
    try rw [HWQ.out]
    try rw [hg10]
    clear HWQ hg10
    go_quiet (fail)
    go_wp2_with fail
    exact bodyPost_ret (v := .tuple #[.int .i64 0, .int .i64 0, .int .i64 v]) (by simp [results, Tryz.results8, go_sem]) rfl ⟨rfl, below_N HB10.out _⟩
  · obtain ⟨W10, hW10⟩ : ∃ W, w9.alloc (.cells #[.slice (some ⟨gO, 0, none⟩) (a - i) (a - i), .int .i64 (z.st : Int), .int .i64 (z.ce : Int)] 30) = W := ⟨_, rfl⟩
    obtain ⟨g10, hg10⟩ : ∃ z, w9.heap.size = z := ⟨_, rfl⟩
    have hb10 : Below w9.heap.size w9 W10 := by rw [← hW10]; exact lvBelow _ _
    have HB9 := HB0.out.trans (hb.mono HB0.out.size)
    have HB10 := Lib.hid (HB9.trans (hb10.mono HB9.size))
    have HT10 : W10.heap[g10]? = some (.cells #[.slice (some ⟨gO, 0, none⟩) (a - i) (a - i), .int .i64 (z.st : Int), .int .i64 (z.ce : Int)] 30 (0, 0)) := by rw [← hW10, ← hg10]; exact heap_alloc_new w9 _
    have HWQ := Lib.hid hW10
    clear hW0 hg0 hC k0 k1 k2 k3 hb hb10 HB9 hW10
    obtain ⟨u0, u1, u2, _⟩ := cells3V HT10
    go_upto_region 2 with fail
    try rw [HWQ.out]
    try rw [hg10]
    clear HWQ hg10
    go_quiet (fail)
    go_wp2_with fail
    exact bodyPost_ret (v := .tuple #[.int .i64 (z.st : Int), .int .i64 (z.ce : Int), .int .i64 0]) (by simp [results, Tryz.results8, go_sem]) rfl ⟨rfl, below_N HB10.out _⟩
end Go.Proofs.YtgkngimeokhhgaaGreatDoor
