/- The program's parts of an instruction, and those of a kind. -/
import Derived.Test.YtbmcddolfofmdaaGreatDoorG5
import Derived.StillTail
import Derived.StillTailTactics
import Derived.Lib.QuietBelow
import Derived.Laws.StructEq
import Derived.BigQuiet
namespace Go.Proofs.YtbmcddolfofmdaaGreatDoor
open Go Go.RowKit

/-- an instruction's parts -/
def Ji.p (x : Ji) : List Int := [x.a, x.b, x.c, x.n]
abbrev partsV (x : Ji) : Value := .agg #[.int .i64 x.a, .int .i64 x.b, .int .i64 x.c, .int .i64 x.n]
abbrev zeroP : Obj := .cells #[.int .i64 0, .int .i64 0, .int .i64 0, .int .i64 0] 79
set_option maxRecDepth 100000 in
theorem parts_any (x : Ji) (w : World) : Calls Tryz.prog 49 #[x.val] w fun e w' => e = .returned (partsV x) ∧ Below w.heap.size w w' := by
  have hb1 := ((Below.refl w.heap.size w).alloc (Nat.le_refl _) x.obj).alloc (by simp) zeroP
  obtain ⟨W0, hW0⟩ : ∃ W, (w.alloc x.obj).alloc zeroP = W := ⟨_, rfl⟩
  have HB0 : Hid (Below w.heap.size w W0) := by rw [← hW0]; exact hb1
  have hX : W0.heap[w.heap.size]? = some x.obj := by rw [← hW0]; exact pastJ _ (heap_alloc_new w _)
  have HR : Hid (W0.heap[w.heap.size + 1]? = some (.cells #[.int .i64 0, .int .i64 0, .int .i64 0, .int .i64 0] 79 (0, 0))) := by
    rw [← hW0]
    have h := heap_alloc_new (w.alloc x.obj) zeroP
    rwa [World.size_alloc] at h
  obtain ⟨⟨k0, k1, k2, k3, k4⟩, kf⟩ := box_cellsJ hX
  obtain ⟨r0, r1, r2, r3, rf0, rf1, rf2, rf3⟩ := lvCells HR.out
  have hd : Below w.heap.size w ((((W0.setCell ⟨w.heap.size + 1, 0, none⟩ (.int .i64 x.a)).setCell ⟨w.heap.size + 1, 1, none⟩ (.int .i64 x.b)).setCell ⟨w.heap.size + 1, 2, none⟩ (.int .i64 x.c)).setCell ⟨w.heap.size + 1, 3, none⟩ (.int .i64 x.n)) :=
    (((HB0.out.setCell (p := ⟨w.heap.size + 1, 0, none⟩) (by simp) _).setCell (p := ⟨w.heap.size + 1, 1, none⟩) (by simp) _).setCell (p := ⟨w.heap.size + 1, 2, none⟩) (by simp) _).setCell (p := ⟨w.heap.size + 1, 3, none⟩) (by simp) _
  obtain ⟨s0, s1, s2, s3, _⟩ := lvCells (four_cells HR.out (.int .i64 x.a) (.int .i64 x.b) (.int .i64 x.c) (.int .i64 x.n))
  have HD := Lib.hid hd
  have HSS := Lib.hid (And.intro s0 (And.intro s1 (And.intro s2 s3)))
  clear hb1 hX hd s0 s1 s2 s3
  go_enter Tryz.func49, Tryz.ntmps49
  go_upto_region 1 with fail
  try rw [hW0]
  go_wp2_with fail
  obtain ⟨s0, s1, s2, s3⟩ := HSS.out
  exact bodyPost_ret (v := partsV x) (by simp [results, Tryz.results49, go_sem, s0, s1, s2, s3]) rfl ⟨rfl, HD.out⟩
set_option maxRecDepth 100000 in
set_option maxHeartbeats 1000000 in
theorem whole_j (x : Ji) (w : World) : Calls Tryz.prog 52 #[.int .i64 x.op, partsV x] w fun e w' => e = .returned x.val ∧ Below w.heap.size w w' := by
  have hb1 := ((Below.refl w.heap.size w).alloc (Nat.le_refl _) (.cells #[.int .i64 x.a, .int .i64 x.b, .int .i64 x.c, .int .i64 x.n] 79)).alloc (by simp) (Ji.obj ⟨0, 0, 0, 0, 0⟩)
  obtain ⟨W0, hW0⟩ : ∃ W, (w.alloc (.cells #[.int .i64 x.a, .int .i64 x.b, .int .i64 x.c, .int .i64 x.n] 79)).alloc (Ji.obj ⟨0, 0, 0, 0, 0⟩) = W := ⟨_, rfl⟩
  have HB0 : Hid (Below w.heap.size w W0) := by rw [← hW0]; exact hb1
  have hX : W0.heap[w.heap.size]? = some (.cells #[.int .i64 x.a, .int .i64 x.b, .int .i64 x.c, .int .i64 x.n] 79 (0, 0)) := by rw [← hW0]; exact pastJ _ (heap_alloc_new w _)
  have HR : Hid (W0.heap[w.heap.size + 1]? = some (.cells #[.int .i64 0, .int .i64 0, .int .i64 0, .int .i64 0, .int .i64 0] 26 (0, 0))) := by
    rw [← hW0]
    have h := heap_alloc_new (w.alloc (.cells #[.int .i64 x.a, .int .i64 x.b, .int .i64 x.c, .int .i64 x.n] 79)) (Ji.obj ⟨0, 0, 0, 0, 0⟩)
    rwa [World.size_alloc] at h
  obtain ⟨k0, k1, k2, k3, kf0, kf1, kf2, kf3⟩ := lvCells hX
  obtain ⟨r0, r1, r2, r3, r4, rf0, rf1, rf2, rf3, rf4⟩ := cells5 HR.out
  have HD := Lib.hid (put5_below HB0.out (show w.heap.size ≤ w.heap.size + 1 by omega) (.int .i64 x.op) (.int .i64 x.a) (.int .i64 x.b) (.int .i64 x.c) (.int .i64 x.n))
  obtain ⟨s0, s1, s2, s3, s4, _⟩ := cells5 (five_cells HR.out (.int .i64 x.op) (.int .i64 x.a) (.int .i64 x.b) (.int .i64 x.c) (.int .i64 x.n))
  have HSS := Lib.hid (And.intro s0 (And.intro s1 (And.intro s2 (And.intro s3 s4))))
  clear hb1 hX s0 s1 s2 s3 s4
  go_enter Tryz.func52, Tryz.ntmps52
  go_upto_region 1 with fail
  try rw [hW0]
  go_wp2_with fail
  obtain ⟨s0, s1, s2, s3, s4⟩ := HSS.out
  exact bodyPost_ret (v := x.val) (by simp [results, Tryz.results52, go_sem, s0, s1, s2, s3, s4]) rfl ⟨rfl, HD.out⟩
/-- the parts of a kind -/
def namedG (kd : Int) : List Int → List Int → List Int
  | k :: ks, v :: vs => if k = kd then v :: namedG kd ks vs else namedG kd ks vs
  | _, _ => []
def namedJ (x : Ji) (kd : Int) : List Int := namedG kd (kN x.op) x.p
theorem namedG_length (kd : Int) : ∀ (ks vs : List Int), (namedG kd ks vs).length ≤ vs.length
  | [], _ => by simp [namedG]
  | _ :: _, [] => by simp [namedG]
  | k :: ks, v :: vs => by
    have := namedG_length kd ks vs
    unfold namedG
    split <;> simp <;> omega
theorem namedG_snoc (kd : Int) : ∀ (ks vs : List Int) (i : Nat) (k v : Int), ks[i]? = some k → vs[i]? = some v → namedG kd (ks.take (i + 1)) vs = namedG kd (ks.take i) vs ++ if k = kd then [v] else []
  | [], _, i, _, _, h, _ => by simp at h
  | _ :: _, [], i, _, _, _, h => by simp at h
  | k0 :: ks, v0 :: vs, 0, k, v, h, h2 => by
    simp at h h2
    subst h; subst h2
    simp [namedG]
  | k0 :: ks, v0 :: vs, i + 1, k, v, h, h2 => by
    have := namedG_snoc kd ks vs i k v (by simpa using h) (by simpa using h2)
    simp only [List.take_succ_cons]
    unfold namedG
    split
    · rw [this]; rfl
    · exact this
theorem Ji.p_at {x : Ji} (h : x.ok) {k : Nat} (hk : k < 4) : ∃ v, x.p[k]? = some v ∧ -9223372036854775808 ≤ v ∧ v ≤ 9223372036854775807 := by
  match k, hk with
  | 0, _ => exact ⟨_, rfl, h.a⟩
  | 1, _ => exact ⟨_, rfl, h.b⟩
  | 2, _ => exact ⟨_, rfl, h.c⟩
  | 3, _ => exact ⟨_, rfl, h.n⟩
theorem kN_at (op : Int) {k : Nat} (hk : k < 4) : (kN op)[k]? = some (kA op k) := by
  have := kN_len op
  unfold kA
  rw [List.getD_eq_getElem?_getD, List.getElem?_eq_getElem (by omega)]; rfl
abbrev shObj (op : Int) : Obj := .cells #[.string (strJ (wJ op)), .int .i64 (kA op 0), .int .i64 (kA op 1), .int .i64 (kA op 2), .int .i64 (kA op 3)] 58
def NamedP (x : Ji) (kd : Int) (w : World) (e : Ending) (w' : World) : Prop := ∃ A c, e = .returned (.slice A (namedJ x kd).length c) ∧ OwnI w' w.heap.size 3 A c (namedJ x kd) ∧ Below w.heap.size w w'
theorem sh_cell {W : World} {g : Nat} {op : Int} (h : W.heap[g]? = some (.cells #[.string (strJ (wJ op)), .int .i64 (kA op 0), .int .i64 (kA op 1), .int .i64 (kA op 2), .int .i64 (kA op 3)] 58 (0, 0))) {k : Nat} (hk : k < 4) : W.cell? ⟨g, 1 + k, none⟩ = some (.int .i64 (kA op k)) := by
  obtain ⟨_, c1, c2, c3, c4, _⟩ := cells5 h
  match k, hk with
  | 0, _ => exact c1
  | 1, _ => exact c2
  | 2, _ => exact c3
  | 3, _ => exact c4
theorem index_parts {x : Ji} {k : Nat} {v : Int} (hv : x.p[k]? = some v) (w : World) : Sem.run Tryz.prog (Instr.index 79 (partsV x) (.int .i64 (k : Int))) w = .ok (.int .i64 v) w := by
  match k, hv with
  | 0, hv => cases hv; simp [Instr.index, run_underlying Tryz.underlying79, asIntOf, go_sem]
  | 1, hv => cases hv; simp [Instr.index, run_underlying Tryz.underlying79, asIntOf, go_sem]
  | 2, hv => cases hv; simp [Instr.index, run_underlying Tryz.underlying79, asIntOf, go_sem]
  | 3, hv => cases hv; simp [Instr.index, run_underlying Tryz.underlying79, asIntOf, go_sem]
  | k + 4, hv => cases hv
set_option maxRecDepth 100000 in
set_option maxHeartbeats 4000000 in
theorem named_any (x : Ji) (kd : Int) (w : World) (hx : x.ok) (_hd : 0 ≤ kd ∧ kd ≤ 6) (hS : ShT w) : Calls Tryz.prog 29 #[x.val, .int .i64 kd] w (NamedP x kd w) := by
  have HB0 := Lib.hid ((Below.refl w.heap.size w).alloc (Nat.le_refl _) x.obj)
  have HX0 := Lib.hid (newJ w x)
  have HOK := Lib.hid hx
  have HS := Lib.hid hS
  obtain ⟨W0, hW0⟩ : ∃ W, w.alloc x.obj = W := ⟨_, rfl⟩
  rw [hW0] at HB0 HX0
  have cS := shapeOf_any x.op W0 (HS.out.on HB0.out)
  obtain ⟨⟨k0, k1, k2, k3, k4⟩, kf⟩ := box_cellsJ HX0.out
  obtain ⟨i0, hi0, hz0, hz1, hz2⟩ := info_parts infoInt
  clear hS
  go_enter Tryz.func29, Tryz.ntmps29
  go_wp2_with fail
  try rw [hW0]
  refine cS.mono ?_
  rintro e w1 ⟨rfl, hb⟩
  unfold shV
  have HB1 := Lib.hid (HB0.out.trans (hb.mono HB0.out.size))
  have HX1 := Lib.hid (keep_b hb HX0.out)
  clear hb hW0 k0 k1 k2 k3 k4 kf
  obtain ⟨W2, hW2⟩ : ∃ W, w1.alloc (shObj x.op) = W := ⟨_, rfl⟩
  have HB2 : Hid (Below w.heap.size w W2) := by rw [← hW2]; exact HB1.out.alloc HB1.out.size _
  have HX2 : Hid (W2.heap[w.heap.size]? = some x.obj) := by rw [← hW2]; exact pastJ _ HX1.out
  have HG2 : Hid (W2.heap[w1.heap.size]? = some (.cells #[.string (strJ (wJ x.op)), .int .i64 (kA x.op 0), .int .i64 (kA x.op 1), .int .i64 (kA x.op 2), .int .i64 (kA x.op 3)] 58 (0, 0))) := by rw [← hW2]; exact heap_alloc_new w1 (shObj x.op)
  go_upto_region 2 with fail
  try rw [hW2]
  have cP := parts_any x W2
  obtain ⟨⟨k0, k1, k2, k3, k4⟩, kf⟩ := box_cellsJ HX2.out
  have hg1 : w.heap.size ≤ w1.heap.size := HB1.out.size
  clear hW2 cS HX1
  go_wp2_with fail
  refine cP.mono ?_
  rintro e w3 ⟨rfl, hb⟩
  have HB3 := Lib.hid (HB2.out.trans (hb.mono HB2.out.size))
  have HG3 := Lib.hid (keep_b hb HG2.out)
  obtain ⟨G, hG⟩ : ∃ G, w1.heap.size = G := ⟨_, rfl⟩
  rw [hG] at HG3 hg1 ⊢
  clear hb cP HG2 HX2 HB2 HB1 HB0 HX0 k0 k1 k2 k3 k4 kf hG
  go_wp2_with fail
  go_loopw [7, 18] (fun v i wr => ∃ (k : Nat) (A : Option Addr) (c : Nat), k ≤ 4 ∧ i = .int .i64 k ∧ v = .slice A (namedG kd ((kN x.op).take k) x.p).length c ∧ Hid (OwnI wr w.heap.size 3 A c (namedG kd ((kN x.op).take k) x.p)) ∧ Hid (Below w.heap.size w wr) ∧ Hid (wr.heap[G]? = some (.cells #[.string (strJ (wJ x.op)), .int .i64 (kA x.op 0), .int .i64 (kA x.op 1), .int .i64 (kA x.op 2), .int .i64 (kA x.op 3)] 58 (0, 0)))) (fun _ i _ => 4 - (intOf i).toNat)
  case atStart => exact ⟨0, none, 0, Nat.zero_le _, rfl, by rw [List.take_zero]; rfl, by rw [List.take_zero]; exact OwnI.nil_ _ _ _, HB3.out, HG3.out⟩
  case round =>
    obtain ⟨k, A, c, hk, rfl, rfl, HO, HB, HG⟩ := hrel
    by_cases hlt : k < 4
    · obtain ⟨v, hv, hv0, hv1⟩ := Ji.p_at HOK.out hlt
      have hkn := kN_at x.op hlt
      have hsn := namedG_snoc kd (kN x.op) x.p k (kA x.op k) v hkn hv
      have hrl : (namedG kd ((kN x.op).take k) x.p).length ≤ 4 := namedG_length kd _ _
      have hc := sh_cell HG.out hlt
      have HSN := Lib.hid hsn
      have HV := Lib.hid hv
      have hix := index_parts hv wr
      have hk4 : (k : Int) < 4 := by omega
      have hk0 : (0 : Int) ≤ (k : Int) := by omega
      clear hsn hv hkn
      by_cases hkd : kA x.op k = kd
      · have c1 : (kA x.op k == kd) = true := by simpa using hkd
        have HST : Hid (namedG kd ((kN x.op).take (k + 1)) x.p = namedG kd ((kN x.op).take k) x.p ++ [v]) := by unfold Hid; rw [HSN.out, if_pos hkd]
        obtain ⟨m, hm⟩ : ∃ m, (namedG kd ((kN x.op).take k) x.p).length = m := ⟨_, rfl⟩
        have HM := Lib.hid hm
        rw [hm] at hrl
        have hle : m + 1 ≤ 1000000 := by omega
        have hsz : w.heap.size ≤ wr.heap.size := HB.out.size
        rw [hm]
        clear hm hkd
        go_wp2_with (at_builtin; refine wpList_appendInts _ rfl (.tmp 28) (.tmp 30) 38 rfl w.heap.size 3 i0 Tryz.underlying38 hi0 hz0 hz1 hz2 A (some ⟨wr.heap.size, 0, none⟩) c 1 1 (wr.heap.size + 1) m (m + 1) (namedG kd ((kN x.op).take k) x.p) [v] rfl rfl (HO.out.alloc _) HM.out rfl (src_new wr ⟨hv0, hv1⟩) hle (by simp; omega) ?_; intro A3 c3 w3 hO3 hG3)
        have hb3 := below_app (HB.out.alloc hsz _) hG3 (HO.out.alloc _) HM.out (by simp; omega)
        have hX3 := past_int (HO.out.alloc _) (pastJ _ HG.out) (by decide) HM.out hG3
        have HO3 := Lib.hid hO3
        have HB4 := Lib.hid hb3
        have HG4 := Lib.hid hX3
        clear hO3 hb3 hX3 hG3
        go_wp2_with fail
        go_roundw
        case rel => exact ⟨k + 1, A3, c3, by omega, by go_num, by rw [HST.out, List.length_append, HM.out]; rfl, by rw [HST.out]; exact HO3.out, HB4.out, HG4.out⟩
        case measure => simp [intOf]; omega
      · have c1 : (kA x.op k == kd) = false := by simpa using hkd
        have HST : Hid (namedG kd ((kN x.op).take (k + 1)) x.p = namedG kd ((kN x.op).take k) x.p) := by unfold Hid; rw [HSN.out, if_neg hkd, List.append_nil]
        clear hkd
        go_wp2_with fail
        go_roundw
        case rel => exact ⟨k + 1, A, c, by omega, by go_num, by rw [HST.out], by rw [HST.out]; exact HO.out, HB.out, HG.out⟩
        case measure => simp [intOf]; omega
    · have hk4 : ¬ (k : Int) < 4 := by omega
      have HT : Hid (namedG kd ((kN x.op).take k) x.p = namedJ x kd) := by unfold Hid namedJ; rw [List.take_of_length_le (by rw [kN_len]; omega)]
      rw [HT.out] at HO ⊢
      go_wp2_with fail
      go_ret
      exact ⟨A, c, rfl, HO.out, HB.out⟩
end Go.Proofs.YtbmcddolfofmdaaGreatDoor
/- The document's Next: where an instruction goes on. -/
namespace Go.Proofs.YtbmcddolfofmdaaGreatDoor
open Go.RowKit

def NextP (x : Ji) (at_ : Int) (w : World) (e : Ending) (w' : World) : Prop := ∃ A c, e = .returned (.slice A (nextJ x at_).length c) ∧ OwnI w' w.heap.size 3 A c (nextJ x at_) ∧ Below w.heap.size w w'
theorem own_one (W : World) (v : Int) (base : Nat) (hb : base ≤ W.heap.size) (hv : -9223372036854775808 ≤ v ∧ v ≤ 9223372036854775807) : OwnI (W.alloc (.cells #[.int .i64 v] 3)) base 3 (some ⟨W.heap.size, 0, none⟩) 1 [v] :=
  ⟨⟨rfl, .inr ⟨W.heap.size, 1, #[.int .i64 v], rfl, hb, heap_alloc_new W _, Nat.le_refl _, by unfold maxLen; omega, rfl, rfl⟩⟩, by simpa using hv⟩
theorem own_two (W : World) (v u : Int) (base : Nat) (hb : base ≤ W.heap.size) (hv : -9223372036854775808 ≤ v ∧ v ≤ 9223372036854775807) (hu : -9223372036854775808 ≤ u ∧ u ≤ 9223372036854775807) : OwnI (W.alloc (.cells #[.int .i64 v, .int .i64 u] 3)) base 3 (some ⟨W.heap.size, 0, none⟩) 2 [v, u] :=
  ⟨⟨rfl, .inr ⟨W.heap.size, 2, #[.int .i64 v, .int .i64 u], rfl, hb, heap_alloc_new W _, Nat.le_refl _, by unfold maxLen; omega, rfl, rfl⟩⟩, by
    intro z hz
    rcases List.mem_cons.1 hz with rfl | hz
    · exact hv
    · rw [List.mem_singleton.1 hz]; exact hu⟩
set_option maxRecDepth 100000 in
theorem refNext_0 (a b c n at_ : Int) (w : World) (_hx : (⟨0, a, b, c, n⟩ : Ji).ok) : Calls Tryz.prog 17 #[Ji.val ⟨0, a, b, c, n⟩, .int .i64 at_] w (NextP ⟨0, a, b, c, n⟩ at_ w) := by
  have HN : Hid (nextJ ⟨0, a, b, c, n⟩ at_ = []) := rfl
  have HB0 := Lib.hid ((Below.refl w.heap.size w).alloc (Nat.le_refl _) (Ji.obj ⟨0, a, b, c, n⟩))
  have HX0 := Lib.hid (newJ w ⟨0, a, b, c, n⟩)
  obtain ⟨W0, hW0⟩ : ∃ W, w.alloc (Ji.obj ⟨0, a, b, c, n⟩) = W := ⟨_, rfl⟩
  rw [hW0] at HB0 HX0
  obtain ⟨k, kf⟩ := box_cellsJ HX0.out
  obtain ⟨k0, k1, k2, k3, k4⟩ := k
  go_enter Tryz.func17, Tryz.ntmps17
  go_wp2_with fail
  try rw [hW0]
  refine (refWord14_any 0 W0).mono ?_
  rintro e w1 ⟨rfl, hb⟩
  have HB1 := Lib.hid (HB0.out.trans (hb.mono HB0.out.size))
  have HX1 := Lib.hid (keep_b hb HX0.out)
  have hsz : w.heap.size ≤ w1.heap.size := HB1.out.size
  clear hb hW0 k0 k1 k2 k3 k4 kf
  obtain ⟨k, kf⟩ := box_cellsJ HX1.out
  obtain ⟨k0, k1, k2, k3, k4⟩ := k
  rw [show strJ (wJ 0) = (⟨#[104, 97, 108, 116]⟩ : ByteArray) from rfl]
  go_wp2_with fail
  go_ret
  exact ⟨none, 0, by rw [HN.out]; rfl, by rw [HN.out]; exact OwnI.nil_ _ _ _, HB1.out⟩
set_option maxRecDepth 100000 in
theorem refNext_1 (a b c n at_ : Int) (w : World) (_hx : (⟨1, a, b, c, n⟩ : Ji).ok) : Calls Tryz.prog 17 #[Ji.val ⟨1, a, b, c, n⟩, .int .i64 at_] w (NextP ⟨1, a, b, c, n⟩ at_ w) := by
  have HB0 := Lib.hid ((Below.refl w.heap.size w).alloc (Nat.le_refl _) (Ji.obj ⟨1, a, b, c, n⟩))
  have HX0 := Lib.hid (newJ w ⟨1, a, b, c, n⟩)
  obtain ⟨W0, hW0⟩ : ∃ W, w.alloc (Ji.obj ⟨1, a, b, c, n⟩) = W := ⟨_, rfl⟩
  rw [hW0] at HB0 HX0
  obtain ⟨k, kf⟩ := box_cellsJ HX0.out
  obtain ⟨k0, k1, k2, k3, k4⟩ := k
  go_enter Tryz.func17, Tryz.ntmps17
  go_wp2_with fail
  try rw [hW0]
  refine (refWord14_any 1 W0).mono ?_
  rintro e w1 ⟨rfl, hb⟩
  have HB1 := Lib.hid (HB0.out.trans (hb.mono HB0.out.size))
  have HX1 := Lib.hid (keep_b hb HX0.out)
  have hsz : w.heap.size ≤ w1.heap.size := HB1.out.size
  clear hb hW0 k0 k1 k2 k3 k4 kf
  obtain ⟨k, kf⟩ := box_cellsJ HX1.out
  obtain ⟨k0, k1, k2, k3, k4⟩ := k
  rw [show strJ (wJ 1) = (⟨#[115, 101, 116]⟩ : ByteArray) from rfl]
  go_wp2_with fail
  go_ret
  exact ⟨_, _, rfl, own_one w1 _ _ hsz (wrap64_bounds _), HB1.out.alloc hsz _⟩
set_option maxRecDepth 100000 in
theorem refNext_2 (a b c n at_ : Int) (w : World) (_hx : (⟨2, a, b, c, n⟩ : Ji).ok) : Calls Tryz.prog 17 #[Ji.val ⟨2, a, b, c, n⟩, .int .i64 at_] w (NextP ⟨2, a, b, c, n⟩ at_ w) := by
  have HB0 := Lib.hid ((Below.refl w.heap.size w).alloc (Nat.le_refl _) (Ji.obj ⟨2, a, b, c, n⟩))
  have HX0 := Lib.hid (newJ w ⟨2, a, b, c, n⟩)
  obtain ⟨W0, hW0⟩ : ∃ W, w.alloc (Ji.obj ⟨2, a, b, c, n⟩) = W := ⟨_, rfl⟩
  rw [hW0] at HB0 HX0
  obtain ⟨k, kf⟩ := box_cellsJ HX0.out
  obtain ⟨k0, k1, k2, k3, k4⟩ := k
  go_enter Tryz.func17, Tryz.ntmps17
  go_wp2_with fail
  try rw [hW0]
  refine (refWord14_any 2 W0).mono ?_
  rintro e w1 ⟨rfl, hb⟩
  have HB1 := Lib.hid (HB0.out.trans (hb.mono HB0.out.size))
  have HX1 := Lib.hid (keep_b hb HX0.out)
  have hsz : w.heap.size ≤ w1.heap.size := HB1.out.size
  clear hb hW0 k0 k1 k2 k3 k4 kf
  obtain ⟨k, kf⟩ := box_cellsJ HX1.out
  obtain ⟨k0, k1, k2, k3, k4⟩ := k
  rw [show strJ (wJ 2) = (⟨#[109, 111, 118, 101]⟩ : ByteArray) from rfl]
  go_wp2_with fail
  go_ret
  exact ⟨_, _, rfl, own_one w1 _ _ hsz (wrap64_bounds _), HB1.out.alloc hsz _⟩
set_option maxRecDepth 100000 in
theorem refNext_3 (a b c n at_ : Int) (w : World) (_hx : (⟨3, a, b, c, n⟩ : Ji).ok) : Calls Tryz.prog 17 #[Ji.val ⟨3, a, b, c, n⟩, .int .i64 at_] w (NextP ⟨3, a, b, c, n⟩ at_ w) := by
  have HB0 := Lib.hid ((Below.refl w.heap.size w).alloc (Nat.le_refl _) (Ji.obj ⟨3, a, b, c, n⟩))
  have HX0 := Lib.hid (newJ w ⟨3, a, b, c, n⟩)
  obtain ⟨W0, hW0⟩ : ∃ W, w.alloc (Ji.obj ⟨3, a, b, c, n⟩) = W := ⟨_, rfl⟩
  rw [hW0] at HB0 HX0
  obtain ⟨k, kf⟩ := box_cellsJ HX0.out
  obtain ⟨k0, k1, k2, k3, k4⟩ := k
  go_enter Tryz.func17, Tryz.ntmps17
  go_wp2_with fail
  try rw [hW0]
  refine (refWord14_any 3 W0).mono ?_
  rintro e w1 ⟨rfl, hb⟩
  have HB1 := Lib.hid (HB0.out.trans (hb.mono HB0.out.size))
  have HX1 := Lib.hid (keep_b hb HX0.out)
  have hsz : w.heap.size ≤ w1.heap.size := HB1.out.size
  clear hb hW0 k0 k1 k2 k3 k4 kf
  obtain ⟨k, kf⟩ := box_cellsJ HX1.out
  obtain ⟨k0, k1, k2, k3, k4⟩ := k
  rw [show strJ (wJ 3) = (⟨#[97, 100, 100]⟩ : ByteArray) from rfl]
  go_wp2_with fail
  go_ret
  exact ⟨_, _, rfl, own_one w1 _ _ hsz (wrap64_bounds _), HB1.out.alloc hsz _⟩
set_option maxRecDepth 100000 in
theorem refNext_4 (a b c n at_ : Int) (w : World) (_hx : (⟨4, a, b, c, n⟩ : Ji).ok) : Calls Tryz.prog 17 #[Ji.val ⟨4, a, b, c, n⟩, .int .i64 at_] w (NextP ⟨4, a, b, c, n⟩ at_ w) := by
  have HB0 := Lib.hid ((Below.refl w.heap.size w).alloc (Nat.le_refl _) (Ji.obj ⟨4, a, b, c, n⟩))
  have HX0 := Lib.hid (newJ w ⟨4, a, b, c, n⟩)
  obtain ⟨W0, hW0⟩ : ∃ W, w.alloc (Ji.obj ⟨4, a, b, c, n⟩) = W := ⟨_, rfl⟩
  rw [hW0] at HB0 HX0
  obtain ⟨k, kf⟩ := box_cellsJ HX0.out
  obtain ⟨k0, k1, k2, k3, k4⟩ := k
  go_enter Tryz.func17, Tryz.ntmps17
  go_wp2_with fail
  try rw [hW0]
  refine (refWord14_any 4 W0).mono ?_
  rintro e w1 ⟨rfl, hb⟩
  have HB1 := Lib.hid (HB0.out.trans (hb.mono HB0.out.size))
  have HX1 := Lib.hid (keep_b hb HX0.out)
  have hsz : w.heap.size ≤ w1.heap.size := HB1.out.size
  clear hb hW0 k0 k1 k2 k3 k4 kf
  obtain ⟨k, kf⟩ := box_cellsJ HX1.out
  obtain ⟨k0, k1, k2, k3, k4⟩ := k
  rw [show strJ (wJ 4) = (⟨#[115, 117, 98]⟩ : ByteArray) from rfl]
  go_wp2_with fail
  go_ret
  exact ⟨_, _, rfl, own_one w1 _ _ hsz (wrap64_bounds _), HB1.out.alloc hsz _⟩
set_option maxRecDepth 100000 in
theorem refNext_5 (a b c n at_ : Int) (w : World) (_hx : (⟨5, a, b, c, n⟩ : Ji).ok) : Calls Tryz.prog 17 #[Ji.val ⟨5, a, b, c, n⟩, .int .i64 at_] w (NextP ⟨5, a, b, c, n⟩ at_ w) := by
  have HB0 := Lib.hid ((Below.refl w.heap.size w).alloc (Nat.le_refl _) (Ji.obj ⟨5, a, b, c, n⟩))
  have HX0 := Lib.hid (newJ w ⟨5, a, b, c, n⟩)
  obtain ⟨W0, hW0⟩ : ∃ W, w.alloc (Ji.obj ⟨5, a, b, c, n⟩) = W := ⟨_, rfl⟩
  rw [hW0] at HB0 HX0
  obtain ⟨k, kf⟩ := box_cellsJ HX0.out
  obtain ⟨k0, k1, k2, k3, k4⟩ := k
  go_enter Tryz.func17, Tryz.ntmps17
  go_wp2_with fail
  try rw [hW0]
  refine (refWord14_any 5 W0).mono ?_
  rintro e w1 ⟨rfl, hb⟩
  have HB1 := Lib.hid (HB0.out.trans (hb.mono HB0.out.size))
  have HX1 := Lib.hid (keep_b hb HX0.out)
  have hsz : w.heap.size ≤ w1.heap.size := HB1.out.size
  clear hb hW0 k0 k1 k2 k3 k4 kf
  obtain ⟨k, kf⟩ := box_cellsJ HX1.out
  obtain ⟨k0, k1, k2, k3, k4⟩ := k
  rw [show strJ (wJ 5) = (⟨#[109, 117, 108]⟩ : ByteArray) from rfl]
  go_wp2_with fail
  go_ret
  exact ⟨_, _, rfl, own_one w1 _ _ hsz (wrap64_bounds _), HB1.out.alloc hsz _⟩
set_option maxRecDepth 100000 in
theorem refNext_6 (a b c n at_ : Int) (w : World) (_hx : (⟨6, a, b, c, n⟩ : Ji).ok) : Calls Tryz.prog 17 #[Ji.val ⟨6, a, b, c, n⟩, .int .i64 at_] w (NextP ⟨6, a, b, c, n⟩ at_ w) := by
  have HB0 := Lib.hid ((Below.refl w.heap.size w).alloc (Nat.le_refl _) (Ji.obj ⟨6, a, b, c, n⟩))
  have HX0 := Lib.hid (newJ w ⟨6, a, b, c, n⟩)
  obtain ⟨W0, hW0⟩ : ∃ W, w.alloc (Ji.obj ⟨6, a, b, c, n⟩) = W := ⟨_, rfl⟩
  rw [hW0] at HB0 HX0
  obtain ⟨k, kf⟩ := box_cellsJ HX0.out
  obtain ⟨k0, k1, k2, k3, k4⟩ := k
  go_enter Tryz.func17, Tryz.ntmps17
  go_wp2_with fail
  try rw [hW0]
  refine (refWord14_any 6 W0).mono ?_
  rintro e w1 ⟨rfl, hb⟩
  have HB1 := Lib.hid (HB0.out.trans (hb.mono HB0.out.size))
  have HX1 := Lib.hid (keep_b hb HX0.out)
  have hsz : w.heap.size ≤ w1.heap.size := HB1.out.size
  clear hb hW0 k0 k1 k2 k3 k4 kf
  obtain ⟨k, kf⟩ := box_cellsJ HX1.out
  obtain ⟨k0, k1, k2, k3, k4⟩ := k
  rw [show strJ (wJ 6) = (⟨#[108, 111, 97, 100]⟩ : ByteArray) from rfl]
  go_wp2_with fail
  go_ret
  exact ⟨_, _, rfl, own_one w1 _ _ hsz (wrap64_bounds _), HB1.out.alloc hsz _⟩
set_option maxRecDepth 100000 in
theorem refNext_7 (a b c n at_ : Int) (w : World) (_hx : (⟨7, a, b, c, n⟩ : Ji).ok) : Calls Tryz.prog 17 #[Ji.val ⟨7, a, b, c, n⟩, .int .i64 at_] w (NextP ⟨7, a, b, c, n⟩ at_ w) := by
  have HB0 := Lib.hid ((Below.refl w.heap.size w).alloc (Nat.le_refl _) (Ji.obj ⟨7, a, b, c, n⟩))
  have HX0 := Lib.hid (newJ w ⟨7, a, b, c, n⟩)
  obtain ⟨W0, hW0⟩ : ∃ W, w.alloc (Ji.obj ⟨7, a, b, c, n⟩) = W := ⟨_, rfl⟩
  rw [hW0] at HB0 HX0
  obtain ⟨k, kf⟩ := box_cellsJ HX0.out
  obtain ⟨k0, k1, k2, k3, k4⟩ := k
  go_enter Tryz.func17, Tryz.ntmps17
  go_wp2_with fail
  try rw [hW0]
  refine (refWord14_any 7 W0).mono ?_
  rintro e w1 ⟨rfl, hb⟩
  have HB1 := Lib.hid (HB0.out.trans (hb.mono HB0.out.size))
  have HX1 := Lib.hid (keep_b hb HX0.out)
  have hsz : w.heap.size ≤ w1.heap.size := HB1.out.size
  clear hb hW0 k0 k1 k2 k3 k4 kf
  obtain ⟨k, kf⟩ := box_cellsJ HX1.out
  obtain ⟨k0, k1, k2, k3, k4⟩ := k
  rw [show strJ (wJ 7) = (⟨#[115, 116, 111, 114, 101]⟩ : ByteArray) from rfl]
  go_wp2_with fail
  go_ret
  exact ⟨_, _, rfl, own_one w1 _ _ hsz (wrap64_bounds _), HB1.out.alloc hsz _⟩
set_option maxRecDepth 100000 in
theorem refNext_8 (a b c n at_ : Int) (w : World) (_hx : (⟨8, a, b, c, n⟩ : Ji).ok) : Calls Tryz.prog 17 #[Ji.val ⟨8, a, b, c, n⟩, .int .i64 at_] w (NextP ⟨8, a, b, c, n⟩ at_ w) := by
  have HB0 := Lib.hid ((Below.refl w.heap.size w).alloc (Nat.le_refl _) (Ji.obj ⟨8, a, b, c, n⟩))
  have HX0 := Lib.hid (newJ w ⟨8, a, b, c, n⟩)
  obtain ⟨W0, hW0⟩ : ∃ W, w.alloc (Ji.obj ⟨8, a, b, c, n⟩) = W := ⟨_, rfl⟩
  rw [hW0] at HB0 HX0
  obtain ⟨k, kf⟩ := box_cellsJ HX0.out
  obtain ⟨k0, k1, k2, k3, k4⟩ := k
  go_enter Tryz.func17, Tryz.ntmps17
  go_wp2_with fail
  try rw [hW0]
  refine (refWord14_any 8 W0).mono ?_
  rintro e w1 ⟨rfl, hb⟩
  have HB1 := Lib.hid (HB0.out.trans (hb.mono HB0.out.size))
  have HX1 := Lib.hid (keep_b hb HX0.out)
  have hsz : w.heap.size ≤ w1.heap.size := HB1.out.size
  clear hb hW0 k0 k1 k2 k3 k4 kf
  obtain ⟨k, kf⟩ := box_cellsJ HX1.out
  obtain ⟨k0, k1, k2, k3, k4⟩ := k
  rw [show strJ (wJ 8) = (⟨#[108, 101, 110]⟩ : ByteArray) from rfl]
  go_wp2_with fail
  go_ret
  exact ⟨_, _, rfl, own_one w1 _ _ hsz (wrap64_bounds _), HB1.out.alloc hsz _⟩
set_option maxRecDepth 100000 in
theorem refNext_9 (a b c n at_ : Int) (w : World) (_hx : (⟨9, a, b, c, n⟩ : Ji).ok) : Calls Tryz.prog 17 #[Ji.val ⟨9, a, b, c, n⟩, .int .i64 at_] w (NextP ⟨9, a, b, c, n⟩ at_ w) := by
  have HB0 := Lib.hid ((Below.refl w.heap.size w).alloc (Nat.le_refl _) (Ji.obj ⟨9, a, b, c, n⟩))
  have HX0 := Lib.hid (newJ w ⟨9, a, b, c, n⟩)
  obtain ⟨W0, hW0⟩ : ∃ W, w.alloc (Ji.obj ⟨9, a, b, c, n⟩) = W := ⟨_, rfl⟩
  rw [hW0] at HB0 HX0
  obtain ⟨k, kf⟩ := box_cellsJ HX0.out
  obtain ⟨k0, k1, k2, k3, k4⟩ := k
  go_enter Tryz.func17, Tryz.ntmps17
  go_wp2_with fail
  try rw [hW0]
  refine (refWord14_any 9 W0).mono ?_
  rintro e w1 ⟨rfl, hb⟩
  have HB1 := Lib.hid (HB0.out.trans (hb.mono HB0.out.size))
  have HX1 := Lib.hid (keep_b hb HX0.out)
  have hsz : w.heap.size ≤ w1.heap.size := HB1.out.size
  clear hb hW0 k0 k1 k2 k3 k4 kf
  obtain ⟨k, kf⟩ := box_cellsJ HX1.out
  obtain ⟨k0, k1, k2, k3, k4⟩ := k
  rw [show strJ (wJ 9) = (⟨#[112, 117, 115, 104]⟩ : ByteArray) from rfl]
  go_wp2_with fail
  go_ret
  exact ⟨_, _, rfl, own_one w1 _ _ hsz (wrap64_bounds _), HB1.out.alloc hsz _⟩
set_option maxRecDepth 100000 in
theorem refNext_10 (a b c n at_ : Int) (w : World) (hx : (⟨10, a, b, c, n⟩ : Ji).ok) : Calls Tryz.prog 17 #[Ji.val ⟨10, a, b, c, n⟩, .int .i64 at_] w (NextP ⟨10, a, b, c, n⟩ at_ w) := by
  have HB0 := Lib.hid ((Below.refl w.heap.size w).alloc (Nat.le_refl _) (Ji.obj ⟨10, a, b, c, n⟩))
  have HX0 := Lib.hid (newJ w ⟨10, a, b, c, n⟩)
  obtain ⟨W0, hW0⟩ : ∃ W, w.alloc (Ji.obj ⟨10, a, b, c, n⟩) = W := ⟨_, rfl⟩
  rw [hW0] at HB0 HX0
  obtain ⟨k, kf⟩ := box_cellsJ HX0.out
  obtain ⟨k0, k1, k2, k3, k4⟩ := k
  go_enter Tryz.func17, Tryz.ntmps17
  go_wp2_with fail
  try rw [hW0]
  refine (refWord14_any 10 W0).mono ?_
  rintro e w1 ⟨rfl, hb⟩
  have HB1 := Lib.hid (HB0.out.trans (hb.mono HB0.out.size))
  have HX1 := Lib.hid (keep_b hb HX0.out)
  have hsz : w.heap.size ≤ w1.heap.size := HB1.out.size
  clear hb hW0 k0 k1 k2 k3 k4 kf
  obtain ⟨k, kf⟩ := box_cellsJ HX1.out
  obtain ⟨k0, k1, k2, k3, k4⟩ := k
  rw [show strJ (wJ 10) = (⟨#[106, 117, 109, 112]⟩ : ByteArray) from rfl]
  go_wp2_with fail
  go_ret
  exact ⟨_, _, rfl, own_one w1 a _ hsz hx.a, HB1.out.alloc hsz _⟩
set_option maxRecDepth 100000 in
theorem refNext_11 (a b c n at_ : Int) (w : World) (hx : (⟨11, a, b, c, n⟩ : Ji).ok) : Calls Tryz.prog 17 #[Ji.val ⟨11, a, b, c, n⟩, .int .i64 at_] w (NextP ⟨11, a, b, c, n⟩ at_ w) := by
  have HB0 := Lib.hid ((Below.refl w.heap.size w).alloc (Nat.le_refl _) (Ji.obj ⟨11, a, b, c, n⟩))
  have HX0 := Lib.hid (newJ w ⟨11, a, b, c, n⟩)
  obtain ⟨W0, hW0⟩ : ∃ W, w.alloc (Ji.obj ⟨11, a, b, c, n⟩) = W := ⟨_, rfl⟩
  rw [hW0] at HB0 HX0
  obtain ⟨k, kf⟩ := box_cellsJ HX0.out
  obtain ⟨k0, k1, k2, k3, k4⟩ := k
  go_enter Tryz.func17, Tryz.ntmps17
  go_wp2_with fail
  try rw [hW0]
  refine (refWord14_any 11 W0).mono ?_
  rintro e w1 ⟨rfl, hb⟩
  have HB1 := Lib.hid (HB0.out.trans (hb.mono HB0.out.size))
  have HX1 := Lib.hid (keep_b hb HX0.out)
  have hsz : w.heap.size ≤ w1.heap.size := HB1.out.size
  clear hb hW0 k0 k1 k2 k3 k4 kf
  obtain ⟨k, kf⟩ := box_cellsJ HX1.out
  obtain ⟨k0, k1, k2, k3, k4⟩ := k
  rw [show strJ (wJ 11) = (⟨#[108, 101, 115, 115]⟩ : ByteArray) from rfl]
  go_wp2_with fail
  go_ret
  exact ⟨_, _, rfl, own_two w1 _ c _ hsz (wrap64_bounds _) hx.c, HB1.out.alloc hsz _⟩
set_option maxRecDepth 100000 in
theorem refNext_12 (a b c n at_ : Int) (w : World) (hx : (⟨12, a, b, c, n⟩ : Ji).ok) : Calls Tryz.prog 17 #[Ji.val ⟨12, a, b, c, n⟩, .int .i64 at_] w (NextP ⟨12, a, b, c, n⟩ at_ w) := by
  have HB0 := Lib.hid ((Below.refl w.heap.size w).alloc (Nat.le_refl _) (Ji.obj ⟨12, a, b, c, n⟩))
  have HX0 := Lib.hid (newJ w ⟨12, a, b, c, n⟩)
  obtain ⟨W0, hW0⟩ : ∃ W, w.alloc (Ji.obj ⟨12, a, b, c, n⟩) = W := ⟨_, rfl⟩
  rw [hW0] at HB0 HX0
  obtain ⟨k, kf⟩ := box_cellsJ HX0.out
  obtain ⟨k0, k1, k2, k3, k4⟩ := k
  go_enter Tryz.func17, Tryz.ntmps17
  go_wp2_with fail
  try rw [hW0]
  refine (refWord14_any 12 W0).mono ?_
  rintro e w1 ⟨rfl, hb⟩
  have HB1 := Lib.hid (HB0.out.trans (hb.mono HB0.out.size))
  have HX1 := Lib.hid (keep_b hb HX0.out)
  have hsz : w.heap.size ≤ w1.heap.size := HB1.out.size
  clear hb hW0 k0 k1 k2 k3 k4 kf
  obtain ⟨k, kf⟩ := box_cellsJ HX1.out
  obtain ⟨k0, k1, k2, k3, k4⟩ := k
  rw [show strJ (wJ 12) = (⟨#[115, 97, 109, 101]⟩ : ByteArray) from rfl]
  go_wp2_with fail
  go_ret
  exact ⟨_, _, rfl, own_two w1 _ c _ hsz (wrap64_bounds _) hx.c, HB1.out.alloc hsz _⟩
set_option maxRecDepth 100000 in
theorem refNext_out (op a b c n at_ : Int) (w : World) (h : op < 0 ∨ 12 < op) : Calls Tryz.prog 17 #[Ji.val ⟨op, a, b, c, n⟩, .int .i64 at_] w (NextP ⟨op, a, b, c, n⟩ at_ w) := by
  have HN : Hid (nextJ ⟨op, a, b, c, n⟩ at_ = []) := by unfold Hid nextJ; rw [if_pos (by show op ≤ 0 ∨ 12 < op; omega)]
  have HW : Hid (strJ (wJ op) = (⟨#[]⟩ : ByteArray)) := by unfold Hid wJ; rw [if_neg (by omega)]; rfl
  clear h
  have HB0 := Lib.hid ((Below.refl w.heap.size w).alloc (Nat.le_refl _) (Ji.obj ⟨op, a, b, c, n⟩))
  have HX0 := Lib.hid (newJ w ⟨op, a, b, c, n⟩)
  obtain ⟨W0, hW0⟩ : ∃ W, w.alloc (Ji.obj ⟨op, a, b, c, n⟩) = W := ⟨_, rfl⟩
  rw [hW0] at HB0 HX0
  obtain ⟨k, kf⟩ := box_cellsJ HX0.out
  obtain ⟨k0, k1, k2, k3, k4⟩ := k
  go_enter Tryz.func17, Tryz.ntmps17
  go_wp2_with fail
  try rw [hW0]
  refine (refWord14_any op W0).mono ?_
  rintro e w1 ⟨rfl, hb⟩
  have HB1 := Lib.hid (HB0.out.trans (hb.mono HB0.out.size))
  have HX1 := Lib.hid (keep_b hb HX0.out)
  have hsz : w.heap.size ≤ w1.heap.size := HB1.out.size
  clear hb hW0 k0 k1 k2 k3 k4 kf
  obtain ⟨k, kf⟩ := box_cellsJ HX1.out
  obtain ⟨k0, k1, k2, k3, k4⟩ := k
  rw [show strJ (wJ op) = (⟨#[]⟩ : ByteArray) from HW.out]
  go_wp2_with fail
  go_ret
  exact ⟨none, 0, by rw [HN.out]; rfl, by rw [HN.out]; exact OwnI.nil_ _ _ _, HB1.out⟩
theorem refNext14_any (x : Ji) (at_ : Int) (w : World) (hx : x.ok) : Calls Tryz.prog 17 #[x.val, .int .i64 at_] w (NextP x at_ w) := by
  obtain ⟨op, a, b, c, n⟩ := x
  by_cases h : op < 0 ∨ 12 < op
  · exact refNext_out op a b c n at_ w h
  · rcases op_cases (op := op) (by omega) (by omega) with rfl | rfl | rfl | rfl | rfl | rfl | rfl | rfl | rfl | rfl | rfl | rfl | rfl
    · exact refNext_0 a b c n at_ w hx
    · exact refNext_1 a b c n at_ w hx
    · exact refNext_2 a b c n at_ w hx
    · exact refNext_3 a b c n at_ w hx
    · exact refNext_4 a b c n at_ w hx
    · exact refNext_5 a b c n at_ w hx
    · exact refNext_6 a b c n at_ w hx
    · exact refNext_7 a b c n at_ w hx
    · exact refNext_8 a b c n at_ w hx
    · exact refNext_9 a b c n at_ w hx
    · exact refNext_10 a b c n at_ w hx
    · exact refNext_11 a b c n at_ w hx
    · exact refNext_12 a b c n at_ w hx
end Go.Proofs.YtbmcddolfofmdaaGreatDoor
/- The program's registers and places of an instruction. -/
namespace Go.Proofs.YtbmcddolfofmdaaGreatDoor
open Go.RowKit

theorem op_split (op : Int) : (op < 0 ∨ 12 < op) ∨ op = 0 ∨ op = 1 ∨ op = 2 ∨ op = 3 ∨ op = 4 ∨ op = 5 ∨ op = 6 ∨ op = 7 ∨ op = 8 ∨ op = 9 ∨ op = 10 ∨ op = 11 ∨ op = 12 := by omega
theorem kN_out {op : Int} (h : op < 0 ∨ 12 < op) : kN op = [0, 0, 0, 0] := by unfold kN; rw [if_neg (by omega)]
theorem kJ_out {op : Int} (h : op < 0 ∨ 12 < op) : kJ op = [] := by unfold kJ; rw [if_neg (by omega)]
theorem named_reads (x : Ji) : namedJ x 2 = readsJ x := by
  obtain ⟨op, a, b, c, n⟩ := x
  unfold namedJ readsJ
  show namedG 2 (kN op) [a, b, c, n] = readsG (kJ op) [a, b, c]
  rcases op_split op with h | rfl | rfl | rfl | rfl | rfl | rfl | rfl | rfl | rfl | rfl | rfl | rfl | rfl
  · rw [kN_out h, kJ_out h]; simp [namedG, readsG]
  all_goals simp [namedG, readsG, kN, kJ, kindNs, kindsJ]
theorem named_sets (x : Ji) : namedJ x 1 = if setsJ x then [x.a] else [] := by
  obtain ⟨op, a, b, c, n⟩ := x
  unfold namedJ setsJ
  show namedG 1 (kN op) [a, b, c, n] = if (kJ op).head? == some 119 then [a] else []
  rcases op_split op with h | rfl | rfl | rfl | rfl | rfl | rfl | rfl | rfl | rfl | rfl | rfl | rfl | rfl
  · rw [kN_out h, kJ_out h]; simp [namedG]
  all_goals simp [namedG, kN, kJ, kindNs, kindsJ]
theorem named_place (x : Ji) : namedJ x 4 = if x.op = 10 then [x.a] else if x.op = 11 ∨ x.op = 12 then [x.c] else [] := by
  obtain ⟨op, a, b, c, n⟩ := x
  unfold namedJ
  show namedG 4 (kN op) [a, b, c, n] = if op = 10 then [a] else if op = 11 ∨ op = 12 then [c] else []
  rcases op_split op with h | rfl | rfl | rfl | rfl | rfl | rfl | rfl | rfl | rfl | rfl | rfl | rfl | rfl
  · rw [kN_out h, if_neg (by omega), if_neg (by omega)]; simp [namedG]
  all_goals simp [namedG, kN, kindNs]
set_option maxRecDepth 100000 in
theorem codeReads_any (x : Ji) (w : World) (hx : x.ok) (hS : ShT w) : Calls Tryz.prog 14 #[x.val] w (ReadsP x w) := by
  have HB0 := Lib.hid ((Below.refl w.heap.size w).alloc (Nat.le_refl _) x.obj)
  have HX0 := Lib.hid (newJ w x)
  obtain ⟨W0, hW0⟩ : ∃ W, w.alloc x.obj = W := ⟨_, rfl⟩
  rw [hW0] at HB0 HX0
  have cN := named_any x 2 W0 hx (by omega) (hS.on HB0.out)
  unfold NamedP at cN
  rw [named_reads] at cN
  obtain ⟨⟨k0, k1, k2, k3, k4⟩, kf⟩ := box_cellsJ HX0.out
  clear hS
  go_enter Tryz.func14, Tryz.ntmps14
  go_wp2_with fail
  try rw [hW0]
  refine cN.mono ?_
  rintro e w1 ⟨A, c, rfl, hO, hb⟩
  have HB1 := Lib.hid (HB0.out.trans (hb.mono HB0.out.size))
  have HO := Lib.hid (hO.mono HB0.out.size)
  clear hb hO cN k0 k1 k2 k3 k4 kf
  go_wp2_with fail
  go_ret
  exact ⟨A, c, rfl, HO.out, HB1.out⟩
set_option maxRecDepth 100000 in
theorem codeWrites_any (x : Ji) (w : World) (hx : x.ok) (hS : ShT w) : Calls Tryz.prog 10 #[x.val] w (WritesP x w) := by
  have HB0 := Lib.hid ((Below.refl w.heap.size w).alloc (Nat.le_refl _) x.obj)
  have HX0 := Lib.hid (newJ w x)
  obtain ⟨W0, hW0⟩ : ∃ W, w.alloc x.obj = W := ⟨_, rfl⟩
  rw [hW0] at HB0 HX0
  have cN := named_any x 1 W0 hx (by omega) (hS.on HB0.out)
  unfold NamedP at cN
  rw [named_sets] at cN
  obtain ⟨⟨k0, k1, k2, k3, k4⟩, kf⟩ := box_cellsJ HX0.out
  clear hS
  by_cases hs : setsJ x = true
  · have HE : Hid (writesJ x = x.a ∧ setsJ x = true) := ⟨by unfold writesJ; rw [if_pos hs], hs⟩
    rw [if_pos hs] at cN
    clear hs
    go_enter Tryz.func10, Tryz.ntmps10
    go_wp2_with fail
    try rw [hW0]
    refine cN.mono ?_
    rintro e w1 ⟨A, c, rfl, hO, hb⟩
    have HB1 := Lib.hid (HB0.out.trans (hb.mono HB0.out.size))
    obtain ⟨g, off, v, rfl, hgv, hl, hc, _⟩ := hO.ints.at_ (k := 0) (by simp)
    obtain rfl : x.a = v := Option.some.inj hl.out
    rw [Nat.add_zero] at hc
    clear hb hO cN k0 k1 k2 k3 k4 kf hl
    go_wp2_with fail
    go_ret2
    exact ⟨by rw [HE.out.1, HE.out.2]; rfl, HB1.out⟩
  · have hf : setsJ x = false := by simpa using hs
    have HE : Hid (writesJ x = 0 ∧ setsJ x = false) := ⟨by unfold writesJ; rw [if_neg hs], hf⟩
    rw [if_neg hs] at cN
    clear hs hf
    go_enter Tryz.func10, Tryz.ntmps10
    go_wp2_with fail
    try rw [hW0]
    refine cN.mono ?_
    rintro e w1 ⟨A, c, rfl, hO, hb⟩
    have HB1 := Lib.hid (HB0.out.trans (hb.mono HB0.out.size))
    clear hb hO cN k0 k1 k2 k3 k4 kf
    go_wp2_with fail
    go_ret2
    exact ⟨by rw [HE.out.1, HE.out.2]; rfl, HB1.out⟩
set_option maxRecDepth 100000 in
set_option maxHeartbeats 4000000 in
theorem codeNext_any (x : Ji) (at_ : Int) (w : World) (hx : x.ok) (_ha : -9223372036854775808 ≤ at_ ∧ at_ ≤ 9223372036854775807) (hS : ShT w) : Calls Tryz.prog 16 #[x.val, .int .i64 at_] w (NextP x at_ w) := by
  have HB0 := Lib.hid ((Below.refl w.heap.size w).alloc (Nat.le_refl _) x.obj)
  have HX0 := Lib.hid (newJ w x)
  have HS := Lib.hid hS
  have HOK := Lib.hid hx
  obtain ⟨W0, hW0⟩ : ∃ W, w.alloc x.obj = W := ⟨_, rfl⟩
  rw [hW0] at HB0 HX0
  have cS := shapeOf_any x.op W0 (HS.out.on HB0.out)
  obtain ⟨⟨k0, k1, k2, k3, k4⟩, kf⟩ := box_cellsJ HX0.out
  obtain ⟨i0, hi0, hz0, hz1, hz2⟩ := info_parts infoInt
  clear hS
  by_cases hop : x.op ≤ 0 ∨ 12 < x.op
  · have HN : Hid (nextJ x at_ = []) := by unfold Hid nextJ; rw [if_pos hop]
    have hc : isOp x.op = false ∨ (isOp x.op = true ∧ (x.op == 0) = true) := by
      by_cases h0 : x.op = 0
      · exact .inr ⟨decide_eq_true (by omega), by simpa using h0⟩
      · exact .inl (decide_eq_false (by omega))
    clear hop _ha
    rcases hc with hc | ⟨hc, hc2⟩
    all_goals
      go_enter Tryz.func16, Tryz.ntmps16
      go_wp2_with fail
      try rw [hW0]
      refine cS.mono ?_
      rintro e w1 ⟨rfl, hb⟩
      unfold shV
      have HB1 := Lib.hid (HB0.out.trans (hb.mono HB0.out.size))
      have HX1 := Lib.hid (keep_b hb HX0.out)
      clear hb hW0 k0 k1 k2 k3 k4 kf cS
      obtain ⟨W2, hW2⟩ : ∃ W, w1.alloc (shObj x.op) = W := ⟨_, rfl⟩
      have HB2 : Hid (Below w.heap.size w W2) := by rw [← hW2]; exact HB1.out.alloc HB1.out.size _
      have HX2 : Hid (W2.heap[w.heap.size]? = some x.obj) := by rw [← hW2]; exact pastJ _ HX1.out
      obtain ⟨⟨k0, k1, k2, k3, k4⟩, kf⟩ := box_cellsJ HX2.out
      go_upto_region 2 with fail
      try rw [hW2]
      go_wp2_with fail
      go_ret
      exact ⟨none, 0, by rw [HN.out]; rfl, by rw [HN.out]; exact OwnI.nil_ _ _ _, HB2.out⟩
  · have hc : isOp x.op = true := decide_eq_true (by omega)
    have hc2 : (x.op == 0) = false := by
      have : x.op ≠ 0 := by omega
      simpa using this
    have hr : 1 ≤ x.op ∧ x.op ≤ 12 := by omega
    have HR := Lib.hid hr
    clear hop hr
    go_enter Tryz.func16, Tryz.ntmps16
    go_wp2_with fail
    try rw [hW0]
    refine cS.mono ?_
    rintro e w1 ⟨rfl, hb⟩
    unfold shV
    have HB1 := Lib.hid (HB0.out.trans (hb.mono HB0.out.size))
    have HX1 := Lib.hid (keep_b hb HX0.out)
    clear hb hW0 k0 k1 k2 k3 k4 kf cS
    obtain ⟨W2, hW2⟩ : ∃ W, w1.alloc (shObj x.op) = W := ⟨_, rfl⟩
    have HB2 : Hid (Below w.heap.size w W2) := by rw [← hW2]; exact HB1.out.alloc HB1.out.size _
    have HX2 : Hid (W2.heap[w.heap.size]? = some x.obj) := by rw [← hW2]; exact pastJ _ HX1.out
    have cN := named_any x 4 W2 HOK.out (by omega) (HS.out.on HB2.out)
    unfold NamedP at cN
    obtain ⟨⟨k0, k1, k2, k3, k4⟩, kf⟩ := box_cellsJ HX2.out
    go_upto_region 2 with fail
    try rw [hW2]
    clear hW2 HX1 HB1
    go_wp2_with fail
    refine cN.mono ?_
    rintro e w3 ⟨A, c, rfl, hO, hb⟩
    have HB3 := Lib.hid (HB2.out.trans (hb.mono HB2.out.size))
    have HX3 := Lib.hid (keep_b hb HX2.out)
    have HO := Lib.hid (hO.mono HB2.out.size)
    clear hb hO cN k0 k1 k2 k3 k4 kf
    obtain ⟨⟨k0, k1, k2, k3, k4⟩, kf⟩ := box_cellsJ HX3.out
    by_cases h10 : x.op = 10
    · have e1 : (x.op == 10) = true := by simpa using h10
      have HL : Hid (namedJ x 4 = nextJ x at_) := by
        unfold Hid nextJ
        rw [named_place, if_pos h10, if_neg (by omega), if_pos h10]
      clear h10
      go_wp2_with fail
      go_ret
      exact ⟨A, c, by rw [HL.out]; rfl, by rw [← HL.out]; exact HO.out, HB3.out⟩
    · have e1 : (x.op == 10) = false := by simpa using h10
      have HL : Hid ([wrap64 (at_ + 1)] ++ namedJ x 4 = nextJ x at_) := by
        have hr := HR.out
        unfold Hid nextJ
        rw [named_place, if_neg (show ¬ (x.op ≤ 0 ∨ 12 < x.op) by omega), if_neg h10, if_neg h10]
        split <;> rfl
      have hl4 : (namedJ x 4).length ≤ 4 := namedG_length _ _ _
      have hsz : w.heap.size ≤ w3.heap.size := HB3.out.size
      obtain ⟨m, hm⟩ : ∃ m, (namedJ x 4).length = m := ⟨_, rfl⟩
      have HM := Lib.hid hm
      have hIn : Ints (w3.alloc (.cells #[.int .i64 (wrap64 (at_ + 1))] 3)) (w3.heap.size + 1) A m (namedJ x 4) := by
        have := HO.out.ints.alloc' (.cells #[.int .i64 (wrap64 (at_ + 1))] 3)
        rw [hm, World.size_alloc] at this
        exact this
      rw [hm] at hl4 ⊢
      have hle : 1 + m ≤ 1000000 := by omega
      clear h10 hm
      go_wp2_with (at_builtin; refine wpList_appendInts _ rfl (.tmp 29) (.tmp 30) 38 rfl w.heap.size 3 i0 Tryz.underlying38 hi0 hz0 hz1 hz2 (some ⟨w3.heap.size, 0, none⟩) A 1 m c (w3.heap.size + 1) 1 (1 + m) [wrap64 (at_ + 1)] (namedJ x 4) rfl rfl (own_one w3 _ _ hsz (wrap64_bounds _)) rfl rfl hIn hle (by simp; omega) ?_; intro A3 c3 w4 hO3 hG3)
      have hb3 := below_app (HB3.out.alloc hsz _) hG3 (own_one w3 _ _ hsz (wrap64_bounds _)) rfl (by simp; omega)
      have HO3 := Lib.hid hO3
      have HB4 := Lib.hid hb3
      clear hO3 hb3 hG3
      go_wp2_with fail
      go_ret
      exact ⟨A3, c3, by rw [← HL.out, List.length_append, HM.out, List.length_singleton]; rfl, by rw [← HL.out]; exact HO3.out, HB4.out⟩
end Go.Proofs.YtbmcddolfofmdaaGreatDoor
/- Whether an instruction may be in code, as the program asks it: part by part. -/
namespace Go.Proofs.YtbmcddolfofmdaaGreatDoor
open Go.RowKit

/-- a part of a kind fits -/
def fitB (R A L kd n : Int) : Bool :=
  if kd = 1 ∨ kd = 2 then decide (0 ≤ n) && decide (n < R) else if kd = 3 then decide (0 ≤ n) && decide (n < A) else if kd = 4 then decide (0 ≤ n) && decide (n < L)
  else if kd = 6 then decide (-1000000000000000000 < n) && decide (n < 1000000000000000000) else n == 0
def fitsTo (R A L : Int) (x : Ji) (k : Nat) : Bool := isOp x.op && (List.range k).all fun j => fitB R A L (kA x.op j) (x.p.getD j 0)
theorem fitsTo_succ (R A L : Int) (x : Ji) (k : Nat) : fitsTo R A L x (k + 1) = (fitsTo R A L x k && fitB R A L (kA x.op k) (x.p.getD k 0)) := by
  unfold fitsTo
  rw [List.range_succ, List.all_append, Bool.and_assoc]
  simp
theorem fitsTo_all (R A L : Int) (x : Ji) : fitsTo R A L x 4 = mayJ R A L x := by
  obtain ⟨op, a, b, c, n⟩ := x
  rcases op_split op with h | h
  · rw [mayJ_out (by exact h)]
    unfold fitsTo isOp
    rw [decide_eq_false (by show ¬ (0 ≤ op ∧ op ≤ 12); omega), Bool.false_and]
  · rw [Bool.eq_iff_iff]
    rcases h with rfl | rfl | rfl | rfl | rfl | rfl | rfl | rfl | rfl | rfl | rfl | rfl | rfl
    all_goals
      simp only [fitsTo_succ, Bool.and_eq_true]
      simp [fitsTo, isOp, mayJ, kA, kN, kindNs, fitB, kJ, kindsJ, limJ, Ji.f, Ji.p, List.range_succ]
      try omega
theorem ret_boolJ2 {a b : Bool} (h : a = b) : Ending.returned (.bool a) = .returned (.bool b) := by rw [h]
theorem kA_bound (op : Int) {k : Nat} (hk : k < 4) : 0 ≤ kA op k ∧ kA op k ≤ 6 := kN_bound op _ (List.mem_of_getElem? (kN_at op hk))
theorem kA_no5 (op : Int) {k : Nat} (hk : k < 4) : kA op k ≠ 5 := by
  have h : ∀ v ∈ kN op, v ≠ 5 := by
    unfold kN
    split
    · rename_i h
      rcases op_cases h.1 h.2 with rfl | rfl | rfl | rfl | rfl | rfl | rfl | rfl | rfl | rfl | rfl | rfl | rfl <;> decide
    · decide
  exact h _ (List.mem_of_getElem? (kN_at op hk))
set_option maxRecDepth 100000 in
/-- a part fits: the program's fits -/
theorem fits_any (kd v : Int) (q : Cq) (w : World) (hq : q.In w) (hd : 0 ≤ kd ∧ kd ≤ 6) (h5 : kd ≠ 5) : Calls Tryz.prog 54 #[.int .i64 kd, .int .i64 v, q.val] w fun e w' => e = .returned (.bool (fitB q.R q.A q.n kd v)) ∧ Below w.heap.size w w' := by
  obtain ⟨R, A, I, P, n, c, l⟩ := q
  have hX := heap_alloc_new w (Cq.obj ⟨R, A, I, P, n, c, l⟩)
  obtain ⟨k0, k1, k2, k3, _⟩ := lvCells hX
  clear hX
  have hb := lvBelow w (Cq.obj ⟨R, A, I, P, n, c, l⟩)
  have HB := Lib.hid hb
  clear hb hq
  rcases (by omega : kd = 0 ∨ kd = 1 ∨ kd = 2 ∨ kd = 3 ∨ kd = 4 ∨ kd = 6) with rfl | rfl | rfl | rfl | rfl | rfl
  all_goals
    go_enter Tryz.func54, Tryz.ntmps54
    go_wp2_with fail
    all_goals
      go_ret
      refine ⟨ret_boolJ2 ?_, HB.out⟩
      simp [fitB]
      try omega
end Go.Proofs.YtbmcddolfofmdaaGreatDoor
/- The program's may: whether an instruction may be, in code. -/
namespace Go.Proofs.YtbmcddolfofmdaaGreatDoor
open Go.RowKit

theorem newQ (w : World) (q : Cq) : (w.alloc q.obj).heap[w.heap.size]? = some q.obj := heap_alloc_new w _
set_option maxRecDepth 100000 in
theorem codeMay_any (x : Ji) (q : Cq) (w : World) (hx : x.ok) (hq : q.In w) (hS : ShT w) : Calls Tryz.prog 36 #[x.val, q.val] w fun e w' => e = .returned (.bool (mayJ q.R q.A q.n x)) ∧ Below w.heap.size w w' := by
  have hb0 := ((Below.refl w.heap.size w).alloc (Nat.le_refl _) x.obj).alloc (by simp) q.obj
  obtain ⟨W0, hW0⟩ : ∃ W, (w.alloc x.obj).alloc q.obj = W := ⟨_, rfl⟩
  have HB0 : Hid (Below w.heap.size w W0) := by rw [← hW0]; exact hb0
  have HX0 : Hid (W0.heap[w.heap.size]? = some x.obj) := by rw [← hW0]; exact pastJ _ (newJ w x)
  have HQ0 : Hid (W0.heap[w.heap.size + 1]? = some q.obj) := by
    rw [← hW0]
    have h := newQ (w.alloc x.obj) q
    rwa [World.size_alloc] at h
  have HOK := Lib.hid hx
  have HS := Lib.hid hS
  have HIN := Lib.hid hq
  have cS := shapeOf_any x.op W0 (HS.out.on HB0.out)
  obtain ⟨⟨k0, k1, k2, k3, k4⟩, kf⟩ := box_cellsJ HX0.out
  obtain ⟨q0, q1, q2, q3, _⟩ := lvCells HQ0.out
  clear hS hq hx hb0
  go_enter Tryz.func36, Tryz.ntmps36
  go_wp2_with fail
  try rw [hW0]
  refine cS.mono ?_
  rintro e w1 ⟨rfl, hb⟩
  unfold shV
  have HB1 := Lib.hid (HB0.out.trans (hb.mono HB0.out.size))
  have HX1 := Lib.hid (keep_b hb HX0.out)
  have HQ1 := Lib.hid (keep_b hb HQ0.out)
  clear hb hW0 k0 k1 k2 k3 k4 kf q0 q1 q2 q3
  obtain ⟨W2, hW2⟩ : ∃ W, w1.alloc (shObj x.op) = W := ⟨_, rfl⟩
  have HB2 : Hid (Below w.heap.size w W2) := by rw [← hW2]; exact HB1.out.alloc HB1.out.size _
  have HX2 : Hid (W2.heap[w.heap.size]? = some x.obj) := by rw [← hW2]; exact pastJ _ HX1.out
  have HQ2 : Hid (W2.heap[w.heap.size + 1]? = some q.obj) := by rw [← hW2]; exact pastJ _ HQ1.out
  have HG2 : Hid (W2.heap[w1.heap.size]? = some (.cells #[.string (strJ (wJ x.op)), .int .i64 (kA x.op 0), .int .i64 (kA x.op 1), .int .i64 (kA x.op 2), .int .i64 (kA x.op 3)] 58 (0, 0))) := by rw [← hW2]; exact heap_alloc_new w1 (shObj x.op)
  go_upto_region 2 with fail
  try rw [hW2]
  have cP := parts_any x W2
  obtain ⟨⟨k0, k1, k2, k3, k4⟩, kf⟩ := box_cellsJ HX2.out
  have hg1 : w.heap.size ≤ w1.heap.size := HB1.out.size
  clear hW2 cS HX1
  go_wp2_with fail
  refine cP.mono ?_
  rintro e w3 ⟨rfl, hb⟩
  have HB3 := Lib.hid (HB2.out.trans (hb.mono HB2.out.size))
  have HG3 := Lib.hid (keep_b hb HG2.out)
  have HQ3 := Lib.hid (keep_b hb HQ2.out)
  obtain ⟨G, hG⟩ : ∃ G, w1.heap.size = G := ⟨_, rfl⟩
  rw [hG] at HG3 hg1 ⊢
  clear hb cP HG2 HX2 HB2 HB1 HB0 HX0 HQ0 HQ1 HQ2 k0 k1 k2 k3 k4 kf hG
  go_wp2_with fail
  go_loopw [6, 17] (fun v i wr => ∃ (k : Nat), k ≤ 4 ∧ i = .int .i64 k ∧ v = .bool (fitsTo q.R q.A q.n x k) ∧ Hid (Below w.heap.size w wr) ∧ Hid (wr.heap[w.heap.size + 1]? = some q.obj) ∧ Hid (wr.heap[G]? = some (.cells #[.string (strJ (wJ x.op)), .int .i64 (kA x.op 0), .int .i64 (kA x.op 1), .int .i64 (kA x.op 2), .int .i64 (kA x.op 3)] 58 (0, 0)))) (fun _ i _ => 4 - (intOf i).toNat)
  case atStart => exact ⟨0, Nat.zero_le _, rfl, by unfold fitsTo; simp, HB3, HQ3, HG3⟩
  case round =>
    obtain ⟨k, hk, rfl, rfl, HB, HQ, HG⟩ := hrel
    by_cases hlt : k < 4
    · obtain ⟨v, hv, hv0, hv1⟩ := Ji.p_at HOK.out hlt
      have hc := sh_cell HG.out hlt
      have hix := index_parts hv wr
      have hk4 : (k : Int) < 4 := by omega
      have hk0 : (0 : Int) ≤ (k : Int) := by omega
      have HSU : Hid (fitsTo q.R q.A q.n x (k + 1) = (fitsTo q.R q.A q.n x k && fitB q.R q.A q.n (kA x.op k) v)) := by
        unfold Hid
        rw [fitsTo_succ, List.getD_eq_getElem?_getD, hv]; rfl
      have hkb := kA_bound x.op hlt
      have hk5 : kA x.op k ≠ 5 := kA_no5 x.op hlt
      obtain ⟨q0, q1, q2, q3, _⟩ := lvCells HQ.out
      have cF := fits_any (kA x.op k) v q wr.drew (HIN.out.on HB.out.drew) hkb hk5
      clear hv hkb hk5
      obtain ⟨b, hb⟩ : ∃ b, fitsTo q.R q.A q.n x k = b := ⟨_, rfl⟩
      rw [hb] at HSU ⊢
      clear hb
      cases b
      · clear cF
        rw [Bool.false_and] at HSU
        go_wp2_with fail
        go_quiet (fail)
        go_wp2_with fail
        go_roundw
        case rel => exact ⟨k + 1, by omega, by go_num, by rw [HSU.out], belowD HB.out _, HQ.out, HG.out⟩
        case measure => simp [intOf]; omega
      · rw [Bool.true_and] at HSU
        go_wp2_with fail
        go_still_tail 8, (by kernel_rfl)
        change wpList _ _ _ _ _ wr.drew
        go_wp2_with fail
        refine cF.mono ?_
        rintro e w4 ⟨rfl, hb⟩
        have hb : Below wr.heap.size wr.drew w4 := hb
        have HB4 := Lib.hid ((HB.out.drew).trans (hb.mono HB.out.size))
        have HQ4 := Lib.hid (keep_b (w := wr.drew) hb HQ.out)
        have HG4 := Lib.hid (keep_b (w := wr.drew) hb HG.out)
        clear hb cF
        go_wp2_with fail
        go_roundw
        case rel => exact ⟨k + 1, by omega, by go_num, by rw [HSU.out], HB4.out, HQ4.out, HG4.out⟩
        case measure => simp [intOf]; omega
    · have hk4 : ¬ (k : Int) < 4 := by omega
      obtain rfl : k = 4 := by omega
      rw [fitsTo_all]
      go_wp2_with fail
      go_ret
      exact ⟨rfl, HB.out⟩
end Go.Proofs.YtbmcddolfofmdaaGreatDoor
/- The program's Check: whether code may be. -/
namespace Go.Proofs.YtbmcddolfofmdaaGreatDoor
open Go.RowKit

abbrev ckF : Fn := .func 35
set_option maxRecDepth 100000 in
theorem ckClo_any (x : Ji) (q : Cq) (g : Nat) (w : World) (hx : x.ok) (hq : q.In w) (hg : w.heap[g]? = some q.obj) (hS : ShT w) : Calls Tryz.prog 35 #[x.val, .pointer (some ⟨g, 0, none⟩)] w fun e w' => e = .returned (.bool (!(mayJ q.R q.A q.n x))) ∧ Below w.heap.size w w' := by
  have hb0 := (Below.refl w.heap.size w).alloc (Nat.le_refl _) x.obj
  obtain ⟨W0, hW0⟩ : ∃ W, w.alloc x.obj = W := ⟨_, rfl⟩
  have HB0 : Hid (Below w.heap.size w W0) := by rw [← hW0]; exact hb0
  have hX : W0.heap[w.heap.size]? = some x.obj := by rw [← hW0]; exact newJ w x
  have hQ : W0.heap[g]? = some q.obj := by rw [← hW0]; exact pastJ _ hg
  have cM := codeMay_any x q W0 hx (hq.on HB0.out) (hS.on HB0.out)
  obtain ⟨⟨k0, k1, k2, k3, k4⟩, kf⟩ := box_cellsJ hX
  obtain ⟨q0, q1, q2, q3, _⟩ := lvCells hQ
  generalize mayJ q.R q.A q.n x = b at cM ⊢
  clear hb0 hX hQ hS hq hx hg
  go_enter Tryz.func35, Tryz.ntmps35
  go_upto_region 1 with fail
  try rw [hW0]
  go_wp2_with fail
  refine cM.mono ?_
  rintro e w1 ⟨rfl, hb⟩
  have HB1 := Lib.hid (HB0.out.trans (hb.mono HB0.out.size))
  clear hb cM
  go_wp2_with fail
  go_ret
  exact ⟨rfl, HB1.out⟩
def IdxJP (w : World) (q : Cq) (e : Ending) (w' : World) : Prop := ∃ v : Int, e = .returned (.int .i64 v) ∧ decide (0 ≤ v) = !(q.l.all (mayJ q.R q.A q.n)) ∧ Below w.heap.size w w'
set_option maxRecDepth 100000 in
set_option maxHeartbeats 4000000 in
theorem indexJ_any (q : Cq) (g : Nat) (w : World) (hq : q.In w) (hg : w.heap[g]? = some q.obj) (hn : q.n ≤ 1000000) (hS : ShT w) : Calls Tryz.prog 53 #[.slice q.P q.n q.c, .func ckF #[] #[.pointer (some ⟨g, 0, none⟩)]] w (IdxJP w q) := by
  have HN := Lib.hid hq.len
  have HIN := Lib.hid hq
  have HG := Lib.hid hg
  have HS := Lib.hid hS
  clear hq hg hS
  go_enter Tryz.func53, Tryz.ntmps53
  go_wp2
  go_loopw [8] (fun i wr => ∃ k : Nat, k ≤ q.n ∧ i = .int .i64 k ∧ Hid (∀ j x, j < k → q.l[j]? = some x → mayJ q.R q.A q.n x = true) ∧ Hid (Below w.heap.size w wr)) (fun i _ => q.n - (intOf i).toNat)
  case atStart => exact ⟨0, Nat.zero_le _, rfl, fun j x hj => absurd hj (by omega), Below.refl _ _⟩
  case round =>
    obtain ⟨k, hk, rfl, HA, HB⟩ := hrel
    by_cases hlt : k < q.n
    · obtain ⟨b, off, y, hA, hbl, HX, ⟨y0, y1, y2, y3, y4⟩, hyo⟩ := ((HIN.out.on HB.out).ins).at_ hlt
      have hbw : w.heap.size ≤ wr.heap.size := HB.out.size
      have hk0 : (0 : Int) ≤ k := by omega
      have hk1 : (k : Int) < q.n := by omega
      have cB := ckClo_any y q g wr hyo (HIN.out.on HB.out) (keep_b HB.out HG.out) (HS.out.on HB.out)
      rw [hA]
      clear hyo
      by_cases hm : mayJ q.R q.A q.n y = true
      · rw [hm] at cB
        have HA2 : Hid (∀ j z, j < k + 1 → q.l[j]? = some z → mayJ q.R q.A q.n z = true) := fun j z hj hz => by
          by_cases e : j = k
          · subst e
            rw [HX.out] at hz
            injection hz with hz
            subst hz
            exact hm
          · exact HA.out j z (by omega) hz
        clear hm HA
        go_wp2_with (go_at_call 35; (with_reducible refine cB.mono ?_); rintro e w2 ⟨rfl, hb2⟩)
        go_roundw
        case rel => exact ⟨k + 1, by omega, by go_num, HA2, HB.out.trans (hb2.mono hbw)⟩
        case measure => simp [intOf]; omega
      · have hmf : mayJ q.R q.A q.n y = false := by simpa using hm
        rw [hmf] at cB
        have HF : Hid (decide ((0 : Int) ≤ (k : Int)) = !(q.l.all (mayJ q.R q.A q.n))) := by
          have : q.l.all (mayJ q.R q.A q.n) = false := by
            rw [List.all_eq_false]
            exact ⟨y, List.mem_of_getElem? HX.out, hm⟩
          unfold Hid
          rw [this]
          simp
        clear hm hmf HA
        go_wp2_with (go_at_call 35; (with_reducible refine cB.mono ?_); rintro e w2 ⟨rfl, hb2⟩)
        go_ret
        exact ⟨k, rfl, HF.out, HB.out.trans (hb2.mono hbw)⟩
    · have hkn : ¬ (k : Int) < (q.n : Int) := by omega
      have HF : Hid (decide ((0 : Int) ≤ -1) = !(q.l.all (mayJ q.R q.A q.n))) := by
        have : q.l.all (mayJ q.R q.A q.n) = true := by
          rw [List.all_eq_true]
          intro t ht
          obtain ⟨j, hj, e⟩ := List.getElem_of_mem ht
          exact HA.out j t (by have := HN.out; omega) (by rw [List.getElem?_eq_getElem hj, e])
        unfold Hid
        rw [this]
        decide
      clear HA hlt
      go_wp2
      go_ret
      exact ⟨-1, rfl, HF.out, HB.out⟩
set_option maxRecDepth 100000 in
theorem someJ_any (q : Cq) (g : Nat) (w : World) (hq : q.In w) (hg : w.heap[g]? = some q.obj) (hn : q.n ≤ 1000000) (hS : ShT w) : Calls Tryz.prog 34 #[.slice q.P q.n q.c, .func ckF #[] #[.pointer (some ⟨g, 0, none⟩)]] w fun e w' => e = .returned (.bool (!(q.l.all (mayJ q.R q.A q.n)))) ∧ Below w.heap.size w w' := by
  have cI := indexJ_any q g w hq hg hn hS
  clear hq hg hS
  go_enter Tryz.func34, Tryz.ntmps34
  go_wp2_with (go_at_call 53; (with_reducible refine cI.mono ?_); rintro e w2 ⟨v, rfl, hv, hb2⟩; have HV := Lib.hid hv; clear hv)
  go_ret
  exact ⟨by rw [← HV.out]; rfl, hb2⟩
/-- the numbers of code may be -/
def okHB (c : Cd) : Bool := decide c.okH
set_option maxRecDepth 100000 in
theorem counted_any (q : Cq) (w : World) (hq : q.In w) : Calls Tryz.prog 33 #[q.val] w fun e w' => e = .returned (.bool (okHB q.cd)) ∧ Below w.heap.size w w' := by
  have HL : Hid (okHB q.cd = decide (0 ≤ q.R ∧ q.R ≤ 128 ∧ 0 ≤ q.A ∧ q.A ≤ 128 ∧ 0 ≤ q.I ∧ q.I ≤ q.A ∧ 1 ≤ q.n ∧ q.n ≤ 4096)) := by
    unfold Hid okHB Cd.okH
    rw [show q.cd.l.length = q.n from hq.len]; rfl
  obtain ⟨R, A, I, P, n, c, l⟩ := q
  have hX := heap_alloc_new w (Cq.obj ⟨R, A, I, P, n, c, l⟩)
  obtain ⟨k0, k1, k2, k3, _⟩ := lvCells hX
  have HB := Lib.hid (lvBelow w (Cq.obj ⟨R, A, I, P, n, c, l⟩))
  clear hX hq
  dsimp only at HL
  go_enter Tryz.func33, Tryz.ntmps33
  go_wp2_with fail
  all_goals
    go_ret
    refine ⟨ret_boolJ2 ?_, HB.out⟩
    rw [HL.out]
    symm
    first | (rw [decide_eq_false_iff_not]; omega) | (rw [decide_eq_decide]; omega)
set_option maxRecDepth 100000 in
set_option maxHeartbeats 4000000 in
theorem codeCheck_any (q : Cq) (w : World) (hq : q.In w) (hS : ShT w) : Calls Tryz.prog 18 #[q.val] w (CkP q w) := by
  have HIN := Lib.hid hq
  have hb0 := lvBelow w q.obj
  obtain ⟨W0, hW0⟩ : ∃ W, w.alloc q.obj = W := ⟨_, rfl⟩
  have HB0 : Hid (Below w.heap.size w W0) := by rw [← hW0]; exact hb0
  have HQ0 : Hid (W0.heap[w.heap.size]? = some q.obj) := by rw [← hW0]; exact newQ w q
  have HS := Lib.hid hS
  have cK := counted_any q W0 (hq.on HB0.out)
  have hlen : q.cd.l.length = q.n := hq.len
  obtain ⟨q0, q1, q2, q3, _⟩ := lvCells HQ0.out
  clear hb0 hq hS
  by_cases h1 : q.cd.okH
  case neg =>
    have HE : Hid (q.cd.e = 1) := Cd.may_head h1
    rw [show okHB q.cd = false from decide_eq_false h1] at cK
    clear h1 hlen
    go_enter Tryz.func18, Tryz.ntmps18
    go_upto_region 1 with fail
    try rw [hW0]
    go_wp2_with fail
    refine cK.mono ?_
    rintro e w1 ⟨rfl, hb⟩
    have HB1 := Lib.hid (HB0.out.trans (hb.mono HB0.out.size))
    clear hb cK q0 q1 q2 q3
    go_wp2_with fail
    go_ret
    exact ⟨by rw [HE.out]; rfl, HB1.out⟩
  have hn : 1 ≤ q.n ∧ q.n ≤ 4096 := by obtain ⟨_, _, _, _, _, _, g6, g7⟩ := h1; omega
  rw [show okHB q.cd = true from decide_eq_true h1] at cK
  by_cases h2 : q.cd.l.all (mayJ q.R q.A q.n) = true
  case neg =>
    have h2f : q.l.all (mayJ q.R q.A q.n) = false := eq_false_of_ne_true h2
    have HE : Hid (q.cd.e = 1) := Cd.may_all (by rw [hlen]; exact h2f)
    have HAF := Lib.hid h2f
    clear h1 h2 hlen h2f
    go_enter Tryz.func18, Tryz.ntmps18
    go_upto_region 1 with fail
    try rw [hW0]
    go_wp2_with fail
    refine cK.mono ?_
    rintro e w1 ⟨rfl, hb⟩
    have HB1 := Lib.hid (HB0.out.trans (hb.mono HB0.out.size))
    have HQ1 := Lib.hid (keep_b hb HQ0.out)
    have cC := someJ_any q w.heap.size w1 (HIN.out.on HB1.out) HQ1.out (by omega) (HS.out.on HB1.out)
    rw [HAF.out] at cC
    clear hb cK q0 q1 q2 q3
    obtain ⟨q0, q1, q2, q3, _⟩ := lvCells HQ1.out
    go_wp2_with fail
    refine cC.mono ?_
    rintro e w2 ⟨rfl, hb⟩
    have HB2 := Lib.hid (HB1.out.trans (hb.mono HB1.out.size))
    clear hb cC q0 q1 q2 q3
    go_wp2_with fail
    go_ret
    exact ⟨by rw [HE.out]; rfl, HB2.out⟩
  obtain ⟨k, hk⟩ : ∃ k, q.n = k + 1 := ⟨q.n - 1, by omega⟩
  have hkl : k < q.cd.l.length := by omega
  have hx : q.cd.l[q.cd.l.length - 1]? = some q.cd.l[k] := by rw [show q.cd.l.length - 1 = k by omega, List.getElem?_eq_getElem hkl]
  have HE := Lib.hid (Cd.may_last h1 (by rw [hlen]; exact h2) hx)
  have HAT : Hid (q.l.all (mayJ q.R q.A q.n) = true) := h2
  have HXK : Hid (q.l[k]? = some q.cd.l[k]) := List.getElem?_eq_getElem hkl
  generalize q.cd.l[k] = y at HE HXK
  have HK := Lib.hid hk
  clear h1 h2 hx hkl hlen hk
  go_enter Tryz.func18, Tryz.ntmps18
  go_upto_region 1 with fail
  try rw [hW0]
  go_wp2_with fail
  refine cK.mono ?_
  rintro e w1 ⟨rfl, hb⟩
  have HB1 := Lib.hid (HB0.out.trans (hb.mono HB0.out.size))
  have HQ1 := Lib.hid (keep_b hb HQ0.out)
  have cC := someJ_any q w.heap.size w1 (HIN.out.on HB1.out) HQ1.out (by omega) (HS.out.on HB1.out)
  rw [HAT.out] at cC
  clear hb cK q0 q1 q2 q3
  obtain ⟨q0, q1, q2, q3, _⟩ := lvCells HQ1.out
  go_wp2_with fail
  refine cC.mono ?_
  rintro e w2 ⟨rfl, hb⟩
  have HB2 := Lib.hid (HB1.out.trans (hb.mono HB1.out.size))
  have HQ2 := Lib.hid (keep_b hb HQ1.out)
  obtain ⟨b, off, y2, hA, hbl, HX, ⟨y0, y1, y3, y4, y5⟩, hyo⟩ := ((HIN.out.on HB2.out).ins).at_ (k := k) (by have := HK.out; omega)
  obtain rfl : y = y2 := by have := HX.out; rw [HXK.out] at this; exact Option.some.inj this
  clear hb cC q0 q1 q2 q3 hbl hyo y1 y3 y4 y5
  obtain ⟨q0, q1, q2, q3, _⟩ := lvCells HQ2.out
  rw [hA] at q3
  have hi : IntKind.i64.wrap ((q.n : Int) - 1) = (k : Int) := by
    have := HK.out
    rw [show (q.n : Int) - 1 = (k : Int) by omega]
    rw [wrap_eq]
    exact IntWalk.wrap64_in _ ⟨by omega, by omega⟩
  have hk0 : (0 : Int) ≤ (k : Int) := by omega
  have hk1 : (k : Int) < (q.n : Int) := by have := HK.out; omega
  clear hA HX HXK
  go_upto_region 4 with fail
  by_cases e0 : y.op = 0
  · have d0 : (y.op != 0) = false := by simp [e0]
    have HR : Hid (q.cd.e = 0) := by unfold Hid; rw [HE.out, if_pos (.inl e0)]
    clear e0 HE
    go_wp2_with fail
    go_ret
    exact ⟨by rw [HR.out]; rfl, HB2.out⟩
  · have d0 : (y.op != 0) = true := by simpa using e0
    by_cases e1 : y.op = 10
    · have d1 : (y.op != 10) = false := by simp [e1]
      have HR : Hid (q.cd.e = 0) := by unfold Hid; rw [HE.out, if_pos (.inr e1)]
      clear e0 e1 HE
      go_wp2_with fail
      go_ret
      exact ⟨by rw [HR.out]; rfl, HB2.out⟩
    · have d1 : (y.op != 10) = true := by simpa using e1
      have HR : Hid (q.cd.e = 1) := by unfold Hid; rw [HE.out, if_neg (by omega)]
      clear e0 e1 HE
      go_wp2_with fail
      go_ret
      exact ⟨by rw [HR.out]; rfl, HB2.out⟩
end Go.Proofs.YtbmcddolfofmdaaGreatDoor
/- The document's Same: whether two are the same code, part by part. -/
namespace Go.Proofs.YtbmcddolfofmdaaGreatDoor
open Go.RowKit

def eqJi (a b : Ji) : Bool := a.op == b.op && (a.a == b.a && (a.b == b.b && (a.c == b.c && a.n == b.n)))
theorem eqJi_iff (a b : Ji) : eqJi a b = true ↔ a = b := by
  obtain ⟨o, x, y, z, n⟩ := a
  obtain ⟨o', x', y', z', n'⟩ := b
  unfold eqJi
  simp only [Bool.and_eq_true, beq_iff_eq, Ji.mk.injEq]
set_option maxRecDepth 100000 in
theorem ji_eqIn (a b : Ji) (w : World) : (Op.equalIn 10000 26 a.val b.val).run Tryz.prog w = .ok (eqJi a b) w := by
  have hp0 : ∀ a : Ji, (part 3 #[Value.int .i64 a.op, .int .i64 a.a, .int .i64 a.b, .int .i64 a.c, .int .i64 a.n] 0).run Tryz.prog w = .ok (.int .i64 a.op) w := fun a => by kernel_rfl
  have hp1 : ∀ a : Ji, (part 3 #[Value.int .i64 a.op, .int .i64 a.a, .int .i64 a.b, .int .i64 a.c, .int .i64 a.n] 1).run Tryz.prog w = .ok (.int .i64 a.a) w := fun a => by kernel_rfl
  have hp2 : ∀ a : Ji, (part 3 #[Value.int .i64 a.op, .int .i64 a.a, .int .i64 a.b, .int .i64 a.c, .int .i64 a.n] 2).run Tryz.prog w = .ok (.int .i64 a.b) w := fun a => by kernel_rfl
  have hp3 : ∀ a : Ji, (part 3 #[Value.int .i64 a.op, .int .i64 a.a, .int .i64 a.b, .int .i64 a.c, .int .i64 a.n] 3).run Tryz.prog w = .ok (.int .i64 a.c) w := fun a => by kernel_rfl
  have hp4 : ∀ a : Ji, (part 2 #[Value.int .i64 a.op, .int .i64 a.a, .int .i64 a.b, .int .i64 a.c, .int .i64 a.n] 4).run Tryz.prog w = .ok (.int .i64 a.n) w := fun a => by kernel_rfl
  have hf : (Tryz.prog.fieldsOf 26).toList.map (fun f => (f.name, f.type, f.offset)) = [("Op", 3, 0), ("A", 3, 1), ("B", 3, 2), ("C", 3, 3), ("N", 2, 4)] := by kernel_rfl
  rw [run_equalIn_struct w 9999 26 _ _ (by kernel_rfl) (by kernel_rfl)]
  obtain ⟨L, hL⟩ : ∃ L, (Tryz.prog.fieldsOf 26).toList = L := ⟨_, rfl⟩
  rw [hL] at hf ⊢
  match L, hf with
  | [f0, f1, f2, f3, f4], hf =>
    simp only [List.map_cons, List.map_nil, List.cons.injEq, Prod.mk.injEq, and_true] at hf
    obtain ⟨⟨n0, t0, o0⟩, ⟨n1, t1, o1⟩, ⟨n2, t2, o2⟩, ⟨n3, t3, o3⟩, n4, t4, o4⟩ := hf
    have h3 : ∀ a b : Int, (Op.equalIn 9999 3 (.int .i64 a) (.int .i64 b)).run Tryz.prog w = .ok (a == b) w := fun a b => run_equalIn_int w 9998 3 .i64 .i64 a b Tryz.underlying3
    have h4 : ∀ a b : Int, (Op.equalIn 9999 2 (.int .i64 a) (.int .i64 b)).run Tryz.prog w = .ok (a == b) w := fun a b => run_equalIn_int w 9998 2 .i64 .i64 a b Tryz.underlying2
    unfold eqJi
    cases e1 : (a.op == b.op) <;> cases e2 : (a.a == b.a) <;> cases e3 : (a.b == b.b) <;> cases e4 : (a.c == b.c) <;> cases e5 : (a.n == b.n) <;> simp [Op.eqFields, n0, n1, n2, n3, n4, t0, t1, t2, t3, t4, o0, o1, o2, o3, o4, hp0, hp1, hp2, hp3, hp4, h3, h4, e1, e2, e3, e4, e5]
theorem ji_neq (a b : Ji) (w : World) : (binOp .neq 26 a.val b.val).run Tryz.prog w = .ok (.bool !(eqJi a b)) w := by
  rw [run_neq_struct, ji_eqIn]
  rfl
def sameB (a b : Cd) : Bool := decide (a.R = b.R) && (decide (a.A = b.A) && (decide (a.I = b.I) && decide (a.l = b.l)))
theorem sameB_iff (a b : Cd) : sameB a b = true ↔ a = b := by
  obtain ⟨r, x, i, l⟩ := a
  obtain ⟨r', x', i', l'⟩ := b
  unfold sameB
  simp only [Bool.and_eq_true, decide_eq_true_eq, Cd.mk.injEq]
theorem sameB_refl (a : Cd) : sameB a a = true := (sameB_iff a a).2 rfl
theorem sameB_no {a b : Cd} (h : a ≠ b) : sameB a b = false := by
  cases e : sameB a b with
  | false => rfl
  | true => exact absurd ((sameB_iff a b).1 e) h
def SameP (a b : Cq) (w : World) (e : Ending) (w' : World) : Prop := e = .returned (.bool (sameB a.cd b.cd)) ∧ Below w.heap.size w w'
set_option maxRecDepth 100000 in
set_option maxHeartbeats 4000000 in
theorem refSame14_any (a b : Cq) (w : World) (ha : a.In w) (hb : b.In w) : Calls Tryz.prog 12 #[a.val, b.val] w (SameP a b w) := by
  obtain ⟨R, A, I, P, n, c, l⟩ := a
  obtain ⟨R2, A2, I2, P2, n2, c2, l2⟩ := b
  obtain ⟨W0, hW0⟩ : ∃ W, (w.alloc (Cq.obj ⟨R, A, I, P, n, c, l⟩)).alloc (Cq.obj ⟨R2, A2, I2, P2, n2, c2, l2⟩) = W := ⟨_, rfl⟩
  have HB0 : Hid (Below w.heap.size w W0) := by rw [← hW0]; exact ((Below.refl w.heap.size w).alloc (Nat.le_refl _) _).alloc (by simp) _
  have HX0 : Hid (W0.heap[w.heap.size]? = some (Cq.obj ⟨R, A, I, P, n, c, l⟩)) := by rw [← hW0]; exact pastJ _ (heap_alloc_new w _)
  have HY0 : Hid (W0.heap[w.heap.size + 1]? = some (Cq.obj ⟨R2, A2, I2, P2, n2, c2, l2⟩)) := by
    have h := heap_alloc_new (w.alloc (Cq.obj ⟨R, A, I, P, n, c, l⟩)) (Cq.obj ⟨R2, A2, I2, P2, n2, c2, l2⟩)
    rw [World.size_alloc, hW0] at h
    exact h
  have HA := Lib.hid ha
  have HB := Lib.hid hb
  have hn1 : n ≤ 9223372036854775807 := ha.n1
  have hn2 : n2 ≤ 9223372036854775807 := hb.n1
  have HLA : Hid (l.length = n) := ha.len
  have HLB : Hid (l2.length = n2) := hb.len
  have hmx : Tryz.prog.follows .mixedOrders = true := by kernel_rfl
  obtain ⟨k0, k1, k2, k3, _⟩ := lvCells HX0.out
  obtain ⟨m0, m1, m2, m3, _⟩ := lvCells HY0.out
  clear ha hb
  by_cases e0 : R = R2
  case neg =>
    have f0 : (R != R2) = true := by simpa using e0
    have HS : Hid (sameB (Cq.cd ⟨R, A, I, P, n, c, l⟩) (Cq.cd ⟨R2, A2, I2, P2, n2, c2, l2⟩) = false) := sameB_no fun h => e0 (congrArg Cd.R h)
    clear e0
    go_enter Tryz.func12, Tryz.ntmps12
    go_wp2_with fail
    try rw [hW0]
    go_ret
    exact ⟨by rw [HS.out]; rfl, HB0.out⟩
  have f0 : (R != R2) = false := by simpa using e0
  by_cases e1 : A = A2
  case neg =>
    have f1 : (A != A2) = true := by simpa using e1
    have HS : Hid (sameB (Cq.cd ⟨R, A, I, P, n, c, l⟩) (Cq.cd ⟨R2, A2, I2, P2, n2, c2, l2⟩) = false) := sameB_no fun h => e1 (congrArg Cd.A h)
    clear e0 e1
    go_enter Tryz.func12, Tryz.ntmps12
    go_wp2_with fail
    try rw [hW0]
    go_ret
    exact ⟨by rw [HS.out]; rfl, HB0.out⟩
  have f1 : (A != A2) = false := by simpa using e1
  by_cases e2 : I = I2
  case neg =>
    have f2 : (I != I2) = true := by simpa using e2
    have HS : Hid (sameB (Cq.cd ⟨R, A, I, P, n, c, l⟩) (Cq.cd ⟨R2, A2, I2, P2, n2, c2, l2⟩) = false) := sameB_no fun h => e2 (congrArg Cd.I h)
    clear e0 e1 e2
    go_enter Tryz.func12, Tryz.ntmps12
    go_wp2_with fail
    try rw [hW0]
    go_ret
    exact ⟨by rw [HS.out]; rfl, HB0.out⟩
  have f2 : (I != I2) = false := by simpa using e2
  by_cases e3 : n = n2
  case neg =>
    have f3 : ((n : Int) != (n2 : Int)) = true := by simp; omega
    have HS : Hid (sameB (Cq.cd ⟨R, A, I, P, n, c, l⟩) (Cq.cd ⟨R2, A2, I2, P2, n2, c2, l2⟩) = false) := sameB_no fun h => e3 (by
      have := congrArg (fun c => c.l.length) h
      rw [← HLA.out, ← HLB.out]; exact this)
    clear e0 e1 e2 e3
    go_enter Tryz.func12, Tryz.ntmps12
    go_wp2_with fail
    try rw [hW0]
    go_ret
    exact ⟨by rw [HS.out]; rfl, HB0.out⟩
  have f3 : ((n : Int) != (n2 : Int)) = false := by simp [e3]
  have HE : Hid (R = R2 ∧ A = A2 ∧ I = I2 ∧ n = n2) := ⟨e0, e1, e2, e3⟩
  clear e0 e1 e2 e3
  go_enter Tryz.func12, Tryz.ntmps12
  go_upto_region 3 with fail
  try rw [hW0]
  clear hW0 f0 f1 f2 f3
  go_wp2_with fail
  clear k0 k1 k2 k3 m0 m1 m2 m3
  go_loopw [37] (fun i wr => ∃ k : Nat, k ≤ n ∧ i = .int .i64 k ∧ Hid (∀ j < k, l[j]? = l2[j]?) ∧ Hid (Below W0.heap.size W0 wr)) (fun i _ => n - (intOf i).toNat)
  case atStart => exact ⟨0, Nat.zero_le _, rfl, fun j hj => absurd hj (by omega), Below.refl _ _⟩
  case round =>
    obtain ⟨k, hk, rfl, HJ, HBr⟩ := hrel
    have HBW := Lib.hid (HB0.out.trans (HBr.out.mono HB0.out.size))
    by_cases hlt : k < n
    · have hlt2 : k < n2 := by have := HE.out.2.2.2; omega
      obtain ⟨b, off, y, hA, hb, HY, ⟨y0, y1, y2, y3, y4⟩, hyo⟩ := ((HA.out.on HBW.out).ins).at_ hlt
      obtain ⟨b2, off2, z, hA2, hb2, HZ, ⟨z0, z1, z2, z3, z4⟩, hzo⟩ := ((HB.out.on HBW.out).ins).at_ hlt2
      subst hA
      subst hA2
      obtain ⟨k0, k1, k2, k3, _⟩ := lvCells (keep_b HBr.out HX0.out)
      obtain ⟨m0, m1, m2, m3, _⟩ := lvCells (keep_b HBr.out HY0.out)
      have hcn := fun W => ji_neq y z W
      have hgd := fun (o1 o2 : Operand) (W : World) => run_eqGuard_agg (P := Tryz.prog) W .neq 26 o1 o2 #[.int .i64 y.op, .int .i64 y.a, .int .i64 y.b, .int .i64 y.c, .int .i64 y.n] #[.int .i64 z.op, .int .i64 z.a, .int .i64 z.b, .int .i64 z.c, .int .i64 z.n] (by kernel_rfl)
      have hk0 : (0 : Int) ≤ k := by omega
      have hk1 : (k : Int) < (n : Int) := by omega
      have hk2 : (k : Int) < (n2 : Int) := by omega
      clear hb hb2 hyo hzo k0 k1 k2 m0 m1 m2
      by_cases e : y = z
      · have he : eqJi y z = true := (eqJi_iff y z).2 e
        rw [he] at hcn
        have HEQ := Lib.hid e
        clear e he
        go_wp2_with fail
        go_quiet (fail)
        go_wp2_with fail
        go_roundw
        case rel => exact ⟨k + 1, by omega, by go_num, fun j hj => by
          by_cases ej : j = k
          · subst ej; rw [HY.out, HZ.out, HEQ.out]
          · exact HJ.out j (by omega), belowD HBr.out _⟩
        case measure => simp [intOf]; omega
      · have he : eqJi y z = false := by
          cases q : eqJi y z
          · rfl
          · exact absurd ((eqJi_iff y z).1 q) e
        rw [he] at hcn
        have HS : Hid (sameB (Cq.cd ⟨R, A, I, some ⟨b, off, none⟩, n, c, l⟩) (Cq.cd ⟨R2, A2, I2, some ⟨b2, off2, none⟩, n2, c2, l2⟩) = false) := sameB_no fun h => e (by
          have h1 : l = l2 := congrArg Cd.l h
          have h2 := HY.out
          rw [h1, HZ.out] at h2
          injection h2 with h2
          exact h2.symm)
        clear e he
        go_wp2_with fail
        go_quiet (fail)
        go_wp2_with fail
        go_ret
        exact ⟨by rw [HS.out]; rfl, belowD HBW.out _⟩
    · have HS : Hid (sameB (Cq.cd ⟨R, A, I, P, n, c, l⟩) (Cq.cd ⟨R2, A2, I2, P2, n2, c2, l2⟩) = true) := (sameB_iff _ _).2 (by
        obtain ⟨e0, e1, e2, e3⟩ := HE.out
        have e4 : l = l2 := List.ext_getElem? fun j => by
          by_cases hj : j < n
          · exact HJ.out j (by omega)
          · rw [List.getElem?_eq_none (by have := HLA.out; omega), List.getElem?_eq_none (by have := HLB.out; omega)]
        show (⟨R, A, I, l⟩ : Cd) = ⟨R2, A2, I2, l2⟩
        rw [e0, e1, e2, e4])
      go_wp2_with fail
      go_ret
      exact ⟨by rw [HS.out]; rfl, HBW.out⟩
end Go.Proofs.YtbmcddolfofmdaaGreatDoor
/- The program's Same: whether two are the same code. -/
namespace Go.Proofs.YtbmcddolfofmdaaGreatDoor
open Go.RowKit

def EqJP (l m : List Ji) (w : World) (e : Ending) (w' : World) : Prop := e = .returned (.bool (decide (l = m))) ∧ Below w.heap.size w w'
set_option maxRecDepth 100000 in
set_option maxHeartbeats 4000000 in
theorem slEqJ_any (P P2 : Option Addr) (n n2 c c2 : Nat) (l l2 : List Ji) (w : World) (hA : Jis w w.heap.size P n l) (hB : Jis w w.heap.size P2 n2 l2) (hn1 : n ≤ 9223372036854775807) (_hn2 : n2 ≤ 9223372036854775807) :
    Calls Tryz.prog 38 #[.slice P n c, .slice P2 n2 c2] w (EqJP l l2 w) := by
  have HA := Lib.hid hA
  have HB := Lib.hid hB
  have HLA : Hid (l.length = n) := hA.1
  have HLB : Hid (l2.length = n2) := hB.1
  have hmx : Tryz.prog.follows .mixedOrders = true := by kernel_rfl
  clear hA hB
  by_cases e3 : n = n2
  case neg =>
    have f3 : ((n : Int) != (n2 : Int)) = true := by simp; omega
    have HS : Hid (decide (l = l2) = false) := decide_eq_false fun h => e3 (by rw [← HLA.out, ← HLB.out, h])
    clear e3
    go_enter Tryz.func38, Tryz.ntmps38
    go_wp2_with fail
    go_ret
    exact ⟨by rw [HS.out]; rfl, Below.refl _ _⟩
  have f3 : ((n : Int) != (n2 : Int)) = false := by simp [e3]
  have HE := Lib.hid e3
  clear e3
  go_enter Tryz.func38, Tryz.ntmps38
  go_upto_region 3 with fail
  clear f3
  go_wp2_with fail
  go_loopw [13] (fun i wr => ∃ k : Nat, k ≤ n ∧ i = .int .i64 k ∧ Hid (∀ j < k, l[j]? = l2[j]?) ∧ Hid (Below w.heap.size w wr)) (fun i _ => n - (intOf i).toNat)
  case atStart => exact ⟨0, Nat.zero_le _, rfl, fun j hj => absurd hj (by omega), Below.refl _ _⟩
  case round =>
    obtain ⟨k, hk, rfl, HJ, HBr⟩ := hrel
    by_cases hlt : k < n
    · have hlt2 : k < n2 := by have := HE.out; omega
      obtain ⟨b, off, y, hA, hb, HY, ⟨y0, y1, y2, y3, y4⟩, hyo⟩ := (HA.out.on HBr.out).at_ hlt
      obtain ⟨b2, off2, z, hA2, hb2, HZ, ⟨z0, z1, z2, z3, z4⟩, hzo⟩ := (HB.out.on HBr.out).at_ hlt2
      subst hA
      subst hA2
      have hcn := fun W => ji_neq y z W
      have hgd := fun (o1 o2 : Operand) (W : World) => run_eqGuard_agg (P := Tryz.prog) W .neq 26 o1 o2 #[.int .i64 y.op, .int .i64 y.a, .int .i64 y.b, .int .i64 y.c, .int .i64 y.n] #[.int .i64 z.op, .int .i64 z.a, .int .i64 z.b, .int .i64 z.c, .int .i64 z.n] (by kernel_rfl)
      have hk0 : (0 : Int) ≤ k := by omega
      have hk1 : (k : Int) < (n : Int) := by omega
      have hk2 : (k : Int) < (n2 : Int) := by omega
      clear hb hb2 hyo hzo
      by_cases e : y = z
      · have he : eqJi y z = true := (eqJi_iff y z).2 e
        rw [he] at hcn
        have HEQ := Lib.hid e
        clear e he
        go_wp2_with fail
        go_quiet (fail)
        go_wp2_with fail
        go_roundw
        case rel => exact ⟨k + 1, by omega, by go_num, fun j hj => by
          by_cases ej : j = k
          · subst ej; rw [HY.out, HZ.out, HEQ.out]
          · exact HJ.out j (by omega), belowD HBr.out _⟩
        case measure => simp [intOf]; omega
      · have he : eqJi y z = false := by
          cases q : eqJi y z
          · rfl
          · exact absurd ((eqJi_iff y z).1 q) e
        rw [he] at hcn
        have HS : Hid (decide (l = l2) = false) := decide_eq_false fun h => e (by
          have h2 := HY.out
          rw [h, HZ.out] at h2
          injection h2 with h2
          exact h2.symm)
        clear e he
        go_wp2_with fail
        go_quiet (fail)
        go_wp2_with fail
        go_ret
        exact ⟨by rw [HS.out]; rfl, belowD HBr.out _⟩
    · have HS : Hid (decide (l = l2) = true) := decide_eq_true (List.ext_getElem? fun j => by
        by_cases hj : j < n
        · exact HJ.out j (by omega)
        · have := HE.out
          rw [List.getElem?_eq_none (by have := HLA.out; omega), List.getElem?_eq_none (by have := HLB.out; omega)])
      have hkn : ¬ (k : Int) < (n : Int) := by omega
      go_wp2_with fail
      go_ret
      exact ⟨by rw [HS.out]; rfl, HBr.out⟩
set_option maxRecDepth 100000 in
set_option maxHeartbeats 4000000 in
theorem codeSame_any (a b : Cq) (w : World) (ha : a.In w) (hb : b.In w) : Calls Tryz.prog 20 #[a.val, b.val] w (SameP a b w) := by
  obtain ⟨R, A, I, P, n, c, l⟩ := a
  obtain ⟨R2, A2, I2, P2, n2, c2, l2⟩ := b
  obtain ⟨W0, hW0⟩ : ∃ W, (w.alloc (Cq.obj ⟨R, A, I, P, n, c, l⟩)).alloc (Cq.obj ⟨R2, A2, I2, P2, n2, c2, l2⟩) = W := ⟨_, rfl⟩
  have HB0 : Hid (Below w.heap.size w W0) := by rw [← hW0]; exact ((Below.refl w.heap.size w).alloc (Nat.le_refl _) _).alloc (by simp) _
  have hX0 : W0.heap[w.heap.size]? = some (Cq.obj ⟨R, A, I, P, n, c, l⟩) := by rw [← hW0]; exact pastJ _ (heap_alloc_new w _)
  have hY0 : W0.heap[w.heap.size + 1]? = some (Cq.obj ⟨R2, A2, I2, P2, n2, c2, l2⟩) := by
    have h := heap_alloc_new (w.alloc (Cq.obj ⟨R, A, I, P, n, c, l⟩)) (Cq.obj ⟨R2, A2, I2, P2, n2, c2, l2⟩)
    rw [World.size_alloc, hW0] at h
    exact h
  obtain ⟨k0, k1, k2, k3, _⟩ := lvCells hX0
  obtain ⟨m0, m1, m2, m3, _⟩ := lvCells hY0
  have cE := slEqJ_any P P2 n n2 c c2 l l2 W0 (ha.on HB0.out).ins (hb.on HB0.out).ins ha.n1 hb.n1
  have HSB : Hid (sameB (Cq.cd ⟨R, A, I, P, n, c, l⟩) (Cq.cd ⟨R2, A2, I2, P2, n2, c2, l2⟩) = (decide (R = R2) && (decide (A = A2) && (decide (I = I2) && decide (l = l2))))) := rfl
  clear ha hb hX0 hY0
  by_cases e0 : R = R2
  case neg =>
    have f0 : (R == R2) = false := by simpa using e0
    have HS : Hid (sameB (Cq.cd ⟨R, A, I, P, n, c, l⟩) (Cq.cd ⟨R2, A2, I2, P2, n2, c2, l2⟩) = false) := by unfold Hid; rw [HSB.out, decide_eq_false e0]; rfl
    clear e0 cE
    go_enter Tryz.func20, Tryz.ntmps20
    go_wp2_with fail
    try rw [hW0]
    go_ret
    exact ⟨by rw [HS.out]; rfl, HB0.out⟩
  have f0 : (R == R2) = true := by simpa using e0
  by_cases e1 : A = A2
  case neg =>
    have f1 : (A == A2) = false := by simpa using e1
    have HS : Hid (sameB (Cq.cd ⟨R, A, I, P, n, c, l⟩) (Cq.cd ⟨R2, A2, I2, P2, n2, c2, l2⟩) = false) := by unfold Hid; rw [HSB.out, decide_eq_false e1]; simp
    clear e0 e1 cE
    go_enter Tryz.func20, Tryz.ntmps20
    go_wp2_with fail
    try rw [hW0]
    go_ret
    exact ⟨by rw [HS.out]; rfl, HB0.out⟩
  have f1 : (A == A2) = true := by simpa using e1
  by_cases e2 : I = I2
  case neg =>
    have f2 : (I == I2) = false := by simpa using e2
    have HS : Hid (sameB (Cq.cd ⟨R, A, I, P, n, c, l⟩) (Cq.cd ⟨R2, A2, I2, P2, n2, c2, l2⟩) = false) := by unfold Hid; rw [HSB.out, decide_eq_false e2]; simp
    clear e0 e1 e2 cE
    go_enter Tryz.func20, Tryz.ntmps20
    go_wp2_with fail
    try rw [hW0]
    go_ret
    exact ⟨by rw [HS.out]; rfl, HB0.out⟩
  have f2 : (I == I2) = true := by simpa using e2
  have HS : Hid (sameB (Cq.cd ⟨R, A, I, P, n, c, l⟩) (Cq.cd ⟨R2, A2, I2, P2, n2, c2, l2⟩) = decide (l = l2)) := by unfold Hid; rw [HSB.out, decide_eq_true e0, decide_eq_true e1, decide_eq_true e2]; simp
  clear e0 e1 e2
  go_enter Tryz.func20, Tryz.ntmps20
  go_wp2_with fail
  try rw [hW0]
  refine cE.mono ?_
  rintro e w1 ⟨rfl, hb⟩
  have HB1 := Lib.hid (HB0.out.trans (hb.mono HB0.out.size))
  clear hb cE k0 k1 k2 k3 m0 m1 m2 m3
  go_wp2_with fail
  go_ret
  exact ⟨by rw [HS.out]; rfl, HB1.out⟩
end Go.Proofs.YtbmcddolfofmdaaGreatDoor
