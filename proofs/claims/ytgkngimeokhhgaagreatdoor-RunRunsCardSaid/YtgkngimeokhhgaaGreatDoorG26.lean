/- The program's parts of a line of tokens: mark, strings.CutPrefix, readPart. -/
import Derived.Test.YtgkngimeokhhgaaGreatDoorG25
import Derived.Test.YtgkngimeokhhgaaGreatDoorG16
import Derived.Laws.StructEq
import Derived.BigQuiet
import Derived.Lib.QuietBelow
import Derived.Test.YtgkngimeokhhgaaGreatDoorG19
import Derived.Test.YtgkngimeokhhgaaGreatDoorG20
import Derived.StillTail
import Derived.StillTailTactics
namespace Go.Proofs.YtgkngimeokhhgaaGreatDoor
open Go Go.Sort Go.RowKit

set_option maxRecDepth 100000 in
theorem mark_any (kd : Int) (w : World) (hd : 0 ≤ kd ∧ kd ≤ 6) : Calls Tryz.prog 86 #[.int .i64 kd] w fun e w' => e = .returned (.string (strJ (markL kd))) ∧ w = w' := by
  rcases (by omega : kd = 0 ∨ kd = 1 ∨ kd = 2 ∨ kd = 3 ∨ kd = 4 ∨ kd = 5 ∨ kd = 6) with rfl | rfl | rfl | rfl | rfl | rfl | rfl
  all_goals
    go_enter Tryz.func86, Tryz.ntmps86
    go_wp2_with fail
    go_ret
    exact ⟨rfl, rfl⟩
set_option maxRecDepth 100000 in
theorem hasPrefix_any (s p : ByteArray) (w : World) (hs : s.size ≤ maxLen) : Calls Tryz.prog 104 #[.string s, .string p] w fun e w' => e = .returned (.bool (decide ((bl s).take (bl p).length = bl p))) ∧ w = w' := by
  have hs9 : s.size ≤ 9223372036854775807 := by unfold maxLen at hs; omega
  have he : ((s.extract 0 p.size).toList == p.toList) = decide ((bl s).take (bl p).length = bl p) := by
    rw [Lib.toList_data, Lib.toList_data, show (s.extract 0 p.size).data.toList = bl (s.extract 0 p.size) from rfl, bl_take, show p.data.toList = bl p from rfl, bl_len]
    rw [Bool.eq_iff_iff, beq_iff_eq, decide_eq_true_iff]
  by_cases hl : p.size ≤ s.size
  · have hli : (p.size : Int) ≤ (s.size : Int) := by omega
    generalize decide ((bl s).take (bl p).length = bl p) = b at he ⊢
    go_enter Tryz.func104, Tryz.ntmps104
    go_wp2_with fail
    go_ret
    exact ⟨rfl, rfl⟩
  · have hli : ¬ (p.size : Int) ≤ (s.size : Int) := by omega
    have hf : decide ((bl s).take (bl p).length = bl p) = false := decide_eq_false fun h => hl (by
      have := congrArg List.length h
      rw [List.length_take, bl_len, bl_len] at this
      omega)
    rw [hf]
    clear he hf
    go_enter Tryz.func104, Tryz.ntmps104
    go_wp2_with fail
    go_ret
    exact ⟨rfl, rfl⟩
/-- what is left of a text, and whether it began so -/
def CutPfP (s p : ByteArray) (w : World) (e : Ending) (w' : World) : Prop := ∃ T : ByteArray, e = .returned (.tuple #[.string T, .bool (cutPL (bl p) (bl s)).2]) ∧ bl T = (cutPL (bl p) (bl s)).1 ∧ w = w'
set_option maxRecDepth 100000 in
theorem cutPrefix1_any (s p : ByteArray) (w : World) (hs : s.size ≤ maxLen) : Calls Tryz.prog 98 #[.string s, .string p] w (CutPfP s p w) := by
  have cH := hasPrefix_any s p w hs
  have hs9 : s.size ≤ 9223372036854775807 := by unfold maxLen at hs; omega
  by_cases h : (bl s).take (bl p).length = bl p
  · have hl : p.size ≤ s.size := by
      have := congrArg List.length h
      rw [List.length_take, bl_len, bl_len] at this
      omega
    have hC : cutPL (bl p) (bl s) = ((bl s).drop (bl p).length, true) := by unfold cutPL; rw [if_pos h]
    rw [decide_eq_true h] at cH
    have hli : (p.size : Int) ≤ (s.size : Int) := by omega
    have HC := Lib.hid hC
    clear h hC
    go_enter Tryz.func98, Tryz.ntmps98
    go_wp2_with fail
    refine cH.mono ?_
    rintro e w1 ⟨rfl, rfl⟩
    clear cH
    go_wp2_with fail
    go_ret2
    refine ⟨s.extract p.size s.size, by rw [HC.out]; rfl, ?_, rfl⟩
    rw [HC.out, extract_ofL, bl_ofL, List.take_of_length_le (by rw [List.length_drop, bl_len]; omega), bl_len]
  · have hC : cutPL (bl p) (bl s) = (bl s, false) := by unfold cutPL; rw [if_neg h]
    rw [decide_eq_false h] at cH
    have HC := Lib.hid hC
    clear h hC
    go_enter Tryz.func98, Tryz.ntmps98
    go_wp2_with fail
    refine cH.mono ?_
    rintro e w1 ⟨rfl, rfl⟩
    clear cH
    go_wp2_with fail
    go_ret2
    exact ⟨s, by rw [HC.out]; rfl, by rw [HC.out], rfl⟩
set_option maxRecDepth 100000 in
theorem cutPrefix_any (s p : ByteArray) (w : World) (hs : s.size ≤ maxLen) : Calls Tryz.prog 85 #[.string s, .string p] w (CutPfP s p w) := by
  have cH := cutPrefix1_any s p w hs
  unfold CutPfP at cH
  generalize hb : (cutPL (bl p) (bl s)).2 = b at cH
  go_enter Tryz.func85, Tryz.ntmps85
  go_wp2_with fail
  refine cH.mono ?_
  rintro e w1 ⟨T, rfl, hT, rfl⟩
  clear cH
  go_wp2_with fail
  go_ret2
  exact ⟨T, by rw [hb]; rfl, hT, rfl⟩
theorem cutPrefix_at (s : ByteArray) (p : List UInt8) (w : World) (hs : s.size ≤ maxLen) : Calls Tryz.prog 85 #[.string s, .string (strJ p)] w fun e w' => e = .returned (.tuple #[.string (strJ (cutPL p (bl s)).1), .bool (cutPL p (bl s)).2]) ∧ w = w' := by
  have h := cutPrefix_any s (strJ p) w hs
  unfold CutPfP at h
  rw [bl_strJ] at h
  refine h.mono ?_
  rintro e w1 ⟨T, rfl, hT, rfl⟩
  rw [str_of hT]
  exact ⟨rfl, rfl⟩
abbrev zeroT : Obj := .cells #[.int .i64 0, .string ⟨#[]⟩, .int .i64 0] 77
theorem cells3 {W : World} {g : Nat} {u v x : Value} {t : TypeId} (h : W.heap[g]? = some (.cells #[u, v, x] t (0, 0))) :
    W.cell? ⟨g, 0, none⟩ = some u ∧ W.cell? ⟨g, 1, none⟩ = some v ∧ W.cell? ⟨g, 2, none⟩ = some x ∧ W.frozen? ⟨g, 0, none⟩ = false ∧ W.frozen? ⟨g, 1, none⟩ = false ∧ W.frozen? ⟨g, 2, none⟩ = false :=
  ⟨by simpa using cell_of_row _ _ 0 _ t (0, 0) h, by simpa using cell_of_row _ _ 1 _ t (0, 0) h, by simpa using cell_of_row _ _ 2 _ t (0, 0) h, by simp [World.frozen?, h], by simp [World.frozen?, h], by simp [World.frozen?, h]⟩
theorem three_cells {w : World} {g : Nat} {a b c : Value} {t : TypeId} (h : w.heap[g]? = some (.cells #[a, b, c] t (0, 0))) (x0 x1 x2 : Value) :
    (((w.setCell ⟨g, 0, none⟩ x0).setCell ⟨g, 1, none⟩ x1).setCell ⟨g, 2, none⟩ x2).heap[g]? = some (.cells #[x0, x1, x2] t (0, 0)) := by
  have h1 := set_j (i := 0) (cs := [a, b, c]) h x0
  have h2 := set_j (i := 1) (cs := [x0, b, c]) h1 x1
  exact set_j (i := 2) (cs := [x0, x1, c]) h2 x2
theorem put3_below {w0 w : World} {B g : Nat} (h : Below B w0 w) (hg : B ≤ g) (x0 x1 x2 : Value) : Below B w0 (((w.setCell ⟨g, 0, none⟩ x0).setCell ⟨g, 1, none⟩ x1).setCell ⟨g, 2, none⟩ x2) :=
  ((h.setCell (p := ⟨g, 0, none⟩) hg _).setCell (p := ⟨g, 1, none⟩) hg _).setCell (p := ⟨g, 2, none⟩) hg _
set_option maxRecDepth 100000 in
theorem minus_any (w : World) : Calls Tryz.prog 84 #[] w fun e w' => e = .returned minusTk.val ∧ Below w.heap.size w w' := by
  obtain ⟨W0, hW0⟩ : ∃ W, w.alloc zeroT = W := ⟨_, rfl⟩
  have HB0 : Hid (Below w.heap.size w W0) := by rw [← hW0]; exact lvBelow _ _
  have HR0 : Hid (W0.heap[w.heap.size]? = some (.cells #[.int .i64 0, .string ⟨#[]⟩, .int .i64 0] 77 (0, 0))) := by rw [← hW0]; exact heap_alloc_new w zeroT
  obtain ⟨r0, r1, r2, rf0, rf1, rf2⟩ := cells3 HR0.out
  obtain ⟨s0, s1, s2, _⟩ := cells3 (three_cells HR0.out (.int .i64 3) (.string ⟨#[45]⟩) (.int .i64 0))
  have HSS := Lib.hid (And.intro s0 (And.intro s1 s2))
  have HD := Lib.hid (put3_below HB0.out (Nat.le_refl _) (.int .i64 3) (.string ⟨#[45]⟩) (.int .i64 0))
  clear s0 s1 s2
  go_enter Tryz.func84, Tryz.ntmps84
  go_upto_region 1 with fail
  try rw [hW0]
  go_wp2_with fail
  obtain ⟨s0, s1, s2⟩ := HSS.out
  exact bodyPost_ret (v := minusTk.val) (by simp [results, Tryz.results84, go_sem, s0, s1, s2, minusTk, Tk.val]) rfl ⟨rfl, HD.out⟩
def RdPartP (kd : Int) (L : List Tk) (w : World) (e : Ending) (w' : World) : Prop := e = .returned (.tuple #[.int .i64 (rdPart kd L).1, .int .i64 ((rdPart kd L).2 : Int)]) ∧ Below w.heap.size w w'
set_option maxRecDepth 100000 in
set_option maxHeartbeats 4000000 in
/-- a part that has no sign -/
theorem readPart_plain (kd : Int) (A : Option Addr) (n c : Nat) (L : List Tk) (w : World) (hT : Toks w w.heap.size A n L) (hd : 0 ≤ kd ∧ kd ≤ 6) (h6 : kd ≠ 6) : Calls Tryz.prog 64 #[.int .i64 kd, .slice A n c] w (RdPartP kd L w) := by
  by_cases h0 : kd = 0
  · subst h0
    have HR : Hid (rdPart 0 L = (0, 0)) := rdPart_zero L
    clear hT
    go_enter Tryz.func64, Tryz.ntmps64
    go_wp2_with fail
    go_ret2
    exact ⟨by rw [HR.out]; rfl, Below.refl _ _⟩
  have d0 : (kd == 0) = false := by simpa using h0
  cases L with
  | nil =>
    obtain rfl : 0 = n := hT.1
    clear hT
    go_enter Tryz.func64, Tryz.ntmps64
    go_wp2_with fail
    go_ret2
    exact ⟨rfl, Below.refl _ _⟩
  | cons t r =>
    obtain ⟨m, rfl⟩ : ∃ m, n = m + 1 := ⟨n - 1, by have := hT.1; simp at this; omega⟩
    obtain ⟨b, o, t', hA, hb, hX, c0, c1, c2, hto⟩ := hT.at_ (k := 0) (by omega)
    subst hA
    obtain rfl : t = t' := Option.some.inj hX.out
    rw [Nat.zero_mul, Nat.add_zero] at c0 c1 c2
    have hs : t.s.size ≤ maxLen := hto.2.2.2.2
    have d6 : (kd == 6) = false := by simpa using h6
    have hn0 : ((m : Int) + 1 == 0) = false := by rw [beq_eq_false_iff_ne]; omega
    have hnp : (0 : Int) < (m : Int) + 1 := by omega
    have cM := fun w => mark_any kd w hd
    have cC := fun w => cutPrefix_at t.s (markL kd) w hs
    have HR : Hid (rdPart kd (t :: r) = rdOne kd t) := rdPart_one h0 (fun q => h6 q.1)
    have HRO : Hid (rdOne kd t = if (cutPL (markL kd) (bl t.s)).2 = true ∧ isNumL (cutPL (markL kd) (bl t.s)).1 = true then (numL (cutPL (markL kd) (bl t.s)).1, 1) else (0, 0)) := rfl
    have hle : (cutPL (markL kd) (bl t.s)).1.length ≤ t.s.size := by
      unfold cutPL
      split
      · rw [List.length_drop, bl_len]; omega
      · rw [bl_len]; omega
    generalize cutPL (markL kd) (bl t.s) = q at cC HRO hle
    obtain ⟨q1, q2⟩ := q
    dsimp only at cC HRO hle
    have cN := fun w => number_any (strJ q1) w (by rw [strJ_size]; omega)
    rw [bl_strJ] at cN
    clear hT hX hto hb h0 h6 hle
    by_cases hok : q2 = true ∧ isNumL q1 = true
    · obtain ⟨h1, h2⟩ := hok
      rw [numRes_yes h2] at cN
      rw [if_pos ⟨h1, h2⟩] at HRO
      subst h1
      clear h2
      go_enter Tryz.func64, Tryz.ntmps64
      go_wp2_with fail
      go_quiet (fail)
      obtain ⟨W1, hW1⟩ : ∃ W, w.drewN nq = W := ⟨_, rfl⟩
      have HB1 : Hid (Below w.heap.size w W1) := by rw [← hW1]; exact belowD (Below.refl _ _) _
      replace c0 : W1.cell? ⟨b, o, none⟩ = some (.int .i64 t.k) := by rw [← hW1]; exact c0
      replace c1 : W1.cell? ⟨b, o + 1, none⟩ = some (.string t.s) := by rw [← hW1]; exact c1
      replace c2 : W1.cell? ⟨b, o + 2, none⟩ = some (.int .i64 t.n) := by rw [← hW1]; exact c2
      rw [hW1]
      clear hW1
      go_wp2_with fail
      go_quiet (first | (go_at_call 86; exact Calls.quiet_of_same ((cM _).mono fun _ _ h => ⟨h.1, h.2.symm⟩)) | (go_at_call 85; exact Calls.quiet_of_same ((cC _).mono fun _ _ h => ⟨h.1, h.2.symm⟩)))
      have HB2 := Lib.hid (belowD HB1.out nq)
      clear HB1 c0 c1 c2 cC cM
      go_wp2_with (go_at_call 62; (with_reducible refine (cN _).mono ?_); rintro e w2 ⟨rfl, rfl⟩)
      go_ret2
      exact ⟨by rw [HR.out, HRO.out]; rfl, HB2.out⟩
    · have HRO2 : Hid (rdOne kd t = (0, 0)) := by unfold Hid; rw [HRO.out, if_neg hok]
      have hcase : (q2 = false ∧ isNumL q1 = true) ∨ (q2 = false ∧ isNumL q1 = false) ∨ (q2 = true ∧ isNumL q1 = false) := by
        cases q2
        · cases h : isNumL q1
          · exact .inr (.inl ⟨rfl, rfl⟩)
          · exact .inl ⟨rfl, rfl⟩
        · cases h : isNumL q1
          · exact .inr (.inr ⟨rfl, rfl⟩)
          · exact absurd ⟨rfl, h⟩ hok
      clear hok HRO
      rcases hcase with ⟨h1, h2⟩ | ⟨h1, h2⟩ | ⟨h1, h2⟩
      all_goals
        first | rw [numRes_yes h2] at cN | rw [numRes_no h2] at cN
        subst h1
        clear h2
        go_enter Tryz.func64, Tryz.ntmps64
        go_wp2_with fail
        go_quiet (fail)
        obtain ⟨W1, hW1⟩ : ∃ W, w.drewN nq = W := ⟨_, rfl⟩
        have HB1 : Hid (Below w.heap.size w W1) := by rw [← hW1]; exact belowD (Below.refl _ _) _
        replace c0 : W1.cell? ⟨b, o, none⟩ = some (.int .i64 t.k) := by rw [← hW1]; exact c0
        replace c1 : W1.cell? ⟨b, o + 1, none⟩ = some (.string t.s) := by rw [← hW1]; exact c1
        replace c2 : W1.cell? ⟨b, o + 2, none⟩ = some (.int .i64 t.n) := by rw [← hW1]; exact c2
        rw [hW1]
        clear hW1
        go_wp2_with fail
        go_quiet (first | (go_at_call 86; exact Calls.quiet_of_same ((cM _).mono fun _ _ h => ⟨h.1, h.2.symm⟩)) | (go_at_call 85; exact Calls.quiet_of_same ((cC _).mono fun _ _ h => ⟨h.1, h.2.symm⟩)))
        have HB2 := Lib.hid (belowD HB1.out nq)
        clear HB1 c0 c1 c2 cC cM
        go_wp2_with (go_at_call 62; (with_reducible refine (cN _).mono ?_); rintro e w2 ⟨rfl, rfl⟩)
        go_ret2
        exact ⟨by rw [HR.out, HRO2.out]; rfl, HB2.out⟩
set_option maxRecDepth 100000 in
set_option maxHeartbeats 4000000 in
/-- a number that has no sign -/
theorem readPart_num (A : Option Addr) (n c : Nat) (t : Tk) (r : List Tk) (w : World) (hT : Toks w w.heap.size A n (t :: r)) (hmf : eqTk t minusTk = false) : Calls Tryz.prog 64 #[.int .i64 6, .slice A n c] w (RdPartP 6 (t :: r) w) := by
  obtain ⟨m, rfl⟩ : ∃ m, n = m + 1 := ⟨n - 1, by have := hT.1; simp at this; omega⟩
  obtain ⟨b, o, t', hA, hbl, hX, c0, c1, c2, hto⟩ := hT.at_ (k := 0) (by omega)
  subst hA
  obtain rfl : t = t' := Option.some.inj hX.out
  rw [Nat.zero_mul, Nat.add_zero] at c0 c1 c2
  have hs : t.s.size ≤ maxLen := hto.2.2.2.2
  have hcn : ∀ W, (binOp .eql 77 (.agg #[.int .i64 t.k, .string t.s, .int .i64 t.n]) (.agg #[.int .i64 3, .string ⟨#[45]⟩, .int .i64 0])).run Tryz.prog W = .ok (.bool false) W := fun W => by
    have := tk_eql t minusTk W
    rw [hmf] at this
    exact this
  have hgd := fun (o1 o2 : Operand) (W : World) => run_eqGuard_agg (P := Tryz.prog) W .eql 77 o1 o2 #[.int .i64 t.k, .string t.s, .int .i64 t.n] #[.int .i64 3, .string ⟨#[45]⟩, .int .i64 0] (by kernel_rfl)
  have hmx : Tryz.prog.follows .mixedOrders = true := by kernel_rfl
  have cMn : ∀ d os, Calls Tryz.prog 84 #[] (grow (redrawn w d) os) fun e w'' => e = .returned (.agg #[.int .i64 3, .string ⟨#[45]⟩, .int .i64 0]) ∧ ∃ p : Regrown, w'' = grow (redrawn w p.d) p.os := fun d os => Calls.regrown_of (minus_any _)
  have x0 := fun d os => cell_regrown c0 d os
  have x1 := fun d os => cell_regrown c1 d os
  have x2 := fun d os => cell_regrown c2 d os
  have hn0 : ((m : Int) + 1 == 0) = false := by rw [beq_eq_false_iff_ne]; omega
  have hnp : (0 : Int) < (m : Int) + 1 := by omega
  have cM := fun w => mark_any 6 w (by omega)
  have cC := fun w => cutPrefix_at t.s (markL 6) w hs
  have HR : Hid (rdPart 6 (t :: r) = rdOne 6 t) := rdPart_one (by decide) (fun q => by rw [hmf] at q; exact absurd q.2 (by decide))
  have HRO : Hid (rdOne 6 t = if (cutPL (markL 6) (bl t.s)).2 = true ∧ isNumL (cutPL (markL 6) (bl t.s)).1 = true then (numL (cutPL (markL 6) (bl t.s)).1, 1) else (0, 0)) := rfl
  have hle : (cutPL (markL 6) (bl t.s)).1.length ≤ t.s.size := by
    unfold cutPL
    split
    · rw [List.length_drop, bl_len]; omega
    · rw [bl_len]; omega
  generalize cutPL (markL 6) (bl t.s) = q at cC HRO hle
  obtain ⟨q1, q2⟩ := q
  dsimp only at cC HRO hle
  have cN := fun w => number_any (strJ q1) w (by rw [strJ_size]; omega)
  rw [bl_strJ] at cN
  clear hT hX hto hmf hle
  by_cases hok : q2 = true ∧ isNumL q1 = true
  · obtain ⟨h1, h2⟩ := hok
    rw [numRes_yes h2] at cN
    rw [if_pos ⟨h1, h2⟩] at HRO
    subst h1
    clear h2
    go_enter Tryz.func64, Tryz.ntmps64
    go_wp2_with fail
    refine wp_region_quiet_below hmx (by kernel_rfl) ?_
    repeat (quiet_step (first | (go_at_call 84; exact cMn _ _)))
    refine wpQuiet_nil ?_
    intro _ hw'
    obtain ⟨⟨dq, osq⟩, hw''⟩ := hw'
    subst hw''
    have hb1 := below_regrown w dq osq
    obtain ⟨W1, hW1⟩ : ∃ W, grow (redrawn w dq) osq = W := ⟨_, rfl⟩
    rw [hW1] at hb1 ⊢
    have HB1 := Lib.hid hb1
    replace c0 : W1.cell? ⟨b, o, none⟩ = some (.int .i64 t.k) := (hb1.cell hbl).trans c0
    replace c1 : W1.cell? ⟨b, o + 1, none⟩ = some (.string t.s) := (hb1.cell hbl).trans c1
    replace c2 : W1.cell? ⟨b, o + 2, none⟩ = some (.int .i64 t.n) := (hb1.cell hbl).trans c2
    clear hb1 cMn hW1 x0 x1 x2
    go_wp2_with fail
    go_quiet (first | (go_at_call 86; exact Calls.quiet_of_same ((cM _).mono fun _ _ h => ⟨h.1, h.2.symm⟩)) | (go_at_call 85; exact Calls.quiet_of_same ((cC _).mono fun _ _ h => ⟨h.1, h.2.symm⟩)))
    have HB2 := Lib.hid (belowD HB1.out nq)
    clear HB1 c0 c1 c2 cC cM
    go_wp2_with (go_at_call 62; (with_reducible refine (cN _).mono ?_); rintro e w2 ⟨rfl, rfl⟩)
    go_ret2
    exact ⟨by rw [HR.out, HRO.out]; rfl, HB2.out⟩
  · have HRO2 : Hid (rdOne 6 t = (0, 0)) := by unfold Hid; rw [HRO.out, if_neg hok]
    have hcase : (q2 = false ∧ isNumL q1 = true) ∨ (q2 = false ∧ isNumL q1 = false) ∨ (q2 = true ∧ isNumL q1 = false) := by
      cases q2
      · cases h : isNumL q1
        · exact .inr (.inl ⟨rfl, rfl⟩)
        · exact .inl ⟨rfl, rfl⟩
      · cases h : isNumL q1
        · exact .inr (.inr ⟨rfl, rfl⟩)
        · exact absurd ⟨rfl, h⟩ hok
    clear hok HRO
    rcases hcase with ⟨h1, h2⟩ | ⟨h1, h2⟩ | ⟨h1, h2⟩
    all_goals
      first | rw [numRes_yes h2] at cN | rw [numRes_no h2] at cN
      subst h1
      clear h2
      go_enter Tryz.func64, Tryz.ntmps64
      go_wp2_with fail
      refine wp_region_quiet_below hmx (by kernel_rfl) ?_
      repeat (quiet_step (first | (go_at_call 84; exact cMn _ _)))
      refine wpQuiet_nil ?_
      intro _ hw'
      obtain ⟨⟨dq, osq⟩, hw''⟩ := hw'
      subst hw''
      have hb1 := below_regrown w dq osq
      obtain ⟨W1, hW1⟩ : ∃ W, grow (redrawn w dq) osq = W := ⟨_, rfl⟩
      rw [hW1] at hb1 ⊢
      have HB1 := Lib.hid hb1
      replace c0 : W1.cell? ⟨b, o, none⟩ = some (.int .i64 t.k) := (hb1.cell hbl).trans c0
      replace c1 : W1.cell? ⟨b, o + 1, none⟩ = some (.string t.s) := (hb1.cell hbl).trans c1
      replace c2 : W1.cell? ⟨b, o + 2, none⟩ = some (.int .i64 t.n) := (hb1.cell hbl).trans c2
      clear hb1 cMn hW1 x0 x1 x2
      go_wp2_with fail
      go_quiet (first | (go_at_call 86; exact Calls.quiet_of_same ((cM _).mono fun _ _ h => ⟨h.1, h.2.symm⟩)) | (go_at_call 85; exact Calls.quiet_of_same ((cC _).mono fun _ _ h => ⟨h.1, h.2.symm⟩)))
      have HB2 := Lib.hid (belowD HB1.out nq)
      clear HB1 c0 c1 c2 cC cM
      go_wp2_with (go_at_call 62; (with_reducible refine (cN _).mono ?_); rintro e w2 ⟨rfl, rfl⟩)
      go_ret2
      exact ⟨by rw [HR.out, HRO2.out]; rfl, HB2.out⟩
end Go.Proofs.YtgkngimeokhhgaaGreatDoor
/- The program's readPart. -/
namespace Go.Proofs.YtgkngimeokhhgaaGreatDoor
open Go Go.Sort Go.RowKit

set_option maxRecDepth 100000 in
theorem readPart_nil (A : Option Addr) (n c : Nat) (w : World) (hT : Toks w w.heap.size A n []) : Calls Tryz.prog 64 #[.int .i64 6, .slice A n c] w (RdPartP 6 [] w) := by
  obtain rfl : 0 = n := hT.1
  clear hT
  go_enter Tryz.func64, Tryz.ntmps64
  go_wp2_with fail
  go_ret2
  exact ⟨rfl, Below.refl _ _⟩
theorem rdPart_sign {t : Tk} {r : List Tk} (h : eqTk t minusTk = true) : rdPart 6 (t :: r) = if 0 < (rdPart 5 r).1 then (-(rdPart 5 r).1, (rdPart 5 r).2 + 1) else (0, 0) := by
  cases r with
  | nil => rw [rdPart_alone h]; rfl
  | cons u r => rw [rdPart_minus h, rdPart_one (kd := 5) (by decide) (fun q => absurd q.1 (by decide))]
set_option maxRecDepth 100000 in
set_option maxHeartbeats 4000000 in
/-- a number that has a sign -/
theorem readPart_sign (A : Option Addr) (n c : Nat) (t : Tk) (r : List Tk) (w : World) (hT : Toks w w.heap.size A n (t :: r)) (hmt : eqTk t minusTk = true) (hnc : n ≤ c) : Calls Tryz.prog 64 #[.int .i64 6, .slice A n c] w (RdPartP 6 (t :: r) w) := by
  obtain ⟨m, rfl⟩ : ∃ m, n = m + 1 := ⟨n - 1, by have := hT.1; simp at this; omega⟩
  obtain ⟨b, o, t', hA, hbl, hX, c0, c1, c2, hto⟩ := hT.at_ (k := 0) (by omega)
  subst hA
  obtain rfl : t = t' := Option.some.inj hX.out
  rw [Nat.zero_mul, Nat.add_zero] at c0 c1 c2
  have hcn : ∀ W, (binOp .eql 77 (.agg #[.int .i64 t.k, .string t.s, .int .i64 t.n]) (.agg #[.int .i64 3, .string ⟨#[45]⟩, .int .i64 0])).run Tryz.prog W = .ok (.bool true) W := fun W => by
    have := tk_eql t minusTk W
    rw [hmt] at this
    exact this
  have hgd := fun (o1 o2 : Operand) (W : World) => run_eqGuard_agg (P := Tryz.prog) W .eql 77 o1 o2 #[.int .i64 t.k, .string t.s, .int .i64 t.n] #[.int .i64 3, .string ⟨#[45]⟩, .int .i64 0] (by kernel_rfl)
  have hmx : Tryz.prog.follows .mixedOrders = true := by kernel_rfl
  have cMn : ∀ d os, Calls Tryz.prog 84 #[] (grow (redrawn w d) os) fun e w'' => e = .returned (.agg #[.int .i64 3, .string ⟨#[45]⟩, .int .i64 0]) ∧ ∃ p : Regrown, w'' = grow (redrawn w p.d) p.os := fun d os => Calls.regrown_of (minus_any _)
  have x0 := fun d os => cell_regrown c0 d os
  have x1 := fun d os => cell_regrown c1 d os
  have x2 := fun d os => cell_regrown c2 d os
  have hn0 : ((m : Int) + 1 == 0) = false := by rw [beq_eq_false_iff_ne]; omega
  have hnp : (0 : Int) < (m : Int) + 1 := by omega
  have HR := Lib.hid (rdPart_sign (r := r) hmt)
  have HTR : Hid (Toks w w.heap.size (some ⟨b, if c = 1 then o else o + 3, none⟩) m r) := hT.restc hnc
  have hle := rdPart_le 5 r
  have HNC := Lib.hid hnc
  clear hT hX hto hmt
  go_enter Tryz.func64, Tryz.ntmps64
  go_wp2_with fail
  refine wp_region_quiet_below hmx (by kernel_rfl) ?_
  repeat (quiet_step (first | (go_at_call 84; exact cMn _ _)))
  refine wpQuiet_nil ?_
  intro _ hw'
  obtain ⟨⟨dq, osq⟩, hw''⟩ := hw'
  subst hw''
  have hb1 := below_regrown w dq osq
  obtain ⟨W1, hW1⟩ : ∃ W, grow (redrawn w dq) osq = W := ⟨_, rfl⟩
  rw [hW1] at hb1 ⊢
  have HB1 := Lib.hid hb1
  have cR := readPart_plain 5 (some ⟨b, if c = 1 then o else o + 3, none⟩) m (c - 1) r W1 ((HTR.out.below hb1).more hb1.size) (by omega) (by omega)
  unfold RdPartP at cR
  obtain ⟨⟨v, k⟩, hq⟩ : ∃ q, rdPart 5 r = q := ⟨_, rfl⟩
  have HQ := Lib.hid hq
  rw [hq] at cR hle HR
  dsimp only at cR hle HR
  clear hb1 cMn hW1 x0 x1 x2 hq
  have hm1 : (1 : Int) ≤ (m : Int) + 1 := by omega
  by_cases hc1 : c = 1
  · have hm0 : m = 0 := by have := HNC.out; omega
    have hr0 : r = [] := List.eq_nil_of_length_eq_zero (by have := HTR.out.1; omega)
    subst hm0
    subst hr0
    have hv0 : v = 0 ∧ k = 0 := by have := HQ.out; rw [show rdPart 5 [] = ((0 : Int), (0 : Nat)) from rfl] at this; injection this with h1 h2; exact ⟨h1.symm, h2.symm⟩
    obtain ⟨rfl, rfl⟩ := hv0
    rw [if_pos hc1] at cR
    rw [if_neg (by decide)] at HR
    subst hc1
    rw [show (1 : Nat) - 1 = 0 from rfl] at cR
    clear hle
    go_upto_region 4 with fail
    clear c0 c1 c2 hcn hgd hmx hn0 hnp HTR HNC hbl
    go_wp2_with fail
    refine cR.mono ?_
    rintro e w2 ⟨rfl, hb⟩
    have HB2 := Lib.hid (HB1.out.trans (hb.mono HB1.out.size))
    clear hb cR HB1
    go_wp2_with fail
    go_ret2
    exact ⟨by rw [HR.out]; rfl, HB2.out⟩
  · rw [if_neg hc1] at cR
    go_upto_region 4 with fail
    clear c0 c1 c2 hcn hgd hmx hn0 hnp HTR HNC hbl
    obtain ⟨hle0, hle1, hle2, hle3⟩ := hle
    clear hle0
    go_wp2_with fail
    refine cR.mono ?_
    rintro e w2 ⟨rfl, hb⟩
    have HB2 := Lib.hid (HB1.out.trans (hb.mono HB1.out.size))
    clear hb cR HB1
    by_cases hv : 0 < v
    · rw [if_pos hv] at HR
      have hw1 : IntKind.i64.wrap (-v) = -v := IntWalk.i64_in _ (by omega)
      clear hle2 hle3 hc1 hm1
      go_upto_region 5 with fail
      go_upto_region 6 with fail
      clear hv
      have hk2 : (k : Int) ≤ 2 := by omega
      clear hle1
      go_wp2_with fail
      go_ret2
      exact ⟨by rw [HR.out]; rfl, HB2.out⟩
    · rw [if_neg hv] at HR
      clear hle2 hle3 hc1 hm1
      go_upto_region 5 with fail
      go_wp2_with fail
      go_ret2
      exact ⟨by rw [HR.out]; rfl, HB2.out⟩
theorem readPart_any (kd : Int) (A : Option Addr) (n c : Nat) (L : List Tk) (w : World) (hT : Toks w w.heap.size A n L) (hd : 0 ≤ kd ∧ kd ≤ 6) (hnc : n ≤ c) : Calls Tryz.prog 64 #[.int .i64 kd, .slice A n c] w (RdPartP kd L w) := by
  by_cases h6 : kd = 6
  · subst h6
    cases L with
    | nil => exact readPart_nil A n c w hT
    | cons t r =>
      cases hm : eqTk t minusTk with
      | true => exact readPart_sign A n c t r w hT hm hnc
      | false => exact readPart_num A n c t r w hT hm
  · exact readPart_plain kd A n c L w hT hd h6
end Go.Proofs.YtgkngimeokhhgaaGreatDoor
/- The program's read: the parts of a line, and whether it is of the shape. -/
namespace Go.Proofs.YtgkngimeokhhgaaGreatDoor
open Go Go.RowKit

theorem Toks.dropc1 {w : World} {B b o m cc : Nat} {L : List Tk} (h : Toks w B (some ⟨b, o, none⟩) (m + 1) L) (hc : m + 1 ≤ cc) : Toks w B (some ⟨b, if cc = 1 then o else o + 3, none⟩) m (L.drop 1) := by
  cases L with
  | nil => exact absurd h.1 (by simp)
  | cons t R => exact h.restc hc
theorem Toks.dropc2 {w : World} {B b o m cc : Nat} {L : List Tk} (h : Toks w B (some ⟨b, o, none⟩) (m + 2) L) (hc : m + 2 ≤ cc) : Toks w B (some ⟨b, if cc = 2 then o else o + 6, none⟩) m (L.drop 2) := by
  match L, h with
  | [], h => exact absurd h.1 (by simp)
  | [t], h => exact absurd h.1 (by simp)
  | t :: u :: R, h =>
    have h1 : Toks w B (some ⟨b, o + 3, none⟩) (m + 1) (u :: R) := h.rest
    split
    · exact h1.rest.none_ (by omega)
    · exact h1.rest
theorem cutA2 (cc b o : Nat) : (if cc = 2 then some (⟨b, o, none⟩ : Addr) else some ⟨b, o + 6, none⟩) = some ⟨b, if cc = 2 then o else o + 6, none⟩ := by split <;> rfl
abbrev zero4 : Obj := .cells #[.int .i64 0, .int .i64 0, .int .i64 0, .int .i64 0] 81
/-- a shape: its word, and what stands behind it -/
abbrev shW (ws : ByteArray) (k0 k1 k2 k3 : Int) : Value := .agg #[.string ws, .int .i64 k0, .int .i64 k1, .int .i64 k2, .int .i64 k3]
abbrev shWO (ws : ByteArray) (k0 k1 k2 k3 : Int) : Obj := .cells #[.string ws, .int .i64 k0, .int .i64 k1, .int .i64 k2, .int .i64 k3] 85
abbrev kV (k0 k1 k2 k3 : Int) : Value := .agg #[.int .i64 k0, .int .i64 k1, .int .i64 k2, .int .i64 k3]
theorem index_kV {k0 k1 k2 k3 v : Int} {k : Nat} (hv : [k0, k1, k2, k3][k]? = some v) (w : World) : Sem.run Tryz.prog (Instr.index 83 (kV k0 k1 k2 k3) (.int .i64 (k : Int))) w = .ok (.int .i64 v) w := by
  match k, hv with
  | 0, hv => cases hv; simp [Instr.index, run_underlying Tryz.underlying83, asIntOf, go_sem]
  | 1, hv => cases hv; simp [Instr.index, run_underlying Tryz.underlying83, asIntOf, go_sem]
  | 2, hv => cases hv; simp [Instr.index, run_underlying Tryz.underlying83, asIntOf, go_sem]
  | 3, hv => cases hv; simp [Instr.index, run_underlying Tryz.underlying83, asIntOf, go_sem]
  | k + 4, hv => cases hv
/-- what read tells -/
def rdAll (ws : ByteArray) (ks : List Int) (t : Tk) (r : List Tk) : List Int × Bool × List Tk := rdS ks (t.s.toList == ws.toList) r 4
def ReadP (ws : ByteArray) (ks : List Int) (t : Tk) (r : List Tk) (w : World) (e : Ending) (w' : World) : Prop :=
  ∃ a b c d : Int, (rdAll ws ks t r).1 = [a, b, c, d] ∧ e = .returned (.tuple #[.agg #[.int .i64 a, .int .i64 b, .int .i64 c, .int .i64 d], .bool ((rdAll ws ks t r).2.1 && (rdAll ws ks t r).2.2.isEmpty)]) ∧ Below w.heap.size w w'
set_option maxRecDepth 100000 in
set_option maxHeartbeats 8000000 in
theorem read_any (ws : ByteArray) (k0 k1 k2 k3 : Int) (hk : ∀ v ∈ [k0, k1, k2, k3], 0 ≤ v ∧ v ≤ 6) (A : Option Addr) (n c : Nat) (t : Tk) (r : List Tk) (w : World) (hT : Toks w w.heap.size A n (t :: r)) (hnc : n ≤ c) :
    Calls Tryz.prog 37 #[shW ws k0 k1 k2 k3, .slice A n c] w (ReadP ws [k0, k1, k2, k3] t r w) := by
  obtain ⟨m, rfl⟩ : ∃ m, n = m + 1 := ⟨n - 1, by have := hT.1; simp at this; omega⟩
  obtain ⟨b, o, t', hA, hbl, hX, c0, c1, c2, hto⟩ := hT.at_ (k := 0) (by omega)
  subst hA
  obtain rfl : t = t' := Option.some.inj hX.out
  rw [Nat.zero_mul, Nat.add_zero] at c0 c1 c2
  have hb0 := (((Below.refl w.heap.size w).alloc (Nat.le_refl _) (shWO ws k0 k1 k2 k3)).alloc (by simp) zero4).alloc (by simp; omega) zero4
  obtain ⟨W0, hW0⟩ : ∃ W, ((w.alloc (shWO ws k0 k1 k2 k3)).alloc zero4).alloc zero4 = W := ⟨_, rfl⟩
  have HB0 : Hid (Below w.heap.size w W0) := by rw [← hW0]; exact hb0
  have hX0 : W0.heap[w.heap.size]? = some (.cells #[.string ws, .int .i64 k0, .int .i64 k1, .int .i64 k2, .int .i64 k3] 85 (0, 0)) := by rw [← hW0]; exact pastJ _ (pastJ _ (heap_alloc_new w _))
  have HR0 : Hid (W0.heap[w.heap.size + 1]? = some (.cells #[.int .i64 0, .int .i64 0, .int .i64 0, .int .i64 0] 81 (0, 0))) := by
    rw [← hW0]
    have h := heap_alloc_new (w.alloc (shWO ws k0 k1 k2 k3)) zero4
    rw [World.size_alloc] at h
    exact pastJ _ h
  have HP0 : Hid (W0.heap[w.heap.size + 1 + 1]? = some (.cells #[.int .i64 0, .int .i64 0, .int .i64 0, .int .i64 0] 81 (0, 0))) := by
    rw [← hW0]
    have h := heap_alloc_new ((w.alloc (shWO ws k0 k1 k2 k3)).alloc zero4) zero4
    rw [World.size_alloc, World.size_alloc] at h
    exact h
  obtain ⟨s0, s1, s2, s3, s4, _⟩ := cells5 hX0
  replace c0 : W0.cell? ⟨b, o, none⟩ = some (.int .i64 t.k) := (HB0.out.cell hbl).trans c0
  replace c1 : W0.cell? ⟨b, o + 1, none⟩ = some (.string t.s) := (HB0.out.cell hbl).trans c1
  replace c2 : W0.cell? ⟨b, o + 2, none⟩ = some (.int .i64 t.n) := (HB0.out.cell hbl).trans c2
  have HT1 : Hid (Toks w w.heap.size (some ⟨b, if c = 1 then o else o + 3, none⟩) m r) := hT.restc hnc
  have HK := Lib.hid hk
  obtain ⟨b0, hb0'⟩ : ∃ b0, (t.s.toList == ws.toList) = b0 := ⟨_, rfl⟩
  have HBE : Hid (rdAll ws [k0, k1, k2, k3] t r = rdS [k0, k1, k2, k3] b0 r 4) := by unfold Hid rdAll; rw [hb0']
  have hnp : (0 : Int) < (m : Int) + 1 := by omega
  have hm1 : (1 : Int) ≤ (m : Int) + 1 := by omega
  clear hT hX hto hb0 hk
  go_enter Tryz.func37, Tryz.ntmps37
  go_upto_region 2 with fail
  try rw [hW0]
  clear hW0
  go_quiet (fail)
  obtain ⟨W1, hW1⟩ : ∃ W, W0.drewN nq = W := ⟨_, rfl⟩
  have HB1 : Hid (Below w.heap.size w W1) := by rw [← hW1]; exact belowD HB0.out _
  have HR1 : Hid (W1.heap[w.heap.size + 1]? = some (.cells #[.int .i64 0, .int .i64 0, .int .i64 0, .int .i64 0] 81 (0, 0))) := by rw [← hW1]; exact HR0.out
  have HP1 : Hid (W1.heap[w.heap.size + 1 + 1]? = some (.cells #[.int .i64 0, .int .i64 0, .int .i64 0, .int .i64 0] 81 (0, 0))) := by rw [← hW1]; exact HP0.out
  replace s0 : W1.cell? ⟨w.heap.size, 0, none⟩ = some (.string ws) := by rw [← hW1]; exact s0
  replace s1 : W1.cell? ⟨w.heap.size, 1, none⟩ = some (.int .i64 k0) := by rw [← hW1]; exact s1
  replace s2 : W1.cell? ⟨w.heap.size, 2, none⟩ = some (.int .i64 k1) := by rw [← hW1]; exact s2
  replace s3 : W1.cell? ⟨w.heap.size, 3, none⟩ = some (.int .i64 k2) := by rw [← hW1]; exact s3
  replace s4 : W1.cell? ⟨w.heap.size, 4, none⟩ = some (.int .i64 k3) := by rw [← hW1]; exact s4
  rw [hW1]
  clear hW1 HB0 HR0 HP0 hX0 c0 c1 c2 hbl
  go_upto_region 4 with fail
  rw [cutA]
  obtain ⟨o1, ho1⟩ : ∃ o1, (if c = 1 then o else o + 3) = o1 := ⟨_, rfl⟩
  have hn1 : m ≤ c - 1 := by omega
  rw [ho1] at HT1 ⊢
  obtain ⟨c1, hc1⟩ : ∃ c1, c - 1 = c1 := ⟨_, rfl⟩
  rw [hc1] at hn1 ⊢
  have HN1 := Lib.hid hn1
  clear ho1 hc1 hn1 hnc hnp hm1 hb0'
  go_wp2_with fail
  clear s0 s1 s2 s3 s4
  go_loopw [7, 8, 24] (fun v l i wr => ∃ (k : Nat) (o2 m2 c2 : Nat), k ≤ 4 ∧ i = .int .i64 k ∧ v = .bool (rdS [k0, k1, k2, k3] b0 r k).2.1 ∧ l = .slice (some ⟨b, o2, none⟩) m2 c2 ∧ m2 ≤ c2 ∧ Hid (Toks w w.heap.size (some ⟨b, o2, none⟩) m2 (rdS [k0, k1, k2, k3] b0 r k).2.2) ∧ Hid (Below w.heap.size w wr) ∧ Hid (wr.heap[w.heap.size + 1]? = some (.cells #[.int .i64 0, .int .i64 0, .int .i64 0, .int .i64 0] 81 (0, 0))) ∧ Hid (wr.heap[w.heap.size + 1 + 1]? = some (.cells ((rdS [k0, k1, k2, k3] b0 r k).1.map (Value.int .i64)).toArray 81 (0, 0)))) (fun _ _ i _ => 4 - (intOf i).toNat)
  case atStart => exact ⟨0, o1, m, c1, Nat.zero_le _, rfl, rfl, rfl, HN1.out, HT1, HB1, HR1, HP1⟩
  case round =>
    obtain ⟨k, o2, m2, c2, hk, rfl, rfl, rfl, hmc, HT, HB, HR, HP⟩ := hrel
    by_cases hlt : k < 4
    · obtain ⟨kd, hkd⟩ : ∃ kd, [k0, k1, k2, k3][k]? = some kd := ⟨_, List.getElem?_eq_getElem (by simpa using hlt)⟩
      have hix := index_kV hkd wr
      have hkb := HK.out kd (List.mem_of_getElem? hkd)
      have hk4 : (k : Int) < 4 := by omega
      have hk0 : (0 : Int) ≤ (k : Int) := by omega
      have hgd : [k0, k1, k2, k3].getD k 0 = kd := by rw [List.getD_eq_getElem?_getD, hkd]; rfl
      have HSU : Hid (rdS [k0, k1, k2, k3] b0 r (k + 1) = ((rdS [k0, k1, k2, k3] b0 r k).1.set k (rdPart kd (rdS [k0, k1, k2, k3] b0 r k).2.2).1, (rdS [k0, k1, k2, k3] b0 r k).2.1 && (decide (0 < (rdPart kd (rdS [k0, k1, k2, k3] b0 r k).2.2).2) || kd == 0), (rdS [k0, k1, k2, k3] b0 r k).2.2.drop (rdPart kd (rdS [k0, k1, k2, k3] b0 r k).2.2).2)) := by
        unfold Hid
        rw [← hgd]; rfl
      obtain ⟨⟨ps, bv, L⟩, hS⟩ : ∃ q, rdS [k0, k1, k2, k3] b0 r k = q := ⟨_, rfl⟩
      have hpl : ps.length = 4 := by have := rdS_len [k0, k1, k2, k3] b0 r k; rw [hS] at this; exact this
      rw [hS] at HSU HT HP ⊢
      dsimp only at HSU HT HP ⊢
      have cR := readPart_any kd (some ⟨b, o2, none⟩) m2 c2 L wr ((HT.out.below HB.out).more HB.out.size) hkb hmc
      unfold RdPartP at cR
      have hle := rdPart_le kd L
      have HLM : Hid (L.length = m2) := HT.out.1
      obtain ⟨⟨v, tk⟩, hq⟩ : ∃ q, rdPart kd L = q := ⟨_, rfl⟩
      rw [hq] at cR hle HSU
      dsimp only at cR hle HSU
      clear hq hS hgd hkd
      go_wp2_with fail
      refine cR.mono ?_
      rintro e w2 ⟨rfl, hb⟩
      have HB2 := Lib.hid (HB.out.trans (hb.mono HB.out.size))
      have HR2 := Lib.hid (keep_b hb HR.out)
      have HP2 := Lib.hid (keep_b hb HP.out)
      clear hb cR
      have hpk : ∃ z, ps[k]? = some z := ⟨_, List.getElem?_eq_getElem (by omega)⟩
      obtain ⟨z, hz⟩ := hpk
      have hpc : w2.cell? ⟨w.heap.size + 1 + 1, k, none⟩ = some (.int .i64 z) := by
        refine (cell_of_row _ _ _ _ _ _ HP2.out).trans ?_
        simp [hz]
      have hpf : w2.frozen? ⟨w.heap.size + 1 + 1, k, none⟩ = false := by simp [World.frozen?, HP2.out]
      have hs := set_j (i := k) HP2.out (.int .i64 v)
      rw [← List.map_set] at hs
      have HPS := Lib.hid hs
      have HRS : Hid ((w2.setCell ⟨w.heap.size + 1 + 1, k, none⟩ (.int .i64 v)).heap[w.heap.size + 1]? = some (.cells #[.int .i64 0, .int .i64 0, .int .i64 0, .int .i64 0] 81 (0, 0))) := (Below.heap_setCell _ ⟨w.heap.size + 1 + 1, k, none⟩ _ _ (by show w.heap.size + 1 ≠ w.heap.size + 1 + 1; omega)).trans HR2.out
      have HBS : Hid (Below w.heap.size w (w2.setCell ⟨w.heap.size + 1 + 1, k, none⟩ (.int .i64 v))) := HB2.out.setCell (p := ⟨w.heap.size + 1 + 1, k, none⟩) (by show w.heap.size ≤ w.heap.size + 1 + 1; omega) _
      obtain ⟨hle0, hle1, hle2, hle3⟩ := hle
      have HMC := Lib.hid hmc
      have hl2 : tk ≤ m2 := by have := HLM.out; omega
      clear hz hs hle0 hle2 hle3 hkb hmc hpl
      rcases (by omega : tk = 0 ∨ tk = 1 ∨ tk = 2) with rfl | rfl | rfl
      · clear hl2 hle1
        have HTN : Hid (Toks w w.heap.size (some ⟨b, o2, none⟩) m2 (L.drop 0)) := HT
        cases bv
        · rw [Bool.false_and] at HSU
          go_upto_region 9 with fail
          go_region
          go_wp2_with fail
          go_roundw
          case rel => exact ⟨k + 1, o2, m2, c2, by omega, by go_num, by rw [HSU.out], rfl, by have := HMC.out; omega, by rw [HSU.out]; exact HTN.out, HBS.out.drew, HRS.out, by rw [HSU.out]; exact HPS.out⟩
          case measure => simp [intOf]; omega
        · rw [Bool.true_and, show decide (0 < 0) = false from rfl, Bool.false_or] at HSU
          cases hkz : (kd == 0)
          · rw [hkz] at HSU
            go_upto_region 9 with fail
            go_region
            go_wp2_with fail
            go_roundw
            case rel => exact ⟨k + 1, o2, m2, c2, by omega, by go_num, by rw [HSU.out], rfl, by have := HMC.out; omega, by rw [HSU.out]; exact HTN.out, HBS.out.drew, HRS.out, by rw [HSU.out]; exact HPS.out⟩
            case measure => simp [intOf]; omega
          · rw [hkz] at HSU
            go_upto_region 9 with fail
            go_region
            go_wp2_with fail
            go_roundw
            case rel => exact ⟨k + 1, o2, m2, c2, by omega, by go_num, by rw [HSU.out], rfl, by have := HMC.out; omega, by rw [HSU.out]; exact HTN.out, HBS.out.drew, HRS.out, by rw [HSU.out]; exact HPS.out⟩
            case measure => simp [intOf]; omega
      · obtain ⟨m3, rfl⟩ : ∃ m3, m2 = m3 + 1 := ⟨m2 - 1, by omega⟩
        have HTN : Hid (Toks w w.heap.size (some ⟨b, if c2 = 1 then o2 else o2 + 3, none⟩) m3 (L.drop 1)) := HT.out.dropc1 HMC.out
        have hli : (1 : Int) ≤ (m3 : Int) + 1 := by omega
        have hcE := cutA c2 b o2
        clear hl2 hle1
        cases bv
        · rw [Bool.false_and] at HSU
          go_upto_region 9 with fail
          go_region
          go_wp2_with fail
          go_roundw
          case rel => exact ⟨k + 1, if c2 = 1 then o2 else o2 + 3, m3, c2 - 1, by omega, by go_num, by rw [HSU.out], rfl, by have := HMC.out; omega, by rw [HSU.out]; exact HTN.out, HBS.out.drew, HRS.out, by rw [HSU.out]; exact HPS.out⟩
          case measure => simp [intOf]; omega
        · rw [Bool.true_and, show decide (0 < 1) = true from rfl, Bool.true_or] at HSU
          go_upto_region 9 with fail
          go_region
          go_wp2_with fail
          go_roundw
          case rel => exact ⟨k + 1, if c2 = 1 then o2 else o2 + 3, m3, c2 - 1, by omega, by go_num, by rw [HSU.out], rfl, by have := HMC.out; omega, by rw [HSU.out]; exact HTN.out, HBS.out.drew, HRS.out, by rw [HSU.out]; exact HPS.out⟩
          case measure => simp [intOf]; omega
      · obtain ⟨m3, rfl⟩ : ∃ m3, m2 = m3 + 2 := ⟨m2 - 2, by omega⟩
        have HTN : Hid (Toks w w.heap.size (some ⟨b, if c2 = 2 then o2 else o2 + 6, none⟩) m3 (L.drop 2)) := HT.out.dropc2 HMC.out
        have hli : (2 : Int) ≤ (m3 : Int) + 2 := by omega
        have hcE := cutA2 c2 b o2
        clear hl2 hle1
        cases bv
        · rw [Bool.false_and] at HSU
          go_upto_region 9 with fail
          go_region
          go_wp2_with fail
          go_roundw
          case rel => exact ⟨k + 1, if c2 = 2 then o2 else o2 + 6, m3, c2 - 2, by omega, by go_num, by rw [HSU.out], rfl, by have := HMC.out; omega, by rw [HSU.out]; exact HTN.out, HBS.out.drew, HRS.out, by rw [HSU.out]; exact HPS.out⟩
          case measure => simp [intOf]; omega
        · rw [Bool.true_and, show decide (0 < 2) = true from rfl, Bool.true_or] at HSU
          go_upto_region 9 with fail
          go_region
          go_wp2_with fail
          go_roundw
          case rel => exact ⟨k + 1, if c2 = 2 then o2 else o2 + 6, m3, c2 - 2, by omega, by go_num, by rw [HSU.out], rfl, by have := HMC.out; omega, by rw [HSU.out]; exact HTN.out, HBS.out.drew, HRS.out, by rw [HSU.out]; exact HPS.out⟩
          case measure => simp [intOf]; omega
    · obtain rfl : k = 4 := by omega
      have hpl := rdS_len [k0, k1, k2, k3] b0 r 4
      obtain ⟨⟨ps, bv, L⟩, hS⟩ : ∃ q, rdS [k0, k1, k2, k3] b0 r 4 = q := ⟨_, rfl⟩
      rw [hS] at hpl HBE HT HP ⊢
      dsimp only at hpl HBE HT HP ⊢
      obtain ⟨p0, p1, p2, p3, rfl⟩ : ∃ p0 p1 p2 p3, ps = [p0, p1, p2, p3] := by
        match ps, hpl with
        | [p0, p1, p2, p3], _ => exact ⟨p0, p1, p2, p3, rfl⟩
      have hp := HP.out
      replace hp : wr.heap[w.heap.size + 1 + 1]? = some (.cells #[.int .i64 p0, .int .i64 p1, .int .i64 p2, .int .i64 p3] 81 (0, 0)) := hp
      obtain ⟨q0, q1, q2, q3, _⟩ := lvCells hp
      obtain ⟨r0, r1, r2, r3, rf0, rf1, rf2, rf3⟩ := lvCells HR.out
      have hd : Below w.heap.size w ((((wr.setCell ⟨w.heap.size + 1, 0, none⟩ (.int .i64 p0)).setCell ⟨w.heap.size + 1, 1, none⟩ (.int .i64 p1)).setCell ⟨w.heap.size + 1, 2, none⟩ (.int .i64 p2)).setCell ⟨w.heap.size + 1, 3, none⟩ (.int .i64 p3)) :=
        (((HB.out.setCell (p := ⟨w.heap.size + 1, 0, none⟩) (by simp) _).setCell (p := ⟨w.heap.size + 1, 1, none⟩) (by simp) _).setCell (p := ⟨w.heap.size + 1, 2, none⟩) (by simp) _).setCell (p := ⟨w.heap.size + 1, 3, none⟩) (by simp) _
      have HD := Lib.hid hd
      obtain ⟨s0, s1, s2, s3, _⟩ := lvCells (four_cells HR.out (.int .i64 p0) (.int .i64 p1) (.int .i64 p2) (.int .i64 p3))
      have HSS := Lib.hid (And.intro s0 (And.intro s1 (And.intro s2 s3)))
      have hLE : ((m2 : Int) == 0) = L.isEmpty := by
        have := HT.out.1
        cases L with
        | nil => simp at this; subst this; rfl
        | cons x R => simp at this; simp; omega
      have HF : Hid ((rdAll ws [k0, k1, k2, k3] t r).1 = [p0, p1, p2, p3] ∧ ((rdAll ws [k0, k1, k2, k3] t r).2.1 && (rdAll ws [k0, k1, k2, k3] t r).2.2.isEmpty) = (bv && L.isEmpty)) := by unfold Hid; rw [HBE.out]; exact ⟨rfl, rfl⟩
      generalize L.isEmpty = be at hLE HF
      clear hpl hS hp hd s0 s1 s2 s3 hlt
      cases bv
      · go_wp2_with fail
        obtain ⟨s0, s1, s2, s3⟩ := HSS.out
        exact bodyPost_ret (v := .tuple #[.agg #[.int .i64 p0, .int .i64 p1, .int .i64 p2, .int .i64 p3], .bool false]) (by simp [results, Tryz.results37, go_sem, s0, s1, s2, s3]) rfl ⟨p0, p1, p2, p3, HF.out.1, by rw [HF.out.2]; rfl, HD.out⟩
      · go_wp2_with fail
        obtain ⟨s0, s1, s2, s3⟩ := HSS.out
        exact bodyPost_ret (v := .tuple #[.agg #[.int .i64 p0, .int .i64 p1, .int .i64 p2, .int .i64 p3], .bool be]) (by simp [results, Tryz.results37, go_sem, s0, s1, s2, s3]) rfl ⟨p0, p1, p2, p3, HF.out.1, by rw [HF.out.2]; rfl, HD.out⟩
end Go.Proofs.YtgkngimeokhhgaaGreatDoor
/- What the program reads of a line is what the document reads of it: plain mathematics. -/
namespace Go.Proofs.YtgkngimeokhhgaaGreatDoor
open Go.RowKit

/-- a kind's letter, as the table's number -/
def cvK (k : UInt8) : Int := if k = 119 then 1 else if k = 114 then 2 else if k = 97 then 3 else 4
theorem rdG_zeros : ∀ (m : Nat) (l : List Tk), rdG (List.replicate m 0) l = (List.replicate m 0, true, l)
  | 0, l => rfl
  | m + 1, l => by
    rw [List.replicate_succ]
    unfold rdG
    rw [rdPart_zero]
    show (0 :: (rdG (List.replicate m 0) l).1, (false || true) && (rdG (List.replicate m 0) l).2.1, (rdG (List.replicate m 0) l).2.2) = _
    rw [rdG_zeros m l]; rfl
theorem cvK_bound {k : UInt8} : cvK k ≠ 0 ∧ cvK k ≠ 6 := by
  unfold cvK
  split
  · decide
  · split
    · decide
    · split <;> decide
theorem rdPart_kind {k : UInt8} {t : Tk} {r : List Tk} : rdPart (cvK k) (t :: r) = rdOne (cvK k) t := rdPart_one cvK_bound.1 (fun q => cvK_bound.2 q.1)
/-- one kind: what the program reads, and what the document does -/
theorem ins_step {k : UInt8} (hk : k = 119 ∨ k = 114 ∨ k = 97 ∨ k = 112) {t : Tk} (h : mayT t) (ks : List UInt8) (r : List Tk) (N : Int) :
    insG (k :: ks) (t :: r) N = if 0 < (rdOne (cvK k) t).2 then (insG ks r N).map (fun p => ((rdOne (cvK k) t).1 :: p.1, p.2)) else none := by
  rcases hk with rfl | rfl | rfl | rfl
  · have e : cvK 119 = 1 := rfl
    rw [e, rdOne_reg h (.inl rfl)]
    show (if (119 : UInt8) = 119 ∨ (119 : UInt8) = 114 then _ else _) = _
    rw [if_pos (.inl rfl)]
    cases hb : (behindF t 114).2 <;> rfl
  · have e : cvK 114 = 2 := rfl
    rw [e, rdOne_reg h (.inr rfl)]
    show (if (114 : UInt8) = 119 ∨ (114 : UInt8) = 114 then _ else _) = _
    rw [if_pos (.inr rfl)]
    cases hb : (behindF t 114).2 <;> rfl
  · have e : cvK 97 = 3 := rfl
    rw [e, rdOne_arr h]
    show (if (97 : UInt8) = 119 ∨ (97 : UInt8) = 114 then _ else if (97 : UInt8) = 97 then _ else _) = _
    rw [if_neg (by decide), if_pos rfl]
    cases hb : (behindF t 97).2 <;> rfl
  · have e : cvK 112 = 4 := rfl
    rw [e, rdOne_num h (.inl rfl)]
    show (if (112 : UInt8) = 119 ∨ (112 : UInt8) = 114 then _ else if (112 : UInt8) = 97 then _ else if (112 : UInt8) = 112 then _ else _) = _
    rw [if_neg (by decide), if_neg (by decide), if_pos rfl]
    by_cases hb : t.k = 2
    · rw [if_pos hb, if_pos hb]; rfl
    · rw [if_neg hb, if_neg hb]; rfl
theorem rdOne_snd (kd : Int) (t : Tk) : (rdOne kd t).2 = 0 ∨ (rdOne kd t).2 = 1 := by have := (rdOne_le kd t).1; omega
theorem rd_ins : ∀ (ks : List UInt8) (m : Nat) (l : List Tk) (N : Int), (∀ k ∈ ks, k = 119 ∨ k = 114 ∨ k = 97 ∨ k = 112) → (∀ t ∈ l, mayT t) →
    (rdG (ks.map cvK ++ List.replicate m 0) l).1.length = ks.length + m ∧
    insG ks l N = if ((rdG (ks.map cvK ++ List.replicate m 0) l).2.1 && (rdG (ks.map cvK ++ List.replicate m 0) l).2.2.isEmpty) = true then some ((rdG (ks.map cvK ++ List.replicate m 0) l).1.take ks.length, N) else none
  | [], m, l, N, _, _ => by
    rw [List.map_nil, List.nil_append, rdG_zeros]
    refine ⟨by simp, ?_⟩
    cases l with
    | nil => rfl
    | cons t r => rfl
  | k :: ks, m, [], N, hk, hm => by
    have ih := rd_ins ks m [] N (fun q hq => hk q (by simp [hq])) hm
    have e0 : rdPart (cvK k) [] = (0, 0) := rfl
    rw [List.map_cons, List.cons_append]
    unfold rdG
    rw [e0]
    refine ⟨by simp only [List.length_cons, List.drop_nil]; rw [ih.1]; omega, ?_⟩
    have hz : (cvK k == 0) = false := by simpa using (cvK_bound (k := k)).1
    rw [hz]
    rfl
  | k :: ks, m, t :: r, N, hk, hm => by
    have ih := rd_ins ks m r N (fun q hq => hk q (by simp [hq])) (fun q hq => hm q (by simp [hq]))
    have hz : (cvK k == 0) = false := by simpa using (cvK_bound (k := k)).1
    rw [List.map_cons, List.cons_append]
    unfold rdG
    rw [rdPart_kind, ins_step (hk k (by simp)) (hm t (by simp)) ks r N, hz]
    rcases rdOne_snd (cvK k) t with h0 | h1
    · have ih0 := rd_ins ks m (t :: r) N (fun q hq => hk q (by simp [hq])) hm
      rw [h0]
      refine ⟨by simp only [List.length_cons, List.drop_zero]; rw [ih0.1]; omega, rfl⟩
    · rw [h1]
      refine ⟨by simp only [List.length_cons, List.drop_one, List.tail_cons]; rw [ih.1]; omega, ?_⟩
      rw [if_pos (by omega), ih.2]
      show _ = if ((true && (rdG (ks.map cvK ++ List.replicate m 0) r).2.1) && (rdG (ks.map cvK ++ List.replicate m 0) r).2.2.isEmpty) = true then _ else _
      rw [Bool.true_and]
      split <;> rfl
  termination_by ks _ l => ks.length + l.length
theorem minus_iff {t : Tk} (h : mayT t) : eqTk t minusTk = true ↔ t.k = 3 ∧ bl t.s = [45] := by
  rw [eqTk_iff]
  constructor
  · rintro rfl; exact ⟨rfl, rfl⟩
  · rintro ⟨h1, h2⟩; exact may_sign_of h h1 h2
theorem rd_num (l : List Tk) (hm : ∀ t ∈ l, mayT t) (N : Int) : insG [110] l N = if (decide (0 < (rdPart 6 l).2) && (l.drop (rdPart 6 l).2).isEmpty) = true then some ([0], (rdPart 6 l).1) else none := by
  cases l with
  | nil => rfl
  | cons t r =>
    have ht := hm t (by simp)
    unfold insG
    rw [if_neg (by decide), if_neg (by decide), if_neg (by decide)]
    by_cases he : eqTk t minusTk = true
    · obtain ⟨k3, b45⟩ := (minus_iff ht).1 he
      rw [rdPart_sign he]
      by_cases hl : r.length = 1
      · obtain ⟨z, rfl⟩ := List.length_eq_one_iff.1 hl
        have hz := hm z (by simp)
        rw [if_pos ⟨k3, b45, hl⟩, rdPart_one (kd := 5) (by decide) (fun q => absurd q.1 (by decide)), rdOne_num hz (.inr (.inl rfl))]
        show (if z.k = 2 ∧ z.n ≠ 0 then _ else _) = _
        by_cases hk : z.k = 2
        · have hb := (may_num_of hz hk).2.1
          rw [if_pos hk]
          by_cases hn : z.n = 0
          · rw [if_neg (by rintro ⟨_, q⟩; exact q hn), if_neg (show ¬ (0 : Int) < z.n by omega)]; rfl
          · rw [if_pos ⟨hk, hn⟩, if_pos (show (0 : Int) < z.n by omega)]; rfl
        · rw [if_neg (by rintro ⟨q, _⟩; exact hk q), if_neg hk]; rfl
      · rw [if_neg (by rintro ⟨_, _, q⟩; exact hl q), if_neg (by omega)]
        by_cases hp : 0 < (rdPart 5 r).1
        · rw [if_pos hp]
          have hne : (r.drop (rdPart 5 r).2).isEmpty = false := by
            cases r with
            | nil => simp [rdPart] at hp
            | cons z r =>
              rw [rdPart_one (kd := 5) (by decide) (fun q => absurd q.1 (by decide))]
              have := (rdOne_le 5 z).1
              rw [List.isEmpty_eq_false_iff]
              intro h
              have h4 := congrArg List.length h
              rw [List.length_drop] at h4
              simp only [List.length_cons, List.length_nil] at h4 hl
              omega
          show none = if (decide (0 < (rdPart 5 r).2 + 1) && (r.drop (rdPart 5 r).2).isEmpty) = true then _ else none
          rw [hne, Bool.and_false]; rfl
        · rw [if_neg hp]; rfl
    · have hmk : ¬ (t.k = 3 ∧ bl t.s = [45] ∧ r.length = 1) := by
        rintro ⟨q1, q2, _⟩
        exact he ((minus_iff ht).2 ⟨q1, q2⟩)
      rw [if_neg hmk, rdPart_one (by decide) (fun q => he q.2), rdOne_num ht (.inr (.inr rfl))]
      by_cases hk : t.k = 2
      · rw [if_pos hk, if_pos hk]
        cases r with
        | nil => rfl
        | cons z r => rfl
      · rw [if_neg hk, if_neg hk]; rfl
theorem kN_kJ {op : Int} (h0 : 0 ≤ op) (h1 : op ≤ 12) (h : op ≠ 1) : kN op = (kJ op).map cvK ++ List.replicate (4 - (kJ op).length) 0 ∧ ∀ k ∈ kJ op, k = 119 ∨ k = 114 ∨ k = 97 ∨ k = 112 := by
  rcases op_cases h0 h1 with rfl | rfl | rfl | rfl | rfl | rfl | rfl | rfl | rfl | rfl | rfl | rfl | rfl
  case inr.inl => exact absurd rfl h
  all_goals exact ⟨by decide, by decide⟩
theorem getD_take {l : List Int} {i n : Nat} (h : ∀ j, n ≤ j → l.getD j 0 = 0) : (l.take n).getD i 0 = l.getD i 0 := by
  rw [List.getD_eq_getElem?_getD, List.getElem?_take]
  by_cases hi : i < n
  · rw [if_pos hi, List.getD_eq_getElem?_getD]
  · rw [if_neg hi, h i (by omega)]; rfl
theorem rdG_tail : ∀ (ks : List UInt8) (m : Nat) (l : List Tk), (rdG (ks.map cvK ++ List.replicate m 0) l).1.drop ks.length = List.replicate m 0
  | [], m, l => by rw [List.map_nil, List.nil_append, rdG_zeros]; rfl
  | k :: ks, m, l => by
    rw [List.map_cons, List.cons_append]
    unfold rdG
    exact rdG_tail ks m _
/-- the program's line is the document's -/
theorem insF_rd {t : Tk} {r : List Tk} {op a b c d : Int} (hm : ∀ q ∈ t :: r, mayT q) (ho : opW (bl t.s) = op) (h0 : 0 ≤ op) (hR : (rdAll (strJ (wJ op)) (kN op) t r).1 = [a, b, c, d]) :
    insF (t :: r) = if ((rdAll (strJ (wJ op)) (kN op) t r).2.1 && (rdAll (strJ (wJ op)) (kN op) t r).2.2.isEmpty) = true then some ⟨op, a, b, c, d⟩ else none := by
  have ht := hm t (by simp)
  have hmr : ∀ q ∈ r, mayT q := fun q hq => hm q (by simp [hq])
  obtain ⟨hw, h12⟩ := opW_inv (l := bl t.s) (by omega)
  rw [ho] at hw h12
  have hk1 : t.k = 1 := by
    have hc : ∃ c, (bl t.s)[0]? = some c ∧ kb c = 4 := by
      rw [hw]
      rcases op_cases h0 h12 with rfl | rfl | rfl | rfl | rfl | rfl | rfl | rfl | rfl | rfl | rfl | rfl | rfl
      all_goals exact ⟨_, rfl, by decide⟩
    obtain ⟨c, hc1, hc2⟩ := hc
    exact may_letter ht hc1 hc2
  have hb0 : (t.s.toList == (strJ (wJ op)).toList) = true := by
    rw [Lib.toList_data, Lib.toList_data, beq_iff_eq]
    show bl t.s = bl (strJ (wJ op))
    rw [bl_strJ, hw]
  have h4 : ∃ k0 k1 k2 k3, kN op = [k0, k1, k2, k3] := by
    have := kN_len op
    match kN op, this with
    | [k0, k1, k2, k3], _ => exact ⟨k0, k1, k2, k3, rfl⟩
  have hall : rdAll (strJ (wJ op)) (kN op) t r = rdG (kN op) r := by
    obtain ⟨k0, k1, k2, k3, hk⟩ := h4
    unfold rdAll
    rw [hb0, hk, rdS_four, Bool.true_and]
  rw [hall] at hR ⊢
  show (if t.k = 1 ∧ 0 ≤ opW (bl t.s) then (insG (kJ (opW (bl t.s))) r 0).map (fun p => (⟨opW (bl t.s), p.1.getD 0 0, p.1.getD 1 0, p.1.getD 2 0, p.2⟩ : Ji)) else none) = _
  rw [ho, if_pos ⟨hk1, h0⟩]
  by_cases h1 : op = 1
  · subst h1
    have ek : kN 1 = [1, 0, 0, 6] := rfl
    have ej : kJ 1 = [119, 110] := rfl
    rw [ek] at hR ⊢
    rw [ej]
    cases r with
    | nil => rfl
    | cons u r2 =>
      have e1 : rdPart 1 (u :: r2) = rdOne 1 u := rdPart_one (by decide) (fun q => absurd q.1 (by decide))
      rw [ins_step (.inl rfl) (hmr u (by simp))]
      have ec : cvK 119 = 1 := rfl
      rw [ec, rd_num r2 (fun q hq => hmr q (by simp [hq]))]
      unfold rdG at hR ⊢
      rw [e1] at hR ⊢
      rcases rdOne_snd 1 u with hs | hs
      · rw [hs]; rfl
      · rw [hs] at hR ⊢
        simp only [List.drop_one, List.tail_cons, rdG, rdPart_zero, List.drop_zero] at hR ⊢
        simp only [List.cons.injEq, and_true] at hR
        obtain ⟨rfl, rfl, rfl, rfl⟩ := hR
        simp
  · obtain ⟨hkn, hkk⟩ := kN_kJ h0 h12 h1
    have hl := kJ_len op
    obtain ⟨g1, g2⟩ := rd_ins (kJ op) (4 - (kJ op).length) r 0 hkk hmr
    have g3 := rdG_tail (kJ op) (4 - (kJ op).length) r
    rw [← hkn] at g1 g2 g3
    rw [g2]
    have hz : ∀ j, (kJ op).length ≤ j → [a, b, c, d].getD j 0 = 0 := fun j hj => by
      rw [hR] at g3
      have := congrArg (fun l => l.getD (j - (kJ op).length) 0) g3
      simp only [List.getD_eq_getElem?_getD, List.getElem?_drop] at this
      rw [show (kJ op).length + (j - (kJ op).length) = j by omega] at this
      rw [List.getD_eq_getElem?_getD, this, List.getElem?_replicate]
      split <;> rfl
    rw [hR]
    split
    · simp only [Option.map_some, getD_take hz]
      have hd : d = 0 := hz 3 (by omega)
      subst hd
      rfl
    · rfl
theorem insF_no {t : Tk} {r : List Tk} (h : opW (bl t.s) < 0) : insF (t :: r) = none := by
  show (if t.k = 1 ∧ 0 ≤ opW (bl t.s) then _ else _) = _
  rw [if_neg (by omega)]
end Go.Proofs.YtgkngimeokhhgaaGreatDoor
