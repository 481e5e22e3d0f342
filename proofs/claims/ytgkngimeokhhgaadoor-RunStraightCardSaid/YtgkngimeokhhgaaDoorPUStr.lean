/- purflelaw16.RunStraight returns true. -/
import Derived.Test.YtgkngimeokhhgaaDoorG25
import Derived.Test.YtgkngimeokhhgaaDoorG26
namespace Go.Proofs.YtgkngimeokhhgaaDoor
open Go.RowKit Go.Sort

theorem OwnJ.lit {w : World} {base g : Nat} {l : List Ji} (hg : w.heap[g]? = some (.cells (cellsJ l).toArray 35 (0, 0))) (hb : base ≤ g) (hn : l.length ≤ 100000) : OwnJ w base (some ⟨g, 0, none⟩) l.length l :=
  ⟨by rw [cellsJ_length]; omega, .inr ⟨g, l.length, (cellsJ l).toArray, rfl, hb, hg, Nat.le_refl _, by unfold maxLen; omega, by simp [cellsJ_length]; omega, by first | (simp; done) | (simp; rw [cellsJ_length]; omega) | (simp; exact (List.take_of_length_le (by rw [cellsJ_length]; omega)).symm) | (simp; exact List.take_of_length_le (by rw [cellsJ_length]; omega)) | (simp; rw [cellsJ_length, Nat.mul_comm]; simp) | (show AAA = _; rfl)⟩⟩
theorem OwnJ.boxes {w w' : World} {base c b n : Nat} {A : Option Addr} {l : List Ji} {cs : Array Value} {t : TypeId} (hO : OwnJ w base A c l) (_hn : l.length = n) (hG : w.grownBy w' (Value.slice A n c).ownBlock) (hb : w.heap[b]? = some (.cells cs t (0, 0))) (ht : t ≠ 35) : w'.heap[b]? = some (.cells cs t (0, 0)) := by
  refine (hG.block b (lt_of_heap hb) fun e => ?_).trans hb
  rcases hO.heap with h1 | ⟨g, cur, h1, _, h3⟩
  · rw [h1] at e; cases e
  · rw [h1] at e
    simp only [Value.ownBlock, Option.some.injEq] at e
    subst e
    rw [hb] at h3
    injection h3 with h3; injection h3 with _ h3
    exact ht h3
theorem OwnJ.bel {w w0 w' : World} {B base c n : Nat} {A : Option Addr} {l : List Ji} (hO : OwnJ w base A c l) (hb : Below B w0 w) (hG : w.grownBy w' (Value.slice A n c).ownBlock) (hB : B ≤ base) (hs : B ≤ w.heap.size) : Below B w0 w' :=
  hb.grown hG hs fun k hk => by
    rcases hO.heap with h1 | ⟨g, cur, h1, h2, _⟩
    · rw [h1] at hk; cases hk
    · rw [h1] at hk
      simp only [Value.ownBlock, Option.some.injEq] at hk
      omega
theorem cell_set3 {w : World} {g : Nat} {a b c d : Value} {t : TypeId} (h : w.heap[g]? = some (.cells #[a, b, c, d] t (0, 0))) (v : Value) : (w.setCell ⟨g, 3, none⟩ v).heap[g]? = some (.cells #[a, b, c, v] t (0, 0)) := set_j (i := 3) (cs := [a, b, c, d]) h v
theorem strP_ok : ∀ l : List Int, (∀ v ∈ l, I64 v) → ∀ x ∈ strP l, x.ok
  | [], _, x, hx => by cases hx
  | n :: l, h, x, hx => by
    have h0 := h n (List.mem_cons_self ..)
    rcases List.mem_cons.1 hx with rfl | hx
    · exact ⟨by show (-9223372036854775808 : Int) ≤ 1 ∧ (1 : Int) ≤ 9223372036854775807; omega, by show (-9223372036854775808 : Int) ≤ 0 ∧ (0 : Int) ≤ 9223372036854775807; omega, by show (-9223372036854775808 : Int) ≤ 0 ∧ (0 : Int) ≤ 9223372036854775807; omega, by show (-9223372036854775808 : Int) ≤ 0 ∧ (0 : Int) ≤ 9223372036854775807; omega, h0⟩
    · rcases List.mem_cons.1 hx with rfl | hx
      · exact ⟨by show (-9223372036854775808 : Int) ≤ 9 ∧ (9 : Int) ≤ 9223372036854775807; omega, by show (-9223372036854775808 : Int) ≤ 0 ∧ (0 : Int) ≤ 9223372036854775807; omega, by show (-9223372036854775808 : Int) ≤ 0 ∧ (0 : Int) ≤ 9223372036854775807; omega, by show (-9223372036854775808 : Int) ≤ 0 ∧ (0 : Int) ≤ 9223372036854775807; omega, by show (-9223372036854775808 : Int) ≤ 0 ∧ (0 : Int) ≤ 9223372036854775807; omega⟩
      · exact strP_ok l (fun v hv => h v (List.mem_cons_of_mem _ hv)) x hx
set_option maxRecDepth 100000 in
set_option maxHeartbeats 8000000 in
theorem runStraight_any (w : World) (A : Option Addr) (n c : Nat) (xs : List Int) (h : Ints w w.heap.size A n xs) (hn : n ≤ 9223372036854775807) (hc : n ≤ c) (hS : ShT w) :
    Calls Tryd.prog 8 #[.slice A n c] w fun r w' => r = .returned (.bool true) ∧ Below w.heap.size w w' := by
  have HI := Lib.hid h
  have HXL : Hid (xs.length = n) := h.1
  have HXV : Hid (∀ v ∈ xs, I64 v) := h.2.1
  have hC := live16_any w hS
  have HSH := Lib.hid hS
  clear h hS
  go_enter Tryd.func8, Tryd.ntmps8
  go_wp2_with fail
  (with_reducible refine hC.mono ?_)
  rintro e w1 ⟨rfl, hb1⟩
  have HB1 := Lib.hid hb1
  clear hb1 hC
  by_cases h2 : 200 < n
  · have h3 : (200 : Int) < (n : Int) := by omega
    go_wp2_with fail
    go_ret
    exact ⟨rfl, HB1.out⟩
  have h3 : ¬ (200 : Int) < (n : Int) := by omega
  obtain ⟨W2, hW2⟩ : ∃ W, w1.alloc (.cells #[.int .i64 1, .int .i64 1, .int .i64 0, .slice none 0 0] 24) = W := ⟨_, rfl⟩
  obtain ⟨gb, hgb⟩ : ∃ z, w1.heap.size = z := ⟨_, rfl⟩
  have hb2 : Below w1.heap.size w1 W2 := by rw [← hW2]; exact lvBelow w1 _
  have HX2 : Hid (W2.heap[gb]? = some (.cells #[.int .i64 1, .int .i64 1, .int .i64 0, .slice none 0 0] 24 (0, 0))) := by rw [← hW2, ← hgb]; exact heap_alloc_new w1 _
  have HB2 := Lib.hid (HB1.out.trans (hb2.mono HB1.out.size))
  have HGB : Hid (w.heap.size ≤ gb) := by rw [← hgb]; exact HB1.out.size
  have HWQ := Lib.hid hW2
  clear hW2 hb2 h2
  go_upto_region 5 with fail
  try rw [HWQ.out]
  try rw [hgb]
  clear HWQ hgb h3
  go_wp2_with fail
  go_loopw [17] (fun x wr => ∃ (k m : Nat) (A' : Option Addr) (c' : Nat), k ≤ n ∧ x = .int .i64 k ∧ m = 2 * k ∧ Hid (OwnJ wr w.heap.size A' c' (strP (xs.take k))) ∧ Hid (∀ v ∈ xs.take k, -1000000000000000000 < v ∧ v < 1000000000000000000) ∧ Hid (Below w.heap.size w wr) ∧ Hid (wr.heap[gb]? = some (.cells #[.int .i64 1, .int .i64 1, .int .i64 0, .slice A' m c'] 24 (0, 0)))) (fun x _ => n - (intOf x).toNat)
  case atStart => exact ⟨0, 0, none, 0, Nat.zero_le _, rfl, rfl, OwnJ.nil_ _ _, (fun v hv => by rw [List.take_zero] at hv; cases hv), HB2, HX2⟩
  case round =>
    obtain ⟨k, m, A', c', hk, rfl, hm, HO, HV, HB, HX⟩ := hrel
    have HML : Hid ((strP (xs.take k)).length = m) := by unfold Hid; rw [strP_len, List.length_take, HXL.out]; omega
    have HM := Lib.hid hm
    have hm2 : m ≤ 400 := by omega
    clear hm
    by_cases hkn : k < n
    · have hk0 : (0 : Int) ≤ (k : Int) := by omega
      have hk1 : (k : Int) < (n : Int) := by omega
      obtain ⟨b3, off3, x, rfl, _, HXK, hc3, hx1, hx2⟩ := (HI.out.keep fun p hp => HB.out.cell hp).at_ hkn
      obtain ⟨y0, y1, y2, y3, f0, f1, f2, f3⟩ := lvCells HX.out
      by_cases hlo : x ≤ -1000000000000000000
      · have d0 : decide (x ≤ -1000000000000000000) = true := decide_eq_true hlo
        go_wp2_with fail
        go_ret
        exact ⟨rfl, HB.out⟩
      have d0 : decide (x ≤ -1000000000000000000) = false := decide_eq_false hlo
      by_cases hhi : 1000000000000000000 ≤ x
      · have d1 : decide (1000000000000000000 ≤ x) = true := decide_eq_true hhi
        go_wp2_with fail
        go_ret
        exact ⟨rfl, HB.out⟩
      have d1 : decide (1000000000000000000 ≤ x) = false := decide_eq_false hhi
      have HTK : Hid (xs.take (k + 1) = xs.take k ++ [x]) := by unfold Hid; rw [List.take_add_one, HXK.out]; rfl
      have HV2 : Hid (∀ v ∈ xs.take (k + 1), -1000000000000000000 < v ∧ v < 1000000000000000000) := fun v hv => by
        rw [HTK.out] at hv
        rcases List.mem_append.1 hv with h1 | h1
        · exact HV.out v h1
        · rw [List.mem_singleton.1 h1]; omega
      have hbl : Below wr.heap.size wr (wr.alloc (.cells (cellsJ [setI x, pushI]).toArray 35)) := lvBelow _ _
      have hoL : OwnJ (wr.alloc (.cells (cellsJ [setI x, pushI]).toArray 35)) w.heap.size (some ⟨wr.heap.size, 0, none⟩) 2 [setI x, pushI] := OwnJ.lit (heap_alloc_new wr _) HB.out.size (by simp)
      have HSR := Lib.hid (hoL.jis (strP_ok [x] (fun v hv => by rw [List.mem_singleton.1 hv]; exact ⟨by omega, by omega⟩)))
      have HOL := Lib.hid (HO.out.alloc (.cells (cellsJ [setI x, pushI]).toArray 35))
      have HXA := Lib.hid (keep_b hbl HX.out)
      have HBA := Lib.hid (HB.out.trans (hbl.mono HB.out.size))
      clear hbl hoL hlo hhi
      go_upto_region 11 with (at_builtin; refine wpList_appendJs rfl (.tmp 29) (.tmp 33) rfl w.heap.size A' (some ⟨wr.heap.size, 0, none⟩) c' 2 2 _ m (m + 2) (strP (xs.take k)) [setI x, pushI] rfl rfl HOL.out HML.out rfl HSR.out (by omega) HBA.out.size ?_; intro A4 c4 w4 hO4 hG4; have HO4 : Hid (OwnJ w4 w.heap.size A4 c4 (strP (xs.take (k + 1)))) := (by rw [HTK.out, strP_append]; exact hO4); have HX4 := Lib.hid (HOL.out.boxes HML.out hG4 HXA.out (by decide)); have HB4 := Lib.hid (HOL.out.bel HBA.out hG4 (Nat.le_refl _) HBA.out.size); obtain ⟨u0, u1, u2, u3, v0, v1, v2, v3⟩ := lvCells HX4.out; clear hO4 hG4)
      have HX5 := Lib.hid (cell_set3 HX4.out (.slice A4 (m + 2) c4))
      have HO5 := Lib.hid (HO4.out.set_other HX4.out (by decide) 3 (.slice A4 (m + 2) c4))
      have HB5 := Lib.hid (HB4.out.setCell (p := ⟨gb, 3, none⟩) HGB.out (.slice A4 (m + 2) c4))
      clear u0 u1 u2 u3 v0 v1 v2 v3 y0 y1 y2 y3 f0 f1 f2 f3
      go_wp2_with fail
      go_roundw
      case rel => exact ⟨k + 1, m + 2, A4, c4, by omega, by go_num, by have := HM.out; omega, HO5, HV2, HB5, HX5⟩
      case measure => simp [intOf]; omega
    · obtain rfl : n = k := by omega
      have hall : xs.take n = xs := List.take_of_length_le (by have := HXL.out; omega)
      rw [hall] at HO HV HML
      obtain ⟨y0, y1, y2, y3, f0, f1, f2, f3⟩ := lvCells HX.out
      have hbl : Below wr.heap.size wr (wr.alloc (.cells (cellsJ [haltI]).toArray 35)) := lvBelow _ _
      have hoL : OwnJ (wr.alloc (.cells (cellsJ [haltI]).toArray 35)) w.heap.size (some ⟨wr.heap.size, 0, none⟩) 1 [haltI] := OwnJ.lit (heap_alloc_new wr _) HB.out.size (by simp)
      have HSR := Lib.hid (hoL.jis (fun x hx => by rw [List.mem_singleton.1 hx]; exact ⟨by decide, by decide, by decide, by decide, by decide⟩))
      have HOL := Lib.hid (HO.out.alloc (.cells (cellsJ [haltI]).toArray 35))
      have HXA := Lib.hid (keep_b hbl HX.out)
      have HBA := Lib.hid (HB.out.trans (hbl.mono HB.out.size))
      clear hbl hoL hall hkn
      go_upto_region 13 with (at_builtin; refine wpList_appendJs rfl (.tmp 38) (.tmp 40) rfl w.heap.size A' (some ⟨wr.heap.size, 0, none⟩) c' 1 1 _ m (m + 1) (strP xs) [haltI] rfl rfl HOL.out HML.out rfl HSR.out (by omega) HBA.out.size ?_; intro A4 c4 w4 hO4 hG4; have HO4 := Lib.hid hO4; have HX4 := Lib.hid (HOL.out.boxes HML.out hG4 HXA.out (by decide)); have HB4 := Lib.hid (HOL.out.bel HBA.out hG4 (Nat.le_refl _) HBA.out.size); obtain ⟨u0, u1, u2, u3, v0, v1, v2, v3⟩ := lvCells HX4.out; clear hO4 hG4)
      have HX5 := Lib.hid (cell_set3 HX4.out (.slice A4 (m + 1) c4))
      have HO5 := Lib.hid (HO4.out.set_other HX4.out (by decide) 3 (.slice A4 (m + 1) c4))
      have HB5 := Lib.hid (HB4.out.setCell (p := ⟨gb, 3, none⟩) HGB.out (.slice A4 (m + 1) c4))
      clear u0 u1 u2 u3 v0 v1 v2 v3 y0 y1 y2 y3 f0 f1 f2 f3
      obtain ⟨W5, hW5⟩ : ∃ W, w4.setCell ⟨gb, 3, none⟩ (.slice A4 (m + 1) c4) = W := ⟨_, rfl⟩
      rw [hW5] at HX5 HO5 HB5 ⊢
      clear hW5
      have hn2 : n ≤ 200 := by have := HM.out; omega
      have hml : (strC xs).l.length = m + 1 := by show (strP xs ++ [haltI]).length = m + 1; rw [List.length_append, HML.out]; rfl
      have hq : Cq.In ⟨1, 1, 0, A4, m + 1, c4, strP xs ++ [haltI]⟩ W5 := by
        have := OwnJ.cq (c := strC xs) HO5.out (may_of_validE (strC_valid (by rw [HXL.out]; omega) HV.out))
        rw [hml] at this
        exact this
      obtain ⟨z, p, hr, hz1, hz2, hz3⟩ := runM_straight HXL.out hn2 HV.out
      have hC := run16_any ⟨1, 1, 0, A4, m + 1, c4, strP xs ++ [haltI]⟩ (2 * (n : Int) + 1) (n : Int) none 0 0 [] 0 W5 ⟨hq, ⟨rfl, fun h0 => absurd h0 (by decide)⟩, (fun L hL => by cases hL), (fun L hL => by cases hL), by omega⟩ (HSH.out.on HB5.out)
      unfold RunO at hC
      rw [show runM (Cq.cd ⟨1, 1, 0, A4, m + 1, c4, strP xs ++ [haltI]⟩) (2 * (n : Int) + 1) (n : Int) [] = .ok (z, p) from hr] at hC
      obtain ⟨y0, y1, y2, y3, f0, f1, f2, f3⟩ := lvCells HX5.out
      have HZ := Lib.hid (And.intro hz1 (And.intro hz2 hz3))
      clear hq hr hz1 hz2 hz3 hml
      go_wp2_with fail
      (with_reducible refine hC.mono ?_)
      rintro e w6 (⟨v, hr, _⟩ | ⟨z', p', i, a, gO, rs', hr, hi, ha, hia, rfl, hM6, hL6, hb6⟩)
      · cases hr
      injection hr with hr; injection hr with e1 e2
      subst e1; subst e2
      have hi : (0 : Int) = (i : Int) := hi
      have HIA : Hid (i = 0 ∧ a = 1) := ⟨by omega, by rw [← ha, HZ.out.1]; rfl⟩
      have HR6 := Lib.hid (rowsU_rq hM6 hL6 ha (by have := HIA.out.2; omega) (fun l hl => (by rw [HZ.out.1, List.mem_singleton] at hl; rw [hl, HXL.out]; omega)))
      obtain ⟨W7, hW7⟩ : ∃ W, w6.alloc (.cells #[.slice (some ⟨gO, 0, none⟩) (a - i) (a - i), .int .i64 (z.st : Int), .int .i64 (z.ce : Int)] 31) = W := ⟨_, rfl⟩
      obtain ⟨g7, hg7⟩ : ∃ z, w6.heap.size = z := ⟨_, rfl⟩
      have hb7 : Below w6.heap.size w6 W7 := by rw [← hW7]; exact lvBelow w6 _
      have HB6 := HB5.out.trans (hb6.mono HB5.out.size)
      have HB7 := Lib.hid (HB6.trans (hb7.mono HB6.size))
      have HY7 : Hid (W7.heap[g7]? = some (.cells #[.slice (some ⟨gO, 0, none⟩) (a - i) (a - i), .int .i64 (z.st : Int), .int .i64 (z.ce : Int)] 31 (0, 0))) := by rw [← hW7, ← hg7]; exact heap_alloc_new w6 _
      have HR7 := Lib.hid (HR6.out.on hb7)
      have HWQ := Lib.hid hW7
      clear hb6 hb7 HB6 hC y0 y1 y2 y3 f0 f1 f2 f3 hW7 hi ha hia hM6 hL6
      go_upto_region 14 with fail
      try rw [HWQ.out]
      try rw [hg7]
      clear HWQ hg7
      obtain ⟨y0, y1, y2⟩ := cells3U HY7.out
      have hb8 := lvBelow W7 (.cells #[.slice A n c] 50)
      have HB8 := Lib.hid (HB7.out.trans (hb8.mono HB7.out.size))
      have HY8 := Lib.hid (keep_b hb8 HY7.out)
      have HL8 := Lib.hid (one_list (heap_alloc_new W7 _) (((HI.out.keep fun p hp => HB8.out.cell hp)).more HB8.out.size) hc)
      have HR8 := Lib.hid (HR7.out.on hb8)
      have HD : Hid (z.A.drop i = [xs]) := by unfold Hid; rw [HIA.out.1, HZ.out.1]; rfl
      have hS := sameListsU_any (some ⟨gO, 0, none⟩) (some ⟨W7.heap.size, 0, none⟩) (a - i) 1 (a - i) 1 (z.A.drop i) [xs] _ _ HR8.out.out HL8.out HR8.out.few (by omega) HR8.out.all (fun L hL => by rw [List.mem_singleton] at hL; rw [hL, HXL.out]; omega)
      rw [HD.out, decide_eq_true rfl] at hS
      have e1 : ((z.st : Int) == 2 * (n : Int) + 1) = true := by have := HZ.out.2.2; simp; omega
      have e2 : ((z.ce : Int) == (n : Int)) = true := by have := HZ.out.2.1; simp; omega
      have HBD := HB8
      clear hb8
      go_wp2_with fail
      (with_reducible refine hS.mono ?_)
      rintro e w9 ⟨rfl, q9, rfl⟩
      have HB9 : Hid (Below w.heap.size w ((W7.alloc (.cells #[.slice A n c] 50)).drewN q9)) := ⟨HBD.out.os, HBD.out.tape, HBD.out.output, HBD.out.size, HBD.out.block⟩
      have HY9 : Hid (((W7.alloc (.cells #[.slice A n c] 50)).drewN q9).heap[g7]? = some (.cells #[.slice (some ⟨gO, 0, none⟩) (a - i) (a - i), .int .i64 (z.st : Int), .int .i64 (z.ce : Int)] 31 (0, 0))) := HY8.out
      clear y0 y1 y2 hS
      obtain ⟨y0, y1, y2⟩ := cells3U HY9.out
      go_wp2_with fail
      go_ret
      exact ⟨rfl, HB9.out⟩
end Go.Proofs.YtgkngimeokhhgaaDoor
