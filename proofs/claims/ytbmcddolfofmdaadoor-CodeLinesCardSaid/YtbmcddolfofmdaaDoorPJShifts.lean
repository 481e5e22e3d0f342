/- purflelaw14.CodeShifts returns true. -/
import Derived.Test.YtbmcddolfofmdaaDoorG16
import Derived.Test.YtbmcddolfofmdaaDoorG1
namespace Go.Proofs.YtbmcddolfofmdaaDoor
open Go.RowKit

/-- code put further on, where there is room -/
theorem codeShift_few (q : Cq) (b : Nat) (w : World) (hq : q.In w) (hm : q.cd.may = true) (hb : q.n + b ≤ 4096) (hS : ShT w) :
    Calls Tryd.prog 16 #[q.val, .int .i64 b] w fun e w' => ∃ A' c', e = .returned (.tuple #[Cq.val ⟨q.R, q.A, q.I, A', b + q.n, c', (q.cd.shift b).l⟩, .int .i64 0]) ∧ OwnJ w' w.heap.size A' c' (q.cd.shift b).l ∧ Below w.heap.size w w' := by
  refine (codeShift_any q b w hq hS).mono ?_
  rintro e w' ⟨A', c', rfl, hO, hB⟩
  have hl : q.cd.l.length = q.n := hq.len
  have hE : q.cd.shiftE b = 0 := by
    unfold Cd.shiftE
    rw [if_neg (by rw [hm]; simp; omega), if_neg (by rw [hl]; omega)]
  have hC : q.cd.shiftC b = q.cd.shift b := by unfold Cd.shiftC; rw [if_pos hE]
  rw [hC] at hO
  refine ⟨A', c', ?_, hO, hB⟩
  rw [hC, hE, shift_length, hl]
  rfl
theorem OwnJ.cqn {w : World} {base c' n : Nat} {A' : Option Addr} {c : Cd} (h : OwnJ w base A' c' c.l) (hm : c.may = true) (hn : c.l.length = n) : Cq.In ⟨c.R, c.A, c.I, A', n, c', c.l⟩ w := by
  subst hn; exact h.cq hm
theorem eqR17 (A A2 : Option Addr) (n n2 c c2 : Nat) (xs ys : List Int) (w : World) (h : Ints w w.heap.size A n xs) (h2 : Ints w w.heap.size A2 n2 ys) (hn : n ≤ 100000) (hn2 : n2 ≤ 9223372036854775807) (he : xs = ys) :
    Calls Tryd.prog 18 #[.slice A n c, .slice A2 n2 c2] w fun e w' => e = .returned (.bool true) ∧ Below w.heap.size w w' :=
  (refEqual_any A A2 n n2 c c2 xs ys w w.heap.size h h2 hn hn2).mono fun e w' ⟨he', m, hm⟩ => ⟨by rw [he', decide_eq_true he], by subst hm; exact belowD (Below.refl _ _) m⟩
theorem next_small {R A : Int} {n : Nat} {x : Ji} {i : Nat} (hm : mayJ R A n x = true) (hi : i ≤ 8192) (hn : n ≤ 4096) : ∀ k ∈ nextJ x i, 0 ≤ k ∧ k ≤ 10000 := by
  obtain ⟨⟨h0, h1⟩, h2, _⟩ := mayJ_parts hm
  intro k hk
  have i0 := h2 0 (by omega)
  have i2 := h2 2 (by omega)
  have hw : wrap64 ((i : Int) + 1) = (i : Int) + 1 := by unfold wrap64; omega
  unfold nextJ at hk
  rw [hw] at hk
  obtain ⟨op, a, b, c, m⟩ := x
  dsimp only at h0 h1 hk
  unfold InB at i0 i2
  rcases op_cases h0 h1 with rfl | rfl | rfl | rfl | rfl | rfl | rfl | rfl | rfl | rfl | rfl | rfl | rfl
  all_goals simp [kJ, kindsJ, limJ, Ji.f] at i0 i2 hk
  all_goals first
    | (subst hk; omega)
    | (rcases hk with rfl | rfl <;> omega)
theorem next_two (x : Ji) (i : Int) : (nextJ x i).length ≤ 2 := by
  unfold nextJ
  repeat' split
  all_goals simp
/-- the first j numbers with d more -/
def addF (d : Int) (j : Nat) (L : List Int) : List Int := (L.take j).map (· + d) ++ L.drop j
theorem addF_zero (d : Int) (L : List Int) : addF d 0 L = L := by simp [addF]
theorem addF_all (d : Int) (L : List Int) : addF d L.length L = L.map (· + d) := by simp [addF]
theorem addF_at {d : Int} {j : Nat} {L : List Int} {x : Int} (h : L[j]? = some x) : (addF d j L)[j]? = some x := by
  have hj := (List.getElem?_eq_some_iff.1 h).1
  have hlen : ((L.take j).map (· + d)).length = j := by simp; omega
  unfold addF
  rw [List.getElem?_append_right (by omega), hlen, Nat.sub_self, List.getElem?_drop]
  exact h
theorem addF_set {d : Int} {j : Nat} {L : List Int} {x : Int} (h : L[j]? = some x) : (addF d j L).set j (x + d) = addF d (j + 1) L := by
  have hj := (List.getElem?_eq_some_iff.1 h).1
  have hd : L.drop j = x :: L.drop (j + 1) := by
    rw [List.drop_eq_getElem_cons hj]
    have := List.getElem?_eq_getElem hj
    rw [h] at this
    injection this with this
    rw [this]
  have ht : L.take (j + 1) = L.take j ++ [x] := by rw [List.take_add_one, h]; rfl
  have hlen : ((L.take j).map (· + d)).length = j := by simp; omega
  unfold addF
  rw [hd, ht, List.set_append_right _ _ (by omega), hlen, Nat.sub_self, List.map_append]
  simp
theorem own_base_at {w : World} {base c k g : Nat} {xs : List Int} {x : Int} (h : OwnI w base 3 (some ⟨g, 0, none⟩) c xs) (hx : xs[k]? = some x) : base ≤ g := by
  have hk := (List.getElem?_eq_some_iff.1 hx).1
  rcases h.1.2 with ⟨_, h0⟩ | ⟨g', cap, cur, h1, h2, _⟩
  · omega
  · injection h1 with h1
    injection h1 with h1
    injection h1 with h1
    subst h1
    exact h2
theorem mod_fifty (a : Int) : ∃ (t : Int) (k : Nat), a.tmod 50 = t ∧ -49 ≤ t ∧ t ≤ 49 ∧ t % 50 = (k : Int) ∧ k < 50 := by
  have h1 := Int.tmod_lt_of_pos a (show (0 : Int) < 50 by decide)
  have h2 : -50 < a.tmod 50 := by
    rcases Int.le_total 0 a with h | h
    · have := Int.tmod_nonneg 50 h; omega
    · have := Int.tmod_lt_of_pos (-a) (show (0 : Int) < 50 by decide)
      rw [Int.neg_tmod] at this
      omega
  exact ⟨_, (a.tmod 50 % 50).toNat, rfl, by omega, by omega, by omega, by omega⟩
set_option maxRecDepth 100000 in
set_option maxHeartbeats 8000000 in
theorem codeShifts_any (w : World) (q : Cq) (hq : q.In w) (hS : ShT w) (a0 : Int) (_ha0 : -9223372036854775808 ≤ a0) (_ha1 : a0 ≤ 9223372036854775807) (b0 : Int) (_hb0 : -9223372036854775808 ≤ b0) (_hb1 : b0 ≤ 9223372036854775807) : Calls Tryd.prog 5 #[q.val, .int .i64 a0, .int .i64 b0] w fun r w' => r = .returned (.bool true) ∧ Below w.heap.size w w' := by
  obtain ⟨R, A, I, P, n, c, l⟩ := q
  have HQ := Lib.hid hq
  have HSH := Lib.hid hS
  clear hS
  have hn1 : n ≤ 9223372036854775807 := hq.n1
  have HLN : Hid (l.length = n) := hq.len
  obtain ⟨i0, hi0, hz0, hz1, hz2⟩ := info_parts infoInt
  obtain ⟨W0, hW0⟩ : ∃ W, w.alloc (Cq.obj ⟨R, A, I, P, n, c, l⟩) = W := ⟨_, rfl⟩
  have HB0 : Hid (Below w.heap.size w W0) := by rw [← hW0]; exact lvBelow w _
  have HX0 : Hid (W0.heap[w.heap.size]? = some (Cq.obj ⟨R, A, I, P, n, c, l⟩)) := by rw [← hW0]; exact heap_alloc_new w _
  clear hq
  by_cases hf : n ≤ 300
  case neg =>
    have d0 : decide (n ≤ 300) = false := decide_eq_false hf
    go_enter Tryd.func5, Tryd.ntmps5
    go_wp2_with fail
    try rw [hW0]
    refine (live14_any W0 (HSH.out.on HB0.out)).mono ?_
    rintro e w1 ⟨rfl, hb⟩
    have HB1 := Lib.hid (HB0.out.trans (hb.mono HB0.out.size))
    have HX1 := Lib.hid (keep_b hb HX0.out)
    clear hb hW0
    obtain ⟨m0, m1, m2, m3, _⟩ := lvCells HX1.out
    go_wp2_with fail
    refine (refFew14_any ⟨R, A, I, P, n, c, l⟩ w1 (HQ.out.on HB1.out)).mono ?_
    rintro e w2 ⟨rfl, hb⟩
    have HB2 := Lib.hid (HB1.out.trans (hb.mono HB1.out.size))
    have HX2 := Lib.hid (keep_b hb HX1.out)
    clear hb m0 m1 m2 m3
    dsimp only
    rw [d0]
    go_wp2_with fail
    go_ret
    exact ⟨rfl, HB2.out⟩
  have d0 : decide (n ≤ 300) = true := decide_eq_true hf
  obtain ⟨E, hE⟩ : ∃ E, (Cq.cd ⟨R, A, I, P, n, c, l⟩).e = E := ⟨_, rfl⟩
  have HE := Lib.hid hE
  go_enter Tryd.func5, Tryd.ntmps5
  go_wp2_with fail
  try rw [hW0]
  refine (live14_any W0 (HSH.out.on HB0.out)).mono ?_
  rintro e w1 ⟨rfl, hb⟩
  have HB1 := Lib.hid (HB0.out.trans (hb.mono HB0.out.size))
  have HX1 := Lib.hid (keep_b hb HX0.out)
  clear hb hW0
  obtain ⟨m0, m1, m2, m3, _⟩ := lvCells HX1.out
  go_wp2_with fail
  refine (refFew14_any ⟨R, A, I, P, n, c, l⟩ w1 (HQ.out.on HB1.out)).mono ?_
  rintro e w2 ⟨rfl, hb⟩
  have HB2 := Lib.hid (HB1.out.trans (hb.mono HB1.out.size))
  have HX2 := Lib.hid (keep_b hb HX1.out)
  clear hb m0 m1 m2 m3
  dsimp only
  rw [d0]
  have hC := codeCheck_any ⟨R, A, I, P, n, c, l⟩ w2 (HQ.out.on HB2.out) (HSH.out.on HB2.out)
  unfold CkP at hC
  rw [hE] at hC
  clear hE d0
  obtain ⟨m0, m1, m2, m3, _⟩ := lvCells HX2.out
  go_wp2_with fail
  refine hC.mono ?_
  rintro e w3 ⟨rfl, hb⟩
  have HB3 := Lib.hid (HB2.out.trans (hb.mono HB2.out.size))
  have HX3 := Lib.hid (keep_b hb HX2.out)
  clear hb m0 m1 m2 m3 hC
  by_cases hE0 : E = 0
  case neg =>
    have e0 : (E != 0) = true := by simpa using hE0
    clear hE0
    go_wp2_with fail
    go_ret
    exact ⟨rfl, HB3.out⟩
  subst hE0
  have HM := Lib.hid (Cd.e_may HE.out)
  have HMX : Hid (∀ x ∈ l, mayJ R A n x = true) := fun x hx => by
    have := (Cd.may_parts HM.out).2.1 x hx
    rwa [show (Cq.cd ⟨R, A, I, P, n, c, l⟩).l.length = n from HLN.out] at this
  obtain ⟨ta, a, hta, ta0, ta1, hta2, ha50⟩ := mod_fifty a0
  obtain ⟨tb, b, htb, tb0, tb1, htb2, hb50⟩ := mod_fifty b0
  obtain ⟨m0, m1, m2, m3, _⟩ := lvCells HX3.out
  go_upto_region 6 with fail
  have hta3 : (ta + 50) % 50 = (a : Int) := by omega
  have htb3 : (tb + 50) % 50 = (b : Int) := by omega
  rw [hta3, htb3]
  obtain ⟨S1, hS1⟩ : ∃ S, Cd.shift (Cq.cd ⟨R, A, I, P, n, c, l⟩) (a : Int) = S := ⟨_, rfl⟩
  obtain ⟨S3, hS3⟩ : ∃ S, Cd.shift (Cq.cd ⟨R, A, I, P, n, c, l⟩) ((a + b : Nat) : Int) = S := ⟨_, rfl⟩
  have hln : (Cq.cd ⟨R, A, I, P, n, c, l⟩).l.length = n := HLN.out
  have hS2 : S1.shift (b : Int) = S3 := by rw [← hS1, ← hS3]; exact shift_shift HM.out (by rw [hln]; omega)
  have hm1 : S1.may = true := by rw [← hS1]; exact shift_may HM.out (by rw [hln]; omega)
  have hm3 : S3.may = true := by rw [← hS3]; exact shift_may HM.out (by rw [hln]; omega)
  have HL1 : Hid (S1.l.length = a + n) := by unfold Hid; rw [← hS1, shift_length, hln]
  have HL3 : Hid (S3.l.length = a + b + n) := by unfold Hid; rw [← hS3, shift_length, hln]
  have HR1 : Hid (S1.R = R ∧ S1.A = A ∧ S1.I = I) := by unfold Hid; rw [← hS1]; exact ⟨rfl, rfl, rfl⟩
  have HR3 : Hid (S3.R = R ∧ S3.A = A ∧ S3.I = I) := by unfold Hid; rw [← hS3]; exact ⟨rfl, rfl, rfl⟩
  have HAT : Hid (∀ i : Nat, S3.l[a + b + i]? = l[i]?.map (shiftJ ((a + b : Nat) : Int))) := fun i => by rw [← hS3]; exact shift_at _ _ _
  have HM1 := Lib.hid hm1
  have HM3 := Lib.hid hm3
  have HS2 := Lib.hid hS2
  clear hta htb hta2 htb2 hta3 htb3 ta0 ta1 tb0 tb1 _ha0 _ha1 _hb0 _hb1 hm1 hm3 hS2 hln
  have h1 := codeShift_few ⟨R, A, I, P, n, c, l⟩ a w3 (HQ.out.on HB3.out) HM.out (by show n + a ≤ 4096; omega) (HSH.out.on HB3.out)
  have h3 := fun W hW => codeShift_few ⟨R, A, I, P, n, c, l⟩ (a + b) W (HQ.out.on (w' := W) hW) HM.out (by show n + (a + b) ≤ 4096; omega) (HSH.out.on hW)
  dsimp only at h1 h3
  rw [hS1] at h1
  simp only [hS3] at h3
  have H3 : Hid (∀ W, Below w.heap.size w W → Calls Tryd.prog 16 #[Cq.val ⟨R, A, I, P, n, c, l⟩, .int .i64 ((a : Int) + (b : Int))] W fun e w' => ∃ A' c', e = .returned (.tuple #[Cq.val ⟨R, A, I, A', a + b + n, c', S3.l⟩, .int .i64 0]) ∧ OwnJ w' W.heap.size A' c' S3.l ∧ Below W.heap.size W w') := fun W hW => by
    have := h3 W hW
    rwa [Int.natCast_add] at this
  clear hS1 hS3 h3
  go_wp2_with fail
  (with_reducible refine h1.mono ?_)
  rintro e w4 ⟨A4, c4, rfl, hO4, hb⟩
  have HB4 := Lib.hid (HB3.out.trans (hb.mono HB3.out.size))
  have HX4 := Lib.hid (keep_b hb HX3.out)
  have HO4 := Lib.hid hO4
  clear hb hO4 h1 m0 m1 m2 m3
  obtain ⟨W4, hW4⟩ : ∃ W, w4.alloc (.cells #[.int .i64 R, .int .i64 A, .int .i64 I, .slice A4 (a + n) c4] 25) = W := ⟨_, rfl⟩
  obtain ⟨g8, hg8⟩ : ∃ g, w4.heap.size = g := ⟨_, rfl⟩
  have hb : Below w4.heap.size w4 W4 := by rw [← hW4]; exact lvBelow _ _
  have HGg8 : Hid (W4.heap[g8]? = some (Cq.obj ⟨R, A, I, A4, a + n, c4, S1.l⟩)) := by rw [← hW4, ← hg8]; exact heap_alloc_new _ _
  have HBW4 := Lib.hid (HB4.out.trans (hb.mono HB4.out.size))
  have HXW4 := Lib.hid (keep_b hb HX4.out)
  have HQ1 : Hid (Cq.In ⟨R, A, I, A4, a + n, c4, S1.l⟩ W4) := by
    have h := OwnJ.cqn (c := S1) (HO4.out.below hb (Nat.le_refl _)) HM1.out HL1.out
    rw [HR1.out.1, HR1.out.2.1, HR1.out.2.2] at h
    exact h
  have HW4 := Lib.hid hW4
  clear hb hW4
  go_upto_region 7 with fail
  try rw [HW4.out]
  try rw [hg8]
  clear hg8
  have HCD1 : Hid (Cq.cd ⟨R, A, I, A4, a + n, c4, S1.l⟩ = S1) := by
    unfold Hid Cq.cd
    rw [← HR1.out.1, ← HR1.out.2.1, ← HR1.out.2.2]
  have h2 := codeShift_few ⟨R, A, I, A4, a + n, c4, S1.l⟩ b W4 HQ1.out (by rw [HCD1.out]; exact HM1.out) (by show a + n + b ≤ 4096; omega) (HSH.out.on HBW4.out)
  dsimp only at h2
  rw [HCD1.out, HS2.out] at h2
  obtain ⟨m0, m1, m2, m3, _⟩ := lvCells HGg8.out
  go_wp2_with fail
  (with_reducible refine h2.mono ?_)
  rintro e w5 ⟨A5, c5, rfl, hO5, hb⟩
  have HB5 := Lib.hid (HBW4.out.trans (hb.mono HBW4.out.size))
  have HX5 := Lib.hid (keep_b hb HXW4.out)
  have HO5 := Lib.hid hO5
  clear hb hO5 h2 m0 m1 m2 m3
  obtain ⟨W5, hW5⟩ : ∃ W, w5.alloc (.cells #[.int .i64 R, .int .i64 A, .int .i64 I, .slice A5 (b + (a + n)) c5] 25) = W := ⟨_, rfl⟩
  obtain ⟨g10, hg10⟩ : ∃ g, w5.heap.size = g := ⟨_, rfl⟩
  have hb : Below w5.heap.size w5 W5 := by rw [← hW5]; exact lvBelow _ _
  have HGg10 : Hid (W5.heap[g10]? = some (Cq.obj ⟨R, A, I, A5, b + (a + n), c5, S3.l⟩)) := by rw [← hW5, ← hg10]; exact heap_alloc_new _ _
  have HBW5 := Lib.hid (HB5.out.trans (hb.mono HB5.out.size))
  have HXW5 := Lib.hid (keep_b hb HX5.out)
  have HQ2 : Hid (Cq.In ⟨R, A, I, A5, b + (a + n), c5, S3.l⟩ W5) := by
    have h := OwnJ.cqn (c := S3) (HO5.out.below hb (Nat.le_refl _)) HM3.out (HL3.out.trans (by omega : a + b + n = b + (a + n)))
    rw [HR3.out.1, HR3.out.2.1, HR3.out.2.2] at h
    exact h
  have HW5 := Lib.hid hW5
  clear hb hW5
  go_upto_region 8 with fail
  try rw [HW5.out]
  try rw [hg10]
  clear hg10
  obtain ⟨m0, m1, m2, m3, _⟩ := lvCells HXW5.out
  have h3 := H3.out W5 HBW5.out
  go_wp2_with fail
  (with_reducible refine h3.mono ?_)
  rintro e w6 ⟨A6, c6, rfl, hO6, hb⟩
  have HB6 := Lib.hid (HBW5.out.trans (hb.mono HBW5.out.size))
  have HX6 := Lib.hid (keep_b hb HXW5.out)
  have HO6 := Lib.hid hO6
  have HG6 := Lib.hid (keep_b hb HGg10.out)
  have HQ26 := Lib.hid (HQ2.out.on hb)
  clear hb hO6 h3 m0 m1 m2 m3
  obtain ⟨W6, hW6⟩ : ∃ W, w6.alloc (.cells #[.int .i64 R, .int .i64 A, .int .i64 I, .slice A6 (a + b + n) c6] 25) = W := ⟨_, rfl⟩
  obtain ⟨g12, hg12⟩ : ∃ g, w6.heap.size = g := ⟨_, rfl⟩
  have hb : Below w6.heap.size w6 W6 := by rw [← hW6]; exact lvBelow _ _
  have HGg12 : Hid (W6.heap[g12]? = some (Cq.obj ⟨R, A, I, A6, a + b + n, c6, S3.l⟩)) := by rw [← hW6, ← hg12]; exact heap_alloc_new _ _
  have HBW6 := Lib.hid (HB6.out.trans (hb.mono HB6.out.size))
  have HXW6 := Lib.hid (keep_b hb HX6.out)
  have HQ3 : Hid (Cq.In ⟨R, A, I, A6, a + b + n, c6, S3.l⟩ W6) := by
    have h := OwnJ.cqn (c := S3) (HO6.out.below hb (Nat.le_refl _)) HM3.out HL3.out
    rw [HR3.out.1, HR3.out.2.1, HR3.out.2.2] at h
    exact h
  have HQ2W := Lib.hid (HQ26.out.on hb)
  have HGW := Lib.hid (keep_b hb HG6.out)
  have HW6 := Lib.hid hW6
  clear hb hW6
  go_upto_region 9 with fail
  try rw [HW6.out]
  try rw [hg12]
  clear hg12
  have HCD3 : Hid (Cq.cd ⟨R, A, I, A6, a + b + n, c6, S3.l⟩ = S3) := by
    unfold Hid Cq.cd
    rw [← HR3.out.1, ← HR3.out.2.1, ← HR3.out.2.2]
  have hSm := codeSame_any ⟨R, A, I, A5, b + (a + n), c5, S3.l⟩ ⟨R, A, I, A6, a + b + n, c6, S3.l⟩ W6 HQ2W.out HQ3.out
  unfold SameP at hSm
  rw [show sameB (Cq.cd ⟨R, A, I, A5, b + (a + n), c5, S3.l⟩) (Cq.cd ⟨R, A, I, A6, a + b + n, c6, S3.l⟩) = true from sameB_refl _] at hSm
  obtain ⟨m0, m1, m2, m3, _⟩ := lvCells HGW.out
  obtain ⟨z0, z1, z2, z3, _⟩ := lvCells HGg12.out
  go_wp2_with fail
  (with_reducible refine hSm.mono ?_)
  rintro e w7 ⟨rfl, hb⟩
  have HB7 := Lib.hid (HBW6.out.trans (hb.mono HBW6.out.size))
  have HX7 := Lib.hid (keep_b hb HXW6.out)
  have HZ7 := Lib.hid (keep_b hb HGg12.out)
  have HQ7 := Lib.hid (HQ3.out.on hb)
  clear hb hSm m0 m1 m2 m3 z0 z1 z2 z3
  have hC3 := codeCheck_any ⟨R, A, I, A6, a + b + n, c6, S3.l⟩ w7 HQ7.out (HSH.out.on HB7.out)
  unfold CkP at hC3
  rw [HCD3.out, show S3.e = 0 by unfold Cd.e; rw [HM3.out]; rfl] at hC3
  obtain ⟨z0, z1, z2, z3, _⟩ := lvCells HZ7.out
  go_wp2_with fail
  (with_reducible refine hC3.mono ?_)
  rintro e w8 ⟨rfl, hb⟩
  have HB8 := Lib.hid (HB7.out.trans (hb.mono HB7.out.size))
  have HX8 := Lib.hid (keep_b hb HX7.out)
  have HZ8 := Lib.hid (keep_b hb HZ7.out)
  have HQ8 := Lib.hid (HQ7.out.on hb)
  have HSI := Lib.hid (HSH.out.on HB8.out)
  clear hb hC3 z0 z1 z2 z3
  obtain ⟨z0, z1, z2, z3, _⟩ := lvCells HZ8.out
  obtain ⟨m0, m1, m2, m3, _⟩ := lvCells HX8.out
  have hne : (((a + b + n : Nat) : Int) != (a : Int) + (b : Int) + (n : Int)) = false := by simp
  go_wp2_with fail
  clear z0 z1 z2 z3 m0 m1 m2 m3 hne
  have HMXn : Hid (n ≤ 300 ∧ a < 50 ∧ b < 50) := ⟨hf, ha50, hb50⟩
  go_loopw [98] (fun i wr => ∃ k : Nat, k ≤ n ∧ i = .int .i64 k ∧ Hid (Below w8.heap.size w8 wr)) (fun i _ => n - (intOf i).toNat)
  case atStart => exact ⟨0, Nat.zero_le _, rfl, Below.refl _ _⟩
  case round =>
    obtain ⟨k, hk, rfl, HBr⟩ := hrel
    by_cases hlt : k < n
    · have HBW := Lib.hid (HB8.out.trans (HBr.out.mono HB8.out.size))
      have HZr := Lib.hid (keep_b HBr.out HZ8.out)
      have HQr := Lib.hid (HQ8.out.on HBr.out)
      obtain ⟨ba, off, y, hA, hbb, HY, ⟨y0, y1, y2, y3, y4⟩, hyo⟩ := ((HQ.out.on HBW.out).ins).at_ hlt
      subst hA
      obtain ⟨bz, offz, yz, hAz, hbz, HYZ, ⟨v0, v1, v2, v3, v4⟩, hyzo⟩ := ((HQr.out).ins).at_ (k := a + b + k) (show a + b + k < a + b + n by omega)
      have hAz : A6 = some ⟨bz, offz, none⟩ := hAz
      have hyz : yz = shiftJ ((a + b : Nat) : Int) y := by
        have h := HYZ.out
        rw [show (Cq.l ⟨R, A, I, A6, a + b + n, c6, S3.l⟩) = S3.l from rfl, HAT.out, HY.out] at h
        injection h with h
        exact h.symm
      have HMY : Hid (mayJ R A n y = true) := HMX.out y (List.mem_of_getElem? HY.out)
      have HYO := Lib.hid hyo
      have HYZO := Lib.hid hyzo
      have HRE : Hid (readsJ yz = readsJ y ∧ setsJ yz = setsJ y ∧ writesJ yz = writesJ y) := by unfold Hid; rw [hyz]; exact shiftJ_reads HMY.out (by omega) (by omega)
      have HNX : Hid (nextJ yz ((a : Int) + (b : Int) + (k : Int)) = (nextJ y k).map (· + ((a + b : Nat) : Int))) := by
        have := shiftJ_next (b := a + b) (i := k) HMY.out (by omega) (by omega) (by omega)
        unfold Hid
        rw [hyz, ← this]
        congr 1
      have HBZ : Hid (bz < wr.heap.size) := hbz
      clear hyz hbb hbz hyo hyzo
      subst hAz
      obtain ⟨z0, z1, z2, z3, _⟩ := lvCells HZr.out
      obtain ⟨W9, hW9⟩ : ∃ W, wr.alloc y.obj = W := ⟨_, rfl⟩
      obtain ⟨gy, hgy⟩ : ∃ g, wr.heap.size = g := ⟨_, rfl⟩
      have hb9 : Below wr.heap.size wr W9 := by rw [← hW9]; exact lvBelow _ _
      have HY9 : Hid (W9.heap[gy]? = some y.obj) := by rw [← hW9, ← hgy]; exact newJ wr y
      have HB9 := Lib.hid (HBr.out.trans (hb9.mono HBr.out.size))
      obtain ⟨W10, hW10⟩ : ∃ W, W9.alloc yz.obj = W := ⟨_, rfl⟩
      obtain ⟨gz, hgz⟩ : ∃ g, W9.heap.size = g := ⟨_, rfl⟩
      have hb10 : Below W9.heap.size W9 W10 := by rw [← hW10]; exact lvBelow _ _
      have HY10 := Lib.hid (keep_b hb10 HY9.out)
      have HV10 : Hid (W10.heap[gz]? = some yz.obj) := by rw [← hW10, ← hgz]; exact newJ W9 yz
      have HB10 := Lib.hid (HB9.out.trans (hb10.mono HB9.out.size))
      obtain ⟨zz0, zz1, zz2, zz3, _⟩ := lvCells (keep_b hb9 HZr.out)
      have v0' := (hb9.cell (p := ⟨bz, offz + (a + b + k) * 5, none⟩) HBZ.out).trans v0
      have v1' := (hb9.cell (p := ⟨bz, offz + (a + b + k) * 5 + 1, none⟩) HBZ.out).trans v1
      have v2' := (hb9.cell (p := ⟨bz, offz + (a + b + k) * 5 + 2, none⟩) HBZ.out).trans v2
      have v3' := (hb9.cell (p := ⟨bz, offz + (a + b + k) * 5 + 3, none⟩) HBZ.out).trans v3
      have v4' := (hb9.cell (p := ⟨bz, offz + (a + b + k) * 5 + 4, none⟩) HBZ.out).trans v4
      have hk0 : (0 : Int) ≤ (k : Int) := by omega
      have hki : (k : Int) < (n : Int) := by omega
      have hz0' : (0 : Int) ≤ (a : Int) + (b : Int) + (k : Int) := by omega
      have hz1' : (a : Int) + (b : Int) + (k : Int) < (a : Int) + (b : Int) + (n : Int) := by omega
      have hz2' : ((a : Int) + (b : Int) + (k : Int)).toNat = a + b + k := by omega
      have HW9 := Lib.hid hW9
      have HW10 := Lib.hid hW10
      clear hb9 hb10 hW9 hW10 v0 v1 v2 v3 v4 z0 z1 z2 z3
      go_upto_region 14 with fail
      try rw [HW9.out]
      try rw [hgy]
      go_upto_region 15 with fail
      try rw [HW10.out]
      try rw [hgz]
      clear y0 y1 y2 y3 y4 v0' v1' v2' v3' v4' zz0 zz1 zz2 zz3 hgy hgz
      obtain ⟨⟨y0, y1, y2, y3, y4⟩, yf⟩ := box_cellsJ HY10.out
      obtain ⟨⟨v0, v1, v2, v3, v4⟩, vf⟩ := box_cellsJ HV10.out
      clear yf vf
      go_wp2_with fail
      (with_reducible refine (codeWrites_any y W10 HYO.out (HSI.out.on HB10.out)).mono ?_)
      rintro e w11 ⟨rfl, hb⟩
      have HB11 := Lib.hid (HB10.out.trans (hb.mono HB10.out.size))
      have HY11 := Lib.hid (keep_b hb HY10.out)
      have HV11 := Lib.hid (keep_b hb HV10.out)
      clear hb y0 y1 y2 y3 y4 v0 v1 v2 v3 v4
      obtain ⟨⟨v0, v1, v2, v3, v4⟩, vf⟩ := box_cellsJ HV11.out
      clear vf
      go_wp2_with fail
      (with_reducible refine (codeWrites_any yz w11 HYZO.out (HSI.out.on HB11.out)).mono ?_)
      rintro e w12 ⟨rfl, hb⟩
      rw [HRE.out.2.1, HRE.out.2.2]
      have HB12 := Lib.hid (HB11.out.trans (hb.mono HB11.out.size))
      have HY12 := Lib.hid (keep_b hb HY11.out)
      have HV12 := Lib.hid (keep_b hb HV11.out)
      clear hb v0 v1 v2 v3 v4
      obtain ⟨vw, hvw⟩ : ∃ v, writesJ y = v := ⟨_, rfl⟩
      obtain ⟨vs, hvs⟩ : ∃ v, setsJ y = v := ⟨_, rfl⟩
      rw [hvw, hvs]
      clear hvw hvs
      have hrl := readsJ_length y
      have HRL : Hid ((readsJ yz).length = (readsJ y).length) := by unfold Hid; rw [HRE.out.1]
      have HCY : Hid (∀ W, Below w12.heap.size w12 W → Calls Tryd.prog 19 #[y.val] W (ReadsP y W)) := fun W hW => codeReads_any y W HYO.out (HSI.out.on (HB12.out.trans (hW.mono HB12.out.size)))
      have HCZ : Hid (∀ W, Below w12.heap.size w12 W → Calls Tryd.prog 19 #[yz.val] W (ReadsP yz W)) := fun W hW => codeReads_any yz W HYZO.out (HSI.out.on (HB12.out.trans (hW.mono HB12.out.size)))
      have HST : Hid (∀ W, Below w12.heap.size w12 W → CellsJ W gy 0 y ∧ CellsJ W gz 0 yz) := fun W hW => ⟨(box_cellsJ (keep_b hW HY12.out)).1, (box_cellsJ (keep_b hW HV12.out)).1⟩
      obtain ⟨⟨y0, y1, y2, y3, y4⟩, ⟨v0, v1, v2, v3, v4⟩⟩ := HST.out w12 (Below.refl _ _)
      go_upto_region 17 with fail
      have hrl2 : (readsJ yz).length ≤ 100000 := by rw [HRL.out]; omega
      have hrl3 : (readsJ y).length ≤ 100000 := by omega
      have HEQ : Hid (readsJ y = readsJ yz) := HRE.out.1.symm
      have HWK := Lib.hid (Below.refl w12.heap.size w12)
      go_cut [137] (fun s wx => s = .bool false ∧ Below w12.heap.size w12 wx)
      case first =>
        go_region_law (first | (go_simp; go_at_call 18; refine (eqR17 Ay Az (readsJ y).length (readsJ yz).length cy cz (readsJ y) (readsJ yz) _ ?h1 ?h2 hrl3 (by omega) HEQ.out).mono ?_; (case h1 => first | exact HOY.out.ints | exact (HOY.out.below HBZx.out (Nat.le_refl _)).ints); (case h2 => first | exact HOZ.out.ints | exact (HOZ.out.below HBYx.out (Nat.le_refl _)).ints); rintro e wE ⟨rfl, hbE⟩; have HBEx := Lib.hid hbE; clear hbE) | (go_simp; go_at_call 19; (with_reducible refine (HCY.out _ ?b0).mono ?_); (case b0 => first | exact Below.refl _ _ | exact (Below.refl _ _).drew | exact HWZ.out); rintro e wy ⟨Ay, cy, rfl, hOy, hby⟩; have HWY : Hid (Below w12.heap.size w12 wy) := (by first | exact ⟨hby.os, hby.tape, hby.output, hby.size, hby.block⟩ | exact HWZ.out.trans (hby.mono HWZ.out.size)); have HOY := Lib.hid hOy; have HBYx := Lib.hid hby; obtain ⟨⟨y0, y1, y2, y3, y4⟩, ⟨v0, v1, v2, v3, v4⟩⟩ := HST.out wy HWY.out; clear hby hOy) | (go_simp; go_at_call 19; (with_reducible refine (HCZ.out _ ?b1).mono ?_); (case b1 => first | exact Below.refl _ _ | exact (Below.refl _ _).drew | exact HWY.out); rintro e wz ⟨Az, cz, rfl, hOz, hbz⟩; have HWZ : Hid (Below w12.heap.size w12 wz) := (by first | exact ⟨hbz.os, hbz.tape, hbz.output, hbz.size, hbz.block⟩ | exact HWY.out.trans (hbz.mono HWY.out.size)); have HOZ := Lib.hid hOz; have HBZx := Lib.hid hbz; obtain ⟨⟨y0, y1, y2, y3, y4⟩, ⟨v0, v1, v2, v3, v4⟩⟩ := HST.out wz HWZ.out; clear hbz hOz))
        all_goals
          go_wp2_with fail
          go_meet
          exact ⟨rfl, HWZ.out.trans (HBEx.out.mono HWZ.out.size)⟩
      case rest =>
        obtain ⟨rfl, hbc⟩ := hcut
        have HBC := Lib.hid hbc
        clear hbc y0 y1 y2 y3 y4 v0 v1 v2 v3 v4 hrl hrl2 hrl3
        obtain ⟨wq, rfl⟩ : ∃ wq : World, wq = wr := ⟨_, rfl⟩
        obtain ⟨wo, rfl⟩ : ∃ wo : World, wo = wc := ⟨_, rfl⟩
        obtain ⟨⟨y0, y1, y2, y3, y4⟩, _⟩ := HST.out wo HBC.out
        have hl2 := next_two y k
        have HSM := Lib.hid (next_small HMY.out (i := k) (by omega) (by omega))
        have HN2 : Hid (nextJ yz ((a : Int) + (b : Int) + (k : Int)) = (nextJ y k).map (· + ((a : Int) + (b : Int)))) := by
          have h := HNX.out
          rw [Int.natCast_add] at h
          exact h
        obtain ⟨L, hL⟩ : ∃ L, nextJ y k = L := ⟨_, rfl⟩
        have hC := codeNext_any y k wo HYO.out ⟨by omega, by omega⟩ (HSI.out.on (HB12.out.trans (HBC.out.mono HB12.out.size)))
        unfold NextP at hC
        rw [hL] at hC hl2 HSM HN2
        obtain ⟨m, hm⟩ : ∃ m, L.length = m := ⟨_, rfl⟩
        rw [hm] at hC hl2
        have HM := Lib.hid hm
        clear hm hL
        go_wp2_with fail
        (with_reducible refine hC.mono ?_)
        rintro e w13 ⟨A13, c13, rfl, hO, hb⟩
        have HO0 : Hid (OwnI w13 wo.heap.size 3 A13 c13 (addF ((a : Int) + (b : Int)) 0 L)) := by
          unfold Hid; rw [addF_zero]; exact hO
        have HB13 := Lib.hid hb
        clear hb hO hC y0 y1 y2 y3 y4
        go_wp2_with fail
        go_loopw [143] (fun i wr2 => ∃ j : Nat, j ≤ m ∧ i = .int .i64 j ∧ Hid (OwnI wr2 wo.heap.size 3 A13 c13 (addF ((a : Int) + (b : Int)) j L)) ∧ Hid (Below wo.heap.size wo wr2)) (fun i _ => m - (intOf i).toNat)
        case atStart => exact ⟨0, Nat.zero_le _, rfl, HO0, HB13⟩
        case round =>
          obtain ⟨j, hj, rfl, HO, HBr2⟩ := hrel
          by_cases hlj : j < m
          · obtain ⟨x, hx⟩ : ∃ x, L[j]? = some x := ⟨_, List.getElem?_eq_getElem (by rw [HM.out]; exact hlj)⟩
            obtain ⟨hx0, hx1⟩ := HSM.out x (List.mem_of_getElem? hx)
            have hat := addF_at (d := (a : Int) + (b : Int)) hx
            obtain ⟨g, rfl, _⟩ := own_int_at HO.out hat
            have hgb := own_base_at HO.out hat
            obtain ⟨hcz, hfz⟩ := HO.out.cell_ hat
            have hset := HO.out.set_ j (x + ((a : Int) + (b : Int))) (by omega)
            rw [addF_set hx] at hset
            have HSET := Lib.hid hset
            have HT2 := Lib.hid (HBr2.out.setCell (p := ⟨g, j, none⟩) hgb (.int .i64 (x + ((a : Int) + (b : Int)))))
            have hj0 : (0 : Int) ≤ (j : Int) := by omega
            have hj1 : (j : Int) < (m : Int) := by omega
            clear hset hx hat hgb HO
            go_wp2_with fail
            go_roundw
            case rel => exact ⟨j + 1, by omega, by go_num, HSET, HT2⟩
            case measure => simp [intOf]; omega
          · have dz : decide ((j : Int) < (m : Int)) = false := by simp; omega
            have dz2 : decide (j < m) = false := by simp; omega
            have hjm : j = m := by omega
            have HOE : Hid (OwnI wr wo.heap.size 3 A13 c13 (L.map (· + ((a : Int) + (b : Int))))) := by
              have h := HO.out
              rw [hjm, ← HM.out, addF_all] at h
              exact h
            have HBL := Lib.hid (HBC.out.trans (HBr2.out.mono HBC.out.size))
            clear hjm HO
            obtain ⟨_, ⟨v0, v1, v2, v3, v4⟩⟩ := HST.out wr HBL.out
            have hC := codeNext_any yz ((a : Int) + (b : Int) + (k : Int)) wr HYZO.out ⟨by omega, by omega⟩ (HSI.out.on (HB12.out.trans (HBL.out.mono HB12.out.size)))
            unfold NextP at hC
            rw [HN2.out, List.length_map, HM.out] at hC
            go_wp2_with fail
            (with_reducible refine hC.mono ?_)
            rintro e w14 ⟨A14, c14, rfl, hO14, hb14⟩
            have HO14 := Lib.hid hO14
            have HO15 := Lib.hid (HOE.out.below hb14 (Nat.le_refl _))
            have HB14 := Lib.hid (HBL.out.trans (hb14.mono HBL.out.size))
            clear hC hO14 hb14 v0 v1 v2 v3 v4
            have hi1 : Hid (Ints w14 w14.heap.size A13 m (L.map (· + ((a : Int) + (b : Int))))) := by
              have h := HO15.out.ints
              rw [List.length_map, HM.out] at h
              exact h
            have hi2 : Hid (Ints w14 w14.heap.size A14 m (L.map (· + ((a : Int) + (b : Int))))) := by
              have h := HO14.out.ints
              rw [List.length_map, HM.out] at h
              exact h
            go_wp2_with fail
            refine (eqR17 A13 A14 m m c13 c14 _ _ w14 hi1.out hi2.out (by omega) (by omega) rfl).mono ?_
            rintro e wE ⟨rfl, hbE⟩
            have HB15 := Lib.hid (HB14.out.trans (hbE.mono HB14.out.size))
            clear hbE
            go_wp2_with fail
            go_roundw
            case rel => exact ⟨k + 1, by omega, by go_num, Lib.hid (HB12.out.trans (HB15.out.mono HB12.out.size))⟩
            case measure => simp [intOf]; omega
    · have HF := Lib.hid (HB8.out.trans (HBr.out.mono HB8.out.size))
      go_wp2_with fail
      go_ret
      exact ⟨rfl, HF.out⟩
end Go.Proofs.YtbmcddolfofmdaaDoor
