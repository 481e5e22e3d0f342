/- The errors of Sort, Join, Trim and Plain, the program's and the document's. -/
import Derived.Test.YtpfabbapfmfmmaaPRFail
import Derived.Test.YtpfabbapfmfmmaaG15
namespace Go.Proofs.Ytpfabbapfmfmmaa
open Go.RowKit

set_option maxRecDepth 100000 in
set_option maxHeartbeats 4000000 in
theorem refSort_bad1 (A B Ao : Option Addr) (n c m e ro co : Nat) (xs : List Int) (es : List Ent) (w : World) (h : CooV w A n B m xs es) (hn : n ≤ 9223372036854775807) (hm : m ≤ 9223372036854775807) (E : Int) (hE : Hid (cooF xs es = E)) (h0 : E ≠ 0) :
    Calls Try.prog 15 #[.agg #[.slice A n c, .slice B m e], .slice Ao ro co] w fun x w' => x = .returned (.tuple #[.agg #[.slice none 0 0, .slice none 0 0], .int .i64 E]) ∧ Below w.heap.size w w' := by
  have z0 := (Below.refl w.heap.size w).alloc (Nat.le_refl _) (.cells #[.slice A n c, .slice B m e] 25)
  have z1 := z0.alloc z0.size (.cells #[.slice none 0 0, .slice none 0 0] 25)
  have b2 := zf_snd w (.cells #[.slice none 0 0, .slice none 0 0] 25) (.cells #[.slice A n c, .slice B m e] 25)
  have HC := refCooCheck_any A B n c m e xs es _ (h.below z1).1 hn (h.below z1).2 hm
  rw [hE.out] at HC
  have e1 : (E == 0) = false := by simpa using h0
  have e2 : (E != 0) = true := by simpa using h0
  clear h0 h
  go_enter Try.func15, Try.ntmps15
  go_wp2_with fail
  refine HC.mono ?_
  rintro x w1 ⟨rfl, hb1⟩
  have hb := z1.trans (hb1.mono z1.size)
  have q2 := (hb1.block (w.heap.size + 1) (by simp)).trans b2
  obtain ⟨v0, v1, vf0, vf1⟩ := pair_cells q2
  have Q2 := Lib.hid q2
  clear q2 b2 z0 z1 HC hb1
  go_wp2_with fail
  have hres := set_two w1 (w.heap.size + 1) _ _ (.slice none 0 0) (.slice none 0 0) _ Q2.out
  obtain ⟨s0, s1, _, _⟩ := pair_cells hres.1
  obtain ⟨wz, hwz⟩ : ∃ wz, (w1.setCell ⟨w.heap.size + 1, 0, none⟩ (.slice none 0 0)).setCell ⟨w.heap.size + 1, 1, none⟩ (.slice none 0 0) = wz := ⟨_, rfl⟩
  rw [hwz] at hres s0 s1 ⊢
  exact bodyPost_ret (v := .tuple #[.agg #[.slice none 0 0, .slice none 0 0], .int .i64 E]) (by simp [results, Try.results15, go_sem, s0, s1]) rfl ⟨rfl, hb.grown hres.2 hb.size (fun k hk => by injection hk with hk; omega)⟩

set_option maxRecDepth 100000 in
set_option maxHeartbeats 4000000 in
theorem refSort_bad2 (A B Ao : Option Addr) (n c m e ro co : Nat) (xs os : List Int) (es : List Ent) (w : World) (h : CooV w A n B m xs es) (hm : m ≤ 9223372036854775807) (hE : Hid (cooF xs es = 0)) (ho : Ints w w.heap.size Ao ro os) (hro : ro ≤ 9223372036854775807) (hok : ¬ OrdOk n os) (E : Int) (hE1 : E = 1) :
    Calls Try.prog 15 #[.agg #[.slice A n c, .slice B m e], .slice Ao ro co] w fun x w' => x = .returned (.tuple #[.agg #[.slice none 0 0, .slice none 0 0], .int .i64 E]) ∧ Below w.heap.size w w' := by
  have hn4 : n ≤ 4 := by rw [← h.1.1]; exact (cellsF_ok (cooF_parts hE.out).1).1
  have z0 := (Below.refl w.heap.size w).alloc (Nat.le_refl _) (.cells #[.slice A n c, .slice B m e] 25)
  have z1 := z0.alloc z0.size (.cells #[.slice none 0 0, .slice none 0 0] 25)
  have b1 := zf_two w (.cells #[.slice A n c, .slice B m e] 25) (.cells #[.slice none 0 0, .slice none 0 0] 25)
  have b2 := zf_snd w (.cells #[.slice none 0 0, .slice none 0 0] 25) (.cells #[.slice A n c, .slice B m e] 25)
  have HC := refCooCheck_any A B n c m e xs es _ (h.below z1).1 (by omega) (h.below z1).2 hm
  rw [hE.out] at HC
  have HOR := fun W (hb : Below w.heap.size w W) => refOrder_no Ao n ro co os W ((ho.below hb).more hb.size) (by omega) hro hok
  clear h ho hok hE
  go_enter Try.func15, Try.ntmps15
  go_wp2_with fail
  refine HC.mono ?_
  rintro x w1 ⟨rfl, hb1⟩
  have hb := z1.trans (hb1.mono z1.size)
  have q1 := (hb1.block w.heap.size (by simp; omega)).trans b1
  have q2 := (hb1.block (w.heap.size + 1) (by simp)).trans b2
  obtain ⟨k0, k1, _, _⟩ := pair_cells q1
  clear b1 b2 z0 z1 HC hb1 q1
  go_wp2_with fail
  refine (HOR _ hb).mono ?_
  rintro x w2 ⟨rfl, hb2⟩
  have hb3 := hb.trans (hb2.mono hb.size)
  have q3 := heapAt hb2 q2
  obtain ⟨v0, v1, vf0, vf1⟩ := pair_cells q3
  have Q2 := Lib.hid q3
  clear k0 k1 q2 q3 hb hb2 HOR
  go_wp2_with fail
  have hres := set_two w2 (w.heap.size + 1) _ _ (.slice none 0 0) (.slice none 0 0) _ Q2.out
  obtain ⟨s0, s1, _, _⟩ := pair_cells hres.1
  obtain ⟨wz, hwz⟩ : ∃ wz, (w2.setCell ⟨w.heap.size + 1, 0, none⟩ (.slice none 0 0)).setCell ⟨w.heap.size + 1, 1, none⟩ (.slice none 0 0) = wz := ⟨_, rfl⟩
  rw [hwz] at hres s0 s1 ⊢
  subst hE1
  exact bodyPost_ret (v := .tuple #[.agg #[.slice none 0 0, .slice none 0 0], .int .i64 1]) (by simp [results, Try.results15, go_sem, s0, s1]) rfl ⟨rfl, hb3.grown hres.2 hb3.size (fun k hk => by injection hk with hk; omega)⟩

set_option maxRecDepth 100000 in
set_option maxHeartbeats 4000000 in
theorem refTrim_bad (A B : Option Addr) (n c m e : Nat) (xs : List Int) (es : List Ent) (w : World) (h : CooV w A n B m xs es) (hn : n ≤ 9223372036854775807) (hm : m ≤ 9223372036854775807) (E : Int) (hE : Hid (cooF xs es = E)) (h0 : E ≠ 0) :
    Calls Try.prog 19 #[.agg #[.slice A n c, .slice B m e]] w fun x w' => x = .returned (.tuple #[.agg #[.slice none 0 0, .slice none 0 0], .int .i64 E]) ∧ Below w.heap.size w w' := by
  have z0 := (Below.refl w.heap.size w).alloc (Nat.le_refl _) (.cells #[.slice A n c, .slice B m e] 25)
  have z1 := z0.alloc z0.size (.cells #[.slice none 0 0, .slice none 0 0] 25)
  have b2 := zf_snd w (.cells #[.slice none 0 0, .slice none 0 0] 25) (.cells #[.slice A n c, .slice B m e] 25)
  have HC := refCooCheck_any A B n c m e xs es _ (h.below z1).1 hn (h.below z1).2 hm
  rw [hE.out] at HC
  have e1 : (E == 0) = false := by simpa using h0
  have e2 : (E != 0) = true := by simpa using h0
  clear h0 h
  go_enter Try.func19, Try.ntmps19
  go_wp2_with fail
  refine HC.mono ?_
  rintro x w1 ⟨rfl, hb1⟩
  have hb := z1.trans (hb1.mono z1.size)
  have q2 := (hb1.block (w.heap.size + 1) (by simp)).trans b2
  obtain ⟨v0, v1, vf0, vf1⟩ := pair_cells q2
  have Q2 := Lib.hid q2
  clear q2 b2 z0 z1 HC hb1
  go_wp2_with fail
  have hres := set_two w1 (w.heap.size + 1) _ _ (.slice none 0 0) (.slice none 0 0) _ Q2.out
  obtain ⟨s0, s1, _, _⟩ := pair_cells hres.1
  obtain ⟨wz, hwz⟩ : ∃ wz, (w1.setCell ⟨w.heap.size + 1, 0, none⟩ (.slice none 0 0)).setCell ⟨w.heap.size + 1, 1, none⟩ (.slice none 0 0) = wz := ⟨_, rfl⟩
  rw [hwz] at hres s0 s1 ⊢
  exact bodyPost_ret (v := .tuple #[.agg #[.slice none 0 0, .slice none 0 0], .int .i64 E]) (by simp [results, Try.results19, go_sem, s0, s1]) rfl ⟨rfl, hb.grown hres.2 hb.size (fun k hk => by injection hk with hk; omega)⟩

set_option maxRecDepth 100000 in
set_option maxHeartbeats 4000000 in
theorem cooTrim_bad (A B : Option Addr) (n c m e : Nat) (xs : List Int) (es : List Ent) (w : World) (h : CooV w A n B m xs es) (hn : n ≤ 9223372036854775807) (hm : m ≤ 9223372036854775807) (E : Int) (hE : Hid (cooF xs es = E)) (h0 : E ≠ 0) :
    Calls Try.prog 18 #[.agg #[.slice A n c, .slice B m e]] w fun x w' => x = .returned (.tuple #[.agg #[.slice none 0 0, .slice none 0 0], .int .i64 E]) ∧ Below w.heap.size w w' := by
  have z0 := (Below.refl w.heap.size w).alloc (Nat.le_refl _) (.cells #[.slice A n c, .slice B m e] 25)
  have z1 := z0.alloc z0.size (.cells #[.slice none 0 0, .slice none 0 0] 25)
  have b2 := zf_snd w (.cells #[.slice none 0 0, .slice none 0 0] 25) (.cells #[.slice A n c, .slice B m e] 25)
  have HC := cooCheck_any A B n c m e xs es _ (h.below z1).1 hn (h.below z1).2 hm
  rw [hE.out] at HC
  have e1 : (E == 0) = false := by simpa using h0
  have e2 : (E != 0) = true := by simpa using h0
  clear h0 h
  go_enter Try.func18, Try.ntmps18
  go_wp2_with fail
  refine HC.mono ?_
  rintro x w1 ⟨rfl, hb1⟩
  have hb := z1.trans (hb1.mono z1.size)
  have q2 := (hb1.block (w.heap.size + 1) (by simp)).trans b2
  obtain ⟨v0, v1, vf0, vf1⟩ := pair_cells q2
  have Q2 := Lib.hid q2
  clear q2 b2 z0 z1 HC hb1
  go_wp2_with fail
  have hres := set_two w1 (w.heap.size + 1) _ _ (.slice none 0 0) (.slice none 0 0) _ Q2.out
  obtain ⟨s0, s1, _, _⟩ := pair_cells hres.1
  obtain ⟨wz, hwz⟩ : ∃ wz, (w1.setCell ⟨w.heap.size + 1, 0, none⟩ (.slice none 0 0)).setCell ⟨w.heap.size + 1, 1, none⟩ (.slice none 0 0) = wz := ⟨_, rfl⟩
  rw [hwz] at hres s0 s1 ⊢
  exact bodyPost_ret (v := .tuple #[.agg #[.slice none 0 0, .slice none 0 0], .int .i64 E]) (by simp [results, Try.results18, go_sem, s0, s1]) rfl ⟨rfl, hb.grown hres.2 hb.size (fun k hk => by injection hk with hk; omega)⟩

set_option maxRecDepth 100000 in
set_option maxHeartbeats 4000000 in
theorem refJoin_fail (A B Ao : Option Addr) (n c m e ro co : Nat) (E : Int) (w : World) (h0 : E ≠ 0)
   (HC : ∀ W, Below w.heap.size w W → Calls Try.prog 15 #[.agg #[.slice A n c, .slice B m e], .slice Ao ro co] W fun x w' => x = .returned (.tuple #[.agg #[.slice none 0 0, .slice none 0 0], .int .i64 E]) ∧ Below W.heap.size W w') :
    Calls Try.prog 17 #[.agg #[.slice A n c, .slice B m e], .slice Ao ro co] w fun x w' => x = .returned (.tuple #[.agg #[.slice none 0 0, .slice none 0 0], .int .i64 E]) ∧ Below w.heap.size w w' := by
  have z0 := (Below.refl w.heap.size w).alloc (Nat.le_refl _) (.cells #[.slice A n c, .slice B m e] 25)
  have z1 := z0.alloc z0.size (.cells #[.slice none 0 0, .slice none 0 0] 25)
  have b2 := zf_snd w (.cells #[.slice none 0 0, .slice none 0 0] 25) (.cells #[.slice A n c, .slice B m e] 25)
  have e1 : (E == 0) = false := by simpa using h0
  have e2 : (E != 0) = true := by simpa using h0
  clear h0
  go_enter Try.func17, Try.ntmps17
  go_wp2_with fail
  refine (HC _ z1).mono ?_
  rintro x w1 ⟨rfl, hb1⟩
  have hb := z1.trans (hb1.mono z1.size)
  have q2 := (hb1.block (w.heap.size + 1) (by simp)).trans b2
  have hsz := hb1.size
  have hal := (Below.refl w1.heap.size w1).alloc (Nat.le_refl _) (.cells #[.slice none 0 0, .slice none 0 0] 25)
  have q4 := (hal.block (w.heap.size + 1) (lt_of_heap q2)).trans q2
  have hb4 := hb.trans (hal.mono hb.size)
  obtain ⟨W5, hW5⟩ : ∃ W5, w1.alloc (.cells #[.slice none 0 0, .slice none 0 0] 25) = W5 := ⟨_, rfl⟩
  rw [hW5] at q4 hb4
  have HW5 := Lib.hid hW5
  obtain ⟨v0, v1, vf0, vf1⟩ := pair_cells q4
  have Q4 := Lib.hid q4
  clear q2 q4 b2 z0 z1 HC hb1 hW5 hal hb
  go_upto_region 2 with fail
  rw [HW5.out]
  go_wp2_with fail
  have hres := set_two W5 (w.heap.size + 1) _ _ (.slice none 0 0) (.slice none 0 0) _ Q4.out
  obtain ⟨s0, s1, _, _⟩ := pair_cells hres.1
  obtain ⟨wz, hwz⟩ : ∃ wz, (W5.setCell ⟨w.heap.size + 1, 0, none⟩ (.slice none 0 0)).setCell ⟨w.heap.size + 1, 1, none⟩ (.slice none 0 0) = wz := ⟨_, rfl⟩
  rw [hwz] at hres s0 s1 ⊢
  exact bodyPost_ret (v := .tuple #[.agg #[.slice none 0 0, .slice none 0 0], .int .i64 E]) (by simp [results, Try.results17, go_sem, s0, s1]) rfl ⟨rfl, hb4.grown hres.2 hb4.size (fun k hk => by injection hk with hk; omega)⟩


set_option maxRecDepth 100000 in
set_option maxHeartbeats 4000000 in
theorem refPlain_fail (A B : Option Addr) (n c m e : Nat) (E : Int) (w : World) (h0 : E ≠ 0)
   (HC : ∀ W, Below w.heap.size w W → Calls Try.prog 17 #[.agg #[.slice A n c, .slice B m e], .slice none 0 0] W fun x w' => x = .returned (.tuple #[.agg #[.slice none 0 0, .slice none 0 0], .int .i64 E]) ∧ Below W.heap.size W w') :
    Calls Try.prog 21 #[.agg #[.slice A n c, .slice B m e]] w fun x w' => x = .returned (.tuple #[.agg #[.slice none 0 0, .slice none 0 0], .int .i64 E]) ∧ Below w.heap.size w w' := by
  have z0 := (Below.refl w.heap.size w).alloc (Nat.le_refl _) (.cells #[.slice A n c, .slice B m e] 25)
  have z1 := z0.alloc z0.size (.cells #[.slice none 0 0, .slice none 0 0] 25)
  have b2 := zf_snd w (.cells #[.slice none 0 0, .slice none 0 0] 25) (.cells #[.slice A n c, .slice B m e] 25)
  have e1 : (E == 0) = false := by simpa using h0
  have e2 : (E != 0) = true := by simpa using h0
  clear h0
  go_enter Try.func21, Try.ntmps21
  go_wp2_with fail
  refine (HC _ z1).mono ?_
  rintro x w1 ⟨rfl, hb1⟩
  have hb := z1.trans (hb1.mono z1.size)
  have q2 := (hb1.block (w.heap.size + 1) (by simp)).trans b2
  have hsz := hb1.size
  have hal := (Below.refl w1.heap.size w1).alloc (Nat.le_refl _) (.cells #[.slice none 0 0, .slice none 0 0] 25)
  have q4 := (hal.block (w.heap.size + 1) (lt_of_heap q2)).trans q2
  have hb4 := hb.trans (hal.mono hb.size)
  obtain ⟨W5, hW5⟩ : ∃ W5, w1.alloc (.cells #[.slice none 0 0, .slice none 0 0] 25) = W5 := ⟨_, rfl⟩
  rw [hW5] at q4 hb4
  have HW5 := Lib.hid hW5
  obtain ⟨v0, v1, vf0, vf1⟩ := pair_cells q4
  have Q4 := Lib.hid q4
  clear q2 q4 b2 z0 z1 HC hb1 hW5 hal hb
  go_upto_region 2 with fail
  rw [HW5.out]
  go_wp2_with fail
  have hres := set_two W5 (w.heap.size + 1) _ _ (.slice none 0 0) (.slice none 0 0) _ Q4.out
  obtain ⟨s0, s1, _, _⟩ := pair_cells hres.1
  obtain ⟨wz, hwz⟩ : ∃ wz, (W5.setCell ⟨w.heap.size + 1, 0, none⟩ (.slice none 0 0)).setCell ⟨w.heap.size + 1, 1, none⟩ (.slice none 0 0) = wz := ⟨_, rfl⟩
  rw [hwz] at hres s0 s1 ⊢
  exact bodyPost_ret (v := .tuple #[.agg #[.slice none 0 0, .slice none 0 0], .int .i64 E]) (by simp [results, Try.results21, go_sem, s0, s1]) rfl ⟨rfl, hb4.grown hres.2 hb4.size (fun k hk => by injection hk with hk; omega)⟩


set_option maxRecDepth 100000 in
set_option maxHeartbeats 4000000 in
theorem cooPlain_fail (A B : Option Addr) (n c m e : Nat) (E : Int) (w : World) (h0 : E ≠ 0)
   (HC : ∀ W, Below w.heap.size w W → Calls Try.prog 16 #[.agg #[.slice A n c, .slice B m e], .slice none 0 0] W fun x w' => x = .returned (.tuple #[.agg #[.slice none 0 0, .slice none 0 0], .int .i64 E]) ∧ Below W.heap.size W w') :
    Calls Try.prog 20 #[.agg #[.slice A n c, .slice B m e]] w fun x w' => x = .returned (.tuple #[.agg #[.slice none 0 0, .slice none 0 0], .int .i64 E]) ∧ Below w.heap.size w w' := by
  have z0 := (Below.refl w.heap.size w).alloc (Nat.le_refl _) (.cells #[.slice A n c, .slice B m e] 25)
  have z1 := z0.alloc z0.size (.cells #[.slice none 0 0, .slice none 0 0] 25)
  have b2 := zf_snd w (.cells #[.slice none 0 0, .slice none 0 0] 25) (.cells #[.slice A n c, .slice B m e] 25)
  have e1 : (E == 0) = false := by simpa using h0
  have e2 : (E != 0) = true := by simpa using h0
  clear h0
  go_enter Try.func20, Try.ntmps20
  go_wp2_with fail
  refine (HC _ z1).mono ?_
  rintro x w1 ⟨rfl, hb1⟩
  have hb := z1.trans (hb1.mono z1.size)
  have q2 := (hb1.block (w.heap.size + 1) (by simp)).trans b2
  have hsz := hb1.size
  have hal := (Below.refl w1.heap.size w1).alloc (Nat.le_refl _) (.cells #[.slice none 0 0, .slice none 0 0] 25)
  have q4 := (hal.block (w.heap.size + 1) (lt_of_heap q2)).trans q2
  have hb4 := hb.trans (hal.mono hb.size)
  obtain ⟨W5, hW5⟩ : ∃ W5, w1.alloc (.cells #[.slice none 0 0, .slice none 0 0] 25) = W5 := ⟨_, rfl⟩
  rw [hW5] at q4 hb4
  have HW5 := Lib.hid hW5
  obtain ⟨v0, v1, vf0, vf1⟩ := pair_cells q4
  have Q4 := Lib.hid q4
  clear q2 q4 b2 z0 z1 HC hb1 hW5 hal hb
  go_upto_region 2 with fail
  rw [HW5.out]
  go_wp2_with fail
  have hres := set_two W5 (w.heap.size + 1) _ _ (.slice none 0 0) (.slice none 0 0) _ Q4.out
  obtain ⟨s0, s1, _, _⟩ := pair_cells hres.1
  obtain ⟨wz, hwz⟩ : ∃ wz, (W5.setCell ⟨w.heap.size + 1, 0, none⟩ (.slice none 0 0)).setCell ⟨w.heap.size + 1, 1, none⟩ (.slice none 0 0) = wz := ⟨_, rfl⟩
  rw [hwz] at hres s0 s1 ⊢
  exact bodyPost_ret (v := .tuple #[.agg #[.slice none 0 0, .slice none 0 0], .int .i64 E]) (by simp [results, Try.results20, go_sem, s0, s1]) rfl ⟨rfl, hb4.grown hres.2 hb4.size (fun k hk => by injection hk with hk; omega)⟩


end Go.Proofs.Ytpfabbapfmfmmaa
