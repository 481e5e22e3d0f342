/- The errors of Turn, Of and Count, the program's and the document's. -/
import Derived.Test.YtpfabbapfmfmmaaG14
import Derived.Test.YtpfabbapfmfmmaaG16
import Derived.Test.YtpfabbapfmfmmaaG4
import Derived.Test.YtpfabbapfmfmmaaG11
namespace Go.Proofs.Ytpfabbapfmfmmaa
open Go.RowKit


set_option maxRecDepth 100000 in
set_option maxHeartbeats 4000000 in
theorem refTurn_bad1 (A B Ao : Option Addr) (n c m e ro co : Nat) (xs : List Int) (es : List Ent) (w : World) (h : CooV w A n B m xs es) (hn : n ≤ 9223372036854775807) (hm : m ≤ 9223372036854775807) (E : Int) (hE : Hid (cooF xs es = E)) (h0 : E ≠ 0) :
    Calls Try.prog 28 #[.agg #[.slice A n c, .slice B m e], .slice Ao ro co] w fun x w' => x = .returned (.tuple #[.agg #[.slice none 0 0, .slice none 0 0], .int .i64 E]) ∧ Below w.heap.size w w' := by
  have z0 := (Below.refl w.heap.size w).alloc (Nat.le_refl _) (.cells #[.slice A n c, .slice B m e] 25)
  have z1 := z0.alloc z0.size (.cells #[.slice none 0 0, .slice none 0 0] 25)
  have b2 := zf_snd w (.cells #[.slice none 0 0, .slice none 0 0] 25) (.cells #[.slice A n c, .slice B m e] 25)
  have HC := refCooCheck_any A B n c m e xs es _ (h.below z1).1 hn (h.below z1).2 hm
  rw [hE.out] at HC
  have e1 : (E == 0) = false := by simpa using h0
  have e2 : (E != 0) = true := by simpa using h0
  clear h0 h
  go_enter Try.func28, Try.ntmps28
  go_wp2_with fail
  refine HC.mono ?_
  rintro x w1 ⟨rfl, hb1⟩
  have hb := z1.trans (hb1.mono z1.size)
  have q2 := (hb1.block (w.heap.size + 1) (by simp)).trans b2
  obtain ⟨v0, v1, vf0, vf1⟩ := pair_cells q2
  have Q2 := Lib.hid q2
  clear q2 b2 z0 z1 HC hb1
  go_wp2_with fail
  have hres := set_two w1 (w.heap.size + 1) _ _ (.slice none 0 0) (.slice none 0 0) _ Q2.out
  obtain ⟨s0, s1, _, _⟩ := pair_cells hres.1
  obtain ⟨wz, hwz⟩ : ∃ wz, (w1.setCell ⟨w.heap.size + 1, 0, none⟩ (.slice none 0 0)).setCell ⟨w.heap.size + 1, 1, none⟩ (.slice none 0 0) = wz := ⟨_, rfl⟩
  rw [hwz] at hres s0 s1 ⊢
  exact bodyPost_ret (v := .tuple #[.agg #[.slice none 0 0, .slice none 0 0], .int .i64 E]) (by simp [results, Try.results28, go_sem, s0, s1]) rfl ⟨rfl, hb.grown hres.2 hb.size (fun k hk => by injection hk with hk; omega)⟩

set_option maxRecDepth 100000 in
set_option maxHeartbeats 4000000 in
theorem refTurn_bad2 (A B Ao : Option Addr) (n c m e ro co : Nat) (xs os : List Int) (es : List Ent) (w : World) (h : CooV w A n B m xs es) (hm : m ≤ 9223372036854775807) (hE : Hid (cooF xs es = 0)) (ho : Ints w w.heap.size Ao ro os) (hro : ro ≤ 9223372036854775807) (hok : ¬ OrdOk n os) (E : Int) (hE1 : E = 1) :
    Calls Try.prog 28 #[.agg #[.slice A n c, .slice B m e], .slice Ao ro co] w fun x w' => x = .returned (.tuple #[.agg #[.slice none 0 0, .slice none 0 0], .int .i64 E]) ∧ Below w.heap.size w w' := by
  have hn4 : n ≤ 4 := by rw [← h.1.1]; exact (cellsF_ok (cooF_parts hE.out).1).1
  have z0 := (Below.refl w.heap.size w).alloc (Nat.le_refl _) (.cells #[.slice A n c, .slice B m e] 25)
  have z1 := z0.alloc z0.size (.cells #[.slice none 0 0, .slice none 0 0] 25)
  have b1 := zf_two w (.cells #[.slice A n c, .slice B m e] 25) (.cells #[.slice none 0 0, .slice none 0 0] 25)
  have b2 := zf_snd w (.cells #[.slice none 0 0, .slice none 0 0] 25) (.cells #[.slice A n c, .slice B m e] 25)
  have HC := refCooCheck_any A B n c m e xs es _ (h.below z1).1 (by omega) (h.below z1).2 hm
  rw [hE.out] at HC
  have HOR := fun W (hb : Below w.heap.size w W) => refOrder_no Ao n ro co os W ((ho.below hb).more hb.size) (by omega) hro hok
  clear h ho hok hE
  go_enter Try.func28, Try.ntmps28
  go_wp2_with fail
  refine HC.mono ?_
  rintro x w1 ⟨rfl, hb1⟩
  have hb := z1.trans (hb1.mono z1.size)
  have q1 := (hb1.block w.heap.size (by simp; omega)).trans b1
  have q2 := (hb1.block (w.heap.size + 1) (by simp)).trans b2
  obtain ⟨k0, k1, _, _⟩ := pair_cells q1
  clear b1 b2 z0 z1 HC hb1 q1
  go_wp2_with fail
  refine (HOR _ hb).mono ?_
  rintro x w2 ⟨rfl, hb2⟩
  have hb3 := hb.trans (hb2.mono hb.size)
  have q3 := heapAt hb2 q2
  obtain ⟨v0, v1, vf0, vf1⟩ := pair_cells q3
  have Q2 := Lib.hid q3
  clear k0 k1 q2 q3 hb hb2 HOR
  go_wp2_with fail
  have hres := set_two w2 (w.heap.size + 1) _ _ (.slice none 0 0) (.slice none 0 0) _ Q2.out
  obtain ⟨s0, s1, _, _⟩ := pair_cells hres.1
  obtain ⟨wz, hwz⟩ : ∃ wz, (w2.setCell ⟨w.heap.size + 1, 0, none⟩ (.slice none 0 0)).setCell ⟨w.heap.size + 1, 1, none⟩ (.slice none 0 0) = wz := ⟨_, rfl⟩
  rw [hwz] at hres s0 s1 ⊢
  subst hE1
  exact bodyPost_ret (v := .tuple #[.agg #[.slice none 0 0, .slice none 0 0], .int .i64 1]) (by simp [results, Try.results28, go_sem, s0, s1]) rfl ⟨rfl, hb3.grown hres.2 hb3.size (fun k hk => by injection hk with hk; omega)⟩

set_option maxRecDepth 100000 in
set_option maxHeartbeats 4000000 in
theorem refOf_bad (A B : Option Addr) (n c m e : Nat) (xs : List Int) (w : World) (h : Ints w w.heap.size A n xs) (hn : n ≤ 9223372036854775807) (E : Int) (hE : Hid (checkF xs m = E)) (h0 : E ≠ 0) :
    Calls Try.prog 32 #[.agg #[.slice A n c, .slice B m e]] w fun x w' => x = .returned (.tuple #[.agg #[.slice none 0 0, .slice none 0 0], .int .i64 E]) ∧ Below w.heap.size w w' := by
  have z0 := (Below.refl w.heap.size w).alloc (Nat.le_refl _) (.cells #[.slice A n c, .slice B m e] 41)
  have z1 := z0.alloc z0.size (.cells #[.slice none 0 0, .slice none 0 0] 25)
  have b2 := zf_snd w (.cells #[.slice none 0 0, .slice none 0 0] 25) (.cells #[.slice A n c, .slice B m e] 41)
  have HC := refCheck_any A B n c m e xs _ ((h.below z1).more z1.size) hn
  rw [hE.out] at HC
  have e1 : (E == 0) = false := by simpa using h0
  have e2 : (E != 0) = true := by simpa using h0
  clear h0 h
  go_enter Try.func32, Try.ntmps32
  go_wp2_with fail
  refine HC.mono ?_
  rintro x w1 ⟨rfl, hb1⟩
  have hb := z1.trans (hb1.mono z1.size)
  have q2 := (hb1.block (w.heap.size + 1) (by simp)).trans b2
  obtain ⟨v0, v1, vf0, vf1⟩ := pair_cells q2
  have Q2 := Lib.hid q2
  clear q2 b2 z0 z1 HC hb1
  go_wp2_with fail
  have hres := set_two w1 (w.heap.size + 1) _ _ (.slice none 0 0) (.slice none 0 0) _ Q2.out
  obtain ⟨s0, s1, _, _⟩ := pair_cells hres.1
  obtain ⟨wz, hwz⟩ : ∃ wz, (w1.setCell ⟨w.heap.size + 1, 0, none⟩ (.slice none 0 0)).setCell ⟨w.heap.size + 1, 1, none⟩ (.slice none 0 0) = wz := ⟨_, rfl⟩
  rw [hwz] at hres s0 s1 ⊢
  exact bodyPost_ret (v := .tuple #[.agg #[.slice none 0 0, .slice none 0 0], .int .i64 E]) (by simp [results, Try.results32, go_sem, s0, s1]) rfl ⟨rfl, hb.grown hres.2 hb.size (fun k hk => by injection hk with hk; omega)⟩

set_option maxRecDepth 100000 in
set_option maxHeartbeats 4000000 in
theorem cooOf_bad (A B : Option Addr) (n c m e : Nat) (xs : List Int) (w : World) (h : Ints w w.heap.size A n xs) (hn : n ≤ 9223372036854775807) (E : Int) (hE : Hid (checkF xs m = E)) (h0 : E ≠ 0) :
    Calls Try.prog 31 #[.agg #[.slice A n c, .slice B m e]] w fun x w' => x = .returned (.tuple #[.agg #[.slice none 0 0, .slice none 0 0], .int .i64 E]) ∧ Below w.heap.size w w' := by
  have z0 := (Below.refl w.heap.size w).alloc (Nat.le_refl _) (.cells #[.slice A n c, .slice B m e] 41)
  have z1 := z0.alloc z0.size (.cells #[.slice none 0 0, .slice none 0 0] 25)
  have b2 := zf_snd w (.cells #[.slice none 0 0, .slice none 0 0] 25) (.cells #[.slice A n c, .slice B m e] 41)
  have HC := check_any A B n c m e xs _ ((h.below z1).more z1.size) hn
  rw [hE.out] at HC
  have e1 : (E == 0) = false := by simpa using h0
  have e2 : (E != 0) = true := by simpa using h0
  clear h0 h
  go_enter Try.func31, Try.ntmps31
  go_wp2_with fail
  refine HC.mono ?_
  rintro x w1 ⟨rfl, hb1⟩
  have hb := z1.trans (hb1.mono z1.size)
  have q2 := (hb1.block (w.heap.size + 1) (by simp)).trans b2
  obtain ⟨v0, v1, vf0, vf1⟩ := pair_cells q2
  have Q2 := Lib.hid q2
  clear q2 b2 z0 z1 HC hb1
  go_wp2_with fail
  have hres := set_two w1 (w.heap.size + 1) _ _ (.slice none 0 0) (.slice none 0 0) _ Q2.out
  obtain ⟨s0, s1, _, _⟩ := pair_cells hres.1
  obtain ⟨wz, hwz⟩ : ∃ wz, (w1.setCell ⟨w.heap.size + 1, 0, none⟩ (.slice none 0 0)).setCell ⟨w.heap.size + 1, 1, none⟩ (.slice none 0 0) = wz := ⟨_, rfl⟩
  rw [hwz] at hres s0 s1 ⊢
  exact bodyPost_ret (v := .tuple #[.agg #[.slice none 0 0, .slice none 0 0], .int .i64 E]) (by simp [results, Try.results31, go_sem, s0, s1]) rfl ⟨rfl, hb.grown hres.2 hb.size (fun k hk => by injection hk with hk; omega)⟩

set_option maxRecDepth 100000 in
set_option maxHeartbeats 4000000 in
theorem refCount_bad1 (A B : Option Addr) (n c m e : Nat) (md : Int) (xs : List Int) (es : List Ent) (w : World) (h : CooV w A n B m xs es) (hn : n ≤ 9223372036854775807) (hm : m ≤ 9223372036854775807) (E : Int) (hE : Hid (cooF xs es = E)) (h0 : E ≠ 0) :
    Calls Try.prog 34 #[.agg #[.slice A n c, .slice B m e], .int .i64 md] w fun x w' => x = .returned (.tuple #[.slice none 0 0, .int .i64 E]) ∧ Below w.heap.size w w' := by
  have z0 := (Below.refl w.heap.size w).alloc (Nat.le_refl _) (.cells #[.slice A n c, .slice B m e] 25)
  have HC := refCooCheck_any A B n c m e xs es _ (h.below z0).1 hn (h.below z0).2 hm
  rw [hE.out] at HC
  have e1 : (E == 0) = false := by simpa using h0
  have e2 : (E != 0) = true := by simpa using h0
  clear h0 h
  go_enter Try.func34, Try.ntmps34
  go_wp2_with fail
  refine HC.mono ?_
  rintro x w1 ⟨rfl, hb1⟩
  have hb := z0.trans (hb1.mono z0.size)
  clear z0 HC hb1
  go_wp2_with fail
  go_ret2
  exact ⟨rfl, hb⟩

set_option maxRecDepth 100000 in
set_option maxHeartbeats 4000000 in
theorem refCount_bad3 (A B : Option Addr) (n c m e : Nat) (md : Int) (xs : List Int) (es : List Ent) (w : World) (h : CooV w A n B m xs es) (hn : n ≤ 9223372036854775807) (hm : m ≤ 9223372036854775807) (hE : Hid (cooF xs es = 0)) (hmd : md < 0 ∨ (n : Int) ≤ md) :
    Calls Try.prog 34 #[.agg #[.slice A n c, .slice B m e], .int .i64 md] w fun x w' => x = .returned (.tuple #[.slice none 0 0, .int .i64 3]) ∧ Below w.heap.size w w' := by
  have z0 := (Below.refl w.heap.size w).alloc (Nat.le_refl _) (.cells #[.slice A n c, .slice B m e] 25)
  have b1 := heap_alloc_new w (.cells #[.slice A n c, .slice B m e] 25)
  have HC := refCooCheck_any A B n c m e xs es _ (h.below z0).1 hn (h.below z0).2 hm
  rw [hE.out] at HC
  clear h
  by_cases hneg : md < 0
  · have d1 : decide (md < 0) = true := by simpa using hneg
    clear hneg hmd b1
    go_enter Try.func34, Try.ntmps34
    go_wp2_with fail
    refine HC.mono ?_
    rintro x w1 ⟨rfl, hb1⟩
    have hb := z0.trans (hb1.mono z0.size)
    clear z0 HC hb1
    go_wp2_with fail
    go_ret2
    exact ⟨rfl, hb⟩
  · have d1 : decide (md < 0) = false := by simpa using hneg
    have d2 : decide ((n : Int) ≤ md) = true := by simp; omega
    clear hmd
    go_enter Try.func34, Try.ntmps34
    go_wp2_with fail
    refine HC.mono ?_
    rintro x w1 ⟨rfl, hb1⟩
    have hb := z0.trans (hb1.mono z0.size)
    obtain ⟨k0, k1, _, _⟩ := pair_cells (heapAt hb1 b1)
    clear z0 HC hb1 b1
    go_wp2_with fail
    go_ret2
    exact ⟨rfl, hb⟩

set_option maxRecDepth 100000 in
set_option maxHeartbeats 4000000 in
theorem cooCnt_bad1 (A B : Option Addr) (n c m e : Nat) (md : Int) (xs : List Int) (es : List Ent) (w : World) (h : CooV w A n B m xs es) (hn : n ≤ 9223372036854775807) (hm : m ≤ 9223372036854775807) (E : Int) (hE : Hid (cooF xs es = E)) (h0 : E ≠ 0) :
    Calls Try.prog 33 #[.agg #[.slice A n c, .slice B m e], .int .i64 md] w fun x w' => x = .returned (.tuple #[.slice none 0 0, .int .i64 E]) ∧ Below w.heap.size w w' := by
  have z0 := (Below.refl w.heap.size w).alloc (Nat.le_refl _) (.cells #[.slice A n c, .slice B m e] 25)
  have HC := cooCheck_any A B n c m e xs es _ (h.below z0).1 hn (h.below z0).2 hm
  rw [hE.out] at HC
  have e1 : (E == 0) = false := by simpa using h0
  have e2 : (E != 0) = true := by simpa using h0
  clear h0 h
  go_enter Try.func33, Try.ntmps33
  go_wp2_with fail
  refine HC.mono ?_
  rintro x w1 ⟨rfl, hb1⟩
  have hb := z0.trans (hb1.mono z0.size)
  clear z0 HC hb1
  go_wp2_with fail
  go_ret2
  exact ⟨rfl, hb⟩

set_option maxRecDepth 100000 in
set_option maxHeartbeats 4000000 in
theorem cooCnt_bad3 (A B : Option Addr) (n c m e : Nat) (md : Int) (xs : List Int) (es : List Ent) (w : World) (h : CooV w A n B m xs es) (hn : n ≤ 9223372036854775807) (hm : m ≤ 9223372036854775807) (hE : Hid (cooF xs es = 0)) (hmd : md < 0 ∨ (n : Int) ≤ md) :
    Calls Try.prog 33 #[.agg #[.slice A n c, .slice B m e], .int .i64 md] w fun x w' => x = .returned (.tuple #[.slice none 0 0, .int .i64 3]) ∧ Below w.heap.size w w' := by
  have z0 := (Below.refl w.heap.size w).alloc (Nat.le_refl _) (.cells #[.slice A n c, .slice B m e] 25)
  have b1 := heap_alloc_new w (.cells #[.slice A n c, .slice B m e] 25)
  have HC := cooCheck_any A B n c m e xs es _ (h.below z0).1 hn (h.below z0).2 hm
  rw [hE.out] at HC
  clear h
  by_cases hneg : md < 0
  · have d1 : decide (md < 0) = true := by simpa using hneg
    clear hneg hmd b1
    go_enter Try.func33, Try.ntmps33
    go_wp2_with fail
    refine HC.mono ?_
    rintro x w1 ⟨rfl, hb1⟩
    have hb := z0.trans (hb1.mono z0.size)
    clear z0 HC hb1
    go_wp2_with fail
    go_ret2
    exact ⟨rfl, hb⟩
  · have d1 : decide (md < 0) = false := by simpa using hneg
    have d2 : decide ((n : Int) ≤ md) = true := by simp; omega
    clear hmd
    go_enter Try.func33, Try.ntmps33
    go_wp2_with fail
    refine HC.mono ?_
    rintro x w1 ⟨rfl, hb1⟩
    have hb := z0.trans (hb1.mono z0.size)
    obtain ⟨k0, k1, _, _⟩ := pair_cells (heapAt hb1 b1)
    clear z0 HC hb1 b1
    go_wp2_with fail
    go_ret2
    exact ⟨rfl, hb⟩

set_option maxRecDepth 100000 in
set_option maxHeartbeats 2000000 in
theorem refCount_large (A B : Option Addr) (n c m e md : Nat) (xs : List Int) (es : List Ent) (w : World) (h : Ints w w.heap.size A n xs) (hn : n ≤ 9223372036854775807) (hv : Ents w w.heap.size B m es) (hm : m ≤ 9223372036854775807) (hck : cooF xs es = 0) (hmd : md < n) (hsz : 65536 < xs.getD md 0) :
    Calls Try.prog 34 #[.agg #[.slice A n c, .slice B m e], .int .i64 (md : Int)] w fun x w' => x = .returned (.tuple #[.slice none 0 0, .int .i64 2]) ∧ Below w.heap.size w w' := by
  have HC := fun W (hb : Below w.heap.size w W) => refCooCheck_any A B n c m e xs es W ((h.below hb).more hb.size) hn ((hv.below hb).more hb.size) hm
  rw [hck] at HC
  have hB0 : Below w.heap.size w (w.alloc (.cells #[.slice A n c, .slice B m e] 25)) := (Below.refl _ w).alloc (Nat.le_refl _) _
  have z0 := heap_alloc_new w (.cells #[.slice A n c, .slice B m e] 25)
  obtain ⟨b, off, x, rfl, hbb, HX, hcx, hx1, hx2⟩ := h.at_ hmd
  have hgx : xs.getD md 0 = x := by simp [List.getD, HX.out]
  rw [hgx] at hsz
  have d1 : decide ((md : Int) < 0) = false := by simp
  have d2 : decide (n ≤ md) = false := by simp; omega
  have d3 : decide (65536 < x) = true := by simpa using hsz
  have hmk0 : (0 : Int) ≤ (md : Int) := by omega
  have hmk1 : (md : Int) < (n : Int) := by omega
  clear hck hgx
  go_enter Try.func34, Try.ntmps34
  go_wp2_with (go_at_call 24; refine (HC _ hB0).mono ?_; rintro y w1 ⟨rfl, hb1⟩; have hT := hB0.trans (hb1.mono hB0.size); replace z0 := dKeep hb1 z0; obtain ⟨k0, k1, _, _⟩ := dCells z0; have hcx1 := (hT.cell (p := ⟨b, off + md, none⟩) hbb).trans hcx)
  go_ret2
  exact ⟨rfl, hT⟩

end Go.Proofs.Ytpfabbapfmfmmaa
