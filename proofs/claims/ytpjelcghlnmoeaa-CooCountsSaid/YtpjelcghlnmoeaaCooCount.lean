/- coo.Count, and the document's, where they have no error. -/
import Derived.Test.YtpjelcghlnmoeaaCooCheck
namespace Go.Proofs.Ytpjelcghlnmoeaa
open Go.RowKit

/-- the number that entry k has in a mode -/
def modeAt (es : List Ent) (md k : Nat) : Nat := ((es[k]?.getD ⟨none, 0, 0, [], 0⟩).cs.getD md 0).toNat
/-- of each place how many -/
def countV (xs : List Int) (md : Nat) (es : List Ent) : List Int := scat (modeAt es md) (xs.getD md 0).toNat (List.replicate es.length 1)
theorem cooF_parts {xs : List Int} {es : List Ent} (h : cooF xs es = 0) : (cellsF xs).2 = 0 ∧ es.length ≤ 65536 ∧ ∀ x ∈ es, insideF xs x.cs = true := by
  unfold cooF at h
  split at h
  · rename_i h1
    split at h
    · simp at h
    · rename_i h2
      split at h
      · rename_i h3; exact ⟨h1, by omega, fun x hx => List.all_eq_true.1 h3 x hx⟩
      · simp at h
  · rename_i h1; exact absurd h h1

set_option maxRecDepth 100000 in
set_option maxHeartbeats 2000000 in
theorem cooCount_ok (A B : Option Addr) (n c m e md : Nat) (xs : List Int) (es : List Ent) (w : World) (h : Ints w w.heap.size A n xs) (hn : n ≤ 9223372036854775807) (hv : Ents w w.heap.size B m es) (hm : m ≤ 9223372036854775807) (hck : cooF xs es = 0) (hmd : md < n) (hsz : xs.getD md 0 ≤ 65536) :
    Calls Try.prog 33 #[.agg #[.slice A n c, .slice B m e], .int .i64 (md : Int)] w fun x w' => ∃ A1 c1, x = .returned (.tuple #[.slice A1 (countV xs md es).length c1, .int .i64 0]) ∧ OwnI w' w.heap.size 3 A1 c1 (countV xs md es) ∧ Below w.heap.size w w' := by
  have HC := fun W (hb : Below w.heap.size w W) => cooCheck_any A B n c m e xs es W ((h.below hb).more hb.size) hn ((hv.below hb).more hb.size) hm
  rw [hck] at HC
  obtain ⟨p1, p2, p3⟩ := cooF_parts hck
  have HL := Lib.hid h.1
  have HL2 := Lib.hid hv.1
  have hm65 : m ≤ 65536 := by rw [← hv.1]; exact p2
  have hB0 : Below w.heap.size w (w.alloc (.cells #[.slice A n c, .slice B m e] 25)) := (Below.refl _ w).alloc (Nat.le_refl _) _
  have z0 := heap_alloc_new w (.cells #[.slice A n c, .slice B m e] 25)
  obtain ⟨b, off, x, rfl, hbb, HX, hcx, hx1, hx2⟩ := h.at_ hmd
  have hx0 : 0 ≤ x := (cellsF_ok p1).2 x (List.mem_of_getElem? HX.out)
  have hgx : xs.getD md 0 = x := by simp [List.getD, HX.out]
  rw [hgx] at hsz
  obtain ⟨M, rfl⟩ : ∃ M : Nat, x = (M : Int) := ⟨x.toNat, by omega⟩
  obtain ⟨i0, hi0, hz0, hz1, hz2⟩ := info_parts infoInt
  have hmk := fun W => run_makeAll (P := Try.prog) 22 3 i0 Try.underlying22 hi0 hz0 hz1 hz2 M (by omega) W
  have d1 : decide ((md : Int) < 0) = false := by simp
  have d2 : decide (n ≤ md) = false := by simp; omega
  have d3 : decide (65536 < (M : Int)) = false := by simp; omega
  have HP := Lib.hid p3
  have HM : Hid ((xs.getD md 0).toNat = M) := by unfold Hid; rw [hgx]; omega
  have hmk0 : (0 : Int) ≤ (md : Int) := by omega
  have hmk1 : (md : Int) < (n : Int) := by omega
  clear hck p1 p2 p3 hgx
  go_enter Try.func33, Try.ntmps33
  go_wp2_with (go_at_call 23; refine (HC _ hB0).mono ?_; rintro y w1 ⟨rfl, hb1⟩; have hT := hB0.trans (hb1.mono hB0.size); replace z0 := dKeep hb1 z0; obtain ⟨k0, k1, _, _⟩ := dCells z0; have hcx1 := (hT.cell (p := ⟨b, off + md, none⟩) hbb).trans hcx; have k2 := fun o => cellPast o k1)
  have HO := own_made w1 3 M w.heap.size hT.size (by omega)
  have HO0 : OwnI (w1.alloc (.cells (madeCells #[.int .i64 0] M) 3)) w.heap.size 3 (some ⟨w1.heap.size, 0, none⟩) M (scat (modeAt es md) M ((List.replicate m 1).take 0)) := by rw [List.take_zero, scat_nil]; exact HO
  have zz := (Below.heap_alloc w1 (.cells (madeCells #[.int .i64 0] M) 3) _ (Array.getElem?_eq_some_iff.1 z0).1).trans z0
  have hT0 := hT.alloc hT.size (.cells (madeCells #[.int .i64 0] M) 3)
  have hgs := hT.size
  clear k0 k1 k2 HO hcx1 z0 hT hb1 hmk HC
  go_loopw [39] (fun i wr => ∃ q : Nat, q ≤ m ∧ i = .int .i64 q ∧ OwnI wr w.heap.size 3 (some ⟨w1.heap.size, 0, none⟩) M (scat (modeAt es md) M ((List.replicate m 1).take q)) ∧ wr.heap[w.heap.size]? = some (.cells #[.slice (some ⟨b, off, none⟩) n c, .slice B m e] 25 (0, 0)) ∧ Below w.heap.size w wr) (fun i _ => m - (intOf i).toNat)
  case atStart => exact ⟨0, Nat.zero_le _, rfl, HO0, zz, hT0⟩
  case round =>
    clear HO0 zz hT0
    obtain ⟨q, hq, rfl, HO, z0, hT⟩ := hrel
    obtain ⟨k0, k1, _, _⟩ := dCells z0
    by_cases hlt : q < m
    · obtain ⟨b2, off2, y, rfl, hb2, HY, hc0, hc1, iy, hy1, hy2, hy3, hy4⟩ := (hv.below hT).at_ hlt
      have hin := inn_of_insideF (HP.out y (List.mem_of_getElem? HY.out))
      have hyn : y.n = n := by rw [← iy.1, ← hin.len, HL.out]
      have hc2 : wr.cell? ⟨b2, off2 + q * 2, none⟩ = some (.slice y.A y.n y.c) := by rw [Nat.mul_comm q 2]; exact hc0
      have hc3 : wr.cell? ⟨b2, off2 + q * 2 + 1, none⟩ = some (.int .i64 y.v) := by rw [Nat.mul_comm q 2]; exact hc1
      have hmode : modeAt es md q = (y.cs.getD md 0).toNat := by unfold modeAt; rw [HY.out]; rfl
      obtain ⟨yA, yn, yc, ycs, yv⟩ := y
      dsimp only at hc0 hc1 hc2 hc3 iy hy1 hy2 hy3 hy4 hin hyn hmode
      subst hyn
      obtain ⟨b3, off3, cj, rfl, hb3, HJ, hcj, hj1, hj2⟩ := iy.at_ (k := md) hmd
      have hjb := hin.at_ HX.out HJ.out
      have hgd : ycs.getD md 0 = cj := by simp [List.getD, HJ.out]
      obtain ⟨j, rfl⟩ : ∃ j : Nat, cj = (j : Int) := ⟨cj.toNat, by omega⟩
      rw [hgd, Int.toNat_natCast] at hmode
      have hjM : j < M := by omega
      obtain ⟨x0, hx0'⟩ : ∃ x0, (scat (modeAt es md) M ((List.replicate m 1).take q))[modeAt es md q]? = some x0 := ⟨_, scat_at _ (by rw [hmode]; exact hjM)⟩
      have hstep := scat_step (V := List.replicate m 1) (k := q) (v := 1) (by rw [List.getElem?_replicate, if_pos hlt]) hx0'
      rw [hmode] at hx0' hstep
      obtain ⟨v, hvv⟩ : ∃ v, wrap64 (x0 + 1) = v := ⟨_, rfl⟩
      have hv1 : IntKind.i64.wrap (x0 + 1) = v := by rw [wrap_eq, hvv]
      have hvr := wrap64_range (x0 + 1)
      rw [hvv] at hstep hvr
      have HOa := HO.alloc (.cells #[.slice (some ⟨b3, off3, none⟩) yn yc, .int .i64 yv] 37)
      obtain ⟨hcz, hfz⟩ := HOa.cell_ hx0'
      have hset := HOa.set_ j v hvr
      rw [← hstep] at hset
      have hcj2 := fun o => cellPast o hcj
      have z1 := (Below.heap_alloc wr (.cells #[.slice (some ⟨b3, off3, none⟩) yn yc, .int .i64 yv] 37) _ (Array.getElem?_eq_some_iff.1 z0).1).trans z0
      have n0 := HOa.ne z1 (by decide)
      have y0 := (Below.heap_setCell _ ⟨w1.heap.size, j, none⟩ (.int .i64 v) _ (fun e => n0 (by rw [e]))).trans z1
      have hT2 := (hT.alloc hT.size (.cells #[.slice (some ⟨b3, off3, none⟩) yn yc, .int .i64 yv] 37)).setCell (p := ⟨w1.heap.size, j, none⟩) (by show w.heap.size ≤ w1.heap.size; exact hgs) (.int .i64 v)
      have hj0 : (0 : Int) ≤ (j : Int) := by omega
      have hj3 : (j : Int) < (M : Int) := by omega
      clear hmode hx0' hstep hvv hgd HO HOa z0 z1 n0 hin
      go_wp2_with fail
      go_roundw
      case rel => exact ⟨q + 1, by omega, by go_num, hset, y0, hT2⟩
      case measure => simp [intOf]; omega
    · obtain rfl : q = m := by omega
      rw [List.take_of_length_le (by simp)] at HO
      have hcv : scat (modeAt es md) M (List.replicate q 1) = countV xs md es := by unfold countV; rw [HM.out, HL2.out]
      rw [hcv] at HO
      have hl : (countV xs md es).length = M := by rw [← hcv, scat_length]
      have HH := Lib.hid hl
      clear hcv hl
      go_wp2_with fail
      go_ret2
      exact ⟨_, _, by rw [HH.out]; rfl, HO, hT⟩
set_option maxRecDepth 100000 in
set_option maxHeartbeats 2000000 in
theorem refCooCount_ok (A B : Option Addr) (n c m e md : Nat) (xs : List Int) (es : List Ent) (w : World) (h : Ints w w.heap.size A n xs) (hn : n ≤ 9223372036854775807) (hv : Ents w w.heap.size B m es) (hm : m ≤ 9223372036854775807) (hck : cooF xs es = 0) (hmd : md < n) (hsz : xs.getD md 0 ≤ 65536) :
    Calls Try.prog 34 #[.agg #[.slice A n c, .slice B m e], .int .i64 (md : Int)] w fun x w' => ∃ A1 c1, x = .returned (.tuple #[.slice A1 (countV xs md es).length c1, .int .i64 0]) ∧ OwnI w' w.heap.size 3 A1 c1 (countV xs md es) ∧ Below w.heap.size w w' := by
  have HC := fun W (hb : Below w.heap.size w W) => refCooCheck_any A B n c m e xs es W ((h.below hb).more hb.size) hn ((hv.below hb).more hb.size) hm
  rw [hck] at HC
  obtain ⟨p1, p2, p3⟩ := cooF_parts hck
  have HL := Lib.hid h.1
  have HL2 := Lib.hid hv.1
  have hm65 : m ≤ 65536 := by rw [← hv.1]; exact p2
  have hB0 : Below w.heap.size w (w.alloc (.cells #[.slice A n c, .slice B m e] 25)) := (Below.refl _ w).alloc (Nat.le_refl _) _
  have z0 := heap_alloc_new w (.cells #[.slice A n c, .slice B m e] 25)
  obtain ⟨b, off, x, rfl, hbb, HX, hcx, hx1, hx2⟩ := h.at_ hmd
  have hx0 : 0 ≤ x := (cellsF_ok p1).2 x (List.mem_of_getElem? HX.out)
  have hgx : xs.getD md 0 = x := by simp [List.getD, HX.out]
  rw [hgx] at hsz
  obtain ⟨M, rfl⟩ : ∃ M : Nat, x = (M : Int) := ⟨x.toNat, by omega⟩
  obtain ⟨i0, hi0, hz0, hz1, hz2⟩ := info_parts infoInt
  have hmk := fun W => run_makeAll (P := Try.prog) 22 3 i0 Try.underlying22 hi0 hz0 hz1 hz2 M (by omega) W
  have d1 : decide ((md : Int) < 0) = false := by simp
  have d2 : decide (n ≤ md) = false := by simp; omega
  have d3 : decide (65536 < (M : Int)) = false := by simp; omega
  have HP := Lib.hid p3
  have HM : Hid ((xs.getD md 0).toNat = M) := by unfold Hid; rw [hgx]; omega
  have hmk0 : (0 : Int) ≤ (md : Int) := by omega
  have hmk1 : (md : Int) < (n : Int) := by omega
  clear hck p1 p2 p3 hgx
  go_enter Try.func34, Try.ntmps34
  go_wp2_with (go_at_call 24; refine (HC _ hB0).mono ?_; rintro y w1 ⟨rfl, hb1⟩; have hT := hB0.trans (hb1.mono hB0.size); replace z0 := dKeep hb1 z0; obtain ⟨k0, k1, _, _⟩ := dCells z0; have hcx1 := (hT.cell (p := ⟨b, off + md, none⟩) hbb).trans hcx; have k2 := fun o => cellPast o k1)
  have HO := own_made w1 3 M w.heap.size hT.size (by omega)
  have HO0 : OwnI (w1.alloc (.cells (madeCells #[.int .i64 0] M) 3)) w.heap.size 3 (some ⟨w1.heap.size, 0, none⟩) M (scat (modeAt es md) M ((List.replicate m 1).take 0)) := by rw [List.take_zero, scat_nil]; exact HO
  have zz := (Below.heap_alloc w1 (.cells (madeCells #[.int .i64 0] M) 3) _ (Array.getElem?_eq_some_iff.1 z0).1).trans z0
  have hT0 := hT.alloc hT.size (.cells (madeCells #[.int .i64 0] M) 3)
  have hgs := hT.size
  clear k0 k1 k2 HO hcx1 z0 hT hb1 hmk HC
  go_loopw [39] (fun i wr => ∃ q : Nat, q ≤ m ∧ i = .int .i64 q ∧ OwnI wr w.heap.size 3 (some ⟨w1.heap.size, 0, none⟩) M (scat (modeAt es md) M ((List.replicate m 1).take q)) ∧ wr.heap[w.heap.size]? = some (.cells #[.slice (some ⟨b, off, none⟩) n c, .slice B m e] 25 (0, 0)) ∧ Below w.heap.size w wr) (fun i _ => m - (intOf i).toNat)
  case atStart => exact ⟨0, Nat.zero_le _, rfl, HO0, zz, hT0⟩
  case round =>
    clear HO0 zz hT0
    obtain ⟨q, hq, rfl, HO, z0, hT⟩ := hrel
    obtain ⟨k0, k1, _, _⟩ := dCells z0
    by_cases hlt : q < m
    · obtain ⟨b2, off2, y, rfl, hb2, HY, hc0, hc1, iy, hy1, hy2, hy3, hy4⟩ := (hv.below hT).at_ hlt
      have hin := inn_of_insideF (HP.out y (List.mem_of_getElem? HY.out))
      have hyn : y.n = n := by rw [← iy.1, ← hin.len, HL.out]
      have hc2 : wr.cell? ⟨b2, off2 + q * 2, none⟩ = some (.slice y.A y.n y.c) := by rw [Nat.mul_comm q 2]; exact hc0
      have hc3 : wr.cell? ⟨b2, off2 + q * 2 + 1, none⟩ = some (.int .i64 y.v) := by rw [Nat.mul_comm q 2]; exact hc1
      have hmode : modeAt es md q = (y.cs.getD md 0).toNat := by unfold modeAt; rw [HY.out]; rfl
      obtain ⟨yA, yn, yc, ycs, yv⟩ := y
      dsimp only at hc0 hc1 hc2 hc3 iy hy1 hy2 hy3 hy4 hin hyn hmode
      subst hyn
      obtain ⟨b3, off3, cj, rfl, hb3, HJ, hcj, hj1, hj2⟩ := iy.at_ (k := md) hmd
      have hjb := hin.at_ HX.out HJ.out
      have hgd : ycs.getD md 0 = cj := by simp [List.getD, HJ.out]
      obtain ⟨j, rfl⟩ : ∃ j : Nat, cj = (j : Int) := ⟨cj.toNat, by omega⟩
      rw [hgd, Int.toNat_natCast] at hmode
      have hjM : j < M := by omega
      obtain ⟨x0, hx0'⟩ : ∃ x0, (scat (modeAt es md) M ((List.replicate m 1).take q))[modeAt es md q]? = some x0 := ⟨_, scat_at _ (by rw [hmode]; exact hjM)⟩
      have hstep := scat_step (V := List.replicate m 1) (k := q) (v := 1) (by rw [List.getElem?_replicate, if_pos hlt]) hx0'
      rw [hmode] at hx0' hstep
      obtain ⟨v, hvv⟩ : ∃ v, wrap64 (x0 + 1) = v := ⟨_, rfl⟩
      have hv1 : IntKind.i64.wrap (x0 + 1) = v := by rw [wrap_eq, hvv]
      have hvr := wrap64_range (x0 + 1)
      rw [hvv] at hstep hvr
      have HOa := HO.alloc (.cells #[.slice (some ⟨b3, off3, none⟩) yn yc, .int .i64 yv] 37)
      obtain ⟨hcz, hfz⟩ := HOa.cell_ hx0'
      have hset := HOa.set_ j v hvr
      rw [← hstep] at hset
      have hcj2 := fun o => cellPast o hcj
      have z1 := (Below.heap_alloc wr (.cells #[.slice (some ⟨b3, off3, none⟩) yn yc, .int .i64 yv] 37) _ (Array.getElem?_eq_some_iff.1 z0).1).trans z0
      have n0 := HOa.ne z1 (by decide)
      have y0 := (Below.heap_setCell _ ⟨w1.heap.size, j, none⟩ (.int .i64 v) _ (fun e => n0 (by rw [e]))).trans z1
      have hT2 := (hT.alloc hT.size (.cells #[.slice (some ⟨b3, off3, none⟩) yn yc, .int .i64 yv] 37)).setCell (p := ⟨w1.heap.size, j, none⟩) (by show w.heap.size ≤ w1.heap.size; exact hgs) (.int .i64 v)
      have hj0 : (0 : Int) ≤ (j : Int) := by omega
      have hj3 : (j : Int) < (M : Int) := by omega
      clear hmode hx0' hstep hvv hgd HO HOa z0 z1 n0 hin
      go_wp2_with fail
      go_roundw
      case rel => exact ⟨q + 1, by omega, by go_num, hset, y0, hT2⟩
      case measure => simp [intOf]; omega
    · obtain rfl : q = m := by omega
      rw [List.take_of_length_le (by simp)] at HO
      have hcv : scat (modeAt es md) M (List.replicate q 1) = countV xs md es := by unfold countV; rw [HM.out, HL2.out]
      rw [hcv] at HO
      have hl : (countV xs md es).length = M := by rw [← hcv, scat_length]
      have HH := Lib.hid hl
      clear hcv hl
      go_wp2_with fail
      go_ret2
      exact ⟨_, _, by rw [HH.out]; rfl, HO, hT⟩
/-- of a list that may be, a part may be -/
theorem cooF_take {xs : List Int} {es : List Ent} (h : cooF xs es = 0) (k : Nat) : cooF xs (es.take k) = 0 := by
  obtain ⟨h1, h2, h3⟩ := cooF_parts h
  unfold cooF
  rw [if_pos h1, if_neg (by rw [List.length_take]; omega), if_pos]
  exact List.all_eq_true.2 fun x hx => h3 x (List.mem_of_mem_take hx)
theorem cooF_drop {xs : List Int} {es : List Ent} (h : cooF xs es = 0) (k : Nat) : cooF xs (es.drop k) = 0 := by
  obtain ⟨h1, h2, h3⟩ := cooF_parts h
  unfold cooF
  rw [if_pos h1, if_neg (by rw [List.length_drop]; omega), if_pos]
  exact List.all_eq_true.2 fun x hx => h3 x (List.mem_of_mem_drop hx)
set_option maxRecDepth 100000 in
set_option maxHeartbeats 2000000 in
theorem cooCount_large (A B : Option Addr) (n c m e md : Nat) (xs : List Int) (es : List Ent) (w : World) (h : Ints w w.heap.size A n xs) (hn : n ≤ 9223372036854775807) (hv : Ents w w.heap.size B m es) (hm : m ≤ 9223372036854775807) (hck : cooF xs es = 0) (hmd : md < n) (hsz : 65536 < xs.getD md 0) :
    Calls Try.prog 33 #[.agg #[.slice A n c, .slice B m e], .int .i64 (md : Int)] w fun x w' => x = .returned (.tuple #[.slice none 0 0, .int .i64 2]) ∧ Below w.heap.size w w' := by
  have HC := fun W (hb : Below w.heap.size w W) => cooCheck_any A B n c m e xs es W ((h.below hb).more hb.size) hn ((hv.below hb).more hb.size) hm
  rw [hck] at HC
  have hB0 : Below w.heap.size w (w.alloc (.cells #[.slice A n c, .slice B m e] 25)) := (Below.refl _ w).alloc (Nat.le_refl _) _
  have z0 := heap_alloc_new w (.cells #[.slice A n c, .slice B m e] 25)
  obtain ⟨b, off, x, rfl, hbb, HX, hcx, hx1, hx2⟩ := h.at_ hmd
  have hgx : xs.getD md 0 = x := by simp [List.getD, HX.out]
  rw [hgx] at hsz
  have d1 : decide ((md : Int) < 0) = false := by simp
  have d2 : decide (n ≤ md) = false := by simp; omega
  have d3 : decide (65536 < x) = true := by simpa using hsz
  have hmk0 : (0 : Int) ≤ (md : Int) := by omega
  have hmk1 : (md : Int) < (n : Int) := by omega
  clear hck hgx
  go_enter Try.func33, Try.ntmps33
  go_wp2_with (go_at_call 23; refine (HC _ hB0).mono ?_; rintro y w1 ⟨rfl, hb1⟩; have hT := hB0.trans (hb1.mono hB0.size); replace z0 := dKeep hb1 z0; obtain ⟨k0, k1, _, _⟩ := dCells z0; have hcx1 := (hT.cell (p := ⟨b, off + md, none⟩) hbb).trans hcx)
  go_ret2
  exact ⟨rfl, hT⟩
end Go.Proofs.Ytpjelcghlnmoeaa
