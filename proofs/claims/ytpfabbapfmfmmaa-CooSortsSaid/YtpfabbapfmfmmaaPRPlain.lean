/- The document's Plain and Same of layer 2. -/
import Derived.Test.YtpfabbapfmfmmaaPRJoin
import Derived.Test.YtpfabbapfmfmmaaPRTrim
import Derived.Test.YtpfabbapfmfmmaaPREq
import Derived.Test.YtpfabbapfmfmmaaG15
namespace Go.Proofs.Ytpfabbapfmfmmaa
open Go.RowKit

set_option maxRecDepth 100000 in
set_option maxHeartbeats 4000000 in
theorem refPlainV_ok (A B : Option Addr) (n c m e : Nat) (xs : List Int) (es : List Ent) (w : World) (h : CooV w A n B m xs es) (hE : cooF xs es = 0) :
    Calls Try.prog 21 #[.agg #[.slice A n c, .slice B m e]] w fun x w' => ∃ A1 c1 A2 m2 c2 Ts, x = .returned (.tuple #[.agg #[.slice A1 n c1, .slice A2 m2 c2], .int .i64 0]) ∧ CooV w' A1 n A2 m2 xs Ts ∧ Hid (Ts.map keyE = (joinK (sortK (iotaL n) (es.map keyE))).filter nzK) ∧ m2 ≤ m ∧ Below w.heap.size w w' := by
  have z0 := (Below.refl w.heap.size w).alloc (Nat.le_refl _) (.cells #[.slice A n c, .slice B m e] 25)
  have z1 := z0.alloc z0.size (.cells #[.slice none 0 0, .slice none 0 0] 25)
  have b2 := zf_snd w (.cells #[.slice none 0 0, .slice none 0 0] 25) (.cells #[.slice A n c, .slice B m e] 25)
  have HJ := fun W (hb : Below w.heap.size w W) => refJoinV_ok A B none n c m e 0 0 xs [] es W (h.below hb) hE (ordOk_nil n) Ints.nil_
  rw [ordL_nil] at HJ
  have HE0 := Lib.hid hE
  clear h hE z0
  go_enter Try.func21, Try.ntmps21
  go_wp2_with fail
  refine (HJ _ z1).mono ?_
  rintro x w1 ⟨A1, c1, A2, m2, c2, Js, rfl, VJ, HK, hm2, hb1⟩
  have hsz0 : w.heap.size + 2 ≤ w1.heap.size := by have := hb1.size; simp at this; omega
  have hb := z1.trans (hb1.mono z1.size)
  have q2 := (hb1.block (w.heap.size + 1) (by simp)).trans b2
  have hal := (Below.refl w1.heap.size w1).alloc (Nat.le_refl _) (.cells #[.slice A1 n c1, .slice A2 m2 c2] 25)
  have y0 := heap_alloc_new w1 (.cells #[.slice A1 n c1, .slice A2 m2 c2] 25)
  have VJ2 := VJ.below hal
  have hb2 := hb.trans (hal.mono hb.size)
  replace q2 := (hal.block (w.heap.size + 1) (by omega)).trans q2
  obtain ⟨w2, hw2⟩ : ∃ w2, w1.alloc (.cells #[.slice A1 n c1, .slice A2 m2 c2] 25) = w2 := ⟨_, rfl⟩
  rw [hw2] at y0 VJ2 hb2 q2
  have hs12 : w1.heap.size ≤ w2.heap.size := by rw [← hw2]; simp
  have HW := Lib.hid hw2
  have HC : cooF xs Js = 0 := cooF_join HE0.out HK.out
  have HT := refTrimV_ok A1 A2 n c1 m2 c2 xs Js w2 VJ2 HC
  obtain ⟨k0, k1, _, _⟩ := pair_cells y0
  clear b2 z1 hb1 hb hal hw2 HJ VJ
  go_upto_region 2 with fail
  rw [HW.out]
  go_wp2_with fail
  refine HT.mono ?_
  rintro x w3 ⟨A3, c3, A4, m4, c4, Ts, rfl, VT, HK2, hm4, hb3⟩
  have hb4 := hb2.trans (hb3.mono hb2.size)
  have hsz2 := hb2.size
  have r3 := (hb3.block (w.heap.size + 1) (lt_of_heap q2)).trans q2
  obtain ⟨v0, v1, vf0, vf1⟩ := pair_cells r3
  have HR3 := Lib.hid r3
  clear k0 k1 hb3 hb2 q2 y0 VJ2 HT r3 HC
  go_wp2_with fail
  have hres := set_two w3 (w.heap.size + 1) _ _ (.slice A3 n c3) (.slice A4 m4 c4) _ HR3.out
  obtain ⟨s0, s1, _, _⟩ := pair_cells hres.1
  obtain ⟨wz, hwz⟩ : ∃ wz, (w3.setCell ⟨w.heap.size + 1, 0, none⟩ (.slice A3 n c3)).setCell ⟨w.heap.size + 1, 1, none⟩ (.slice A4 m4 c4) = wz := ⟨_, rfl⟩
  rw [hwz] at hres s0 s1 ⊢
  refine bodyPost_ret (v := .tuple #[.agg #[.slice A3 n c3, .slice A4 m4 c4], .int .i64 0]) (by simp [results, Try.results21, go_sem, s0, s1]) rfl ⟨A3, c3, A4, m4, c4, Ts, rfl, ?_, by unfold Hid; rw [HK2.out, HK.out], by omega, hb4.grown hres.2 hb4.size (fun k hk => by injection hk with hk; omega)⟩
  exact VT.skip hres.2 HR3.out

set_option maxRecDepth 100000 in
set_option maxHeartbeats 4000000 in
theorem refSameV (A B A2 B2 : Option Addr) (n c m e n2 c2 m2 e2 : Nat) (xs ys : List Int) (es fs : List Ent) (w : World) (h : CooV w A n B m xs es) (hn : n ≤ 100000) (hm : m ≤ 100000) (hes : ∀ x ∈ es, x.n ≤ 100000) (h2 : CooV w A2 n2 B2 m2 ys fs) (hn2 : n2 ≤ 9223372036854775807) (hm2 : m2 ≤ 9223372036854775807) (R : Bool) (HR : Hid ((decide (cooF xs es = 0) && decide (cooF ys fs = 0) && (decide (xs = ys) && decide (es.map keyV = fs.map keyV))) = R)) :
    Calls Try.prog 26 #[.agg #[.slice A n c, .slice B m e], .agg #[.slice A2 n2 c2, .slice B2 m2 e2]] w fun x w' => x = .returned (.bool R) ∧ Below w.heap.size w w' := by
  have z0 := (Below.refl w.heap.size w).alloc (Nat.le_refl _) (.cells #[.slice A n c, .slice B m e] 25)
  have z1 := z0.alloc z0.size (.cells #[.slice A2 n2 c2, .slice B2 m2 e2] 25)
  have b1 := zf_two w (.cells #[.slice A n c, .slice B m e] 25) (.cells #[.slice A2 n2 c2, .slice B2 m2 e2] 25)
  have b2 := zf_snd w (.cells #[.slice A2 n2 c2, .slice B2 m2 e2] 25) (.cells #[.slice A n c, .slice B m e] 25)
  have HC1 := fun W (hb : Below w.heap.size w W) => refCooCheck_any A B n c m e xs es W (h.below hb).1 (by omega) (h.below hb).2 (by omega)
  have HC2 := fun W (hb : Below w.heap.size w W) => refCooCheck_any A2 B2 n2 c2 m2 e2 ys fs W (h2.below hb).1 hn2 (h2.below hb).2 hm2
  have HQ := fun W (hb : Below w.heap.size w W) => refEqualsE A B A2 B2 n c m e n2 c2 m2 e2 xs ys es fs W (h.below hb) (h2.below hb) hn hm hn2 hm2 hes
  obtain ⟨E1, hE1⟩ : ∃ E, cooF xs es = E := ⟨_, rfl⟩
  obtain ⟨E2, hE2⟩ : ∃ E, cooF ys fs = E := ⟨_, rfl⟩
  rw [hE1] at HC1 HR
  rw [hE2] at HC2 HR
  clear h h2 z0 hE1 hE2
  by_cases h1 : E1 = 0
  · subst h1
    by_cases h2 : E2 = 0
    · subst h2
      have HQ2 := fun W (hb : Below w.heap.size w W) => HQ W hb R (by unfold Hid; rw [← HR.out]; simp)
      clear HQ HR
      go_enter Try.func26, Try.ntmps26
      go_wp2_with fail
      refine (HC1 _ z1).mono ?_
      rintro x w1 ⟨rfl, hb1⟩
      have hb := z1.trans (hb1.mono z1.size)
      have q1 := (hb1.block w.heap.size (by simp; omega)).trans b1
      have q2 := (hb1.block (w.heap.size + 1) (by simp)).trans b2
      obtain ⟨k0, k1, _, _⟩ := pair_cells q1
      obtain ⟨m0, m1, _, _⟩ := pair_cells q2
      clear hb1 b1 b2 z1 HC1
      go_wp2_with fail
      refine (HC2 _ hb).mono ?_
      rintro x w2 ⟨rfl, hb2⟩
      replace hb := hb.trans (hb2.mono hb.size)
      replace q1 := heapAt hb2 q1
      replace q2 := heapAt hb2 q2
      clear k0 k1 m0 m1 hb2 HC2
      obtain ⟨k0, k1, _, _⟩ := pair_cells q1
      obtain ⟨m0, m1, _, _⟩ := pair_cells q2
      go_wp2_with fail
      refine (HQ2 _ hb).mono ?_
      rintro x w3 ⟨rfl, hb3⟩
      replace hb := hb.trans (hb3.mono hb.size)
      go_wp2_with fail
      go_ret
      exact ⟨rfl, hb⟩
    · have HF : Hid (R = false) := by unfold Hid; rw [← HR.out, decide_eq_false h2]; simp
      have e1 : (E2 == 0) = false := by simpa using h2
      clear HQ HR h2
      go_enter Try.func26, Try.ntmps26
      go_wp2_with fail
      refine (HC1 _ z1).mono ?_
      rintro x w1 ⟨rfl, hb1⟩
      have hb := z1.trans (hb1.mono z1.size)
      have q2 := (hb1.block (w.heap.size + 1) (by simp)).trans b2
      obtain ⟨m0, m1, _, _⟩ := pair_cells q2
      clear hb1 b1 b2 z1 HC1
      go_wp2_with fail
      refine (HC2 _ hb).mono ?_
      rintro x w2 ⟨rfl, hb2⟩
      replace hb := hb.trans (hb2.mono hb.size)
      go_wp2_with fail
      go_ret
      exact ⟨by rw [HF.out]; rfl, hb⟩
  · have HF : Hid (R = false) := by unfold Hid; rw [← HR.out, decide_eq_false h1]; simp
    have e1 : (E1 == 0) = false := by simpa using h1
    clear HQ HR h1 HC2
    go_enter Try.func26, Try.ntmps26
    go_wp2_with fail
    refine (HC1 _ z1).mono ?_
    rintro x w1 ⟨rfl, hb1⟩
    have hb := z1.trans (hb1.mono z1.size)
    go_wp2_with fail
    go_ret
    exact ⟨by rw [HF.out]; rfl, hb⟩
end Go.Proofs.Ytpfabbapfmfmmaa
