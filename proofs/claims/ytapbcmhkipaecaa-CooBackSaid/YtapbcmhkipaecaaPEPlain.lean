/- coo.Plain, and Trim of a list that may not be. -/
import Derived.Test.YtapbcmhkipaecaaPETrimB
namespace Go.Proofs.Ytapbcmhkipaecaa
open Go.RowKit

theorem ordOk_nil (n : Nat) : OrdOk n [] := .inl rfl
theorem ordL_nil (n : Nat) : ordL n [] = iotaL n := by unfold ordL; rw [if_pos rfl]
theorem sortE'_nil {xs : List Int} {n : Nat} {es : List Ent} : sortE' xs [] n es = cooF xs es := by
  unfold sortE'
  by_cases h : cooF xs es = 0
  · rw [if_pos h, if_pos (ordOk_nil n), h]
  · rw [if_neg h]
set_option maxRecDepth 100000 in
set_option maxHeartbeats 4000000 in
theorem plainV_ok (A B : Option Addr) (n c m e : Nat) (xs : List Int) (es : List Ent) (w : World) (h : CooV w A n B m xs es) (hE : cooF xs es = 0) :
    Calls Try.prog 20 #[.agg #[.slice A n c, .slice B m e]] w fun x w' => ∃ A1 c1 A2 m2 c2 Ts, x = .returned (.tuple #[.agg #[.slice A1 n c1, .slice A2 m2 c2], .int .i64 0]) ∧ CooV w' A1 n A2 m2 xs Ts ∧ Hid (Ts.map keyE = (joinK (sortK (iotaL n) (es.map keyE))).filter nzK) ∧ Hid (cooF xs Ts = 0) ∧ m2 ≤ 65536 ∧ Below w.heap.size w w' := by
  have z0 := (Below.refl w.heap.size w).alloc (Nat.le_refl _) (.cells #[.slice A n c, .slice B m e] 25)
  have z1 := z0.alloc z0.size (.cells #[.slice none 0 0, .slice none 0 0] 25)
  have b2 := zf_snd w (.cells #[.slice none 0 0, .slice none 0 0] 25) (.cells #[.slice A n c, .slice B m e] 25)
  have HJ := fun W (hb : Below w.heap.size w W) => joinV_ok A B none n c m e 0 0 xs [] es W (h.below hb) (by rw [sortE'_nil]; exact hE) Ints.nil_ (by omega)
  rw [ordL_nil] at HJ
  clear h hE z0
  go_enter Try.func20, Try.ntmps20
  go_wp2_with fail
  refine (HJ _ z1).mono ?_
  rintro x w1 ⟨A1, c1, A2, m2, c2, Js, rfl, VJ, HK, HC, hm2, hb1⟩
  have hsz0 : w.heap.size + 2 ≤ w1.heap.size := by have := hb1.size; simp at this; omega
  have hb := z1.trans (hb1.mono z1.size)
  have q2 := (hb1.block (w.heap.size + 1) (by simp)).trans b2
  have hal := (Below.refl w1.heap.size w1).alloc (Nat.le_refl _) (.cells #[.slice A1 n c1, .slice A2 m2 c2] 25)
  have y0 := heap_alloc_new w1 (.cells #[.slice A1 n c1, .slice A2 m2 c2] 25)
  have VJ2 := VJ.below hal
  have hb2 := hb.trans (hal.mono hb.size)
  replace q2 := (hal.block (w.heap.size + 1) (by omega)).trans q2
  obtain ⟨w2, hw2⟩ : ∃ w2, w1.alloc (.cells #[.slice A1 n c1, .slice A2 m2 c2] 25) = w2 := ⟨_, rfl⟩
  rw [hw2] at y0 VJ2 hb2 q2
  have hs12 : w1.heap.size ≤ w2.heap.size := by rw [← hw2]; simp
  have HW := Lib.hid hw2
  have HT := trimV_ok A1 A2 n c1 m2 c2 xs Js w2 VJ2 HC.out
  obtain ⟨k0, k1, _, _⟩ := pair_cells y0
  clear b2 z1 hb1 hb hal hw2 HJ VJ
  go_upto_region 2 with fail
  rw [HW.out]
  go_wp2_with fail
  refine HT.mono ?_
  rintro x w3 ⟨A3, c3, A4, m4, c4, Ts, rfl, VT, HK2, HC2, hm4, hfar, hb3⟩
  have hb4 := hb2.trans (hb3.mono hb2.size)
  have hsz2 := hb2.size
  have r3 := (hb3.block (w.heap.size + 1) (lt_of_heap q2)).trans q2
  obtain ⟨v0, v1, vf0, vf1⟩ := pair_cells r3
  have HR3 := Lib.hid r3
  clear k0 k1 hb3 hb2 q2 y0 VJ2 HT r3
  go_wp2_with fail
  have hres := set_two w3 (w.heap.size + 1) _ _ (.slice A3 n c3) (.slice A4 m4 c4) _ HR3.out
  obtain ⟨s0, s1, _, _⟩ := pair_cells hres.1
  obtain ⟨wz, hwz⟩ : ∃ wz, (w3.setCell ⟨w.heap.size + 1, 0, none⟩ (.slice A3 n c3)).setCell ⟨w.heap.size + 1, 1, none⟩ (.slice A4 m4 c4) = wz := ⟨_, rfl⟩
  rw [hwz] at hres s0 s1 ⊢
  refine bodyPost_ret (v := .tuple #[.agg #[.slice A3 n c3, .slice A4 m4 c4], .int .i64 0]) (by simp [results, Try.results20, go_sem, s0, s1]) rfl ⟨A3, c3, A4, m4, c4, Ts, rfl, ?_, by unfold Hid; rw [HK2.out, HK.out], HC2, hm4, hb4.grown hres.2 hb4.size (fun k hk => by injection hk with hk; omega)⟩
  exact VT.far hfar hres.2 (by omega)
end Go.Proofs.Ytapbcmhkipaecaa
