/- The document's Sort of layer 2. -/
import Derived.Test.YtpfabbapfmfmmaaPRCopy
namespace Go.Proofs.Ytpfabbapfmfmmaa
open Go.RowKit

section
variable {w w' : World} {B n m q n0 n1 c0 c1 : Nat} {A A2 a0 a1 : Option Addr} {xs : List Int} {es : List Ent} {t : TypeId}
theorem Ints.skip (h : Ints w w.heap.size A n xs) (hg : w.grownBy w' (some q)) (hq : w.heap[q]? = some (.cells #[.slice a0 n0 c0, .slice a1 n1 c1] t (0, 0))) : Ints w' w'.heap.size A n xs := by
  rcases Nat.eq_zero_or_pos n with h0 | h0
  · subst h0
    exact ⟨h.1, h.2.1, fun h => absurd h (by omega)⟩
  · exact ints_skip h hg (fun b off e => by subst e; exact h.off_ h0 hq)
theorem Ents.skip (h : Ents w w.heap.size A m es) (hg : w.grownBy w' (some q)) (hq : w.heap[q]? = some (.cells #[.slice a0 n0 c0, .slice a1 n1 c1] t (0, 0))) : Ents w' w'.heap.size A m es := by
  refine ⟨h.1, fun x hx => ⟨(h.2.1 x hx).1.skip hg hq, (h.2.1 x hx).2⟩, fun h0 => ?_⟩
  obtain ⟨b, off, e, hb, hx⟩ := h.2.2 h0
  have hne : b ≠ q := by
    rintro rfl
    have hk : 0 < es.length := by have := h.1; omega
    have h1 := (hx 0 _ (List.getElem?_eq_getElem hk)).2
    have hr := cell_of_row _ _ (off + 2 * 0 + 1) _ t (0, 0) hq
    rw [hr] at h1
    match off, h1 with
    | 0, h1 => simp at h1
    | i + 1, h1 => simp at h1
  have hk : ∀ o, w'.cell? ⟨b, o, none⟩ = w.cell? ⟨b, o, none⟩ := fun o => World.cell?_of_block (a := ⟨b, o, none⟩) (hg.block b hb (by intro e; injection e with e; omega))
  exact ⟨b, off, e, Nat.lt_of_lt_of_le hb hg.size, fun k x hx' => ⟨(hk _).trans (hx k x hx').1, (hk _).trans (hx k x hx').2⟩⟩
theorem CooV.skip (h : CooV w A n A2 m xs es) (hg : w.grownBy w' (some q)) (hq : w.heap[q]? = some (.cells #[.slice a0 n0 c0, .slice a1 n1 c1] t (0, 0))) : CooV w' A n A2 m xs es := ⟨h.1.skip hg hq, h.2.skip hg hq⟩
end

set_option maxRecDepth 100000 in
set_option maxHeartbeats 8000000 in
theorem refSortV_ok (A B Ao : Option Addr) (n c m e ro co : Nat) (xs os : List Int) (es : List Ent) (w : World) (h : CooV w A n B m xs es) (hE : cooF xs es = 0) (hok : OrdOk n os) (ho : Ints w w.heap.size Ao ro os) :
    Calls Try.prog 15 #[.agg #[.slice A n c, .slice B m e], .slice Ao ro co] w fun x w' => ∃ A1 c1 A2 c2 Ts, x = .returned (.tuple #[.agg #[.slice A1 n c1, .slice A2 m c2], .int .i64 0]) ∧ CooV w' A1 n A2 m xs Ts ∧ Hid (Ts.map keyE = sortK (ordL n os) (es.map keyE)) ∧ Below w.heap.size w w' := by
  have hn4 : n ≤ 4 := by rw [← h.1.1]; exact (cellsF_ok (cooF_parts hE).1).1
  have hm5 : m ≤ 65536 := by rw [← h.2.1]; exact (cooF_parts hE).2.1
  have hokk := keyOk_of h hE
  have HYN : Hid (∀ y ∈ es, y.n = n) := fun y hy => (hokk (keyE y) (List.mem_map_of_mem hy)).2.1
  have z0 := (Below.refl w.heap.size w).alloc (Nat.le_refl _) (.cells #[.slice A n c, .slice B m e] 25)
  have z1 := z0.alloc z0.size (.cells #[.slice none 0 0, .slice none 0 0] 25)
  have b1 := zf_two w (.cells #[.slice A n c, .slice B m e] 25) (.cells #[.slice none 0 0, .slice none 0 0] 25)
  have b2 := zf_snd w (.cells #[.slice none 0 0, .slice none 0 0] 25) (.cells #[.slice A n c, .slice B m e] 25)
  have HCK := fun W (hb : Below w.heap.size w W) => refCooCheck_any A B n c m e xs es W (h.below hb).1 (by omega) (h.below hb).2 (by omega)
  rw [hE] at HCK
  have HOR := fun W (hb : Below w.heap.size w W) => refOrder_ok Ao n ro co os W ((ho.below hb).more hb.size) (by omega) hok
  have HCP := fun W (hb : Below w.heap.size w W) => refCopyV A B n c m e xs es W (h.below hb) (by omega) (by omega) (fun y hy => by have := HYN.out y hy; omega)
  have HOK := Lib.hid hok
  have HOL : Hid ((ordL n os).length = n) := ordL_len hok
  clear h hE z0 hokk ho hok
  go_enter Try.func15, Try.ntmps15
  go_wp2_with fail
  refine (HCK _ z1).mono ?_
  rintro x w1 ⟨rfl, hb1⟩
  have hsz0 : w.heap.size + 2 ≤ w1.heap.size := by have := hb1.size; simp at this; omega
  have hb := z1.trans (hb1.mono z1.size)
  have q1 := (hb1.block w.heap.size (by simp; omega)).trans b1
  have q2 := (hb1.block (w.heap.size + 1) (by simp)).trans b2
  obtain ⟨k0, k1, _, _⟩ := pair_cells q1
  clear HCK b1 b2 z1 hb1
  go_wp2_with fail
  refine (HOR _ hb).mono ?_
  rintro x w2 ⟨Am, cm, rfl, HO, hb2⟩
  have hz2 := hb2.size
  replace hb := hb.trans (hb2.mono hb.size)
  replace q1 := heapAt hb2 q1
  replace q2 := heapAt hb2 q2
  clear k0 k1 hb2 HOR
  obtain ⟨k0, k1, _, _⟩ := pair_cells q1
  go_wp2_with fail
  refine (HCP _ hb).mono ?_
  rintro x w3 ⟨A1, c1, A2, c2, Cs, rfl, VC, HKC, hmc, hb3⟩
  have hz3 := hb3.size
  replace hb := hb.trans (hb3.mono hb.size)
  replace q1 := heapAt hb3 q1
  replace q2 := heapAt hb3 q2
  replace HO := (HO.below hb3).more hb3.size
  clear k0 k1 hb3 HCP
  have hal := (Below.refl w3.heap.size w3).alloc (Nat.le_refl _) (.cells #[.slice A1 n c1, .slice A2 m c2] 25)
  have qo := heap_alloc_new w3 (.cells #[.slice A1 n c1, .slice A2 m c2] 25)
  have hs3 : (w3.alloc (.cells #[.slice A1 n c1, .slice A2 m c2] 25)).heap.size = w3.heap.size + 1 := World.size_alloc _ _
  obtain ⟨w4, hw4⟩ : ∃ W, w3.alloc (.cells #[.slice A1 n c1, .slice A2 m c2] 25) = W := ⟨_, rfl⟩
  rw [hw4] at hal qo hs3
  replace hb := hb.trans (hal.mono hb.size)
  replace q2 := heapAt hal q2
  replace HO := (HO.below hal).more hal.size
  replace VC := VC.below hal
  have HW4 := Lib.hid hw4
  have HCN : ∀ y ∈ Cs, y.n = n := fun y hy => by
    obtain ⟨z, hz, e⟩ := keys_mem HKC.out hy
    have h1 := HYN.out z hz
    have : y.n = z.n := congrArg (·.2.2) e
    omega
  have HSO := refSorted_any n n cm Am (ordL n os) (fun q hq => ordL_mem HOK.out hq) (by omega) m m c2 A2 Cs w4 (Nat.le_refl _) VC.2 hmc (by omega) HCN HO
  clear hw4 hal HCN q1 HO
  obtain ⟨k0, k1, kf0, kf1⟩ := pair_cells qo
  go_upto_region 8 with fail
  rw [HW4.out]
  go_wp2_with fail
  refine HSO.mono ?_
  rintro x w5 ⟨A3, c3, rfl, ES, hm3, hb5⟩
  replace hb := hb.trans (hb5.mono hb.size)
  replace q2 := heapAt hb5 q2
  replace qo := heapAt hb5 qo
  have VS : CooV w5 A1 n A3 m xs (sortE (ordL n os) Cs) := ⟨(VC.below hb5).1, ES⟩
  have HKS : Hid ((sortE (ordL n os) Cs).map keyE = sortK (ordL n os) (es.map keyE)) := by unfold Hid; rw [sortE_key, HKC.out]
  have hsn := set_snd w5 w3.heap.size _ _ (.slice A3 m c3) _ qo
  have hne : w.heap.size + 1 < w3.heap.size := by omega
  have hle3 : w.heap.size ≤ w3.heap.size := by omega
  have hbs := hb.setCell (p := ⟨w3.heap.size, 1, none⟩) hle3 (.slice A3 m c3)
  have q2s := (hsn.2.block (w.heap.size + 1) (lt_of_heap q2) (by intro e; injection e with e; omega)).trans q2
  have VS6 := VS.skip hsn.2 qo
  obtain ⟨w6, hw6⟩ : ∃ W, w5.setCell ⟨w3.heap.size, 1, none⟩ (.slice A3 m c3) = W := ⟨_, rfl⟩
  have qs := hsn.1
  rw [hw6] at hbs q2s VS6 qs
  have HW6 := Lib.hid hw6
  obtain ⟨v0, v1, vf0, vf1⟩ := pair_cells q2s
  obtain ⟨u0, u1, _, _⟩ := pair_cells qs
  have HQ2 := Lib.hid q2s
  clear k0 k1 kf0 kf1 HSO hb5 ES VC hw6 VS hsn q2s qs
  obtain ⟨k0, k1, kf0, kf1⟩ := pair_cells qo
  clear q2 qo hb
  go_upto_region 9 with fail
  rw [HW6.out]
  clear k0 k1 kf0 kf1
  go_wp2_with fail
  have hres := set_two w6 (w.heap.size + 1) _ _ (.slice A1 n c1) (.slice A3 m c3) _ HQ2.out
  obtain ⟨s0, s1, _, _⟩ := pair_cells hres.1
  obtain ⟨wz, hwz⟩ : ∃ wz, (w6.setCell ⟨w.heap.size + 1, 0, none⟩ (.slice A1 n c1)).setCell ⟨w.heap.size + 1, 1, none⟩ (.slice A3 m c3) = wz := ⟨_, rfl⟩
  rw [hwz] at hres s0 s1 ⊢
  exact bodyPost_ret (v := .tuple #[.agg #[.slice A1 n c1, .slice A3 m c3], .int .i64 0]) (by simp [results, Try.results15, go_sem, s0, s1]) rfl ⟨A1, c1, A3, c3, _, rfl, VS6.skip hres.2 HQ2.out, HKS, hbs.grown hres.2 hbs.size (fun k hk => by injection hk with hk; omega)⟩
end Go.Proofs.Ytpfabbapfmfmmaa
