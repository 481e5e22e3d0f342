/- purfleref05.Copy: a copy of a stored tensor, of the call's own. -/
import Derived.Test.YtfimnmdcbnfhfaaPVCopyN
namespace Go.Proofs.Ytfimnmdcbnfhfaa
open Go.RowKit

structure R1 (w1 wx : World) (t : Ten) (g : Nat) (A1 : Option Addr) (c1 : Nat) (A2 : Option Addr) (c2 : Nat) (A3 : Option Addr) (c3 : Nat) : Prop where
  bel : Below w1.heap.size w1 wx
  gg : w1.heap.size ≤ g
  box : wx.heap[g]? = some (.cells #[.slice A1 t.n c1, .slice A2 t.fn c2, .slice none 0 0, .slice A3 t.vn c3] 34 (0, 0))
  i1 : OwnI wx w1.heap.size 3 A1 c1 t.xs
  i2 : OwnS wx w1.heap.size A2 c2 t.fs
  i3 : OwnI wx w1.heap.size 2 A3 c3 t.vs
def CopyPost (w : World) (t : Ten) (e : Ending) (w' : World) : Prop :=
  ∃ g A1 c1 A2 c2 A3 c3 A4 c4 ls' f, e = .returned (copyT t A1 c1 A2 c2 A3 c3 A4 c4 ls').val ∧ CopyI w t g A1 c1 A2 c2 A3 c3 t.ln A4 c4 ls' f w'
set_option maxRecDepth 100000 in
set_option maxHeartbeats 8000000 in
theorem refCopy5_any (t : Ten) (w : World) (ht : t.In w w.heap.size) (hf : fewT t) :
    Calls Try.prog 16 #[t.val] w (CopyPost w t) := by
  have z0 := lvBelow w t.obj
  have z1 := z0.alloc z0.size (.cells #[.slice none 0 0, .slice none 0 0, .slice none 0 0, .slice none 0 0] 34)
  have b1 := zf_two w t.obj (.cells #[.slice none 0 0, .slice none 0 0, .slice none 0 0, .slice none 0 0] 34)
  have b2 := zf_snd w (.cells #[.slice none 0 0, .slice none 0 0, .slice none 0 0, .slice none 0 0] 34) t.obj
  obtain ⟨w1, hw1⟩ : ∃ W, (w.alloc t.obj).alloc (.cells #[.slice none 0 0, .slice none 0 0, .slice none 0 0, .slice none 0 0] 34) = W := ⟨_, rfl⟩
  have hs1 : w1.heap.size = w.heap.size + 2 := by rw [← hw1, World.size_alloc, World.size_alloc]
  rw [hw1] at z1 b1 b2
  obtain ⟨k0, k1, k2, k3, _⟩ := lvCells b1
  have HI := Lib.hid ht
  have HF := Lib.hid hf
  have HZ := Lib.hid z1
  have HB1 := Lib.hid b1
  have HB2 := Lib.hid b2
  have hn1 := ht.n1
  have hf1 := ht.f1
  have hv1 := ht.v1
  have hl1 := ht.l1
  obtain ⟨i0, hi0, hz0, hz1, hz2⟩ := info_parts infoInt
  obtain ⟨j0, hj0, hy0, hy1, hy2⟩ := info_parts infoInt64
  clear ht hf z0 z1 b1 b2
  go_enter Try.func16, Try.ntmps16
  go_upto_region 1 with fail
  try rw [hw1]
  go_cut [3] (fun s wx => ∃ g A1 c1 A2 c2 A3 c3, s = .pointer (some ⟨g, 0, none⟩) ∧ R1 w1 wx t g A1 c1 A2 c2 A3 c3)
  case first =>
    have HCL : Hid (∀ W, Below w1.heap.size w1 W → W.cell? ⟨w.heap.size, 0, none⟩ = some (.slice t.A t.n t.c) ∧ W.cell? ⟨w.heap.size, 1, none⟩ = some (.slice t.F t.fn t.fc) ∧ W.cell? ⟨w.heap.size, 3, none⟩ = some (.slice t.V t.vn t.vc) ∧ t.In W W.heap.size) := fun W hW => ⟨(hW.cell (p := ⟨w.heap.size, 0, none⟩) (lt_of_heap HB1.out)).trans k0, (hW.cell (p := ⟨w.heap.size, 1, none⟩) (lt_of_heap HB1.out)).trans k1, (hW.cell (p := ⟨w.heap.size, 3, none⟩) (lt_of_heap HB1.out)).trans k3, HI.out.on (HZ.out.trans (hW.mono HZ.out.size))⟩
    have hmx : Try.prog.follows .mixedOrders = true := by kernel_rfl
    clear k0 k1 k2 k3 hw1
    refine wp_region_inv (fun a0 L a' w' => ∃ v6 v7 v8 v9 v10 v11 v12 v13 v14 v15 v3 : Value, a' = (Act.put (Act.put (Act.put (Act.put (Act.put (Act.put (Act.put (Act.put (Act.put (Act.put (Act.put a0 (some 6) v6) (some 7) v7) (some 8) v8) (some 9) v9) (some 10) v10) (some 11) v11) (some 12) v12) (some 13) v13) (some 14) v14) (some 15) v15) (some 3) v3) ∧ F1 w1 t w.heap.size L v6 v7 v8 v9 v10 v11 v12 v13 v14 v15 v3 w') hmx (by kernel_rfl) ?_ ?_ ?_
    · refine ⟨undef, undef, undef, undef, undef, undef, undef, undef, undef, undef, undef, by simp [Act.put], ?_⟩
      have hno : ∀ k, k < 12 → ¬ on (Array.replicate 12 false) k := fun k hk h => by unfold on at h; simp [hk] at h
      exact ⟨(Below.refl _ _).drew, fun h => absurd h (hno 0 (by omega)), fun h => absurd h (hno 1 (by omega)), fun h => absurd h (hno 2 (by omega)), fun h => absurd h (hno 3 (by omega)), fun h => absurd h (hno 4 (by omega)), fun h => absurd h (hno 5 (by omega)), fun h => absurd h (hno 6 (by omega)), fun h => absurd h (hno 7 (by omega)), fun h => absurd h (hno 8 (by omega)), fun h => absurd h (hno 9 (by omega)), fun h => absurd h (hno 10 (by omega)), fun h => absurd h (hno 11 (by omega))⟩
    · rintro L a' w' ⟨v6, v7, v8, v9, v10, v11, v12, v13, v14, v15, v3, rfl, F⟩ hall
      have hon : ∀ k, k < 12 → on L k := fun k hk => by
        exact hall k hk
      obtain ⟨A1, c1, rfl, h1⟩ := F.f2 (hon 2 (by omega))
      obtain ⟨A2, c2, rfl, h2⟩ := F.f5 (hon 5 (by omega))
      obtain ⟨A3, c3, rfl, h3⟩ := F.f8 (hon 8 (by omega))
      obtain ⟨g, _, _, _, _, rfl, h4, _⟩ := F.f10 (hon 10 (by omega))
      have h5 := (F.f11 (hon 11 (by omega))).2.2 g rfl
      have HH : Hid (R1 w1 w' t g A1 c1 A2 c2 A3 c3) := ⟨F.bel, h4, h5, h1, h2, h3⟩
      simp [Act.put]
      clear h1 h2 h3 h4 h5
      go_wp2_with fail
      go_meet
      exact ⟨g, A1, c1, A2, c2, A3, c3, rfl, HH.out⟩
    · rintro L a' w' i ⟨v6, v7, v8, v9, v10, v11, v12, v13, v14, v15, v3, rfl, F⟩ hi
      obtain ⟨_, oi, hoi, _⟩ := mem_ready.1 hi
      have hi12 := (Array.getElem?_eq_some_iff.1 hoi).1
      obtain ⟨n0, n1, n3, hTi⟩ := HCL.out w' F.bel
      have hii : i < 12 := hi12
      clear hi12
      rcases (by omega : i = 0 ∨ i = 1 ∨ i = 2 ∨ i = 3 ∨ i = 4 ∨ i = 5 ∨ i = 6 ∨ i = 7 ∨ i = 8 ∨ i = 9 ∨ i = 10 ∨ i = 11) with rfl | rfl | rfl | rfl | rfl | rfl | rfl | rfl | rfl | rfl | rfl | rfl
      · -- 0
        refine wpOp_of hoi (fun K hK => ?_)
        simp only [List.getElem?_toArray, List.getElem?_cons_zero, Option.some.injEq] at hoi
        subst hoi
        simp only [Act.put]
        go_simp
        refine hK _ _ ⟨_, _, _, _, _, _, _, _, _, _, _, ?_, F.s0⟩
        simp [Act.put]
      · -- 1
        obtain rfl := F.f0 (ready_at hi rfl 0 (by kernel_rfl))
        refine wpOp_of hoi (fun K hK => ?_)
        simp only [List.getElem?_toArray, List.getElem?_cons_succ, List.getElem?_cons_zero, Option.some.injEq] at hoi
        subst hoi
        simp only [Act.put]
        go_simp
        refine hK _ _ ⟨_, _, _, _, _, _, _, _, _, _, _, ?_, F.s1⟩
        simp [Act.put]
      · -- 2
        obtain rfl := F.f1 (ready_at hi rfl 1 (by kernel_rfl))
        have hun := not_on (mem_ready.1 hi).1
        refine wpOp_of hoi (fun K hK => ?_)
        simp only [List.getElem?_toArray, List.getElem?_cons_succ, List.getElem?_cons_zero, Option.some.injEq] at hoi
        subst hoi
        refine step_cloneInts rfl (.const (.slice none 0 0)) (.tmp 7) 22 rfl 3 i0 Try.underlying22 hi0 hz0 hz1 hz2 t.A t.n t.c _ t.xs rfl (by simp [Act.put, Act.eval]) hTi.shape (by omega) ?_
        intro A' c' w8 ho hb
        have hz := F.bel.size
        refine hK _ _ ⟨_, _, _, _, _, _, _, _, _, _, _, ?_, (F.world hb).s2 hun (ho.mono (by omega))⟩
        simp [Act.put]
      · -- 3
        refine wpOp_of hoi (fun K hK => ?_)
        simp only [List.getElem?_toArray, List.getElem?_cons_succ, List.getElem?_cons_zero, Option.some.injEq] at hoi
        subst hoi
        simp only [Act.put]
        go_simp
        refine hK _ _ ⟨_, _, _, _, _, _, _, _, _, _, _, ?_, F.s3⟩
        simp [Act.put]
      · -- 4
        obtain rfl := F.f3 (ready_at hi rfl 3 (by kernel_rfl))
        refine wpOp_of hoi (fun K hK => ?_)
        simp only [List.getElem?_toArray, List.getElem?_cons_succ, List.getElem?_cons_zero, Option.some.injEq] at hoi
        subst hoi
        simp only [Act.put]
        go_simp
        refine hK _ _ ⟨_, _, _, _, _, _, _, _, _, _, _, ?_, F.s4⟩
        simp [Act.put]
      · -- 5
        obtain rfl := F.f4 (ready_at hi rfl 4 (by kernel_rfl))
        have hun := not_on (mem_ready.1 hi).1
        refine wpOp_of hoi (fun K hK => ?_)
        simp only [List.getElem?_toArray, List.getElem?_cons_succ, List.getElem?_cons_zero, Option.some.injEq] at hoi
        subst hoi
        refine step_cloneSpecs rfl (.const (.slice none 0 0)) (.tmp 10) rfl t.F t.fn t.fc _ t.fs rfl (by simp [Act.put, Act.eval]) hTi.form (by omega) ?_
        intro A' c' w8 ho hb
        have hz := F.bel.size
        refine hK _ _ ⟨_, _, _, _, _, _, _, _, _, _, _, ?_, (F.world hb).s5 hun (ho.mono (by omega))⟩
        simp [Act.put]
      · -- 6
        refine wpOp_of hoi (fun K hK => ?_)
        simp only [List.getElem?_toArray, List.getElem?_cons_succ, List.getElem?_cons_zero, Option.some.injEq] at hoi
        subst hoi
        simp only [Act.put]
        go_simp
        refine hK _ _ ⟨_, _, _, _, _, _, _, _, _, _, _, ?_, F.s6⟩
        simp [Act.put]
      · -- 7
        obtain rfl := F.f6 (ready_at hi rfl 6 (by kernel_rfl))
        refine wpOp_of hoi (fun K hK => ?_)
        simp only [List.getElem?_toArray, List.getElem?_cons_succ, List.getElem?_cons_zero, Option.some.injEq] at hoi
        subst hoi
        simp only [Act.put]
        go_simp
        refine hK _ _ ⟨_, _, _, _, _, _, _, _, _, _, _, ?_, F.s7⟩
        simp [Act.put]
      · -- 8
        obtain rfl := F.f7 (ready_at hi rfl 7 (by kernel_rfl))
        have hun := not_on (mem_ready.1 hi).1
        refine wpOp_of hoi (fun K hK => ?_)
        simp only [List.getElem?_toArray, List.getElem?_cons_succ, List.getElem?_cons_zero, Option.some.injEq] at hoi
        subst hoi
        refine step_cloneInts rfl (.const (.slice none 0 0)) (.tmp 13) 32 rfl 2 j0 Try.underlying32 hj0 hy0 hy1 hy2 t.V t.vn t.vc _ t.vs rfl (by simp [Act.put, Act.eval]) hTi.vals (by omega) ?_
        intro A' c' w8 ho hb
        have hz := F.bel.size
        refine hK _ _ ⟨_, _, _, _, _, _, _, _, _, _, _, ?_, (F.world hb).s8 hun (ho.mono (by omega))⟩
        simp [Act.put]
      · -- 9
        have o2 := ready_at hi rfl 2 (by kernel_rfl)
        have o5 := ready_at hi rfl 5 (by kernel_rfl)
        have o8 := ready_at hi rfl 8 (by kernel_rfl)
        obtain ⟨A1, c1, rfl, h1⟩ := F.f2 o2
        obtain ⟨A2, c2, rfl, h2⟩ := F.f5 o5
        obtain ⟨A3, c3, rfl, h3⟩ := F.f8 o8
        refine wpOp_of hoi (fun K hK => ?_)
        simp only [List.getElem?_toArray, List.getElem?_cons_succ, List.getElem?_cons_zero, Option.some.injEq] at hoi
        subst hoi
        simp only [Act.put]
        go_simp
        refine hK _ _ ⟨_, _, _, _, _, _, _, _, _, _, _, ?_, F.s9 o2 o5 o8⟩
        simp [Act.put]
      · -- 10
        have hun := not_on (mem_ready.1 hi).1
        refine wpOp_of hoi (fun K hK => ?_)
        simp only [List.getElem?_toArray, List.getElem?_cons_succ, List.getElem?_cons_zero, Option.some.injEq] at hoi
        subst hoi
        simp only [Act.put]
        go_simp
        have hz := F.bel.size
        refine hK _ _ ⟨_, _, _, _, _, _, _, _, _, _, _, ?_, (F.world (lvBelow w' _)).s10 hun (by omega) (heap_alloc_new w' _)⟩
        simp [Act.put]
      · -- 11
        have o9 := ready_at hi rfl 9 (by kernel_rfl)
        have o10 := ready_at hi rfl 10 (by kernel_rfl)
        obtain ⟨o2, o5, o8, rfl⟩ := F.f9 o9
        obtain ⟨A1, c1, rfl, h1⟩ := F.f2 o2
        obtain ⟨A2, c2, rfl, h2⟩ := F.f5 o5
        obtain ⟨A3, c3, rfl, h3⟩ := F.f8 o8
        obtain ⟨g, y0, y1, y2, y3, rfl, h4, h5⟩ := F.f10 o10
        obtain ⟨q0, q1, q2, q3, f0, f1, f2, f3⟩ := lvCells h5
        have hset := set_four w' g y0 y1 y2 y3 (.slice A1 t.n c1) (.slice A2 t.fn c2) (.slice none 0 0) (.slice A3 t.vn c3) _ h5
        refine wpOp_of hoi (fun K hK => ?_)
        simp only [List.getElem?_toArray, List.getElem?_cons_succ, List.getElem?_cons_zero, Option.some.injEq] at hoi
        subst hoi
        simp only [Act.put]
        go_simp
        refine hK _ _ ⟨_, _, _, _, _, _, _, _, _, _, _, ?_, F.s11 rfl h4 o9 o10 h5 hset.1 (F.bel.trans (hset.2.2 _ (by have := F.bel.size; omega))) hset.2.1⟩
        simp [Act.put]
  case rest =>
    obtain ⟨g, A1, c1, A2, c2, A3, c3, rfl, hR⟩ := hcut
    obtain ⟨r1, r2, r3, r4, r5, r6⟩ := hR
    have hC0 : CopyI w t g A1 c1 A2 c2 A3 c3 0 none 0 [] (fun _ => wc.heap.size) wc :=
      ⟨HZ.out.trans (r1.mono HZ.out.size), by omega, r3, r4.mono (by omega), r5.mono (by omega), r6.mono (by omega), OwnV.nil_ _ _, rfl, fun j l hl => by simp at hl, fun b hb => by obtain ⟨cur, hc, _⟩ := ownI_blk r4 hb; exact lt_of_heap hc, (by have := r1.size; omega), fun j => Nat.le_refl _, Nat.le_refl _, fun j l hl => by simp at hl⟩
    have HC0 := Lib.hid hC0
    have hP := keep_b r1 HB1.out
    have HQ := Lib.hid (keep_b r1 HB2.out)
    have HG2 : Hid (w.heap.size + 2 ≤ g) := by unfold Hid; omega
    obtain ⟨LA, hLA⟩ : ∃ LA, t.L = LA := ⟨_, rfl⟩
    have HLA := Lib.hid hLA
    clear k0 k1 k2 k3
    obtain ⟨k0, k1, k2, k3, _⟩ := lvCells hP
    rw [hLA] at k2
    clear r1 r2 r3 r4 r5 r6 hC0 hP hLA hw1
    obtain ⟨wo, rfl⟩ : ∃ wo : World, wo = wc := ⟨_, rfl⟩
    go_wp2_with fail
    clear k0 k1 k2 k3
    go_loopw [19] (fun i wr => ∃ (k : Nat) (A4 : Option Addr) (c4 : Nat) (ls' : List Lv) (f : Nat → Nat), k ≤ t.ln ∧ i = .int .i64 k ∧ Hid (CopyI w t g A1 c1 A2 c2 A3 c3 k A4 c4 ls' f wr) ∧ Hid (wr.heap[w.heap.size + 1]? = some (.cells #[.slice none 0 0, .slice none 0 0, .slice none 0 0, .slice none 0 0] 34 (0, 0)))) (fun i _ => t.ln - (intOf i).toNat)
    case atStart => exact ⟨0, none, 0, [], _, Nat.zero_le _, rfl, HC0, HQ⟩
    case round =>
      obtain ⟨k, A4, c4, ls', f, hk, rfl, HC, HR⟩ := hrel
      by_cases hlt : k < t.ln
      · obtain ⟨bl, ol, l, hLA, hbl, HL, d0, d1, d2, d3, li⟩ := (HI.out.on HC.out.bel).lvs.at_ hlt
        obtain rfl : LA = some ⟨bl, ol, none⟩ := HLA.out.symm.trans hLA
        have hfew := HF.out.2.2.2.2 l (List.mem_of_getElem? HL.out)
        have hkI : (k : Int) < (t.ln : Int) := by omega
        have hk0 : (0 : Int) ≤ (k : Int) := by omega
        obtain ⟨W1, hW1⟩ : ∃ W, wr.alloc (lvO l.k l.s l.A l.n l.c l.B l.m l.e) = W := ⟨_, rfl⟩
        have hM1 : MidW wr W1 wr.heap.size (.int .i64 l.k) (.int .i64 l.s) (.slice l.A l.n l.c) (.slice l.B l.m l.e) := by rw [← hW1]; exact MidW.start wr
        have hb1 : Below wr.heap.size wr W1 := by rw [← hW1]; exact lvBelow wr _
        obtain ⟨q0, q1, q2, q3, _⟩ := lvCells hM1.box
        have hp1 := li.pos.below hb1
        have HM1 := Lib.hid hM1
        have HLI := Lib.hid li
        have HLT : Hid (k + 1 ≤ t.ln) := hlt
        have HHI : Hid (∀ W, Below wr.heap.size wr W → l.In W wr.heap.size) := fun W hW => li.below hW
        clear hLA hlt hM1 li hb1
        go_upto_region 5 with fail
        try rw [hW1]
        clear d0 d1 d2 d3 hW1
        have hl3 : l.n ≤ 1000000 := by omega
        go_upto_region 6 with (at_builtin; refine wpList_appendInts _ rfl (.const (.slice none 0 0)) (.tmp 24) 22 rfl W1.heap.size 3 i0 Try.underlying22 hi0 hz0 hz1 hz2 none l.A 0 l.n l.c wr.heap.size 0 l.n [] l.xs rfl rfl (OwnI.nil_ _ _ _) rfl (Nat.zero_add _) hp1 hl3 (Nat.le_refl _) ?_; intro A5 c5 w2 HO5 HG5; have hb2 := below_of_none HG5; have hM2 := HM1.out.below rfl hb2; obtain ⟨p0, p1, p2, p3, pf0, pf1, pf2, pf3⟩ := lvCells hM2.box)
        have hM3 := hM2.set2 (.slice A5 l.n c5)
        have HO5h := Lib.hid HO5
        have hA5 : ∀ b, A5 = some ⟨b, 0, none⟩ → b < w2.heap.size := fun b hb => by obtain ⟨cur, hc, _⟩ := ownI_blk HO5 hb; exact lt_of_heap hc
        have HA5 := Lib.hid hA5
        have HK2 : Hid (KeepC w2 (w2.setCell ⟨wr.heap.size, 2, none⟩ (.slice A5 l.n c5))) := KeepC.of_set hM2.box (.inl rfl) rfl _
        have HLO1 : Hid (wr.heap.size ≤ W1.heap.size) := HM1.out.size
        obtain ⟨W3, hW3⟩ : ∃ W, w2.setCell ⟨wr.heap.size, 2, none⟩ (.slice A5 l.n c5) = W := ⟨_, rfl⟩
        have hs3 : W3.heap.size = w2.heap.size := by rw [← hW3, World.size_setCell]
        rw [hW3] at hM3 HK2 ⊢
        have HS3 := Lib.hid hs3
        have hp3 := HLI.out.crd.below hM3.bel
        have hm3 : l.m ≤ 1000000 := by omega
        clear hW3 q0 q1 q2 q3 p0 p1 p2 p3 pf0 pf1 pf2 pf3 HO5 HG5 hb2 hM2 hp1 hA5 hs3
        obtain ⟨q0, q1, q2, q3, _⟩ := lvCells hM3.box
        have HM3 := Lib.hid hM3
        clear hM3
        go_upto_region 7 with (at_builtin; refine wpList_appendInts _ rfl (.const (.slice none 0 0)) (.tmp 28) 22 rfl W3.heap.size 3 i0 Try.underlying22 hi0 hz0 hz1 hz2 none l.B 0 l.m l.e wr.heap.size 0 l.m [] l.ys rfl rfl (OwnI.nil_ _ _ _) rfl (Nat.zero_add _) hp3 hm3 (Nat.le_refl _) ?_; intro B6 c6 w4 HO6 HG6; have hb4 := below_of_none HG6; have hM4 := HM3.out.below rfl hb4; obtain ⟨p0, p1, p2, p3, pf0, pf1, pf2, pf3⟩ := lvCells hM4.box)
        have hM5 := hM4.set3 (.slice B6 l.m c6)
        obtain ⟨y, hy⟩ : ∃ y : Lv, y = ⟨l.k, l.s, A5, l.n, c5, B6, l.m, c6, l.xs, l.ys⟩ := ⟨_, rfl⟩
        have HK4 : Hid (KeepC w4 (w4.setCell ⟨wr.heap.size, 3, none⟩ (.slice B6 l.m c6))) := KeepC.of_set hM4.box (.inl rfl) rfl _
        have HK24 : Hid (KeepC w2 w4) := HK2.out.trans (KeepC.of_below hb4)
        have HYO : Hid (LvO (w4.setCell ⟨wr.heap.size, 3, none⟩ (.slice B6 l.m c6)) wr.heap.size w4.heap.size y) := by
          subst hy
          have a1 := HLO1.out
          have a2 := HM3.out.size
          have a3 := hb4.size
          have a4 := HS3.out
          refine ⟨((HO5h.out.keepC (by decide) (by decide) (HK24.out.trans HK4.out)).mono a1), ((HO6.keepC (by decide) (by decide) HK4.out).mono a2), fun b hb => ?_, fun b hb => ?_, fun b hb e => ?_, HLI.out.pos.1, HLI.out.crd.1, HLI.out.k0, HLI.out.s0, by have := hfew.1; exact this, by have := hfew.2; exact this⟩
          · have := HA5.out b hb; omega
          · obtain ⟨cur, hc, _⟩ := ownI_blk HO6 hb; exact lt_of_heap hc
          · have h1 := HA5.out b hb
            obtain ⟨cur, hc, h2⟩ := ownI_blk HO6 e
            omega
        obtain ⟨W5, hW5⟩ : ∃ W, w4.setCell ⟨wr.heap.size, 3, none⟩ (.slice B6 l.m c6) = W := ⟨_, rfl⟩
        have hs5 : W5.heap.size = w4.heap.size := by rw [← hW5, World.size_setCell]
        rw [hW5] at hM5 HYO HK4 ⊢
        rw [← hs5] at HYO
        clear hW5 q0 q1 q2 q3 p0 p1 p2 p3 pf0 pf1 pf2 pf3 HO6 HG6 hb4 hM4 hs5
        have hC5 := HC.out.mid hM5
        obtain ⟨q0, q1, q2, q3, _⟩ := lvCells hM5.box
        obtain ⟨g0, g1, g2, g3, _⟩ := lvCells hC5.box
        have HC5 := Lib.hid hC5
        have hR5 := (hM5.keep (w.heap.size + 1) (lt_of_heap HR.out)).trans HR.out
        have HR5 := Lib.hid hR5
        have hk1 : k + 1 ≤ 1000000 := by omega
        have HY := Lib.hid hy
        have HBX : Hid (∀ (A7 : Option Addr) (c7 : Nat) (w6 : World), W5.grownBy w6 (Value.slice A4 k c4).ownBlock → w6.heap[g]? = some (.cells #[.slice A1 t.n c1, .slice A2 t.fn c2, .slice A4 k c4, .slice A3 t.vn c3] 34 (0, 0)) ∧ w6.heap[w.heap.size + 1]? = some (.cells #[.slice none 0 0, .slice none 0 0, .slice none 0 0, .slice none 0 0] 34 (0, 0))) := fun A7 c7 w6 hg => ⟨HC5.out.i4.ty_kept HC5.out.box (by decide) hg, HC5.out.i4.ty_kept HR5.out (by decide) hg⟩
        have hO4 := HC5.out.i4
        have hL4 := HC5.out.len
        have hZ4 := HC5.out.bel.size
        clear hC5 hR5 hM5
        go_upto_region 8 with (at_builtin; refine wpList_appendLv rfl (.tmp 32) (.tmp 34) rfl w.heap.size A4 c4 k (k + 1) W5.heap.size ⟨l.k, l.s, A5, l.n, c5, B6, l.m, c6, l.xs, l.ys⟩ ls' rfl rfl rfl hO4 hL4 rfl hk1 hZ4 ?_; intro A7 c7 w6 HO7 HG7; obtain ⟨hbx, hrx⟩ := HBX.out A7 c7 w6 HG7; obtain ⟨p0, p1, p2, p3, pf0, pf1, pf2, pf3⟩ := lvCells hbx)
        have hstep := HC5.out.step (lo := wr.heap.size) (A7 := A7) (c7 := c7) (y := y) HC.out.fk HYO.out HL.out (by rw [HY.out]; exact ⟨rfl, rfl, rfl, rfl, rfl, rfl⟩) (by rw [HY.out]; exact HO7) HG7
        have hrr := (Below.heap_setCell w6 ⟨g, 2, none⟩ (.slice A7 (k + 1) c7) (w.heap.size + 1) (by have := HG2.out; show w.heap.size + 1 ≠ g; omega)).trans hrx
        have HST := Lib.hid hstep
        have HRR := Lib.hid hrr
        clear hstep hrr q0 q1 q2 q3 g0 g1 g2 g3 p0 p1 p2 p3 pf0 pf1 pf2 pf3 hbx hrx HO7 HG7 hO4 hL4 hy
        go_wp2_with fail
        go_roundw
        case rel => exact ⟨k + 1, A7, c7, ls' ++ [y], _, HLT.out, by go_num, HST, HRR⟩
        case measure => have := HLT.out; simp [intOf]; omega
      · obtain rfl : k = t.ln := by omega
        obtain ⟨g0, g1, g2, g3, _⟩ := lvCells HC.out.box
        obtain ⟨r0, r1, r2, r3, rf0, rf1, rf2, rf3⟩ := lvCells HR.out
        go_wp2_with fail
        have hset := set_four wr (w.heap.size + 1) _ _ _ _ (.slice A1 t.n c1) (.slice A2 t.fn c2) (.slice A4 t.ln c4) (.slice A3 t.vn c3) _ HR.out
        obtain ⟨wz, hwz⟩ : ∃ wz, ((((wr.setCell ⟨w.heap.size + 1, 0, none⟩ (.slice A1 t.n c1)).setCell ⟨w.heap.size + 1, 1, none⟩ (.slice A2 t.fn c2)).setCell ⟨w.heap.size + 1, 2, none⟩ (.slice A4 t.ln c4)).setCell ⟨w.heap.size + 1, 3, none⟩ (.slice A3 t.vn c3)) = wz := ⟨_, rfl⟩
        have hsz : wz.heap.size = wr.heap.size := by rw [← hwz]; simp
        rw [hwz] at hset ⊢
        obtain ⟨s0, s1, s2, s3, _⟩ := lvCells hset.1
        have hgne : g ≠ w.heap.size + 1 := by have := HG2.out; omega
        refine bodyPost_ret (v := (copyT t A1 c1 A2 c2 A3 c3 A4 c4 ls').val) (by simp [results, Try.results16, go_sem, s0, s1, s2, s3]) rfl ⟨g, A1, c1, A2, c2, A3, c3, A4, c4, ls', f, rfl, HC.out.other (HC.out.bel.trans (hset.2.2 _ (by have := HC.out.bel.size; omega))) ?_ ?_ ?_ ?_⟩
        · exact Nat.le_of_eq hsz.symm
        · intro b cur ty h1 h2 hb
          refine hset.2.1 b ?_
          intro e
          subst e
          rw [HR.out] at hb
          injection hb with hb
          injection hb with _ hb
          exact h2 hb.symm
        · exact hset.2.1 g hgne
        · intro b hb
          exact hset.2.1 b (ownV_off HC.out.i4 HR.out (by decide) b hb)
end Go.Proofs.Ytfimnmdcbnfhfaa
