/- The document's Check, Counts and Empty of stored tensors. -/
import Derived.Test.YteepiifhmbcciaaG17
import Derived.Test.YteepiifhmbcciaaG18
import Derived.Test.YteepiifhmbcciaaG19
import Derived.Deep.DeepCutAuto
import Derived.Test.YteepiifhmbcciaaG15
import Derived.Test.YteepiifhmbcciaaG13
namespace Go.Proofs.Yteepiifhmbcciaa
open Go.RowKit Go.Sort

theorem refRises_any (t : Ten) (w : World) (ht : t.In w w.heap.size) (hok : LooseOK t.ls) :
    Calls Try.prog 28 #[t.val] w fun r w' => r = .returned (.bool (pB (RiseL t.ls))) ∧ Below w.heap.size w w' := refRises_aux t _ _ _ _ _ _ _ _ _ _ _ _ _ _ _ _ w rfl ht hok
set_option maxRecDepth 100000 in
set_option maxHeartbeats 8000000 in
theorem refCheck5_aux (T : Ten) (A : Option Addr) (n c : Nat) (xs : List Int) (F : Option Addr) (fn fc : Nat) (fs : List Sp) (L : Option Addr) (ln lc : Nat) (ls : List Lv) (V : Option Addr) (vn vc : Nat) (vs : List Int) (w : World) (hT : T = ⟨A, n, c, xs, F, fn, fc, fs, L, ln, lc, ls, V, vn, vc, vs⟩) (ht : Ten.In w w.heap.size ⟨A, n, c, xs, F, fn, fc, fs, L, ln, lc, ls, V, vn, vc, vs⟩) (hf : fewT ⟨A, n, c, xs, F, fn, fc, fs, L, ln, lc, ls, V, vn, vc, vs⟩) :
    Calls Try.prog 8 #[.agg #[.slice A n c, .slice F fn fc, .slice L ln lc, .slice V vn vc]] w (IntPost (tenE T) w) := by
  obtain ⟨W0, hW0⟩ : ∃ W, w.alloc (.cells #[.slice A n c, .slice F fn fc, .slice L ln lc, .slice V vn vc] 27) = W := ⟨_, rfl⟩
  have HB0 : Hid (Below w.heap.size w W0) := by rw [← hW0]; exact lvBelow w _
  have HX0 : Hid (W0.heap[w.heap.size]? = some (.cells #[.slice A n c, .slice F fn fc, .slice L ln lc, .slice V vn vc] 27 (0, 0))) := by rw [← hW0]; exact heap_alloc_new w _
  obtain ⟨k0, k1, k2, k3, _⟩ := lvCells HX0.out
  have HI := Lib.hid ht
  have HFW := Lib.hid hf
  have hll : ls.length = ln := ht.lvs.1
  have hfl : fs.length = fn := ht.form.1
  have HLL := Lib.hid hll
  have HFL := Lib.hid hfl
  have b1 := ht.l1
  have b2 := ht.n1
  have b3 := ht.f1
  have b4 := ht.v1
  dsimp only at b1 b2 b3 b4
  have HKP : Hid (∀ W, Below W0.heap.size W0 W → Below w.heap.size w W ∧ W.heap[w.heap.size]? = some (.cells #[.slice A n c, .slice F fn fc, .slice L ln lc, .slice V vn vc] 27 (0, 0)) ∧ Ten.In W W.heap.size ⟨A, n, c, xs, F, fn, fc, fs, L, ln, lc, ls, V, vn, vc, vs⟩) := fun W hW => ⟨HB0.out.trans (hW.mono HB0.out.size), keep_b hW HX0.out, HI.out.on (HB0.out.trans (hW.mono HB0.out.size))⟩
  have HTE : Hid (tenE T = if sizesE xs fs ≠ 0 then sizesE xs fs else if pB (OfP ls fs (sizesL xs fs)) = true then if levE ls ln ≠ 0 then levE ls ln else if vn ≠ ahN ls ln then 1 else if pB (RiseL ls) = true then 0 else 1 else 1) := by rw [hT]; exact rfl
  have hSZ := refSizes5_any A n c xs F fn fc fs W0 (HKP.out W0 (Below.refl _ _)).2.2.shape b2 (HKP.out W0 (Below.refl _ _)).2.2.form b3
  have hmx : Try.prog.follows .mixedOrders = true := by kernel_rfl
  clear hT ht hf hll hfl
  go_enter Try.func8, Try.ntmps8
  go_wp2_with fail
  try rw [hW0]
  refine hSZ.mono ?_
  rintro e w1 ⟨hb1, hh⟩
  have HB1 := Lib.hid hb1
  rcases hh with ⟨hE, rfl⟩ | ⟨hE, As, rs, rfl, hO⟩
  · obtain ⟨E, hEE⟩ : ∃ E, sizesE xs fs = E := ⟨_, rfl⟩
    have HF : Hid (tenE T = E) := by unfold Hid; rw [HTE.out, if_pos hE, hEE]
    rw [hEE] at hE ⊢
    have e1 : (E != 0) = true := by simpa using hE
    have HBE := Lib.hid (HKP.out w1 HB1.out).1
    clear hE hEE hb1 k0 k1 k2 k3 hW0 hSZ
    go_wp2_with fail
    go_ret
    exact ⟨by rw [HF.out]; rfl, HBE.out⟩
  have hSI := hO.ints
  rw [sizesL_length, HFL.out] at hSI
  have HSI : Hid (∀ W, Below w1.heap.size w1 W → Ints W W.heap.size As fn (sizesL xs fs)) := fun W hW => (hSI.below hW).more hW.size
  have HE := Lib.hid hE
  have HTE2 : Hid (tenE T = if pB (OfP ls fs (sizesL xs fs)) = true then if levE ls ln ≠ 0 then levE ls ln else if vn ≠ ahN ls ln then 1 else if pB (RiseL ls) = true then 0 else 1 else 1) := by unfold Hid; rw [HTE.out, if_neg (by rw [hE]; simp)]
  have HNO : Hid (¬ OfP ls fs (sizesL xs fs) → tenE T = 1) := fun h => by rw [HTE2.out, pB_f h]; rfl
  clear k0 k1 k2 k3 hW0 hSZ hO hSI hE hb1
  obtain ⟨k0, k1, k2, k3, _⟩ := lvCells (HKP.out w1 HB1.out).2.1
  by_cases hlf : ln = fn
  case neg =>
    have e1 : (ln != fn) = true := by simpa using hlf
    have e2 : ((ln : Int) != (fn : Int)) = true := bne_iff_ne.2 (by omega)
    have HF := Lib.hid (HNO.out fun h => hlf (by rw [← HLL.out, ← HFL.out]; exact h.1))
    have HBE := Lib.hid (HKP.out w1 HB1.out).1
    clear hlf
    go_wp2_with fail
    go_ret
    exact ⟨by rw [HF.out]; rfl, HBE.out⟩
  obtain rfl := hlf
  go_wp2_with fail
  clear k0 k1 k2 k3
  obtain ⟨wb, rfl⟩ : ∃ wb : World, wb = w1 := ⟨_, rfl⟩
  go_loopw [30] (fun i wr => ∃ k : Nat, k ≤ ln ∧ i = .int .i64 k ∧ Hid (∀ (j : Nat) (l : Lv) (f : Sp) (z : Int), j < k → ls[j]? = some l → fs[j]? = some f → (sizesL xs fs)[j]? = some z → l.k = f.k ∧ l.s = z) ∧ Hid (Below wb.heap.size wb wr)) (fun i _ => ln - (intOf i).toNat)
  case atStart => exact ⟨0, Nat.zero_le _, rfl, fun j _ _ _ hj => absurd hj (by omega), Below.refl _ _⟩
  case round =>
    obtain ⟨k, hk, rfl, HA, HB⟩ := hrel
    have hBr := HB1.out.trans (HB.out.mono HB1.out.size)
    by_cases hlt : k < ln
    · obtain ⟨hbw, hXr, hTr⟩ := HKP.out wr hBr
      obtain ⟨bl, ol, l, hLA, hbl, HL, d0, d1, d2, d3, li⟩ := hTr.lvs.at_ hlt
      obtain ⟨bf, of, f, hFA, hbf, HFk, f0, f1, f2, fo⟩ := hTr.form.at_ hlt
      obtain ⟨bz, oz, z, hAs, hbz, HZ, cz, _, _⟩ := (HSI.out wr HB.out).at_ hlt
      dsimp only at HL HFk hLA hFA
      have hxA := lvCells hXr
      rw [hFA] at hxA
      obtain ⟨k0, k1, k2, k3, _⟩ := hxA
      subst hLA
      subst hAs
      obtain ⟨W1, hW1⟩ : ∃ W, wr.alloc (lvO l.k l.s l.A l.n l.c l.B l.m l.e) = W := ⟨_, rfl⟩
      have hb1 : Below wr.heap.size wr W1 := by rw [← hW1]; exact lvBelow wr _
      have hn1 : W1.heap[wr.heap.size]? = some (lvO l.k l.s l.A l.n l.c l.B l.m l.e) := by rw [← hW1]; exact heap_alloc_new _ _
      obtain ⟨q0, q1, q2, q3, _⟩ := lvCells hn1
      have g1 := (hb1.cell (p := ⟨w.heap.size, 1, none⟩) (lt_of_heap hXr)).trans k1
      have gf0 := (hb1.cell (p := ⟨bf, of + k * 3, none⟩) hbf).trans f0
      have gz := (hb1.cell (p := ⟨bz, oz + k, none⟩) hbz).trans cz
      have hkI : (k : Int) < (ln : Int) := by omega
      have hk0 : (0 : Int) ≤ (k : Int) := by omega
      have HBa := Lib.hid (HB.out.trans (hb1.mono HB.out.size))
      have HLT : Hid (k + 1 ≤ ln) := hlt
      have x0 := cell_regrown q0
      have x1 := cell_regrown q1
      have x2 := cell_regrown g1
      have x3 := cell_regrown gf0
      have x4 := cell_regrown gz
      have HNOk : Hid (¬ (l.k = f.k ∧ l.s = z) → tenE T = 1) := fun h => HNO.out fun ho => h (ho.2 k l f z HL.out HFk.out HZ.out)
      clear hbw hXr hTr hFA li fo hb1 hn1 g1 gf0 gz k0 k1 k2 k3 q0 q1 q2 q3 f0 f1 f2 cz hlt hBr
      go_upto_region 9 with fail
      try rw [hW1]
      clear hW1 d0 d1 d2 d3
      by_cases hkk : l.k = f.k
      · have e1 : (l.k != f.k) = false := by simpa using hkk
        by_cases hss : l.s = z
        · have e2 : (l.s != z) = false := by simpa using hss
          have HA2 : Hid (∀ (j : Nat) (l : Lv) (f : Sp) (z : Int), j < k + 1 → ls[j]? = some l → fs[j]? = some f → (sizesL xs fs)[j]? = some z → l.k = f.k ∧ l.s = z) := by
            intro j l' f' z' hj h1 h2 h3
            rcases Nat.lt_or_ge j k with h | h
            · exact HA.out j l' f' z' h h1 h2 h3
            · obtain rfl : j = k := by omega
              rw [HL.out] at h1
              rw [HFk.out] at h2
              rw [HZ.out] at h3
              cases h1; cases h2; cases h3
              exact ⟨hkk, hss⟩
          clear hkk hss
          refine wp_region_quiet_below hmx (by kernel_rfl) ?_
          repeat (quiet_step (fail))
          refine wpQuiet_nil ?_
          intro _ hw'
          obtain ⟨⟨dq, oq⟩, hw''⟩ := hw'
          subst hw''
          obtain ⟨Wq, hWq⟩ : ∃ W, grow (redrawn W1 dq) oq = W := ⟨_, rfl⟩
          have hbq := below_regrown W1 dq oq
          rw [hWq] at hbq ⊢
          have HBq := Lib.hid (HBa.out.trans (hbq.mono HBa.out.size))
          clear x0 x1 x2 x3 x4 hbq hWq
          go_wp2_with fail
          go_roundw
          case rel => exact ⟨k + 1, HLT.out, by go_num, HA2, HBq⟩
          case measure => have := HLT.out; simp [intOf]; omega
        · have e2 : (l.s != z) = true := by simpa using hss
          have HF := Lib.hid (HNOk.out fun h => hss h.2)
          clear hkk hss
          refine wp_region_quiet_below hmx (by kernel_rfl) ?_
          repeat (quiet_step (fail))
          refine wpQuiet_nil ?_
          intro _ hw'
          obtain ⟨⟨dq, oq⟩, hw''⟩ := hw'
          subst hw''
          obtain ⟨Wq, hWq⟩ : ∃ W, grow (redrawn W1 dq) oq = W := ⟨_, rfl⟩
          have hbq := below_regrown W1 dq oq
          rw [hWq] at hbq ⊢
          have HBq := Lib.hid (HKP.out _ (HB1.out.trans ((HBa.out.trans (hbq.mono HBa.out.size)).mono HB1.out.size))).1
          clear x0 x1 x2 x3 x4 hbq hWq
          go_wp2_with fail
          go_ret
          exact ⟨by rw [HF.out]; rfl, HBq.out⟩
      · have e1 : (l.k != f.k) = true := by simpa using hkk
        have HF := Lib.hid (HNOk.out fun h => hkk h.1)
        clear hkk
        refine wp_region_quiet_below hmx (by kernel_rfl) ?_
        repeat (quiet_step (fail))
        refine wpQuiet_nil ?_
        intro _ hw'
        obtain ⟨⟨dq, oq⟩, hw''⟩ := hw'
        subst hw''
        obtain ⟨Wq, hWq⟩ : ∃ W, grow (redrawn W1 dq) oq = W := ⟨_, rfl⟩
        have hbq := below_regrown W1 dq oq
        rw [hWq] at hbq ⊢
        have HBq := Lib.hid (HKP.out _ (HB1.out.trans ((HBa.out.trans (hbq.mono HBa.out.size)).mono HB1.out.size))).1
        clear x0 x1 x2 x3 x4 hbq hWq
        go_wp2_with fail
        go_ret
        exact ⟨by rw [HF.out]; rfl, HBq.out⟩
    · obtain rfl : k = ln := by omega
      have hOF : OfP ls fs (sizesL xs fs) := ⟨by rw [HLL.out, HFL.out], fun j l f z h1 h2 h3 => HA.out j l f z (by have := (List.getElem?_eq_some_iff.1 h1).1; have := HLL.out; omega) h1 h2 h3⟩
      have HTE3 : Hid (tenE T = if levE ls k ≠ 0 then levE ls k else if vn ≠ ahN ls k then 1 else if pB (RiseL ls) = true then 0 else 1) := by unfold Hid; rw [HTE2.out, pB_t hOF]; rfl
      have HLO : Hid (levE ls k = 0 → LooseOK ls) := fun he => looseOK_of (sizesE_parts HE.out).2.1 (sizesL_length _ _) hOF (by rw [HLL.out]; exact he)
      obtain ⟨hbw, hXr, hTr⟩ := HKP.out wr hBr
      have hCN := refCnt_any ⟨A, n, c, xs, F, k, fc, fs, L, k, lc, ls, V, vn, vc, vs⟩ wr hTr HFW.out
      obtain ⟨k0, k1, k2, k3, _⟩ := lvCells hXr
      have HBR := Lib.hid hBr
      clear hOF hbw hXr hTr hlt hBr
      go_wp2_with fail
      refine hCN.mono ?_
      rintro e w3 ⟨hb3, hh⟩
      have HB3 := Lib.hid (HBR.out.trans (hb3.mono HBR.out.size))
      rcases hh with ⟨he, rfl⟩ | ⟨he, Ac, rc, rfl, hO⟩
      · dsimp only at he
        obtain ⟨E, hEE⟩ : ∃ E, levE ls k = E := ⟨_, rfl⟩
        have HF : Hid (tenE T = E) := by unfold Hid; rw [HTE3.out, if_pos he, hEE]
        dsimp only
        rw [hEE] at he ⊢
        have e1 : (E != 0) = true := by simpa using he
        have HBE := Lib.hid (HKP.out _ HB3.out).1
        clear he hEE hb3 k0 k1 k2 k3
        go_wp2_with fail
        go_ret
        exact ⟨by rw [HF.out]; rfl, HBE.out⟩
      dsimp only at he hO
      have hI := hO.ints
      rw [cntL_length, HLL.out] at hI
      obtain ⟨N, hN⟩ : ∃ N, ahN ls k = N := ⟨_, rfl⟩
      have HN := Lib.hid hN
      have HE0 := Lib.hid he
      have HTE4 : Hid (tenE T = if vn ≠ N then 1 else if pB (RiseL ls) = true then 0 else 1) := by unfold Hid; rw [HTE3.out, if_neg (by rw [he]; simp), hN]
      clear he hO hb3 k0 k1 k2 k3 hCN hN
      go_upto_if 64 with fail
      go_cut [8] (fun s wx => s = .int .i64 (N : Int) ∧ wx = w3)
      case first =>
        by_cases h0 : k = 0
        · have hN1 : N = 1 := by rw [← HN.out, h0]; rfl
          subst h0
          subst hN1
          go_wp2_with fail
          go_meet
          exact ⟨rfl, rfl⟩
        · have c1 : decide (0 < k) = true := decide_eq_true (by omega)
          have c2 : decide (0 < (k : Int)) = true := decide_eq_true (by omega)
          first | rw [c1] | rw [c2]
          obtain ⟨k', hk'⟩ : ∃ k' : Nat, Hid (k' + 1 = k) := ⟨k - 1, by unfold Hid; omega⟩
          have c3 : IntKind.i64.wrap ((k : Int) - 1) = (k' : Int) := by
            have := hk'.out
            rw [show (k : Int) - 1 = (k' : Int) by omega]
            exact IntWalk.i64_in _ (by omega)
          have c4 : (k' : Int) < (k : Int) := by have := hk'.out; omega
          have c5 : (0 : Int) ≤ (k' : Int) := by omega
          obtain ⟨bc, oc, y, hAc, _, HY, cy, _, _⟩ := hI.at_ (k := k') (by have := hk'.out; omega)
          have hy : y = (N : Int) := by
            have := HY.out
            unfold cntL at this
            rw [List.getElem?_map, List.getElem?_range (by have := hk'.out; rw [HLL.out]; omega)] at this
            injection this with this
            rw [← this]
            show ((ahN ls (k' + 1) : Nat) : Int) = _
            rw [hk'.out, HN.out]
          subst hAc
          rw [hy] at cy
          clear h0 hI
          go_wp2_with fail
          go_meet
          exact ⟨rfl, rfl⟩
      case rest =>
        obtain ⟨rfl, rfl⟩ := hcut
        obtain ⟨hbw, hXr, hTr⟩ := HKP.out _ HB3.out
        have hRI := refRises_any ⟨A, n, c, xs, F, k, fc, fs, L, k, lc, ls, V, vn, vc, vs⟩ _ hTr (HLO.out HE0.out)
        obtain ⟨k0, k1, k2, k3, _⟩ := lvCells hXr
        dsimp only at hRI
        obtain ⟨RB, hRB⟩ : ∃ b, pB (RiseL ls) = b := ⟨_, rfl⟩
        rw [hRB] at hRI
        have HBW := Lib.hid hbw
        have HRB := Lib.hid hRB
        clear hXr hTr hbw hRB hI
        by_cases hv : vn = N
        · have e1 : ((vn : Int) != (N : Int)) = false := by rw [hv]; simp
          have e2 : (vn != N) = false := by rw [hv]; simp
          have HF : Hid (tenE T = if RB = true then 0 else 1) := by unfold Hid; rw [HTE4.out, if_neg (by rw [hv]; simp), HRB.out]
          clear hv
          go_wp2_with fail
          refine hRI.mono ?_
          rintro e w5 ⟨rfl, hb5⟩
          have HB5 := Lib.hid (HBW.out.trans (hb5.mono HBW.out.size))
          clear hb5 k0 k1 k2 k3 hRI
          cases RB
          all_goals
            go_wp2_with fail
            go_ret
            exact ⟨by rw [HF.out]; rfl, HB5.out⟩
        · have e1 : ((vn : Int) != (N : Int)) = true := bne_iff_ne.2 (by omega)
          have e2 : (vn != N) = true := bne_iff_ne.2 hv
          have HF : Hid (tenE T = 1) := by unfold Hid; rw [HTE4.out, if_pos hv]
          clear hv
          go_wp2_with fail
          go_ret
          exact ⟨by rw [HF.out]; rfl, HBW.out⟩
theorem refCheck5_any (t : Ten) (w : World) (ht : t.In w w.heap.size) (hf : fewT t) : Calls Try.prog 8 #[t.val] w (IntPost (tenE t) w) := refCheck5_aux t _ _ _ _ _ _ _ _ _ _ _ _ _ _ _ _ w rfl ht hf
end Go.Proofs.Yteepiifhmbcciaa
/- The document's place of a number of a stored tensor. -/
namespace Go.Proofs.Yteepiifhmbcciaa
open Go.RowKit Go.Sort

/-- the places that are known, of the last levels -/
def atP (p : List Int) (k : Nat) : List Int := List.replicate k 0 ++ p.drop k
theorem atP_length {p : List Int} {k : Nat} (h : k ≤ p.length) : (atP p k).length = p.length := by unfold atP; simp; omega
theorem atP_set {p : List Int} {k : Nat} {v : Int} (hv : p[k]? = some v) : (atP p (k + 1)).set k v = atP p k := by
  unfold atP
  have hk := (List.getElem?_eq_some_iff.1 hv).1
  rw [List.set_append_left _ _ (by simp), drop_of hv]
  have : (List.replicate (k + 1) (0 : Int)).set k v = List.replicate k 0 ++ [v] := by
    rw [List.replicate_succ', List.set_append_right _ _ (by simp), List.length_replicate, Nat.sub_self]
    rfl
  rw [this, List.append_assoc]
  rfl
theorem atP_zero (p : List Int) : atP p 0 = p := by unfold atP; simp
theorem atP_all (p : List Int) {n : Nat} (h : p.length = n) : stC (atP p n) = List.replicate n (.int .i64 0) := by
  unfold atP stC
  rw [List.drop_of_length_le (by omega)]
  simp
section
variable {xs : List Int} {fs : List Sp} {ls : List Lv}
theorem Tok.doc_range (h : Tok xs fs ls) {q : Nat} (hq : q < ahN ls ls.length) {k : Nat} {f : Sp} (hf : fs[k]? = some f) {m : Nat} (hm : f.m = (m : Int)) (hm2 : m < xs.length) : 0 ≤ (docC xs.length fs (pathN ls ls.length q) (k + 1)).getD m 0 ∧ (docC xs.length fs (pathN ls ls.length q) (k + 1)).getD m 0 < xs.getD m 0 := by
  obtain ⟨l, hl⟩ := h.level hf
  have hk := (List.getElem?_eq_some_iff.1 hl).1
  obtain ⟨d, hd⟩ : ∃ d, ls.length = k + 1 + d := ⟨ls.length - (k + 1), by omega⟩
  rw [hd] at hq ⊢
  have ha := h.anc_lt d (k + 1) (by omega) q hq
  obtain ⟨t, ht⟩ := path_anc (ls := ls) d (k + 1) (by omega) q
  have hs := h.doc_step (k + 1) (by omega) _ ha m hm2
  have hc := (invC_node h (k + 1) (by omega) _ ha).in_ m hm2 (by
    have := cntS_pos (fs := fs.take (k + 1)) (i := k) (x := f) (by rw [List.getElem?_take, if_pos (by omega)]; exact hf) hm
    omega)
  rw [ht, docC_append _ _ _ _ (k + 1) (by rw [pathN_length (by omega)]; exact Nat.le_refl _)]
  have hb := bsz_pos h.form (m : Int)
  obtain ⟨D, hD⟩ : ∃ D, (docC xs.length fs (pathN ls (k + 1) (ancD ls (k + 1) d q)) (k + 1)).getD m 0 = D := ⟨_, rfl⟩
  obtain ⟨R, hR⟩ : ∃ R, (if cntS (fs.take (k + 1)) (m : Int) = 1 then bsz fs (m : Int) else 1) = R := ⟨_, rfl⟩
  have hR1 : 1 ≤ R := by rw [← hR]; split <;> omega
  rw [hD, hR] at hs
  rw [hs] at hc
  rw [hD]
  have h0 : 0 ≤ D := by
    rcases Int.lt_or_le D 0 with hh | hh
    · have : D * R < 0 := Int.mul_neg_of_neg_of_pos hh (by omega)
      omega
    · exact hh
  have h1 : D * 1 ≤ D * R := Int.mul_le_mul_of_nonneg_left hR1 h0
  omega
theorem cnt_ahead {k : Nat} (hk : k < ls.length) : ((1 : Int) :: cntL ls)[k]? = some ((ahN ls k : Nat) : Int) := by
  cases k with
  | zero => rfl
  | succ k =>
    rw [List.getElem?_cons_succ]
    unfold cntL
    rw [List.getElem?_map, List.getElem?_range (by omega)]
    rfl
theorem lev_one (h : Tok xs fs ls) {k : Nat} {l : Lv} (hl : ls[k]? = some l) : lvF l.k l.s l.xs l.ys (ahN ls k) = 0 := by
  have hk := (List.getElem?_eq_some_iff.1 hl).1
  have h1 : levE ls (k + 1) = 0 := by
    rcases Classical.em (levE ls (k + 1) = 0) with hh | hh
    · exact hh
    · obtain ⟨d, hd⟩ : ∃ d, ls.length = k + 1 + d := ⟨ls.length - (k + 1), by omega⟩
      have := levE_stay hh d
      rw [← hd, h.lev] at this
      exact absurd this.symm hh
  have h0 : levE ls k = 0 := by
    rcases Classical.em (levE ls k = 0) with hh | hh
    · exact hh
    · have := levE_stay hh 1
      rw [h1] at this
      exact absurd this.symm hh
  rw [← levE_succ hl h0]
  exact h1
end
end Go.Proofs.Yteepiifhmbcciaa
/- The document's place of a number: its run. -/
namespace Go.Proofs.Yteepiifhmbcciaa
open Go.RowKit Go.Sort

def PlacePost (w : World) (T : Ten) (q : Nat) (e : Ending) (w' : World) : Prop :=
  Below w.heap.size w w' ∧ ∃ g, w.heap.size ≤ g ∧ e = .returned (.slice (some ⟨g, 0, none⟩) T.n T.n) ∧ w'.heap[g]? = some (.cells (stC (cN T.n T.fs T.ls T.ln q)).toArray 3 (0, 0))
set_option maxRecDepth 100000 in
set_option maxHeartbeats 8000000 in
theorem refPlace_aux (T : Ten) (A : Option Addr) (n c : Nat) (xs : List Int) (F : Option Addr) (fn fc : Nat) (fs : List Sp) (L : Option Addr) (lc : Nat) (ls : List Lv) (V : Option Addr) (vn vc : Nat) (vs : List Int) (w : World) (hT : T = ⟨A, n, c, xs, F, fn, fc, fs, L, fn, lc, ls, V, vn, vc, vs⟩) (ht : Ten.In w w.heap.size ⟨A, n, c, xs, F, fn, fc, fs, L, fn, lc, ls, V, vn, vc, vs⟩)
    (hf : fewT ⟨A, n, c, xs, F, fn, fc, fs, L, fn, lc, ls, V, vn, vc, vs⟩) (hTok : Tok xs fs ls) (AH : Option Addr) (ac : Nat) (hAH : Ints w w.heap.size AH (fn + 1) (1 :: cntL ls)) (q : Nat) (hq : q < ahN ls fn) :
    Calls Try.prog 39 #[.agg #[.slice A n c, .slice F fn fc, .slice L fn lc, .slice V vn vc], .slice AH (fn + 1) ac, .int .i64 q] w (PlacePost w T q) := by
  have hmx : Try.prog.follows .mixedOrders = true := by kernel_rfl
  have HT := Lib.hid hT
  have HI := Lib.hid ht
  have HAH := Lib.hid hAH
  have HTok := Lib.hid hTok
  have HFL : Hid (fs.length = fn) := ht.form.1
  have HLL : Hid (ls.length = fn) := ht.lvs.1
  have HXL : Hid (xs.length = n) := ht.shape.1
  have HXR : Hid (∀ z ∈ xs, -9223372036854775808 ≤ z ∧ z ≤ 9223372036854775807) := ht.shape.2.1
  have HFW : Hid (∀ l ∈ ls, l.n ≤ 3000 ∧ l.m ≤ 3000) := hf.2.2.2.2
  have b0 : n ≤ 20 := hf.1
  have b1 : fn ≤ 40 := hf.2.1
  have hq' : q < ahN ls ls.length := by rw [HLL.out]; exact hq
  have HQ := Lib.hid hq'
  have hq1 : q ≤ 1048576 := by
    have := ahN_le hTok.lev (Nat.le_refl _) (k := ls.length) (by have := HLL.out; omega)
    omega
  obtain ⟨P, hP⟩ : ∃ P, pathN ls ls.length q = P := ⟨_, rfl⟩
  have HP := Lib.hid hP
  have HPL : Hid (P.length = fn) := by unfold Hid; rw [← hP, pathN_length (Nat.le_refl _)]; exact HLL.out
  obtain ⟨W0, hW0⟩ : ∃ W, w.alloc (.cells #[.slice A n c, .slice F fn fc, .slice L fn lc, .slice V vn vc] 27) = W := ⟨_, rfl⟩
  have HB0 : Hid (Below w.heap.size w W0) := by rw [← hW0]; exact lvBelow w _
  have HX0 : Hid (W0.heap[w.heap.size]? = some (.cells #[.slice A n c, .slice F fn fc, .slice L fn lc, .slice V vn vc] 27 (0, 0))) := by rw [← hW0]; exact heap_alloc_new w _
  obtain ⟨k0, k1, k2, k3, _⟩ := lvCells HX0.out
  have hmk := fun W => vrun_make fn (by omega) W
  have hmk2 := fun W => vrun_make n (by omega) W
  obtain ⟨W1, hW1⟩ : ∃ W, W0.alloc (.cells (Array.replicate fn (Value.int .i64 0)) 3) = W := ⟨_, rfl⟩
  have HB1 : Hid (Below w.heap.size w W1) := HB0.out.trans (by rw [← hW1]; exact (Below.refl _ W0).alloc HB0.out.size _)
  have HX1 : Hid (W1.heap[w.heap.size]? = some (.cells #[.slice A n c, .slice F fn fc, .slice L fn lc, .slice V vn vc] 27 (0, 0))) := by rw [← hW1]; exact heapPast_ _ HX0.out
  have hg1 : W1.heap[W0.heap.size]? = some (.cells (stC (atP P fn)).toArray 3 (0, 0)) := by rw [← hW1, heap_alloc_new, atP_all P HPL.out]; simp
  have HG1 := Lib.hid hg1
  obtain ⟨gA, hgA⟩ : ∃ g, W0.heap.size = g := ⟨_, rfl⟩
  rw [hgA] at HG1
  have hga : w.heap.size < gA := by rw [← hgA]; exact lt_of_heap HX0.out
  obtain ⟨y0, y1, y2, y3, _⟩ := lvCells HX1.out
  clear hT ht hf hAH hTok hq hq' hP hg1
  go_enter Try.func39, Try.ntmps39
  go_wp2_with fail
  try rw [hW0]
  try rw [hW1]
  try rw [hgA]
  clear k0 k1 k2 k3 y0 y1 y2 y3 hmk hW0 hW1
  go_loopw [8, 2] (fun i u wr => ∃ k : Nat, k ≤ fn ∧ i = .int .i64 ((k : Int) - 1) ∧ u = .int .i64 ((ancD ls k (fn - k) q : Nat) : Int) ∧ Hid (wr.heap[gA]? = some (.cells (stC (atP P k)).toArray 3 (0, 0))) ∧ Hid (Below w.heap.size w wr) ∧ Hid (wr.heap[w.heap.size]? = some (.cells #[.slice A n c, .slice F fn fc, .slice L fn lc, .slice V vn vc] 27 (0, 0)))) (fun i _ _ => (intOf i + 1).toNat)
  case atStart => exact ⟨fn, Nat.le_refl _, rfl, by rw [Nat.sub_self, ancD], HG1, HB1, HX1⟩
  case round =>
    obtain ⟨k', hk, rfl, rfl, HG, HB, HX⟩ := hrel
    obtain ⟨k0, k1, k2, k3, _⟩ := lvCells HX.out
    cases k' with
    | zero =>
      have d1 : decide ((0 : Int) ≤ ((0 : Nat) : Int) - 1) = false := by decide
      have e0 : (((0 : Nat) : Int) - 1) = -1 := rfl
      obtain ⟨NQ, hNQ⟩ : ∃ z, ((ancD ls 0 (fn - 0) q : Nat) : Int) = z := ⟨_, rfl⟩
      rw [e0, hNQ]
      clear d1 e0 hNQ
      obtain ⟨W2, hW2⟩ : ∃ W, wr.alloc (.cells (Array.replicate n (Value.int .i64 0)) 3) = W := ⟨_, rfl⟩
      have hbw2 : Below wr.heap.size wr W2 := by rw [← hW2]; exact (Below.refl _ wr).alloc (Nat.le_refl _) _
      have HB2 : Hid (Below w.heap.size w W2) := HB.out.trans (hbw2.mono HB.out.size)
      have HX2 := Lib.hid (keep_b hbw2 HX.out)
      have HG2 := Lib.hid (keep_b hbw2 HG.out)
      have hgo : W2.heap[wr.heap.size]? = some (.cells (stC (docC n fs P 0)).toArray 3 (0, 0)) := by rw [← hW2, heap_alloc_new, docC]; unfold stC; simp
      obtain ⟨go, hgo2⟩ : ∃ g, wr.heap.size = g := ⟨_, rfl⟩
      rw [hgo2] at hgo
      have HO := Lib.hid hgo
      have hog : gA ≠ go := by have := lt_of_heap HG.out; omega
      have hox : w.heap.size ≠ go := by have := lt_of_heap HX.out; omega
      have how : w.heap.size ≤ go := by have := HB.out.size; omega
      rw [atP_zero] at HG2
      obtain ⟨y0, y1, y2, y3, _⟩ := lvCells HX2.out
      clear hgo hbw2
      go_wp2_with fail
      try rw [hW2]
      try rw [hgo2]
      clear k0 k1 k2 k3 y0 y1 y2 y3 hW2 hgo2 hmk2 HG HB HX HG1 HB1 HX1 HX0 HB0 hk
      go_loopw [54] (fun i wr => ∃ k : Nat, k ≤ fn ∧ i = .int .i64 k ∧ Hid (wr.heap[go]? = some (.cells (stC (docC n fs P k)).toArray 3 (0, 0))) ∧ Hid (wr.heap[gA]? = some (.cells (stC P).toArray 3 (0, 0))) ∧ Hid (Below w.heap.size w wr) ∧ Hid (wr.heap[w.heap.size]? = some (.cells #[.slice A n c, .slice F fn fc, .slice L fn lc, .slice V vn vc] 27 (0, 0)))) (fun i _ => fn - (intOf i).toNat)
      case atStart => exact ⟨0, Nat.zero_le _, rfl, HO, HG2, HB2, HX2⟩
      case round =>
        obtain ⟨k, hk, rfl, HO, HG, HB, HX⟩ := hrel
        by_cases hlt : k < fn
        · obtain ⟨bl, ol, s, hFA, hbb, HFk, f0, f1, f2, sok⟩ := (HI.out.on HB.out).form.at_ hlt
          dsimp only at HFk hFA
          obtain ⟨l, hl⟩ := HTok.out.level HFk.out
          obtain ⟨m, hm, hm2⟩ := HTok.out.mode HFk.out
          have hrg := HTok.out.doc_range HQ.out HFk.out hm hm2
          obtain ⟨D, hD⟩ : ∃ d, fn = k + 1 + d := ⟨fn - (k + 1), by omega⟩
          have hlq := HTok.out.anc_lt D (k + 1) (by have := HLL.out; omega) q (by have := HQ.out; rw [HLL.out] at this; rw [← hD]; exact this)
          have hpv : P[k]? = some (atN l.k l.s l.ys (ancD ls (k + 1) D q)) := by
            rw [← HP.out, show ls.length = k + 1 + D by rw [HLL.out]; exact hD]
            exact path_here hl D (by have := HLL.out; omega) q
          rw [ahN_succ hl] at hlq
          have hlok := HTok.out.lok hl
          have hpl := hlok.place _ hlq
          have hsz := hlok.size1
          obtain ⟨d, hd⟩ : ∃ d, atN l.k l.s l.ys (ancD ls (k + 1) D q) = d := ⟨_, rfl⟩
          rw [hd] at hpv hpl
          have hmn : m < n := by rw [← HXL.out]; exact hm2
          have hxm : xs.getD m 0 ≤ 9223372036854775807 := by rw [List.getD_eq_getElem?_getD, List.getElem?_eq_getElem hm2]; exact (HXR.out _ (List.getElem_mem hm2)).2
          have hsu := docC_succ (r := n) HFk.out hpv
          have hdl := docC_length n fs P k
          rw [HP.out, HXL.out, hsu, hm, Int.toNat_natCast, getD_set_same _ (by omega)] at hrg
          rw [hm, Int.toNat_natCast] at hsu
          obtain ⟨O, hO⟩ : ∃ o, (docC n fs P k).getD m 0 = o := ⟨_, rfl⟩
          have hov : (docC n fs P k)[m]? = some O := by
            rw [List.getD_eq_getElem?_getD, List.getElem?_eq_getElem (by omega)] at hO
            rw [List.getElem?_eq_getElem (by omega)]
            exact congrArg some hO
          rw [hO] at hrg hsu
          rw [hm] at f1
          obtain ⟨y0, y1⟩ := vblk_cell (i := m) (v := .int .i64 O) HO.out (by unfold stC; rw [List.getElem?_map, hov]; rfl)
          obtain ⟨z0, z1⟩ := vblk_cell (i := k) (v := .int .i64 d) HG.out (by unfold stC; rw [List.getElem?_map, hpv]; rfl)
          have hov2 : (stC (docC n fs P k))[m]? = some (.int .i64 O) := by unfold stC; rw [List.getElem?_map, hov]; rfl
          have hnb := heap_alloc_new wr (.cells #[.int .i64 s.k, .int .i64 (m : Int), .int .i64 s.s] 60)
          have t0 := cell_of_row _ _ 0 _ _ _ hnb
          have t1 := cell_of_row _ _ 1 _ _ _ hnb
          have t2 := cell_of_row _ _ 2 _ _ _ hnb
          have g0 : (0 : Int) ≤ (k : Int) := by omega
          have g1 : (k : Int) < (fn : Int) := by omega
          have g2 : (0 : Int) ≤ (m : Int) := by omega
          have g3 : (m : Int) < (n : Int) := by omega
          have hfc : fn ≤ fc := HI.out.fc
          subst hFA
          obtain ⟨W6, hW6⟩ : ∃ W, wr.alloc (.cells #[.int .i64 s.k, .int .i64 (m : Int), .int .i64 s.s] 60) = W := ⟨_, rfl⟩
          have hb6 : Below wr.heap.size wr W6 := by rw [← hW6]; exact (Below.refl _ _).alloc (Nat.le_refl _) _
          rw [hW6] at t0 t1 t2
          have x1 := cell_regrown t1
          have x2 := cell_regrown t2
          have x3 := cell_regrown ((hb6.cell (p := ⟨go, m, none⟩) (lt_of_heap HO.out)).trans y0)
          have x4 := cell_regrown ((hb6.cell (p := ⟨gA, k, none⟩) (lt_of_heap HG.out)).trans z0)
          obtain ⟨sk, hsk⟩ : ∃ z, s.k = z := ⟨_, rfl⟩
          obtain ⟨ss, hss⟩ : ∃ z, s.s = z := ⟨_, rfl⟩
          rw [hsk] at hrg hsu t0 f0
          rw [hss] at hrg hsu t2 f2 x2
          try rw [hsk, hss] at hW6
          clear hnb hpv hov hO hD hl hd hlok hlq hdl sok y0 y1 z0 z1
          by_cases h4 : sk = 4
          · rw [if_pos h4] at hrg hsu
            have e4 : (sk == 4) = true := by simpa using h4
            have w1 : IntKind.i64.wrap (O * ss) = O * ss := IntWalk.i64_in _ (by omega)
            have w2 : IntKind.i64.wrap (O * ss + d) = O * ss + d := IntWalk.i64_in _ (by omega)
            have HSE : Hid ((stC (docC n fs P k)).set m (.int .i64 (O * ss + d)) = stC (docC n fs P (k + 1))) := by unfold Hid; rw [stC_set, hsu]
            clear h4 hsk hss hsu
            go_upto_region 13 with fail
            try rw [hW6]
            refine wp_region_below_tail 16 hmx (by kernel_rfl) ?_
            simp only [List.take_succ_cons, List.take_zero, List.drop_succ_cons, List.drop_zero]
            repeat (quiet_step (fail))
            refine wpQuiet_nil ?_
            intro _ hw'
            obtain ⟨⟨dq, osq⟩, hw''⟩ := hw'
            subst hw''
            obtain ⟨W7, hW7⟩ : ∃ W, grow (redrawn W6 dq) osq = W := ⟨_, rfl⟩
            have hb7 := below_regrown W6 dq osq
            rw [hW7] at hb7 ⊢
            have hbr := hb6.trans (hb7.mono hb6.size)
            have HG7 := Lib.hid (keep_b hbr HG.out)
            have HO7 := Lib.hid (keep_b hbr HO.out)
            have HX7 := Lib.hid (keep_b hbr HX.out)
            have HB7 := Lib.hid (HB.out.trans (hbr.mono HB.out.size))
            obtain ⟨y0, y1⟩ := vblk_cell HO7.out hov2
            clear x1 x2 x3 x4 t0 t1 t2 f0 f1 f2 hW7 hb7 hbr hW6 hb6
            go_wp2_with fail
            go_roundw
            case rel => exact ⟨k + 1, by omega, by go_num, by unfold Hid; rw [vblk_set HO7.out, HSE.out], (Below.heap_setCell _ _ _ _ hog).trans HG7.out, HB7.out.setCell (p := ⟨go, m, none⟩) how _, (Below.heap_setCell _ _ _ _ hox).trans HX7.out⟩
            case measure => simp [intOf]; omega
          · rw [if_neg h4] at hrg hsu
            have e4 : (sk == 4) = false := by simpa using h4
            have HSE : Hid ((stC (docC n fs P k)).set m (.int .i64 d) = stC (docC n fs P (k + 1))) := by unfold Hid; rw [stC_set, hsu]
            clear h4 hsk hss hsu
            go_upto_region 14 with fail
            try rw [hW6]
            refine wp_region_below_tail 7 hmx (by kernel_rfl) ?_
            simp only [List.take_succ_cons, List.take_zero, List.drop_succ_cons, List.drop_zero]
            repeat (quiet_step (fail))
            refine wpQuiet_nil ?_
            intro _ hw'
            obtain ⟨⟨dq, osq⟩, hw''⟩ := hw'
            subst hw''
            obtain ⟨W7, hW7⟩ : ∃ W, grow (redrawn W6 dq) osq = W := ⟨_, rfl⟩
            have hb7 := below_regrown W6 dq osq
            rw [hW7] at hb7 ⊢
            have hbr := hb6.trans (hb7.mono hb6.size)
            have HG7 := Lib.hid (keep_b hbr HG.out)
            have HO7 := Lib.hid (keep_b hbr HO.out)
            have HX7 := Lib.hid (keep_b hbr HX.out)
            have HB7 := Lib.hid (HB.out.trans (hbr.mono HB.out.size))
            obtain ⟨y0, y1⟩ := vblk_cell HO7.out hov2
            clear x1 x2 x3 x4 t0 t1 t2 f0 f1 f2 hW7 hb7 hbr hW6 hb6
            go_wp2_with fail
            go_roundw
            case rel => exact ⟨k + 1, by omega, by go_num, by unfold Hid; rw [vblk_set HO7.out, HSE.out], (Below.heap_setCell _ _ _ _ hog).trans HG7.out, HB7.out.setCell (p := ⟨go, m, none⟩) how _, (Below.heap_setCell _ _ _ _ hox).trans HX7.out⟩
            case measure => simp [intOf]; omega
        · obtain rfl : k = fn := by omega
          have hfin : docC n fs P k = cN n fs ls k q := by
            have h := HTok.out.doc_all HQ.out
            rw [HP.out, HXL.out, HLL.out] at h
            exact h
          rw [hfin] at HO
          clear hfin hlt
          go_wp2_with fail
          go_ret
          refine ⟨HB.out, go, how, ?_, ?_⟩
          · rw [HT.out]; rfl
          · rw [HT.out]; exact HO.out
    | succ k =>
      have hlt : k < fn := by omega
      obtain ⟨D, hD⟩ : ∃ d, fn = k + 1 + d := ⟨fn - (k + 1), by omega⟩
      obtain ⟨bl, ol, l, hLA, hbl, HL, l0, l1, l2, l3, li⟩ := (HI.out.on HB.out).lvs.at_ hlt
      dsimp only at HL hLA
      obtain ⟨ba, oa, av, hAA, _, HA, a0, a1, a2⟩ := (HAH.out.below HB.out).at_ (k := k) (by omega)
      have hav : ((ahN ls k : Nat) : Int) = av := by
        have := HA.out
        rw [cnt_ahead (by have := HLL.out; omega)] at this
        injection this
      subst hav
      have hlq := HTok.out.anc_lt D (k + 1) (by have := HLL.out; omega) q (by have := HQ.out; rw [HLL.out] at this; rw [← hD]; exact this)
      have hsub : fn - (k + 1) = D := by omega
      have hsub2 : fn - k = D + 1 := by omega
      have hpv : P[k]? = some (atN l.k l.s l.ys (ancD ls (k + 1) D q)) := by
        rw [← HP.out, show ls.length = k + 1 + D by rw [HLL.out]; exact hD]
        exact path_here HL.out D (by have := HLL.out; omega) q
      have han : ancD ls k (D + 1) q = parN l (ahN ls k) (ancD ls (k + 1) D q) := ancD_succ HL.out D q
      have hle := lev_one HTok.out HL.out
      have hlok := HTok.out.lok HL.out
      rw [ahN_succ HL.out] at hlq
      have hps := parN_spec hlok hlq
      rw [hsub]
      obtain ⟨N, hN⟩ : ∃ N, ancD ls (k + 1) D q = N := ⟨_, rfl⟩
      rw [hN] at hpv han hlq hps ⊢
      obtain ⟨p, hp⟩ : ∃ p, parN l (ahN ls k) N = p := ⟨_, rfl⟩
      rw [hp] at hps han
      have hfew := HFW.out l (List.mem_of_getElem? HL.out)
      have hpl := hlok.place N hlq
      have hsz := hlok.size1
      have hN1 : N ≤ 1048576 := by have := hlok.tot; omega
      have hA1 : ahN ls k ≤ 1048576 := hlok.ahead
      subst hLA
      subst hAA
      have g2 := cell_regrown k2
      have x0 := cell_regrown l0
      have x1 := cell_regrown l1
      have x2 := cell_regrown l2
      have x3 := cell_regrown l3
      have z0 := cell_regrown a0
      have cP := fun d os => Calls.regrown_of (refParent_ok l.k l.s (ahN ls k) N l.A l.B l.n l.c l.m l.e l.xs l.ys (grow (redrawn wr d) os) ((li.below (below_regrown wr d os)).more (below_regrown wr d os).size).lvI (by omega) (by omega) hle hlq p hps.1 hps.2.1 hps.2.2)
      rw [show (((k + 1 : Nat) : Int) - 1) = (k : Int) by omega]
      have d1 : decide ((0 : Int) ≤ (k : Int)) = true := decide_eq_true (by omega)
      have g0 : (0 : Int) ≤ (k : Int) := by omega
      have g1 : (k : Int) < (fn : Int) := by omega
      have g3 : (k : Int) < (((fn + 1 : Nat)) : Int) := by omega
      have g4 : (k : Int) < (fn : Int) + 1 := by omega
      obtain ⟨R, hR⟩ : ∃ R, atN l.k l.s l.ys N = R := ⟨_, rfl⟩
      rw [hR] at cP hpv hpl
      obtain ⟨v0, hv0⟩ : ∃ v, (stC (atP P (k + 1)))[k]? = some v := ⟨_, List.getElem?_eq_getElem (by unfold stC; rw [List.length_map, atP_length (by have := HPL.out; omega)]; have := HPL.out; omega)⟩
      have hset : Hid ((stC (atP P (k + 1))).set k (.int .i64 R) = stC (atP P k)) := by unfold Hid; rw [stC_set, atP_set hpv]
      have HAN : Hid (((ancD ls k (fn - k) q : Nat) : Int) = (p : Int)) := by unfold Hid; rw [hsub2, han]
      clear k0 k1 k2 k3 l0 l1 l2 l3 li a0 a1 a2 hpv han hle hlok hps hlq hN hp hfew hR hsub hsub2 HL HA hD
      go_upto_region 5 with fail
      refine wp_region_quiet_below hmx (by kernel_rfl) ?_
      quiet_step (first | (go_at_call 61; with_reducible exact cP _ _))
      repeat (quiet_step (first | (go_at_call 61; with_reducible exact cP _ _)))
      refine wpQuiet_nil ?_
      intro _ hw'
      obtain ⟨⟨dq, osq⟩, hw''⟩ := hw'
      subst hw''
      have hbr := below_regrown wr dq osq
      obtain ⟨W7, hW7⟩ : ∃ W, grow (redrawn wr dq) osq = W := ⟨_, rfl⟩
      rw [hW7] at hbr ⊢
      have HG7 := Lib.hid (keep_b hbr HG.out)
      have HX7 := Lib.hid (keep_b hbr HX.out)
      have HB7 := Lib.hid (HB.out.trans (hbr.mono HB.out.size))
      obtain ⟨u0, u1⟩ := vblk_cell HG7.out hv0
      have hnx : w.heap.size ≠ gA := by omega
      have hnga : w.heap.size ≤ gA := by omega
      clear g2 x0 x1 x2 x3 z0 cP hbr hW7
      go_wp2_with fail
      go_roundw
      case rel => exact ⟨k, by omega, by go_num, by rw [HAN.out], by unfold Hid; rw [vblk_set HG7.out, hset.out], HB7.out.setCell (p := ⟨gA, k, none⟩) hnga _, (Below.heap_setCell _ _ _ _ hnx).trans HX7.out⟩
      case measure => simp [intOf]
theorem refPlace_any (T : Ten) (w : World) (ht : T.In w w.heap.size) (hf : fewT T) (hTok : Tok T.xs T.fs T.ls) (AH : Option Addr) (ac : Nat) (hAH : Ints w w.heap.size AH (T.ln + 1) (1 :: cntL T.ls)) (q : Nat) (hq : q < ahN T.ls T.ln) :
    Calls Try.prog 39 #[T.val, .slice AH (T.ln + 1) ac, .int .i64 q] w (PlacePost w T q) := by
  obtain ⟨A, n, c, xs, F, fn, fc, fs, L, ln, lc, ls, V, vn, vc, vs⟩ := T
  have h1 : fs.length = fn := ht.form.1
  have h2 : ls.length = ln := ht.lvs.1
  have h3 := hTok.of.1
  dsimp only at h3
  obtain rfl : fn = ln := by omega
  exact refPlace_aux _ A n c xs F fn fc fs L lc ls V vn vc vs w rfl ht hf hTok AH ac hAH q hq
end Go.Proofs.Yteepiifhmbcciaa
/- What the document's Read has listed at each round. -/
namespace Go.Proofs.Yteepiifhmbcciaa
open Go.RowKit Go.Sort

theorem own_lit5 (W : World) (v : Int) (base : Nat) (hb : base ≤ W.heap.size) (hv : -9223372036854775808 ≤ v ∧ v ≤ 9223372036854775807) : OwnI (W.alloc (.cells #[.int .i64 v] 3)) base 3 (some ⟨W.heap.size, 0, none⟩) 1 [v] :=
  ⟨⟨rfl, .inr ⟨W.heap.size, 1, #[.int .i64 v], rfl, hb, heap_alloc_new W _, Nat.le_refl _, by unfold maxLen; omega, rfl, rfl⟩⟩, by simpa using hv⟩
/-- a whole block of numbers as a slice of the call's own -/
theorem own_stC {w : World} {base g n : Nat} {c : List Int} (hg : w.heap[g]? = some (.cells (stC c).toArray 3 (0, 0))) (hb : base ≤ g) (hl : c.length = n) (hn : n ≤ 100000) (hr : ∀ z ∈ c, -9223372036854775808 ≤ z ∧ z ≤ 9223372036854775807) : OwnI w base 3 (some ⟨g, 0, none⟩) n c := by
  subst hl
  exact ⟨⟨by simp, .inr ⟨g, c.length, (stC c).toArray, rfl, hb, hg, Nat.le_refl _, by unfold maxLen; omega, by simp [stC], by simp only [stC, Nat.mul_one]; rw [List.take_of_length_le (by simp)]⟩⟩, hr⟩
/-- where the variables lie, and what does not turn -/
structure RK (t : Ten) (w0 : World) (bx : Nat) (A1 AH : Option Addr) (c1 cH : Nat) (w : World) (Ts : List Ent) (A3 : Option Addr) (c3 : Nat) : Prop where
  bel : Below w0.heap.size w0 w
  st : w.heap[w0.heap.size]? = some t.obj
  rs : w.heap[w0.heap.size + 1]? = some (.cells #[.slice none 0 0, .slice none 0 0] 36 (0, 0))
  box : w.heap[bx]? = some (.cells #[.slice A1 t.n c1, .slice A3 Ts.length c3] 36 (0, 0))
  bxn : w0.heap.size + 1 < bx
  own : OwnE w w0.heap.size A3 c3 Ts
  pl : ∀ x ∈ Ts, OwnP w w0.heap.size x
  sh : OwnI w w0.heap.size 3 A1 c1 t.xs
  ah : OwnI w w0.heap.size 3 AH cH (1 :: cntL t.ls)
section
variable {t : Ten} {w0 w w' w7 : World} {bx c1 cH c3 c7 : Nat} {A1 AH A3 A7 : Option Addr} {Ts : List Ent} {y : Ent}
theorem RK.below (h : RK t w0 bx A1 AH c1 cH w Ts A3 c3) (hb : Below w.heap.size w w') : RK t w0 bx A1 AH c1 cH w' Ts A3 c3 :=
  ⟨h.bel.trans (hb.mono h.bel.size), keep_b hb h.st, keep_b hb h.rs, keep_b hb h.box, h.bxn, ownE_below h.own hb, fun x hx => ⟨(h.pl x hx).1.below hb (Nat.le_refl _), (h.pl x hx).2⟩, h.sh.below hb (Nat.le_refl _), h.ah.below hb (Nat.le_refl _)⟩
theorem RK.add (h : RK t w0 bx A1 AH c1 cH w Ts A3 c3) (hy : OwnP w w0.heap.size y) (hO : OwnE w7 w0.heap.size A7 c7 (Ts ++ [y])) (hg : w.grownBy w7 (Value.slice A3 Ts.length c3).ownBlock) :
    RK t w0 bx A1 AH c1 cH (w7.setCell ⟨bx, 1, none⟩ (.slice A7 ((Ts ++ [y]).length : Nat) c7)) (Ts ++ [y]) A7 c7 := by
  have hbox := box_keptE h.box (by decide) h.own hg
  have hst := box_keptE h.st (by decide) h.own hg
  have hrs := box_keptE h.rs (by decide) h.own hg
  have hsn := set_snd w7 bx _ _ (.slice A7 ((Ts ++ [y]).length : Nat) c7) _ hbox
  have hn := h.bxn
  have hI : ∀ {A : Option Addr} {c : Nat} {xs : List Int}, OwnI w w0.heap.size 3 A c xs → OwnI (w7.setCell ⟨bx, 1, none⟩ (.slice A7 ((Ts ++ [y]).length : Nat) c7)) w0.heap.size 3 A c xs := fun {A c xs} hq => by
    have q5 := hq.keptE h.own hg
    exact ⟨q5.1.kept hsn.2 (rows_ne q5.1 hbox (by decide)), q5.2⟩
  refine ⟨?_, (Below.heap_setCell w7 ⟨bx, 1, none⟩ _ _ (by show w0.heap.size ≠ bx; omega)).trans hst, (Below.heap_setCell w7 ⟨bx, 1, none⟩ _ _ (by show w0.heap.size + 1 ≠ bx; omega)).trans hrs, hsn.1, hn, World.ownsRow.kept hO hsn.2 (rows_ne hO hbox (by decide)), fun x hx => ?_, hI h.sh, hI h.ah⟩
  · exact (h.bel.grown hg h.bel.size (fun k hk => (World.ownsRow.lt h.own k hk).1)).setCell (p := ⟨bx, 1, none⟩) (by show w0.heap.size ≤ bx; omega) _
  · have hq : OwnP w w0.heap.size x := by
      rcases List.mem_append.1 hx with hx | hx
      · exact h.pl x hx
      · rw [List.mem_singleton.1 hx]; exact hy
    exact ⟨hI hq.1, hq.2⟩
/-- behind the end: what is returned has been stored -/
theorem RK.done (h : RK t w0 bx A1 AH c1 cH w Ts A3 c3) (hk : Ts.map keyE = entK t t.vn) (hE : tenE t = 0) :
    ReadPost w0 t (.returned (.tuple #[.agg #[.slice A1 t.n c1, .slice A3 t.vn c3], .int .i64 0])) ((w.setCell ⟨w0.heap.size + 1, 0, none⟩ (.slice A1 t.n c1)).setCell ⟨w0.heap.size + 1, 1, none⟩ (.slice A3 t.vn c3)) := by
  have hs := set_two w (w0.heap.size + 1) _ _ (.slice A1 t.n c1) (.slice A3 t.vn c3) _ h.rs
  have hlen : Ts.length = t.vn := by have := congrArg List.length hk; rw [List.length_map, entK_length] at this; exact this
  have hI : ∀ {A : Option Addr} {c : Nat} {xs : List Int}, OwnI w w0.heap.size 3 A c xs → OwnI ((w.setCell ⟨w0.heap.size + 1, 0, none⟩ (.slice A1 t.n c1)).setCell ⟨w0.heap.size + 1, 1, none⟩ (.slice A3 t.vn c3)) w0.heap.size 3 A c xs := fun {A c xs} q => ⟨q.1.kept hs.2 (rows_ne q.1 h.rs (by decide)), q.2⟩
  refine ⟨h.bel.grown hs.2 h.bel.size (fun k hk => by injection hk with hk; omega), .inr ⟨hE, A1, c1, A3, c3, Ts, rfl, hI h.sh, World.ownsRow.kept h.own hs.2 (rows_ne h.own h.rs (by decide)), fun x hx => ⟨hI (h.pl x hx).1, (h.pl x hx).2⟩, hk⟩⟩
theorem cN_fits (ht : t.In w0 w0.heap.size) (hT : Tok t.xs t.fs t.ls) {k : Nat} (hk : k < ahN t.ls t.ln) :
    (cN t.n t.fs t.ls t.ln k).length = t.n ∧ ∀ z ∈ cN t.n t.fs t.ls t.ln k, -9223372036854775808 ≤ z ∧ z ≤ 9223372036854775807 := by
  refine ⟨cN_length _ _ _ _ _, ?_⟩
  have h1 := ht.shape.1
  have h2 := ht.lvs.1
  have h := (invC_node hT t.ls.length (Nat.le_refl _) k (by rw [h2]; exact hk)).fits ht.shape.2.1
  rw [h1, h2] at h
  exact h
/-- a round: one entry more -/
theorem RK.step {wr w6 : World} {k g6 : Nat} {v : Int} (hr : RK t w0 bx A1 AH c1 cH wr Ts A3 c3) (_hw6 : Below wr.heap.size wr w6) (h6 : RK t w0 bx A1 AH c1 cH w6 Ts A3 c3) (hO : OwnE w7 w0.heap.size A7 c7 (Ts ++ [⟨some ⟨g6, 0, none⟩, t.n, t.n, cN t.n t.fs t.ls t.ln k, v⟩]))
    (hg : w6.grownBy w7 (Value.slice A3 Ts.length c3).ownBlock) (hG : w6.heap[g6]? = some (.cells (stC (cN t.n t.fs t.ls t.ln k)).toArray 3 (0, 0))) (hgn : wr.heap.size ≤ g6) (hk : Ts.map keyE = entK t k) (hl : Ts.length = k) (hv : -9223372036854775808 ≤ v ∧ v ≤ 9223372036854775807) (hvv : t.vs.getD k 0 = v)
    (hc : (cN t.n t.fs t.ls t.ln k).length = t.n ∧ ∀ z ∈ cN t.n t.fs t.ls t.ln k, -9223372036854775808 ≤ z ∧ z ≤ 9223372036854775807) (hn : t.n ≤ 100000) :
    ∃ Ts', RK t w0 bx A1 AH c1 cH (w7.setCell ⟨bx, 1, none⟩ (.slice A7 (k + 1) c7)) Ts' A7 c7 ∧ Ts'.map keyE = entK t (k + 1) := by
  have hb : w0.heap.size ≤ wr.heap.size := hr.bel.size
  have := h6.add (y := ⟨some ⟨g6, 0, none⟩, t.n, t.n, cN t.n t.fs t.ls t.ln k, v⟩) ⟨own_stC hG (by omega) hc.1 hn hc.2, hc.1.symm, hv⟩ hO hg
  rw [List.length_append, hl] at this
  refine ⟨_, this, ?_⟩
  rw [List.map_append, hk, entK_succ, hvv]
  rfl
end
end Go.Proofs.Yteepiifhmbcciaa
/- The document's Read, where the tensor may not be. -/
namespace Go.Proofs.Yteepiifhmbcciaa
open Go.RowKit

set_option maxRecDepth 100000 in
theorem refRead5_err (t : Ten) (w : World) (ht : t.In w w.heap.size) (hf : fewT t) (hE : tenE t ≠ 0) :
    Calls Try.prog 12 #[t.val] w (ReadPost w t) := by
  have z0 := lvBelow w t.obj
  have z1 := z0.alloc z0.size (.cells #[.slice none 0 0, .slice none 0 0] 36)
  have HC := refCheck5_any t ((w.alloc t.obj).alloc (.cells #[.slice none 0 0, .slice none 0 0] 36)) (ht.on z1) hf
  obtain ⟨E, hE2⟩ : ∃ E, tenE t = E := ⟨_, rfl⟩
  rw [hE2] at HC hE
  have HEE := Lib.hid hE2
  have HE := Lib.hid hE
  have e1 : (E != 0) = true := by simpa using hE
  have b1 := zf_two w t.obj (.cells #[.slice none 0 0, .slice none 0 0] 36)
  have b2 := zf_snd w (.cells #[.slice none 0 0, .slice none 0 0] 36) t.obj
  obtain ⟨k0, k1, k2, k3, _⟩ := lvCells b1
  clear hE2 hE
  go_enter Try.func12, Try.ntmps12
  go_wp2_with fail
  refine HC.mono ?_
  rintro e w1 ⟨rfl, hb1⟩
  have HB := Lib.hid (z1.trans (hb1.mono z1.size))
  have hbr := (hb1.block (w.heap.size + 1) (by simp)).trans b2
  obtain ⟨r0, r1, rf0, rf1⟩ := pair_cells hbr
  have HBR := Lib.hid hbr
  clear hbr hb1 b1 b2 z0 z1 HC k0 k1 k2 k3
  go_wp2_with fail
  have hres := set_two w1 (w.heap.size + 1) _ _ (.slice none 0 0) (.slice none 0 0) _ HBR.out
  obtain ⟨s0, s1, _, _⟩ := pair_cells hres.1
  obtain ⟨wz, hwz⟩ : ∃ wz, (w1.setCell ⟨w.heap.size + 1, 0, none⟩ (.slice none 0 0)).setCell ⟨w.heap.size + 1, 1, none⟩ (.slice none 0 0) = wz := ⟨_, rfl⟩
  rw [hwz] at hres s0 s1 ⊢
  exact bodyPost_ret (v := .tuple #[.agg #[.slice none 0 0, .slice none 0 0], .int .i64 E]) (by simp [results, Try.results12, go_sem, s0, s1]) rfl ⟨HB.out.grown hres.2 HB.out.size (fun k hk => by injection hk with hk; omega), .inl ⟨by rw [HEE.out]; exact HE.out, by rw [HEE.out]⟩⟩
end Go.Proofs.Yteepiifhmbcciaa
/- The document's Counts and Empty of stored tensors. -/
namespace Go.Proofs.Yteepiifhmbcciaa
open Go.RowKit Go.Sort

def RefCountsPost (w : World) (t : Ten) (e : Ending) (w' : World) : Prop :=
  Below w.heap.size w w' ∧ ((tenE t ≠ 0 ∧ e = .returned (.tuple #[.slice none 0 0, .int .i64 (tenE t)])) ∨ (tenE t = 0 ∧ ∃ A' c', e = .returned (.tuple #[.slice A' t.ln c', .int .i64 0]) ∧ OwnI w' w.heap.size 3 A' c' (cntL t.ls)))
set_option maxRecDepth 100000 in
set_option maxHeartbeats 1000000 in
theorem refCounts5_any (t : Ten) (w : World) (ht : t.In w w.heap.size) (hf : fewT t) :
    Calls Try.prog 18 #[t.val] w (RefCountsPost w t) := by
  have HI := Lib.hid ht
  have HFW := Lib.hid hf
  obtain ⟨W0, hW0⟩ : ∃ W, w.alloc t.obj = W := ⟨_, rfl⟩
  have HB0 : Hid (Below w.heap.size w W0) := by rw [← hW0]; exact lvBelow w _
  have HX0 : Hid (W0.heap[w.heap.size]? = some t.obj) := by rw [← hW0]; exact heap_alloc_new w _
  have HCK := refCheck5_any t W0 (ht.on HB0.out) hf
  obtain ⟨k0, k1, k2, k3, _⟩ := lvCells HX0.out
  obtain ⟨E, hEE⟩ : ∃ E, tenE t = E := ⟨_, rfl⟩
  rw [hEE] at HCK
  have HEE := Lib.hid hEE
  clear hEE ht hf
  by_cases hE : E = 0
  · subst hE
    go_enter Try.func18, Try.ntmps18
    go_wp2_with fail
    try rw [hW0]
    refine HCK.mono ?_
    rintro e w1 ⟨rfl, hb1⟩
    obtain ⟨k0, k1, k2, k3, _⟩ := lvCells (keep_b hb1 HX0.out)
    have HB1 := Lib.hid (HB0.out.trans (hb1.mono HB0.out.size))
    have hC := refCnt_any t w1 (HI.out.on HB1.out) HFW.out
    have HZ : Hid (levE t.ls t.ln = 0) := (tenE_small HEE.out).2.2.1
    clear hb1 hW0
    go_wp2_with fail
    refine hC.mono ?_
    rintro e w2 ⟨hb2, hh⟩
    have HB2 := Lib.hid (HB1.out.trans (hb2.mono HB1.out.size))
    rcases hh with ⟨hne, _⟩ | ⟨_, A', c', rfl, hO⟩
    · exact absurd HZ.out hne
    have HO := Lib.hid (hO.mono HB1.out.size)
    clear hb2 k0 k1 k2 k3 hO
    go_wp2_with fail
    go_ret2
    exact ⟨HB2.out, .inr ⟨HEE.out, A', c', rfl, HO.out⟩⟩
  · have e1 : (E != 0) = true := by simpa using hE
    have HNE := Lib.hid hE
    clear hE
    go_enter Try.func18, Try.ntmps18
    go_wp2_with fail
    try rw [hW0]
    refine HCK.mono ?_
    rintro e w1 ⟨rfl, hb1⟩
    have HB1 := Lib.hid (HB0.out.trans (hb1.mono HB0.out.size))
    clear hb1 k0 k1 k2 k3 hW0
    go_wp2_with fail
    go_ret2
    exact ⟨HB1.out, .inl ⟨by rw [HEE.out]; exact HNE.out, by rw [HEE.out]; rfl⟩⟩
set_option maxRecDepth 100000 in
set_option maxHeartbeats 1000000 in
theorem refEmpty5_any (t : Ten) (w : World) (ht : t.In w w.heap.size) (hf : fewT t) :
    Calls Try.prog 20 #[t.val] w (EmptyPost w t) := by
  have HI := Lib.hid ht
  obtain ⟨W0, hW0⟩ : ∃ W, w.alloc t.obj = W := ⟨_, rfl⟩
  have HB0 : Hid (Below w.heap.size w W0) := by rw [← hW0]; exact lvBelow w _
  have HX0 : Hid (W0.heap[w.heap.size]? = some t.obj) := by rw [← hW0]; exact heap_alloc_new w _
  have HCK := refCheck5_any t W0 (ht.on HB0.out) hf
  obtain ⟨k0, k1, k2, k3, _⟩ := lvCells HX0.out
  obtain ⟨E, hEE⟩ : ∃ E, tenE t = E := ⟨_, rfl⟩
  rw [hEE] at HCK
  have HEE := Lib.hid hEE
  have HVL : Hid (t.vs.length = t.vn) := ht.vals.1
  have hv1 : t.vn ≤ 3000 := hf.2.2.2.1
  clear hEE ht hf
  by_cases hE : E = 0
  · subst hE
    go_enter Try.func20, Try.ntmps20
    go_wp2_with fail
    try rw [hW0]
    refine HCK.mono ?_
    rintro e w1 ⟨rfl, hb1⟩
    obtain ⟨k0, k1, k2, k3, _⟩ := lvCells (keep_b hb1 HX0.out)
    have HB1 := Lib.hid (HB0.out.trans (hb1.mono HB0.out.size))
    clear hb1 hW0
    go_wp2_with fail
    clear k0 k1 k2 k3
    go_loopw [15] (fun i wr => ∃ k : Nat, k ≤ t.vn ∧ i = .int .i64 k ∧ Hid ((t.vs.take k).any nzB = false) ∧ Hid (Below w.heap.size w wr)) (fun i _ => t.vn - (intOf i).toNat)
    case atStart => exact ⟨0, Nat.zero_le _, rfl, by unfold Hid; simp, HB1.out⟩
    case round =>
      obtain ⟨k, hk, rfl, HK, HB⟩ := hrel
      by_cases hlt : k < t.vn
      · obtain ⟨b, off, y, hAv, _, HX, hc, hx1, hx2⟩ := (HI.out.on HB.out).vals.at_ hlt
        by_cases hy : y = 0
        · have HN : Hid ((t.vs.take (k + 1)).any nzB = false) := any_miss HK.out HX.out (by rw [hy]; rfl)
          subst hy
          go_wp2_with fail
          go_roundw
          case rel => exact ⟨k + 1, by omega, by go_num, HN.out, HB.out⟩
          case measure => simp [intOf]; omega
        · have e1 : (y != 0) = true := by simpa using hy
          have HF : Hid (t.vs.any nzB = true) := any_hit HX.out e1
          clear hy
          go_wp2_with fail
          go_ret2
          exact ⟨HB.out, .inr ⟨HEE.out, by rw [HF.out]; rfl⟩⟩
      · have HF : Hid (t.vs.any nzB = false) := any_all HK.out HVL.out (by omega)
        go_wp2_with fail
        go_ret2
        exact ⟨HB.out, .inr ⟨HEE.out, by rw [HF.out]; rfl⟩⟩
  · have e1 : (E != 0) = true := by simpa using hE
    have HNE := Lib.hid hE
    clear hE
    go_enter Try.func20, Try.ntmps20
    go_wp2_with fail
    try rw [hW0]
    refine HCK.mono ?_
    rintro e w1 ⟨rfl, hb1⟩
    have HB1 := Lib.hid (HB0.out.trans (hb1.mono HB0.out.size))
    clear hb1 k0 k1 k2 k3 hW0
    go_wp2_with fail
    go_ret2
    exact ⟨HB1.out, .inl ⟨by rw [HEE.out]; exact HNE.out, by rw [HEE.out]; rfl⟩⟩
end Go.Proofs.Yteepiifhmbcciaa
