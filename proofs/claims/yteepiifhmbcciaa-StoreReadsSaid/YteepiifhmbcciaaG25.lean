/- The document's Same of stored tensors. -/
import Derived.Test.YteepiifhmbcciaaG20
import Derived.Test.YteepiifhmbcciaaG23
import Derived.Test.YteepiifhmbcciaaG24
import Derived.Test.YteepiifhmbcciaaG13
import Derived.Test.YteepiifhmbcciaaG14
import Derived.Lib.QuietBelow
import Derived.Test.YteepiifhmbcciaaG22
namespace Go.Proofs.Yteepiifhmbcciaa
open Go.RowKit Go.Sort

theorem aheadB_q {a b : Nat} : ∀ ls ls' : List Lv, ls.map Lv.q = ls'.map Lv.q → aheadB a b ls = aheadB a b ls'
  | [], [], _ => rfl
  | [], _ :: _, h => by cases h
  | _ :: _, [], h => by cases h
  | l :: r, l' :: r', h => by
    rw [List.map_cons, List.map_cons, List.cons.injEq] at h
    obtain ⟨_, _, _, e4⟩ := (Lv.q_iff l l').1 h.1
    rw [aheadB, aheadB, e4, aheadB_q r r' h.2]
theorem SameLs.of_q {ls ls' : List Lv} (h : ls.map Lv.q = ls'.map Lv.q) : SameLs ls ls' := by
  refine ⟨by have := congrArg List.length h; rw [List.length_map, List.length_map] at this; exact this.symm, fun j l m hl hm => ?_⟩
  have h1 : (ls'.map Lv.q)[j]? = some l.q := by rw [List.getElem?_map, hl]; rfl
  rw [← h, List.getElem?_map, hm] at h1
  injection h1 with h1
  exact (Lv.q_iff l m).1 h1.symm
theorem RiseL.of_q {ls ls' : List Lv} (h : ls.map Lv.q = ls'.map Lv.q) (hr : RiseL ls) : RiseL ls' := by
  have hs := SameLs.of_q h
  intro kl l hl hk p n h1 h2 h3
  obtain ⟨m, hm⟩ : ∃ m, ls[kl]? = some m := ⟨_, List.getElem?_eq_getElem (by have := (List.getElem?_eq_some_iff.1 hl).1; have := hs.1; omega)⟩
  obtain ⟨e1, e2, e3, _⟩ := hs.2 kl l m hl hm
  rw [e3] at h1
  rw [e2, e3] at h2 h3
  rw [← aheadB_q (ls.drop kl) (ls'.drop kl) (by rw [List.map_drop, List.map_drop, h])]
  exact hr kl m hm (e1 ▸ hk) p n h1 h2 h3
theorem pB_cong {p q : Prop} (h : p ↔ q) : pB p = pB q := by rw [propext h]
theorem tenE_q {t t' : Ten} (hx : t.xs = t'.xs) (hf : t.fs = t'.fs) (hq : t.ls.map Lv.q = t'.ls.map Lv.q) (hv : t.vn = t'.vn) (hl : t.ls.length = t.ln) (hl' : t'.ls.length = t'.ln) : tenE t = tenE t' := by
  have hs := SameLs.of_q hq
  have hs' := SameLs.of_q hq.symm
  have hn : t.ln = t'.ln := by have := hs.1; omega
  have e1 := ahN_congr t.ls.length (Nat.le_refl _) hs.1 (fun j l m _ h1 h2 => hs.2 j l m h1 h2) t.ln (by omega)
  have e2 := levE_congr t.ls.length (Nat.le_refl _) hs.1 (fun j l m _ h1 h2 => hs.2 j l m h1 h2) t.ln (by omega)
  have e3 : pB (OfP t.ls t.fs (sizesL t.xs t.fs)) = pB (OfP t'.ls t'.fs (sizesL t'.xs t'.fs)) := pB_cong ⟨fun h => by rw [← hx, ← hf]; exact hs.of h, fun h => by rw [hx, hf]; exact hs'.of h⟩
  have e4 : pB (RiseL t.ls) = pB (RiseL t'.ls) := pB_cong ⟨fun h => h.of_q hq, fun h => h.of_q hq.symm⟩
  unfold tenE
  rw [e3, e4, hx, hf, ← hn, e1, e2, hv]
/-- what is the same as one that may be, may be too -/
theorem tenE_eqT {a b : Ten} {w w' : World} {B B' : Nat} (ha : a.In w B) (hb : b.In w' B') (h : eqT a b) : tenE a = tenE b :=
  tenE_q h.1.1 h.2.1 h.2.2 (by rw [← ha.vals.1, ← hb.vals.1, h.1.2]) ha.lvs.1 hb.lvs.1
def sameT (a b : Ten) : Prop := tenE a = 0 ∧ eqT a b
def SameTPost (w : World) (a b : Ten) (e : Ending) (w' : World) : Prop := e = .returned (.bool (pB (sameT a b))) ∧ Below w.heap.size w w'
set_option maxRecDepth 100000 in
set_option maxHeartbeats 4000000 in
theorem refSame5_any (a b : Ten) (w : World) (ha : a.In w w.heap.size) (hb : b.In w w.heap.size) (fa : fewT a) (fb : fewT b) :
    Calls Try.prog 10 #[a.val, b.val] w (SameTPost w a b) := by
  obtain ⟨W0, hW0⟩ : ∃ W, (w.alloc a.obj).alloc b.obj = W := ⟨_, rfl⟩
  have z0 := lvBelow w a.obj
  have HB0 : Hid (Below w.heap.size w W0) := by rw [← hW0]; exact z0.alloc z0.size b.obj
  obtain ⟨b1, b2⟩ := two_lv w a.obj b.obj
  rw [hW0] at b1 b2
  have HKP : Hid (∀ W, Below W0.heap.size W0 W → Below w.heap.size w W ∧ W.heap[w.heap.size]? = some a.obj ∧ W.heap[w.heap.size + 1]? = some b.obj ∧ a.In W W.heap.size ∧ b.In W W.heap.size) := fun W hW => ⟨HB0.out.trans (hW.mono HB0.out.size), keep_b hW b1, keep_b hW b2, ha.on (HB0.out.trans (hW.mono HB0.out.size)), hb.on (HB0.out.trans (hW.mono HB0.out.size))⟩
  have HEE : Hid (eqT a b → tenE a = tenE b) := tenE_eqT ha hb
  have HFW := Lib.hid (And.intro fa fb)
  obtain ⟨_, _, _, hA0, _⟩ := HKP.out W0 (Below.refl _ _)
  have hC := refCheck5_any a W0 hA0 fa
  obtain ⟨k0, k1, k2, k3, _⟩ := lvCells b1
  obtain ⟨j0, j1, j2, j3, _⟩ := lvCells b2
  obtain ⟨E, hE⟩ : ∃ E, tenE a = E := ⟨_, rfl⟩
  rw [hE] at hC
  have HE := Lib.hid hE
  clear ha hb fa fb hA0 z0 b1 b2 hE
  by_cases h0 : E = 0
  · subst h0
    go_enter Try.func10, Try.ntmps10
    go_wp2_with fail
    try rw [hW0]
    refine hC.mono ?_
    rintro e w1 ⟨rfl, hb1⟩
    have HB1 := Lib.hid hb1
    obtain ⟨_, n1, n2, _, hB⟩ := HKP.out w1 hb1
    have hD := refCheck5_any b w1 hB HFW.out.2
    obtain ⟨k0, k1, k2, k3, _⟩ := lvCells n1
    obtain ⟨j0, j1, j2, j3, _⟩ := lvCells n2
    obtain ⟨F, hF⟩ : ∃ F, tenE b = F := ⟨_, rfl⟩
    rw [hF] at hD
    have HF := Lib.hid hF
    clear hb1 hC hW0 n1 n2 hB hF
    by_cases h1 : F = 0
    · subst h1
      go_wp2_with fail
      refine hD.mono ?_
      rintro e w2 ⟨rfl, hb2⟩
      have HB2 := Lib.hid (HB1.out.trans (hb2.mono HB1.out.size))
      obtain ⟨_, n1, n2, hA, hB⟩ := HKP.out w2 HB2.out
      have hQ := refEq5_any a b w2 hA hB HFW.out.1
      obtain ⟨k0, k1, k2, k3, _⟩ := lvCells n1
      obtain ⟨j0, j1, j2, j3, _⟩ := lvCells n2
      clear hb2 hD n1 n2 hA hB
      go_wp2_with fail
      refine hQ.mono ?_
      rintro e w3 ⟨rfl, hb3⟩
      have HB3 := Lib.hid (HB2.out.trans (hb3.mono HB2.out.size))
      clear hb3 hQ
      have HP : Hid (pB (sameT a b) = pB (eqT a b)) := pB_cong ⟨fun h => h.2, fun h => ⟨HE.out, h⟩⟩
      obtain ⟨R, hR⟩ : ∃ R, pB (eqT a b) = R := ⟨_, rfl⟩
      rw [hR] at HP ⊢
      clear hR
      cases R
      all_goals
        go_wp2_with fail
        go_ret
        exact ⟨by rw [HP.out]; rfl, (HKP.out _ HB3.out).1⟩
    · have e1 : (F == 0) = false := by simpa using h1
      have HP : Hid (pB (sameT a b) = false) := pB_f fun q => h1 (by rw [← HF.out, ← HEE.out q.2]; exact q.1)
      clear h1
      go_wp2_with fail
      refine hD.mono ?_
      rintro e w2 ⟨rfl, hb2⟩
      have HB2 := Lib.hid (HB1.out.trans (hb2.mono HB1.out.size))
      clear hb2 hD k0 k1 k2 k3 j0 j1 j2 j3
      go_wp2_with fail
      go_ret
      exact ⟨by rw [HP.out]; rfl, (HKP.out _ HB2.out).1⟩
  · have e1 : (E == 0) = false := by simpa using h0
    have HP : Hid (pB (sameT a b) = false) := pB_f fun q => h0 (by rw [← HE.out]; exact q.1)
    clear h0
    go_enter Try.func10, Try.ntmps10
    go_wp2_with fail
    try rw [hW0]
    refine hC.mono ?_
    rintro e w1 ⟨rfl, hb1⟩
    have HB1 := Lib.hid hb1
    clear hb1 hC hW0 k0 k1 k2 k3 j0 j1 j2 j3
    go_wp2_with fail
    go_ret
    exact ⟨by rw [HP.out]; rfl, (HKP.out _ HB1.out).1⟩
end Go.Proofs.Yteepiifhmbcciaa
/- store.Same: whether two tensors may be, and are the same. -/
namespace Go.Proofs.Yteepiifhmbcciaa
open Go.RowKit Go.Sort

theorem equalV_bel (A A2 : Option Addr) (n n2 c c2 : Nat) (xs ys : List Int) (w : World) (h : Ints w w.heap.size A n xs) (h2 : Ints w w.heap.size A2 n2 ys) (hn : n ≤ 100000) (hn2 : n2 ≤ 9223372036854775807) :
    Calls Try.prog 33 #[.slice A n c, .slice A2 n2 c2] w fun e w' => e = .returned (.bool (decide (xs = ys))) ∧ Below w.heap.size w w' :=
  (equalInt64_any A A2 n n2 c c2 xs ys w _ h h2 hn hn2).mono fun _ _ ⟨he, m, hm⟩ => ⟨he, by subst hm; exact below_drewN (Below.refl _ _) m⟩
set_option maxRecDepth 100000 in
set_option maxHeartbeats 4000000 in
theorem stSame_any (a b : Ten) (w : World) (ha : a.In w w.heap.size) (hb : b.In w w.heap.size) (fa : fewT a) :
    Calls Try.prog 9 #[a.val, b.val] w (SameTPost w a b) := by
  obtain ⟨W0, hW0⟩ : ∃ W, (w.alloc a.obj).alloc b.obj = W := ⟨_, rfl⟩
  have z0 := lvBelow w a.obj
  have HB0 : Hid (Below w.heap.size w W0) := by rw [← hW0]; exact z0.alloc z0.size b.obj
  obtain ⟨b1, b2⟩ := two_lv w a.obj b.obj
  rw [hW0] at b1 b2
  have HKP : Hid (∀ W, Below W0.heap.size W0 W → Below w.heap.size w W ∧ W.heap[w.heap.size]? = some a.obj ∧ W.heap[w.heap.size + 1]? = some b.obj ∧ a.In W W.heap.size ∧ b.In W W.heap.size) := fun W hW => ⟨HB0.out.trans (hW.mono HB0.out.size), keep_b hW b1, keep_b hW b2, ha.on (HB0.out.trans (hW.mono HB0.out.size)), hb.on (HB0.out.trans (hW.mono HB0.out.size))⟩
  have HFW := Lib.hid fa
  obtain ⟨_, _, _, hA0, _⟩ := HKP.out W0 (Below.refl _ _)
  have hC := stCheck_any a W0 hA0
  obtain ⟨k0, k1, k2, k3, _⟩ := lvCells b1
  obtain ⟨j0, j1, j2, j3, _⟩ := lvCells b2
  obtain ⟨E, hE⟩ : ∃ E, tenE a = E := ⟨_, rfl⟩
  rw [hE] at hC
  have HE := Lib.hid hE
  clear ha hb fa hA0 z0 b1 b2 hE
  by_cases h0 : E = 0
  · subst h0
    go_enter Try.func9, Try.ntmps9
    go_wp2_with fail
    try rw [hW0]
    refine hC.mono ?_
    rintro e w1 ⟨rfl, hb1⟩
    have HB1 := Lib.hid hb1
    obtain ⟨_, n1, n2, hA, hB⟩ := HKP.out w1 hb1
    have hD := equal_bel a.A b.A a.n b.n a.c b.c a.xs b.xs w1 hA.shape hB.shape hA.n1 (by have := hB.n1; omega)
    obtain ⟨k0, k1, k2, k3, _⟩ := lvCells n1
    obtain ⟨j0, j1, j2, j3, _⟩ := lvCells n2
    clear hb1 hC hW0 n1 n2 hA hB
    by_cases q1 : a.xs = b.xs
    · rw [decide_eq_true q1] at hD
      have HQ1 := Lib.hid q1
      clear q1
      go_wp2_with fail
      refine hD.mono ?_
      rintro e w2 ⟨rfl, hb2⟩
      have HB2 := Lib.hid (HB1.out.trans (hb2.mono HB1.out.size))
      obtain ⟨_, n1, n2, hA, hB⟩ := HKP.out w2 HB2.out
      have hQ := equalSp_any a.F b.F a.fn b.fn a.fc b.fc a.fs b.fs w2 hA.form hB.form hA.f1
      obtain ⟨k0, k1, k2, k3, _⟩ := lvCells n1
      obtain ⟨j0, j1, j2, j3, _⟩ := lvCells n2
      clear hb2 hD n1 n2 hA hB
      by_cases q2 : a.fs = b.fs
      · rw [pB_t q2] at hQ
        have HQ2 := Lib.hid q2
        clear q2
        go_wp2_with fail
        refine hQ.mono ?_
        rintro e w3 ⟨rfl, hb3⟩
        have HB3 := Lib.hid (HB2.out.trans (hb3.mono HB2.out.size))
        obtain ⟨_, n1, n2, hA, hB⟩ := HKP.out w3 HB3.out
        have hL := equalLv_any a.L b.L a.ln b.ln a.lc b.lc a.ls b.ls w3 hA.lvs hB.lvs hA.l1 (fun x hx => ⟨by have := (HFW.out.2.2.2.2 x hx).1; omega, by have := (HFW.out.2.2.2.2 x hx).2; omega⟩)
        obtain ⟨k0, k1, k2, k3, _⟩ := lvCells n1
        obtain ⟨j0, j1, j2, j3, _⟩ := lvCells n2
        clear hb3 hQ n1 n2 hA hB
        by_cases q3 : a.ls.map Lv.q = b.ls.map Lv.q
        · rw [pB_t q3] at hL
          have HQ3 := Lib.hid q3
          clear q3
          go_wp2_with fail
          refine hL.mono ?_
          rintro e w4 ⟨rfl, hb4⟩
          have HB4 := Lib.hid (HB3.out.trans (hb4.mono HB3.out.size))
          obtain ⟨_, n1, n2, hA, hB⟩ := HKP.out w4 HB4.out
          have hV := equalV_bel a.V b.V a.vn b.vn a.vc b.vc a.vs b.vs w4 hA.vals hB.vals hA.v1 (by have := hB.v1; omega)
          obtain ⟨k0, k1, k2, k3, _⟩ := lvCells n1
          obtain ⟨j0, j1, j2, j3, _⟩ := lvCells n2
          clear hb4 hL n1 n2 hA hB
          by_cases q4 : a.vs = b.vs
          · rw [decide_eq_true q4] at hV
            have HP : Hid (pB (sameT a b) = true) := pB_t ⟨HE.out, ⟨HQ1.out, q4⟩, HQ2.out, HQ3.out⟩
            clear q4
            go_wp2_with fail
            refine hV.mono ?_
            rintro e w5 ⟨rfl, hb5⟩
            have HB5 := Lib.hid (HB4.out.trans (hb5.mono HB4.out.size))
            clear hb5 hV k0 k1 k2 k3 j0 j1 j2 j3
            go_wp2_with fail
            go_ret
            exact ⟨by rw [HP.out]; rfl, (HKP.out _ HB5.out).1⟩
          · rw [decide_eq_false q4] at hV
            have HP : Hid (pB (sameT a b) = false) := pB_f fun q => q4 q.2.1.2
            clear q4
            go_wp2_with fail
            refine hV.mono ?_
            rintro e w5 ⟨rfl, hb5⟩
            have HB5 := Lib.hid (HB4.out.trans (hb5.mono HB4.out.size))
            clear hb5 hV k0 k1 k2 k3 j0 j1 j2 j3
            go_wp2_with fail
            go_ret
            exact ⟨by rw [HP.out]; rfl, (HKP.out _ HB5.out).1⟩
        · rw [pB_f q3] at hL
          have HP : Hid (pB (sameT a b) = false) := pB_f fun q => q3 q.2.2.2
          clear q3
          go_wp2_with fail
          refine hL.mono ?_
          rintro e w4 ⟨rfl, hb4⟩
          have HB4 := Lib.hid (HB3.out.trans (hb4.mono HB3.out.size))
          clear hb4 hL k0 k1 k2 k3 j0 j1 j2 j3
          go_wp2_with fail
          go_ret
          exact ⟨by rw [HP.out]; rfl, (HKP.out _ HB4.out).1⟩
      · rw [pB_f q2] at hQ
        have HP : Hid (pB (sameT a b) = false) := pB_f fun q => q2 q.2.2.1
        clear q2
        go_wp2_with fail
        refine hQ.mono ?_
        rintro e w3 ⟨rfl, hb3⟩
        have HB3 := Lib.hid (HB2.out.trans (hb3.mono HB2.out.size))
        clear hb3 hQ k0 k1 k2 k3 j0 j1 j2 j3
        go_wp2_with fail
        go_ret
        exact ⟨by rw [HP.out]; rfl, (HKP.out _ HB3.out).1⟩
    · rw [decide_eq_false q1] at hD
      have HP : Hid (pB (sameT a b) = false) := pB_f fun q => q1 q.2.1.1
      clear q1
      go_wp2_with fail
      refine hD.mono ?_
      rintro e w2 ⟨rfl, hb2⟩
      have HB2 := Lib.hid (HB1.out.trans (hb2.mono HB1.out.size))
      clear hb2 hD k0 k1 k2 k3 j0 j1 j2 j3
      go_wp2_with fail
      go_ret
      exact ⟨by rw [HP.out]; rfl, (HKP.out _ HB2.out).1⟩
  · have e1 : (E == 0) = false := by simpa using h0
    have HP : Hid (pB (sameT a b) = false) := pB_f fun q => h0 (by rw [← HE.out]; exact q.1)
    clear h0
    go_enter Try.func9, Try.ntmps9
    go_wp2_with fail
    try rw [hW0]
    refine hC.mono ?_
    rintro e w1 ⟨rfl, hb1⟩
    have HB1 := Lib.hid hb1
    clear hb1 hC hW0 k0 k1 k2 k3 j0 j1 j2 j3
    go_wp2_with fail
    go_ret
    exact ⟨by rw [HP.out]; rfl, (HKP.out _ HB1.out).1⟩
end Go.Proofs.Yteepiifhmbcciaa
/- Worlds in which numbers alone differ; lists whose numbers may be written. -/
namespace Go.Proofs.Yteepiifhmbcciaa
open Go.RowKit

/-- all cells of the first world stand in the second one; those that hold numbers hold numbers -/
structure Num (w w' : World) : Prop where
  int : ∀ p v, w.cell? p = some (.int .i64 v) → ∃ v', w'.cell? p = some (.int .i64 v')
  other : ∀ p u, w.cell? p = some u → (∀ v, u ≠ .int .i64 v) → w'.cell? p = some u
  frozen : ∀ b o cs t, w.heap[b]? = some (.cells cs t (0, 0)) → w'.frozen? ⟨b, o, none⟩ = false
theorem frozen_of {w : World} {b o : Nat} {cs : Array Value} {t : TypeId} (h : w.heap[b]? = some (.cells cs t (0, 0))) : w.frozen? ⟨b, o, none⟩ = false := by
  simp [World.frozen?, h]
theorem Num.refl (w : World) : Num w w := ⟨fun _ v h => ⟨v, h⟩, fun _ _ h _ => h, fun _ _ _ _ h => frozen_of h⟩
theorem Num.below {w w' w2 : World} (h : Num w w') (hb : Below w'.heap.size w' w2) (hk : ∀ b, b < w.heap.size → b < w'.heap.size) : Num w w2 :=
  ⟨fun p v hp => by obtain ⟨v', h'⟩ := h.int p v hp; exact ⟨v', (hb.cell (block_lt_of_cell h')).trans h'⟩, fun p u hp hu => by have h' := h.other p u hp hu; exact (hb.cell (block_lt_of_cell h')).trans h',
   fun b o cs t hh => by
    have h1 := h.frozen b o cs t hh
    have hlt := hk b (lt_of_heap hh)
    rw [← h1]
    simp only [World.frozen?, hb.block b hlt]⟩
theorem Num.set {w w' : World} (h : Num w w') {p : Addr} {v : Int} (hp : w'.cell? p = some (.int .i64 v)) (u : Int) : Num w (w'.setCell p (.int .i64 u)) :=
  ⟨fun q x hq => by
    by_cases e : p = q
    · subst e; exact ⟨u, World.cell?_setCell_same _ _ _ hp⟩
    · obtain ⟨v', h'⟩ := h.int q x hq
      exact ⟨v', (World.cell?_setCell_other _ _ _ _ e).trans h'⟩, fun q x hq hx => by
    have h' := h.other q x hq hx
    have e : p ≠ q := by
      rintro rfl
      rw [hp] at h'
      injection h' with h'
      exact hx v h'.symm
    exact (World.cell?_setCell_other _ _ _ _ e).trans h', fun b o cs t hh => by rw [World.frozen?_setCell]; exact h.frozen b o cs t hh⟩
/-- a cell that holds a number, in a block from base on that may be written -/
def IntC (w : World) (base b o : Nat) : Prop := base ≤ b ∧ (∃ v, w.cell? ⟨b, o, none⟩ = some (.int .i64 v)) ∧ ∃ cs t, w.heap[b]? = some (.cells cs t (0, 0))
/-- a list whose numbers may be written -/
def WrL (w : World) (base : Nat) (B : Option Addr) (m : Nat) (es : List Ent) : Prop :=
  es.length = m ∧ (∀ x ∈ es, x.n ≤ 100000 ∧ ∀ j, j < x.n → ∃ b off, x.A = some ⟨b, off, none⟩ ∧ IntC w base b (off + j)) ∧
  ∀ k x, es[k]? = some x → ∃ b off, B = some ⟨b, off, none⟩ ∧ w.cell? ⟨b, off + 2 * k, none⟩ = some (.slice x.A x.n x.c) ∧ IntC w base b (off + 2 * k + 1)
theorem CooV.wr {w : World} {A B : Option Addr} {n m base : Nat} {xs : List Int} {es : List Ent} (h : CooV w A n B m xs es) (hf : FarC w base A B es) (hn : ∀ x ∈ es, x.n ≤ 100000) : WrL w base B m es := by
  refine ⟨h.2.1, fun x hx => ⟨hn x hx, fun j hj => ?_⟩, fun k x hk => ?_⟩
  · obtain ⟨b, off, y, hA, _, _, hc, _, _⟩ := (h.2.2.1 x hx).1.at_ hj
    have := hf.2.2 x hx b off hA
    exact ⟨b, off, hA, this.1, ⟨y, hc⟩, this.2⟩
  · have hkl := (List.getElem?_eq_some_iff.1 hk).1
    obtain ⟨b, off, hB, _, hx⟩ := h.2.2.2 (by have := h.2.1; omega)
    have hq := hf.2.1 (by intro e; rw [e] at hkl; simp at hkl) b off hB
    exact ⟨b, off, hB, (hx k x hk).1, hq.1, ⟨_, (hx k x hk).2⟩, hq.2⟩
theorem IntC.num {w w' : World} {base b o : Nat} (h : IntC w base b o) (hn : Num w w') : base ≤ b ∧ (∃ v, w'.cell? ⟨b, o, none⟩ = some (.int .i64 v)) ∧ w'.frozen? ⟨b, o, none⟩ = false := by
  obtain ⟨h1, ⟨v, h2⟩, cs, t, h3⟩ := h
  exact ⟨h1, hn.int _ v h2, hn.frozen b o cs t h3⟩
theorem Num.size {w w' : World} (h : Below w.heap.size w w') : Num w w' := (Num.refl w).below h fun _ hb => hb
theorem IntC.below {w w' : World} {base b o : Nat} (h : IntC w base b o) (hb : Below w.heap.size w w') : IntC w' base b o := by
  obtain ⟨h1, ⟨v, h2⟩, cs, t, h3⟩ := h
  exact ⟨h1, ⟨v, (hb.cell (lt_of_heap h3)).trans h2⟩, cs, t, heapAt hb h3⟩
theorem WrL.below {w w' : World} {base m : Nat} {B : Option Addr} {es : List Ent} (h : WrL w base B m es) (hb : Below w.heap.size w w') : WrL w' base B m es :=
  ⟨h.1, fun x hx => ⟨(h.2.1 x hx).1, fun j hj => by obtain ⟨b, off, e, hi⟩ := (h.2.1 x hx).2 j hj; exact ⟨b, off, e, hi.below hb⟩⟩, fun k x hk => by
    obtain ⟨b, off, e, h1, h2⟩ := h.2.2 k x hk
    obtain ⟨_, _, cs, t, h3⟩ := id h2
    exact ⟨b, off, e, (hb.cell (lt_of_heap h3)).trans h1, h2.below hb⟩⟩
theorem slice_ne {A : Option Addr} {n c : Nat} : ∀ v : Int, Value.slice A n c ≠ .int .i64 v := fun v e => by cases e
/-- one of the lists into which is written -/
def OneW (w : World) (base g k : Nat) : Prop := ∃ A n c B m e zs, w.cell? ⟨g, k * 2, none⟩ = some (.slice A n c) ∧ w.cell? ⟨g, k * 2 + 1, none⟩ = some (.slice B m e) ∧ WrL w base B m zs ∧ m ≤ 100000
end Go.Proofs.Yteepiifhmbcciaa
/- What store's calls tell, and the document's: one answer for both. -/
namespace Go.Proofs.Yteepiifhmbcciaa
open Go.RowKit Go.Sort

noncomputable def rdS (t : Ten) : List Int := if tenE t = 0 then t.xs else []
noncomputable def rdK (t : Ten) : List KeyT := if tenE t = 0 then entK t t.vn else []
structure RdV (w : World) (base : Nat) (t : Ten) (A1 : Option Addr) (n1 c1 : Nat) (A3 : Option Addr) (n3 c3 : Nat) (Ts : List Ent) : Prop where
  sh : OwnI w base 3 A1 c1 (rdS t)
  n1e : (rdS t).length = n1
  own : OwnE w base A3 c3 Ts
  n3e : Ts.length = n3
  pl : ∀ x ∈ Ts, OwnP w base x ∧ x.n ≤ 100000
  key : Ts.map keyE = rdK t
  n1b : n1 ≤ 100000
  n3b : n3 ≤ 100000
def RdU (w : World) (t : Ten) (e : Ending) (w' : World) : Prop :=
  Below w.heap.size w w' ∧ ∃ A1 n1 c1 A3 n3 c3 Ts, e = .returned (.tuple #[.agg #[.slice A1 n1 c1, .slice A3 n3 c3], .int .i64 (tenE t)]) ∧ RdV w' w.heap.size t A1 n1 c1 A3 n3 c3 Ts
theorem key_n {Ts : List Ent} {t : Ten} {q : Nat} (h : Ts.map keyE = entK t q) : ∀ x ∈ Ts, x.n = t.n := by
  intro x hx
  have h1 : keyE x ∈ Ts.map keyE := List.mem_map_of_mem hx
  rw [h] at h1
  unfold entK at h1
  obtain ⟨n, _, he⟩ := List.mem_map.1 h1
  exact (congrArg (fun q => q.2.2) he).symm
theorem ReadPost.u {w w' : World} {t : Ten} {e : Ending} (h : ReadPost w t e w') (hx : t.xs.length = t.n) (hn : t.n ≤ 100000) (hv : t.vn ≤ 100000) : RdU w t e w' := by
  obtain ⟨hb, ⟨hE, rfl⟩ | ⟨hE, A1, c1, A3, c3, Ts, rfl, h1, h2, h3, h4⟩⟩ := h
  · refine ⟨hb, none, 0, 0, none, 0, 0, [], rfl, ?_⟩
    have e1 : rdS t = [] := by unfold rdS; rw [if_neg hE]
    have e2 : rdK t = [] := by unfold rdK; rw [if_neg hE]
    exact ⟨by rw [e1]; exact OwnI.nil_ _ _ _, by rw [e1]; rfl, World.ownsRow_nil _ _ _ _, rfl, fun x hx => (by cases hx), by rw [e2]; rfl, by omega, by omega⟩
  · have e1 : rdS t = t.xs := by unfold rdS; rw [if_pos hE]
    have e2 : rdK t = entK t t.vn := by unfold rdK; rw [if_pos hE]
    have hl : Ts.length = t.vn := by have := congrArg List.length h4; rw [List.length_map, entK_length] at this; exact this
    exact ⟨hb, A1, t.n, c1, A3, t.vn, c3, Ts, by rw [hE], by rw [e1]; exact h1, by rw [e1]; exact hx, h2, hl, fun x hm => ⟨h3 x hm, by rw [key_n h4 x hm]; exact hn⟩, by rw [e2]; exact h4, hn, hv⟩
section
variable {w w' : World} {base n1 c1 n3 c3 : Nat} {t : Ten} {A1 A3 : Option Addr} {Ts : List Ent}
theorem RdV.below (h : RdV w base t A1 n1 c1 A3 n3 c3 Ts) (hb : Below w.heap.size w w') : RdV w' base t A1 n1 c1 A3 n3 c3 Ts :=
  ⟨h.sh.below hb (Nat.le_refl _), h.n1e, ownE_below h.own hb, h.n3e, fun x hx => ⟨⟨(h.pl x hx).1.1.below hb (Nat.le_refl _), (h.pl x hx).1.2⟩, (h.pl x hx).2⟩, h.key, h.n1b, h.n3b⟩
theorem RdV.coo (h : RdV w base t A1 n1 c1 A3 n3 c3 Ts) : CooV w A1 n1 A3 n3 (rdS t) Ts := by
  have h1 := h.sh.ints
  have h2 := ownE_ents h.own (fun x hx => (h.pl x hx).1)
  rw [h.n1e] at h1
  rw [h.n3e] at h2
  exact ⟨h1, h2⟩
theorem RdV.wr (h : RdV w base t A1 n1 c1 A3 n3 c3 Ts) : WrL w base A3 n3 Ts := by
  refine ⟨h.n3e, fun x hx => ⟨(h.pl x hx).2, fun j hj => ?_⟩, fun k x hk => ?_⟩
  · obtain ⟨hI, hn, _⟩ := (h.pl x hx).1
    have hlt : j < x.cs.length := by omega
    obtain ⟨v, hv⟩ : ∃ v, x.cs[j]? = some v := ⟨_, List.getElem?_eq_getElem hlt⟩
    rcases hI.1.2 with ⟨_, h0⟩ | ⟨g, cap, cur, hA, hb, hh, _⟩
    · omega
    · have hA' : x.A = some ⟨g, 0, none⟩ := by injection hA
      have hI2 := hI
      rw [hA'] at hI2
      have hc := (hI2.cell_ hv).1
      exact ⟨g, 0, hA', hb, ⟨v, by rw [Nat.zero_add]; exact hc⟩, cur, _, hh⟩
  · have hkl := (List.getElem?_eq_some_iff.1 hk).1
    obtain ⟨g, post, e, hb, hr⟩ := OwnE.row h.own (by omega)
    obtain ⟨⟨a1, _⟩, a2, _⟩ := blk_ent hr hk
    refine ⟨g, 0, e, by rw [Nat.zero_add, Nat.mul_comm 2 k]; exact a1, hb, ⟨x.v, by rw [Nat.zero_add, Nat.mul_comm 2 k]; exact a2⟩, _, _, hr⟩
end
theorem keyV_key {Ts Us : List Ent} (h : Ts.map keyE = Us.map keyE) : Ts.map keyV = Us.map keyV := by
  have e : ∀ L : List Ent, L.map keyV = (L.map keyE).map (fun q => (q.1, q.2.1)) := fun L => by rw [List.map_map]; rfl
  rw [e, e, h]
noncomputable def dnS (t : Ten) : List Int := if stDenE t = 0 then t.xs else []
noncomputable def dnV (t : Ten) : List Int := if stDenE t = 0 then stDenV t else []
def DnU (w : World) (t : Ten) (e : Ending) (w' : World) : Prop :=
  Below w.heap.size w w' ∧ ∃ A1 n1 c1 A2 n2 c2, e = .returned (.tuple #[.agg #[.slice A1 n1 c1, .slice A2 n2 c2], .int .i64 (stDenE t)]) ∧ DenV w' A1 n1 A2 n2 (dnS t) (dnV t) ∧ n1 ≤ 100000 ∧ n2 ≤ 100000
theorem StDenPost.u {w w' : World} {t : Ten} {e : Ending} (h : StDenPost w t e w') (hx : t.xs.length = t.n) (hn : t.n ≤ 100000) : DnU w t e w' := by
  obtain ⟨hb, ⟨hE, rfl⟩ | ⟨hE, A1, c1, A2, c2, rfl, h1, h2⟩⟩ := h
  · refine ⟨hb, none, 0, 0, none, 0, 0, rfl, ?_, by omega, by omega⟩
    have e1 : dnS t = [] := by unfold dnS; rw [if_neg hE]
    have e2 : dnV t = [] := by unfold dnV; rw [if_neg hE]
    rw [e1, e2]
    exact ⟨(OwnI.nil_ w' 0 3).ints, (OwnI.nil_ w' 0 3).ints⟩
  · have e1 : dnS t = t.xs := by unfold dnS; rw [if_pos hE]
    have e2 : dnV t = stDenV t := by unfold dnV; rw [if_pos hE]
    have hl : (stDenV t).length ≤ 100000 := by
      unfold stDenV
      rw [denseK_length]
      have h0 : (laidF t.xs).2 = 0 := by
        unfold stDenE at hE
        split at hE
        · contradiction
        · exact hE
      have := (laidF_nonneg (xs := t.xs))
      omega
    have i1 := h1.ints
    rw [hx] at i1
    exact ⟨hb, A1, t.n, c1, A2, _, c2, by rw [hE], ⟨by rw [e1]; exact i1, by rw [e2]; exact h2.ints⟩, hn, hl⟩
noncomputable def ctL (t : Ten) : List Int := if tenE t = 0 then cntL t.ls else []
def CtU (w : World) (t : Ten) (e : Ending) (w' : World) : Prop :=
  Below w.heap.size w w' ∧ ∃ A n c, e = .returned (.tuple #[.slice A n c, .int .i64 (tenE t)]) ∧ Ints w' w'.heap.size A n (ctL t) ∧ n ≤ 100000
theorem cntL_fits {t : Ten} {w : World} (ht : t.In w w.heap.size) (hE : tenE t = 0) : ∀ z ∈ cntL t.ls, -9223372036854775808 ≤ z ∧ z ≤ 9223372036854775807 := by
  intro z hz
  unfold cntL at hz
  obtain ⟨k, hk, rfl⟩ := List.mem_map.1 hz
  have hk := List.mem_range.1 hk
  have := ahN_le (Ten.tok ht hE).1.lev (k := k + 1) hk (by omega)
  omega
theorem CountsPost.u {w w' : World} {t : Ten} {e : Ending} (h : CountsPost w t e w') (ht : t.In w w.heap.size) (hl : t.ln ≤ 100000) : CtU w t e w' := by
  have h2 := ht.lvs.1
  obtain ⟨hb, ⟨hE, rfl⟩ | ⟨hE, g, hg, rfl, hh⟩⟩ := h
  · refine ⟨hb, none, 0, 0, rfl, ?_, by omega⟩
    have e1 : ctL t = [] := by unfold ctL; rw [if_neg hE]
    rw [e1]
    exact (OwnI.nil_ w' 0 3).ints
  · have e1 : ctL t = cntL t.ls := by unfold ctL; rw [if_pos hE]
    exact ⟨hb, _, t.ln, t.ln, by rw [hE], by rw [e1]; exact ints_stC hh (by rw [cntL_length, h2]) (cntL_fits ht hE) (lt_of_heap hh), hl⟩
theorem RefCountsPost.u {w w' : World} {t : Ten} {e : Ending} (h : RefCountsPost w t e w') (ht : t.In w w.heap.size) (hl : t.ln ≤ 100000) : CtU w t e w' := by
  have h2 := ht.lvs.1
  obtain ⟨hb, ⟨hE, rfl⟩ | ⟨hE, A', c', rfl, hO⟩⟩ := h
  · refine ⟨hb, none, 0, 0, rfl, ?_, by omega⟩
    have e1 : ctL t = [] := by unfold ctL; rw [if_neg hE]
    rw [e1]
    exact (OwnI.nil_ w' 0 3).ints
  · have e1 : ctL t = cntL t.ls := by unfold ctL; rw [if_pos hE]
    have hi := hO.ints
    rw [cntL_length, h2] at hi
    exact ⟨hb, _, t.ln, c', by rw [hE], by rw [e1]; exact hi, hl⟩
noncomputable def emB (t : Ten) : Bool := if tenE t = 0 then !(t.vs.any nzB) else false
def EmU (w : World) (t : Ten) (e : Ending) (w' : World) : Prop := e = .returned (.tuple #[.bool (emB t), .int .i64 (tenE t)]) ∧ Below w.heap.size w w'
theorem EmptyPost.u {w w' : World} {t : Ten} {e : Ending} (h : EmptyPost w t e w') : EmU w t e w' := by
  obtain ⟨hb, ⟨hE, rfl⟩ | ⟨hE, rfl⟩⟩ := h
  · exact ⟨by unfold emB; rw [if_neg hE], hb⟩
  · exact ⟨by unfold emB; rw [if_pos hE, hE], hb⟩
/-- what Get tells -/
def gtP (t : Ten) (cs : List Int) (q : Nat) : Prop := tenE t = 0 ∧ (atF t.xs cs).2 = 0 ∧ q < t.vn ∧ cN t.n t.fs t.ls t.ln q = cs
open Classical in
noncomputable def gtR (t : Ten) (cs : List Int) : Value :=
  if h : ∃ q, gtP t cs q then .tuple #[.int .i64 (t.vs.getD h.choose 0), .bool true, .int .i64 0]
  else .tuple #[.int .i64 0, .bool false, .int .i64 (if tenE t ≠ 0 then tenE t else (atF t.xs cs).2)]
def GtU (w : World) (t : Ten) (cs : List Int) (e : Ending) (w' : World) : Prop :=
  ∃ v b E, e = .returned (.tuple #[.int .i64 v, .bool b, .int .i64 E]) ∧ gtR t cs = .tuple #[.int .i64 v, .bool b, .int .i64 E] ∧ Below w.heap.size w w'
theorem GetAll.u {w w' : World} {t : Ten} {cs : List Int} {e : Ending} (h : GetAll w t cs e w') (ht : t.In w w.heap.size) : GtU w t cs e w' := by
  obtain ⟨hb, ⟨hE, rfl⟩ | ⟨hE, hF, rfl⟩ | ⟨hE, hF, ⟨q, hq, hc, rfl⟩ | ⟨hn, rfl⟩⟩⟩ := h
  · refine ⟨_, _, _, rfl, ?_, hb⟩
    unfold gtR
    rw [dif_neg (fun ⟨q, h⟩ => hE h.1), if_pos hE]
  · refine ⟨_, _, _, rfl, ?_, hb⟩
    unfold gtR
    rw [dif_neg (fun ⟨q, h⟩ => hF h.2.1), if_neg (by rw [hE]; simp)]
  · refine ⟨_, _, _, rfl, ?_, hb⟩
    unfold gtR
    have hx : ∃ q, gtP t cs q := ⟨q, hE, hF, hq, hc⟩
    rw [dif_pos hx]
    obtain ⟨_, _, h1, h2⟩ := hx.choose_spec
    have h3 := ht.shape.1
    have h4 := ht.lvs.1
    have hT := Ten.tok ht hE
    have e : hx.choose = q := by
      refine hT.1.one (by rw [h4, ← hT.2.1]; exact h1) (by rw [h4, ← hT.2.1]; exact hq) ?_
      rw [h3, h4, h2, hc]
    rw [e]
  · refine ⟨_, _, _, rfl, ?_, hb⟩
    unfold gtR
    rw [dif_neg (fun ⟨q, h⟩ => hn q h.2.2.1 h.2.2.2), if_neg (by rw [hE]; simp), hF]
theorem gt_inj {v v2 E E2 : Int} {b b2 : Bool} {x : Value} (h : x = .tuple #[.int .i64 v, .bool b, .int .i64 E]) (h2 : x = .tuple #[.int .i64 v2, .bool b2, .int .i64 E2]) : v = v2 ∧ b = b2 ∧ E = E2 := by
  rw [h] at h2
  simpa using h2
section
variable (t : Ten) (w : World) (ht : t.In w w.heap.size) (hf : fewT t)
include ht hf
theorem stReadU : Calls Try.prog 11 #[t.val] w (RdU w t) := (stRead_any t w ht).mono fun _ _ h => h.u ht.shape.1 (by have := hf.1; omega) (by have := hf.2.2.2.1; omega)
theorem refReadU : Calls Try.prog 12 #[t.val] w (RdU w t) := (refRead5_any t w ht hf).mono fun _ _ h => h.u ht.shape.1 (by have := hf.1; omega) (by have := hf.2.2.2.1; omega)
theorem stDenseU : Calls Try.prog 13 #[t.val] w (DnU w t) := (stDense_any t w ht (by have := hf.2.2.2.1; omega)).mono fun _ _ h => h.u ht.shape.1 (by have := hf.1; omega)
theorem refDenseU : Calls Try.prog 14 #[t.val] w (DnU w t) := (refDense5_any t w ht hf).mono fun _ _ h => h.u ht.shape.1 (by have := hf.1; omega)
omit hf in
theorem stGetU (Cc : Option Addr) (cn cc : Nat) (cs : List Int) (hc : Ints w w.heap.size Cc cn cs) (hcn : cn ≤ 20) : Calls Try.prog 15 #[t.val, .slice Cc cn cc] w (GtU w t cs) := (stGet_any t Cc cn cc cs w ht hc (by omega)).mono fun _ _ h => h.u ht
theorem refGetU (Cc : Option Addr) (cn cc : Nat) (cs : List Int) (hc : Ints w w.heap.size Cc cn cs) (hcn : cn ≤ 20) : Calls Try.prog 16 #[t.val, .slice Cc cn cc] w (GtU w t cs) := (refGet5_of t w (fun W hW => refRead5_any t W hW hf) ht Cc cn cc cs hc (by omega)).mono fun _ _ h => h.u ht
theorem stCountsU : Calls Try.prog 17 #[t.val] w (CtU w t) := (counts_any t w ht).mono fun _ _ h => h.u ht (by have := hf.2.2.1; omega)
theorem refCountsU : Calls Try.prog 18 #[t.val] w (CtU w t) := (refCounts5_any t w ht hf).mono fun _ _ h => h.u ht (by have := hf.2.2.1; omega)
omit hf in
theorem stEmptyU : Calls Try.prog 19 #[t.val] w (EmU w t) := (stEmpty_any t w ht).mono fun _ _ h => h.u
theorem refEmptyU : Calls Try.prog 20 #[t.val] w (EmU w t) := (refEmpty5_any t w ht hf).mono fun _ _ h => h.u
end
end Go.Proofs.Yteepiifhmbcciaa
/- purfleref05.Copy: a copy of a stored tensor, of the call's own. -/
namespace Go.Proofs.Yteepiifhmbcciaa
open Go.RowKit

structure R1 (w1 wx : World) (t : Ten) (g : Nat) (A1 : Option Addr) (c1 : Nat) (A2 : Option Addr) (c2 : Nat) (A3 : Option Addr) (c3 : Nat) : Prop where
  bel : Below w1.heap.size w1 wx
  gg : w1.heap.size ≤ g
  box : wx.heap[g]? = some (.cells #[.slice A1 t.n c1, .slice A2 t.fn c2, .slice none 0 0, .slice A3 t.vn c3] 27 (0, 0))
  i1 : OwnI wx w1.heap.size 3 A1 c1 t.xs
  i2 : OwnS wx w1.heap.size A2 c2 t.fs
  i3 : OwnI wx w1.heap.size 2 A3 c3 t.vs
def CopyPost (w : World) (t : Ten) (e : Ending) (w' : World) : Prop :=
  ∃ g A1 c1 A2 c2 A3 c3 A4 c4 ls' f, e = .returned (copyT t A1 c1 A2 c2 A3 c3 A4 c4 ls').val ∧ CopyI w t g A1 c1 A2 c2 A3 c3 t.ln A4 c4 ls' f w'
set_option maxRecDepth 100000 in
set_option maxHeartbeats 8000000 in
theorem refCopy5_any (t : Ten) (w : World) (ht : t.In w w.heap.size) (hf : fewT t) :
    Calls Try.prog 6 #[t.val] w (CopyPost w t) := by
  have z0 := lvBelow w t.obj
  have z1 := z0.alloc z0.size (.cells #[.slice none 0 0, .slice none 0 0, .slice none 0 0, .slice none 0 0] 27)
  have b1 := zf_two w t.obj (.cells #[.slice none 0 0, .slice none 0 0, .slice none 0 0, .slice none 0 0] 27)
  have b2 := zf_snd w (.cells #[.slice none 0 0, .slice none 0 0, .slice none 0 0, .slice none 0 0] 27) t.obj
  obtain ⟨w1, hw1⟩ : ∃ W, (w.alloc t.obj).alloc (.cells #[.slice none 0 0, .slice none 0 0, .slice none 0 0, .slice none 0 0] 27) = W := ⟨_, rfl⟩
  have hs1 : w1.heap.size = w.heap.size + 2 := by rw [← hw1, World.size_alloc, World.size_alloc]
  rw [hw1] at z1 b1 b2
  obtain ⟨k0, k1, k2, k3, _⟩ := lvCells b1
  have HI := Lib.hid ht
  have HF := Lib.hid hf
  have HZ := Lib.hid z1
  have HB1 := Lib.hid b1
  have HB2 := Lib.hid b2
  have hn1 := ht.n1
  have hf1 := ht.f1
  have hv1 := ht.v1
  have hl1 := ht.l1
  obtain ⟨i0, hi0, hz0, hz1, hz2⟩ := info_parts infoInt
  obtain ⟨j0, hj0, hy0, hy1, hy2⟩ := info_parts infoInt64
  clear ht hf z0 z1 b1 b2
  go_enter Try.func6, Try.ntmps6
  go_upto_region 1 with fail
  try rw [hw1]
  go_cut [3] (fun s wx => ∃ g A1 c1 A2 c2 A3 c3, s = .pointer (some ⟨g, 0, none⟩) ∧ R1 w1 wx t g A1 c1 A2 c2 A3 c3)
  case first =>
    have HCL : Hid (∀ W, Below w1.heap.size w1 W → W.cell? ⟨w.heap.size, 0, none⟩ = some (.slice t.A t.n t.c) ∧ W.cell? ⟨w.heap.size, 1, none⟩ = some (.slice t.F t.fn t.fc) ∧ W.cell? ⟨w.heap.size, 3, none⟩ = some (.slice t.V t.vn t.vc) ∧ t.In W W.heap.size) := fun W hW => ⟨(hW.cell (p := ⟨w.heap.size, 0, none⟩) (lt_of_heap HB1.out)).trans k0, (hW.cell (p := ⟨w.heap.size, 1, none⟩) (lt_of_heap HB1.out)).trans k1, (hW.cell (p := ⟨w.heap.size, 3, none⟩) (lt_of_heap HB1.out)).trans k3, HI.out.on (HZ.out.trans (hW.mono HZ.out.size))⟩
    have hmx : Try.prog.follows .mixedOrders = true := by kernel_rfl
    clear k0 k1 k2 k3 hw1
    refine wp_region_inv (fun a0 L a' w' => ∃ v6 v7 v8 v9 v10 v11 v12 v13 v14 v15 v3 : Value, a' = (Act.put (Act.put (Act.put (Act.put (Act.put (Act.put (Act.put (Act.put (Act.put (Act.put (Act.put a0 (some 6) v6) (some 7) v7) (some 8) v8) (some 9) v9) (some 10) v10) (some 11) v11) (some 12) v12) (some 13) v13) (some 14) v14) (some 15) v15) (some 3) v3) ∧ F1 w1 t w.heap.size L v6 v7 v8 v9 v10 v11 v12 v13 v14 v15 v3 w') hmx (by kernel_rfl) ?_ ?_ ?_
    · refine ⟨undef, undef, undef, undef, undef, undef, undef, undef, undef, undef, undef, by simp [Act.put], ?_⟩
      have hno : ∀ k, k < 12 → ¬ on (Array.replicate 12 false) k := fun k hk h => by unfold on at h; simp [hk] at h
      exact ⟨(Below.refl _ _).drew, fun h => absurd h (hno 0 (by omega)), fun h => absurd h (hno 1 (by omega)), fun h => absurd h (hno 2 (by omega)), fun h => absurd h (hno 3 (by omega)), fun h => absurd h (hno 4 (by omega)), fun h => absurd h (hno 5 (by omega)), fun h => absurd h (hno 6 (by omega)), fun h => absurd h (hno 7 (by omega)), fun h => absurd h (hno 8 (by omega)), fun h => absurd h (hno 9 (by omega)), fun h => absurd h (hno 10 (by omega)), fun h => absurd h (hno 11 (by omega))⟩
    · rintro L a' w' ⟨v6, v7, v8, v9, v10, v11, v12, v13, v14, v15, v3, rfl, F⟩ hall
      have hon : ∀ k, k < 12 → on L k := fun k hk => by
        exact hall k hk
      obtain ⟨A1, c1, rfl, h1⟩ := F.f2 (hon 2 (by omega))
      obtain ⟨A2, c2, rfl, h2⟩ := F.f5 (hon 5 (by omega))
      obtain ⟨A3, c3, rfl, h3⟩ := F.f8 (hon 8 (by omega))
      obtain ⟨g, _, _, _, _, rfl, h4, _⟩ := F.f10 (hon 10 (by omega))
      have h5 := (F.f11 (hon 11 (by omega))).2.2 g rfl
      have HH : Hid (R1 w1 w' t g A1 c1 A2 c2 A3 c3) := ⟨F.bel, h4, h5, h1, h2, h3⟩
      simp [Act.put]
      clear h1 h2 h3 h4 h5
      go_wp2_with fail
      go_meet
      exact ⟨g, A1, c1, A2, c2, A3, c3, rfl, HH.out⟩
    · rintro L a' w' i ⟨v6, v7, v8, v9, v10, v11, v12, v13, v14, v15, v3, rfl, F⟩ hi
      obtain ⟨_, oi, hoi, _⟩ := mem_ready.1 hi
      have hi12 := (Array.getElem?_eq_some_iff.1 hoi).1
      obtain ⟨n0, n1, n3, hTi⟩ := HCL.out w' F.bel
      have hii : i < 12 := hi12
      clear hi12
      rcases (by omega : i = 0 ∨ i = 1 ∨ i = 2 ∨ i = 3 ∨ i = 4 ∨ i = 5 ∨ i = 6 ∨ i = 7 ∨ i = 8 ∨ i = 9 ∨ i = 10 ∨ i = 11) with rfl | rfl | rfl | rfl | rfl | rfl | rfl | rfl | rfl | rfl | rfl | rfl
      · -- 0
        refine wpOp_of hoi (fun K hK => ?_)
        simp only [List.getElem?_toArray, List.getElem?_cons_zero, Option.some.injEq] at hoi
        subst hoi
        simp only [Act.put]
        go_simp
        refine hK _ _ ⟨_, _, _, _, _, _, _, _, _, _, _, ?_, F.s0⟩
        simp [Act.put]
      · -- 1
        obtain rfl := F.f0 (ready_at hi rfl 0 (by kernel_rfl))
        refine wpOp_of hoi (fun K hK => ?_)
        simp only [List.getElem?_toArray, List.getElem?_cons_succ, List.getElem?_cons_zero, Option.some.injEq] at hoi
        subst hoi
        simp only [Act.put]
        go_simp
        refine hK _ _ ⟨_, _, _, _, _, _, _, _, _, _, _, ?_, F.s1⟩
        simp [Act.put]
      · -- 2
        obtain rfl := F.f1 (ready_at hi rfl 1 (by kernel_rfl))
        have hun := not_on (mem_ready.1 hi).1
        refine wpOp_of hoi (fun K hK => ?_)
        simp only [List.getElem?_toArray, List.getElem?_cons_succ, List.getElem?_cons_zero, Option.some.injEq] at hoi
        subst hoi
        refine step_cloneInts rfl (.const (.slice none 0 0)) (.tmp 7) 22 rfl 3 i0 Try.underlying22 hi0 hz0 hz1 hz2 t.A t.n t.c _ t.xs rfl (by simp [Act.put, Act.eval]) hTi.shape (by omega) ?_
        intro A' c' w8 ho hb
        have hz := F.bel.size
        refine hK _ _ ⟨_, _, _, _, _, _, _, _, _, _, _, ?_, (F.world hb).s2 hun (ho.mono (by omega))⟩
        simp [Act.put]
      · -- 3
        refine wpOp_of hoi (fun K hK => ?_)
        simp only [List.getElem?_toArray, List.getElem?_cons_succ, List.getElem?_cons_zero, Option.some.injEq] at hoi
        subst hoi
        simp only [Act.put]
        go_simp
        refine hK _ _ ⟨_, _, _, _, _, _, _, _, _, _, _, ?_, F.s3⟩
        simp [Act.put]
      · -- 4
        obtain rfl := F.f3 (ready_at hi rfl 3 (by kernel_rfl))
        refine wpOp_of hoi (fun K hK => ?_)
        simp only [List.getElem?_toArray, List.getElem?_cons_succ, List.getElem?_cons_zero, Option.some.injEq] at hoi
        subst hoi
        simp only [Act.put]
        go_simp
        refine hK _ _ ⟨_, _, _, _, _, _, _, _, _, _, _, ?_, F.s4⟩
        simp [Act.put]
      · -- 5
        obtain rfl := F.f4 (ready_at hi rfl 4 (by kernel_rfl))
        have hun := not_on (mem_ready.1 hi).1
        refine wpOp_of hoi (fun K hK => ?_)
        simp only [List.getElem?_toArray, List.getElem?_cons_succ, List.getElem?_cons_zero, Option.some.injEq] at hoi
        subst hoi
        refine step_cloneSpecs rfl (.const (.slice none 0 0)) (.tmp 10) rfl t.F t.fn t.fc _ t.fs rfl (by simp [Act.put, Act.eval]) hTi.form (by omega) ?_
        intro A' c' w8 ho hb
        have hz := F.bel.size
        refine hK _ _ ⟨_, _, _, _, _, _, _, _, _, _, _, ?_, (F.world hb).s5 hun (ho.mono (by omega))⟩
        simp [Act.put]
      · -- 6
        refine wpOp_of hoi (fun K hK => ?_)
        simp only [List.getElem?_toArray, List.getElem?_cons_succ, List.getElem?_cons_zero, Option.some.injEq] at hoi
        subst hoi
        simp only [Act.put]
        go_simp
        refine hK _ _ ⟨_, _, _, _, _, _, _, _, _, _, _, ?_, F.s6⟩
        simp [Act.put]
      · -- 7
        obtain rfl := F.f6 (ready_at hi rfl 6 (by kernel_rfl))
        refine wpOp_of hoi (fun K hK => ?_)
        simp only [List.getElem?_toArray, List.getElem?_cons_succ, List.getElem?_cons_zero, Option.some.injEq] at hoi
        subst hoi
        simp only [Act.put]
        go_simp
        refine hK _ _ ⟨_, _, _, _, _, _, _, _, _, _, _, ?_, F.s7⟩
        simp [Act.put]
      · -- 8
        obtain rfl := F.f7 (ready_at hi rfl 7 (by kernel_rfl))
        have hun := not_on (mem_ready.1 hi).1
        refine wpOp_of hoi (fun K hK => ?_)
        simp only [List.getElem?_toArray, List.getElem?_cons_succ, List.getElem?_cons_zero, Option.some.injEq] at hoi
        subst hoi
        refine step_cloneInts rfl (.const (.slice none 0 0)) (.tmp 13) 25 rfl 2 j0 Try.underlying25 hj0 hy0 hy1 hy2 t.V t.vn t.vc _ t.vs rfl (by simp [Act.put, Act.eval]) hTi.vals (by omega) ?_
        intro A' c' w8 ho hb
        have hz := F.bel.size
        refine hK _ _ ⟨_, _, _, _, _, _, _, _, _, _, _, ?_, (F.world hb).s8 hun (ho.mono (by omega))⟩
        simp [Act.put]
      · -- 9
        have o2 := ready_at hi rfl 2 (by kernel_rfl)
        have o5 := ready_at hi rfl 5 (by kernel_rfl)
        have o8 := ready_at hi rfl 8 (by kernel_rfl)
        obtain ⟨A1, c1, rfl, h1⟩ := F.f2 o2
        obtain ⟨A2, c2, rfl, h2⟩ := F.f5 o5
        obtain ⟨A3, c3, rfl, h3⟩ := F.f8 o8
        refine wpOp_of hoi (fun K hK => ?_)
        simp only [List.getElem?_toArray, List.getElem?_cons_succ, List.getElem?_cons_zero, Option.some.injEq] at hoi
        subst hoi
        simp only [Act.put]
        go_simp
        refine hK _ _ ⟨_, _, _, _, _, _, _, _, _, _, _, ?_, F.s9 o2 o5 o8⟩
        simp [Act.put]
      · -- 10
        have hun := not_on (mem_ready.1 hi).1
        refine wpOp_of hoi (fun K hK => ?_)
        simp only [List.getElem?_toArray, List.getElem?_cons_succ, List.getElem?_cons_zero, Option.some.injEq] at hoi
        subst hoi
        simp only [Act.put]
        go_simp
        have hz := F.bel.size
        refine hK _ _ ⟨_, _, _, _, _, _, _, _, _, _, _, ?_, (F.world (lvBelow w' _)).s10 hun (by omega) (heap_alloc_new w' _)⟩
        simp [Act.put]
      · -- 11
        have o9 := ready_at hi rfl 9 (by kernel_rfl)
        have o10 := ready_at hi rfl 10 (by kernel_rfl)
        obtain ⟨o2, o5, o8, rfl⟩ := F.f9 o9
        obtain ⟨A1, c1, rfl, h1⟩ := F.f2 o2
        obtain ⟨A2, c2, rfl, h2⟩ := F.f5 o5
        obtain ⟨A3, c3, rfl, h3⟩ := F.f8 o8
        obtain ⟨g, y0, y1, y2, y3, rfl, h4, h5⟩ := F.f10 o10
        obtain ⟨q0, q1, q2, q3, f0, f1, f2, f3⟩ := lvCells h5
        have hset := set_four w' g y0 y1 y2 y3 (.slice A1 t.n c1) (.slice A2 t.fn c2) (.slice none 0 0) (.slice A3 t.vn c3) _ h5
        refine wpOp_of hoi (fun K hK => ?_)
        simp only [List.getElem?_toArray, List.getElem?_cons_succ, List.getElem?_cons_zero, Option.some.injEq] at hoi
        subst hoi
        simp only [Act.put]
        go_simp
        refine hK _ _ ⟨_, _, _, _, _, _, _, _, _, _, _, ?_, F.s11 rfl h4 o9 o10 h5 hset.1 (F.bel.trans (hset.2.2 _ (by have := F.bel.size; omega))) hset.2.1⟩
        simp [Act.put]
  case rest =>
    obtain ⟨g, A1, c1, A2, c2, A3, c3, rfl, hR⟩ := hcut
    obtain ⟨r1, r2, r3, r4, r5, r6⟩ := hR
    have hC0 : CopyI w t g A1 c1 A2 c2 A3 c3 0 none 0 [] (fun _ => wc.heap.size) wc :=
      ⟨HZ.out.trans (r1.mono HZ.out.size), by omega, r3, r4.mono (by omega), r5.mono (by omega), r6.mono (by omega), OwnV.nil_ _ _, rfl, fun j l hl => by simp at hl, fun b hb => by obtain ⟨cur, hc, _⟩ := ownI_blk r4 hb; exact lt_of_heap hc, (by have := r1.size; omega), fun j => Nat.le_refl _, Nat.le_refl _, fun j l hl => by simp at hl⟩
    have HC0 := Lib.hid hC0
    have hP := keep_b r1 HB1.out
    have HQ := Lib.hid (keep_b r1 HB2.out)
    have HG2 : Hid (w.heap.size + 2 ≤ g) := by unfold Hid; omega
    obtain ⟨LA, hLA⟩ : ∃ LA, t.L = LA := ⟨_, rfl⟩
    have HLA := Lib.hid hLA
    clear k0 k1 k2 k3
    obtain ⟨k0, k1, k2, k3, _⟩ := lvCells hP
    rw [hLA] at k2
    clear r1 r2 r3 r4 r5 r6 hC0 hP hLA hw1
    obtain ⟨wo, rfl⟩ : ∃ wo : World, wo = wc := ⟨_, rfl⟩
    go_wp2_with fail
    clear k0 k1 k2 k3
    go_loopw [19] (fun i wr => ∃ (k : Nat) (A4 : Option Addr) (c4 : Nat) (ls' : List Lv) (f : Nat → Nat), k ≤ t.ln ∧ i = .int .i64 k ∧ Hid (CopyI w t g A1 c1 A2 c2 A3 c3 k A4 c4 ls' f wr) ∧ Hid (wr.heap[w.heap.size + 1]? = some (.cells #[.slice none 0 0, .slice none 0 0, .slice none 0 0, .slice none 0 0] 27 (0, 0)))) (fun i _ => t.ln - (intOf i).toNat)
    case atStart => exact ⟨0, none, 0, [], _, Nat.zero_le _, rfl, HC0, HQ⟩
    case round =>
      obtain ⟨k, A4, c4, ls', f, hk, rfl, HC, HR⟩ := hrel
      by_cases hlt : k < t.ln
      · obtain ⟨bl, ol, l, hLA, hbl, HL, d0, d1, d2, d3, li⟩ := (HI.out.on HC.out.bel).lvs.at_ hlt
        obtain rfl : LA = some ⟨bl, ol, none⟩ := HLA.out.symm.trans hLA
        have hfew := HF.out.2.2.2.2 l (List.mem_of_getElem? HL.out)
        have hkI : (k : Int) < (t.ln : Int) := by omega
        have hk0 : (0 : Int) ≤ (k : Int) := by omega
        obtain ⟨W1, hW1⟩ : ∃ W, wr.alloc (lvO l.k l.s l.A l.n l.c l.B l.m l.e) = W := ⟨_, rfl⟩
        have hM1 : MidW wr W1 wr.heap.size (.int .i64 l.k) (.int .i64 l.s) (.slice l.A l.n l.c) (.slice l.B l.m l.e) := by rw [← hW1]; exact MidW.start wr
        have hb1 : Below wr.heap.size wr W1 := by rw [← hW1]; exact lvBelow wr _
        obtain ⟨q0, q1, q2, q3, _⟩ := lvCells hM1.box
        have hp1 := li.pos.below hb1
        have HM1 := Lib.hid hM1
        have HLI := Lib.hid li
        have HLT : Hid (k + 1 ≤ t.ln) := hlt
        have HHI : Hid (∀ W, Below wr.heap.size wr W → l.In W wr.heap.size) := fun W hW => li.below hW
        clear hLA hlt hM1 li hb1
        go_upto_region 5 with fail
        try rw [hW1]
        clear d0 d1 d2 d3 hW1
        have hl3 : l.n ≤ 1000000 := by omega
        go_upto_region 6 with (at_builtin; refine wpList_appendInts _ rfl (.const (.slice none 0 0)) (.tmp 24) 22 rfl W1.heap.size 3 i0 Try.underlying22 hi0 hz0 hz1 hz2 none l.A 0 l.n l.c wr.heap.size 0 l.n [] l.xs rfl rfl (OwnI.nil_ _ _ _) rfl (Nat.zero_add _) hp1 hl3 (Nat.le_refl _) ?_; intro A5 c5 w2 HO5 HG5; have hb2 := below_of_none HG5; have hM2 := HM1.out.below rfl hb2; obtain ⟨p0, p1, p2, p3, pf0, pf1, pf2, pf3⟩ := lvCells hM2.box)
        have hM3 := hM2.set2 (.slice A5 l.n c5)
        have HO5h := Lib.hid HO5
        have hA5 : ∀ b, A5 = some ⟨b, 0, none⟩ → b < w2.heap.size := fun b hb => by obtain ⟨cur, hc, _⟩ := ownI_blk HO5 hb; exact lt_of_heap hc
        have HA5 := Lib.hid hA5
        have HK2 : Hid (KeepC w2 (w2.setCell ⟨wr.heap.size, 2, none⟩ (.slice A5 l.n c5))) := KeepC.of_set hM2.box (.inl rfl) rfl _
        have HLO1 : Hid (wr.heap.size ≤ W1.heap.size) := HM1.out.size
        obtain ⟨W3, hW3⟩ : ∃ W, w2.setCell ⟨wr.heap.size, 2, none⟩ (.slice A5 l.n c5) = W := ⟨_, rfl⟩
        have hs3 : W3.heap.size = w2.heap.size := by rw [← hW3, World.size_setCell]
        rw [hW3] at hM3 HK2 ⊢
        have HS3 := Lib.hid hs3
        have hp3 := HLI.out.crd.below hM3.bel
        have hm3 : l.m ≤ 1000000 := by omega
        clear hW3 q0 q1 q2 q3 p0 p1 p2 p3 pf0 pf1 pf2 pf3 HO5 HG5 hb2 hM2 hp1 hA5 hs3
        obtain ⟨q0, q1, q2, q3, _⟩ := lvCells hM3.box
        have HM3 := Lib.hid hM3
        clear hM3
        go_upto_region 7 with (at_builtin; refine wpList_appendInts _ rfl (.const (.slice none 0 0)) (.tmp 28) 22 rfl W3.heap.size 3 i0 Try.underlying22 hi0 hz0 hz1 hz2 none l.B 0 l.m l.e wr.heap.size 0 l.m [] l.ys rfl rfl (OwnI.nil_ _ _ _) rfl (Nat.zero_add _) hp3 hm3 (Nat.le_refl _) ?_; intro B6 c6 w4 HO6 HG6; have hb4 := below_of_none HG6; have hM4 := HM3.out.below rfl hb4; obtain ⟨p0, p1, p2, p3, pf0, pf1, pf2, pf3⟩ := lvCells hM4.box)
        have hM5 := hM4.set3 (.slice B6 l.m c6)
        obtain ⟨y, hy⟩ : ∃ y : Lv, y = ⟨l.k, l.s, A5, l.n, c5, B6, l.m, c6, l.xs, l.ys⟩ := ⟨_, rfl⟩
        have HK4 : Hid (KeepC w4 (w4.setCell ⟨wr.heap.size, 3, none⟩ (.slice B6 l.m c6))) := KeepC.of_set hM4.box (.inl rfl) rfl _
        have HK24 : Hid (KeepC w2 w4) := HK2.out.trans (KeepC.of_below hb4)
        have HYO : Hid (LvO (w4.setCell ⟨wr.heap.size, 3, none⟩ (.slice B6 l.m c6)) wr.heap.size w4.heap.size y) := by
          subst hy
          have a1 := HLO1.out
          have a2 := HM3.out.size
          have a3 := hb4.size
          have a4 := HS3.out
          refine ⟨((HO5h.out.keepC (by decide) (by decide) (HK24.out.trans HK4.out)).mono a1), ((HO6.keepC (by decide) (by decide) HK4.out).mono a2), fun b hb => ?_, fun b hb => ?_, fun b hb e => ?_, HLI.out.pos.1, HLI.out.crd.1, HLI.out.k0, HLI.out.s0, by have := hfew.1; exact this, by have := hfew.2; exact this⟩
          · have := HA5.out b hb; omega
          · obtain ⟨cur, hc, _⟩ := ownI_blk HO6 hb; exact lt_of_heap hc
          · have h1 := HA5.out b hb
            obtain ⟨cur, hc, h2⟩ := ownI_blk HO6 e
            omega
        obtain ⟨W5, hW5⟩ : ∃ W, w4.setCell ⟨wr.heap.size, 3, none⟩ (.slice B6 l.m c6) = W := ⟨_, rfl⟩
        have hs5 : W5.heap.size = w4.heap.size := by rw [← hW5, World.size_setCell]
        rw [hW5] at hM5 HYO HK4 ⊢
        rw [← hs5] at HYO
        clear hW5 q0 q1 q2 q3 p0 p1 p2 p3 pf0 pf1 pf2 pf3 HO6 HG6 hb4 hM4 hs5
        have hC5 := HC.out.mid hM5
        obtain ⟨q0, q1, q2, q3, _⟩ := lvCells hM5.box
        obtain ⟨g0, g1, g2, g3, _⟩ := lvCells hC5.box
        have HC5 := Lib.hid hC5
        have hR5 := (hM5.keep (w.heap.size + 1) (lt_of_heap HR.out)).trans HR.out
        have HR5 := Lib.hid hR5
        have hk1 : k + 1 ≤ 1000000 := by omega
        have HY := Lib.hid hy
        have HBX : Hid (∀ (A7 : Option Addr) (c7 : Nat) (w6 : World), W5.grownBy w6 (Value.slice A4 k c4).ownBlock → w6.heap[g]? = some (.cells #[.slice A1 t.n c1, .slice A2 t.fn c2, .slice A4 k c4, .slice A3 t.vn c3] 27 (0, 0)) ∧ w6.heap[w.heap.size + 1]? = some (.cells #[.slice none 0 0, .slice none 0 0, .slice none 0 0, .slice none 0 0] 27 (0, 0))) := fun A7 c7 w6 hg => ⟨HC5.out.i4.ty_kept HC5.out.box (by decide) hg, HC5.out.i4.ty_kept HR5.out (by decide) hg⟩
        have hO4 := HC5.out.i4
        have hL4 := HC5.out.len
        have hZ4 := HC5.out.bel.size
        clear hC5 hR5 hM5
        go_upto_region 8 with (at_builtin; refine wpList_appendLv rfl (.tmp 32) (.tmp 34) rfl w.heap.size A4 c4 k (k + 1) W5.heap.size ⟨l.k, l.s, A5, l.n, c5, B6, l.m, c6, l.xs, l.ys⟩ ls' rfl rfl rfl hO4 hL4 rfl hk1 hZ4 ?_; intro A7 c7 w6 HO7 HG7; obtain ⟨hbx, hrx⟩ := HBX.out A7 c7 w6 HG7; obtain ⟨p0, p1, p2, p3, pf0, pf1, pf2, pf3⟩ := lvCells hbx)
        have hstep := HC5.out.step (lo := wr.heap.size) (A7 := A7) (c7 := c7) (y := y) HC.out.fk HYO.out HL.out (by rw [HY.out]; exact ⟨rfl, rfl, rfl, rfl, rfl, rfl⟩) (by rw [HY.out]; exact HO7) HG7
        have hrr := (Below.heap_setCell w6 ⟨g, 2, none⟩ (.slice A7 (k + 1) c7) (w.heap.size + 1) (by have := HG2.out; show w.heap.size + 1 ≠ g; omega)).trans hrx
        have HST := Lib.hid hstep
        have HRR := Lib.hid hrr
        clear hstep hrr q0 q1 q2 q3 g0 g1 g2 g3 p0 p1 p2 p3 pf0 pf1 pf2 pf3 hbx hrx HO7 HG7 hO4 hL4 hy
        go_wp2_with fail
        go_roundw
        case rel => exact ⟨k + 1, A7, c7, ls' ++ [y], _, HLT.out, by go_num, HST, HRR⟩
        case measure => have := HLT.out; simp [intOf]; omega
      · obtain rfl : k = t.ln := by omega
        obtain ⟨g0, g1, g2, g3, _⟩ := lvCells HC.out.box
        obtain ⟨r0, r1, r2, r3, rf0, rf1, rf2, rf3⟩ := lvCells HR.out
        go_wp2_with fail
        have hset := set_four wr (w.heap.size + 1) _ _ _ _ (.slice A1 t.n c1) (.slice A2 t.fn c2) (.slice A4 t.ln c4) (.slice A3 t.vn c3) _ HR.out
        obtain ⟨wz, hwz⟩ : ∃ wz, ((((wr.setCell ⟨w.heap.size + 1, 0, none⟩ (.slice A1 t.n c1)).setCell ⟨w.heap.size + 1, 1, none⟩ (.slice A2 t.fn c2)).setCell ⟨w.heap.size + 1, 2, none⟩ (.slice A4 t.ln c4)).setCell ⟨w.heap.size + 1, 3, none⟩ (.slice A3 t.vn c3)) = wz := ⟨_, rfl⟩
        have hsz : wz.heap.size = wr.heap.size := by rw [← hwz]; simp
        rw [hwz] at hset ⊢
        obtain ⟨s0, s1, s2, s3, _⟩ := lvCells hset.1
        have hgne : g ≠ w.heap.size + 1 := by have := HG2.out; omega
        refine bodyPost_ret (v := (copyT t A1 c1 A2 c2 A3 c3 A4 c4 ls').val) (by simp [results, Try.results6, go_sem, s0, s1, s2, s3]) rfl ⟨g, A1, c1, A2, c2, A3, c3, A4, c4, ls', f, rfl, HC.out.other (HC.out.bel.trans (hset.2.2 _ (by have := HC.out.bel.size; omega))) ?_ ?_ ?_ ?_⟩
        · exact Nat.le_of_eq hsz.symm
        · intro b cur ty h1 h2 hb
          refine hset.2.1 b ?_
          intro e
          subst e
          rw [HR.out] at hb
          injection hb with hb
          injection hb with _ hb
          exact h2 hb.symm
        · exact hset.2.1 g hgne
        · intro b hb
          exact hset.2.1 b (ownV_off HC.out.i4 HR.out (by decide) b hb)
end Go.Proofs.Yteepiifhmbcciaa
