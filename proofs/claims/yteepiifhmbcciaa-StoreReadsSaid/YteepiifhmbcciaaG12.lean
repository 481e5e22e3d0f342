/- store.Read's closure: all entries below a node, in order. -/
import Derived.Test.YteepiifhmbcciaaG11
import Derived.Test.YteepiifhmbcciaaG1
import Derived.Deep.RegionLaw
import Derived.Below
import Derived.StillTail
namespace Go.Proofs.Yteepiifhmbcciaa
open Go.RowKit Go.Sort

/-- a number of a place fits -/
theorem InvC.fits {xs : List Int} {fs : List Sp} {k : Nat} {c : List Int} (h : InvC xs fs k c) (hx : ∀ x ∈ xs, -9223372036854775808 ≤ x ∧ x ≤ 9223372036854775807) : ∀ z ∈ c, -9223372036854775808 ≤ z ∧ z ≤ 9223372036854775807 := by
  intro z hz
  obtain ⟨m, hm⟩ := List.mem_iff_getElem?.1 hz
  have hml : m < xs.length := by have := (List.getElem?_eq_some_iff.1 hm).1; rw [h.len] at this; exact this
  have hzv : c.getD m 0 = z := by rw [List.getD_eq_getElem?_getD, hm]; rfl
  by_cases h0 : cntS (fs.take k) m = 0
  · have := h.none_ m hml h0
    omega
  · have := h.in_ m hml h0
    have hb := hx _ (List.getElem_mem hml)
    have hx2 : xs.getD m 0 ≤ 9223372036854775807 := by rw [List.getD_eq_getElem?_getD, List.getElem?_eq_getElem hml]; exact hb.2
    omega
theorem set_getD {c : List Int} {m : Nat} (h : m < c.length) : c.set m (c.getD m 0) = c := by
  apply List.ext_getElem?
  intro i
  by_cases e : i = m
  · subst e
    rw [List.getElem?_set_self h, List.getElem?_eq_getElem h, List.getD_eq_getElem?_getD, List.getElem?_eq_getElem h]; rfl
  · rw [List.getElem?_set_ne (by omega)]
theorem mul_in {a s x : Int} (h0 : 0 ≤ a * s) (h1 : a * s + s ≤ x) (hs : 1 ≤ s) (hx : x ≤ 9223372036854775807) : -9223372036854775808 ≤ a * s ∧ a * s ≤ 9223372036854775807 := by omega
/-- a number is written into the place -/
theorem RB.Dyn.put {b : RB} {t : Ten} {w : World} {c : List Int} {Ts : List Ent} {A3 : Option Addr} {c3 : Nat} (h : b.Dyn t w c Ts A3 c3) (hF : b.Fix t w) (m : Nat) (v : Int) : b.Dyn t (w.setCell ⟨b.gc, m, none⟩ (.int .i64 v)) (c.set m v) Ts A3 c3 := by
  have ho := hF.o1
  have hn := hF.o2
  refine ⟨by rw [vblk_set h.cur, stC_set], (Below.heap_setCell _ _ _ _ (by show b.bx ≠ b.gc; omega)).trans h.box, ?_, fun x hx => ⟨⟨ownsRow_setCell_below (h.pl x hx).1.1 (by show b.gc < b.B1; omega) _, (h.pl x hx).1.2⟩, (h.pl x hx).2⟩⟩
  exact World.ownsRow.kept h.own (grownBy_setE (grown_same w b.gc) _ _) (rows_ne h.own h.cur (by decide))
/-- what is known at a node -/
structure Node (b : RB) (t : Ten) (k p : Nat) (w : World) (Ts : List Ent) (A3 : Option Addr) (c3 : Nat) : Prop where
  fix : b.Fix t w
  dyn : b.Dyn t w (cN t.n t.fs t.ls k p) Ts A3 c3
  keys : Ts.map keyE = entK t (loN (t.ls.drop k) p)
def DownAt (b : RB) (t : Ten) (k : Nat) : Prop := ∀ (p : Nat) (w : World) (Ts : List Ent) (A3 : Option Addr) (c3 : Nat), p < ahN t.ls k → Node b t k p w Ts A3 c3 →
  Calls Try.prog 36 #[.int .i64 (k : Int), .int .i64 (p : Int), .pointer (some ⟨b.bt, 0, none⟩), .pointer (some ⟨b.bx, 0, none⟩), .pointer (some ⟨b.bc, 0, none⟩), .pointer (some ⟨b.bs, 0, none⟩), .pointer (some ⟨b.bd, 0, none⟩)] w (DownPost b t (cN t.n t.fs t.ls k p) (loN (t.ls.drop k) (p + 1)) w)
theorem down_last (b : RB) (t : Ten) (hT : Tok t.xs t.fs t.ls) (hv : t.vn = ahN t.ls t.ln) : DownAt b t t.ln := by
  intro p w Ts A3 c3 hp hN
  have hl := hN.fix.ten.lvs.1
  have hx := hN.fix.ten.shape
  have hinv := invC_node hT t.ln (by omega) p hp
  rw [hx.1] at hinv
  have hk := hN.keys
  rw [List.drop_of_length_le (by omega)] at hk ⊢
  exact down_leaf b t p w _ Ts A3 c3 hN.fix hN.dyn (by omega) rfl (cN_length _ _ _ _ _) (hinv.fits hx.2.1) hk
set_option maxRecDepth 100000 in
set_option maxHeartbeats 8000000 in
theorem down_node (b : RB) (t : Ten) (hT : Tok t.xs t.fs t.ls) (k : Nat) (hk : k < t.ln) (ih : DownAt b t (k + 1)) : DownAt b t k := by
  intro p w Ts A3 c3 hp hN
  have hF := hN.fix
  have hLn := hF.ten.lvs.1
  have hFn : t.fs.length = t.fn := hF.ten.form.1
  have hfl : k < t.fn := by have := hT.of.1; omega
  obtain ⟨bl, ol, l, hLA, hbl, HL, d0, d1, d2, d3, li⟩ := hF.ten.lvs.at_ hk
  obtain ⟨bf, of, f, hFA, hbf, HFk, e0, e1, e2, fo⟩ := hF.ten.form.at_ hfl
  have hl := HL.out
  have hf := HFk.out
  have hLok := hT.lok hl
  obtain ⟨m, hm, hmx⟩ := hT.mode hf
  have hXn : t.xs.length = t.n := hF.ten.shape.1
  have hmn : m < t.n := by omega
  have hcl : (cN t.n t.fs t.ls k p).length = t.n := cN_length _ _ _ _ _
  have hinv := invC_node hT k (by omega) p hp
  rw [hXn] at hinv
  -- numbers
  have hr := fun (n : Nat) (hn : n < totN l.k l.s l.ys (ahN t.ls k)) => hT.range hl hf hn hinv
  rw [hm, Int.toNat_natCast] at hr
  obtain ⟨c, hc⟩ : ∃ c, cN t.n t.fs t.ls k p = c := ⟨_, rfl⟩
  have hsucc : ∀ n, offN l.k l.s l.xs p ≤ n → n < offN l.k l.s l.xs (p + 1) → cN t.n t.fs t.ls (k + 1) n = c.set m (c.getD m 0 + atN l.k l.s l.ys n * stAt t.fs k) := fun n h1 h2 => by
    rw [cN_succ hl hf, parN_eq hLok hp h1 h2, hc, hm, Int.toNat_natCast]; rfl
  rw [hc] at hr hcl
  have hst : (stepK t.fs t.fn)[k]? = some (stAt t.fs k) := by
    unfold stAt
    rw [← hFn, List.getD_eq_getElem?_getD, List.getElem?_eq_getElem (by rw [stepK_length]; omega)]; rfl
  have hx63 : t.xs.getD m 0 ≤ 9223372036854775807 := by rw [List.getD_eq_getElem?_getD, List.getElem?_eq_getElem hmx]; exact (hF.ten.shape.2.1 _ (List.getElem_mem hmx)).2
  have hbase : c[m]? = some (c.getD m 0) := by rw [List.getD_eq_getElem?_getD, List.getElem?_eq_getElem (by omega)]; rfl
  obtain ⟨S, hS⟩ : ∃ S, stAt t.fs k = S := ⟨_, rfl⟩
  obtain ⟨V, hV⟩ : ∃ V, c.getD m 0 = V := ⟨_, rfl⟩
  rw [hS, hV] at hr
  simp only [hS, hV] at hsucc
  rw [hS] at hst
  rw [hV] at hbase
  have hlen2 : (c.set m V) = c := by rw [← hV]; exact set_getD (by omega)
  obtain ⟨fst, hfst⟩ : ∃ q, offN l.k l.s l.xs p = q := ⟨_, rfl⟩
  obtain ⟨lst, hlst⟩ : ∃ q, offN l.k l.s l.xs (p + 1) = q := ⟨_, rfl⟩
  have hfl2 : fst ≤ lst := by rw [← hfst, ← hlst]; exact hLok.step p hp
  have htot : lst ≤ totN l.k l.s l.ys (ahN t.ls k) := by rw [← hlst]; exact hLok.le_tot (by omega)
  have htot2 := hLok.tot
  have hlb : lst ≤ 1048576 := Nat.le_trans htot htot2
  have hlo1 := loN_drop hl p
  have hlo2 := loN_drop hl (p + 1)
  rw [hfst] at hlo1
  rw [hlst] at hlo2
  simp only [hfst, hlst] at hsucc
  have hdyn := hN.dyn
  rw [hc] at hdyn
  have hkeys := hN.keys
  rw [hlo1] at hkeys
  rw [hc, hlo2]
  have hah := hLok.ahead
  obtain ⟨f0, f1, f2, f3, _⟩ := lvCells hF.st
  rw [hFA] at f1
  rw [hLA] at f2
  have ek : ((k : Int) == (t.ln : Int)) = false := by simp; omega
  have hlnc := hF.ten.lc
  have hfnc := hF.ten.fc
  have hln1 := hF.ten.l1
  have hfn1 := hF.ten.f1
  have hn1 := hF.ten.n1
  have gk0 : (0 : Int) ≤ (k : Int) := by omega
  have gk1 : (k : Int) < (t.ln : Int) := by omega
  have gk2 : (k : Int) < (t.fn : Int) := by omega
  rw [hm] at e1
  have HDY := Lib.hid hdyn
  have HST := Lib.hid hst
  have HBA := Lib.hid hbase
  have HSU := Lib.hid hsucc
  have HRA := Lib.hid hr
  have HKE := Lib.hid hkeys
  have HC2 := Lib.hid hlen2
  have HLK := Lib.hid hLok
  have HLI := Lib.hid li
  have HIH := Lib.hid ih
  have HOO := Lib.hid hF.o1
  have HLX := Lib.hid (And.intro hfst hlst)
  have HCL := Lib.hid hcl
  have HTN := Lib.hid (And.intro hl hf)
  have HHF := Lib.hid hF
  clear ih hst hbase hsucc hr hkeys hlen2 hLok li hN hF hdyn hlo1 hlo2 hfst hlst hc hcl hl hf hLA hFA hm hS hV hinv hXn hFn hLn HL HFk htot2 fo hT
  go_enter Try.func36, Try.ntmps36
  go_wp2_with fail
  have qf1 := fun o => cellPast o f1
  have qe1 := fun o => cellPast o e1
  have qf2 := fun o => cellPast o f2
  have qd0 := fun o => cellPast o d0
  have qd1 := fun o => cellPast o d1
  have qd2 := fun o => cellPast o d2
  have qd3 := fun o => cellPast o d3
  go_region
  obtain ⟨wl, hwl⟩ : ∃ W, (w.alloc (lvO l.k l.s l.A l.n l.c l.B l.m l.e)).drew = W := ⟨_, rfl⟩
  rw [hwl]
  have hz : Below w.heap.size w wl := by rw [← hwl]; exact (lvBelow w _).drew
  have hnl : wl.heap[w.heap.size]? = some (lvO l.k l.s l.A l.n l.c l.B l.m l.e) := by rw [← hwl]; exact heap_alloc_new _ _
  have hFl := HHF.out.below hz
  have hDl := HDY.out.below hz
  have HBl : Hid (Below b.B0 w wl) := hz.mono (by have := HHF.out.o1; omega)
  have HKl : Hid (KeepF b.bx b.gc w wl) := KeepF.of_below hz
  obtain ⟨v0, _⟩ := blk_cell (i := 0) hFl.sc rfl
  obtain ⟨v1, _⟩ := vblk_cell hDl.cur (i := m) (v := .int .i64 V) (by unfold stC; rw [List.getElem?_map, HBA.out]; rfl)
  obtain ⟨q0, q1, q2, q3, _⟩ := lvCells hnl
  have HSPN := st_span_ok l.k l.s l.A l.B l.n l.c l.m l.e p (ahN t.ls k) l.xs l.ys wl ((HLI.out.below HBl.out).more (by have := HHF.out.o1; have := hz.size; omega)).pos HLK.out hp
  rw [HLX.out.1, HLX.out.2] at HSPN
  have HFl := Lib.hid hFl
  have HDl := Lib.hid hDl
  have HNl := Lib.hid hnl
  have gm0 : (0 : Int) ≤ (m : Int) := by omega
  have gm1 : (m : Int) < (t.n : Int) := by omega
  have hszl : w.heap.size < wl.heap.size := lt_of_heap hnl
  clear hwl hFl hDl hnl qf1 qe1 qf2 qd0 qd1 qd2 qd3 f0 f1 f2 f3 d0 d1 d2 d3 e0 e1 e2
  go_wp2_with (go_at_call 37; refine HSPN.mono ?_; rintro e w3 ⟨rfl, hb3⟩; have HB3 := Lib.hid hb3; clear hb3)
  clear v0 v1 q0 q1 q2 q3 HSPN
  have HF3 := Lib.hid (HFl.out.below HB3.out)
  have HD3 := Lib.hid (HDl.out.below HB3.out)
  have HN3 := Lib.hid (oKeep HB3.out HNl.out)
  have HW3 : Hid (Below b.B0 w w3) := HBl.out.trans (HB3.out.mono (by have := HHF.out.o1; omega))
  have HK3 : Hid (KeepF b.bx b.gc w w3) := HKl.out.trans (KeepF.of_below HB3.out)
  have HNE : Hid (w.heap.size ≠ b.bx ∧ w.heap.size ≠ b.gc) := by have := HHF.out.o1; unfold Hid; omega
  obtain ⟨wo, rfl⟩ : ∃ wo : World, wo = w3 := ⟨_, rfl⟩
  go_loopw [14] (fun i wr => ∃ (n : Nat) (c' : List Int) (Ts' : List Ent) (A' : Option Addr) (c3' : Nat), fst ≤ n ∧ n ≤ lst ∧ i = .int .i64 n ∧ Hid (b.Dyn t wr c' Ts' A' c3') ∧ Hid (∃ v, c' = c.set m v) ∧ Hid (Ts'.map keyE = entK t (loN (t.ls.drop (k + 1)) n)) ∧ Hid (Below b.B0 wo wr) ∧ Hid (KeepF b.bx b.gc wo wr)) (fun i _ => lst - (intOf i).toNat)
  case atStart => exact ⟨fst, c, Ts, A3, c3, Nat.le_refl _, hfl2, rfl, HD3, ⟨V, HC2.out.symm⟩, HKE, Below.refl _ _, KeepF.refl _ _ _⟩
  case round =>
    obtain ⟨n, c', Ts', A', c3', hn1, hn2, rfl, HD, HCV, HKY, HB, HK⟩ := hrel
    have HFr := Lib.hid (HF3.out.keep HB.out HK.out)
    have HNr : Hid (wr.heap[w.heap.size]? = some (lvO l.k l.s l.A l.n l.c l.B l.m l.e)) := HK.out.2 _ _ _ HN3.out (by decide) HNE.out.1 HNE.out.2
    have HMC : Hid (m < c'.length) := by obtain ⟨v, hv⟩ := HCV.out; unfold Hid; rw [hv, List.length_set, HCL.out]; exact hmn
    by_cases hlt : n < lst
    · obtain ⟨r1, r2, r3, r4, _, _⟩ := HRA.out n (by omega)
      obtain ⟨a, ha⟩ : ∃ a, atN l.k l.s l.ys n = a := ⟨_, rfl⟩
      have hsn := HSU.out n hn1 hlt
      rw [ha] at r1 r3 hsn
      have HWO := HW3.out
      have hB0r : b.B0 ≤ wr.heap.size := by have := HFr.out.o1; omega
      have HPL : Hid (∀ W, Below wr.heap.size wr W → Calls Try.prog 38 #[lvV l.k l.s l.A l.n l.c l.B l.m l.e, .int .i64 n] W fun e w' => e = .returned (.int .i64 a) ∧ Below W.heap.size W w') := by
        intro W hW
        have hIW := (HLI.out.below (HWO.trans (HB.out.trans (hW.mono hB0r)))).more (show b.B0 ≤ W.heap.size by have := hW.size; omega)
        have := st_place_ok l.k l.s l.A l.B l.n l.c l.m l.e n (ahN t.ls k) l.xs l.ys W hIW.crd HLK.out (by omega)
        rw [ha] at this
        exact this
      obtain ⟨vm, hvm⟩ : ∃ v, (stC c')[m]? = some v := ⟨_, List.getElem?_eq_getElem (by unfold stC; rw [List.length_map]; exact HMC.out)⟩
      have HVM := Lib.hid hvm
      have HSS : Hid (∀ W, Below wr.heap.size wr W → b.Fix t W ∧ b.Dyn t W c' Ts' A' c3' ∧ W.cell? ⟨b.bc, 0, none⟩ = some (.slice (some ⟨b.gc, 0, none⟩) t.n t.n) ∧ W.cell? ⟨b.bs, 0, none⟩ = some (.slice (some ⟨b.gs, 0, none⟩) t.fn t.fn) ∧ W.cell? ⟨b.gs, k, none⟩ = some (.int .i64 S) ∧ W.cell? ⟨b.gc, m, none⟩ = some vm ∧ W.frozen? ⟨b.gc, m, none⟩ = false ∧ W.heap[w.heap.size]? = some (lvO l.k l.s l.A l.n l.c l.B l.m l.e)) := by
        intro W hW
        have h1 := HFr.out.below hW
        have h2 := HD.out.below hW
        obtain ⟨z1, z2⟩ := vblk_cell h2.cur HVM.out
        exact ⟨h1, h2, (blk_cell (i := 0) h1.sc rfl).1, (blk_cell (i := 0) h1.ss rfl).1, (vblk_cell h1.sg (by unfold stC; rw [List.getElem?_map, HST.out]; rfl)).1, z1, z2, (hW.block _ (lt_of_heap HNr.out)).trans HNr.out⟩
      obtain ⟨_, _, u1, u2, u3, u4, u5, u6⟩ := HSS.out wr (Below.refl _ _)
      obtain ⟨q0, q1, q2, q3, _⟩ := lvCells u6
      have HSN := Lib.hid hsn
      have HR := Lib.hid (And.intro r1 (And.intro r2 (And.intro r3 r4)))
      obtain ⟨hw1, hw2⟩ : IntKind.i64.wrap (a * S) = a * S ∧ IntKind.i64.wrap (V + a * S) = V + a * S := ⟨IntWalk.i64_in _ (by omega), IntWalk.i64_in _ (by omega)⟩
      clear r1 r2 r3 r4 hsn ha hvm u6 HWO
      go_wp2_with fail
      have cP := fun d os => Calls.regrown_of (HPL.out (grow (redrawn wr d) os) (below_regrown wr d os))
      have x1 := cell_regrown u1
      have x2 := cell_regrown u2
      have x3 := cell_regrown u3
      have x4 := cell_regrown q0
      have x5 := cell_regrown q1
      have x6 := cell_regrown q2
      have x7 := cell_regrown q3
      have hmx : Try.prog.follows .mixedOrders = true := by kernel_rfl
      refine wp_region_below_tail 13 hmx (by kernel_rfl) ?_
      simp only [List.take_succ_cons, List.take_zero, List.drop_succ_cons, List.drop_zero]
      repeat (quiet_step ((go_at_call 38; with_reducible exact cP _ _)))
      refine wpQuiet_nil ?_
      intro _ hw'
      obtain ⟨⟨dq, osq⟩, hw''⟩ := hw'
      subst hw''
      obtain ⟨w5, hw5⟩ : ∃ w5, grow (redrawn wr dq) osq = w5 := ⟨_, rfl⟩
      have hb5 := below_regrown wr dq osq
      rw [hw5] at hb5 ⊢
      obtain ⟨h5F, h5D, y1, y2, y3, y4, y5, _⟩ := HSS.out _ hb5
      have H5F := Lib.hid h5F
      have H5D := Lib.hid h5D
      have HW5 := Lib.hid hb5
      clear x1 x2 x3 x4 x5 x6 x7 cP u1 u2 u3 u4 u5 q0 q1 q2 q3 hw5 hb5 h5F h5D
      have h6D := H5D.out.put H5F.out m (V + a * S)
      have h6F := H5F.out.keep ((Below.refl b.B0 w5).setCell (p := ⟨b.gc, m, none⟩) HOO.out.1 (.int .i64 (V + a * S))) (KeepF.of_set (.inr rfl) _)
      have hcc : c'.set m (V + a * S) = cN t.n t.fs t.ls (k + 1) n := by
        obtain ⟨v, hv⟩ := HCV.out
        rw [HSN.out, hv, List.set_set]
      rw [hcc] at h6D
      have y6 : w5.cell? ⟨b.bd, 0, none⟩ = some (.func (.func 36) #[] #[.pointer (some ⟨b.bt, 0, none⟩), .pointer (some ⟨b.bx, 0, none⟩), .pointer (some ⟨b.bc, 0, none⟩), .pointer (some ⟨b.bs, 0, none⟩), .pointer (some ⟨b.bd, 0, none⟩)]) := (blk_cell (i := 0) H5F.out.sd rfl).1
      have y7 : (w5.setCell ⟨b.gc, m, none⟩ (.int .i64 (V + a * S))).cell? ⟨b.bd, 0, none⟩ = some (.func (.func 36) #[] #[.pointer (some ⟨b.bt, 0, none⟩), .pointer (some ⟨b.bx, 0, none⟩), .pointer (some ⟨b.bc, 0, none⟩), .pointer (some ⟨b.bs, 0, none⟩), .pointer (some ⟨b.bd, 0, none⟩)]) := (blk_cell (i := 0) h6F.sd rfl).1
      have hIH := HIH.out n _ Ts' A' c3' (by rw [ahN_succ HTN.out.1]; omega) ⟨h6F, h6D, HKY.out⟩
      rw [show ((k + 1 : Nat) : Int) = (k : Int) + 1 by omega] at hIH
      have HC6 : Hid (Below b.B0 wo (w5.setCell ⟨b.gc, m, none⟩ (.int .i64 (V + a * S))) ∧ KeepF b.bx b.gc wo (w5.setCell ⟨b.gc, m, none⟩ (.int .i64 (V + a * S)))) := ⟨(HB.out.trans (HW5.out.mono hB0r)).setCell (p := ⟨b.gc, m, none⟩) HOO.out.1 _, (HK.out.trans (KeepF.of_below HW5.out)).trans (KeepF.of_set (.inr rfl) _)⟩
      have HLT : Hid (n + 1 ≤ lst) := hlt
      clear h6D h6F hcc
      go_wp2_with (go_at_call 36; (with_reducible refine hIH.mono ?_); rintro e w7 ⟨rfl, Ts2, A2, c2, hD2, hK2, hB2, hKF2⟩; have HD2 := Lib.hid hD2; have HK2 := Lib.hid hK2; have HB2 := Lib.hid hB2; have HKF2 := Lib.hid hKF2; clear hD2 hK2 hB2 hKF2)
      go_roundw
      case rel => exact ⟨n + 1, _, Ts2, A2, c2, by omega, HLT.out, by go_num, HD2, ⟨_, HSN.out⟩, HK2, HC6.out.1.trans HB2.out, HC6.out.2.trans HKF2.out⟩
      case measure => have := HLT.out; simp [intOf]; omega
    · obtain rfl : n = lst := by omega
      have hh5 := HD.out.put HFr.out m V
      have hcc : c'.set m V = c := by
        obtain ⟨v, hv⟩ := HCV.out
        rw [hv, List.set_set, HC2.out]
      rw [hcc] at hh5
      have HE5 := Lib.hid hh5
      obtain ⟨vm, hvm⟩ : ∃ v, (stC c')[m]? = some v := ⟨_, List.getElem?_eq_getElem (by unfold stC; rw [List.length_map]; exact HMC.out)⟩
      obtain ⟨z1, z2⟩ := vblk_cell HD.out.cur hvm
      obtain ⟨z3, _⟩ := blk_cell (i := 0) HFr.out.sc rfl
      have HCE : Hid (Below b.B0 w (wr.setCell ⟨b.gc, m, none⟩ (.int .i64 V)) ∧ KeepF b.bx b.gc w (wr.setCell ⟨b.gc, m, none⟩ (.int .i64 V))) := ⟨(HW3.out.trans HB.out).setCell (p := ⟨b.gc, m, none⟩) HOO.out.1 _, (HK3.out.trans HK.out).trans (KeepF.of_set (.inr rfl) _)⟩
      clear hh5 hcc hvm
      go_wp2_with fail
      go_end0
      exact ⟨rfl, Ts', A', c3', HE5.out, HKY.out, HCE.out.1, HCE.out.2⟩
end Go.Proofs.Yteepiifhmbcciaa
/- Operations in a region that draws its order, each of which leaves a world of which only what is needed is said. -/
namespace Go.Proofs.Yteepiifhmbcciaa
open Go.RowKit

theorem step_run {P : Program} {ops : Array Oper} {o : Oper} {a : Act} {w w' : World} {v : Value} {K : Act → World → Prop} {Q : Exit → Act → World → Prop} {E : Prop}
    (hg : o.guard = none) (hrun : (execOp a.eval o).run P w = .ok (.value v) w') (hK : K (a.put o.dst v) w') : if Region.wanted o (yielded ops a.tmps) = true then Oper.wp P o a w K Q else E := by
  have hw : Region.wanted o (yielded ops a.tmps) = true := by simp [Region.wanted, hg]
  rw [if_pos hw]
  unfold Oper.wp
  rw [hrun]
  exact hK
/-- a variable whose address is taken, of slices of numbers -/
theorem step_box {ops : Array Oper} {o : Oper} {a : Act} {w : World} {K : Act → World → Prop} {Q : Exit → Act → World → Prop} {E : Prop}
    (hg : o.guard = none) (hop : o.op = .alloc 22)
    (hK : ∀ w' g, g = w.heap.size → Below w.heap.size w w' → w'.heap[g]? = some (.cells #[.slice none 0 0] 22 (0, 0)) → K (a.put o.dst (.pointer (some ⟨g, 0, none⟩))) w') :
    if Region.wanted o (yielded ops a.tmps) = true then Oper.wp Try.prog o a w K Q else E := by
  refine step_run (w' := w.alloc (.cells #[.slice none 0 0] 22)) (v := .pointer (some ⟨w.heap.size, 0, none⟩)) hg ?_ (hK _ _ rfl ((Below.refl _ w).alloc (Nat.le_refl _) _) (heap_alloc_new w _))
  simp [execOp, hop, go_sem]
theorem step_make {ops : Array Oper} {o : Oper} {a : Act} {w : World} {K : Act → World → Prop} {Q : Exit → Act → World → Prop} {E : Prop}
    (hg : o.guard = none) (x : Operand) (n : Nat) (hop : o.op = .makeSlice 22 x x) (hx : a.eval x = .int .i64 (n : Int)) (hn : n ≤ 100000)
    (hK : ∀ w' g, g = w.heap.size → Below w.heap.size w w' → w'.heap[g]? = some (.cells (List.replicate n (.int .i64 0)).toArray 3 (0, 0)) → K (a.put o.dst (.slice (some ⟨g, 0, none⟩) n n)) w') :
    if Region.wanted o (yielded ops a.tmps) = true then Oper.wp Try.prog o a w K Q else E := by
  refine step_run (w' := w.alloc (.cells (List.replicate n (.int .i64 0)).toArray 3)) (v := .slice (some ⟨w.heap.size, 0, none⟩) n n) hg ?_ (hK _ _ rfl ((Below.refl _ w).alloc (Nat.le_refl _) _) (heap_alloc_new w _))
  simp [execOp, hop, hx, vrun_make n hn, Result.andThen]
theorem run_store1 (ρ : Operand → Value) {o : Oper} {w : World} (p x : Operand) (hop : o.op = .store 22 p x) (g : Nat) (hp : ρ p = .pointer (some ⟨g, 0, none⟩)) (u : Value) (hb : w.heap[g]? = some (.cells #[u] 22 (0, 0)))
    (A : Option Addr) (n c : Nat) (hx : ρ x = .slice A n c) : (execOp ρ o).run Try.prog w = .ok .skip (w.setCell ⟨g, 0, none⟩ (.slice A n c)) := by
  obtain ⟨h1, h2⟩ := boxCell hb
  simp [execOp, hop, hp, hx, go_sem, h1, h2]
theorem step_store1 {ops : Array Oper} {o : Oper} {a : Act} {w : World} {K : Act → World → Prop} {Q : Exit → Act → World → Prop} {E : Prop}
    (hg : o.guard = none) (p x : Operand) (hop : o.op = .store 22 p x) (g : Nat) (hp : a.eval p = .pointer (some ⟨g, 0, none⟩)) (u : Value) (hb : w.heap[g]? = some (.cells #[u] 22 (0, 0)))
    (A : Option Addr) (n c : Nat) (hx : a.eval x = .slice A n c)
    (hK : ∀ w', w'.heap[g]? = some (.cells #[.slice A n c] 22 (0, 0)) → (∀ B, B ≤ g → Below B w w') → (∀ k, k ≠ g → w'.heap[k]? = w.heap[k]?) → K (a.put o.dst undef) w') :
    if Region.wanted o (yielded ops a.tmps) = true then Oper.wp Try.prog o a w K Q else E := by
  have hw : Region.wanted o (yielded ops a.tmps) = true := by simp [Region.wanted, hg]
  rw [if_pos hw]
  have hk := hK (w.setCell ⟨g, 0, none⟩ (.slice A n c)) (by rw [heap_setCell_same _ _ _ _ _ _ hb]; simp) (fun B hB => (Below.refl B w).setCell (p := ⟨g, 0, none⟩) hB _) (fun k hk => Below.heap_setCell _ _ _ _ hk)
  unfold Oper.wp
  rw [run_store1 a.eval p x hop g hp u hb A n c hx]
  exact hk
theorem keep_ty {w w' : World} {g k : Nat} {cs cs' : Array Value} {t t' : TypeId} (h : ∀ k, k ≠ g → w'.heap[k]? = w.heap[k]?) (hg : w.heap[g]? = some (.cells cs t (0, 0))) (hk : w.heap[k]? = some (.cells cs' t' (0, 0))) (hne : t' ≠ t) : w'.heap[k]? = some (.cells cs' t' (0, 0)) := by
  refine (h k ?_).trans hk
  rintro rfl
  rw [hg] at hk
  injection hk with hk
  injection hk with _ hk
  exact hne hk.symm
end Go.Proofs.Yteepiifhmbcciaa
/- A region of code that draws its order of evaluation, by an invariant: what holds whichever operations have come up. Nothing is claimed of the program here. -/
namespace Go.Proofs.Yteepiifhmbcciaa
open Go.RowKit

section
variable {P : Program} {ops : Array Oper} {md : Region.Mode} {Q : Exit → Act → World → Prop}
def unl (n : Nat) (listed : Array Bool) : Nat := (List.range n).countP fun i => listed.getD i true == false
theorem unl_set {n i : Nat} {listed : Array Bool} (hi : listed.getD i true = false) (hn : i < n) : unl n (listed.setIfInBounds i true) + 1 ≤ unl n listed := by
  unfold unl
  have hne : ∀ j, j ≠ i → (listed.setIfInBounds i true).getD j true = listed.getD j true := fun j hj => getD_set_ne true (Ne.symm hj)
  have hsz : i < listed.size := by
    rcases Nat.lt_or_ge i listed.size with h | h
    · exact h
    · simp [Array.getElem?_eq_none h] at hi
  have heq : (listed.setIfInBounds i true).getD i true = true := by simp [hsz]
  have key : ∀ m, (List.range m).countP (fun j => (listed.setIfInBounds i true).getD j true == false) + (if i < m then 1 else 0) = (List.range m).countP (fun j => listed.getD j true == false) := by
    intro m
    induction m with
    | zero => simp
    | succ m ih =>
      rw [List.range_succ, List.countP_append, List.countP_append]
      simp only [List.countP_singleton]
      by_cases hm : m = i
      · subst hm
        have e1 : ¬ m < m := Nat.lt_irrefl m
        have e2 : m < m + 1 := Nat.lt_succ_self m
        rw [heq, hi]
        simp only [e1, e2, if_true, if_false] at ih ⊢
        simp at ih ⊢
        omega
      · rw [hne m hm]
        by_cases hl : i < m
        · have e2 : i < m + 1 := by omega
          simp only [hl, e2, if_true] at ih ⊢
          omega
        · have e2 : ¬ i < m + 1 := by omega
          simp only [hl, e2, if_false] at ih ⊢
          omega
  have := key n
  rw [if_pos hn] at this
  omega
theorem wpAny_inv {I : Array Bool → Act → World → Prop} (hend : ∀ listed a w, I listed a w → (∀ i, i < ops.size → listed.getD i false = true) → Q .normal a w)
    (hacyc : ∀ listed : Array Bool, Region.ready md ops listed = [] → ∀ i, i < ops.size → listed.getD i true = true)
    (hstep : ∀ listed a w i, I listed a w → i ∈ Region.ready md ops listed → wpOp P ops Q i (fun a' w' => I (listed.setIfInBounds i true) a' w') a w) (fuel : Nat) :
    ∀ (listed : Array Bool) (a : Act) (w : World), listed.size = ops.size → unl ops.size listed ≤ fuel → I listed a w → wpAny P md ops Q fuel listed a w := by
  have hin : ∀ listed : Array Bool, listed.size = ops.size → Region.ready md ops listed = [] → ∀ i, i < ops.size → listed.getD i false = true := fun listed hs hr i hi => by
    have h1 := hacyc listed hr i hi
    have h2 : i < listed.size := by omega
    simp [h2] at h1 ⊢
    exact h1
  induction fuel with
  | zero =>
    intro listed a w hs hf hI
    have hr : Region.ready md ops listed = [] := by
      rw [List.eq_nil_iff_forall_not_mem]
      intro i hi
      obtain ⟨hun, o, ho, _⟩ := mem_ready.1 hi
      have := unl_set hun (Array.getElem?_eq_some_iff.1 ho).1
      omega
    exact ⟨hr, hend _ _ _ hI (hin _ hs hr)⟩
  | succ f ih =>
    intro listed a w hs hf hI
    refine ⟨fun hr => hend _ _ _ hI (hin _ hs hr), fun i hi => ?_⟩
    obtain ⟨hun, o, ho, _⟩ := mem_ready.1 hi
    have := unl_set hun (Array.getElem?_eq_some_iff.1 ho).1
    exact wpOp_mono (fun a' w' h' => ih _ a' w' (by simpa using hs) (by omega) h') (hstep _ _ _ _ hI hi)
/-- each operation waits for such ahead of it alone -/
def upB (ops : Array Oper) : Bool := (List.range ops.size).all fun i => match ops[i]? with
  | some o => o.after.all fun e => decide (e.on < i)
  | none => true
theorem acyc_of (h : upB ops = true) (listed : Array Bool) (hr : Region.ready md ops listed = []) : ∀ i, i < ops.size → listed.getD i true = true := by
  intro i
  induction i using Nat.strongRecOn with
  | _ i ih =>
    intro hi
    cases hl : listed.getD i true with
    | true => rfl
    | false =>
      exfalso
      obtain ⟨o, ho⟩ : ∃ o, ops[i]? = some o := ⟨_, Array.getElem?_eq_getElem hi⟩
      have h1 := List.all_eq_true.1 h i (List.mem_range.2 hi)
      rw [ho] at h1
      simp only at h1
      have hm : i ∈ Region.ready md ops listed := by
        refine mem_ready.2 ⟨hl, o, ho, fun e he _ => ?_⟩
        have h2 := Array.all_eq_true'.1 h1 e he
        have hlt : e.on < i := by simpa using h2
        have h3 := ih e.on hlt (by omega)
        -- listed up to i, as i is not listed
        have hs : i < listed.size := by
          rcases Nat.lt_or_ge i listed.size with h | h
          · exact h
          · simp [Array.getElem?_eq_none h] at hl
        have hs2 : e.on < listed.size := by omega
        simp [hs2] at h3 ⊢
        exact h3
      rw [hr] at hm
      cases hm
theorem wp_region_inv {id : Nat} {a : Act} {w : World} {l : List Oper} (I : Act → Array Bool → Act → World → Prop) (hm : P.follows .mixedOrders = true) (hup : upB l.toArray = true)
    (h0 : I a (Array.replicate l.toArray.size false) a w.drew) (hend : ∀ listed a' w', I a listed a' w' → (∀ i, i < l.toArray.size → listed.getD i false = true) → Q .normal a' w')
    (hstep : ∀ listed a' w' i, I a listed a' w' → i ∈ Region.ready .any l.toArray listed → wpOp P l.toArray Q i (fun a'' w'' => I a (listed.setIfInBounds i true) a'' w'') a' w') : (Code.region id l.toArray true).wp P Q a w := by
  refine wp_region_any hm (wpAny_inv hend (fun listed hr => acyc_of hup listed hr) hstep _ _ _ _ (by simp) ?_ h0)
  unfold unl
  exact Nat.le_trans List.countP_le_length (by simp)
/-- one operation, what follows behind a variable -/
theorem wpOp_of {i : Nat} {a : Act} {w : World} {o : Oper} {I : Act → World → Prop} (ho : ops[i]? = some o) (h : ∀ K : Act → World → Prop, (∀ a w, I a w → K a w) → if Region.wanted o (yielded ops a.tmps) = true then Oper.wp P o a w K Q else K (a.put o.dst undef) w) : wpOp P ops Q i I a w := by
  have h := h I (fun _ _ h => h)
  unfold wpOp
  rw [ho]
  simp only
  split
  · next hw => rw [if_pos hw] at h; exact .inl h
  · next hw => rw [if_neg hw] at h; exact h
/-- an operation that comes up has behind it what it waits for -/
theorem ready_at {i : Nat} {listed : Array Bool} {o : Oper} (hi : i ∈ Region.ready md ops listed) (ho : ops[i]? = some o) (k : Nat) (hk : o.after.toList.any (fun e => Region.binds md e && e.on == k) = true) : listed.getD k false = true := by
  obtain ⟨_, o', ho', hall⟩ := mem_ready.1 hi
  rw [ho] at ho'
  cases ho'
  obtain ⟨e, he, hb⟩ := List.any_eq_true.1 hk
  simp only [Bool.and_eq_true, beq_iff_eq] at hb
  rw [← hb.2]
  exact hall e (Array.mem_toList_iff.1 he) hb.1
end
end Go.Proofs.Yteepiifhmbcciaa
/- What holds while the place and the steps are made, whichever operations have come up. -/
namespace Go.Proofs.Yteepiifhmbcciaa
open Go.RowKit

abbrev on (L : Array Bool) (k : Nat) : Prop := L.getD k false = true
theorem on_of {L : Array Bool} {i j : Nat} (h : on (L.setIfInBounds i true) j) (hne : i ≠ j) : on L j := by
  unfold on at *
  rwa [getD_set_ne false hne] at h
theorem not_on {L : Array Bool} {i : Nat} (h : L.getD i true = false) : ¬ on L i := by
  unfold on
  rw [getD_both h]; decide
structure F5 (wd : World) (t : Ten) (bt : Nat) (L : Array Bool) (v23 v24 v25 v26 v27 v28 v29 v6 v7 : Value) (w : World) : Prop where
  bel : Below wd.heap.size wd w
  f0 : on L 0 → v23 = .pointer (some ⟨bt, 1, none⟩)
  f1 : on L 1 → v24 = .slice t.F t.fn t.fc
  f2 : on L 2 → ∃ gs, v25 = .slice (some ⟨gs, 0, none⟩) t.fn t.fn ∧ wd.heap.size ≤ gs ∧ w.heap[gs]? = some (.cells (stC (stepK t.fs t.fn)).toArray 3 (0, 0))
  f3 : on L 3 → v26 = .pointer (some ⟨bt, 0, none⟩)
  f4 : on L 4 → v27 = .slice t.A t.n t.c
  f5 : on L 5 → v28 = .int .i64 (t.n : Int)
  f6 : on L 6 → ∃ gc, v29 = .slice (some ⟨gc, 0, none⟩) t.n t.n ∧ wd.heap.size ≤ gc ∧ w.heap[gc]? = some (.cells (List.replicate t.n (.int .i64 0)).toArray 3 (0, 0)) ∧ (on L 2 → ∀ gs, v25 = .slice (some ⟨gs, 0, none⟩) t.fn t.fn → gc ≠ gs)
  f7 : on L 7 → ∃ bs, v6 = .pointer (some ⟨bs, 0, none⟩) ∧ wd.heap.size ≤ bs ∧ (∃ y, w.heap[bs]? = some (.cells #[y] 22 (0, 0))) ∧ (on L 8 → v7 ≠ .pointer (some ⟨bs, 0, none⟩))
  f8 : on L 8 → ∃ bc, v7 = .pointer (some ⟨bc, 0, none⟩) ∧ wd.heap.size ≤ bc ∧ ∃ y, w.heap[bc]? = some (.cells #[y] 22 (0, 0))
  f9 : on L 9 → on L 2 ∧ on L 7 ∧ ∀ bs, v6 = .pointer (some ⟨bs, 0, none⟩) → w.heap[bs]? = some (.cells #[v25] 22 (0, 0))
  f10 : on L 10 → on L 6 ∧ on L 8 ∧ ∀ bc, v7 = .pointer (some ⟨bc, 0, none⟩) → w.heap[bc]? = some (.cells #[v29] 22 (0, 0))
section
variable {wd w w' : World} {t : Ten} {bt : Nat} {L : Array Bool} {v23 v24 v25 v26 v27 v28 v29 v6 v7 : Value}
theorem F5.world (F : F5 wd t bt L v23 v24 v25 v26 v27 v28 v29 v6 v7 w) (hb : Below w.heap.size w w') : F5 wd t bt L v23 v24 v25 v26 v27 v28 v29 v6 v7 w' := by
  refine ⟨F.bel.trans (hb.mono F.bel.size), F.f0, F.f1, fun h => ?_, F.f3, F.f4, F.f5, fun h => ?_, fun h => ?_, fun h => ?_, fun h => ?_, fun h => ?_⟩
  · obtain ⟨g, h1, h2, h3⟩ := F.f2 h
    exact ⟨g, h1, h2, keep_b hb h3⟩
  · obtain ⟨g, h1, h2, h3, h4⟩ := F.f6 h
    exact ⟨g, h1, h2, keep_b hb h3, h4⟩
  · obtain ⟨g, h1, h2, ⟨y, h3⟩, h4⟩ := F.f7 h
    exact ⟨g, h1, h2, ⟨y, keep_b hb h3⟩, h4⟩
  · obtain ⟨g, h1, h2, y, h3⟩ := F.f8 h
    exact ⟨g, h1, h2, y, keep_b hb h3⟩
  · obtain ⟨h1, h2, h3⟩ := F.f9 h
    exact ⟨h1, h2, fun b hb' => keep_b hb (h3 b hb')⟩
  · obtain ⟨h1, h2, h3⟩ := F.f10 h
    exact ⟨h1, h2, fun b hb' => keep_b hb (h3 b hb')⟩

theorem on_set {i j : Nat} (h : on L j) : on (L.setIfInBounds i true) j := by
  unfold on at *
  by_cases e : i = j
  · subst e
    exact getD_set_true h
  · rwa [getD_set_ne false e]

theorem F5.s0 (F : F5 wd t bt L v23 v24 v25 v26 v27 v28 v29 v6 v7 w) : F5 wd t bt (L.setIfInBounds 0 true) (.pointer (some ⟨bt, 1, none⟩)) v24 v25 v26 v27 v28 v29 v6 v7 w :=
  ⟨F.bel, fun _ => rfl,
    fun h => F.f1 (on_of h (by decide)),
    fun h => F.f2 (on_of h (by decide)),
    fun h => F.f3 (on_of h (by decide)),
    fun h => F.f4 (on_of h (by decide)),
    fun h => F.f5 (on_of h (by decide)),
    fun h => by obtain ⟨g, h1, h2, h3, h4⟩ := F.f6 (on_of h (by decide)); exact ⟨g, h1, h2, h3, fun h5 => h4 (on_of h5 (by decide))⟩,
    fun h => by obtain ⟨g, h1, h2, h3, h4⟩ := F.f7 (on_of h (by decide)); exact ⟨g, h1, h2, h3, fun h5 => h4 (on_of h5 (by decide))⟩,
    fun h => F.f8 (on_of h (by decide)),
    fun h => by obtain ⟨h1, h2, h3⟩ := F.f9 (on_of h (by decide)); exact ⟨on_set h1, on_set h2, h3⟩,
    fun h => by obtain ⟨h1, h2, h3⟩ := F.f10 (on_of h (by decide)); exact ⟨on_set h1, on_set h2, h3⟩⟩
theorem F5.s1 (F : F5 wd t bt L v23 v24 v25 v26 v27 v28 v29 v6 v7 w) : F5 wd t bt (L.setIfInBounds 1 true) v23 (.slice t.F t.fn t.fc) v25 v26 v27 v28 v29 v6 v7 w :=
  ⟨F.bel, fun h => F.f0 (on_of h (by decide)),
    fun _ => rfl,
    fun h => F.f2 (on_of h (by decide)),
    fun h => F.f3 (on_of h (by decide)),
    fun h => F.f4 (on_of h (by decide)),
    fun h => F.f5 (on_of h (by decide)),
    fun h => by obtain ⟨g, h1, h2, h3, h4⟩ := F.f6 (on_of h (by decide)); exact ⟨g, h1, h2, h3, fun h5 => h4 (on_of h5 (by decide))⟩,
    fun h => by obtain ⟨g, h1, h2, h3, h4⟩ := F.f7 (on_of h (by decide)); exact ⟨g, h1, h2, h3, fun h5 => h4 (on_of h5 (by decide))⟩,
    fun h => F.f8 (on_of h (by decide)),
    fun h => by obtain ⟨h1, h2, h3⟩ := F.f9 (on_of h (by decide)); exact ⟨on_set h1, on_set h2, h3⟩,
    fun h => by obtain ⟨h1, h2, h3⟩ := F.f10 (on_of h (by decide)); exact ⟨on_set h1, on_set h2, h3⟩⟩
theorem F5.s3 (F : F5 wd t bt L v23 v24 v25 v26 v27 v28 v29 v6 v7 w) : F5 wd t bt (L.setIfInBounds 3 true) v23 v24 v25 (.pointer (some ⟨bt, 0, none⟩)) v27 v28 v29 v6 v7 w :=
  ⟨F.bel, fun h => F.f0 (on_of h (by decide)),
    fun h => F.f1 (on_of h (by decide)),
    fun h => F.f2 (on_of h (by decide)),
    fun _ => rfl,
    fun h => F.f4 (on_of h (by decide)),
    fun h => F.f5 (on_of h (by decide)),
    fun h => by obtain ⟨g, h1, h2, h3, h4⟩ := F.f6 (on_of h (by decide)); exact ⟨g, h1, h2, h3, fun h5 => h4 (on_of h5 (by decide))⟩,
    fun h => by obtain ⟨g, h1, h2, h3, h4⟩ := F.f7 (on_of h (by decide)); exact ⟨g, h1, h2, h3, fun h5 => h4 (on_of h5 (by decide))⟩,
    fun h => F.f8 (on_of h (by decide)),
    fun h => by obtain ⟨h1, h2, h3⟩ := F.f9 (on_of h (by decide)); exact ⟨on_set h1, on_set h2, h3⟩,
    fun h => by obtain ⟨h1, h2, h3⟩ := F.f10 (on_of h (by decide)); exact ⟨on_set h1, on_set h2, h3⟩⟩
theorem F5.s4 (F : F5 wd t bt L v23 v24 v25 v26 v27 v28 v29 v6 v7 w) : F5 wd t bt (L.setIfInBounds 4 true) v23 v24 v25 v26 (.slice t.A t.n t.c) v28 v29 v6 v7 w :=
  ⟨F.bel, fun h => F.f0 (on_of h (by decide)),
    fun h => F.f1 (on_of h (by decide)),
    fun h => F.f2 (on_of h (by decide)),
    fun h => F.f3 (on_of h (by decide)),
    fun _ => rfl,
    fun h => F.f5 (on_of h (by decide)),
    fun h => by obtain ⟨g, h1, h2, h3, h4⟩ := F.f6 (on_of h (by decide)); exact ⟨g, h1, h2, h3, fun h5 => h4 (on_of h5 (by decide))⟩,
    fun h => by obtain ⟨g, h1, h2, h3, h4⟩ := F.f7 (on_of h (by decide)); exact ⟨g, h1, h2, h3, fun h5 => h4 (on_of h5 (by decide))⟩,
    fun h => F.f8 (on_of h (by decide)),
    fun h => by obtain ⟨h1, h2, h3⟩ := F.f9 (on_of h (by decide)); exact ⟨on_set h1, on_set h2, h3⟩,
    fun h => by obtain ⟨h1, h2, h3⟩ := F.f10 (on_of h (by decide)); exact ⟨on_set h1, on_set h2, h3⟩⟩
theorem F5.s5 (F : F5 wd t bt L v23 v24 v25 v26 v27 v28 v29 v6 v7 w) : F5 wd t bt (L.setIfInBounds 5 true) v23 v24 v25 v26 v27 (.int .i64 (t.n : Int)) v29 v6 v7 w :=
  ⟨F.bel, fun h => F.f0 (on_of h (by decide)),
    fun h => F.f1 (on_of h (by decide)),
    fun h => F.f2 (on_of h (by decide)),
    fun h => F.f3 (on_of h (by decide)),
    fun h => F.f4 (on_of h (by decide)),
    fun _ => rfl,
    fun h => by obtain ⟨g, h1, h2, h3, h4⟩ := F.f6 (on_of h (by decide)); exact ⟨g, h1, h2, h3, fun h5 => h4 (on_of h5 (by decide))⟩,
    fun h => by obtain ⟨g, h1, h2, h3, h4⟩ := F.f7 (on_of h (by decide)); exact ⟨g, h1, h2, h3, fun h5 => h4 (on_of h5 (by decide))⟩,
    fun h => F.f8 (on_of h (by decide)),
    fun h => by obtain ⟨h1, h2, h3⟩ := F.f9 (on_of h (by decide)); exact ⟨on_set h1, on_set h2, h3⟩,
    fun h => by obtain ⟨h1, h2, h3⟩ := F.f10 (on_of h (by decide)); exact ⟨on_set h1, on_set h2, h3⟩⟩
theorem F5.s2 (F : F5 wd t bt L v23 v24 v25 v26 v27 v28 v29 v6 v7 w) {g : Nat} (hun : ¬ on L 2) (hg : wd.heap.size ≤ g) (hs : w.heap[g]? = some (.cells (stC (stepK t.fs t.fn)).toArray 3 (0, 0))) (hne : ∀ gc, v29 = .slice (some ⟨gc, 0, none⟩) t.n t.n → on L 6 → gc ≠ g) : F5 wd t bt (L.setIfInBounds 2 true) v23 v24 (.slice (some ⟨g, 0, none⟩) t.fn t.fn) v26 v27 v28 v29 v6 v7 w :=
  ⟨F.bel, fun h => F.f0 (on_of h (by decide)),
    fun h => F.f1 (on_of h (by decide)),
    fun _ => ⟨g, rfl, hg, hs⟩,
    fun h => F.f3 (on_of h (by decide)),
    fun h => F.f4 (on_of h (by decide)),
    fun h => F.f5 (on_of h (by decide)),
    fun h => by obtain ⟨gc, h1, h2, h3, h4⟩ := F.f6 (on_of h (by decide)); exact ⟨gc, h1, h2, h3, fun _ gs e => by injection e with e; injection e with e; injection e with e; subst e; intro e2; exact hne gc h1 (on_of h (by decide)) e2⟩,
    fun h => by obtain ⟨g, h1, h2, h3, h4⟩ := F.f7 (on_of h (by decide)); exact ⟨g, h1, h2, h3, fun h5 => h4 (on_of h5 (by decide))⟩,
    fun h => F.f8 (on_of h (by decide)),
    fun h => absurd (F.f9 (on_of h (by decide))).1 hun,
    fun h => by obtain ⟨h1, h2, h3⟩ := F.f10 (on_of h (by decide)); exact ⟨on_set h1, on_set h2, h3⟩⟩
theorem F5.s6 (F : F5 wd t bt L v23 v24 v25 v26 v27 v28 v29 v6 v7 w) {g : Nat} (hun : ¬ on L 6) (hg : wd.heap.size ≤ g) (hs : w.heap[g]? = some (.cells (List.replicate t.n (.int .i64 0)).toArray 3 (0, 0))) (hne : ∀ gs, v25 = .slice (some ⟨gs, 0, none⟩) t.fn t.fn → on L 2 → g ≠ gs) : F5 wd t bt (L.setIfInBounds 6 true) v23 v24 v25 v26 v27 v28 (.slice (some ⟨g, 0, none⟩) t.n t.n) v6 v7 w :=
  ⟨F.bel, fun h => F.f0 (on_of h (by decide)),
    fun h => F.f1 (on_of h (by decide)),
    fun h => F.f2 (on_of h (by decide)),
    fun h => F.f3 (on_of h (by decide)),
    fun h => F.f4 (on_of h (by decide)),
    fun h => F.f5 (on_of h (by decide)),
    fun _ => ⟨g, rfl, hg, hs, fun h gs e => hne gs e (on_of h (by decide))⟩,
    fun h => by obtain ⟨g, h1, h2, h3, h4⟩ := F.f7 (on_of h (by decide)); exact ⟨g, h1, h2, h3, fun h5 => h4 (on_of h5 (by decide))⟩,
    fun h => F.f8 (on_of h (by decide)),
    fun h => by obtain ⟨h1, h2, h3⟩ := F.f9 (on_of h (by decide)); exact ⟨on_set h1, on_set h2, h3⟩,
    fun h => absurd (F.f10 (on_of h (by decide))).1 hun⟩
theorem F5.s7 (F : F5 wd t bt L v23 v24 v25 v26 v27 v28 v29 v6 v7 w) {g : Nat} {y : Value} (hun : ¬ on L 7) (hg : wd.heap.size ≤ g) (hs : w.heap[g]? = some (.cells #[y] 22 (0, 0))) (hne : on L 8 → v7 ≠ .pointer (some ⟨g, 0, none⟩)) : F5 wd t bt (L.setIfInBounds 7 true) v23 v24 v25 v26 v27 v28 v29 (.pointer (some ⟨g, 0, none⟩)) v7 w :=
  ⟨F.bel, fun h => F.f0 (on_of h (by decide)),
    fun h => F.f1 (on_of h (by decide)),
    fun h => F.f2 (on_of h (by decide)),
    fun h => F.f3 (on_of h (by decide)),
    fun h => F.f4 (on_of h (by decide)),
    fun h => F.f5 (on_of h (by decide)),
    fun h => by obtain ⟨g, h1, h2, h3, h4⟩ := F.f6 (on_of h (by decide)); exact ⟨g, h1, h2, h3, fun h5 => h4 (on_of h5 (by decide))⟩,
    fun _ => ⟨g, rfl, hg, ⟨_, hs⟩, fun h => hne (on_of h (by decide))⟩,
    fun h => F.f8 (on_of h (by decide)),
    fun h => absurd (F.f9 (on_of h (by decide))).2.1 hun,
    fun h => by obtain ⟨h1, h2, h3⟩ := F.f10 (on_of h (by decide)); exact ⟨on_set h1, on_set h2, h3⟩⟩
theorem F5.s8 (F : F5 wd t bt L v23 v24 v25 v26 v27 v28 v29 v6 v7 w) {g : Nat} {y : Value} (hun : ¬ on L 8) (hg : wd.heap.size ≤ g) (hs : w.heap[g]? = some (.cells #[y] 22 (0, 0))) (hne : ∀ bs, v6 = .pointer (some ⟨bs, 0, none⟩) → on L 7 → g ≠ bs) : F5 wd t bt (L.setIfInBounds 8 true) v23 v24 v25 v26 v27 v28 v29 v6 (.pointer (some ⟨g, 0, none⟩)) w :=
  ⟨F.bel, fun h => F.f0 (on_of h (by decide)),
    fun h => F.f1 (on_of h (by decide)),
    fun h => F.f2 (on_of h (by decide)),
    fun h => F.f3 (on_of h (by decide)),
    fun h => F.f4 (on_of h (by decide)),
    fun h => F.f5 (on_of h (by decide)),
    fun h => by obtain ⟨g, h1, h2, h3, h4⟩ := F.f6 (on_of h (by decide)); exact ⟨g, h1, h2, h3, fun h5 => h4 (on_of h5 (by decide))⟩,
    fun h => by obtain ⟨bs, h1, h2, h3, h4⟩ := F.f7 (on_of h (by decide)); exact ⟨bs, h1, h2, h3, fun _ e => by injection e with e; injection e with e; injection e with e; exact hne bs h1 (on_of h (by decide)) e⟩,
    fun _ => ⟨g, rfl, hg, _, hs⟩,
    fun h => by obtain ⟨h1, h2, h3⟩ := F.f9 (on_of h (by decide)); exact ⟨on_set h1, on_set h2, h3⟩,
    fun h => absurd (F.f10 (on_of h (by decide))).2.1 hun⟩
theorem F5.s9 (F : F5 wd t bt L v23 v24 v25 v26 v27 v28 v29 v6 v7 w) {q : Nat} {y : Value} (hq : v6 = .pointer (some ⟨q, 0, none⟩)) (hd1 : on L 2) (hd2 : on L 7) (hold : w.heap[q]? = some (.cells #[y] 22 (0, 0))) (hnew : w'.heap[q]? = some (.cells #[v25] 22 (0, 0))) (hb : Below wd.heap.size wd w') (ho : ∀ k, k ≠ q → w'.heap[k]? = w.heap[k]?) (hne : ∀ b, v7 = .pointer (some ⟨b, 0, none⟩) → on L 8 → b ≠ q) : F5 wd t bt (L.setIfInBounds 9 true) v23 v24 v25 v26 v27 v28 v29 v6 v7 w' :=
  ⟨hb, fun h => F.f0 (on_of h (by decide)),
    fun h => F.f1 (on_of h (by decide)),
    fun h => by obtain ⟨g, h1, h2, h3⟩ := F.f2 (on_of h (by decide)); exact ⟨g, h1, h2, keep_ty ho hold h3 (by decide)⟩,
    fun h => F.f3 (on_of h (by decide)),
    fun h => F.f4 (on_of h (by decide)),
    fun h => F.f5 (on_of h (by decide)),
    fun h => by obtain ⟨g, h1, h2, h3, h4⟩ := F.f6 (on_of h (by decide)); exact ⟨g, h1, h2, keep_ty ho hold h3 (by decide), fun h5 => h4 (on_of h5 (by decide))⟩,
    fun h => by
      obtain ⟨g, h1, h2, ⟨y, h3⟩, h4⟩ := F.f7 (on_of h (by decide))
      refine ⟨g, h1, h2, ?_, fun h5 => h4 (on_of h5 (by decide))⟩
      by_cases e : g = q
      · subst e; exact ⟨_, hnew⟩
      · exact ⟨y, (ho g e).trans h3⟩,
    fun h => by
      obtain ⟨g, h1, h2, y, h3⟩ := F.f8 (on_of h (by decide))
      by_cases e : g = q
      · subst e; exact ⟨g, h1, h2, _, hnew⟩
      · exact ⟨g, h1, h2, y, (ho g e).trans h3⟩,
    fun _ => ⟨on_set hd1, on_set hd2, fun b hb => by rw [hq] at hb; injection hb with hb; injection hb with hb; injection hb with hb; subst hb; exact hnew⟩,
    fun h => by
      obtain ⟨h1, h2, h3⟩ := F.f10 (on_of h (by decide))
      exact ⟨on_set h1, on_set h2, fun b hb => (ho b (hne b hb h2)).trans (h3 b hb)⟩⟩
theorem F5.s10 (F : F5 wd t bt L v23 v24 v25 v26 v27 v28 v29 v6 v7 w) {q : Nat} {y : Value} (hq : v7 = .pointer (some ⟨q, 0, none⟩)) (hd1 : on L 6) (hd2 : on L 8) (hold : w.heap[q]? = some (.cells #[y] 22 (0, 0))) (hnew : w'.heap[q]? = some (.cells #[v29] 22 (0, 0))) (hb : Below wd.heap.size wd w') (ho : ∀ k, k ≠ q → w'.heap[k]? = w.heap[k]?) (hne : ∀ b, v6 = .pointer (some ⟨b, 0, none⟩) → on L 7 → b ≠ q) : F5 wd t bt (L.setIfInBounds 10 true) v23 v24 v25 v26 v27 v28 v29 v6 v7 w' :=
  ⟨hb, fun h => F.f0 (on_of h (by decide)),
    fun h => F.f1 (on_of h (by decide)),
    fun h => by obtain ⟨g, h1, h2, h3⟩ := F.f2 (on_of h (by decide)); exact ⟨g, h1, h2, keep_ty ho hold h3 (by decide)⟩,
    fun h => F.f3 (on_of h (by decide)),
    fun h => F.f4 (on_of h (by decide)),
    fun h => F.f5 (on_of h (by decide)),
    fun h => by obtain ⟨g, h1, h2, h3, h4⟩ := F.f6 (on_of h (by decide)); exact ⟨g, h1, h2, keep_ty ho hold h3 (by decide), fun h5 => h4 (on_of h5 (by decide))⟩,
    fun h => by
      obtain ⟨g, h1, h2, ⟨y, h3⟩, h4⟩ := F.f7 (on_of h (by decide))
      refine ⟨g, h1, h2, ?_, fun h5 => h4 (on_of h5 (by decide))⟩
      by_cases e : g = q
      · subst e; exact ⟨_, hnew⟩
      · exact ⟨y, (ho g e).trans h3⟩,
    fun h => by
      obtain ⟨g, h1, h2, y, h3⟩ := F.f8 (on_of h (by decide))
      by_cases e : g = q
      · subst e; exact ⟨g, h1, h2, _, hnew⟩
      · exact ⟨g, h1, h2, y, (ho g e).trans h3⟩,
    fun h => by
      obtain ⟨h1, h2, h3⟩ := F.f9 (on_of h (by decide))
      exact ⟨on_set h1, on_set h2, fun b hb => (ho b (hne b hb h2)).trans (h3 b hb)⟩,
    fun _ => ⟨on_set hd1, on_set hd2, fun b hb => by rw [hq] at hb; injection hb with hb; injection hb with hb; injection hb with hb; subst hb; exact hnew⟩⟩
end
end Go.Proofs.Yteepiifhmbcciaa
