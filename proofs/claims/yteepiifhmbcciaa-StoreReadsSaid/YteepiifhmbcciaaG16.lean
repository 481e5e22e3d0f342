/- A stored tensor of whatever size, as it came in; whether it is small enough to be played. -/
import Derived.Test.YteepiifhmbcciaaG7
import Derived.Test.YteepiifhmbcciaaG8
import Derived.Test.YteepiifhmbcciaaG11
import Derived.Test.YteepiifhmbcciaaG4
namespace Go.Proofs.Yteepiifhmbcciaa
open Go.RowKit

/-- a level of whatever size -/
structure LvR.In (w : World) (B : Nat) (l : Lv) : Prop where
  k0 : -9223372036854775808 ≤ l.k ∧ l.k ≤ 9223372036854775807
  s0 : -9223372036854775808 ≤ l.s ∧ l.s ≤ 9223372036854775807
  pos : Ints w B l.A l.n l.xs
  crd : Ints w B l.B l.m l.ys
  n1 : l.n ≤ 9223372036854775807
  m1 : l.m ≤ 9223372036854775807
  nc : l.n ≤ l.c
  me : l.m ≤ l.e
def LvsR (w : World) (B : Nat) (A : Option Addr) (n : Nat) (ls : List Lv) : Prop :=
  ls.length = n ∧ (∀ x ∈ ls, LvR.In w B x) ∧
  (0 < n → ∃ b off, A = some ⟨b, off, none⟩ ∧ b < B ∧ ∀ (k : Nat) (x : Lv), ls[k]? = some x → w.cell? ⟨b, off + k * 4, none⟩ = some (.int .i64 x.k) ∧ w.cell? ⟨b, off + k * 4 + 1, none⟩ = some (.int .i64 x.s) ∧ w.cell? ⟨b, off + k * 4 + 2, none⟩ = some (.slice x.A x.n x.c) ∧ w.cell? ⟨b, off + k * 4 + 3, none⟩ = some (.slice x.B x.m x.e))
structure TenR.In (w : World) (B : Nat) (t : Ten) : Prop where
  shape : Ints w B t.A t.n t.xs
  form : Specs w B t.F t.fn t.fs
  lvs : LvsR w B t.L t.ln t.ls
  vals : Ints w B t.V t.vn t.vs
  nc : t.n ≤ t.c
  fc : t.fn ≤ t.fc
  lc : t.ln ≤ t.lc
  vc : t.vn ≤ t.vc
  n1 : t.n ≤ 9223372036854775807
  f1 : t.fn ≤ 9223372036854775807
  l1 : t.ln ≤ 9223372036854775807
  v1 : t.vn ≤ 9223372036854775807
section
variable {w w' : World} {B B' n : Nat} {A : Option Addr} {ls : List Lv} {t : Ten}
theorem LvR.In.keep {l : Lv} (h : LvR.In w B l) (hk : ∀ p : Addr, p.block < B → w'.cell? p = w.cell? p) : LvR.In w' B l :=
  ⟨h.k0, h.s0, h.pos.keep hk, h.crd.keep hk, h.n1, h.m1, h.nc, h.me⟩
theorem LvR.In.more {l : Lv} (h : LvR.In w B l) (hB : B ≤ B') : LvR.In w B' l := ⟨h.k0, h.s0, h.pos.more hB, h.crd.more hB, h.n1, h.m1, h.nc, h.me⟩
theorem LvsR.nil_ : LvsR w B A 0 [] := ⟨rfl, by simp, fun h => absurd h (by omega)⟩
theorem LvsR.keep (h : LvsR w B A n ls) (hk : ∀ p : Addr, p.block < B → w'.cell? p = w.cell? p) : LvsR w' B A n ls := by
  obtain ⟨hl, hb, hc⟩ := h
  refine ⟨hl, fun x hx => (hb x hx).keep hk, fun hn => ?_⟩
  obtain ⟨b, off, e, hB, hx⟩ := hc hn
  exact ⟨b, off, e, hB, fun k x hx' => ⟨(hk _ hB).trans (hx k x hx').1, (hk _ hB).trans (hx k x hx').2.1, (hk _ hB).trans (hx k x hx').2.2.1, (hk _ hB).trans (hx k x hx').2.2.2⟩⟩
theorem LvsR.more (h : LvsR w B A n ls) (hB : B ≤ B') : LvsR w B' A n ls := by
  obtain ⟨hl, hb, hc⟩ := h
  refine ⟨hl, fun x hx => (hb x hx).more hB, fun hn => ?_⟩
  obtain ⟨b, off, e, hB', hx⟩ := hc hn
  exact ⟨b, off, e, by omega, hx⟩
theorem LvsR.at_ {k : Nat} (h : LvsR w B A n ls) (hk : k < n) :
    ∃ b off x, A = some ⟨b, off, none⟩ ∧ b < B ∧ Hid (ls[k]? = some x) ∧ w.cell? ⟨b, off + k * 4, none⟩ = some (.int .i64 x.k) ∧ w.cell? ⟨b, off + k * 4 + 1, none⟩ = some (.int .i64 x.s) ∧ w.cell? ⟨b, off + k * 4 + 2, none⟩ = some (.slice x.A x.n x.c) ∧ w.cell? ⟨b, off + k * 4 + 3, none⟩ = some (.slice x.B x.m x.e) ∧ LvR.In w B x := by
  obtain ⟨hl, hb, hc⟩ := h
  obtain ⟨b, off, rfl, hB, hx⟩ := hc (by omega)
  have hk' : k < ls.length := by omega
  have hm := hb _ (List.getElem_mem hk')
  have hx' := hx k _ (List.getElem?_eq_getElem hk')
  exact ⟨b, off, ls[k], rfl, hB, List.getElem?_eq_getElem hk', hx'.1, hx'.2.1, hx'.2.2.1, hx'.2.2.2, hm⟩
theorem TenR.In.keep (h : TenR.In w B t) (hk : ∀ p : Addr, p.block < B → w'.cell? p = w.cell? p) : TenR.In w' B t :=
  ⟨h.shape.keep hk, h.form.keep hk, h.lvs.keep hk, h.vals.keep hk, h.nc, h.fc, h.lc, h.vc, h.n1, h.f1, h.l1, h.v1⟩
theorem TenR.In.more (h : TenR.In w B t) (hB : B ≤ B') : TenR.In w B' t := ⟨h.shape.more hB, h.form.more hB, h.lvs.more hB, h.vals.more hB, h.nc, h.fc, h.lc, h.vc, h.n1, h.f1, h.l1, h.v1⟩
theorem TenR.In.below (h : TenR.In w B t) (hb : Below B w w') : TenR.In w' B t := h.keep fun _ hp => hb.cell hp
theorem TenR.In.on (h : TenR.In w w.heap.size t) (hb : Below w.heap.size w w') : TenR.In w' w'.heap.size t := (h.below hb).more hb.size
/-- small enough to be played -/
def fewT (t : Ten) : Prop := t.n ≤ 20 ∧ t.fn ≤ 40 ∧ t.ln ≤ 40 ∧ t.vn ≤ 3000 ∧ ∀ l ∈ t.ls, l.n ≤ 3000 ∧ l.m ≤ 3000
theorem TenR.In.ten (h : TenR.In w B t) (hf : fewT t) : t.In w B := by
  obtain ⟨f1, f2, f3, f4, f5⟩ := hf
  refine ⟨h.shape, h.form, ⟨h.lvs.1, fun x hx => ?_, h.lvs.2.2⟩, h.vals, h.nc, h.fc, h.lc, h.vc, by omega, by omega, by omega, by omega⟩
  obtain ⟨a, b, c, d, _, _, e, f⟩ := h.lvs.2.1 x hx
  have := f5 x hx
  exact ⟨a, b, c, d, by omega, by omega, e, f⟩
end
def FewPost (w : World) (t : Ten) (e : Ending) (w' : World) : Prop := e = .returned (.bool (pB (fewT t))) ∧ Below w.heap.size w w'
theorem few_lens {t : Ten} (h : ¬ (t.n ≤ 20 ∧ t.fn ≤ 40 ∧ t.ln ≤ 40 ∧ t.vn ≤ 3000)) : pB (fewT t) = false := pB_f fun hh => h ⟨hh.1, hh.2.1, hh.2.2.1, hh.2.2.2.1⟩
theorem gt_not (a n : Nat) : decide (a < n) = !decide (n ≤ a) := by
  by_cases h : n ≤ a
  · rw [decide_eq_true h, decide_eq_false (by omega)]; rfl
  · rw [decide_eq_false h, decide_eq_true (by omega)]; rfl
set_option maxRecDepth 100000 in
set_option maxHeartbeats 8000000 in
theorem few_aux (T : Ten) (A : Option Addr) (n c : Nat) (xs : List Int) (F : Option Addr) (fn fc : Nat) (fs : List Sp) (L : Option Addr) (ln lc : Nat) (ls : List Lv) (V : Option Addr) (vn vc : Nat) (vs : List Int) (w : World) (hT : T = ⟨A, n, c, xs, F, fn, fc, fs, L, ln, lc, ls, V, vn, vc, vs⟩) (ht : TenR.In w w.heap.size ⟨A, n, c, xs, F, fn, fc, fs, L, ln, lc, ls, V, vn, vc, vs⟩) :
    Calls Try.prog 5 #[.agg #[.slice A n c, .slice F fn fc, .slice L ln lc, .slice V vn vc]] w (FewPost w T) := by
  have zz := heap_alloc_new w (.cells #[.slice A n c, .slice F fn fc, .slice L ln lc, .slice V vn vc] 27)
  obtain ⟨k0, k1, k2, k3, _⟩ := lvCells zz
  have HB0 := Lib.hid (lvBelow w (.cells #[.slice A n c, .slice F fn fc, .slice L ln lc, .slice V vn vc] 27))
  have e1 : decide (20 < n) = !decide (n ≤ 20) := gt_not _ _
  have e2 : decide (40 < fn) = !decide (fn ≤ 40) := gt_not _ _
  have e3 : decide (40 < ln) = !decide (ln ≤ 40) := gt_not _ _
  have e4 : decide (3000 < vn) = !decide (vn ≤ 3000) := gt_not _ _
  have i1 : decide (20 < (n : Int)) = !decide (n ≤ 20) := by rw [← e1]; exact decide_eq_decide.2 (by omega)
  have i2 : decide (40 < (fn : Int)) = !decide (fn ≤ 40) := by rw [← e2]; exact decide_eq_decide.2 (by omega)
  have i3 : decide (40 < (ln : Int)) = !decide (ln ≤ 40) := by rw [← e3]; exact decide_eq_decide.2 (by omega)
  have i4 : decide (3000 < (vn : Int)) = !decide (vn ≤ 3000) := by rw [← e4]; exact decide_eq_decide.2 (by omega)
  have b1 := ht.n1
  have b2 := ht.f1
  have b3 := ht.l1
  have b4 := ht.v1
  dsimp only at b1 b2 b3 b4
  by_cases hs : n ≤ 20 ∧ fn ≤ 40 ∧ ln ≤ 40 ∧ vn ≤ 3000
  · obtain ⟨s1, s2, s3, s4⟩ := hs
    rw [decide_eq_true s1] at e1 i1
    rw [decide_eq_true s2] at e2 i2
    rw [decide_eq_true s3] at e3 i3
    rw [decide_eq_true s4] at e4 i4
    simp only [Bool.not_true] at e1 e2 e3 e4 i1 i2 i3 i4
    have HT := Lib.hid hT
    have HS := Lib.hid (show n ≤ 20 ∧ fn ≤ 40 ∧ ln ≤ 40 ∧ vn ≤ 3000 from ⟨s1, s2, s3, s4⟩)
    have HI := Lib.hid ht
    have HL := Lib.hid ht.lvs.1
    clear zz hT ht s1 s2 s4
    go_enter Try.func5, Try.ntmps5
    go_wp2_with fail
    clear k0 k1 k2 k3 e1 e2 e3 e4 i1 i2 i3 i4
    go_loopw [30] (fun i wr => ∃ k : Nat, k ≤ ln ∧ i = .int .i64 k ∧ Hid (∀ l ∈ ls.take k, l.n ≤ 3000 ∧ l.m ≤ 3000) ∧ Hid (Below w.heap.size w wr)) (fun i _ => ln - (intOf i).toNat)
    case atStart => exact ⟨0, Nat.zero_le _, rfl, (fun l hl => by simp at hl), HB0.out⟩
    case round =>
      obtain ⟨k, hk, rfl, HK, HB⟩ := hrel
      by_cases hlt : k < ln
      · obtain ⟨bl, ol, l, rfl, hbb, HLk, d0, d1, d2, d3, li⟩ := ((HI.out.on HB.out).lvs).at_ hlt
        dsimp only at HLk
        obtain ⟨q0, q1, q2, q3, _⟩ := lvCells (heap_alloc_new wr (lvO l.k l.s l.A l.n l.c l.B l.m l.e))
        have HBa := Lib.hid ((HB.out).trans ((lvBelow wr (lvO l.k l.s l.A l.n l.c l.B l.m l.e)).mono HB.out.size))
        have n1 := li.n1
        have m1 := li.m1
        have e1 : decide (3000 < l.n) = !decide (l.n ≤ 3000) := gt_not _ _
        have e2 : decide (3000 < l.m) = !decide (l.m ≤ 3000) := gt_not _ _
        have i1 : decide (3000 < (l.n : Int)) = !decide (l.n ≤ 3000) := by rw [← e1]; exact decide_eq_decide.2 (by omega)
        have i2 : decide (3000 < (l.m : Int)) = !decide (l.m ≤ 3000) := by rw [← e2]; exact decide_eq_decide.2 (by omega)
        by_cases hs : l.n ≤ 3000 ∧ l.m ≤ 3000
        · have HK1 : Hid (∀ l ∈ ls.take (k + 1), l.n ≤ 3000 ∧ l.m ≤ 3000) := by
            unfold Hid
            rw [take_succ_of HLk.out]
            intro y hy
            rcases List.mem_append.1 hy with hy | hy
            · exact HK.out y hy
            · rw [List.mem_singleton.1 hy]; exact hs
          rw [decide_eq_true hs.1] at e1 i1
          rw [decide_eq_true hs.2] at e2 i2
          simp only [Bool.not_true] at e1 e2 i1 i2
          clear hs li
          go_wp2_with fail
          go_roundw
          case rel => exact ⟨k + 1, by omega, by go_num, HK1, HBa⟩
          case measure => simp [intOf]; omega
        · have HF : Hid (pB (fewT T) = false) := pB_f fun hh => hs (hh.2.2.2.2 l (by rw [HT.out]; exact List.mem_of_getElem? HLk.out))
          by_cases h1 : l.n ≤ 3000
          · have h2 : ¬ l.m ≤ 3000 := fun h2 => hs ⟨h1, h2⟩
            rw [decide_eq_true h1] at e1 i1
            rw [decide_eq_false h2] at e2 i2
            simp only [Bool.not_true, Bool.not_false] at e1 e2 i1 i2
            clear hs li
            go_wp2_with fail
            go_ret
            exact ⟨by rw [HF.out]; rfl, HBa.out⟩
          · rw [decide_eq_false h1] at e1 i1
            simp only [Bool.not_false] at e1 i1
            clear hs li
            go_wp2_with fail
            go_ret
            exact ⟨by rw [HF.out]; rfl, HBa.out⟩
      · obtain rfl : k = ln := by omega
        have HF : Hid (pB (fewT T) = true) := by
          refine pB_t ?_
          rw [HT.out]
          refine ⟨HS.out.1, HS.out.2.1, HS.out.2.2.1, HS.out.2.2.2, fun l hl => HK.out l ?_⟩
          have hl' : l ∈ ls := hl
          rw [List.take_of_length_le (by rw [HL.out]; exact Nat.le_refl _)]
          exact hl'
        go_wp2_with fail
        go_ret
        exact ⟨by rw [HF.out]; rfl, HB.out⟩
  · have HF : Hid (pB (fewT T) = false) := by rw [hT]; exact few_lens hs
    clear hT ht zz
    by_cases s1 : n ≤ 20
    · rw [decide_eq_true s1] at e1 i1
      simp only [Bool.not_true] at e1 i1
      by_cases s2 : fn ≤ 40
      · rw [decide_eq_true s2] at e2 i2
        simp only [Bool.not_true] at e2 i2
        by_cases s3 : ln ≤ 40
        · have s4 : ¬ vn ≤ 3000 := fun s4 => hs ⟨s1, s2, s3, s4⟩
          rw [decide_eq_true s3] at e3 i3
          rw [decide_eq_false s4] at e4 i4
          simp only [Bool.not_true, Bool.not_false] at e3 e4 i3 i4
          clear hs s1 s2 s3 s4
          go_enter Try.func5, Try.ntmps5
          go_wp2_with fail
          go_ret
          exact ⟨by rw [HF.out]; rfl, HB0.out⟩
        · rw [decide_eq_false s3] at e3 i3
          simp only [Bool.not_false] at e3 i3
          clear hs s1 s2 s3 e4 i4
          go_enter Try.func5, Try.ntmps5
          go_wp2_with fail
          go_ret
          exact ⟨by rw [HF.out]; rfl, HB0.out⟩
      · rw [decide_eq_false s2] at e2 i2
        simp only [Bool.not_false] at e2 i2
        clear hs s1 s2 e4 i4 e3 i3
        go_enter Try.func5, Try.ntmps5
        go_wp2_with fail
        go_ret
        exact ⟨by rw [HF.out]; rfl, HB0.out⟩
    · rw [decide_eq_false s1] at e1 i1
      simp only [Bool.not_false] at e1 i1
      clear hs s1 e4 i4 e3 i3 e2 i2
      go_enter Try.func5, Try.ntmps5
      go_wp2_with fail
      go_ret
      exact ⟨by rw [HF.out]; rfl, HB0.out⟩
theorem refFew5_any (t : Ten) (w : World) (ht : TenR.In w w.heap.size t) :
    Calls Try.prog 5 #[t.val] w (FewPost w t) := few_aux t _ _ _ _ _ _ _ _ _ _ _ _ _ _ _ _ w rfl ht
end Go.Proofs.Yteepiifhmbcciaa
/- The document's block and sizes of a form; the program's Form. -/
namespace Go.Proofs.Yteepiifhmbcciaa
open Go.RowKit

/-- a mode's block, or 0 -/
def blk0 (fs : List Sp) (m : Int) : Int := match fs.find? (fun s => s.k == 4 && s.m == m) with
  | some s => s.s
  | none => 0
theorem blk0_hit {fs : List Sp} {m : Int} {k : Nat} {x : Sp} (hx : fs[k]? = some x) (h4 : x.k = 4) (hm : x.m = m) (h0 : ∀ y ∈ fs.take k, ¬ (y.k = 4 ∧ y.m = m)) : blk0 fs m = x.s := by
  have hk := (List.getElem?_eq_some_iff.1 hx).1
  have e : fs = fs.take k ++ x :: fs.drop (k + 1) := by rw [← drop_of hx, List.take_append_drop]
  unfold blk0
  have hn : (fs.take k).find? (fun s => s.k == 4 && s.m == m) = none := by
    rw [List.find?_eq_none]
    intro y hy
    simpa using h0 y hy
  rw [e, List.find?_append, hn]
  simp [h4, hm]
theorem blk0_miss {fs : List Sp} {m : Int} (h0 : ∀ y ∈ fs, ¬ (y.k = 4 ∧ y.m = m)) : blk0 fs m = 0 := by
  unfold blk0
  have hn : fs.find? (fun s => s.k == 4 && s.m == m) = none := by
    rw [List.find?_eq_none]
    intro y hy
    simpa using h0 y hy
  rw [hn]
theorem szAt_plain {xs : List Int} {fs : List Sp} (hf : formOK xs fs) {k : Nat} {x : Sp} (hx : fs[k]? = some x) (h4 : x.k ≠ 4) : szAt xs fs k = if 0 < blk0 fs x.m then Int.tdiv (xs.getD x.m.toNat 0) (blk0 fs x.m) else xs.getD x.m.toNat 0 := by
  have h1 := stAt_eq hf hx
  rw [if_neg h4] at h1
  have hst : (stepK fs fs.length).getD k 0 = bsz fs x.m := h1
  have hb : bsz fs x.m = if 0 < blk0 fs x.m then blk0 fs x.m else 1 := by
    have hp := bsz_pos hf x.m
    unfold bsz blk0 at *
    cases hh : fs.find? (fun s => s.k == 4 && s.m == x.m) with
    | none => simp
    | some y =>
      rw [hh] at hp
      simp only at hp ⊢
      rw [if_pos (by omega)]
  unfold szAt
  rw [hx]
  simp only [h4, if_false]
  rw [hst, hb]
  split
  · rfl
  · rw [Int.tdiv_one]
set_option maxRecDepth 100000 in
set_option maxHeartbeats 4000000 in
theorem refBlock_any (A : Option Addr) (n c : Nat) (fs : List Sp) (y : Int) (w : World) (h : Specs w w.heap.size A n fs) (hn : n ≤ 100000) :
    Calls Try.prog 79 #[.slice A n c, .int .i64 y] w fun e w' => e = .returned (.int .i64 (blk0 fs y)) ∧ Below w.heap.size w w' := by
  have HL : Hid (fs.length = n) := h.1
  obtain ⟨FI, HFI⟩ : ∃ b, Hid (blk0 fs y = b) := ⟨_, Lib.hid rfl⟩
  rw [HFI.out]
  go_enter Try.func79, Try.ntmps79
  go_wp2
  go_loopw [9] (fun i wr => ∃ k : Nat, k ≤ n ∧ i = .int .i64 k ∧ Hid (∀ z ∈ fs.take k, ¬ (z.k = 4 ∧ z.m = y)) ∧ Hid (Below w.heap.size w wr)) (fun i _ => n - (intOf i).toNat)
  case atStart => exact ⟨0, Nat.zero_le _, rfl, by unfold Hid; simp, Below.refl _ _⟩
  case round =>
    obtain ⟨k, hk, rfl, HK, HB⟩ := hrel
    have hbw : w.heap.size ≤ wr.heap.size := HB.out.size
    by_cases hlt : k < n
    · obtain ⟨b, off, x, rfl, hbl, HX, c0, c1, c2, xo⟩ := (h.on HB.out (Nat.le_refl _)).at_ hlt
      obtain ⟨w1, hw1⟩ : ∃ w1, wr.alloc (.cells #[.int .i64 x.k, .int .i64 x.m, .int .i64 x.s] 60) = w1 := ⟨_, rfl⟩
      obtain ⟨q0, q1, q2⟩ : w1.cell? ⟨wr.heap.size, 0, none⟩ = some (.int .i64 x.k) ∧ w1.cell? ⟨wr.heap.size, 1, none⟩ = some (.int .i64 x.m) ∧ w1.cell? ⟨wr.heap.size, 2, none⟩ = some (.int .i64 x.s) := by
        have hb : w1.heap[wr.heap.size]? = some (.cells #[.int .i64 x.k, .int .i64 x.m, .int .i64 x.s] 60 (0, 0)) := by rw [← hw1]; exact heap_alloc_new _ _
        exact ⟨cell_of_row _ _ 0 _ _ _ hb, cell_of_row _ _ 1 _ _ _ hb, cell_of_row _ _ 2 _ _ _ hb⟩
      have HB1 : Hid (Below w.heap.size w w1) := by unfold Hid; rw [← hw1]; exact HB.out.alloc hbw _
      have HN : Hid (¬ (x.k = 4 ∧ x.m = y) → ∀ z ∈ fs.take (k + 1), ¬ (z.k = 4 ∧ z.m = y)) := by
        intro hx z hz
        rw [take_succ_of HX.out] at hz
        rcases List.mem_append.1 hz with hz | hz
        · exact HK.out z hz
        · rw [List.mem_singleton.1 hz]; exact hx
      clear HB xo
      by_cases a1 : x.m = y
      · have e1 : (x.m == y) = true := by simpa using a1
        by_cases a2 : x.k = 4
        · have e2 : (x.k == 4) = true := by simpa using a2
          have HF : Hid (FI = x.s) := HFI.out.symm.trans (blk0_hit HX.out a2 a1 HK.out)
          clear a1 a2
          go_wp2
          go_ret
          exact ⟨by rw [HF.out]; rfl, HB1.out⟩
        · have e2 : (x.k == 4) = false := by simpa using a2
          have HN2 := Lib.hid (HN.out fun hh => a2 hh.1)
          clear a1 a2
          go_wp2
          go_roundw
          case rel => exact ⟨k + 1, by omega, by go_num, HN2, HB1⟩
          case measure => simp [intOf]; omega
      · have e1 : (x.m == y) = false := by simpa using a1
        have HN2 := Lib.hid (HN.out fun hh => a1 hh.2)
        clear a1
        go_wp2
        go_roundw
        case rel => exact ⟨k + 1, by omega, by go_num, HN2, HB1⟩
        case measure => simp [intOf]; omega
    · have HF : Hid (FI = 0) := HFI.out.symm.trans (blk0_miss (by
        have := HK.out
        rwa [List.take_of_length_le (by rw [HL.out]; omega)] at this))
      go_wp2
      go_ret
      exact ⟨by rw [HF.out]; rfl, HB.out⟩
end Go.Proofs.Yteepiifhmbcciaa
/- The document's sizes of a form that is one of a shape. -/
namespace Go.Proofs.Yteepiifhmbcciaa
open Go.RowKit

theorem szL_take {xs : List Int} {fs : List Sp} {k : Nat} (hk : k < fs.length) : (sizesL xs fs).take (k + 1) = (sizesL xs fs).take k ++ [szAt xs fs k] := by
  refine take_succ_of ?_
  unfold sizesL
  rw [List.getElem?_map, List.getElem?_range hk]; rfl
theorem szAt_block {xs : List Int} {fs : List Sp} {k : Nat} {x : Sp} (hx : fs[k]? = some x) (h4 : x.k = 4) : szAt xs fs k = x.s := by
  unfold szAt
  rw [hx]
  simp only [h4, if_true]
theorem blk0_range {xs : List Int} {fs : List Sp} (hf : formOK xs fs) (m : Int) (h : ∀ x ∈ fs, x.ok) : 0 ≤ blk0 fs m ∧ blk0 fs m ≤ 9223372036854775807 := by
  unfold blk0
  cases hh : fs.find? (fun s => s.k == 4 && s.m == m) with
  | none => simp
  | some y =>
    have hy := List.find?_some hh
    have hym := List.mem_of_find?_eq_some hh
    simp at hy
    obtain ⟨i, hi⟩ := List.mem_iff_getElem?.1 hym
    have h1 := (h y hym).2.2.2.2.2
    rcases (hf.1 i y hi).2.2.2 with hg | hg
    · exact absurd hy.1 hg.2.1
    · exact ⟨by have := hg.2.2.1; simp only; omega, h1⟩
set_option maxRecDepth 100000 in
set_option maxHeartbeats 8000000 in
theorem refSizesL_any (A : Option Addr) (n c : Nat) (xs : List Int) (Bf : Option Addr) (m e : Nat) (fs : List Sp) (w : World) (h : Ints w w.heap.size A n xs) (_hn : n ≤ 100000) (hf : Specs w w.heap.size Bf m fs) (hm : m ≤ 100000) (h0 : (cellsF xs).2 = 0) (hok : formOK xs fs) :
    Calls Try.prog 55 #[.slice A n c, .slice Bf m e] w fun r w' => ∃ A' c', r = .returned (.slice A' m c') ∧ OwnI w' w.heap.size 3 A' c' (sizesL xs fs) ∧ Below w.heap.size w w' := by
  obtain ⟨i0, hi0, hz0, hz1, hz2⟩ := info_parts infoInt
  have HN := Lib.hid h.1
  have HM := Lib.hid hf.1
  have HF := Lib.hid hok
  have HC0 := Lib.hid h0
  have HSL : Hid ((sizesL xs fs).length = m) := (sizesL_length xs fs).trans hf.1
  have HFO := Lib.hid hf.2.1
  clear h0 hok
  go_enter Try.func55, Try.ntmps55
  go_wp2_with fail
  go_loopw [12, 5] (fun i v wr => ∃ (k : Nat) (A' : Option Addr) (c' : Nat), k ≤ m ∧ i = .int .i64 k ∧ v = .slice A' k c' ∧ Hid (OwnI wr w.heap.size 3 A' c' ((sizesL xs fs).take k)) ∧ Hid (Below w.heap.size w wr)) (fun i _ _ => m - (intOf i).toNat)
  case atStart => exact ⟨0, none, 0, Nat.zero_le _, rfl, rfl, OwnI.nil_ _ _ _, Below.refl _ _⟩
  case round =>
    obtain ⟨k, A', c', hk, rfl, rfl, HO, HB⟩ := hrel
    have hbw : w.heap.size ≤ wr.heap.size := HB.out.size
    by_cases hlt : k < m
    · obtain ⟨b, off, x, rfl, hbl, HX, c0, c1, c2, xo⟩ := (hf.on HB.out (Nat.le_refl _)).at_ hlt
      have hxf := HF.out.1 k x HX.out
      obtain ⟨j, hj⟩ : ∃ j : Nat, x.m = (j : Int) := ⟨x.m.toNat, by have := hxf.1; omega⟩
      have hjn : j < n := by have := hxf.2.1; have := HN.out; omega
      have hkm : k < fs.length := by rw [HM.out]; exact hlt
      obtain ⟨w1, hw1⟩ : ∃ w1, wr.alloc (.cells #[.int .i64 x.k, .int .i64 x.m, .int .i64 x.s] 60) = w1 := ⟨_, rfl⟩
      have hal : Below wr.heap.size wr w1 := by rw [← hw1]; exact (Below.refl _ _).alloc (Nat.le_refl _) _
      have hb1 : w1.heap[wr.heap.size]? = some (.cells #[.int .i64 x.k, .int .i64 x.m, .int .i64 x.s] 60 (0, 0)) := by rw [← hw1]; exact heap_alloc_new _ _
      have HB1 := Lib.hid (HB.out.trans (hal.mono hbw))
      have HO1 := Lib.hid (HO.out.below hal (Nat.le_refl _))
      have HBk := fun W (hW : Below w1.heap.size w1 W) => refBlock_any (some ⟨b, off, none⟩) m e fs (j : Int) W ((hf.on (HB1.out.trans (hW.mono HB1.out.size)) (Nat.le_refl _)).more (HB1.out.trans (hW.mono HB1.out.size)).size) hm
      obtain ⟨bk, hbk⟩ : ∃ z, blk0 fs (j : Int) = z := ⟨_, rfl⟩
      rw [hbk] at HBk
      have hbr := blk0_range HF.out (j : Int) HFO.out
      rw [hbk] at hbr
      obtain ⟨bA, oA, v, rfl, _, HV, cv, v1, v2⟩ := (h.below HB1.out).at_ hjn
      have hv0 : 0 ≤ v := cellsF_nonneg HC0.out v (List.mem_of_getElem? HV.out)
      have hxd : xs.getD x.m.toNat 0 = v := by rw [hj, Int.toNat_natCast]; exact getD_of HV.out
      have htl : ((sizesL xs fs).take k).length = k := by rw [List.length_take, HSL.out]; omega
      have HTL := Lib.hid htl
      rw [hj] at c1 hb1 hw1
      obtain ⟨q0, q1, q2⟩ : w1.cell? ⟨wr.heap.size, 0, none⟩ = some (.int .i64 x.k) ∧ w1.cell? ⟨wr.heap.size, 1, none⟩ = some (.int .i64 (j : Int)) ∧ w1.cell? ⟨wr.heap.size, 2, none⟩ = some (.int .i64 x.s) := ⟨cell_of_row _ _ 0 _ _ _ hb1, cell_of_row _ _ 1 _ _ _ hb1, cell_of_row _ _ 2 _ _ _ hb1⟩
      have hsx := xo.2.2.2.2
      have HKM := Lib.hid hkm
      have hs1 := HB1.out.size
      clear hal hb1 xo hkm HB HO hxf
      by_cases h4 : x.k = 4
      · have e1 : (x.k != 4) = false := by simpa using h4
        have HZ : Hid (szAt xs fs k = x.s) := szAt_block HX.out h4
        clear h4 hj hxd htl
        go_wp2_with (first | (go_at_call 79; skip) | (at_builtin; refine wpList_appendInts _ rfl (.tmp 35) (.tmp 37) 22 rfl w.heap.size 3 i0 Try.underlying22 hi0 hz0 hz1 hz2 A' (some ⟨w1.heap.size, 0, none⟩) c' 1 1 (w1.heap.size + 1) k (k + 1) ((sizesL xs fs).take k) [x.s] rfl rfl (HO1.out.alloc _) HTL.out rfl (src_new w1 hsx) (by omega) (by simp; omega) ?_; intro A2 c2 w4 HO2 HG2; have hb4 := below_app (HB1.out.alloc hs1 _) HG2 (HO1.out.alloc _) HTL.out (by simp; omega); have HO4 := Lib.hid HO2; have HB4 := Lib.hid hb4; clear HO2 HG2 hb4))
        go_roundw
        case rel => exact ⟨k + 1, A2, c2, by omega, by go_num, rfl, by unfold Hid; rw [szL_take HKM.out, HZ.out]; exact HO4.out, HB4⟩
        case measure => simp [intOf]; omega
      · have e1 : (x.k != 4) = true := by simpa using h4
        have hz := szAt_plain HF.out HX.out h4
        rw [hxd, hj, hbk] at hz
        by_cases hb0 : 0 < bk
        · rw [if_pos hb0] at hz
          obtain ⟨q, hq⟩ : ∃ q, v.tdiv bk = q := ⟨_, rfl⟩
          have hq0 : 0 ≤ q ∧ q ≤ v := by rw [← hq]; exact ⟨Int.tdiv_nonneg hv0 (by omega), Int.tdiv_le_self _ hv0⟩
          have hqr : -9223372036854775808 ≤ q ∧ q ≤ 9223372036854775807 := ⟨by omega, by omega⟩
          have hqw : IntKind.i64.wrap (v.tdiv bk) = q := by
            rw [hq]
            have h := IntWalk.wrap64_in q ⟨by omega, by omega⟩
            first | exact h | (rw [wrap_eq]; exact h)
          have et : (bk == 0) = false := by simp; omega
          have HZ : Hid (szAt xs fs k = q) := hz.trans hq
          have e2 : decide (0 < bk) = true := by simpa using hb0
          have hb9 : 1 ≤ bk := hb0
          clear h4 hj hxd htl hz hb0 hq hq0 hbr hv0
          go_wp2_with (first | (go_at_call 79; refine (HBk _ (Below.refl _ _)).mono ?_; rintro e w3 ⟨rfl, hb3⟩; have HO3 := Lib.hid (HO1.out.below hb3 (Nat.le_refl _)); have HB3 := Lib.hid (HB1.out.trans (hb3.mono hs1)); have hs3 := HB3.out.size; clear hb3) | (at_builtin; refine wpList_appendInts _ rfl (.tmp 35) (.tmp 37) 22 rfl w.heap.size 3 i0 Try.underlying22 hi0 hz0 hz1 hz2 A' (some ⟨w3.heap.size, 0, none⟩) c' 1 1 (w3.heap.size + 1) k (k + 1) ((sizesL xs fs).take k) [q] rfl rfl (HO3.out.alloc _) HTL.out rfl (src_new w3 hqr) (by omega) (by simp; omega) ?_; intro A2 c2 w4 HO2 HG2; have hb4 := below_app (HB3.out.alloc hs3 _) HG2 (HO3.out.alloc _) HTL.out (by simp; omega); have HO4 := Lib.hid HO2; have HB4 := Lib.hid hb4; clear HO2 HG2 hb4))
          go_roundw
          case rel => exact ⟨k + 1, A2, c2, by omega, by go_num, rfl, by unfold Hid; rw [szL_take HKM.out, HZ.out]; exact HO4.out, HB4⟩
          case measure => simp [intOf]; omega
        · rw [if_neg hb0] at hz
          have HZ : Hid (szAt xs fs k = v) := hz
          have e2 : decide (0 < bk) = false := by simpa using hb0
          have hvr : -9223372036854775808 ≤ v ∧ v ≤ 9223372036854775807 := ⟨v1, v2⟩
          clear h4 hj hxd htl hz hb0 hbr
          go_wp2_with (first | (go_at_call 79; refine (HBk _ (Below.refl _ _)).mono ?_; rintro e w3 ⟨rfl, hb3⟩; have HO3 := Lib.hid (HO1.out.below hb3 (Nat.le_refl _)); have HB3 := Lib.hid (HB1.out.trans (hb3.mono hs1)); have hs3 := HB3.out.size; clear hb3) | (at_builtin; refine wpList_appendInts _ rfl (.tmp 35) (.tmp 37) 22 rfl w.heap.size 3 i0 Try.underlying22 hi0 hz0 hz1 hz2 A' (some ⟨w3.heap.size, 0, none⟩) c' 1 1 (w3.heap.size + 1) k (k + 1) ((sizesL xs fs).take k) [v] rfl rfl (HO3.out.alloc _) HTL.out rfl (src_new w3 hvr) (by omega) (by simp; omega) ?_; intro A2 c2 w4 HO2 HG2; have hb4 := below_app (HB3.out.alloc hs3 _) HG2 (HO3.out.alloc _) HTL.out (by simp; omega); have HO4 := Lib.hid HO2; have HB4 := Lib.hid hb4; clear HO2 HG2 hb4))
          go_roundw
          case rel => exact ⟨k + 1, A2, c2, by omega, by go_num, rfl, by unfold Hid; rw [szL_take HKM.out, HZ.out]; exact HO4.out, HB4⟩
          case measure => simp [intOf]; omega
    · obtain rfl : k = m := by omega
      have HE : Hid ((sizesL xs fs).take k = sizesL xs fs) := List.take_of_length_le (by rw [HSL.out]; omega)
      go_wp2_with fail
      go_ret
      exact ⟨A', c', rfl, by have := HO.out; rw [HE.out] at this; exact this, HB.out⟩
end Go.Proofs.Yteepiifhmbcciaa
/- The contract of the document's form of a level. -/
namespace Go.Proofs.Yteepiifhmbcciaa
open Go.RowKit

noncomputable def formF (K S : Int) (xs ys : List Int) (a : Int) : Int := if pB (MayP K S a ∧ ToldP K xs ys a) = true then 0 else 1
theorem formF_0 {K S a : Int} {xs ys : List Int} (h : MayP K S a ∧ ToldP K xs ys a) : formF K S xs ys a = 0 := by unfold formF; rw [if_pos (pB_t h)]
theorem formF_1 {K S a : Int} {xs ys : List Int} (h : ¬ (MayP K S a ∧ ToldP K xs ys a)) : formF K S xs ys a = 1 := by unfold formF; rw [if_neg (by rw [pB_f h]; decide)]
theorem sort_take {xs : List Int} {p : Nat} (h : ∀ (j : Nat) (x y : Int), j < p → xs[j]? = some x → xs[j + 1]? = some y → x ≤ y) (hp : xs.length ≤ p + 1) : SortP xs := by
  intro j x y hx hy
  have := (List.getElem?_eq_some_iff.1 hy).1
  exact h j x y (by omega) hx hy

set_option maxRecDepth 100000 in
set_option maxHeartbeats 1000000 in
theorem refForm_1 (S : Int) (A B : Option Addr) (n c m e a : Nat) (xs ys : List Int) (w : World) (h : Ints w w.heap.size A n xs) (hn : n ≤ 100000) (_hm : m ≤ 100000) (hl : ys.length = m) (ha : a ≤ 1048576) (hS0 : 0 ≤ S) (hS1 : S ≤ 2147483648) :
    Calls Try.prog 96 #[lvV 1 S A n c B m e, .int .i64 a] w fun x w' => x = .returned (.int .i64 (formF 1 S xs ys a)) ∧ Below w.heap.size w w' := by
  have hK : (1 : Int) = 1 ∨ (1 : Int) = 2 := by omega
  have hln := h.1
  have HLn : Hid (xs.length = n) := h.1
  have HC := fun W => refWhole_any 1 S A B n c m e W
  have hwb : wholeB 1 = false := rfl
  rw [hwb] at HC
  have z0 := lvBelow w (lvO 1 S A n c B m e)
  have zz := heap_alloc_new w (lvO 1 S A n c B m e)
  have e1 : IntKind.i64.wrap ((a : Int) + 1) = (a : Int) + 1 := by rw [IntWalk.i64_in _ (by omega)]
  have hMay : Hid (MayP 1 S a) := by unfold Hid MayP; omega
  have hT := told_pos hK xs ys a
  rw [hl, hln] at hT
  clear hwb hK
  by_cases h1 : n = a + 1
  · obtain ⟨b, off, x0, rfl, hbb, HX0, hc0, hx01, hx02⟩ := h.at_ (k := 0) (by omega)
    obtain ⟨b2, off2, xa, e2, _, HXA, hca, hxa1, hxa2⟩ := h.at_ (k := a) (by omega)
    injection e2 with e2; injection e2 with e2 e3; subst e2; subst e3
    have d1 : ((n : Int) == (a : Int) + 1) = true := by simp; omega
    have d1' : ((n : Int) != (a : Int) + 1) = false := by simp; omega
    rw [Nat.add_zero] at hc0
    have g0 : (0 : Int) < n := by omega
    have g1 : (a : Int) < n := by omega
    have g2 : (0 : Int) ≤ a := by omega
    have g3 : 0 < n := by omega
    by_cases hx0 : x0 = 0
    · subst hx0
      by_cases hxa : xa = m
      · subst hxa
        have d2 : ((m : Int) == (m : Int)) = true := by simp
        have d3 : ((m : Int) != (m : Int)) = false := by simp
        have d4 : ((0 : Int) != 0) = false := by simp
        have d5 : ((0 : Int) == 0) = true := by simp
        have HS : Hid (ToldP 1 xs ys a ↔ SortP xs) := ⟨fun q => (hT.1 q).2.2.2, fun q => hT.2 ⟨h1, HX0.out, HXA.out, q⟩⟩
        have i1 : n ≤ a + 1 := by omega
        have i2 : a + 1 ≤ n := by omega
        clear hT HX0 HXA h1 hln hl
        go_enter Try.func96, Try.ntmps96
        go_wp2_with (go_at_call 82; refine (HC _).mono ?_; rintro x w1 ⟨rfl, hb1⟩; have hb2 := z0.trans (hb1.mono z0.size); have hk2 := oKeep hb1 zz; obtain ⟨k0, k1, k2, k3, _⟩ := lvCells hk2; have j0 := (hb2.cell (p := ⟨b, off, none⟩) hbb).trans hc0; have ja := (hb2.cell (p := ⟨b, off + a, none⟩) hbb).trans hca)
        go_quiet (fail)
        go_wp2
        have hk3 := hk2
        have hb3 := below_drewN2 hb2 nq
        clear k0 k1 k2 k3 j0 ja hb1 hk2 hb2 zz z0 hc0 hca
        obtain ⟨wo, hwo⟩ : ∃ wo : World, wo = w1.drewN nq := ⟨_, rfl⟩
        have hk4 : wo.heap[w.heap.size]? = some (lvO 1 S (some ⟨b, off, none⟩) n c B m e) := by rw [hwo]; exact hk3
        rw [← hwo] at hb3 ⊢
        clear hwo hk3
        go_loopw [76] (fun i wr => ∃ p q : Nat, p ≤ a ∧ i = .int .i64 p ∧ wr = wo.drewN q ∧ Hid (∀ (j : Nat) (x y : Int), j < p → xs[j]? = some x → xs[j + 1]? = some y → x ≤ y)) (fun i _ => a - (intOf i).toNat)
        case atStart => exact ⟨0, 0, Nat.zero_le _, rfl, rfl, by unfold Hid; intro j x y hj; omega⟩
        case round =>
          obtain ⟨p, q, hp, rfl, rfl, HJ⟩ := hrel
          by_cases hlt : p < a
          · obtain ⟨k0, k1, k2, k3, _⟩ := lvCells hk4
            obtain ⟨b5, off5, u, e5, _, HU, hc5, hu1, hu2⟩ := (h.below hb3).at_ (k := p) (by omega)
            obtain ⟨b6, off6, v, e6, _, HV, hc6, hv1, hv2⟩ := (h.below hb3).at_ (k := p + 1) (by omega)
            injection e5 with e5; injection e5 with e5 e5'; subst e5; subst e5'
            injection e6 with e6; injection e6 with e6 e6'; subst e6; subst e6'
            have e8 : IntKind.i64.wrap ((p : Int) + 1) = (p : Int) + 1 := by rw [IntWalk.i64_in _ (by omega)]
            have t0 : (0 : Int) ≤ p := by omega
            have t1 : (p : Int) < n := by omega
            have t2 : (p : Int) + 1 < n := by omega
            have t3 : (0 : Int) ≤ (p : Int) + 1 := by omega
            have t4 : ((p : Int) + 1).toNat = p + 1 := by omega
            by_cases huv : v < u
            · have HF : Hid (formF 1 S xs ys a = 1) := formF_1 (fun hh => by have := HS.out.1 hh.2 p u v HU.out HV.out; omega)
              have d6 : decide (v < u) = true := by simpa using huv
              clear huv
              go_wp2
              go_quiet (fail)
              go_wp2
              go_ret
              exact ⟨ret_of (by rw [HF.out]; rfl), below_drewN2 (below_drewN2 hb3 _) _⟩
            · have HN : Hid (∀ (j : Nat) (x y : Int), j < p + 1 → xs[j]? = some x → xs[j + 1]? = some y → x ≤ y) := by
                intro j x y hj hx hy
                by_cases ej : j = p
                · subst ej
                  rw [HU.out] at hx; rw [HV.out] at hy
                  injection hx with hx; injection hy with hy; omega
                · exact HJ.out j x y (by omega) hx hy
              have d6 : decide (v < u) = false := by simpa using huv
              clear huv
              go_wp2
              go_quiet (fail)
              go_wp2
              go_roundw
              case rel => exact ⟨p + 1, _, by omega, by go_num, rfl, HN⟩
              case measure => simp [intOf]; omega
          · have HF : Hid (formF 1 S xs ys a = 0) := formF_0 ⟨hMay.out, HS.out.2 (sort_take HJ.out (by rw [HLn.out]; omega))⟩
            go_wp2
            go_ret
            exact ⟨ret_of (by rw [HF.out]; rfl), below_drewN2 hb3 _⟩
      · have d2 : (xa == (m : Int)) = false := by simpa using hxa
        have d3 : (xa != (m : Int)) = true := by simpa using hxa
        have d4 : ((0 : Int) != 0) = false := by simp
        have HF : Hid (formF 1 S xs ys a = 1) := formF_1 (fun q => by have := (hT.1 q.2).2.2.1; rw [HXA.out] at this; injection this with this; exact hxa this)
        clear hT h1 HX0 HXA hxa h hln hl
        go_enter Try.func96, Try.ntmps96
        go_wp2_with (go_at_call 82; refine (HC _).mono ?_; rintro x w1 ⟨rfl, hb1⟩; have hb2 := z0.trans (hb1.mono z0.size); have hk2 := oKeep hb1 zz; obtain ⟨k0, k1, k2, k3, _⟩ := lvCells hk2; have j0 := (hb2.cell (p := ⟨b, off, none⟩) hbb).trans hc0; have ja := (hb2.cell (p := ⟨b, off + a, none⟩) hbb).trans hca)
        go_quiet (fail)
        go_wp2
        go_ret
        exact ⟨ret_of (by rw [HF.out]; rfl), below_drewN2 hb2 _⟩
    · have d2 : (x0 == 0) = false := by simpa using hx0
      have d3 : (x0 != 0) = true := by simpa using hx0
      have HF : Hid (formF 1 S xs ys a = 1) := formF_1 (fun q => by have := (hT.1 q.2).2.1; rw [HX0.out] at this; injection this with this; exact hx0 this)
      clear hT h1 HX0 HXA hca hx0 h hln hl
      go_enter Try.func96, Try.ntmps96
      go_wp2_with (go_at_call 82; refine (HC _).mono ?_; rintro x w1 ⟨rfl, hb1⟩; have hb2 := z0.trans (hb1.mono z0.size); have hk2 := oKeep hb1 zz; obtain ⟨k0, k1, k2, k3, _⟩ := lvCells hk2; have j0 := (hb2.cell (p := ⟨b, off, none⟩) hbb).trans hc0)
      go_quiet (fail)
      go_wp2
      go_ret
      exact ⟨ret_of (by rw [HF.out]; rfl), below_drewN2 hb2 _⟩
  · have d1 : ((n : Int) == (a : Int) + 1) = false := by simp; omega
    have d1' : ((n : Int) != (a : Int) + 1) = true := by simp; omega
    have HF : Hid (formF 1 S xs ys a = 1) := formF_1 (fun q => h1 (hT.1 q.2).1)
    clear hT h1 h hln hl
    go_enter Try.func96, Try.ntmps96
    go_wp2_with (go_at_call 82; refine (HC _).mono ?_; rintro x w1 ⟨rfl, hb1⟩; have hb2 := z0.trans (hb1.mono z0.size); have hk2 := oKeep hb1 zz; obtain ⟨k0, k1, k2, k3, _⟩ := lvCells hk2)
    go_quiet (fail)
    go_wp2
    go_ret
    exact ⟨ret_of (by rw [HF.out]; rfl), below_drewN2 hb2 _⟩

set_option maxRecDepth 100000 in
set_option maxHeartbeats 1000000 in
theorem refForm_2 (S : Int) (A B : Option Addr) (n c m e a : Nat) (xs ys : List Int) (w : World) (h : Ints w w.heap.size A n xs) (hn : n ≤ 100000) (_hm : m ≤ 100000) (hl : ys.length = m) (ha : a ≤ 1048576) (hS0 : 0 ≤ S) (hS1 : S ≤ 2147483648) :
    Calls Try.prog 96 #[lvV 2 S A n c B m e, .int .i64 a] w fun x w' => x = .returned (.int .i64 (formF 2 S xs ys a)) ∧ Below w.heap.size w w' := by
  have hK : (2 : Int) = 1 ∨ (2 : Int) = 2 := by omega
  have hln := h.1
  have HLn : Hid (xs.length = n) := h.1
  have HC := fun W => refWhole_any 2 S A B n c m e W
  have hwb : wholeB 2 = false := rfl
  rw [hwb] at HC
  have z0 := lvBelow w (lvO 2 S A n c B m e)
  have zz := heap_alloc_new w (lvO 2 S A n c B m e)
  have e1 : IntKind.i64.wrap ((a : Int) + 1) = (a : Int) + 1 := by rw [IntWalk.i64_in _ (by omega)]
  have hMay : Hid (MayP 2 S a) := by unfold Hid MayP; omega
  have hT := told_pos hK xs ys a
  rw [hl, hln] at hT
  clear hwb hK
  by_cases h1 : n = a + 1
  · obtain ⟨b, off, x0, rfl, hbb, HX0, hc0, hx01, hx02⟩ := h.at_ (k := 0) (by omega)
    obtain ⟨b2, off2, xa, e2, _, HXA, hca, hxa1, hxa2⟩ := h.at_ (k := a) (by omega)
    injection e2 with e2; injection e2 with e2 e3; subst e2; subst e3
    have d1 : ((n : Int) == (a : Int) + 1) = true := by simp; omega
    have d1' : ((n : Int) != (a : Int) + 1) = false := by simp; omega
    rw [Nat.add_zero] at hc0
    have g0 : (0 : Int) < n := by omega
    have g1 : (a : Int) < n := by omega
    have g2 : (0 : Int) ≤ a := by omega
    have g3 : 0 < n := by omega
    by_cases hx0 : x0 = 0
    · subst hx0
      by_cases hxa : xa = m
      · subst hxa
        have d2 : ((m : Int) == (m : Int)) = true := by simp
        have d3 : ((m : Int) != (m : Int)) = false := by simp
        have d4 : ((0 : Int) != 0) = false := by simp
        have d5 : ((0 : Int) == 0) = true := by simp
        have HS : Hid (ToldP 2 xs ys a ↔ SortP xs) := ⟨fun q => (hT.1 q).2.2.2, fun q => hT.2 ⟨h1, HX0.out, HXA.out, q⟩⟩
        have i1 : n ≤ a + 1 := by omega
        have i2 : a + 1 ≤ n := by omega
        clear hT HX0 HXA h1 hln hl
        go_enter Try.func96, Try.ntmps96
        go_wp2_with (go_at_call 82; refine (HC _).mono ?_; rintro x w1 ⟨rfl, hb1⟩; have hb2 := z0.trans (hb1.mono z0.size); have hk2 := oKeep hb1 zz; obtain ⟨k0, k1, k2, k3, _⟩ := lvCells hk2; have j0 := (hb2.cell (p := ⟨b, off, none⟩) hbb).trans hc0; have ja := (hb2.cell (p := ⟨b, off + a, none⟩) hbb).trans hca)
        go_quiet (fail)
        go_wp2
        have hk3 := hk2
        have hb3 := below_drewN2 hb2 nq
        clear k0 k1 k2 k3 j0 ja hb1 hk2 hb2 zz z0 hc0 hca
        obtain ⟨wo, hwo⟩ : ∃ wo : World, wo = w1.drewN nq := ⟨_, rfl⟩
        have hk4 : wo.heap[w.heap.size]? = some (lvO 2 S (some ⟨b, off, none⟩) n c B m e) := by rw [hwo]; exact hk3
        rw [← hwo] at hb3 ⊢
        clear hwo hk3
        go_loopw [76] (fun i wr => ∃ p q : Nat, p ≤ a ∧ i = .int .i64 p ∧ wr = wo.drewN q ∧ Hid (∀ (j : Nat) (x y : Int), j < p → xs[j]? = some x → xs[j + 1]? = some y → x ≤ y)) (fun i _ => a - (intOf i).toNat)
        case atStart => exact ⟨0, 0, Nat.zero_le _, rfl, rfl, by unfold Hid; intro j x y hj; omega⟩
        case round =>
          obtain ⟨p, q, hp, rfl, rfl, HJ⟩ := hrel
          by_cases hlt : p < a
          · obtain ⟨k0, k1, k2, k3, _⟩ := lvCells hk4
            obtain ⟨b5, off5, u, e5, _, HU, hc5, hu1, hu2⟩ := (h.below hb3).at_ (k := p) (by omega)
            obtain ⟨b6, off6, v, e6, _, HV, hc6, hv1, hv2⟩ := (h.below hb3).at_ (k := p + 1) (by omega)
            injection e5 with e5; injection e5 with e5 e5'; subst e5; subst e5'
            injection e6 with e6; injection e6 with e6 e6'; subst e6; subst e6'
            have e8 : IntKind.i64.wrap ((p : Int) + 1) = (p : Int) + 1 := by rw [IntWalk.i64_in _ (by omega)]
            have t0 : (0 : Int) ≤ p := by omega
            have t1 : (p : Int) < n := by omega
            have t2 : (p : Int) + 1 < n := by omega
            have t3 : (0 : Int) ≤ (p : Int) + 1 := by omega
            have t4 : ((p : Int) + 1).toNat = p + 1 := by omega
            by_cases huv : v < u
            · have HF : Hid (formF 2 S xs ys a = 1) := formF_1 (fun hh => by have := HS.out.1 hh.2 p u v HU.out HV.out; omega)
              have d6 : decide (v < u) = true := by simpa using huv
              clear huv
              go_wp2
              go_quiet (fail)
              go_wp2
              go_ret
              exact ⟨ret_of (by rw [HF.out]; rfl), below_drewN2 (below_drewN2 hb3 _) _⟩
            · have HN : Hid (∀ (j : Nat) (x y : Int), j < p + 1 → xs[j]? = some x → xs[j + 1]? = some y → x ≤ y) := by
                intro j x y hj hx hy
                by_cases ej : j = p
                · subst ej
                  rw [HU.out] at hx; rw [HV.out] at hy
                  injection hx with hx; injection hy with hy; omega
                · exact HJ.out j x y (by omega) hx hy
              have d6 : decide (v < u) = false := by simpa using huv
              clear huv
              go_wp2
              go_quiet (fail)
              go_wp2
              go_roundw
              case rel => exact ⟨p + 1, _, by omega, by go_num, rfl, HN⟩
              case measure => simp [intOf]; omega
          · have HF : Hid (formF 2 S xs ys a = 0) := formF_0 ⟨hMay.out, HS.out.2 (sort_take HJ.out (by rw [HLn.out]; omega))⟩
            go_wp2
            go_ret
            exact ⟨ret_of (by rw [HF.out]; rfl), below_drewN2 hb3 _⟩
      · have d2 : (xa == (m : Int)) = false := by simpa using hxa
        have d3 : (xa != (m : Int)) = true := by simpa using hxa
        have d4 : ((0 : Int) != 0) = false := by simp
        have HF : Hid (formF 2 S xs ys a = 1) := formF_1 (fun q => by have := (hT.1 q.2).2.2.1; rw [HXA.out] at this; injection this with this; exact hxa this)
        clear hT h1 HX0 HXA hxa h hln hl
        go_enter Try.func96, Try.ntmps96
        go_wp2_with (go_at_call 82; refine (HC _).mono ?_; rintro x w1 ⟨rfl, hb1⟩; have hb2 := z0.trans (hb1.mono z0.size); have hk2 := oKeep hb1 zz; obtain ⟨k0, k1, k2, k3, _⟩ := lvCells hk2; have j0 := (hb2.cell (p := ⟨b, off, none⟩) hbb).trans hc0; have ja := (hb2.cell (p := ⟨b, off + a, none⟩) hbb).trans hca)
        go_quiet (fail)
        go_wp2
        go_ret
        exact ⟨ret_of (by rw [HF.out]; rfl), below_drewN2 hb2 _⟩
    · have d2 : (x0 == 0) = false := by simpa using hx0
      have d3 : (x0 != 0) = true := by simpa using hx0
      have HF : Hid (formF 2 S xs ys a = 1) := formF_1 (fun q => by have := (hT.1 q.2).2.1; rw [HX0.out] at this; injection this with this; exact hx0 this)
      clear hT h1 HX0 HXA hca hx0 h hln hl
      go_enter Try.func96, Try.ntmps96
      go_wp2_with (go_at_call 82; refine (HC _).mono ?_; rintro x w1 ⟨rfl, hb1⟩; have hb2 := z0.trans (hb1.mono z0.size); have hk2 := oKeep hb1 zz; obtain ⟨k0, k1, k2, k3, _⟩ := lvCells hk2; have j0 := (hb2.cell (p := ⟨b, off, none⟩) hbb).trans hc0)
      go_quiet (fail)
      go_wp2
      go_ret
      exact ⟨ret_of (by rw [HF.out]; rfl), below_drewN2 hb2 _⟩
  · have d1 : ((n : Int) == (a : Int) + 1) = false := by simp; omega
    have d1' : ((n : Int) != (a : Int) + 1) = true := by simp; omega
    have HF : Hid (formF 2 S xs ys a = 1) := formF_1 (fun q => h1 (hT.1 q.2).1)
    clear hT h1 h hln hl
    go_enter Try.func96, Try.ntmps96
    go_wp2_with (go_at_call 82; refine (HC _).mono ?_; rintro x w1 ⟨rfl, hb1⟩; have hb2 := z0.trans (hb1.mono z0.size); have hk2 := oKeep hb1 zz; obtain ⟨k0, k1, k2, k3, _⟩ := lvCells hk2)
    go_quiet (fail)
    go_wp2
    go_ret
    exact ⟨ret_of (by rw [HF.out]; rfl), below_drewN2 hb2 _⟩

set_option maxRecDepth 100000 in
set_option maxHeartbeats 1000000 in
theorem refForm_any (K S : Int) (A B : Option Addr) (n c m e a : Nat) (xs ys : List Int) (w : World) (h : Ints w w.heap.size A n xs) (hn : n ≤ 100000) (hm : m ≤ 100000) (hl : ys.length = m) (ha : a ≤ 1048576) (hS0 : 0 ≤ S) (hS1 : S ≤ 2147483648) :
    Calls Try.prog 96 #[lvV K S A n c B m e, .int .i64 a] w fun x w' => x = .returned (.int .i64 (formF K S xs ys a)) ∧ Below w.heap.size w w' := by
  by_cases h1 : K = 1
  · subst h1; exact refForm_1 S A B n c m e a xs ys w h hn hm hl ha hS0 hS1
  by_cases h2 : K = 2
  · subst h2; exact refForm_2 S A B n c m e a xs ys w h hn hm hl ha hS0 hS1
  have hln := h.1
  have HC := fun W => refWhole_any K S A B n c m e W
  have z0 := lvBelow w (lvO K S A n c B m e)
  have zz := heap_alloc_new w (lvO K S A n c B m e)
  have k1 : (K == 1) = false := by simp; omega
  have k2 : (K == 2) = false := by simp; omega
  have k1' : (K != 1) = true := by simp; omega
  have k2' : (K != 2) = true := by simp; omega
  by_cases h3 : K = 3
  · have hT : ToldP K xs ys a ↔ n = 0 ∧ m = a := by
      subst h3
      unfold ToldP; rw [← hln, ← hl]
      exact ⟨fun q => ⟨(q.2.1 rfl).1, by have := (q.2.1 rfl).2; omega⟩, fun q => ⟨fun e => by omega, fun _ => ⟨q.1, by omega⟩, fun _ _ e => absurd rfl e⟩⟩
    subst h3
    have hwb : wholeB 3 = false := rfl
    rw [hwb] at HC
    clear hwb k1 k2 k1' k2' h1 h2
    by_cases q1 : n = 0
    · have d1 : decide ((0 : Int) < (n : Int)) = false := by simp; omega
      by_cases q2 : m = a
      · have HF : Hid (formF 3 S xs ys a = 0) := formF_0 ⟨by unfold MayP; omega, hT.2 ⟨q1, q2⟩⟩
        have d2 : ((m : Int) == (a : Int)) = true := by simp; omega
        have d3 : ((m : Int) != (a : Int)) = false := by simp; omega
        clear hT q2 h hl hln
        subst q1
        go_enter Try.func96, Try.ntmps96
        go_wp2_with (go_at_call 82; refine (HC _).mono ?_; rintro x w1 ⟨rfl, hb1⟩; have hb2 := z0.trans (hb1.mono z0.size); have hk2 := oKeep hb1 zz; obtain ⟨k0, k1, k2, k3, _⟩ := lvCells hk2)
        go_ret
        exact ⟨ret_of (by rw [HF.out]; rfl), hb2⟩
      · have HF : Hid (formF 3 S xs ys a = 1) := formF_1 (fun q => q2 (hT.1 q.2).2)
        have d2 : ((m : Int) == (a : Int)) = false := by simp; omega
        have d3 : ((m : Int) != (a : Int)) = true := by simp; omega
        clear hT q2 h hl hln
        subst q1
        go_enter Try.func96, Try.ntmps96
        go_wp2_with (go_at_call 82; refine (HC _).mono ?_; rintro x w1 ⟨rfl, hb1⟩; have hb2 := z0.trans (hb1.mono z0.size); have hk2 := oKeep hb1 zz; obtain ⟨k0, k1, k2, k3, _⟩ := lvCells hk2)
        go_ret
        exact ⟨ret_of (by rw [HF.out]; rfl), hb2⟩
    · have HF : Hid (formF 3 S xs ys a = 1) := formF_1 (fun q => q1 (hT.1 q.2).1)
      have d1 : decide ((0 : Int) < (n : Int)) = true := by simp; omega
      clear hT hln h hl
      go_enter Try.func96, Try.ntmps96
      go_wp2_with (go_at_call 82; refine (HC _).mono ?_; rintro x w1 ⟨rfl, hb1⟩; have hb2 := z0.trans (hb1.mono z0.size); have hk2 := oKeep hb1 zz; obtain ⟨k0, k1, k2, k3, _⟩ := lvCells hk2)
      go_ret
      exact ⟨ret_of (by rw [HF.out]; rfl), hb2⟩
  · have k3 : (K == 3) = false := by simp; omega
    have k3' : (K != 3) = true := by simp; omega
    by_cases hw : wholeB K = true
    · have hk' := wholeB_iff.1 hw
      have hT : MayP K S a ∧ ToldP K xs ys a ↔ (n = 0 ∧ m = 0) ∧ ¬ (K = 4 ∧ S = 0) := by
        unfold ToldP MayP; rw [← hln, ← hl]
        exact ⟨fun q => ⟨q.2.2.2 h1 h2 h3, by have := q.1; omega⟩, fun q => ⟨by have := q.2; omega, fun e => by omega, fun e => absurd e h3, fun _ _ _ => q.1⟩⟩
      rw [hw] at HC
      by_cases q1 : n = 0 ∧ m = 0
      · have d1 : decide ((0 : Int) < (n : Int) + (m : Int)) = false := by simp; omega
        have d1b : ¬ (0 : Int) < (n : Int) + (m : Int) := by omega
        have e1 : IntKind.i64.wrap ((n : Int) + (m : Int)) = (n : Int) + (m : Int) := by rw [IntWalk.i64_in _ (by omega)]
        by_cases q2 : K = 4
        · subst q2
          by_cases q3 : S = 0
          · have HF : Hid (formF 4 S xs ys a = 1) := formF_1 (fun q => (hT.1 q).2 ⟨rfl, q3⟩)
            have d2 : (S == 0) = true := by simpa using q3
            clear hT q1 q3 hln h hl hk' hw
            go_enter Try.func96, Try.ntmps96
            go_wp2_with (go_at_call 82; refine (HC _).mono ?_; rintro x w1 ⟨rfl, hb1⟩; have hb2 := z0.trans (hb1.mono z0.size); have hk2 := oKeep hb1 zz; obtain ⟨k0, k1, k2, k3, _⟩ := lvCells hk2)
            go_ret
            exact ⟨ret_of (by rw [HF.out]; rfl), hb2⟩
          · have HF : Hid (formF 4 S xs ys a = 0) := formF_0 (hT.2 ⟨q1, fun q => q3 q.2⟩)
            have d2 : (S == 0) = false := by simpa using q3
            clear hT q1 q3 hln h hl hk' hw
            go_enter Try.func96, Try.ntmps96
            go_wp2_with (go_at_call 82; refine (HC _).mono ?_; rintro x w1 ⟨rfl, hb1⟩; have hb2 := z0.trans (hb1.mono z0.size); have hk2 := oKeep hb1 zz; obtain ⟨k0, k1, k2, k3, _⟩ := lvCells hk2)
            go_ret
            exact ⟨ret_of (by rw [HF.out]; rfl), hb2⟩
        · have k4 : (K == 4) = false := by simp; omega
          have HF : Hid (formF K S xs ys a = 0) := formF_0 (hT.2 ⟨q1, fun q => q2 q.1⟩)
          clear hT q1 q2 hln h hl hk' hw h1 h2 h3
          go_enter Try.func96, Try.ntmps96
          go_wp2_with (go_at_call 82; refine (HC _).mono ?_; rintro x w1 ⟨rfl, hb1⟩; have hb2 := z0.trans (hb1.mono z0.size); have hk2 := oKeep hb1 zz; obtain ⟨k0, k1, k2, k3, _⟩ := lvCells hk2)
          go_ret
          exact ⟨ret_of (by rw [HF.out]; rfl), hb2⟩
      · have HF : Hid (formF K S xs ys a = 1) := formF_1 (fun q => q1 (hT.1 q).1)
        have d1 : decide ((0 : Int) < (n : Int) + (m : Int)) = true := by simp; omega
        have d1b : (0 : Int) < (n : Int) + (m : Int) := by omega
        have e1 : IntKind.i64.wrap ((n : Int) + (m : Int)) = (n : Int) + (m : Int) := by rw [IntWalk.i64_in _ (by omega)]
        clear hT q1 hln h hl hk' hw h1 h2 h3
        go_enter Try.func96, Try.ntmps96
        go_wp2_with (go_at_call 82; refine (HC _).mono ?_; rintro x w1 ⟨rfl, hb1⟩; have hb2 := z0.trans (hb1.mono z0.size); have hk2 := oKeep hb1 zz; obtain ⟨k0, k1, k2, k3, _⟩ := lvCells hk2)
        go_ret
        exact ⟨ret_of (by rw [HF.out]; rfl), hb2⟩
    · have hw' : wholeB K = false := by simpa using hw
      have hk' := wholeB_not.1 hw'
      have HF : Hid (formF K S xs ys a = 1) := formF_1 (fun q => by have := q.1.1; omega)
      rw [hw'] at HC
      clear hw hw' hk' h1 h2 h3 hln h hl
      go_enter Try.func96, Try.ntmps96
      go_wp2_with (go_at_call 82; refine (HC _).mono ?_; rintro x w1 ⟨rfl, hb1⟩; have hb2 := z0.trans (hb1.mono z0.size); have hk2 := oKeep hb1 zz; obtain ⟨k0, k1, k2, k3, _⟩ := lvCells hk2)
      go_ret
      exact ⟨ret_of (by rw [HF.out]; rfl), hb2⟩
end Go.Proofs.Yteepiifhmbcciaa
