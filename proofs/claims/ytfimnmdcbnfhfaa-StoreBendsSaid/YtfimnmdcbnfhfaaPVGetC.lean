/- store.Get's closure: the number below a node that stands at the places that are asked for. -/
import Derived.Test.YtfimnmdcbnfhfaaG19
import Derived.Test.YtfimnmdcbnfhfaaPVPlAt
namespace Go.Proofs.Ytfimnmdcbnfhfaa
open Go.RowKit Go.Sort

theorem findAt_ex {K S : Int} {xs ys : List Int} {a p : Nat} (HL : Lok K S xs ys a) (hp : p < a) (t : Int) : ∃ f, FindAt K S xs ys p t f := by
  have hst := HL.step p hp
  have key : ∀ d, offN K S xs p + d ≤ offN K S xs (p + 1) → ∃ f, offN K S xs p ≤ f ∧ f ≤ offN K S xs p + d ∧ (∀ j, offN K S xs p ≤ j → j < f → atN K S ys j < t) ∧ (∀ j, f ≤ j → j < offN K S xs p + d → t ≤ atN K S ys j) := by
    intro d
    induction d with
    | zero => intro _; exact ⟨offN K S xs p, Nat.le_refl _, by omega, fun j h1 h2 => by omega, fun j h1 h2 => by omega⟩
    | succ d ih =>
      intro hd
      obtain ⟨f, h1, h2, h3, h4⟩ := ih (by omega)
      by_cases hf : f = offN K S xs p + d
      · by_cases ht : atN K S ys f < t
        · refine ⟨f + 1, by omega, by omega, fun j g1 g2 => ?_, fun j g1 g2 => by omega⟩
          rcases Nat.lt_or_ge j f with g3 | g3
          · exact h3 j g1 g3
          · obtain rfl : j = f := by omega
            exact ht
        · refine ⟨f, h1, by omega, h3, fun j g1 g2 => ?_⟩
          obtain rfl : j = f := by omega
          omega
      · refine ⟨f, h1, by omega, h3, fun j g1 g2 => ?_⟩
        by_cases hj : j < offN K S xs p + d
        · exact h4 j g1 hj
        · have e1 := h4 (j - 1) (by omega) (by omega)
          have e2 := HL.sorted hp (show offN K S xs p ≤ j - 1 by omega) (show j - 1 ≤ j by omega) (by omega)
          omega
  obtain ⟨f, h1, h2, h3, h4⟩ := key (offN K S xs (p + 1) - offN K S xs p) (by omega)
  exact ⟨f, h1, by omega, h3, fun j g1 g2 => h4 j g1 (by omega)⟩
theorem findAt_one {K S : Int} {xs ys : List Int} {p : Nat} {t : Int} {f g : Nat} (hf : FindAt K S xs ys p t f) (hg : FindAt K S xs ys p t g) : f = g := by
  obtain ⟨a1, a2, a3, a4⟩ := hf
  obtain ⟨b1, b2, b3, b4⟩ := hg
  rcases Nat.lt_trichotomy f g with h | h | h
  · have := b3 f a1 h
    have := a4 f (Nat.le_refl _) (by omega)
    omega
  · exact h
  · have := a3 g b1 h
    have := b4 g (Nat.le_refl _) (by omega)
    omega
theorem stFind_fix {K S : Int} {t a p f : Nat} {A B : Option Addr} {n c m e : Nat} {xs ys : List Int} {w : World} (h : LvI w A n B m xs ys) (hme : m ≤ e) (HL : Lok K S xs ys a) (hp : p < a) (ht : (t : Int) < S) (hf : FindAt K S xs ys p t f) :
    Calls Try.prog 60 #[lvV K S A n c B m e, .int .i64 p, .int .i64 (t : Int)] w fun x w' => x = .returned (.tuple #[.int .i64 (f : Int), .int .i64 ((offN K S xs (p + 1) : Nat) : Int)]) ∧ Below w.heap.size w w' :=
  (stFind_any K S t a p A B n c m e xs ys w h hme HL hp ht).mono fun x w' ⟨hb, g, hg, hx⟩ => ⟨by rw [hx, findAt_one hf hg], hb⟩
/-- where the closure's variables lie -/
structure GB where
  bt : Nat
  ba : Nat
  bd : Nat
  ga : Nat
abbrev GB.fn (b : GB) : Value := .func (.func 59) #[] #[.pointer (some ⟨b.bt, 0, none⟩), .pointer (some ⟨b.ba, 0, none⟩), .pointer (some ⟨b.bd, 0, none⟩)]
/-- what stays while it runs: all -/
structure GB.Fix (b : GB) (t : Ten) (cs : List Int) (w : World) : Prop where
  ten : t.In w w.heap.size
  st : w.heap[b.bt]? = some t.obj
  sa : w.heap[b.ba]? = some (.cells #[.slice (some ⟨b.ga, 0, none⟩) t.fn t.fn] 22 (0, 0))
  sg : w.heap[b.ga]? = some (.cells (stC (atR t.fs t.ls cs t.fn t.fn)).toArray 3 (0, 0))
  sd : w.heap[b.bd]? = some (.cells #[b.fn] 84 (0, 0))
theorem GB.Fix.below {b : GB} {t : Ten} {cs : List Int} {w w' : World} (h : b.Fix t cs w) (hb : Below w.heap.size w w') : b.Fix t cs w' :=
  ⟨h.ten.on hb, keep_b hb h.st, keep_b hb h.sa, keep_b hb h.sg, keep_b hb h.sd⟩
/-- a number below node p of level k stands there, from level k on -/
def HitAt (t : Ten) (cs : List Int) (k p q : Nat) : Prop := q < ahN t.ls t.ln ∧ ancD t.ls k (t.ln - k) q = p ∧ ∀ j, k ≤ j → j < t.ln → (pathN t.ls t.ln q)[j]? = some (atK t.fs t.ls cs j)
def GetPost (t : Ten) (cs : List Int) (k p : Nat) (w : World) (e : Ending) (w' : World) : Prop :=
  Below w.heap.size w w' ∧ ((∃ q, HitAt t cs k p q ∧ e = .returned (.tuple #[.int .i64 (t.vs.getD q 0), .bool true])) ∨ ((∀ q, ¬ HitAt t cs k p q) ∧ e = .returned (.tuple #[.int .i64 0, .bool false])))
def GetDown (b : GB) (t : Ten) (cs : List Int) (k : Nat) : Prop := ∀ (p : Nat) (w : World), p < ahN t.ls k → b.Fix t cs w →
  Calls Try.prog 59 #[.int .i64 (k : Int), .int .i64 (p : Int), .pointer (some ⟨b.bt, 0, none⟩), .pointer (some ⟨b.ba, 0, none⟩), .pointer (some ⟨b.bd, 0, none⟩)] w (GetPost t cs k p w)
set_option maxRecDepth 100000 in
set_option maxHeartbeats 4000000 in
theorem get_leaf (b : GB) (t : Ten) (cs : List Int) (hv : t.vn = ahN t.ls t.ln) : GetDown b t cs t.ln := by
  intro p w hp hF
  obtain ⟨bV, oV, v, hVA, hVb, HV, cv, v1, v2⟩ := hF.ten.vals.at_ (k := p) (by omega)
  obtain ⟨f0, f1, f2, f3, _⟩ := lvCells hF.st
  rw [hVA] at f3
  have hvn := hF.ten.vc
  have hv1 := hF.ten.v1
  have hl1 := hF.ten.l1
  have hlt : (p : Int) < (t.vn : Int) := by omega
  have hp0 : (0 : Int) ≤ (p : Int) := by omega
  have HVV : Hid (t.vs.getD p 0 = v) := by unfold Hid; rw [List.getD_eq_getElem?_getD, HV.out]; rfl
  have HH : Hid (HitAt t cs t.ln p p) := ⟨hp, by rw [Nat.sub_self, ancD], fun j h1 h2 => by omega⟩
  clear hp hF hVA HV hVb hv
  go_enter Try.func59, Try.ntmps59
  go_wp2_with fail
  go_ret2
  exact ⟨Below.refl _ _, .inl ⟨p, HH.out, by rw [HVV.out]; rfl⟩⟩
theorem HitAt.child {t : Ten} {cs : List Int} {k p q : Nat} {l : Lv} (h : HitAt t cs k p q) (hk : k < t.ln) (hl : t.ls[k]? = some l) : ancD t.ls (k + 1) (t.ln - (k + 1)) q = ancD t.ls (k + 1) (t.ln - (k + 1)) q ∧ parN l (ahN t.ls k) (ancD t.ls (k + 1) (t.ln - (k + 1)) q) = p := by
  have h2 := h.2.1
  rw [show t.ln - k = (t.ln - (k + 1)) + 1 by omega, ancD_succ hl] at h2
  exact ⟨rfl, h2⟩
/-- where the child that a number is below stands -/
theorem HitAt.spot {t : Ten} {cs : List Int} (hT : Tok t.xs t.fs t.ls) (hln : t.ls.length = t.ln) {k p q : Nat} {l : Lv} (h : HitAt t cs k p q) (hk : k < t.ln) (hl : t.ls[k]? = some l) :
    offN l.k l.s l.xs p ≤ ancD t.ls (k + 1) (t.ln - (k + 1)) q ∧ ancD t.ls (k + 1) (t.ln - (k + 1)) q < offN l.k l.s l.xs (p + 1) ∧ atN l.k l.s l.ys (ancD t.ls (k + 1) (t.ln - (k + 1)) q) = atK t.fs t.ls cs k ∧ HitAt t cs (k + 1) (ancD t.ls (k + 1) (t.ln - (k + 1)) q) q := by
  have hc := (h.child hk hl).2
  have hlt := hT.anc_lt (t.ln - (k + 1)) (k + 1) (by omega) q (by rw [show k + 1 + (t.ln - (k + 1)) = t.ln by omega]; exact h.1)
  rw [ahN_succ hl] at hlt
  obtain ⟨p1, p2, p3⟩ := parN_spec (hT.lok hl) hlt
  rw [hc] at p2 p3
  have hp := path_here hl (t.ln - (k + 1)) (by omega) q
  rw [show k + 1 + (t.ln - (k + 1)) = t.ln by omega, h.2.2 k (Nat.le_refl _) hk] at hp
  refine ⟨p2, p3, by injection hp with hp; exact hp.symm, h.1, rfl, fun j h1 h2 => h.2.2 j (by omega) h2⟩
theorem HitAt.up {t : Ten} {cs : List Int} (hT : Tok t.xs t.fs t.ls) (hln : t.ls.length = t.ln) {k p n q : Nat} {l : Lv} (hk : k < t.ln) (hl : t.ls[k]? = some l) (hp : p < ahN t.ls k) (h1 : offN l.k l.s l.xs p ≤ n) (h2 : n < offN l.k l.s l.xs (p + 1)) (ht : atN l.k l.s l.ys n = atK t.fs t.ls cs k) (h : HitAt t cs (k + 1) n q) : HitAt t cs k p q := by
  refine ⟨h.1, ?_, fun j g1 g2 => ?_⟩
  · rw [show t.ln - k = (t.ln - (k + 1)) + 1 by omega, ancD_succ hl, h.2.1]
    exact parN_eq (hT.lok hl) hp h1 h2
  · by_cases e : j = k
    · subst e
      have hh := path_here hl (t.ln - (j + 1)) (by omega) q
      rw [show j + 1 + (t.ln - (j + 1)) = t.ln by omega, h.2.1, ht] at hh
      exact hh
    · exact h.2.2 j (by omega) g2
set_option maxRecDepth 100000 in
set_option maxHeartbeats 8000000 in
theorem get_node (b : GB) (t : Ten) (cs : List Int) (hT : Tok t.xs t.fs t.ls) (hin : InC t.xs cs) (hfn : t.fn = t.ln) (k : Nat) (hk : k < t.ln) (ih : GetDown b t cs (k + 1)) : GetDown b t cs k := by
  intro p w hp hF
  have hln : t.ls.length = t.ln := hF.ten.lvs.1
  obtain ⟨bl, ol, l, hLA, hbl, HL, d0, d1, d2, d3, li⟩ := hF.ten.lvs.at_ hk
  obtain ⟨f, hf⟩ := hT.spec HL.out
  have hLok := hT.lok HL.out
  have hrg := hT.atK_range HL.out hf hin
  obtain ⟨u, hu⟩ : ∃ u : Nat, atK t.fs t.ls cs k = (u : Int) := ⟨(atK t.fs t.ls cs k).toNat, by omega⟩
  rw [hu] at hrg
  obtain ⟨fst, hfst⟩ := findAt_ex hLok hp (u : Int)
  obtain ⟨lst, hlst⟩ : ∃ q, offN l.k l.s l.xs (p + 1) = q := ⟨_, rfl⟩
  have htot : lst ≤ totN l.k l.s l.ys (ahN t.ls k) := by rw [← hlst]; exact hLok.le_tot (by omega)
  have htot2 := hLok.tot
  have hlb : lst ≤ 1048576 := Nat.le_trans htot htot2
  have hah := hLok.ahead
  -- what a number below stands at
  have HSP : Hid (∀ q, HitAt t cs k p q → offN l.k l.s l.xs p ≤ ancD t.ls (k + 1) (t.ln - (k + 1)) q ∧ ancD t.ls (k + 1) (t.ln - (k + 1)) q < lst ∧ atN l.k l.s l.ys (ancD t.ls (k + 1) (t.ln - (k + 1)) q) = (u : Int) ∧ HitAt t cs (k + 1) (ancD t.ls (k + 1) (t.ln - (k + 1)) q) q) := by
    intro q hq
    have := hq.spot hT hln hk HL.out
    rw [hlst, hu] at this
    exact this
  have HUP : Hid (∀ n q, fst ≤ n → n < lst → atN l.k l.s l.ys n = (u : Int) → HitAt t cs (k + 1) n q → HitAt t cs k p q) := by
    intro n q h1 h2 h3 h4
    exact HitAt.up hT hln hk HL.out hp (by have := hfst.1; omega) (by omega) (by rw [hu]; exact h3) h4
  have HFI : Hid (fst ≤ lst ∧ (∀ q, HitAt t cs k p q → fst ≤ ancD t.ls (k + 1) (t.ln - (k + 1)) q) ∧ (∀ n, fst ≤ n → n < lst → atN l.k l.s l.ys n ≠ (u : Int) → ∀ q, HitAt t cs k p q → n ≤ ancD t.ls (k + 1) (t.ln - (k + 1)) q → False)) := by
    obtain ⟨a1, a2, a3, a4⟩ := hfst
    rw [hlst] at a2 a4
    refine ⟨a2, fun q hq => ?_, fun n h1 h2 h3 q hq h4 => ?_⟩
    · obtain ⟨s1, s2, s3, _⟩ := HSP.out q hq
      rcases Nat.lt_or_ge (ancD t.ls (k + 1) (t.ln - (k + 1)) q) fst with hh | hh
      · have := a3 _ s1 hh; omega
      · exact hh
    · obtain ⟨s1, s2, s3, _⟩ := HSP.out q hq
      have g1 := a4 n h1 h2
      have g2 := hLok.sorted hp (show offN l.k l.s l.xs p ≤ n by omega) h4 (by rw [hlst]; exact s2)
      omega
  obtain ⟨f0, f1, f2, f3, _⟩ := lvCells hF.st
  rw [hLA] at f2
  have hbt := lt_of_heap hF.st
  have hba := lt_of_heap hF.sa
  have hga := lt_of_heap hF.sg
  obtain ⟨a0, _⟩ := blk_cell (i := 0) hF.sa rfl
  obtain ⟨y0, _⟩ := vblk_cell hF.sg (i := k) (v := .int .i64 (u : Int)) (by unfold stC; rw [List.getElem?_map, atR_at _ _ _ (by omega), hu]; rfl)
  have ek : ((k : Int) == (t.ln : Int)) = false := by simp; omega
  have hlnc := hF.ten.lc
  have hln1 := hF.ten.l1
  have gk0 : (0 : Int) ≤ (k : Int) := by omega
  have gk1 : (k : Int) < (t.ln : Int) := by omega
  have gk2 : (k : Int) < (t.fn : Int) := by omega
  obtain ⟨W0, hW0⟩ : ∃ W, w.alloc (lvO l.k l.s l.A l.n l.c l.B l.m l.e) = W := ⟨_, rfl⟩
  have HB0 : Hid (Below w.heap.size w W0) := by rw [← hW0]; exact lvBelow w _
  have HN0 : Hid (W0.heap[w.heap.size]? = some (lvO l.k l.s l.A l.n l.c l.B l.m l.e)) := by rw [← hW0]; exact heap_alloc_new _ _
  have HF0 := Lib.hid (hF.below HB0.out)
  have HLV : Hid (∀ W, Below W0.heap.size W0 W → LvI W l.A l.n l.B l.m l.xs l.ys) := by
    intro W hW
    have hb := HB0.out.trans (hW.mono HB0.out.size)
    exact ((li.below hb).more hb.size).lvI
  have hme := li.me
  have HFD : Hid (∀ W, Below W0.heap.size W0 W → Calls Try.prog 60 #[lvV l.k l.s l.A l.n l.c l.B l.m l.e, .int .i64 p, .int .i64 (u : Int)] W fun x w' => x = .returned (.tuple #[.int .i64 (fst : Int), .int .i64 (lst : Int)]) ∧ Below W.heap.size W w') := by
    intro W hW
    have := stFind_fix (c := l.c) (HLV.out W hW) hme hLok hp hrg.2 hfst
    rw [hlst] at this
    exact this
  have HPL : Hid (∀ n, n < lst → ∀ W, Below W0.heap.size W0 W → Calls Try.prog 53 #[lvV l.k l.s l.A l.n l.c l.B l.m l.e, .int .i64 n] W fun e w' => e = .returned (.int .i64 (atN l.k l.s l.ys n)) ∧ Below W.heap.size W w') := by
    intro n hn W hW
    exact st_place_ok l.k l.s l.A l.B l.n l.c l.m l.e n (ahN t.ls k) l.xs l.ys W (HLV.out W hW).crd hLok (by omega)
  have HIH : Hid (∀ n, fst ≤ n → n < lst → ∀ W, Below W0.heap.size W0 W → Calls Try.prog 59 #[.int .i64 ((k : Int) + 1), .int .i64 (n : Int), .pointer (some ⟨b.bt, 0, none⟩), .pointer (some ⟨b.ba, 0, none⟩), .pointer (some ⟨b.bd, 0, none⟩)] W (GetPost t cs (k + 1) n W)) := by
    intro n h1 h2 W hW
    have := ih n W (by rw [ahN_succ HL.out]; omega) (HF0.out.below hW)
    rw [show ((k + 1 : Nat) : Int) = (k : Int) + 1 by omega] at this
    exact this
  have q0 := fun o => cellPast o d0
  have q1 := fun o => cellPast o d1
  have q2 := fun o => cellPast o d2
  have q3 := fun o => cellPast o d3
  clear ih hLok hf hrg hfst htot htot2 hlst hu li HLV hT hin hp hF
  go_enter Try.func59, Try.ntmps59
  go_upto_region 4 with fail
  try rw [hW0]
  obtain ⟨r0, r1, r2, r3, _⟩ := lvCells HN0.out
  have x0 := cell_regrown r0
  have x1 := cell_regrown r1
  have x2 := cell_regrown r2
  have x3 := cell_regrown r3
  have x4 := cell_regrown ((HB0.out.cell (p := ⟨b.ba, 0, none⟩) hba).trans a0)
  have x5 := cell_regrown ((HB0.out.cell (p := ⟨b.ga, k, none⟩) hga).trans y0)
  have cF := fun d os => Calls.regrown_of (HFD.out (grow (redrawn W0 d) os) (below_regrown W0 d os))
  have hmx : Try.prog.follows .mixedOrders = true := by kernel_rfl
  clear q0 q1 q2 q3 d0 d1 d2 d3 f0 f1 f2 f3
  refine wp_region_quiet_below hmx (by kernel_rfl) ?_
  repeat (quiet_step ((go_at_call 60; with_reducible exact cF _ _)))
  refine wpQuiet_nil ?_
  intro _ hw'
  obtain ⟨⟨dq, osq⟩, hw''⟩ := hw'
  subst hw''
  obtain ⟨W1, hW1⟩ : ∃ W, grow (redrawn W0 dq) osq = W := ⟨_, rfl⟩
  have hb1 := below_regrown W0 dq osq
  rw [hW1] at hb1 ⊢
  have HB1 := Lib.hid hb1
  clear x0 x1 x2 x3 x4 x5 cF r0 r1 r2 r3 hW1 hb1 hW0
  go_wp2_with fail
  go_loopw [12] (fun i wr => ∃ n : Nat, fst ≤ n ∧ n ≤ lst ∧ i = .int .i64 n ∧ Hid (∀ q, HitAt t cs k p q → n ≤ ancD t.ls (k + 1) (t.ln - (k + 1)) q) ∧ Hid (Below W0.heap.size W0 wr)) (fun i _ => lst - (intOf i).toNat)
  case atStart => exact ⟨fst, Nat.le_refl _, HFI.out.1, rfl, HFI.out.2.1, HB1.out⟩
  case round =>
    obtain ⟨n, hn1, hn2, rfl, HN, HB⟩ := hrel
    have hNr := keep_b HB.out HN0.out
    obtain ⟨r0, r1, r2, r3, _⟩ := lvCells hNr
    have hFr := HF0.out.below HB.out
    obtain ⟨a0, _⟩ := blk_cell (i := 0) hFr.sa rfl
    have HBW : Hid (Below w.heap.size w wr) := HB0.out.trans (HB.out.mono HB0.out.size)
    obtain ⟨y0', _⟩ : wr.cell? ⟨b.ga, k, none⟩ = some (.int .i64 (u : Int)) ∧ True := ⟨(HB.out.cell (p := ⟨b.ga, k, none⟩) (by have := HB0.out.size; show b.ga < W0.heap.size; omega)).trans ((HB0.out.cell (p := ⟨b.ga, k, none⟩) hga).trans y0), trivial⟩
    have x0 := cell_regrown r0
    have x1 := cell_regrown r1
    have x2 := cell_regrown r2
    have x3 := cell_regrown r3
    have x4 := cell_regrown a0
    have x5 := cell_regrown y0'
    by_cases hlt : n < lst
    · have dl : decide (n < lst) = true := decide_eq_true hlt
      have dl2 : (n : Int) < (lst : Int) := by omega
      obtain ⟨z, hz⟩ : ∃ z, atN l.k l.s l.ys n = z := ⟨_, rfl⟩
      have hPL := HPL.out n hlt
      rw [hz] at hPL
      have cP := fun d os => Calls.regrown_of (hPL (grow (redrawn wr d) os) (HB.out.trans ((below_regrown wr d os).mono HB.out.size)))
      have HZ := Lib.hid hz
      have HLT : Hid (n + 1 ≤ lst) := hlt
      clear hPL hz
      by_cases hzu : z = (u : Int)
      · have ez : (z == (u : Int)) = true := by simpa using hzu
        have HZU := Lib.hid hzu
        clear hzu hlt
        go_wp2_with fail
        refine wp_region_quiet_below hmx (by kernel_rfl) ?_
        repeat (quiet_step ((go_at_call 53; with_reducible exact cP _ _)))
        refine wpQuiet_nil ?_
        intro _ hw'
        obtain ⟨⟨dq2, osq2⟩, hw''⟩ := hw'
        subst hw''
        obtain ⟨W5, hW5⟩ : ∃ W, grow (redrawn wr dq2) osq2 = W := ⟨_, rfl⟩
        have hb5 := below_regrown wr dq2 osq2
        rw [hW5] at hb5 ⊢
        have HB5 := Lib.hid (HB.out.trans (hb5.mono HB.out.size))
        have hF5 := HF0.out.below HB5.out
        have y7 : W5.cell? ⟨b.bd, 0, none⟩ = some (.func (.func 59) #[] #[.pointer (some ⟨b.bt, 0, none⟩), .pointer (some ⟨b.ba, 0, none⟩), .pointer (some ⟨b.bd, 0, none⟩)]) := (blk_cell (i := 0) hF5.sd rfl).1
        have hC := HIH.out n hn1 (by have := HLT.out; omega) W5 HB5.out
        clear x0 x1 x2 x3 x4 x5 cP r0 r1 r2 r3 a0 y0' hNr hFr hF5 hW5 hb5
        go_wp2_with fail
        refine hC.mono ?_
        rintro e w7 ⟨hb7, hh⟩
        have HB7 := Lib.hid (HB5.out.trans (hb7.mono HB5.out.size))
        rcases hh with ⟨q, hq, rfl⟩ | ⟨hno, rfl⟩
        · have HQ : Hid (HitAt t cs k p q) := HUP.out n q hn1 (by have := HLT.out; omega) (by rw [HZ.out, HZU.out]) hq
          clear hq hb7
          go_wp2_with fail
          go_ret2
          exact ⟨HB0.out.trans (HB7.out.mono HB0.out.size), .inl ⟨q, HQ.out, rfl⟩⟩
        · have HN2 : Hid (∀ q, HitAt t cs k p q → n + 1 ≤ ancD t.ls (k + 1) (t.ln - (k + 1)) q) := by
            intro q hq
            have h1 := HN.out q hq
            rcases Nat.eq_or_lt_of_le h1 with h2 | h2
            · have h3 := (HSP.out q hq).2.2.2
              rw [← h2] at h3
              exact absurd h3 (hno q)
            · exact h2
          clear hno hb7
          go_wp2_with fail
          go_roundw
          case rel => exact ⟨n + 1, by omega, HLT.out, by go_num, HN2, HB7⟩
          case measure => have := HLT.out; simp [intOf]; omega
      · have ez : (z == (u : Int)) = false := by simpa using hzu
        have HNO : Hid (∀ q, ¬ HitAt t cs k p q) := fun q hq => HFI.out.2.2 n hn1 (by have := HLT.out; omega) (by rw [HZ.out]; exact hzu) q hq (HN.out q hq)
        clear hzu hlt
        go_wp2_with fail
        refine wp_region_quiet_below hmx (by kernel_rfl) ?_
        repeat (quiet_step ((go_at_call 53; with_reducible exact cP _ _)))
        refine wpQuiet_nil ?_
        intro _ hw'
        obtain ⟨⟨dq2, osq2⟩, hw''⟩ := hw'
        subst hw''
        obtain ⟨W5, hW5⟩ : ∃ W, grow (redrawn wr dq2) osq2 = W := ⟨_, rfl⟩
        have hb5 := below_regrown wr dq2 osq2
        rw [hW5] at hb5 ⊢
        have HB5 := Lib.hid (HBW.out.trans (hb5.mono HBW.out.size))
        clear x0 x1 x2 x3 x4 x5 cP r0 r1 r2 r3 a0 y0' hNr hFr hW5 hb5
        go_wp2_with fail
        go_ret2
        exact ⟨HB5.out, .inr ⟨HNO.out, rfl⟩⟩
    · have HNO : Hid (∀ q, ¬ HitAt t cs k p q) := fun q hq => by
        have h1 := HN.out q hq
        have h2 := (HSP.out q hq).2.1
        omega
      obtain rfl : n = lst := by omega
      clear hlt ek gk0 gk1 gk2 hlnc hln1 hah hlb hba hga hme hn1 hn2 hbt x0 x1 x2 x3 x4 x5 r0 r1 r2 r3 a0 y0' hNr hFr
      go_wp2_with fail
      go_region
      all_goals
        go_wp2_with fail
        go_ret2
        exact ⟨by first | exact HBW.out | exact HBW.out.drew, .inr ⟨HNO.out, rfl⟩⟩
theorem get_down (b : GB) (t : Ten) (cs : List Int) (hT : Tok t.xs t.fs t.ls) (hin : InC t.xs cs) (hfn : t.fn = t.ln) (hv : t.vn = ahN t.ls t.ln) : ∀ d k, k + d = t.ln → GetDown b t cs k := by
  intro d
  induction d with
  | zero => intro k hk; obtain rfl : k = t.ln := by omega
            exact get_leaf b t cs hv
  | succ d ih => intro k hk; exact get_node b t cs hT hin hfn k (by omega) (ih (k + 1) (by omega))
end Go.Proofs.Ytfimnmdcbnfhfaa
