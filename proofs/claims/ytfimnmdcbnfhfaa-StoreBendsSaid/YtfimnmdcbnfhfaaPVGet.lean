/- store.Get: the number at a place, and whether one is there. -/
import Derived.Test.YtfimnmdcbnfhfaaPVGetC
import Derived.Test.YtfimnmdcbnfhfaaG12
import Derived.Test.YtfimnmdcbnfhfaaG3
namespace Go.Proofs.Ytfimnmdcbnfhfaa
open Go.RowKit

theorem inC_of_atF {xs cs : List Int} (h : (atF xs cs).2 = 0) : InC xs cs := by
  have hi := (atF_ok h).2.1
  refine ⟨hi.len.symm, fun m hm => ?_⟩
  have hm2 : m < cs.length := by rw [← hi.len]; exact hm
  have := hi.at_ (List.getElem?_eq_getElem hm) (List.getElem?_eq_getElem hm2)
  rw [List.getD_eq_getElem?_getD, List.getD_eq_getElem?_getD, List.getElem?_eq_getElem hm, List.getElem?_eq_getElem hm2]
  exact this
/-- what Get tells -/
def GetAll (w : World) (t : Ten) (cs : List Int) (e : Ending) (w' : World) : Prop :=
  Below w.heap.size w w' ∧ ((tenE t ≠ 0 ∧ e = .returned (.tuple #[.int .i64 0, .bool false, .int .i64 (tenE t)])) ∨
    (tenE t = 0 ∧ (atF t.xs cs).2 ≠ 0 ∧ e = .returned (.tuple #[.int .i64 0, .bool false, .int .i64 (atF t.xs cs).2])) ∨
    (tenE t = 0 ∧ (atF t.xs cs).2 = 0 ∧ ((∃ q, q < t.vn ∧ cN t.n t.fs t.ls t.ln q = cs ∧ e = .returned (.tuple #[.int .i64 (t.vs.getD q 0), .bool true, .int .i64 0])) ∨
      ((∀ q, q < t.vn → cN t.n t.fs t.ls t.ln q ≠ cs) ∧ e = .returned (.tuple #[.int .i64 0, .bool false, .int .i64 0])))))
theorem Ten.tok {t : Ten} {w : World} (ht : t.In w w.heap.size) (h : tenE t = 0) : Tok t.xs t.fs t.ls ∧ t.vn = ahN t.ls t.ln ∧ t.fn = t.ln := by
  obtain ⟨q1, q2, q3, q4, q5⟩ := tenE_small h
  have hl := ht.lvs.1
  refine ⟨⟨q1, q2, by rw [hl]; exact q3, q5⟩, q4, ?_⟩
  have := q2.1
  have := ht.form.1
  omega
theorem hit_there {t : Ten} {w : World} (ht : t.In w w.heap.size) (hT : Tok t.xs t.fs t.ls) {cs : List Int} (hin : InC t.xs cs) {q : Nat} (hq : q < ahN t.ls t.ln) : HitAt t cs 0 0 q ↔ cN t.n t.fs t.ls t.ln q = cs := by
  have hl : t.ls.length = t.ln := ht.lvs.1
  have hx : t.xs.length = t.n := ht.shape.1
  constructor
  · intro h
    have := hT.there (q := q) (by rw [hl]; exact hq) hin.1 hin.2 (fun j hj => by rw [hl] at hj ⊢; exact h.2.2 j (Nat.zero_le _) hj)
    rw [hl, hx] at this
    exact this
  · intro h
    refine ⟨hq, ?_, fun j _ hj => ?_⟩
    · have := hT.anc_lt t.ln 0 (by omega) q (by rw [Nat.zero_add]; exact hq)
      rw [ahN] at this
      rw [Nat.sub_zero]
      omega
    · have := hT.path_at t.ln (by omega) q hq j hj
      rw [hx, h] at this
      exact this
set_option maxRecDepth 100000 in
set_option maxHeartbeats 4000000 in
theorem stGet_any (t : Ten) (Cc : Option Addr) (cn cc : Nat) (cs : List Int) (w : World) (ht : t.In w w.heap.size) (hc : Ints w w.heap.size Cc cn cs) (hcn : cn ≤ 9223372036854775807) :
    Calls Try.prog 25 #[t.val, .slice Cc cn cc] w (GetAll w t cs) := by
  have HI := Lib.hid ht
  have HC := Lib.hid hc
  obtain ⟨W0, hW0⟩ : ∃ W, w.alloc t.obj = W := ⟨_, rfl⟩
  have HB0 : Hid (Below w.heap.size w W0) := by rw [← hW0]; exact lvBelow w _
  have HX0 : Hid (W0.heap[w.heap.size]? = some t.obj) := by rw [← hW0]; exact heap_alloc_new w _
  have HCK := stCheck_any t W0 (ht.on HB0.out)
  obtain ⟨k0, k1, k2, k3, _⟩ := lvCells HX0.out
  have hw0 : w.heap.size < W0.heap.size := lt_of_heap HX0.out
  by_cases hE : tenE t = 0
  case neg =>
    obtain ⟨E, hEE⟩ : ∃ E, tenE t = E := ⟨_, rfl⟩
    rw [hEE] at HCK hE
    have e1 : (E != 0) = true := by simpa using hE
    have HEE := Lib.hid (And.intro hEE hE)
    clear hE hEE ht hc
    go_enter Try.func25, Try.ntmps25
    go_wp2_with fail
    try rw [hW0]
    refine HCK.mono ?_
    rintro e w1 ⟨rfl, hb1⟩
    have HB1 := Lib.hid (HB0.out.trans (hb1.mono HB0.out.size))
    clear hb1 k0 k1 k2 k3 hW0
    go_wp2_with fail
    go_ret3
    exact ⟨HB1.out, .inl ⟨by rw [HEE.out.1]; exact HEE.out.2, by rw [HEE.out.1]; rfl⟩⟩
  have HAT : Hid (∀ W, Below w.heap.size w W → Calls Try.prog 34 #[.slice t.A t.n t.c, .slice Cc cn cc] W fun e w' => e = .returned (.tuple #[.int .i64 (atF t.xs cs).1, .int .i64 (atF t.xs cs).2]) ∧ Below W.heap.size W w') := fun W hW => at_any t.A Cc t.n cn t.c cc t.xs cs W (HI.out.on hW).shape ((HC.out.below hW).more hW.size) (by have := HI.out.n1; omega) hcn
  have HE := Lib.hid hE
  rw [hE] at HCK
  obtain ⟨hTok, hvn, hfn⟩ := Ten.tok ht hE
  by_cases hA : (atF t.xs cs).2 = 0
  case neg =>
    obtain ⟨E, hEE⟩ : ∃ E, (atF t.xs cs).2 = E := ⟨_, rfl⟩
    rw [hEE] at hA HAT
    have e1 : (E != 0) = true := by simpa using hA
    have HEE := Lib.hid (And.intro hEE hA)
    clear hE hEE ht hc hA hTok hvn hfn
    go_enter Try.func25, Try.ntmps25
    go_wp2_with fail
    try rw [hW0]
    refine HCK.mono ?_
    rintro e w1 ⟨rfl, hb1⟩
    obtain ⟨k0, k1, k2, k3, _⟩ := lvCells (keep_b hb1 HX0.out)
    have HB1 := Lib.hid (HB0.out.trans (hb1.mono HB0.out.size))
    clear hb1 hW0
    go_wp2_with fail
    refine (HAT.out _ HB1.out).mono ?_
    rintro e w2 ⟨rfl, hb2⟩
    have HB2 := Lib.hid (HB1.out.trans (hb2.mono HB1.out.size))
    clear hb2 k0 k1 k2 k3
    go_wp2_with fail
    go_ret3
    exact ⟨HB2.out, .inr (.inl ⟨HE.out, by rw [HEE.out.1]; exact HEE.out.2, by rw [HEE.out.1]; rfl⟩)⟩
  have hin := inC_of_atF hA
  have HA := Lib.hid hA
  rw [hA] at HAT
  obtain rfl : cn = t.n := by
    have h1 := hin.1
    have h2 := hc.1
    have h3 := ht.shape.1
    omega
  have HTOK := Lib.hid hTok
  have HVF := Lib.hid (And.intro hvn hfn)
  have HIN := Lib.hid hin
  obtain ⟨z, hz⟩ : ∃ z, (atF t.xs cs).1 = z := ⟨_, rfl⟩
  rw [hz] at HAT
  clear hE ht hc hA hTok hvn hfn hin hz
  go_enter Try.func25, Try.ntmps25
  go_wp2_with fail
  try rw [hW0]
  refine HCK.mono ?_
  rintro e w1 ⟨rfl, hb1⟩
  have HX1 := Lib.hid (keep_b hb1 HX0.out)
  obtain ⟨k0, k1, k2, k3, _⟩ := lvCells HX1.out
  have HB1 := Lib.hid (HB0.out.trans (hb1.mono HB0.out.size))
  clear hb1 hW0 HCK
  go_wp2_with fail
  refine (HAT.out _ HB1.out).mono ?_
  rintro e w2 ⟨rfl, hb2⟩
  have HB2 := Lib.hid (HB1.out.trans (hb2.mono HB1.out.size))
  have HX2 := Lib.hid (keep_b hb2 HX1.out)
  clear hb2 k0 k1 k2 k3
  obtain ⟨k0, k1, k2, k3, _⟩ := lvCells HX2.out
  go_wp2_with fail
  refine (placesAt_any t w2 (HI.out.on HB2.out) HTOK.out Cc cc cs ((HC.out.below HB2.out).more HB2.out.size) HIN.out).mono ?_
  rintro e w3 ⟨hb3, g, hg, rfl, hblk⟩
  have HB3 := Lib.hid (HB2.out.trans (hb3.mono HB2.out.size))
  have HX3 := Lib.hid (keep_b hb3 HX2.out)
  have HG3 := Lib.hid hblk
  clear hb3 hg hblk k0 k1 k2 k3
  obtain ⟨W5, hW5⟩ : ∃ W, (w3.alloc (.cells #[.slice (some ⟨g, 0, none⟩) t.fn t.fn] 22)).alloc (.cells #[.func (.func 59) #[] #[.pointer (some ⟨w.heap.size, 0, none⟩), .pointer (some ⟨w3.heap.size, 0, none⟩), .pointer (some ⟨w3.heap.size + 1, 0, none⟩)]] 84) = W := ⟨_, rfl⟩
  have hb5 : Below w3.heap.size w3 W5 := by rw [← hW5]; exact ((Below.refl _ _).alloc (Nat.le_refl _) _).alloc (by simp) _
  have HB5 := Lib.hid (HB3.out.trans (hb5.mono HB3.out.size))
  obtain ⟨b, hb⟩ : ∃ b : GB, b = ⟨w.heap.size, w3.heap.size, w3.heap.size + 1, g⟩ := ⟨_, rfl⟩
  have hFx : GB.Fix b t cs W5 := by
    subst hb
    refine ⟨HI.out.on HB5.out, keep_b hb5 HX3.out, ?_, keep_b hb5 HG3.out, ?_⟩
    · rw [← hW5]; exact heapPast_ _ (heap_alloc_new _ _)
    · rw [← hW5]
      have h := heap_alloc_new (w3.alloc (.cells #[.slice (some ⟨g, 0, none⟩) t.fn t.fn] 22)) (.cells #[.func (.func 59) #[] #[.pointer (some ⟨w.heap.size, 0, none⟩), .pointer (some ⟨w3.heap.size, 0, none⟩), .pointer (some ⟨w3.heap.size + 1, 0, none⟩)]] 84)
      rw [World.size_alloc] at h
      exact h
  have hD := get_down b t cs HTOK.out HIN.out HVF.out.2 HVF.out.1 t.ln 0 (by omega) 0 W5 (by show 0 < 1; omega) hFx
  have y8 := (blk_cell (i := 0) hFx.sd rfl).1
  have e1 : b.bt = w.heap.size ∧ b.ba = w3.heap.size ∧ b.bd = w3.heap.size + 1 := by rw [hb]; exact ⟨rfl, rfl, rfl⟩
  rw [e1.1, e1.2.1, e1.2.2, show ((0 : Nat) : Int) = 0 from rfl] at hD
  rw [e1.2.2] at y8
  have hfn5 : b.fn = .func (.func 59) #[] #[.pointer (some ⟨w.heap.size, 0, none⟩), .pointer (some ⟨w3.heap.size, 0, none⟩), .pointer (some ⟨w3.heap.size + 1, 0, none⟩)] := by rw [hb]
  rw [hfn5] at y8
  have HD := Lib.hid hD
  clear hfn5 e1 hb hFx hb5 hD
  go_upto_region 10 with fail
  try rw [hW5]
  go_wp2_with fail
  refine HD.out.mono ?_
  rintro e w9 ⟨hb9, hh⟩
  have HB9 := Lib.hid (HB5.out.trans (hb9.mono HB5.out.size))
  rcases hh with ⟨q, hq, rfl⟩ | ⟨hno, rfl⟩
  · have HQ : Hid (q < t.vn ∧ cN t.n t.fs t.ls t.ln q = cs) := by
      have h1 := hq.1
      exact ⟨by rw [HVF.out.1]; exact h1, (hit_there HI.out HTOK.out HIN.out h1).1 hq⟩
    clear hq hb9 hW5
    go_wp2_with fail
    go_ret3
    exact ⟨HB9.out, .inr (.inr ⟨HE.out, HA.out, .inl ⟨q, HQ.out.1, HQ.out.2, rfl⟩⟩)⟩
  · have HQ : Hid (∀ q, q < t.vn → cN t.n t.fs t.ls t.ln q ≠ cs) := by
      intro q h1 h2
      rw [HVF.out.1] at h1
      exact hno q ((hit_there HI.out HTOK.out HIN.out h1).2 h2)
    clear hno hb9 hW5
    go_wp2_with fail
    go_ret3
    exact ⟨HB9.out, .inr (.inr ⟨HE.out, HA.out, .inr ⟨HQ.out, rfl⟩⟩)⟩
end Go.Proofs.Ytfimnmdcbnfhfaa
