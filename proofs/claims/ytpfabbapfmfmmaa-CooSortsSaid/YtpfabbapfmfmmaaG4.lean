/- The contracts of box.Check and the document's Check, of few, of box.Same, the document's Equals and Same, of box.Get and the document's Get. -/
import Derived.Test.YtpfabbapfmfmmaaG3
import Derived.Lib.QuietBelow
import Derived.Laws.AppendOwnNone
import Derived.Deep.RegionLaw
import Derived.Deep.DeepCutAuto
namespace Go.Proofs.Ytpfabbapfmfmmaa
open Go.RowKit

/-- Check, of a shape and how many numbers there are -/
def checkF (xs : List Int) (m : Nat) : Int := if (laidF xs).2 = 0 then if (m : Int) = (laidF xs).1 then 0 else 1 else (laidF xs).2

set_option maxRecDepth 100000 in
theorem check_any (A B : Option Addr) (n c m e : Nat) (xs : List Int) (w : World) (h : Ints w w.heap.size A n xs) (hn : n ≤ 9223372036854775807) :
    Calls Try.prog 60 #[.agg #[.slice A n c, .slice B m e]] w fun x w' => x = .returned (.int .i64 (checkF xs m)) ∧ Below w.heap.size w w' := by
  have HC := fun W (hW : Ints W w.heap.size A n xs) => laid_any A n c xs W w.heap.size hW hn
  obtain ⟨N, hN⟩ : ∃ N, (laidF xs).1 = N := ⟨_, rfl⟩
  obtain ⟨E, hE⟩ : ∃ E, (laidF xs).2 = E := ⟨_, rfl⟩
  rw [hN, hE] at HC
  by_cases he : E = 0
  · by_cases hm : (m : Int) = N
    · have HF : Hid (checkF xs m = 0) := by unfold Hid checkF; rw [hE, if_pos he, hN, if_pos hm]
      have e1 : ((m : Int) == N) = true := by simpa using hm
      have e2 : ((m : Int) != N) = false := by simpa using hm
      clear hN hE hm
      subst he
      go_enter Try.func60, Try.ntmps60
      go_wp2_with (go_at_call 82; refine (HC _ (h.alloc (Nat.le_refl _) _)).mono ?_; rintro e w' ⟨rfl, rfl⟩)
      go_ret
      exact ⟨by rw [HF.out]; rfl, (Below.refl _ _).alloc (Nat.le_refl _) _⟩
    · have HF : Hid (checkF xs m = 1) := by unfold Hid checkF; rw [hE, if_pos he, hN, if_neg hm]
      have e1 : ((m : Int) == N) = false := by simpa using hm
      have e2 : ((m : Int) != N) = true := by simpa using hm
      clear hN hE hm
      subst he
      go_enter Try.func60, Try.ntmps60
      go_wp2_with (go_at_call 82; refine (HC _ (h.alloc (Nat.le_refl _) _)).mono ?_; rintro e w' ⟨rfl, rfl⟩)
      go_ret
      exact ⟨by rw [HF.out]; rfl, (Below.refl _ _).alloc (Nat.le_refl _) _⟩
  · have HF : Hid (checkF xs m = E) := by unfold Hid checkF; rw [hE, if_neg he]
    have e1 : (E == 0) = false := by simpa using he
    have e2 : (E != 0) = true := by simpa using he
    clear hN hE he
    go_enter Try.func60, Try.ntmps60
    go_wp2_with (go_at_call 82; refine (HC _ (h.alloc (Nat.le_refl _) _)).mono ?_; rintro e w' ⟨rfl, rfl⟩)
    go_ret
    exact ⟨by rw [HF.out]; rfl, (Below.refl _ _).alloc (Nat.le_refl _) _⟩

theorem checkF_err {xs : List Int} {m : Nat} (h : (cellsF xs).2 ≠ 0) : checkF xs m = (cellsF xs).2 := by
  unfold checkF laidF; rw [if_neg h]; exact if_neg h
theorem checkF_large {xs : List Int} {m : Nat} (h : (cellsF xs).2 = 0) (h2 : 65536 < (cellsF xs).1) : checkF xs m = 2 := by
  unfold checkF laidF; rw [if_pos h, if_pos h2]; rfl
theorem checkF_fit {xs : List Int} {m : Nat} (h : (cellsF xs).2 = 0) (h2 : ¬ 65536 < (cellsF xs).1) : checkF xs m = if (m : Int) = (cellsF xs).1 then 0 else 1 := by
  unfold checkF laidF; rw [if_pos h, if_neg h2]; rfl

set_option maxRecDepth 100000 in
theorem refCheck_any (A B : Option Addr) (n c m e : Nat) (xs : List Int) (w : World) (h : Ints w w.heap.size A n xs) (hn : n ≤ 9223372036854775807) :
    Calls Try.prog 63 #[.agg #[.slice A n c, .slice B m e]] w fun x w' => x = .returned (.int .i64 (checkF xs m)) ∧ Below w.heap.size w w' := by
  have HC := fun W (hW : Ints W w.heap.size A n xs) => refCells_any A n c xs W w.heap.size hW hn
  obtain ⟨N, hN⟩ : ∃ N, (cellsF xs).1 = N := ⟨_, rfl⟩
  obtain ⟨E, hE⟩ : ∃ E, (cellsF xs).2 = E := ⟨_, rfl⟩
  rw [hN, hE] at HC
  by_cases he : E = 0
  · by_cases hl : 65536 < N
    · have HF : Hid (checkF xs m = 2) := checkF_large (by rw [hE]; exact he) (by rw [hN]; exact hl)
      clear hN hE
      subst he
      go_enter Try.func63, Try.ntmps63
      go_wp2_with (go_at_call 53; refine (HC _ (h.alloc (Nat.le_refl _) _)).mono ?_; rintro e w' ⟨rfl, rfl⟩)
      go_ret
      exact ⟨by rw [HF.out]; rfl, (Below.refl _ _).alloc (Nat.le_refl _) _⟩
    · have hq := checkF_fit (xs := xs) (m := m) (by rw [hE]; exact he) (by rw [hN]; exact hl)
      rw [hN] at hq
      clear hN hE
      subst he
      by_cases hm : (m : Int) = N
      · rw [if_pos hm] at hq
        have HF := Lib.hid hq
        have e1 : ((m : Int) == N) = true := by simpa using hm
        have e2 : ((m : Int) != N) = false := by simpa using hm
        clear hm hq
        go_enter Try.func63, Try.ntmps63
        go_wp2_with (go_at_call 53; refine (HC _ (h.alloc (Nat.le_refl _) _)).mono ?_; rintro e w' ⟨rfl, rfl⟩)
        go_ret
        exact ⟨by rw [HF.out]; rfl, (Below.refl _ _).alloc (Nat.le_refl _) _⟩
      · rw [if_neg hm] at hq
        have HF := Lib.hid hq
        have e1 : ((m : Int) == N) = false := by simpa using hm
        have e2 : ((m : Int) != N) = true := by simpa using hm
        clear hm hq
        go_enter Try.func63, Try.ntmps63
        go_wp2_with (go_at_call 53; refine (HC _ (h.alloc (Nat.le_refl _) _)).mono ?_; rintro e w' ⟨rfl, rfl⟩)
        go_ret
        exact ⟨by rw [HF.out]; rfl, (Below.refl _ _).alloc (Nat.le_refl _) _⟩
  · have hq := checkF_err (xs := xs) (m := m) (by rw [hE]; exact he)
    rw [hE] at hq
    have HF := Lib.hid hq
    have e1 : (E == 0) = false := by simpa using he
    have e2 : (E != 0) = true := by simpa using he
    clear hN hE he hq
    go_enter Try.func63, Try.ntmps63
    go_wp2_with (go_at_call 53; refine (HC _ (h.alloc (Nat.le_refl _) _)).mono ?_; rintro e w' ⟨rfl, rfl⟩)
    go_ret
    exact ⟨by rw [HF.out]; rfl, (Below.refl _ _).alloc (Nat.le_refl _) _⟩

/-- a dense tensor's header, and what it holds -/
structure Hdr where
  A : Option Addr
  n : Nat
  c : Nat
  B : Option Addr
  m : Nat
  e : Nat
def Hdr.val (d : Hdr) : Value := .agg #[.slice d.A d.n d.c, .slice d.B d.m d.e]
def fewF (l : List Hdr) : Bool := l.all fun d => decide (d.n ≤ 20) && decide (d.m ≤ 70000)
/-- a block that holds tensors' headers one behind the other -/
def Hdrs (w : World) (g : Nat) (l : List Hdr) : Prop := ∀ (k : Nat) (d : Hdr), l[k]? = some d → w.cell? ⟨g, k * 2, none⟩ = some (.slice d.A d.n d.c) ∧ w.cell? ⟨g, k * 2 + 1, none⟩ = some (.slice d.B d.m d.e)

theorem two_boxes {w w1 : World} {a b c d : Value} {t : TypeId} (hb : Below ((w.alloc (.cells #[a, b] t)).alloc (.cells #[c, d] t)).heap.size ((w.alloc (.cells #[a, b] t)).alloc (.cells #[c, d] t)) w1) :
    w1.cell? ⟨w.heap.size, 0, none⟩ = some a ∧ w1.cell? ⟨w.heap.size, 1, none⟩ = some b ∧ w1.cell? ⟨w.heap.size + 1, 0, none⟩ = some c ∧ w1.cell? ⟨w.heap.size + 1, 1, none⟩ = some d := by
  have h0 : (w.alloc (.cells #[a, b] t)).heap[w.heap.size]? = some (.cells #[a, b] t (0, 0)) := heap_alloc_new w _
  have h1 : ((w.alloc (.cells #[a, b] t)).alloc (.cells #[c, d] t)).heap[w.heap.size]? = some (.cells #[a, b] t (0, 0)) := (Below.heap_alloc _ _ _ (by simp)).trans h0
  have h2 : ((w.alloc (.cells #[a, b] t)).alloc (.cells #[c, d] t)).heap[w.heap.size + 1]? = some (.cells #[c, d] t (0, 0)) := by
    have := heap_alloc_new (w.alloc (.cells #[a, b] t)) (.cells #[c, d] t); rwa [World.size_alloc] at this
  have k1 := (hb.block w.heap.size (by simp; omega)).trans h1
  have k2 := (hb.block (w.heap.size + 1) (by simp)).trans h2
  refine ⟨?_, ?_, ?_, ?_⟩
  · simpa using cell_of_row _ _ 0 _ t (0, 0) k1
  · simpa using cell_of_row _ _ 1 _ t (0, 0) k1
  · simpa using cell_of_row _ _ 0 _ t (0, 0) k2
  · simpa using cell_of_row _ _ 1 _ t (0, 0) k2

/-- box.Same -/
def sameF (xs : List Int) (m : Nat) (xs2 ys ys2 : List Int) : Bool := decide (checkF xs m = 0) && decide (xs = xs2) && decide (ys = ys2)

set_option maxRecDepth 100000 in
theorem same_any (A B A2 B2 : Option Addr) (n c m e n2 c2 m2 e2 : Nat) (xs ys xs2 ys2 : List Int) (w : World) (h : Ints w w.heap.size A n xs) (hv : Ints w w.heap.size B m ys) (h2 : Ints w w.heap.size A2 n2 xs2) (hv2 : Ints w w.heap.size B2 m2 ys2)
    (hn : n ≤ 9223372036854775807) (hm : m ≤ 100000) (hn2 : n2 ≤ 9223372036854775807) (hm2 : m2 ≤ 9223372036854775807) (hn5 : n ≤ 100000) :
    Calls Try.prog 37 #[.agg #[.slice A n c, .slice B m e], .agg #[.slice A2 n2 c2, .slice B2 m2 e2]] w fun x w' => x = .returned (.bool (sameF xs m xs2 ys ys2)) ∧ Below w.heap.size w w' := by
  have HC := fun W (hb : Below w.heap.size w W) => check_any A B n c m e xs W ((h.below hb).more hb.size) hn
  have HE := fun W (hb : Below w.heap.size w W) => equalInt_any A A2 n n2 c c2 xs xs2 W w.heap.size (h.below hb) (h2.below hb) hn5 hn2
  have HV := fun W (hb : Below w.heap.size w W) => equalInt64_any B B2 m m2 e e2 ys ys2 W w.heap.size (hv.below hb) (hv2.below hb) hm hm2
  obtain ⟨E, hE⟩ : ∃ E, checkF xs m = E := ⟨_, rfl⟩
  rw [hE] at HC
  have hB0 : ∀ o1 o2, Below w.heap.size w ((w.alloc o1).alloc o2) := fun o1 o2 => ((Below.refl _ w).alloc (Nat.le_refl _) _).alloc (by simp) _
  by_cases he : E = 0
  · subst he
    by_cases hx : xs = xs2
    · have hd1 : decide (xs = xs2) = true := by simpa using hx
      rw [hd1] at HE
      by_cases hy : ys = ys2
      · have hd2 : decide (ys = ys2) = true := by simpa using hy
        have HF : Hid (sameF xs m xs2 ys ys2 = true) := by unfold Hid sameF; rw [hE, hd1, hd2]; rfl
        rw [hd2] at HV
        clear hE hx hy hd1 hd2
        go_enter Try.func37, Try.ntmps37
        go_wp2_with (first | (go_at_call 60; refine (HC _ (hB0 _ _)).mono ?_; rintro x w1 ⟨rfl, hb1⟩; have hb2 := (hB0 _ _).trans (hb1.mono (by simp; omega)); obtain ⟨k0, k1, k2, k3⟩ := two_boxes hb1) | (go_at_call 48; refine (HE _ hb2).mono ?_; rintro x w3 ⟨rfl, m3, rfl⟩; have hb3 := below_drewN hb2 m3) | (go_at_call 65; refine (HV _ hb3).mono ?_; rintro x w4 ⟨rfl, m4, rfl⟩))
        go_ret
        exact ⟨by rw [HF.out]; rfl, below_drewN hb2 _⟩
      · have hd2 : decide (ys = ys2) = false := by simpa using hy
        have HF : Hid (sameF xs m xs2 ys ys2 = false) := by unfold Hid sameF; rw [hd2]; simp
        rw [hd2] at HV
        clear hE hx hy hd1 hd2
        go_enter Try.func37, Try.ntmps37
        go_wp2_with (first | (go_at_call 60; refine (HC _ (hB0 _ _)).mono ?_; rintro x w1 ⟨rfl, hb1⟩; have hb2 := (hB0 _ _).trans (hb1.mono (by simp; omega)); obtain ⟨k0, k1, k2, k3⟩ := two_boxes hb1) | (go_at_call 48; refine (HE _ hb2).mono ?_; rintro x w3 ⟨rfl, m3, rfl⟩; have hb3 := below_drewN hb2 m3) | (go_at_call 65; refine (HV _ hb3).mono ?_; rintro x w4 ⟨rfl, m4, rfl⟩))
        go_ret
        exact ⟨by rw [HF.out]; rfl, below_drewN hb2 _⟩
    · have hd1 : decide (xs = xs2) = false := by simpa using hx
      rw [hd1] at HE
      have HF : Hid (sameF xs m xs2 ys ys2 = false) := by unfold Hid sameF; rw [hd1]; simp
      clear hE hx hd1
      go_enter Try.func37, Try.ntmps37
      go_wp2_with (first | (go_at_call 60; refine (HC _ (hB0 _ _)).mono ?_; rintro x w1 ⟨rfl, hb1⟩; have hb2 := (hB0 _ _).trans (hb1.mono (by simp; omega)); obtain ⟨k0, k1, k2, k3⟩ := two_boxes hb1) | (go_at_call 48; refine (HE _ hb2).mono ?_; rintro x w3 ⟨rfl, m3, rfl⟩; have hb3 := below_drewN hb2 m3))
      go_ret
      exact ⟨by rw [HF.out]; rfl, below_drewN hb2 _⟩
  · have HF : Hid (sameF xs m xs2 ys ys2 = false) := by unfold Hid sameF; rw [hE, decide_eq_false he]; rfl
    have e1 : (E == 0) = false := by simpa using he
    clear hE he
    go_enter Try.func37, Try.ntmps37
    go_wp2_with (go_at_call 60; refine (HC _ (hB0 _ _)).mono ?_; rintro x w1 ⟨rfl, hb1⟩; have hb2 := (hB0 _ _).trans (hb1.mono (by simp; omega)); obtain ⟨k0, k1, k2, k3⟩ := two_boxes hb1)
    go_ret
    exact ⟨by rw [HF.out]; rfl, hb2⟩

set_option maxRecDepth 100000 in
/-- the document's Equals -/
theorem equals_any (A B A2 B2 : Option Addr) (n c m e n2 c2 m2 e2 : Nat) (xs ys xs2 ys2 : List Int) (w : World) (h : Ints w w.heap.size A n xs) (hv : Ints w w.heap.size B m ys) (h2 : Ints w w.heap.size A2 n2 xs2) (hv2 : Ints w w.heap.size B2 m2 ys2)
    (hn : n ≤ 100000) (hm : m ≤ 100000) (hn2 : n2 ≤ 9223372036854775807) (hm2 : m2 ≤ 9223372036854775807) :
    Calls Try.prog 35 #[.agg #[.slice A n c, .slice B m e], .agg #[.slice A2 n2 c2, .slice B2 m2 e2]] w fun x w' => x = .returned (.bool (decide (xs = xs2) && decide (ys = ys2))) ∧ Below w.heap.size w w' := by
  have HE := fun W (hb : Below w.heap.size w W) => refEqual_any A A2 n n2 c c2 xs xs2 W w.heap.size (h.below hb) (h2.below hb) hn hn2
  have hB0 : ∀ o1 o2, Below w.heap.size w ((w.alloc o1).alloc o2) := fun o1 o2 => ((Below.refl _ w).alloc (Nat.le_refl _) _).alloc (by simp) _
  have HL := Lib.hid hv.1
  have HL2 := Lib.hid hv2.1
  by_cases hx : xs = xs2
  · have hd1 : decide (xs = xs2) = true := by simpa using hx
    rw [hd1] at HE
    by_cases hmm : m = m2
    · subst hmm
      have HD := Lib.hid hd1
      clear hx hd1
      go_enter Try.func35, Try.ntmps35
      go_wp2_with (go_at_call 36; refine (HE _ (hB0 _ _)).mono ?_; rintro x w3 ⟨rfl, m3, rfl⟩)
      generalize hW : ((w.alloc (.cells #[.slice A n c, .slice B m e] 41)).alloc (.cells #[.slice A2 n2 c2, .slice B2 m e2] 41)) = W0
      have hb0 : Below w.heap.size w W0 := by rw [← hW]; exact hB0 _ _
      obtain ⟨k0, k1, k2, k3⟩ := two_boxes (w := w) (a := .slice A n c) (b := .slice B m e) (c := .slice A2 n2 c2) (d := .slice B2 m e2) (t := 41) (w1 := W0) (by rw [hW]; exact Below.refl _ _)
      clear hW HE
      go_loopw [24] (fun i wr => ∃ (k q : Nat), k ≤ m ∧ i = .int .i64 k ∧ wr = W0.drewN q ∧ Hid (ys.take k = ys2.take k)) (fun i _ => m - (intOf i).toNat)
      case atStart => exact ⟨0, _, Nat.zero_le _, rfl, rfl, by unfold Hid; simp⟩
      case round =>
        obtain ⟨k, q, hk, rfl, rfl, HK⟩ := hrel
        by_cases hlt : k < m
        · obtain ⟨b, off, x, rfl, _, HX, hc, hx1, hx2⟩ := (hv.below hb0).at_ hlt
          obtain ⟨b2, off2, y, rfl, _, HY, hc2, hy1, hy2⟩ := (hv2.below hb0).at_ hlt
          have hk0 : (0 : Int) ≤ k := by omega
          have hk1 : (k : Int) < m := by omega
          by_cases hxy : x = y
          · have HN : Hid (ys.take (k + 1) = ys2.take (k + 1)) := by unfold Hid; rw [take_succ_of HX.out, take_succ_of HY.out, HK.out, hxy]
            have e1 : (x == y) = true := by simpa using hxy
            have e2 : (x != y) = false := by simpa using hxy
            clear hxy
            go_wp2
            go_quiet (fail)
            go_wp2
            go_roundw
            case rel => exact ⟨k + 1, _, by omega, by go_num, rfl, HN⟩
            case measure => simp [intOf]; omega
          · have HF : Hid (decide (ys = ys2) = false) := by
              unfold Hid; rw [decide_eq_false]; intro e; subst e
              have := HX.out; rw [HY.out] at this; exact hxy (by injection this with this; exact this.symm)
            have e1 : (x == y) = false := by simpa using hxy
            have e2 : (x != y) = true := by simpa using hxy
            go_wp2
            go_quiet (fail)
            go_wp2
            go_ret
            exact ⟨by rw [HF.out, Bool.and_false]; rfl, below_drewN (below_drewN hb0 _) _⟩
        · have HF : Hid (decide (ys = ys2) = true) := by
            unfold Hid; rw [decide_eq_true]; have := HK.out
            rwa [List.take_of_length_le (by rw [HL.out]; omega), List.take_of_length_le (by rw [HL2.out]; omega)] at this
          go_wp2
          go_ret
          exact ⟨by rw [HF.out, HD.out]; rfl, below_drewN hb0 _⟩
    · have HF : Hid ((decide (xs = xs2) && decide (ys = ys2)) = false) := by
        unfold Hid; rw [decide_eq_false (p := ys = ys2), Bool.and_false]; intro e; subst e; exact hmm (by rw [← HL.out, ← HL2.out])
      have e1 : ((m : Int) == (m2 : Int)) = false := by simp; omega
      have e2 : ((m : Int) != (m2 : Int)) = true := by simp; omega
      clear hx hd1 hmm
      go_enter Try.func35, Try.ntmps35
      go_wp2_with (go_at_call 36; refine (HE _ (hB0 _ _)).mono ?_; rintro x w3 ⟨rfl, m3, rfl⟩)
      go_ret
      exact ⟨by rw [HF.out]; rfl, below_drewN (hB0 _ _) _⟩
  · have hd1 : decide (xs = xs2) = false := by simpa using hx
    have HF : Hid ((decide (xs = xs2) && decide (ys = ys2)) = false) := by unfold Hid; rw [hd1]; rfl
    rw [hd1] at HE
    clear hx hd1
    go_enter Try.func35, Try.ntmps35
    go_wp2_with (go_at_call 36; refine (HE _ (hB0 _ _)).mono ?_; rintro x w3 ⟨rfl, m3, rfl⟩)
    go_ret
    exact ⟨by rw [HF.out]; rfl, below_drewN (hB0 _ _) _⟩
end Go.Proofs.Ytpfabbapfmfmmaa
/- The contracts of the document's Same, of box.Get and the document's Get. -/
namespace Go.Proofs.Ytpfabbapfmfmmaa
open Go.RowKit

/-- Get -/
def getF (xs : List Int) (m : Nat) (ys cs : List Int) : Int × Int := if checkF xs m = 0 then if (atF xs cs).2 = 0 then (ys.getD (atF xs cs).1.toNat 0, 0) else (0, (atF xs cs).2) else (0, checkF xs m)
theorem checkF_ok {xs : List Int} {m : Nat} (h : checkF xs m = 0) : (cellsF xs).2 = 0 ∧ (m : Int) = (cellsF xs).1 ∧ m ≤ 65536 := by
  unfold checkF at h
  split at h
  · rename_i h1
    split at h
    · rename_i h2
      have ha := laidF_ok h1
      have hb := laidF_nonneg (xs := xs)
      exact ⟨ha.1, by omega, by omega⟩
    · simp at h
  · rename_i h1; exact absurd h h1
theorem atF_ok {xs cs : List Int} (h : (atF xs cs).2 = 0) : (cellsF xs).2 = 0 ∧ Inn xs cs ∧ (atF xs cs).1 = numR xs cs ∧ prodI xs = (cellsF xs).1 := by
  unfold atF at h ⊢
  split at h
  · rename_i h1
    split at h
    · rename_i h2
      have hI := inn_of_insideF h2
      rw [if_pos h1, if_pos h2]
      exact ⟨h1, hI, rfl, (cellsF_ok_pos h1 hI.pos).1.symm⟩
    · simp at h
  · rename_i h1; exact absurd h h1
theorem one_box {w w1 : World} {a b : Value} {t : TypeId} (hb : Below (w.alloc (.cells #[a, b] t)).heap.size (w.alloc (.cells #[a, b] t)) w1) :
    w1.cell? ⟨w.heap.size, 0, none⟩ = some a ∧ w1.cell? ⟨w.heap.size, 1, none⟩ = some b := by
  have h0 : (w.alloc (.cells #[a, b] t)).heap[w.heap.size]? = some (.cells #[a, b] t (0, 0)) := heap_alloc_new w _
  have k1 := (hb.block w.heap.size (by simp)).trans h0
  exact ⟨by simpa using cell_of_row _ _ 0 _ t (0, 0) k1, by simpa using cell_of_row _ _ 1 _ t (0, 0) k1⟩

set_option maxRecDepth 100000 in
theorem get_any (A B A2 : Option Addr) (n c m e n2 c2 : Nat) (xs ys cs : List Int) (w : World) (h : Ints w w.heap.size A n xs) (hv : Ints w w.heap.size B m ys) (h2 : Ints w w.heap.size A2 n2 cs) (hn : n ≤ 9223372036854775807) (hn2 : n2 ≤ 9223372036854775807) :
    Calls Try.prog 40 #[.agg #[.slice A n c, .slice B m e], .slice A2 n2 c2] w fun x w' => x = .returned (.tuple #[.int .i64 (getF xs m ys cs).1, .int .i64 (getF xs m ys cs).2]) ∧ Below w.heap.size w w' := by
  have HC := fun W (hb : Below w.heap.size w W) => check_any A B n c m e xs W ((h.below hb).more hb.size) hn
  have HA := fun W (hb : Below w.heap.size w W) => at_any A A2 n n2 c c2 xs cs W ((h.below hb).more hb.size) ((h2.below hb).more hb.size) hn hn2
  have hB0 : ∀ o1, Below w.heap.size w (w.alloc o1) := fun o1 => (Below.refl _ w).alloc (Nat.le_refl _) _
  obtain ⟨E, hE⟩ : ∃ E, checkF xs m = E := ⟨_, rfl⟩
  obtain ⟨X, hX⟩ : ∃ X, (atF xs cs).1 = X := ⟨_, rfl⟩
  obtain ⟨G, hG⟩ : ∃ G, (atF xs cs).2 = G := ⟨_, rfl⟩
  rw [hE] at HC
  rw [hX, hG] at HA
  by_cases he : E = 0
  · subst he
    by_cases hg : G = 0
    · subst hg
      have hok := checkF_ok hE
      have hat := atF_ok hG
      have hbd := hat.2.1.bound
      have hX0 : 0 ≤ X := by rw [← hX, hat.2.2.1]; exact hbd.1
      have hXm : X < m := by rw [← hX, hat.2.2.1, hok.2.1, ← hat.2.2.2]; exact hbd.2
      have HF : Hid (getF xs m ys cs = (ys.getD X.toNat 0, 0)) := by unfold Hid getF; rw [if_pos hE, if_pos hG, hX]
      clear hE hX hG hok hat hbd
      go_enter Try.func40, Try.ntmps40
      go_wp2_with fail
      refine (HC _ (hB0 _)).mono ?_
      rintro x w1 ⟨rfl, hb1⟩
      obtain ⟨k0, k1⟩ := one_box hb1
      have hb2 := (hB0 (.cells #[.slice A n c, .slice B m e] 41)).trans (hb1.mono (by simp))
      go_wp2_with fail
      refine (HA _ hb2).mono ?_
      rintro x w3 ⟨rfl, hb3⟩
      obtain ⟨k0', k1'⟩ := one_box (w := w) (a := .slice A n c) (b := .slice B m e) (t := 41) (hb1.trans (hb3.mono hb1.size))
      have hb4 := hb2.trans (hb3.mono hb2.size)
      obtain ⟨b, off, y, rfl, _, HY, hcy, hy1, hy2⟩ := (hv.below hb4).at_ (k := X.toNat) (by omega)
      go_wp2_with fail
      go_ret2
      exact ⟨by rw [HF.out]; simp only [List.getD, HY.out, Option.getD_some]; rfl, hb4⟩
    · have HF : Hid (getF xs m ys cs = (0, G)) := by unfold Hid getF; rw [if_pos hE, hG, if_neg hg]
      have e1 : (G == 0) = false := by simpa using hg
      have e2 : (G != 0) = true := by simpa using hg
      clear hE hX hG hg
      go_enter Try.func40, Try.ntmps40
      go_wp2_with fail
      refine (HC _ (hB0 _)).mono ?_
      rintro x w1 ⟨rfl, hb1⟩
      obtain ⟨k0, k1⟩ := one_box hb1
      have hb2 := (hB0 (.cells #[.slice A n c, .slice B m e] 41)).trans (hb1.mono (by simp))
      go_wp2_with fail
      refine (HA _ hb2).mono ?_
      rintro x w3 ⟨rfl, hb3⟩
      have hb4 := hb2.trans (hb3.mono hb2.size)
      go_wp2_with fail
      go_ret2
      exact ⟨by rw [HF.out]; rfl, hb4⟩
  · have HF : Hid (getF xs m ys cs = (0, E)) := by unfold Hid getF; rw [if_neg (by rw [hE]; exact he), hE]
    have e1 : (E == 0) = false := by simpa using he
    have e2 : (E != 0) = true := by simpa using he
    clear hE hX hG he HA
    go_enter Try.func40, Try.ntmps40
    go_wp2_with fail
    refine (HC _ (hB0 _)).mono ?_
    rintro x w1 ⟨rfl, hb1⟩
    have hb2 := (hB0 (.cells #[.slice A n c, .slice B m e] 41)).trans (hb1.mono (by simp))
    go_wp2_with fail
    go_ret2
    exact ⟨by rw [HF.out]; rfl, hb2⟩

end Go.Proofs.Ytpfabbapfmfmmaa
/- The contract of the document's Zero. -/
namespace Go.Proofs.Ytpfabbapfmfmmaa
open Go.RowKit

theorem run_appendNil {P : Program} (w : World) (base : Nat) (t ty e : TypeId) (i : TypeInfo) (ht : P.underlying t = some (.slice e)) (hi : P.info? e = some i) (v : Value) (n : Nat) (xs : List Value) (hown : w.ownsRow base e 1 v n xs) (c : Nat) :
    (Builtin.append_ #[t, t] ty #[v, .slice none 0 c]).run P w = .ok v w := by
  rcases hown.2 with ⟨rfl, rfl⟩ | ⟨g, cap, cur, rfl, _, _, hnc, _⟩ <;> simp [Builtin.append_, run_underlying ht, sizeOf, typeInfo, Builtin.lenOf, Builtin.firstCells, *, storeCells]

/-- append onto a slice of the call's own, from whatever slice of integers -/
theorem run_appendInts {P : Program} (w : World) (base : Nat) (t ty e : TypeId) (i : TypeInfo) (ht : P.underlying t = some (.slice e)) (hi : P.info? e = some i) (hz : i.zero = some (.int .i64 0)) (h1 : i.size = 1) (h2 : i.bytes = 8)
    (A A2 : Option Addr) (c m c2 B : Nat) (xs ys : List Int) (ho : OwnI w base e A c xs) (hs : Ints w B A2 m ys) (hl : xs.length + m ≤ 1000000) (hb : base ≤ w.heap.size) :
    ∃ A' c' w', (Builtin.append_ #[t, t] ty #[.slice A xs.length c, .slice A2 m c2]).run P w = .ok (.slice A' (xs.length + m) c') w' ∧ OwnI w' base e A' c' (xs ++ ys) ∧ w.grownBy w' (Value.slice A xs.length c).ownBlock := by
  have hlen := hs.1
  have hfit : ∀ x ∈ xs ++ ys, -9223372036854775808 ≤ x ∧ x ≤ 9223372036854775807 := by
    intro x hx
    rcases List.mem_append.1 hx with hx | hx
    · exact ho.2 x hx
    · exact hs.2.1 x hx
  rcases Option.eq_none_or_eq_some A2 with rfl | ⟨ad, rfl⟩
  · obtain rfl : m = 0 := by
      rcases Nat.eq_zero_or_pos m with h0 | h0
      · exact h0
      · obtain ⟨b, off, e', _⟩ := hs.2.2 h0; cases e'
    obtain rfl : ys = [] := List.eq_nil_of_length_eq_zero hlen
    have hrun := run_appendNil (P := P) w base t ty e i ht hi (.slice A xs.length c) xs.length (xs.map (Value.int .i64)) ho.1 c2
    exact ⟨A, c, w, by simpa using hrun, by simpa using ho, World.grownBy.refl w _⟩
  · obtain ⟨v', w', hr, h3, h4, _⟩ := run_append_own (P := P) w base t ty e i (.int .i64 0) 1 8 ht hi hz h1 h2 rfl (by decide) (.slice A xs.length c) xs.length (xs.map (Value.int .i64)) ho.1 ad m c2 (ys.map (Value.int .i64)) (by rw [List.length_map, hlen, Nat.mul_one]) hs.cells_ (ints_one ys) (by unfold maxLen; omega) (by omega) hb
    obtain ⟨A', c', rfl⟩ := row_form h3
    refine ⟨A', c', w', hr, ⟨?_, hfit⟩, h4⟩
    rw [List.length_append, hlen, List.map_append]
    exact h3

theorem step_appendInts {P : Program} {ops : Array Oper} {o : Oper} {a : Act} {w : World} {K : Act → World → Prop} {Q : Exit → Act → World → Prop} {E : Prop}
    (hg : o.guard = none) (s x : Operand) (t : TypeId) (hop : o.op = Op.call { callee := Callee.builtin Builtin.append, args := #[s, x], argTypes := #[t, t] })
    (base : Nat) (e : TypeId) (i : TypeInfo) (ht : P.underlying t = some (.slice e)) (hi : P.info? e = some i) (hz : i.zero = some (.int .i64 0)) (h1 : i.size = 1) (h2 : i.bytes = 8)
    (A A2 : Option Addr) (c m c2 B p r : Nat) (xs ys : List Int) (hs : a.eval s = .slice A p c) (hx : a.eval x = .slice A2 m c2) (ho : OwnI w base e A c xs) (hp : xs.length = p) (hr : p + m = r) (hi2 : Ints w B A2 m ys) (hl : r ≤ 1000000) (hb : base ≤ w.heap.size)
    (hK : ∀ A' c' w', OwnI w' base e A' c' (xs ++ ys) → w.grownBy w' (Value.slice A p c).ownBlock → K (a.put o.dst (.slice A' r c')) w') :
    if Region.wanted o (yielded ops a.tmps) = true then Oper.wp P o a w K Q else E := by
  have hw : Region.wanted o (yielded ops a.tmps) = true := by simp [Region.wanted, hg]
  rw [if_pos hw]
  subst hp
  subst hr
  obtain ⟨A', c', w', hrun, ho', hb'⟩ := run_appendInts (P := P) w base t o.type e i ht hi hz h1 h2 A A2 c m c2 B xs ys ho hi2 hl hb
  unfold Oper.wp
  simp [execOp, hop, resolve, invoke, builtin, hs, hx, hrun, Result.andThen]
  exact hK _ _ _ ho' hb'

theorem below_of_none {W w1 : World} (hg : W.grownBy w1 none) : Below W.heap.size W w1 := (Below.refl _ _).grown hg (Nat.le_refl _) (fun k e => by cases e)

set_option maxRecDepth 100000 in
/-- the document's Zero: an error's end -/
theorem refZero_err (A : Option Addr) (n c : Nat) (xs : List Int) (w : World) (h : Ints w w.heap.size A n xs) (hn : n ≤ 9223372036854775807) (he : (laidF xs).2 ≠ 0) :
    Calls Try.prog 59 #[.slice A n c] w fun e w' => e = .returned (.tuple #[.agg #[.slice none 0 0, .slice none 0 0], .int .i64 (laidF xs).2]) ∧ Below w.heap.size w w' := by
  have HC := fun W (hW : Ints W w.heap.size A n xs) => refCells_any A n c xs W w.heap.size hW hn
  obtain ⟨N, hN⟩ : ∃ N, (cellsF xs).1 = N := ⟨_, rfl⟩
  obtain ⟨E, hE⟩ : ∃ E, (cellsF xs).2 = E := ⟨_, rfl⟩
  rw [hN, hE] at HC
  by_cases h0 : E = 0
  · by_cases hl : 65536 < N
    · have HF : (laidF xs).2 = 2 := by unfold laidF; rw [hE, if_pos h0, hN, if_pos hl]
      rw [HF]
      clear hN hE he HF
      subst h0
      go_enter Try.func59, Try.ntmps59
      go_wp2_with (go_at_call 53; refine (HC _ (h.alloc (Nat.le_refl _) _)).mono ?_; rintro e w' ⟨rfl, rfl⟩)
      exact bodyPost_ret (v := .tuple #[.agg #[.slice none 0 0, .slice none 0 0], .int .i64 2]) (by simp [results, Try.results59, go_sem]) rfl ⟨rfl, (Below.refl _ _).alloc (Nat.le_refl _) _⟩
    · exfalso
      apply he
      unfold laidF; rw [hE, if_pos h0, hN, if_neg hl]
  · have HF : (laidF xs).2 = E := by unfold laidF; rw [hE, if_neg h0]
    rw [HF]
    have he1 : (E == 0) = false := by simpa using h0
    have he2 : (E != 0) = true := by simpa using h0
    clear hN hE he h0 HF
    go_enter Try.func59, Try.ntmps59
    go_wp2_with (go_at_call 53; refine (HC _ (h.alloc (Nat.le_refl _) _)).mono ?_; rintro e w' ⟨rfl, rfl⟩)
    exact bodyPost_ret (v := .tuple #[.agg #[.slice none 0 0, .slice none 0 0], .int .i64 E]) (by simp [results, Try.results59, go_sem]) rfl ⟨rfl, (Below.refl _ _).alloc (Nat.le_refl _) _⟩

set_option maxRecDepth 100000 in
set_option maxHeartbeats 1000000 in
theorem refZero_ok (A : Option Addr) (n c : Nat) (xs : List Int) (N : Nat) (w : World) (h : Ints w w.heap.size A n xs) (hn : n ≤ 100000) (he : (laidF xs).2 = 0) (hN : (laidF xs).1 = N) (hN2 : N ≤ 65536) :
    Calls Try.prog 59 #[.slice A n c] w fun e w' => ∃ A1 c1 A2 c2, e = .returned (.tuple #[.agg #[.slice A1 n c1, .slice A2 N c2], .int .i64 0]) ∧ OwnI w' w.heap.size 3 A1 c1 xs ∧ OwnI w' w.heap.size 2 A2 c2 (List.replicate N 0) ∧ Below w.heap.size w w' := by
  have HC := fun W (hW : Ints W w.heap.size A n xs) => refCells_any A n c xs W w.heap.size hW (by omega)
  have hok := laidF_ok he
  rw [hok.1, ← hok.2, hN] at HC
  obtain ⟨i0, hi0, hz0, hz1, hz2⟩ := info_parts infoInt64
  obtain ⟨i1, hi1, hy0, hy1, hy2⟩ := info_parts infoInt
  have hmk := fun W => run_makeAll (P := Try.prog) 39 2 i0 Try.underlying39 hi0 hz0 hz1 hz2 N (by omega) W
  have hlN : decide (65536 < (N : Int)) = false := by simp; omega
  clear hN he hok
  go_enter Try.func59, Try.ntmps59
  go_wp2_with (go_at_call 53; refine (HC _ (h.alloc (Nat.le_refl _) _)).mono ?_; rintro e w' ⟨rfl, rfl⟩)
  go_region_law (refine step_appendInts rfl (.const (.slice none 0 0)) (.tmp 18) 22 rfl (w.heap.size + 1) 3 i1 Try.underlying22 hi1 hy0 hy1 hy2 none A 0 n c w.heap.size 0 n [] xs rfl rfl (OwnI.nil_ _ _ _) rfl (Nat.zero_add _) (by first | exact h.alloc (Nat.le_refl _) _ | exact (h.alloc (Nat.le_refl _) _).alloc (by simp) _) (by omega) (by simp; try omega) ?_; intro A1 c1 w1 HO HG; have HB := below_of_none HG; obtain ⟨hs1, k0, k1, f0, f1⟩ := zfacts HB)
  all_goals go_wp2
  · obtain ⟨e0, e1⟩ := zcells (a := .slice A1 n c1) (b := .slice (some ⟨w1.heap.size, 0, none⟩) N N) k0 k1
    have e2 := fun o => cellPast o e0
    have e3 := fun o => cellPast o e1
    refine bodyPost_ret (v := .tuple #[.agg #[.slice A1 n c1, .slice (some ⟨w1.heap.size, 0, none⟩) N N], .int .i64 0]) (by simp [results, Try.results59, go_sem, e2, e3]) rfl ⟨A1, c1, _, _, rfl, ?_, ?_, ?_⟩
    · exact (((HO.setBelow (a := ⟨w.heap.size, 0, none⟩) (by simp) _).setBelow (a := ⟨w.heap.size, 1, none⟩) (by simp) _).alloc _).mono (by simp)
    · have := own_made ((w1.setCell ⟨w.heap.size, 0, none⟩ (.slice A1 n c1)).setCell ⟨w.heap.size, 1, none⟩ (.slice (some ⟨w1.heap.size, 0, none⟩) N N)) 2 N w.heap.size (by simp; omega) (by omega)
      simpa using this
    · exact ((((((Below.refl _ w).alloc (Nat.le_refl _) _).drew).trans (HB.mono (by simp))).setCell (p := ⟨w.heap.size, 0, none⟩) (Nat.le_refl _) _).setCell (p := ⟨w.heap.size, 1, none⟩) (Nat.le_refl _) _).alloc (by simp; omega) _
  · obtain ⟨e0, e1⟩ := zcells (a := .slice A1 n c1) (b := .slice (some ⟨w.heap.size + 1, 0, none⟩) N N) k0 k1
    refine bodyPost_ret (v := .tuple #[.agg #[.slice A1 n c1, .slice (some ⟨w.heap.size + 1, 0, none⟩) N N], .int .i64 0]) (by simp [results, Try.results59, go_sem, e0, e1]) rfl ⟨A1, c1, _, _, rfl, ?_, ?_, ?_⟩
    · exact ((HO.setBelow (a := ⟨w.heap.size, 0, none⟩) (by simp) _).setBelow (a := ⟨w.heap.size, 1, none⟩) (by simp) _).mono (by simp)
    · have := own_made (w.alloc (.cells #[.slice none 0 0, .slice none 0 0] 41)) 2 N (w.heap.size + 1) (by simp) (by omega)
      rw [World.size_alloc] at this
      exact (((this.drew.below HB (Nat.le_refl _)).setBelow (a := ⟨w.heap.size, 0, none⟩) (by simp) _).setBelow (a := ⟨w.heap.size, 1, none⟩) (by simp) _).mono (by omega)
    · exact ((((((Below.refl _ w).alloc (Nat.le_refl _) _).alloc (by simp) _).drew).trans (HB.mono (by simp; omega))).setCell (p := ⟨w.heap.size, 0, none⟩) (Nat.le_refl _) _).setCell (p := ⟨w.heap.size, 1, none⟩) (Nat.le_refl _) _
end Go.Proofs.Ytpfabbapfmfmmaa
/- purflelaw01.BoxOne returns true at every input, and nothing that lay there has turned: the place of a number has that number; the next number's place is the next one. -/
namespace Go.Proofs.Ytpfabbapfmfmmaa
open Go.RowKit

/-- the next place, the last mode first; whether it went around -/
def inc : List Int → List Int → List Int × Bool
  | s :: l, c :: d => if (inc l d).2 = true then (if c + 1 < s then ((c + 1) :: (inc l d).1, false) else (0 :: (inc l d).1, true)) else (c :: (inc l d).1, false)
  | _, _ => ([], true)
theorem inc_spec {xs cs : List Int} (h : Inn xs cs) : Inn xs (inc xs cs).1 ∧ ((inc xs cs).2 = false → numR xs (inc xs cs).1 = numR xs cs + 1) ∧ ((inc xs cs).2 = true → numR xs (inc xs cs).1 = 0 ∧ numR xs cs = prodI xs - 1) := by
  induction xs generalizing cs with
  | nil => cases cs with
    | nil => simp [inc, Inn, numR, prodI]
    | cons _ _ => exact h.elim
  | cons s l ih => cases cs with
    | nil => exact h.elim
    | cons c d =>
      obtain ⟨i1, i2, i3⟩ := ih h.2.2
      have h0 := h.1
      have h1 := h.2.1
      by_cases hc : (inc l d).2 = true
      · obtain ⟨j1, j2⟩ := i3 hc
        by_cases hs : c + 1 < s
        · simp only [inc, hc, hs, if_true]
          refine ⟨⟨by omega, hs, i1⟩, fun _ => ?_, fun hh => (by cases hh)⟩
          simp only [numR]
          rw [j1, j2, Int.add_mul]
          omega
        · simp only [inc, hc, hs, if_true, if_false]
          refine ⟨⟨by omega, by omega, i1⟩, fun hh => (by cases hh), fun _ => ?_⟩
          simp only [numR, prodI]
          rw [j1, j2]
          obtain rfl : c = s - 1 := by omega
          rw [Int.sub_mul]
          omega
      · simp only [inc, hc, if_false, Bool.false_eq_true]
        refine ⟨⟨h0, h1, i1⟩, fun _ => ?_, fun hh => (by cases hh)⟩
        simp only [numR]
        rw [i2 (by simpa using hc)]
        omega
theorem placeR_numR {xs cs : List Int} (h : Inn xs cs) : placeR xs (numR xs cs) = cs := by
  suffices hh : ∀ q : Int, placeR xs (q * prodI xs + numR xs cs) = cs by simpa using hh 0
  induction xs generalizing cs with
  | nil => cases cs with
    | nil => simp [placeR]
    | cons _ _ => exact h.elim
  | cons s l ih => cases cs with
    | nil => exact h.elim
    | cons c d =>
      intro q
      have hb := h.2.2.bound
      have hp : 1 ≤ prodI l := by omega
      have h0 := h.1
      have h1 := h.2.1
      have e : q * (s * prodI l) + (c * prodI l + numR l d) = (q * s + c) * prodI l + numR l d := by rw [Int.add_mul, Int.mul_assoc]; omega
      simp only [placeR, numR, prodI]
      rw [e, ih h.2.2 (q * s + c)]
      congr 1
      rw [Int.add_comm, Int.add_mul_ediv_right _ _ (by omega), Int.ediv_eq_zero_of_lt hb.1 hb.2, Int.zero_add, Int.add_comm, Int.add_mul_emod_self_right]
      exact Int.emod_eq_of_lt h0 h1
theorem inc_drop {xs cs : List Int} {k : Nat} {x y : Int} (hx : xs[k]? = some x) (hy : cs[k]? = some y) (hc : (inc (xs.drop (k + 1)) (cs.drop (k + 1))).2 = true) :
    inc (xs.drop k) (cs.drop k) = if y + 1 < x then ((y + 1) :: (inc (xs.drop (k + 1)) (cs.drop (k + 1))).1, false) else (0 :: (inc (xs.drop (k + 1)) (cs.drop (k + 1))).1, true) := by
  rw [drop_of hx, drop_of hy, inc, if_pos hc]
theorem inc_out {xs cs e : List Int} (hl : xs.length = cs.length) (k : Nat) (hk : k ≤ xs.length) (h : inc (xs.drop k) (cs.drop k) = (e, false)) : inc xs cs = (cs.take k ++ e, false) := by
  induction k generalizing xs cs with
  | zero => simpa using h
  | succ k ih => cases xs with
    | nil => simp at hk
    | cons s l => cases cs with
      | nil => simp at hl
      | cons c d =>
        have := ih (xs := l) (cs := d) (by simpa using hl) (by simpa using hk) (by simpa using h)
        rw [inc, this]
        simp
/-- the list when the last k places have gone around -/
def gone (cs : List Int) (k : Nat) : List Int := cs.take (cs.length - k) ++ List.replicate k 0
theorem gone_length {cs : List Int} {k : Nat} (hk : k ≤ cs.length) : (gone cs k).length = cs.length := by simp [gone]; omega
theorem gone_at {cs : List Int} {k i : Nat} (hi : i < cs.length - k) : (gone cs k)[i]? = cs[i]? := by
  unfold gone
  rw [List.getElem?_append_left (by rw [List.length_take]; omega), List.getElem?_take, if_pos hi]
theorem gone_set {cs : List Int} {k : Nat} (hk : k < cs.length) (v : Int) : (gone cs k).set (cs.length - 1 - k) v = cs.take (cs.length - 1 - k) ++ v :: List.replicate k 0 := by
  unfold gone
  have e : cs.length - k = cs.length - 1 - k + 1 := by omega
  have hx : cs[cs.length - 1 - k]? = some (cs[cs.length - 1 - k]'(by omega)) := List.getElem?_eq_getElem (by omega)
  rw [e, take_succ_of hx, List.append_assoc, List.set_append_right _ _ (by rw [List.length_take]; omega)]
  congr 1
  rw [List.length_take, Nat.min_eq_left (by omega), Nat.sub_self]
  rfl
theorem gone_succ {cs : List Int} {k : Nat} (hk : k < cs.length) : (gone cs k).set (cs.length - 1 - k) 0 = gone cs (k + 1) := by
  rw [gone_set hk]
  unfold gone
  have e : cs.length - (k + 1) = cs.length - 1 - k := by omega
  rw [e, List.replicate_succ]

theorem insideF_of_inn {xs cs : List Int} (h : Inn xs cs) : insideF xs cs = true := by
  induction xs generalizing cs with
  | nil => cases cs with
    | nil => rfl
    | cons _ _ => exact h.elim
  | cons s l ih => cases cs with
    | nil => exact h.elim
    | cons c d =>
      have := ih h.2.2
      have h0 := h.1
      have h1 := h.2.1
      simp [insideF, badAt] at this ⊢
      exact ⟨this.1, ⟨by omega, by omega⟩, this.2⟩
theorem cellsF_err {xs : List Int} (h : (cellsF xs).2 ≠ 0) : (cellsF xs).1 = 0 := by
  unfold cellsF at h ⊢
  split
  · rfl
  · rename_i h1
    rw [if_neg h1] at h
    split
    · rfl
    · rename_i h2
      rw [if_neg h2] at h
      have key : ∀ (l : List Int) (q : Int), (cellsGo l q).2 ≠ 0 → (cellsGo l q).1 = 0 := by
        intro l
        induction l with
        | nil => intro q hq; simp [cellsGo] at hq
        | cons s l ih =>
          intro q hq
          unfold cellsGo at hq ⊢
          split
          · rfl
          · rename_i hb; rw [if_neg hb] at hq; exact ih _ hq
      exact key _ _ h
theorem lt_of_cell' {w : World} {a : Addr} {v : Value} (h : w.cell? a = some v) : a.block < w.heap.size := by
  rcases Nat.lt_or_ge a.block w.heap.size with hlt | hge
  · exact hlt
  · have : w.heap[a.block]? = none := Array.getElem?_eq_none hge
    simp [World.cell?, this] at h
theorem OwnI.some_ {w : World} {base : Nat} {e : TypeId} {A : Option Addr} {c : Nat} {xs : List Int} (h : OwnI w base e A c xs) (hp : 0 < xs.length) : ∃ g, A = some ⟨g, 0, none⟩ ∧ base ≤ g ∧ g < w.heap.size := by
  rcases h.1.2 with ⟨_, h0⟩ | ⟨g, cap, cur, hv, hb, _⟩
  · omega
  · have hA : A = some ⟨g, 0, none⟩ := by injection hv
    subst hA
    exact ⟨g, rfl, hb, (h.1.lt g rfl).2⟩
theorem OwnI.set_ {w : World} {base g : Nat} {e : TypeId} {c : Nat} {xs : List Int} (h : OwnI w base e (some ⟨g, 0, none⟩) c xs) (j : Nat) (v : Int) (hv : -9223372036854775808 ≤ v ∧ v ≤ 9223372036854775807) :
    OwnI (w.setCell ⟨g, j, none⟩ (.int .i64 v)) base e (some ⟨g, 0, none⟩) c (xs.set j v) := by
  refine ⟨?_, fun x hx => ?_⟩
  · have := (h.1.stored j (.int .i64 v)).1
    rw [← List.map_set] at this
    rw [List.length_set]
    exact this
  · rcases List.mem_or_eq_of_mem_set hx with hx | rfl
    · exact h.2 x hx
    · exact hv
theorem OwnI.far {w : World} {base g : Nat} {e : TypeId} {A : Option Addr} {c : Nat} {xs : List Int} (h : OwnI w base e A c xs) (hg : g < base) (j : Nat) (u : Value) : OwnI (w.setCell ⟨g, j, none⟩ u) base e A c xs :=
  ⟨ownsRow_setCell_below h.1 (a := ⟨g, j, none⟩) hg u, h.2⟩
theorem OwnI.cell_ {w : World} {base g k : Nat} {e : TypeId} {c : Nat} {xs : List Int} {x : Int} (h : OwnI w base e (some ⟨g, 0, none⟩) c xs) (hx : xs[k]? = some x) : w.cell? ⟨g, k, none⟩ = some (.int .i64 x) ∧ w.frozen? ⟨g, k, none⟩ = false := by
  have hk := (List.getElem?_eq_some_iff.1 hx).1
  exact ⟨(h.1.cellAt k (by omega)).trans (by simp [hx]), h.1.frozenAt k⟩

end Go.Proofs.Ytpfabbapfmfmmaa
/- purflelaw01.BoxOnes returns true at every input where each slice's capacity is no less than its length, and nothing that lay there has turned. -/
namespace Go.Proofs.Ytpfabbapfmfmmaa
open Go.RowKit

/-- v laid into l ahead of place k -/
def ins (l : List Int) (k : Nat) (v : Int) : List Int := l.take k ++ v :: l.drop k
theorem ins_zero (l : List Int) (v : Int) : ins l 0 v = v :: l := by simp [ins]
theorem ins_succ (x : Int) (l : List Int) (k : Nat) (v : Int) : ins (x :: l) (k + 1) v = x :: ins l k v := by simp [ins]
theorem ins_prod (l : List Int) (k : Nat) : prodI (ins l k 1) = prodI l := by
  unfold ins; rw [prodI_append, prodI_split l k]; simp [prodI]
theorem ins_any (l : List Int) (k : Nat) (v : Int) (p : Int → Bool) (hv : p v = false) : (ins l k v).any p = l.any p := by
  unfold ins
  rw [List.any_append, List.any_cons, hv, Bool.false_or, ← List.any_append, List.take_append_drop]
theorem ins_length {l : List Int} {k : Nat} (hk : k ≤ l.length) (v : Int) : (ins l k v).length = l.length + 1 := by simp [ins]; omega
theorem ins_num {xs cs : List Int} (h : xs.length = cs.length) (k : Nat) (hk : k ≤ xs.length) : numR (ins xs k 1) (ins cs k 0) = numR xs cs := by
  induction k generalizing xs cs with
  | zero => rw [ins_zero, ins_zero]; simp [numR]
  | succ k ih => cases xs with
    | nil => simp at hk
    | cons s l => cases cs with
      | nil => simp at h
      | cons c d =>
        rw [ins_succ, ins_succ]
        simp only [numR]
        rw [ins_prod, ih (by simpa using h) (by simpa using hk)]
theorem ins_zip {xs cs : List Int} (h : xs.length = cs.length) (k : Nat) (hk : k ≤ xs.length) : ((ins cs k 0).zip (ins xs k 1)).any badAt = (cs.zip xs).any badAt := by
  induction k generalizing xs cs with
  | zero => rw [ins_zero, ins_zero]; simp [badAt]
  | succ k ih => cases xs with
    | nil => simp at hk
    | cons s l => cases cs with
      | nil => simp at h
      | cons c d =>
        rw [ins_succ, ins_succ, List.zip_cons_cons, List.any_cons, ih (by simpa using h) (by simpa using hk), List.zip_cons_cons, List.any_cons]
theorem ins_inside {xs cs : List Int} (h : xs.length = cs.length) (k : Nat) (hk : k ≤ xs.length) : insideF (ins xs k 1) (ins cs k 0) = insideF xs cs := by
  unfold insideF
  rw [ins_zip h k hk, ins_length hk, ins_length (by omega)]
  simp
/-- Cells hangs on little -/
theorem cellsF_same {xs ys : List Int} (h1 : xs.length ≤ 4) (h2 : ys.length ≤ 4) (hn : (xs.any fun s => decide (s < 0)) = (ys.any fun s => decide (s < 0))) (hz : (xs.any fun s => s == 0) = (ys.any fun s => s == 0)) (hp : prodI xs = prodI ys) : cellsF xs = cellsF ys := by
  by_cases ha : (xs.any fun s => decide (s < 0)) = true
  · have hb := ha; rw [hn] at hb
    unfold cellsF; rw [if_pos (.inr ha), if_pos (.inr hb)]
  · have ha' : (xs.any fun s => decide (s < 0)) = false := by cases hh : (xs.any fun s => decide (s < 0)) with | false => rfl | true => exact absurd hh ha
    have hb' := ha'; rw [hn] at hb'
    by_cases hc : (xs.any fun s => s == 0) = true
    · have hd := hc; rw [hz] at hd
      have e1 : cellsF xs = (0, 0) := by unfold cellsF; rw [if_neg (by rw [ha']; simp; omega), if_pos hc]
      have e2 : cellsF ys = (0, 0) := by unfold cellsF; rw [if_neg (by rw [hb']; simp; omega), if_pos hd]
      rw [e1, e2]
    · have hc' : (xs.any fun s => s == 0) = false := by cases hh : (xs.any fun s => s == 0) with | false => rfl | true => exact absurd hh hc
      have hd' := hc'; rw [hz] at hd'
      rw [cellsF_pos (pos_of_any ha' hc') h1, cellsF_pos (pos_of_any hb' hd') h2, hp]
theorem ins_cells {xs : List Int} (h : xs.length ≤ 3) (k : Nat) (hk : k ≤ xs.length) : cellsF (ins xs k 1) = cellsF xs :=
  cellsF_same (by rw [ins_length hk]; omega) (by omega) (ins_any _ _ _ _ (by simp)) (ins_any _ _ _ _ (by simp)) (ins_prod xs k)
theorem prodI_reverse (xs : List Int) : prodI xs.reverse = prodI xs := by
  induction xs with
  | nil => rfl
  | cons s l ih => rw [List.reverse_cons, prodI_append, ih]; simp [prodI, Int.mul_comm]
theorem rev_cells {xs : List Int} (h : xs.length ≤ 3) : cellsF xs.reverse = cellsF xs :=
  cellsF_same (by simp; omega) (by omega) List.any_reverse List.any_reverse (prodI_reverse xs)
theorem ins_at {xs cs : List Int} (h : xs.length = cs.length) (h3 : xs.length ≤ 3) (k : Nat) (hk : k ≤ xs.length) : atF (ins xs k 1) (ins cs k 0) = atF xs cs := by
  unfold atF
  rw [ins_cells h3 k hk, ins_inside h k hk, ins_num h k hk]

theorem Ints.take_ {w : World} {B n k : Nat} {A : Option Addr} {xs : List Int} (h : Ints w B A n xs) (hk : k ≤ n) : Ints w B A k (xs.take k) := by
  obtain ⟨hl, hb, hc⟩ := h
  refine ⟨by rw [List.length_take]; omega, fun x hx => hb x (List.mem_of_mem_take hx), fun h0 => ?_⟩
  obtain ⟨b, off, e, hB, hx⟩ := hc (by omega)
  refine ⟨b, off, e, hB, fun j x hj => hx j x ?_⟩
  rw [List.getElem?_take] at hj
  split at hj
  · exact hj
  · cases hj
theorem Ints.drop_ {w : World} {B n k c : Nat} {A : Option Addr} {xs : List Int} (h : Ints w B A n xs) (hk : k ≤ n) (hc : n ≤ c) : Ints w B (if c = k then A else A.map (·.add (k * 1))) (n - k) (xs.drop k) := by
  obtain ⟨hl, hb, hcc⟩ := h
  refine ⟨by rw [List.length_drop]; omega, fun x hx => hb x (List.mem_of_mem_drop hx), fun h0 => ?_⟩
  obtain ⟨b, off, rfl, hB, hx⟩ := hcc (by omega)
  rw [if_neg (by omega)]
  refine ⟨b, off + k, ?_, hB, fun j x hj => ?_⟩
  · by_cases hk0 : k = 0
    · subst hk0; simp [Addr.add]
    · simp [Addr.add, hk0]
  · rw [List.getElem?_drop] at hj
    have := hx (k + j) x hj
    rwa [Nat.add_assoc]
set_option maxRecDepth 100000 in
theorem run_take {w : World} (A : Option Addr) (n c k : Nat) (hk : k ≤ n) (hc : n ≤ c) : (Instr.slice 22 (.slice A n c) none (some (.int .i64 (k : Int))) none).run Try.prog w = .ok (.slice A k c) w := by
  obtain ⟨i0, hi0, hz0, hz1, hz2⟩ := info_parts infoInt
  rw [run_slice_h w 22 A n c (by kernel_rfl) .i64 (k : Int) (by omega) (by omega)]
  have hs : (sizeOf (Try.prog.elem 22)).run Try.prog w = .ok 1 w := by
    have he : Try.prog.elem 22 = 3 := by kernel_rfl
    rw [he]; simp [sizeOf, typeInfo, hi0, hz1]
  rw [hs]
  simp only [Result.andThen, sliced, Int.toNat_natCast, Nat.zero_mul, Nat.sub_zero]
  have : (if c = 0 then A else A.map (·.add 0)) = A := by
    split
    · rfl
    · cases A <;> simp [Addr.add]
  rw [this]
set_option maxRecDepth 100000 in
theorem run_drop {w : World} (A : Option Addr) (n c k : Nat) (hk : k ≤ n) : (Instr.slice 22 (.slice A n c) (some (.int .i64 (k : Int))) none none).run Try.prog w = .ok (.slice (if c = k then A else A.map (·.add (k * 1))) (n - k) (c - k)) w := by
  obtain ⟨i0, hi0, hz0, hz1, hz2⟩ := info_parts infoInt
  rw [run_slice_l w 22 A n c (by kernel_rfl) .i64 (k : Int) (by omega) (by omega)]
  have hs : (sizeOf (Try.prog.elem 22)).run Try.prog w = .ok 1 w := by
    have he : Try.prog.elem 22 = 3 := by kernel_rfl
    rw [he]; simp [sizeOf, typeInfo, hi0, hz1]
  rw [hs]
  simp only [Result.andThen, sliced, Int.toNat_natCast]

/-- the list when q places have been turned round -/
def turned (xs : List Int) (q : Nat) : List Int := xs.reverse.take q ++ xs.drop q
theorem turned_length {xs : List Int} {q : Nat} (hq : q ≤ xs.length) : (turned xs q).length = xs.length := by simp [turned]; omega
theorem turned_set {xs : List Int} {q : Nat} {x : Int} (hq : q < xs.length) (hx : xs[xs.length - 1 - q]? = some x) : (turned xs q).set q x = turned xs (q + 1) := by
  unfold turned
  have hr : xs.reverse[q]? = some x := by rw [List.getElem?_reverse hq]; exact hx
  have hd : xs[q]? = some (xs[q]'hq) := List.getElem?_eq_getElem hq
  rw [take_succ_of hr, drop_of hd, List.set_append_right _ _ (by rw [List.length_take, List.length_reverse]; omega), List.length_take, List.length_reverse, Nat.min_eq_left (by omega), Nat.sub_self, List.set_cons_zero, List.append_assoc]
  rfl
theorem wpList_appendInts {P : Program} (w : World) {ops : Array Oper} {rest : List Oper} {o : Oper} {a : Act} {Q : Exit → Act → World → Prop}
    (hg : o.guard = none) (s x : Operand) (t : TypeId) (hop : o.op = Op.call { callee := Callee.builtin Builtin.append, args := #[s, x], argTypes := #[t, t] })
    (base : Nat) (e : TypeId) (i : TypeInfo) (ht : P.underlying t = some (.slice e)) (hi : P.info? e = some i) (hz : i.zero = some (.int .i64 0)) (h1 : i.size = 1) (h2 : i.bytes = 8)
    (A A2 : Option Addr) (c m c2 B p r : Nat) (xs ys : List Int) (hs : a.eval s = .slice A p c) (hx : a.eval x = .slice A2 m c2) (ho : OwnI w base e A c xs) (hp : xs.length = p) (hr : p + m = r) (hi2 : Ints w B A2 m ys) (hl : r ≤ 1000000) (hb : base ≤ w.heap.size)
    (hK : ∀ A' c' w', OwnI w' base e A' c' (xs ++ ys) → w.grownBy w' (Value.slice A p c).ownBlock → wpList P ops Q rest (a.put o.dst (.slice A' r c')) w') : wpList P ops Q (o :: rest) a w := by
  refine wpList_plain hg fun K hK' => ?_
  subst hp
  subst hr
  obtain ⟨A', c', w', hrun, ho', hb'⟩ := run_appendInts (P := P) w base t o.type e i ht hi hz h1 h2 A A2 c m c2 B xs ys ho hi2 hl hb
  unfold Oper.wp
  simp [execOp, hop, resolve, invoke, builtin, hs, hx, hrun, Result.andThen]
  exact hK' _ _ (hK _ _ _ ho' hb')
theorem src_new {v : Int} {t : TypeId} (w : World) (hv : -9223372036854775808 ≤ v ∧ v ≤ 9223372036854775807) : Ints (w.alloc (.cells #[.int .i64 v] t)) (w.heap.size + 1) (some ⟨w.heap.size, 0, none⟩) 1 [v] := Ints.of_new w t [v] (by simpa using hv)
theorem src_one {v : Int} {t : TypeId} {w w2 : World} (hb : Below (w.alloc (.cells #[.int .i64 v] t)).drew.heap.size (w.alloc (.cells #[.int .i64 v] t)).drew w2) (hv : -9223372036854775808 ≤ v ∧ v ≤ 9223372036854775807) : Ints w2 w2.heap.size (some ⟨w.heap.size, 0, none⟩) 1 [v] := by
  have h1 : Ints (w.alloc (.cells #[.int .i64 v] t)).drew (w.heap.size + 1) (some ⟨w.heap.size, 0, none⟩) 1 [v] := src_new w hv
  have hs : w.heap.size + 1 ≤ (w.alloc (.cells #[.int .i64 v] t)).drew.heap.size := by
    have : (w.alloc (.cells #[.int .i64 v] t)).heap.size = w.heap.size + 1 := World.size_alloc _ _
    exact Nat.le_of_eq this.symm
  exact (h1.below (hb.mono hs)).more (Nat.le_trans hs hb.size)
theorem below_app {w1 W w3 : World} {base p c : Nat} {e : TypeId} {A : Option Addr} {xs : List Int} (hb : Below base w1 W) (hg : W.grownBy w3 (Value.slice A p c).ownBlock) (ho : OwnI W base e A c xs) (hp : xs.length = p) (hs : base ≤ W.heap.size) : Below base w1 w3 := by
  subst hp
  exact hb.grown hg hs (fun k hk => (ho.1.lt k hk).1)
theorem len_take {w : World} {B n k : Nat} {A : Option Addr} {xs : List Int} (h : Ints w B A n xs) (hk : k ≤ n) : ([] ++ xs.take k : List Int).length = k := by
  have := h.1; simp; omega
theorem len_take1 {w : World} {B n k : Nat} {A : Option Addr} {xs : List Int} {v : Int} (h : Ints w B A n xs) (hk : k ≤ n) : ([] ++ xs.take k ++ [v] : List Int).length = k + 1 := by
  have := h.1; simp; omega

end Go.Proofs.Ytpfabbapfmfmmaa
/- purflelaw01.BoxCells returns true at every input, and nothing that lay there has turned. -/
namespace Go.Proofs.Ytpfabbapfmfmmaa
open Go.RowKit Go.Sort

def zS (xs : List Int) : List Int := if (laidF xs).2 = 0 then xs else []
def zV (xs : List Int) : List Int := if (laidF xs).2 = 0 then List.replicate (laidF xs).1.toNat 0 else []

theorem zero_any (A : Option Addr) (n c : Nat) (xs : List Int) (w : World) (h : Ints w w.heap.size A n xs) (hn : n ≤ 9223372036854775807) :
    Calls Try.prog 58 #[.slice A n c] w fun e w' => ∃ A1 c1 A2 c2, e = .returned (.tuple #[.agg #[.slice A1 (zS xs).length c1, .slice A2 (zV xs).length c2], .int .i64 (laidF xs).2]) ∧ OwnI w' w.heap.size 3 A1 c1 (zS xs) ∧ OwnI w' w.heap.size 2 A2 c2 (zV xs) ∧ Below w.heap.size w w' := by
  by_cases he : (laidF xs).2 = 0
  · have hb := laidF_nonneg (xs := xs)
    have hn5 : n ≤ 100000 := by have := (cellsF_ok (laidF_ok he).1).1; rw [h.1] at this; omega
    refine (zero_ok A n c xs (laidF xs).1.toNat w h hn5 he (by omega) (by omega)).mono ?_
    rintro e w' ⟨A1, c1, A2, c2, rfl, h1, h2, h3⟩
    have e1 : zS xs = xs := by unfold zS; rw [if_pos he]
    have e2 : zV xs = List.replicate (laidF xs).1.toNat 0 := by unfold zV; rw [if_pos he]
    rw [e1, e2, he, h.1, List.length_replicate]
    exact ⟨A1, c1, A2, c2, rfl, h1, h2, h3⟩
  · refine (zero_err A n c xs w h hn he).mono ?_
    rintro e w' ⟨rfl, h3⟩
    have e1 : zS xs = [] := by unfold zS; rw [if_neg he]
    have e2 : zV xs = [] := by unfold zV; rw [if_neg he]
    rw [e1, e2]
    exact ⟨none, 0, none, 0, rfl, OwnI.nil_ _ _ _, OwnI.nil_ _ _ _, h3⟩
theorem refZero_any (A : Option Addr) (n c : Nat) (xs : List Int) (w : World) (h : Ints w w.heap.size A n xs) (hn : n ≤ 9223372036854775807) :
    Calls Try.prog 59 #[.slice A n c] w fun e w' => ∃ A1 c1 A2 c2, e = .returned (.tuple #[.agg #[.slice A1 (zS xs).length c1, .slice A2 (zV xs).length c2], .int .i64 (laidF xs).2]) ∧ OwnI w' w.heap.size 3 A1 c1 (zS xs) ∧ OwnI w' w.heap.size 2 A2 c2 (zV xs) ∧ Below w.heap.size w w' := by
  by_cases he : (laidF xs).2 = 0
  · have hb := laidF_nonneg (xs := xs)
    have hn5 : n ≤ 100000 := by have := (cellsF_ok (laidF_ok he).1).1; rw [h.1] at this; omega
    refine (refZero_ok A n c xs (laidF xs).1.toNat w h hn5 he (by omega) (by omega)).mono ?_
    rintro e w' ⟨A1, c1, A2, c2, rfl, h1, h2, h3⟩
    have e1 : zS xs = xs := by unfold zS; rw [if_pos he]
    have e2 : zV xs = List.replicate (laidF xs).1.toNat 0 := by unfold zV; rw [if_pos he]
    rw [e1, e2, he, h.1, List.length_replicate]
    exact ⟨A1, c1, A2, c2, rfl, h1, h2, h3⟩
  · refine (refZero_err A n c xs w h hn he).mono ?_
    rintro e w' ⟨rfl, h3⟩
    have e1 : zS xs = [] := by unfold zS; rw [if_neg he]
    have e2 : zV xs = [] := by unfold zV; rw [if_neg he]
    rw [e1, e2]
    exact ⟨none, 0, none, 0, rfl, OwnI.nil_ _ _ _, OwnI.nil_ _ _ _, h3⟩
theorem zS_len (xs : List Int) : (zS xs).length ≤ 4 := by
  unfold zS; split
  · rename_i h; exact (cellsF_ok (laidF_ok h).1).1
  · simp
theorem zV_len (xs : List Int) : (zV xs).length ≤ 65536 := by
  unfold zV; split
  · have := laidF_nonneg (xs := xs); rw [List.length_replicate]; omega
  · simp

end Go.Proofs.Ytpfabbapfmfmmaa
