/- The contracts of box.Check and the document's Check, of few, of box.Same, the document's Equals and Same, of box.Get and the document's Get. -/
import Derived.Test.YtpjelcghlnmoeaaPlaces
import Derived.Lib.QuietBelow
namespace Go.Proofs.Ytpjelcghlnmoeaa
open Go.RowKit

/-- Check, of a shape and how many numbers there are -/
def checkF (xs : List Int) (m : Nat) : Int := if (laidF xs).2 = 0 then if (m : Int) = (laidF xs).1 then 0 else 1 else (laidF xs).2

set_option maxRecDepth 100000 in
theorem check_any (A B : Option Addr) (n c m e : Nat) (xs : List Int) (w : World) (h : Ints w w.heap.size A n xs) (hn : n ≤ 9223372036854775807) :
    Calls Try.prog 60 #[.agg #[.slice A n c, .slice B m e]] w fun x w' => x = .returned (.int .i64 (checkF xs m)) ∧ Below w.heap.size w w' := by
  have HC := fun W (hW : Ints W w.heap.size A n xs) => laid_any A n c xs W w.heap.size hW hn
  obtain ⟨N, hN⟩ : ∃ N, (laidF xs).1 = N := ⟨_, rfl⟩
  obtain ⟨E, hE⟩ : ∃ E, (laidF xs).2 = E := ⟨_, rfl⟩
  rw [hN, hE] at HC
  by_cases he : E = 0
  · by_cases hm : (m : Int) = N
    · have HF : Hid (checkF xs m = 0) := by unfold Hid checkF; rw [hE, if_pos he, hN, if_pos hm]
      have e1 : ((m : Int) == N) = true := by simpa using hm
      have e2 : ((m : Int) != N) = false := by simpa using hm
      clear hN hE hm
      subst he
      go_enter Try.func60, Try.ntmps60
      go_wp2_with (go_at_call 82; refine (HC _ (h.alloc (Nat.le_refl _) _)).mono ?_; rintro e w' ⟨rfl, rfl⟩)
      go_ret
      exact ⟨by rw [HF.out]; rfl, (Below.refl _ _).alloc (Nat.le_refl _) _⟩
    · have HF : Hid (checkF xs m = 1) := by unfold Hid checkF; rw [hE, if_pos he, hN, if_neg hm]
      have e1 : ((m : Int) == N) = false := by simpa using hm
      have e2 : ((m : Int) != N) = true := by simpa using hm
      clear hN hE hm
      subst he
      go_enter Try.func60, Try.ntmps60
      go_wp2_with (go_at_call 82; refine (HC _ (h.alloc (Nat.le_refl _) _)).mono ?_; rintro e w' ⟨rfl, rfl⟩)
      go_ret
      exact ⟨by rw [HF.out]; rfl, (Below.refl _ _).alloc (Nat.le_refl _) _⟩
  · have HF : Hid (checkF xs m = E) := by unfold Hid checkF; rw [hE, if_neg he]
    have e1 : (E == 0) = false := by simpa using he
    have e2 : (E != 0) = true := by simpa using he
    clear hN hE he
    go_enter Try.func60, Try.ntmps60
    go_wp2_with (go_at_call 82; refine (HC _ (h.alloc (Nat.le_refl _) _)).mono ?_; rintro e w' ⟨rfl, rfl⟩)
    go_ret
    exact ⟨by rw [HF.out]; rfl, (Below.refl _ _).alloc (Nat.le_refl _) _⟩

theorem checkF_err {xs : List Int} {m : Nat} (h : (cellsF xs).2 ≠ 0) : checkF xs m = (cellsF xs).2 := by
  unfold checkF laidF; rw [if_neg h]; exact if_neg h
theorem checkF_large {xs : List Int} {m : Nat} (h : (cellsF xs).2 = 0) (h2 : 65536 < (cellsF xs).1) : checkF xs m = 2 := by
  unfold checkF laidF; rw [if_pos h, if_pos h2]; rfl
theorem checkF_fit {xs : List Int} {m : Nat} (h : (cellsF xs).2 = 0) (h2 : ¬ 65536 < (cellsF xs).1) : checkF xs m = if (m : Int) = (cellsF xs).1 then 0 else 1 := by
  unfold checkF laidF; rw [if_pos h, if_neg h2]; rfl

set_option maxRecDepth 100000 in
theorem refCheck_any (A B : Option Addr) (n c m e : Nat) (xs : List Int) (w : World) (h : Ints w w.heap.size A n xs) (hn : n ≤ 9223372036854775807) :
    Calls Try.prog 63 #[.agg #[.slice A n c, .slice B m e]] w fun x w' => x = .returned (.int .i64 (checkF xs m)) ∧ Below w.heap.size w w' := by
  have HC := fun W (hW : Ints W w.heap.size A n xs) => refCells_any A n c xs W w.heap.size hW hn
  obtain ⟨N, hN⟩ : ∃ N, (cellsF xs).1 = N := ⟨_, rfl⟩
  obtain ⟨E, hE⟩ : ∃ E, (cellsF xs).2 = E := ⟨_, rfl⟩
  rw [hN, hE] at HC
  by_cases he : E = 0
  · by_cases hl : 65536 < N
    · have HF : Hid (checkF xs m = 2) := checkF_large (by rw [hE]; exact he) (by rw [hN]; exact hl)
      clear hN hE
      subst he
      go_enter Try.func63, Try.ntmps63
      go_wp2_with (go_at_call 53; refine (HC _ (h.alloc (Nat.le_refl _) _)).mono ?_; rintro e w' ⟨rfl, rfl⟩)
      go_ret
      exact ⟨by rw [HF.out]; rfl, (Below.refl _ _).alloc (Nat.le_refl _) _⟩
    · have hq := checkF_fit (xs := xs) (m := m) (by rw [hE]; exact he) (by rw [hN]; exact hl)
      rw [hN] at hq
      clear hN hE
      subst he
      by_cases hm : (m : Int) = N
      · rw [if_pos hm] at hq
        have HF := Lib.hid hq
        have e1 : ((m : Int) == N) = true := by simpa using hm
        have e2 : ((m : Int) != N) = false := by simpa using hm
        clear hm hq
        go_enter Try.func63, Try.ntmps63
        go_wp2_with (go_at_call 53; refine (HC _ (h.alloc (Nat.le_refl _) _)).mono ?_; rintro e w' ⟨rfl, rfl⟩)
        go_ret
        exact ⟨by rw [HF.out]; rfl, (Below.refl _ _).alloc (Nat.le_refl _) _⟩
      · rw [if_neg hm] at hq
        have HF := Lib.hid hq
        have e1 : ((m : Int) == N) = false := by simpa using hm
        have e2 : ((m : Int) != N) = true := by simpa using hm
        clear hm hq
        go_enter Try.func63, Try.ntmps63
        go_wp2_with (go_at_call 53; refine (HC _ (h.alloc (Nat.le_refl _) _)).mono ?_; rintro e w' ⟨rfl, rfl⟩)
        go_ret
        exact ⟨by rw [HF.out]; rfl, (Below.refl _ _).alloc (Nat.le_refl _) _⟩
  · have hq := checkF_err (xs := xs) (m := m) (by rw [hE]; exact he)
    rw [hE] at hq
    have HF := Lib.hid hq
    have e1 : (E == 0) = false := by simpa using he
    have e2 : (E != 0) = true := by simpa using he
    clear hN hE he hq
    go_enter Try.func63, Try.ntmps63
    go_wp2_with (go_at_call 53; refine (HC _ (h.alloc (Nat.le_refl _) _)).mono ?_; rintro e w' ⟨rfl, rfl⟩)
    go_ret
    exact ⟨by rw [HF.out]; rfl, (Below.refl _ _).alloc (Nat.le_refl _) _⟩

/-- a dense tensor's header, and what it holds -/
structure Hdr where
  A : Option Addr
  n : Nat
  c : Nat
  B : Option Addr
  m : Nat
  e : Nat
def Hdr.val (d : Hdr) : Value := .agg #[.slice d.A d.n d.c, .slice d.B d.m d.e]
def fewF (l : List Hdr) : Bool := l.all fun d => decide (d.n ≤ 20) && decide (d.m ≤ 70000)
/-- a block that holds tensors' headers one behind the other -/
def Hdrs (w : World) (g : Nat) (l : List Hdr) : Prop := ∀ (k : Nat) (d : Hdr), l[k]? = some d → w.cell? ⟨g, k * 2, none⟩ = some (.slice d.A d.n d.c) ∧ w.cell? ⟨g, k * 2 + 1, none⟩ = some (.slice d.B d.m d.e)

theorem two_boxes {w w1 : World} {a b c d : Value} {t : TypeId} (hb : Below ((w.alloc (.cells #[a, b] t)).alloc (.cells #[c, d] t)).heap.size ((w.alloc (.cells #[a, b] t)).alloc (.cells #[c, d] t)) w1) :
    w1.cell? ⟨w.heap.size, 0, none⟩ = some a ∧ w1.cell? ⟨w.heap.size, 1, none⟩ = some b ∧ w1.cell? ⟨w.heap.size + 1, 0, none⟩ = some c ∧ w1.cell? ⟨w.heap.size + 1, 1, none⟩ = some d := by
  have h0 : (w.alloc (.cells #[a, b] t)).heap[w.heap.size]? = some (.cells #[a, b] t (0, 0)) := heap_alloc_new w _
  have h1 : ((w.alloc (.cells #[a, b] t)).alloc (.cells #[c, d] t)).heap[w.heap.size]? = some (.cells #[a, b] t (0, 0)) := (Below.heap_alloc _ _ _ (by simp)).trans h0
  have h2 : ((w.alloc (.cells #[a, b] t)).alloc (.cells #[c, d] t)).heap[w.heap.size + 1]? = some (.cells #[c, d] t (0, 0)) := by
    have := heap_alloc_new (w.alloc (.cells #[a, b] t)) (.cells #[c, d] t); rwa [World.size_alloc] at this
  have k1 := (hb.block w.heap.size (by simp; omega)).trans h1
  have k2 := (hb.block (w.heap.size + 1) (by simp)).trans h2
  refine ⟨?_, ?_, ?_, ?_⟩
  · simpa using cell_of_row _ _ 0 _ t (0, 0) k1
  · simpa using cell_of_row _ _ 1 _ t (0, 0) k1
  · simpa using cell_of_row _ _ 0 _ t (0, 0) k2
  · simpa using cell_of_row _ _ 1 _ t (0, 0) k2

/-- box.Same -/
def sameF (xs : List Int) (m : Nat) (xs2 ys ys2 : List Int) : Bool := decide (checkF xs m = 0) && decide (xs = xs2) && decide (ys = ys2)

set_option maxRecDepth 100000 in
theorem same_any (A B A2 B2 : Option Addr) (n c m e n2 c2 m2 e2 : Nat) (xs ys xs2 ys2 : List Int) (w : World) (h : Ints w w.heap.size A n xs) (hv : Ints w w.heap.size B m ys) (h2 : Ints w w.heap.size A2 n2 xs2) (hv2 : Ints w w.heap.size B2 m2 ys2)
    (hn : n ≤ 9223372036854775807) (hm : m ≤ 100000) (hn2 : n2 ≤ 9223372036854775807) (hm2 : m2 ≤ 9223372036854775807) (hn5 : n ≤ 100000) :
    Calls Try.prog 37 #[.agg #[.slice A n c, .slice B m e], .agg #[.slice A2 n2 c2, .slice B2 m2 e2]] w fun x w' => x = .returned (.bool (sameF xs m xs2 ys ys2)) ∧ Below w.heap.size w w' := by
  have HC := fun W (hb : Below w.heap.size w W) => check_any A B n c m e xs W ((h.below hb).more hb.size) hn
  have HE := fun W (hb : Below w.heap.size w W) => equalInt_any A A2 n n2 c c2 xs xs2 W w.heap.size (h.below hb) (h2.below hb) hn5 hn2
  have HV := fun W (hb : Below w.heap.size w W) => equalInt64_any B B2 m m2 e e2 ys ys2 W w.heap.size (hv.below hb) (hv2.below hb) hm hm2
  obtain ⟨E, hE⟩ : ∃ E, checkF xs m = E := ⟨_, rfl⟩
  rw [hE] at HC
  have hB0 : ∀ o1 o2, Below w.heap.size w ((w.alloc o1).alloc o2) := fun o1 o2 => ((Below.refl _ w).alloc (Nat.le_refl _) _).alloc (by simp) _
  by_cases he : E = 0
  · subst he
    by_cases hx : xs = xs2
    · have hd1 : decide (xs = xs2) = true := by simpa using hx
      rw [hd1] at HE
      by_cases hy : ys = ys2
      · have hd2 : decide (ys = ys2) = true := by simpa using hy
        have HF : Hid (sameF xs m xs2 ys ys2 = true) := by unfold Hid sameF; rw [hE, hd1, hd2]; rfl
        rw [hd2] at HV
        clear hE hx hy hd1 hd2
        go_enter Try.func37, Try.ntmps37
        go_wp2_with (first | (go_at_call 60; refine (HC _ (hB0 _ _)).mono ?_; rintro x w1 ⟨rfl, hb1⟩; have hb2 := (hB0 _ _).trans (hb1.mono (by simp; omega)); obtain ⟨k0, k1, k2, k3⟩ := two_boxes hb1) | (go_at_call 48; refine (HE _ hb2).mono ?_; rintro x w3 ⟨rfl, m3, rfl⟩; have hb3 := below_drewN hb2 m3) | (go_at_call 65; refine (HV _ hb3).mono ?_; rintro x w4 ⟨rfl, m4, rfl⟩))
        go_ret
        exact ⟨by rw [HF.out]; rfl, below_drewN hb2 _⟩
      · have hd2 : decide (ys = ys2) = false := by simpa using hy
        have HF : Hid (sameF xs m xs2 ys ys2 = false) := by unfold Hid sameF; rw [hd2]; simp
        rw [hd2] at HV
        clear hE hx hy hd1 hd2
        go_enter Try.func37, Try.ntmps37
        go_wp2_with (first | (go_at_call 60; refine (HC _ (hB0 _ _)).mono ?_; rintro x w1 ⟨rfl, hb1⟩; have hb2 := (hB0 _ _).trans (hb1.mono (by simp; omega)); obtain ⟨k0, k1, k2, k3⟩ := two_boxes hb1) | (go_at_call 48; refine (HE _ hb2).mono ?_; rintro x w3 ⟨rfl, m3, rfl⟩; have hb3 := below_drewN hb2 m3) | (go_at_call 65; refine (HV _ hb3).mono ?_; rintro x w4 ⟨rfl, m4, rfl⟩))
        go_ret
        exact ⟨by rw [HF.out]; rfl, below_drewN hb2 _⟩
    · have hd1 : decide (xs = xs2) = false := by simpa using hx
      rw [hd1] at HE
      have HF : Hid (sameF xs m xs2 ys ys2 = false) := by unfold Hid sameF; rw [hd1]; simp
      clear hE hx hd1
      go_enter Try.func37, Try.ntmps37
      go_wp2_with (first | (go_at_call 60; refine (HC _ (hB0 _ _)).mono ?_; rintro x w1 ⟨rfl, hb1⟩; have hb2 := (hB0 _ _).trans (hb1.mono (by simp; omega)); obtain ⟨k0, k1, k2, k3⟩ := two_boxes hb1) | (go_at_call 48; refine (HE _ hb2).mono ?_; rintro x w3 ⟨rfl, m3, rfl⟩; have hb3 := below_drewN hb2 m3))
      go_ret
      exact ⟨by rw [HF.out]; rfl, below_drewN hb2 _⟩
  · have HF : Hid (sameF xs m xs2 ys ys2 = false) := by unfold Hid sameF; rw [hE, decide_eq_false he]; rfl
    have e1 : (E == 0) = false := by simpa using he
    clear hE he
    go_enter Try.func37, Try.ntmps37
    go_wp2_with (go_at_call 60; refine (HC _ (hB0 _ _)).mono ?_; rintro x w1 ⟨rfl, hb1⟩; have hb2 := (hB0 _ _).trans (hb1.mono (by simp; omega)); obtain ⟨k0, k1, k2, k3⟩ := two_boxes hb1)
    go_ret
    exact ⟨by rw [HF.out]; rfl, hb2⟩

set_option maxRecDepth 100000 in
/-- the document's Equals -/
theorem equals_any (A B A2 B2 : Option Addr) (n c m e n2 c2 m2 e2 : Nat) (xs ys xs2 ys2 : List Int) (w : World) (h : Ints w w.heap.size A n xs) (hv : Ints w w.heap.size B m ys) (h2 : Ints w w.heap.size A2 n2 xs2) (hv2 : Ints w w.heap.size B2 m2 ys2)
    (hn : n ≤ 100000) (hm : m ≤ 100000) (hn2 : n2 ≤ 9223372036854775807) (hm2 : m2 ≤ 9223372036854775807) :
    Calls Try.prog 35 #[.agg #[.slice A n c, .slice B m e], .agg #[.slice A2 n2 c2, .slice B2 m2 e2]] w fun x w' => x = .returned (.bool (decide (xs = xs2) && decide (ys = ys2))) ∧ Below w.heap.size w w' := by
  have HE := fun W (hb : Below w.heap.size w W) => refEqual_any A A2 n n2 c c2 xs xs2 W w.heap.size (h.below hb) (h2.below hb) hn hn2
  have hB0 : ∀ o1 o2, Below w.heap.size w ((w.alloc o1).alloc o2) := fun o1 o2 => ((Below.refl _ w).alloc (Nat.le_refl _) _).alloc (by simp) _
  have HL := Lib.hid hv.1
  have HL2 := Lib.hid hv2.1
  by_cases hx : xs = xs2
  · have hd1 : decide (xs = xs2) = true := by simpa using hx
    rw [hd1] at HE
    by_cases hmm : m = m2
    · subst hmm
      have HD := Lib.hid hd1
      clear hx hd1
      go_enter Try.func35, Try.ntmps35
      go_wp2_with (go_at_call 36; refine (HE _ (hB0 _ _)).mono ?_; rintro x w3 ⟨rfl, m3, rfl⟩)
      generalize hW : ((w.alloc (.cells #[.slice A n c, .slice B m e] 41)).alloc (.cells #[.slice A2 n2 c2, .slice B2 m e2] 41)) = W0
      have hb0 : Below w.heap.size w W0 := by rw [← hW]; exact hB0 _ _
      obtain ⟨k0, k1, k2, k3⟩ := two_boxes (w := w) (a := .slice A n c) (b := .slice B m e) (c := .slice A2 n2 c2) (d := .slice B2 m e2) (t := 41) (w1 := W0) (by rw [hW]; exact Below.refl _ _)
      clear hW HE
      go_loopw [24] (fun i wr => ∃ (k q : Nat), k ≤ m ∧ i = .int .i64 k ∧ wr = W0.drewN q ∧ Hid (ys.take k = ys2.take k)) (fun i _ => m - (intOf i).toNat)
      case atStart => exact ⟨0, _, Nat.zero_le _, rfl, rfl, by unfold Hid; simp⟩
      case round =>
        obtain ⟨k, q, hk, rfl, rfl, HK⟩ := hrel
        by_cases hlt : k < m
        · obtain ⟨b, off, x, rfl, _, HX, hc, hx1, hx2⟩ := (hv.below hb0).at_ hlt
          obtain ⟨b2, off2, y, rfl, _, HY, hc2, hy1, hy2⟩ := (hv2.below hb0).at_ hlt
          have hk0 : (0 : Int) ≤ k := by omega
          have hk1 : (k : Int) < m := by omega
          by_cases hxy : x = y
          · have HN : Hid (ys.take (k + 1) = ys2.take (k + 1)) := by unfold Hid; rw [take_succ_of HX.out, take_succ_of HY.out, HK.out, hxy]
            have e1 : (x == y) = true := by simpa using hxy
            have e2 : (x != y) = false := by simpa using hxy
            clear hxy
            go_wp2
            go_quiet (fail)
            go_wp2
            go_roundw
            case rel => exact ⟨k + 1, _, by omega, by go_num, rfl, HN⟩
            case measure => simp [intOf]; omega
          · have HF : Hid (decide (ys = ys2) = false) := by
              unfold Hid; rw [decide_eq_false]; intro e; subst e
              have := HX.out; rw [HY.out] at this; exact hxy (by injection this with this; exact this.symm)
            have e1 : (x == y) = false := by simpa using hxy
            have e2 : (x != y) = true := by simpa using hxy
            go_wp2
            go_quiet (fail)
            go_wp2
            go_ret
            exact ⟨by rw [HF.out, Bool.and_false]; rfl, below_drewN (below_drewN hb0 _) _⟩
        · have HF : Hid (decide (ys = ys2) = true) := by
            unfold Hid; rw [decide_eq_true]; have := HK.out
            rwa [List.take_of_length_le (by rw [HL.out]; omega), List.take_of_length_le (by rw [HL2.out]; omega)] at this
          go_wp2
          go_ret
          exact ⟨by rw [HF.out, HD.out]; rfl, below_drewN hb0 _⟩
    · have HF : Hid ((decide (xs = xs2) && decide (ys = ys2)) = false) := by
        unfold Hid; rw [decide_eq_false (p := ys = ys2), Bool.and_false]; intro e; subst e; exact hmm (by rw [← HL.out, ← HL2.out])
      have e1 : ((m : Int) == (m2 : Int)) = false := by simp; omega
      have e2 : ((m : Int) != (m2 : Int)) = true := by simp; omega
      clear hx hd1 hmm
      go_enter Try.func35, Try.ntmps35
      go_wp2_with (go_at_call 36; refine (HE _ (hB0 _ _)).mono ?_; rintro x w3 ⟨rfl, m3, rfl⟩)
      go_ret
      exact ⟨by rw [HF.out]; rfl, below_drewN (hB0 _ _) _⟩
  · have hd1 : decide (xs = xs2) = false := by simpa using hx
    have HF : Hid ((decide (xs = xs2) && decide (ys = ys2)) = false) := by unfold Hid; rw [hd1]; rfl
    rw [hd1] at HE
    clear hx hd1
    go_enter Try.func35, Try.ntmps35
    go_wp2_with (go_at_call 36; refine (HE _ (hB0 _ _)).mono ?_; rintro x w3 ⟨rfl, m3, rfl⟩)
    go_ret
    exact ⟨by rw [HF.out]; rfl, below_drewN (hB0 _ _) _⟩
end Go.Proofs.Ytpjelcghlnmoeaa
