/- Two tensors checked: the document's two, box.both where it has an error; box.Add, Mul and Scale at any tensors. -/
import Derived.Test.YtbicdbheclldcaaSumsWalk
namespace Go.Proofs.Ytbicdbheclldcaa
open Go.RowKit

/-- the error of two tensors -/
def twoF (xs : List Int) (m : Nat) (xs2 : List Int) (m2 : Nat) : Int := if checkF xs m = 0 then if checkF xs2 m2 = 0 then if xs = xs2 then 0 else 4 else checkF xs2 m2 else checkF xs m
theorem twoF_zero {xs xs2 : List Int} {m m2 : Nat} (h : twoF xs m xs2 m2 = 0) : checkF xs m = 0 ∧ checkF xs2 m2 = 0 ∧ xs = xs2 := by
  unfold twoF at h
  split at h
  · rename_i h1
    split at h
    · rename_i h2
      split at h
      · rename_i h3; exact ⟨h1, h2, h3⟩
      · simp at h
    · rename_i h2; exact absurd h h2
  · rename_i h1; exact absurd h h1
theorem eqI (A A2 : Option Addr) (n n2 c c2 : Nat) (xs ys : List Int) (W : World) (h : Ints W W.heap.size A n xs) (h2 : Ints W W.heap.size A2 n2 ys) (hn : n ≤ 100000) (hn2 : n2 ≤ 9223372036854775807) :
    Calls Try.prog 74 #[.slice A n c, .slice A2 n2 c2] W fun e w' => e = .returned (.bool (decide (xs = ys))) ∧ Below W.heap.size W w' :=
  (equalInt_any A A2 n n2 c c2 xs ys W W.heap.size h h2 hn hn2).mono fun e w' ⟨he, m, hm⟩ => ⟨he, by subst hm; exact below_drewN (Below.refl _ _) m⟩
theorem uPast' {w : World} {g : Nat} {o : Obj} (X : Obj) (hg : w.heap[g]? = some o) : (w.alloc X).heap[g]? = some o := (Below.heap_alloc w X g (Array.getElem?_eq_some_iff.1 hg).1).trans hg
set_option maxRecDepth 100000 in
set_option maxHeartbeats 2000000 in
theorem refTwo_any (A B A2 B2 : Option Addr) (n c m e n2 c2 m2 e2 : Nat) (xs xs2 : List Int) (w : World) (h : Ints w w.heap.size A n xs) (h2 : Ints w w.heap.size A2 n2 xs2) (hn : n ≤ 9223372036854775807) (hn2 : n2 ≤ 9223372036854775807) :
    Calls Try.prog 63 #[.agg #[.slice A n c, .slice B m e], .agg #[.slice A2 n2 c2, .slice B2 m2 e2]] w fun x w' => x = .returned (.int .i64 (twoF xs m xs2 m2)) ∧ Below w.heap.size w w' := by
  have HC := fun W (hb : Below w.heap.size w W) => refCheck_any A B n c m e xs W ((h.below hb).more hb.size) hn
  have HC2 := fun W (hb : Below w.heap.size w W) => refCheck_any A2 B2 n2 c2 m2 e2 xs2 W ((h2.below hb).more hb.size) hn2
  have HQ := fun W (hb : Below w.heap.size w W) (hn4 : n ≤ 100000) => eqB A A2 n n2 c c2 xs xs2 W ((h.below hb).more hb.size) ((h2.below hb).more hb.size) hn4 hn2
  have hB0 : Below w.heap.size w ((w.alloc (.cells #[.slice A n c, .slice B m e] 25)).alloc (.cells #[.slice A2 n2 c2, .slice B2 m2 e2] 25)) := below_two w _ _
  have z0 := zf_two w (.cells #[.slice A n c, .slice B m e] 25) (.cells #[.slice A2 n2 c2, .slice B2 m2 e2] 25)
  have z1 := zf_snd w (.cells #[.slice A2 n2 c2, .slice B2 m2 e2] 25) (.cells #[.slice A n c, .slice B m e] 25)
  have hs4 : checkF xs m = 0 → n ≤ 100000 := fun h0 => by have := laidF_erase h0; have := h.1; omega
  by_cases c1 : checkF xs m = 0
  · replace HQ := fun W hb => HQ W hb (hs4 c1)
    by_cases c2 : checkF xs2 m2 = 0
    · by_cases c3 : xs = xs2
      · have HF : Hid (twoF xs m xs2 m2 = 0) := by unfold Hid twoF; rw [if_pos c1, if_pos c2, if_pos c3]
        rw [c1] at HC
        rw [c2] at HC2
        have hq : decide (xs = xs2) = true := decide_eq_true c3
        rw [hq] at HQ
        clear c1 c2 c3 hq hs4
        go_enter Try.func63, Try.ntmps63
        have u0 := z0
        have u1 := z1
        have hT := hB0
        obtain ⟨k0, k1, _, _⟩ := dCells u0
        obtain ⟨k2, k3, _, _⟩ := dCells u1
        go_wp2_with (first | (go_at_call 67; (with_reducible refine (HC _ hT).mono ?_); rintro x w1 ⟨rfl, hb1⟩; replace u0 := dKeep hb1 u0; replace u1 := dKeep hb1 u1; replace hT := hT.trans (hb1.mono hT.size); clear k0 k1 k2 k3; obtain ⟨k0, k1, _, _⟩ := dCells u0; obtain ⟨k2, k3, _, _⟩ := dCells u1) | (go_at_call 67; (with_reducible refine (HC2 _ hT).mono ?_); rintro x w2 ⟨rfl, hb2⟩; replace u0 := dKeep hb2 u0; replace u1 := dKeep hb2 u1; replace hT := hT.trans (hb2.mono hT.size); clear k0 k1 k2 k3; obtain ⟨k0, k1, _, _⟩ := dCells u0; obtain ⟨k2, k3, _, _⟩ := dCells u1) | (go_at_call 26; (with_reducible refine (HQ _ hT).mono ?_); rintro x w3 ⟨rfl, hb3⟩; replace hT := hT.trans (hb3.mono hT.size)))
        go_ret
        exact ⟨by rw [HF.out]; rfl, hT⟩
      · have HF : Hid (twoF xs m xs2 m2 = 4) := by unfold Hid twoF; rw [if_pos c1, if_pos c2, if_neg c3]
        rw [c1] at HC
        rw [c2] at HC2
        have hq : decide (xs = xs2) = false := decide_eq_false c3
        rw [hq] at HQ
        clear c1 c2 c3 hq hs4
        go_enter Try.func63, Try.ntmps63
        have u0 := z0
        have u1 := z1
        have hT := hB0
        obtain ⟨k0, k1, _, _⟩ := dCells u0
        obtain ⟨k2, k3, _, _⟩ := dCells u1
        go_wp2_with (first | (go_at_call 67; (with_reducible refine (HC _ hT).mono ?_); rintro x w1 ⟨rfl, hb1⟩; replace u0 := dKeep hb1 u0; replace u1 := dKeep hb1 u1; replace hT := hT.trans (hb1.mono hT.size); clear k0 k1 k2 k3; obtain ⟨k0, k1, _, _⟩ := dCells u0; obtain ⟨k2, k3, _, _⟩ := dCells u1) | (go_at_call 67; (with_reducible refine (HC2 _ hT).mono ?_); rintro x w2 ⟨rfl, hb2⟩; replace u0 := dKeep hb2 u0; replace u1 := dKeep hb2 u1; replace hT := hT.trans (hb2.mono hT.size); clear k0 k1 k2 k3; obtain ⟨k0, k1, _, _⟩ := dCells u0; obtain ⟨k2, k3, _, _⟩ := dCells u1) | (go_at_call 26; (with_reducible refine (HQ _ hT).mono ?_); rintro x w3 ⟨rfl, hb3⟩; replace hT := hT.trans (hb3.mono hT.size)))
        go_ret
        exact ⟨by rw [HF.out]; rfl, hT⟩
    · have HF : Hid (twoF xs m xs2 m2 = checkF xs2 m2) := by unfold Hid twoF; rw [if_pos c1, if_neg c2]
      rw [c1] at HC
      obtain ⟨E, hE⟩ : ∃ E, checkF xs2 m2 = E := ⟨_, rfl⟩
      rw [hE] at HC2 c2 HF
      have he1 : (E == 0) = false := by simpa using c2
      have he2 : (E != 0) = true := by simpa using c2
      clear c1 c2 hE hs4
      go_enter Try.func63, Try.ntmps63
      have u0 := z0
      have u1 := z1
      have hT := hB0
      obtain ⟨k0, k1, _, _⟩ := dCells u0
      obtain ⟨k2, k3, _, _⟩ := dCells u1
      go_wp2_with (first | (go_at_call 67; (with_reducible refine (HC _ hT).mono ?_); rintro x w1 ⟨rfl, hb1⟩; replace u0 := dKeep hb1 u0; replace u1 := dKeep hb1 u1; replace hT := hT.trans (hb1.mono hT.size); clear k0 k1 k2 k3; obtain ⟨k0, k1, _, _⟩ := dCells u0; obtain ⟨k2, k3, _, _⟩ := dCells u1) | (go_at_call 67; (with_reducible refine (HC2 _ hT).mono ?_); rintro x w2 ⟨rfl, hb2⟩; replace u0 := dKeep hb2 u0; replace u1 := dKeep hb2 u1; replace hT := hT.trans (hb2.mono hT.size); clear k0 k1 k2 k3; obtain ⟨k0, k1, _, _⟩ := dCells u0; obtain ⟨k2, k3, _, _⟩ := dCells u1) | (go_at_call 26; (with_reducible refine (HQ _ hT).mono ?_); rintro x w3 ⟨rfl, hb3⟩; replace hT := hT.trans (hb3.mono hT.size)))
      go_ret
      exact ⟨by rw [HF.out]; rfl, hT⟩
  · have HF : Hid (twoF xs m xs2 m2 = checkF xs m) := by unfold Hid twoF; rw [if_neg c1]
    obtain ⟨E, hE⟩ : ∃ E, checkF xs m = E := ⟨_, rfl⟩
    rw [hE] at HC c1 HF
    have he1 : (E == 0) = false := by simpa using c1
    have he2 : (E != 0) = true := by simpa using c1
    clear c1 hE hs4 HQ
    go_enter Try.func63, Try.ntmps63
    have u0 := z0
    have u1 := z1
    have hT := hB0
    obtain ⟨k0, k1, _, _⟩ := dCells u0
    obtain ⟨k2, k3, _, _⟩ := dCells u1
    go_wp2_with (first | (go_at_call 67; (with_reducible refine (HC _ hT).mono ?_); rintro x w1 ⟨rfl, hb1⟩; replace u0 := dKeep hb1 u0; replace u1 := dKeep hb1 u1; replace hT := hT.trans (hb1.mono hT.size); clear k0 k1 k2 k3; obtain ⟨k0, k1, _, _⟩ := dCells u0; obtain ⟨k2, k3, _, _⟩ := dCells u1) | (go_at_call 67; (with_reducible refine (HC2 _ hT).mono ?_); rintro x w2 ⟨rfl, hb2⟩; replace u0 := dKeep hb2 u0; replace u1 := dKeep hb2 u1; replace hT := hT.trans (hb2.mono hT.size); clear k0 k1 k2 k3; obtain ⟨k0, k1, _, _⟩ := dCells u0; obtain ⟨k2, k3, _, _⟩ := dCells u1) | (go_at_call 26; (with_reducible refine (HQ _ hT).mono ?_); rintro x w3 ⟨rfl, hb3⟩; replace hT := hT.trans (hb3.mono hT.size)))
    go_ret
    exact ⟨by rw [HF.out]; rfl, hT⟩
set_option maxRecDepth 100000 in
set_option maxHeartbeats 2000000 in
theorem both_err (A B A2 B2 : Option Addr) (n c m e n2 c2 m2 e2 : Nat) (xs xs2 : List Int) (w : World) (h : Ints w w.heap.size A n xs) (h2 : Ints w w.heap.size A2 n2 xs2) (hn : n ≤ 9223372036854775807) (hn2 : n2 ≤ 9223372036854775807) (fi : Nat) (cv : Array Value) (hne : ¬ twoF xs m xs2 m2 = 0) :
    Calls Try.prog 61 #[.agg #[.slice A n c, .slice B m e], .agg #[.slice A2 n2 c2, .slice B2 m2 e2], .func (.func fi) #[] cv] w fun x w' => x = .returned (.tuple #[.agg #[.slice none 0 0, .slice none 0 0], .int .i64 (twoF xs m xs2 m2)]) ∧ Below w.heap.size w w' := by
  have HC := fun W (hb : Below w.heap.size w W) => check_any A B n c m e xs W ((h.below hb).more hb.size) hn
  have HC2 := fun W (hb : Below w.heap.size w W) => check_any A2 B2 n2 c2 m2 e2 xs2 W ((h2.below hb).more hb.size) hn2
  have HQ := fun W (hb : Below w.heap.size w W) (hn4 : n ≤ 100000) => eqI A A2 n n2 c c2 xs xs2 W ((h.below hb).more hb.size) ((h2.below hb).more hb.size) hn4 hn2
  have hB0 : Below w.heap.size w ((w.alloc (.cells #[.slice A n c, .slice B m e] 25)).alloc (.cells #[.slice A2 n2 c2, .slice B2 m2 e2] 25)) := below_two w _ _
  have z0 := zf_two w (.cells #[.slice A n c, .slice B m e] 25) (.cells #[.slice A2 n2 c2, .slice B2 m2 e2] 25)
  have z1 := zf_snd w (.cells #[.slice A2 n2 c2, .slice B2 m2 e2] 25) (.cells #[.slice A n c, .slice B m e] 25)
  have hs4 : checkF xs m = 0 → n ≤ 100000 := fun h0 => by have := laidF_erase h0; have := h.1; omega
  have hB3 := hB0.alloc hB0.size (.cells #[.slice none 0 0, .slice none 0 0] 25)
  have zz0 := uPast' (.cells #[.slice none 0 0, .slice none 0 0] 25) z0
  have zz1 := uPast' (.cells #[.slice none 0 0, .slice none 0 0] 25) z1
  have zz2 := heap_alloc_new ((w.alloc (.cells #[.slice A n c, .slice B m e] 25)).alloc (.cells #[.slice A2 n2 c2, .slice B2 m2 e2] 25)) (.cells #[.slice none 0 0, .slice none 0 0] 25)
  simp only [World.size_alloc] at zz2
  by_cases c1 : checkF xs m = 0
  · replace HQ := fun W hb => HQ W hb (hs4 c1)
    by_cases c2 : checkF xs2 m2 = 0
    · by_cases c3 : xs = xs2
      · have HF : Hid (twoF xs m xs2 m2 = 0) := by unfold Hid twoF; rw [if_pos c1, if_pos c2, if_pos c3]
        rw [c1] at HC
        rw [c2] at HC2
        have hq : decide (xs = xs2) = true := decide_eq_true c3
        rw [hq] at HQ
        clear c1 c2 c3 hq hs4
        exact absurd HF.out hne
      · have HF : Hid (twoF xs m xs2 m2 = 4) := by unfold Hid twoF; rw [if_pos c1, if_pos c2, if_neg c3]
        rw [c1] at HC
        rw [c2] at HC2
        have hq : decide (xs = xs2) = false := decide_eq_false c3
        rw [hq] at HQ
        clear c1 c2 c3 hq hs4
        rw [HF.out]
        clear HF hne
        go_enter Try.func61, Try.ntmps61
        have u0 := zz0
        have u1 := zz1
        have u2 := zz2
        have hT := hB3
        obtain ⟨k0, k1, _, _⟩ := dCells u0
        obtain ⟨k2, k3, _, _⟩ := dCells u1
        obtain ⟨k4, k5, f4, f5⟩ := dCells u2
        go_wp2_with (first | (go_at_call 27; (with_reducible refine (HC _ hT).mono ?_); rintro x w1 ⟨rfl, hb1⟩; replace u0 := dKeep hb1 u0; replace u1 := dKeep hb1 u1; replace u2 := dKeep hb1 u2; replace hT := hT.trans (hb1.mono hT.size); clear k0 k1 k2 k3 k4 k5 f4 f5; obtain ⟨k4, k5, f4, f5⟩ := dCells u2; obtain ⟨k0, k1, _, _⟩ := dCells u0; obtain ⟨k2, k3, _, _⟩ := dCells u1) | (go_at_call 27; (with_reducible refine (HC2 _ hT).mono ?_); rintro x w2 ⟨rfl, hb2⟩; replace u0 := dKeep hb2 u0; replace u1 := dKeep hb2 u1; replace u2 := dKeep hb2 u2; replace hT := hT.trans (hb2.mono hT.size); clear k0 k1 k2 k3 k4 k5 f4 f5; obtain ⟨k4, k5, f4, f5⟩ := dCells u2; obtain ⟨k0, k1, _, _⟩ := dCells u0; obtain ⟨k2, k3, _, _⟩ := dCells u1) | (go_at_call 74; (with_reducible refine (HQ _ hT).mono ?_); rintro x w3 ⟨rfl, hb3⟩; replace u2 := dKeep hb3 u2; clear k0 k1 k2 k3 k4 k5 f4 f5; obtain ⟨k4, k5, f4, f5⟩ := dCells u2; replace hT := hT.trans (hb3.mono hT.size)))
        obtain ⟨e0, e1⟩ := zcells (a := .slice none 0 0) (b := .slice none 0 0) k4 k5
        exact bodyPost_ret (v := .tuple #[.agg #[.slice none 0 0, .slice none 0 0], .int .i64 4]) (by simp [results, Try.results61, go_sem, e0, e1]) rfl ⟨rfl, (hT.setCell (p := ⟨w.heap.size + 1 + 1, 0, none⟩) (by show _ ≤ w.heap.size + 1 + 1; omega) _).setCell (p := ⟨w.heap.size + 1 + 1, 1, none⟩) (by show _ ≤ w.heap.size + 1 + 1; omega) _⟩
    · have HF : Hid (twoF xs m xs2 m2 = checkF xs2 m2) := by unfold Hid twoF; rw [if_pos c1, if_neg c2]
      rw [c1] at HC
      obtain ⟨E, hE⟩ : ∃ E, checkF xs2 m2 = E := ⟨_, rfl⟩
      rw [hE] at HC2 c2 HF
      have he1 : (E == 0) = false := by simpa using c2
      have he2 : (E != 0) = true := by simpa using c2
      clear c1 c2 hE hs4
      rw [HF.out]
      clear HF hne
      go_enter Try.func61, Try.ntmps61
      have u0 := zz0
      have u1 := zz1
      have u2 := zz2
      have hT := hB3
      obtain ⟨k0, k1, _, _⟩ := dCells u0
      obtain ⟨k2, k3, _, _⟩ := dCells u1
      obtain ⟨k4, k5, f4, f5⟩ := dCells u2
      go_wp2_with (first | (go_at_call 27; (with_reducible refine (HC _ hT).mono ?_); rintro x w1 ⟨rfl, hb1⟩; replace u0 := dKeep hb1 u0; replace u1 := dKeep hb1 u1; replace u2 := dKeep hb1 u2; replace hT := hT.trans (hb1.mono hT.size); clear k0 k1 k2 k3 k4 k5 f4 f5; obtain ⟨k4, k5, f4, f5⟩ := dCells u2; obtain ⟨k0, k1, _, _⟩ := dCells u0; obtain ⟨k2, k3, _, _⟩ := dCells u1) | (go_at_call 27; (with_reducible refine (HC2 _ hT).mono ?_); rintro x w2 ⟨rfl, hb2⟩; replace u0 := dKeep hb2 u0; replace u1 := dKeep hb2 u1; replace u2 := dKeep hb2 u2; replace hT := hT.trans (hb2.mono hT.size); clear k0 k1 k2 k3 k4 k5 f4 f5; obtain ⟨k4, k5, f4, f5⟩ := dCells u2; obtain ⟨k0, k1, _, _⟩ := dCells u0; obtain ⟨k2, k3, _, _⟩ := dCells u1) | (go_at_call 74; (with_reducible refine (HQ _ hT).mono ?_); rintro x w3 ⟨rfl, hb3⟩; replace u2 := dKeep hb3 u2; clear k0 k1 k2 k3 k4 k5 f4 f5; obtain ⟨k4, k5, f4, f5⟩ := dCells u2; replace hT := hT.trans (hb3.mono hT.size)))
      obtain ⟨e0, e1⟩ := zcells (a := .slice none 0 0) (b := .slice none 0 0) k4 k5
      exact bodyPost_ret (v := .tuple #[.agg #[.slice none 0 0, .slice none 0 0], .int .i64 E]) (by simp [results, Try.results61, go_sem, e0, e1]) rfl ⟨rfl, (hT.setCell (p := ⟨w.heap.size + 1 + 1, 0, none⟩) (by show _ ≤ w.heap.size + 1 + 1; omega) _).setCell (p := ⟨w.heap.size + 1 + 1, 1, none⟩) (by show _ ≤ w.heap.size + 1 + 1; omega) _⟩
  · have HF : Hid (twoF xs m xs2 m2 = checkF xs m) := by unfold Hid twoF; rw [if_neg c1]
    obtain ⟨E, hE⟩ : ∃ E, checkF xs m = E := ⟨_, rfl⟩
    rw [hE] at HC c1 HF
    have he1 : (E == 0) = false := by simpa using c1
    have he2 : (E != 0) = true := by simpa using c1
    clear c1 hE hs4 HQ
    rw [HF.out]
    clear HF hne
    go_enter Try.func61, Try.ntmps61
    have u0 := zz0
    have u1 := zz1
    have u2 := zz2
    have hT := hB3
    obtain ⟨k0, k1, _, _⟩ := dCells u0
    obtain ⟨k2, k3, _, _⟩ := dCells u1
    obtain ⟨k4, k5, f4, f5⟩ := dCells u2
    go_wp2_with (first | (go_at_call 27; (with_reducible refine (HC _ hT).mono ?_); rintro x w1 ⟨rfl, hb1⟩; replace u0 := dKeep hb1 u0; replace u1 := dKeep hb1 u1; replace u2 := dKeep hb1 u2; replace hT := hT.trans (hb1.mono hT.size); clear k0 k1 k2 k3 k4 k5 f4 f5; obtain ⟨k4, k5, f4, f5⟩ := dCells u2; obtain ⟨k0, k1, _, _⟩ := dCells u0; obtain ⟨k2, k3, _, _⟩ := dCells u1) | (go_at_call 27; (with_reducible refine (HC2 _ hT).mono ?_); rintro x w2 ⟨rfl, hb2⟩; replace u0 := dKeep hb2 u0; replace u1 := dKeep hb2 u1; replace u2 := dKeep hb2 u2; replace hT := hT.trans (hb2.mono hT.size); clear k0 k1 k2 k3 k4 k5 f4 f5; obtain ⟨k4, k5, f4, f5⟩ := dCells u2; obtain ⟨k0, k1, _, _⟩ := dCells u0; obtain ⟨k2, k3, _, _⟩ := dCells u1) | (go_at_call 74; (with_reducible refine (HQ _ hT).mono ?_); rintro x w3 ⟨rfl, hb3⟩; replace u2 := dKeep hb3 u2; clear k0 k1 k2 k3 k4 k5 f4 f5; obtain ⟨k4, k5, f4, f5⟩ := dCells u2; replace hT := hT.trans (hb3.mono hT.size)))
    obtain ⟨e0, e1⟩ := zcells (a := .slice none 0 0) (b := .slice none 0 0) k4 k5
    exact bodyPost_ret (v := .tuple #[.agg #[.slice none 0 0, .slice none 0 0], .int .i64 E]) (by simp [results, Try.results61, go_sem, e0, e1]) rfl ⟨rfl, (hT.setCell (p := ⟨w.heap.size + 1 + 1, 0, none⟩) (by show _ ≤ w.heap.size + 1 + 1; omega) _).setCell (p := ⟨w.heap.size + 1 + 1, 1, none⟩) (by show _ ≤ w.heap.size + 1 + 1; omega) _⟩
end Go.Proofs.Ytbicdbheclldcaa
