/- The contract of the document's Same of levels. -/
import Derived.Test.YtanbhpdobpiafaaLOf
namespace Go.Proofs.Ytanbhpdobpiafaa
open Go.RowKit

theorem refEqual_bel (A A2 : Option Addr) (n n2 c c2 : Nat) (xs ys : List Int) (w : World) (h : Ints w w.heap.size A n xs) (h2 : Ints w w.heap.size A2 n2 ys) (hn : n ≤ 100000) (hn2 : n2 ≤ 9223372036854775807) :
    Calls Try.prog 28 #[.slice A n c, .slice A2 n2 c2] w fun e w' => e = .returned (.bool (decide (xs = ys))) ∧ Below w.heap.size w w' :=
  (refEqual_any A A2 n n2 c c2 xs ys w w.heap.size h h2 hn hn2).mono fun e w' ⟨he, m, hm⟩ => ⟨he, by subst hm; exact below_drewN2 (Below.refl _ _) m⟩
theorem two_lv (w : World) (o o2 : Obj) : ((w.alloc o).alloc o2).heap[w.heap.size]? = some o ∧ ((w.alloc o).alloc o2).heap[w.heap.size + 1]? = some o2 := by
  refine ⟨?_, ?_⟩
  · rw [Below.heap_alloc (w.alloc o) o2 w.heap.size (by simp)]; exact heap_alloc_new w o
  · have := heap_alloc_new (w.alloc o) o2; rwa [World.size_alloc] at this
set_option maxRecDepth 100000 in
set_option maxHeartbeats 1000000 in
theorem refSameL_any (K S K2 S2 : Int) (A B A2 B2 : Option Addr) (n c m e n2 c2 m2 e2 : Nat) (xs ys xs2 ys2 : List Int) (w : World) (h : LvI w A n B m xs ys) (h2 : LvI w A2 n2 B2 m2 xs2 ys2) (hn : n ≤ 100000) (hm : m ≤ 100000) :
    Calls Try.prog 25 #[lvV K S A n c B m e, lvV K2 S2 A2 n2 c2 B2 m2 e2] w fun x w' => x = .returned (.bool (pB (K = K2 ∧ S = S2 ∧ xs = xs2 ∧ ys = ys2))) ∧ Below w.heap.size w w' := by
  have z0 := lvBelow w (lvO K S A n c B m e)
  have z1 := z0.alloc z0.size (lvO K2 S2 A2 n2 c2 B2 m2 e2)
  obtain ⟨b1, b2⟩ := two_lv w (lvO K S A n c B m e) (lvO K2 S2 A2 n2 c2 B2 m2 e2)
  replace h := h.below z1
  replace h2 := h2.below z1
  have cP := fun W (hb : Below ((w.alloc (lvO K S A n c B m e)).alloc (lvO K2 S2 A2 n2 c2 B2 m2 e2)).heap.size ((w.alloc (lvO K S A n c B m e)).alloc (lvO K2 S2 A2 n2 c2 B2 m2 e2)) W) => refEqual_bel A A2 n n2 c c2 xs xs2 W (h.below hb).pos (h2.below hb).pos hn h2.n1
  have cC := fun W (hb : Below ((w.alloc (lvO K S A n c B m e)).alloc (lvO K2 S2 A2 n2 c2 B2 m2 e2)).heap.size ((w.alloc (lvO K S A n c B m e)).alloc (lvO K2 S2 A2 n2 c2 B2 m2 e2)) W) => refEqual_bel B B2 m m2 e e2 ys ys2 W (h.below hb).crd (h2.below hb).crd hm h2.m1
  clear h h2 z0
  by_cases q0 : K = K2
  · have f0 : (K == K2) = true := by simpa using q0
    by_cases q1 : S = S2
    · have f1 : (S == S2) = true := by simpa using q1
      by_cases q2 : xs = xs2
      · rw [decide_eq_true q2] at cP
        have HC : Hid (pB (K = K2 ∧ S = S2 ∧ xs = xs2 ∧ ys = ys2) = decide (ys = ys2)) := by
          unfold Hid
          by_cases q3 : ys = ys2
          · rw [pB_t ⟨q0, q1, q2, q3⟩, decide_eq_true q3]
          · rw [pB_f (fun q => q3 q.2.2.2), decide_eq_false q3]
        obtain ⟨r, hr⟩ : ∃ r, decide (ys = ys2) = r := ⟨_, rfl⟩
        rw [hr] at cC HC
        clear q0 q1 q2 hr
        go_enter Try.func25, Try.ntmps25
        go_wp2_with fail
        refine (cP _ (Below.refl _ _)).mono ?_
        rintro x w3 ⟨rfl, hb3⟩
        obtain ⟨k0, k1, k2, k3, _⟩ := lvCells (oKeep hb3 b1)
        obtain ⟨j0, j1, j2, j3, _⟩ := lvCells (oKeep hb3 b2)
        go_wp2_with fail
        refine (cC _ hb3).mono ?_
        rintro x w5 ⟨rfl, hb5⟩
        have hb6 := z1.trans ((hb3.trans (hb5.mono hb3.size)).mono z1.size)
        go_wp2_with fail
        go_ret
        exact ⟨ret_of (by rw [HC.out]; rfl), hb6⟩
      · rw [decide_eq_false q2] at cP
        have HF : Hid (pB (K = K2 ∧ S = S2 ∧ xs = xs2 ∧ ys = ys2) = false) := pB_f (fun q => q2 q.2.2.1)
        clear q0 q1 q2 cC
        go_enter Try.func25, Try.ntmps25
        go_wp2_with fail
        refine (cP _ (Below.refl _ _)).mono ?_
        rintro x w3 ⟨rfl, hb3⟩
        have hb6 := z1.trans (hb3.mono z1.size)
        go_wp2_with fail
        go_ret
        exact ⟨ret_of (by rw [HF.out]; rfl), hb6⟩
    · have f1 : (S == S2) = false := by simpa using q1
      have HF : Hid (pB (K = K2 ∧ S = S2 ∧ xs = xs2 ∧ ys = ys2) = false) := pB_f (fun q => q1 q.2.1)
      clear q0 q1 cC cP
      go_enter Try.func25, Try.ntmps25
      go_wp2_with fail
      go_ret
      exact ⟨ret_of (by rw [HF.out]; rfl), z1⟩
  · have f0 : (K == K2) = false := by simpa using q0
    have HF : Hid (pB (K = K2 ∧ S = S2 ∧ xs = xs2 ∧ ys = ys2) = false) := pB_f (fun q => q0 q.1)
    clear q0 cC cP
    go_enter Try.func25, Try.ntmps25
    go_wp2_with fail
    go_ret
    exact ⟨ret_of (by rw [HF.out]; rfl), z1⟩
end Go.Proofs.Ytanbhpdobpiafaa
