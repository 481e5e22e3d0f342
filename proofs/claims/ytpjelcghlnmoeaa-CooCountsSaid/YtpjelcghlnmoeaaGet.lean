/- The contracts of the document's Same, of box.Get and the document's Get. -/
import Derived.Test.YtpjelcghlnmoeaaDense
namespace Go.Proofs.Ytpjelcghlnmoeaa
open Go.RowKit

/-- Get -/
def getF (xs : List Int) (m : Nat) (ys cs : List Int) : Int × Int := if checkF xs m = 0 then if (atF xs cs).2 = 0 then (ys.getD (atF xs cs).1.toNat 0, 0) else (0, (atF xs cs).2) else (0, checkF xs m)
theorem checkF_ok {xs : List Int} {m : Nat} (h : checkF xs m = 0) : (cellsF xs).2 = 0 ∧ (m : Int) = (cellsF xs).1 ∧ m ≤ 65536 := by
  unfold checkF at h
  split at h
  · rename_i h1
    split at h
    · rename_i h2
      have ha := laidF_ok h1
      have hb := laidF_nonneg (xs := xs)
      exact ⟨ha.1, by omega, by omega⟩
    · simp at h
  · rename_i h1; exact absurd h h1
theorem atF_ok {xs cs : List Int} (h : (atF xs cs).2 = 0) : (cellsF xs).2 = 0 ∧ Inn xs cs ∧ (atF xs cs).1 = numR xs cs ∧ prodI xs = (cellsF xs).1 := by
  unfold atF at h ⊢
  split at h
  · rename_i h1
    split at h
    · rename_i h2
      have hI := inn_of_insideF h2
      rw [if_pos h1, if_pos h2]
      exact ⟨h1, hI, rfl, (cellsF_ok_pos h1 hI.pos).1.symm⟩
    · simp at h
  · rename_i h1; exact absurd h h1
theorem one_box {w w1 : World} {a b : Value} {t : TypeId} (hb : Below (w.alloc (.cells #[a, b] t)).heap.size (w.alloc (.cells #[a, b] t)) w1) :
    w1.cell? ⟨w.heap.size, 0, none⟩ = some a ∧ w1.cell? ⟨w.heap.size, 1, none⟩ = some b := by
  have h0 : (w.alloc (.cells #[a, b] t)).heap[w.heap.size]? = some (.cells #[a, b] t (0, 0)) := heap_alloc_new w _
  have k1 := (hb.block w.heap.size (by simp)).trans h0
  exact ⟨by simpa using cell_of_row _ _ 0 _ t (0, 0) k1, by simpa using cell_of_row _ _ 1 _ t (0, 0) k1⟩

set_option maxRecDepth 100000 in
theorem get_any (A B A2 : Option Addr) (n c m e n2 c2 : Nat) (xs ys cs : List Int) (w : World) (h : Ints w w.heap.size A n xs) (hv : Ints w w.heap.size B m ys) (h2 : Ints w w.heap.size A2 n2 cs) (hn : n ≤ 9223372036854775807) (hn2 : n2 ≤ 9223372036854775807) :
    Calls Try.prog 40 #[.agg #[.slice A n c, .slice B m e], .slice A2 n2 c2] w fun x w' => x = .returned (.tuple #[.int .i64 (getF xs m ys cs).1, .int .i64 (getF xs m ys cs).2]) ∧ Below w.heap.size w w' := by
  have HC := fun W (hb : Below w.heap.size w W) => check_any A B n c m e xs W ((h.below hb).more hb.size) hn
  have HA := fun W (hb : Below w.heap.size w W) => at_any A A2 n n2 c c2 xs cs W ((h.below hb).more hb.size) ((h2.below hb).more hb.size) hn hn2
  have hB0 : ∀ o1, Below w.heap.size w (w.alloc o1) := fun o1 => (Below.refl _ w).alloc (Nat.le_refl _) _
  obtain ⟨E, hE⟩ : ∃ E, checkF xs m = E := ⟨_, rfl⟩
  obtain ⟨X, hX⟩ : ∃ X, (atF xs cs).1 = X := ⟨_, rfl⟩
  obtain ⟨G, hG⟩ : ∃ G, (atF xs cs).2 = G := ⟨_, rfl⟩
  rw [hE] at HC
  rw [hX, hG] at HA
  by_cases he : E = 0
  · subst he
    by_cases hg : G = 0
    · subst hg
      have hok := checkF_ok hE
      have hat := atF_ok hG
      have hbd := hat.2.1.bound
      have hX0 : 0 ≤ X := by rw [← hX, hat.2.2.1]; exact hbd.1
      have hXm : X < m := by rw [← hX, hat.2.2.1, hok.2.1, ← hat.2.2.2]; exact hbd.2
      have HF : Hid (getF xs m ys cs = (ys.getD X.toNat 0, 0)) := by unfold Hid getF; rw [if_pos hE, if_pos hG, hX]
      clear hE hX hG hok hat hbd
      go_enter Try.func40, Try.ntmps40
      go_wp2_with fail
      refine (HC _ (hB0 _)).mono ?_
      rintro x w1 ⟨rfl, hb1⟩
      obtain ⟨k0, k1⟩ := one_box hb1
      have hb2 := (hB0 (.cells #[.slice A n c, .slice B m e] 41)).trans (hb1.mono (by simp))
      go_wp2_with fail
      refine (HA _ hb2).mono ?_
      rintro x w3 ⟨rfl, hb3⟩
      obtain ⟨k0', k1'⟩ := one_box (w := w) (a := .slice A n c) (b := .slice B m e) (t := 41) (hb1.trans (hb3.mono hb1.size))
      have hb4 := hb2.trans (hb3.mono hb2.size)
      obtain ⟨b, off, y, rfl, _, HY, hcy, hy1, hy2⟩ := (hv.below hb4).at_ (k := X.toNat) (by omega)
      go_wp2_with fail
      go_ret2
      exact ⟨by rw [HF.out]; simp only [List.getD, HY.out, Option.getD_some]; rfl, hb4⟩
    · have HF : Hid (getF xs m ys cs = (0, G)) := by unfold Hid getF; rw [if_pos hE, hG, if_neg hg]
      have e1 : (G == 0) = false := by simpa using hg
      have e2 : (G != 0) = true := by simpa using hg
      clear hE hX hG hg
      go_enter Try.func40, Try.ntmps40
      go_wp2_with fail
      refine (HC _ (hB0 _)).mono ?_
      rintro x w1 ⟨rfl, hb1⟩
      obtain ⟨k0, k1⟩ := one_box hb1
      have hb2 := (hB0 (.cells #[.slice A n c, .slice B m e] 41)).trans (hb1.mono (by simp))
      go_wp2_with fail
      refine (HA _ hb2).mono ?_
      rintro x w3 ⟨rfl, hb3⟩
      have hb4 := hb2.trans (hb3.mono hb2.size)
      go_wp2_with fail
      go_ret2
      exact ⟨by rw [HF.out]; rfl, hb4⟩
  · have HF : Hid (getF xs m ys cs = (0, E)) := by unfold Hid getF; rw [if_neg (by rw [hE]; exact he), hE]
    have e1 : (E == 0) = false := by simpa using he
    have e2 : (E != 0) = true := by simpa using he
    clear hE hX hG he HA
    go_enter Try.func40, Try.ntmps40
    go_wp2_with fail
    refine (HC _ (hB0 _)).mono ?_
    rintro x w1 ⟨rfl, hb1⟩
    have hb2 := (hB0 (.cells #[.slice A n c, .slice B m e] 41)).trans (hb1.mono (by simp))
    go_wp2_with fail
    go_ret2
    exact ⟨by rw [HF.out]; rfl, hb2⟩

end Go.Proofs.Ytpjelcghlnmoeaa
