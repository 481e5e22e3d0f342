/- coo.Turn's errors. -/
import Derived.Test.YtapbcmhkipaecaaG14
namespace Go.Proofs.Ytapbcmhkipaecaa
open Go.RowKit

set_option maxRecDepth 100000 in
theorem cooTurn_fail (A B Ao : Option Addr) (n c m e ro co : Nat) (E : Int) (w : World) (h0 : E ≠ 0)
   (HC : ∀ W, Below w.heap.size w W → Calls Try.prog 43 #[.agg #[.slice A n c, .slice B m e], .slice Ao ro co] W fun x w' => x = .returned (.tuple #[.slice none 0 0, .int .i64 E]) ∧ Below W.heap.size W w') :
    Calls Try.prog 27 #[.agg #[.slice A n c, .slice B m e], .slice Ao ro co] w fun x w' => x = .returned (.tuple #[.agg #[.slice none 0 0, .slice none 0 0], .int .i64 E]) ∧ Below w.heap.size w w' := by
  have z0 := (Below.refl w.heap.size w).alloc (Nat.le_refl _) (.cells #[.slice A n c, .slice B m e] 25)
  have z1 := z0.alloc z0.size (.cells #[.slice none 0 0, .slice none 0 0] 25)
  have b2 := zf_snd w (.cells #[.slice none 0 0, .slice none 0 0] 25) (.cells #[.slice A n c, .slice B m e] 25)
  have e1 : (E == 0) = false := by simpa using h0
  have e2 : (E != 0) = true := by simpa using h0
  clear h0
  go_enter Try.func27, Try.ntmps27
  go_wp2_with fail
  refine (HC _ z1).mono ?_
  rintro x w1 ⟨rfl, hb1⟩
  have hb := z1.trans (hb1.mono z1.size)
  have q2 := (hb1.block (w.heap.size + 1) (by simp)).trans b2
  obtain ⟨v0, v1, vf0, vf1⟩ := pair_cells q2
  have Q2 := Lib.hid q2
  clear q2 b2 z0 z1 HC hb1
  go_wp2_with fail
  have hres := set_two w1 (w.heap.size + 1) _ _ (.slice none 0 0) (.slice none 0 0) _ Q2.out
  obtain ⟨s0, s1, _, _⟩ := pair_cells hres.1
  obtain ⟨wz, hwz⟩ : ∃ wz, (w1.setCell ⟨w.heap.size + 1, 0, none⟩ (.slice none 0 0)).setCell ⟨w.heap.size + 1, 1, none⟩ (.slice none 0 0) = wz := ⟨_, rfl⟩
  rw [hwz] at hres s0 s1 ⊢
  exact bodyPost_ret (v := .tuple #[.agg #[.slice none 0 0, .slice none 0 0], .int .i64 E]) (by simp [results, Try.results27, go_sem, s0, s1]) rfl ⟨rfl, hb.grown hres.2 hb.size (fun k hk => by injection hk with hk; omega)⟩


theorem turnV_bad (A B Ao : Option Addr) (n c m e ro co : Nat) (xs os : List Int) (es : List Ent) (w : World) (h : CooV w A n B m xs es) (hn : n ≤ 100000) (hm : m ≤ 9223372036854775807) (E : Int) (hE : Hid (sortE' xs os n es = E)) (h0 : E ≠ 0) (ho : Ints w w.heap.size Ao ro os) (hro : ro ≤ 100000) :
    Calls Try.prog 27 #[.agg #[.slice A n c, .slice B m e], .slice Ao ro co] w fun x w' => x = .returned (.tuple #[.agg #[.slice none 0 0, .slice none 0 0], .int .i64 E]) ∧ Below w.heap.size w w' :=
  cooTurn_fail A B Ao n c m e ro co E w h0 (by have := modesBy_bad A B Ao n c m e ro co xs os es w h.1 hn h.2 hm ho hro (by rw [hE.out]; exact h0); rwa [hE.out] at this)
end Go.Proofs.Ytapbcmhkipaecaa
