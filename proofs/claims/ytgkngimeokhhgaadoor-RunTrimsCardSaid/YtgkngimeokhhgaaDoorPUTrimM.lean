/- What code comes to that is trimmed, or put further on. -/
import Derived.Test.YtgkngimeokhhgaaDoorG25
import Derived.Test.YtgkngimeokhhgaaDoorPURunS
import Derived.Test.YtgkngimeokhhgaaDoorPJVTr
import Derived.Test.YtgkngimeokhhgaaDoorG22
namespace Go.Proofs.YtgkngimeokhhgaaDoor
open Go.RowKit Go.Sort

theorem runM_shift {c : Cd} (hm : c.may = true) {b k : Nat} (hb : c.l.length + b ≤ 4096) {cells : Int} {ins : List (List Int)} :
    (∃ e, runM c (k : Int) cells ins = .error e ∧ runM (c.shift (b : Int)) ((k : Int) + (b : Int)) cells ins = .error e) ∨ (∃ z u p q, runM c (k : Int) cells ins = .ok (z, p) ∧ runM (c.shift (b : Int)) ((k : Int) + (b : Int)) cells ins = .ok (u, q) ∧ EqS z u ∧ q.length = p.length + b) := by
  have hv := valid_shift hm hb
  unfold runM
  rw [hv]
  by_cases h0 : validE c ≠ 0
  · rw [if_pos h0, if_pos h0]
    exact .inl ⟨_, rfl, rfl⟩
  rw [if_neg h0, if_neg h0]
  by_cases h1 : (k : Int) < 0 ∨ cells < 0 ∨ (ins.length : Int) ≠ c.I
  · have h2 : (k : Int) + (b : Int) < 0 ∨ cells < 0 ∨ (ins.length : Int) ≠ (c.shift (b : Int)).I := by
      rcases h1 with h1 | h1 | h1
      · omega
      · exact .inr (.inl h1)
      · exact .inr (.inr h1)
    rw [if_pos h1, if_pos h2]
    exact .inl ⟨_, rfl, rfl⟩
  · have h2 : ¬ ((k : Int) + (b : Int) < 0 ∨ cells < 0 ∨ (ins.length : Int) ≠ (c.shift (b : Int)).I) := by
      rintro (h2 | h2 | h2)
      · omega
      · exact h1 (.inr (.inl h2))
      · exact h1 (.inr (.inr h2))
    rw [if_neg h1, if_neg h2]
    have := goM_shift (cells := cells) hm (b := b) (by omega) (k := k) (R := List.replicate c.R.toNat 0) (A := ins ++ List.replicate (c.A.toNat - ins.length) [])
    rw [show ((k : Int) + (b : Int)).toNat = k + b by omega, Int.toNat_natCast]
    exact this
theorem runM_trim {c : Cd} (hm : c.may = true) {fuel cells : Int} {ins : List (List Int)} {z : Ms} {p : List Nat} (h : runM c fuel cells ins = .ok (z, p)) : ∃ u q, runM c.trim fuel cells ins = .ok (u, q) ∧ EqS z u ∧ q.length = p.length := by
  obtain ⟨hv, h1, h2, h3, hg⟩ := runM_parts h
  have ht := goM_trim (cells := cells) hm (k := fuel.toNat) (s := startM c ins) (st := 0) Way.start
  rcases ht with ⟨e, h4, _⟩ | ⟨z2, u, p2, q, h4, h5, h6, h7⟩
  · rw [h4] at hg; cases hg
  · rw [h4] at hg
    injection hg with hg; injection hg with e1 e2
    subst e1; subst e2
    refine ⟨u, q, ?_, h6, h7⟩
    unfold runM
    rw [if_neg (by rw [trim_valid hm hv]; simp), if_neg (by
      rintro (h8 | h8 | h8)
      · omega
      · omega
      · exact h8 h3)]
    exact h5
theorem RowsU.box {w : World} {base g b : Nat} {rs : List RowU} {cs : Array Value} {t : TypeId} (h : RowsU w base g rs) (hb : w.heap[b]? = some (.cells cs t (0, 0))) (h1 : t ≠ 2) (h2 : t ≠ 50) (i : Nat) (v : Value) : RowsU (w.setCell ⟨b, i, none⟩ v) base g rs := by
  obtain ⟨_, cur, hA⟩ := h.heap
  have hne : g ≠ b := fun e => by
    subst e
    rw [hA] at hb
    injection hb with hb; injection hb with _ hb
    exact h2 hb.symm
  have hG : w.grownBy (w.setCell ⟨b, i, none⟩ v) (some b) := ⟨rfl, rfl, rfl, by rw [World.size_setCell]; exact Nat.le_refl _, fun k _ hk => heap_setCell_other w _ k _ (fun e => hk (by rw [e]))⟩
  exact ⟨World.ownsRow.kept h.rows hG (.inr (by simpa [Value.ownBlock] using hne)), fun r hr => (h.ins r hr).other hb (Ne.symm h1) i v, h.apart⟩
theorem OwnJ.cqU {w : World} {base c' n : Nat} {A' : Option Addr} {c : Cd} (h : OwnJ w base A' c' c.l) (hm : c.may = true) (hn : c.l.length = n) : Cq.In ⟨c.R, c.A, c.I, A', n, c', c.l⟩ w := by subst hn; exact OwnJ.cq h hm
theorem mod_fifty (a : Int) : ∃ (t : Int) (k : Nat), a.tmod 50 = t ∧ -49 ≤ t ∧ t ≤ 49 ∧ (t + 50) % 50 = (k : Int) ∧ k < 50 := by
  have h1 := Int.tmod_lt_of_pos a (show (0 : Int) < 50 by decide)
  have h2 : -50 < a.tmod 50 := by
    rcases Int.le_total 0 a with h | h
    · have := Int.tmod_nonneg 50 h; omega
    · have := Int.tmod_lt_of_pos (-a) (show (0 : Int) < 50 by decide)
      rw [Int.neg_tmod] at this
      omega
  exact ⟨_, ((a.tmod 50 + 50) % 50).toNat, rfl, by omega, by omega, by omega, by omega⟩
end Go.Proofs.YtgkngimeokhhgaaDoor
