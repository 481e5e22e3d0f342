/- The contract of box.Sum. -/
import Derived.Test.YtpjelcghlnmoeaaSumC
import Derived.Test.YtpjelcghlnmoeaaSumTwo
import Derived.StillTailTactics
import Derived.Deep.DeepCutAuto
import Derived.Deep.RegionHeld3
namespace Go.Proofs.Ytpjelcghlnmoeaa
open Go.RowKit

theorem OwnI.ne {w : World} {base g gv c : Nat} {e e' : TypeId} {xs : List Int} {cs : Array Value} {fr : Nat × Nat} (h : OwnI w base e (some ⟨gv, 0, none⟩) c xs) (hg : w.heap[g]? = some (.cells cs e' fr)) (hne : e ≠ e') : g ≠ gv := by
  rintro rfl
  rcases h.1.2 with ⟨h1, _⟩ | ⟨g', cap, cur, h1, _, hh, _⟩
  · injection h1 with h1
    cases h1
  · injection h1 with h1
    injection h1 with h1
    injection h1 with h1
    subst h1
    rw [hh] at hg
    injection hg with hg
    injection hg with _ ht _
    exact hne ht
/-- what is left of the tensor's cells -/
def sumV (xs : List Int) (k : Nat) (ys : List Int) : List Int := scat (idx (behind xs k) (sizeAt xs k)) (laidF (xs.eraseIdx k)).1.toNat ys
theorem sumV_length (xs : List Int) (k : Nat) (ys : List Int) : (sumV xs k ys).length = (laidF (xs.eraseIdx k)).1.toNat := scat_length ..
/-- the statement that makes what the sums go to leaves this -/
def SumCut (w0 wx : World) (g : Nat) (A5 B5 : Option Addr) (c5 e5 : Nat) (S V : List Int) : Prop :=
  w0.heap.size ≤ g ∧ wx.heap[g]? = some (.cells #[.slice A5 S.length c5, .slice B5 V.length e5] 41 (0, 0)) ∧ OwnI wx w0.heap.size 3 A5 c5 S ∧ OwnI wx w0.heap.size 2 B5 e5 V ∧ Below w0.heap.size w0 wx
theorem laidF_erase {xs : List Int} {m : Nat} (hck : checkF xs m = 0) : xs.length ≤ 4 := by
  unfold checkF at hck
  split at hck
  · rename_i h; exact (cellsF_ok (laidF_ok h).1).1
  · rename_i h; exact absurd hck h
theorem below_two (w : World) (o o' : Obj) : Below w.heap.size w ((w.alloc o).alloc o') := ((Below.refl _ _).alloc (Nat.le_refl _) _).alloc (by simp) _
theorem pair_past (w : World) (o : Obj) (u v : Value) (t : TypeId) : ((w.alloc (.cells #[u, v] t)).alloc o).drew.cell? ⟨w.heap.size, 0, none⟩ = some u ∧ ((w.alloc (.cells #[u, v] t)).alloc o).drew.cell? ⟨w.heap.size, 1, none⟩ = some v :=
  ⟨cellPast o (pair_new w u v t).1, cellPast o (pair_new w u v t).2⟩
theorem pair_new2 (w : World) (o : Obj) (u v : Value) (t : TypeId) : ((w.alloc o).alloc (.cells #[u, v] t)).cell? ⟨w.heap.size + 1, 0, none⟩ = some u ∧ ((w.alloc o).alloc (.cells #[u, v] t)).cell? ⟨w.heap.size + 1, 1, none⟩ = some v := by
  have := pair_new (w.alloc o) u v t
  rwa [World.size_alloc] at this
theorem sum_cut_new {w1 w3 : World} {A5 B5 : Option Addr} {c5 e5 s : Nat} {S V : List Int} (hb : Below w1.heap.size w1 w3) (hs : w1.heap.size ≤ s) (hS : OwnI w3 s 3 A5 c5 S) (hV : OwnI w3 s 2 B5 e5 V) :
    SumCut w1 (w3.alloc (.cells #[.slice A5 S.length c5, .slice B5 V.length e5] 41)) w3.heap.size A5 B5 c5 e5 S V :=
  ⟨hb.size, heap_alloc_new w3 _, (hS.alloc _).mono hs, (hV.alloc _).mono hs, hb.alloc hb.size _⟩
theorem sum_cut_old {w1 w3 : World} {g : Nat} {u v : Value} {A5 B5 : Option Addr} {c5 e5 s : Nat} {S V : List Int} (hb : Below w1.heap.size w1 w3) (hs : w1.heap.size ≤ s) (hS : OwnI w3 s 3 A5 c5 S) (hV : OwnI w3 s 2 B5 e5 V) (hg1 : w1.heap.size ≤ g) (hg : g < s)
    (hh : w3.heap[g]? = some (.cells #[u, v] 41 (0, 0))) :
    SumCut w1 ((w3.setCell ⟨g, 0, none⟩ (.slice A5 S.length c5)).setCell ⟨g, 1, none⟩ (.slice B5 V.length e5)) g A5 B5 c5 e5 S V := by
  refine ⟨hg1, ?_, ((hS.far hg _ _).far hg _ _).mono hs, ((hV.far hg _ _).far hg _ _).mono hs, (hb.setCell (p := ⟨g, 0, none⟩) hg1 _).setCell (p := ⟨g, 1, none⟩) hg1 _⟩
  simp only [World.setCell, Array.getElem?_modify, if_true, hh]
  rfl
theorem dOld {w1 w2 : World} {o o' : Obj} (h : Below ((w1.alloc o).alloc o').drew.heap.size ((w1.alloc o).alloc o').drew w2) : w2.heap[w1.heap.size]? = some o := (h.block w1.heap.size (by show _ < ((w1.alloc o).alloc o').heap.size; simp; omega)).trans (zf_two w1 o o')
theorem dNew {w1 w2 : World} {o : Obj} (h : Below (w1.alloc o).drew.heap.size (w1.alloc o).drew w2) : w2.heap[w1.heap.size]? = some o := (h.block w1.heap.size (by show _ < (w1.alloc o).heap.size; simp)).trans (heap_alloc_new w1 o)
theorem dOld' {w1 w2 : World} {o o' : Obj} (h : Below ((w1.alloc o).alloc o').heap.size ((w1.alloc o).alloc o') w2) : w2.heap[w1.heap.size]? = some o := (h.block w1.heap.size (by simp; omega)).trans (zf_two w1 o o')
theorem dNew' {w1 w2 : World} {o : Obj} (h : Below (w1.alloc o).heap.size (w1.alloc o) w2) : w2.heap[w1.heap.size]? = some o := (h.block w1.heap.size (by simp)).trans (heap_alloc_new w1 o)
theorem dSnd {w1 w2 : World} {o o' : Obj} (h : Below ((w1.alloc o).alloc o').drew.heap.size ((w1.alloc o).alloc o').drew w2) : w2.heap[w1.heap.size + 1]? = some o' := (h.block (w1.heap.size + 1) (by show _ < ((w1.alloc o).alloc o').heap.size; simp)).trans (zf_snd w1 o' o)
theorem dSnd' {w1 w2 : World} {o o' : Obj} (h : Below ((w1.alloc o).alloc o').heap.size ((w1.alloc o).alloc o') w2) : w2.heap[w1.heap.size + 1]? = some o' := (h.block (w1.heap.size + 1) (by simp)).trans (zf_snd w1 o' o)
theorem dKeep {w1 w2 : World} {g : Nat} {o : Obj} (h : Below w1.heap.size w1 w2) (hg : w1.heap[g]? = some o) : w2.heap[g]? = some o := (h.block g (Array.getElem?_eq_some_iff.1 hg).1).trans hg
theorem dKeep' {w1 w2 : World} {g : Nat} {o : Obj} (h : Below w1.drew.heap.size w1.drew w2) (hg : w1.heap[g]? = some o) : w2.heap[g]? = some o := (h.block g (Array.getElem?_eq_some_iff.1 hg).1).trans hg
theorem dCells {W : World} {g : Nat} {u v : Value} {t : TypeId} (h : W.heap[g]? = some (.cells #[u, v] t (0, 0))) :
    W.cell? ⟨g, 0, none⟩ = some u ∧ W.cell? ⟨g, 1, none⟩ = some v ∧ W.frozen? ⟨g, 0, none⟩ = false ∧ W.frozen? ⟨g, 1, none⟩ = false :=
  ⟨by simpa using cell_of_row _ _ 0 _ t (0, 0) h, by simpa using cell_of_row _ _ 1 _ t (0, 0) h, by simp [World.frozen?, h], by simp [World.frozen?, h]⟩
theorem laidF_le (xs : List Int) : (laidF xs).1.toNat ≤ 65536 := Int.toNat_le.2 laidF_nonneg.2
theorem sum_pos {xs : List Int} {m n k : Nat} (hck : checkF xs m = 0) (hm : 0 < m) (hl : xs.length = n) (hk : k < n) :
    (∀ x ∈ xs, 1 ≤ x) ∧ (laidF (xs.eraseIdx k)).1.toNat = (prodI (xs.eraseIdx k)).toNat ∧ prodI xs = m ∧ m ≤ 65536 := by
  have h0 : (laidF xs).2 = 0 ∧ (m : Int) = (laidF xs).1 := by
    unfold checkF at hck
    split at hck
    · rename_i h
      split at hck
      · rename_i h2; exact ⟨h, h2⟩
      · simp at hck
    · rename_i h; exact absurd hck h
  obtain ⟨h1, h2⟩ := h0
  obtain ⟨h3, h4⟩ := laidF_ok h1
  have hn := laidF_nonneg (xs := xs)
  have hp := cellsF_nz h3 (by omega)
  obtain ⟨h5, h6⟩ := cellsF_ok_pos h3 hp
  have hle : prodI (xs.eraseIdx k) ≤ prodI xs := by
    have hkk : k < xs.length := by omega
    have hg := List.getElem?_eq_getElem hkk
    rw [prodI_erase hkk, prodI_split xs k, prodI_drop hg]
    have a1 := prodI_pos (xs := xs.take k) (fun x hx => hp x (List.mem_of_mem_take hx))
    have a2 := prodI_pos (xs := xs.drop (k + 1)) (fun x hx => hp x (List.mem_of_mem_drop hx))
    have a3 := hp _ (List.mem_of_getElem? hg)
    refine Int.mul_le_mul_of_nonneg_left ?_ (by omega)
    have := Int.mul_le_mul_of_nonneg_right a3 (by omega : 0 ≤ prodI (xs.drop (k + 1)))
    omega
  have hpe : ∀ x ∈ xs.eraseIdx k, 1 ≤ x := fun x hx => hp x (List.mem_of_mem_eraseIdx hx)
  have hpp := prodI_pos hpe
  refine ⟨hp, ?_, by omega, by omega⟩
  have hl4 : (xs.eraseIdx k).length ≤ 4 := by have := (cellsF_ok h3).1; have := List.length_eraseIdx_le xs k; omega
  have hc := cellsF_pos hpe hl4
  rw [if_pos (by omega)] at hc
  unfold laidF
  rw [hc]
  simp only [if_true]
  rw [if_neg (by omega)]
theorem wrap_nat (n : Nat) (h : n ≤ 100000) : IntKind.i64.wrap (n : Int) = n := by rw [wrap_eq]; exact IntWalk.wrap64_in _ ⟨by omega, by omega⟩
/-- the number that a cell goes to, as the program reckons it -/
theorem idx_run (q p s : Nat) (P Sp : Int) (hP : P = (p : Int)) (hSp : Sp = ((s * p : Nat) : Int)) (hq : q ≤ 65536) (hj : idx p s q ≤ 65536) :
    ∃ d f r : Int, IntKind.i64.wrap ((q : Int) / Sp) = d ∧ IntKind.i64.wrap (d * P) = f ∧ (q : Int).tmod P = r ∧ IntKind.i64.wrap (f + r) = (idx p s q : Nat) := by
  subst hP
  subst hSp
  have h1 : q / (s * p) ≤ q := Nat.div_le_self _ _
  have h2 : q % p ≤ q := Nat.mod_le _ _
  have h3 : idx p s q = q / (s * p) * p + q % p := by unfold idx; rw [Nat.mul_comm p s]
  refine ⟨((q / (s * p) : Nat) : Int), ((q / (s * p) * p : Nat) : Int), ((q % p : Nat) : Int), ?_, ?_, ?_, ?_⟩
  · rw [← Int.natCast_ediv]; exact wrap_nat _ (by omega)
  · rw [← Int.natCast_mul]; exact wrap_nat _ (by omega)
  · rw [Int.tmod_eq_emod_of_nonneg (by omega), ← Int.natCast_emod]
  · rw [← Int.natCast_add, ← h3]; exact wrap_nat _ (by omega)
def SumPost (w : World) (S V : List Int) (E : Int) (x : Ending) (w' : World) : Prop := ∃ A1 c1 A3 c3, x = .returned (.tuple #[.agg #[.slice A1 S.length c1, .slice A3 V.length c3], .int .i64 E]) ∧
      OwnI w' w.heap.size 3 A1 c1 S ∧ OwnI w' w.heap.size 2 A3 c3 V ∧ Below w.heap.size w w'

end Go.Proofs.Ytpjelcghlnmoeaa
