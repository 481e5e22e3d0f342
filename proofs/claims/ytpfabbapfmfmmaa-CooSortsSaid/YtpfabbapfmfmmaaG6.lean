/- The contract of box.Sum. -/
import Derived.Test.YtpfabbapfmfmmaaG5
import Derived.StillTailTactics
import Derived.Deep.DeepCutAuto
import Derived.Deep.RegionHeld3
import Derived.Test.YtpfabbapfmfmmaaG1
import Derived.Test.YtpfabbapfmfmmaaG2
namespace Go.Proofs.Ytpfabbapfmfmmaa
open Go.RowKit

theorem OwnI.ne {w : World} {base g gv c : Nat} {e e' : TypeId} {xs : List Int} {cs : Array Value} {fr : Nat × Nat} (h : OwnI w base e (some ⟨gv, 0, none⟩) c xs) (hg : w.heap[g]? = some (.cells cs e' fr)) (hne : e ≠ e') : g ≠ gv := by
  rintro rfl
  rcases h.1.2 with ⟨h1, _⟩ | ⟨g', cap, cur, h1, _, hh, _⟩
  · injection h1 with h1
    cases h1
  · injection h1 with h1
    injection h1 with h1
    injection h1 with h1
    subst h1
    rw [hh] at hg
    injection hg with hg
    injection hg with _ ht _
    exact hne ht
/-- what is left of the tensor's cells -/
def sumV (xs : List Int) (k : Nat) (ys : List Int) : List Int := scat (idx (behind xs k) (sizeAt xs k)) (laidF (xs.eraseIdx k)).1.toNat ys
theorem sumV_length (xs : List Int) (k : Nat) (ys : List Int) : (sumV xs k ys).length = (laidF (xs.eraseIdx k)).1.toNat := scat_length ..
/-- the statement that makes what the sums go to leaves this -/
def SumCut (w0 wx : World) (g : Nat) (A5 B5 : Option Addr) (c5 e5 : Nat) (S V : List Int) : Prop :=
  w0.heap.size ≤ g ∧ wx.heap[g]? = some (.cells #[.slice A5 S.length c5, .slice B5 V.length e5] 41 (0, 0)) ∧ OwnI wx w0.heap.size 3 A5 c5 S ∧ OwnI wx w0.heap.size 2 B5 e5 V ∧ Below w0.heap.size w0 wx
theorem laidF_erase {xs : List Int} {m : Nat} (hck : checkF xs m = 0) : xs.length ≤ 4 := by
  unfold checkF at hck
  split at hck
  · rename_i h; exact (cellsF_ok (laidF_ok h).1).1
  · rename_i h; exact absurd hck h
theorem below_two (w : World) (o o' : Obj) : Below w.heap.size w ((w.alloc o).alloc o') := ((Below.refl _ _).alloc (Nat.le_refl _) _).alloc (by simp) _
theorem pair_past (w : World) (o : Obj) (u v : Value) (t : TypeId) : ((w.alloc (.cells #[u, v] t)).alloc o).drew.cell? ⟨w.heap.size, 0, none⟩ = some u ∧ ((w.alloc (.cells #[u, v] t)).alloc o).drew.cell? ⟨w.heap.size, 1, none⟩ = some v :=
  ⟨cellPast o (pair_new w u v t).1, cellPast o (pair_new w u v t).2⟩
theorem pair_new2 (w : World) (o : Obj) (u v : Value) (t : TypeId) : ((w.alloc o).alloc (.cells #[u, v] t)).cell? ⟨w.heap.size + 1, 0, none⟩ = some u ∧ ((w.alloc o).alloc (.cells #[u, v] t)).cell? ⟨w.heap.size + 1, 1, none⟩ = some v := by
  have := pair_new (w.alloc o) u v t
  rwa [World.size_alloc] at this
theorem sum_cut_new {w1 w3 : World} {A5 B5 : Option Addr} {c5 e5 s : Nat} {S V : List Int} (hb : Below w1.heap.size w1 w3) (hs : w1.heap.size ≤ s) (hS : OwnI w3 s 3 A5 c5 S) (hV : OwnI w3 s 2 B5 e5 V) :
    SumCut w1 (w3.alloc (.cells #[.slice A5 S.length c5, .slice B5 V.length e5] 41)) w3.heap.size A5 B5 c5 e5 S V :=
  ⟨hb.size, heap_alloc_new w3 _, (hS.alloc _).mono hs, (hV.alloc _).mono hs, hb.alloc hb.size _⟩
theorem sum_cut_old {w1 w3 : World} {g : Nat} {u v : Value} {A5 B5 : Option Addr} {c5 e5 s : Nat} {S V : List Int} (hb : Below w1.heap.size w1 w3) (hs : w1.heap.size ≤ s) (hS : OwnI w3 s 3 A5 c5 S) (hV : OwnI w3 s 2 B5 e5 V) (hg1 : w1.heap.size ≤ g) (hg : g < s)
    (hh : w3.heap[g]? = some (.cells #[u, v] 41 (0, 0))) :
    SumCut w1 ((w3.setCell ⟨g, 0, none⟩ (.slice A5 S.length c5)).setCell ⟨g, 1, none⟩ (.slice B5 V.length e5)) g A5 B5 c5 e5 S V := by
  refine ⟨hg1, ?_, ((hS.far hg _ _).far hg _ _).mono hs, ((hV.far hg _ _).far hg _ _).mono hs, (hb.setCell (p := ⟨g, 0, none⟩) hg1 _).setCell (p := ⟨g, 1, none⟩) hg1 _⟩
  simp only [World.setCell, Array.getElem?_modify, if_true, hh]
  rfl
theorem dOld {w1 w2 : World} {o o' : Obj} (h : Below ((w1.alloc o).alloc o').drew.heap.size ((w1.alloc o).alloc o').drew w2) : w2.heap[w1.heap.size]? = some o := (h.block w1.heap.size (by show _ < ((w1.alloc o).alloc o').heap.size; simp; omega)).trans (zf_two w1 o o')
theorem dNew {w1 w2 : World} {o : Obj} (h : Below (w1.alloc o).drew.heap.size (w1.alloc o).drew w2) : w2.heap[w1.heap.size]? = some o := (h.block w1.heap.size (by show _ < (w1.alloc o).heap.size; simp)).trans (heap_alloc_new w1 o)
theorem dOld' {w1 w2 : World} {o o' : Obj} (h : Below ((w1.alloc o).alloc o').heap.size ((w1.alloc o).alloc o') w2) : w2.heap[w1.heap.size]? = some o := (h.block w1.heap.size (by simp; omega)).trans (zf_two w1 o o')
theorem dNew' {w1 w2 : World} {o : Obj} (h : Below (w1.alloc o).heap.size (w1.alloc o) w2) : w2.heap[w1.heap.size]? = some o := (h.block w1.heap.size (by simp)).trans (heap_alloc_new w1 o)
theorem dSnd {w1 w2 : World} {o o' : Obj} (h : Below ((w1.alloc o).alloc o').drew.heap.size ((w1.alloc o).alloc o').drew w2) : w2.heap[w1.heap.size + 1]? = some o' := (h.block (w1.heap.size + 1) (by show _ < ((w1.alloc o).alloc o').heap.size; simp)).trans (zf_snd w1 o' o)
theorem dSnd' {w1 w2 : World} {o o' : Obj} (h : Below ((w1.alloc o).alloc o').heap.size ((w1.alloc o).alloc o') w2) : w2.heap[w1.heap.size + 1]? = some o' := (h.block (w1.heap.size + 1) (by simp)).trans (zf_snd w1 o' o)
theorem dKeep {w1 w2 : World} {g : Nat} {o : Obj} (h : Below w1.heap.size w1 w2) (hg : w1.heap[g]? = some o) : w2.heap[g]? = some o := (h.block g (Array.getElem?_eq_some_iff.1 hg).1).trans hg
theorem dKeep' {w1 w2 : World} {g : Nat} {o : Obj} (h : Below w1.drew.heap.size w1.drew w2) (hg : w1.heap[g]? = some o) : w2.heap[g]? = some o := (h.block g (Array.getElem?_eq_some_iff.1 hg).1).trans hg
theorem dCells {W : World} {g : Nat} {u v : Value} {t : TypeId} (h : W.heap[g]? = some (.cells #[u, v] t (0, 0))) :
    W.cell? ⟨g, 0, none⟩ = some u ∧ W.cell? ⟨g, 1, none⟩ = some v ∧ W.frozen? ⟨g, 0, none⟩ = false ∧ W.frozen? ⟨g, 1, none⟩ = false :=
  ⟨by simpa using cell_of_row _ _ 0 _ t (0, 0) h, by simpa using cell_of_row _ _ 1 _ t (0, 0) h, by simp [World.frozen?, h], by simp [World.frozen?, h]⟩
theorem laidF_le (xs : List Int) : (laidF xs).1.toNat ≤ 65536 := Int.toNat_le.2 laidF_nonneg.2
theorem sum_pos {xs : List Int} {m n k : Nat} (hck : checkF xs m = 0) (hm : 0 < m) (hl : xs.length = n) (hk : k < n) :
    (∀ x ∈ xs, 1 ≤ x) ∧ (laidF (xs.eraseIdx k)).1.toNat = (prodI (xs.eraseIdx k)).toNat ∧ prodI xs = m ∧ m ≤ 65536 := by
  have h0 : (laidF xs).2 = 0 ∧ (m : Int) = (laidF xs).1 := by
    unfold checkF at hck
    split at hck
    · rename_i h
      split at hck
      · rename_i h2; exact ⟨h, h2⟩
      · simp at hck
    · rename_i h; exact absurd hck h
  obtain ⟨h1, h2⟩ := h0
  obtain ⟨h3, h4⟩ := laidF_ok h1
  have hn := laidF_nonneg (xs := xs)
  have hp := cellsF_nz h3 (by omega)
  obtain ⟨h5, h6⟩ := cellsF_ok_pos h3 hp
  have hle : prodI (xs.eraseIdx k) ≤ prodI xs := by
    have hkk : k < xs.length := by omega
    have hg := List.getElem?_eq_getElem hkk
    rw [prodI_erase hkk, prodI_split xs k, prodI_drop hg]
    have a1 := prodI_pos (xs := xs.take k) (fun x hx => hp x (List.mem_of_mem_take hx))
    have a2 := prodI_pos (xs := xs.drop (k + 1)) (fun x hx => hp x (List.mem_of_mem_drop hx))
    have a3 := hp _ (List.mem_of_getElem? hg)
    refine Int.mul_le_mul_of_nonneg_left ?_ (by omega)
    have := Int.mul_le_mul_of_nonneg_right a3 (by omega : 0 ≤ prodI (xs.drop (k + 1)))
    omega
  have hpe : ∀ x ∈ xs.eraseIdx k, 1 ≤ x := fun x hx => hp x (List.mem_of_mem_eraseIdx hx)
  have hpp := prodI_pos hpe
  refine ⟨hp, ?_, by omega, by omega⟩
  have hl4 : (xs.eraseIdx k).length ≤ 4 := by have := (cellsF_ok h3).1; have := List.length_eraseIdx_le xs k; omega
  have hc := cellsF_pos hpe hl4
  rw [if_pos (by omega)] at hc
  unfold laidF
  rw [hc]
  simp only [if_true]
  rw [if_neg (by omega)]
theorem wrap_nat (n : Nat) (h : n ≤ 100000) : IntKind.i64.wrap (n : Int) = n := by rw [wrap_eq]; exact IntWalk.wrap64_in _ ⟨by omega, by omega⟩
/-- the number that a cell goes to, as the program reckons it -/
theorem idx_run (q p s : Nat) (P Sp : Int) (hP : P = (p : Int)) (hSp : Sp = ((s * p : Nat) : Int)) (hq : q ≤ 65536) (hj : idx p s q ≤ 65536) :
    ∃ d f r : Int, IntKind.i64.wrap ((q : Int) / Sp) = d ∧ IntKind.i64.wrap (d * P) = f ∧ (q : Int).tmod P = r ∧ IntKind.i64.wrap (f + r) = (idx p s q : Nat) := by
  subst hP
  subst hSp
  have h1 : q / (s * p) ≤ q := Nat.div_le_self _ _
  have h2 : q % p ≤ q := Nat.mod_le _ _
  have h3 : idx p s q = q / (s * p) * p + q % p := by unfold idx; rw [Nat.mul_comm p s]
  refine ⟨((q / (s * p) : Nat) : Int), ((q / (s * p) * p : Nat) : Int), ((q % p : Nat) : Int), ?_, ?_, ?_, ?_⟩
  · rw [← Int.natCast_ediv]; exact wrap_nat _ (by omega)
  · rw [← Int.natCast_mul]; exact wrap_nat _ (by omega)
  · rw [Int.tmod_eq_emod_of_nonneg (by omega), ← Int.natCast_emod]
  · rw [← Int.natCast_add, ← h3]; exact wrap_nat _ (by omega)
def SumPost (w : World) (S V : List Int) (E : Int) (x : Ending) (w' : World) : Prop := ∃ A1 c1 A3 c3, x = .returned (.tuple #[.agg #[.slice A1 S.length c1, .slice A3 V.length c3], .int .i64 E]) ∧
      OwnI w' w.heap.size 3 A1 c1 S ∧ OwnI w' w.heap.size 2 A3 c3 V ∧ Below w.heap.size w w'

end Go.Proofs.Ytpfabbapfmfmmaa
/- What box.Sum leaves of a tensor's cells: its laws. Plain lists. -/
namespace Go.Proofs.Ytpfabbapfmfmmaa
open Go.RowKit

theorem cellsGo_err : ∀ (l : List Int) (n : Int), (cellsGo l n).2 = 0 ∨ (cellsGo l n).2 = 2
  | [], _ => .inl rfl
  | s :: l, n => by
    unfold cellsGo
    split
    · exact .inr rfl
    · exact cellsGo_err l _
theorem check_parts {xs : List Int} {m : Nat} (hck : checkF xs m = 0) : (cellsF xs).2 = 0 ∧ (laidF xs).2 = 0 ∧ (m : Int) = (laidF xs).1 := by
  unfold checkF at hck
  split at hck
  · rename_i h
    split at hck
    · rename_i h2; exact ⟨(laidF_ok h).1, h, h2⟩
    · simp at hck
  · rename_i h; exact absurd hck h
/-- what is left may be too large, and nothing else -/
theorem erase_err {xs : List Int} {m : Nat} (hck : checkF xs m = 0) (k : Nat) : (laidF (xs.eraseIdx k)).2 = 0 ∨ (laidF (xs.eraseIdx k)).2 = 2 := by
  obtain ⟨h0, _, _⟩ := check_parts hck
  obtain ⟨h4, hp⟩ := cellsF_ok h0
  have hl := List.length_eraseIdx_le xs k
  have hc : (cellsF (xs.eraseIdx k)).2 = 0 ∨ (cellsF (xs.eraseIdx k)).2 = 2 := by
    unfold cellsF
    rw [if_neg]
    · split
      · exact .inl rfl
      · exact cellsGo_err _ _
    · rw [not_or]
      refine ⟨by omega, ?_⟩
      rw [Bool.not_eq_true, List.any_eq_false]
      intro x hx
      have := hp x (List.mem_of_mem_eraseIdx hx)
      simp; omega
  unfold laidF
  rcases hc with hc | hc
  · rw [if_pos hc]
    split
    · exact .inr rfl
    · exact .inl rfl
  · rw [if_neg (by rw [hc]; decide)]; exact .inr hc
theorem sumV_check {xs : List Int} {k : Nat} (ys : List Int) (hE : (laidF (xs.eraseIdx k)).2 = 0) : checkF (xs.eraseIdx k) (sumV xs k ys).length = 0 := by
  unfold checkF
  rw [if_pos hE, sumV_length, if_pos]
  exact Int.toNat_of_nonneg laidF_nonneg.1
theorem sumV_nil (xs : List Int) (k : Nat) : sumV xs k [] = List.replicate (laidF (xs.eraseIdx k)).1.toNat 0 := scat_nil ..
theorem sumV_zeros (xs : List Int) (k K : Nat) : sumV xs k (List.replicate K 0) = List.replicate (laidF (xs.eraseIdx k)).1.toNat 0 := scat_zeros ..
theorem sumV_fits (xs : List Int) (k : Nat) (ys : List Int) : ∀ x ∈ sumV xs k ys, -9223372036854775808 ≤ x ∧ x ≤ 9223372036854775807 := scat_fits _ _ _
theorem sumV_sumL {xs : List Int} {k : Nat} {ys : List Int} (hck : checkF xs ys.length = 0) (h0 : 0 < ys.length) (hk : k < xs.length) : sumV xs k ys = sumL xs k ys := by
  unfold sumV sumL
  rw [(sum_pos hck h0 rfl hk).2.1]
theorem totL_sumV {xs : List Int} {k : Nat} {ys : List Int} (hck : checkF xs ys.length = 0) (hk : k < xs.length) : totL (sumV xs k ys) = totL ys := by
  rcases Nat.eq_zero_or_pos ys.length with h0 | h0
  · obtain rfl := List.eq_nil_of_length_eq_zero h0
    rw [sumV_nil, totL_zeros]; rfl
  · rw [sumV_sumL hck h0 hk]
    have := sum_pos hck h0 rfl hk
    exact totL_sumL this.1 hk this.2.2.1.symm
theorem sumV_swap {xs : List Int} {l h : Nat} {ys : List Int} (hck : checkF xs ys.length = 0) (hl : l < h) (hh : h < xs.length) (hE : (laidF (xs.eraseIdx h)).2 = 0) (hF : (laidF (xs.eraseIdx l)).2 = 0) :
    sumV (xs.eraseIdx h) l (sumV xs h ys) = sumV (xs.eraseIdx l) (h - 1) (sumV xs l ys) := by
  rcases Nat.eq_zero_or_pos ys.length with h0 | h0
  · obtain rfl := List.eq_nil_of_length_eq_zero h0
    rw [sumV_nil, sumV_nil, sumV_zeros, sumV_zeros, erase_two hl hh]
  · have a := sum_pos hck h0 rfl hh
    have b := sum_pos hck h0 rfl (Nat.lt_trans hl hh)
    have pe : ∀ k, 1 ≤ prodI (xs.eraseIdx k) := fun k => prodI_pos (pos_erase a.1 k)
    have n1 : 0 < (sumV xs h ys).length := by rw [sumV_length, a.2.1]; have := pe h; omega
    have n2 : 0 < (sumV xs l ys).length := by rw [sumV_length, b.2.1]; have := pe l; omega
    have e1 := List.length_eraseIdx_of_lt hh
    have e2 := List.length_eraseIdx_of_lt (Nat.lt_trans hl hh)
    rw [sumV_sumL (sumV_check ys hE) n1 (by omega), sumV_sumL (sumV_check ys hF) n2 (by omega), sumV_sumL hck h0 hh, sumV_sumL hck h0 (Nat.lt_trans hl hh)]
    exact sumL_swap a.1 hl hh a.2.2.1.symm
theorem sumV_add (xs : List Int) (k : Nat) (a b : List Int) (h : a.length = b.length) : sumV xs k (addL a b) = addL (sumV xs k a) (sumV xs k b) := scat_add _ _ _ _ h
theorem sumV_by (xs : List Int) (k : Nat) (z : Int) (a : List Int) : sumV xs k (byL z a) = byL z (sumV xs k a) := scat_by ..
/-- a mode, as the statements choose it -/
theorem mode_run (x : Int) (r : Nat) (hr : 1 ≤ r) (hr4 : r ≤ 100000) : ∃ (t u : Int) (md : Nat), x.tmod (r : Int) = t ∧ t + (r : Int) = u ∧ IntKind.i64.wrap u = u ∧ IntKind.i64.wrap (t + (r : Int)) = u ∧ u.tmod (r : Int) = (md : Int) ∧ u % (r : Int) = (md : Int) ∧ md < r ∧ 0 ≤ u ∧ -(r : Int) < t ∧ t < r := by
  have h1 : -(r : Int) < x.tmod r := by
    have := Int.lt_tmod_of_pos x (b := (r : Int)) (by omega); omega
  have h2 : x.tmod r < r := Int.tmod_lt_of_pos x (by omega)
  have h3 : 0 ≤ (x.tmod r + r) % (r : Int) := Int.emod_nonneg _ (by omega)
  have h4 : (x.tmod r + r) % (r : Int) < r := Int.emod_lt_of_pos _ (by omega)
  have h5 : IntKind.i64.wrap (x.tmod r + (r : Int)) = x.tmod r + r := by rw [wrap_eq]; exact IntWalk.wrap64_in _ ⟨by omega, by omega⟩
  refine ⟨x.tmod r, x.tmod r + r, ((x.tmod r + r) % (r : Int)).toNat, rfl, rfl, h5, h5, ?_, ?_, by omega, by omega, h1, h2⟩
  · rw [Int.tmod_eq_emod_of_nonneg (by omega), Int.toNat_of_nonneg h3]
  · rw [Int.toNat_of_nonneg h3]
theorem OwnI.cap {w : World} {base : Nat} {e : TypeId} {A : Option Addr} {c : Nat} {xs : List Int} (h : OwnI w base e A c xs) : xs.length ≤ c := by
  rcases h.1.2 with ⟨h1, h2⟩ | ⟨g, cap, cur, h1, _, _, h4, _⟩
  · have : xs = [] := by simpa using h2
    subst this; simp
  · injection h1 with _ _ h3; omega
/-- what a slice of integers leads to is no block of two headers -/
theorem Ints.off_ {w : World} {B n g b off : Nat} {xs : List Int} {a0 a1 : Option Addr} {n0 n1 c0 c1 : Nat} {t : TypeId} (h : Ints w B (some ⟨b, off, none⟩) n xs) (hn : 0 < n) (hg : w.heap[g]? = some (.cells #[.slice a0 n0 c0, .slice a1 n1 c1] t (0, 0))) : b ≠ g := by
  rintro rfl
  obtain ⟨hl, _, hc⟩ := h
  obtain ⟨b', off', e, _, hx⟩ := hc hn
  injection e with e
  injection e with e1 e2
  subst e1
  subst e2
  have hk : 0 < xs.length := by omega
  have := hx 0 _ (List.getElem?_eq_getElem hk)
  have hr := cell_of_row _ _ (off + 0) _ t (0, 0) hg
  rw [hr] at this
  match off + 0, this with
  | 0, this => simp at this
  | 1, this => simp at this
  | i + 2, this => simp at this
theorem Ints.off2 {w : World} {B n g : Nat} {A : Option Addr} {xs : List Int} {a0 a1 : Option Addr} {n0 n1 c0 c1 : Nat} {t : TypeId} (h : Ints w B A n xs) (hg : w.heap[g]? = some (.cells #[.slice a0 n0 c0, .slice a1 n1 c1] t (0, 0))) (u v : Value) : Ints ((w.setCell ⟨g, 0, none⟩ u).setCell ⟨g, 1, none⟩ v) B A n xs := by
  have h' := h
  obtain ⟨hl, hb, hc⟩ := h
  refine ⟨hl, hb, fun hn => ?_⟩
  obtain ⟨b, off, rfl, hB, hx⟩ := hc hn
  have hne := h'.off_ hn hg
  refine ⟨b, off, rfl, hB, fun k x hx' => ?_⟩
  exact (World.cell?_setCell_far _ _ ⟨b, off + k, none⟩ _ (fun e => hne e.symm)).trans ((World.cell?_setCell_far _ _ ⟨b, off + k, none⟩ _ (fun e => hne e.symm)).trans (hx k x hx'))
theorem set_both {W : World} {g : Nat} {u v a b : Value} {t : TypeId} (h : W.heap[g]? = some (.cells #[u, v] t (0, 0))) : ((W.setCell ⟨g, 0, none⟩ a).setCell ⟨g, 1, none⟩ b).heap[g]? = some (.cells #[a, b] t (0, 0)) := by
  simp only [World.setCell, Array.getElem?_modify, if_true, h]
  rfl
end Go.Proofs.Ytpfabbapfmfmmaa
/- The contract of coo.Check. -/
namespace Go.Proofs.Ytpfabbapfmfmmaa
open Go.RowKit

/-- the error of a list -/
def cooF (xs : List Int) (es : List Ent) : Int := if (cellsF xs).2 = 0 then if 65536 < es.length then 2 else if (es.all fun x => insideF xs x.cs) = true then 0 else 3 else (cellsF xs).2
theorem all_take {es : List Ent} {p : Ent → Bool} {k : Nat} {x : Ent} (h0 : (es.take k).all p = true) (hx : es[k]? = some x) (hp : p x = true) : (es.take (k + 1)).all p = true := by
  rw [take_succ_of hx, List.all_append, h0]; simp [hp]
theorem all_miss {es : List Ent} {p : Ent → Bool} {k : Nat} {x : Ent} (hx : es[k]? = some x) (hp : p x = false) : es.all p = false := by
  rw [List.all_eq_false]
  exact ⟨x, List.mem_of_getElem? hx, by simp [hp]⟩

set_option maxRecDepth 100000 in
set_option maxHeartbeats 2000000 in
theorem cooCheck_any (A B : Option Addr) (n c m e : Nat) (xs : List Int) (es : List Ent) (w : World) (h : Ints w w.heap.size A n xs) (hn : n ≤ 9223372036854775807) (hv : Ents w w.heap.size B m es) (hm : m ≤ 9223372036854775807) :
    Calls Try.prog 23 #[.agg #[.slice A n c, .slice B m e]] w fun x w' => x = .returned (.int .i64 (cooF xs es)) ∧ Below w.heap.size w w' := by
  have HC := fun W (hb : Below w.heap.size w W) => cells_any A n c xs W W.heap.size ((h.below hb).more hb.size) hn
  have hB0 : Below w.heap.size w (w.alloc (.cells #[.slice A n c, .slice B m e] 25)) := (Below.refl _ w).alloc (Nat.le_refl _) _
  have z0 := heap_alloc_new w (.cells #[.slice A n c, .slice B m e] 25)
  have HL := Lib.hid hv.1
  obtain ⟨N, hN⟩ : ∃ N, (cellsF xs).1 = N := ⟨_, rfl⟩
  obtain ⟨E, hE⟩ : ∃ E, (cellsF xs).2 = E := ⟨_, rfl⟩
  rw [hN, hE] at HC
  by_cases hE0 : E = 0
  · subst hE0
    by_cases hbig : 65536 < m
    · have HF : Hid (cooF xs es = 2) := by unfold Hid cooF; rw [if_pos hE, if_pos (by rw [HL.out]; exact hbig)]
      have d1 : decide (65536 < (m : Int)) = true := by simp; omega
      clear hN hE
      go_enter Try.func23, Try.ntmps23
      go_wp2_with (go_at_call 51; refine (HC _ hB0).mono ?_; rintro x w1 ⟨rfl, rfl⟩)
      go_ret
      exact ⟨by rw [HF.out]; rfl, hB0⟩
    · have d1 : decide (65536 < (m : Int)) = false := by simp; omega
      have HE := Lib.hid hE
      clear hN hE
      go_enter Try.func23, Try.ntmps23
      go_wp2_with (go_at_call 51; refine (HC _ hB0).mono ?_; rintro x w1 ⟨rfl, rfl⟩)
      go_loopw [25] (fun i wr => ∃ q : Nat, q ≤ m ∧ i = .int .i64 q ∧ Hid (((es.take q).all fun x => insideF xs x.cs) = true) ∧ wr.heap[w.heap.size]? = some (.cells #[.slice A n c, .slice B m e] 25 (0, 0)) ∧ Below w.heap.size w wr) (fun i _ => m - (intOf i).toNat)
      case atStart => exact ⟨0, Nat.zero_le _, rfl, by unfold Hid; simp, z0, hB0⟩
      case round =>
        clear z0
        obtain ⟨q, hq, rfl, HA, z0, hT⟩ := hrel
        obtain ⟨k0, k1, _, _⟩ := dCells z0
        by_cases hlt : q < m
        · obtain ⟨b, off, y, rfl, hbb, HY, hc0, hc1, iy, hy1, hy2, hy3, hy4⟩ := (hv.below hT).at_ hlt
          have m0 := fun o => cellPast o k0
          have hc2 : wr.cell? ⟨b, off + q * 2, none⟩ = some (.slice y.A y.n y.c) := by rw [Nat.mul_comm q 2]; exact hc0
          have hc3 : wr.cell? ⟨b, off + q * 2 + 1, none⟩ = some (.int .i64 y.v) := by rw [Nat.mul_comm q 2]; exact hc1
          obtain ⟨yA, yn, yc, ycs, yv⟩ := y
          dsimp only at hc0 hc1 hc2 hc3 iy hy1 hy2 hy3 hy4
          have HAT := fun (W : World) (hb : Below w.heap.size w W) (i : Ints W W.heap.size yA yn ycs) => at_any A yA n yn c yc xs ycs W ((h.below hb).more hb.size) i hn hy1
          have hT2 := hT.alloc hT.size (.cells #[.slice yA yn yc, .int .i64 yv] 37)
          have i2 := (iy.more hT.size).alloc' (.cells #[.slice yA yn yc, .int .i64 yv] 37)
          have z1 := (Below.heap_alloc wr (.cells #[.slice yA yn yc, .int .i64 yv] 37) _ (Array.getElem?_eq_some_iff.1 z0).1).trans z0
          by_cases hin : insideF xs ycs = true
          · have HF : atF xs ycs = (numR xs ycs, 0) := by unfold atF; rw [if_pos HE.out, if_pos hin]
            rw [HF] at HAT
            have HN : Hid (((es.take (q + 1)).all fun x => insideF xs x.cs) = true) := by unfold Hid; exact all_take HA.out HY.out hin
            clear HF hin
            go_wp2_with (go_at_call 52; refine (HAT _ hT2 i2).mono ?_; rintro x w5 ⟨rfl, hb5⟩; replace z1 := dKeep hb5 z1; replace hT2 := hT2.trans (hb5.mono hT2.size))
            go_roundw
            case rel => exact ⟨q + 1, by omega, by go_num, HN, z1, hT2⟩
            case measure => simp [intOf]; omega
          · have hin' : insideF xs ycs = false := by simpa using hin
            have HF : atF xs ycs = (0, 3) := by unfold atF; rw [if_pos HE.out, if_neg hin]
            rw [HF] at HAT
            have HN : Hid (cooF xs es = 3) := by unfold Hid cooF; rw [if_pos HE.out, if_neg (by rw [HL.out]; exact hbig), if_neg (by rw [all_miss HY.out hin']; decide)]
            clear HF hin hin'
            go_wp2_with (go_at_call 52; refine (HAT _ hT2 i2).mono ?_; rintro x w5 ⟨rfl, hb5⟩; replace hT2 := hT2.trans (hb5.mono hT2.size))
            go_ret
            exact ⟨by rw [HN.out]; rfl, hT2⟩
        · have HF : Hid (cooF xs es = 0) := by unfold Hid cooF; rw [if_pos HE.out, if_neg (by rw [HL.out]; exact hbig), if_pos (by have := HA.out; rwa [List.take_of_length_le (by rw [HL.out]; omega)] at this)]
          go_wp2_with fail
          go_ret
          exact ⟨by rw [HF.out]; rfl, hT⟩
  · have HF : Hid (cooF xs es = E) := by unfold Hid cooF; rw [if_neg (by rw [hE]; exact hE0), hE]
    have he1 : (E == 0) = false := by simpa using hE0
    have he2 : (E != 0) = true := by simpa using hE0
    clear hN hE hE0
    go_enter Try.func23, Try.ntmps23
    go_wp2_with (go_at_call 51; refine (HC _ hB0).mono ?_; rintro x w1 ⟨rfl, rfl⟩)
    go_ret
    exact ⟨by rw [HF.out]; rfl, hB0⟩
theorem refAtB (A A2 : Option Addr) (n n2 c c2 : Nat) (xs cs : List Int) (w : World) (h : Ints w w.heap.size A n xs) (h2 : Ints w w.heap.size A2 n2 cs) (hn : n ≤ 9223372036854775807) (hn2 : n2 ≤ 9223372036854775807) :
    Calls Try.prog 54 #[.slice A n c, .slice A2 n2 c2] w fun e w' => e = .returned (.tuple #[.int .i64 (atF xs cs).1, .int .i64 (atF xs cs).2]) ∧ Below w.heap.size w w' :=
  (refAt_any A A2 n n2 c c2 xs cs w w.heap.size h h2 hn hn2).mono fun e w' ⟨he, m, hm⟩ => ⟨he, by subst hm; exact below_drewN (Below.refl _ _) m⟩
set_option maxRecDepth 100000 in
set_option maxHeartbeats 2000000 in
theorem refCooCheck_any (A B : Option Addr) (n c m e : Nat) (xs : List Int) (es : List Ent) (w : World) (h : Ints w w.heap.size A n xs) (hn : n ≤ 9223372036854775807) (hv : Ents w w.heap.size B m es) (hm : m ≤ 9223372036854775807) :
    Calls Try.prog 24 #[.agg #[.slice A n c, .slice B m e]] w fun x w' => x = .returned (.int .i64 (cooF xs es)) ∧ Below w.heap.size w w' := by
  have HC := fun W (hb : Below w.heap.size w W) => refCells_any A n c xs W W.heap.size ((h.below hb).more hb.size) hn
  have hB0 : Below w.heap.size w (w.alloc (.cells #[.slice A n c, .slice B m e] 25)) := (Below.refl _ w).alloc (Nat.le_refl _) _
  have z0 := heap_alloc_new w (.cells #[.slice A n c, .slice B m e] 25)
  have HL := Lib.hid hv.1
  obtain ⟨N, hN⟩ : ∃ N, (cellsF xs).1 = N := ⟨_, rfl⟩
  obtain ⟨E, hE⟩ : ∃ E, (cellsF xs).2 = E := ⟨_, rfl⟩
  rw [hN, hE] at HC
  by_cases hE0 : E = 0
  · subst hE0
    by_cases hbig : 65536 < m
    · have HF : Hid (cooF xs es = 2) := by unfold Hid cooF; rw [if_pos hE, if_pos (by rw [HL.out]; exact hbig)]
      have d1 : decide (65536 < (m : Int)) = true := by simp; omega
      clear hN hE
      go_enter Try.func24, Try.ntmps24
      go_wp2_with (go_at_call 53; refine (HC _ hB0).mono ?_; rintro x w1 ⟨rfl, rfl⟩)
      go_ret
      exact ⟨by rw [HF.out]; rfl, hB0⟩
    · have d1 : decide (65536 < (m : Int)) = false := by simp; omega
      have HE := Lib.hid hE
      clear hN hE
      go_enter Try.func24, Try.ntmps24
      go_wp2_with (go_at_call 53; refine (HC _ hB0).mono ?_; rintro x w1 ⟨rfl, rfl⟩)
      go_loopw [25] (fun i wr => ∃ q : Nat, q ≤ m ∧ i = .int .i64 q ∧ Hid (((es.take q).all fun x => insideF xs x.cs) = true) ∧ wr.heap[w.heap.size]? = some (.cells #[.slice A n c, .slice B m e] 25 (0, 0)) ∧ Below w.heap.size w wr) (fun i _ => m - (intOf i).toNat)
      case atStart => exact ⟨0, Nat.zero_le _, rfl, by unfold Hid; simp, z0, hB0⟩
      case round =>
        clear z0
        obtain ⟨q, hq, rfl, HA, z0, hT⟩ := hrel
        obtain ⟨k0, k1, _, _⟩ := dCells z0
        by_cases hlt : q < m
        · obtain ⟨b, off, y, rfl, hbb, HY, hc0, hc1, iy, hy1, hy2, hy3, hy4⟩ := (hv.below hT).at_ hlt
          have m0 := fun o => cellPast o k0
          have hc2 : wr.cell? ⟨b, off + q * 2, none⟩ = some (.slice y.A y.n y.c) := by rw [Nat.mul_comm q 2]; exact hc0
          have hc3 : wr.cell? ⟨b, off + q * 2 + 1, none⟩ = some (.int .i64 y.v) := by rw [Nat.mul_comm q 2]; exact hc1
          obtain ⟨yA, yn, yc, ycs, yv⟩ := y
          dsimp only at hc0 hc1 hc2 hc3 iy hy1 hy2 hy3 hy4
          have HAT := fun (W : World) (hb : Below w.heap.size w W) (i : Ints W W.heap.size yA yn ycs) => refAtB A yA n yn c yc xs ycs W ((h.below hb).more hb.size) i hn hy1
          have hT2 := hT.alloc hT.size (.cells #[.slice yA yn yc, .int .i64 yv] 37)
          have i2 := (iy.more hT.size).alloc' (.cells #[.slice yA yn yc, .int .i64 yv] 37)
          have z1 := (Below.heap_alloc wr (.cells #[.slice yA yn yc, .int .i64 yv] 37) _ (Array.getElem?_eq_some_iff.1 z0).1).trans z0
          by_cases hin : insideF xs ycs = true
          · have HF : atF xs ycs = (numR xs ycs, 0) := by unfold atF; rw [if_pos HE.out, if_pos hin]
            rw [HF] at HAT
            have HN : Hid (((es.take (q + 1)).all fun x => insideF xs x.cs) = true) := by unfold Hid; exact all_take HA.out HY.out hin
            clear HF hin
            go_wp2_with (go_at_call 54; refine (HAT _ hT2 i2).mono ?_; rintro x w5 ⟨rfl, hb5⟩; replace z1 := dKeep hb5 z1; replace hT2 := hT2.trans (hb5.mono hT2.size))
            go_roundw
            case rel => exact ⟨q + 1, by omega, by go_num, HN, z1, hT2⟩
            case measure => simp [intOf]; omega
          · have hin' : insideF xs ycs = false := by simpa using hin
            have HF : atF xs ycs = (0, 3) := by unfold atF; rw [if_pos HE.out, if_neg hin]
            rw [HF] at HAT
            have HN : Hid (cooF xs es = 3) := by unfold Hid cooF; rw [if_pos HE.out, if_neg (by rw [HL.out]; exact hbig), if_neg (by rw [all_miss HY.out hin']; decide)]
            clear HF hin hin'
            go_wp2_with (go_at_call 54; refine (HAT _ hT2 i2).mono ?_; rintro x w5 ⟨rfl, hb5⟩; replace hT2 := hT2.trans (hb5.mono hT2.size))
            go_ret
            exact ⟨by rw [HN.out]; rfl, hT2⟩
        · have HF : Hid (cooF xs es = 0) := by unfold Hid cooF; rw [if_pos HE.out, if_neg (by rw [HL.out]; exact hbig), if_pos (by have := HA.out; rwa [List.take_of_length_le (by rw [HL.out]; omega)] at this)]
          go_wp2_with fail
          go_ret
          exact ⟨by rw [HF.out]; rfl, hT⟩
  · have HF : Hid (cooF xs es = E) := by unfold Hid cooF; rw [if_neg (by rw [hE]; exact hE0), hE]
    have he1 : (E == 0) = false := by simpa using hE0
    have he2 : (E != 0) = true := by simpa using hE0
    clear hN hE hE0
    go_enter Try.func24, Try.ntmps24
    go_wp2_with (go_at_call 53; refine (HC _ hB0).mono ?_; rintro x w1 ⟨rfl, rfl⟩)
    go_ret
    exact ⟨by rw [HF.out]; rfl, hB0⟩
end Go.Proofs.Ytpfabbapfmfmmaa
/- How two entries are compared by an order of their modes: the contracts of cmp.Compare at int and of the closure that coo.aheadBy makes. -/
namespace Go.Proofs.Ytpfabbapfmfmmaa
open Go.RowKit

def pickE (l : List Int) (x : Int) : Int := l.getD x.toNat 0
def cmpI (x y : Int) : Int := if x < y then -1 else if y < x then 1 else 0
/-- by which of the modes in turn two places differ first -/
def cmpE : List Int → List Int → List Int → Int
  | [], _, _ => 0
  | m :: os, a, b => if cmpI (pickE a m) (pickE b m) = 0 then cmpE os a b else cmpI (pickE a m) (pickE b m)

set_option maxRecDepth 100000 in
theorem isNaN_ok (x : Int) (w : World) : Calls Try.prog 89 #[.int .i64 x] w fun e w' => e = .returned (.bool false) ∧ w' = w := by
  have e1 : (x == x) = true := by simp
  have e2 : (x != x) = false := by simp
  go_enter Try.func89, Try.ntmps89
  go_wp2
  go_ret
  exact ⟨rfl, rfl⟩
set_option maxRecDepth 100000 in
theorem compare_ok (x y : Int) (w : World) : Calls Try.prog 73 #[.int .i64 x, .int .i64 y] w fun e w' => e = .returned (.int .i64 (cmpI x y)) ∧ w' = w := by
  have hN := fun z W => isNaN_ok z W
  by_cases h1 : x < y
  · have HF : Hid (cmpI x y = -1) := by unfold Hid cmpI; rw [if_pos h1]
    have e1 : decide (x < y) = true := by simpa using h1
    clear h1
    go_enter Try.func73, Try.ntmps73
    go_wp2_with (go_at_call 89; refine (hN _ _).mono ?_; rintro e w' ⟨rfl, rfl⟩)
    go_ret
    exact ⟨by rw [HF.out]; rfl, rfl⟩
  · have e1 : decide (x < y) = false := by simpa using h1
    by_cases h2 : y < x
    · have HF : Hid (cmpI x y = 1) := by unfold Hid cmpI; rw [if_neg h1, if_pos h2]
      have e2 : decide (y < x) = true := by simpa using h2
      clear h1 h2
      go_enter Try.func73, Try.ntmps73
      go_wp2_with (go_at_call 89; refine (hN _ _).mono ?_; rintro e w' ⟨rfl, rfl⟩)
      go_ret
      exact ⟨by rw [HF.out]; rfl, rfl⟩
    · have HF : Hid (cmpI x y = 0) := by unfold Hid cmpI; rw [if_neg h1, if_neg h2]
      have e2 : decide (y < x) = false := by simpa using h2
      clear h1 h2
      go_enter Try.func73, Try.ntmps73
      go_wp2_with (go_at_call 89; refine (hN _ _).mono ?_; rintro e w' ⟨rfl, rfl⟩)
      go_ret
      exact ⟨by rw [HF.out]; rfl, rfl⟩
theorem cmpI_bd (x y : Int) : -1 ≤ cmpI x y ∧ cmpI x y ≤ 1 := by unfold cmpI; split <;> (try split) <;> omega

theorem cmpE_cons {os a b : List Int} {k : Nat} {m : Int} (h : os[k]? = some m) : cmpE (os.drop k) a b = if cmpI (pickE a m) (pickE b m) = 0 then cmpE (os.drop (k + 1)) a b else cmpI (pickE a m) (pickE b m) := by
  rw [drop_of h]; rfl
theorem pickE_of {l : List Int} {m y : Int} (h : l[m.toNat]? = some y) : pickE l m = y := by unfold pickE; rw [List.getD_eq_getElem?_getD, h]; rfl

set_option maxRecDepth 100000 in
set_option maxHeartbeats 1000000 in
theorem ahead_ok (x y : Ent) (Ao : Option Addr) (ro co : Nat) (os : List Int) (bo : Nat) (w : World) (h1 : Ints w w.heap.size x.A x.n x.cs) (h2 : Ints w w.heap.size y.A y.n y.cs) (ho : Ints w w.heap.size Ao ro os) (hoc : w.cell? ⟨bo, 0, none⟩ = some (.slice Ao ro co)) (hr : ro ≤ 100000)
   (hin : ∀ m ∈ os, 0 ≤ m ∧ m < x.n ∧ m < y.n) :
    Calls Try.prog 72 #[.agg #[.slice x.A x.n x.c, .int .i64 x.v], .agg #[.slice y.A y.n y.c, .int .i64 y.v], .pointer (some ⟨bo, 0, none⟩)] w fun e w' => e = .returned (.int .i64 (cmpE os x.cs y.cs)) ∧ Below w.heap.size w w' := by
  obtain ⟨xA, xn, xc, xcs, xv⟩ := x
  obtain ⟨yA, yn, yc, ycs, yv⟩ := y
  dsimp only at h1 h2 hin ⊢
  have HLo : Hid (os.length = ro) := ho.1
  have HIN := Lib.hid hin
  have hC := fun a b W => compare_ok a b W
  have c1 := heap_alloc_new w (.cells #[.slice xA xn xc, .int .i64 xv] 37)
  have c2 := heap_alloc_new (w.alloc (.cells #[.slice xA xn xc, .int .i64 xv] 37)) (.cells #[.slice yA yn yc, .int .i64 yv] 37)
  rw [World.size_alloc] at c2
  have b1 := cellPast (.cells #[.slice yA yn yc, .int .i64 yv] 37) ((cell_of_row _ _ 0 _ _ (0, 0) c1 : _ = some (.slice xA xn xc)))
  have b2 : ((w.alloc (.cells #[.slice xA xn xc, .int .i64 xv] 37)).alloc (.cells #[.slice yA yn yc, .int .i64 yv] 37)).cell? ⟨w.heap.size + 1, 0, none⟩ = some (.slice yA yn yc) := cell_of_row _ _ 0 _ _ (0, 0) c2
  have b3 := cellPast (.cells #[.slice yA yn yc, .int .i64 yv] 37) (cellPast (.cells #[.slice xA xn xc, .int .i64 xv] 37) hoc)
  have i1 := (h1.alloc (Nat.le_refl _) (.cells #[.slice xA xn xc, .int .i64 xv] 37)).alloc (by simp) (.cells #[.slice yA yn yc, .int .i64 yv] 37)
  have i2 := (h2.alloc (Nat.le_refl _) (.cells #[.slice xA xn xc, .int .i64 xv] 37)).alloc (by simp) (.cells #[.slice yA yn yc, .int .i64 yv] 37)
  have i3 := (ho.alloc (Nat.le_refl _) (.cells #[.slice xA xn xc, .int .i64 xv] 37)).alloc (by simp) (.cells #[.slice yA yn yc, .int .i64 yv] 37)
  have hB : Below w.heap.size w ((w.alloc (.cells #[.slice xA xn xc, .int .i64 xv] 37)).alloc (.cells #[.slice yA yn yc, .int .i64 yv] 37)) := ((Below.refl _ w).alloc (Nat.le_refl _) _).alloc (by simp) _
  clear c1 c2 hin
  go_enter Try.func72, Try.ntmps72
  go_wp2
  have hz1 : w.heap.size < ((w.alloc (.cells #[.slice xA xn xc, .int .i64 xv] 37)).alloc (.cells #[.slice yA yn yc, .int .i64 yv] 37)).heap.size := by simp; omega
  have hz2 : w.heap.size + 1 < ((w.alloc (.cells #[.slice xA xn xc, .int .i64 xv] 37)).alloc (.cells #[.slice yA yn yc, .int .i64 yv] 37)).heap.size := by simp
  obtain ⟨W2, hW2⟩ : ∃ W2, ((w.alloc (.cells #[.slice xA xn xc, .int .i64 xv] 37)).alloc (.cells #[.slice yA yn yc, .int .i64 yv] 37)) = W2 := ⟨_, rfl⟩
  rw [hW2] at b1 b2 b3 i1 i2 i3 hB hz1 hz2 ⊢
  clear hW2
  go_loopw [11] (fun i wr => ∃ (k : Nat), k ≤ ro ∧ i = .int .i64 k ∧ Below W2.heap.size W2 wr ∧ Hid (cmpE os xcs ycs = cmpE (os.drop k) xcs ycs)) (fun i _ => ro - (intOf i).toNat)
  case atStart => exact ⟨0, Nat.zero_le _, rfl, Below.refl _ _, rfl⟩
  case round =>
    obtain ⟨k, hk, rfl, hb, HC⟩ := hrel
    have d1 := (hb.cell (p := ⟨w.heap.size, 0, none⟩) hz1).trans b1
    have d2 := (hb.cell (p := ⟨w.heap.size + 1, 0, none⟩) hz2).trans b2
    have hbb := hB.trans (hb.mono hB.size)
    by_cases hlt : k < ro
    · obtain ⟨bm, om, m, rfl, _, HM, hcm, _, _⟩ := ((i3.more hB.size).below hb).at_ hlt
      have hin := HIN.out m (List.mem_of_getElem? HM.out)
      obtain ⟨bx, ox, vx, rfl, _, HVX, hcx, hx1, hx2⟩ := ((i1.more hB.size).below hb).at_ (k := m.toNat) (by omega)
      obtain ⟨by_, oy, vy, rfl, _, HVY, hcy, hy1, hy2⟩ := ((i2.more hB.size).below hb).at_ (k := m.toNat) (by omega)
      have hcons := cmpE_cons (a := xcs) (b := ycs) HM.out
      rw [pickE_of HVX.out, pickE_of HVY.out] at hcons
      have hm0 : 0 ≤ m := hin.1
      have hmx : m < xn := hin.2.1
      have hmy : m < yn := hin.2.2
      clear hin
      obtain ⟨r, hr⟩ : ∃ r, cmpI vx vy = r := ⟨_, rfl⟩
      rw [hr] at hcons
      have hC2 := fun W => hC vx vy W
      rw [hr] at hC2
      clear hr hC
      by_cases hr0 : r = 0
      · rw [if_pos hr0] at hcons
        have HC2 : Hid (cmpE os xcs ycs = cmpE (os.drop (k + 1)) xcs ycs) := HC.out.trans hcons
        have e1 : (r == 0) = true := by simpa using hr0
        have e2 : (r != 0) = false := by simpa using hr0
        clear hcons hr0
        go_wp2
        go_quiet ((go_at_call 73; exact Calls.quiet_of_same (hC2 _)))
        go_wp2
        go_roundw
        case rel => exact ⟨k + 1, by omega, by go_num, below_drewN hb _, HC2⟩
        case measure => simp [intOf]; omega
      · rw [if_neg hr0] at hcons
        have HF : Hid (cmpE os xcs ycs = r) := HC.out.trans hcons
        have e1 : (r == 0) = false := by simpa using hr0
        have e2 : (r != 0) = true := by simpa using hr0
        clear hcons hr0
        go_wp2
        go_quiet ((go_at_call 73; exact Calls.quiet_of_same (hC2 _)))
        go_wp2
        go_ret
        exact ⟨by rw [HF.out]; rfl, below_drewN hbb _⟩
    · have HF : Hid (cmpE os xcs ycs = 0) := by unfold Hid; rw [HC.out, List.drop_of_length_le (by rw [HLo.out]; omega)]; rfl
      go_wp2
      go_ret
      exact ⟨by rw [HF.out]; rfl, hbb⟩
end Go.Proofs.Ytpfabbapfmfmmaa
