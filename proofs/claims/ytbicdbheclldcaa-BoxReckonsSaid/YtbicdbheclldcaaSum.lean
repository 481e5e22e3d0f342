/- The contract of box.Sum. -/
import Derived.Test.YtbicdbheclldcaaSumC
import Derived.Test.YtbicdbheclldcaaSumTwo
import Derived.StillTailTactics
import Derived.Deep.DeepCutAuto
import Derived.Deep.RegionHeld3
namespace Go.Proofs.Ytbicdbheclldcaa
open Go.RowKit

theorem OwnI.ne {w : World} {base g gv c : Nat} {e e' : TypeId} {xs : List Int} {cs : Array Value} {fr : Nat × Nat} (h : OwnI w base e (some ⟨gv, 0, none⟩) c xs) (hg : w.heap[g]? = some (.cells cs e' fr)) (hne : e ≠ e') : g ≠ gv := by
  rintro rfl
  rcases h.1.2 with ⟨h1, _⟩ | ⟨g', cap, cur, h1, _, hh, _⟩
  · injection h1 with h1
    cases h1
  · injection h1 with h1
    injection h1 with h1
    injection h1 with h1
    subst h1
    rw [hh] at hg
    injection hg with hg
    injection hg with _ ht _
    exact hne ht
/-- what is left of the tensor's cells -/
def sumV (xs : List Int) (k : Nat) (ys : List Int) : List Int := scat (idx (behind xs k) (sizeAt xs k)) (laidF (xs.eraseIdx k)).1.toNat ys
theorem sumV_length (xs : List Int) (k : Nat) (ys : List Int) : (sumV xs k ys).length = (laidF (xs.eraseIdx k)).1.toNat := scat_length ..
/-- the statement that makes what the sums go to leaves this -/
def SumCut (w0 wx : World) (g : Nat) (A5 B5 : Option Addr) (c5 e5 : Nat) (S V : List Int) : Prop :=
  w0.heap.size ≤ g ∧ wx.heap[g]? = some (.cells #[.slice A5 S.length c5, .slice B5 V.length e5] 25 (0, 0)) ∧ OwnI wx w0.heap.size 3 A5 c5 S ∧ OwnI wx w0.heap.size 2 B5 e5 V ∧ Below w0.heap.size w0 wx
theorem laidF_erase {xs : List Int} {m : Nat} (hck : checkF xs m = 0) : xs.length ≤ 4 := by
  unfold checkF at hck
  split at hck
  · rename_i h; exact (cellsF_ok (laidF_ok h).1).1
  · rename_i h; exact absurd hck h
theorem below_two (w : World) (o o' : Obj) : Below w.heap.size w ((w.alloc o).alloc o') := ((Below.refl _ _).alloc (Nat.le_refl _) _).alloc (by simp) _
theorem pair_past (w : World) (o : Obj) (u v : Value) (t : TypeId) : ((w.alloc (.cells #[u, v] t)).alloc o).drew.cell? ⟨w.heap.size, 0, none⟩ = some u ∧ ((w.alloc (.cells #[u, v] t)).alloc o).drew.cell? ⟨w.heap.size, 1, none⟩ = some v :=
  ⟨cellPast o (pair_new w u v t).1, cellPast o (pair_new w u v t).2⟩
theorem pair_new2 (w : World) (o : Obj) (u v : Value) (t : TypeId) : ((w.alloc o).alloc (.cells #[u, v] t)).cell? ⟨w.heap.size + 1, 0, none⟩ = some u ∧ ((w.alloc o).alloc (.cells #[u, v] t)).cell? ⟨w.heap.size + 1, 1, none⟩ = some v := by
  have := pair_new (w.alloc o) u v t
  rwa [World.size_alloc] at this
theorem sum_cut_new {w1 w3 : World} {A5 B5 : Option Addr} {c5 e5 s : Nat} {S V : List Int} (hb : Below w1.heap.size w1 w3) (hs : w1.heap.size ≤ s) (hS : OwnI w3 s 3 A5 c5 S) (hV : OwnI w3 s 2 B5 e5 V) :
    SumCut w1 (w3.alloc (.cells #[.slice A5 S.length c5, .slice B5 V.length e5] 25)) w3.heap.size A5 B5 c5 e5 S V :=
  ⟨hb.size, heap_alloc_new w3 _, (hS.alloc _).mono hs, (hV.alloc _).mono hs, hb.alloc hb.size _⟩
theorem sum_cut_old {w1 w3 : World} {g : Nat} {u v : Value} {A5 B5 : Option Addr} {c5 e5 s : Nat} {S V : List Int} (hb : Below w1.heap.size w1 w3) (hs : w1.heap.size ≤ s) (hS : OwnI w3 s 3 A5 c5 S) (hV : OwnI w3 s 2 B5 e5 V) (hg1 : w1.heap.size ≤ g) (hg : g < s)
    (hh : w3.heap[g]? = some (.cells #[u, v] 25 (0, 0))) :
    SumCut w1 ((w3.setCell ⟨g, 0, none⟩ (.slice A5 S.length c5)).setCell ⟨g, 1, none⟩ (.slice B5 V.length e5)) g A5 B5 c5 e5 S V := by
  refine ⟨hg1, ?_, ((hS.far hg _ _).far hg _ _).mono hs, ((hV.far hg _ _).far hg _ _).mono hs, (hb.setCell (p := ⟨g, 0, none⟩) hg1 _).setCell (p := ⟨g, 1, none⟩) hg1 _⟩
  simp only [World.setCell, Array.getElem?_modify, if_true, hh]
  rfl
theorem dOld {w1 w2 : World} {o o' : Obj} (h : Below ((w1.alloc o).alloc o').drew.heap.size ((w1.alloc o).alloc o').drew w2) : w2.heap[w1.heap.size]? = some o := (h.block w1.heap.size (by show _ < ((w1.alloc o).alloc o').heap.size; simp; omega)).trans (zf_two w1 o o')
theorem dNew {w1 w2 : World} {o : Obj} (h : Below (w1.alloc o).drew.heap.size (w1.alloc o).drew w2) : w2.heap[w1.heap.size]? = some o := (h.block w1.heap.size (by show _ < (w1.alloc o).heap.size; simp)).trans (heap_alloc_new w1 o)
theorem dOld' {w1 w2 : World} {o o' : Obj} (h : Below ((w1.alloc o).alloc o').heap.size ((w1.alloc o).alloc o') w2) : w2.heap[w1.heap.size]? = some o := (h.block w1.heap.size (by simp; omega)).trans (zf_two w1 o o')
theorem dNew' {w1 w2 : World} {o : Obj} (h : Below (w1.alloc o).heap.size (w1.alloc o) w2) : w2.heap[w1.heap.size]? = some o := (h.block w1.heap.size (by simp)).trans (heap_alloc_new w1 o)
theorem dSnd {w1 w2 : World} {o o' : Obj} (h : Below ((w1.alloc o).alloc o').drew.heap.size ((w1.alloc o).alloc o').drew w2) : w2.heap[w1.heap.size + 1]? = some o' := (h.block (w1.heap.size + 1) (by show _ < ((w1.alloc o).alloc o').heap.size; simp)).trans (zf_snd w1 o' o)
theorem dSnd' {w1 w2 : World} {o o' : Obj} (h : Below ((w1.alloc o).alloc o').heap.size ((w1.alloc o).alloc o') w2) : w2.heap[w1.heap.size + 1]? = some o' := (h.block (w1.heap.size + 1) (by simp)).trans (zf_snd w1 o' o)
theorem dKeep {w1 w2 : World} {g : Nat} {o : Obj} (h : Below w1.heap.size w1 w2) (hg : w1.heap[g]? = some o) : w2.heap[g]? = some o := (h.block g (Array.getElem?_eq_some_iff.1 hg).1).trans hg
theorem dKeep' {w1 w2 : World} {g : Nat} {o : Obj} (h : Below w1.drew.heap.size w1.drew w2) (hg : w1.heap[g]? = some o) : w2.heap[g]? = some o := (h.block g (Array.getElem?_eq_some_iff.1 hg).1).trans hg
theorem dCells {W : World} {g : Nat} {u v : Value} {t : TypeId} (h : W.heap[g]? = some (.cells #[u, v] t (0, 0))) :
    W.cell? ⟨g, 0, none⟩ = some u ∧ W.cell? ⟨g, 1, none⟩ = some v ∧ W.frozen? ⟨g, 0, none⟩ = false ∧ W.frozen? ⟨g, 1, none⟩ = false :=
  ⟨by simpa using cell_of_row _ _ 0 _ t (0, 0) h, by simpa using cell_of_row _ _ 1 _ t (0, 0) h, by simp [World.frozen?, h], by simp [World.frozen?, h]⟩
theorem laidF_le (xs : List Int) : (laidF xs).1.toNat ≤ 65536 := Int.toNat_le.2 laidF_nonneg.2
theorem sum_pos {xs : List Int} {m n k : Nat} (hck : checkF xs m = 0) (hm : 0 < m) (hl : xs.length = n) (hk : k < n) :
    (∀ x ∈ xs, 1 ≤ x) ∧ (laidF (xs.eraseIdx k)).1.toNat = (prodI (xs.eraseIdx k)).toNat ∧ prodI xs = m ∧ m ≤ 65536 := by
  have h0 : (laidF xs).2 = 0 ∧ (m : Int) = (laidF xs).1 := by
    unfold checkF at hck
    split at hck
    · rename_i h
      split at hck
      · rename_i h2; exact ⟨h, h2⟩
      · simp at hck
    · rename_i h; exact absurd hck h
  obtain ⟨h1, h2⟩ := h0
  obtain ⟨h3, h4⟩ := laidF_ok h1
  have hn := laidF_nonneg (xs := xs)
  have hp := cellsF_nz h3 (by omega)
  obtain ⟨h5, h6⟩ := cellsF_ok_pos h3 hp
  have hle : prodI (xs.eraseIdx k) ≤ prodI xs := by
    have hkk : k < xs.length := by omega
    have hg := List.getElem?_eq_getElem hkk
    rw [prodI_erase hkk, prodI_split xs k, prodI_drop hg]
    have a1 := prodI_pos (xs := xs.take k) (fun x hx => hp x (List.mem_of_mem_take hx))
    have a2 := prodI_pos (xs := xs.drop (k + 1)) (fun x hx => hp x (List.mem_of_mem_drop hx))
    have a3 := hp _ (List.mem_of_getElem? hg)
    refine Int.mul_le_mul_of_nonneg_left ?_ (by omega)
    have := Int.mul_le_mul_of_nonneg_right a3 (by omega : 0 ≤ prodI (xs.drop (k + 1)))
    omega
  have hpe : ∀ x ∈ xs.eraseIdx k, 1 ≤ x := fun x hx => hp x (List.mem_of_mem_eraseIdx hx)
  have hpp := prodI_pos hpe
  refine ⟨hp, ?_, by omega, by omega⟩
  have hl4 : (xs.eraseIdx k).length ≤ 4 := by have := (cellsF_ok h3).1; have := List.length_eraseIdx_le xs k; omega
  have hc := cellsF_pos hpe hl4
  rw [if_pos (by omega)] at hc
  unfold laidF
  rw [hc]
  simp only [if_true]
  rw [if_neg (by omega)]
theorem wrap_nat (n : Nat) (h : n ≤ 100000) : IntKind.i64.wrap (n : Int) = n := by rw [wrap_eq]; exact IntWalk.wrap64_in _ ⟨by omega, by omega⟩
/-- the number that a cell goes to, as the program reckons it -/
theorem idx_run (q p s : Nat) (P Sp : Int) (hP : P = (p : Int)) (hSp : Sp = ((s * p : Nat) : Int)) (hq : q ≤ 65536) (hj : idx p s q ≤ 65536) :
    ∃ d f r : Int, IntKind.i64.wrap ((q : Int) / Sp) = d ∧ IntKind.i64.wrap (d * P) = f ∧ (q : Int).tmod P = r ∧ IntKind.i64.wrap (f + r) = (idx p s q : Nat) := by
  subst hP
  subst hSp
  have h1 : q / (s * p) ≤ q := Nat.div_le_self _ _
  have h2 : q % p ≤ q := Nat.mod_le _ _
  have h3 : idx p s q = q / (s * p) * p + q % p := by unfold idx; rw [Nat.mul_comm p s]
  refine ⟨((q / (s * p) : Nat) : Int), ((q / (s * p) * p : Nat) : Int), ((q % p : Nat) : Int), ?_, ?_, ?_, ?_⟩
  · rw [← Int.natCast_ediv]; exact wrap_nat _ (by omega)
  · rw [← Int.natCast_mul]; exact wrap_nat _ (by omega)
  · rw [Int.tmod_eq_emod_of_nonneg (by omega), ← Int.natCast_emod]
  · rw [← Int.natCast_add, ← h3]; exact wrap_nat _ (by omega)
def SumPost (w : World) (S V : List Int) (E : Int) (x : Ending) (w' : World) : Prop := ∃ A1 c1 A3 c3, x = .returned (.tuple #[.agg #[.slice A1 S.length c1, .slice A3 V.length c3], .int .i64 E]) ∧
      OwnI w' w.heap.size 3 A1 c1 S ∧ OwnI w' w.heap.size 2 A3 c3 V ∧ Below w.heap.size w w'

set_option maxRecDepth 100000 in
set_option maxHeartbeats 2000000 in
theorem sum_ok (A B : Option Addr) (n c m e k : Nat) (xs ys : List Int) (w : World) (h : Ints w w.heap.size A n xs) (hv : Ints w w.heap.size B m ys) (hn : n ≤ 9223372036854775807) (hnc : n ≤ c) (hm : m ≤ 9223372036854775807) (hck : checkF xs m = 0) (hk : k < n) :
    Calls Try.prog 24 #[.agg #[.slice A n c, .slice B m e], .int .i64 (k : Int)] w (SumPost w (if (laidF (xs.eraseIdx k)).2 = 0 then xs.eraseIdx k else []) (if (laidF (xs.eraseIdx k)).2 = 0 then sumV xs k ys else []) (laidF (xs.eraseIdx k)).2) := by
  obtain ⟨b, off, x, rfl, hbb, HX, hcx, hx1, hx2⟩ := h.at_ hk
  have HC := fun W (hb : Below w.heap.size w W) => check_any (some ⟨b, off, none⟩) B n c m e xs W ((h.below hb).more hb.size) hn
  rw [hck] at HC
  have HCK := Lib.hid hck
  have hn4 : n ≤ 4 := by have := laidF_erase hck; have := h.1; omega
  have HL := Lib.hid h.1
  have HL2 := Lib.hid hv.1
  have hB0 : Below w.heap.size w ((w.alloc (.cells #[.slice (some ⟨b, off, none⟩) n c, .slice B m e] 25)).alloc (.cells #[.slice none 0 0, .slice none 0 0] 25)) := ((Below.refl _ w).alloc (Nat.le_refl _) _).alloc (by simp) _
  have hmx : Try.prog.follows .mixedOrders = true := by kernel_rfl
  have s1 := fun W => run_take (w := W) (some ⟨b, off, none⟩) n c k (by omega) hnc
  have s2 := fun W => run_drop (w := W) (some ⟨b, off, none⟩) n c (k + 1) (by omega)
  have ek : (((k + 1 : Nat) : Int)) = (k : Int) + 1 := by omega
  have wk : IntKind.i64.wrap ((k : Int) + 1) = (k : Int) + 1 := IntWalk.i64_in _ (by omega)
  have k0' : (0 : Int) ≤ (k : Int) + 1 := by omega
  have k1' : (0 : Int) ≤ (k : Int) := by omega
  have k2' : (k : Int) ≤ (n : Int) := by omega
  simp only [ek] at s2
  clear ek
  have T1 := fun W (hb : Below w.heap.size w W) => (h.below hb).take_ (show k ≤ n by omega)
  have T2 := fun W (hb : Below w.heap.size w W) => (h.below hb).drop_ (show k + 1 ≤ n by omega) hnc
  obtain ⟨D1, hD1⟩ : ∃ D, (if c = k + 1 then some (⟨b, off, none⟩ : Addr) else (some (⟨b, off, none⟩ : Addr)).map (·.add ((k + 1) * 1))) = D := ⟨_, rfl⟩
  rw [hD1] at s2 T2
  clear hD1
  have hd1 : decide ((k : Int) < 0) = false := by simp
  have hd2 : decide (n ≤ k) = false := by simp; omega
  obtain ⟨E, hE⟩ : ∃ E, (laidF (xs.eraseIdx k)).2 = E := ⟨_, rfl⟩
  obtain ⟨S0, hS0⟩ : ∃ S, (if E = 0 then xs.eraseIdx k else []) = S := ⟨_, rfl⟩
  obtain ⟨V0, hV0⟩ : ∃ V, (if E = 0 then sumV xs k ys else []) = V := ⟨_, rfl⟩
  rw [hE, hS0, hV0]
  have HE := Lib.hid hE
  have HS0 := Lib.hid hS0
  have HV0 := Lib.hid hV0
  clear hE hS0 hV0
  go_enter Try.func24, Try.ntmps24
  go_upto_region 6 with (go_at_call 27; refine (HC _ hB0).mono ?_; rintro x w1 ⟨rfl, hb1⟩; have hb2 := hB0.trans (hb1.mono hB0.size); obtain ⟨k0, k1, k2, k3⟩ := two_boxes hb1)
  go_cut [7, 8] (fun p z wx => ∃ g A5 B5 c5 e5, p = .pointer (some ⟨g, 0, none⟩) ∧ z = .int .i64 E ∧ SumCut w1 wx g A5 B5 c5 e5 (zS (xs.eraseIdx k)) (zV (xs.eraseIdx k)))
  case first =>
    have HK := fun (W : World) (g : Nat) (hb : Below w1.heap.size w1 W) (h0 : W.cell? ⟨g, 0, none⟩ = some (.slice (some ⟨b, off, none⟩) k c)) (h1 : W.cell? ⟨g, 1, none⟩ = some (.slice D1 (n - (k + 1)) (c - (k + 1)))) (hlt : g < W.heap.size) =>
      (concat_two g (some ⟨b, off, none⟩) D1 k c (n - (k + 1)) (c - (k + 1)) (xs.take k) (xs.drop (k + 1)) W h0 h1 hlt ((T1 W (hb2.trans (hb.mono hb2.size))).more (Nat.le_trans hb2.size hb.size)) ((T2 W (hb2.trans (hb.mono hb2.size))).more (Nat.le_trans hb2.size hb.size)) (by omega) (by omega)).mono
        (R' := fun e w' => ∃ A' c', e = .returned (.slice A' (k + (n - (k + 1))) c') ∧ Ints w' w'.heap.size A' (k + (n - (k + 1))) (xs.eraseIdx k) ∧ Below W.heap.size W w' ∧ Below w1.heap.size w1 w')
        fun e w' ⟨A', c', h1, h2, h3⟩ => ⟨A', c', h1, by have := h2.ints; rw [← List.eraseIdx_eq_take_drop_succ] at this; rwa [show (xs.eraseIdx k).length = k + (n - (k + 1)) by rw [List.length_eraseIdx, HL.out, if_pos hk]; omega] at this, h3, hb.trans (h3.mono hb.size)⟩
    have HZ := fun (W : World) (A' : Option Addr) (c' : Nat) (hI : Ints W W.heap.size A' (k + (n - (k + 1))) (xs.eraseIdx k)) (hb : Below w1.heap.size w1 W) => (zero_any A' (k + (n - (k + 1))) c' (xs.eraseIdx k) W hI (by omega)).mono (R' := fun e w' => ∃ A1 c1 A2 c2, e = .returned (.tuple #[.agg #[.slice A1 (zS (xs.eraseIdx k)).length c1, .slice A2 (zV (xs.eraseIdx k)).length c2], .int .i64 E]) ∧ OwnI w' W.heap.size 3 A1 c1 (zS (xs.eraseIdx k)) ∧ OwnI w' W.heap.size 2 A2 c2 (zV (xs.eraseIdx k)) ∧ Below W.heap.size W w' ∧ Below w1.heap.size w1 w')
        fun e w' ⟨A1, c1, A2, c2, h1, h2, h3, h4⟩ => ⟨A1, c1, A2, c2, by rw [← HE.out]; exact h1, h2, h3, h4, hb.trans (h4.mono hb.size)⟩
    have hlt1 : w.heap.size < w1.heap.size := by have := hb1.size; simp at this; omega
    clear T1 T2
    go_region_held3 (fun w' => w'.cell? ⟨w.heap.size, 0, none⟩ = some (.slice (some ⟨b, off, none⟩) n c) ∧ w'.cell? ⟨w.heap.size, 1, none⟩ = some (.slice B m e)) (first | go_keep | (refine far_two ?_ y2 y3; omega))
      (first | (go_at_call 68; refine (HK _ _ ?b0 ?b1 ?b2 ?b3).mono ?_; (case b0 => first | exact ((Below.refl _ _).alloc (Nat.le_refl _) _).drew | exact (below_two _ _ _).drew | exact below_two _ _ _); (case b1 => first | exact (pair_new _ _ _ _).1 | exact (pair_new2 _ _ _ _ _).1 | exact (pair_past _ _ _ _ _).1); (case b2 => first | exact (pair_new _ _ _ _).2 | exact (pair_new2 _ _ _ _ _).2 | exact (pair_past _ _ _ _ _).2); (case b3 => simp <;> omega); rintro x w2 ⟨A4, c4, rfl, HI, hq2, hr2⟩; have hs2 := hr2.size; have hs4 := hq2.size; simp only [World.size_alloc, World.size_drew] at hs4; have y0 := (hr2.cell (p := ⟨w.heap.size, 0, none⟩) hlt1).trans k0; have y1 := (hr2.cell (p := ⟨w.heap.size, 1, none⟩) hlt1).trans k1; first | (have TD : w2.heap[w1.heap.size]? = some (.cells #[.slice none 0 0, .slice none 0 0] 25) := dOld hq2) | (have TD : w2.heap[w1.heap.size]? = some (.cells #[.slice none 0 0, .slice none 0 0] 25) := dOld' hq2) | (have TD : w2.heap[w1.heap.size + 1]? = some (.cells #[.slice none 0 0, .slice none 0 0] 25) := dSnd hq2) | (have TD : w2.heap[w1.heap.size + 1]? = some (.cells #[.slice none 0 0, .slice none 0 0] 25) := dSnd' hq2) | skip) | (go_at_call 31; refine (HZ _ _ _ ?d0 ?d1).mono ?_; (case d0 => first | exact HI | exact HI.drew | exact HI.alloc' _ | exact (HI.alloc' _).drew); (case d1 => first | exact hr2 | exact hr2.drew | exact hr2.alloc hr2.size _ | exact (hr2.alloc hr2.size _).drew); rintro x w3 ⟨A5, c5, B5, e5, rfl, HS3, HV3, hb3, hr3⟩; have y2 := (hr3.cell (p := ⟨w.heap.size, 0, none⟩) hlt1).trans k0; have y3 := (hr3.cell (p := ⟨w.heap.size, 1, none⟩) hlt1).trans k1; first | (have TD3 := dKeep hb3 TD; obtain ⟨z0, z1, z2, z3⟩ := dCells TD3) | (have TD3 := dKeep' hb3 TD; obtain ⟨z0, z1, z2, z3⟩ := dCells TD3) | (have TD3 := dNew' hb3; obtain ⟨z0, z1, z2, z3⟩ := dCells TD3) | (have TD3 := dNew hb3; obtain ⟨z0, z1, z2, z3⟩ := dCells TD3) | skip))
    all_goals go_wp2_with fail
    all_goals go_meet
    all_goals first | exact ⟨_, _, _, _, _, rfl, rfl, sum_cut_new hr3 hs2 HS3 HV3⟩ | (refine ⟨_, _, _, _, _, rfl, rfl, sum_cut_old hr3 ?_ HS3 HV3 ?_ ?_ TD3⟩ <;> (try rw [World.size_alloc]) <;> omega)
  case rest =>
    obtain ⟨g, A5, B5, c5, e5, rfl, rfl, hcut⟩ := hcut
    obtain ⟨hg, hgh, HS, HV, hbc⟩ := hcut
    have hsz1 : w.heap.size + 1 + 1 ≤ w1.heap.size := by have := hb1.size; simp only [World.size_alloc] at this; exact this
    have hb3 := hb2.trans (hbc.mono hb2.size)
    have hq := hb1.trans (hbc.mono hb1.size)
    simp only [World.size_alloc] at hq
    have q0 := (hq.block w.heap.size (by omega)).trans (zf_two w _ _)
    have q1 := (hq.block (w.heap.size + 1) (by omega)).trans (zf_snd w _ _)
    clear k0 k1 k2 k3
    obtain ⟨k0, k1, _, _⟩ := dCells q0
    obtain ⟨k2, k3, f2, f3⟩ := dCells q1
    by_cases hE : E = 0
    · subst hE
      have hz : zS (xs.eraseIdx k) = xs.eraseIdx k := by unfold zS; rw [if_pos HE.out]
      have hz2 : zV (xs.eraseIdx k) = List.replicate (laidF (xs.eraseIdx k)).1.toNat 0 := by unfold zV; rw [if_pos HE.out]
      rw [hz] at hgh HS
      rw [hz2] at hgh HV
      rw [List.length_replicate] at hgh
      have hS1 : xs.eraseIdx k = S0 := by rw [← HS0.out, if_pos rfl]
      have hV1 : sumV xs k ys = V0 := by rw [← HV0.out, if_pos rfl]
      have HV1 := Lib.hid hV1
      obtain ⟨M, hM⟩ : ∃ M, (laidF (xs.eraseIdx k)).1.toNat = M := ⟨_, rfl⟩
      rw [hM] at hgh HV
      rw [hS1] at hgh HS
      have HV2 : OwnI wc w1.heap.size 2 B5 e5 (scat (idx (behind xs k) (sizeAt xs k)) M (ys.take 0)) := by rw [List.take_zero, scat_nil]; exact HV
      have HM := Lib.hid hM
      have HS1 := Lib.hid hS1
      have HT := fun W (hb : Below w.heap.size w W) => stepOf_any (some ⟨b, off, none⟩) n c k xs W ((h.below hb).more hb.size) (by omega) hk
      obtain ⟨P, hP⟩ : ∃ P, backs xs (n - 1 - k) = P := ⟨_, rfl⟩
      rw [hP] at HT
      have HP := Lib.hid hP
      obtain ⟨Sp, hSp⟩ : ∃ s, wrap64 (P * x) = s := ⟨_, rfl⟩
      have HSp := Lib.hid hSp
      have hkn : k < n := hk
      clear hz hz2 HS0 HV0 HV hM hS1 hP hV1
      go_wp2_with (go_at_call 69; refine (HT _ hb3).mono ?_; rintro y w4 ⟨rfl, hb4⟩; have hcx4 := ((hb3.trans (hb4.mono hb3.size)).cell (p := ⟨b, off + k, none⟩) hbb).trans hcx; have q2 := dKeep hb4 q0; have q3 := dKeep hb4 q1; clear k0 k1 k2 k3 f2 f3; obtain ⟨k0, k1, _, _⟩ := dCells q2; obtain ⟨k2, k3, f2, f3⟩ := dCells q3)
      simp only [hSp]
      have hb5 := hbc.trans (hb4.mono hbc.size)
      have HV4 := HV2.below hb4 (Nat.le_refl _)
      have HS4 := HS.below hb4 (Nat.le_refl _)
      have hg4 := dKeep hb4 hgh
      clear hSp k0 k1 k2 k3 f2 f3 q0 q1 q2 q3 HV2 HS hgh hcx4
      go_loopw [62] (fun i wr => ∃ q : Nat, q ≤ m ∧ i = .int .i64 q ∧ OwnI wr w1.heap.size 2 B5 e5 (scat (idx (behind xs k) (sizeAt xs k)) M (ys.take q)) ∧ OwnI wr w1.heap.size 3 A5 c5 S0 ∧ wr.heap[g]? = some (.cells #[.slice A5 S0.length c5, .slice B5 M e5] 25 (0, 0)) ∧ Below w1.heap.size w1 wr) (fun i _ => m - (intOf i).toNat)
      case atStart => exact ⟨0, Nat.zero_le _, rfl, HV4, HS4, hg4, hb5⟩
      case round =>
        obtain ⟨q, hq0, rfl, HVr, HSr, hgr, hbr⟩ := hrel
        have hb6 := hb2.trans (hbr.mono hb2.size)
        have hqr := hb1.trans (hbr.mono hb1.size)
        simp only [World.size_alloc] at hqr
        have q0 := (hqr.block w.heap.size (by omega)).trans (zf_two w _ _)
        have q1 := (hqr.block (w.heap.size + 1) (by omega)).trans (zf_snd w _ _)
        obtain ⟨k0, k1, _, _⟩ := dCells q0
        obtain ⟨k2, k3, f2, f3⟩ := dCells q1
        obtain ⟨z0, z1, _, _⟩ := dCells hgr
        by_cases hlt : q < m
        · obtain ⟨b2, off2, v, rfl, hbv, HY, hcv, hv1, hv2⟩ := (hv.below hb6).at_ hlt
          obtain ⟨hp1, hM1, hprod, hm65⟩ := sum_pos HCK.out (by omega) HL.out hk
          rw [HM.out] at hM1
          have hP1 := behind_eq hp1 k
          have hs1 := sizeAt_eq hp1 (k := k) (by rw [HL.out]; exact hk)
          have hPP : P = (behind xs k : Nat) := by rw [← HP.out, backs_eq hp1 (by omega) _ (by rw [HL.out]; omega), HL.out, show n - (n - 1 - k) = k + 1 by omega, hP1]
          have hxx : x = (sizeAt xs k : Nat) := by have := HX.out; rw [hs1] at this; injection this with this; exact this.symm
          have hj := idx_fits hp1 (k := k) (n := q) (by rw [HL.out]; exact hk) (by omega)
          rw [← hM1] at hj
          have hps : prodI (xs.drop k) = ((sizeAt xs k * behind xs k : Nat) : Int) := by rw [prodI_drop hs1, hP1, Int.natCast_mul]
          have hle := prodI_drop_le hp1 k
          have hge := prodI_pos (xs := xs.drop k) (fun x hx => hp1 x (List.mem_of_mem_drop hx))
          have hgb := prodI_pos (xs := xs.drop (k + 1)) (fun x hx => hp1 x (List.mem_of_mem_drop hx))
          rw [hps] at hle hge
          rw [hP1] at hgb
          have hSS : Sp = ((sizeAt xs k * behind xs k : Nat) : Int) := by rw [← HSp.out, hPP, hxx, ← Int.natCast_mul, Nat.mul_comm]; exact IntWalk.wrap64_in _ ⟨by omega, by omega⟩
          obtain ⟨x0, hx0⟩ : ∃ x0, (scat (idx (behind xs k) (sizeAt xs k)) M (ys.take q))[idx (behind xs k) (sizeAt xs k) q]? = some x0 := ⟨_, scat_at _ hj⟩
          have hstep := scat_step HY.out hx0
          have hlen : 0 < (scat (idx (behind xs k) (sizeAt xs k)) M (ys.take q)).length := by rw [scat_length]; omega
          obtain ⟨gv, rfl, hgv, _⟩ := HVr.some_ hlen
          have hne := HVr.ne hgr (by decide)
          obtain ⟨hcz, hfz⟩ := HVr.cell_ hx0
          have hset := HVr.set_ (idx (behind xs k) (sizeAt xs k) q) (wrap64 (x0 + v)) (wrap64_range _)
          rw [← hstep] at hset
          have hx0b := HVr.2 x0 (List.mem_of_getElem? hx0)
          have hB2 := hbr.setCell (p := ⟨gv, idx (behind xs k) (sizeAt xs k) q, none⟩) hgv (.int .i64 (wrap64 (x0 + v)))
          have HS2 := HSr.other_ HVr (by decide) (idx (behind xs k) (sizeAt xs k) q) (.int .i64 (wrap64 (x0 + v)))
          have hg2 := (Below.heap_setCell wr ⟨gv, idx (behind xs k) (sizeAt xs k) q, none⟩ (.int .i64 (wrap64 (x0 + v))) g (fun e => hne (by rw [e]))).trans hgr
          have hMle : M ≤ 65536 := by rw [← HM.out]; exact laidF_le _
          obtain ⟨d, f, r, he1, he2, he3, he4⟩ := idx_run q (behind xs k) (sizeAt xs k) P Sp hPP hSS (by omega) (by omega)
          have hP0 : ¬ P = 0 := by omega
          have hSp0 : ¬ Sp = 0 := by omega
          obtain ⟨j, hjj⟩ : ∃ j, idx (behind xs k) (sizeAt xs k) q = j := ⟨_, rfl⟩
          obtain ⟨y, hyy⟩ : ∃ y, wrap64 (x0 + v) = y := ⟨_, rfl⟩
          have he5 : IntKind.i64.wrap (x0 + v) = y := by rw [wrap_eq, hyy]
          rw [hjj] at hj hcz hfz hset hB2 HS2 hg2 he4
          rw [hyy] at hset hB2 HS2 hg2
          have hj0 : (0 : Int) ≤ (j : Int) := by omega
          have hjM : (j : Int) < (M : Int) := by omega
          have hq1 : (0 : Int) ≤ q := by omega
          have hq2 : (q : Int) < m := by omega
          have HN := Lib.hid hkn
          clear hyy hjj hSS hPP hps hP1 hs1 hxx hp1 hM1 hprod hstep hx0 hlen HVr HSr hgr hne hgv hqr q0 q1 hx0b s1 s2 wk T1 T2 hle hge hgb hMle
          go_wp2_with fail
          refine wp_region_still_tail 16 hmx (by kernel_rfl) ?_
          simp only [List.take_succ_cons, List.take_zero, List.drop_succ_cons, List.drop_zero]
          repeat still_step
          refine wpStill_nil ?_
          change wpList _ _ _ _ _ wr.drew
          go_wp2_with fail
          go_roundw
          case rel => exact ⟨q + 1, by omega, by go_num, hset, HS2, hg2, hB2.drew⟩
          case measure => simp [intOf]; omega
        · obtain rfl : q = m := by omega
          clear s1 s2 wk T1 T2
          go_wp2_with fail
          obtain ⟨e0, e1⟩ := zcells (a := .slice A5 S0.length c5) (b := .slice B5 M e5) k2 k3
          rw [List.take_of_length_le (by rw [HL2.out]; omega)] at HVr
          have hV3 : scat (idx (behind xs k) (sizeAt xs k)) M ys = V0 := by rw [← HV1.out, ← HM.out]; rfl
          have hV4 : V0.length = M := by rw [← HV1.out, sumV_length, HM.out]
          rw [hV3] at HVr
          subst hV4
          refine bodyPost_ret (v := .tuple #[.agg #[.slice A5 S0.length c5, .slice B5 V0.length e5], .int .i64 0]) (by simp [results, Try.results24, go_sem, e0, e1]) rfl ⟨A5, c5, B5, e5, rfl, ?_, ?_, ?_⟩
          · exact ((HSr.far (by omega) _ _).far (by omega) _ _).mono hb2.size
          · exact ((HVr.far (by omega) _ _).far (by omega) _ _).mono hb2.size
          · exact (hb6.setCell (p := ⟨w.heap.size + 1, 0, none⟩) (by show _ ≤ w.heap.size + 1; omega) _).setCell (p := ⟨w.heap.size + 1, 1, none⟩) (by show _ ≤ w.heap.size + 1; omega) _
    · have hS1 : S0 = [] := by rw [← HS0.out, if_neg hE]
      have hV1 : V0 = [] := by rw [← HV0.out, if_neg hE]
      subst hS1
      subst hV1
      have he1 : (E == 0) = false := by simpa using hE
      have he2 : (E != 0) = true := by simpa using hE
      clear hE
      go_wp2_with fail
      obtain ⟨e0, e1⟩ := zcells (a := .slice none 0 0) (b := .slice none 0 0) k2 k3
      refine bodyPost_ret (v := .tuple #[.agg #[.slice none 0 0, .slice none 0 0], .int .i64 E]) (by simp [results, Try.results24, go_sem, e0, e1]) rfl ⟨none, 0, none, 0, rfl, OwnI.nil_ _ _ _, OwnI.nil_ _ _ _, (hb3.setCell (p := ⟨w.heap.size + 1, 0, none⟩) (by show _ ≤ w.heap.size + 1; omega) _).setCell (p := ⟨w.heap.size + 1, 1, none⟩) (by show _ ≤ w.heap.size + 1; omega) _⟩
end Go.Proofs.Ytbicdbheclldcaa
