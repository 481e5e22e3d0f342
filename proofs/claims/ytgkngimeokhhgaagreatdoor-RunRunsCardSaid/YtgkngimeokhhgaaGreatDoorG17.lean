/- The document's Parse of code: what has been read of the lines so far; where the variables lie. -/
import Derived.Test.YtgkngimeokhhgaaGreatDoorG16
import Derived.Test.YtgkngimeokhhgaaGreatDoorG15
import Derived.WalkLawsBesides
import Derived.Test.YtgkngimeokhhgaaGreatDoorG2
import Derived.Test.YtgkngimeokhhgaaGreatDoorG4
import Derived.IntWalk
import Derived.Deep.CutBlock
import Derived.Deep.DeepCutAuto
import Derived.Deep.LoopGhost
import Derived.Test.YtgkngimeokhhgaaGreatDoorG10
import Derived.Test.YtgkngimeokhhgaaGreatDoorG11
import Derived.Test.YtgkngimeokhhgaaGreatDoorG13
namespace Go.Proofs.YtgkngimeokhhgaaGreatDoor
open Go.RowKit

theorem linesL_mayAll {l : List Tk} (hm : ∀ t ∈ l, mayT t) {r : List Tk} (h : r ∈ linesL l) : ∀ t ∈ r, mayT t := by
  unfold linesL at h
  split at h
  · cases h
  · exact linesK_may l [] hm (fun t ht => by cases ht) r h
theorem linesL_few (l : List Tk) : (linesL l).length ≤ l.length + 1 := by
  have go : ∀ (l cur : List Tk) (D : List (List Tk)), (linesK D cur l).length ≤ D.length + l.length + 1 := by
    intro l
    induction l with
    | nil => intro cur D; simp [linesK]
    | cons t l ih =>
      intro cur D
      rw [linesK]
      split
      · refine Nat.le_trans (ih _ _) ?_
        simp only [List.length_append, List.length_cons, List.length_nil]; omega
      · refine Nat.le_trans (ih _ _) ?_
        simp only [List.length_cons]; omega
  unfold linesL
  split
  · simp
  · simpa using go l [] []
/-- the lines so far: xs is what they are, rs are still to be read, from line i on -/
def GoR (R : List (List Tk)) (i : Nat) (rs : List (List Tk)) (xs : List Ji) : Prop := rowsF 1 R = match rowsF i rs with
  | .error j => .error j
  | .ok l => .ok (xs ++ l)
theorem GoR.start (R : List (List Tk)) : GoR R 1 R [] := by
  unfold GoR
  cases rowsF 1 R <;> rfl
theorem GoR.step {R rs : List (List Tk)} {r : List Tk} {i : Nat} {xs : List Ji} {x : Ji} (h : GoR R i (r :: rs) xs) (hx : insF r = some x) : GoR R (i + 1) rs (xs ++ [x]) := by
  unfold GoR at *
  rw [h, rowsF, hx]
  cases rowsF (i + 1) rs with
  | error j => rfl
  | ok l => simp
theorem GoR.bad {R rs : List (List Tk)} {r : List Tk} {i : Nat} {xs : List Ji} (h : GoR R i (r :: rs) xs) (hx : insF r = none) : rowsF 1 R = .error i := by
  unfold GoR at h
  rw [h, rowsF, hx]
theorem GoR.done {R : List (List Tk)} {i : Nat} {xs : List Ji} (h : GoR R i [] xs) : rowsF 1 R = .ok xs := by
  unfold GoR at h
  rw [h, rowsF]
  simp
theorem parse_cut {l : List UInt8} (h : (cutF l).2.2 ≠ 0) : parseF l = (noCd, (cutF l).2.1, (cutF l).2.2) := by unfold parseF; rw [if_pos h]
theorem parse_lines {l : List UInt8} (h : (cutF l).2.2 = 0) : parseF l = parseR (linesL (cutF l).1) := by unfold parseF; rw [if_neg (by rw [h]; simp)]
theorem parse_head {h : List Tk} {rs : List (List Tk)} (hh : headOK h = false) : parseR (h :: rs) = (noCd, 0, 6) := by unfold parseR; dsimp only; rw [hh]; rfl
theorem parse_bad {h : List Tk} {rs : List (List Tk)} {i : Nat} (hh : headOK h = true) (hr : rowsF 1 rs = .error i) : parseR (h :: rs) = (noCd, (i : Int), 6) := by unfold parseR; dsimp only; rw [hh, hr]; rfl
theorem parse_no {h : List Tk} {rs : List (List Tk)} {xs : List Ji} (hh : headOK h = true) (hr : rowsF 1 rs = .ok xs) (hm : Cd.may ⟨(h.getD 1 zTk).n, (h.getD 2 zTk).n, (h.getD 3 zTk).n, xs⟩ = false) : parseR (h :: rs) = (noCd, 0, 1) := by unfold parseR; dsimp only; rw [hh, hr]; dsimp only; rw [hm]; rfl
theorem parse_yes {h : List Tk} {rs : List (List Tk)} {xs : List Ji} (hh : headOK h = true) (hr : rowsF 1 rs = .ok xs) (hm : Cd.may ⟨(h.getD 1 zTk).n, (h.getD 2 zTk).n, (h.getD 3 zTk).n, xs⟩ = true) : parseR (h :: rs) = (⟨(h.getD 1 zTk).n, (h.getD 2 zTk).n, (h.getD 3 zTk).n, xs⟩, ((rs.length + 1 : Nat) : Int), 0) := by unfold parseR; dsimp only; rw [hh, hr]; dsimp only; rw [hm]; rfl
abbrev zeroC : Obj := .cells #[.int .i64 0, .int .i64 0, .int .i64 0, .slice none 0 0] 24
/-- where the variables of Parse lie -/
structure PaI (w w2 : World) (R A I : Int) (g : Nat) (wr : World) (A' : Option Addr) (c' : Nat) (L : List Ji) : Prop where
  bel : Below w.heap.size w wr
  bel2 : Below w2.heap.size w2 wr
  lt : w.heap.size < w2.heap.size
  rv : wr.heap[w.heap.size]? = some zeroC
  gn : w2.heap.size ≤ g
  box : wr.heap[g]? = some (.cells #[.int .i64 R, .int .i64 A, .int .i64 I, .slice A' L.length c'] 24 (0, 0))
  own : OwnJ wr w2.heap.size A' c' L
section
variable {w w2 wr w' : World} {R A I : Int} {g c' c2 : Nat} {A' A2 : Option Addr} {L : List Ji} {y : Ji}
theorem PaI.below (h : PaI w w2 R A I g wr A' c' L) (hb : Below wr.heap.size wr w') : PaI w w2 R A I g w' A' c' L :=
  ⟨h.bel.trans (hb.mono h.bel.size), h.bel2.trans (hb.mono h.bel2.size), h.lt, keep_b hb h.rv, h.gn, keep_b hb h.box, h.own.below hb (Nat.le_refl _)⟩
theorem PaI.add (h : PaI w w2 R A I g wr A' c' L) (hO : OwnJ w' w2.heap.size A2 c2 (L ++ [y])) (hG : wr.grownBy w' (Value.slice A' L.length c').ownBlock) : PaI w w2 R A I g (w'.setCell ⟨g, 3, none⟩ (.slice A2 (L.length + 1) c2)) A2 c2 (L ++ [y]) := by
  have h2 := box_keptJ h.rv (by decide) hG h.own
  have h3 := box_keptJ h.box (by decide) hG h.own
  have hs := set_j (i := 3) (cs := [.int .i64 R, .int .i64 A, .int .i64 I, .slice A' L.length c']) h3 (.slice A2 (L.length + 1) c2)
  have hn := h.gn
  have hl := h.lt
  refine ⟨(below_appJ h.bel hG (h.own.mono (by omega)) h.bel.size).setCell (p := ⟨g, 3, none⟩) (by show w.heap.size ≤ g; omega) _, (below_appJ h.bel2 hG h.own h.bel2.size).setCell (p := ⟨g, 3, none⟩) hn _, hl, (Below.heap_setCell _ ⟨g, 3, none⟩ _ _ (by show w.heap.size ≠ g; omega)).trans h2, hn, ?_, hO.set_other h3 (by decide) _ _⟩
  rw [List.length_append]
  exact hs
end
/-- the result's four cells, stored -/
def putC (w : World) (g : Nat) (R A I : Int) (v : Value) : World := (((w.setCell ⟨g, 0, none⟩ (.int .i64 R)).setCell ⟨g, 1, none⟩ (.int .i64 A)).setCell ⟨g, 2, none⟩ (.int .i64 I)).setCell ⟨g, 3, none⟩ v
theorem putC_cells {w : World} {g : Nat} (h : w.heap[g]? = some zeroC) (R A I : Int) (v : Value) : (putC w g R A I v).cell? ⟨g, 0, none⟩ = some (.int .i64 R) ∧ (putC w g R A I v).cell? ⟨g, 1, none⟩ = some (.int .i64 A) ∧ (putC w g R A I v).cell? ⟨g, 2, none⟩ = some (.int .i64 I) ∧ (putC w g R A I v).cell? ⟨g, 3, none⟩ = some v := by
  obtain ⟨h0, h1, h2, h3, _⟩ := lvCells (four_cells h (.int .i64 R) (.int .i64 A) (.int .i64 I) v)
  exact ⟨h0, h1, h2, h3⟩
theorem putC_below {w0 w : World} {g : Nat} (h : Below g w0 w) (R A I : Int) (v : Value) : Below g w0 (putC w g R A I v) :=
  (((h.setCell (p := ⟨g, 0, none⟩) (Nat.le_refl g) _).setCell (p := ⟨g, 1, none⟩) (Nat.le_refl g) _).setCell (p := ⟨g, 2, none⟩) (Nat.le_refl g) _).setCell (p := ⟨g, 3, none⟩) (Nat.le_refl g) _
theorem putC_own {w : World} {base g c' : Nat} {A' : Option Addr} {L : List Ji} (h : OwnJ w base A' c' L) (hg : w.heap[g]? = some zeroC) (R A I : Int) (v : Value) : OwnJ (putC w g R A I v) base A' c' L :=
  World.ownsRow.kept h (grownBy_setE (grownBy_setE (grownBy_setE (grownBy_setE (grown_same w _) _ _) _ _) _ _) _ _) (rows_ne h hg (by decide))
theorem RowsK.lenCap {w : World} {base ch n : Nat} {H : Option Addr} {rs : List RowK} (h : RowsK w base H ch rs) (hn : rs.length = n) : n ≤ ch := by
  subst hn
  rcases h.rows.2 with ⟨h1, h2⟩ | ⟨g, cap, cur, h1, _, _, h5, _⟩
  · omega
  · injection h1 with _ _ h1; omega
/-- nothing was read -/
theorem parse_none {s : ByteArray} {w W : World} {N E : Int} (hb : Below w.heap.size w W) (h : parseF (bl s) = (noCd, N, E)) : ParseP s w (.returned (.tuple #[.agg #[.int .i64 0, .int .i64 0, .int .i64 0, .slice none 0 0], .int .i64 N, .int .i64 E])) (putC W w.heap.size 0 0 0 (.slice none 0 0)) := by
  unfold ParseP
  rw [h]
  exact ⟨none, 0, rfl, OwnJ.nil_ _ _, putC_below hb _ _ _ _⟩
end Go.Proofs.YtgkngimeokhhgaaGreatDoor
/- What the document's Trim has at hand: where its variables lie; the instructions that stay, one by one. -/
namespace Go.Proofs.YtgkngimeokhhgaaGreatDoor
open Go.RowKit

theorem run_makeIn {P : Program} (t e : TypeId) (i : TypeInfo) (ht : P.underlying t = some (.slice e)) (hi : P.info? e = some i) (hz : i.zero = some (.int .i64 0)) (h1 : i.size = 1) (h2 : i.bytes = 8) (n : Nat) (hn : n ≤ 100000) (w : World) :
    (Instr.makeSlice t (.int .i64 (n : Int)) (.int .i64 (n : Int))).run P w = .ok (.slice (some ⟨w.heap.size, 0, none⟩) n n) (w.alloc (.cells (Array.replicate n (Value.int .i64 0)) e)) := by
  have hr := run_make (P := P) w t e i (.int .i64 0) ht hi hz .i64 .i64 n n (by omega) (by omega) (by rw [h2]; omega) (by omega)
  simp only [Int.toNat_natCast, h1, Nat.mul_one] at hr
  have he : (madeCells #[.int .i64 0] n) = Array.replicate n (Value.int .i64 0) := by
    apply Array.ext'
    rw [toList_madeCells_one]
    simp
  have hr2 : (Instr.makeSlice t (.int .i64 (n : Int)) (.int .i64 (n : Int))).run P w = .ok (.slice (some ⟨w.heap.size, 0, none⟩) n n) (w.alloc (.cells (madeCells #[.int .i64 0] n) e)) := hr
  rw [he] at hr2
  exact hr2
/-- a block is a list of numbers -/
def InB_ (w : World) (g : Nat) (xs : List Int) : Prop := w.heap[g]? = some (.cells (xs.map (Value.int .i64)).toArray 3 (0, 0))
theorem InB_.at_ {w : World} {g i : Nat} {xs : List Int} {v : Int} (h : InB_ w g xs) (hv : xs[i]? = some v) : w.cell? ⟨g, i, none⟩ = some (.int .i64 v) ∧ w.frozen? ⟨g, i, none⟩ = false :=
  blk_cell h (by rw [List.getElem?_map, hv]; rfl)
theorem InB_.set {w : World} {g : Nat} {xs : List Int} (h : InB_ w g xs) (i : Nat) (v : Int) : InB_ (w.setCell ⟨g, i, none⟩ (.int .i64 v)) g (xs.set i v) := by
  unfold InB_
  rw [List.map_set]
  exact set_j h _
theorem InB_.made (w : World) (n : Nat) : InB_ (w.alloc (.cells (Array.replicate n (Value.int .i64 0)) 3)) w.heap.size (List.replicate n 0) := by
  unfold InB_
  rw [heap_alloc_new]
  simp
/-- where the variables of Trim lie -/
structure TrI (w w1 : World) (q : Cq) (ga g9 : Nat) (vals : List Int) (W : World) (A' : Option Addr) (c' : Nat) (L : List Ji) : Prop where
  bel : Below w.heap.size w W
  bel1 : Below w1.heap.size w1 W
  bx : W.heap[w.heap.size]? = some q.obj
  rv : W.heap[w.heap.size + 1]? = some zeroC
  lt : w.heap.size + 1 < w1.heap.size
  ga1 : w1.heap.size ≤ ga
  g91 : ga < g9
  ab : InB_ W ga vals
  box : W.heap[g9]? = some (.cells #[.int .i64 q.R, .int .i64 q.A, .int .i64 q.I, .slice A' L.length c'] 24 (0, 0))
  own : OwnJ W w1.heap.size A' c' L
section
variable {w w1 W w' : World} {q : Cq} {ga g9 c' c2 : Nat} {vals : List Int} {A' A2 : Option Addr} {L : List Ji} {y : Ji}
theorem TrI.on (h : TrI w w1 q ga g9 vals W A' c' L) (hb : Below W.heap.size W w') : TrI w w1 q ga g9 vals w' A' c' L :=
  ⟨h.bel.trans (hb.mono h.bel.size), h.bel1.trans (hb.mono h.bel1.size), keep_b hb h.bx, keep_b hb h.rv, h.lt, h.ga1, h.g91, keep_b hb h.ab, keep_b hb h.box, h.own.below hb (Nat.le_refl _)⟩
theorem TrI.add (h : TrI w w1 q ga g9 vals W A' c' L) (hO : OwnJ w' w1.heap.size A2 c2 (L ++ [y])) (hG : W.grownBy w' (Value.slice A' L.length c').ownBlock) : TrI w w1 q ga g9 vals (w'.setCell ⟨g9, 3, none⟩ (.slice A2 (L.length + 1) c2)) A2 c2 (L ++ [y]) := by
  have h1 := box_keptJ h.bx (by decide) hG h.own
  have h2 := box_keptJ h.rv (by decide) hG h.own
  have h3 := box_keptJ h.box (by decide) hG h.own
  have h4 : w'.heap[ga]? = _ := box_keptJ h.ab (by decide) hG h.own
  have hs := set_j (i := 3) (cs := [.int .i64 q.R, .int .i64 q.A, .int .i64 q.I, .slice A' L.length c']) h3 (.slice A2 (L.length + 1) c2)
  have hl := h.lt
  have hg := h.ga1
  have hg2 := h.g91
  refine ⟨(below_appJ h.bel hG (h.own.mono (by omega)) h.bel.size).setCell (p := ⟨g9, 3, none⟩) (by show w.heap.size ≤ g9; omega) _, (below_appJ h.bel1 hG h.own h.bel1.size).setCell (p := ⟨g9, 3, none⟩) (by show w1.heap.size ≤ g9; omega) _, (Below.heap_setCell _ ⟨g9, 3, none⟩ _ _ (by show w.heap.size ≠ g9; omega)).trans h1, (Below.heap_setCell _ ⟨g9, 3, none⟩ _ _ (by show w.heap.size + 1 ≠ g9; omega)).trans h2, hl, hg, hg2, (Below.heap_setCell _ ⟨g9, 3, none⟩ _ _ (by show ga ≠ g9; omega)).trans h4, ?_, hO.set_other h3 (by decide) _ _⟩
  rw [List.length_append]
  exact hs
/-- a write into a box of the call's own, behind all of these -/
theorem TrI.put (h : TrI w w1 q ga g9 vals W A' c' L) {gx i : Nat} {v : Value} (hgx : g9 < gx) (hne : ∀ b, A' = some ⟨b, 0, none⟩ → b ≠ gx) : TrI w w1 q ga g9 vals (W.setCell ⟨gx, i, none⟩ v) A' c' L := by
  have hl := h.lt
  have hg := h.ga1
  have hg2 := h.g91
  exact ⟨h.bel.setCell (p := ⟨gx, i, none⟩) (by show w.heap.size ≤ gx; omega) _, h.bel1.setCell (p := ⟨gx, i, none⟩) (by show w1.heap.size ≤ gx; omega) _, (Below.heap_setCell _ ⟨gx, i, none⟩ _ _ (by show w.heap.size ≠ gx; omega)).trans h.bx, (Below.heap_setCell _ ⟨gx, i, none⟩ _ _ (by show w.heap.size + 1 ≠ gx; omega)).trans h.rv, hl, hg, hg2, (Below.heap_setCell _ ⟨gx, i, none⟩ _ _ (by show ga ≠ gx; omega)).trans h.ab, (Below.heap_setCell _ ⟨gx, i, none⟩ _ _ (by show g9 ≠ gx; omega)).trans h.box, h.own.set_off hne _ _⟩
end
end Go.Proofs.YtgkngimeokhhgaaGreatDoor
/- What lies in memory while a machine is laid: its registers, its block, and what its instructions do. -/
namespace Go.Proofs.YtgkngimeokhhgaaGreatDoor
open Go.RowKit Go.Sort

/-- registers, and a block that is built of them, come up in some order -/
structure BgJ (W : World) (r : Nat) (F : Nat → Value) (G : Value → Array Value) (D : Nat → Bool) (vs : Nat → Value) (w' : World) : Prop where
  bel : Below W.heap.size W w'
  vals : ∀ i, i < 7 → i ≠ 3 → D i = true → vs i = F i
  m3 : D 3 = true → ∃ g, vs 3 = .slice (some ⟨g, 0, none⟩) r r ∧ W.heap.size ≤ g ∧ w'.heap[g]? = some (.cells (Array.replicate r (Value.int .i64 0)) 2 (0, 0))
  v7 : D 7 = true → D 3 = true ∧ vs 7 = .agg (G (vs 3))
  b8 : D 8 = true → D 7 = true ∧ ∃ g, vs 8 = .pointer (some ⟨g, 0, none⟩) ∧ W.heap.size ≤ g ∧ w'.heap[g]? = some (.cells (G (vs 3)) 52 (0, 0))
  v9 : D 9 = true → D 8 = true ∧ vs 9 = vs 8
section
variable {W w' : World} {r : Nat} {F : Nat → Value} {G : Value → Array Value} {D D' : Nat → Bool} {vs : Nat → Value}
theorem BgJ.other (h : BgJ W r F G D vs w') {i : Nat} (hi : i < 7 ∧ i ≠ 3) (hD : ∀ j, j ≠ i → D' j = D j) : BgJ W r F G D' (fun j => if j = i then F i else vs j) w' := by
  obtain ⟨i7, i3⟩ := hi
  have n3 : (3 : Nat) ≠ i := fun e => i3 e.symm
  have n7 : (7 : Nat) ≠ i := by omega
  have n8 : (8 : Nat) ≠ i := by omega
  have n9 : (9 : Nat) ≠ i := by omega
  refine ⟨h.bel, fun j hj j3 hd => ?_, ?_, ?_, ?_, ?_⟩
  · by_cases e : j = i
    · subst e; exact if_pos rfl
    · show (if j = i then F i else vs j) = _
      rw [if_neg e]
      exact h.vals j hj j3 (by rw [← hD j e]; exact hd)
  · rw [hD 3 n3, if_neg n3]; exact h.m3
  · rw [hD 7 n7, hD 3 n3, if_neg n7, if_neg n3]; exact h.v7
  · rw [hD 8 n8, hD 7 n7, if_neg n8, if_neg n3]; exact h.b8
  · rw [hD 9 n9, hD 8 n8, if_neg n9, if_neg n8]; exact h.v9
theorem BgJ.off (h : BgJ W r F G D vs w') (h3 : D 3 = false) : D 7 = false ∧ D 8 = false ∧ D 9 = false := by
  have e7 : D 7 = false := by
    cases e : D 7 with
    | false => rfl
    | true => rw [(h.v7 e).1] at h3; cases h3
  have e8 : D 8 = false := by
    cases e : D 8 with
    | false => rfl
    | true => rw [(h.b8 e).1] at e7; cases e7
  refine ⟨e7, e8, ?_⟩
  cases e : D 9 with
  | false => rfl
  | true => rw [(h.v9 e).1] at e8; cases e8
theorem BgJ.made (h : BgJ W r F G D vs w') (h3 : D 3 = false) (hD : ∀ j, j ≠ 3 → D' j = D j) : BgJ W r F G D' (fun j => if j = 3 then .slice (some ⟨w'.heap.size, 0, none⟩) r r else vs j) (w'.alloc (.cells (Array.replicate r (Value.int .i64 0)) 2)) := by
  obtain ⟨e7, e8, e9⟩ := h.off h3
  have hb := lvBelow w' (.cells (Array.replicate r (Value.int .i64 0)) 2)
  refine ⟨h.bel.trans (hb.mono h.bel.size), fun j hj j3 hd => ?_, fun _ => ⟨_, if_pos rfl, h.bel.size, heap_alloc_new w' _⟩, fun hd => ?_, fun hd => ?_, fun hd => ?_⟩
  · show (if j = 3 then _ else vs j) = _
    rw [if_neg j3]
    exact h.vals j hj j3 (by rw [← hD j j3]; exact hd)
  · rw [hD 7 (by decide), e7] at hd; cases hd
  · rw [hD 8 (by decide), e8] at hd; cases hd
  · rw [hD 9 (by decide), e9] at hd; cases hd
theorem BgJ.built (h : BgJ W r F G D vs w') (h7 : D 7 = false) (h3 : D 3 = true) (hD : ∀ j, j ≠ 7 → D' j = D j) : BgJ W r F G D' (fun j => if j = 7 then .agg (G (vs 3)) else vs j) w' := by
  have e8 : D 8 = false := by
    cases e : D 8 with
    | false => rfl
    | true => rw [(h.b8 e).1] at h7; cases h7
  have e9 : D 9 = false := by
    cases e : D 9 with
    | false => rfl
    | true => rw [(h.v9 e).1] at e8; cases e8
  refine ⟨h.bel, fun j hj j3 hd => ?_, ?_, fun _ => ?_, fun hd => ?_, fun hd => ?_⟩
  · have e : j ≠ 7 := by omega
    show (if j = 7 then _ else vs j) = _
    rw [if_neg e]
    exact h.vals j hj j3 (by rw [← hD j e]; exact hd)
  · rw [hD 3 (by decide), if_neg (by decide)]; exact h.m3
  · rw [hD 3 (by decide), if_neg (show (3 : Nat) ≠ 7 by decide)]
    exact ⟨h3, if_pos rfl⟩
  · rw [hD 8 (by decide), e8] at hd; cases hd
  · rw [hD 9 (by decide), e9] at hd; cases hd
theorem BgJ.boxed (h : BgJ W r F G D vs w') (h8 : D 8 = false) (h7 : D 7 = true) (hD : ∀ j, j ≠ 8 → D' j = D j) : vs 7 = .agg (G (vs 3)) ∧ BgJ W r F G D' (fun j => if j = 8 then .pointer (some ⟨w'.heap.size, 0, none⟩) else vs j) (w'.alloc (.cells (G (vs 3)) 52)) := by
  have e9 : D 9 = false := by
    cases e : D 9 with
    | false => rfl
    | true => rw [(h.v9 e).1] at h8; cases h8
  have hb := lvBelow w' (.cells (G (vs 3)) 52)
  obtain ⟨h3, v7⟩ := h.v7 h7
  refine ⟨v7, ⟨h.bel.trans (hb.mono h.bel.size), fun j hj j3 hd => ?_, fun _ => ?_, fun _ => ?_, fun _ => ?_, fun hd => ?_⟩⟩
  · have e : j ≠ 8 := by omega
    show (if j = 8 then _ else vs j) = _
    rw [if_neg e]
    exact h.vals j hj j3 (by rw [← hD j e]; exact hd)
  · obtain ⟨g, a1, a2, a3⟩ := h.m3 h3
    exact ⟨g, by rw [if_neg (by decide)]; exact a1, a2, keep_b hb a3⟩
  · rw [hD 3 (by decide), if_neg (show (7 : Nat) ≠ 8 by decide), if_neg (show (3 : Nat) ≠ 8 by decide)]
    exact ⟨h3, v7⟩
  · rw [hD 7 (by decide), if_neg (show (3 : Nat) ≠ 8 by decide)]
    exact ⟨h7, _, if_pos rfl, h.bel.size, heap_alloc_new w' _⟩
  · rw [hD 9 (by decide), e9] at hd; cases hd
theorem BgJ.last (h : BgJ W r F G D vs w') (h8 : D 8 = true) (hD : ∀ j, j ≠ 9 → D' j = D j) : BgJ W r F G D' (fun j => if j = 9 then vs 8 else vs j) w' := by
  refine ⟨h.bel, fun j hj j3 hd => ?_, ?_, ?_, ?_, fun _ => ?_⟩
  · have e : j ≠ 9 := by omega
    show (if j = 9 then _ else vs j) = _
    rw [if_neg e]
    exact h.vals j hj j3 (by rw [← hD j e]; exact hd)
  · rw [hD 3 (by decide), if_neg (by decide)]; exact h.m3
  · rw [hD 7 (by decide), hD 3 (by decide), if_neg (show (7 : Nat) ≠ 9 by decide), if_neg (show (3 : Nat) ≠ 9 by decide)]; exact h.v7
  · rw [hD 8 (by decide), hD 7 (by decide), if_neg (show (8 : Nat) ≠ 9 by decide), if_neg (show (3 : Nat) ≠ 9 by decide)]; exact h.b8
  · rw [hD 8 (by decide)]
    exact ⟨h8, by rw [if_pos rfl, if_neg (by decide)]⟩
theorem BgJ.same (h : BgJ W r F G D vs w') (hD : ∀ i, i < 10 → D i = D' i) : BgJ W r F G D' vs w' := by
  have e3 := hD 3 (by decide); have e7 := hD 7 (by decide); have e8 := hD 8 (by decide); have e9 := hD 9 (by decide)
  refine ⟨h.bel, fun j hj j3 hd => h.vals j hj j3 (by rw [hD j (by omega)]; exact hd), ?_, ?_, ?_, ?_⟩
  · rw [← e3]; exact h.m3
  · rw [← e7, ← e3]; exact h.v7
  · rw [← e8, ← e7]; exact h.b8
  · rw [← e9, ← e8]; exact h.v9
end
/-- a slice of the call's own, of what instructions do -/
def OwnFn (w : World) (base g : Nat) (A : Option Addr) (c : Nat) (l : List Ji) : Prop := w.ownsRow base 71 1 (.slice A l.length c) l.length (l.map fun x => actV g x.op)
theorem OwnFn.nil_ (w : World) (base g : Nat) : OwnFn w base g none 0 [] := w.ownsRow_nil base _ 1
theorem OwnFn.below {w w' : World} {base B g c : Nat} {A : Option Addr} {l : List Ji} (h : OwnFn w base g A c l) (hb : Below B w w') (hB : w.heap.size ≤ B) : OwnFn w' base g A c l :=
  World.ownsRow.kept h ⟨hb.os, hb.tape, hb.output, hb.size, fun i hi _ => hb.block i (by omega)⟩ (row := none) (by cases hh : (Value.slice A l.length c).ownBlock with | none => exact .inl rfl | some k => exact .inr (by simp))
theorem OwnFn.heap {w : World} {base g c : Nat} {A : Option Addr} {l : List Ji} (h : OwnFn w base g A c l) : A = none ∨ ∃ b cur, A = some ⟨b, 0, none⟩ ∧ base ≤ b ∧ w.heap[b]? = some (.cells cur 71 (0, 0)) := by
  rcases h.2 with ⟨h1, _⟩ | ⟨b, cap, cur, h1, h2, h3, _⟩
  · injection h1 with h1; exact .inl h1
  · injection h1 with h1; exact .inr ⟨b, cur, h1, h2, h3⟩
theorem OwnFn.some_ {w : World} {base g c : Nat} {A : Option Addr} {l : List Ji} (h : OwnFn w base g A c l) (h0 : 0 < l.length) : ∃ b, A = some ⟨b, 0, none⟩ ∧ base ≤ b ∧ ∃ cur : Array Value, w.heap[b]? = some (.cells cur 71 (0, 0)) ∧ ∀ (k : Nat) (x : Ji), l[k]? = some x → cur[k]? = some (actV g x.op) := by
  rcases h.2 with ⟨_, h1⟩ | ⟨b, cap, cur, h1, h2, h3, h4, _, h6, h7⟩
  · omega
  · injection h1 with h1
    refine ⟨b, h1, h2, cur, h3, fun k x hx => ?_⟩
    have hk := (List.getElem?_eq_some_iff.1 hx).1
    have h8 : (l.map fun x => actV g x.op)[k]? = some (actV g x.op) := by rw [List.getElem?_map, hx]; rfl
    rw [← h7, List.getElem?_take_of_lt (by omega), Array.getElem?_toList] at h8
    exact h8
/-- a write into a block of another type -/
theorem OwnFn.other {w : World} {base g c b : Nat} {A : Option Addr} {l : List Ji} {cs : Array Value} {t : TypeId} (h : OwnFn w base g A c l) (hb : w.heap[b]? = some (.cells cs t (0, 0))) (ht : t ≠ 71) (i : Nat) (v : Value) : OwnFn (w.setCell ⟨b, i, none⟩ v) base g A c l := by
  have hG : w.grownBy (w.setCell ⟨b, i, none⟩ v) (some b) := ⟨rfl, rfl, rfl, by rw [World.size_setCell]; exact Nat.le_refl _, fun k _ hk => heap_setCell_other w _ k _ (fun e => hk (by rw [e]))⟩
  refine World.ownsRow.kept h hG ?_
  cases hh : (Value.slice A l.length c).ownBlock with
  | none => exact .inl rfl
  | some k =>
    refine .inr fun e => ?_
    injection e with e
    subst e
    rcases h.heap with h1 | ⟨b2, cur, h1, _, h3⟩
    · rw [h1] at hh; cases hh
    · rw [h1] at hh
      simp only [Value.ownBlock, Option.some.injEq] at hh
      subst hh
      rw [hb] at h3
      injection h3 with h3; injection h3 with _ h3
      exact ht h3
set_option maxRecDepth 100000 in
theorem infoFn : (Tryz.prog.info? 71).map (fun i => (i.zero, i.size, i.bytes)) = some (some .nilFunc, 1, 8) := by kernel_rfl
theorem run_appendFn (w : World) (base g gl : Nat) (ty : TypeId) (A : Option Addr) (c : Nat) (l : List Ji) (x : Ji) (ho : OwnFn w base g A c l) (hl : w.heap[gl]? = some (.cells #[actV g x.op] 71 (0, 0))) (hn : l.length ≤ 100000) (hb : base ≤ w.heap.size) :
    ∃ A' c' w', (Builtin.append_ #[50, 50] ty #[.slice A l.length c, .slice (some ⟨gl, 0, none⟩) 1 1]).run Tryz.prog w = .ok (.slice A' (l.length + 1) c') w' ∧ OwnFn w' base g A' c' (l ++ [x]) ∧ w.grownBy w' (Value.slice A l.length c).ownBlock := by
  obtain ⟨i, hi, hz, h1, h2⟩ := info_parts infoFn
  obtain ⟨v', w', hrun, h3, h4, _⟩ := run_append_own (P := Tryz.prog) w base 50 ty 71 i .nilFunc 1 8 Tryz.underlying50 hi hz h1 h2 rfl (by decide) (.slice A l.length c) l.length _ ho ⟨gl, 0, none⟩ 1 1 [actV g x.op] rfl (fun j u hu => by
    match j, hu with
    | 0, hu =>
      simp at hu; subst hu
      show w.cell? ⟨gl, 0, none⟩ = _
      rw [cell_of_row w gl 0 _ _ (0, 0) hl]; rfl
    | j + 1, hu => simp at hu) (fun u hu => by rw [List.mem_singleton] at hu; rw [hu]; rfl) (by unfold maxLen; omega) (by omega) hb
  obtain ⟨A', c', rfl⟩ := row_form h3
  refine ⟨A', c', w', hrun, ?_, h4⟩
  unfold OwnFn
  rw [List.length_append, List.map_append]
  exact h3
end Go.Proofs.YtgkngimeokhhgaaGreatDoor
/- One more of what instructions do, behind those that are there, in a region that draws its order. -/
namespace Go.Proofs.YtgkngimeokhhgaaGreatDoor
open Go.RowKit Go.Sort

/-- blocks stay, but those of such functions, and the machine's -/
structure KeepF (base gm : Nat) (w w' : World) : Prop where
  bel : Below base w w'
  blk : ∀ (b : Nat) (ob : Obj), w.heap[b]? = some ob → b ≠ gm → (∀ cs, ob ≠ .cells cs 71 (0, 0)) → w'.heap[b]? = some ob
section
variable {base gm : Nat} {w w' w'' : World}
theorem KeepF.refl (base gm : Nat) (w : World) : KeepF base gm w w := ⟨Below.refl _ _, fun _ _ h _ _ => h⟩
theorem KeepF.trans (h : KeepF base gm w w') (k : KeepF base gm w' w'') : KeepF base gm w w'' := ⟨h.bel.trans k.bel, fun b ob hb h1 h2 => k.blk b ob (h.blk b ob hb h1 h2) h1 h2⟩
theorem KeepF.of_below (hb : Below w.heap.size w w') (hB : base ≤ w.heap.size) : KeepF base gm w w' := ⟨hb.mono hB, fun _ _ h _ _ => keep_b hb h⟩
end
structure ApF (W : World) (base g k : Nat) (l : List Ji) (x : Ji) (OB : Option Addr → Nat → Obj) (OB0 : Obj) (F : Nat → Value) (D : Nat → Bool) (vs : Nat → Value) (w' : World) : Prop where
  keep : KeepF base g W w'
  vals : ∀ i, i < 13 → i ≠ 9 → i ≠ 10 → D i = true → vs i = F i
  lit : D 9 = true → ∃ gl, vs 9 = .slice (some ⟨gl, 0, none⟩) 1 1 ∧ W.heap.size ≤ gl ∧ (D 10 = false → w'.heap[gl]? = some (.cells #[actV g x.op] 71 (0, 0)))
  pre : D 10 = false → Below W.heap.size W w'
  app_ : D 10 = true → D 13 = false → ∃ A8 c8, vs 10 = .slice A8 (k + 1) c8 ∧ OwnFn w' base g A8 c8 (l ++ [x])
  o10 : D 10 = true → D 4 = true ∧ D 9 = true
  hg : D 13 = false → w'.heap[g]? = some OB0
  fin : D 13 = true → D 10 = true ∧ ∃ A8 c8, OwnFn w' base g A8 c8 (l ++ [x]) ∧ w'.heap[g]? = some (OB A8 c8)
section
variable {W w' w'' : World} {base g k : Nat} {l : List Ji} {x : Ji} {OB : Option Addr → Nat → Obj} {OB0 : Obj} {F : Nat → Value} {D D' : Nat → Bool} {vs : Nat → Value}
theorem ApF.not13 (h : ApF W base g k l x OB OB0 F D vs w') (hd : D 4 = false ∨ D 9 = false ∨ D 10 = false) : D 13 = false := by
  cases e : D 13 with
  | false => rfl
  | true =>
    have h10 := (h.fin e).1
    obtain ⟨h4, h9⟩ := h.o10 h10
    rcases hd with hd | hd | hd
    · rw [h4] at hd; cases hd
    · rw [h9] at hd; cases hd
    · rw [h10] at hd; cases hd
theorem ApF.not10 (h : ApF W base g k l x OB OB0 F D vs w') (hd : D 4 = false ∨ D 9 = false) : D 10 = false := by
  cases e : D 10 with
  | false => rfl
  | true =>
    obtain ⟨h4, h9⟩ := h.o10 e
    rcases hd with hd | hd
    · rw [h4] at hd; cases hd
    · rw [h9] at hd; cases hd
theorem ApF.other (h : ApF W base g k l x OB OB0 F D vs w') {o : Nat} (ho : o ≠ 9 ∧ o ≠ 10 ∧ o ≠ 13) (hD : ∀ q, q ≠ o → D' q = D q) (hDo : D' o = true) : ApF W base g k l x OB OB0 F D' (fun j => if j = o then F o else vs j) w' := by
  obtain ⟨h9, h10, h13⟩ := ho
  have up : ∀ q, D q = true → D' q = true := fun q hq => by
    by_cases e : q = o
    · rw [e]; exact hDo
    · rw [hD q e]; exact hq
  refine ⟨h.keep, fun q hq q9 q10 hd => ?_, ?_, ?_, ?_, ?_, ?_, ?_⟩
  · by_cases e : q = o
    · subst e; exact if_pos rfl
    · show (if q = o then F o else vs q) = _
      rw [if_neg e]
      exact h.vals q hq q9 q10 (by rw [← hD q e]; exact hd)
  · rw [hD 9 h9.symm, hD 10 h10.symm, if_neg h9.symm]; exact h.lit
  · rw [hD 10 h10.symm]; exact h.pre
  · rw [hD 10 h10.symm, hD 13 h13.symm, if_neg h10.symm]; exact h.app_
  · rw [hD 10 h10.symm]
    exact fun e => ⟨up 4 (h.o10 e).1, up 9 (h.o10 e).2⟩
  · rw [hD 13 h13.symm]; exact h.hg
  · rw [hD 13 h13.symm]
    exact fun e => ⟨up 10 (h.fin e).1, (h.fin e).2⟩
theorem ApF.lay (h : ApF W base g k l x OB OB0 F D vs w') (hDi : D 9 = false) (hD : ∀ q, q ≠ 9 → D' q = D q) (hB : base ≤ w'.heap.size) : ApF W base g k l x OB OB0 F D' (fun j => if j = 9 then .slice (some ⟨w'.heap.size, 0, none⟩) 1 1 else vs j) (w'.alloc (.cells #[actV g x.op] 71)) := by
  have hb : Below w'.heap.size w' (w'.alloc (.cells #[actV g x.op] 71)) := lvBelow _ _
  have d10 := h.not10 (.inr hDi)
  have d13 := h.not13 (.inr (.inl hDi))
  have hp := h.pre d10
  refine ⟨h.keep.trans (KeepF.of_below hb hB), fun q hq q9 q10 hd => ?_, fun _ => ⟨_, if_pos rfl, hp.size, fun _ => heap_alloc_new w' _⟩, fun _ => hp.trans (hb.mono hp.size), fun e => ?_, fun e => ?_, fun _ => keep_b hb (h.hg d13), fun e => ?_⟩
  · show (if q = 9 then _ else vs q) = _
    rw [if_neg q9]
    exact h.vals q hq q9 q10 (by rw [← hD q q9]; exact hd)
  · rw [hD 10 (by decide), d10] at e; cases e
  · rw [hD 10 (by decide), d10] at e; cases e
  · rw [hD 13 (by decide), d13] at e; cases e
theorem ApF.app (h : ApF W base g k l x OB OB0 F D vs w') (hDi : D 10 = false) (h4 : D 4 = true) (h9 : D 9 = true) {A A8 : Option Addr} {c c8 : Nat} (hO : OwnFn w' base g A c l) (_hk : l.length = k) (hN : OwnFn w'' base g A8 c8 (l ++ [x])) (hG : w'.grownBy w'' (Value.slice A k c).ownBlock) (hB : base ≤ w'.heap.size) {cs : Array Value} (hob : OB0 = .cells cs 52 (0, 0)) (hD : ∀ q, q ≠ 10 → D' q = D q) (hDs : D' 10 = true) :
    ApF W base g k l x OB OB0 F D' (fun j => if j = 10 then .slice A8 (k + 1) c8 else vs j) w'' := by
  have d13 := h.not13 (.inr (.inr hDi))
  have hown : ∀ b, (Value.slice A k c).ownBlock = some b → base ≤ b ∧ ∃ cs, w'.heap[b]? = some (.cells cs 71 (0, 0)) := by
    intro b hb
    rcases hO.heap with h1 | ⟨b2, cur, h1, h2, h3⟩
    · rw [h1] at hb; cases hb
    · rw [h1] at hb
      simp only [Value.ownBlock, Option.some.injEq] at hb
      subst hb
      exact ⟨h2, cur, h3⟩
  have hkp : KeepF base g w' w'' := ⟨(Below.refl base w').grown hG hB fun b hb => (hown b hb).1, fun b ob hb _ h1 => (hG.block b (lt_of_heap hb) (fun e => by
    obtain ⟨_, cs2, h3⟩ := hown b e.symm
    rw [hb] at h3
    injection h3 with h3
    exact h1 _ h3)).trans hb⟩
  have hg0 := h.hg d13
  refine ⟨h.keep.trans hkp, fun q hq q9 q10 hd => ?_, fun e => ?_, fun e => ?_, fun _ _ => ⟨A8, c8, if_pos rfl, hN⟩, fun _ => ?_, fun _ => ?_, fun e => ?_⟩
  · show (if q = 10 then _ else vs q) = _
    rw [if_neg q10]
    exact h.vals q hq q9 q10 (by rw [← hD q q10]; exact hd)
  · obtain ⟨gl, a1, a2, _⟩ := h.lit h9
    exact ⟨gl, by rw [if_neg (by decide)]; exact a1, a2, fun e2 => by rw [hDs] at e2; cases e2⟩
  · rw [hDs] at e; cases e
  · rw [hD 4 (by decide), hD 9 (by decide)]; exact ⟨h4, h9⟩
  · refine (hG.block g (lt_of_heap hg0) fun e => ?_).trans hg0
    obtain ⟨_, cs2, h3⟩ := hown g e.symm
    rw [hg0, hob] at h3
    injection h3 with h3; injection h3 with _ h3
    exact absurd h3 (by decide)
  · rw [hD 13 (by decide), d13] at e; cases e
theorem ApF.ready (h : ApF W base g k l x OB OB0 F D vs w') (h10 : D 10 = true) (hDi : D 13 = false) {cs : List Value} (hob : OB0 = .cells cs.toArray 52 (0, 0)) (hset : ∀ A c, OB A c = .cells (cs.set 11 (.slice A (k + 1) c)).toArray 52 (0, 0)) (hgb : base ≤ g) :
    ∃ A8 c8, vs 10 = .slice A8 (k + 1) c8 ∧ ∀ (D' : Nat → Bool) (u : Value), (∀ q, q ≠ 13 → D' q = D q) → D' 13 = true → ApF W base g k l x OB OB0 F D' (fun j => if j = 13 then u else vs j) (w'.setCell ⟨g, 11, none⟩ (.slice A8 (k + 1) c8)) := by
  obtain ⟨A8, c8, e10, hN⟩ := h.app_ h10 hDi
  have hg0 := h.hg hDi
  rw [hob] at hg0
  refine ⟨A8, c8, e10, fun D' u hD hDs => ⟨h.keep.trans ⟨(Below.refl base w').setCell (p := ⟨g, 11, none⟩) hgb _, fun b ob hb h1 _ => (heap_setCell_other w' _ b _ h1).trans hb⟩, fun q hq q9 q10 hd => ?_, fun e => ?_, fun e => ?_, fun _ e => ?_, fun _ => ?_, fun e => ?_, fun _ => ⟨?_, A8, c8, hN.other hg0 (by decide) 11 _, ?_⟩⟩⟩
  · show (if q = 13 then u else vs q) = _
    rw [if_neg (by omega)]
    exact h.vals q hq q9 q10 (by rw [← hD q (by omega)]; exact hd)
  · rw [hD 9 (by decide)] at e
    obtain ⟨gl, a1, a2, _⟩ := h.lit e
    exact ⟨gl, by rw [if_neg (by decide)]; exact a1, a2, fun e2 => by rw [hD 10 (by decide), h10] at e2; cases e2⟩
  · rw [hD 10 (by decide), h10] at e; cases e
  · rw [hDs] at e; cases e
  · rw [hD 4 (by decide), hD 9 (by decide)]; exact h.o10 h10
  · rw [hDs] at e; cases e
  · rw [hD 10 (by decide)]; exact h10
  · rw [hset]
    exact set_j (i := 11) (cs := cs) hg0 _
theorem ApF.same (h : ApF W base g k l x OB OB0 F D vs w') (hD : ∀ q, q < 14 → D q = D' q) : ApF W base g k l x OB OB0 F D' vs w' := by
  have e4 := hD 4 (by decide); have e9 := hD 9 (by decide); have e10 := hD 10 (by decide); have e13 := hD 13 (by decide)
  refine ⟨h.keep, fun q hq q9 q10 hd => h.vals q hq q9 q10 (by rw [hD q (by omega)]; exact hd), ?_, ?_, ?_, ?_, ?_, ?_⟩
  · rw [← e9, ← e10]; exact h.lit
  · rw [← e10]; exact h.pre
  · rw [← e10, ← e13]; exact h.app_
  · rw [← e10, ← e4, ← e9]; exact h.o10
  · rw [← e13]; exact h.hg
  · rw [← e13, ← e10]; exact h.fin
end
theorem step_appendFn {ops : Array Oper} {o : Oper} {a : Act} {w : World} {K : Act → World → Prop} {Q : Exit → Act → World → Prop} {E : Prop}
    (hg : o.guard = none) (s y : Operand) (hop : o.op = Op.call { callee := Callee.builtin Builtin.append, args := #[s, y], argTypes := #[50, 50] })
    (base g gl k : Nat) (A : Option Addr) (c : Nat) (l : List Ji) (x : Ji) (hs : a.eval s = .slice A k c) (hx : a.eval y = .slice (some ⟨gl, 0, none⟩) 1 1) (ho : OwnFn w base g A c l) (hk : l.length = k) (hl : w.heap[gl]? = some (.cells #[actV g x.op] 71 (0, 0))) (hn : k ≤ 100000) (hb : base ≤ w.heap.size)
    (hK : ∀ A' c' w', OwnFn w' base g A' c' (l ++ [x]) → w.grownBy w' (Value.slice A k c).ownBlock → K (a.put o.dst (.slice A' (k + 1) c')) w') :
    if Region.wanted o (yielded ops a.tmps) = true then Oper.wp Tryz.prog o a w K Q else E := by
  have hw : Region.wanted o (yielded ops a.tmps) = true := by simp [Region.wanted, hg]
  rw [if_pos hw]
  subst hk
  obtain ⟨A', c', w', hrun, ho', hb'⟩ := run_appendFn w base g gl o.type A c l x ho hl hn hb
  unfold Oper.wp
  simp [execOp, hop, resolve, invoke, builtin, hs, hx, hrun, Result.andThen]
  exact hK _ _ _ ho' hb'
theorem ActO.kept {w w' : World} {g b n base gm : Nat} (h : ActO w g b n) (hk : KeepF base gm w w') (hb : b ≠ gm) : ActO w' g b n := by
  obtain ⟨es, clock, h1, h2⟩ := h
  exact ⟨es, clock, hk.blk _ _ h1 hb (fun cs e => by cases e), h2⟩
end Go.Proofs.YtgkngimeokhhgaaGreatDoor
