/- Lists of marks: as they read, and in a block of the call's own. -/
import Derived.Test.YtgkngimeokhhgaaDoorG4
import Derived.Test.YtgkngimeokhhgaaDoorG2
namespace Go.Proofs.YtgkngimeokhhgaaDoor
open Go.RowKit

set_option maxRecDepth 100000 in
theorem infoBo : (Tryd.prog.info? 4).map (fun i => (i.zero, i.size, i.bytes)) = some (some (.bool false), 1, 1) := by kernel_rfl
theorem run_makeBo {P : Program} (t e : TypeId) (i : TypeInfo) (ht : P.underlying t = some (.slice e)) (hi : P.info? e = some i) (hz : i.zero = some (.bool false)) (h1 : i.size = 1) (h2 : i.bytes = 1) (n : Nat) (hn : n ≤ 100000) (w : World) :
    (Instr.makeSlice t (.int .i64 (n : Int)) (.int .i64 (n : Int))).run P w = .ok (.slice (some ⟨w.heap.size, 0, none⟩) n n) (w.alloc (.cells (Array.replicate n (Value.bool false)) e)) := by
  have hr := run_make (P := P) w t e i (.bool false) ht hi hz .i64 .i64 n n (by omega) (by omega) (by rw [h2]; omega) (by omega)
  simp only [Int.toNat_natCast, h1, Nat.mul_one] at hr
  have he : (madeCells #[.bool false] n) = Array.replicate n (Value.bool false) := by
    apply Array.ext'
    rw [toList_madeCells_one]
    simp
  have hr2 : (Instr.makeSlice t (.int .i64 (n : Int)) (.int .i64 (n : Int))).run P w = .ok (.slice (some ⟨w.heap.size, 0, none⟩) n n) (w.alloc (.cells (madeCells #[.bool false] n) e)) := hr
  rw [he] at hr2
  exact hr2
/-- a block is a list of marks -/
def BoB (w : World) (g : Nat) (bs : List Bool) : Prop := w.heap[g]? = some (.cells (bs.map Value.bool).toArray 4 (0, 0))
theorem BoB.made (w : World) (n : Nat) : BoB (w.alloc (.cells (Array.replicate n (Value.bool false)) 4)) w.heap.size (List.replicate n false) := by
  unfold BoB
  rw [heap_alloc_new]
  simp
theorem BoB.at_ {w : World} {g i : Nat} {bs : List Bool} {v : Bool} (h : BoB w g bs) (hv : bs[i]? = some v) : w.cell? ⟨g, i, none⟩ = some (.bool v) ∧ w.frozen? ⟨g, i, none⟩ = false :=
  blk_cell h (by rw [List.getElem?_map, hv]; rfl)
theorem BoB.set {w : World} {g : Nat} {bs : List Bool} (h : BoB w g bs) (i : Nat) (v : Bool) : BoB (w.setCell ⟨g, i, none⟩ (.bool v)) g (bs.set i v) := by
  unfold BoB
  rw [List.map_set]
  exact set_j h _
theorem BoB.keep {w w' : World} {g : Nat} {bs : List Bool} (h : BoB w g bs) (hb : Below w.heap.size w w') : BoB w' g bs := keep_b hb h
/-- the header (A, n) leads to marks, in blocks below B -/
def Bools (w : World) (B : Nat) (A : Option Addr) (n : Nat) (bs : List Bool) : Prop :=
  bs.length = n ∧ (0 < n → ∃ b off, A = some ⟨b, off, none⟩ ∧ b < B ∧ ∀ (k : Nat) (v : Bool), bs[k]? = some v → w.cell? ⟨b, off + k, none⟩ = some (.bool v))
section
variable {w w' : World} {B B' n : Nat} {A : Option Addr} {bs : List Bool}
theorem Bools.nil_ : Bools w B A 0 [] := ⟨rfl, fun h => absurd h (by omega)⟩
theorem Bools.keep (h : Bools w B A n bs) (hk : ∀ p : Addr, p.block < B → w'.cell? p = w.cell? p) : Bools w' B A n bs :=
  ⟨h.1, fun h0 => by
    obtain ⟨b, off, e, hb, hc⟩ := h.2 h0
    exact ⟨b, off, e, hb, fun k v hv => (hk _ hb).trans (hc k v hv)⟩⟩
theorem Bools.more (h : Bools w B A n bs) (hB : B ≤ B') : Bools w B' A n bs :=
  ⟨h.1, fun h0 => by
    obtain ⟨b, off, e, hb, hc⟩ := h.2 h0
    exact ⟨b, off, e, by omega, hc⟩⟩
theorem Bools.on (h : Bools w w.heap.size A n bs) (hb : Below w.heap.size w w') : Bools w' w'.heap.size A n bs := (h.keep fun _ hp => hb.cell hp).more hb.size
theorem Bools.at_ (h : Bools w B A n bs) {k : Nat} (hk : k < n) : ∃ b off v, A = some ⟨b, off, none⟩ ∧ b < B ∧ Hid (bs[k]? = some v) ∧ w.cell? ⟨b, off + k, none⟩ = some (.bool v) := by
  obtain ⟨b, off, e, hb, hc⟩ := h.2 (by omega)
  have hv := List.getElem?_eq_getElem (l := bs) (i := k) (by rw [h.1]; exact hk)
  exact ⟨b, off, _, e, hb, hv, hc k _ hv⟩
theorem BoB.bools {g : Nat} (h : BoB w g bs) (hn : bs.length = n) : Bools w w.heap.size (some ⟨g, 0, none⟩) n bs :=
  ⟨hn, fun _ => ⟨g, 0, rfl, lt_of_heap h, fun k v hv => by rw [Nat.zero_add]; exact (h.at_ hv).1⟩⟩
end
/-- a number of a list of the call's own -/
theorem own_at15 {w : World} {base c k : Nat} {A : Option Addr} {xs : List Int} {x : Int} (h : OwnI w base 3 A c xs) (hx : xs[k]? = some x) : ∃ g, A = some ⟨g, 0, none⟩ ∧ w.cell? ⟨g, k, none⟩ = some (.int .i64 x) := by
  have hk := (List.getElem?_eq_some_iff.1 hx).1
  rcases h.1.2 with ⟨_, h0⟩ | ⟨g, cap, cur, h1, _⟩
  · omega
  · have hA : A = some ⟨g, 0, none⟩ := by injection h1
    have h2 := h
    rw [hA] at h2
    exact ⟨g, hA, (h2.cell_ hx).1⟩
end Go.Proofs.YtgkngimeokhhgaaDoor
/- append onto a slice of the call's own: where the result lies (the slice's own block, or a new one), so that two slices may grow side by side. Nothing is claimed of the program here. -/
namespace Go.Proofs.YtgkngimeokhhgaaDoor
open Go.RowKit

theorem OwnI.grownL {w w' : World} {base c : Nat} {e : TypeId} {A : Option Addr} {xs : List Int} {row : Option Nat} (h : OwnI w base e A c xs) (hg : w.grownBy w' row) (hr : ∀ g, A = some ⟨g, 0, none⟩ → some g ≠ row) : OwnI w' base e A c xs := by
  refine ⟨h.1.kept hg ?_, h.2⟩
  rcases h.1.2 with ⟨hv, _⟩ | ⟨g', cap, cur, hv, _⟩
  · rw [hv]; exact .inl rfl
  · right
    have hA : A = some ⟨g', 0, none⟩ := by injection hv
    subst hA
    exact hr g' rfl
theorem OwnI.ltL {w : World} {base c g : Nat} {e : TypeId} {xs : List Int} (h : OwnI w base e (some ⟨g, 0, none⟩) c xs) : base ≤ g ∧ g < w.heap.size := h.1.lt g rfl
theorem own_block_neL {w : World} {base c r g : Nat} {e : TypeId} {A : Option Addr} {xs : List Int} (h : OwnI w base e A c xs) (hr : xs.length = r) (hne : A ≠ some ⟨g, 0, none⟩) : some g ≠ (Value.slice A r c).ownBlock := by
  subst hr
  rcases h.1.2 with ⟨hv, _⟩ | ⟨g', cap, cur, hv, _⟩
  · rw [hv]; intro h; cases h
  · have hA : A = some ⟨g', 0, none⟩ := by injection hv
    subst hA
    intro h
    simp only [Value.ownBlock, Option.some.injEq] at h
    exact hne (by rw [h])
/-- two slices of the call's own that share no block -/
def Apart (A B : Option Addr) : Prop := ∀ g, A = some ⟨g, 0, none⟩ → B ≠ some ⟨g, 0, none⟩

theorem append_where {P : Program} (w : World) (base : Nat) (t ty e : TypeId) (i : TypeInfo) (ht : P.underlying t = some (.slice e)) (hi : P.info? e = some i) (hz : i.zero = some (.int .i64 0)) (h1 : i.size = 1) (h2 : i.bytes = 8)
    (A A2 : Option Addr) (c m c2 B : Nat) (xs ys : List Int) (ho : OwnI w base e A c xs) (hs : Ints w B A2 m ys) (hl : xs.length + m ≤ 1000000) {A' : Option Addr} {r c' : Nat} {w' : World}
    (hrun : (Builtin.append_ #[t, t] ty #[.slice A xs.length c, .slice A2 m c2]).run P w = .ok (.slice A' r c') w') : ∀ g, A' = some ⟨g, 0, none⟩ → A = some ⟨g, 0, none⟩ ∨ w.heap.size ≤ g := by
  intro g hg
  have hlen := hs.1
  rcases Option.eq_none_or_eq_some A2 with rfl | ⟨ad, rfl⟩
  · obtain rfl : m = 0 := by
      rcases Nat.eq_zero_or_pos m with h0 | h0
      · exact h0
      · obtain ⟨b, off, e', _⟩ := hs.2.2 h0; cases e'
    have hr := run_appendNil (P := P) w base t ty e i ht hi (.slice A xs.length c) xs.length (xs.map (Value.int .i64)) ho.1 c2
    rw [hr] at hrun
    injection hrun with hrun _
    injection hrun with hrun _ _
    left; rw [hrun]; exact hg
  · have hl2 : (ys.map (Value.int .i64)).length = m * i.size := by rw [List.length_map, hlen, h1, Nat.mul_one]
    have hc := hs.cells_
    rcases ho.1.2 with ⟨hv, hn0⟩ | ⟨g0, cap, cur, hv, hbg, hgg, hnc, hcm, hcs, htk⟩
    · injection hv with hA hn hcc
      subst hA
      subst hcc
      rw [hn] at hrun
      rcases Nat.eq_zero_or_pos m with rfl | hm
      · obtain ⟨v', w2, hr, _, _, hiff⟩ := run_append_own (P := P) w 0 t ty e i (.int .i64 0) 1 8 ht hi hz h1 h2 rfl (by decide) (.slice none 0 0) 0 [] (World.ownsRow_nil w 0 e 1) ad 0 c2 (ys.map (Value.int .i64)) (by rw [hl2, h1]) hc (ints_one ys) (by unfold maxLen; omega) (by omega) (Nat.zero_le _)
        rw [hr] at hrun
        injection hrun with hrun _
        rw [hiff.2 ⟨rfl, rfl⟩] at hrun
        injection hrun with hrun _ _
        rw [← hrun] at hg; cases hg
      · have hr := run_append_nil (P := P) w t ty e i (.int .i64 0) ht hi hz ad m c2 (ys.map (Value.int .i64)) hl2 hc hm (by omega) (by rw [h2]; omega)
        rw [hr] at hrun
        injection hrun with hrun _
        injection hrun with hrun _ _
        right
        rw [← hrun] at hg
        injection hg with hg; injection hg with hg; omega
    · injection hv with hA hn hcc
      subst hA
      subst hcc
      by_cases hroom : xs.length + m ≤ c
      · have hr := run_append_room (P := P) w t ty e i ht hi g0 xs.length c cur hgg ad m c2 (ys.map (Value.int .i64)) hl2 hc (ints_one ys) hroom (by rw [hl2, h1, hcs]; omega)
        rw [hr] at hrun
        injection hrun with hrun _
        injection hrun with hrun _ _
        left; rw [hrun]; exact hg
      · have hr := run_append_grow (P := P) w t ty e i (.int .i64 0) ht hi hz ⟨g0, 0, none⟩ xs.length c (xs.map (Value.int .i64)) (by rw [List.length_map, h1, Nat.mul_one]) (ho.1.cells (g := g0) rfl) ad m c2 (ys.map (Value.int .i64)) hl2 hc (by omega) (by omega) (growslice_fits (by omega) (by rw [h2]; omega))
        rw [hr] at hrun
        injection hrun with hrun _
        injection hrun with hrun _ _
        right
        rw [← hrun] at hg
        injection hg with hg; injection hg with hg; omega

/-- append of integers: the result, its block, what stands -/
theorem wpList_appendWhere {P : Program} (w : World) {ops : Array Oper} {rest : List Oper} {o : Oper} {a : Act} {Q : Exit → Act → World → Prop}
    (hg : o.guard = none) (s x : Operand) (t : TypeId) (hop : o.op = Op.call { callee := Callee.builtin Builtin.append, args := #[s, x], argTypes := #[t, t] })
    (base : Nat) (e : TypeId) (i : TypeInfo) (ht : P.underlying t = some (.slice e)) (hi : P.info? e = some i) (hz : i.zero = some (.int .i64 0)) (h1 : i.size = 1) (h2 : i.bytes = 8)
    (A A2 : Option Addr) (c m c2 B p r : Nat) (xs ys : List Int) (hs : a.eval s = .slice A p c) (hx : a.eval x = .slice A2 m c2) (ho : OwnI w base e A c xs) (hp : xs.length = p) (hr : p + m = r) (hi2 : Ints w B A2 m ys) (hl : r ≤ 1000000) (hb : base ≤ w.heap.size)
    (hK : ∀ A' c' w', OwnI w' base e A' c' (xs ++ ys) → w.grownBy w' (Value.slice A p c).ownBlock → (∀ g, A' = some ⟨g, 0, none⟩ → A = some ⟨g, 0, none⟩ ∨ w.heap.size ≤ g) → wpList P ops Q rest (a.put o.dst (.slice A' r c')) w') : wpList P ops Q (o :: rest) a w := by
  refine wpList_plain hg fun K hK' => ?_
  subst hp
  subst hr
  obtain ⟨A', c', w', hrun, ho', hb'⟩ := run_appendInts (P := P) w base t o.type e i ht hi hz h1 h2 A A2 c m c2 B xs ys ho hi2 hl hb
  have hw := append_where (P := P) w base t o.type e i ht hi hz h1 h2 A A2 c m c2 B xs ys ho hi2 hl hrun
  unfold Oper.wp
  simp [execOp, hop, resolve, invoke, builtin, hs, hx, hrun, Result.andThen]
  exact hK' _ _ (hK _ _ _ ho' hb' hw)
end Go.Proofs.YtgkngimeokhhgaaDoor
/- Slices of slices of integers: how they read, those of the call's own, and one more behind them. -/
namespace Go.Proofs.YtgkngimeokhhgaaDoor
open Go.RowKit

set_option maxRecDepth 100000 in
theorem infoRow : (Tryd.prog.info? 39).map (fun i => (i.zero, i.size, i.bytes)) = some (some (.slice none 0 0), 1, 24) := by kernel_rfl

/-- the header (A, n) leads to slices that read as the lists LL -/
def IntsLL (w : World) (B : Nat) (A : Option Addr) (n : Nat) (LL : List (List Int)) : Prop :=
  LL.length = n ∧ (0 < n → ∃ b off, A = some ⟨b, off, none⟩ ∧ b < B ∧ ∀ (k : Nat) (L : List Int), LL[k]? = some L → ∃ a c, w.cell? ⟨b, off + k, none⟩ = some (.slice a L.length c) ∧ L.length ≤ c ∧ Ints w B a L.length L)
theorem IntsLL.at_ {w : World} {B n k : Nat} {A : Option Addr} {LL : List (List Int)} (h : IntsLL w B A n LL) (hk : k < n) :
    ∃ b off L a c, A = some ⟨b, off, none⟩ ∧ b < B ∧ Hid (LL[k]? = some L) ∧ w.cell? ⟨b, off + k, none⟩ = some (.slice a L.length c) ∧ L.length ≤ c ∧ Ints w B a L.length L := by
  obtain ⟨hl, hc⟩ := h
  obtain ⟨b, off, rfl, hB, hx⟩ := hc (by omega)
  have hk' : k < LL.length := by omega
  obtain ⟨a, c, h1, h2, h3⟩ := hx k _ (List.getElem?_eq_getElem hk')
  exact ⟨b, off, LL[k], a, c, rfl, hB, List.getElem?_eq_getElem hk', h1, h2, h3⟩
theorem IntsLL.below {w w' : World} {B n : Nat} {A : Option Addr} {LL : List (List Int)} (h : IntsLL w B A n LL) (hb : Below B w w') : IntsLL w' B A n LL := by
  refine ⟨h.1, fun h0 => ?_⟩
  obtain ⟨b, off, rfl, hB, hx⟩ := h.2 h0
  refine ⟨b, off, rfl, hB, fun k L hL => ?_⟩
  obtain ⟨a, c, h1, h2, h3⟩ := hx k L hL
  exact ⟨a, c, (hb.cell (p := ⟨b, off + k, none⟩) hB).trans h1, h2, h3.below hb⟩
theorem IntsLL.more {w : World} {B B' n : Nat} {A : Option Addr} {LL : List (List Int)} (h : IntsLL w B A n LL) (hb : B ≤ B') : IntsLL w B' A n LL := by
  refine ⟨h.1, fun h0 => ?_⟩
  obtain ⟨b, off, rfl, hB, hx⟩ := h.2 h0
  refine ⟨b, off, rfl, by omega, fun k L hL => ?_⟩
  obtain ⟨a, c, h1, h2, h3⟩ := hx k L hL
  exact ⟨a, c, h1, h2, h3.more hb⟩
theorem IntsLL.nil_ (w : World) (B : Nat) (A : Option Addr) : IntsLL w B A 0 [] := ⟨rfl, fun h => absurd h (by omega)⟩

/-- the heads of slices of the call's own -/
def HeadsOK (w : World) (base : Nat) : List Value → List (List Int) → Prop
  | [], [] => True
  | v :: vs, L :: LL => (∃ a c, v = .slice a L.length c ∧ OwnI w base 3 a c L) ∧ HeadsOK w base vs LL
  | _, _ => False
theorem HeadsOK.len {w : World} {base : Nat} {vs : List Value} {LL : List (List Int)} (h : HeadsOK w base vs LL) : vs.length = LL.length := by
  induction vs generalizing LL with
  | nil => cases LL with | nil => rfl | cons L LL => exact h.elim
  | cons v vs ih => cases LL with | nil => exact h.elim | cons L LL => simp [ih h.2]
theorem HeadsOK.at_ {w : World} {base k : Nat} {vs : List Value} {LL : List (List Int)} {L : List Int} (h : HeadsOK w base vs LL) (hk : LL[k]? = some L) : ∃ a c, vs[k]? = some (.slice a L.length c) ∧ OwnI w base 3 a c L := by
  induction vs generalizing LL k with
  | nil => cases LL with | nil => simp at hk | cons L LL => exact h.elim
  | cons v vs ih => cases LL with
    | nil => exact h.elim
    | cons L' LL => cases k with
      | zero => simp at hk; subst hk; obtain ⟨a, c, rfl, ho⟩ := h.1; exact ⟨a, c, rfl, ho⟩
      | succ k => exact ih h.2 (by simpa using hk)
theorem HeadsOK.map {w w' : World} {base base' : Nat} {vs : List Value} {LL : List (List Int)} (h : HeadsOK w base vs LL) (hm : ∀ a c L, OwnI w base 3 a c L → OwnI w' base' 3 a c L) : HeadsOK w' base' vs LL := by
  induction vs generalizing LL with
  | nil => cases LL with | nil => trivial | cons L LL => exact h.elim
  | cons v vs ih => cases LL with
    | nil => exact h.elim
    | cons L LL => obtain ⟨⟨a, c, e, ho⟩, h2⟩ := h; exact ⟨⟨a, c, e, hm _ _ _ ho⟩, ih h2⟩
theorem HeadsOK.snoc {w : World} {base c : Nat} {a : Option Addr} {vs : List Value} {LL : List (List Int)} {L : List Int} (h : HeadsOK w base vs LL) (ho : OwnI w base 3 a c L) : HeadsOK w base (vs ++ [.slice a L.length c]) (LL ++ [L]) := by
  induction vs generalizing LL with
  | nil => cases LL with | nil => exact ⟨⟨a, c, rfl, ho⟩, trivial⟩ | cons L LL => exact h.elim
  | cons v vs ih => cases LL with
    | nil => exact h.elim
    | cons L LL => exact ⟨h.1, ih h.2⟩

/-- a slice of the call's own, of slices of the call's own -/
def OwnLL (w : World) (base : Nat) (A : Option Addr) (c : Nat) (LL : List (List Int)) : Prop :=
  ∃ vs, w.ownsRow base 39 1 (.slice A LL.length c) LL.length vs ∧ HeadsOK w base vs LL
theorem OwnLL.nil_ (w : World) (base : Nat) : OwnLL w base none 0 [] := ⟨[], w.ownsRow_nil base _ 1, trivial⟩
theorem OwnI.len_cap {w : World} {base : Nat} {e : TypeId} {A : Option Addr} {c : Nat} {xs : List Int} (h : OwnI w base e A c xs) : xs.length ≤ c := by
  rcases h.1.2 with ⟨hv, h0⟩ | ⟨g', cap, cur, hv, hb, hh, hc, _⟩
  · omega
  · injection hv with h1 h2 h3; omega
theorem OwnLL.ints {w : World} {base : Nat} {A : Option Addr} {c : Nat} {LL : List (List Int)} (h : OwnLL w base A c LL) : IntsLL w w.heap.size A LL.length LL := by
  obtain ⟨vs, hr, hh⟩ := h
  refine ⟨rfl, fun h0 => ?_⟩
  rcases hr.2 with ⟨_, h1⟩ | ⟨g, cap, cur, hv, _, hg, _⟩
  · omega
  have hA : A = some ⟨g, 0, none⟩ := by injection hv
  subst hA
  have hlt : g < w.heap.size := (hr.lt g rfl).2
  refine ⟨g, 0, rfl, hlt, fun k L hL => ?_⟩
  obtain ⟨a, c2, h1, h2⟩ := hh.at_ hL
  have hk := (List.getElem?_eq_some_iff.1 h1).1
  refine ⟨a, c2, ?_, h2.len_cap, h2.ints⟩
  rw [Nat.zero_add]
  exact (hr.cellAt k (by rw [← hh.len]; omega)).trans h1
theorem OwnLL.below {w w' : World} {base B : Nat} {A : Option Addr} {c : Nat} {LL : List (List Int)} (h : OwnLL w base A c LL) (hb : Below B w w') (hB : w.heap.size ≤ B) : OwnLL w' base A c LL := by
  obtain ⟨vs, hr, hh⟩ := h
  refine ⟨vs, ?_, hh.map fun a c L ho => ho.below hb hB⟩
  exact hr.kept ⟨hb.os, hb.tape, hb.output, hb.size, fun i hi _ => hb.block i (by omega)⟩ (row := none) (by cases hh : (Value.slice A LL.length c).ownBlock with | none => exact .inl rfl | some k => exact .inr (by simp))
theorem OwnLL.mono {w : World} {base base' : Nat} {A : Option Addr} {c : Nat} {LL : List (List Int)} (h : OwnLL w base A c LL) (hb : base' ≤ base) : OwnLL w base' A c LL := by
  obtain ⟨vs, hr, hh⟩ := h
  refine ⟨vs, ⟨hr.1, ?_⟩, hh.map fun a c L ho => ho.mono hb⟩
  rcases hr.2 with hh | ⟨g, cap, cur, h1, h2, h3⟩
  · exact .inl hh
  · exact .inr ⟨g, cap, cur, h1, by omega, h3⟩
theorem OwnLL.alloc {w : World} {base : Nat} {A : Option Addr} {c : Nat} {LL : List (List Int)} (h : OwnLL w base A c LL) (o : Obj) : OwnLL (w.alloc o) base A c LL := by
  obtain ⟨vs, hr, hh⟩ := h
  exact ⟨vs, hr.alloc o, hh.map fun a c L ho => ho.alloc o⟩

end Go.Proofs.YtgkngimeokhhgaaDoor
/- Lists of numbers of the call's own, in a slice of the call's own, that are written to in any order; no two share a block. -/
namespace Go.Proofs.YtgkngimeokhhgaaDoor
open Go.RowKit

structure RowU where
  A : Option Addr
  c : Nat
  L : List Int
def RowU.hdr (r : RowU) : Value := .slice r.A r.L.length r.c
structure RowsU (w : World) (base g : Nat) (rs : List RowU) : Prop where
  rows : w.ownsRow base 50 1 (.slice (some ⟨g, 0, none⟩) rs.length rs.length) rs.length (rs.map RowU.hdr)
  ins : ∀ r ∈ rs, OwnI w base 2 r.A r.c r.L
  apart : ∀ (i j : Nat) (r s : RowU), i ≠ j → rs[i]? = some r → rs[j]? = some s → ∀ g, r.A = some ⟨g, 0, none⟩ → s.A ≠ some ⟨g, 0, none⟩
theorem run_makeRu {P : Program} (t e : TypeId) (i : TypeInfo) (ht : P.underlying t = some (.slice e)) (hi : P.info? e = some i) (hz : i.zero = some (.slice none 0 0)) (h1 : i.size = 1) (h2 : i.bytes = 24) (n : Nat) (hn : n ≤ 100000) (w : World) :
    (Instr.makeSlice t (.int .i64 (n : Int)) (.int .i64 (n : Int))).run P w = .ok (.slice (some ⟨w.heap.size, 0, none⟩) n n) (w.alloc (.cells (Array.replicate n (Value.slice none 0 0)) e)) := by
  have hr := run_make (P := P) w t e i (.slice none 0 0) ht hi hz .i64 .i64 n n (by omega) (by omega) (by rw [h2]; omega) (by omega)
  simp only [Int.toNat_natCast, h1, Nat.mul_one] at hr
  have he : (madeCells #[.slice none 0 0] n) = Array.replicate n (Value.slice none 0 0) := by
    apply Array.ext'
    rw [toList_madeCells_one]
    simp
  have hr2 : (Instr.makeSlice t (.int .i64 (n : Int)) (.int .i64 (n : Int))).run P w = .ok (.slice (some ⟨w.heap.size, 0, none⟩) n n) (w.alloc (.cells (madeCells #[.slice none 0 0] n) e)) := hr
  rw [he] at hr2
  exact hr2
section
variable {w w' w4 : World} {base g : Nat} {rs : List RowU}
theorem RowsU.made (w : World) (base n : Nat) (hb : base ≤ w.heap.size) (hn : n ≤ 100000) : RowsU (w.alloc (.cells (Array.replicate n (Value.slice none 0 0)) 50)) base w.heap.size (List.replicate n ⟨none, 0, []⟩) := by
  refine ⟨?_, fun r hr => ?_, fun i j r s _ hr _ g hA => ?_⟩
  · rw [List.length_replicate, List.map_replicate]
    exact ⟨by simp, .inr ⟨w.heap.size, n, Array.replicate n (Value.slice none 0 0), rfl, hb, heap_alloc_new w _, Nat.le_refl _, by unfold maxLen; omega, by simp, by simp [RowU.hdr]⟩⟩
  · rw [(List.mem_replicate.1 hr).2]
    exact OwnI.nil_ _ _ _
  · have := (List.mem_replicate.1 (List.mem_of_getElem? hr)).2
    rw [this] at hA
    cases hA
theorem RowsU.heap (h : RowsU w base g rs) : base ≤ g ∧ ∃ cur, w.heap[g]? = some (.cells cur 50 (0, 0)) := by
  rcases h.rows.2 with ⟨h1, _⟩ | ⟨g', cap, cur, h1, h2, h3, _⟩
  · injection h1 with h1; cases h1
  · injection h1 with h1; injection h1 with h1; injection h1 with h1
    subst h1
    exact ⟨h2, cur, h3⟩
theorem RowsU.below {B : Nat} (h : RowsU w base g rs) (hb : Below B w w') (hB : w.heap.size ≤ B) : RowsU w' base g rs :=
  ⟨World.ownsRow.kept h.rows ⟨hb.os, hb.tape, hb.output, hb.size, fun i hi _ => hb.block i (by omega)⟩ (row := none) (by cases hh : (Value.slice (some ⟨g, 0, none⟩) rs.length rs.length).ownBlock with | none => exact .inl rfl | some k => exact .inr (by simp)), fun s hs => (h.ins s hs).below hb hB, h.apart⟩
theorem RowsU.at_ {i : Nat} {r : RowU} (h : RowsU w base g rs) (hr : rs[i]? = some r) : w.cell? ⟨g, i, none⟩ = some r.hdr ∧ w.frozen? ⟨g, i, none⟩ = false := by
  have hk := (List.getElem?_eq_some_iff.1 hr).1
  exact ⟨(h.rows.cellAt i (by simpa using hk)).trans (by rw [List.getElem?_map, hr]; rfl), h.rows.frozenAt i⟩
/-- lists stay over what is written to a slice of slices -/
theorem OwnI.past_rowsU {base' c' : Nat} {A : Option Addr} {xs : List Int} {cur : Array Value} (hO : OwnI w base' 2 A c' xs) (hg : w.heap[g]? = some (.cells cur 50 (0, 0))) (hG : w.grownBy w' (some g)) : OwnI w' base' 2 A c' xs := by
  refine hO.grownL hG fun k e => ?_
  intro e2
  injection e2 with e2
  subst e2
  rcases hO.1.2 with ⟨h1, _⟩ | ⟨g', cap, cur2, h1, _, h3, _⟩
  · injection h1 with h1; rw [e] at h1; cases h1
  · injection h1 with h1
    rw [e] at h1
    injection h1 with h1; injection h1 with h1
    subst h1
    rw [hg] at h3
    injection h3 with h3; injection h3 with _ h3
    exact absurd h3 (by decide)
/-- one number of the i-th list is another -/
theorem RowsU.cell {i k : Nat} {r : RowU} {v : Int} (h : RowsU w base g rs) (hr : rs[i]? = some r) (hk : k < r.L.length) (hv : -9223372036854775808 ≤ v ∧ v ≤ 9223372036854775807) :
    ∃ b, r.A = some ⟨b, 0, none⟩ ∧ base ≤ b ∧ b ≠ g ∧ w.frozen? ⟨b, k, none⟩ = false ∧ RowsU (w.setCell ⟨b, k, none⟩ (.int .i64 v)) base g (rs.set i ⟨r.A, r.c, r.L.set k v⟩) := by
  have hrm := List.mem_of_getElem? hr
  have hrO := h.ins r hrm
  have hil := (List.getElem?_eq_some_iff.1 hr).1
  obtain ⟨hbg, cur, hg⟩ := h.heap
  obtain ⟨b, hA, hb, cur2, hgb⟩ : ∃ b, r.A = some ⟨b, 0, none⟩ ∧ base ≤ b ∧ ∃ cs, w.heap[b]? = some (.cells cs 2 (0, 0)) := by
    rcases hrO.1.2 with ⟨_, h0⟩ | ⟨g', cap, cur2, h1, h2, h3, _⟩
    · omega
    · injection h1 with h1
      exact ⟨g', h1, h2, cur2, h3⟩
  have hne : b ≠ g := fun e => by
    rw [e, hg] at hgb
    injection hgb with hgb; injection hgb with _ hgb
    exact absurd hgb (by decide)
  have hO2 : OwnI w base 2 (some ⟨b, 0, none⟩) r.c r.L := by rw [← hA]; exact hrO
  have hgs : w.grownBy (w.setCell ⟨b, k, none⟩ (.int .i64 v)) (some b) := (World.ownsRow.stored hO2.1 k (.int .i64 v)).2
  refine ⟨b, hA, hb, hne, hO2.1.frozenAt k, ⟨?_, fun s hs => ?_, fun x y s t hxy hs ht q hq => ?_⟩⟩
  · rw [List.length_set, List.map_set]
    have e : RowU.hdr ⟨r.A, r.c, r.L.set k v⟩ = r.hdr := by simp [RowU.hdr]
    have e2 : (rs.map RowU.hdr).set i r.hdr = rs.map RowU.hdr := by
      apply List.ext_getElem?
      intro j
      by_cases hj : i = j
      · subst hj
        rw [List.getElem?_set_self (by simpa using hil), List.getElem?_map, hr]; rfl
      · rw [List.getElem?_set_ne hj]
    rw [e, e2]
    exact World.ownsRow.kept h.rows hgs (.inr (by simpa [Value.ownBlock] using hne.symm))
  · obtain ⟨j, hj⟩ := List.getElem?_of_mem hs
    by_cases e : i = j
    · subst e
      rw [List.getElem?_set_self hil] at hj
      injection hj with hj
      subst hj
      show OwnI _ base 2 r.A r.c (r.L.set k v)
      rw [hA]
      exact hO2.set_ k v hv
    · rw [List.getElem?_set_ne e] at hj
      refine (h.ins s (List.mem_of_getElem? hj)).grownL hgs fun q hq e2 => ?_
      injection e2 with e2
      subst e2
      exact h.apart j i s r (Ne.symm e) hj hr q hq hA
  · have hsame : ∀ (j : Nat) (s : RowU), (rs.set i ⟨r.A, r.c, r.L.set k v⟩)[j]? = some s → ∃ s0 : RowU, rs[j]? = some s0 ∧ s0.A = s.A := by
      intro j s hj
      by_cases e : i = j
      · subst e
        rw [List.getElem?_set_self hil] at hj
        injection hj with hj
        subst hj
        exact ⟨r, hr, rfl⟩
      · rw [List.getElem?_set_ne e] at hj
        exact ⟨s, hj, rfl⟩
    obtain ⟨s0, hs0, es⟩ := hsame x s hs
    obtain ⟨t0, ht0, et⟩ := hsame y t ht
    rw [← et]
    exact h.apart x y s0 t0 hxy hs0 ht0 q (by rw [es]; exact hq)
/-- the i-th list has a number more -/
theorem RowsU.put {i : Nat} {r : RowU} {v : Int} {c4 : Nat} {A4 : Option Addr} (h : RowsU w base g rs) (hr : rs[i]? = some r) (hO : OwnI w4 base 2 A4 c4 (r.L ++ [v])) (hG : w.grownBy w4 (Value.slice r.A r.L.length r.c).ownBlock) (hl : ∀ b, A4 = some ⟨b, 0, none⟩ → r.A = some ⟨b, 0, none⟩ ∨ w.heap.size ≤ b) :
    RowsU (w4.setCell ⟨g, i, none⟩ (.slice A4 (r.L.length + 1) c4)) base g (rs.set i ⟨A4, c4, r.L ++ [v]⟩) ∧ w4.cell? ⟨g, i, none⟩ = some r.hdr ∧ w4.frozen? ⟨g, i, none⟩ = false ∧ (∀ B w0, B ≤ base → Below B w0 w → Below B w0 (w4.setCell ⟨g, i, none⟩ (.slice A4 (r.L.length + 1) c4))) ∧
      (∀ (b : Nat) (cs : Array Value) (t : TypeId), w.heap[b]? = some (.cells cs t (0, 0)) → t ≠ 2 → t ≠ 50 → (w4.setCell ⟨g, i, none⟩ (.slice A4 (r.L.length + 1) c4)).heap[b]? = some (.cells cs t (0, 0))) := by
  have hrm := List.mem_of_getElem? hr
  have hrO := h.ins r hrm
  have hil := (List.getElem?_eq_some_iff.1 hr).1
  obtain ⟨hbg, cur, hg⟩ := h.heap
  have hltg := (Array.getElem?_eq_some_iff.1 hg).1
  -- the row's own block is of numbers
  have hrb : ∀ b, (Value.slice r.A r.L.length r.c).ownBlock = some b → base ≤ b ∧ ∃ cs, w.heap[b]? = some (.cells cs 2 (0, 0)) := by
    intro b hb
    rcases hrO.1.2 with ⟨h1, _⟩ | ⟨g', cap, cur2, h1, h2, h3, _⟩
    · rw [h1] at hb; cases hb
    · rw [h1] at hb
      simp only [Value.ownBlock, Option.some.injEq] at hb
      subst hb
      exact ⟨h2, cur2, h3⟩
  have hne : some g ≠ (Value.slice r.A r.L.length r.c).ownBlock := by
    intro e
    obtain ⟨_, cs, h2⟩ := hrb g e.symm
    rw [hg] at h2
    injection h2 with h2; injection h2 with _ h2
    exact absurd h2 (by decide)
  have hg4 : w4.heap[g]? = some (.cells cur 50 (0, 0)) := (hG.block g hltg hne).trans hg
  have hrows4 : w4.ownsRow base 50 1 (.slice (some ⟨g, 0, none⟩) rs.length rs.length) rs.length (rs.map RowU.hdr) :=
    World.ownsRow.kept h.rows hG (.inr (by simpa [Value.ownBlock] using hne))
  obtain ⟨hst, hgs⟩ := hrows4.stored i (.slice A4 (r.L.length + 1) c4)
  have hothers : ∀ j s, j ≠ i → rs[j]? = some s → OwnI w4 base 2 s.A s.c s.L := by
    intro j s hj hs
    refine (h.ins s (List.mem_of_getElem? hs)).grownL hG fun b e e2 => ?_
    rcases hrO.1.2 with ⟨h1, _⟩ | ⟨g', cap, cur2, h1, _⟩
    · rw [h1] at e2; cases e2
    · rw [h1] at e2
      simp only [Value.ownBlock, Option.some.injEq] at e2
      subst e2
      injection h1 with h1
      exact h.apart j i s r hj hs hr b e h1
  refine ⟨⟨?_, fun s hs => ?_, fun a b s t hab hs ht k hk => ?_⟩, ?_, hrows4.frozenAt _, fun B w0 hB hb0 => ?_, fun b cs t hb h1 h2 => ?_⟩
  · rw [List.length_set, List.map_set]
    have e : RowU.hdr ⟨A4, c4, r.L ++ [v]⟩ = .slice A4 (r.L.length + 1) c4 := by simp [RowU.hdr]
    rw [e]
    exact hst
  · obtain ⟨j, hj⟩ := List.getElem?_of_mem hs
    by_cases e : i = j
    · subst e
      rw [List.getElem?_set_self hil] at hj
      injection hj with hj
      subst hj
      exact hO.past_rowsU hg4 hgs
    · rw [List.getElem?_set_ne e] at hj
      exact (hothers j s (Ne.symm e) hj).past_rowsU hg4 hgs
  · have hnew : ∀ j s, j ≠ i → rs[j]? = some s → ∀ k, s.A = some ⟨k, 0, none⟩ → A4 ≠ some ⟨k, 0, none⟩ := by
      intro j s hj hs k hk e
      rcases hl k e with h1 | h1
      · exact h.apart j i s r hj hs hr k hk h1
      · have hsO := h.ins s (List.mem_of_getElem? hs)
        rw [hk] at hsO
        have := hsO.ltL.2
        omega
    by_cases ea : a = i
    · subst ea
      rw [List.getElem?_set_self hil] at hs
      injection hs with hs
      subst hs
      rw [List.getElem?_set_ne hab] at ht
      intro e
      exact hnew b t (Ne.symm hab) ht k e hk
    · rw [List.getElem?_set_ne (Ne.symm ea)] at hs
      by_cases eb : b = i
      · subst eb
        rw [List.getElem?_set_self hil] at ht
        injection ht with ht
        subst ht
        exact hnew a s ea hs k hk
      · rw [List.getElem?_set_ne (Ne.symm eb)] at ht
        exact h.apart a b s t hab hs ht k hk
  · exact (hrows4.cellAt i (by simpa using hil)).trans (by rw [List.getElem?_map, hr]; rfl)
  · have hb4 : Below B w0 w4 := hb0.grown hG (by omega) fun k hk => Nat.le_trans hB (hrb k hk).1
    exact hb4.setCell (by show B ≤ g; omega) _
  · have hlt := (Array.getElem?_eq_some_iff.1 hb).1
    have n1 : some b ≠ (Value.slice r.A r.L.length r.c).ownBlock := by
      intro e
      obtain ⟨_, cs2, h3⟩ := hrb b e.symm
      rw [hb] at h3
      injection h3 with h3; injection h3 with _ h3
      exact h1 h3
    have n2 : b ≠ g := by
      intro e
      subst e
      rw [hg] at hb
      injection hb with hb; injection hb with _ hb
      exact h2 hb.symm
    exact (Below.heap_setCell _ ⟨g, i, none⟩ _ _ n2).trans ((hG.block b hlt n1).trans hb)
/-- the i-th list is a new one -/
theorem RowsU.fresh {i n' : Nat} {r : RowU} {L' : List Int} {c4 : Nat} {A4 : Option Addr} (h : RowsU w base g rs) (hr : rs[i]? = some r) (hO : OwnI w4 base 2 A4 c4 L') (hn : L'.length = n') (hG : w.grownBy w4 none) (hl : ∀ b, A4 = some ⟨b, 0, none⟩ → w.heap.size ≤ b) :
    RowsU (w4.setCell ⟨g, i, none⟩ (.slice A4 n' c4)) base g (rs.set i ⟨A4, c4, L'⟩) ∧ w4.cell? ⟨g, i, none⟩ = some r.hdr ∧ w4.frozen? ⟨g, i, none⟩ = false ∧ (∀ B w0, B ≤ base → Below B w0 w → Below B w0 (w4.setCell ⟨g, i, none⟩ (.slice A4 n' c4))) ∧
      (∀ (b : Nat) (cs : Array Value) (t : TypeId), w.heap[b]? = some (.cells cs t (0, 0)) → t ≠ 50 → (w4.setCell ⟨g, i, none⟩ (.slice A4 n' c4)).heap[b]? = some (.cells cs t (0, 0))) := by
  have hil := (List.getElem?_eq_some_iff.1 hr).1
  obtain ⟨hbg, cur, hg⟩ := h.heap
  have hltg := (Array.getElem?_eq_some_iff.1 hg).1
  have hne : some g ≠ (none : Option Nat) := by simp
  have hg4 : w4.heap[g]? = some (.cells cur 50 (0, 0)) := (hG.block g hltg hne).trans hg
  have hrows4 : w4.ownsRow base 50 1 (.slice (some ⟨g, 0, none⟩) rs.length rs.length) rs.length (rs.map RowU.hdr) :=
    World.ownsRow.kept h.rows hG (.inr (by simp [Value.ownBlock]))
  obtain ⟨hst, hgs⟩ := hrows4.stored i (.slice A4 n' c4)
  have hothers : ∀ j s, j ≠ i → rs[j]? = some s → OwnI w4 base 2 s.A s.c s.L := by
    intro j s hj hs
    refine (h.ins s (List.mem_of_getElem? hs)).grownL hG fun b e e2 => by cases e2
  refine ⟨⟨?_, fun s hs => ?_, fun a b s t hab hs ht k hk => ?_⟩, ?_, hrows4.frozenAt _, fun B w0 hB hb0 => ?_, fun b cs t hb h2 => ?_⟩
  · rw [List.length_set, List.map_set]
    have e : RowU.hdr ⟨A4, c4, L'⟩ = .slice A4 n' c4 := by simp [RowU.hdr, hn]
    rw [e]
    exact hst
  · obtain ⟨j, hj⟩ := List.getElem?_of_mem hs
    by_cases e : i = j
    · subst e
      rw [List.getElem?_set_self hil] at hj
      injection hj with hj
      subst hj
      exact hO.past_rowsU hg4 hgs
    · rw [List.getElem?_set_ne e] at hj
      exact (hothers j s (Ne.symm e) hj).past_rowsU hg4 hgs
  · have hnew : ∀ j s, j ≠ i → rs[j]? = some s → ∀ k, s.A = some ⟨k, 0, none⟩ → A4 ≠ some ⟨k, 0, none⟩ := by
      intro j s hj hs k hk e
      have h1 := hl k e
      have hsO := h.ins s (List.mem_of_getElem? hs)
      rw [hk] at hsO
      have := hsO.ltL.2
      omega
    by_cases ea : a = i
    · subst ea
      rw [List.getElem?_set_self hil] at hs
      injection hs with hs
      subst hs
      rw [List.getElem?_set_ne hab] at ht
      intro e
      exact hnew b t (Ne.symm hab) ht k e hk
    · rw [List.getElem?_set_ne (Ne.symm ea)] at hs
      by_cases eb : b = i
      · subst eb
        rw [List.getElem?_set_self hil] at ht
        injection ht with ht
        subst ht
        exact hnew a s ea hs k hk
      · rw [List.getElem?_set_ne (Ne.symm eb)] at ht
        exact h.apart a b s t hab hs ht k hk
  · exact (hrows4.cellAt i (by simpa using hil)).trans (by rw [List.getElem?_map, hr]; rfl)
  · have hb4 : Below B w0 w4 := hb0.grown hG (by omega) fun k hk => (by cases hk)
    exact hb4.setCell (by show B ≤ g; omega) _
  · have hlt := (Array.getElem?_eq_some_iff.1 hb).1
    have n1 : some b ≠ (none : Option Nat) := by simp
    have n2 : b ≠ g := by
      intro e
      subst e
      rw [hg] at hb
      injection hb with hb; injection hb with _ hb
      exact h2 hb.symm
    exact (Below.heap_setCell _ ⟨g, i, none⟩ _ _ n2).trans ((hG.block b hlt n1).trans hb)
/-- lists of the call's own read as lists -/
theorem RowsU.reads (h : RowsU w base g rs) : IntsLL w w.heap.size (some ⟨g, 0, none⟩) rs.length (rs.map (·.L)) := by
  obtain ⟨_, cur, hg⟩ := h.heap
  refine ⟨by simp, fun _ => ⟨g, 0, rfl, lt_of_heap hg, fun k L hL => ?_⟩⟩
  rw [List.getElem?_map, Option.map_eq_some_iff] at hL
  obtain ⟨r, hr, rfl⟩ := hL
  have hO := h.ins r (List.mem_of_getElem? hr)
  rw [Nat.zero_add]
  exact ⟨r.A, r.c, (h.at_ hr).1, OwnI.len_cap hO, hO.ints⟩
end
end Go.Proofs.YtgkngimeokhhgaaDoor
/- Which instructions are reached, which registers are surely set: plain mathematics. Nothing is claimed of the program here. -/
namespace Go.Proofs.YtgkngimeokhhgaaDoor
open Go.RowKit

/-- an instruction is reached without going through one that sets a register (below 0: through all) -/
inductive Way (l : List Ji) (but : Int) : Nat → Prop
  | start : Way l but 0
  | step {i k : Nat} {x : Ji} : Way l but i → l[i]? = some x → ¬(setsJ x = true ∧ writesJ x = but) → (k : Int) ∈ nextJ x i → Way l but k
theorem Way.more {l : List Ji} {but : Int} {i : Nat} (hx : ∀ x ∈ l, ¬(setsJ x = true ∧ writesJ x = -1)) (h : Way l but i) : Way l (-1) i := by
  induction h with
  | start => exact .start
  | step _ hl _ hk ih => exact .step ih hl (hx _ (List.mem_of_getElem? hl)) hk
/-- where an instruction that may be goes on -/
theorem next_in {R A : Int} {n : Nat} {x : Ji} {i : Nat} (hm : mayJ R A n x = true) (hi : i < n) (hn : n ≤ 4096) (hl : i + 1 < n ∨ x.op = 0 ∨ x.op = 10) : ∀ k ∈ nextJ x i, 0 ≤ k ∧ k < n := by
  obtain ⟨⟨h0, h1⟩, h2, _⟩ := mayJ_parts hm
  intro k hk
  have i0 := h2 0 (by omega)
  have i2 := h2 2 (by omega)
  have hw : wrap64 ((i : Int) + 1) = (i : Int) + 1 := by unfold wrap64; omega
  unfold nextJ at hk
  rw [hw] at hk
  obtain ⟨op, a, b, c, m⟩ := x
  dsimp only at h0 h1 hk hl
  unfold InB at i0 i2
  rcases op_cases h0 h1 with rfl | rfl | rfl | rfl | rfl | rfl | rfl | rfl | rfl | rfl | rfl | rfl | rfl
  all_goals simp [kJ, kindsJ, limJ, Ji.f] at i0 i2 hk hl
  all_goals first
    | (subst hk; omega)
    | (rcases hk with rfl | rfl <;> omega)
/-- an instruction of code that may be goes on within it -/
theorem Cd.next_in {c : Cd} (h : c.may = true) {i : Nat} {x : Ji} (hx : c.l[i]? = some x) : ∀ k ∈ nextJ x i, 0 ≤ k ∧ k < c.l.length := by
  obtain ⟨⟨_, _, _, _, _, _, n0, n1⟩, h2, y, hy, hy2⟩ := Cd.may_parts h
  have hi := (List.getElem?_eq_some_iff.1 hx).1
  refine Go.Proofs.YtgkngimeokhhgaaDoor.next_in (h2 x (List.mem_of_getElem? hx)) hi n1 ?_
  by_cases hl : i + 1 < c.l.length
  · exact .inl hl
  · right
    rw [List.getLast?_eq_getElem?, show c.l.length - 1 = i by omega, hx] at hy
    injection hy with hy
    rw [hy]; exact hy2
theorem Way.lt {c : Cd} (h : c.may = true) {but : Int} {i : Nat} (hw : Way c.l but i) : i < c.l.length := by
  cases hw with
  | start => obtain ⟨⟨_, _, _, _, _, _, n0, n1⟩, _⟩ := Cd.may_parts h; omega
  | step _ hl _ hk => have := c.next_in h hl _ hk; omega
theorem mem_kJ {ks : List UInt8} {i : Nat} {k : UInt8} (h : ks[i]? = some k) : ks.getD i 32 = k := by rw [List.getD_eq_getElem?_getD, h]; rfl
/-- registers of an instruction that may be -/
theorem reads_in {R A L : Int} {x : Ji} (h : mayJ R A L x = true) : ∀ r ∈ readsJ x, 0 ≤ r ∧ r < R := by
  intro r hr
  obtain ⟨i, h1, h2⟩ := readsG_mem _ _ r hr
  obtain ⟨_, h3, _⟩ := mayJ_parts h
  have hi : i < 3 := (List.getElem?_eq_some_iff.1 h2).1
  have := h3 i hi
  unfold InB at this
  rw [mem_kJ h1, List.getD_eq_getElem?_getD, h2] at this
  exact this
theorem sets_in {R A L : Int} {x : Ji} (h : mayJ R A L x = true) (hs : setsJ x = true) : 0 ≤ writesJ x ∧ writesJ x < R := by
  obtain ⟨_, h3, _⟩ := mayJ_parts h
  have := h3 0 (by omega)
  have hk : (kJ x.op)[0]? = some 119 := by
    unfold setsJ at hs
    rw [List.head?_eq_getElem?] at hs
    exact eq_of_beq hs
  unfold InB at this
  rw [mem_kJ hk] at this
  unfold writesJ
  rw [if_pos hs]
  exact this
theorem Cd.no_minus {c : Cd} (h : c.may = true) : ∀ x ∈ c.l, ¬(setsJ x = true ∧ writesJ x = -1) := by
  intro x hx ⟨h1, h2⟩
  have := sets_in ((Cd.may_parts h).2.1 x hx) h1
  omega
theorem Way.all_ {c : Cd} (h : c.may = true) {but : Int} {i : Nat} (hw : Way c.l but i) : Way c.l (-1) i := hw.more (c.no_minus h)
theorem Way.on {c : Cd} (h : c.may = true) {i k : Nat} {x : Ji} (hw : Way c.l (-1) i) (hx : c.l[i]? = some x) (hk : (k : Int) ∈ nextJ x i) : Way c.l (-1) k :=
  .step hw hx (c.no_minus h x (List.mem_of_getElem? hx)) hk
open Classical in
/-- which instructions are reached -/
noncomputable def reachB (c : Cd) (but : Int) : List Bool := (List.range c.l.length).map fun i => decide (Way c.l but i)
open Classical in
/-- which registers are surely set ahead of an instruction -/
noncomputable def setN (c : Cd) (i : Nat) : List Int := ((List.range c.R.toNat).filter fun (n : Nat) => decide (Way c.l (-1) i ∧ ¬ Way c.l (n : Int) i)).map fun (n : Nat) => (n : Int)
noncomputable def setsN (c : Cd) : List (List Int) := (List.range c.l.length).map (setN c)
theorem mem_setN {c : Cd} {i : Nat} {n : Int} : n ∈ setN c i ↔ 0 ≤ n ∧ n < c.R ∧ Way c.l (-1) i ∧ ¬ Way c.l n i := by
  unfold setN
  rw [List.mem_map]
  constructor
  · rintro ⟨m, hm, rfl⟩
    rw [List.mem_filter, List.mem_range] at hm
    have := hm.2
    simp only [decide_eq_true_eq] at this
    exact ⟨by omega, by omega, this.1, this.2⟩
  · rintro ⟨h0, h1, h2, h3⟩
    refine ⟨n.toNat, ?_, by omega⟩
    rw [List.mem_filter, List.mem_range]
    refine ⟨by omega, ?_⟩
    simp only [decide_eq_true_eq]
    refine ⟨h2, ?_⟩
    rwa [Int.toNat_of_nonneg h0]
open Classical in
/-- the instructions that ask for what is not surely set -/
noncomputable def unsetN (c : Cd) : List Nat := (List.range c.l.length).filter fun i => decide (Way c.l (-1) i ∧ ∃ x, c.l[i]? = some x ∧ ∃ r ∈ readsJ x, r ∉ setN c i)
/-- the error of code that is checked -/
noncomputable def validE (c : Cd) : Int := if c.may = false then 1 else if unsetN c ≠ [] then 7 else if c.l.any (fun x => (x.op == 7 || x.op == 9) && decide (x.a < c.I)) then 3 else 0
open Classical in
noncomputable def loopsN (c : Cd) : List Nat := (List.range c.l.length).filter fun i => decide (Way c.l (-1) i ∧ ∃ x, c.l[i]? = some x ∧ ∃ k ∈ nextJ x i, k ≤ (i : Int))
/-- where one way has come to, and what was set on it -/
structure Goes (c : Cd) (at_ : Nat) (was : Int → Bool) : Prop where
  way : Way c.l (-1) at_
  set_ : ∀ n, 0 ≤ n → n < c.R → was n = false → Way c.l n at_
theorem Goes.start (c : Cd) : Goes c 0 (fun _ => false) := ⟨.start, fun _ _ _ _ => .start⟩
theorem Goes.was {c : Cd} {at_ : Nat} {was : Int → Bool} (h : Goes c at_ was) : ∀ n ∈ setN c at_, was n = true := by
  intro n hn
  obtain ⟨h0, h1, _, h3⟩ := mem_setN.1 hn
  cases e : was n with
  | true => rfl
  | false => exact absurd (h.set_ n h0 h1 e) h3
theorem Goes.reads {c : Cd} (hf : unsetN c = []) {at_ : Nat} {was : Int → Bool} (h : Goes c at_ was) {x : Ji} (hx : c.l[at_]? = some x) : ∀ r ∈ readsJ x, was r = true := by
  intro r hr
  refine h.was r ?_
  apply Classical.byContradiction
  intro hn
  have : at_ ∈ unsetN c := by
    unfold unsetN
    rw [List.mem_filter, List.mem_range]
    exact ⟨(List.getElem?_eq_some_iff.1 hx).1, by simp only [decide_eq_true_eq]; exact ⟨h.way, x, hx, r, hr, hn⟩⟩
  rw [hf] at this
  cases this
/-- what was set, with what an instruction sets -/
def wasX (x : Ji) (was : Int → Bool) : Int → Bool := fun n => if setsJ x = true ∧ writesJ x = n then true else was n
theorem Goes.step {c : Cd} (hm : c.may = true) {at_ k : Nat} {was : Int → Bool} (h : Goes c at_ was) {x : Ji} (hx : c.l[at_]? = some x) (hk : (k : Int) ∈ nextJ x at_) : Goes c k (wasX x was) := by
  refine ⟨h.way.on hm hx hk, fun n h0 h1 hn => ?_⟩
  unfold wasX at hn
  split at hn
  · cases hn
  · rename_i hs
    exact .step (h.set_ n h0 h1 hn) hx hs hk
/-- code without loops goes on behind each time -/
theorem loops_none {c : Cd} (hl : loopsN c = []) {i : Nat} (hw : Way c.l (-1) i) {x : Ji} (hx : c.l[i]? = some x) : ∀ k ∈ nextJ x i, (i : Int) < k := by
  intro k hk
  apply Classical.byContradiction
  intro hn
  have : i ∈ loopsN c := by
    unfold loopsN
    rw [List.mem_filter, List.mem_range]
    exact ⟨(List.getElem?_eq_some_iff.1 hx).1, by simp only [decide_eq_true_eq]; exact ⟨hw, x, hx, k, hk, by omega⟩⟩
  rw [hl] at this
  cases this
end Go.Proofs.YtgkngimeokhhgaaDoor
/- Code put further on: plain mathematics. Nothing is claimed of the program here. -/
namespace Go.Proofs.YtgkngimeokhhgaaDoor
open Go.RowKit

theorem wrap_small {v : Int} (h0 : 0 ≤ v) (h1 : v ≤ 100000) : wrap64 v = v := by unfold wrap64; omega
theorem shiftJ_op (b : Int) (x : Ji) : (shiftJ b x).op = x.op := by
  unfold shiftJ
  split
  · rfl
  · split <;> rfl
theorem shiftJ_n (b : Int) (x : Ji) : (shiftJ b x).n = x.n := by
  unfold shiftJ
  split
  · rfl
  · split <;> rfl
/-- what an instruction that may be is, put further on: no number goes around -/
theorem shiftJ_eq {R A : Int} {n : Nat} {x : Ji} (h : mayJ R A n x = true) (hn : n ≤ 4096) {b : Nat} (hb : b ≤ 4096) :
    shiftJ b x = ⟨x.op, if x.op = 10 then x.a + b else x.a, x.b, if x.op = 11 ∨ x.op = 12 then x.c + b else x.c, x.n⟩ := by
  obtain ⟨_, h2, _⟩ := mayJ_parts h
  have i0 := h2 0 (by omega)
  have i2 := h2 2 (by omega)
  obtain ⟨op, a, bb, c, m⟩ := x
  unfold InB at i0 i2
  unfold shiftJ
  dsimp only
  split
  · rename_i ho
    subst ho
    simp [kJ, kindsJ, limJ, Ji.f] at i0 i2
    rw [wrap_small (by omega) (by omega)]
    simp
  · rename_i ho
    split
    · rename_i ho2
      have hc : 0 ≤ c ∧ c < n := by
        rcases ho2 with rfl | rfl <;> (simp [kJ, kindsJ, limJ, Ji.f] at i2; exact i2)
      rw [wrap_small (by omega) (by omega)]
    · rfl
theorem shiftJ_reads {R A : Int} {n : Nat} {x : Ji} (h : mayJ R A n x = true) (hn : n ≤ 4096) {b : Nat} (hb : b ≤ 4096) : readsJ (shiftJ b x) = readsJ x ∧ setsJ (shiftJ b x) = setsJ x ∧ writesJ (shiftJ b x) = writesJ x := by
  rw [shiftJ_eq h hn hb]
  obtain ⟨⟨h0, h1⟩, _⟩ := mayJ_parts h
  obtain ⟨op, a, bb, c, m⟩ := x
  dsimp only at h0 h1
  rcases op_cases h0 h1 with rfl | rfl | rfl | rfl | rfl | rfl | rfl | rfl | rfl | rfl | rfl | rfl | rfl <;> exact ⟨rfl, rfl, rfl⟩
theorem shiftJ_next {R A : Int} {n : Nat} {x : Ji} (h : mayJ R A n x = true) (hn : n ≤ 4096) {b : Nat} (hb : b ≤ 4096) {i : Nat} (hi : i ≤ 8192) : nextJ (shiftJ b x) ((b + i : Nat) : Int) = (nextJ x i).map (· + (b : Int)) := by
  rw [shiftJ_eq h hn hb]
  obtain ⟨⟨h0, h1⟩, _⟩ := mayJ_parts h
  have w1 : wrap64 (((b + i : Nat) : Int) + 1) = ((b + i : Nat) : Int) + 1 := wrap_small (by omega) (by omega)
  have w2 : wrap64 ((i : Int) + 1) = (i : Int) + 1 := wrap_small (by omega) (by omega)
  obtain ⟨op, a, bb, c, m⟩ := x
  dsimp only at h0 h1
  unfold nextJ
  rw [w1, w2]
  rcases op_cases h0 h1 with rfl | rfl | rfl | rfl | rfl | rfl | rfl | rfl | rfl | rfl | rfl | rfl | rfl <;> simp <;> omega
theorem shift_l (c : Cd) (b : Nat) : (c.shift b).l = jumpsJ b ++ c.l.map (shiftJ b) := by show jumpsJ ((b : Int)).toNat ++ _ = _; rw [Int.toNat_natCast]
theorem shift_length (c : Cd) (b : Nat) : (c.shift b).l.length = b + c.l.length := by rw [shift_l, List.length_append, jumpsJ_length, List.length_map]
theorem shift_jump (c : Cd) {b k : Nat} (h : k < b) : (c.shift b).l[k]? = some ⟨10, ((k + 1 : Nat) : Int), 0, 0, 0⟩ := by
  rw [shift_l, List.getElem?_append_left (by rw [jumpsJ_length]; exact h)]
  unfold jumpsJ
  rw [List.getElem?_map, List.getElem?_range h]
  rfl
theorem shift_at (c : Cd) (b i : Nat) : (c.shift b).l[b + i]? = c.l[i]?.map (shiftJ b) := by
  rw [shift_l, List.getElem?_append_right (by rw [jumpsJ_length]; omega), jumpsJ_length, List.getElem?_map, show b + i - b = i by omega]
section
variable {c : Cd} (h : c.may = true) {b : Nat} (hb : b ≤ 4096)
include h hb
theorem way_shift {but : Int} {i : Nat} : Way (c.shift b).l but (b + i) ↔ Way c.l but i := by
  have hn := (Cd.may_parts h).1.2.2.2.2.2.2.2
  constructor
  · intro hw
    have : ∀ k, Way (c.shift b).l but k → ∀ i, k = b + i → Way c.l but i := by
      intro k hk
      induction hk with
      | start =>
        intro i hi
        have : i = 0 := by omega
        subst this
        exact .start
      | @step j k x hj hx hs hk ih =>
        intro i hi
        by_cases hjb : j < b
        · rw [shift_jump c hjb] at hx
          injection hx with hx
          subst hx
          have hk2 : (k : Int) = ((j + 1 : Nat) : Int) := by simpa [nextJ] using hk
          have : i = 0 := by omega
          subst this
          exact .start
        · obtain ⟨m, rfl⟩ : ∃ m, j = b + m := ⟨j - b, by omega⟩
          rw [shift_at] at hx
          cases e : c.l[m]? with
          | none => rw [e] at hx; cases hx
          | some y =>
            rw [e] at hx
            simp only [Option.map_some, Option.some.injEq] at hx
            subst hx
            have hm := (Cd.may_parts h).2.1 y (List.mem_of_getElem? e)
            have hml := (List.getElem?_eq_some_iff.1 e).1
            obtain ⟨r1, r2, r3⟩ := shiftJ_reads hm hn hb
            rw [r2, r3] at hs
            rw [shiftJ_next hm hn hb (by omega), List.mem_map] at hk
            obtain ⟨z, hz, hzk⟩ := hk
            refine .step (ih m rfl) e hs ?_
            have : z = (i : Int) := by omega
            rw [← this]; exact hz
    exact this _ hw i rfl
  · intro hw
    have h0 : ∀ k, k ≤ b → Way (c.shift b).l but k := by
      intro k
      induction k with
      | zero => intro _; exact .start
      | succ k ih =>
        intro hk
        refine .step (ih (by omega)) (shift_jump c (by omega)) ?_ ?_
        · rintro ⟨h1, _⟩
          exact absurd h1 (by simp [setsJ, kJ, kindsJ])
        · simp [nextJ]
    induction hw with
    | start => exact h0 b (Nat.le_refl _)
    | @step j k x hj hx hs hk ih =>
      have hm := (Cd.may_parts h).2.1 x (List.mem_of_getElem? hx)
      have hml := (List.getElem?_eq_some_iff.1 hx).1
      obtain ⟨r1, r2, r3⟩ := shiftJ_reads hm hn hb
      refine .step (x := shiftJ b x) ih (by rw [shift_at, hx]; rfl) (by rw [r2, r3]; exact hs) ?_
      rw [shiftJ_next hm hn hb (by omega), List.mem_map]
      exact ⟨k, hk, by omega⟩
omit h hb in
theorem way_jump {but : Int} {k : Nat} (hk : k < b) : Way (c.shift b).l but k := by
  induction k with
  | zero => exact .start
  | succ k ih =>
    refine .step (ih (by omega)) (shift_jump c (by omega)) ?_ ?_
    · rintro ⟨h1, _⟩
      exact absurd h1 (by simp [setsJ, kJ, kindsJ])
    · simp [nextJ]
theorem set_shift (i : Nat) : setN (c.shift b) (b + i) = setN c i := by
  unfold setN
  show ((List.range c.R.toNat).filter _).map _ = _
  congr 1
  refine List.filter_congr fun n _ => ?_
  rw [decide_eq_decide, way_shift h hb, way_shift h hb]
omit h hb in
theorem set_jump {k : Nat} (hk : k < b) : setN (c.shift b) k = [] := by
  cases e : setN (c.shift b) k with
  | nil => rfl
  | cons n r =>
    have := mem_setN.1 (show n ∈ setN (c.shift b) k by rw [e]; simp)
    exact absurd (way_jump hk) this.2.2.2
end
theorem filter_range_add (p : Nat → Bool) (q : Nat → Bool) (b n : Nat) (h1 : ∀ k, k < b → p k = false) (h2 : ∀ i, i < n → p (b + i) = q i) : (List.range (b + n)).filter p = ((List.range n).filter q).map (b + ·) := by
  rw [List.range_add, List.filter_append, List.filter_map]
  have e1 : (List.range b).filter p = [] := List.filter_eq_nil_iff.2 fun k hk => by rw [h1 k (List.mem_range.1 hk)]; simp
  rw [e1, List.nil_append]
  congr 1
  exact List.filter_congr fun i hi => h2 i (List.mem_range.1 hi)
section
variable {c : Cd} (h : c.may = true) {b : Nat} (hb : b ≤ 4096)
include h hb
theorem unset_shift : unsetN (c.shift b) = (unsetN c).map (b + ·) := by
  have hn := (Cd.may_parts h).1.2.2.2.2.2.2.2
  unfold unsetN
  rw [shift_length]
  refine filter_range_add _ _ _ _ (fun k hk => ?_) (fun i hi => ?_)
  · simp only [decide_eq_false_iff_not]
    rintro ⟨_, x, hx, r, hr, _⟩
    rw [shift_jump c hk] at hx
    injection hx with hx
    subst hx
    exact absurd hr (by simp [readsJ, kJ, kindsJ, readsG, Ji.f])
  · rw [decide_eq_decide, way_shift h hb, shift_at, set_shift h hb]
    constructor
    · rintro ⟨h1, x, hx, r, hr, hs⟩
      cases e : c.l[i]? with
      | none => rw [e] at hx; cases hx
      | some y =>
        rw [e] at hx
        simp only [Option.map_some, Option.some.injEq] at hx
        subst hx
        have hm := (Cd.may_parts h).2.1 y (List.mem_of_getElem? e)
        rw [(shiftJ_reads hm hn hb).1] at hr
        exact ⟨h1, y, rfl, r, hr, hs⟩
    · rintro ⟨h1, y, hy, r, hr, hs⟩
      have hm := (Cd.may_parts h).2.1 y (List.mem_of_getElem? hy)
      exact ⟨h1, shiftJ b y, by rw [hy]; rfl, r, by rw [(shiftJ_reads hm hn hb).1]; exact hr, hs⟩
theorem loops_shift : loopsN (c.shift b) = (loopsN c).map (b + ·) := by
  have hn := (Cd.may_parts h).1.2.2.2.2.2.2.2
  unfold loopsN
  rw [shift_length]
  refine filter_range_add _ _ _ _ (fun k hk => ?_) (fun i hi => ?_)
  · simp only [decide_eq_false_iff_not]
    rintro ⟨_, x, hx, r, hr, hle⟩
    rw [shift_jump c hk] at hx
    injection hx with hx
    subst hx
    have : r = ((k + 1 : Nat) : Int) := by simpa [nextJ] using hr
    omega
  · rw [decide_eq_decide, way_shift h hb, shift_at]
    constructor
    · rintro ⟨h1, x, hx, r, hr, hs⟩
      cases e : c.l[i]? with
      | none => rw [e] at hx; cases hx
      | some y =>
        rw [e] at hx
        simp only [Option.map_some, Option.some.injEq] at hx
        subst hx
        have hm := (Cd.may_parts h).2.1 y (List.mem_of_getElem? e)
        rw [shiftJ_next hm hn hb (by omega), List.mem_map] at hr
        obtain ⟨z, hz, rfl⟩ := hr
        exact ⟨h1, y, rfl, z, hz, by omega⟩
    · rintro ⟨h1, y, hy, r, hr, hs⟩
      have hm := (Cd.may_parts h).2.1 y (List.mem_of_getElem? hy)
      exact ⟨h1, shiftJ b y, by rw [hy]; rfl, r + b, by rw [shiftJ_next hm hn hb (by omega), List.mem_map]; exact ⟨r, hr, rfl⟩, by omega⟩
end
theorem mayJ_intro {R A L : Int} {x : Ji} (h0 : 0 ≤ x.op ∧ x.op ≤ 12) (h : ∀ j, j < 3 → InB R A L x j) (h3 : (110 : UInt8) ∈ kJ x.op → -1000000000000000000 < x.n ∧ x.n < 1000000000000000000) (h4 : (110 : UInt8) ∉ kJ x.op → x.n = 0) : mayJ R A L x = true := by
  rw [mayJ_yes h0 h]
  split
  · rename_i hm
    exact decide_eq_true (h3 hm)
  · rename_i hm
    exact decide_eq_true (h4 hm)
theorem mayJ_shift {R A : Int} {n : Nat} {x : Ji} (h : mayJ R A n x = true) (hn : n ≤ 4096) {b : Nat} (hb : b ≤ 4096) : mayJ R A ((b + n : Nat) : Int) (shiftJ b x) = true := by
  rw [shiftJ_eq h hn hb]
  obtain ⟨h0, h2, h3, h4⟩ := mayJ_parts h
  refine mayJ_intro h0 (fun j hj => ?_) h3 h4
  have i := h2 j hj
  obtain ⟨op, a, bb, c, m⟩ := x
  dsimp only at h0
  unfold InB at i ⊢
  match j, hj with
  | 0, _ => rcases op_cases h0.1 h0.2 with rfl | rfl | rfl | rfl | rfl | rfl | rfl | rfl | rfl | rfl | rfl | rfl | rfl <;> (simp [kJ, kindsJ, limJ, Ji.f] at i ⊢; omega)
  | 1, _ => rcases op_cases h0.1 h0.2 with rfl | rfl | rfl | rfl | rfl | rfl | rfl | rfl | rfl | rfl | rfl | rfl | rfl <;> (simp [kJ, kindsJ, limJ, Ji.f] at i ⊢; omega)
  | 2, _ => rcases op_cases h0.1 h0.2 with rfl | rfl | rfl | rfl | rfl | rfl | rfl | rfl | rfl | rfl | rfl | rfl | rfl <;> (simp [kJ, kindsJ, limJ, Ji.f] at i ⊢; omega)
theorem mayJ_jump {R A : Int} {n k : Nat} (h : k + 1 < n) : mayJ R A n ⟨10, ((k + 1 : Nat) : Int), 0, 0, 0⟩ = true := by
  refine mayJ_intro (by simp) (fun j hj => ?_) (fun h => absurd h (by simp [kJ, kindsJ])) (fun _ => rfl)
  unfold InB
  match j, hj with
  | 0, _ => simp [kJ, kindsJ, limJ, Ji.f]; omega
  | 1, _ => simp [kJ, kindsJ, limJ, Ji.f]
  | 2, _ => simp [kJ, kindsJ, limJ, Ji.f]
theorem mem_shift {c : Cd} {b : Nat} {x : Ji} (hx : x ∈ (c.shift b).l) : (∃ k, k < b ∧ x = ⟨10, ((k + 1 : Nat) : Int), 0, 0, 0⟩) ∨ ∃ y ∈ c.l, x = shiftJ b y := by
  rw [shift_l] at hx
  rcases List.mem_append.1 hx with hx | hx
  · left
    unfold jumpsJ at hx
    obtain ⟨k, hk, rfl⟩ := List.mem_map.1 hx
    exact ⟨k, List.mem_range.1 hk, rfl⟩
  · right
    obtain ⟨y, hy, rfl⟩ := List.mem_map.1 hx
    exact ⟨y, hy, rfl⟩
/-- code that is put further on may be -/
theorem shift_may {c : Cd} (h : c.may = true) {b : Nat} (hb : c.l.length + b ≤ 4096) : (c.shift b).may = true := by
  obtain ⟨⟨r0, r1, a0, a1, i0, i1, n0, n1⟩, h2, y, hy, hy2⟩ := Cd.may_parts h
  unfold Cd.may
  rw [Bool.and_eq_true, Bool.and_eq_true]
  refine ⟨⟨decide_eq_true ⟨r0, r1, a0, a1, i0, i1, by rw [shift_length]; omega, by rw [shift_length]; omega⟩, List.all_eq_true.2 fun x hx => ?_⟩, ?_⟩
  · rw [shift_length]
    show mayJ c.R c.A ((b + c.l.length : Nat) : Int) x = true
    rcases mem_shift hx with ⟨k, hk, rfl⟩ | ⟨z, hz, rfl⟩
    · exact mayJ_jump (by omega)
    · exact mayJ_shift (h2 z hz) n1 (by omega)
  · have : (c.shift b).l.getLast? = some (shiftJ b y) := by
      rw [List.getLast?_eq_getElem?, shift_length, show b + c.l.length - 1 = b + (c.l.length - 1) by omega, shift_at]
      rw [List.getLast?_eq_getElem?] at hy
      rw [hy]; rfl
    rw [this]
    show decide ((shiftJ b y).op = 0 ∨ (shiftJ b y).op = 10) = true
    rw [shiftJ_op]
    exact decide_eq_true hy2
theorem shiftJ_two {R A : Int} {n : Nat} {x : Ji} (h : mayJ R A n x = true) (hn : n ≤ 4096) {a b : Nat} (hab : n + (a + b) ≤ 4096) : shiftJ b (shiftJ a x) = shiftJ ((a + b : Nat) : Int) x := by
  have h1 := mayJ_shift h hn (b := a) (by omega)
  rw [shiftJ_eq h1 (by omega) (by omega), shiftJ_eq h hn (by omega), shiftJ_eq h hn (b := a + b) (by omega)]
  obtain ⟨op, a', bb, c, m⟩ := x
  dsimp only
  congr 1
  · split <;> omega
  · split <;> omega
/-- put further on twice -/
theorem shift_shift {c : Cd} (h : c.may = true) {a b : Nat} (hab : c.l.length + (a + b) ≤ 4096) : (c.shift a).shift b = c.shift ((a + b : Nat) : Int) := by
  obtain ⟨⟨r0, r1, a0, a1, i0, i1, n0, n1⟩, h2, _⟩ := Cd.may_parts h
  have e : ((c.shift a).shift b).l = (c.shift ((a + b : Nat) : Int)).l := by
    refine List.ext_getElem? fun k => ?_
    by_cases hk : k < b
    · rw [shift_jump _ hk, shift_jump _ (by omega)]
    · obtain ⟨m, rfl⟩ : ∃ m, k = b + m := ⟨k - b, by omega⟩
      rw [shift_at]
      by_cases hm : m < a
      · rw [shift_jump _ hm, shift_jump _ (by omega)]
        show some (shiftJ (b : Int) ⟨10, ((m + 1 : Nat) : Int), 0, 0, 0⟩) = _
        unfold shiftJ
        rw [if_pos rfl]
        show some (⟨10, wrap64 (((m + 1 : Nat) : Int) + (b : Int)), 0, 0, 0⟩ : Ji) = _
        rw [wrap_small (v := ((m + 1 : Nat) : Int) + (b : Int)) (by omega) (by omega), show ((m + 1 : Nat) : Int) + (b : Int) = ((b + m + 1 : Nat) : Int) by omega]
      · obtain ⟨i, rfl⟩ : ∃ i, m = a + i := ⟨m - a, by omega⟩
        rw [shift_at, show b + (a + i) = (a + b) + i by omega, shift_at, Option.map_map]
        cases e : c.l[i]? with
        | none => rfl
        | some x =>
          show some (shiftJ b (shiftJ a x)) = some (shiftJ _ x)
          rw [shiftJ_two (h2 x (List.mem_of_getElem? e)) n1 hab]
  show (⟨c.R, c.A, c.I, ((c.shift a).shift b).l⟩ : Cd) = ⟨c.R, c.A, c.I, (c.shift ((a + b : Nat) : Int)).l⟩
  rw [e]
theorem any_same {l : List Ji} {p q : Ji → Bool} (h : ∀ x ∈ l, p x = q x) : l.any p = l.any q := by
  induction l with
  | nil => rfl
  | cons x l ih => rw [List.any_cons, List.any_cons, h x (by simp), ih fun y hy => h y (by simp [hy])]
/-- whether code is checked, further on -/
theorem valid_shift {c : Cd} (h : c.may = true) {b : Nat} (hb : c.l.length + b ≤ 4096) : validE (c.shift b) = validE c := by
  obtain ⟨⟨r0, r1, a0, a1, i0, i1, n0, n1⟩, h2, _⟩ := Cd.may_parts h
  have hu := unset_shift h (b := b) (by omega)
  have hany : (c.shift b).l.any (fun x => (x.op == 7 || x.op == 9) && decide (x.a < (c.shift b).I)) = c.l.any (fun x => (x.op == 7 || x.op == 9) && decide (x.a < c.I)) := by
    show (c.shift b).l.any (fun x => (x.op == 7 || x.op == 9) && decide (x.a < c.I)) = _
    rw [shift_l, List.any_append]
    have e1 : (jumpsJ b).any (fun x => (x.op == 7 || x.op == 9) && decide (x.a < c.I)) = false := by
      rw [List.any_eq_false]
      intro x hx
      unfold jumpsJ at hx
      obtain ⟨k, _, rfl⟩ := List.mem_map.1 hx
      simp
    rw [e1, Bool.false_or, List.any_map]
    refine any_same fun x hx => ?_
    show (((shiftJ b x).op == 7 || (shiftJ b x).op == 9) && decide ((shiftJ b x).a < c.I)) = ((x.op == 7 || x.op == 9) && decide (x.a < c.I))
    rw [shiftJ_op]
    by_cases h79 : x.op = 7 ∨ x.op = 9
    · have : (shiftJ b x).a = x.a := by
        rw [shiftJ_eq (h2 x hx) n1 (by omega)]
        show (if x.op = 10 then _ else x.a) = x.a
        rw [if_neg (by omega)]
      rw [this]
    · have e : (x.op == 7 || x.op == 9) = false := by simp; omega
      rw [e]; rfl
  unfold validE
  rw [shift_may h hb, h, hu, hany]
  simp
end Go.Proofs.YtgkngimeokhhgaaDoor
