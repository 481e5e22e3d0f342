/- Slices of children: how they read, those of the call's own, and one more behind them. -/
import Derived.Test.YteepiifhmbcciaaG4
import Derived.Test.YteepiifhmbcciaaG1
import Derived.Below
import Derived.Lib.Hide
import Derived.Test.YteepiifhmbcciaaProg
import Derived.WalkKit
import Derived.Deep.QuietTactic
import Derived.BigQuiet
import Derived.WalkLawsBesides
import Derived.WalkSpells
import Derived.Test.YteepiifhmbcciaaG3
import Derived.Laws.OwnMore
import Derived.Lib.QuietBelow
namespace Go.Proofs.Yteepiifhmbcciaa
open Go.RowKit

def chCells (L : List (Int × Int)) : List Value := L.flatMap fun x => [.int .i64 x.1, .int .i64 x.2]
theorem chCells_nil : chCells [] = [] := rfl
theorem chCells_append (L M : List (Int × Int)) : chCells (L ++ M) = chCells L ++ chCells M := by simp [chCells]
theorem chCells_length (L : List (Int × Int)) : (chCells L).length = L.length * 2 := by
  induction L with
  | nil => rfl
  | cons x L ih => show (([_, _] : List Value) ++ chCells L).length = _; rw [List.length_append, ih]; simp; omega
theorem chCells_at {L : List (Int × Int)} {k : Nat} {x : Int × Int} (h : L[k]? = some x) : (chCells L)[k * 2]? = some (.int .i64 x.1) ∧ (chCells L)[k * 2 + 1]? = some (.int .i64 x.2) := by
  induction L generalizing k with
  | nil => simp at h
  | cons y L ih =>
    have hc : chCells (y :: L) = .int .i64 y.1 :: .int .i64 y.2 :: chCells L := rfl
    cases k with
    | zero => simp at h; subst h; rw [hc]; exact ⟨rfl, rfl⟩
    | succ k =>
      have := ih (k := k) (by simpa using h)
      rw [hc, show (k + 1) * 2 = k * 2 + 1 + 1 by omega, show k * 2 + 1 + 1 + 1 = (k * 2 + 1) + 1 + 1 by omega]
      exact this
def FitC (L : List (Int × Int)) : Prop := ∀ x ∈ L, (-9223372036854775808 ≤ x.1 ∧ x.1 ≤ 9223372036854775807) ∧ (-9223372036854775808 ≤ x.2 ∧ x.2 ≤ 9223372036854775807)
/-- the header (A, n) leads to the children L, in blocks below B -/
def Chs (w : World) (B : Nat) (A : Option Addr) (n : Nat) (L : List (Int × Int)) : Prop :=
  L.length = n ∧ FitC L ∧ (0 < n → ∃ b off, A = some ⟨b, off, none⟩ ∧ b < B ∧ ∀ (k : Nat) (x : Int × Int), L[k]? = some x → w.cell? ⟨b, off + k * 2, none⟩ = some (.int .i64 x.1) ∧ w.cell? ⟨b, off + k * 2 + 1, none⟩ = some (.int .i64 x.2))
theorem Chs.at_ {w : World} {B n k : Nat} {A : Option Addr} {L : List (Int × Int)} (h : Chs w B A n L) (hk : k < n) :
    ∃ b off x, A = some ⟨b, off, none⟩ ∧ b < B ∧ Hid (L[k]? = some x) ∧ w.cell? ⟨b, off + k * 2, none⟩ = some (.int .i64 x.1) ∧ w.cell? ⟨b, off + k * 2 + 1, none⟩ = some (.int .i64 x.2) ∧ (-9223372036854775808 ≤ x.1 ∧ x.1 ≤ 9223372036854775807) ∧ (-9223372036854775808 ≤ x.2 ∧ x.2 ≤ 9223372036854775807) := by
  obtain ⟨hl, hb, hc⟩ := h
  obtain ⟨b, off, rfl, hB, hx⟩ := hc (by omega)
  have hk' : k < L.length := by omega
  have := hx k _ (List.getElem?_eq_getElem hk')
  have hf := hb _ (List.getElem_mem hk')
  exact ⟨b, off, L[k], rfl, hB, List.getElem?_eq_getElem hk', this.1, this.2, hf.1, hf.2⟩
theorem Chs.below {w w' : World} {B n : Nat} {A : Option Addr} {L : List (Int × Int)} (h : Chs w B A n L) (hb : Below B w w') : Chs w' B A n L := by
  refine ⟨h.1, h.2.1, fun h0 => ?_⟩
  obtain ⟨b, off, rfl, hB, hx⟩ := h.2.2 h0
  exact ⟨b, off, rfl, hB, fun k x hk => ⟨(hb.cell (p := ⟨b, off + k * 2, none⟩) hB).trans (hx k x hk).1, (hb.cell (p := ⟨b, off + k * 2 + 1, none⟩) hB).trans (hx k x hk).2⟩⟩
theorem Chs.more {w : World} {B B' n : Nat} {A : Option Addr} {L : List (Int × Int)} (h : Chs w B A n L) (hb : B ≤ B') : Chs w B' A n L := by
  refine ⟨h.1, h.2.1, fun h0 => ?_⟩
  obtain ⟨b, off, rfl, hB, hx⟩ := h.2.2 h0
  exact ⟨b, off, rfl, by omega, hx⟩
theorem Chs.nil_ (w : World) (B : Nat) (A : Option Addr) : Chs w B A 0 [] := ⟨rfl, (fun x hx => by cases hx), fun h => absurd h (by omega)⟩

end Go.Proofs.Yteepiifhmbcciaa
/- The contracts of level's Below, of and Children. -/
namespace Go.Proofs.Yteepiifhmbcciaa
open Go.RowKit

/-- the level's lists as they lie -/
structure LvI (w : World) (A : Option Addr) (n : Nat) (B : Option Addr) (m : Nat) (xs ys : List Int) : Prop where
  pos : Ints w w.heap.size A n xs
  crd : Ints w w.heap.size B m ys
  n1 : n ≤ 9223372036854775807
  m1 : m ≤ 9223372036854775807
theorem LvI.below {w w' : World} {A B : Option Addr} {n m : Nat} {xs ys : List Int} (h : LvI w A n B m xs ys) (hb : Below w.heap.size w w') : LvI w' A n B m xs ys :=
  ⟨(h.pos.below hb).more hb.size, (h.crd.below hb).more hb.size, h.n1, h.m1⟩

set_option maxRecDepth 100000 in
theorem below_err (K S a E : Int) (A B : Option Addr) (n c m e : Nat) (xs ys : List Int) (w : World) (h : LvI w A n B m xs ys) (hE : lvF K S xs ys a = E) (h0 : E ≠ 0) :
    Calls Try.prog 49 #[lvV K S A n c B m e, .int .i64 a] w fun x w' => x = .returned (.tuple #[.int .i64 0, .int .i64 E]) ∧ Below w.heap.size w w' := by
  have HC := fun W (hb : Below w.heap.size w W) => lvCheck_any K S a A B n c m e xs ys W (h.below hb).pos h.n1 (h.below hb).crd h.m1
  rw [hE] at HC
  have z0 := lvBelow w (lvO K S A n c B m e)
  have e1 : (E == 0) = false := by simpa using h0
  have e2 : (E != 0) = true := by simpa using h0
  clear hE h0
  go_enter Try.func49, Try.ntmps49
  go_wp2_with (go_at_call 72; refine (HC _ z0).mono ?_; rintro x w1 ⟨rfl, hb1⟩; have hb2 := z0.trans (hb1.mono z0.size))
  go_ret2
  exact ⟨rfl, hb2⟩

theorem totN_eq {K S : Int} {ys : List Int} {a : Nat} (hs : 0 ≤ S) : manyF K S ys a = ((totN K S ys a : Nat) : Int) := by
  unfold manyF totN
  split
  · rw [Int.natCast_mul, Int.toNat_of_nonneg hs]
  · rfl
set_option maxRecDepth 100000 in
theorem below_ok (K S : Int) (a : Nat) (A B : Option Addr) (n c m e : Nat) (xs ys : List Int) (w : World) (h : LvI w A n B m xs ys) (hE : lvF K S xs ys a = 0) :
    Calls Try.prog 49 #[lvV K S A n c B m e, .int .i64 a] w fun x w' => x = .returned (.tuple #[.int .i64 (totN K S ys a : Nat), .int .i64 0]) ∧ Below w.heap.size w w' := by
  have HC := fun W (hb : Below w.heap.size w W) => lvCheck_any K S a A B n c m e xs ys W (h.below hb).pos h.n1 (h.below hb).crd h.m1
  rw [hE] at HC
  obtain ⟨b, hab, HL⟩ := lok_of hE
  obtain rfl : b = a := by omega
  have HM := fun W => many_any K S (b : Int) A B n c m e ys W h.crd.1 h.m1 (by omega) (by have := HL.ahead; omega) HL.size0 HL.size1
  rw [totN_eq HL.size0] at HM
  have z0 := lvBelow w (lvO K S A n c B m e)
  have zz := heap_alloc_new w (lvO K S A n c B m e)
  clear hE HL hab
  go_enter Try.func49, Try.ntmps49
  go_wp2_with (first | (go_at_call 72; refine (HC _ z0).mono ?_; rintro x w1 ⟨rfl, hb1⟩; have hb2 := z0.trans (hb1.mono z0.size); obtain ⟨k0, k1, k2, k3, _⟩ := lvCells (oKeep hb1 zz)) | (go_at_call 73; refine (HM _).mono ?_; rintro x w3 ⟨rfl, hb3⟩; have hb4 := hb2.trans (hb3.mono hb2.size)))
  go_ret2
  exact ⟨rfl, hb4⟩

/-- the children of p -/
def kidsUpto (K S : Int) (xs ys : List Int) (p q : Nat) : List (Int × Int) := (List.range q).map fun i => (atN K S ys (offN K S xs p + i), ((offN K S xs p + i : Nat) : Int))
def kids (K S : Int) (xs ys : List Int) (p : Nat) : List (Int × Int) := kidsUpto K S xs ys p (offN K S xs (p + 1) - offN K S xs p)
theorem kidsUpto_length (K S : Int) (xs ys : List Int) (p q : Nat) : (kidsUpto K S xs ys p q).length = q := by simp [kidsUpto]
theorem kidsUpto_succ (K S : Int) (xs ys : List Int) (p q : Nat) : kidsUpto K S xs ys p (q + 1) = kidsUpto K S xs ys p q ++ [(atN K S ys (offN K S xs p + q), ((offN K S xs p + q : Nat) : Int))] := by simp [kidsUpto, List.range_succ]
theorem kids_length (K S : Int) (xs ys : List Int) (p : Nat) : (kids K S xs ys p).length = offN K S xs (p + 1) - offN K S xs p := kidsUpto_length _ _ _ _ _ _
theorem kids_at {K S : Int} {xs ys : List Int} {p i : Nat} (hi : i < offN K S xs (p + 1) - offN K S xs p) : (kids K S xs ys p)[i]? = some (atN K S ys (offN K S xs p + i), ((offN K S xs p + i : Nat) : Int)) := by
  unfold kids kidsUpto
  rw [List.getElem?_map, List.getElem?_range hi]; rfl

end Go.Proofs.Yteepiifhmbcciaa
/- Specs: how a form's levels read. -/
namespace Go.Proofs.Yteepiifhmbcciaa
open Go.RowKit

/-- a level of a form: its kind, its mode, a block's size -/
structure Sp where
  k : Int
  m : Int
  s : Int
def Sp.val (t : Sp) : Value := .agg #[.int .i64 t.k, .int .i64 t.m, .int .i64 t.s]
def Sp.ok (t : Sp) : Prop := -9223372036854775808 ≤ t.k ∧ t.k ≤ 9223372036854775807 ∧ -9223372036854775808 ≤ t.m ∧ t.m ≤ 9223372036854775807 ∧ -9223372036854775808 ≤ t.s ∧ t.s ≤ 9223372036854775807
/-- the header (A, n) leads to the specs fs, in blocks below B -/
def Specs (w : World) (B : Nat) (A : Option Addr) (n : Nat) (fs : List Sp) : Prop :=
  fs.length = n ∧ (∀ x ∈ fs, x.ok) ∧
  (0 < n → ∃ b off, A = some ⟨b, off, none⟩ ∧ b < B ∧ ∀ (k : Nat) (x : Sp), fs[k]? = some x → w.cell? ⟨b, off + k * 3, none⟩ = some (.int .i64 x.k) ∧ w.cell? ⟨b, off + k * 3 + 1, none⟩ = some (.int .i64 x.m) ∧ w.cell? ⟨b, off + k * 3 + 2, none⟩ = some (.int .i64 x.s))
section
variable {w w' : World} {B B' n : Nat} {A : Option Addr} {fs : List Sp}
theorem Specs.nil_ : Specs w B A 0 [] := ⟨rfl, by simp, fun h => absurd h (by omega)⟩
theorem Specs.keep (h : Specs w B A n fs) (hk : ∀ p : Addr, p.block < B → w'.cell? p = w.cell? p) : Specs w' B A n fs := by
  obtain ⟨hl, hb, hc⟩ := h
  refine ⟨hl, hb, fun hn => ?_⟩
  obtain ⟨b, off, e, hB, hx⟩ := hc hn
  exact ⟨b, off, e, hB, fun k x hx' => ⟨(hk _ hB).trans (hx k x hx').1, (hk _ hB).trans (hx k x hx').2.1, (hk _ hB).trans (hx k x hx').2.2⟩⟩
theorem Specs.more (h : Specs w B A n fs) (hB : B ≤ B') : Specs w B' A n fs := by
  obtain ⟨hl, hb, hc⟩ := h
  refine ⟨hl, hb, fun hn => ?_⟩
  obtain ⟨b, off, e, hB', hx⟩ := hc hn
  exact ⟨b, off, e, by omega, hx⟩
theorem Specs.on (h : Specs w B A n fs) (hb : Below B' w w') (hB : B ≤ B') : Specs w' B A n fs := h.keep fun _ hp => hb.cell (Nat.lt_of_lt_of_le hp hB)
theorem Specs.drewN (h : Specs w B A n fs) (k : Nat) : Specs (w.drewN k) B A n fs := h
theorem Specs.at_ {k : Nat} (h : Specs w B A n fs) (hk : k < n) :
    ∃ b off x, A = some ⟨b, off, none⟩ ∧ b < B ∧ Hid (fs[k]? = some x) ∧ w.cell? ⟨b, off + k * 3, none⟩ = some (.int .i64 x.k) ∧ w.cell? ⟨b, off + k * 3 + 1, none⟩ = some (.int .i64 x.m) ∧ w.cell? ⟨b, off + k * 3 + 2, none⟩ = some (.int .i64 x.s) ∧ x.ok := by
  obtain ⟨hl, hb, hc⟩ := h
  obtain ⟨b, off, rfl, hB, hx⟩ := hc (by omega)
  have hk' : k < fs.length := by omega
  have hm := hb _ (List.getElem_mem hk')
  have hx' := hx k _ (List.getElem?_eq_getElem hk')
  exact ⟨b, off, fs[k], rfl, hB, List.getElem?_eq_getElem hk', hx'.1, hx'.2.1, hx'.2.2, hm⟩
/-- the first ones of a form -/
theorem Specs.take (h : Specs w B A n fs) {k : Nat} (hk : k ≤ n) : Specs w B A k (fs.take k) := by
  obtain ⟨hl, hb, hc⟩ := h
  refine ⟨by rw [List.length_take]; omega, fun x hx => hb x (List.mem_of_mem_take hx), fun h0 => ?_⟩
  obtain ⟨b, off, e, hB, hx⟩ := hc (by omega)
  exact ⟨b, off, e, hB, fun j x hj => hx j x (by
    rw [List.getElem?_take] at hj
    split at hj
    · exact hj
    · cases hj)⟩
end
/-- a level of that kind may stand behind those -/
def goesB (fs : List Sp) (k : Int) : Bool :=
  match fs.getLast? with
  | some x => if x.k = 2 ∨ x.k = 3 then decide (k = 3) else decide (k = 0 ∨ k = 1 ∨ k = 2 ∨ k = 4)
  | none => decide (k = 0 ∨ k = 1 ∨ k = 2 ∨ k = 4)
/-- how many levels of a mode there are -/
def cntS (fs : List Sp) (m : Int) : Nat := fs.countP fun x => x.m == m
/-- a level may stand behind those of a form -/
def stepOK (xs : List Int) (fs : List Sp) (s : Sp) : Prop :=
  0 ≤ s.m ∧ s.m < xs.length ∧ goesB fs s.k = true ∧ ((cntS fs s.m = 0 ∧ s.k ≠ 4 ∧ s.s = 0) ∨ (cntS fs s.m = 1 ∧ s.k = 4 ∧ 1 ≤ s.s ∧ Int.tmod (xs.getD s.m.toNat 0) s.s = 0))
/-- a form is one of a shape -/
def formOK (xs : List Int) (fs : List Sp) : Prop := (∀ i s, fs[i]? = some s → stepOK xs (fs.take i) s) ∧ ∀ m : Nat, m < xs.length → cntS fs m ≠ 0
end Go.Proofs.Yteepiifhmbcciaa
/- Slices of levels: how they read. -/
namespace Go.Proofs.Yteepiifhmbcciaa
open Go.RowKit

/-- a level: its kind, its size, and its two lists -/
structure Lv where
  k : Int
  s : Int
  A : Option Addr
  n : Nat
  c : Nat
  B : Option Addr
  m : Nat
  e : Nat
  xs : List Int
  ys : List Int
/-- the level's lists read, in blocks below B -/
structure Lv.In (w : World) (B : Nat) (l : Lv) : Prop where
  k0 : -9223372036854775808 ≤ l.k ∧ l.k ≤ 9223372036854775807
  s0 : -9223372036854775808 ≤ l.s ∧ l.s ≤ 9223372036854775807
  pos : Ints w B l.A l.n l.xs
  crd : Ints w B l.B l.m l.ys
  n1 : l.n ≤ 140737488355328
  m1 : l.m ≤ 140737488355328
  nc : l.n ≤ l.c
  me : l.m ≤ l.e
/-- the header (A, n) leads to the levels ls, in blocks below B -/
def Lvs (w : World) (B : Nat) (A : Option Addr) (n : Nat) (ls : List Lv) : Prop :=
  ls.length = n ∧ (∀ x ∈ ls, x.In w B) ∧
  (0 < n → ∃ b off, A = some ⟨b, off, none⟩ ∧ b < B ∧ ∀ (k : Nat) (x : Lv), ls[k]? = some x → w.cell? ⟨b, off + k * 4, none⟩ = some (.int .i64 x.k) ∧ w.cell? ⟨b, off + k * 4 + 1, none⟩ = some (.int .i64 x.s) ∧ w.cell? ⟨b, off + k * 4 + 2, none⟩ = some (.slice x.A x.n x.c) ∧ w.cell? ⟨b, off + k * 4 + 3, none⟩ = some (.slice x.B x.m x.e))
section
variable {w w' : World} {B B' n : Nat} {A : Option Addr} {ls : List Lv}
theorem Lv.In.keep {l : Lv} (h : l.In w B) (hk : ∀ p : Addr, p.block < B → w'.cell? p = w.cell? p) : l.In w' B :=
  ⟨h.k0, h.s0, h.pos.keep hk, h.crd.keep hk, h.n1, h.m1, h.nc, h.me⟩
theorem Lv.In.more {l : Lv} (h : l.In w B) (hB : B ≤ B') : l.In w B' := ⟨h.k0, h.s0, h.pos.more hB, h.crd.more hB, h.n1, h.m1, h.nc, h.me⟩
theorem Lv.In.below {l : Lv} (h : l.In w B) (hb : Below B w w') : l.In w' B := h.keep fun _ hp => hb.cell hp
theorem Lv.In.lvI {l : Lv} (h : l.In w w.heap.size) : LvI w l.A l.n l.B l.m l.xs l.ys := ⟨h.pos, h.crd, by have := h.n1; omega, by have := h.m1; omega⟩
theorem Lvs.nil_ : Lvs w B A 0 [] := ⟨rfl, by simp, fun h => absurd h (by omega)⟩
theorem Lvs.keep (h : Lvs w B A n ls) (hk : ∀ p : Addr, p.block < B → w'.cell? p = w.cell? p) : Lvs w' B A n ls := by
  obtain ⟨hl, hb, hc⟩ := h
  refine ⟨hl, fun x hx => (hb x hx).keep hk, fun hn => ?_⟩
  obtain ⟨b, off, e, hB, hx⟩ := hc hn
  exact ⟨b, off, e, hB, fun k x hx' => ⟨(hk _ hB).trans (hx k x hx').1, (hk _ hB).trans (hx k x hx').2.1, (hk _ hB).trans (hx k x hx').2.2.1, (hk _ hB).trans (hx k x hx').2.2.2⟩⟩
theorem Lvs.more (h : Lvs w B A n ls) (hB : B ≤ B') : Lvs w B' A n ls := by
  obtain ⟨hl, hb, hc⟩ := h
  refine ⟨hl, fun x hx => (hb x hx).more hB, fun hn => ?_⟩
  obtain ⟨b, off, e, hB', hx⟩ := hc hn
  exact ⟨b, off, e, by omega, hx⟩
theorem Lvs.below (h : Lvs w B A n ls) (hb : Below B w w') : Lvs w' B A n ls := h.keep fun _ hp => hb.cell hp
theorem Lvs.on (h : Lvs w B A n ls) (hb : Below B' w w') (hB : B ≤ B') : Lvs w' B A n ls := h.keep fun _ hp => hb.cell (Nat.lt_of_lt_of_le hp hB)
theorem Lvs.at_ {k : Nat} (h : Lvs w B A n ls) (hk : k < n) :
    ∃ b off x, A = some ⟨b, off, none⟩ ∧ b < B ∧ Hid (ls[k]? = some x) ∧ w.cell? ⟨b, off + k * 4, none⟩ = some (.int .i64 x.k) ∧ w.cell? ⟨b, off + k * 4 + 1, none⟩ = some (.int .i64 x.s) ∧ w.cell? ⟨b, off + k * 4 + 2, none⟩ = some (.slice x.A x.n x.c) ∧ w.cell? ⟨b, off + k * 4 + 3, none⟩ = some (.slice x.B x.m x.e) ∧ x.In w B := by
  obtain ⟨hl, hb, hc⟩ := h
  obtain ⟨b, off, rfl, hB, hx⟩ := hc (by omega)
  have hk' : k < ls.length := by omega
  have hm := hb _ (List.getElem_mem hk')
  have hx' := hx k _ (List.getElem?_eq_getElem hk')
  exact ⟨b, off, ls[k], rfl, hB, List.getElem?_eq_getElem hk', hx'.1, hx'.2.1, hx'.2.2.1, hx'.2.2.2, hm⟩
theorem Lvs.drop_ {k c : Nat} (h : Lvs w B A n ls) (hk : k ≤ n) (hc : n ≤ c) : Lvs w B (if c = k then A else A.map (·.add (k * 4))) (n - k) (ls.drop k) := by
  obtain ⟨hl, hb, hcc⟩ := h
  refine ⟨by rw [List.length_drop]; omega, fun x hx => hb x (List.mem_of_mem_drop hx), fun h0 => ?_⟩
  obtain ⟨b, off, rfl, hB, hx⟩ := hcc (by omega)
  rw [if_neg (by omega)]
  refine ⟨b, off + k * 4, ?_, hB, fun j x hj => ?_⟩
  · by_cases hk0 : k = 0
    · subst hk0; simp [Addr.add]
    · have h2 : ¬ k * 4 = 0 := by omega
      simp [Addr.add, h2]
  · rw [List.getElem?_drop] at hj
    have := hx (k + j) x hj
    rw [show off + k * 4 + j * 4 = off + (k + j) * 4 by omega]
    exact this
end
end Go.Proofs.Yteepiifhmbcciaa
/- store.goesBehind: whether a level of a kind may stand behind those of a form. -/
namespace Go.Proofs.Yteepiifhmbcciaa
open Go.RowKit

theorem ret_bool {a b : Bool} (h : a = b) : Ending.returned (.bool a) = .returned (.bool b) := by rw [h]
set_option maxRecDepth 100000 in
set_option maxHeartbeats 4000000 in
theorem goes_any (A : Option Addr) (n c : Nat) (fs : List Sp) (k : Int) (w : World) (B : Nat) (h : Specs w B A n fs) (hn : n ≤ 9223372036854775806) : Calls Try.prog 90 #[.slice A n c, .int .i64 k] w fun e w' => e = .returned (.bool (goesB fs k)) ∧ w = w' := by
  rcases Nat.eq_zero_or_pos n with rfl | h0
  · have HG : Hid (goesB fs k = decide (k = 0 ∨ k = 1 ∨ k = 2 ∨ k = 4)) := by
      rw [List.eq_nil_of_length_eq_zero h.1]
      rfl
    clear h
    go_enter Try.func90, Try.ntmps90
    go_wp2
    all_goals
      go_ret
      refine ⟨ret_bool ?_, rfl⟩
      rw [HG.out]
      first | (simp_all; done) | (simp_all; rfl)
  · obtain ⟨q, rfl⟩ : ∃ q, n = q + 1 := ⟨n - 1, by omega⟩
    obtain ⟨b, off, x, rfl, _, HX, c0, _, _, _⟩ := h.at_ (k := q) (by omega)
    have HG : Hid (goesB fs k = if x.k = 2 ∨ x.k = 3 then decide (k = 3) else decide (k = 0 ∨ k = 1 ∨ k = 2 ∨ k = 4)) := by
      have : fs.getLast? = some x := by rw [List.getLast?_eq_getElem?, h.1]; exact HX.out
      unfold Hid goesB
      rw [this]
    clear h h0
    go_enter Try.func90, Try.ntmps90
    go_wp2
    all_goals
      go_ret
      refine ⟨ret_bool ?_, rfl⟩
      rw [HG.out]
      first | (simp_all; done) | (simp_all; rfl)
end Go.Proofs.Yteepiifhmbcciaa
/- store.isAhead: whether the places of a child are ahead of those of another one. -/
namespace Go.Proofs.Yteepiifhmbcciaa
open Go.RowKit

def aheadB (a b : Nat) : List Lv → Bool
  | [] => false
  | l :: r => if l.ys[a]?.getD 0 = l.ys[b]?.getD 0 then aheadB a b r else decide (l.ys[a]?.getD 0 < l.ys[b]?.getD 0)
theorem aheadB_drop {a b k : Nat} {ls : List Lv} {l : Lv} (h : ls[k]? = some l) : aheadB a b (ls.drop k) = if l.ys[a]?.getD 0 = l.ys[b]?.getD 0 then aheadB a b (ls.drop (k + 1)) else decide (l.ys[a]?.getD 0 < l.ys[b]?.getD 0) := by
  rw [drop_of h, aheadB]
set_option maxRecDepth 100000 in
set_option maxHeartbeats 4000000 in
theorem isAhead_any (A : Option Addr) (n c a b : Nat) (ls : List Lv) (w : World) (h : Lvs w w.heap.size A n ls) (hn : n ≤ 100000) (hab : ∀ x ∈ ls, a < x.m ∧ b < x.m) :
    Calls Try.prog 76 #[.slice A n c, .int .i64 (a : Int), .int .i64 (b : Int)] w fun r w' => r = .returned (.bool (aheadB a b ls)) ∧ Below w.heap.size w w' := by
  obtain ⟨FB, HFB⟩ : ∃ r, Hid (aheadB a b ls = r) := ⟨_, Lib.hid rfl⟩
  rw [HFB.out]
  have HL := Lib.hid h.1
  have HAB := Lib.hid hab
  clear hab
  go_enter Try.func76, Try.ntmps76
  go_wp2
  go_loopw [11] (fun i wr => ∃ k : Nat, k ≤ n ∧ i = .int .i64 k ∧ Hid (aheadB a b (ls.drop k) = FB) ∧ Hid (Below w.heap.size w wr)) (fun i _ => n - (intOf i).toNat)
  case atStart => exact ⟨0, Nat.zero_le _, rfl, HFB, Below.refl _ _⟩
  case round =>
    obtain ⟨k, hk, rfl, HA, HB⟩ := hrel
    have hbw : w.heap.size ≤ wr.heap.size := HB.out.size
    by_cases hlt : k < n
    · obtain ⟨bl, ol, l, rfl, hbb, HLk, d0, d1, d2, d3, li⟩ := (h.on HB.out (Nat.le_refl _)).at_ hlt
      obtain ⟨ha, hb⟩ := HAB.out l (List.mem_of_getElem? HLk.out)
      obtain ⟨w1, hw1⟩ : ∃ w1, wr.alloc (.cells #[.int .i64 l.k, .int .i64 l.s, .slice l.A l.n l.c, .slice l.B l.m l.e] 57) = w1 := ⟨_, rfl⟩
      have HB1 : Hid (Below w.heap.size w w1) := by unfold Hid; rw [← hw1]; exact HB.out.alloc hbw _
      have hb1 : w1.heap[wr.heap.size]? = some (.cells #[.int .i64 l.k, .int .i64 l.s, .slice l.A l.n l.c, .slice l.B l.m l.e] 57 (0, 0)) := by rw [← hw1]; exact heap_alloc_new _ _
      obtain ⟨q0, q1, q2, q3, _⟩ := lvCells hb1
      have hbr : Below w.heap.size wr w1 := by rw [← hw1]; exact (Below.refl _ wr).alloc hbw _
      obtain ⟨bA, oA, u, hA, _, HU, cu, u1, u2⟩ := (li.crd.below hbr).at_ ha
      obtain ⟨bA2, oA2, v, hA2, _, HV, cv, v1, v2⟩ := (li.crd.below hbr).at_ hb
      obtain ⟨rfl, rfl⟩ : bA2 = bA ∧ oA2 = oA := by rw [hA] at hA2; injection hA2 with hA2; injection hA2 with h1 h2; exact ⟨h1.symm, h2.symm⟩
      rw [hA] at q3 d3 hw1
      have hme := li.me
      have hm1 := li.m1
      have hai : (a : Int) < (l.m : Int) := by omega
      have hbi : (b : Int) < (l.m : Int) := by omega
      have HBq : Hid (∀ q, Below w.heap.size w (w1.drewN q)) := fun q => ⟨HB1.out.os, HB1.out.tape, HB1.out.output, HB1.out.size, HB1.out.block⟩
      have HD : Hid (aheadB a b (ls.drop k) = if u = v then aheadB a b (ls.drop (k + 1)) else decide (u < v)) := by
        unfold Hid
        rw [aheadB_drop HLk.out, HU.out, HV.out]
        rfl
      clear HB hb1 hA hA2 li hbr
      by_cases a1 : u = v
      · have e1 : (u != v) = false := by simpa using a1
        have HN : Hid (aheadB a b (ls.drop (k + 1)) = FB) := by
          have := HD.out
          rw [if_pos a1, HA.out] at this
          exact this.symm
        clear a1
        go_wp2
        go_quiet (fail)
        go_wp2
        go_roundw
        case rel => exact ⟨k + 1, by omega, by go_num, HN, HBq.out _⟩
        case measure => simp [intOf]; omega
      · have e1 : (u != v) = true := by simpa using a1
        have HF : Hid (FB = decide (u < v)) := by
          have := HD.out
          rw [if_neg a1, HA.out] at this
          exact this
        have HBq2 : Hid (∀ q q', Below w.heap.size w ((w1.drewN q).drewN q')) := fun q q' => ⟨HB1.out.os, HB1.out.tape, HB1.out.output, HB1.out.size, HB1.out.block⟩
        clear a1
        go_wp2
        go_quiet (fail)
        go_wp2
        go_quiet (fail)
        go_wp2
        go_ret
        exact ⟨by rw [HF.out]; rfl, by first | exact HBq.out _ | exact HBq2.out _ _⟩
    · obtain rfl : k = n := by omega
      have HF : Hid (FB = false) := by
        have := HA.out
        rw [List.drop_of_length_le (by rw [HL.out]; omega)] at this
        exact this.symm
      go_wp2
      go_ret
      exact ⟨by rw [HF.out]; rfl, HB.out⟩
end Go.Proofs.Yteepiifhmbcciaa
/- store.isForm: whether f is a form of a shape. -/
namespace Go.Proofs.Yteepiifhmbcciaa
open Go.RowKit

theorem vblk_cell {w : World} {g i : Nat} {cs : List Value} {t : TypeId} {v : Value} (h : w.heap[g]? = some (.cells cs.toArray t (0, 0))) (hv : cs[i]? = some v) : w.cell? ⟨g, i, none⟩ = some v ∧ w.frozen? ⟨g, i, none⟩ = false :=
  ⟨(cell_of_row _ _ _ _ _ _ h).trans (by simpa using hv), by simp [World.frozen?, h]⟩
theorem vblk_set {w : World} {g i : Nat} {cs : List Value} {t : TypeId} (h : w.heap[g]? = some (.cells cs.toArray t (0, 0))) (v : Value) : (w.setCell ⟨g, i, none⟩ v).heap[g]? = some (.cells (cs.set i v).toArray t (0, 0)) := by
  rw [heap_setCell_same _ _ _ _ _ _ h]; simp
set_option maxRecDepth 100000 in
theorem vinfoInt : (Try.prog.info? 3).map (fun i => (i.zero, i.size, i.bytes)) = some (some (.int .i64 0), 1, 8) := by kernel_rfl
theorem vrun_make (n : Nat) (hn : n ≤ 100000) (w : World) :
    (Instr.makeSlice 22 (.int .i64 (n : Int)) (.int .i64 (n : Int))).run Try.prog w = .ok (.slice (some ⟨w.heap.size, 0, none⟩) n n) (w.alloc (.cells (List.replicate n (.int .i64 0)).toArray 3)) := by
  obtain ⟨i, hi, hz, h1, h2⟩ := info_parts vinfoInt
  have hr := run_make (P := Try.prog) w 22 3 i (.int .i64 0) Try.underlying22 hi hz .i64 .i64 n n (by omega) (by omega) (by rw [h2]; omega) (by omega)
  simp only [Int.toNat_natCast, h1, Nat.mul_one] at hr
  have hc : (Value.int IntKind.i64 0).cells = #[.int .i64 0] := rfl
  rw [hc] at hr
  rw [hr, ← toList_madeCells_one]
/-- how many levels of each mode -/
def cntC (n : Nat) (fs : List Sp) : List Value := (List.range n).map fun (j : Nat) => .int .i64 ((cntS fs (j : Int) : Nat) : Int)
theorem cntC_nil (n : Nat) : cntC n [] = List.replicate n (.int .i64 0) := by
  apply List.ext_getElem?
  intro j
  unfold cntC
  rw [List.getElem?_map, List.getElem?_replicate]
  by_cases h : j < n
  · rw [if_pos h, List.getElem?_range h]; rfl
  · rw [if_neg h, List.getElem?_eq_none (by simp; omega)]; rfl
theorem cntC_at {n j : Nat} (fs : List Sp) (h : j < n) : (cntC n fs)[j]? = some (.int .i64 ((cntS fs (j : Int) : Nat) : Int)) := by
  unfold cntC
  rw [List.getElem?_map, List.getElem?_range h]
  rfl
theorem cntS_snoc (fs : List Sp) (x : Sp) (m : Int) : cntS (fs ++ [x]) m = cntS fs m + if x.m = m then 1 else 0 := by
  unfold cntS
  rw [List.countP_append]
  by_cases h : x.m = m <;> simp [h]
theorem cntC_set {n j : Nat} (fs : List Sp) (x : Sp) (hj : x.m = (j : Int)) : (cntC n fs).set j (.int .i64 (((cntS fs (j : Int) : Nat) : Int) + 1)) = cntC n (fs ++ [x]) := by
  apply List.ext_getElem?
  intro i
  by_cases hi : i < n
  · by_cases e : i = j
    · subst e
      rw [List.getElem?_set_self (by unfold cntC; simpa using hi), cntC_at _ hi, cntS_snoc, if_pos hj]
      rfl
    · rw [List.getElem?_set_ne (by omega), cntC_at _ hi, cntC_at _ hi, cntS_snoc, if_neg (by omega)]
      rfl
  · rw [List.getElem?_eq_none (by unfold cntC; simp; omega), List.getElem?_eq_none (by unfold cntC; simp; omega)]
theorem cntS_le (fs : List Sp) (m : Int) : cntS fs m ≤ fs.length := List.countP_le_length
noncomputable def formB (xs : List Int) (fs : List Sp) : Bool := @decide (formOK xs fs) (Classical.propDecidable _)
theorem formB_no {xs : List Int} {fs : List Sp} (h : ¬ formOK xs fs) : formB xs fs = false := by unfold formB; exact @decide_eq_false _ (Classical.propDecidable _) h
theorem formB_yes {xs : List Int} {fs : List Sp} (h : formOK xs fs) : formB xs fs = true := by unfold formB; exact @decide_eq_true _ (Classical.propDecidable _) h
theorem formB_at {xs : List Int} {fs : List Sp} {k : Nat} {x : Sp} (hx : fs[k]? = some x) (h : ¬ stepOK xs (fs.take k) x) : formB xs fs = false := formB_no fun hf => h (hf.1 k x hx)
/-- counts that are read as numbers -/
theorem cntC_ints {w : World} {g n : Nat} {fs : List Sp} (h : w.heap[g]? = some (.cells (cntC n fs).toArray 3 (0, 0))) (hf : fs.length ≤ 9223372036854775807) : Ints w w.heap.size (some ⟨g, 0, none⟩) n ((List.range n).map fun (j : Nat) => ((cntS fs (j : Int) : Nat) : Int)) := by
  refine ⟨by simp, fun x hx => ?_, fun _ => ⟨g, 0, rfl, (Array.getElem?_eq_some_iff.1 h).1, fun k x hx => ?_⟩⟩
  · obtain ⟨j, _, rfl⟩ := List.mem_map.1 hx
    have := cntS_le fs (j : Int)
    omega
  · have hk := (List.getElem?_eq_some_iff.1 hx).1
    simp at hk
    rw [List.getElem?_map, List.getElem?_range hk] at hx
    simp at hx
    subst hx
    rw [Nat.zero_add]
    exact (vblk_cell h (cntC_at fs hk)).1
/-- behind a level that fits: one more is told, and counted -/
theorem form_rel {xs : List Int} {fs : List Sp} {n k j cnt g q : Nat} {x : Sp} {w1 : World} (HA : ∀ j s, j < k → fs[j]? = some s → stepOK xs (fs.take j) s) (HS : stepOK xs (fs.take k) x) (hx : fs[k]? = some x) (hj : x.m = (j : Int)) (hc : cntS (fs.take k) (j : Int) = cnt) (HK : w1.heap[g]? = some (.cells (cntC n (fs.take k)).toArray 3 (0, 0))) :
    (∀ j s, j < k + 1 → fs[j]? = some s → stepOK xs (fs.take j) s) ∧ ((w1.drewN q).setCell ⟨g, j, none⟩ (.int .i64 ((cnt : Int) + 1))).heap[g]? = some (.cells (cntC n (fs.take (k + 1))).toArray 3 (0, 0)) := by
  refine ⟨fun i s hi hs => ?_, ?_⟩
  · rcases Nat.lt_or_ge i k with h | h
    · exact HA i s h hs
    · obtain rfl : i = k := by omega
      rw [hx] at hs
      cases hs
      exact HS
  · have := vblk_set (w := w1.drewN q) (i := j) HK (.int .i64 ((cnt : Int) + 1))
    rw [this, take_succ_of hx, ← hc, cntC_set _ _ hj]
/-- behind the last level: no mode without a level, or no form -/
theorem form_end {xs : List Int} {fs : List Sp} {n : Nat} (hn : xs.length = n) (HA : ∀ i s, fs[i]? = some s → stepOK xs (fs.take i) s) :
    (((List.range n).map fun (j : Nat) => ((cntS fs (j : Int) : Nat) : Int)).any fun s => s == 0) = !formB xs fs := by
  by_cases h : ∀ m : Nat, m < xs.length → cntS fs m ≠ 0
  · rw [formB_yes ⟨HA, h⟩]
    rw [Bool.not_true, List.any_eq_false]
    intro s hs
    obtain ⟨j, hj, rfl⟩ := List.mem_map.1 hs
    have := h j (by rw [hn]; exact List.mem_range.1 hj)
    simp
    omega
  · rw [formB_no fun hf => h hf.2]
    rw [Bool.not_false, List.any_eq_true]
    simp only [Classical.not_forall] at h
    obtain ⟨j, hj, h0⟩ := h
    have h0 : cntS fs j = 0 := Classical.not_not.1 h0
    exact ⟨_, List.mem_map.2 ⟨j, List.mem_range.2 (by omega), rfl⟩, by simp [h0]⟩
set_option maxRecDepth 100000 in
set_option maxHeartbeats 8000000 in
theorem isForm_any (A : Option Addr) (n c : Nat) (xs : List Int) (Bf : Option Addr) (m e : Nat) (fs : List Sp) (w : World) (h : Ints w w.heap.size A n xs) (hn : n ≤ 100000) (hf : Specs w w.heap.size Bf m fs) (hm : m ≤ 140737488355328) (he : m ≤ e) :
    Calls Try.prog 71 #[.slice A n c, .slice Bf m e] w fun r w' => r = .returned (.bool (formB xs fs)) ∧ Below w.heap.size w w' := by
  have HN := Lib.hid h.1
  have HM := Lib.hid hf.1
  have hmk := fun W => vrun_make n hn W
  rw [← cntC_nil] at hmk
  obtain ⟨FB, HFB⟩ : ∃ b, Hid (formB xs fs = b) := ⟨_, Lib.hid rfl⟩
  rw [HFB.out]
  go_enter Try.func71, Try.ntmps71
  go_wp2
  clear hmk
  go_loopw [13] (fun i wr => ∃ k : Nat, k ≤ m ∧ i = .int .i64 k ∧ Hid (∀ j s, j < k → fs[j]? = some s → stepOK xs (fs.take j) s) ∧ Hid (wr.heap[w.heap.size]? = some (.cells (cntC n (fs.take k)).toArray 3 (0, 0))) ∧ Hid (Below w.heap.size w wr)) (fun i _ => m - (intOf i).toNat)
  case atStart => exact ⟨0, Nat.zero_le _, rfl, fun j s hj => absurd hj (by omega), heap_alloc_new _ _, (Below.refl _ _).alloc (Nat.le_refl _) _⟩
  case round =>
    obtain ⟨k, hk, rfl, HA, HK, HB⟩ := hrel
    have hbw : w.heap.size ≤ wr.heap.size := HB.out.size
    have hltw := (Array.getElem?_eq_some_iff.1 HK.out).1
    by_cases hlt : k < m
    · obtain ⟨b, off, x, rfl, hbl, HX, c0, c1, c2, xo⟩ := (hf.on HB.out (Nat.le_refl _)).at_ hlt
      obtain ⟨w1, hw1⟩ : ∃ w1, wr.alloc (.cells #[.int .i64 x.k, .int .i64 x.m, .int .i64 x.s] 60) = w1 := ⟨_, rfl⟩
      obtain ⟨q0, q1, q2⟩ : w1.cell? ⟨wr.heap.size, 0, none⟩ = some (.int .i64 x.k) ∧ w1.cell? ⟨wr.heap.size, 1, none⟩ = some (.int .i64 x.m) ∧ w1.cell? ⟨wr.heap.size, 2, none⟩ = some (.int .i64 x.s) := by
        have hb : w1.heap[wr.heap.size]? = some (.cells #[.int .i64 x.k, .int .i64 x.m, .int .i64 x.s] 60 (0, 0)) := by rw [← hw1]; exact heap_alloc_new _ _
        exact ⟨cell_of_row _ _ 0 _ _ _ hb, cell_of_row _ _ 1 _ _ _ hb, cell_of_row _ _ 2 _ _ _ hb⟩
      have HB1 : Hid (Below w.heap.size w w1) := by unfold Hid; rw [← hw1]; exact HB.out.alloc hbw _
      have HK1 : Hid (w1.heap[w.heap.size]? = some (.cells (cntC n (fs.take k)).toArray 3 (0, 0))) := by unfold Hid; rw [← hw1]; exact (((Below.refl wr.heap.size wr).alloc (Nat.le_refl _) _).block _ hltw).trans HK.out
      have cG := fun q => (goes_any (some ⟨b, off, none⟩) k e (fs.take k) x.k (w1.drewN q) w.heap.size (((hf.on HB1.out (Nat.le_refl _)).take hk).drewN q) (by omega)).mono fun _ w' (hh : _ ∧ w1.drewN q = w') => And.intro hh.1 (hh.2.symm : w' = w1.drewN q)
      have hke : (k : Int) ≤ (e : Int) := by omega
      have hk0 : (0 : Int) ≤ (k : Int) := by omega
      obtain ⟨x1, x2, x3, x4, x5, x6⟩ := xo
      have HBq : Hid (∀ q, Below w.heap.size w (w1.drewN q)) := fun q => ⟨HB1.out.os, HB1.out.tape, HB1.out.output, HB1.out.size, HB1.out.block⟩
      clear HK HB
      by_cases a1 : x.m < 0
      · have HF : Hid (FB = false) := HFB.out.symm.trans (formB_at HX.out fun hs => by have := hs.1; omega)
        have e1 : decide (x.m < 0) = true := by simpa using a1
        go_wp2
        go_quiet ((go_at_call 90; exact Calls.quiet_of_same (cG _)))
        go_wp2
        go_ret
        exact ⟨by rw [HF.out]; rfl, HBq.out _⟩
      · have e1 : decide (x.m < 0) = false := by simpa using a1
        by_cases a2 : (n : Int) ≤ x.m
        · have HF : Hid (FB = false) := HFB.out.symm.trans (formB_at HX.out fun hs => by have := hs.2.1; have := HN.out; omega)
          have e2 : decide ((n : Int) ≤ x.m) = true := by simpa using a2
          go_wp2
          go_quiet ((go_at_call 90; exact Calls.quiet_of_same (cG _)))
          go_wp2
          go_ret
          exact ⟨by rw [HF.out]; rfl, HBq.out _⟩
        · have e2 : decide ((n : Int) ≤ x.m) = false := by simpa using a2
          obtain ⟨j, hj⟩ : ∃ j : Nat, x.m = (j : Int) := ⟨x.m.toNat, by omega⟩
          have hjn : j < n := by omega
          have e3 : decide (n ≤ j) = false := by simpa using hjn
          have HMk : Hid (fs[k]? = some x ∧ x.m = (j : Int)) := ⟨HX.out, hj⟩
          by_cases a3 : goesB (fs.take k) x.k = true
          · obtain ⟨cnt, HCn⟩ : ∃ z, Hid (cntS (fs.take k) (j : Int) = z) := ⟨_, Lib.hid rfl⟩
            have hv := vblk_cell HK1.out (cntC_at (fs.take k) hjn)
            rw [HCn.out] at hv
            obtain ⟨hv1, hv2⟩ := hv
            have hcl : cnt ≤ k := by rw [← HCn.out]; exact Nat.le_trans (cntS_le _ _) (by rw [List.length_take]; omega)
            have HG : Hid (goesB (fs.take k) x.k = true) := a3
            simp only [a3] at cG
            have hj' := hj
            rw [hj] at c1 q1 hw1 e1 e2
            clear a1 a2 a3 x3 x4
            by_cases b0 : cnt = 0
            · subst b0
              by_cases b1 : x.k = 4
              · have HF : Hid (FB = false) := HFB.out.symm.trans (formB_at HX.out fun hs => by
                  rcases hs.2.2.2 with hh | hh
                  · exact hh.2.1 b1
                  · have h1 := hh.1
                    rw [HMk.out.2, HCn.out] at h1
                    omega)
                have e4 : (x.k == 4) = true := by simpa using b1
                clear b1
                go_wp2
                go_quiet ((go_at_call 90; exact Calls.quiet_of_same (cG _)))
                go_wp2
                go_ret
                exact ⟨by rw [HF.out]; rfl, HBq.out _⟩
              · have e4 : (x.k == 4) = false := by simpa using b1
                by_cases b2 : x.s = 0
                · have HS : Hid (stepOK xs (fs.take k) x) := ⟨by rw [hj']; omega, by rw [hj', HN.out]; omega, HG.out, Or.inl ⟨by rw [hj']; exact HCn.out, b1, b2⟩⟩
                  have e5 : (x.s != 0) = false := by simpa using b2
                  have HR := fun q => form_rel (q := q) HA.out HS.out HX.out hj' HCn.out HK1.out
                  clear b1 b2
                  go_wp2
                  go_quiet ((go_at_call 90; exact Calls.quiet_of_same (cG _)))
                  go_wp2
                  go_roundw
                  case rel => exact ⟨k + 1, by omega, by go_num, (HR 0).1, (HR _).2, (HBq.out _).setCell (Nat.le_refl _) _⟩
                  case measure => simp [intOf]; omega
                · have HF : Hid (FB = false) := HFB.out.symm.trans (formB_at HX.out fun hs => by
                    rcases hs.2.2.2 with hh | hh
                    · exact b2 hh.2.2
                    · have h1 := hh.1
                      rw [HMk.out.2, HCn.out] at h1
                      omega)
                  have e5 : (x.s != 0) = true := by simpa using b2
                  clear b1 b2
                  go_wp2
                  go_quiet ((go_at_call 90; exact Calls.quiet_of_same (cG _)))
                  go_wp2
                  go_ret
                  exact ⟨by rw [HF.out]; rfl, HBq.out _⟩
            · by_cases b1 : cnt = 1
              · subst b1
                obtain ⟨bA, oA, v, rfl, _, HV, cv, v1, v2⟩ := (h.below HB1.out).at_ hjn
                have HS1 : Hid (∀ P : Prop, (stepOK xs (fs.take k) x → P) → (x.k = 4 → 1 ≤ x.s → Int.tmod v x.s = 0 → P)) := by
                  intro P hP k1 k2 k3
                  refine hP ⟨by rw [hj']; omega, by rw [hj', HN.out]; omega, HG.out, Or.inr ⟨by rw [hj']; exact HCn.out, k1, k2, ?_⟩⟩
                  rw [hj', Int.toNat_natCast, List.getD_eq_getElem?_getD, HV.out]
                  exact k3
                have HS0 : Hid (stepOK xs (fs.take k) x → x.k = 4 ∧ 1 ≤ x.s ∧ Int.tmod v x.s = 0) := by
                  intro hs
                  rcases hs.2.2.2 with hh | hh
                  · have h1 := hh.1
                    rw [HMk.out.2, HCn.out] at h1
                    omega
                  · refine ⟨hh.2.1, hh.2.2.1, ?_⟩
                    have := hh.2.2.2
                    rwa [hj', Int.toNat_natCast, List.getD_eq_getElem?_getD, HV.out] at this
                by_cases b1 : x.k = 4
                · have e4 : (x.k != 4) = false := by simpa using b1
                  by_cases b2 : x.s < 1
                  · have e5 : decide (x.s < 1) = true := by simpa using b2
                    have HF : Hid (FB = false) := HFB.out.symm.trans (formB_at HX.out fun hs => by have := (HS0.out hs).2.1; omega)
                    clear b1 b2
                    go_wp2
                    go_quiet ((go_at_call 90; exact Calls.quiet_of_same (cG _)))
                    go_wp2
                    go_quiet (skip)
                    go_wp2
                    go_ret
                    exact ⟨by rw [HF.out]; rfl, below_drewN (HBq.out _) _⟩
                  · have e5 : decide (x.s < 1) = false := by simpa using b2
                    have e6 : (x.s == 0) = false := by simp; omega
                    obtain ⟨r, hr⟩ : ∃ r, Int.tmod v x.s = r := ⟨_, rfl⟩
                    by_cases b3 : r = 0
                    · have e7 : (r != 0) = false := by simpa using b3
                      have HS : Hid (stepOK xs (fs.take k) x) := HS1.out _ (fun h => h) b1 (by omega) (hr.trans b3)
                      have HR := fun q => form_rel (q := q) HA.out HS.out HX.out hj' HCn.out HK1.out
                      clear b1 b3
                      go_wp2
                      go_quiet ((go_at_call 90; exact Calls.quiet_of_same (cG _)))
                      go_wp2
                      go_quiet (skip)
                      go_wp2
                      go_roundw
                      case rel => exact ⟨k + 1, by omega, by go_num, (HR 0).1, (HR _).2, (HBq.out _).setCell (Nat.le_refl _) _⟩
                      case measure => simp [intOf]; omega
                    · have e7 : (r != 0) = true := by simpa using b3
                      have HF : Hid (FB = false) := HFB.out.symm.trans (formB_at HX.out fun hs => b3 (hr.symm.trans (HS0.out hs).2.2))
                      clear b1 b3
                      go_wp2
                      go_quiet ((go_at_call 90; exact Calls.quiet_of_same (cG _)))
                      go_wp2
                      go_quiet (skip)
                      go_wp2
                      go_ret
                      exact ⟨by rw [HF.out]; rfl, below_drewN (HBq.out _) _⟩
                · have e4 : (x.k != 4) = true := by simpa using b1
                  have HF : Hid (FB = false) := HFB.out.symm.trans (formB_at HX.out fun hs => b1 (HS0.out hs).1)
                  clear b1
                  go_wp2
                  go_quiet ((go_at_call 90; exact Calls.quiet_of_same (cG _)))
                  go_wp2
                  go_quiet (skip)
                  go_wp2
                  go_ret
                  exact ⟨by rw [HF.out]; rfl, below_drewN (HBq.out _) _⟩
              · have HF : Hid (FB = false) := HFB.out.symm.trans (formB_at HX.out fun hs => by
                  rcases hs.2.2.2 with hh | hh
                  · have h1 := hh.1
                    rw [HMk.out.2, HCn.out] at h1
                    exact b0 h1
                  · have h1 := hh.1
                    rw [HMk.out.2, HCn.out] at h1
                    exact b1 h1)
                go_wp2
                go_quiet ((go_at_call 90; exact Calls.quiet_of_same (cG _)))
                go_wp2
                go_ret
                exact ⟨by rw [HF.out]; rfl, HBq.out _⟩
          · have HF : Hid (FB = false) := HFB.out.symm.trans (formB_at HX.out fun hs => a3 hs.2.2.1)
            have a3' : goesB (fs.take k) x.k = false := by simpa using a3
            simp only [a3'] at cG
            rw [hj] at c1 q1 hw1 e1 e2
            clear a1 a2 a3 a3' x3 x4
            go_wp2
            go_quiet ((go_at_call 90; exact Calls.quiet_of_same (cG _)))
            go_wp2
            go_ret
            exact ⟨by rw [HF.out]; rfl, HBq.out _⟩
    · have hkm : k = m := by omega
      have htk : fs.take k = fs := List.take_of_length_le (by rw [HM.out]; omega)
      have HK' := HK.out
      rw [htk] at HK'
      have hI := cntC_ints HK' (by rw [HM.out]; omega)
      have cC : ∀ W, Ints W wr.heap.size (some ⟨w.heap.size, 0, none⟩) n ((List.range n).map fun (j : Nat) => ((cntS fs (j : Int) : Nat) : Int)) → Calls Try.prog 86 #[.slice (some ⟨w.heap.size, 0, none⟩) n n, .int .i64 0] W fun e w' => e = .returned (.bool (!FB)) ∧ W = w' := fun W hW => (contains_any _ n n _ 0 W _ hW hn).mono fun _ _ hh => by
        rw [form_end HN.out (fun i s hs => HA.out i s (by have := (List.getElem?_eq_some_iff.1 hs).1; rw [HM.out] at this; omega) hs), HFB.out] at hh
        exact hh
      clear HA htk hkm HK' HK
      go_wp2_with (go_at_call 86; refine (cC _ hI).mono ?_; rintro e w' ⟨rfl, rfl⟩)
      go_ret
      exact ⟨by simp, HB.out⟩
end Go.Proofs.Yteepiifhmbcciaa
/- store.steps: how far apart each level's neighbours are in its mode. -/
namespace Go.Proofs.Yteepiifhmbcciaa
open Go.RowKit

/-- the first level of a mode, or -1 -/
noncomputable def idxM (fs : List Sp) (y : Int) : Int := if (fs.any fun s => s.m == y) = true then ((fs.findIdx fun s => s.m == y : Nat) : Int) else -1
theorem idxM_hit {fs : List Sp} {y : Int} {k : Nat} {x : Sp} (hx : fs[k]? = some x) (h : x.m = y) (h0 : (fs.take k).any (fun s => s.m == y) = false) : idxM fs y = (k : Int) := by
  obtain ⟨hk, e⟩ := List.getElem?_eq_some_iff.1 hx
  have ha : (fs.any fun s => s.m == y) = true := List.any_eq_true.2 ⟨x, List.mem_of_getElem? hx, by simpa using h⟩
  unfold idxM
  rw [if_pos ha, (List.findIdx_eq hk).2 ⟨by rw [e]; simpa using h, fun j hj => ?_⟩]
  rw [List.any_eq_false] at h0
  have := h0 fs[j] (List.mem_of_getElem? (i := j) (by rw [List.getElem?_take, if_pos hj, List.getElem?_eq_getElem (by omega)]))
  simpa using this
theorem idxM_none {fs : List Sp} {y : Int} (h0 : (fs.any fun s => s.m == y) = false) : idxM fs y = -1 := by unfold idxM; rw [h0]; rfl
set_option maxRecDepth 100000 in
theorem stepFn_any (x : Sp) (p : Nat) (y : Int) (w : World) (hp : w.cell? ⟨p, 1, none⟩ = some (.int .i64 y)) (hb : p < w.heap.size) :
    Calls Try.prog 59 #[.agg #[.int .i64 x.k, .int .i64 x.m, .int .i64 x.s], .pointer (some ⟨p, 0, none⟩)] w fun e w' => e = .returned (.bool (x.m == y)) ∧ Below w.heap.size w w' := by
  have hp' : ∀ o, (w.alloc o).cell? ⟨p, 1, none⟩ = some (.int .i64 y) := fun o => (((Below.refl w.heap.size w).alloc (Nat.le_refl _) o).cell (p := ⟨p, 1, none⟩) hb).trans hp
  go_enter Try.func59, Try.ntmps59
  go_wp2
  go_ret
  exact ⟨rfl, (Below.refl w.heap.size w).alloc (Nat.le_refl _) _⟩
set_option maxRecDepth 100000 in
set_option maxHeartbeats 4000000 in
theorem indexStep_any (A : Option Addr) (n c : Nat) (fs : List Sp) (p : Nat) (y : Int) (w : World) (h : Specs w w.heap.size A n fs) (hn : n ≤ 140737488355328) (hp : w.cell? ⟨p, 1, none⟩ = some (.int .i64 y)) (hb : p < w.heap.size) :
    Calls Try.prog 58 #[.slice A n c, .func (.func 59) #[] #[.pointer (some ⟨p, 0, none⟩)]] w fun e w' => e = .returned (.int .i64 (idxM fs y)) ∧ Below w.heap.size w w' := by
  have HL : Hid (fs.length = n) := h.1
  obtain ⟨FI, HFI⟩ : ∃ b, Hid (idxM fs y = b) := ⟨_, Lib.hid rfl⟩
  rw [HFI.out]
  go_enter Try.func58, Try.ntmps58
  go_wp2
  go_loopw [8] (fun i wr => ∃ k : Nat, k ≤ n ∧ i = .int .i64 k ∧ Hid ((fs.take k).any (fun s => s.m == y) = false) ∧ Hid (Below w.heap.size w wr)) (fun i _ => n - (intOf i).toNat)
  case atStart => exact ⟨0, Nat.zero_le _, rfl, by unfold Hid; simp, Below.refl _ _⟩
  case round =>
    obtain ⟨k, hk, rfl, HK, HB⟩ := hrel
    have hbw : w.heap.size ≤ wr.heap.size := HB.out.size
    by_cases hlt : k < n
    · obtain ⟨b, off, x, rfl, hbl, HX, c0, c1, c2, xo⟩ := (h.on HB.out (Nat.le_refl _)).at_ hlt
      have hpr := (HB.out.cell (p := ⟨p, 1, none⟩) hb).trans hp
      have HS : Hid (∀ w' : World, Below wr.heap.size wr w' → Below w.heap.size w w') := fun w' hh => HB.out.trans (hh.mono hbw)
      have cS := stepFn_any x p y wr hpr (by omega)
      by_cases hx : x.m = y
      · have HF : Hid (FI = (k : Int)) := HFI.out.symm.trans (idxM_hit HX.out hx HK.out)
        have e1 : (x.m == y) = true := by simpa using hx
        rw [e1] at cS
        clear hx e1 HB
        go_wp2_with (go_at_call 59; refine cS.mono ?_; rintro e w' ⟨rfl, hbb⟩; have HBB := Lib.hid hbb; clear hbb)
        go_ret
        exact ⟨by rw [HF.out]; rfl, HS.out _ HBB.out⟩
      · have e1 : (x.m == y) = false := by simpa using hx
        have HK1 : Hid ((fs.take (k + 1)).any (fun s => s.m == y) = false) := by unfold Hid; rw [take_succ_of HX.out, List.any_append, HK.out]; simp [e1]
        rw [e1] at cS
        clear hx e1 HB
        go_wp2_with (go_at_call 59; refine cS.mono ?_; rintro e w' ⟨rfl, hbb⟩; have HBB := Lib.hid hbb; clear hbb)
        go_roundw
        case rel => exact ⟨k + 1, by omega, by go_num, HK1, HS.out _ HBB.out⟩
        case measure => simp [intOf]; omega
    · have HF : Hid (FI = -1) := HFI.out.symm.trans (idxM_none (by
        have := HK.out
        rwa [List.take_of_length_le (by rw [HL.out]; omega)] at this))
      go_wp2
      go_ret
      exact ⟨by rw [HF.out]; rfl, HB.out⟩
end Go.Proofs.Yteepiifhmbcciaa
/- store.steps: how far apart each level's neighbours are in its mode. -/
namespace Go.Proofs.Yteepiifhmbcciaa
open Go.RowKit

theorem idxM_in {fs : List Sp} {k : Nat} {x : Sp} (hx : fs[k]? = some x) : ∃ j : Nat, idxM fs x.m = (j : Int) ∧ j < fs.length := by
  have ha : (fs.any fun s => s.m == x.m) = true := List.any_eq_true.2 ⟨x, List.mem_of_getElem? hx, by simp⟩
  unfold idxM
  rw [if_pos ha]
  exact ⟨_, rfl, List.findIdx_lt_length_of_exists (by obtain ⟨y, hy, h⟩ := List.any_eq_true.1 ha; exact ⟨y, hy, h⟩)⟩
/-- how far apart the neighbours are, behind the first k levels -/
noncomputable def stepK (fs : List Sp) : Nat → List Int
  | 0 => List.replicate fs.length 0
  | k + 1 => match fs[k]? with
    | some s => if s.k = 4 then ((stepK fs k).set k 1).set (idxM fs s.m).toNat s.s else (stepK fs k).set k 1
    | none => stepK fs k
theorem stepK_length (fs : List Sp) (k : Nat) : (stepK fs k).length = fs.length := by
  induction k with
  | zero => simp [stepK]
  | succ k ih =>
    rw [stepK]
    split
    · split <;> simp [ih]
    · exact ih
def stC (l : List Int) : List Value := l.map fun v => .int .i64 v
theorem stC_set (l : List Int) (i : Nat) (v : Int) : (stC l).set i (.int .i64 v) = stC (l.set i v) := by unfold stC; rw [List.map_set]
set_option maxRecDepth 100000 in
set_option maxHeartbeats 4000000 in
theorem steps_any (A : Option Addr) (n c : Nat) (fs : List Sp) (w : World) (h : Specs w w.heap.size A n fs) (hn : n ≤ 100000) :
    Calls Try.prog 35 #[.slice A n c] w fun e w' => e = .returned (.slice (some ⟨w.heap.size, 0, none⟩) n n) ∧ w'.heap[w.heap.size]? = some (.cells (stC (stepK fs n)).toArray 3 (0, 0)) ∧ Below w.heap.size w w' := by
  have HL : Hid (fs.length = n) := h.1
  have hmk := fun W => vrun_make n hn W
  have h00 : List.replicate n (Value.int .i64 0) = stC (stepK fs 0) := by unfold stC; rw [stepK, HL.out, List.map_replicate]
  rw [h00] at hmk
  clear h00
  go_enter Try.func35, Try.ntmps35
  go_wp2
  clear hmk
  go_loopw [11] (fun i wr => ∃ k : Nat, k ≤ n ∧ i = .int .i64 k ∧ Hid (wr.heap[w.heap.size]? = some (.cells (stC (stepK fs k)).toArray 3 (0, 0))) ∧ Hid (Below w.heap.size w wr)) (fun i _ => n - (intOf i).toNat)
  case atStart => exact ⟨0, Nat.zero_le _, rfl, heap_alloc_new _ _, (Below.refl _ _).alloc (Nat.le_refl _) _⟩
  case round =>
    obtain ⟨k, hk, rfl, HK, HB⟩ := hrel
    have hbw : w.heap.size ≤ wr.heap.size := HB.out.size
    have hltw := (Array.getElem?_eq_some_iff.1 HK.out).1
    by_cases hlt : k < n
    · obtain ⟨b, off, x, rfl, hbl, HX, c0, c1, c2, xo⟩ := (h.on HB.out (Nat.le_refl _)).at_ hlt
      obtain ⟨w1, hw1⟩ : ∃ w1, wr.alloc (.cells #[.int .i64 x.k, .int .i64 x.m, .int .i64 x.s] 60) = w1 := ⟨_, rfl⟩
      have hb : w1.heap[wr.heap.size]? = some (.cells #[.int .i64 x.k, .int .i64 x.m, .int .i64 x.s] 60 (0, 0)) := by rw [← hw1]; exact heap_alloc_new _ _
      have HB1 : Hid (Below w.heap.size w w1) := by unfold Hid; rw [← hw1]; exact HB.out.alloc hbw _
      have HK1 : Hid (w1.heap[w.heap.size]? = some (.cells (stC (stepK fs k)).toArray 3 (0, 0))) := by unfold Hid; rw [← hw1]; exact (((Below.refl wr.heap.size wr).alloc (Nat.le_refl _) _).block _ hltw).trans HK.out
      have hlk : (stepK fs k).length = n := (stepK_length fs k).trans HL.out
      obtain ⟨v0, hv0⟩ : ∃ v, (stC (stepK fs k))[k]? = some v := ⟨_, List.getElem?_eq_getElem (by unfold stC; simp; omega)⟩
      obtain ⟨s0, s1⟩ := vblk_cell HK1.out hv0
      obtain ⟨w2, hw2⟩ : ∃ w2, w1.setCell ⟨w.heap.size, k, none⟩ (.int .i64 1) = w2 := ⟨_, rfl⟩
      have HK2 : Hid (w2.heap[w.heap.size]? = some (.cells (stC ((stepK fs k).set k 1)).toArray 3 (0, 0))) := by unfold Hid; rw [← hw2, vblk_set HK1.out, stC_set]
      have HB2 : Hid (Below w.heap.size w w2) := by unfold Hid; rw [← hw2]; exact HB1.out.setCell (Nat.le_refl _) _
      have hb2 : w2.heap[wr.heap.size]? = some (.cells #[.int .i64 x.k, .int .i64 x.m, .int .i64 x.s] 60 (0, 0)) := by rw [← hw2, Below.heap_setCell _ _ _ _ (by show wr.heap.size ≠ w.heap.size; omega)]; exact hb
      obtain ⟨q0, q1, q2⟩ : w2.cell? ⟨wr.heap.size, 0, none⟩ = some (.int .i64 x.k) ∧ w2.cell? ⟨wr.heap.size, 1, none⟩ = some (.int .i64 x.m) ∧ w2.cell? ⟨wr.heap.size, 2, none⟩ = some (.int .i64 x.s) := ⟨cell_of_row _ _ 0 _ _ _ hb2, cell_of_row _ _ 1 _ _ _ hb2, cell_of_row _ _ 2 _ _ _ hb2⟩
      have hz2 := (Array.getElem?_eq_some_iff.1 hb2).1
      have HSz : Hid (w.heap.size < w2.heap.size ∧ wr.heap.size < w2.heap.size) := ⟨by omega, hz2⟩
      clear hb hb2 HK HB hz2
      by_cases hx : x.k = 4
      · have e1 : (x.k == 4) = true := by simpa using hx
        obtain ⟨j, hj, hjn⟩ := idxM_in HX.out
        have hjn' : j < n := by have := HL.out; omega
        have hKs : stepK fs (k + 1) = ((stepK fs k).set k 1).set j x.s := by
          rw [stepK, HX.out]
          simp only [hx, if_true, hj, Int.toNat_natCast]
        have HKs := Lib.hid hKs
        have HI : Hid (∀ W, Below w2.heap.size w2 W → Calls Try.prog 58 #[.slice (some ⟨b, off, none⟩) n c, .func (.func 59) #[] #[.pointer (some ⟨wr.heap.size, 0, none⟩)]] W fun e w' => e = .returned (.int .i64 (j : Int)) ∧ Below W.heap.size W w') := by
          intro W hW
          have hi := indexStep_any (some ⟨b, off, none⟩) n c fs wr.heap.size x.m W ((h.on (HB2.out.trans (hW.mono HB2.out.size)) (Nat.le_refl _)).more ((HB2.out.trans (hW.mono HB2.out.size)).size)) (by omega) ((hW.cell HSz.out.2).trans q1) (Nat.lt_of_lt_of_le HSz.out.2 hW.size)
          rw [hj] at hi
          exact hi
        obtain ⟨v1, hv1⟩ : ∃ v, (stC ((stepK fs k).set k 1))[j]? = some v := ⟨_, List.getElem?_eq_getElem (by unfold stC; simp; omega)⟩
        have HF : Hid (∀ W W', Below w2.heap.size w2 W → Below W.heap.size W W' → (W'.cell? ⟨wr.heap.size, 2, none⟩ = some (.int .i64 x.s) ∧ W'.cell? ⟨w.heap.size, j, none⟩ = some v1 ∧ W'.frozen? ⟨w.heap.size, j, none⟩ = false) ∧ Hid ((W'.setCell ⟨w.heap.size, j, none⟩ (.int .i64 x.s)).heap[w.heap.size]? = some (.cells (stC (stepK fs (k + 1))).toArray 3 (0, 0)) ∧ Below w.heap.size w (W'.setCell ⟨w.heap.size, j, none⟩ (.int .i64 x.s)))) := by
          intro W W' h1 h2
          have h3 : Below w2.heap.size w2 W' := h1.trans (h2.mono h1.size)
          have hbk := (h3.block _ HSz.out.1).trans HK2.out
          obtain ⟨z1, z2⟩ := vblk_cell hbk hv1
          refine ⟨⟨(h3.cell HSz.out.2).trans q2, z1, z2⟩, ?_, ?_⟩
          · rw [vblk_set hbk, stC_set, HKs.out]
          · exact (HB2.out.trans (h3.mono HB2.out.size)).setCell (Nat.le_refl _) _
        clear hx hKs hj hjn hv1
        go_wp2
        go_region_law (go_simp; go_at_call 58; refine (HI.out _ ?b0).mono ?_; (case b0 => first | exact Below.refl _ _ | exact (Below.refl _ _).drew); rintro e w3 ⟨rfl, hb3⟩; obtain ⟨⟨z1, z2, z3⟩, HZ⟩ := HF.out _ _ (by first | exact Below.refl _ _ | exact (Below.refl _ _).drew) hb3; clear hb3)
        all_goals
          go_wp2
          go_roundw
          case rel => exact ⟨k + 1, by omega, by go_num, HZ.out.1, HZ.out.2⟩
          case measure => simp [intOf]; omega
      · have e1 : (x.k == 4) = false := by simpa using hx
        have hKs : stepK fs (k + 1) = (stepK fs k).set k 1 := by
          rw [stepK, HX.out]
          simp only [hx, if_false]
        have HKs : Hid (w2.heap[w.heap.size]? = some (.cells (stC (stepK fs (k + 1))).toArray 3 (0, 0))) := by unfold Hid; rw [hKs]; exact HK2.out
        clear hx hKs
        go_wp2
        go_roundw
        case rel => exact ⟨k + 1, by omega, by go_num, HKs, HB2⟩
        case measure => simp [intOf]; omega
    · obtain rfl : k = n := by omega
      go_wp2
      go_ret
      exact ⟨rfl, HK.out, HB.out⟩
end Go.Proofs.Yteepiifhmbcciaa
