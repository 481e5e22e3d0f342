/- strings.IndexByte, laid out of the library's contract. -/
import Derived.Shelf.Lay
import Derived.Shelf.Small.Strs
import Derived.Test.YtinjkakfnppjpaaDoorProg
import Derived.WalkKit
import Derived.Lib.Hide
import Derived.Deep.Draws
import Derived.Deep.QuietTactic
import Derived.BigQuiet
import Derived.WalkLawsBesides
import Derived.WalkSpells
import Derived.WalkMore
import Derived.OwnWalk
import Derived.Below
namespace Go.Proofs.YtinjkakfnppjpaaDoor
open Go.Shelf Go.Proofs
def x_lays137_ren : Go.Shelf.Ren := ⟨fun | 137 => 22 | 217 => 24 | 266 => 29 | n => n, fun | 9 => 9 | 5 => 5 | 3 => 3 | n => n, fun | n => n⟩
set_option maxRecDepth 100000 in
theorem x_lays137 : Go.Proofs.Lays.n137 Tryd.prog x_lays137_ren := {
  mixed := by kernel_rfl
  f137 := Tryd.func22.trans (congrArg some (by kernel_rfl))
  f217 := Tryd.func24.trans (congrArg some (by kernel_rfl))
  f266 := Tryd.func29.trans (congrArg some (by kernel_rfl))
  t3 := Tryd.underlying3
  a3 := Tryd.isAgg3
  z3 := Tryd.sizeOf3
  v3 := Tryd.zeroValue3
  t5 := Tryd.underlying5
  a5 := Tryd.isAgg5
  z5 := Tryd.sizeOf5
  v5 := Tryd.zeroValue5
  t9 := Tryd.underlying9
  a9 := Tryd.isAgg9
  z9 := Tryd.sizeOf9
  v9 := Tryd.zeroValue9 }
open Go.RowKit in
theorem x_strings_IndexByte (s : ByteArray) (c : Int) (w : World) :
    Calls Tryd.prog 22 #[.string s, .int .u8 c] w fun e w' => e = .returned (.int .i64 (Lib.indexByte s.data.toList c.toNat.toUInt8)) ∧ w' = w := Any.strings_IndexByte x_lays137 s c w
end Go.Proofs.YtinjkakfnppjpaaDoor
/- Plain facts, without the program: when a slice value of Go reads as a list of 64-bit integers, and what the shape functions of package box compute on lists. Nothing is claimed of the program here. -/
namespace Go.Proofs.YtinjkakfnppjpaaDoor
open Go.RowKit

/-- the header (A, n) leads to the numbers xs, in blocks below B -/
def Ints (w : World) (B : Nat) (A : Option Addr) (n : Nat) (xs : List Int) : Prop :=
  xs.length = n ∧ (∀ x ∈ xs, -9223372036854775808 ≤ x ∧ x ≤ 9223372036854775807) ∧
  (0 < n → ∃ b off, A = some ⟨b, off, none⟩ ∧ b < B ∧ ∀ (k : Nat) (x : Int), xs[k]? = some x → w.cell? ⟨b, off + k, none⟩ = some (.int .i64 x))

section
variable {w w' : World} {B B' n : Nat} {A : Option Addr} {xs : List Int}
theorem Ints.nil_ : Ints w B A 0 [] := ⟨rfl, by simp, fun h => absurd h (by omega)⟩
theorem Ints.at_ {k : Nat} (h : Ints w B A n xs) (hk : k < n) :
    ∃ b off x, A = some ⟨b, off, none⟩ ∧ b < B ∧ Hid (xs[k]? = some x) ∧ w.cell? ⟨b, off + k, none⟩ = some (.int .i64 x) ∧ -9223372036854775808 ≤ x ∧ x ≤ 9223372036854775807 := by
  obtain ⟨hl, hb, hc⟩ := h
  obtain ⟨b, off, rfl, hB, hx⟩ := hc (by omega)
  have hk' : k < xs.length := by omega
  have hm := hb _ (List.getElem_mem hk')
  exact ⟨b, off, xs[k], rfl, hB, List.getElem?_eq_getElem hk', hx k _ (List.getElem?_eq_getElem hk'), hm.1, hm.2⟩
theorem Ints.len (h : Ints w B A n xs) : xs.length = n := h.1
theorem Ints.keep (h : Ints w B A n xs) (hk : ∀ p : Addr, p.block < B → w'.cell? p = w.cell? p) : Ints w' B A n xs := by
  obtain ⟨hl, hb, hc⟩ := h
  refine ⟨hl, hb, fun hn => ?_⟩
  obtain ⟨b, off, e, hB, hx⟩ := hc hn
  exact ⟨b, off, e, hB, fun k x hx' => (hk _ hB).trans (hx k x hx')⟩
theorem Ints.more (h : Ints w B A n xs) (hB : B ≤ B') : Ints w B' A n xs := by
  obtain ⟨hl, hb, hc⟩ := h
  refine ⟨hl, hb, fun hn => ?_⟩
  obtain ⟨b, off, e, hB', hx⟩ := hc hn
  exact ⟨b, off, e, by omega, hx⟩
theorem Ints.below (h : Ints w B A n xs) (hb : Below B w w') : Ints w' B A n xs := h.keep fun _ hp => hb.cell hp
theorem Ints.drewN (h : Ints w B A n xs) (k : Nat) : Ints (w.drewN k) B A n xs := h
theorem Ints.drew (h : Ints w B A n xs) : Ints w.drew B A n xs := h
theorem Ints.alloc (h : Ints w B A n xs) (hB : B ≤ w.heap.size) (o : Obj) : Ints (w.alloc o) B A n xs :=
  h.keep fun p hp => World.cell?_alloc_lt w o p (by omega)
theorem Ints.alloc' (h : Ints w w.heap.size A n xs) (o : Obj) : Ints (w.alloc o) (w.alloc o).heap.size A n xs :=
  (h.alloc (Nat.le_refl _) o).more (by simp)
theorem Ints.setCell (h : Ints w B A n xs) {p : Addr} (hB : B ≤ p.block) (u : Value) : Ints (w.setCell p u) B A n xs :=
  h.keep fun q hq => World.cell?_setCell_other w p q u (fun e => by subst e; omega)
theorem Ints.of_own {base : Nat} {e : TypeId} {c : Nat} (h : w.ownsRow base e 1 (.slice A n c) n (xs.map (Value.int .i64))) (hb : ∀ x ∈ xs, -9223372036854775808 ≤ x ∧ x ≤ 9223372036854775807) : Ints w w.heap.size A n xs := by
  have hl : xs.length = n := by simpa using h.1
  refine ⟨hl, hb, fun hn => ?_⟩
  rcases h.2 with ⟨_, h0⟩ | ⟨g, cap, cur, hv, _, hh, _⟩
  · omega
  have hA : A = some ⟨g, 0, none⟩ := by injection hv
  subst hA
  have hlt : g < w.heap.size := by
    rcases Nat.lt_or_ge g w.heap.size with hlt | hge
    · exact hlt
    · rw [Array.getElem?_eq_none hge] at hh; cases hh
  refine ⟨g, 0, rfl, hlt, fun k x hx => ?_⟩
  have := h.cells (g := g) rfl k (.int .i64 x) (by simp [hx])
  by_cases hk : k = 0
  · subst hk; simpa [Addr.add] using this
  · simpa [Addr.add, hk] using this
end

/-! ### Lists, taken so far -/
theorem any_hit {α : Type} {p : α → Bool} {xs : List α} {k : Nat} {x : α} (h : xs[k]? = some x) (hp : p x = true) : xs.any p = true := by
  rw [List.any_eq_true]
  obtain ⟨hk, rfl⟩ := List.getElem?_eq_some_iff.1 h
  exact ⟨_, List.getElem_mem hk, hp⟩
theorem take_succ_of {α : Type} {xs : List α} {k : Nat} {x : α} (h : xs[k]? = some x) : xs.take (k + 1) = xs.take k ++ [x] := by
  rw [List.take_add_one, h]; rfl
theorem any_miss {α : Type} {p : α → Bool} {xs : List α} {k : Nat} {x : α} (h0 : (xs.take k).any p = false) (h : xs[k]? = some x) (hp : p x = false) : (xs.take (k + 1)).any p = false := by
  rw [take_succ_of h, List.any_append, h0]; simp [hp]
theorem any_all {α : Type} {p : α → Bool} {xs : List α} {k n : Nat} (h0 : (xs.take k).any p = false) (hl : xs.length = n) (hk : n ≤ k) : xs.any p = false := by
  rw [List.take_of_length_le (by omega)] at h0; exact h0

/-! ### The shape functions on lists -/
def cellsGo : List Int → Int → Int × Int
  | [], n => (n, 0)
  | s :: l, n => if 4611686018427387903 / n < s then (0, 2) else cellsGo l (n * s)
/-- Cells: how many, and the error's number -/
def cellsF (l : List Int) : Int × Int :=
  if 4 < l.length ∨ (l.any fun s => decide (s < 0)) = true then (0, 1) else if (l.any fun s => s == 0) = true then (0, 0) else cellsGo l 1

theorem pos_of_any {xs : List Int} (h1 : (xs.any fun s => decide (s < 0)) = false) (h2 : (xs.any fun s => s == 0) = false) : ∀ x ∈ xs, 1 ≤ x := by
  intro x hx
  rw [List.any_eq_false] at h1 h2
  have a := h1 x hx
  have b := h2 x hx
  simp at a b
  omega
theorem drop_of {α : Type} {xs : List α} {k : Nat} {x : α} (h : xs[k]? = some x) : xs.drop k = x :: xs.drop (k + 1) := by
  obtain ⟨hk, rfl⟩ := List.getElem?_eq_some_iff.1 h
  exact List.drop_eq_getElem_cons hk
theorem mul_bound {q x : Int} (hq : 1 ≤ q) (hx : 1 ≤ x) (h : ¬ 4611686018427387903 / q < x) : 1 ≤ q * x ∧ q * x ≤ 4611686018427387903 := by
  have h1 : x ≤ 4611686018427387903 / q := by omega
  have h2 := (Int.le_ediv_iff_mul_le (by omega : (0 : Int) < q)).1 h1
  refine ⟨?_, by rw [Int.mul_comm]; exact h2⟩
  have := Int.mul_le_mul hq hx (by omega) (by omega)
  simpa using this

end Go.Proofs.YtinjkakfnppjpaaDoor
/- lexer.kindOf: a byte's kind. -/
namespace Go.Proofs.YtinjkakfnppjpaaDoor
open Go.RowKit

/-- the kind of a byte, by the document's words: 0 other, 1 blank, 2 end of a line, 3 remark, 4 letter, 5 digit, 6 sign -/
def kindI (c : Int) : Int :=
  if c = 32 ∨ c = 9 then 1 else if c = 10 then 2 else if c = 35 then 3
  else if (97 ≤ c ∧ c ≤ 122) ∨ (65 ≤ c ∧ c ≤ 90) then 4 else if 48 ≤ c ∧ c ≤ 57 then 5
  else if c = 43 ∨ c = 45 ∨ c = 42 ∨ c = 40 ∨ c = 41 ∨ c = 91 ∨ c = 93 ∨ c = 44 ∨ c = 61 ∨ c = 58 then 6 else 0
theorem ix_sign (c : Nat) (h : c < 256) : decide (0 ≤ Lib.indexByte [43, 45, 42, 40, 41, 91, 93, 44, 61, 58] c.toUInt8) = decide (c = 43 ∨ c = 45 ∨ c = 42 ∨ c = 40 ∨ c = 41 ∨ c = 91 ∨ c = 93 ∨ c = 44 ∨ c = 61 ∨ c = 58) := by
  revert c
  decide +kernel
set_option maxRecDepth 100000 in
set_option maxHeartbeats 4000000 in
theorem kindOf_any (c : Nat) (h : c < 256) (w : World) (K : Int) (HK : Hid (kindI c = K)) : Calls Tryd.prog 13 #[.int .u8 c] w fun e w' => e = .returned (.int .i64 K) ∧ w = w' := by
  have hs := decide_eq_decide.1 (ix_sign c h)
  generalize hX : Lib.indexByte [43, 45, 42, 40, 41, 91, 93, 44, 61, 58] c.toUInt8 = X at hs
  have HS := Lib.hid hs
  clear hs
  have cI := x_strings_IndexByte ⟨#[43, 45, 42, 40, 41, 91, 93, 44, 61, 58]⟩ c w
  have e1 : (⟨#[43, 45, 42, 40, 41, 91, 93, 44, 61, 58]⟩ : ByteArray).data.toList = [43, 45, 42, 40, 41, 91, 93, 44, 61, 58] := rfl
  rw [e1, Int.toNat_natCast, hX] at cI
  clear e1 hX
  go_enter Tryd.func13, Tryd.ntmps13
  go_wp2_with (go_at_call 22; refine cI.mono ?_; rintro e w1 ⟨rfl, rfl⟩)
  all_goals
    go_ret
    refine ⟨congrArg (fun x => Ending.returned (.int .i64 x)) ?_, rfl⟩
    rw [← HK.out]
    have hs := HS.out
    try simp only [beq_iff_eq, beq_eq_false_iff_ne, ne_eq] at *
    unfold kindI
    repeat' split
    all_goals omega
end Go.Proofs.YtinjkakfnppjpaaDoor
/- lexer.along and lexer.front: how many letters and digits a text begins with, and the text of them. -/
namespace Go.Proofs.YtinjkakfnppjpaaDoor
open Go.RowKit

/-- the kind of a byte -/
def kb (c : UInt8) : Int := kindI (c.toNat : Int)
/-- a letter or a digit -/
def isLD (c : UInt8) : Bool := decide (kb c = 4 ∨ kb c = 5)
/-- how many letters and digits a text begins with -/
def alongL (l : List UInt8) : Nat := (l.takeWhile isLD).length
/-- a text's bytes -/
def bl (s : ByteArray) : List UInt8 := s.data.toList
theorem bl_len (s : ByteArray) : (bl s).length = s.size := by simp [bl]
theorem bl_get (s : ByteArray) (k : Nat) (h : k < s.size) : (bl s)[k]? = some s[k] := by
  unfold bl
  rw [List.getElem?_eq_getElem (by simpa using h)]
  rfl
theorem u8_lt (c : UInt8) : c.toNat < 256 := c.toNat_lt
theorem alongL_le (l : List UInt8) : alongL l ≤ l.length := (List.takeWhile_sublist _).length_le
theorem along_eq : ∀ (l : List UInt8) (k : Nat), (∀ j < k, ∃ c, l[j]? = some c ∧ isLD c = true) → (k = l.length ∨ ∃ c, l[k]? = some c ∧ isLD c = false) → alongL l = k
  | [], 0, _, _ => rfl
  | [], k + 1, h, _ => by obtain ⟨c, h1, _⟩ := h 0 (by omega); simp at h1
  | b :: l, 0, _, h2 => by
    rcases h2 with h2 | ⟨c, h2, h3⟩
    · simp at h2
    · simp only [List.getElem?_cons_zero, Option.some.injEq] at h2
      subst h2
      simp [alongL, h3]
  | b :: l, k + 1, h1, h2 => by
    obtain ⟨c, e1, e2⟩ := h1 0 (by omega)
    simp only [List.getElem?_cons_zero, Option.some.injEq] at e1
    subst e1
    have ih := along_eq l k (fun j hj => by simpa using h1 (j + 1) (by omega)) (by simpa using h2)
    unfold alongL at ih ⊢
    rw [List.takeWhile_cons, if_pos e2, List.length_cons, ih]
theorem isLD_of {c : UInt8} {K : Int} (h : kb c = K) : isLD c = decide (K = 4 ∨ K = 5) := by unfold isLD; rw [h]
set_option maxRecDepth 100000 in
set_option maxHeartbeats 4000000 in
theorem along_any (s : ByteArray) (w : World) (hs : s.size ≤ maxLen) : Calls Tryd.prog 16 #[.string s] w fun e w' => e = .returned (.int .i64 (alongL (bl s))) ∧ w = w' := by
  unfold maxLen at hs
  go_enter Tryd.func16, Tryd.ntmps16
  go_wp2
  go_loop [3] (fun n => ∃ k : Nat, k ≤ s.size ∧ n = .int .i64 k ∧ Hid (∀ j < k, ∃ c, (bl s)[j]? = some c ∧ isLD c = true)) (fun n => s.size - (intOf n).toNat)
  case atStart => exact ⟨0, Nat.zero_le _, rfl, fun j hj => absurd hj (by omega)⟩
  case round =>
    obtain ⟨k, hk, rfl, HA⟩ := hrel
    by_cases hlt : k < s.size
    · have hg := bl_get s k hlt
      obtain ⟨K, HK⟩ : ∃ K, Hid (kb s[k] = K) := ⟨_, Lib.hid rfl⟩
      have HG : Hid ((bl s)[k]? = some s[k]) := hg
      have cK := fun w => kindOf_any s[k].toNat (u8_lt _) w K HK
      clear hg
      by_cases h4 : K = 4
      · have HB : Hid (isLD s[k] = true) := by unfold Hid; rw [isLD_of HK.out]; simp [h4]
        have b4 : (K == 4) = true := by simp [h4]
        clear h4
        go_wp2_with (go_at_call 13; refine (cK _).mono ?_; rintro e w1 ⟨rfl, rfl⟩)
        go_round
        case rel => exact ⟨k + 1, by omega, by go_num, fun j hj => by
          by_cases e : j = k
          · subst e; exact ⟨_, HG.out, HB.out⟩
          · exact HA.out j (by omega)⟩
        case measure => simp [intOf]; omega
      · have b4 : (K == 4) = false := by simp [h4]
        by_cases h5 : K = 5
        · have HB : Hid (isLD s[k] = true) := by unfold Hid; rw [isLD_of HK.out]; simp [h5]
          have b5 : (K == 5) = true := by simp [h5]
          clear h4 h5
          go_wp2_with (go_at_call 13; refine (cK _).mono ?_; rintro e w1 ⟨rfl, rfl⟩)
          go_round
          case rel => exact ⟨k + 1, by omega, by go_num, fun j hj => by
            by_cases e : j = k
            · subst e; exact ⟨_, HG.out, HB.out⟩
            · exact HA.out j (by omega)⟩
          case measure => simp [intOf]; omega
        · have b5 : (K == 5) = false := by simp [h5]
          have HB : Hid (isLD s[k] = false) := by unfold Hid; rw [isLD_of HK.out]; simp [h4, h5]
          clear h4 h5
          go_wp2_with (go_at_call 13; refine (cK _).mono ?_; rintro e w1 ⟨rfl, rfl⟩)
          go_ret
          exact ⟨by rw [along_eq (bl s) k HA.out (Or.inr ⟨_, HG.out, HB.out⟩)]; rfl, rfl⟩
    · go_wp2
      go_ret
      exact ⟨by rw [along_eq (bl s) k HA.out (Or.inl (by rw [bl_len]; omega))]; rfl, rfl⟩
set_option maxRecDepth 100000 in
theorem front_any (s : ByteArray) (w : World) (hs : s.size ≤ maxLen) (h0 : 0 < s.size) : Calls Tryd.prog 21 #[.string s] w fun e w' => e = .returned (.string (s.extract 0 (max (alongL (bl s)) 1))) ∧ w = w' := by
  have c := along_any s w hs
  have hl := alongL_le (bl s)
  rw [bl_len] at hl
  generalize hX : alongL (bl s) = x at *
  have HX : Hid (alongL (bl s) = x) := hX
  clear hX
  unfold maxLen at hs
  go_enter Tryd.func21, Tryd.ntmps21
  go_wp2_with (go_at_call 16; refine c.mono ?_; rintro e w1 ⟨rfl, rfl⟩)
  go_ret
  exact ⟨by rw [show (max (x : Int) 1).toNat = max x 1 by omega]; rfl, rfl⟩
end Go.Proofs.YtinjkakfnppjpaaDoor
/- lexer.Word and lexer.Number: which texts are words, and numbers. -/
namespace Go.Proofs.YtinjkakfnppjpaaDoor
open Go.RowKit

/-- a text is a word -/
def isWordL (l : List UInt8) : Bool := decide (l.length ≤ 16 ∧ (∃ c, l[0]? = some c ∧ kb c = 4) ∧ alongL l = l.length)
set_option maxRecDepth 100000 in
set_option maxHeartbeats 4000000 in
theorem word_any (s : ByteArray) (w : World) (hs : s.size ≤ maxLen) : Calls Tryd.prog 9 #[.string s] w fun e w' => e = .returned (.bool (isWordL (bl s))) ∧ w = w' := by
  have c := along_any s w hs
  have hl := alongL_le (bl s)
  rw [bl_len] at hl
  have hd : isWordL (bl s) = decide (s.size ≤ 16 ∧ (∃ c, (bl s)[0]? = some c ∧ kb c = 4) ∧ alongL (bl s) = s.size) := by unfold isWordL; rw [bl_len]
  generalize hX : alongL (bl s) = x at *
  clear hX
  have HD := Lib.hid hd
  clear hd
  unfold maxLen at hs
  by_cases h0 : 0 < s.size
  · have hg := bl_get s 0 h0
    obtain ⟨K, HK⟩ : ∃ K, Hid (kb s[0] = K) := ⟨_, Lib.hid rfl⟩
    have HG : Hid ((bl s)[0]? = some s[0]) := hg
    have cK := fun w => kindOf_any s[0].toNat (u8_lt _) w K HK
    clear hg
    have hE : Hid (isWordL (bl s) = (decide (s.size ≤ 16) && (K == 4) && ((x : Int) == (s.size : Int)))) := by
      unfold Hid
      rw [HD.out, HG.out]
      by_cases a : s.size ≤ 16 <;> by_cases b : K = 4 <;> by_cases d : x = s.size <;> simp [a, b, d, HK.out]
      all_goals omega
    go_enter Tryd.func9, Tryd.ntmps9
    go_wp2_with (first | (go_at_call 13; refine (cK _).mono ?_; rintro e w1 ⟨rfl, rfl⟩) | (go_at_call 16; refine c.mono ?_; rintro e w1 ⟨rfl, rfl⟩))
    all_goals
      go_ret
      refine ⟨?_, rfl⟩
      rw [hE.out]
      refine congrArg (fun b => Ending.returned (.bool b)) ?_
      by_cases a : s.size ≤ 16 <;> by_cases b : K = 4 <;> simp [a, b] <;> omega
  · have hE : Hid (isWordL (bl s) = false) := by
      unfold Hid
      rw [HD.out, List.getElem?_eq_none (by rw [bl_len]; omega)]
      simp
    go_enter Tryd.func9, Tryd.ntmps9
    go_wp2
    go_ret
    exact ⟨by rw [hE.out]; rfl, rfl⟩

/-- the number that digits are -/
def numL (l : List UInt8) : Int := l.foldl (fun n c => n * 10 + ((c.toNat : Int) - 48)) 0
/-- a text is a number -/
def isNumL (l : List UInt8) : Bool := decide (0 < l.length ∧ l.length ≤ 18 ∧ ¬(1 < l.length ∧ l[0]? = some 48) ∧ ∀ j < l.length, ∃ c, l[j]? = some c ∧ kb c = 5)
theorem dig_in {c : UInt8} (h : kb c = 5) : 48 ≤ (c.toNat : Int) ∧ (c.toNat : Int) ≤ 57 := by
  unfold kb kindI at h
  repeat' split at h
  all_goals omega
theorem numL_snoc (l : List UInt8) (c : UInt8) : numL (l ++ [c]) = numL l * 10 + ((c.toNat : Int) - 48) := by simp [numL]
theorem take_snoc (l : List UInt8) (k : Nat) (c : UInt8) (h : l[k]? = some c) : l.take (k + 1) = l.take k ++ [c] := by
  obtain ⟨hk, e⟩ := List.getElem?_eq_some_iff.1 h
  rw [List.take_succ_eq_append_getElem hk, e]
/-- what Number gives -/
def numRes (l : List UInt8) : Value := if isNumL l then .tuple #[.int .i64 (numL l), .bool true] else .tuple #[.int .i64 0, .bool false]
theorem numRes_no {l : List UInt8} (h : isNumL l = false) : numRes l = .tuple #[.int .i64 0, .bool false] := by unfold numRes; rw [h]; rfl
theorem numRes_yes {l : List UInt8} (h : isNumL l = true) : numRes l = .tuple #[.int .i64 (numL l), .bool true] := by unfold numRes; rw [h]; rfl
theorem ten_le : ∀ k, k < 18 → (10 : Int) ^ k ≤ 100000000000000000 := by decide
theorem ten_step {v d : Int} {k : Nat} (h : v < 10 ^ k) (hd : d ≤ 9) : v * 10 + d < 10 ^ (k + 1) := by rw [Int.pow_succ]; omega
set_option maxRecDepth 100000 in
set_option maxHeartbeats 8000000 in
theorem number_any (s : ByteArray) (w : World) (hs : s.size ≤ maxLen) : Calls Tryd.prog 6 #[.string s] w fun e w' => e = .returned (numRes (bl s)) ∧ w = w' := by
  unfold maxLen at hs
  by_cases h0 : s.size = 0
  · have hE : Hid (numRes (bl s) = .tuple #[.int .i64 0, .bool false]) := numRes_no (by
      unfold isNumL
      rw [bl_len]
      simp [h0])
    have h0' : ((s.size : Int) == 0) = true := by simp [h0]
    clear h0
    go_enter Tryd.func6, Tryd.ntmps6
    go_wp2
    exact bodyPost_ret (v := .tuple #[.int .i64 0, .bool false]) (by simp [results, Tryd.results6, go_sem]) rfl ⟨by rw [hE.out], rfl⟩
  · by_cases h18 : 18 < s.size
    · have hE : Hid (numRes (bl s) = .tuple #[.int .i64 0, .bool false]) := numRes_no (by
        unfold isNumL
        rw [bl_len]
        simp only [decide_eq_false_iff_not, not_and]
        omega)
      have h0' : ((s.size : Int) == 0) = false := by rw [beq_eq_false_iff_ne]; omega
      go_enter Tryd.func6, Tryd.ntmps6
      go_wp2
      exact bodyPost_ret (v := .tuple #[.int .i64 0, .bool false]) (by simp [results, Tryd.results6, go_sem]) rfl ⟨by rw [hE.out], rfl⟩
    · have hp : 0 < s.size := by omega
      have h0' : ((s.size : Int) == 0) = false := by rw [beq_eq_false_iff_ne]; omega
      have hg := bl_get s 0 hp
      have HG0 : Hid ((bl s)[0]? = some s[0]) := hg
      clear hg
      by_cases h1 : 1 < s.size ∧ s[0] = 48
      · have hE : Hid (numRes (bl s) = .tuple #[.int .i64 0, .bool false]) := numRes_no (by
          unfold isNumL
          rw [bl_len, HG0.out]
          simp [h1.1, h1.2])
        have e48 : ((s[0].toNat : Int) == 48) = true := by rw [h1.2]; rfl
        have h1' := h1.1
        clear h1
        go_enter Tryd.func6, Tryd.ntmps6
        go_wp2
        exact bodyPost_ret (v := .tuple #[.int .i64 0, .bool false]) (by simp [results, Tryd.results6, go_sem]) rfl ⟨by rw [hE.out], rfl⟩
      · have HN : Hid (¬(1 < (bl s).length ∧ (bl s)[0]? = some 48)) := by
          unfold Hid
          rw [bl_len, HG0.out]
          simpa using h1
        have hc : (1 < s.size ∧ ((s[0].toNat : Int) == 48) = false) ∨ ¬ 1 < s.size := by
          by_cases a : 1 < s.size
          · refine Or.inl ⟨a, ?_⟩
            rw [beq_eq_false_iff_ne]
            intro e
            exact h1 ⟨a, UInt8.toNat_inj.1 (by rw [show (48 : UInt8).toNat = 48 from rfl]; omega)⟩
          · exact Or.inr a
        clear h1
        rcases hc with ⟨h1, e48⟩ | h1
        all_goals
          go_enter Tryd.func6, Tryd.ntmps6
          go_wp2
          go_loop [4, 26] (fun n i => ∃ (k : Nat) (v : Int), k ≤ s.size ∧ i = .int .i64 k ∧ n = .int .i64 v ∧ Hid (numL ((bl s).take k) = v) ∧ 0 ≤ v ∧ Hid (v < 10 ^ k) ∧ Hid (∀ j < k, ∃ c, (bl s)[j]? = some c ∧ kb c = 5)) (fun _ i => s.size - (intOf i).toNat)
          case atStart => exact ⟨0, 0, Nat.zero_le _, rfl, rfl, rfl, Int.le_refl _, Lib.hid (by decide), fun j hj => absurd hj (by omega)⟩
          case round =>
            obtain ⟨k, v, hk, rfl, rfl, HV, hv, HV2, HA⟩ := hrel
            by_cases hlt : k < s.size
            · have HG : Hid ((bl s)[k]? = some s[k]) := bl_get s k hlt
              obtain ⟨K, HK⟩ : ∃ K, Hid (kb s[k] = K) := ⟨_, Lib.hid rfl⟩
              have cK := fun w => kindOf_any s[k].toNat (u8_lt _) w K HK
              by_cases h5 : K = 5
              · obtain ⟨hlo, hhi⟩ := dig_in (HK.out.trans h5)
                have HB : Hid (kb s[k] = 5) := HK.out.trans h5
                have b5 : (K != 5) = false := by simp [h5]
                have hv3 : v < 100000000000000000 := by have := ten_le k (by omega); have := HV2.out; omega
                clear h5
                go_wp2_with (go_at_call 13; refine (cK _).mono ?_; rintro e w1 ⟨rfl, rfl⟩)
                refine ⟨⟨k + 1, v * 10 + ((s[k].toNat : Int) - 48), by omega, by go_num, rfl, ?_, by omega, ten_step HV2.out (by omega), fun j hj => ?_⟩, by simp [intOf]; omega⟩
                · unfold Hid
                  rw [take_snoc _ _ _ HG.out, numL_snoc, HV.out]
                · by_cases e : j = k
                  · subst e; exact ⟨_, HG.out, HB.out⟩
                  · exact HA.out j (by omega)
              · have b5 : (K != 5) = true := by simp [h5]
                have hE : Hid (numRes (bl s) = .tuple #[.int .i64 0, .bool false]) := numRes_no (by
                  unfold isNumL
                  rw [decide_eq_false_iff_not]
                  rintro ⟨_, _, _, h⟩
                  obtain ⟨c, e1, e2⟩ := h k (by rw [bl_len]; omega)
                  rw [HG.out] at e1
                  injection e1 with e1
                  subst e1
                  exact h5 (HK.out.symm.trans e2))
                clear h5
                go_wp2_with (go_at_call 13; refine (cK _).mono ?_; rintro e w1 ⟨rfl, rfl⟩)
                exact bodyPost_ret (v := .tuple #[.int .i64 0, .bool false]) (by simp [results, Tryd.results6, go_sem]) rfl ⟨by rw [hE.out], rfl⟩
            · obtain rfl : s.size = k := by omega
              have hE : Hid (numRes (bl s) = .tuple #[.int .i64 v, .bool true]) := by
                unfold Hid
                rw [numRes_yes, ← HV.out, List.take_of_length_le (by rw [bl_len]; omega)]
                unfold isNumL
                rw [decide_eq_true_iff, bl_len]
                refine ⟨by omega, by omega, ?_, HA.out⟩
                have := HN.out
                rwa [bl_len] at this
              go_wp2
              exact bodyPost_ret (v := .tuple #[.int .i64 v, .bool true]) (by simp [results, Tryd.results6, go_sem]) rfl ⟨by rw [hE.out], rfl⟩
end Go.Proofs.YtinjkakfnppjpaaDoor
/- lexer.token: the one whose text is told, and whether there is one. -/
namespace Go.Proofs.YtinjkakfnppjpaaDoor
open Go.RowKit

/-- a token -/
structure Tk where
  k : Int
  s : ByteArray
  n : Int
def Tk.val (t : Tk) : Value := .agg #[.int .i64 t.k, .string t.s, .int .i64 t.n]
/-- a text is a sign -/
def isSignL (l : List UInt8) : Bool := decide (l.length = 1 ∧ ∃ c, l[0]? = some c ∧ kb c = 6)
/-- the token whose text is told -/
def tokF (s : ByteArray) : Option Tk :=
  if s.size = 0 then some ⟨4, ⟨#[]⟩, 0⟩ else if isWordL (bl s) then some ⟨1, s, 0⟩
  else if isNumL (bl s) then some ⟨2, s, numL (bl s)⟩ else if isSignL (bl s) then some ⟨3, s, 0⟩ else none
def tokRes (o : Option Tk) : Value := match o with | some t => .tuple #[t.val, .bool true] | none => .tuple #[(⟨0, ⟨#[]⟩, 0⟩ : Tk).val, .bool false]
theorem size_zero {s : ByteArray} (h : s.size = 0) : s = ⟨#[]⟩ := by
  have : s.data = #[] := Array.eq_empty_of_size_eq_zero h
  cases s
  simp only at this
  rw [this]
theorem not_empty {s : ByteArray} (h : s.size ≠ 0) : s.toList.isEmpty = false := by
  rw [Lib.toList_data, List.isEmpty_eq_false_iff]
  intro e
  exact h (by rw [Lib.size_eq, e]; rfl)
set_option maxRecDepth 100000 in
set_option maxHeartbeats 8000000 in
theorem token_any (s : ByteArray) (w : World) (hs : s.size ≤ maxLen) : Calls Tryd.prog 20 #[.string s] w fun e w' => e = .returned (tokRes (tokF s)) ∧ Below w.heap.size w w' := by
  by_cases h0 : s.size = 0
  · obtain rfl := size_zero h0
    have hE : Hid (tokF ⟨#[]⟩ = some ⟨4, ⟨#[]⟩, 0⟩) := rfl
    clear h0
    go_enter Tryd.func20, Tryd.ntmps20
    go_wp2
    exact bodyPost_ret (v := .tuple #[(⟨4, ⟨#[]⟩, 0⟩ : Tk).val, .bool true]) (by simp [results, Tryd.results20, go_sem, Tk.val]) rfl ⟨by rw [hE.out]; rfl, (Below.refl _ w).alloc (Nat.le_refl _) _⟩
  · have hz := not_empty h0
    obtain ⟨W, HW⟩ : ∃ W, Hid (isWordL (bl s) = W) := ⟨_, Lib.hid rfl⟩
    obtain ⟨N, HN⟩ : ∃ N, Hid (isNumL (bl s) = N) := ⟨_, Lib.hid rfl⟩
    have cW := fun w => word_any s w hs
    have cN := fun w => number_any s w hs
    rw [HW.out] at cW
    cases W
    · cases N
      · have cN' := cN
        rw [numRes_no HN.out] at cN'
        clear cN
        by_cases h1 : s.size = 1
        · have p1 : 0 < s.size := by omega
          have HG : Hid ((bl s)[0]? = some (s[0]'p1)) := bl_get s 0 p1
          obtain ⟨K, HK⟩ : ∃ K, Hid (kb (s[0]'p1) = K) := ⟨_, Lib.hid rfl⟩
          have cK := fun w => kindOf_any (s[0]'p1).toNat (u8_lt _) w K HK
          have b1 : ((s.size : Int) == 1) = true := by simp [h1]
          by_cases h6 : K = 6
          · have hE : Hid (tokF s = some ⟨3, s, 0⟩) := by
              unfold Hid tokF
              rw [if_neg h0, if_neg (by rw [HW.out]; decide), if_neg (by rw [HN.out]; decide), if_pos]
              unfold isSignL
              rw [decide_eq_true_iff, bl_len]
              exact ⟨h1, _, HG.out, HK.out.trans h6⟩
            have b6 : (K == 6) = true := by simp [h6]
            clear HW HN h6 h0 h1
            go_enter Tryd.func20, Tryd.ntmps20
            go_wp2_with (first | (go_at_call 9; refine (cW _).mono ?_; rintro e w1 ⟨rfl, rfl⟩) | (go_at_call 6; refine (cN' _).mono ?_; rintro e w1 ⟨rfl, rfl⟩) | (go_at_call 13; refine (cK _).mono ?_; rintro e w1 ⟨rfl, rfl⟩))
            exact bodyPost_ret (v := .tuple #[(⟨3, s, 0⟩ : Tk).val, .bool true]) (by simp [results, Tryd.results20, go_sem, Tk.val]) rfl ⟨by rw [hE.out]; rfl, (Below.refl _ w).alloc (Nat.le_refl _) _⟩
          · have hE : Hid (tokF s = none) := by
              unfold Hid tokF
              rw [if_neg h0, if_neg (by rw [HW.out]; decide), if_neg (by rw [HN.out]; decide), if_neg]
              unfold isSignL
              rw [decide_eq_true_iff]
              rintro ⟨_, c, e1, e2⟩
              rw [HG.out] at e1
              injection e1 with e1
              subst e1
              exact h6 (HK.out.symm.trans e2)
            have b6 : (K == 6) = false := by simp [h6]
            clear HW HN h6 h0 h1
            go_enter Tryd.func20, Tryd.ntmps20
            go_wp2_with (first | (go_at_call 9; refine (cW _).mono ?_; rintro e w1 ⟨rfl, rfl⟩) | (go_at_call 6; refine (cN' _).mono ?_; rintro e w1 ⟨rfl, rfl⟩) | (go_at_call 13; refine (cK _).mono ?_; rintro e w1 ⟨rfl, rfl⟩))
            exact bodyPost_ret (v := .tuple #[(⟨0, ⟨#[]⟩, 0⟩ : Tk).val, .bool false]) (by simp [results, Tryd.results20, go_sem, Tk.val]) rfl ⟨by rw [hE.out]; rfl, (Below.refl _ w).alloc (Nat.le_refl _) _⟩
        · have hE : Hid (tokF s = none) := by
            unfold Hid tokF
            rw [if_neg h0, if_neg (by rw [HW.out]; decide), if_neg (by rw [HN.out]; decide), if_neg]
            unfold isSignL
            rw [decide_eq_true_iff, bl_len]
            rintro ⟨e, _⟩
            exact h1 e
          have b1 : ((s.size : Int) == 1) = false := by rw [beq_eq_false_iff_ne]; omega
          clear HW HN h0 h1
          go_enter Tryd.func20, Tryd.ntmps20
          go_wp2_with (first | (go_at_call 9; refine (cW _).mono ?_; rintro e w1 ⟨rfl, rfl⟩) | (go_at_call 6; refine (cN' _).mono ?_; rintro e w1 ⟨rfl, rfl⟩))
          exact bodyPost_ret (v := .tuple #[(⟨0, ⟨#[]⟩, 0⟩ : Tk).val, .bool false]) (by simp [results, Tryd.results20, go_sem, Tk.val]) rfl ⟨by rw [hE.out]; rfl, (Below.refl _ w).alloc (Nat.le_refl _) _⟩
      · have cN' := cN
        rw [numRes_yes HN.out] at cN'
        clear cN
        have hE : Hid (tokF s = some ⟨2, s, numL (bl s)⟩) := by
          unfold Hid tokF
          rw [if_neg h0, if_neg (by rw [HW.out]; decide), if_pos HN.out]
        clear HW HN h0
        go_enter Tryd.func20, Tryd.ntmps20
        go_wp2_with (first | (go_at_call 9; refine (cW _).mono ?_; rintro e w1 ⟨rfl, rfl⟩) | (go_at_call 6; refine (cN' _).mono ?_; rintro e w1 ⟨rfl, rfl⟩))
        exact bodyPost_ret (v := .tuple #[(⟨2, s, numL (bl s)⟩ : Tk).val, .bool true]) (by simp [results, Tryd.results20, go_sem, Tk.val]) rfl ⟨by rw [hE.out]; rfl, (Below.refl _ w).alloc (Nat.le_refl _) _⟩
    · have hE : Hid (tokF s = some ⟨1, s, 0⟩) := by unfold Hid tokF; rw [if_neg h0, if_pos HW.out]
      clear HW HN h0 cN
      go_enter Tryd.func20, Tryd.ntmps20
      go_wp2_with (first | (go_at_call 9; refine (cW _).mono ?_; rintro e w1 ⟨rfl, rfl⟩))
      exact bodyPost_ret (v := .tuple #[(⟨1, s, 0⟩ : Tk).val, .bool true]) (by simp [results, Tryd.results20, go_sem, Tk.val]) rfl ⟨by rw [hE.out]; rfl, (Below.refl _ w).alloc (Nat.le_refl _) _⟩
end Go.Proofs.YtinjkakfnppjpaaDoor
/- lexer.pass: where the next token begins, and whether a line ends ahead of it. -/
namespace Go.Proofs.YtinjkakfnppjpaaDoor
open Go.RowKit

/-- what is gone by ahead of a token: how many bytes, and whether a line ends (e: one has ended; i: within a remark) -/
def passL : Bool → Bool → List UInt8 → Nat × Bool
  | e, _, [] => (0, e)
  | e, i, c :: l =>
    if kb c = 2 then ((passL true false l).1 + 1, (passL true false l).2)
    else if kb c = 3 then ((passL e true l).1 + 1, (passL e true l).2)
    else if kb c ≠ 1 ∧ i = false then (0, e)
    else ((passL e i l).1 + 1, (passL e i l).2)
/-- the same, from a place on -/
def passAt (l : List UInt8) (k : Nat) (e i : Bool) : Nat × Bool := (k + (passL e i (l.drop k)).1, (passL e i (l.drop k)).2)
theorem drop_at {l : List UInt8} {k : Nat} {c : UInt8} (h : l[k]? = some c) : l.drop k = c :: l.drop (k + 1) := by
  obtain ⟨hk, e⟩ := List.getElem?_eq_some_iff.1 h
  rw [List.drop_eq_getElem_cons hk, e]
theorem passAt_end (l : List UInt8) (e i : Bool) : passAt l l.length e i = (l.length, e) := by
  unfold passAt
  rw [List.drop_of_length_le (Nat.le_refl _)]
  rfl
theorem passAt_line {l : List UInt8} {k : Nat} {c : UInt8} (h : l[k]? = some c) (hc : kb c = 2) (e i : Bool) : passAt l k e i = passAt l (k + 1) true false := by
  unfold passAt
  rw [drop_at h, passL, if_pos hc]
  simp only [Prod.mk.injEq, and_true]
  omega
theorem passAt_remark {l : List UInt8} {k : Nat} {c : UInt8} (h : l[k]? = some c) (hc : kb c = 3) (e i : Bool) : passAt l k e i = passAt l (k + 1) e true := by
  unfold passAt
  rw [drop_at h, passL, if_neg (by omega), if_pos hc]
  simp only [Prod.mk.injEq, and_true]
  omega
theorem passAt_stop {l : List UInt8} {k : Nat} {c : UInt8} (h : l[k]? = some c) (h2 : kb c ≠ 2) (h3 : kb c ≠ 3) (h1 : kb c ≠ 1) (e : Bool) : passAt l k e false = (k, e) := by
  unfold passAt
  rw [drop_at h, passL, if_neg h2, if_neg h3, if_pos ⟨h1, rfl⟩]
  rfl
theorem passAt_on {l : List UInt8} {k : Nat} {c : UInt8} (h : l[k]? = some c) (h2 : kb c ≠ 2) (h3 : kb c ≠ 3) (e i : Bool) (hi : kb c = 1 ∨ i = true) : passAt l k e i = passAt l (k + 1) e i := by
  unfold passAt
  rw [drop_at h, passL, if_neg h2, if_neg h3, if_neg (by rintro ⟨a, b⟩; rcases hi with hi | hi; exact a hi; rw [b] at hi; cases hi)]
  simp only [Prod.mk.injEq, and_true]
  omega
set_option maxRecDepth 100000 in
set_option maxHeartbeats 8000000 in
theorem pass_any (s : ByteArray) (p : Nat) (w : World) (hs : s.size ≤ 1000000) (hp : p ≤ s.size) (P : Nat) (E : Bool) (HP : Hid (passAt (bl s) p false false = (P, E))) : Calls Tryd.prog 19 #[.string s, .int .i64 p] w fun e w' => e = .returned (.tuple #[.int .i64 P, .bool E]) ∧ w = w' := by
  go_enter Tryd.func19, Tryd.ntmps19
  go_wp2
  go_step3
  go_wp2
  go_step3
  go_wp2
  go_loop [1, 6, 7] (fun a x y => ∃ (k : Nat) (e i : Bool), k ≤ s.size ∧ a = .int .i64 k ∧ x = .bool e ∧ y = .bool i ∧ Hid (passAt (bl s) k e i = (P, E))) (fun a _ _ => s.size - (intOf a).toNat)
  case atStart => exact ⟨p, false, false, hp, rfl, rfl, rfl, HP⟩
  case round =>
    obtain ⟨k, e, i, hk, rfl, rfl, rfl, HR⟩ := hrel
    by_cases hlt : k < s.size
    · have HG : Hid ((bl s)[k]? = some s[k]) := bl_get s k hlt
      obtain ⟨K, HK⟩ : ∃ K, Hid (kb s[k] = K) := ⟨_, Lib.hid rfl⟩
      have cK := fun w => kindOf_any s[k].toNat (u8_lt _) w K HK
      go_wp2_with (go_at_call 13; refine (cK _).mono ?_; rintro e w1 ⟨rfl, rfl⟩)
      · rename_i a
        exact ⟨⟨k + 1, true, false, by omega, by go_num, rfl, rfl, Lib.hid ((passAt_line HG.out (HK.out.trans (by simpa using a)) e i).symm.trans HR.out)⟩, by simp [intOf]; omega⟩
      · rename_i a
        exact ⟨⟨k + 1, e, true, by omega, by go_num, rfl, rfl, Lib.hid ((passAt_remark HG.out (HK.out.trans (by simpa using a)) e i).symm.trans HR.out)⟩, by simp [intOf]; omega⟩
      · rename_i a b c
        exact ⟨⟨k + 1, e, i, by omega, by go_num, rfl, rfl, Lib.hid ((passAt_on HG.out (by rw [HK.out]; simpa using a) (by rw [HK.out]; simpa using b) e i (Or.inl (HK.out.trans c))).symm.trans HR.out)⟩, by simp [intOf]; omega⟩
      · rename_i a b c d
        have hi : i = false := by simpa using d.2
        subst hi
        have h := (passAt_stop HG.out (by rw [HK.out]; simpa using a) (by rw [HK.out]; simpa using b) (by rw [HK.out]; exact c) e).symm.trans HR.out
        injection h with h1 h2
        subst h1 h2
        rw [Exit.noGoto_ret]
        exact bodyPost_ret (v := .tuple #[.int .i64 k, .bool e]) (by simp [results, Tryd.results19, go_sem]) rfl ⟨rfl, rfl⟩
      · rename_i a b c d
        have hi : i = true := by
          rcases d with d | d
          · exact absurd (by simpa using d) c
          · simpa using d
        exact ⟨⟨k + 1, e, i, by omega, by go_num, rfl, rfl, Lib.hid ((passAt_on HG.out (by rw [HK.out]; simpa using a) (by rw [HK.out]; simpa using b) e i (Or.inr hi)).symm.trans HR.out)⟩, by simp [intOf]; omega⟩
    · obtain rfl : s.size = k := by omega
      have h := HR.out
      rw [← bl_len s, passAt_end] at h
      injection h with h1 h2
      rw [bl_len] at h1
      subst h1 h2
      go_wp2
      exact bodyPost_ret (v := .tuple #[.int .i64 s.size, .bool e]) (by simp [results, Tryd.results19, go_sem]) rfl ⟨rfl, rfl⟩
end Go.Proofs.YtinjkakfnppjpaaDoor
/- What lexer.Cut gives, in plain words. -/
namespace Go.Proofs.YtinjkakfnppjpaaDoor
open Go.RowKit

def ofL (l : List UInt8) : ByteArray := ⟨l.toArray⟩
theorem bl_ofL (l : List UInt8) : bl (ofL l) = l := by simp [bl, ofL]
theorem ofL_bl (s : ByteArray) : ofL (bl s) = s := Lib.mk_data s
theorem ofL_size (l : List UInt8) : (ofL l).size = l.length := by rw [← bl_len, bl_ofL]
theorem extract_ofL (s : ByteArray) (a b : Nat) : s.extract a b = ofL (((bl s).drop a).take (b - a)) := Lib.extract_eq s a b
/-- how long the first token of a text is -/
def mF (r : List UInt8) : Nat := max (alongL r) 1
theorem mF_pos (r : List UInt8) : 1 ≤ mF r := by unfold mF; omega
theorem mF_le {r : List UInt8} (h : r ≠ []) : mF r ≤ r.length := by
  have := alongL_le r
  have : 0 < r.length := List.length_pos_iff.2 h
  unfold mF
  omega
theorem passL_le : ∀ (l : List UInt8) (e i : Bool), (passL e i l).1 ≤ l.length
  | [], _, _ => Nat.le_refl _
  | c :: l, e, i => by
    have h1 := passL_le l true false
    have h2 := passL_le l e true
    have h3 := passL_le l e i
    rw [passL, List.length_cons]
    repeat' split
    all_goals simp only
    all_goals omega
def lineTk : Tk := ⟨4, ⟨#[]⟩, 0⟩
/-- one token more, behind an end of a line if one is told and there is one ahead -/
def withLine (e : Bool) (L : List Tk) (t : Tk) : List Tk := if e = true ∧ L ≠ [] then L ++ [lineTk] ++ [t] else L ++ [t]
/-- the tokens of a text that begins with one, behind those that are there; or how many bytes are left where none begins -/
def cutE (r : List UInt8) (e : Bool) (L : List Tk) : Except Nat (List Tk) :=
  if _h : r = [] then .ok L else
    match tokF (ofL (r.take (mF r))) with
    | none => .error r.length
    | some t => cutE ((r.drop (mF r)).drop (passL false false (r.drop (mF r))).1) (passL false false (r.drop (mF r))).2 (withLine e L t)
termination_by r.length
decreasing_by
  have h1 := mF_pos r
  have : 0 < r.length := List.length_pos_iff.2 _h
  simp only [List.length_drop]
  omega
theorem cutE_nil (e : Bool) (L : List Tk) : cutE [] e L = .ok L := by rw [cutE]; simp
theorem cutE_bad {r : List UInt8} (h : r ≠ []) (ht : tokF (ofL (r.take (mF r))) = none) (e : Bool) (L : List Tk) : cutE r e L = .error r.length := by
  rw [cutE, dif_neg h, ht]
theorem cutE_on {r : List UInt8} {t : Tk} (h : r ≠ []) (ht : tokF (ofL (r.take (mF r))) = some t) (e : Bool) (L : List Tk) :
    cutE r e L = cutE ((r.drop (mF r)).drop (passL false false (r.drop (mF r))).1) (passL false false (r.drop (mF r))).2 (withLine e L t) := by
  rw [cutE, dif_neg h, ht]
/-- the tokens of a text, or how many bytes are left where none begins -/
def cutG (l : List UInt8) : Except Nat (List Tk) := cutE (l.drop (passL false false l).1) (passL false false l).2 []
/-- what Cut gives of n bytes: tokens, a place, an error -/
def cutH (n : Nat) (R : Except Nat (List Tk)) : List Tk × Int × Int :=
  match R with
  | .error q => ([], ((n - q : Nat) : Int), 6)
  | .ok L => if 4096 < L.length then ([], 0, 2) else (L, (n : Int), 0)
def cutF (l : List UInt8) : List Tk × Int × Int := if 65536 < l.length then ([], 0, 2) else cutH l.length (cutG l)
theorem tokF_text {s : ByteArray} {t : Tk} (h0 : s.size ≠ 0) (h : tokF s = some t) : t.s = s := by
  unfold tokF at h
  rw [if_neg h0] at h
  repeat' split at h
  all_goals first | (injection h with h; rw [← h]) | cases h
/-- from a place on -/
theorem passAt_fst (l : List UInt8) (k : Nat) : passAt l k false false = (k + (passL false false (l.drop k)).1, (passL false false (l.drop k)).2) := rfl
theorem withLine_length (e : Bool) (L : List Tk) (t : Tk) : (withLine e L t).length ≤ L.length + 2 := by
  unfold withLine
  split <;> simp
end Go.Proofs.YtinjkakfnppjpaaDoor
/- Tokens: how they read; slices of the call's own of them, and one more behind them. -/
namespace Go.Proofs.YtinjkakfnppjpaaDoor
open Go.RowKit

/-- numbers and texts that Go holds -/
def Tk.ok (t : Tk) : Prop := -9223372036854775808 ≤ t.k ∧ t.k ≤ 9223372036854775807 ∧ -9223372036854775808 ≤ t.n ∧ t.n ≤ 9223372036854775807 ∧ t.s.size ≤ maxLen
def cellsT : List Tk → List Value
  | [] => []
  | x :: ss => .int .i64 x.k :: .string x.s :: .int .i64 x.n :: cellsT ss
theorem cellsT_length (ss : List Tk) : (cellsT ss).length = 3 * ss.length := by
  induction ss with
  | nil => rfl
  | cons x ss ih => simp only [cellsT, List.length_cons, ih]; omega
theorem cellsT_append (a b : List Tk) : cellsT (a ++ b) = cellsT a ++ cellsT b := by
  induction a with
  | nil => rfl
  | cons x a ih => simp only [List.cons_append, cellsT, ih]
theorem cellsT_at {ss : List Tk} {k : Nat} {x : Tk} (h : ss[k]? = some x) : (cellsT ss)[3 * k]? = some (.int .i64 x.k) ∧ (cellsT ss)[3 * k + 1]? = some (.string x.s) ∧ (cellsT ss)[3 * k + 2]? = some (.int .i64 x.n) := by
  induction ss generalizing k with
  | nil => simp at h
  | cons y ss ih =>
    cases k with
    | zero => simp at h; subst h; exact ⟨rfl, rfl, rfl⟩
    | succ k =>
      have := ih (k := k) (by simpa using h)
      exact ⟨by rw [← this.1]; rfl, by rw [← this.2.1]; rfl, by rw [← this.2.2]; rfl⟩
/-- the header (A, n) leads to the tokens ss, in blocks below B -/
def Toks (w : World) (B : Nat) (A : Option Addr) (n : Nat) (ss : List Tk) : Prop :=
  ss.length = n ∧ (∀ x ∈ ss, x.ok) ∧
  (0 < n → ∃ b off, A = some ⟨b, off, none⟩ ∧ b < B ∧ ∀ (k : Nat) (x : Tk), ss[k]? = some x → w.cell? ⟨b, off + k * 3, none⟩ = some (.int .i64 x.k) ∧ w.cell? ⟨b, off + k * 3 + 1, none⟩ = some (.string x.s) ∧ w.cell? ⟨b, off + k * 3 + 2, none⟩ = some (.int .i64 x.n))
section
variable {w w' : World} {B B' n : Nat} {A : Option Addr} {ss : List Tk}
theorem Toks.nil_ : Toks w B A 0 [] := ⟨rfl, by simp, fun h => absurd h (by omega)⟩
theorem Toks.keep (h : Toks w B A n ss) (hk : ∀ p : Addr, p.block < B → w'.cell? p = w.cell? p) : Toks w' B A n ss := by
  obtain ⟨hl, hb, hc⟩ := h
  refine ⟨hl, hb, fun hn => ?_⟩
  obtain ⟨b, off, e, hB, hx⟩ := hc hn
  exact ⟨b, off, e, hB, fun k x hx' => ⟨(hk _ hB).trans (hx k x hx').1, (hk _ hB).trans (hx k x hx').2.1, (hk _ hB).trans (hx k x hx').2.2⟩⟩
theorem Toks.more (h : Toks w B A n ss) (hB : B ≤ B') : Toks w B' A n ss := by
  obtain ⟨hl, hb, hc⟩ := h
  refine ⟨hl, hb, fun hn => ?_⟩
  obtain ⟨b, off, e, hB', hx⟩ := hc hn
  exact ⟨b, off, e, by omega, hx⟩
theorem Toks.below (h : Toks w B A n ss) (hb : Below B w w') : Toks w' B A n ss := h.keep fun _ hp => hb.cell hp
theorem Toks.drewN (h : Toks w B A n ss) (k : Nat) : Toks (w.drewN k) B A n ss := h
theorem Toks.at_ {k : Nat} (h : Toks w B A n ss) (hk : k < n) :
    ∃ b off x, A = some ⟨b, off, none⟩ ∧ b < B ∧ Hid (ss[k]? = some x) ∧ w.cell? ⟨b, off + k * 3, none⟩ = some (.int .i64 x.k) ∧ w.cell? ⟨b, off + k * 3 + 1, none⟩ = some (.string x.s) ∧ w.cell? ⟨b, off + k * 3 + 2, none⟩ = some (.int .i64 x.n) ∧ x.ok := by
  obtain ⟨hl, hb, hc⟩ := h
  obtain ⟨b, off, rfl, hB, hx⟩ := hc (by omega)
  have hk' : k < ss.length := by omega
  have hm := hb _ (List.getElem_mem hk')
  have hx' := hx k _ (List.getElem?_eq_getElem hk')
  exact ⟨b, off, ss[k], rfl, hB, List.getElem?_eq_getElem hk', hx'.1, hx'.2.1, hx'.2.2, hm⟩
end
set_option maxRecDepth 100000 in
theorem infoTok : (Tryd.prog.info? 33).map (fun i => (i.zero, i.size, i.bytes)) = some (some (.agg #[.int .i64 0, .string ⟨#[]⟩, .int .i64 0]), 3, 32) := by kernel_rfl
/-- a slice of the call's own, of tokens -/
def OwnT (w : World) (base : Nat) (A : Option Addr) (c : Nat) (ss : List Tk) : Prop := w.ownsRow base 33 3 (.slice A ss.length c) ss.length (cellsT ss)
section
variable {w w' : World} {base B c : Nat} {A : Option Addr} {ss : List Tk}
theorem OwnT.nil_ (w : World) (base : Nat) : OwnT w base none 0 [] := w.ownsRow_nil base _ 3
theorem OwnT.below (h : OwnT w base A c ss) (hb : Below B w w') (hB : w.heap.size ≤ B) : OwnT w' base A c ss :=
  World.ownsRow.kept h ⟨hb.os, hb.tape, hb.output, hb.size, fun i hi _ => hb.block i (by omega)⟩ (row := none) (by cases hh : (Value.slice A ss.length c).ownBlock with | none => exact .inl rfl | some k => exact .inr (by simp))
theorem OwnT.alloc (h : OwnT w base A c ss) (o : Obj) : OwnT (w.alloc o) base A c ss := World.ownsRow.alloc h o
theorem OwnT.lt {g : Nat} (h : OwnT w base (some ⟨g, 0, none⟩) c ss) : base ≤ g ∧ g < w.heap.size := World.ownsRow.lt h g rfl
theorem OwnT.heap (h : OwnT w base A c ss) : A = none ∨ ∃ g cur, A = some ⟨g, 0, none⟩ ∧ base ≤ g ∧ w.heap[g]? = some (.cells cur 33 (0, 0)) := by
  rcases h.2 with ⟨h1, _⟩ | ⟨g, cap, cur, h1, h2, h3, _⟩
  · injection h1 with h1; exact .inl h1
  · injection h1 with h1; exact .inr ⟨g, cur, h1, h2, h3⟩
theorem OwnT.same (h : OwnT w base A c ss) (hq : ∀ b, A = some ⟨b, 0, none⟩ → w'.heap[b]? = w.heap[b]?) : OwnT w' base A c ss := by
  refine ⟨h.1, ?_⟩
  rcases h.2 with h1 | ⟨b, cap, cur, h1, h2, h3, h4⟩
  · exact .inl h1
  · refine .inr ⟨b, cap, cur, h1, h2, ?_, h4⟩
    injection h1 with h1
    rw [hq b h1]; exact h3
theorem OwnT.rows (h : OwnT w base A c ss) : ∀ (k : Nat) (x : Tk), ss[k]? = some x → ∃ g, A = some ⟨g, 0, none⟩ ∧ base ≤ g ∧ g < w.heap.size ∧ w.cell? ⟨g, 3 * k, none⟩ = some (.int .i64 x.k) ∧ w.cell? ⟨g, 3 * k + 1, none⟩ = some (.string x.s) ∧ w.cell? ⟨g, 3 * k + 2, none⟩ = some (.int .i64 x.n) := by
  intro k x hx
  have hk := (List.getElem?_eq_some_iff.1 hx).1
  rcases h.2 with ⟨_, h1⟩ | ⟨g, cap, cur, hv, hb, hg, _, _, _, hr⟩
  · omega
  · have hA : A = some ⟨g, 0, none⟩ := by injection hv
    obtain ⟨c1, c2, c3⟩ := cellsT_at hx
    have hl := cellsT_length ss
    refine ⟨g, hA, hb, (Array.getElem?_eq_some_iff.1 hg).1, (cell_of_row _ _ _ _ _ _ hg).trans ?_, (cell_of_row _ _ _ _ _ _ hg).trans ?_, (cell_of_row _ _ _ _ _ _ hg).trans ?_⟩
    · rw [← hr, List.getElem?_take] at c1
      split at c1
      · simpa using c1
      · cases c1
    · rw [← hr, List.getElem?_take] at c2
      split at c2
      · simpa using c2
      · cases c2
    · rw [← hr, List.getElem?_take] at c3
      split at c3
      · simpa using c3
      · cases c3
/-- tokens of the call's own read as tokens -/
theorem OwnT.toks (h : OwnT w base A c ss) (hx : ∀ x ∈ ss, x.ok) : Toks w w.heap.size A ss.length ss := by
  refine ⟨rfl, hx, fun h0 => ?_⟩
  obtain ⟨g, e, _, hlt, _⟩ := h.rows 0 _ (List.getElem?_eq_getElem h0)
  refine ⟨g, 0, e, hlt, fun k x hk => ?_⟩
  obtain ⟨g', e', _, _, a1, a2, a3⟩ := h.rows k x hk
  rw [e] at e'
  injection e' with e'; injection e' with e'
  subst e'
  rw [Nat.zero_add, Nat.mul_comm k 3]
  exact ⟨a1, a2, a3⟩
theorem OwnT.lenCap (h : OwnT w base A c ss) : ss.length ≤ c := by
  rcases h.2 with ⟨h1, h2⟩ | ⟨g, cap, cur, h1, _, _, h5, _⟩
  · omega
  · injection h1 with _ _ h1; omega
end
/-- one token more, and what was written -/
theorem wpList_appendTok {ops : Array Oper} {rest : List Oper} {o : Oper} {a : Act} {w : World} {Q : Exit → Act → World → Prop}
    (hg : o.guard = none) (s x : Operand) (hop : o.op = Op.call { callee := Callee.builtin Builtin.append, args := #[s, x], argTypes := #[28, 28] })
    (base : Nat) (A : Option Addr) (c p r g : Nat) (y : Tk) (L : List Tk) (hgz : w.heap.size = g) (hs : a.eval s = .slice A p c) (hx : a.eval x = .slice (some ⟨g, 0, none⟩) 1 1)
    (ho : OwnT w base A c L) (hp : L.length = p) (hr : p + 1 = r) (hl : r ≤ 1000000) (hb : base ≤ w.heap.size)
    (hK : ∀ A' c' w', OwnT w' base A' c' (L ++ [y]) → w.grownBy w' (Value.slice A p c).ownBlock → wpList Tryd.prog ops Q rest (a.put o.dst (.slice A' r c')) w') :
    wpList Tryd.prog ops Q (o :: rest) a (w.alloc (.cells #[.int .i64 y.k, .string y.s, .int .i64 y.n] 33)) := by
  obtain ⟨i, hi, hz, h1, h2⟩ := info_parts infoTok
  subst hp
  subst hr
  subst hgz
  refine wpList_append_own _ hg s x 28 hop base 33 i (.agg #[.int .i64 0, .string ⟨#[]⟩, .int .i64 0]) 3 32 Tryd.underlying28 hi hz h1 h2 (by rfl) (by decide) _ L.length (cellsT L) hs (World.ownsRow.alloc ho _) ⟨w.heap.size, 0, none⟩ 1 1 [.int .i64 y.k, .string y.s, .int .i64 y.n] hx rfl ?_ (by simp [Value.oneCell']) (by unfold maxLen; omega) (by omega) (by simp; omega) ?_
  · intro j u hj
    match j, hj with
    | 0, hj => simp at hj; subst hj; simp [Addr.add]
    | 1, hj => simp at hj; subst hj; simp [Addr.add]
    | 2, hj => simp at hj; subst hj; simp [Addr.add]
    | j + 3, hj => simp at hj
  · intro v' w' hown hgr _
    obtain ⟨A', c', rfl⟩ : ∃ A' c', v' = .slice A' (L.length + 1) c' := by
      rcases hown.2 with ⟨rfl, h0⟩ | ⟨g, cap, cur, rfl, _⟩
      · omega
      · exact ⟨_, _, rfl⟩
    refine hK A' c' w' ?_ ((World.grownBy_alloc w _ _).trans hgr)
    unfold OwnT
    rw [List.length_append, cellsT_append]
    exact hown
theorem block_keptT {w w' : World} {base' c' g p : Nat} {A' : Option Addr} {L : List Tk} {cs : Array Value} {t : TypeId} {fr : Nat × Nat} (h : w.heap[g]? = some (.cells cs t fr)) (hG : ∀ g', A' = some ⟨g', 0, none⟩ → g' ≠ g) (hg : w.grownBy w' (Value.slice A' p c').ownBlock) (hS : OwnT w base' A' c' L) : w'.heap[g]? = some (.cells cs t fr) := by
  refine (hg.block g (Array.getElem?_eq_some_iff.1 h).1 ?_).trans h
  rcases hS.heap with h1 | ⟨g', cur, h1, _, hh⟩
  · rw [h1]; simp [Value.ownBlock]
  · rw [h1]
    intro e
    exact hG g' h1 (by simpa [Value.ownBlock] using e.symm)
theorem below_appT {w1 W w3 : World} {base p c : Nat} {A : Option Addr} {xs : List Tk} (hb : Below base w1 W) (hg : W.grownBy w3 (Value.slice A p c).ownBlock) (ho : OwnT W base A c xs) (hs : base ≤ W.heap.size) : Below base w1 w3 :=
  hb.grown hg hs fun k hk => by
    rcases ho.heap with h1 | ⟨g', cur, h1, h2, _⟩
    · rw [h1] at hk; cases hk
    · rw [h1] at hk
      simp only [Value.ownBlock, Option.some.injEq] at hk
      omega
end Go.Proofs.YtinjkakfnppjpaaDoor
