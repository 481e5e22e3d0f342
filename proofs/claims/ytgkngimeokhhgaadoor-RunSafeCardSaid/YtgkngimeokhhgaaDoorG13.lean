/- Lists of tokens that read as such; a list of them behind another one; few. -/
import Derived.Test.YtgkngimeokhhgaaDoorG12
import Derived.Deep.QuietTactic
import Derived.BigQuiet
import Derived.Deep.DeepCutAuto
import Derived.Test.YtgkngimeokhhgaaDoorG11
import Derived.Test.YtgkngimeokhhgaaDoorG4
import Derived.Test.YtgkngimeokhhgaaDoorG1
namespace Go.Proofs.YtgkngimeokhhgaaDoor
open Go.RowKit

/-- the header (H, n) leads to lists of tokens, all in blocks below B -/
structure RowsR (w : World) (B : Nat) (H : Option Addr) (n : Nat) (rs : List RowK) : Prop where
  len : rs.length = n
  at_ : 0 < n → ∃ b, H = some ⟨b, 0, none⟩ ∧ b < B ∧ ∀ (k : Nat) (r : RowK), rs[k]? = some r → w.cell? ⟨b, k, none⟩ = some r.hdr
  toks : ∀ r ∈ rs, Toks w B r.A r.L.length r.L
section
variable {w w' : World} {B B2 base ch n : Nat} {H : Option Addr} {rs : List RowK}
theorem RowsR.keep (h : RowsR w B H n rs) (hk : ∀ p : Addr, p.block < B → w'.cell? p = w.cell? p) : RowsR w' B H n rs :=
  ⟨h.len, fun h0 => by
    obtain ⟨b, e, hb, hc⟩ := h.at_ h0
    exact ⟨b, e, hb, fun k r hr => (hk _ hb).trans (hc k r hr)⟩, fun r hr => (h.toks r hr).keep hk⟩
theorem RowsR.on (h : RowsR w B H n rs) (hb : Below B2 w w') (hB : B ≤ B2) : RowsR w' B H n rs := h.keep fun _ hp => hb.cell (Nat.lt_of_lt_of_le hp hB)
theorem RowsR.more (h : RowsR w B H n rs) (hB : B ≤ B2) : RowsR w B2 H n rs :=
  ⟨h.len, fun h0 => by
    obtain ⟨b, e, hb, hc⟩ := h.at_ h0
    exact ⟨b, e, by omega, hc⟩, fun r hr => (h.toks r hr).more hB⟩
theorem RowsR.row (h : RowsR w B H n rs) {k : Nat} (hk : k < n) : ∃ b r, H = some ⟨b, 0, none⟩ ∧ b < B ∧ Hid (rs[k]? = some r) ∧ w.cell? ⟨b, k, none⟩ = some r.hdr ∧ Toks w B r.A r.L.length r.L := by
  obtain ⟨b, e, hb, hc⟩ := h.at_ (by omega)
  have hk' : k < rs.length := by rw [h.len]; exact hk
  exact ⟨b, rs[k], e, hb, List.getElem?_eq_getElem hk', hc k _ (List.getElem?_eq_getElem hk'), h.toks _ (List.getElem_mem hk')⟩
theorem RowsK.reads (h : RowsK w base H ch rs) (hn : rs.length = n) (ho : ∀ r ∈ rs, ∀ t ∈ r.L, t.ok) : RowsR w w.heap.size H n rs := by
  subst hn
  refine ⟨rfl, fun h0 => ?_, fun r hr => (h.ins r hr).toks (ho r hr)⟩
  obtain ⟨g, rfl, _, hlt⟩ := h.some_ h0
  exact ⟨g, rfl, hlt, fun k r hr => (h.hdr_at hr).1⟩
end
/-- headers of the call's own -/
def OwnHd (w : World) (base : Nat) (H : Option Addr) (ch : Nat) (hs : List RowK) : Prop := w.ownsRow base 84 1 (.slice H hs.length ch) hs.length (hs.map RowK.hdr)
theorem OwnHd.nil_ (w : World) (base : Nat) : OwnHd w base none 0 [] := w.ownsRow_nil base _ 1
theorem OwnHd.reads {w : World} {base ch n : Nat} {H : Option Addr} {hs : List RowK} (h : OwnHd w base H ch hs) (hn : hs.length = n) (ht : ∀ r ∈ hs, Toks w w.heap.size r.A r.L.length r.L) : RowsR w w.heap.size H n hs := by
  subst hn
  refine ⟨rfl, fun h0 => ?_, ht⟩
  obtain ⟨g, cap, hv, _, hlt⟩ := World.ownsRow.form h h0
  injection hv with hv
  subst hv
  refine ⟨g, rfl, hlt, fun k r hr => ?_⟩
  have hk := (List.getElem?_eq_some_iff.1 hr).1
  exact (World.ownsRow.cellAt h k (by simpa using hk)).trans (by rw [List.getElem?_map, hr]; rfl)
theorem OwnHd.row {w : World} {base ch p : Nat} {H : Option Addr} {hs : List RowK} (h : OwnHd w base H ch hs) : ∀ g, (Value.slice H p ch).ownBlock = some g → base ≤ g := by
  intro g e
  rcases h.2 with ⟨h1, _⟩ | ⟨g', cap, cur, h1, h2, _⟩
  · injection h1 with h1; rw [h1] at e; cases e
  · injection h1 with h1
    rw [h1] at e
    simp only [Value.ownBlock, Option.some.injEq] at e
    omega
theorem run_appendNilH (w : World) (base : Nat) (ty : TypeId) (v : Value) (n : Nat) (xs : List Value) (hown : w.ownsRow base 84 1 v n xs) (c : Nat) :
    (Builtin.append_ #[87, 87] ty #[v, .slice none 0 c]).run Tryd.prog w = .ok v w := by
  obtain ⟨i, hi, hz, h1, h2⟩ := info_parts infoTkRow
  have ht := Tryd.underlying87
  rcases hown.2 with ⟨rfl, rfl⟩ | ⟨g, cap, cur, rfl, _, _, hnc, _⟩ <;> simp [Builtin.append_, run_underlying ht, sizeOf, typeInfo, Builtin.lenOf, Builtin.firstCells, *, storeCells]
theorem wpList_appendHds {ops : Array Oper} {rest : List Oper} {o : Oper} {a : Act} {w : World} {Q : Exit → Act → World → Prop}
    (hg : o.guard = none) (s x : Operand) (hop : o.op = Op.call { callee := Callee.builtin Builtin.append, args := #[s, x], argTypes := #[87, 87] })
    (base : Nat) (H H2 : Option Addr) (ch m c2 B p r : Nat) (hs ys : List RowK) (hse : a.eval s = .slice H p ch) (hx : a.eval x = .slice H2 m c2) (ho : OwnHd w base H ch hs) (hp : hs.length = p) (hr : p + m = r) (hi2 : RowsR w B H2 m ys) (hl : r ≤ 1000000) (hb : base ≤ w.heap.size)
    (hK : ∀ H' c' w', OwnHd w' base H' c' (hs ++ ys) → w.grownBy w' (Value.slice H p ch).ownBlock → wpList Tryd.prog ops Q rest (a.put o.dst (.slice H' r c')) w') :
    wpList Tryd.prog ops Q (o :: rest) a w := by
  obtain ⟨i, hi, hz, h1, h2⟩ := info_parts infoTkRow
  refine wpList_plain hg fun K hK' => ?_
  subst hp
  subst hr
  have hlen := hi2.len
  have key : ∃ H' c' w', (Builtin.append_ #[87, 87] o.type #[.slice H hs.length ch, .slice H2 m c2]).run Tryd.prog w = .ok (.slice H' (hs.length + m) c') w' ∧ OwnHd w' base H' c' (hs ++ ys) ∧ w.grownBy w' (Value.slice H hs.length ch).ownBlock := by
    rcases Nat.eq_zero_or_pos m with rfl | h0
    · obtain rfl : ys = [] := List.eq_nil_of_length_eq_zero hlen
      rcases Option.eq_none_or_eq_some H2 with rfl | ⟨ad, rfl⟩
      · exact ⟨H, ch, w, by simpa using run_appendNilH w base o.type (.slice H hs.length ch) hs.length _ ho c2, by simpa using ho, World.grownBy.refl w _⟩
      · obtain ⟨v', w', hr, h3, h4, _⟩ := run_append_own (P := Tryd.prog) w base 87 o.type 84 i (.slice none 0 0) 1 24 Tryd.underlying87 hi hz h1 h2 rfl (by decide) (.slice H hs.length ch) hs.length (hs.map RowK.hdr) ho ad 0 c2 [] rfl (by simp) (by simp) (by unfold maxLen; omega) (by omega) hb
        obtain ⟨H', c', rfl⟩ : ∃ H' c', v' = .slice H' (hs.length + 0) c' := by
          rcases h3.2 with ⟨rfl, h0⟩ | ⟨g, cap, cur, rfl, _⟩
          · rw [h0]; exact ⟨_, _, rfl⟩
          · exact ⟨_, _, rfl⟩
        refine ⟨H', c', w', hr, ?_, h4⟩
        unfold OwnHd
        simpa using h3
    · obtain ⟨b, rfl, _, hc⟩ := hi2.at_ h0
      obtain ⟨v', w', hr, h3, h4, _⟩ := run_append_own (P := Tryd.prog) w base 87 o.type 84 i (.slice none 0 0) 1 24 Tryd.underlying87 hi hz h1 h2 rfl (by decide) (.slice H hs.length ch) hs.length (hs.map RowK.hdr) ho ⟨b, 0, none⟩ m c2 (ys.map RowK.hdr) (by rw [List.length_map, hlen, Nat.mul_one]) (fun j u hj => by
          rw [List.getElem?_map] at hj
          obtain ⟨r, hr, rfl⟩ := Option.map_eq_some_iff.1 hj
          have hadd : (Addr.add ⟨b, 0, none⟩ j : Addr) = ⟨b, j, none⟩ := by unfold Addr.add; split <;> simp_all
          rw [hadd]; exact hc j r hr) (fun u hu => by obtain ⟨r, _, rfl⟩ := List.mem_map.1 hu; simp [RowK.hdr, Value.oneCell']) (by unfold maxLen; omega) (by omega) hb
      obtain ⟨H', c', rfl⟩ : ∃ H' c', v' = .slice H' (hs.length + m) c' := by
        rcases h3.2 with ⟨rfl, h0⟩ | ⟨g, cap, cur, rfl, _⟩
        · rw [h0]; exact ⟨_, _, rfl⟩
        · exact ⟨_, _, rfl⟩
      refine ⟨H', c', w', hr, ?_, h4⟩
      unfold OwnHd
      rw [List.length_append, hlen, List.map_append]
      exact h3
  obtain ⟨H', c', w', hrun, ho', hb'⟩ := key
  unfold Oper.wp
  simp [execOp, hop, resolve, invoke, builtin, hse, hx, hrun, Result.andThen]
  exact hK' _ _ (hK _ _ _ ho' hb')
/-- tokens are few, and short -/
def fewL (L : List Tk) : Bool := decide ((∀ t ∈ L, t.s.size ≤ 1000) ∧ L.length ≤ 5000)
end Go.Proofs.YtgkngimeokhhgaaDoor
/- purflelaw08.LexerRows returns true at every two lists of tokens. -/
namespace Go.Proofs.YtgkngimeokhhgaaDoor
open Go.RowKit

theorem linesK_all : ∀ (l cur : List Tk) (D : List (List Tk)), linesK D cur l = D ++ linesK [] cur l
  | [], cur, D => by simp [linesK]
  | t :: l, cur, D => by
    by_cases h : t.k = 4
    · rw [linesK_line h, linesK_line h, linesK_all l [] (D ++ [cur]), linesK_all l [] ([] ++ [cur])]
      simp
    · rw [linesK_on h, linesK_on h, linesK_all l (cur ++ [t]) D]
theorem linesK_cat {t : Tk} (ht : t.k = 4) (m : List Tk) : ∀ (l cur : List Tk), linesK [] cur (l ++ t :: m) = linesK [] cur l ++ linesK [] [] m
  | [], cur => by
    rw [List.nil_append, linesK_line ht, linesK_all]
    rfl
  | x :: l, cur => by
    rw [List.cons_append]
    by_cases h : x.k = 4
    · rw [linesK_line h, linesK_line h, linesK_all _ [] ([] ++ [cur]), linesK_all l [] ([] ++ [cur]), linesK_cat ht m l []]
      simp
    · rw [linesK_on h, linesK_on h, linesK_cat ht m l (cur ++ [x])]
theorem linesK_mem (P : Tk → Prop) : ∀ (l cur : List Tk) (D : List (List Tk)), (∀ R ∈ D, ∀ t ∈ R, P t) → (∀ t ∈ cur, P t) → (∀ t ∈ l, t.k ≠ 4 → P t) → ∀ R ∈ linesK D cur l, ∀ t ∈ R, P t
  | [], cur, D, h1, h2, _ => by
    intro R hR
    rw [linesK, List.mem_append, List.mem_singleton] at hR
    rcases hR with hR | rfl
    · exact h1 R hR
    · exact h2
  | t :: l, cur, D, h1, h2, h3 => by
    by_cases h : t.k = 4
    · rw [linesK_line h]
      refine linesK_mem P l [] (D ++ [cur]) (fun R hR => ?_) (by simp) fun x hx => h3 x (by simp [hx])
      rw [List.mem_append, List.mem_singleton] at hR
      rcases hR with hR | rfl
      · exact h1 R hR
      · exact h2
    · rw [linesK_on h]
      refine linesK_mem P l (cur ++ [t]) D h1 (fun x hx => ?_) fun x hx => h3 x (by simp [hx])
      rw [List.mem_append, List.mem_singleton] at hx
      rcases hx with hx | rfl
      · exact h2 x hx
      · exact h3 _ (by simp) h
theorem linesL_mem (P : Tk → Prop) {l : List Tk} (h : ∀ t ∈ l, t.k ≠ 4 → P t) : ∀ R ∈ linesL l, ∀ t ∈ R, P t := by
  unfold linesL
  split
  · intro R hR; cases hR
  · exact linesK_mem P l [] [] (by simp) (by simp) h
theorem linesL_cat {t : Tk} (ht : t.k = 4) {l m : List Tk} (hl : l ≠ []) (hm : m ≠ []) : linesL (l ++ [t] ++ m) = linesL l ++ linesL m := by
  unfold linesL
  rw [if_neg hl, if_neg hm, if_neg (by simp), List.append_assoc, List.singleton_append, linesK_cat ht]
end Go.Proofs.YtgkngimeokhhgaaDoor
/- purflelaw08.LexerRows, where tokens are few. -/
namespace Go.Proofs.YtgkngimeokhhgaaDoor
open Go.RowKit

theorem rows_mem (P : Tk → Prop) {rs : List RowK} {l : List Tk} (h : rs.map (·.L) = linesL l) (hP : ∀ t ∈ l, t.k ≠ 4 → P t) : ∀ r ∈ rs, ∀ t ∈ r.L, P t := fun r hr => linesL_mem P hP r.L (by rw [← h]; exact List.mem_map_of_mem hr)
theorem linesK_len : ∀ (l cur : List Tk) (D : List (List Tk)), (linesK D cur l).length ≤ D.length + 1 + l.length
  | [], cur, D => by simp [linesK]
  | t :: l, cur, D => by
    by_cases h : t.k = 4
    · rw [linesK_line h]
      have := linesK_len l [] (D ++ [cur])
      simp only [List.length_append, List.length_cons, List.length_nil] at this ⊢
      omega
    · rw [linesK_on h]
      have := linesK_len l (cur ++ [t]) D
      simp only [List.length_cons]
      omega
theorem linesL_len (l : List Tk) : (linesL l).length ≤ 1 + l.length := by
  unfold linesL
  split
  · simp
  · simpa using linesK_len l [] []
theorem linesK_short : ∀ (l cur : List Tk) (D : List (List Tk)), ∀ R ∈ linesK D cur l, R ∈ D ∨ R.length ≤ cur.length + l.length
  | [], cur, D => by
    intro R hR
    rw [linesK, List.mem_append, List.mem_singleton] at hR
    rcases hR with hR | rfl
    · exact .inl hR
    · exact .inr (by omega)
  | t :: l, cur, D => by
    intro R hR
    by_cases h : t.k = 4
    · rw [linesK_line h] at hR
      rcases linesK_short l [] (D ++ [cur]) R hR with h1 | h1
      · rw [List.mem_append, List.mem_singleton] at h1
        rcases h1 with h1 | rfl
        · exact .inl h1
        · exact .inr (by omega)
      · exact .inr (by simp only [List.length_nil, List.length_cons] at h1 ⊢; omega)
    · rw [linesK_on h] at hR
      rcases linesK_short l (cur ++ [t]) D R hR with h1 | h1
      · exact .inl h1
      · exact .inr (by simp only [List.length_append, List.length_cons, List.length_nil] at h1 ⊢; omega)
theorem linesL_short {l R : List Tk} (h : R ∈ linesL l) : R.length ≤ l.length := by
  unfold linesL at h
  split at h
  · cases h
  · rcases linesK_short l [] [] R h with h1 | h1
    · cases h1
    · simpa using h1
theorem RowsR.two {w : World} {B n m : Nat} {H H2 : Option Addr} {rs ss : List RowK} (h : RowsR w B H n rs) (h2 : RowsR w B H2 m ss) : ∀ r ∈ rs ++ ss, Toks w B r.A r.L.length r.L := fun r hr => by
  rcases List.mem_append.1 hr with hr | hr
  · exact h.toks r hr
  · exact h2.toks r hr
end Go.Proofs.YtgkngimeokhhgaaDoor
/- lexer.Join: the text of tokens. -/
namespace Go.Proofs.YtgkngimeokhhgaaDoor
open Go.RowKit

theorem joinTail_len (sep : List UInt8) (m : Nat) : ∀ (xs : List (List UInt8)), (∀ x ∈ xs, x.length ≤ m) → (Lib.joinTail sep xs).length ≤ xs.length * (m + sep.length)
  | [], _ => by simp [Lib.joinTail]
  | x :: xs, h => by
    have h1 := joinTail_len sep m xs fun y hy => h y (by simp [hy])
    have h2 := h x (by simp)
    simp only [Lib.joinTail, List.map_cons, List.flatten_cons, List.length_append, List.length_cons] at h1 ⊢
    rw [Nat.add_mul, Nat.one_mul]
    omega
theorem join_len (sep : List UInt8) (m : Nat) (xs : List (List UInt8)) (h : ∀ x ∈ xs, x.length ≤ m) : (Lib.join xs sep).length ≤ xs.length * (m + sep.length) := by
  match xs, h with
  | [], _ => simp [Lib.join_nil]
  | x :: xs, h =>
    rw [Lib.join_cons, List.length_append, List.length_cons, Nat.add_mul, Nat.one_mul]
    have h1 := joinTail_len sep m xs fun y hy => h y (by simp [hy])
    have h2 := h x (by simp)
    omega
theorem blkL_len {L : List Tk} (h : ∀ t ∈ L, mayT t) : (blkL L).length ≤ L.length * 19 := by
  have := join_len [32] 18 (L.map fun t => bl t.s) (fun x hx => by
    obtain ⟨t, ht, rfl⟩ := List.mem_map.1 hx
    rw [bl_len]
    exact tokF_len (h t ht))
  rw [List.length_map] at this
  exact this
/-- the text of tokens: lines, an end of a line between two -/
def joinT (L : List Tk) : List UInt8 := Lib.join ((linesL L).map blkL) [10]
theorem joinT_len {L : List Tk} (h : ∀ t ∈ L, mayT t) (hn : L.length ≤ 5000) : (joinT L).length ≤ 140737488355328 := by
  have h1 := join_len [10] 95000 ((linesL L).map blkL) (fun x hx => by
    obtain ⟨R, hR, rfl⟩ := List.mem_map.1 hx
    have a := blkL_len (L := R) (linesL_mem mayT (fun t ht _ => h t ht) R hR)
    have b := linesL_short hR
    omega)
  have h2 := linesL_len L
  rw [List.length_map] at h1
  simp only [List.length_cons, List.length_nil] at h1
  have : (linesL L).length * (95000 + (0 + 1)) ≤ 5001 * (95000 + (0 + 1)) := Nat.mul_le_mul_right _ (by omega)
  exact Nat.le_trans h1 (Nat.le_trans this (by decide))
/-- what Join gives -/
def joinF (L : List Tk) : ByteArray × Int :=
  if L.all mayB = false then (⟨#[]⟩, 1) else if (∃ R ∈ linesL L, R = []) then (⟨#[]⟩, 1) else if 4096 < L.length then (⟨#[]⟩, 2) else (ofL (joinT L), 0)
def JoinP (w : World) (T : ByteArray) (E : Int) (e : Ending) (w' : World) : Prop := e = .returned (.tuple #[.string T, .int .i64 E]) ∧ Below w.heap.size w w'
end Go.Proofs.YtgkngimeokhhgaaDoor
/- Blanks, tabs, remarks and ends of lines in front of a text. -/
namespace Go.Proofs.YtgkngimeokhhgaaDoor
open Go.RowKit

/-- five texts that hold no token, by their place; and whether a line ends in them -/
def blankB : Nat → ByteArray
  | 0 => ⟨#[32]⟩
  | 1 => ⟨#[9]⟩
  | 2 => ⟨#[10]⟩
  | 3 => ⟨#[32, 35, 32, 110, 111, 44, 32, 91, 10]⟩
  | _ => ⟨#[10, 32, 10, 9, 10]⟩
def blankE (j : Nat) : Bool := decide (2 ≤ j)
theorem passL_blank (j : Nat) (y : List UInt8) (e : Bool) : passL e false (bl (blankB j) ++ y) = ((bl (blankB j)).length + (passL (e || blankE j) false y).1, (passL (e || blankE j) false y).2) := by
  have k32 : kb 32 = 1 := by decide
  have k9 : kb 9 = 1 := by decide
  have k35 : kb 35 = 3 := by decide
  have k110 : kb 110 = 4 := by decide
  have k111 : kb 111 = 4 := by decide
  have k44 : kb 44 = 6 := by decide
  have k91 : kb 91 = 6 := by decide
  match j with
  | 0 => show passL e false (32 :: y) = _; simp [passL, k32, blankB, bl, blankE, Nat.add_comm]
  | 1 => show passL e false (9 :: y) = _; simp [passL, k9, blankB, bl, blankE, Nat.add_comm]
  | 2 => show passL e false (10 :: y) = _; simp [passL, kb10, blankB, bl, blankE, Nat.add_comm]
  | 3 => show passL e false (32 :: 35 :: 32 :: 110 :: 111 :: 44 :: 32 :: 91 :: 10 :: y) = _; simp [passL, k32, k35, k110, k111, k44, k91, kb10, blankB, bl, blankE]; omega
  | k + 4 => show passL e false (10 :: 32 :: 10 :: 9 :: 10 :: y) = _; simp [passL, k32, k9, kb10, blankB, bl, blankE]; omega
theorem cutQ_blank (j : Nat) (y : List UInt8) (e : Bool) (L : List Tk) : cutQ e (bl (blankB j) ++ y) L = cutQ (e || blankE j) y L := by
  unfold cutQ
  rw [passL_blank]
  simp only [List.drop_append, Nat.add_sub_cancel_left]
  rw [List.drop_of_length_le (by omega), List.nil_append]
theorem cutQ_blank0 (j : Nat) (e : Bool) (L : List Tk) : cutQ e (bl (blankB j)) L = .ok L := by
  have := cutQ_blank j [] e L
  rw [List.append_nil] at this
  rw [this]
  unfold cutQ
  rw [List.drop_nil, cutE_nil]
theorem blank_size (j : Nat) : (blankB j).size ≤ 9 := by
  match j with
  | 0 | 1 | 2 | 3 => decide
  | k + 4 => show 5 ≤ 9; decide
/-- blanks at either end -/
theorem cut_around (j : Nat) (s : ByteArray) {L : List Tk} (h : cutG (bl s) = .ok L) (hs : s.size ≤ 20000) (hL : L.length ≤ 4096) : (cutF (bl (blankB j ++ s ++ ⟨#[10]⟩ ++ blankB j))).1 = L ∧ (cutF (bl (blankB j ++ s ++ ⟨#[10]⟩ ++ blankB j))).2.2 = 0 := by
  have e1 : bl (blankB j ++ s ++ ⟨#[10]⟩ ++ blankB j) = bl (blankB j) ++ (bl s ++ 10 :: bl (blankB j)) := by
    rw [bl_append, bl_append, bl_append]
    show bl (blankB j) ++ bl s ++ [10] ++ bl (blankB j) = _
    simp
  have hz := blank_size j
  rw [← bl_len] at hz hs
  have e2 : cutG (bl (blankB j ++ s ++ ⟨#[10]⟩ ++ blankB j)) = .ok L := by
    rw [e1, cutG_eq, cutQ_blank, cutQ_line, cutQ_first, ← cutG_eq, h]
    exact cutQ_blank0 _ _ _
  rw [cutF_of_ok e2 (by rw [e1]; simp only [List.length_append, List.length_cons]; omega) hL]
  exact ⟨rfl, rfl⟩
/-- blanks between -/
theorem cut_between (j : Nat) (s t : ByteArray) {L M : List Tk} (h : cutG (bl s) = .ok L) (h2 : cutG (bl t) = .ok M) (hs : s.size + t.size ≤ 20000) (hL : L.length + M.length ≤ 4000) :
    (cutF (bl (s ++ ⟨#[10]⟩ ++ blankB j ++ t))).1 = (if L = [] then [] else if M = [] then L else L ++ [lineTk]) ++ (if L ≠ [] ∧ M = [] then [] else M) ∧ (cutF (bl (s ++ ⟨#[10]⟩ ++ blankB j ++ t))).2.2 = 0 := by
  have e1 : bl (s ++ ⟨#[10]⟩ ++ blankB j ++ t) = bl s ++ 10 :: (bl (blankB j) ++ bl t) := by
    rw [bl_append, bl_append, bl_append]
    show bl s ++ [10] ++ bl (blankB j) ++ bl t = _
    simp
  have hz := blank_size j
  have hlen : (bl (s ++ ⟨#[10]⟩ ++ blankB j ++ t)).length ≤ 65536 := by
    rw [e1]
    simp only [List.length_append, List.length_cons, bl_len]
    omega
  rw [cutG_eq] at h h2
  have e2 : cutG (bl (s ++ ⟨#[10]⟩ ++ blankB j ++ t)) = cutQ true (bl t) L := by
    rw [e1, cutG_eq, cutQ_line, h]
    simp only
    rw [cutQ_blank, Bool.true_or]
  by_cases hL0 : L = []
  · subst hL0
    rw [cutQ_first, h2] at e2
    rw [cutF_of_ok e2 hlen (by simp only [List.length_nil] at hL; omega)]
    simp
  · rw [cutQ_behind h2 L hL0] at e2
    by_cases hM : M = []
    · subst hM
      rw [if_pos rfl] at e2
      rw [cutF_of_ok e2 hlen (by omega)]
      simp [hL0]
    · rw [if_neg hM] at e2
      rw [cutF_of_ok e2 hlen (by simp only [List.length_append, List.length_cons, List.length_nil]; omega)]
      simp [hL0, hM]
end Go.Proofs.YtgkngimeokhhgaaDoor
/- What is joined is cut as it was: plain mathematics. -/
namespace Go.Proofs.YtgkngimeokhhgaaDoor
open Go.RowKit

/-- the text of tokens, one by one (b: there is one ahead on this line) -/
def jt : Bool → List Tk → List UInt8
  | _, [] => []
  | b, t :: l => if t.k = 4 then 10 :: jt false l else (if b then 32 :: bl t.s else bl t.s) ++ jt true l
theorem join_two (x y : List UInt8) (r : List (List UInt8)) (sep : List UInt8) : Lib.join (x :: y :: r) sep = x ++ (sep ++ Lib.join (y :: r) sep) := by
  rw [Lib.join_cons, Lib.join_cons]
  simp [Lib.joinTail]
theorem blkL_snoc (cur : List Tk) (t : Tk) : blkL (cur ++ [t]) = blkL cur ++ (if cur = [] then bl t.s else 32 :: bl t.s) := by
  unfold blkL
  match cur with
  | [] => simp [Lib.join_one, Lib.join_nil]
  | c :: cur =>
    simp only [List.cons_append, List.map_cons, List.map_append, List.map_nil]
    rw [Lib.join_cons, Lib.join_cons]
    simp [Lib.joinTail]
theorem linesK_ne (cur : List Tk) (l : List Tk) : linesK [] cur l ≠ [] := by
  induction l generalizing cur with
  | nil => simp [linesK]
  | cons t l ih =>
    by_cases h : t.k = 4
    · rw [linesK_line h, linesK_all]; simp
    · rw [linesK_on h]; exact ih _
theorem join_jt : ∀ (l cur : List Tk), Lib.join ((linesK [] cur l).map blkL) [10] = blkL cur ++ jt (decide (cur ≠ [])) l
  | [], cur => by simp [linesK, Lib.join_one, jt]
  | t :: l, cur => by
    by_cases h : t.k = 4
    · have ih := join_jt l []
      rw [linesK_line h, linesK_all, List.nil_append, jt, if_pos h]
      obtain ⟨y, r, e⟩ : ∃ y r, linesK [] [] l = y :: r := by
        cases e : linesK [] [] l with
        | nil => exact absurd e (linesK_ne _ _)
        | cons y r => exact ⟨y, r, rfl⟩
      rw [e] at ih ⊢
      simp only [List.map_cons] at ih
      simp only [List.singleton_append, List.map_cons]
      rw [join_two, ih]
      simp [blkL, Lib.join_nil]
    · have ih := join_jt l (cur ++ [t])
      rw [linesK_on h, ih, blkL_snoc, jt, if_neg h, List.append_assoc]
      by_cases hc : cur = []
      · simp [hc]
      · simp [hc]
theorem joinT_jt {L : List Tk} (h : L ≠ []) : joinT L = jt false L := by
  unfold joinT linesL
  rw [if_neg h, join_jt]
  simp [blkL, Lib.join_nil]
/-- tokens as they are cut one by one -/
def runT : Bool → List Tk → List Tk → List Tk
  | _, K, [] => K
  | e, K, t :: l => if t.k = 4 then runT true K l else runT false (withLine e K t) l
theorem mayT_line {t : Tk} (h : mayT t) (h4 : t.k = 4) : t = lineTk := by
  unfold mayT at h
  by_cases h0 : t.s.size = 0
  · rw [size_zero h0] at h
    have : tokF ⟨#[]⟩ = some lineTk := rfl
    rw [this] at h
    injection h with h
    exact h.symm
  · unfold tokF at h
    rw [if_neg h0] at h
    repeat' split at h
    all_goals first | (injection h with h; rw [← h] at h4; simp at h4) | cases h
theorem ld32 : isLD 32 = false := by decide
theorem jt_off (l : List Tk) : offL (jt true l) := by
  match l with
  | [] => exact .inl rfl
  | t :: l =>
    right
    rw [jt]
    split
    · exact ⟨10, _, rfl, ld10⟩
    · exact ⟨32, bl t.s ++ jt true l, rfl, ld32⟩
theorem cut_jt : ∀ (l : List Tk) (b e : Bool) (K : List Tk), (∀ t ∈ l, mayT t) → cutQ e (jt b l) K = .ok (runT e K l)
  | [], b, e, K, _ => by
    unfold cutQ
    rw [jt, List.drop_nil, cutE_nil]
    rfl
  | t :: l, b, e, K, h => by
    have ht := h t (by simp)
    have hl : ∀ t ∈ l, mayT t := fun x hx => h x (by simp [hx])
    rw [jt, runT]
    by_cases h4 : t.k = 4
    · rw [if_pos h4, if_pos h4]
      have := cutQ_line [] (jt false l) e K
      rw [List.nil_append] at this
      rw [this]
      have h0 : cutQ e [] K = .ok K := by unfold cutQ; rw [List.drop_nil, cutE_nil]
      rw [h0]
      exact cut_jt l false true K hl
    · rw [if_neg h4, if_neg h4]
      have key : cutQ e (bl t.s ++ jt true l) K = .ok (runT false (withLine e K t) l) := by
        rw [cutQ_token ht h4 (jt_off l)]
        exact cut_jt l true false _ hl
      cases b
      · exact key
      · rw [if_pos rfl]
        have := cutQ_blank 0 (bl t.s ++ jt true l) e K
        rw [show bl (blankB 0) = [32] from rfl, show blankE 0 = false from rfl, Bool.or_false] at this
        exact this.trans key
/-- no line is empty -/
def fullL (cur l : List Tk) : Prop := ∀ R ∈ linesK [] cur l, R ≠ []
theorem run_back : ∀ (l cur : List Tk), (∀ t ∈ l, mayT t) → fullL cur l → (cur ≠ [] → ∀ K, K ≠ [] → runT false K l = K ++ l) ∧ (cur = [] → (∀ K, K ≠ [] → runT true K l = K ++ [lineTk] ++ l) ∧ ∀ e, runT e [] l = l)
  | [], cur, _, hf => by
    refine ⟨fun _ K _ => by simp [runT], fun hc => ?_⟩
    exact absurd hc (hf cur (by simp [linesK]))
  | t :: l, cur, h, hf => by
    have ht := h t (by simp)
    have hl : ∀ t ∈ l, mayT t := fun x hx => h x (by simp [hx])
    by_cases h4 : t.k = 4
    · have e := mayT_line ht h4
      unfold fullL at hf
      rw [linesK_line h4, linesK_all] at hf
      have hc : cur ≠ [] := hf cur (by simp)
      have ih := run_back l [] hl (fun R hR => hf R (by simp [hR]))
      refine ⟨fun _ K hK => ?_, fun hc' => absurd hc' hc⟩
      rw [runT, if_pos h4, (ih.2 rfl).1 K hK, e]
      simp
    · unfold fullL at hf
      rw [linesK_on h4] at hf
      have ih := run_back l (cur ++ [t]) hl hf
      have ih1 := ih.1 (by simp)
      refine ⟨fun _ K hK => ?_, fun hc => ⟨fun K hK => ?_, fun e => ?_⟩⟩
      · rw [runT, if_neg h4, ih1 _ (withLine_ne _ _ _)]
        unfold withLine
        rw [if_neg (by simp)]
        simp
      · rw [runT, if_neg h4, ih1 _ (withLine_ne _ _ _)]
        unfold withLine
        rw [if_pos ⟨rfl, hK⟩]
        simp
      · rw [runT, if_neg h4, ih1 _ (withLine_ne _ _ _)]
        unfold withLine
        rw [if_neg (fun h => h.2 rfl)]
        rfl
theorem joinT_cut {L : List Tk} (h : ∀ t ∈ L, mayT t) (hf : ¬ ∃ R ∈ linesL L, R = []) : cutG (joinT L) = .ok L := by
  by_cases h0 : L = []
  · subst h0
    rw [show joinT [] = [] from rfl, cutG_eq]
    unfold cutQ
    rw [List.drop_nil, cutE_nil]
  · rw [joinT_jt h0, cutG_eq, cut_jt L false false [] h]
    have hf' : fullL [] L := fun R hR e => hf ⟨R, by unfold linesL; rw [if_neg h0]; exact hR, e⟩
    rw [((run_back L [] h hf').2 rfl).2 false]
/-- what Join gives is cut as it was -/
theorem joinF_cut {L : List Tk} {T : ByteArray} (h : joinF L = (T, 0)) : cutG (bl T) = .ok L ∧ L.length ≤ 4096 := by
  unfold joinF at h
  split at h
  · injection h with _ h; cases h
  · rename_i ha
    split at h
    · injection h with _ h; cases h
    · rename_i hf
      split at h
      · injection h with _ h; cases h
      · rename_i h4
        injection h with h _
        subst h
        rw [bl_ofL]
        refine ⟨joinT_cut (fun t ht => (mayB_iff t).1 ?_) hf, by omega⟩
        have : L.all mayB = true := by simpa using ha
        exact List.all_eq_true.1 this t ht
/-- what is cut may be joined -/
def goodL (K : List Tk) : Prop := K = [] ∨ fullL [] K
theorem full_snoc {t : Tk} (h4 : t.k ≠ 4) : ∀ (l cur : List Tk), fullL cur l → fullL cur (l ++ [t])
  | [], cur, _ => by
    unfold fullL
    rw [List.nil_append, linesK_on h4, linesK]
    simp
  | x :: l, cur, h => by
    unfold fullL at h ⊢
    rw [List.cons_append]
    by_cases hx : x.k = 4
    · rw [linesK_line hx, linesK_all] at h ⊢
      have ih := full_snoc h4 l [] (fun R hR => h R (by simp [hR]))
      intro R hR
      simp only [List.nil_append, List.singleton_append, List.mem_cons] at hR
      rcases hR with rfl | hR
      · exact h R (by simp)
      · exact ih R hR
    · rw [linesK_on hx] at h ⊢
      exact full_snoc h4 l (cur ++ [x]) h
theorem good_line {t : Tk} (h4 : t.k ≠ 4) {K : List Tk} (h : goodL K) (e : Bool) : goodL (withLine e K t) := by
  have one : fullL [] [t] := by
    unfold fullL
    rw [linesK_on h4, linesK]
    simp
  unfold withLine
  right
  split
  · rename_i he
    rcases h with h | h
    · exact absurd h he.2
    · unfold fullL
      rw [List.append_assoc, List.singleton_append, linesK_cat rfl]
      intro R hR
      rcases List.mem_append.1 hR with hR | hR
      · exact h R hR
      · exact one R hR
  · rcases h with rfl | h
    · exact one
    · exact full_snoc h4 K [] h
theorem tok_k {s : ByteArray} {t : Tk} (h0 : s.size ≠ 0) (h : tokF s = some t) : t.k ≠ 4 := by
  unfold tokF at h
  rw [if_neg h0] at h
  repeat' split at h
  all_goals first | (injection h with h; rw [← h]; simp) | cases h
def totT (L : List Tk) : Nat := (L.map (·.s.size)).sum
theorem cutE_good (n : Nat) : ∀ (r : List UInt8), r.length ≤ n → ∀ (e : Bool) (L M : List Tk), goodL L → cutE r e L = .ok M → goodL M ∧ totT M ≤ totT L + r.length := by
  induction n with
  | zero =>
    intro r hr e L M hL h
    obtain rfl : r = [] := List.eq_nil_of_length_eq_zero (by omega)
    rw [cutE_nil] at h; injection h with h; subst h; exact ⟨hL, by omega⟩
  | succ n ih =>
    intro r hr e L M hL h
    by_cases h0 : r = []
    · subst h0; rw [cutE_nil] at h; injection h with h; subst h; exact ⟨hL, by omega⟩
    · have hm := mF_le h0
      have hm1 := mF_pos r
      cases hk : tokF (ofL (r.take (mF r))) with
      | none => rw [cutE_bad h0 hk] at h; cases h
      | some t =>
        rw [cutE_next h0 hk] at h
        have hts := tokF_text (ofL_ne h0) hk
        obtain ⟨h1, h2⟩ := ih _ (by rw [List.length_drop, List.length_drop]; omega) _ _ _ (good_line (tok_k (ofL_ne h0) hk) hL e) h
        refine ⟨h1, Nat.le_trans h2 ?_⟩
        have : totT (withLine e L t) = totT L + mF r := by
          have hsz : t.s.size = mF r := by rw [hts, ofL_size, List.length_take]; omega
          unfold withLine totT
          split
          · have hz : lineTk.s.size = 0 := rfl
            simp [hsz, hz]
          · simp [hsz]
        rw [this, List.length_drop, List.length_drop]
        omega
theorem jt_len : ∀ (l : List Tk) (b : Bool), (jt b l).length ≤ totT l + l.length
  | [], b => by simp [jt]
  | t :: l, b => by
    have h1 := jt_len l false
    have h2 := jt_len l true
    rw [jt]
    unfold totT at h1 h2 ⊢
    simp only [List.map_cons, List.sum_cons, List.length_cons]
    split
    · simp only [List.length_cons]; omega
    · cases b
      · simp only [Bool.false_eq_true, if_false, List.length_append, bl_len]; omega
      · simp only [if_true, List.length_append, List.length_cons, bl_len]; omega
/-- what is cut may be joined, and that is cut as it was -/
theorem cut_join {l : List UInt8} {L : List Tk} {N : Int} (h : cutF l = (L, N, 0)) (hl : l.length ≤ 20000) : ∃ T, joinF L = (T, 0) ∧ T.size ≤ 65536 ∧ cutG (bl T) = .ok L := by
  have hg := (cutF_good (l := l) (by rw [h])).1
  have hmay := cutF_may l
  have hlen := cutF_len l
  rw [h] at hg hmay hlen
  dsimp only at hg hmay hlen
  obtain ⟨hgd, htot⟩ := cutE_good _ _ (Nat.le_refl _) _ _ _ (.inl rfl) hg
  have hne : ¬ ∃ R ∈ linesL L, R = [] := by
    rintro ⟨R, hR, e⟩
    unfold linesL at hR
    split at hR
    · cases hR
    · rename_i h0
      rcases hgd with hgd | hgd
      · exact h0 hgd
      · exact hgd R hR e
  have ha : L.all mayB = true := List.all_eq_true.2 fun t ht => (mayB_iff t).2 (hmay t ht)
  have hj : joinF L = (ofL (joinT L), 0) := by
    unfold joinF
    rw [if_neg (by rw [ha]; decide), if_neg hne, if_neg (by omega)]
  refine ⟨_, hj, ?_, (joinF_cut hj).1⟩
  rw [ofL_size]
  by_cases h0 : L = []
  · subst h0
    rw [show joinT [] = [] from rfl]
    simp
  · rw [joinT_jt h0]
    have := jt_len L false
    have h2 : totT ([] : List Tk) = 0 := rfl
    rw [h2, List.length_drop] at htot
    omega
theorem cutF_none {l : List UInt8} (h : (cutF l).2.2 ≠ 0) : (cutF l).1 = [] := by
  unfold cutF at h ⊢
  split
  · rfl
  · rename_i h1
    rw [if_neg h1] at h
    unfold cutH at h ⊢
    split
    · rfl
    · rename_i L hL
      rw [hL] at h
      simp only at h
      split
      · rfl
      · rename_i h4
        rw [if_neg h4] at h
        exact absurd rfl h
end Go.Proofs.YtgkngimeokhhgaaDoor
/- Code's text, and what it is read as: plain mathematics. Nothing is claimed of the program here. -/
namespace Go.Proofs.YtgkngimeokhhgaaDoor
open Go.RowKit

/-- a word's token -/
def tokW (l : List UInt8) : Tk := ⟨1, ofL l, 0⟩
/-- the token of a number that is not below 0 -/
def tokN (v : Int) : Tk := ⟨2, ofL (Lib.decDigits v.toNat), v⟩
/-- a register's, an array's -/
def regT (c : UInt8) (v : Int) : Tk := tokW (c :: Lib.decDigits v.toNat)
def numT (v : Int) : List Tk := if v < 0 then [minusTk, tokN (-v)] else [tokN v]
def argT (k : UInt8) (v N : Int) : List Tk := if k = 119 ∨ k = 114 then [regT 114 v] else if k = 97 then [regT 97 v] else if k = 112 then numT v else if k = 110 then numT N else []
def argsT : List UInt8 → List Int → Int → List Tk
  | k :: ks, v :: vs, N => argT k v N ++ argsT ks vs N
  | _, _, _ => []
/-- an instruction's tokens -/
def lineT (x : Ji) : List Tk := tokW (wJ x.op) :: argsT (kJ x.op) x.f x.n
def codeW : List UInt8 := [99, 111, 100, 101]
def headT (R A I : Int) : List Tk := [tokW codeW] ++ numT R ++ numT A ++ numT I
def restT : List Ji → List Tk
  | [] => []
  | x :: l => lineTk :: (lineT x ++ restT l)
/-- code's tokens -/
def progT (c : Cd) : List Tk := headT c.R c.A c.I ++ restT c.l
/-- the number behind a letter -/
def behindF (t : Tk) (c : UInt8) : Int × Bool := if t.k = 1 ∧ (bl t.s).head? = some c ∧ isNumL ((bl t.s).drop 1) = true then (numL ((bl t.s).drop 1), true) else (0, false)
/-- the op of a word; below 0: none -/
def opW (l : List UInt8) : Int := match wordsJ.findIdx? (· == l) with | some i => (i : Int) | none => -1
/-- what stands behind a word, as numbers -/
def insG : List UInt8 → List Tk → Int → Option (List Int × Int)
  | [], l, N => if l = [] then some ([], N) else none
  | _ :: _, [], _ => none
  | k :: ks, t :: r, N =>
    if k = 119 ∨ k = 114 then (if (behindF t 114).2 then (insG ks r N).map (fun p => ((behindF t 114).1 :: p.1, p.2)) else none)
    else if k = 97 then (if (behindF t 97).2 then (insG ks r N).map (fun p => ((behindF t 97).1 :: p.1, p.2)) else none)
    else if k = 112 then (if t.k = 2 then (insG ks r N).map (fun p => (t.n :: p.1, p.2)) else none)
    else if t.k = 3 ∧ bl t.s = [45] ∧ r.length = 1 then
      (if (r.getD 0 ⟨0, ⟨#[]⟩, 0⟩).k = 2 ∧ (r.getD 0 ⟨0, ⟨#[]⟩, 0⟩).n ≠ 0 then (insG ks (r.drop 1) (-(r.getD 0 ⟨0, ⟨#[]⟩, 0⟩).n)).map (fun p => (0 :: p.1, p.2)) else none)
    else if t.k = 2 then (insG ks r t.n).map (fun p => (0 :: p.1, p.2)) else none
/-- the instruction of a line's tokens -/
def insF : List Tk → Option Ji
  | [] => none
  | t :: r => if t.k = 1 ∧ 0 ≤ opW (bl t.s) then (insG (kJ (opW (bl t.s))) r 0).map fun p => ⟨opW (bl t.s), p.1.getD 0 0, p.1.getD 1 0, p.1.getD 2 0, p.2⟩ else none
theorem bl_tokW (l : List UInt8) : bl (tokW l).s = l := bl_ofL l
theorem dd_small {v : Int} (h0 : 0 ≤ v) (h1 : v < 1000000000000000000) : isNumL (Lib.decDigits v.toNat) = true ∧ numL (Lib.decDigits v.toNat) = v := by
  rw [dd_isNum, dd_num]
  exact ⟨decide_eq_true (by omega), by omega⟩
theorem behind_reg (c : UInt8) {v : Int} (h0 : 0 ≤ v) (h1 : v < 1000000000000000000) : behindF (regT c v) c = (v, true) := by
  obtain ⟨a, b⟩ := dd_small h0 h1
  unfold behindF regT
  rw [bl_tokW, if_pos ⟨rfl, rfl, a⟩]
  exact Prod.ext b rfl
theorem opW_wJ {op : Int} (h0 : 0 ≤ op) (h1 : op ≤ 12) : opW (wJ op) = op := by
  rcases op_cases h0 h1 with rfl | rfl | rfl | rfl | rfl | rfl | rfl | rfl | rfl | rfl | rfl | rfl | rfl <;> decide
theorem numT_pos {v : Int} (h : 0 ≤ v) : numT v = [tokN v] := by unfold numT; rw [if_neg (by omega)]
theorem numT_neg {v : Int} (h : v < 0) : numT v = [minusTk, tokN (-v)] := by unfold numT; rw [if_pos h]
theorem insF_of {op a b c n : Int} {r : List Tk} {f : List Int} (h0 : 0 ≤ op) (h1 : op ≤ 12) (hr : insG (kJ op) r 0 = some (f, n)) (ha : f.getD 0 0 = a) (hb : f.getD 1 0 = b) (hc : f.getD 2 0 = c) : insF (tokW (wJ op) :: r) = some ⟨op, a, b, c, n⟩ := by
  show (if (tokW (wJ op)).k = 1 ∧ 0 ≤ opW (bl (tokW (wJ op)).s) then _ else _) = _
  rw [bl_tokW, opW_wJ h0 h1, if_pos ⟨rfl, h0⟩, hr]
  simp only [Option.map_some, ha, hb, hc]
theorem insG_nil (N : Int) : insG [] [] N = some ([], N) := rfl
theorem insG_reg {k : UInt8} (hk : k = 119 ∨ k = 114) {v N M : Int} (h0 : 0 ≤ v) (h1 : v < 1000000000000000000) {ks : List UInt8} {r : List Tk} {f : List Int} (h : insG ks r N = some (f, M)) : insG (k :: ks) (regT 114 v :: r) N = some (v :: f, M) := by
  unfold insG
  rw [if_pos hk, behind_reg 114 h0 h1, if_pos rfl, h]; rfl
theorem insG_arr {v N M : Int} (h0 : 0 ≤ v) (h1 : v < 1000000000000000000) {ks : List UInt8} {r : List Tk} {f : List Int} (h : insG ks r N = some (f, M)) : insG (97 :: ks) (regT 97 v :: r) N = some (v :: f, M) := by
  unfold insG
  rw [if_neg (by decide), if_pos rfl, behind_reg 97 h0 h1, if_pos rfl, h]; rfl
theorem insG_place {v N M : Int} (h0 : 0 ≤ v) {ks : List UInt8} {r : List Tk} {f : List Int} (h : insG ks r N = some (f, M)) : insG (112 :: ks) (numT v ++ r) N = some (v :: f, M) := by
  rw [numT_pos h0]
  show insG (112 :: ks) (tokN v :: r) N = _
  unfold insG
  rw [if_neg (by decide), if_neg (by decide), if_pos rfl, if_pos (show (tokN v).k = 2 from rfl), h]; rfl
theorem insG_num {v N : Int} : insG [110] (numT v) N = some ([0], v) := by
  by_cases h : v < 0
  · rw [numT_neg h]
    unfold insG
    rw [if_neg (by decide), if_neg (by decide), if_neg (by decide), if_pos ⟨rfl, rfl, rfl⟩]
    show (if (tokN (-v)).k = 2 ∧ (tokN (-v)).n ≠ 0 then _ else _) = _
    rw [if_pos ⟨rfl, by show -v ≠ 0; omega⟩]
    show (insG [] [] (- -v)).map _ = _
    rw [insG_nil, Int.neg_neg]; rfl
  · rw [numT_pos (by omega)]
    unfold insG
    rw [if_neg (by decide), if_neg (by decide), if_neg (by decide), if_neg (by rintro ⟨h, _⟩; cases h), if_pos (show (tokN v).k = 2 from rfl)]
    show (insG [] [] v).map _ = _
    rw [insG_nil]; rfl
theorem insG_num' {v N : Int} : insG [110] (numT v ++ []) N = some ([0], v) := by rw [List.append_nil]; exact insG_num
theorem kind_mem {op : Int} (h : op ≠ 1) (h0 : 0 ≤ op) (h1 : op ≤ 12) : (110 : UInt8) ∉ kJ op := by
  rcases op_cases h0 h1 with rfl | rfl | rfl | rfl | rfl | rfl | rfl | rfl | rfl | rfl | rfl | rfl | rfl
  case inr.inl => exact absurd rfl h
  all_goals decide
/-- what was written is read as it was -/
theorem ins_line {R A L : Int} {x : Ji} (hR : R ≤ 1000) (hA : A ≤ 1000) (_hL : L ≤ 100000) (h : mayJ R A L x = true) : insF (lineT x) = some x := by
  obtain ⟨⟨h0, h1⟩, h2, h3, h4⟩ := mayJ_parts h
  have i0 := h2 0 (by omega)
  have i1 := h2 1 (by omega)
  have i2 := h2 2 (by omega)
  obtain ⟨op, a, b, c, n⟩ := x
  dsimp only at h0 h1 h3 h4
  unfold InB at i0 i1 i2
  have e4 : op ≠ 1 → n = 0 := fun e => h4 (kind_mem e h0 h1)
  rcases op_cases h0 h1 with rfl | rfl | rfl | rfl | rfl | rfl | rfl | rfl | rfl | rfl | rfl | rfl | rfl
  all_goals
    simp [kJ, kindsJ, limJ, Ji.f] at i0 i1 i2
    try (have hn := e4 (by decide); subst hn)
  · exact insF_of h0 h1 (insG_nil 0) (by show (0 : Int) = a; omega) (by show (0 : Int) = b; omega) (by show (0 : Int) = c; omega)
  · exact insF_of h0 h1 (insG_reg (v := a) (.inl rfl) (by omega) (by omega) (insG_num' (v := n))) rfl (by show (0 : Int) = b; omega) (by show (0 : Int) = c; omega)
  · exact insF_of h0 h1 (insG_reg (v := a) (.inl rfl) (by omega) (by omega) (insG_reg (v := b) (.inr rfl) (by omega) (by omega) (insG_nil 0))) rfl rfl (by show (0 : Int) = c; omega)
  · exact insF_of h0 h1 (insG_reg (v := a) (.inl rfl) (by omega) (by omega) (insG_reg (v := b) (.inr rfl) (by omega) (by omega) (insG_reg (v := c) (.inr rfl) (by omega) (by omega) (insG_nil 0)))) rfl rfl rfl
  · exact insF_of h0 h1 (insG_reg (v := a) (.inl rfl) (by omega) (by omega) (insG_reg (v := b) (.inr rfl) (by omega) (by omega) (insG_reg (v := c) (.inr rfl) (by omega) (by omega) (insG_nil 0)))) rfl rfl rfl
  · exact insF_of h0 h1 (insG_reg (v := a) (.inl rfl) (by omega) (by omega) (insG_reg (v := b) (.inr rfl) (by omega) (by omega) (insG_reg (v := c) (.inr rfl) (by omega) (by omega) (insG_nil 0)))) rfl rfl rfl
  · exact insF_of h0 h1 (insG_reg (v := a) (.inl rfl) (by omega) (by omega) (insG_arr (v := b) (by omega) (by omega) (insG_reg (v := c) (.inr rfl) (by omega) (by omega) (insG_nil 0)))) rfl rfl rfl
  · exact insF_of h0 h1 (insG_arr (v := a) (by omega) (by omega) (insG_reg (v := b) (.inr rfl) (by omega) (by omega) (insG_reg (v := c) (.inr rfl) (by omega) (by omega) (insG_nil 0)))) rfl rfl rfl
  · exact insF_of h0 h1 (insG_reg (v := a) (.inl rfl) (by omega) (by omega) (insG_arr (v := b) (by omega) (by omega) (insG_nil 0))) rfl rfl (by show (0 : Int) = c; omega)
  · exact insF_of h0 h1 (insG_arr (v := a) (by omega) (by omega) (insG_reg (v := b) (.inr rfl) (by omega) (by omega) (insG_nil 0))) rfl rfl (by show (0 : Int) = c; omega)
  · exact insF_of h0 h1 (insG_place (v := a) (r := []) (by omega) (insG_nil 0)) rfl (by show (0 : Int) = b; omega) (by show (0 : Int) = c; omega)
  · exact insF_of h0 h1 (insG_reg (v := a) (.inr rfl) (by omega) (by omega) (insG_reg (v := b) (.inr rfl) (by omega) (by omega) (insG_place (v := c) (r := []) (by omega) (insG_nil 0)))) rfl rfl rfl
  · exact insF_of h0 h1 (insG_reg (v := a) (.inr rfl) (by omega) (by omega) (insG_reg (v := b) (.inr rfl) (by omega) (by omega) (insG_place (v := c) (r := []) (by omega) (insG_nil 0)))) rfl rfl rfl
end Go.Proofs.YtgkngimeokhhgaaDoor
/- The document's token: what lexer.token gives of a text that has bytes. -/
namespace Go.Proofs.YtgkngimeokhhgaaDoor
open Go.RowKit

/-- no text is a word and a number -/
theorem num_no_word {l : List UInt8} (h : isNumL l = true) : isWordL l = false := by
  unfold isNumL at h
  rw [decide_eq_true_iff] at h
  unfold isWordL
  rw [decide_eq_false_iff_not]
  rintro ⟨_, ⟨c, e1, e2⟩, _⟩
  obtain ⟨d, d1, d2⟩ := h.2.2.2 0 h.1
  rw [e1] at d1
  injection d1 with d1
  subst d1
  omega
end Go.Proofs.YtgkngimeokhhgaaDoor
/- The document's Check: it gives what lexer.Check does. -/
namespace Go.Proofs.YtgkngimeokhhgaaDoor
open Go.RowKit

theorem word_size {s : ByteArray} (h : isWordL (bl s) = true) : s.size ≠ 0 := by
  unfold isWordL at h
  rw [decide_eq_true_iff] at h
  obtain ⟨_, ⟨c, e, _⟩, _⟩ := h
  intro h0
  have := (List.getElem?_eq_some_iff.1 e).1
  rw [bl_len] at this
  omega
theorem num_size {s : ByteArray} (h : isNumL (bl s) = true) : s.size ≠ 0 := by
  unfold isNumL at h
  rw [decide_eq_true_iff, bl_len] at h
  omega
theorem sign_size {s : ByteArray} (h : isSignL (bl s) = true) : s.size ≠ 0 ∧ isWordL (bl s) = false ∧ isNumL (bl s) = false := by
  unfold isSignL at h
  rw [decide_eq_true_iff] at h
  obtain ⟨h1, c, e1, e2⟩ := h
  refine ⟨by rw [bl_len] at h1; omega, ?_, ?_⟩
  · unfold isWordL
    rw [decide_eq_false_iff_not]
    rintro ⟨_, ⟨d, e3, e4⟩, _⟩
    rw [e1] at e3
    injection e3 with e3
    subst e3
    omega
  · unfold isNumL
    rw [decide_eq_false_iff_not]
    rintro ⟨h5, _, _, h6⟩
    obtain ⟨d, e3, e4⟩ := h6 0 h5
    rw [e1] at e3
    injection e3 with e3
    subst e3
    omega
theorem may_word (s : ByteArray) (n : Int) : mayB ⟨1, s, n⟩ = (isWordL (bl s) && (n == 0)) := by
  rw [Bool.eq_iff_iff, mayB_iff, Bool.and_eq_true, beq_iff_eq]
  unfold mayT tokF
  simp only
  constructor
  · intro h
    repeat' split at h
    all_goals first | (injection h with h; injection h with h1 h2 h3; first | (exact ⟨by assumption, h3.symm⟩) | (exact absurd h1 (by decide))) | cases h
  · rintro ⟨h, rfl⟩
    rw [if_neg (word_size h), if_pos h]
theorem may_num (s : ByteArray) (n : Int) : mayB ⟨2, s, n⟩ = (isNumL (bl s) && (n == numL (bl s))) := by
  rw [Bool.eq_iff_iff, mayB_iff, Bool.and_eq_true, beq_iff_eq]
  unfold mayT tokF
  simp only
  constructor
  · intro h
    repeat' split at h
    all_goals first | (injection h with h; injection h with h1 h2 h3; first | (exact ⟨by assumption, h3.symm⟩) | (exact absurd h1 (by decide))) | cases h
  · rintro ⟨h, rfl⟩
    rw [if_neg (num_size h), if_neg (by rw [num_no_word h]; decide), if_pos h]
theorem may_sign (s : ByteArray) (n : Int) : mayB ⟨3, s, n⟩ = (isSignL (bl s) && (n == 0)) := by
  rw [Bool.eq_iff_iff, mayB_iff, Bool.and_eq_true, beq_iff_eq]
  unfold mayT tokF
  simp only
  constructor
  · intro h
    repeat' split at h
    all_goals first | (injection h with h; injection h with h1 h2 h3; first | (exact ⟨by assumption, h3.symm⟩) | (exact absurd h1 (by decide))) | cases h
  · rintro ⟨h, rfl⟩
    obtain ⟨h1, h2, h3⟩ := sign_size h
    rw [if_neg h1, if_neg (by rw [h2]; decide), if_neg (by rw [h3]; decide), if_pos h]
theorem may_line (s : ByteArray) (n : Int) : mayB ⟨4, s, n⟩ = (decide (s.size = 0) && (n == 0)) := by
  rw [Bool.eq_iff_iff, mayB_iff, Bool.and_eq_true, beq_iff_eq, decide_eq_true_iff]
  unfold mayT tokF
  simp only
  constructor
  · intro h
    repeat' split at h
    all_goals first | (injection h with h; injection h with h1 h2 h3; first | (exact ⟨by assumption, h3.symm⟩) | (exact absurd h1 (by decide))) | cases h
  · rintro ⟨h, rfl⟩
    rw [if_pos h, size_zero h]
theorem may_other (k : Int) (s : ByteArray) (n : Int) (h1 : k ≠ 1) (h2 : k ≠ 2) (h3 : k ≠ 3) (h4 : k ≠ 4) : mayB ⟨k, s, n⟩ = false := by
  cases e : mayB ⟨k, s, n⟩ with
  | false => rfl
  | true =>
    rw [mayB_iff] at e
    unfold mayT tokF at e
    simp only at e
    repeat' split at e
    all_goals first | (injection e with e; injection e with e1 e2 e3; omega) | cases e
theorem numRes_two (l : List UInt8) : ∃ (v : Int) (b : Bool), numRes l = .tuple #[.int .i64 v, .bool b] ∧ isNumL l = b ∧ (b = true → v = numL l) := by
  cases e : isNumL l
  · exact ⟨0, false, numRes_no e, rfl, fun h => by cases h⟩
  · exact ⟨numL l, true, numRes_yes e, rfl, fun _ => rfl⟩
end Go.Proofs.YtgkngimeokhhgaaDoor
