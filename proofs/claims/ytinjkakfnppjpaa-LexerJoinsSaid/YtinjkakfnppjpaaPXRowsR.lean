/- Lists of tokens that read as such; a list of them behind another one; few. -/
import Derived.Test.YtinjkakfnppjpaaG4
namespace Go.Proofs.Ytinjkakfnppjpaa
open Go.RowKit

/-- the header (H, n) leads to lists of tokens, all in blocks below B -/
structure RowsR (w : World) (B : Nat) (H : Option Addr) (n : Nat) (rs : List RowK) : Prop where
  len : rs.length = n
  at_ : 0 < n → ∃ b, H = some ⟨b, 0, none⟩ ∧ b < B ∧ ∀ (k : Nat) (r : RowK), rs[k]? = some r → w.cell? ⟨b, k, none⟩ = some r.hdr
  toks : ∀ r ∈ rs, Toks w B r.A r.L.length r.L
section
variable {w w' : World} {B B2 base ch n : Nat} {H : Option Addr} {rs : List RowK}
theorem RowsR.keep (h : RowsR w B H n rs) (hk : ∀ p : Addr, p.block < B → w'.cell? p = w.cell? p) : RowsR w' B H n rs :=
  ⟨h.len, fun h0 => by
    obtain ⟨b, e, hb, hc⟩ := h.at_ h0
    exact ⟨b, e, hb, fun k r hr => (hk _ hb).trans (hc k r hr)⟩, fun r hr => (h.toks r hr).keep hk⟩
theorem RowsR.on (h : RowsR w B H n rs) (hb : Below B2 w w') (hB : B ≤ B2) : RowsR w' B H n rs := h.keep fun _ hp => hb.cell (Nat.lt_of_lt_of_le hp hB)
theorem RowsR.more (h : RowsR w B H n rs) (hB : B ≤ B2) : RowsR w B2 H n rs :=
  ⟨h.len, fun h0 => by
    obtain ⟨b, e, hb, hc⟩ := h.at_ h0
    exact ⟨b, e, by omega, hc⟩, fun r hr => (h.toks r hr).more hB⟩
theorem RowsR.row (h : RowsR w B H n rs) {k : Nat} (hk : k < n) : ∃ b r, H = some ⟨b, 0, none⟩ ∧ b < B ∧ Hid (rs[k]? = some r) ∧ w.cell? ⟨b, k, none⟩ = some r.hdr ∧ Toks w B r.A r.L.length r.L := by
  obtain ⟨b, e, hb, hc⟩ := h.at_ (by omega)
  have hk' : k < rs.length := by rw [h.len]; exact hk
  exact ⟨b, rs[k], e, hb, List.getElem?_eq_getElem hk', hc k _ (List.getElem?_eq_getElem hk'), h.toks _ (List.getElem_mem hk')⟩
theorem RowsK.reads (h : RowsK w base H ch rs) (hn : rs.length = n) (ho : ∀ r ∈ rs, ∀ t ∈ r.L, t.ok) : RowsR w w.heap.size H n rs := by
  subst hn
  refine ⟨rfl, fun h0 => ?_, fun r hr => (h.ins r hr).toks (ho r hr)⟩
  obtain ⟨g, rfl, _, hlt⟩ := h.some_ h0
  exact ⟨g, rfl, hlt, fun k r hr => (h.hdr_at hr).1⟩
end
/-- headers of the call's own -/
def OwnHd (w : World) (base : Nat) (H : Option Addr) (ch : Nat) (hs : List RowK) : Prop := w.ownsRow base 23 1 (.slice H hs.length ch) hs.length (hs.map RowK.hdr)
theorem OwnHd.nil_ (w : World) (base : Nat) : OwnHd w base none 0 [] := w.ownsRow_nil base _ 1
theorem OwnHd.reads {w : World} {base ch n : Nat} {H : Option Addr} {hs : List RowK} (h : OwnHd w base H ch hs) (hn : hs.length = n) (ht : ∀ r ∈ hs, Toks w w.heap.size r.A r.L.length r.L) : RowsR w w.heap.size H n hs := by
  subst hn
  refine ⟨rfl, fun h0 => ?_, ht⟩
  obtain ⟨g, cap, hv, _, hlt⟩ := World.ownsRow.form h h0
  injection hv with hv
  subst hv
  refine ⟨g, rfl, hlt, fun k r hr => ?_⟩
  have hk := (List.getElem?_eq_some_iff.1 hr).1
  exact (World.ownsRow.cellAt h k (by simpa using hk)).trans (by rw [List.getElem?_map, hr]; rfl)
theorem OwnHd.row {w : World} {base ch p : Nat} {H : Option Addr} {hs : List RowK} (h : OwnHd w base H ch hs) : ∀ g, (Value.slice H p ch).ownBlock = some g → base ≤ g := by
  intro g e
  rcases h.2 with ⟨h1, _⟩ | ⟨g', cap, cur, h1, h2, _⟩
  · injection h1 with h1; rw [h1] at e; cases e
  · injection h1 with h1
    rw [h1] at e
    simp only [Value.ownBlock, Option.some.injEq] at e
    omega
theorem run_appendNilH (w : World) (base : Nat) (ty : TypeId) (v : Value) (n : Nat) (xs : List Value) (hown : w.ownsRow base 23 1 v n xs) (c : Nat) :
    (Builtin.append_ #[32, 32] ty #[v, .slice none 0 c]).run Try.prog w = .ok v w := by
  obtain ⟨i, hi, hz, h1, h2⟩ := info_parts infoTkRow
  have ht := Try.underlying32
  rcases hown.2 with ⟨rfl, rfl⟩ | ⟨g, cap, cur, rfl, _, _, hnc, _⟩ <;> simp [Builtin.append_, run_underlying ht, sizeOf, typeInfo, Builtin.lenOf, Builtin.firstCells, *, storeCells]
theorem wpList_appendHds {ops : Array Oper} {rest : List Oper} {o : Oper} {a : Act} {w : World} {Q : Exit → Act → World → Prop}
    (hg : o.guard = none) (s x : Operand) (hop : o.op = Op.call { callee := Callee.builtin Builtin.append, args := #[s, x], argTypes := #[32, 32] })
    (base : Nat) (H H2 : Option Addr) (ch m c2 B p r : Nat) (hs ys : List RowK) (hse : a.eval s = .slice H p ch) (hx : a.eval x = .slice H2 m c2) (ho : OwnHd w base H ch hs) (hp : hs.length = p) (hr : p + m = r) (hi2 : RowsR w B H2 m ys) (hl : r ≤ 1000000) (hb : base ≤ w.heap.size)
    (hK : ∀ H' c' w', OwnHd w' base H' c' (hs ++ ys) → w.grownBy w' (Value.slice H p ch).ownBlock → wpList Try.prog ops Q rest (a.put o.dst (.slice H' r c')) w') :
    wpList Try.prog ops Q (o :: rest) a w := by
  obtain ⟨i, hi, hz, h1, h2⟩ := info_parts infoTkRow
  refine wpList_plain hg fun K hK' => ?_
  subst hp
  subst hr
  have hlen := hi2.len
  have key : ∃ H' c' w', (Builtin.append_ #[32, 32] o.type #[.slice H hs.length ch, .slice H2 m c2]).run Try.prog w = .ok (.slice H' (hs.length + m) c') w' ∧ OwnHd w' base H' c' (hs ++ ys) ∧ w.grownBy w' (Value.slice H hs.length ch).ownBlock := by
    rcases Nat.eq_zero_or_pos m with rfl | h0
    · obtain rfl : ys = [] := List.eq_nil_of_length_eq_zero hlen
      rcases Option.eq_none_or_eq_some H2 with rfl | ⟨ad, rfl⟩
      · exact ⟨H, ch, w, by simpa using run_appendNilH w base o.type (.slice H hs.length ch) hs.length _ ho c2, by simpa using ho, World.grownBy.refl w _⟩
      · obtain ⟨v', w', hr, h3, h4, _⟩ := run_append_own (P := Try.prog) w base 32 o.type 23 i (.slice none 0 0) 1 24 Try.underlying32 hi hz h1 h2 rfl (by decide) (.slice H hs.length ch) hs.length (hs.map RowK.hdr) ho ad 0 c2 [] rfl (by simp) (by simp) (by unfold maxLen; omega) (by omega) hb
        obtain ⟨H', c', rfl⟩ : ∃ H' c', v' = .slice H' (hs.length + 0) c' := by
          rcases h3.2 with ⟨rfl, h0⟩ | ⟨g, cap, cur, rfl, _⟩
          · rw [h0]; exact ⟨_, _, rfl⟩
          · exact ⟨_, _, rfl⟩
        refine ⟨H', c', w', hr, ?_, h4⟩
        unfold OwnHd
        simpa using h3
    · obtain ⟨b, rfl, _, hc⟩ := hi2.at_ h0
      obtain ⟨v', w', hr, h3, h4, _⟩ := run_append_own (P := Try.prog) w base 32 o.type 23 i (.slice none 0 0) 1 24 Try.underlying32 hi hz h1 h2 rfl (by decide) (.slice H hs.length ch) hs.length (hs.map RowK.hdr) ho ⟨b, 0, none⟩ m c2 (ys.map RowK.hdr) (by rw [List.length_map, hlen, Nat.mul_one]) (fun j u hj => by
          rw [List.getElem?_map] at hj
          obtain ⟨r, hr, rfl⟩ := Option.map_eq_some_iff.1 hj
          have hadd : (Addr.add ⟨b, 0, none⟩ j : Addr) = ⟨b, j, none⟩ := by unfold Addr.add; split <;> simp_all
          rw [hadd]; exact hc j r hr) (fun u hu => by obtain ⟨r, _, rfl⟩ := List.mem_map.1 hu; simp [RowK.hdr, Value.oneCell']) (by unfold maxLen; omega) (by omega) hb
      obtain ⟨H', c', rfl⟩ : ∃ H' c', v' = .slice H' (hs.length + m) c' := by
        rcases h3.2 with ⟨rfl, h0⟩ | ⟨g, cap, cur, rfl, _⟩
        · rw [h0]; exact ⟨_, _, rfl⟩
        · exact ⟨_, _, rfl⟩
      refine ⟨H', c', w', hr, ?_, h4⟩
      unfold OwnHd
      rw [List.length_append, hlen, List.map_append]
      exact h3
  obtain ⟨H', c', w', hrun, ho', hb'⟩ := key
  unfold Oper.wp
  simp [execOp, hop, resolve, invoke, builtin, hse, hx, hrun, Result.andThen]
  exact hK' _ _ (hK _ _ _ ho' hb')
/-- tokens are few, and short -/
def fewL (L : List Tk) : Bool := decide ((∀ t ∈ L, t.s.size ≤ 1000) ∧ L.length ≤ 5000)
set_option maxRecDepth 100000 in
set_option maxHeartbeats 4000000 in
theorem fewT_any (A : Option Addr) (n c : Nat) (L : List Tk) (w : World) (h : Toks w w.heap.size A n L) (hn : n ≤ 4398046511104) : Calls Try.prog 13 #[.slice A n c] w fun e w' => e = .returned (.bool (fewL L)) ∧ Below w.heap.size w w' := by
  have HN := Lib.hid h.1
  go_enter Try.func13, Try.ntmps13
  go_wp2
  go_loopw [7] (fun i wr => ∃ k : Nat, k ≤ n ∧ i = .int .i64 k ∧ Hid (∀ j x, j < k → L[j]? = some x → x.s.size ≤ 1000) ∧ Hid (Below w.heap.size w wr)) (fun i _ => n - (intOf i).toNat)
  case atStart => exact ⟨0, Nat.zero_le _, rfl, fun j x hj => absurd hj (by omega), Below.refl _ _⟩
  case round =>
    obtain ⟨k, hk, rfl, HA, HB⟩ := hrel
    by_cases hlt : k < n
    · obtain ⟨b, off, x, rfl, hbl, HX, hc0, hc1, hc2, hxo⟩ := (h.on HB.out (Nat.le_refl _)).at_ hlt
      have hxs := hxo.2.2.2.2
      unfold maxLen at hxs
      have hbw : w.heap.size ≤ wr.heap.size := HB.out.size
      have HB1 : Hid (Below w.heap.size w (wr.alloc (.cells #[.int .i64 x.k, .string x.s, .int .i64 x.n] 35))) := HB.out.alloc hbw _
      clear hxo
      by_cases hl : (1000 : Int) < (x.s.size : Int)
      · have HF : Hid (fewL L = false) := by
          unfold Hid fewL
          rw [decide_eq_false_iff_not]
          rintro ⟨h1, _⟩
          have := h1 x (List.mem_of_getElem? HX.out)
          omega
        go_wp2
        go_ret
        exact ⟨by rw [HF.out]; rfl, HB1.out⟩
      · have HA2 : Hid (∀ j y, j < k + 1 → L[j]? = some y → y.s.size ≤ 1000) := fun j y hj hy => by
          by_cases e : j = k
          · subst e
            rw [HX.out] at hy
            injection hy with hy
            subst hy
            omega
          · exact HA.out j y (by omega) hy
        go_wp2
        go_roundw
        case rel => exact ⟨k + 1, by omega, by go_num, HA2, HB1⟩
        case measure => simp [intOf]; omega
    · obtain rfl : n = k := by omega
      have HF : Hid (fewL L = decide (n ≤ 5000)) := by
        unfold Hid fewL
        rw [decide_eq_decide, HN.out]
        refine ⟨fun h => h.2, fun h => ⟨fun t ht => ?_, h⟩⟩
        obtain ⟨j, hj, e⟩ := List.getElem_of_mem ht
        exact HA.out j t (by rw [← HN.out]; exact hj) (by rw [List.getElem?_eq_getElem hj, e])
      clear hlt
      by_cases h5 : n ≤ 5000
      · have h5' : (n : Int) ≤ 5000 := by omega
        have HF2 : Hid (fewL L = true) := HF.out.trans (decide_eq_true h5)
        go_wp2
        go_ret
        exact ⟨by rw [HF2.out]; rfl, HB.out⟩
      · have h5' : ¬ (n : Int) ≤ 5000 := by omega
        have HF2 : Hid (fewL L = false) := HF.out.trans (decide_eq_false h5)
        go_wp2
        go_ret
        exact ⟨by rw [HF2.out]; rfl, HB.out⟩
end Go.Proofs.Ytinjkakfnppjpaa
