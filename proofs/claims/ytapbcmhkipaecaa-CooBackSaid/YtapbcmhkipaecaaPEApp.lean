/- append of a whole list of entries; a list laid out, by its keys. -/
import Derived.Test.YtapbcmhkipaecaaPEPlain
import Derived.Test.YtapbcmhkipaecaaG15
import Derived.Test.YtapbcmhkipaecaaG4
namespace Go.Proofs.Ytapbcmhkipaecaa
open Go.RowKit

theorem Ents.cells_ {w : World} {B n : Nat} {ad : Addr} {es : List Ent} (h : Ents w B (some ad) n es) : ∀ (j : Nat) (u : Value), (cellsE es)[j]? = some u → w.cell? (ad.add j) = some u := h.cells
theorem run_appendNilE (w : World) (base : Nat) (ty : TypeId) (v : Value) (n : Nat) (xs : List Value) (hown : w.ownsRow base 37 2 v n xs) (c : Nat) :
    (Builtin.append_ #[23, 23] ty #[v, .slice none 0 c]).run Try.prog w = .ok v w := by
  obtain ⟨i, hi, hz, h1, h2⟩ := info_parts infoEnt
  have ht := Try.underlying23
  rcases hown.2 with ⟨rfl, rfl⟩ | ⟨g, cap, cur, rfl, _, _, hnc, _⟩ <;> simp [Builtin.append_, run_underlying ht, sizeOf, typeInfo, Builtin.lenOf, Builtin.firstCells, *, storeCells]
theorem run_appendEnts (w : World) (base : Nat) (ty : TypeId) (A A2 : Option Addr) (c m c2 B : Nat) (xs ys : List Ent) (ho : OwnE w base A c xs) (hs : Ents w B A2 m ys) (hl : xs.length + m ≤ 1000000) (hb : base ≤ w.heap.size) :
    ∃ A' c' w', (Builtin.append_ #[23, 23] ty #[.slice A xs.length c, .slice A2 m c2]).run Try.prog w = .ok (.slice A' (xs.length + m) c') w' ∧ OwnE w' base A' c' (xs ++ ys) ∧ w.grownBy w' (Value.slice A xs.length c).ownBlock := by
  obtain ⟨i, hi, hz, h1, h2⟩ := info_parts infoEnt
  have hlen := hs.1
  rcases Option.eq_none_or_eq_some A2 with rfl | ⟨ad, rfl⟩
  · obtain rfl : m = 0 := by
      rcases Nat.eq_zero_or_pos m with h0 | h0
      · exact h0
      · obtain ⟨b, off, e', _⟩ := hs.2.2 h0; cases e'
    obtain rfl : ys = [] := List.eq_nil_of_length_eq_zero hlen
    have hrun := run_appendNilE w base ty (.slice A xs.length c) xs.length (cellsE xs) ho c2
    exact ⟨A, c, w, by simpa using hrun, by simpa using ho, World.grownBy.refl w _⟩
  · obtain ⟨v', w', hr, h3, h4, _⟩ := run_append_own (P := Try.prog) w base 23 ty 37 i (.agg #[.slice none 0 0, .int .i64 0]) 2 32 Try.underlying23 hi hz h1 h2 rfl (by decide) (.slice A xs.length c) xs.length (cellsE xs) ho ad m c2 (cellsE ys) (by rw [cellsE_length, hlen]; omega) hs.cells_ (cellsE_one ys) (by unfold maxLen; omega) (by omega) hb
    obtain ⟨A', c', rfl⟩ := rowE_form h3
    refine ⟨A', c', w', hr, ?_, h4⟩
    unfold OwnE
    rw [List.length_append, hlen, cellsE_append]
    exact h3
theorem step_appendEnts {ops : Array Oper} {o : Oper} {a : Act} {w : World} {K : Act → World → Prop} {Q : Exit → Act → World → Prop} {E : Prop}
    (hg : o.guard = none) (s x : Operand) (hop : o.op = Op.call { callee := Callee.builtin Builtin.append, args := #[s, x], argTypes := #[23, 23] })
    (base : Nat) (A A2 : Option Addr) (c m c2 B p r : Nat) (xs ys : List Ent) (hs : a.eval s = .slice A p c) (hx : a.eval x = .slice A2 m c2) (ho : OwnE w base A c xs) (hp : xs.length = p) (hr : p + m = r) (hi2 : Ents w B A2 m ys) (hl : r ≤ 1000000) (hb : base ≤ w.heap.size)
    (hK : ∀ A' c' w', OwnE w' base A' c' (xs ++ ys) → w.grownBy w' (Value.slice A p c).ownBlock → K (a.put o.dst (.slice A' r c')) w') :
    if Region.wanted o (yielded ops a.tmps) = true then Oper.wp Try.prog o a w K Q else E := by
  have hw : Region.wanted o (yielded ops a.tmps) = true := by simp [Region.wanted, hg]
  rw [if_pos hw]
  subst hp
  subst hr
  obtain ⟨A', c', w', hrun, ho', hb'⟩ := run_appendEnts w base o.type A A2 c m c2 B xs ys ho hi2 hl hb
  unfold Oper.wp
  simp [execOp, hop, resolve, invoke, builtin, hs, hx, hrun, Result.andThen]
  exact hK _ _ _ ho' hb'

/-- a list laid out, as its keys tell -/
def denseK (xs : List Int) (K : List KeyT) : List Int := (List.range (laidF xs).1.toNat).map fun j => wrap64 (totP (fun p => decide ((numR xs p).toNat = j)) K)
theorem sumAt_keys (xs : List Int) (j : Nat) (pre es : List Ent) : sumAt (goesE xs (pre ++ es)) j pre.length (es.map (·.v)) = totP (fun p => decide ((numR xs p).toNat = j)) (es.map keyE) := by
  induction es generalizing pre with
  | nil => rfl
  | cons x es ih =>
    have h := ih (pre ++ [x])
    rw [List.append_assoc, List.length_append] at h
    have hg : goesE xs (pre ++ x :: es) pre.length = (numR xs x.cs).toNat := by
      unfold goesE
      rw [List.getElem?_append_right (Nat.le_refl _), Nat.sub_self]
      rfl
    simp only [List.map_cons, sumAt, totP, hg]
    simp only [List.cons_append, List.nil_append, List.length_cons, List.length_nil, Nat.zero_add] at h
    rw [h]
    by_cases hq : (numR xs x.cs).toNat = j <;> simp [keyE, hq]
theorem denseV_keys (xs : List Int) (es : List Ent) : denseV xs es = denseK xs (es.map keyE) := by
  unfold denseV denseK scat
  apply List.map_congr_left
  intro j _
  have := sumAt_keys xs j [] es
  rw [List.nil_append, List.length_nil] at this
  rw [this]
theorem denseK_congr {xs : List Int} {K L : List KeyT} (h : ∀ P, wrap64 (totP P K) = wrap64 (totP P L)) : denseK xs K = denseK xs L := by
  unfold denseK
  exact List.map_congr_left fun j _ => h _
theorem denseK_perm {xs : List Int} {K L : List KeyT} (h : K.Perm L) : denseK xs K = denseK xs L := denseK_congr fun P => by rw [totP_perm P h]
theorem denseK_join (xs : List Int) (K : List KeyT) : denseK xs (joinK K) = denseK xs K := denseK_congr fun P => joinK_tot P K
theorem totP_nz (P : List Int → Bool) (K : List KeyT) : totP P (K.filter nzK) = totP P K := by
  induction K with
  | nil => rfl
  | cons t K ih =>
    rw [List.filter_cons]
    by_cases h : t.2.1 = 0
    · rw [if_neg (by unfold nzK; simp [h])]
      simp only [totP, h, ih]
      split <;> omega
    · rw [if_pos (by unfold nzK; simp [h])]
      simp only [totP, ih]
theorem denseK_nz (xs : List Int) (K : List KeyT) : denseK xs (K.filter nzK) = denseK xs K := denseK_congr fun P => by rw [totP_nz]
theorem denseK_append (xs : List Int) (K L : List KeyT) : denseK xs (K ++ L) = addL (denseK xs K) (denseK xs L) := by
  unfold denseK addL
  rw [List.zipWith_map, List.zipWith_self]
  apply List.map_congr_left
  intro j _
  rw [totP_append, wrap_add_l, wrap_add_r]
theorem denseK_length (xs : List Int) (K : List KeyT) : (denseK xs K).length = (laidF xs).1.toNat := by unfold denseK; simp

/-- a tensor that is laid out, as it is read -/
def DenV (w : World) (A : Option Addr) (n : Nat) (B : Option Addr) (m : Nat) (xs ys : List Int) : Prop := Ints w w.heap.size A n xs ∧ Ints w w.heap.size B m ys
theorem DenV.below {w w' : World} {A B : Option Addr} {n m : Nat} {xs ys : List Int} (h : DenV w A n B m xs ys) (hb : Below w.heap.size w w') : DenV w' A n B m xs ys := ⟨(h.1.below hb).more hb.size, (h.2.below hb).more hb.size⟩
/-- the error of a list that is laid out -/
def denE (xs : List Int) (es : List Ent) : Int := if cooF xs es = 0 then (laidF xs).2 else cooF xs es
theorem denV_ok (A B : Option Addr) (n c m e : Nat) (xs : List Int) (es : List Ent) (w : World) (h : CooV w A n B m xs es) (hm : m ≤ 9223372036854775807) (hE : denE xs es = 0) :
    Calls Try.prog 29 #[.agg #[.slice A n c, .slice B m e]] w fun x w' => ∃ A1 c1 A2 M c2, x = .returned (.tuple #[.agg #[.slice A1 n c1, .slice A2 M c2], .int .i64 0]) ∧ DenV w' A1 n A2 M xs (denseK xs (es.map keyE)) ∧ M ≤ 65536 ∧ checkF xs M = 0 ∧ Below w.heap.size w w' := by
  unfold denE at hE
  by_cases h0 : cooF xs es = 0
  · rw [if_pos h0] at hE
    refine (cooDense_ok A B n c m e xs es w h.1 h.2 hm h0 hE).mono ?_
    rintro x w' ⟨A1, c1, A2, c2, rfl, h1, h2, hb⟩
    have hi1 := h1.ints
    rw [h.1.1] at hi1
    have hi2 := h2.ints
    rw [denseV_keys] at hi2
    have hlen : (denseK xs (es.map keyE)).length = (laidF xs).1.toNat := denseK_length _ _
    have hla := laidF_ok hE
    have hnn := laidF_nonneg (xs := xs)
    refine ⟨A1, c1, A2, _, c2, by rw [denseV_keys], ⟨hi1, hi2⟩, ?_, ?_, hb⟩
    · rw [hlen]; omega
    · unfold checkF
      rw [if_pos hE, if_pos (by rw [hlen]; omega)]
  · rw [if_neg h0] at hE; exact absurd hE h0
theorem denV_bad (A B : Option Addr) (n c m e : Nat) (xs : List Int) (es : List Ent) (w : World) (h : CooV w A n B m xs es) (hn : n ≤ 9223372036854775807) (hm : m ≤ 9223372036854775807) (E : Int) (hE : Hid (denE xs es = E)) (hne : E ≠ 0) :
    Calls Try.prog 29 #[.agg #[.slice A n c, .slice B m e]] w fun x w' => x = .returned (.tuple #[.agg #[.slice none 0 0, .slice none 0 0], .int .i64 E]) ∧ Below w.heap.size w w' := by
  have hE' := hE.out
  unfold denE at hE'
  by_cases h0 : cooF xs es = 0
  · rw [if_pos h0] at hE'
    exact cooDense_large A B n c m e xs es E w h.1 hn h.2 hm h0 hE' hne
  · rw [if_neg h0] at hE'
    exact cooDense_err A B n c m e xs es E w h.1 hn h.2 hm hE' hne
end Go.Proofs.Ytapbcmhkipaecaa
