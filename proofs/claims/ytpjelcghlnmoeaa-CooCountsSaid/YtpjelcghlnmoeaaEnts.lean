/- Slices of entries: when one reads as a list of places and numbers. -/
import Derived.Test.YtpjelcghlnmoeaaBase
namespace Go.Proofs.Ytpjelcghlnmoeaa
open Go.RowKit

/-- an entry: its place's header, the place, the number -/
structure Ent where
  A : Option Addr
  n : Nat
  c : Nat
  cs : List Int
  v : Int
/-- the header (A, n) leads to the entries es, in blocks below B -/
def Ents (w : World) (B : Nat) (A : Option Addr) (n : Nat) (es : List Ent) : Prop :=
  es.length = n ∧ (∀ x ∈ es, Ints w B x.A x.n x.cs ∧ x.n ≤ 9223372036854775807 ∧ x.n ≤ x.c ∧ -9223372036854775808 ≤ x.v ∧ x.v ≤ 9223372036854775807) ∧
  (0 < n → ∃ b off, A = some ⟨b, off, none⟩ ∧ b < B ∧ ∀ (k : Nat) (x : Ent), es[k]? = some x → w.cell? ⟨b, off + 2 * k, none⟩ = some (.slice x.A x.n x.c) ∧ w.cell? ⟨b, off + 2 * k + 1, none⟩ = some (.int .i64 x.v))
section
variable {w w' : World} {B B' n : Nat} {A : Option Addr} {es : List Ent}
theorem Ents.nil_ : Ents w B A 0 [] := ⟨rfl, by simp, fun h => absurd h (by omega)⟩
theorem Ents.len (h : Ents w B A n es) : es.length = n := h.1
theorem Ents.keep (h : Ents w B A n es) (hk : ∀ p : Addr, p.block < B → w'.cell? p = w.cell? p) : Ents w' B A n es := by
  obtain ⟨hl, hb, hc⟩ := h
  refine ⟨hl, fun x hx => ⟨(hb x hx).1.keep hk, (hb x hx).2⟩, fun hn => ?_⟩
  obtain ⟨b, off, e, hB, hx⟩ := hc hn
  exact ⟨b, off, e, hB, fun k x hx' => ⟨(hk _ hB).trans (hx k x hx').1, (hk _ hB).trans (hx k x hx').2⟩⟩
theorem Ents.more (h : Ents w B A n es) (hB : B ≤ B') : Ents w B' A n es := by
  obtain ⟨hl, hb, hc⟩ := h
  refine ⟨hl, fun x hx => ⟨(hb x hx).1.more hB, (hb x hx).2⟩, fun hn => ?_⟩
  obtain ⟨b, off, e, hB', hx⟩ := hc hn
  exact ⟨b, off, e, by omega, hx⟩
theorem Ents.below (h : Ents w B A n es) (hb : Below B w w') : Ents w' B A n es := h.keep fun _ hp => hb.cell hp
theorem Ents.at_ {k : Nat} (h : Ents w B A n es) (hk : k < n) :
    ∃ b off x, A = some ⟨b, off, none⟩ ∧ b < B ∧ Hid (es[k]? = some x) ∧ w.cell? ⟨b, off + 2 * k, none⟩ = some (.slice x.A x.n x.c) ∧ w.cell? ⟨b, off + 2 * k + 1, none⟩ = some (.int .i64 x.v) ∧ Ints w B x.A x.n x.cs ∧ x.n ≤ 9223372036854775807 ∧ x.n ≤ x.c ∧ -9223372036854775808 ≤ x.v ∧ x.v ≤ 9223372036854775807 := by
  obtain ⟨hl, hb, hc⟩ := h
  obtain ⟨b, off, rfl, hB, hx⟩ := hc (by omega)
  have hk' : k < es.length := by omega
  have hm := hb _ (List.getElem_mem hk')
  have hx' := hx k _ (List.getElem?_eq_getElem hk')
  exact ⟨b, off, es[k], rfl, hB, List.getElem?_eq_getElem hk', hx'.1, hx'.2, hm.1, hm.2.1, hm.2.2.1, hm.2.2.2.1, hm.2.2.2.2⟩
theorem Ents.take_ {k : Nat} (h : Ents w B A n es) (hk : k ≤ n) : Ents w B A k (es.take k) := by
  obtain ⟨hl, hb, hc⟩ := h
  refine ⟨by rw [List.length_take]; omega, fun x hx => hb x (List.mem_of_mem_take hx), fun h0 => ?_⟩
  obtain ⟨b, off, e, hB, hx⟩ := hc (by omega)
  refine ⟨b, off, e, hB, fun j x hj => hx j x ?_⟩
  rw [List.getElem?_take] at hj
  split at hj
  · exact hj
  · cases hj
theorem Ents.drop_ {k c : Nat} (h : Ents w B A n es) (hk : k ≤ n) (hc : n ≤ c) : Ents w B (if c = k then A else A.map (·.add (k * 2))) (n - k) (es.drop k) := by
  obtain ⟨hl, hb, hcc⟩ := h
  refine ⟨by rw [List.length_drop]; omega, fun x hx => hb x (List.mem_of_mem_drop hx), fun h0 => ?_⟩
  obtain ⟨b, off, rfl, hB, hx⟩ := hcc (by omega)
  rw [if_neg (by omega)]
  refine ⟨b, off + 2 * k, ?_, hB, fun j x hj => ?_⟩
  · by_cases hk0 : k = 0
    · subst hk0; simp [Addr.add]
    · have h2 : ¬ k * 2 = 0 := by omega
      simp [Addr.add, h2, Nat.mul_comm]
  · rw [List.getElem?_drop] at hj
    have := hx (k + j) x hj
    rw [show off + 2 * k + 2 * j = off + 2 * (k + j) by omega]
    exact this
end
end Go.Proofs.Ytpjelcghlnmoeaa
