/- Plain facts: an order after its inverse is the plain one; orders one after the other. No program. -/
import Derived.Test.YtnjjmeaggnlafaaPMath
namespace Go.Proofs.Ytnjjmeaggnlafaa
open Go.RowKit

theorem same_at {xs ys : List Int} {n : Nat} (h1 : xs.length = n) (h2 : ys.length = n) (h : ∀ k, k < n → xs[k]? = ys[k]?) : xs = ys := by
  apply List.ext_getElem?
  intro k
  by_cases hk : k < n
  · exact h k hk
  · rw [List.getElem?_eq_none (by omega), List.getElem?_eq_none (by omega)]
theorem Perm_.get {p : List Int} (hp : Perm_ p) {k : Nat} (hk : k < p.length) : ∃ x : Nat, p[k]? = some (x : Int) ∧ x < p.length := by
  have h1 := List.getElem?_eq_getElem hk
  have h2 := hp.inn _ (List.getElem_mem hk)
  exact ⟨p[k].toNat, by rw [h1]; congr 1; omega, by omega⟩
theorem Perm_.place {p : List Int} (hp : Perm_ p) {k : Nat} (hk : k < p.length) : ∃ j : Nat, p[j]? = some (k : Int) ∧ j < p.length ∧ p.idxOf (k : Int) = j := by
  have h := idxOf_at (hp.mem hk)
  exact ⟨_, h, (List.getElem?_eq_some_iff.1 h).1, rfl⟩
theorem turn_get {l p : List Int} {k x : Nat} {y : Int} (h : p[k]? = some (x : Int)) (hy : l[x]? = some y) : (turnL l p)[k]? = some y := turnL_at h (by simpa using hy)
theorem inv_get {p : List Int} (hp : Perm_ p) {k x : Nat} (h : p[k]? = some (x : Int)) : (invL p)[x]? = some (k : Int) := by
  have hx := hp.inn _ (List.mem_of_getElem? h)
  rw [invL_at (by omega), nodup_idx hp.nodup h]
theorem nodup_of_inj {l : List Int} (h : ∀ (i j : Nat) (x : Int), l[i]? = some x → l[j]? = some x → i = j) : l.Nodup := by
  rw [List.Nodup, List.pairwise_iff_getElem]
  intro i j hi hj hij e
  have := h i j l[j] (by rw [List.getElem?_eq_getElem hi, e]) (List.getElem?_eq_getElem hj)
  omega
theorem mem_get {l : List Int} {x : Int} (h : x ∈ l) : ∃ k : Nat, l[k]? = some x ∧ k < l.length := by
  obtain ⟨k, hk⟩ := List.getElem?_of_mem h
  exact ⟨k, hk, (List.getElem?_eq_some_iff.1 hk).1⟩

theorem perm_plain {n : Nat} (h : n ≤ 12) : Perm_ (plainL n) := by
  refine ⟨by rw [plainL_length]; exact h, ?_, ?_⟩
  · intro x hx
    obtain ⟨k, hk, hl⟩ := mem_get hx
    rw [plainL_length] at hl ⊢
    rw [plainL_at hl] at hk
    injection hk with hk
    omega
  · refine nodup_of_inj fun i j x hi hj => ?_
    have h1 := (List.getElem?_eq_some_iff.1 hi).1
    have h2 := (List.getElem?_eq_some_iff.1 hj).1
    rw [plainL_length] at h1 h2
    rw [plainL_at h1] at hi
    rw [plainL_at h2] at hj
    injection hi with hi; injection hj with hj; omega
theorem perm_inv {p : List Int} (hp : Perm_ p) : Perm_ (invL p) := by
  refine ⟨by rw [invL_length]; exact hp.len, ?_, ?_⟩
  · intro x hx
    obtain ⟨k, hk, hl⟩ := mem_get hx
    rw [invL_length] at hl ⊢
    obtain ⟨j, hj, hjl, hji⟩ := hp.place hl
    rw [invL_at hl, hji] at hk
    injection hk with hk
    omega
  · refine nodup_of_inj fun i j x hi hj => ?_
    have h1 := (List.getElem?_eq_some_iff.1 hi).1
    have h2 := (List.getElem?_eq_some_iff.1 hj).1
    rw [invL_length] at h1 h2
    obtain ⟨a, ha, hal, hai⟩ := hp.place h1
    obtain ⟨b, hb, hbl, hbi⟩ := hp.place h2
    rw [invL_at h1, hai] at hi
    rw [invL_at h2, hbi] at hj
    injection hi with hi; injection hj with hj
    have : a = b := by omega
    subst this
    rw [ha] at hb; injection hb with hb; omega
theorem perm_turn {p q : List Int} (hp : Perm_ p) (hq : Perm_ q) (hl : p.length = q.length) : Perm_ (turnL p q) := by
  refine ⟨by rw [turnL_length]; exact hq.len, ?_, ?_⟩
  · intro x hx
    obtain ⟨k, hk, hkl⟩ := mem_get hx
    rw [turnL_length] at hkl ⊢
    obtain ⟨y, hy, hyl⟩ := hq.get hkl
    obtain ⟨z, hz, hzl⟩ := hp.get (k := y) (by omega)
    rw [turn_get hy hz] at hk
    injection hk with hk
    omega
  · refine nodup_of_inj fun i j x hi hj => ?_
    have h1 := (List.getElem?_eq_some_iff.1 hi).1
    have h2 := (List.getElem?_eq_some_iff.1 hj).1
    rw [turnL_length] at h1 h2
    obtain ⟨a, ha, hal⟩ := hq.get h1
    obtain ⟨b, hb, hbl⟩ := hq.get h2
    obtain ⟨c, hc, hcl⟩ := hp.get (k := a) (by omega)
    obtain ⟨d, hd, hdl⟩ := hp.get (k := b) (by omega)
    rw [turn_get ha hc] at hi
    rw [turn_get hb hd] at hj
    injection hi with hi; injection hj with hj
    have e : c = d := by omega
    subst e
    have e2 : a = b := by rw [← nodup_idx hp.nodup hc, ← nodup_idx hp.nodup hd]
    subst e2
    rw [← nodup_idx hq.nodup ha, ← nodup_idx hq.nodup hb]

theorem turn_inv {p : List Int} (hp : Perm_ p) : turnL p (invL p) = plainL p.length := by
  refine same_at (n := p.length) (by rw [turnL_length, invL_length]) (plainL_length _) fun k hk => ?_
  obtain ⟨j, hj, hjl, hji⟩ := hp.place hk
  rw [plainL_at hk]
  exact turn_get (by rw [invL_at hk, hji]) hj
theorem inv_turn {p : List Int} (hp : Perm_ p) : turnL (invL p) p = plainL p.length := by
  refine same_at (n := p.length) (by rw [turnL_length]) (plainL_length _) fun k hk => ?_
  obtain ⟨x, hx, hxl⟩ := hp.get hk
  rw [plainL_at hk]
  exact turn_get hx (inv_get hp hx)
theorem inv_inv {p : List Int} (hp : Perm_ p) : invL (invL p) = p := by
  refine same_at (n := p.length) (by rw [invL_length, invL_length]) rfl fun k hk => ?_
  obtain ⟨x, hx, hxl⟩ := hp.get hk
  rw [hx]
  exact inv_get (perm_inv hp) (inv_get hp hx)
theorem turn_back {p l : List Int} (hp : Perm_ p) (hl : l.length = p.length) : turnL (turnL l p) (invL p) = l := by
  refine same_at (n := p.length) (by rw [turnL_length, invL_length]) hl fun k hk => ?_
  obtain ⟨j, hj, hjl, hji⟩ := hp.place hk
  obtain ⟨y, hy⟩ : ∃ y, l[k]? = some y := ⟨_, List.getElem?_eq_getElem (by omega)⟩
  rw [hy]
  exact turn_get (by rw [invL_at hk, hji]) (turn_get hj hy)
theorem turn_assoc {p q r : List Int} (hq : Perm_ q) (hr : Perm_ r) (h1 : p.length = q.length) (h2 : q.length = r.length) : turnL (turnL p q) r = turnL p (turnL q r) := by
  refine same_at (n := r.length) (by rw [turnL_length]) (by rw [turnL_length, turnL_length]) fun k hk => ?_
  obtain ⟨x, hx, hxl⟩ := hr.get hk
  obtain ⟨y, hy, hyl⟩ := hq.get (k := x) (by omega)
  obtain ⟨z, hz⟩ : ∃ z, p[y]? = some z := ⟨_, List.getElem?_eq_getElem (by omega)⟩
  rw [turn_get hx (turn_get hy hz), turn_get (turn_get hx hy) hz]
theorem turn_plain {p : List Int} : turnL p (plainL p.length) = p := by
  refine same_at (n := p.length) (by rw [turnL_length, plainL_length]) rfl fun k hk => ?_
  rw [List.getElem?_eq_getElem hk]
  exact turn_get (plainL_at hk) (List.getElem?_eq_getElem hk)
theorem plain_turn {p : List Int} (hp : Perm_ p) : turnL (plainL p.length) p = p := by
  refine same_at (n := p.length) (by rw [turnL_length]) rfl fun k hk => ?_
  obtain ⟨x, hx, hxl⟩ := hp.get hk
  rw [hx]
  exact turn_get hx (plainL_at hxl)
theorem inv_two {p q : List Int} (hp : Perm_ p) (hq : Perm_ q) (hl : p.length = q.length) : invL (turnL p q) = turnL (invL q) (invL p) := by
  refine same_at (n := q.length) (by rw [invL_length, turnL_length]) (by rw [turnL_length, invL_length, hl]) fun k hk => ?_
  obtain ⟨j, hj, hjl, hji⟩ := hp.place (k := k) (by omega)
  obtain ⟨i, hi, hil, hii⟩ := hq.place (k := j) (by omega)
  rw [inv_get (perm_turn hp hq hl) (turn_get hi hj), turn_get (inv_get hp hj) (inv_get hq hi)]
end Go.Proofs.Ytnjjmeaggnlafaa
