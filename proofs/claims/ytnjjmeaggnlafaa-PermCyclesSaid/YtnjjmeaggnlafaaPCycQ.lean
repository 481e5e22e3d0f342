/- Plain facts: an order is odd just if it has an odd number of even cycles; cycles come by their first numbers. No program. -/
import Derived.Test.YtnjjmeaggnlafaaPCycP
namespace Go.Proofs.Ytnjjmeaggnlafaa
open Go.RowKit

def evenC (LL : List (List Int)) : Nat := (LL.filter fun c => c.length % 2 == 0).length
theorem evenC_snoc (LL : List (List Int)) (c : List Int) : evenC (LL ++ [c]) = evenC LL + if c.length % 2 = 0 then 1 else 0 := by
  unfold evenC; rw [List.filter_append, List.length_append]
  by_cases h : c.length % 2 = 0 <;> simp [h]
theorem evenC_le (LL : List (List Int)) : evenC LL ≤ LL.length := List.length_filter_le _ _
theorem xor_step (a : Bool) (k : Nat) : ((!a) != (k % 2 == 1)) = (a != ((k + 1) % 2 == 1)) := by
  rcases Nat.mod_two_eq_zero_or_one k with h | h
  · have h2 : (k + 1) % 2 = 1 := by omega
    rw [h, h2]; cases a <;> rfl
  · have h2 : (k + 1) % 2 = 0 := by omega
    rw [h, h2]; cases a <;> rfl
theorem build_cyc (n : Nat) (rest : List Int) : ∀ (t : List Int) (cur f : Int), Perm_ t → t.length = n → (∀ x ∈ cur :: rest, 0 ≤ x ∧ x < n) → (cur :: rest).Nodup → t[cur.toNat]? = some f → (∀ y ∈ rest, t[y.toNat]? = some y) →
    ∃ u, Perm_ u ∧ u.length = n ∧ oddB u = (oddB t != (rest.length % 2 == 1)) ∧ (∀ z : Nat, (z : Int) ∉ cur :: rest → u[z]? = t[z]?) ∧
      (∀ (i : Nat) (x y : Int), (cur :: rest)[i]? = some x → (cur :: rest)[i + 1]? = some y → u[x.toNat]? = some y) ∧ (∀ x, (cur :: rest)[rest.length]? = some x → u[x.toNat]? = some f) := by
  induction rest with
  | nil =>
    intro t cur f hp hl hb hn ht _
    refine ⟨t, hp, hl, by cases oddB t <;> rfl, fun z _ => rfl, ?_, ?_⟩
    · intro i x y _ hy; simp at hy
    · intro x hx; simp at hx; subst hx; exact ht
  | cons y rest ih =>
    intro t cur f hp hl hb hn ht hfix
    have hc := hb cur (by simp)
    have hy := hb y (by simp)
    have hty := hfix y (by simp)
    rw [List.nodup_cons] at hn
    have hne : cur ≠ y := fun e => hn.1 (by rw [e]; simp)
    have hne2 : cur.toNat ≠ y.toNat := by omega
    obtain ⟨hp2, ho2⟩ := odd_swap hp ht hty hne2
    have hcl := (List.getElem?_eq_some_iff.1 ht).1
    have hyl := (List.getElem?_eq_some_iff.1 hty).1
    have g1 : ((t.set cur.toNat y).set y.toNat f)[y.toNat]? = some f := List.getElem?_set_self (by simpa using hyl)
    have g2 : ((t.set cur.toNat y).set y.toNat f)[cur.toNat]? = some y := by rw [List.getElem?_set_ne (fun e => hne2 e.symm), List.getElem?_set_self hcl]
    have g3 : ∀ z : Nat, z ≠ cur.toNat → z ≠ y.toNat → ((t.set cur.toNat y).set y.toNat f)[z]? = t[z]? := fun z h1 h2 => by rw [List.getElem?_set_ne (fun e => h2 e.symm), List.getElem?_set_ne (fun e => h1 e.symm)]
    have hn2 := hn.2
    rw [List.nodup_cons] at hn2
    obtain ⟨u, k1, k2, k3, k4, k5, k6⟩ := ih _ y f hp2 (by simp [hl]) (fun x hx => hb x (List.mem_cons_of_mem _ hx)) hn.2 g1 (fun z hz => by
      have hzb := hb z (by simp [hz])
      have h1 : z ≠ cur := fun e => hn.1 (by rw [← e]; simp [hz])
      have h2 : z ≠ y := fun e => hn2.1 (by rw [← e]; exact hz)
      rw [g3 z.toNat (by omega) (by omega)]; exact hfix z (by simp [hz]))
    refine ⟨u, k1, k2, by rw [k3, ho2, List.length_cons, xor_step], ?_, ?_, ?_⟩
    · intro z hz
      rw [k4 z (fun h => hz (List.mem_cons_of_mem _ h)), g3 z (fun e => hz (by simp; left; omega)) (fun e => hz (by simp; right; left; omega))]
    · intro i x w hx hw
      cases i with
      | zero =>
        simp at hx hw; subst hx; subst hw
        have := k4 cur.toNat (by rw [Int.toNat_of_nonneg hc.1]; exact hn.1)
        rw [this, g2]
      | succ i => exact k5 i x w (by simpa using hx) (by simpa using hw)
    · intro x hx
      exact k6 x (by simpa using hx)
theorem build_all (n : Nat) (LL : List (List Int)) : ∀ (t : List Int), Perm_ t → t.length = n → (∀ c ∈ LL, 0 < c.length ∧ ∀ x ∈ c, 0 ≤ x ∧ x < n) → LL.flatten.Nodup → (∀ x ∈ LL.flatten, t[x.toNat]? = some x) →
    ∃ u, Perm_ u ∧ u.length = n ∧ oddB u = (oddB t != (evenC LL % 2 == 1)) ∧ (∀ z : Nat, (z : Int) ∉ LL.flatten → u[z]? = t[z]?) ∧
      (∀ c ∈ LL, (∀ (i : Nat) (x y : Int), c[i]? = some x → c[i + 1]? = some y → u[x.toNat]? = some y) ∧ (∀ x f, c[c.length - 1]? = some x → c[0]? = some f → u[x.toNat]? = some f)) := by
  induction LL with
  | nil => intro t hp hl _ _ _; exact ⟨t, hp, hl, by cases oddB t <;> rfl, fun _ _ => rfl, by simp⟩
  | cons c LL ih =>
    intro t hp hl hb hn hfix
    obtain ⟨hc0, hcb⟩ := hb c (by simp)
    obtain ⟨cur, rest, rfl⟩ : ∃ cur rest, c = cur :: rest := by cases c with | nil => simp at hc0 | cons a b => exact ⟨a, b, rfl⟩
    rw [List.flatten_cons, List.nodup_append] at hn
    obtain ⟨hn1, hn2, hn3⟩ := hn
    obtain ⟨v, j1, j2, j3, j4, j5, j6⟩ := build_cyc n rest t cur cur hp hl hcb hn1 (hfix cur (by simp)) (fun y hy => hfix y (by simp [hy]))
    have hbF : ∀ x ∈ LL.flatten, 0 ≤ x ∧ x < n := fun x hx => by
      obtain ⟨d, hd, hxd⟩ := List.mem_flatten.1 hx
      exact (hb d (by simp [hd])).2 x hxd
    have happ : ∀ x ∈ cur :: rest, x ∉ LL.flatten := fun x hx hx2 => hn3 x hx x hx2 rfl
    obtain ⟨u, k1, k2, k3, k4, k5⟩ := ih v j1 j2 (fun d hd => hb d (by simp [hd])) hn2 (fun x hx => by
      have hxb := hbF x hx
      rw [j4 x.toNat (by rw [Int.toNat_of_nonneg hxb.1]; exact fun h => happ x h hx)]
      exact hfix x (by rw [List.flatten_cons]; exact List.mem_append_right _ hx))
    have hkeep : ∀ x ∈ cur :: rest, u[x.toNat]? = v[x.toNat]? := fun x hx => k4 x.toNat (by rw [Int.toNat_of_nonneg (hcb x hx).1]; exact happ x hx)
    refine ⟨u, k1, k2, ?_, ?_, ?_⟩
    · rw [k3, j3]
      have e : evenC ((cur :: rest) :: LL) = (if (rest.length + 1) % 2 = 0 then 1 else 0) + evenC LL := by
        unfold evenC; by_cases h : (rest.length + 1) % 2 = 0 <;> simp [h]; omega
      rw [e]
      rcases Nat.mod_two_eq_zero_or_one rest.length with h1 | h1 <;> rcases Nat.mod_two_eq_zero_or_one (evenC LL) with h2 | h2
      · have h3 : (rest.length + 1) % 2 = 1 := by omega
        rw [h1, h2, if_neg (by omega), Nat.zero_add, h2]; cases oddB t <;> rfl
      · have h3 : (rest.length + 1) % 2 = 1 := by omega
        rw [h1, h2, if_neg (by omega), Nat.zero_add, h2]; cases oddB t <;> rfl
      · have h3 : (rest.length + 1) % 2 = 0 := by omega
        rw [h1, h2, if_pos h3, show (1 + evenC LL) % 2 = 1 by omega]; cases oddB t <;> rfl
      · have h3 : (rest.length + 1) % 2 = 0 := by omega
        rw [h1, h2, if_pos h3, show (1 + evenC LL) % 2 = 0 by omega]; cases oddB t <;> rfl
    · intro z hz
      rw [List.flatten_cons, List.mem_append] at hz
      rw [k4 z (fun h => hz (.inr h)), j4 z (fun h => hz (.inl h))]
    · intro d hd
      rcases List.mem_cons.1 hd with rfl | hd
      · refine ⟨fun i x y hx hy => ?_, fun x f hx hf => ?_⟩
        · rw [hkeep x (List.mem_of_getElem? hx)]; exact j5 i x y hx hy
        · rw [hkeep x (List.mem_of_getElem? hx)]
          simp at hf; subst hf
          exact j6 x (by simpa using hx)
      · exact k5 d hd
theorem cycs_mem {p : List Int} {c : List Int} (hc : c ∈ cycsL p) : ∃ j : Nat, j < p.length ∧ c = cycL p (j : Int) ∧ minL c = (j : Int) := by
  have h : c ∈ cycsTo p p.length := hc
  unfold cycsTo at h
  rw [List.mem_filterMap] at h
  obtain ⟨i, hi, hh⟩ := h
  rw [List.mem_range] at hi
  split at hh
  · rename_i hm; injection hh with hh; exact ⟨i, hi, hh.symm, by rw [← hh]; exact hm⟩
  · cases hh
theorem odd_cycles {p : List Int} (hp : Perm_ p) : oddB p = (evenC (cycsL p) % 2 == 1) := by
  have hpl := perm_plain hp.len
  have hF := met_nodup hp p.length (Nat.le_refl _)
  have hbF : ∀ c ∈ cycsL p, 0 < c.length ∧ ∀ x ∈ c, 0 ≤ x ∧ x < p.length := fun c hc => by
    obtain ⟨j, hj, rfl, _⟩ := cycs_mem hc
    exact ⟨(cyc_of hp hj).pos, (cyc_of hp hj).inn⟩
  obtain ⟨u, k1, k2, k3, k4, k5⟩ := build_all p.length (cycsL p) (plainL p.length) hpl (plainL_length _) hbF hF (fun x hx => by
    obtain ⟨d, hd, hxd⟩ := List.mem_flatten.1 hx
    have hb := (hbF d hd).2 x hxd
    rw [plainL_at (by omega), Int.toNat_of_nonneg hb.1])
  have hu : u = p := by
    refine same_at k2 rfl fun z hz => ?_
    have hzF : (z : Int) ∈ (cycsTo p p.length).flatten := (met_iff hp _ (Nat.le_refl _) _).2 ⟨z, hz, self_mem hp hz⟩
    obtain ⟨c, hc, hzc⟩ := List.mem_flatten.1 hzF
    obtain ⟨j, hj, rfl, _⟩ := cycs_mem hc
    have hcy := cyc_of hp hj
    obtain ⟨i, hi, hil⟩ := mem_get hzc
    by_cases hl : i + 1 < (cycL p (j : Int)).length
    · obtain ⟨y, hy⟩ : ∃ y, (cycL p (j : Int))[i + 1]? = some y := ⟨_, List.getElem?_eq_getElem hl⟩
      have h1 := (k5 _ hc).1 i _ y hi hy
      have h2 := (hcy.way i _ y hi hy).1
      rw [Int.toNat_natCast] at h1 h2
      rw [h1, h2]
    · obtain ⟨x, hx, hxf⟩ := hcy.last
      have e : i = (cycL p (j : Int)).length - 1 := by omega
      rw [e, hx] at hi; injection hi with hi; subst hi
      have h1 := (k5 _ hc).2 _ _ hx hcy.head
      rw [Int.toNat_natCast] at h1 hxf
      rw [h1, hxf]
  rw [← hu, k3, oddB_plain]
  rw [hu]
  cases (evenC (cycsL p) % 2 == 1) <;> rfl
/-- cycles come by their first numbers -/
theorem cycs_rise {p : List Int} : ∀ k, k ≤ p.length → (cycsTo p k).Pairwise (fun a b => a.headD 0 < b.headD 0) ∧ ∀ c ∈ cycsTo p k, c.headD 0 < k := by
  intro k
  induction k with
  | zero => intro _; simp [cycsTo]
  | succ k ih =>
    intro hk
    obtain ⟨h1, h2⟩ := ih (by omega)
    rw [cycsTo_succ]
    by_cases hm : minL (cycL p (k : Int)) = (k : Int)
    · rw [if_pos hm]
      have hh : (cycL p (k : Int)).headD 0 = (k : Int) := rfl
      refine ⟨List.pairwise_append.2 ⟨h1, by simp, fun a ha b hb => by simp at hb; subst hb; rw [hh]; exact h2 a ha⟩, fun c hc => ?_⟩
      rcases List.mem_append.1 hc with hc | hc
      · have := h2 c hc; omega
      · simp at hc; subst hc; rw [hh]; omega
    · rw [if_neg hm, List.append_nil]
      exact ⟨h1, fun c hc => by have := h2 c hc; omega⟩
end Go.Proofs.Ytnjjmeaggnlafaa
