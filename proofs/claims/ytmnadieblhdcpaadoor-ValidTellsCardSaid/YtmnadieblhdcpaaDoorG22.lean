/- How the program follows all ways through code, with a pile of what is still to be gone on from: plain mathematics. Nothing is claimed of the program here. -/
import Derived.Test.YtmnadieblhdcpaaDoorG9
import Derived.Deep.MidRow
import Derived.Test.YtmnadieblhdcpaaDoorG16
import Derived.Test.YtmnadieblhdcpaaDoorG10
import Derived.ChangeKeysEq
namespace Go.Proofs.YtmnadieblhdcpaaDoor
open Go.RowKit

/-- the marks of all registers: one is set -/
def bitR (r : List Bool) (n : Nat) : Bool := r.getD n false
/-- what is set behind an instruction -/
def behR (x : Ji) (r : List Bool) : List Bool := if setsJ x = true then r.set (writesJ x).toNat true else r
def andR (r s : List Bool) : List Bool := List.zipWith (fun a b => a && b) r s
def noR : List Bool := List.replicate 128 false
theorem noR_len : noR.length = 128 := by unfold noR; rw [List.length_replicate]
theorem bit_noR (n : Nat) : bitR noR n = false := by
  unfold bitR noR
  rw [List.getD_eq_getElem?_getD, List.getElem?_replicate]
  split <;> rfl
theorem behR_len (x : Ji) (r : List Bool) : (behR x r).length = r.length := by unfold behR; split <;> simp
theorem andR_len {r s : List Bool} (h : r.length = s.length) : (andR r s).length = s.length := by unfold andR; rw [List.length_zipWith]; omega
theorem bit_andR {r s : List Bool} (h : r.length = s.length) (n : Nat) : bitR (andR r s) n = (bitR r n && bitR s n) := by
  unfold bitR andR
  rw [List.getD_eq_getElem?_getD, List.getD_eq_getElem?_getD, List.getD_eq_getElem?_getD, List.getElem?_zipWith]
  by_cases hn : n < r.length
  · rw [List.getElem?_eq_getElem hn, List.getElem?_eq_getElem (by omega : n < s.length)]; rfl
  · rw [List.getElem?_eq_none (by omega : r.length ≤ n), List.getElem?_eq_none (by omega : s.length ≤ n)]; rfl
theorem bit_some {r : List Bool} {n : Nat} {v : Bool} (h : r[n]? = some v) : bitR r n = v := by unfold bitR; rw [List.getD_eq_getElem?_getD, h]; rfl
theorem bit_lt {r : List Bool} {n : Nat} (h : bitR r n = true) : n < r.length := by
  apply Classical.byContradiction
  intro hn
  unfold bitR at h
  rw [List.getD_eq_getElem?_getD, List.getElem?_eq_none (by omega)] at h
  cases h
theorem bit_ext {r s : List Bool} (h : r.length = s.length) (hb : ∀ n, bitR r n = bitR s n) : r = s := by
  apply List.ext_getElem?
  intro n
  by_cases hn : n < r.length
  · have := hb n
    rw [bit_some (List.getElem?_eq_getElem hn), bit_some (List.getElem?_eq_getElem (by omega : n < s.length))] at this
    rw [List.getElem?_eq_getElem hn, List.getElem?_eq_getElem (by omega : n < s.length), this]
  · rw [List.getElem?_eq_none (by omega), List.getElem?_eq_none (by omega)]
theorem bit_behR {x : Ji} {r : List Bool} {n : Nat} (h : bitR (behR x r) n = false) (hn : n < r.length) (hw : setsJ x = true → 0 ≤ writesJ x) : bitR r n = false ∧ ¬(setsJ x = true ∧ writesJ x = (n : Int)) := by
  unfold behR at h
  split at h
  · rename_i hs
    have h0 := hw hs
    by_cases e : (writesJ x).toNat = n
    · exfalso
      rw [e] at h
      unfold bitR at h
      rw [List.getD_eq_getElem?_getD, List.getElem?_set_self hn] at h
      cases h
    · refine ⟨?_, fun h2 => e (by omega)⟩
      unfold bitR at h ⊢
      rw [List.getD_eq_getElem?_getD, List.getElem?_set_ne e] at h
      rw [List.getD_eq_getElem?_getD]; exact h
  · rename_i hs
    exact ⟨h, fun h2 => hs h2.1⟩
theorem bit_beh_no {x : Ji} {r : List Bool} {n : Nat} (h : bitR r n = false) (hw : ¬(setsJ x = true ∧ writesJ x = (n : Int))) (h0 : setsJ x = true → 0 ≤ writesJ x) : bitR (behR x r) n = false := by
  unfold behR
  split
  · rename_i hs
    have h1 := h0 hs
    have e : (writesJ x).toNat ≠ n := fun e => hw ⟨hs, by omega⟩
    unfold bitR at h ⊢
    rw [List.getD_eq_getElem?_getD, List.getElem?_set_ne e, ← List.getD_eq_getElem?_getD]
    exact h
  · exact h
/-- how much may still come: of all instructions -/
def potF : List Bool → List (List Bool) → Nat
  | b :: o, r :: rows => (if b = true then r.countP id else 129) + potF o rows
  | _, _ => 0
theorem potF_le : ∀ (o : List Bool) (rows : List (List Bool)), (∀ r ∈ rows, r.length = 128) → potF o rows ≤ 129 * rows.length
  | [], _, _ => by unfold potF; omega
  | _ :: _, [], _ => by unfold potF; omega
  | b :: o, r :: rows, h => by
    have ih := potF_le o rows fun s hs => h s (List.mem_cons_of_mem _ hs)
    have h1 := h r (List.mem_cons_self ..)
    have h2 : r.countP id ≤ r.length := List.countP_le_length
    unfold potF
    rw [List.length_cons]
    split <;> omega
theorem potF_set : ∀ (o : List Bool) (rows : List (List Bool)) (k : Nat) (b : Bool) (r r' : List Bool), o[k]? = some b → rows[k]? = some r → (if b = true then r.countP id else 129) > r'.countP id → potF (o.set k true) (rows.set k r') < potF o rows
  | [], _, _, _, _, _, h, _, _ => by simp at h
  | _ :: _, [], _, _, _, _, _, h, _ => by simp at h
  | b0 :: o, r0 :: rows, 0, b, r, r', h1, h2, h3 => by
    simp only [List.getElem?_cons_zero, Option.some.injEq] at h1 h2
    subst h1 h2
    rw [List.set_cons_zero, List.set_cons_zero]
    unfold potF
    rw [if_pos rfl]
    omega
  | b0 :: o, r0 :: rows, k + 1, b, r, r', h1, h2, h3 => by
    rw [List.getElem?_cons_succ] at h1 h2
    have ih := potF_set o rows k b r r' h1 h2 h3
    rw [List.set_cons_succ, List.set_cons_succ]
    unfold potF
    omega
theorem cnt_and : ∀ (r s : List Bool), r.length = s.length → (andR r s).countP id ≤ s.countP id ∧ ((andR r s).countP id = s.countP id → andR r s = s)
  | [], [], _ => ⟨Nat.le_refl _, fun _ => rfl⟩
  | [], _ :: _, h => by simp at h
  | _ :: _, [], h => by simp at h
  | a :: r, b :: s, h => by
    obtain ⟨h1, h2⟩ := cnt_and r s (by simpa using h)
    have e : andR (a :: r) (b :: s) = (a && b) :: andR r s := rfl
    rw [e, List.countP_cons, List.countP_cons]
    cases a <;> cases b
    · simp only [id, Bool.and_self, Bool.false_eq_true, if_false, Nat.add_zero]
      exact ⟨h1, fun e => by rw [h2 e]⟩
    · simp only [id, Bool.false_and, Bool.false_eq_true, if_false, if_true, Nat.add_zero]
      exact ⟨by omega, fun e => by omega⟩
    · simp only [id, Bool.and_false, Bool.false_eq_true, if_false, Nat.add_zero]
      exact ⟨h1, fun e => by rw [h2 e]⟩
    · simp only [id, Bool.and_self, if_true]
      exact ⟨by omega, fun e => by rw [h2 (by omega)]⟩
/-- from i it is gone on to k: k is marked, and what is set there is set behind i -/
def EdgeF (o : List Bool) (rows : List (List Bool)) (r : List Bool) (k : Nat) : Prop := o[k]? = some true ∧ ∀ s, rows[k]? = some s → ∀ n, bitR s n = true → bitR r n = true
/-- what is known of the marks, of what is set, and of the pile -/
structure FolI (c : Cd) (o : List Bool) (rows : List (List Bool)) (op : List Nat) (ex : Nat → Prop) : Prop where
  lo : o.length = c.l.length
  la : rows.length = c.l.length
  l8 : ∀ r ∈ rows, r.length = 128
  on : ∀ i ∈ op, o[i]? = some true
  zero : ∀ (i : Nat) (r : List Bool), o[i]? = some false → rows[i]? = some r → r = noR
  way : ∀ i : Nat, o[i]? = some true → Way c.l (-1) i
  no : ∀ (i n : Nat) (r : List Bool), o[i]? = some true → rows[i]? = some r → n < 128 → bitR r n = false → Way c.l n i
  fst : o[0]? = some true ∧ rows[0]? = some noR
  cls : ∀ (i : Nat) (x : Ji) (r : List Bool) (k : Nat), o[i]? = some true → i ∉ op → ¬ ex i → c.l[i]? = some x → rows[i]? = some r → (k : Int) ∈ nextJ x i → EdgeF o rows (behR x r) k
  pot : op.length + potF o rows ≤ 129 * c.l.length + 1
theorem FolI.start {c : Cd} (hm : c.may = true) : FolI c ((List.replicate c.l.length false).set 0 true) ((List.replicate c.l.length noR).set 0 noR) [0] (fun _ => False) := by
  obtain ⟨⟨_, _, _, _, _, _, n0, n1⟩, _⟩ := Cd.may_parts hm
  have e1 : ((List.replicate c.l.length false).set 0 true)[0]? = some true := List.getElem?_set_self (by rw [List.length_replicate]; omega)
  have e2 : (List.replicate c.l.length noR).set 0 noR = List.replicate c.l.length noR := by
    apply List.ext_getElem?
    intro i
    by_cases e : 0 = i
    · subst e
      rw [List.getElem?_set_self (by rw [List.length_replicate]; omega), List.getElem?_replicate, if_pos (by omega)]
    · rw [List.getElem?_set_ne e]
  have one : ∀ i : Nat, ((List.replicate c.l.length false).set 0 true)[i]? = some true → i = 0 := by
    intro i hi
    apply Classical.byContradiction
    intro e
    rw [List.getElem?_set_ne (by omega), List.getElem?_replicate] at hi
    split at hi <;> simp at hi
  have l8 : ∀ r ∈ List.replicate c.l.length noR, r.length = 128 := fun r hr => by rw [(List.mem_replicate.1 hr).2]; exact noR_len
  rw [e2]
  refine ⟨by simp, by simp, l8, fun i hi => ?_, fun i r _ hr => ?_, fun i hi => ?_, fun i n r hi _ _ _ => ?_, ⟨e1, ?_⟩, fun i _ _ _ hi hn _ => ?_, ?_⟩
  · rw [List.mem_singleton] at hi
    subst hi; exact e1
  · exact (List.mem_replicate.1 (List.mem_of_getElem? hr)).2
  · rw [one i hi]; exact .start
  · rw [one i hi]; exact .start
  · rw [List.getElem?_replicate, if_pos (by omega)]
  · exact absurd (List.mem_singleton.2 (one i hi)) hn
  · have := potF_le ((List.replicate c.l.length false).set 0 true) (List.replicate c.l.length noR) l8
    rw [List.length_replicate] at this
    simp only [List.length_cons, List.length_nil]
    omega
/-- at an instruction of the pile: the first j of those where it goes on are gone on to -/
structure FolJ (c : Cd) (o : List Bool) (rows : List (List Bool)) (op : List Nat) (i : Nat) (x : Ji) (r : List Bool) (j : Nat) : Prop where
  base : FolI c o rows op (fun k => k = i)
  hx : c.l[i]? = some x
  wi : Way c.l (-1) i
  l8 : r.length = 128
  no : ∀ n : Nat, n < 128 → bitR r n = false → Way c.l n i
  same : i ∈ op ∨ rows[i]? = some r
  done : ∀ j2, j2 < j → ∀ k : Nat, (nextJ x i)[j2]? = some (k : Int) → EdgeF o rows (behR x r) k
theorem FolI.pop {c : Cd} {o : List Bool} {rows : List (List Bool)} {op : List Nat} {i : Nat} {x : Ji} {r : List Bool} (h : FolI c o rows (op ++ [i]) (fun _ => False)) (hx : c.l[i]? = some x) (hr : rows[i]? = some r) : FolJ c o rows op i x r 0 := by
  have hi : o[i]? = some true := h.on i (List.mem_append_right _ (List.mem_singleton.2 rfl))
  refine ⟨⟨h.lo, h.la, h.l8, fun k hk => h.on k (List.mem_append_left _ hk), h.zero, h.way, h.no, h.fst, fun k y s m h1 h2 h3 => ?_, ?_⟩, hx, h.way i hi, h.l8 r (List.mem_of_getElem? hr), fun n hn hb => h.no i n r hi hr hn hb, .inr hr, fun j2 h2 => absurd h2 (by omega)⟩
  · refine h.cls k y s m h1 (fun hk => ?_) (fun h => h)
    rcases List.mem_append.1 hk with hk | hk
    · exact h2 hk
    · exact h3 (List.mem_singleton.1 hk)
  · have := h.pot
    rw [List.length_append, List.length_singleton] at this
    omega
theorem FolJ.close {c : Cd} {o : List Bool} {rows : List (List Bool)} {op : List Nat} {i j : Nat} {x : Ji} {r : List Bool} (h : FolJ c o rows op i x r j) (hj : j = (nextJ x i).length) : FolI c o rows op (fun _ => False) := by
  refine ⟨h.base.lo, h.base.la, h.base.l8, h.base.on, h.base.zero, h.base.way, h.base.no, h.base.fst, fun k y s m h1 h2 _ h4 h5 h6 => ?_, h.base.pot⟩
  by_cases e : k = i
  · subst e
    rcases h.same with hs | hs
    · exact absurd hs h2
    · rw [hs] at h5
      injection h5 with h5
      subst h5
      rw [h.hx] at h4
      injection h4 with h4
      subst h4
      obtain ⟨j2, e2⟩ := List.mem_iff_getElem?.1 h6
      have hj2 := (List.getElem?_eq_some_iff.1 e2).1
      exact h.done j2 (by omega) m e2
  · exact h.base.cls k y s m h1 h2 e h4 h5 h6
/-- it goes on to one that is marked, and nothing is less set there -/
theorem FolJ.stay {c : Cd} {o : List Bool} {rows : List (List Bool)} {op : List Nat} {i j k : Nat} {x : Ji} {r s : List Bool} (h : FolJ c o rows op i x r j) (hk : (nextJ x i)[j]? = some (k : Int)) (ho : o[k]? = some true) (hs : rows[k]? = some s) (he : andR (behR x r) s = s) : FolJ c o rows op i x r (j + 1) := by
  refine ⟨h.base, h.hx, h.wi, h.l8, h.no, h.same, fun j2 h2 k2 h3 => ?_⟩
  by_cases e : j2 = j
  · subst e
    rw [hk] at h3
    injection h3 with h3
    have : k = k2 := by omega
    subst this
    refine ⟨ho, fun t ht n hn => ?_⟩
    rw [hs] at ht
    injection ht with ht
    subst ht
    have hl : (behR x r).length = s.length := by rw [behR_len, h.l8, h.base.l8 s (List.mem_of_getElem? hs)]
    have := bit_andR hl n
    rw [he, hn] at this
    cases hb : bitR (behR x r) n with
    | true => rfl
    | false => rw [hb] at this; cases this
  · exact h.done j2 (by omega) k2 h3
/-- it goes on to one that was not marked, or where something is less set now: this is piled -/
theorem FolJ.push {c : Cd} (hm : c.may = true) {o : List Bool} {rows : List (List Bool)} {op : List Nat} {i j k : Nat} {x : Ji} {r s t : List Bool} {b : Bool} (h : FolJ c o rows op i x r j) (hk : (nextJ x i)[j]? = some (k : Int)) (ho : o[k]? = some b) (hs : rows[k]? = some s) (ht : t = if b = true then andR (behR x r) s else behR x r) (hne : b = true → t ≠ s) : FolJ c (o.set k true) (rows.set k t) (op ++ [k]) i x r (j + 1) ∧ potF (o.set k true) (rows.set k t) < potF o rows := by
  have hsl : s.length = 128 := h.base.l8 s (List.mem_of_getElem? hs)
  have hbl : (behR x r).length = s.length := by rw [behR_len, h.l8, hsl]
  have htl : t.length = 128 := by
    rw [ht]
    split
    · rw [andR_len hbl, hsl]
    · rw [behR_len, h.l8]
  have hko : k < o.length := (List.getElem?_eq_some_iff.1 ho).1
  have hkr : k < rows.length := (List.getElem?_eq_some_iff.1 hs).1
  have hle : ∀ n, bitR t n = true → bitR (behR x r) n = true := by
    intro n hn
    rw [ht] at hn
    split at hn
    · rw [bit_andR hbl, Bool.and_eq_true] at hn
      exact hn.1
    · exact hn
  have hls : b = true → ∀ n, bitR t n = true → bitR s n = true := by
    intro hb n hn
    rw [ht, if_pos hb, bit_andR hbl, Bool.and_eq_true] at hn
    exact hn.2
  have hxm := (Cd.may_parts hm).2.1 x (List.mem_of_getElem? h.hx)
  have hw0 : setsJ x = true → 0 ≤ writesJ x := fun hs => (sets_in hxm hs).1
  have hkn : (k : Int) ∈ nextJ x i := List.mem_of_getElem? hk
  have hwk : Way c.l (-1) k := h.wi.on hm h.hx hkn
  have hno : ∀ n : Nat, n < 128 → bitR t n = false → Way c.l n k := by
    intro n hn hb
    have go : bitR (behR x r) n = false → Way c.l n k := by
      intro h1
      obtain ⟨h2, h3⟩ := bit_behR h1 (by rw [h.l8]; exact hn) hw0
      exact .step (h.no n hn h2) h.hx h3 hkn
    cases b with
    | false => rw [ht, if_neg (by decide)] at hb; exact go hb
    | true =>
      rw [ht, if_pos rfl, bit_andR hbl] at hb
      cases h1 : bitR (behR x r) n with
      | false => exact go h1
      | true =>
        rw [h1, Bool.true_and] at hb
        exact h.base.no k n s ho hs hn hb
  have hpot : potF (o.set k true) (rows.set k t) < potF o rows := by
    refine potF_set o rows k b s t ho hs ?_
    cases b with
    | false =>
      have : t.countP id ≤ t.length := List.countP_le_length
      rw [if_neg (by decide)]; omega
    | true =>
      rw [if_pos rfl]
      have h1 := hne rfl
      rw [if_pos rfl] at ht
      obtain ⟨h2, h3⟩ := cnt_and (behR x r) s hbl
      rw [← ht] at h2 h3
      rcases Nat.lt_or_ge (t.countP id) (s.countP id) with h4 | h4
      · exact h4
      · exact absurd (h3 (by omega)) h1
  have hedge : ∀ (q : List Bool) (m : Nat), EdgeF o rows q m → (m = k → ∀ n, bitR t n = true → bitR q n = true) → EdgeF (o.set k true) (rows.set k t) q m := by
    intro q m he hq
    refine ⟨set_true he.1, fun u hu n hn => ?_⟩
    by_cases e : k = m
    · subst e
      rw [List.getElem?_set_self hkr] at hu
      injection hu with hu
      subst hu
      exact hq rfl n hn
    · rw [List.getElem?_set_ne e] at hu
      exact he.2 u hu n hn
  have hed : ∀ (q : List Bool) (m : Nat), EdgeF o rows q m → EdgeF (o.set k true) (rows.set k t) q m := by
    intro q m he
    refine hedge q m he fun e n hn => ?_
    subst e
    have hb : b = true := by
      have := he.1
      rw [ho] at this
      injection this
    exact he.2 s hs n (hls hb n hn)
  refine ⟨⟨⟨by rw [List.length_set]; exact h.base.lo, by rw [List.length_set]; exact h.base.la, fun u hu => ?_, fun m hm2 => ?_, fun m u h1 h2 => ?_, fun m h1 => ?_, fun m n u h1 h2 h3 h4 => ?_, ⟨set_true h.base.fst.1, ?_⟩, fun m y u p h1 h2 h3 h4 h5 h6 => ?_, ?_⟩, h.hx, h.wi, h.l8, h.no, ?_, fun j2 h2 k2 h3 => ?_⟩, hpot⟩
  · rcases List.mem_or_eq_of_mem_set hu with hu | hu
    · exact h.base.l8 u hu
    · rw [hu]; exact htl
  · rcases List.mem_append.1 hm2 with h1 | h1
    · exact set_true (h.base.on m h1)
    · rw [List.mem_singleton] at h1
      subst h1
      exact List.getElem?_set_self hko
  · by_cases e : k = m
    · subst e
      rw [List.getElem?_set_self hko] at h1
      cases h1
    · rw [List.getElem?_set_ne e] at h1 h2
      exact h.base.zero m u h1 h2
  · by_cases e : k = m
    · subst e; exact hwk
    · rw [List.getElem?_set_ne e] at h1
      exact h.base.way m h1
  · by_cases e : k = m
    · subst e
      rw [List.getElem?_set_self hkr] at h2
      injection h2 with h2
      subst h2
      exact hno n h3 h4
    · rw [List.getElem?_set_ne e] at h1 h2
      exact h.base.no m n u h1 h2 h3 h4
  · by_cases e : k = 0
    · subst e
      rw [List.getElem?_set_self hkr]
      congr 1
      refine bit_ext (by rw [htl, noR_len]) fun n => ?_
      have h1 := h.base.fst
      rw [ho] at h1
      have hb : b = true := by have := h1.1; injection this
      rw [bit_noR]
      cases h2 : bitR t n with
      | false => rfl
      | true =>
        have := hls hb n h2
        have h3 := h1.2
        rw [hs] at h3
        injection h3 with h3
        rw [h3, bit_noR] at this
        cases this
    · rw [List.getElem?_set_ne e]; exact h.base.fst.2
  · have hmk : m ≠ k := fun e => h2 (List.mem_append_right _ (List.mem_singleton.2 e))
    rw [List.getElem?_set_ne (Ne.symm hmk)] at h1 h5
    exact hed _ _ (h.base.cls m y u p h1 (fun h => h2 (List.mem_append_left _ h)) h3 h4 h5 h6)
  · have := h.base.pot
    rw [List.length_append, List.length_singleton]
    omega
  · by_cases e : k = i
    · left
      exact List.mem_append_right _ (List.mem_singleton.2 e.symm)
    · rcases h.same with hs2 | hs2
      · exact .inl (List.mem_append_left _ hs2)
      · right
        rw [List.getElem?_set_ne e]; exact hs2
  · by_cases e : j2 = j
    · subst e
      rw [hk] at h3
      injection h3 with h3
      have : k = k2 := by omega
      subst this
      refine ⟨List.getElem?_set_self hko, fun u hu n hn => ?_⟩
      rw [List.getElem?_set_self hkr] at hu
      injection hu with hu
      subst hu
      exact hle n hn
    · exact hed _ _ (h.done j2 (by omega) k2 h3)
/-- with nothing left on the pile: marked is what is reached, and of that is set what is surely set -/
structure FolD (c : Cd) (o : List Bool) (rows : List (List Bool)) : Prop where
  o_ : o = reachB c (-1)
  la : rows.length = c.l.length
  l8 : ∀ r ∈ rows, r.length = 128
  bit : ∀ (i n : Nat) (r : List Bool), rows[i]? = some r → (bitR r n = true ↔ (n : Int) ∈ setN c i)
open Classical in
theorem FolI.done {c : Cd} (hm : c.may = true) {o : List Bool} {rows : List (List Bool)} (h : FolI c o rows [] (fun _ => False)) : FolD c o rows := by
  have hR := (Cd.may_parts hm).1
  have hall : ∀ i, Way c.l (-1) i → o[i]? = some true := by
    intro i hw
    induction hw with
    | start => exact h.fst.1
    | step hw hl hn hk ih =>
      rename_i i k x
      have hi := (List.getElem?_eq_some_iff.1 hl).1
      have hr := List.getElem?_eq_getElem (l := rows) (i := i) (by rw [h.la]; exact hi)
      exact (h.cls i x _ k ih (by simp) (fun h => h) hl hr hk).1
  have hset : ∀ (n i : Nat), Way c.l (n : Int) i → ∀ r, rows[i]? = some r → bitR r n = false := by
    intro n i hw
    induction hw with
    | start =>
      intro r hr
      rw [h.fst.2] at hr
      injection hr with hr
      rw [← hr, bit_noR]
    | step hw hl hn hk ih =>
      rename_i i k x
      intro r hr
      have hi := (List.getElem?_eq_some_iff.1 hl).1
      have hri := List.getElem?_eq_getElem (l := rows) (i := i) (by rw [h.la]; exact hi)
      have hoi := hall i (hw.all_ hm)
      have hxm := (Cd.may_parts hm).2.1 x (List.mem_of_getElem? hl)
      have h1 := bit_beh_no (ih _ hri) hn (fun hs => (sets_in hxm hs).1)
      have he := (h.cls i x _ k hoi (by simp) (fun h => h) hl hri hk).2 r hr n
      cases h2 : bitR r n with
      | false => rfl
      | true => rw [he h2] at h1; cases h1
  have ho : ∀ i, i < c.l.length → o[i]? = some (decide (o[i]? = some true)) := by
    intro i hi
    have := List.getElem?_eq_getElem (l := o) (i := i) (by rw [h.lo]; exact hi)
    rw [this]
    generalize o[i]'(by rw [h.lo]; exact hi) = b
    cases b <;> simp
  refine ⟨?_, h.la, h.l8, fun i n r hr => ?_⟩
  · apply List.ext_getElem?
    intro i
    by_cases hi : i < c.l.length
    · rw [reachB_at hi, ho i hi]
      congr 1
      by_cases hw : Way c.l (-1) i
      · rw [decide_eq_true hw, decide_eq_true (hall i hw)]
      · rw [decide_eq_false hw, decide_eq_false fun h2 => hw (h.way i h2)]
    · rw [List.getElem?_eq_none (by rw [h.lo]; omega), List.getElem?_eq_none (by rw [reachB_len]; omega)]
  · have hi : i < c.l.length := by have := (List.getElem?_eq_some_iff.1 hr).1; rwa [h.la] at this
    have hr8 := h.l8 r (List.mem_of_getElem? hr)
    rw [mem_setN]
    constructor
    · intro hb
      have hn := bit_lt hb
      have hoi : o[i]? = some true := by
        cases h1 : o[i]? with
        | none =>
          have := List.getElem?_eq_none_iff.1 h1
          rw [h.lo] at this; omega
        | some v =>
          cases v with
          | true => rfl
          | false =>
            rw [h.zero i r h1 hr, bit_noR] at hb
            cases hb
      have hwi := h.way i hoi
      have hnw : ¬ Way c.l (n : Int) i := fun hw => by
        rw [hset n i hw r hr] at hb
        cases hb
      refine ⟨by omega, ?_, hwi, hnw⟩
      apply Classical.byContradiction
      intro hnR
      apply hnw
      have : ∀ x ∈ c.l, ¬(setsJ x = true ∧ writesJ x = (n : Int)) := by
        intro x hx ⟨h1, h2⟩
        have := sets_in ((Cd.may_parts hm).2.1 x hx) h1
        omega
      clear hnw hb hr hoi
      induction hwi with
      | start => exact .start
      | step hw hl _ hk ih => exact .step (ih (List.getElem?_eq_some_iff.1 hl).1) hl (this _ (List.mem_of_getElem? hl)) hk
    · rintro ⟨_, hnR, hw, hnw⟩
      cases h2 : bitR r n with
      | true => rfl
      | false => exact absurd (h.no i n r (hall i hw) hr (by omega) h2) hnw
/-- the numbers of those that are set, of the first k -/
def numsR (r : List Bool) (k : Nat) : List Int := ((List.range k).filter (bitR r)).map fun n : Nat => (n : Int)
theorem numsR_zero (r : List Bool) : numsR r 0 = [] := rfl
theorem numsR_yes {r : List Bool} {k : Nat} (h : bitR r k = true) : numsR r (k + 1) = numsR r k ++ [(k : Int)] := by
  unfold numsR
  rw [List.range_succ, List.filter_append, List.map_append, List.filter_cons_of_pos h]
  rfl
theorem numsR_no {r : List Bool} {k : Nat} (h : bitR r k = false) : numsR r (k + 1) = numsR r k := by
  unfold numsR
  rw [List.range_succ, List.filter_append, List.map_append, List.filter_cons_of_neg (by rw [h]; decide)]
  simp
theorem numsR_len (r : List Bool) (k : Nat) : (numsR r k).length ≤ k := by
  unfold numsR
  rw [List.length_map]
  refine Nat.le_trans (List.length_filter_le _ _) ?_
  simp
open Classical in
theorem FolD.nums {c : Cd} (hm : c.may = true) {o : List Bool} {rows : List (List Bool)} (h : FolD c o rows) {i : Nat} {r : List Bool} (hr : rows[i]? = some r) : numsR r 128 = setN c i := by
  obtain ⟨⟨_, _, _, _, _, _, _, _⟩, _⟩ := Cd.may_parts hm
  have hR : c.R.toNat ≤ 128 := by omega
  have key : ∀ m, c.R.toNat + m ≤ 128 → numsR r (c.R.toNat + m) = setN c i := by
    intro m
    induction m with
    | zero =>
      intro _
      rw [Nat.add_zero]
      unfold numsR setN
      congr 1
      apply List.filter_congr
      intro n hn
      rw [List.mem_range] at hn
      have h1 := h.bit i n r hr
      rw [mem_setN] at h1
      by_cases hb : bitR r n = true
      · rw [hb]
        have := h1.1 hb
        exact (decide_eq_true ⟨this.2.2.1, this.2.2.2⟩).symm
      · have h2 : ¬(Way c.l (-1) i ∧ ¬ Way c.l (n : Int) i) := fun h3 => hb (h1.2 ⟨by omega, by omega, h3.1, h3.2⟩)
        rw [decide_eq_false h2]
        simpa using hb
    | succ m ih =>
      intro hm2
      rw [show c.R.toNat + (m + 1) = (c.R.toNat + m) + 1 from rfl, numsR_no, ih (by omega)]
      cases hb : bitR r (c.R.toNat + m) with
      | false => rfl
      | true =>
        have := (mem_setN.1 ((h.bit i _ r hr).1 hb)).2.1
        omega
  have := key (128 - c.R.toNat) (by omega)
  rwa [show c.R.toNat + (128 - c.R.toNat) = 128 by omega] at this
end Go.Proofs.YtmnadieblhdcpaaDoor
/- Arrays of marks, whole: as they lie in memory, alone and as rows of a greater block. -/
namespace Go.Proofs.YtmnadieblhdcpaaDoor
open Go.RowKit

/-- marks as an array's cells -/
def arA (r : List Bool) : Array Value := (r.map Value.bool).toArray
theorem arA_size (r : List Bool) : (arA r).size = r.length := by unfold arA; simp
theorem arA_list (r : List Bool) : (arA r).toList = r.map Value.bool := by unfold arA; simp
theorem arA_one (r : List Bool) : (arA r).all (·.oneCell') = true := by
  unfold arA
  exact all_oneCell_toArray fun v hv => by obtain ⟨b, _, rfl⟩ := List.mem_map.1 hv; rfl
theorem arA_at {r : List Bool} {n : Nat} {v : Bool} (h : r[n]? = some v) : (arA r)[n]? = some (.bool v) := by unfold arA; simp [h]
theorem arA_set (r : List Bool) (n : Nat) (v : Bool) : (arA r).setIfInBounds n (.bool v) = arA (r.set n v) := by
  unfold arA
  rw [List.map_set]
  simp
theorem arA_inj {r s : List Bool} (h : arA r = arA s) : r = s := by
  unfold arA at h
  have h2 : r.map Value.bool = s.map Value.bool := by simpa using h
  exact (List.map_inj_right fun a b e => by injection e).1 h2
theorem info8 : (Tryd.prog.info? 60).map (·.size) = some 128 := by kernel_rfl
theorem under8 : Tryd.prog.underlying 60 = some (.array 128 4) := by kernel_rfl
/-- an array in a block of its own -/
def ArB (w : World) (g : Nat) (r : List Bool) : Prop := w.heap[g]? = some (.cells (arA r) 60 (0, 0))
theorem ArB.at_ {w : World} {g i : Nat} {r : List Bool} {v : Bool} (h : ArB w g r) (hv : r[i]? = some v) : w.cell? ⟨g, i, none⟩ = some (.bool v) ∧ w.frozen? ⟨g, i, none⟩ = false := by
  unfold ArB at h
  exact ⟨by rw [cell_of_row w g i _ _ (0, 0) h]; exact arA_at hv, frozen_of_row w g i _ _ h⟩
theorem ArB.set {w : World} {g : Nat} {r : List Bool} (h : ArB w g r) (i : Nat) (v : Bool) : ArB (w.setCell ⟨g, i, none⟩ (.bool v)) g (r.set i v) := by
  unfold ArB at *
  rw [heap_setCell_same w g i _ _ _ h, arA_set]
theorem ArB.new (w : World) (r : List Bool) : ArB (w.alloc (.cells (arA r) 60)) w.heap.size r := heap_alloc_new w _
theorem ArB.range {w : World} {g : Nat} {r : List Bool} (h : ArB w g r) : w.rangeAt g 0 (r.map Value.bool) := fun j v hv => by
  rw [Nat.zero_add, cell_of_row w g j _ _ (0, 0) h]
  unfold arA
  simpa using hv
/-- rows of arrays in one block -/
def RwB (w : World) (g : Nat) (rows : List (List Bool)) : Prop := w.heap[g]? = some (.cells (arA rows.flatten) 60 (0, 0))
theorem flat_at : ∀ (rows : List (List Bool)) (k j : Nat) (r : List Bool), (∀ s ∈ rows, s.length = 128) → rows[k]? = some r → j < 128 → rows.flatten[k * 128 + j]? = r[j]?
  | [], _, _, _, _, h, _ => by simp at h
  | s :: rows, 0, j, r, hl, h, hj => by
    simp only [List.getElem?_cons_zero, Option.some.injEq] at h
    subst h
    have := hl s (List.mem_cons_self ..)
    rw [List.flatten_cons, Nat.zero_mul, Nat.zero_add, List.getElem?_append_left (by omega)]
  | s :: rows, k + 1, j, r, hl, h, hj => by
    have := hl s (List.mem_cons_self ..)
    rw [List.flatten_cons, List.getElem?_append_right (by omega), show (k + 1) * 128 + j - s.length = k * 128 + j by omega]
    exact flat_at rows k j r (fun t ht => hl t (List.mem_cons_of_mem _ ht)) (by simpa using h) hj
theorem flat_len : ∀ (rows : List (List Bool)), (∀ s ∈ rows, s.length = 128) → rows.flatten.length = rows.length * 128
  | [], _ => rfl
  | s :: rows, hl => by
    rw [List.flatten_cons, List.length_append, List.length_cons, flat_len rows (fun t ht => hl t (List.mem_cons_of_mem _ ht)), hl s (List.mem_cons_self ..)]
    omega
theorem RwB.cell {w : World} {g k j : Nat} {rows : List (List Bool)} {r : List Bool} {v : Bool} (h : RwB w g rows) (hl : ∀ s ∈ rows, s.length = 128) (hr : rows[k]? = some r) (hv : r[j]? = some v) : w.cell? ⟨g, k * 128 + j, none⟩ = some (.bool v) := by
  have hj : j < 128 := by
    have h1 := (List.getElem?_eq_some_iff.1 hv).1
    rw [hl r (List.mem_of_getElem? hr)] at h1; exact h1
  rw [cell_of_row w g _ _ _ (0, 0) h]
  exact arA_at (by rw [flat_at rows k j r hl hr hj, hv])
theorem RwB.range {w : World} {g k : Nat} {rows : List (List Bool)} {r : List Bool} (h : RwB w g rows) (hl : ∀ s ∈ rows, s.length = 128) (hr : rows[k]? = some r) : w.rangeAt g (k * 128) (r.map Value.bool) := fun j v hv => by
  rw [List.getElem?_map] at hv
  cases hb : r[j]? with
  | none => rw [hb] at hv; cases hv
  | some b =>
    rw [hb] at hv
    injection hv with hv
    subst hv
    exact h.cell hl hr hb
theorem RwB.there {w : World} {g k : Nat} {rows : List (List Bool)} (h : RwB w g rows) (hl : ∀ s ∈ rows, s.length = 128) (hk : k < rows.length) : w.there g (k * 128) 128 := fun j hj => by
  have hr := List.getElem?_eq_getElem hk
  have hj2 : j < (rows[k]).length := by rw [hl _ (List.getElem_mem hk)]; exact hj
  exact ⟨by rw [h.cell hl hr (List.getElem?_eq_getElem hj2)]; rfl, frozen_of_row w g _ _ _ h⟩
theorem flat_splice : ∀ (rows : List (List Bool)) (k : Nat) (t : List Bool), (∀ s ∈ rows, s.length = 128) → t.length = 128 → k < rows.length → (rows.set k t).flatten = rows.flatten.take (k * 128) ++ t ++ rows.flatten.drop (k * 128 + 128)
  | [], _, _, _, _, h => by simp at h
  | s :: rows, 0, t, hl, ht, _ => by
    have h := hl s (List.mem_cons_self ..)
    rw [List.set_cons_zero, List.flatten_cons, List.flatten_cons, Nat.zero_mul, List.take_zero, List.nil_append, Nat.zero_add]
    congr 1
    rw [← h, List.drop_left]
  | s :: rows, k + 1, t, hl, ht, hk => by
    have h := hl s (List.mem_cons_self ..)
    rw [List.set_cons_succ, List.flatten_cons, List.flatten_cons, flat_splice rows k t (fun u hu => hl u (List.mem_cons_of_mem _ hu)) ht (by simpa using hk)]
    rw [show (k + 1) * 128 = s.length + k * 128 by omega, List.take_length_add_append, show s.length + k * 128 + 128 = s.length + (k * 128 + 128) by omega, List.drop_length_add_append]
    simp
/-- the world with a row stored -/
def rowPut (w : World) (g : Nat) (rows : List (List Bool)) : World := w.setRow g (arA rows.flatten)
theorem RwB.store {w : World} {g k : Nat} {rows : List (List Bool)} {t : List Bool} (h : RwB w g rows) (hl : ∀ s ∈ rows, s.length = 128) (ht : t.length = 128) (hk : k < rows.length) :
    (storeCells ⟨g, k * 128, none⟩ (arA t).toList 0).run Tryd.prog w = .ok () (rowPut w g (rows.set k t)) := by
  have hf := flat_len rows hl
  have h1 := run_storeCells_at Tryd.prog g (k * 128) 60 (arA t).toList 0 (arA rows.flatten) w h (by
    rw [arA_list, List.length_map, arA_size, hf]
    have : k * 128 + 128 ≤ rows.length * 128 := by omega
    omega) (fun v hv => by
      rw [arA_list] at hv
      obtain ⟨b, _, rfl⟩ := List.mem_map.1 hv; rfl)
  rw [h1]
  unfold rowPut
  congr 2
  rw [arA_list, arA_list, flat_splice rows k t hl ht hk]
  unfold arA
  rw [List.map_append, List.map_append, List.map_take, List.map_drop, List.length_map, ht, Nat.add_zero]
theorem rowPut_rows {w : World} {g : Nat} {rows : List (List Bool)} (h : RwB w g rows) (rows2 : List (List Bool)) : RwB (rowPut w g rows2) g rows2 := setRow_heap w g _ _ _ _ h
theorem rowPut_other (w : World) {g k : Nat} (rows2 : List (List Bool)) (h : k ≠ g) : (rowPut w g rows2).heap[k]? = w.heap[k]? := setRow_other w g k _ h
end Go.Proofs.YtmnadieblhdcpaaDoor
/- The program's registers: which are set in this and in another; which are set behind an instruction; their numbers. -/
namespace Go.Proofs.YtmnadieblhdcpaaDoor
open Go.RowKit

theorem zero8 : Tryd.zeroCells60 = arA noR := by kernel_rfl
theorem load8 (w : World) (g : Nat) (r : List Bool) (h : ArB w g r) (hr : r.length = 128) : (loadCellsFrom ⟨g, 0, none⟩ 0 128 #[]).run Tryd.prog w = .ok (arA r) w := by
  have := run_loadCells_list (P := Tryd.prog) w ⟨g, 0, none⟩ (r.map Value.bool) (fun j v hv => by
    rw [Addr.add_mid]; exact h.range j v hv)
  rw [List.length_map, hr] at this
  exact this
def andK (r s : List Bool) (k : Nat) : List Bool := (andR r s).take k ++ r.drop k
theorem andK_zero (r s : List Bool) : andK r s 0 = r := by unfold andK; simp
theorem andK_all {r s : List Bool} (h : r.length = s.length) : andK r s r.length = andR r s := by
  unfold andK
  rw [List.drop_length, List.append_nil, List.take_of_length_le (by rw [andR_len h, h]; exact Nat.le_refl _)]
theorem andK_at {r s : List Bool} {k : Nat} (h : r.length = s.length) (hk : k < r.length) : (andK r s k)[k]? = r[k]? := by
  unfold andK
  have : ((andR r s).take k).length = k := by rw [List.length_take, andR_len h]; omega
  rw [List.getElem?_append_right (by omega), this, Nat.sub_self, List.getElem?_drop, Nat.add_zero]
theorem andK_len {r s : List Bool} (h : r.length = s.length) (k : Nat) (hk : k ≤ r.length) : (andK r s k).length = r.length := by
  unfold andK
  rw [List.length_append, List.length_take, andR_len h, List.length_drop]
  omega
theorem andK_set {r s : List Bool} {k : Nat} {a b : Bool} (h : r.length = s.length) (ha : r[k]? = some a) (hb : s[k]? = some b) : (andK r s k).set k (a && b) = andK r s (k + 1) := by
  have hk : k < r.length := (List.getElem?_eq_some_iff.1 ha).1
  have hv : (andR r s)[k]? = some (a && b) := by unfold andR; rw [List.getElem?_zipWith, ha, hb]
  apply List.ext_getElem?
  intro i
  have hl1 : ((andR r s).take k).length = k := by rw [List.length_take, andR_len h]; omega
  have hl2 : ((andR r s).take (k + 1)).length = k + 1 := by rw [List.length_take, andR_len h]; omega
  by_cases e : k = i
  · subst e
    rw [List.getElem?_set_self (by rw [andK_len h k (by omega)]; exact hk)]
    unfold andK
    rw [List.getElem?_append_left (by omega), List.getElem?_take_of_lt (by omega), hv]
  · rw [List.getElem?_set_ne e]
    unfold andK
    by_cases hi : i < k
    · rw [List.getElem?_append_left (by omega), List.getElem?_append_left (by omega), List.getElem?_take_of_lt hi, List.getElem?_take_of_lt (by omega)]
    · rw [List.getElem?_append_right (by omega), List.getElem?_append_right (by omega), hl1, hl2, List.getElem?_drop, List.getElem?_drop]
      congr 1
      omega
/-- in the loop of both -/
structure BothI (w : World) (g : Nat) (r : List Bool) (W : World) : Prop where
  bel : Below w.heap.size w W
  lo : w.heap.size ≤ g
  a : ArB W g r
  o : ArB W (g + 1 + 1) noR
theorem BothI.put {w W : World} {g : Nat} {r : List Bool} (h : BothI w g r W) (k : Nat) (v : Bool) : BothI w g (r.set k v) (W.setCell ⟨g, k, none⟩ (.bool v)) :=
  ⟨h.bel.setCell (p := ⟨g, k, none⟩) h.lo _, h.lo, h.a.set k v, (Below.heap_setCell _ ⟨g, k, none⟩ _ _ (by show g + 1 + 1 ≠ g; omega)).trans h.o⟩
theorem index8 {s : List Bool} {k : Nat} {v : Bool} (hv : s[k]? = some v) (hs : s.length = 128) (w : World) : Sem.run Tryd.prog (Instr.index 60 (.agg (arA s)) (.int .i64 (k : Int))) w = .ok (.bool v) w := by
  have hk : k < 128 := by have := (List.getElem?_eq_some_iff.1 hv).1; omega
  have h2 := arA_at hv
  have h3 := arA_size s
  have hk2 : k < (arA s).size := by omega
  have h4 : (arA s)[k]'hk2 = .bool v := by
    rw [Array.getElem?_eq_getElem hk2] at h2
    injection h2
  simp [Instr.index, go_sem, hk, h2]
theorem below_setRow {w W : World} {B g : Nat} (h : Below B w W) (hg : B ≤ g) (cs2 : Array Value) : Below B w (W.setRow g cs2) :=
  ⟨h.os, h.tape, h.output, by rw [setRow_size]; exact h.size, fun k hk => (setRow_other W g k cs2 (by omega)).trans (h.block k hk)⟩
set_option maxRecDepth 100000 in
set_option maxHeartbeats 4000000 in
theorem bothR_any (r s : List Bool) (w : World) (hr : r.length = 128) (hs : s.length = 128) : Calls Tryd.prog 61 #[.agg (arA r), .agg (arA s)] w fun e w' => e = .returned (.agg (arA (andR r s))) ∧ Below w.heap.size w w' := by
  have hz := zero8
  obtain ⟨W0, hW0⟩ : ∃ W, ((w.alloc (.cells (arA r) 60)).alloc (.cells (arA s) 60)).alloc (.cells (arA noR) 60) = W := ⟨_, rfl⟩
  obtain ⟨g0, hg0⟩ : ∃ z, w.heap.size = z := ⟨_, rfl⟩
  have hb1 := lvBelow w (.cells (arA r) 60)
  have hb2 := lvBelow (w.alloc (.cells (arA r) 60)) (.cells (arA s) 60)
  have hb3 := lvBelow ((w.alloc (.cells (arA r) 60)).alloc (.cells (arA s) 60)) (.cells (arA noR) 60)
  have h1 := ArB.new w r
  have h2 := ArB.new (w.alloc (.cells (arA r) 60)) s
  have h3 := ArB.new ((w.alloc (.cells (arA r) 60)).alloc (.cells (arA s) 60)) noR
  have h1 := keep_b hb3 (keep_b hb2 h1)
  have h2 := keep_b hb3 h2
  have hbel := hb1.trans ((hb2.trans (hb3.mono hb2.size)).mono hb1.size)
  rw [hW0] at h1 h2 h3 hbel
  simp only [World.size_alloc] at h2 h3
  rw [hg0] at h1 h2 h3
  have HI0 : Hid (BothI w g0 r W0) := ⟨hbel, by omega, h1, h3⟩
  have H2 := Lib.hid h2
  have HR := Lib.hid hr
  have HS := Lib.hid hs
  have HG0 := Lib.hid hg0
  clear hb1 hb2 hb3 h1 h2 h3 hbel hr hs
  go_enter Tryd.func61, Tryd.ntmps61
  go_upto_region 1 with fail
  try rw [hW0]
  try rw [hg0]
  clear hW0 hz hg0
  apply wp_region_lit
  refine wpList_load_row rfl 60 (.tmp 3) rfl (g0 + 1) rfl _ _ _ _ H2.out under8 rfl (by rw [arA_size, HS.out]; exact info8) ?_
  simp only [Act.put, List.setIfInBounds_toArray, List.set_cons_succ, List.set_cons_zero]
  clear H2
  go_wp2_with fail
  go_loopw [8] (fun a wr => ∃ k : Nat, k ≤ 128 ∧ a = .int .i64 k ∧ Hid (BothI w g0 (andK r s k) wr)) (fun a _ => 128 - (intOf a).toNat)
  case atStart => exact ⟨0, by omega, rfl, by rw [andK_zero]; exact HI0⟩
  case round =>
    obtain ⟨k, hk, rfl, HI⟩ := hrel
    by_cases hlt : k < 128
    case neg =>
      obtain rfl : k = 128 := by omega
      have HA := HI.out.a
      rw [show (128 : Nat) = r.length from HR.out.symm, andK_all (by rw [HR.out, HS.out])] at HA
      have hal : (andR r s).length = 128 := by rw [andR_len (by rw [HR.out, HS.out]), HS.out]
      have HL := Lib.hid hal
      have HA := Lib.hid HA
      clear hal
      go_upto_region 6 with fail
      apply wp_region_lit
      refine wpList_load_row rfl 60 (.tmp 2) rfl g0 rfl _ _ _ _ HA.out under8 rfl (by rw [arA_size, HL.out]; exact info8) ?_
      refine wpList_store_row rfl 60 (.tmp 4) (.tmp 21) rfl (g0 + 1 + 1) (arA (andR r s)) rfl rfl _ _ HI.out.o (by rw [arA_size, HL.out]; exact info8) (by rw [arA_size, arA_size, HL.out, noR_len]) (arA_one _) ?_
      simp only [Act.put, List.setIfInBounds_toArray, List.set_cons_succ, List.set_cons_zero]
      have hrow := setRow_heap wr (g0 + 1 + 1) _ (arA (andR r s)) _ _ HI.out.o
      have HB := Lib.hid (below_setRow HI.out.bel (by have := HI.out.lo; omega : w.heap.size ≤ g0 + 1 + 1) (arA (andR r s)))
      obtain ⟨wz, hwz⟩ : ∃ wz, wr.setRow (g0 + 1 + 1) (arA (andR r s)) = wz := ⟨_, rfl⟩
      rw [hwz] at hrow HB
      rw [hwz]
      have HRW := Lib.hid hrow
      clear hrow hwz
      go_wp2_with fail
      exact bodyPost_ret (results_cell_row Tryd.results61 _ _ _ _ _ _ _ rfl HRW.out under8 rfl (by rw [arA_size, HL.out]; exact info8)) rfl ⟨rfl, HB.out⟩
    have hkz : (k : Int) < 128 := by omega
    obtain ⟨a, ha⟩ : ∃ v, r[k]? = some v := ⟨_, List.getElem?_eq_getElem (by rw [HR.out]; exact hlt)⟩
    obtain ⟨b, hb⟩ : ∃ v, s[k]? = some v := ⟨_, List.getElem?_eq_getElem (by rw [HS.out]; exact hlt)⟩
    have HK := Lib.hid (HI.out.put k (a && b))
    rw [andK_set (by rw [HR.out, HS.out]) ha hb] at HK
    obtain ⟨c0, c1⟩ := HI.out.a.at_ (i := k) (v := a) (by rw [andK_at (by rw [HR.out, HS.out]) (by rw [HR.out]; exact hlt)]; exact ha)
    have hx := fun W => index8 hb HS.out W
    clear ha hb
    cases a with
    | false =>
      rw [Bool.false_and] at HK
      go_wp2_with fail
      go_roundw
      case rel => exact ⟨k + 1, by omega, by go_num, HK⟩
      case measure => simp [intOf]; omega
    | true =>
      rw [Bool.true_and] at HK
      go_wp2_with fail
      go_roundw
      case rel => exact ⟨k + 1, by omega, by go_num, HK⟩
      case measure => simp [intOf]; omega
end Go.Proofs.YtmnadieblhdcpaaDoor
/- The program's registers: which are set behind an instruction; their numbers. -/
namespace Go.Proofs.YtmnadieblhdcpaaDoor
open Go.RowKit

/-- a new array in the call's own result -/
theorem arrEnd {W : World} {g : Nat} {r : List Bool} (h : ArB W g r) : W.heap[g]? = some (.cells (arA r) 60 (0, 0)) := h
set_option maxRecDepth 100000 in
set_option maxHeartbeats 4000000 in
theorem behR_any (x : Ji) (r : List Bool) (w : World) (hx : x.ok) (hr : r.length = 128) (hw : setsJ x = true → 0 ≤ writesJ x ∧ writesJ x < 128) (hS : ShT w) : Calls Tryd.prog 62 #[.agg (arA r), x.val] w fun e w' => e = .returned (.agg (arA (behR x r))) ∧ Below w.heap.size w w' := by
  have hz := zero8
  obtain ⟨W0, hW0⟩ : ∃ W, ((w.alloc (.cells (arA r) 60)).alloc x.obj).alloc (.cells (arA noR) 60) = W := ⟨_, rfl⟩
  obtain ⟨g0, hg0⟩ : ∃ z, w.heap.size = z := ⟨_, rfl⟩
  have hb1 := lvBelow w (.cells (arA r) 60)
  have hb2 := lvBelow (w.alloc (.cells (arA r) 60)) x.obj
  have hb3 := lvBelow ((w.alloc (.cells (arA r) 60)).alloc x.obj) (.cells (arA noR) 60)
  have h1 := ArB.new w r
  have h2 := newJ (w.alloc (.cells (arA r) 60)) x
  have h3 := ArB.new ((w.alloc (.cells (arA r) 60)).alloc x.obj) noR
  have h1 := keep_b hb3 (keep_b hb2 h1)
  have h2 := keep_b hb3 h2
  have hbel := hb1.trans ((hb2.trans (hb3.mono hb2.size)).mono hb1.size)
  rw [hW0] at h1 h2 h3 hbel
  simp only [World.size_alloc] at h2 h3
  rw [hg0] at h1 h2 h3
  have HI0 : Hid (BothI w g0 r W0) := ⟨hbel, by omega, h1, h3⟩
  have H2 := Lib.hid h2
  have HR := Lib.hid hr
  have HX := Lib.hid hx
  have HW := Lib.hid hw
  have HS := Lib.hid hS
  clear hb1 hb2 hb3 h1 h2 h3 hbel hr hx hw hS
  have hC := codeWrites_any x W0 HX.out (HS.out.on HI0.out.bel)
  unfold WritesP at hC
  go_enter Tryd.func62, Tryd.ntmps62
  go_upto_region 1 with fail
  try rw [hW0]
  try rw [hg0]
  obtain ⟨⟨y0, y1, y2, y3, y4⟩, _⟩ := box_cellsJ H2.out
  go_wp2_with fail
  refine hC.mono ?_
  rintro e w1 ⟨rfl, hb⟩
  have HI1 : Hid (BothI w g0 r w1) := ⟨HI0.out.bel.trans (hb.mono HI0.out.bel.size), HI0.out.lo, keep_b hb HI0.out.a, keep_b hb HI0.out.o⟩
  clear hb hC y0 y1 y2 y3 y4 HI0 hz hW0
  obtain ⟨sv, hsv⟩ : ∃ b, setsJ x = b := ⟨_, rfl⟩
  obtain ⟨wv, hwv⟩ : ∃ b, writesJ x = b := ⟨_, rfl⟩
  rw [hsv, hwv]
  have HWV := HW.out
  rw [hsv, hwv] at HWV
  have HBH : Hid (behR x r = if sv = true then r.set wv.toNat true else r) := by unfold Hid behR; rw [hsv, hwv]
  clear hsv hwv hg0 h1 h2
  cases sv with
  | false =>
    have HBE : Hid (behR x r = r) := HBH.out
    clear HWV HBH
    have HL : Hid ((r).length = 128) := HR
    have HA := Lib.hid HI1.out.a
    go_upto_region 4 with fail
    apply wp_region_lit
    refine wpList_load_row rfl 60 (.tmp 2) rfl g0 rfl _ _ _ _ HA.out under8 rfl (by rw [arA_size, HL.out]; exact info8) ?_
    refine wpList_store_row rfl 60 (.tmp 4) (.tmp 15) rfl (g0 + 1 + 1) (arA (r)) rfl rfl _ _ HI1.out.o (by rw [arA_size, HL.out]; exact info8) (by rw [arA_size, arA_size, HL.out, noR_len]) (arA_one _) ?_
    simp only [Act.put, List.setIfInBounds_toArray, List.set_cons_succ, List.set_cons_zero]
    have hrow := setRow_heap w1 (g0 + 1 + 1) _ (arA (r)) _ _ HI1.out.o
    have HB := Lib.hid (below_setRow HI1.out.bel (by have := HI1.out.lo; omega : w.heap.size ≤ g0 + 1 + 1) (arA (r)))
    obtain ⟨wz, hwz⟩ : ∃ wz, World.setRow w1 (g0 + 1 + 1) (arA (r)) = wz := ⟨_, rfl⟩
    rw [hwz] at hrow HB
    rw [hwz]
    have HRW := Lib.hid hrow
    clear hrow hwz
    go_wp2_with fail
    exact bodyPost_ret (results_cell_row Tryd.results62 _ _ _ _ _ _ _ rfl HRW.out under8 rfl (by rw [arA_size, HL.out]; exact info8)) rfl ⟨by rw [HBE.out], HB.out⟩
  | true =>
    obtain ⟨q0, q1⟩ := HWV rfl
    obtain ⟨n, rfl⟩ : ∃ n : Nat, wv = (n : Int) := ⟨wv.toNat, by omega⟩
    have HBE : Hid (behR x r = r.set n true) := HBH.out
    clear HWV HBH q0
    have hn : n < 128 := by omega
    obtain ⟨b, hb⟩ : ∃ v, r[n]? = some v := ⟨_, List.getElem?_eq_getElem (by rw [HR.out]; exact hn)⟩
    obtain ⟨c0, c1⟩ := HI1.out.a.at_ hb
    have HI2 := Lib.hid (HI1.out.put n true)
    clear hb
    go_upto_region 4 with fail
    clear c0 c1
    obtain ⟨w2, hw2⟩ : ∃ W, w1.setCell ⟨g0, n, none⟩ (.bool true) = W := ⟨_, rfl⟩
    rw [hw2] at HI2
    try rw [hw2]
    clear hw2
    have HL : Hid ((r.set n true).length = 128) := Lib.hid (by rw [List.length_set]; exact HR.out)
    have HA := Lib.hid HI2.out.a
    apply wp_region_lit
    refine wpList_load_row rfl 60 (.tmp 2) rfl g0 rfl _ _ _ _ HA.out under8 rfl (by rw [arA_size, HL.out]; exact info8) ?_
    refine wpList_store_row rfl 60 (.tmp 4) (.tmp 15) rfl (g0 + 1 + 1) (arA (r.set n true)) rfl rfl _ _ HI2.out.o (by rw [arA_size, HL.out]; exact info8) (by rw [arA_size, arA_size, HL.out, noR_len]) (arA_one _) ?_
    simp only [Act.put, List.setIfInBounds_toArray, List.set_cons_succ, List.set_cons_zero]
    have hrow := setRow_heap w2 (g0 + 1 + 1) _ (arA (r.set n true)) _ _ HI2.out.o
    have HB := Lib.hid (below_setRow HI2.out.bel (by have := HI2.out.lo; omega : w.heap.size ≤ g0 + 1 + 1) (arA (r.set n true)))
    obtain ⟨wz, hwz⟩ : ∃ wz, World.setRow w2 (g0 + 1 + 1) (arA (r.set n true)) = wz := ⟨_, rfl⟩
    rw [hwz] at hrow HB
    rw [hwz]
    have HRW := Lib.hid hrow
    clear hrow hwz
    go_wp2_with fail
    exact bodyPost_ret (results_cell_row Tryd.results62 _ _ _ _ _ _ _ rfl HRW.out under8 rfl (by rw [arA_size, HL.out]; exact info8)) rfl ⟨by rw [HBE.out], HB.out⟩
/-- the numbers of those that are set -/
def NumP (r : List Bool) (w : World) (e : Ending) (w' : World) : Prop := ∃ A c, e = .returned (.slice A (numsR r 128).length c) ∧ OwnI w' w.heap.size 3 A c (numsR r 128) ∧ Below w.heap.size w w'
set_option maxRecDepth 100000 in
set_option maxHeartbeats 4000000 in
theorem listR_any (r : List Bool) (w : World) (hr : r.length = 128) : Calls Tryd.prog 36 #[.agg (arA r)] w (NumP r w) := by
  obtain ⟨i0, hi0, hz0, hz1, hz2⟩ := info_parts infoInt
  obtain ⟨W0, hW0⟩ : ∃ W, w.alloc (.cells (arA r) 60) = W := ⟨_, rfl⟩
  obtain ⟨g0, hg0⟩ : ∃ z, w.heap.size = z := ⟨_, rfl⟩
  have hbel := lvBelow w (.cells (arA r) 60)
  have h1 := ArB.new w r
  rw [hW0] at h1 hbel
  rw [hg0] at h1
  have H1 := Lib.hid h1
  have HB0 := Lib.hid hbel
  have HR := Lib.hid hr
  clear h1 hbel hr
  go_enter Tryd.func36, Tryd.ntmps36
  go_upto_region 2 with fail
  try rw [hW0]
  try rw [hg0]
  clear hW0
  apply wp_region_lit
  refine wpList_load_row rfl 60 (.tmp 1) rfl g0 rfl _ _ _ _ H1.out under8 rfl (by rw [arA_size, HR.out]; exact info8) ?_
  simp only [Act.put, List.setIfInBounds_toArray, List.set_cons_succ, List.set_cons_zero]
  clear H1
  go_wp2_with fail
  go_loopw [3, 7] (fun v a wr => ∃ (k p : Nat) (A' : Option Addr) (c' : Nat), k ≤ 128 ∧ a = .int .i64 k ∧ v = .slice A' p c' ∧ p ≤ k ∧ Hid ((numsR r k).length = p) ∧ Hid (OwnI wr w.heap.size 3 A' c' (numsR r k)) ∧ Hid (Below w.heap.size w wr)) (fun _ a _ => 128 - (intOf a).toNat)
  case atStart => exact ⟨0, 0, none, 0, by omega, rfl, rfl, Nat.le_refl _, rfl, OwnI.nil_ _ _ _, HB0⟩
  case round =>
    obtain ⟨k, p, A, c, hk, rfl, rfl, hpk, HPL, HO, HB⟩ := hrel
    by_cases hlt : k < 128
    case neg =>
      obtain rfl : k = 128 := by omega
      go_wp2_with fail
      go_ret
      exact ⟨A, c, by rw [HPL.out]; rfl, HO.out, HB.out⟩
    have hkz : (k : Int) < 128 := by omega
    obtain ⟨b, hb⟩ : ∃ v, r[k]? = some v := ⟨_, List.getElem?_eq_getElem (by rw [HR.out]; exact hlt)⟩
    have hx := fun W => index8 hb HR.out W
    have HBB := Lib.hid (bit_some hb)
    clear hb
    cases b with
    | false =>
      have hno := numsR_no HBB.out
      have HNO := Lib.hid hno
      clear hno
      go_wp2_with fail
      go_roundw
      case rel => exact ⟨k + 1, p, A, c, by omega, by go_num, rfl, by omega, by rw [HNO.out]; exact HPL, by rw [HNO.out]; exact HO, HB⟩
      case measure => simp [intOf]; omega
    | true =>
      have hyes := numsR_yes HBB.out
      have HYS := Lib.hid hyes
      clear hyes
      have hsz := HB.out.size
      have hle : p + 1 ≤ 1000000 := by omega
      have HB2 := Lib.hid (HB.out.alloc hsz (.cells #[.int .i64 k] 3))
      have HO2 := Lib.hid (HO.out.alloc (.cells #[.int .i64 k] 3))
      go_wp2_with (at_builtin; refine wpList_appendInts _ rfl (.tmp 12) (.tmp 14) 34 rfl w.heap.size 3 i0 Tryd.underlying34 hi0 hz0 hz1 hz2 A (some ⟨wr.heap.size, 0, none⟩) c 1 1 (wr.heap.size + 1) p (p + 1) (numsR r k) [(k : Int)] rfl rfl HO2.out HPL.out rfl (src_new wr ⟨by omega, by omega⟩) hle (by simp; omega) ?_; intro A3 c3 w3 hO3 hG3; have HO3 := Lib.hid hO3; have HB3 := Lib.hid (below_app HB2.out hG3 HO2.out HPL.out (by simp; omega)); clear hO3 hG3)
      go_roundw
      case rel => exact ⟨k + 1, p + 1, A3, c3, by omega, by go_num, rfl, by omega, by unfold Hid; rw [HYS.out, List.length_append, HPL.out]; rfl, by rw [HYS.out]; exact HO3, HB3⟩
      case measure => simp [intOf]; omega
end Go.Proofs.YtmnadieblhdcpaaDoor
/- Two arrays of marks compared. -/
namespace Go.Proofs.YtmnadieblhdcpaaDoor
open Go.RowKit

theorem part8 {s : List Bool} {k : Nat} {v : Bool} (hv : s[k]? = some v) (w : World) : (part 4 (arA s) (k * 1)).run Tryd.prog w = .ok (.bool v) w := by
  have h2 := arA_at hv
  simp [part, go_sem, h2]
theorem items8 (d : Nat) {r s : List Bool} (hr : r.length = 128) (hs : s.length = 128) (w : World) : ∀ is : List Nat, (∀ i ∈ is, i < 128) →
    (Op.eqItems (d + 1) 4 1 (arA r) (arA s) is).run Tryd.prog w = .ok (is.all fun i => bitR r i == bitR s i) w
  | [], _ => by simp [Op.eqItems]
  | i :: is, h => by
    have hi := h i (List.mem_cons_self ..)
    obtain ⟨a, ha⟩ : ∃ v, r[i]? = some v := ⟨_, List.getElem?_eq_getElem (by omega)⟩
    obtain ⟨b, hb⟩ : ∃ v, s[i]? = some v := ⟨_, List.getElem?_eq_getElem (by omega)⟩
    have ih := items8 d hr hs w is fun j hj => h j (List.mem_cons_of_mem _ hj)
    have h3 : (Op.equalIn (d + 1) 4 (.bool a) (.bool b)).run Tryd.prog w = .ok (a == b) w := run_equalIn_bool w d 4 a b Tryd.underlying4
    simp only [Op.eqItems, Sem.run_bind, part8 ha, part8 hb, h3, Result.andThen_ok]
    rw [List.all_cons, bit_some ha, bit_some hb]
    cases hab : (a == b) with
    | false => simp
    | true => simpa using ih
theorem all_bits {r s : List Bool} (hr : r.length = 128) (hs : s.length = 128) : ((List.range 128).all fun i => bitR r i == bitR s i) = decide (r = s) := by
  by_cases e : r = s
  · subst e
    rw [decide_eq_true rfl, List.all_eq_true]
    intro i _
    simp
  · rw [decide_eq_false e, List.all_eq_false]
    apply Classical.byContradiction
    intro h
    apply e
    refine bit_ext (by omega) fun n => ?_
    by_cases hn : n < 128
    · apply Classical.byContradiction
      intro h2
      exact h ⟨n, List.mem_range.2 hn, by simpa using h2⟩
    · unfold bitR
      rw [List.getD_eq_getElem?_getD, List.getD_eq_getElem?_getD, List.getElem?_eq_none (by omega), List.getElem?_eq_none (by omega)]
theorem eqIn8 {r s : List Bool} (hr : r.length = 128) (hs : s.length = 128) (w : World) : (Op.equalIn 10000 60 (.agg (arA r)) (.agg (arA s))).run Tryd.prog w = .ok (decide (r = s)) w := by
  obtain ⟨i, hi, h0, h1, h2⟩ := info_parts infoBo
  have hc : Tryd.prog.cellsOf 4 = 1 := by kernel_rfl
  have h : ∀ d : Nat, (Op.equalIn (d + 1 + 1) 60 (.agg (arA r)) (.agg (arA s))).run Tryd.prog w = .ok (decide (r = s)) w := fun d => by
    rw [run_equalIn_array w (d + 1) (arA r) (arA s) under8 hi, hc, items8 d hr hs w _ fun i hi => List.mem_range.1 hi, all_bits hr hs]
  exact h 9998
theorem eq8 {r s : List Bool} (hr : r.length = 128) (hs : s.length = 128) (w : World) : (binOp .eql 60 (.agg (arA r)) (.agg (arA s))).run Tryd.prog w = .ok (.bool (decide (r = s))) w := by
  have := eqIn8 hr hs w
  simp only [binOp]
  simp [Op.equal, Op.maxDepth, this]
theorem guard8 {r s : List Bool} (x y : Operand) (w : World) : (eqGuard .eql 60 x y (.agg (arA r)) (.agg (arA s))).run Tryd.prog w = .ok () w := by
  have hm : Tryd.prog.eqGuardType Tryd.prog.depth 60 = false := by kernel_rfl
  simp [eqGuard, run_program, hm]
end Go.Proofs.YtmnadieblhdcpaaDoor
