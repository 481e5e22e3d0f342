/- A list that is sorted in parts, and the parts merged. Nothing is claimed of the program here. -/
import Derived.Test.YtpjelcghlnmoeaaESymD
namespace Go.Proofs.Ytpjelcghlnmoeaa
open Go.RowKit

/-- each s of a list sorted by themselves -/
def allF (os : List Int) (s : Nat) : Nat → List Ent → List Ent
  | 0, _ => []
  | f + 1, l => sortE os (l.take s) ++ allF os s f (l.drop s)
def allP (os : List Int) (s : Nat) (l : List Ent) : List Ent := allF os s l.length l
def chunkP (os : List Int) (s : Nat) (es : List Ent) : Nat → List Ent
  | 0 => []
  | t + 1 => chunkP os s es t ++ sortE os ((es.drop (t * s)).take s)
theorem sortE_nil (os : List Int) : sortE os [] = [] := rfl
theorem allF_nil (os : List Int) (s f : Nat) : allF os s f [] = [] := by
  induction f with
  | zero => rfl
  | succ f ih => unfold allF; rw [List.take_nil, List.drop_nil, ih]; rfl
theorem allF_more (os : List Int) {s : Nat} (hs : 1 ≤ s) (f f' : Nat) (l : List Ent) (h : l.length ≤ f) (h' : l.length ≤ f') : allF os s f l = allF os s f' l := by
  induction f generalizing f' l with
  | zero =>
    obtain rfl : l = [] := List.eq_nil_of_length_eq_zero (by omega)
    rw [allF_nil, allF_nil]
  | succ f ih =>
    cases f' with
    | zero =>
      obtain rfl : l = [] := List.eq_nil_of_length_eq_zero (by omega)
      rw [allF_nil, allF_nil]
    | succ f' =>
      unfold allF
      by_cases h0 : l.length = 0
      · obtain rfl : l = [] := List.eq_nil_of_length_eq_zero h0
        rw [List.drop_nil, allF_nil, allF_nil]
      · rw [ih f' (l.drop s) (by rw [List.length_drop]; omega) (by rw [List.length_drop]; omega)]
theorem allP_step (os : List Int) {s : Nat} (hs : 1 ≤ s) (l : List Ent) : allP os s l = sortE os (l.take s) ++ allP os s (l.drop s) := by
  unfold allP
  cases h : l.length with
  | zero =>
    obtain rfl : l = [] := List.eq_nil_of_length_eq_zero h
    rw [List.take_nil, List.drop_nil]; rfl
  | succ n =>
    conv => lhs; unfold allF
    rw [allF_more os hs n (l.drop s).length (l.drop s) (by rw [List.length_drop]; omega) (Nat.le_refl _)]
theorem allP_nil (os : List Int) (s : Nat) : allP os s [] = [] := allF_nil os s _
theorem allP_few (os : List Int) {s : Nat} (hs : 1 ≤ s) {l : List Ent} (h : l.length ≤ s) : allP os s l = sortE os l := by
  rw [allP_step os hs, List.take_of_length_le h, List.drop_of_length_le h, allP_nil, List.append_nil]
theorem sortE_len (os : List Int) (l : List Ent) : (sortE os l).length = l.length := (sortE_facts os l).1
theorem allF_len (os : List Int) (s f : Nat) (hs : 1 ≤ s) (l : List Ent) (h : l.length ≤ f) : (allF os s f l).length = l.length := by
  induction f generalizing l with
  | zero =>
    obtain rfl : l = [] := List.eq_nil_of_length_eq_zero (by omega)
    rfl
  | succ f ih =>
    unfold allF
    by_cases h0 : l.length = 0
    · obtain rfl : l = [] := List.eq_nil_of_length_eq_zero h0
      rw [List.drop_nil, allF_nil, List.take_nil]; rfl
    · rw [List.length_append, sortE_len, ih (l.drop s) (by rw [List.length_drop]; omega), List.length_take, List.length_drop]; omega
theorem allP_len (os : List Int) {s : Nat} (hs : 1 ≤ s) (l : List Ent) : (allP os s l).length = l.length := allF_len os s _ hs l (Nat.le_refl _)
theorem chunkP_len (os : List Int) (s : Nat) (es : List Ent) (t : Nat) (h : t * s ≤ es.length) : (chunkP os s es t).length = t * s := by
  induction t with
  | zero => simp [chunkP]
  | succ t ih =>
    have h2 : (t + 1) * s = t * s + s := by rw [Nat.add_mul, Nat.one_mul]
    unfold chunkP
    rw [List.length_append, ih (by omega), sortE_len, List.length_take, List.length_drop]
    omega
theorem chunkP_all (os : List Int) {s : Nat} (hs : 1 ≤ s) (es : List Ent) (t : Nat) : chunkP os s es t ++ allP os s (es.drop (t * s)) = allP os s es := by
  induction t with
  | zero => simp [chunkP]
  | succ t ih =>
    unfold chunkP
    rw [← ih, allP_step os hs (es.drop (t * s)), List.drop_drop, List.append_assoc]
    congr 2
    rw [Nat.add_mul, Nat.one_mul]
theorem allP_two (os : List Int) {s : Nat} (hs : 1 ≤ s) (l : List Ent) : allP os s l = sortE os (l.take s) ++ sortE os ((l.drop s).take s) ++ allP os s (l.drop (2 * s)) := by
  rw [allP_step os hs l, allP_step os hs (l.drop s), List.drop_drop, ← List.append_assoc, show s + s = 2 * s by omega]
theorem merge_two (os : List Int) (s : Nat) (l : List Ent) : mergeE os (sortE os (l.take s)) (sortE os ((l.drop s).take s)) = sortE os (l.take (2 * s)) := by
  rw [← sortE_append]
  congr 1
  rw [show 2 * s = s + s by omega, List.take_add]
theorem merge_rest (os : List Int) (s : Nat) (l : List Ent) : mergeE os (sortE os (l.take s)) (sortE os (l.drop s)) = sortE os l := by
  rw [← sortE_append, List.take_append_drop]
theorem sortE_sub {os : List Int} {l : List Ent} {x : Ent} (h : x ∈ sortE os l) : x ∈ l := (sortE_facts os l).2 x h

end Go.Proofs.Ytpjelcghlnmoeaa
