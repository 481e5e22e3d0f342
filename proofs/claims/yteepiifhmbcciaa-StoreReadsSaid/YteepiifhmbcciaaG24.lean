/- What holds while the document's Copy copies three slices at once, whichever operations have come up. -/
import Derived.Test.YteepiifhmbcciaaG12
import Derived.Test.YteepiifhmbcciaaG23
import Derived.Test.YteepiifhmbcciaaG16
import Derived.Test.YteepiifhmbcciaaG10
import Derived.OwnWalk
import Derived.BigFrame
import Derived.Deep.RegionLaw
import Derived.Test.YteepiifhmbcciaaG13
namespace Go.Proofs.Yteepiifhmbcciaa
open Go.RowKit

theorem ownI_off {w : World} {base c q : Nat} {e t : TypeId} {A : Option Addr} {xs : List Int} {cs : Array Value} (h : OwnI w base e A c xs) (hq : w.heap[q]? = some (.cells cs t (0, 0))) (ht : t ≠ e) : ∀ b, A = some ⟨b, 0, none⟩ → b ≠ q := by
  intro b hb e'
  subst e'
  subst hb
  rcases h.1.2 with ⟨h1, _⟩ | ⟨g, cap, cur, h1, _, h3, _⟩
  · cases h1
  · injection h1 with h1
    injection h1 with h1
    injection h1 with h1
    subst h1
    rw [hq] at h3
    injection h3 with h3
    injection h3 with _ h3
    exact ht h3
theorem ownI_same {w w' : World} {base c : Nat} {e : TypeId} {A : Option Addr} {xs : List Int} (h : OwnI w base e A c xs) (hq : ∀ b, A = some ⟨b, 0, none⟩ → w'.heap[b]? = w.heap[b]?) : OwnI w' base e A c xs := by
  refine ⟨⟨h.1.1, ?_⟩, h.2⟩
  rcases h.1.2 with h1 | ⟨b, cap, cur, h1, h2, h3, h4⟩
  · exact .inl h1
  · refine .inr ⟨b, cap, cur, h1, h2, ?_, h4⟩
    injection h1 with h1
    rw [hq b h1]; exact h3
theorem ownS_off {w : World} {base c q : Nat} {t : TypeId} {A : Option Addr} {xs : List Sp} {cs : Array Value} (h : OwnS w base A c xs) (hq : w.heap[q]? = some (.cells cs t (0, 0))) (ht : t ≠ 60) : ∀ b, A = some ⟨b, 0, none⟩ → b ≠ q := by
  intro b hb e'
  subst e'
  rcases h.heap with h1 | ⟨g, cur, h1, _, h3⟩
  · rw [h1] at hb; cases hb
  · rw [h1] at hb
    injection hb with hb
    injection hb with hb
    subst hb
    rw [hq] at h3
    injection h3 with h3
    injection h3 with _ h3
    exact ht h3
theorem set_four (w : World) (g : Nat) (y0 y1 y2 y3 a b c d : Value) (t : TypeId) (h : w.heap[g]? = some (.cells #[y0, y1, y2, y3] t (0, 0))) :
    ((((w.setCell ⟨g, 0, none⟩ a).setCell ⟨g, 1, none⟩ b).setCell ⟨g, 2, none⟩ c).setCell ⟨g, 3, none⟩ d).heap[g]? = some (.cells #[a, b, c, d] t (0, 0)) ∧ (∀ k, k ≠ g → ((((w.setCell ⟨g, 0, none⟩ a).setCell ⟨g, 1, none⟩ b).setCell ⟨g, 2, none⟩ c).setCell ⟨g, 3, none⟩ d).heap[k]? = w.heap[k]?) ∧ ∀ B, B ≤ g → Below B w ((((w.setCell ⟨g, 0, none⟩ a).setCell ⟨g, 1, none⟩ b).setCell ⟨g, 2, none⟩ c).setCell ⟨g, 3, none⟩ d) := by
  refine ⟨?_, fun k hk => ?_, fun B hB => ?_⟩
  · have h1 := heap_setCell_same w g 0 _ _ a h
    have h2 := heap_setCell_same _ g 1 _ _ b h1
    have h3 := heap_setCell_same _ g 2 _ _ c h2
    have h4 := heap_setCell_same _ g 3 _ _ d h3
    rw [h4]
    simp
  · rw [Below.heap_setCell _ ⟨g, 3, none⟩ _ _ hk, Below.heap_setCell _ ⟨g, 2, none⟩ _ _ hk, Below.heap_setCell _ ⟨g, 1, none⟩ _ _ hk, Below.heap_setCell _ ⟨g, 0, none⟩ _ _ hk]
  · exact (((((Below.refl B w).setCell (p := ⟨g, 0, none⟩) hB a).setCell (p := ⟨g, 1, none⟩) hB b).setCell (p := ⟨g, 2, none⟩) hB c).setCell (p := ⟨g, 3, none⟩) hB d)
structure F1 (wd : World) (t : Ten) (bt : Nat) (L : Array Bool) (v6 v7 v8 v9 v10 v11 v12 v13 v14 v15 v3 : Value) (w : World) : Prop where
  bel : Below wd.heap.size wd w
  f0 : on L 0 → v6 = .pointer (some ⟨bt, 0, none⟩)
  f1 : on L 1 → v7 = .slice t.A t.n t.c
  f2 : on L 2 → ∃ A c, v8 = .slice A t.n c ∧ OwnI w wd.heap.size 3 A c t.xs
  f3 : on L 3 → v9 = .pointer (some ⟨bt, 1, none⟩)
  f4 : on L 4 → v10 = .slice t.F t.fn t.fc
  f5 : on L 5 → ∃ A c, v11 = .slice A t.fn c ∧ OwnS w wd.heap.size A c t.fs
  f6 : on L 6 → v12 = .pointer (some ⟨bt, 3, none⟩)
  f7 : on L 7 → v13 = .slice t.V t.vn t.vc
  f8 : on L 8 → ∃ A c, v14 = .slice A t.vn c ∧ OwnI w wd.heap.size 2 A c t.vs
  f9 : on L 9 → on L 2 ∧ on L 5 ∧ on L 8 ∧ v15 = .agg #[v8, v11, .slice none 0 0, v14]
  f10 : on L 10 → ∃ g y0 y1 y2 y3, v3 = .pointer (some ⟨g, 0, none⟩) ∧ wd.heap.size ≤ g ∧ w.heap[g]? = some (.cells #[y0, y1, y2, y3] 27 (0, 0))
  f11 : on L 11 → on L 9 ∧ on L 10 ∧ ∀ g, v3 = .pointer (some ⟨g, 0, none⟩) → w.heap[g]? = some (.cells #[v8, v11, .slice none 0 0, v14] 27 (0, 0))
section
variable {wd w w' : World} {t : Ten} {bt : Nat} {L : Array Bool} {v6 v7 v8 v9 v10 v11 v12 v13 v14 v15 v3 : Value}
theorem F1.world (F : F1 wd t bt L v6 v7 v8 v9 v10 v11 v12 v13 v14 v15 v3 w) (hb : Below w.heap.size w w') : F1 wd t bt L v6 v7 v8 v9 v10 v11 v12 v13 v14 v15 v3 w' := by
  refine ⟨F.bel.trans (hb.mono F.bel.size), F.f0, F.f1, fun h => ?_, F.f3, F.f4, fun h => ?_, F.f6, F.f7, fun h => ?_, F.f9, fun h => ?_, fun h => ?_⟩
  · obtain ⟨A, c, h1, h2⟩ := F.f2 h
    exact ⟨A, c, h1, h2.below hb (Nat.le_refl _)⟩
  · obtain ⟨A, c, h1, h2⟩ := F.f5 h
    exact ⟨A, c, h1, h2.below hb (Nat.le_refl _)⟩
  · obtain ⟨A, c, h1, h2⟩ := F.f8 h
    exact ⟨A, c, h1, h2.below hb (Nat.le_refl _)⟩
  · obtain ⟨g, y0, y1, y2, y3, h1, h2, h3⟩ := F.f10 h
    exact ⟨g, y0, y1, y2, y3, h1, h2, keep_b hb h3⟩
  · obtain ⟨h1, h2, h3⟩ := F.f11 h
    exact ⟨h1, h2, fun g hg => keep_b hb (h3 g hg)⟩

theorem F1.s0 (F : F1 wd t bt L v6 v7 v8 v9 v10 v11 v12 v13 v14 v15 v3 w) : F1 wd t bt (L.setIfInBounds 0 true) (.pointer (some ⟨bt, 0, none⟩)) v7 v8 v9 v10 v11 v12 v13 v14 v15 v3 w :=
  ⟨F.bel, fun _ => rfl,
    fun h => F.f1 (on_of h (by decide)),
    fun h => F.f2 (on_of h (by decide)),
    fun h => F.f3 (on_of h (by decide)),
    fun h => F.f4 (on_of h (by decide)),
    fun h => F.f5 (on_of h (by decide)),
    fun h => F.f6 (on_of h (by decide)),
    fun h => F.f7 (on_of h (by decide)),
    fun h => F.f8 (on_of h (by decide)),
    fun h => by obtain ⟨h1, h2, h3, h4⟩ := F.f9 (on_of h (by decide)); exact ⟨on_set h1, on_set h2, on_set h3, h4⟩,
    fun h => F.f10 (on_of h (by decide)),
    fun h => by obtain ⟨h1, h2, h3⟩ := F.f11 (on_of h (by decide)); exact ⟨on_set h1, on_set h2, h3⟩⟩
theorem F1.s1 (F : F1 wd t bt L v6 v7 v8 v9 v10 v11 v12 v13 v14 v15 v3 w) : F1 wd t bt (L.setIfInBounds 1 true) v6 (.slice t.A t.n t.c) v8 v9 v10 v11 v12 v13 v14 v15 v3 w :=
  ⟨F.bel, fun h => F.f0 (on_of h (by decide)),
    fun _ => rfl,
    fun h => F.f2 (on_of h (by decide)),
    fun h => F.f3 (on_of h (by decide)),
    fun h => F.f4 (on_of h (by decide)),
    fun h => F.f5 (on_of h (by decide)),
    fun h => F.f6 (on_of h (by decide)),
    fun h => F.f7 (on_of h (by decide)),
    fun h => F.f8 (on_of h (by decide)),
    fun h => by obtain ⟨h1, h2, h3, h4⟩ := F.f9 (on_of h (by decide)); exact ⟨on_set h1, on_set h2, on_set h3, h4⟩,
    fun h => F.f10 (on_of h (by decide)),
    fun h => by obtain ⟨h1, h2, h3⟩ := F.f11 (on_of h (by decide)); exact ⟨on_set h1, on_set h2, h3⟩⟩
theorem F1.s3 (F : F1 wd t bt L v6 v7 v8 v9 v10 v11 v12 v13 v14 v15 v3 w) : F1 wd t bt (L.setIfInBounds 3 true) v6 v7 v8 (.pointer (some ⟨bt, 1, none⟩)) v10 v11 v12 v13 v14 v15 v3 w :=
  ⟨F.bel, fun h => F.f0 (on_of h (by decide)),
    fun h => F.f1 (on_of h (by decide)),
    fun h => F.f2 (on_of h (by decide)),
    fun _ => rfl,
    fun h => F.f4 (on_of h (by decide)),
    fun h => F.f5 (on_of h (by decide)),
    fun h => F.f6 (on_of h (by decide)),
    fun h => F.f7 (on_of h (by decide)),
    fun h => F.f8 (on_of h (by decide)),
    fun h => by obtain ⟨h1, h2, h3, h4⟩ := F.f9 (on_of h (by decide)); exact ⟨on_set h1, on_set h2, on_set h3, h4⟩,
    fun h => F.f10 (on_of h (by decide)),
    fun h => by obtain ⟨h1, h2, h3⟩ := F.f11 (on_of h (by decide)); exact ⟨on_set h1, on_set h2, h3⟩⟩
theorem F1.s4 (F : F1 wd t bt L v6 v7 v8 v9 v10 v11 v12 v13 v14 v15 v3 w) : F1 wd t bt (L.setIfInBounds 4 true) v6 v7 v8 v9 (.slice t.F t.fn t.fc) v11 v12 v13 v14 v15 v3 w :=
  ⟨F.bel, fun h => F.f0 (on_of h (by decide)),
    fun h => F.f1 (on_of h (by decide)),
    fun h => F.f2 (on_of h (by decide)),
    fun h => F.f3 (on_of h (by decide)),
    fun _ => rfl,
    fun h => F.f5 (on_of h (by decide)),
    fun h => F.f6 (on_of h (by decide)),
    fun h => F.f7 (on_of h (by decide)),
    fun h => F.f8 (on_of h (by decide)),
    fun h => by obtain ⟨h1, h2, h3, h4⟩ := F.f9 (on_of h (by decide)); exact ⟨on_set h1, on_set h2, on_set h3, h4⟩,
    fun h => F.f10 (on_of h (by decide)),
    fun h => by obtain ⟨h1, h2, h3⟩ := F.f11 (on_of h (by decide)); exact ⟨on_set h1, on_set h2, h3⟩⟩
theorem F1.s6 (F : F1 wd t bt L v6 v7 v8 v9 v10 v11 v12 v13 v14 v15 v3 w) : F1 wd t bt (L.setIfInBounds 6 true) v6 v7 v8 v9 v10 v11 (.pointer (some ⟨bt, 3, none⟩)) v13 v14 v15 v3 w :=
  ⟨F.bel, fun h => F.f0 (on_of h (by decide)),
    fun h => F.f1 (on_of h (by decide)),
    fun h => F.f2 (on_of h (by decide)),
    fun h => F.f3 (on_of h (by decide)),
    fun h => F.f4 (on_of h (by decide)),
    fun h => F.f5 (on_of h (by decide)),
    fun _ => rfl,
    fun h => F.f7 (on_of h (by decide)),
    fun h => F.f8 (on_of h (by decide)),
    fun h => by obtain ⟨h1, h2, h3, h4⟩ := F.f9 (on_of h (by decide)); exact ⟨on_set h1, on_set h2, on_set h3, h4⟩,
    fun h => F.f10 (on_of h (by decide)),
    fun h => by obtain ⟨h1, h2, h3⟩ := F.f11 (on_of h (by decide)); exact ⟨on_set h1, on_set h2, h3⟩⟩
theorem F1.s7 (F : F1 wd t bt L v6 v7 v8 v9 v10 v11 v12 v13 v14 v15 v3 w) : F1 wd t bt (L.setIfInBounds 7 true) v6 v7 v8 v9 v10 v11 v12 (.slice t.V t.vn t.vc) v14 v15 v3 w :=
  ⟨F.bel, fun h => F.f0 (on_of h (by decide)),
    fun h => F.f1 (on_of h (by decide)),
    fun h => F.f2 (on_of h (by decide)),
    fun h => F.f3 (on_of h (by decide)),
    fun h => F.f4 (on_of h (by decide)),
    fun h => F.f5 (on_of h (by decide)),
    fun h => F.f6 (on_of h (by decide)),
    fun _ => rfl,
    fun h => F.f8 (on_of h (by decide)),
    fun h => by obtain ⟨h1, h2, h3, h4⟩ := F.f9 (on_of h (by decide)); exact ⟨on_set h1, on_set h2, on_set h3, h4⟩,
    fun h => F.f10 (on_of h (by decide)),
    fun h => by obtain ⟨h1, h2, h3⟩ := F.f11 (on_of h (by decide)); exact ⟨on_set h1, on_set h2, h3⟩⟩
theorem F1.s2 (F : F1 wd t bt L v6 v7 v8 v9 v10 v11 v12 v13 v14 v15 v3 w) {A : Option Addr} {c : Nat} (hun : ¬ on L 2) (ho : OwnI w wd.heap.size 3 A c t.xs) : F1 wd t bt (L.setIfInBounds 2 true) v6 v7 (.slice A t.n c) v9 v10 v11 v12 v13 v14 v15 v3 w :=
  ⟨F.bel, fun h => F.f0 (on_of h (by decide)),
    fun h => F.f1 (on_of h (by decide)),
    fun _ => ⟨A, c, rfl, ho⟩,
    fun h => F.f3 (on_of h (by decide)),
    fun h => F.f4 (on_of h (by decide)),
    fun h => F.f5 (on_of h (by decide)),
    fun h => F.f6 (on_of h (by decide)),
    fun h => F.f7 (on_of h (by decide)),
    fun h => F.f8 (on_of h (by decide)),
    fun h => absurd (F.f9 (on_of h (by decide))).1 hun,
    fun h => F.f10 (on_of h (by decide)),
    fun h => absurd (F.f9 (F.f11 (on_of h (by decide))).1).1 hun⟩
theorem F1.s5 (F : F1 wd t bt L v6 v7 v8 v9 v10 v11 v12 v13 v14 v15 v3 w) {A : Option Addr} {c : Nat} (hun : ¬ on L 5) (ho : OwnS w wd.heap.size A c t.fs) : F1 wd t bt (L.setIfInBounds 5 true) v6 v7 v8 v9 v10 (.slice A t.fn c) v12 v13 v14 v15 v3 w :=
  ⟨F.bel, fun h => F.f0 (on_of h (by decide)),
    fun h => F.f1 (on_of h (by decide)),
    fun h => F.f2 (on_of h (by decide)),
    fun h => F.f3 (on_of h (by decide)),
    fun h => F.f4 (on_of h (by decide)),
    fun _ => ⟨A, c, rfl, ho⟩,
    fun h => F.f6 (on_of h (by decide)),
    fun h => F.f7 (on_of h (by decide)),
    fun h => F.f8 (on_of h (by decide)),
    fun h => absurd (F.f9 (on_of h (by decide))).2.1 hun,
    fun h => F.f10 (on_of h (by decide)),
    fun h => absurd (F.f9 (F.f11 (on_of h (by decide))).1).2.1 hun⟩
theorem F1.s8 (F : F1 wd t bt L v6 v7 v8 v9 v10 v11 v12 v13 v14 v15 v3 w) {A : Option Addr} {c : Nat} (hun : ¬ on L 8) (ho : OwnI w wd.heap.size 2 A c t.vs) : F1 wd t bt (L.setIfInBounds 8 true) v6 v7 v8 v9 v10 v11 v12 v13 (.slice A t.vn c) v15 v3 w :=
  ⟨F.bel, fun h => F.f0 (on_of h (by decide)),
    fun h => F.f1 (on_of h (by decide)),
    fun h => F.f2 (on_of h (by decide)),
    fun h => F.f3 (on_of h (by decide)),
    fun h => F.f4 (on_of h (by decide)),
    fun h => F.f5 (on_of h (by decide)),
    fun h => F.f6 (on_of h (by decide)),
    fun h => F.f7 (on_of h (by decide)),
    fun _ => ⟨A, c, rfl, ho⟩,
    fun h => absurd (F.f9 (on_of h (by decide))).2.2.1 hun,
    fun h => F.f10 (on_of h (by decide)),
    fun h => absurd (F.f9 (F.f11 (on_of h (by decide))).1).2.2.1 hun⟩
theorem F1.s9 (F : F1 wd t bt L v6 v7 v8 v9 v10 v11 v12 v13 v14 v15 v3 w) (h2 : on L 2) (h5 : on L 5) (h8 : on L 8) : F1 wd t bt (L.setIfInBounds 9 true) v6 v7 v8 v9 v10 v11 v12 v13 v14 (.agg #[v8, v11, .slice none 0 0, v14]) v3 w :=
  ⟨F.bel, fun h => F.f0 (on_of h (by decide)),
    fun h => F.f1 (on_of h (by decide)),
    fun h => F.f2 (on_of h (by decide)),
    fun h => F.f3 (on_of h (by decide)),
    fun h => F.f4 (on_of h (by decide)),
    fun h => F.f5 (on_of h (by decide)),
    fun h => F.f6 (on_of h (by decide)),
    fun h => F.f7 (on_of h (by decide)),
    fun h => F.f8 (on_of h (by decide)),
    fun _ => ⟨on_set h2, on_set h5, on_set h8, rfl⟩,
    fun h => F.f10 (on_of h (by decide)),
    fun h => by obtain ⟨h1, h2, h3⟩ := F.f11 (on_of h (by decide)); exact ⟨on_set h1, on_set h2, h3⟩⟩
theorem F1.s10 (F : F1 wd t bt L v6 v7 v8 v9 v10 v11 v12 v13 v14 v15 v3 w) {g : Nat} {y0 y1 y2 y3 : Value} (hun : ¬ on L 10) (hg : wd.heap.size ≤ g) (hs : w.heap[g]? = some (.cells #[y0, y1, y2, y3] 27 (0, 0))) : F1 wd t bt (L.setIfInBounds 10 true) v6 v7 v8 v9 v10 v11 v12 v13 v14 v15 (.pointer (some ⟨g, 0, none⟩)) w :=
  ⟨F.bel, fun h => F.f0 (on_of h (by decide)),
    fun h => F.f1 (on_of h (by decide)),
    fun h => F.f2 (on_of h (by decide)),
    fun h => F.f3 (on_of h (by decide)),
    fun h => F.f4 (on_of h (by decide)),
    fun h => F.f5 (on_of h (by decide)),
    fun h => F.f6 (on_of h (by decide)),
    fun h => F.f7 (on_of h (by decide)),
    fun h => F.f8 (on_of h (by decide)),
    fun h => by obtain ⟨h1, h2, h3, h4⟩ := F.f9 (on_of h (by decide)); exact ⟨on_set h1, on_set h2, on_set h3, h4⟩,
    fun _ => ⟨g, _, _, _, _, rfl, hg, hs⟩,
    fun h => absurd (F.f11 (on_of h (by decide))).2.1 hun⟩
theorem F1.s11 (F : F1 wd t bt L v6 v7 v8 v9 v10 v11 v12 v13 v14 v15 v3 w) {q : Nat} {y0 y1 y2 y3 : Value} (hq : v3 = .pointer (some ⟨q, 0, none⟩)) (hgq : wd.heap.size ≤ q) (hd1 : on L 9) (hd2 : on L 10) (hold : w.heap[q]? = some (.cells #[y0, y1, y2, y3] 27 (0, 0))) (hnew : w'.heap[q]? = some (.cells #[v8, v11, .slice none 0 0, v14] 27 (0, 0))) (hb : Below wd.heap.size wd w') (ho : ∀ k, k ≠ q → w'.heap[k]? = w.heap[k]?) : F1 wd t bt (L.setIfInBounds 11 true) v6 v7 v8 v9 v10 v11 v12 v13 v14 v15 v3 w' :=
  ⟨hb, fun h => F.f0 (on_of h (by decide)),
    fun h => F.f1 (on_of h (by decide)),
    fun h => by
      obtain ⟨A, c, h1, h2⟩ := F.f2 (on_of h (by decide))
      exact ⟨A, c, h1, ownI_same h2 fun b hb' => ho b (ownI_off h2 hold (by decide) b hb')⟩,
    fun h => F.f3 (on_of h (by decide)),
    fun h => F.f4 (on_of h (by decide)),
    fun h => by
      obtain ⟨A, c, h1, h2⟩ := F.f5 (on_of h (by decide))
      exact ⟨A, c, h1, h2.same fun b hb' => ho b (ownS_off h2 hold (by decide) b hb')⟩,
    fun h => F.f6 (on_of h (by decide)),
    fun h => F.f7 (on_of h (by decide)),
    fun h => by
      obtain ⟨A, c, h1, h2⟩ := F.f8 (on_of h (by decide))
      exact ⟨A, c, h1, ownI_same h2 fun b hb' => ho b (ownI_off h2 hold (by decide) b hb')⟩,
    fun h => by obtain ⟨h1, h2, h3, h4⟩ := F.f9 (on_of h (by decide)); exact ⟨on_set h1, on_set h2, on_set h3, h4⟩,
    fun _ => ⟨q, _, _, _, _, hq, hgq, hnew⟩,
    fun _ => ⟨on_set hd1, on_set hd2, fun b hb' => by rw [hq] at hb'; injection hb' with hb'; injection hb' with hb'; injection hb' with hb'; subst hb'; exact hnew⟩⟩
end
end Go.Proofs.Yteepiifhmbcciaa
/- Slices of the call's own, of levels. -/
namespace Go.Proofs.Yteepiifhmbcciaa
open Go.RowKit

def cellsV : List Lv → List Value
  | [] => []
  | x :: ss => .int .i64 x.k :: .int .i64 x.s :: .slice x.A x.n x.c :: .slice x.B x.m x.e :: cellsV ss
theorem cellsV_length (ss : List Lv) : (cellsV ss).length = 4 * ss.length := by
  induction ss with
  | nil => rfl
  | cons x ss ih => simp only [cellsV, List.length_cons, ih]; omega
theorem cellsV_append (a b : List Lv) : cellsV (a ++ b) = cellsV a ++ cellsV b := by
  induction a with
  | nil => rfl
  | cons x a ih => simp only [List.cons_append, cellsV, ih]
theorem cellsV_at {ss : List Lv} {k : Nat} {x : Lv} (h : ss[k]? = some x) : (cellsV ss)[4 * k]? = some (.int .i64 x.k) ∧ (cellsV ss)[4 * k + 1]? = some (.int .i64 x.s) ∧ (cellsV ss)[4 * k + 2]? = some (.slice x.A x.n x.c) ∧ (cellsV ss)[4 * k + 3]? = some (.slice x.B x.m x.e) := by
  induction ss generalizing k with
  | nil => simp at h
  | cons y ss ih =>
    cases k with
    | zero => simp at h; subst h; exact ⟨rfl, rfl, rfl, rfl⟩
    | succ k =>
      have := ih (k := k) (by simpa using h)
      exact ⟨by rw [← this.1]; rfl, by rw [← this.2.1]; rfl, by rw [← this.2.2.1]; rfl, by rw [← this.2.2.2]; rfl⟩
theorem cellsV_one (ss : List Lv) : ∀ u ∈ cellsV ss, u.oneCell' = true := by
  induction ss with
  | nil => simp [cellsV]
  | cons x ss ih =>
    intro u hu
    simp only [cellsV, List.mem_cons] at hu
    rcases hu with rfl | rfl | rfl | rfl | hu
    · simp [Value.oneCell']
    · simp [Value.oneCell']
    · simp [Value.oneCell']
    · simp [Value.oneCell']
    · exact ih u hu
set_option maxRecDepth 100000 in
theorem infoV : (Try.prog.info? 57).map (fun i => (i.zero, i.size, i.bytes)) = some (some (.agg #[.int .i64 0, .int .i64 0, .slice none 0 0, .slice none 0 0]), 4, 64) := by kernel_rfl
/-- a slice of the call's own -/
def OwnV (w : World) (base : Nat) (A : Option Addr) (c : Nat) (ss : List Lv) : Prop := w.ownsRow base 57 4 (.slice A ss.length c) ss.length (cellsV ss)
section
variable {w w' : World} {base B c : Nat} {A : Option Addr} {ss : List Lv}
theorem OwnV.nil_ (w : World) (base : Nat) : OwnV w base none 0 [] := w.ownsRow_nil base _ 4
theorem OwnV.below (h : OwnV w base A c ss) (hb : Below B w w') (hB : w.heap.size ≤ B) : OwnV w' base A c ss :=
  World.ownsRow.kept h ⟨hb.os, hb.tape, hb.output, hb.size, fun i hi _ => hb.block i (by omega)⟩ (row := none) (by cases hh : (Value.slice A ss.length c).ownBlock with | none => exact .inl rfl | some k => exact .inr (by simp))
theorem OwnV.mono {base' : Nat} (h : OwnV w base A c ss) (hb : base' ≤ base) : OwnV w base' A c ss := by
  refine ⟨h.1, ?_⟩
  rcases h.2 with hh | ⟨g, cap, cur, h1, h2, h3⟩
  · exact .inl hh
  · exact .inr ⟨g, cap, cur, h1, by omega, h3⟩
theorem OwnV.heap (h : OwnV w base A c ss) : A = none ∨ ∃ g cur, A = some ⟨g, 0, none⟩ ∧ base ≤ g ∧ w.heap[g]? = some (.cells cur 57 (0, 0)) := by
  rcases h.2 with ⟨h1, _⟩ | ⟨g, cap, cur, h1, h2, h3, _⟩
  · injection h1 with h1; exact .inl h1
  · injection h1 with h1; exact .inr ⟨g, cur, h1, h2, h3⟩
theorem OwnV.same (h : OwnV w base A c ss) (hq : ∀ b, A = some ⟨b, 0, none⟩ → w'.heap[b]? = w.heap[b]?) : OwnV w' base A c ss := by
  refine ⟨h.1, ?_⟩
  rcases h.2 with h1 | ⟨b, cap, cur, h1, h2, h3, h4⟩
  · exact .inl h1
  · refine .inr ⟨b, cap, cur, h1, h2, ?_, h4⟩
    injection h1 with h1
    rw [hq b h1]; exact h3
theorem OwnV.rows (h : OwnV w base A c ss) : ∀ (k : Nat) (x : Lv), ss[k]? = some x → ∃ g, A = some ⟨g, 0, none⟩ ∧ base ≤ g ∧ g < w.heap.size ∧ w.cell? ⟨g, 4 * k, none⟩ = some (.int .i64 x.k) ∧ w.cell? ⟨g, 4 * k + 1, none⟩ = some (.int .i64 x.s) ∧ w.cell? ⟨g, 4 * k + 2, none⟩ = some (.slice x.A x.n x.c) ∧ w.cell? ⟨g, 4 * k + 3, none⟩ = some (.slice x.B x.m x.e) := by
  intro k x hx
  have hk := (List.getElem?_eq_some_iff.1 hx).1
  rcases h.2 with ⟨_, h1⟩ | ⟨g, cap, cur, hv, hb, hg, _, _, _, hr⟩
  · omega
  · have hA : A = some ⟨g, 0, none⟩ := by injection hv
    obtain ⟨c1, c2, c3, c4⟩ := cellsV_at hx
    refine ⟨g, hA, hb, (Array.getElem?_eq_some_iff.1 hg).1, (cell_of_row _ _ _ _ _ _ hg).trans ?_, (cell_of_row _ _ _ _ _ _ hg).trans ?_, (cell_of_row _ _ _ _ _ _ hg).trans ?_, (cell_of_row _ _ _ _ _ _ hg).trans ?_⟩
    · rw [← hr, List.getElem?_take] at c1
      split at c1
      · simpa using c1
      · cases c1
    · rw [← hr, List.getElem?_take] at c2
      split at c2
      · simpa using c2
      · cases c2
    · rw [← hr, List.getElem?_take] at c3
      split at c3
      · simpa using c3
      · cases c3
    · rw [← hr, List.getElem?_take] at c4
      split at c4
      · simpa using c4
      · cases c4
theorem OwnV.lenCap (h : OwnV w base A c ss) : ss.length ≤ c := by
  rcases h.2 with ⟨h1, h2⟩ | ⟨g, cap, cur, h1, _, _, h5, _⟩
  · omega
  · injection h1 with _ _ h1; omega
end

theorem OwnV.lvs {w : World} {base c : Nat} {A : Option Addr} {ss : List Lv} (h : OwnV w base A c ss) (hx : ∀ x ∈ ss, x.In w w.heap.size) : Lvs w w.heap.size A ss.length ss := by
  refine ⟨rfl, hx, fun h0 => ?_⟩
  obtain ⟨g, e, _, hlt, _⟩ := h.rows 0 _ (List.getElem?_eq_getElem h0)
  refine ⟨g, 0, e, hlt, fun k x hk => ?_⟩
  obtain ⟨g', e', _, _, a1, a2, a3, a4⟩ := h.rows k x hk
  rw [e] at e'
  injection e' with e'; injection e' with e'
  subst e'
  rw [Nat.zero_add, Nat.mul_comm k 4]
  exact ⟨a1, a2, a3, a4⟩
/-- one level more, and what was written -/
theorem wpList_appendLv {ops : Array Oper} {rest : List Oper} {o : Oper} {a : Act} {w : World} {Q : Exit → Act → World → Prop}
    (hg : o.guard = none) (s x : Operand) (hop : o.op = Op.call { callee := Callee.builtin Builtin.append, args := #[s, x], argTypes := #[24, 24] })
    (base : Nat) (A : Option Addr) (c p r g : Nat) (y : Lv) (L : List Lv) (hgz : w.heap.size = g) (hs : a.eval s = .slice A p c) (hx : a.eval x = .slice (some ⟨g, 0, none⟩) 1 1)
    (ho : OwnV w base A c L) (hp : L.length = p) (hr : p + 1 = r) (hl : r ≤ 1000000) (hb : base ≤ w.heap.size)
    (hK : ∀ A' c' w', OwnV w' base A' c' (L ++ [y]) → w.grownBy w' (Value.slice A p c).ownBlock → wpList Try.prog ops Q rest (a.put o.dst (.slice A' r c')) w') :
    wpList Try.prog ops Q (o :: rest) a (w.alloc (.cells #[.int .i64 y.k, .int .i64 y.s, .slice y.A y.n y.c, .slice y.B y.m y.e] 57)) := by
  obtain ⟨i, hi, hz, h1, h2⟩ := info_parts infoV
  subst hp
  subst hr
  subst hgz
  refine wpList_append_own (w.alloc (.cells #[.int .i64 y.k, .int .i64 y.s, .slice y.A y.n y.c, .slice y.B y.m y.e] 57)) hg s x 24 hop base 57 i (.agg #[.int .i64 0, .int .i64 0, .slice none 0 0, .slice none 0 0]) 4 64 Try.underlying24 hi hz h1 h2 (by rfl) (by decide) _ L.length (cellsV L) hs (World.ownsRow.alloc ho _) ⟨w.heap.size, 0, none⟩ 1 1 [.int .i64 y.k, .int .i64 y.s, .slice y.A y.n y.c, .slice y.B y.m y.e] hx rfl ?_ (cellsV_one [y]) (by unfold maxLen; omega) (by omega) (by simp; omega) ?_
  · intro j u hj
    match j, hj with
    | 0, hj => simp at hj; subst hj; simp [Addr.add]
    | 1, hj => simp at hj; subst hj; simp [Addr.add]
    | 2, hj => simp at hj; subst hj; simp [Addr.add]
    | 3, hj => simp at hj; subst hj; simp [Addr.add]
    | j + 4, hj => simp at hj
  · intro v' w' hown hgr _
    obtain ⟨A', c', rfl⟩ : ∃ A' c', v' = .slice A' (L.length + 1) c' := by
      rcases hown.2 with ⟨rfl, h0⟩ | ⟨g, cap, cur, rfl, _⟩
      · omega
      · exact ⟨_, _, rfl⟩
    refine hK A' c' w' ?_ ((World.grownBy_alloc w _ _).trans hgr)
    unfold OwnV
    rw [List.length_append, cellsV_append]
    exact hown
/-- what is of another type stays over an append of levels -/
theorem OwnV.ty_kept {w w' : World} {base' c' g p : Nat} {A' : Option Addr} {L : List Lv} {cs : Array Value} {t : TypeId} {fr : Nat × Nat} (hS : OwnV w base' A' c' L) (h : w.heap[g]? = some (.cells cs t fr)) (ht : t ≠ 57) (hg : w.grownBy w' (Value.slice A' p c').ownBlock) : w'.heap[g]? = some (.cells cs t fr) := by
  refine (hg.block g (Array.getElem?_eq_some_iff.1 h).1 ?_).trans h
  rcases hS.heap with h1 | ⟨g', cur, h1, _, hh⟩
  · rw [h1]; simp [Value.ownBlock]
  · rw [h1]
    intro e
    have e' : g = g' := by simpa [Value.ownBlock] using e
    subst e'
    rw [h] at hh
    injection hh with hh
    injection hh with _ hh
    exact ht hh

end Go.Proofs.Yteepiifhmbcciaa
/- What a copy of a stored tensor is, while it is made, and then. -/
namespace Go.Proofs.Yteepiifhmbcciaa
open Go.RowKit

/-- all blocks but those of levels and of tensors are as they were -/
def KeepC (w w' : World) : Prop := ∀ (b : Nat) (cur : Array Value) (t : TypeId), t ≠ 57 → t ≠ 27 → w.heap[b]? = some (.cells cur t (0, 0)) → w'.heap[b]? = w.heap[b]?
theorem KeepC.refl (w : World) : KeepC w w := fun _ _ _ _ _ _ => rfl
theorem KeepC.trans {w w' w'' : World} (h : KeepC w w') (h' : KeepC w' w'') : KeepC w w'' := fun b cur t h1 h2 hb => by
  have e := h b cur t h1 h2 hb
  rw [← e]
  exact h' b cur t h1 h2 (e.trans hb)
theorem KeepC.of_below {w w' : World} (h : Below w.heap.size w w') : KeepC w w' := fun b _ _ _ _ hb => h.block b (lt_of_heap hb)
theorem KeepC.of_set {w : World} {g : Nat} {p : Addr} {cs : Array Value} {t : TypeId} (hg : w.heap[g]? = some (.cells cs t (0, 0))) (ht : t = 57 ∨ t = 27) (hp : p.block = g) (v : Value) : KeepC w (w.setCell p v) := by
  intro b cur t' h1 h2 hb
  refine Below.heap_setCell w p v b ?_
  intro e
  rw [hp] at e
  subst e
  rw [hg] at hb
  injection hb with hb
  injection hb with _ hb
  rcases ht with ht | ht
  · exact h1 (by rw [← hb, ht])
  · exact h2 (by rw [← hb, ht])
theorem KeepC.of_app {w w' : World} {base c p : Nat} {A : Option Addr} {L : List Lv} (hS : OwnV w base A c L) (hg : w.grownBy w' (Value.slice A p c).ownBlock) : KeepC w w' := by
  intro b cur t h1 _ hb
  have := hS.ty_kept hb h1 hg
  rw [this, hb]
theorem ownI_blk {w : World} {base c b : Nat} {e : TypeId} {A : Option Addr} {xs : List Int} (h : OwnI w base e A c xs) (hA : A = some ⟨b, 0, none⟩) : ∃ cur, w.heap[b]? = some (.cells cur e (0, 0)) ∧ base ≤ b := by
  subst hA
  rcases h.1.2 with ⟨h1, _⟩ | ⟨g, cap, cur, h1, h2, h3, _⟩
  · cases h1
  · injection h1 with h1
    injection h1 with h1
    injection h1 with h1
    subst h1
    exact ⟨cur, h3, h2⟩
theorem OwnI.keepC {w w' : World} {base c : Nat} {e : TypeId} {A : Option Addr} {xs : List Int} (h : OwnI w base e A c xs) (h1 : e ≠ 57) (h2 : e ≠ 27) (hk : KeepC w w') : OwnI w' base e A c xs :=
  ownI_same h fun b hb => by
    obtain ⟨cur, hc, _⟩ := ownI_blk h hb
    exact hk b cur e h1 h2 hc
theorem OwnS.keepC {w w' : World} {base c : Nat} {A : Option Addr} {xs : List Sp} (h : OwnS w base A c xs) (hk : KeepC w w') : OwnS w' base A c xs :=
  h.same fun b hb => by
    rcases h.heap with h1 | ⟨g, cur, h1, _, h3⟩
    · rw [h1] at hb; cases hb
    · rw [h1] at hb
      injection hb with hb
      injection hb with hb
      subst hb
      exact hk g cur _ (by decide) (by decide) h3
/-- a level whose lists are of the call's own, in blocks from lo on below hi -/
structure LvO (w : World) (lo hi : Nat) (l : Lv) : Prop where
  pos : OwnI w lo 3 l.A l.c l.xs
  crd : OwnI w lo 3 l.B l.e l.ys
  posHi : ∀ b, l.A = some ⟨b, 0, none⟩ → b < hi
  crdHi : ∀ b, l.B = some ⟨b, 0, none⟩ → b < hi
  apart : ∀ b, l.A = some ⟨b, 0, none⟩ → l.B ≠ some ⟨b, 0, none⟩
  n0 : l.xs.length = l.n
  m0 : l.ys.length = l.m
  k0 : -9223372036854775808 ≤ l.k ∧ l.k ≤ 9223372036854775807
  s0 : -9223372036854775808 ≤ l.s ∧ l.s ≤ 9223372036854775807
  n1 : l.n ≤ 3000
  m1 : l.m ≤ 3000
theorem LvO.keepC {w w' : World} {lo hi : Nat} {l : Lv} (h : LvO w lo hi l) (hk : KeepC w w') : LvO w' lo hi l :=
  ⟨h.pos.keepC (by decide) (by decide) hk, h.crd.keepC (by decide) (by decide) hk, h.posHi, h.crdHi, h.apart, h.n0, h.m0, h.k0, h.s0, h.n1, h.m1⟩
theorem LvO.in_ {w : World} {lo hi : Nat} {l : Lv} (h : LvO w lo hi l) : l.In w w.heap.size := by
  have hp := h.pos.ints
  have hc := h.crd.ints
  have c1 := h.pos.cap
  have c2 := h.crd.cap
  have n1 := h.n1
  have m1 := h.m1
  rw [h.n0] at hp c1
  rw [h.m0] at hc c2
  exact ⟨h.k0, h.s0, hp, hc, by omega, by omega, c1, c2⟩
/-- a level as another one -/
def sameLv (l m : Lv) : Prop := l.k = m.k ∧ l.s = m.s ∧ l.n = m.n ∧ l.m = m.m ∧ l.xs = m.xs ∧ l.ys = m.ys
structure CopyI (w0 : World) (t : Ten) (g : Nat) (A1 : Option Addr) (c1 : Nat) (A2 : Option Addr) (c2 : Nat) (A3 : Option Addr) (c3 : Nat) (k : Nat) (A4 : Option Addr) (c4 : Nat) (ls' : List Lv) (f : Nat → Nat) (wr : World) : Prop where
  bel : Below w0.heap.size w0 wr
  gg : w0.heap.size ≤ g
  box : wr.heap[g]? = some (.cells #[.slice A1 t.n c1, .slice A2 t.fn c2, .slice A4 k c4, .slice A3 t.vn c3] 27 (0, 0))
  i1 : OwnI wr w0.heap.size 3 A1 c1 t.xs
  i2 : OwnS wr w0.heap.size A2 c2 t.fs
  i3 : OwnI wr w0.heap.size 2 A3 c3 t.vs
  i4 : OwnV wr w0.heap.size A4 c4 ls'
  len : ls'.length = k
  rel : ∀ (j : Nat) (l : Lv), ls'[j]? = some l → ∃ m, t.ls[j]? = some m ∧ sameLv l m
  f0 : ∀ b, A1 = some ⟨b, 0, none⟩ → b < f 0
  fb : w0.heap.size ≤ f 0
  fm : ∀ j, f j ≤ f (j + 1)
  fk : f k ≤ wr.heap.size
  rows : ∀ (j : Nat) (l : Lv), ls'[j]? = some l → LvO wr (f j) (f (j + 1)) l
/-- the copy -/
abbrev copyT (t : Ten) (A1 : Option Addr) (c1 : Nat) (A2 : Option Addr) (c2 : Nat) (A3 : Option Addr) (c3 : Nat) (A4 : Option Addr) (c4 : Nat) (ls' : List Lv) : Ten := ⟨A1, t.n, c1, t.xs, A2, t.fn, c2, t.fs, A4, t.ln, c4, ls', A3, t.vn, c3, t.vs⟩
section
variable {w0 wr : World} {t : Ten} {g : Nat} {A1 A2 A3 A4 : Option Addr} {c1 c2 c3 c4 k : Nat} {ls' : List Lv} {f : Nat → Nat}
/-- over a world in which nothing that lay there is turned -/
theorem CopyI.below {w' : World} (h : CopyI w0 t g A1 c1 A2 c2 A3 c3 k A4 c4 ls' f wr) (hb : Below wr.heap.size wr w') : CopyI w0 t g A1 c1 A2 c2 A3 c3 k A4 c4 ls' f w' :=
  ⟨h.bel.trans (hb.mono h.bel.size), h.gg, keep_b hb h.box, h.i1.below hb (Nat.le_refl _), h.i2.below hb (Nat.le_refl _), h.i3.below hb (Nat.le_refl _), h.i4.below hb (Nat.le_refl _), h.len, h.rel, h.f0, h.fb, h.fm, Nat.le_trans h.fk hb.size, fun j l hl => (h.rows j l hl).keepC (KeepC.of_below hb)⟩
/-- the copy's own slices read as a tensor -/
theorem CopyI.in_ {w : World} (h : CopyI w0 t g A1 c1 A2 c2 A3 c3 k A4 c4 ls' f wr) (ht : t.In w w.heap.size) (hk : k = t.ln) : (copyT t A1 c1 A2 c2 A3 c3 A4 c4 ls').In wr wr.heap.size := by
  have e1 := h.i1.ints
  have e3 := h.i3.ints
  have e2 := h.i2.specs ht.form.2.1
  have e4 := h.i4.lvs fun x hx => by
    obtain ⟨j, hj⟩ := List.mem_iff_getElem?.1 hx
    exact (h.rows j x hj).in_
  have k1 := h.i1.cap
  have k2 := h.i2.lenCap
  have k3 := h.i3.cap
  have k4 := h.i4.lenCap
  rw [ht.shape.1] at e1 k1
  rw [ht.vals.1] at e3 k3
  rw [ht.form.1] at e2 k2
  rw [h.len, hk] at e4 k4
  exact ⟨e1, e2, e4, e3, k1, k2, k4, k3, ht.n1, ht.f1, ht.l1, ht.v1⟩
end
end Go.Proofs.Yteepiifhmbcciaa
/- One level more is copied. -/
namespace Go.Proofs.Yteepiifhmbcciaa
open Go.RowKit

theorem lv_set2 {w : World} {g : Nat} {u v x y z : Value} {t : TypeId} (h : w.heap[g]? = some (.cells #[u, v, x, y] t (0, 0))) : (w.setCell ⟨g, 2, none⟩ z).heap[g]? = some (.cells #[u, v, z, y] t (0, 0)) := by
  rw [heap_setCell_same w g 2 _ _ z h]; simp
theorem lv_set3 {w : World} {g : Nat} {u v x y z : Value} {t : TypeId} (h : w.heap[g]? = some (.cells #[u, v, x, y] t (0, 0))) : (w.setCell ⟨g, 3, none⟩ z).heap[g]? = some (.cells #[u, v, x, z] t (0, 0)) := by
  rw [heap_setCell_same w g 3 _ _ z h]; simp
theorem ownV_lt {w : World} {base c b : Nat} {A : Option Addr} {L : List Lv} (h : OwnV w base A c L) (hA : A = some ⟨b, 0, none⟩) : base ≤ b ∧ b < w.heap.size := by
  rcases h.heap with h1 | ⟨g, cur, h1, h2, h3⟩
  · rw [h1] at hA; cases hA
  · rw [h1] at hA
    injection hA with hA
    injection hA with hA
    subst hA
    exact ⟨h2, lt_of_heap h3⟩
theorem ownV_off {w : World} {base c q : Nat} {t : TypeId} {A : Option Addr} {L : List Lv} {cs : Array Value} (h : OwnV w base A c L) (hq : w.heap[q]? = some (.cells cs t (0, 0))) (ht : t ≠ 57) : ∀ b, A = some ⟨b, 0, none⟩ → b ≠ q := by
  intro b hb e'
  subst e'
  rcases h.heap with h1 | ⟨g, cur, h1, _, h3⟩
  · rw [h1] at hb; cases hb
  · rw [h1] at hb
    injection hb with hb
    injection hb with hb
    subst hb
    rw [hq] at h3
    injection h3 with h3
    injection h3 with _ h3
    exact ht h3
section
variable {w0 wr : World} {t : Ten} {g : Nat} {A1 A2 A3 A4 : Option Addr} {c1 c2 c3 c4 k : Nat} {ls' : List Lv} {f : Nat → Nat}
/-- over a world in which the copy's own blocks are as they were -/
theorem CopyI.other {w' : World} (h : CopyI w0 t g A1 c1 A2 c2 A3 c3 k A4 c4 ls' f wr) (hb : Below w0.heap.size w0 w') (hs : wr.heap.size ≤ w'.heap.size) (hk : KeepC wr w') (hx : w'.heap[g]? = wr.heap[g]?) (hv : ∀ b, A4 = some ⟨b, 0, none⟩ → w'.heap[b]? = wr.heap[b]?) : CopyI w0 t g A1 c1 A2 c2 A3 c3 k A4 c4 ls' f w' :=
  ⟨hb, h.gg, hx.trans h.box, h.i1.keepC (by decide) (by decide) hk, h.i2.keepC hk, h.i3.keepC (by decide) (by decide) hk, h.i4.same hv, h.len, h.rel, h.f0, h.fb, h.fm, Nat.le_trans h.fk hs, fun j l hl => (h.rows j l hl).keepC hk⟩
/-- where a level is being copied: its variable at lb -/
structure MidW (wr w' : World) (lb : Nat) (u v x y : Value) : Prop where
  size : wr.heap.size ≤ w'.heap.size
  keep : ∀ b, b < lb → w'.heap[b]? = wr.heap[b]?
  keepC : KeepC wr w'
  box : w'.heap[lb]? = some (.cells #[u, v, x, y] 57 (0, 0))
  bel : Below lb wr w'
theorem MidW.start {u v x y : Value} (wr : World) : MidW wr (wr.alloc (.cells #[u, v, x, y] 57)) wr.heap.size u v x y := by
  have hb := lvBelow wr (.cells #[u, v, x, y] 57)
  exact ⟨hb.size, fun b hb' => hb.block b hb', KeepC.of_below hb, heap_alloc_new _ _, hb⟩
theorem MidW.below {w' w'' : World} {lb : Nat} {u v x y : Value} (h : MidW wr w' lb u v x y) (hl : lb = wr.heap.size) (hb : Below w'.heap.size w' w'') : MidW wr w'' lb u v x y :=
  ⟨Nat.le_trans h.size hb.size, fun b hb' => (hb.block b (by have := h.size; omega)).trans (h.keep b hb'), h.keepC.trans (KeepC.of_below hb), keep_b hb h.box, h.bel.trans (hb.mono (by have := h.size; omega))⟩
theorem MidW.set2 {w' : World} {lb : Nat} {u v x y : Value} (h : MidW wr w' lb u v x y) (z : Value) : MidW wr (w'.setCell ⟨lb, 2, none⟩ z) lb u v z y :=
  ⟨by have h2 := h.size; rw [World.size_setCell]; exact h2, fun b hb => (Below.heap_setCell _ _ _ _ (by show b ≠ lb; omega)).trans (h.keep b hb), h.keepC.trans (KeepC.of_set h.box (.inl rfl) rfl z), lv_set2 h.box, h.bel.setCell (p := ⟨lb, 2, none⟩) (Nat.le_refl _) z⟩
theorem MidW.set3 {w' : World} {lb : Nat} {u v x y : Value} (h : MidW wr w' lb u v x y) (z : Value) : MidW wr (w'.setCell ⟨lb, 3, none⟩ z) lb u v x z :=
  ⟨by have h2 := h.size; rw [World.size_setCell]; exact h2, fun b hb => (Below.heap_setCell _ _ _ _ (by show b ≠ lb; omega)).trans (h.keep b hb), h.keepC.trans (KeepC.of_set h.box (.inl rfl) rfl z), lv_set3 h.box, h.bel.setCell (p := ⟨lb, 3, none⟩) (Nat.le_refl _) z⟩
/-- the copy so far, while a level is being copied -/
theorem CopyI.mid {w' : World} {u v x y : Value} (h : CopyI w0 t g A1 c1 A2 c2 A3 c3 k A4 c4 ls' f wr) (hm : MidW wr w' wr.heap.size u v x y) : CopyI w0 t g A1 c1 A2 c2 A3 c3 k A4 c4 ls' f w' :=
  h.other (h.bel.trans (hm.bel.mono h.bel.size)) hm.size hm.keepC (hm.keep g (lt_of_heap h.box)) fun b hb => hm.keep b (ownV_lt h.i4 hb).2
theorem CopyI.step {w5 w6 : World} {lo : Nat} {A7 : Option Addr} {c7 : Nat} {y l : Lv} (h : CopyI w0 t g A1 c1 A2 c2 A3 c3 k A4 c4 ls' f w5) (hlo : f k ≤ lo) (hy : LvO w5 lo w5.heap.size y) (hl : t.ls[k]? = some l) (hsm : sameLv y l)
    (HO7 : OwnV w6 w0.heap.size A7 c7 (ls' ++ [y])) (HG7 : w5.grownBy w6 (Value.slice A4 k c4).ownBlock) :
    CopyI w0 t g A1 c1 A2 c2 A3 c3 (k + 1) A7 c7 (ls' ++ [y]) (fun j => if j ≤ k then f j else w5.heap.size) (w6.setCell ⟨g, 2, none⟩ (.slice A7 (k + 1) c7)) := by
  have hk6 := KeepC.of_app h.i4 HG7
  have hb6 := h.i4.ty_kept h.box (by decide) HG7
  have hk7 : KeepC w6 (w6.setCell ⟨g, 2, none⟩ (.slice A7 (k + 1) c7)) := KeepC.of_set hb6 (.inr rfl) rfl _
  have hkk := hk6.trans hk7
  have hgr : Below w0.heap.size w0 w6 := h.bel.grown HG7 h.bel.size (fun b hb => (World.ownsRow.lt h.i4 b (by rw [h.len]; exact hb)).1)
  have hsz : w5.heap.size ≤ w6.heap.size := HG7.size
  have hlen := h.len
  refine ⟨hgr.setCell (p := ⟨g, 2, none⟩) h.gg _, h.gg, by rw [lv_set2 hb6], h.i1.keepC (by decide) (by decide) hkk, h.i2.keepC hkk, h.i3.keepC (by decide) (by decide) hkk, HO7.same fun b hb => Below.heap_setCell _ _ _ _ (ownV_off HO7 hb6 (by decide) b hb), by rw [List.length_append, hlen]; rfl, fun j x hx => ?_, fun b hb => ?_, by rw [if_pos (Nat.zero_le _)]; exact h.fb, fun j => ?_, ?_, fun j x hx => ?_⟩
  · rw [List.getElem?_append] at hx
    split at hx
    · exact h.rel j x hx
    · next hj =>
      have hj0 : j - ls'.length = 0 := by
        have := (List.getElem?_eq_some_iff.1 hx).1
        simp at this; omega
      rw [hj0] at hx
      simp at hx
      subst hx
      obtain rfl : j = k := by omega
      exact ⟨l, hl, hsm⟩
  · rw [if_pos (Nat.zero_le _)]; exact h.f0 b hb
  · by_cases e1 : j + 1 ≤ k
    · rw [if_pos (by omega), if_pos e1]; exact h.fm j
    · by_cases e2 : j ≤ k
      · rw [if_pos e2, if_neg e1]
        obtain rfl : j = k := by omega
        exact h.fk
      · rw [if_neg e2, if_neg e1]; exact Nat.le_refl _
  · rw [if_neg (by omega), World.size_setCell]; exact hsz
  · rw [List.getElem?_append] at hx
    split at hx
    · next hj =>
      rw [if_pos (by omega), if_pos (by omega)]
      exact (h.rows j x hx).keepC hkk
    · next hj =>
      have hj0 : j - ls'.length = 0 := by
        have := (List.getElem?_eq_some_iff.1 hx).1
        simp at this; omega
      rw [hj0] at hx
      simp at hx
      subst hx
      obtain rfl : j = k := by omega
      rw [if_pos (Nat.le_refl _), if_neg (by omega)]
      have hy' := hy.keepC hkk
      exact ⟨hy'.pos.mono hlo, hy'.crd.mono hlo, hy'.posHi, hy'.crdHi, hy'.apart, hy'.n0, hy'.m0, hy'.k0, hy'.s0, hy'.n1, hy'.m1⟩
end
end Go.Proofs.Yteepiifhmbcciaa
/- Tensors that are bent: what Check tells of them. -/
namespace Go.Proofs.Yteepiifhmbcciaa
open Go.RowKit

/-- all blocks of other types are as they were -/
def KeepT (ty : TypeId) (w w' : World) : Prop := ∀ (b : Nat) (cur : Array Value) (t : TypeId), t ≠ ty → w.heap[b]? = some (.cells cur t (0, 0)) → w'.heap[b]? = w.heap[b]?
section
variable {w w' : World} {ty : TypeId} {base c : Nat} {A : Option Addr}
theorem KeepT.of_set {g : Nat} {p : Addr} {cs : Array Value} (hg : w.heap[g]? = some (.cells cs ty (0, 0))) (hp : p.block = g) (v : Value) : KeepT ty w (w.setCell p v) := by
  intro b cur t' h1 hb
  refine Below.heap_setCell w p v b ?_
  intro e
  rw [hp] at e
  subst e
  rw [hg] at hb
  injection hb with hb
  injection hb with _ hb
  exact h1 hb.symm
theorem KeepT.of_app {p : Nat} {xs : List Int} (hS : OwnI w base ty A c xs) (hg : w.grownBy w' (Value.slice A p c).ownBlock) : KeepT ty w w' := by
  intro b cur t h1 hb
  refine hg.block b (lt_of_heap hb) ?_
  rcases Option.eq_none_or_eq_some A with rfl | ⟨ad, rfl⟩
  · simp [Value.ownBlock]
  · rcases hS.1.2 with ⟨h2, _⟩ | ⟨g, cap, cur', h2, _, h3, _⟩
    · cases h2
    · injection h2 with h2
      injection h2 with h2
      subst h2
      simp only [Value.ownBlock]
      intro e
      injection e with e
      subst e
      rw [hb] at h3
      injection h3 with h3
      injection h3 with _ h3
      exact h1 h3
theorem OwnI.keepT {e : TypeId} {xs : List Int} (h : OwnI w base e A c xs) (h1 : e ≠ ty) (hk : KeepT ty w w') : OwnI w' base e A c xs :=
  ownI_same h fun b hb => by
    obtain ⟨cur, hc, _⟩ := ownI_blk h hb
    exact hk b cur e h1 hc
theorem OwnS.keepT {xs : List Sp} (h : OwnS w base A c xs) (h1 : 60 ≠ ty) (hk : KeepT ty w w') : OwnS w' base A c xs :=
  h.same fun b hb => by
    rcases h.heap with h2 | ⟨g, cur, h2, _, h3⟩
    · rw [h2] at hb; cases hb
    · rw [h2] at hb
      injection hb with hb
      injection hb with hb
      subst hb
      exact hk g cur _ h1 h3
theorem OwnV.keepT {xs : List Lv} (h : OwnV w base A c xs) (h1 : 57 ≠ ty) (hk : KeepT ty w w') : OwnV w' base A c xs :=
  h.same fun b hb => by
    rcases h.heap with h2 | ⟨g, cur, h2, _, h3⟩
    · rw [h2] at hb; cases hb
    · rw [h2] at hb
      injection hb with hb
      injection hb with hb
      subst hb
      exact hk g cur _ h1 h3
theorem LvO.keepT {lo hi : Nat} {l : Lv} (h : LvO w lo hi l) (h1 : 3 ≠ ty) (hk : KeepT ty w w') : LvO w' lo hi l :=
  ⟨h.pos.keepT h1 hk, h.crd.keepT h1 hk, h.posHi, h.crdHi, h.apart, h.n0, h.m0, h.k0, h.s0, h.n1, h.m1⟩
end
theorem cellsV_set1 {ls : List Lv} {R : Nat} {l : Lv} (h : ls[R]? = some l) (z : Int) : (cellsV ls).set (4 * R + 1) (.int .i64 z) = cellsV (ls.set R { l with s := z }) := by
  induction ls generalizing R with
  | nil => simp at h
  | cons y ls ih =>
    cases R with
    | zero => simp at h; subst h; rfl
    | succ R =>
      have := ih (R := R) (by simpa using h)
      rw [List.set_cons_succ, cellsV, cellsV, ← this, show 4 * (R + 1) + 1 = (4 * R + 1) + 1 + 1 + 1 + 1 by omega]
      rfl
theorem OwnV.set1 {w : World} {base c g R : Nat} {ls : List Lv} {l : Lv} (h : OwnV w base (some ⟨g, 0, none⟩) c ls) (hl : ls[R]? = some l) (z : Int) : OwnV (w.setCell ⟨g, 4 * R + 1, none⟩ (.int .i64 z)) base (some ⟨g, 0, none⟩) c (ls.set R { l with s := z }) := by
  have := (World.ownsRow.stored h (4 * R + 1) (.int .i64 z)).1
  rw [cellsV_set1 hl] at this
  unfold OwnV
  rw [List.length_set]
  exact this
/-- levels that are as others are, one by one -/
def SameLs (ls ls' : List Lv) : Prop := ls'.length = ls.length ∧ ∀ (j : Nat) (l m : Lv), ls'[j]? = some l → ls[j]? = some m → l.k = m.k ∧ l.s = m.s ∧ l.xs = m.xs ∧ l.ys = m.ys
section
variable {ls ls' : List Lv} {fs : List Sp} {zs : List Int} {k : Nat}
theorem ahN_congr (n : Nat) (hn : n ≤ ls.length) (hl : ls'.length = ls.length) (h : ∀ (j : Nat) (l m : Lv), j < n → ls'[j]? = some l → ls[j]? = some m → l.k = m.k ∧ l.s = m.s ∧ l.xs = m.xs ∧ l.ys = m.ys) : ∀ k, k ≤ n → ahN ls' k = ahN ls k := by
  intro k
  induction k with
  | zero => intro _; rfl
  | succ k ih =>
    intro hk
    obtain ⟨m, hm⟩ : ∃ m, ls[k]? = some m := ⟨_, List.getElem?_eq_getElem (by omega)⟩
    obtain ⟨l, hl'⟩ : ∃ l, ls'[k]? = some l := ⟨_, List.getElem?_eq_getElem (by omega)⟩
    obtain ⟨e1, e2, e3, e4⟩ := h k l m (by omega) hl' hm
    rw [ahN_succ hl', ahN_succ hm, ih (by omega), e1, e2, e4]
theorem levE_congr (n : Nat) (hn : n ≤ ls.length) (hl : ls'.length = ls.length) (h : ∀ (j : Nat) (l m : Lv), j < n → ls'[j]? = some l → ls[j]? = some m → l.k = m.k ∧ l.s = m.s ∧ l.xs = m.xs ∧ l.ys = m.ys) : ∀ k, k ≤ n → levE ls' k = levE ls k := by
  intro k
  induction k with
  | zero => intro _; rfl
  | succ k ih =>
    intro hk
    obtain ⟨m, hm⟩ : ∃ m, ls[k]? = some m := ⟨_, List.getElem?_eq_getElem (by omega)⟩
    obtain ⟨l, hl'⟩ : ∃ l, ls'[k]? = some l := ⟨_, List.getElem?_eq_getElem (by omega)⟩
    obtain ⟨e1, e2, e3, e4⟩ := h k l m (by omega) hl' hm
    rw [levE, levE, ih (by omega), hl', hm]
    simp only
    rw [e1, e2, e3, e4, ahN_congr n hn hl h k (by omega)]
theorem SameLs.of (h : SameLs ls ls') (ho : OfP ls fs zs) : OfP ls' fs zs := by
  refine ⟨h.1.trans ho.1, fun k l f z hl hf hz => ?_⟩
  obtain ⟨m, hm⟩ : ∃ m, ls[k]? = some m := ⟨_, List.getElem?_eq_getElem (by have := (List.getElem?_eq_some_iff.1 hl).1; have := h.1; omega)⟩
  obtain ⟨e1, e2, _, _⟩ := h.2 k l m hl hm
  rw [e1, e2]
  exact ho.2 k m f z hm hf hz
end
/-- another number of numbers -/
theorem bend_vn {t t' : Ten} (h : tenE t = 0) (hx : t'.xs = t.xs) (hf : t'.fs = t.fs) (hn : t'.ln = t.ln) (hs : SameLs t.ls t'.ls) (hll : t.ls.length = t.ln) (hv : t'.vn ≠ t.vn) : tenE t' = 1 := by
  obtain ⟨q1, q2, q3, q4, q5⟩ := tenE_small h
  have ho := hs.of q2
  have e1 := ahN_congr t.ls.length (Nat.le_refl _) hs.1 (fun j l m _ h1 h2 => hs.2 j l m h1 h2) t.ln (by omega)
  have e2 := levE_congr t.ls.length (Nat.le_refl _) hs.1 (fun j l m _ h1 h2 => hs.2 j l m h1 h2) t.ln (by omega)
  unfold tenE
  rw [hx, hf, hn, if_neg (by rw [q1]; simp), if_pos (pB_t ho), if_neg (by rw [e2, q3]; simp), if_pos (by rw [e1, ← q4]; exact hv)]
/-- another size of a level -/
theorem bend_size {t t' : Ten} (h : tenE t = 0) (hx : t'.xs = t.xs) (hf : t'.fs = t.fs) {R : Nat} {l m : Lv} (hl : t'.ls[R]? = some l) (hm : t.ls[R]? = some m) (hs : l.s ≠ m.s) : tenE t' = 1 := by
  obtain ⟨q1, q2, q3, q4, q5⟩ := tenE_small h
  have hno : ¬ OfP t'.ls t'.fs (sizesL t'.xs t'.fs) := by
    intro ho
    rw [hx, hf] at ho
    obtain ⟨f, hff⟩ := q2.spec hm
    obtain ⟨z, hz⟩ : ∃ z, (sizesL t.xs t.fs)[R]? = some z := ⟨_, List.getElem?_eq_getElem (by rw [sizesL_length]; exact (List.getElem?_eq_some_iff.1 hff).1)⟩
    have h1 := (ho.2 R l f z hl hff hz).2
    have h2 := (q2.2 R m f z hm hff hz).2
    omega
  unfold tenE
  rw [if_neg (by rw [hx, hf, q1]; simp), if_neg (by rw [pB_f hno]; simp)]
/-- a place that is none -/
theorem lvF_out {K S a : Int} {xs ys : List Int} {i : Nat} (h : lvF K S xs ys a = 0) (hi : i < ys.length) : lvF K S xs (ys.set i S) a = 3 := by
  obtain ⟨h1, h2, h3, h4, h5, h6⟩ := lvF_pos h
  have hT : ToldP K xs (ys.set i S) a := by
    refine ⟨fun hk => ?_, fun hk => ?_, fun k1 k2 k3 => ?_⟩
    · rw [List.length_set]; exact h2.1 hk
    · rw [List.length_set]; exact h2.2.1 hk
    · rw [List.length_set]; exact h2.2.2 k1 k2 k3
  have hM : manyF K S (ys.set i S) a = manyF K S ys a := by unfold manyF; rw [List.length_set]
  have hI : ¬ InsP S (ys.set i S) := by
    intro hI
    have := hI S (List.mem_of_getElem? (List.getElem?_set_self hi))
    omega
  unfold lvF
  rw [if_pos (pB_t ⟨h1, hT⟩), hM, List.length_set, if_neg (by omega), if_neg (by rw [pB_f hI]; simp)]
theorem bend_crd {t t' : Ten} (h : tenE t = 0) (hx : t'.xs = t.xs) (hf : t'.fs = t.fs) (hn : t'.ln = t.ln) (hll : t.ls.length = t.ln) (hlen : t'.ls.length = t.ls.length) {R i : Nat} {m : Lv} (hm : t.ls[R]? = some m) (hi : i < m.ys.length)
    (hoth : ∀ (j : Nat) (l l' : Lv), j ≠ R → t'.ls[j]? = some l' → t.ls[j]? = some l → l'.k = l.k ∧ l'.s = l.s ∧ l'.xs = l.xs ∧ l'.ys = l.ys) {l : Lv} (hl : t'.ls[R]? = some l) (e1 : l.k = m.k) (e2 : l.s = m.s) (e3 : l.xs = m.xs) (e4 : l.ys = m.ys.set i m.s) : tenE t' = 3 := by
  obtain ⟨q1, q2, q3, q4, q5⟩ := tenE_small h
  have hRl := (List.getElem?_eq_some_iff.1 hm).1
  have ho : OfP t'.ls t'.fs (sizesL t'.xs t'.fs) := by
    rw [hx, hf]
    refine ⟨hlen.trans q2.1, fun k l' f z hl' hff hz => ?_⟩
    by_cases e : k = R
    · subst e
      rw [hl] at hl'; cases hl'
      rw [e1, e2]
      exact q2.2 k m f z hm hff hz
    · obtain ⟨lk, hlk⟩ : ∃ lk, t.ls[k]? = some lk := ⟨_, List.getElem?_eq_getElem (by have := (List.getElem?_eq_some_iff.1 hl').1; omega)⟩
      obtain ⟨d1, d2, _, _⟩ := hoth k lk l' e hl' hlk
      rw [d1, d2]
      exact q2.2 k lk f z hlk hff hz
  have c1 := ahN_congr R (by omega) hlen (fun j l' m' hj h1 h2 => hoth j m' l' (by omega) h1 h2) R (Nat.le_refl _)
  have c2 := levE_congr R (by omega) hlen (fun j l' m' hj h1 h2 => hoth j m' l' (by omega) h1 h2) R (Nat.le_refl _)
  have h0 : levE t.ls R = 0 := levE_ok q3 (by omega)
  have hlv : lvF m.k m.s m.xs m.ys (ahN t.ls R) = 0 := by
    have := levE_ok q3 (k := R + 1) (by omega)
    rw [levE_succ hm h0] at this
    exact this
  have hE : levE t'.ls (R + 1) = 3 := by
    rw [levE_succ hl (by rw [c2, h0]), e1, e2, e3, e4, c1]
    exact lvF_out hlv hi
  have hE2 : levE t'.ls t.ln = 3 := by rw [levE_le (k := R + 1) (by omega) (by rw [hE]; decide), hE]
  unfold tenE
  rw [if_neg (by rw [hx, hf, q1]; simp), if_pos (pB_t ho), hn, if_pos (by rw [hE2]; decide), hE2]
end Go.Proofs.Yteepiifhmbcciaa
