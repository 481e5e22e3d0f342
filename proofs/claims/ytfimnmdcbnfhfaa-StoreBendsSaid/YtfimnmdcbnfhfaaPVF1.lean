/- What holds while the document's Copy copies three slices at once, whichever operations have come up. -/
import Derived.Test.YtfimnmdcbnfhfaaG13
import Derived.Test.YtfimnmdcbnfhfaaPVOwnS
namespace Go.Proofs.Ytfimnmdcbnfhfaa
open Go.RowKit

theorem ownI_off {w : World} {base c q : Nat} {e t : TypeId} {A : Option Addr} {xs : List Int} {cs : Array Value} (h : OwnI w base e A c xs) (hq : w.heap[q]? = some (.cells cs t (0, 0))) (ht : t ≠ e) : ∀ b, A = some ⟨b, 0, none⟩ → b ≠ q := by
  intro b hb e'
  subst e'
  subst hb
  rcases h.1.2 with ⟨h1, _⟩ | ⟨g, cap, cur, h1, _, h3, _⟩
  · cases h1
  · injection h1 with h1
    injection h1 with h1
    injection h1 with h1
    subst h1
    rw [hq] at h3
    injection h3 with h3
    injection h3 with _ h3
    exact ht h3
theorem ownI_same {w w' : World} {base c : Nat} {e : TypeId} {A : Option Addr} {xs : List Int} (h : OwnI w base e A c xs) (hq : ∀ b, A = some ⟨b, 0, none⟩ → w'.heap[b]? = w.heap[b]?) : OwnI w' base e A c xs := by
  refine ⟨⟨h.1.1, ?_⟩, h.2⟩
  rcases h.1.2 with h1 | ⟨b, cap, cur, h1, h2, h3, h4⟩
  · exact .inl h1
  · refine .inr ⟨b, cap, cur, h1, h2, ?_, h4⟩
    injection h1 with h1
    rw [hq b h1]; exact h3
theorem ownS_off {w : World} {base c q : Nat} {t : TypeId} {A : Option Addr} {xs : List Sp} {cs : Array Value} (h : OwnS w base A c xs) (hq : w.heap[q]? = some (.cells cs t (0, 0))) (ht : t ≠ 66) : ∀ b, A = some ⟨b, 0, none⟩ → b ≠ q := by
  intro b hb e'
  subst e'
  rcases h.heap with h1 | ⟨g, cur, h1, _, h3⟩
  · rw [h1] at hb; cases hb
  · rw [h1] at hb
    injection hb with hb
    injection hb with hb
    subst hb
    rw [hq] at h3
    injection h3 with h3
    injection h3 with _ h3
    exact ht h3
theorem set_four (w : World) (g : Nat) (y0 y1 y2 y3 a b c d : Value) (t : TypeId) (h : w.heap[g]? = some (.cells #[y0, y1, y2, y3] t (0, 0))) :
    ((((w.setCell ⟨g, 0, none⟩ a).setCell ⟨g, 1, none⟩ b).setCell ⟨g, 2, none⟩ c).setCell ⟨g, 3, none⟩ d).heap[g]? = some (.cells #[a, b, c, d] t (0, 0)) ∧ (∀ k, k ≠ g → ((((w.setCell ⟨g, 0, none⟩ a).setCell ⟨g, 1, none⟩ b).setCell ⟨g, 2, none⟩ c).setCell ⟨g, 3, none⟩ d).heap[k]? = w.heap[k]?) ∧ ∀ B, B ≤ g → Below B w ((((w.setCell ⟨g, 0, none⟩ a).setCell ⟨g, 1, none⟩ b).setCell ⟨g, 2, none⟩ c).setCell ⟨g, 3, none⟩ d) := by
  refine ⟨?_, fun k hk => ?_, fun B hB => ?_⟩
  · have h1 := heap_setCell_same w g 0 _ _ a h
    have h2 := heap_setCell_same _ g 1 _ _ b h1
    have h3 := heap_setCell_same _ g 2 _ _ c h2
    have h4 := heap_setCell_same _ g 3 _ _ d h3
    rw [h4]
    simp
  · rw [Below.heap_setCell _ ⟨g, 3, none⟩ _ _ hk, Below.heap_setCell _ ⟨g, 2, none⟩ _ _ hk, Below.heap_setCell _ ⟨g, 1, none⟩ _ _ hk, Below.heap_setCell _ ⟨g, 0, none⟩ _ _ hk]
  · exact (((((Below.refl B w).setCell (p := ⟨g, 0, none⟩) hB a).setCell (p := ⟨g, 1, none⟩) hB b).setCell (p := ⟨g, 2, none⟩) hB c).setCell (p := ⟨g, 3, none⟩) hB d)
structure F1 (wd : World) (t : Ten) (bt : Nat) (L : Array Bool) (v6 v7 v8 v9 v10 v11 v12 v13 v14 v15 v3 : Value) (w : World) : Prop where
  bel : Below wd.heap.size wd w
  f0 : on L 0 → v6 = .pointer (some ⟨bt, 0, none⟩)
  f1 : on L 1 → v7 = .slice t.A t.n t.c
  f2 : on L 2 → ∃ A c, v8 = .slice A t.n c ∧ OwnI w wd.heap.size 3 A c t.xs
  f3 : on L 3 → v9 = .pointer (some ⟨bt, 1, none⟩)
  f4 : on L 4 → v10 = .slice t.F t.fn t.fc
  f5 : on L 5 → ∃ A c, v11 = .slice A t.fn c ∧ OwnS w wd.heap.size A c t.fs
  f6 : on L 6 → v12 = .pointer (some ⟨bt, 3, none⟩)
  f7 : on L 7 → v13 = .slice t.V t.vn t.vc
  f8 : on L 8 → ∃ A c, v14 = .slice A t.vn c ∧ OwnI w wd.heap.size 2 A c t.vs
  f9 : on L 9 → on L 2 ∧ on L 5 ∧ on L 8 ∧ v15 = .agg #[v8, v11, .slice none 0 0, v14]
  f10 : on L 10 → ∃ g y0 y1 y2 y3, v3 = .pointer (some ⟨g, 0, none⟩) ∧ wd.heap.size ≤ g ∧ w.heap[g]? = some (.cells #[y0, y1, y2, y3] 34 (0, 0))
  f11 : on L 11 → on L 9 ∧ on L 10 ∧ ∀ g, v3 = .pointer (some ⟨g, 0, none⟩) → w.heap[g]? = some (.cells #[v8, v11, .slice none 0 0, v14] 34 (0, 0))
section
variable {wd w w' : World} {t : Ten} {bt : Nat} {L : Array Bool} {v6 v7 v8 v9 v10 v11 v12 v13 v14 v15 v3 : Value}
theorem F1.world (F : F1 wd t bt L v6 v7 v8 v9 v10 v11 v12 v13 v14 v15 v3 w) (hb : Below w.heap.size w w') : F1 wd t bt L v6 v7 v8 v9 v10 v11 v12 v13 v14 v15 v3 w' := by
  refine ⟨F.bel.trans (hb.mono F.bel.size), F.f0, F.f1, fun h => ?_, F.f3, F.f4, fun h => ?_, F.f6, F.f7, fun h => ?_, F.f9, fun h => ?_, fun h => ?_⟩
  · obtain ⟨A, c, h1, h2⟩ := F.f2 h
    exact ⟨A, c, h1, h2.below hb (Nat.le_refl _)⟩
  · obtain ⟨A, c, h1, h2⟩ := F.f5 h
    exact ⟨A, c, h1, h2.below hb (Nat.le_refl _)⟩
  · obtain ⟨A, c, h1, h2⟩ := F.f8 h
    exact ⟨A, c, h1, h2.below hb (Nat.le_refl _)⟩
  · obtain ⟨g, y0, y1, y2, y3, h1, h2, h3⟩ := F.f10 h
    exact ⟨g, y0, y1, y2, y3, h1, h2, keep_b hb h3⟩
  · obtain ⟨h1, h2, h3⟩ := F.f11 h
    exact ⟨h1, h2, fun g hg => keep_b hb (h3 g hg)⟩

theorem F1.s0 (F : F1 wd t bt L v6 v7 v8 v9 v10 v11 v12 v13 v14 v15 v3 w) : F1 wd t bt (L.setIfInBounds 0 true) (.pointer (some ⟨bt, 0, none⟩)) v7 v8 v9 v10 v11 v12 v13 v14 v15 v3 w :=
  ⟨F.bel, fun _ => rfl,
    fun h => F.f1 (on_of h (by decide)),
    fun h => F.f2 (on_of h (by decide)),
    fun h => F.f3 (on_of h (by decide)),
    fun h => F.f4 (on_of h (by decide)),
    fun h => F.f5 (on_of h (by decide)),
    fun h => F.f6 (on_of h (by decide)),
    fun h => F.f7 (on_of h (by decide)),
    fun h => F.f8 (on_of h (by decide)),
    fun h => by obtain ⟨h1, h2, h3, h4⟩ := F.f9 (on_of h (by decide)); exact ⟨on_set h1, on_set h2, on_set h3, h4⟩,
    fun h => F.f10 (on_of h (by decide)),
    fun h => by obtain ⟨h1, h2, h3⟩ := F.f11 (on_of h (by decide)); exact ⟨on_set h1, on_set h2, h3⟩⟩
theorem F1.s1 (F : F1 wd t bt L v6 v7 v8 v9 v10 v11 v12 v13 v14 v15 v3 w) : F1 wd t bt (L.setIfInBounds 1 true) v6 (.slice t.A t.n t.c) v8 v9 v10 v11 v12 v13 v14 v15 v3 w :=
  ⟨F.bel, fun h => F.f0 (on_of h (by decide)),
    fun _ => rfl,
    fun h => F.f2 (on_of h (by decide)),
    fun h => F.f3 (on_of h (by decide)),
    fun h => F.f4 (on_of h (by decide)),
    fun h => F.f5 (on_of h (by decide)),
    fun h => F.f6 (on_of h (by decide)),
    fun h => F.f7 (on_of h (by decide)),
    fun h => F.f8 (on_of h (by decide)),
    fun h => by obtain ⟨h1, h2, h3, h4⟩ := F.f9 (on_of h (by decide)); exact ⟨on_set h1, on_set h2, on_set h3, h4⟩,
    fun h => F.f10 (on_of h (by decide)),
    fun h => by obtain ⟨h1, h2, h3⟩ := F.f11 (on_of h (by decide)); exact ⟨on_set h1, on_set h2, h3⟩⟩
theorem F1.s3 (F : F1 wd t bt L v6 v7 v8 v9 v10 v11 v12 v13 v14 v15 v3 w) : F1 wd t bt (L.setIfInBounds 3 true) v6 v7 v8 (.pointer (some ⟨bt, 1, none⟩)) v10 v11 v12 v13 v14 v15 v3 w :=
  ⟨F.bel, fun h => F.f0 (on_of h (by decide)),
    fun h => F.f1 (on_of h (by decide)),
    fun h => F.f2 (on_of h (by decide)),
    fun _ => rfl,
    fun h => F.f4 (on_of h (by decide)),
    fun h => F.f5 (on_of h (by decide)),
    fun h => F.f6 (on_of h (by decide)),
    fun h => F.f7 (on_of h (by decide)),
    fun h => F.f8 (on_of h (by decide)),
    fun h => by obtain ⟨h1, h2, h3, h4⟩ := F.f9 (on_of h (by decide)); exact ⟨on_set h1, on_set h2, on_set h3, h4⟩,
    fun h => F.f10 (on_of h (by decide)),
    fun h => by obtain ⟨h1, h2, h3⟩ := F.f11 (on_of h (by decide)); exact ⟨on_set h1, on_set h2, h3⟩⟩
theorem F1.s4 (F : F1 wd t bt L v6 v7 v8 v9 v10 v11 v12 v13 v14 v15 v3 w) : F1 wd t bt (L.setIfInBounds 4 true) v6 v7 v8 v9 (.slice t.F t.fn t.fc) v11 v12 v13 v14 v15 v3 w :=
  ⟨F.bel, fun h => F.f0 (on_of h (by decide)),
    fun h => F.f1 (on_of h (by decide)),
    fun h => F.f2 (on_of h (by decide)),
    fun h => F.f3 (on_of h (by decide)),
    fun _ => rfl,
    fun h => F.f5 (on_of h (by decide)),
    fun h => F.f6 (on_of h (by decide)),
    fun h => F.f7 (on_of h (by decide)),
    fun h => F.f8 (on_of h (by decide)),
    fun h => by obtain ⟨h1, h2, h3, h4⟩ := F.f9 (on_of h (by decide)); exact ⟨on_set h1, on_set h2, on_set h3, h4⟩,
    fun h => F.f10 (on_of h (by decide)),
    fun h => by obtain ⟨h1, h2, h3⟩ := F.f11 (on_of h (by decide)); exact ⟨on_set h1, on_set h2, h3⟩⟩
theorem F1.s6 (F : F1 wd t bt L v6 v7 v8 v9 v10 v11 v12 v13 v14 v15 v3 w) : F1 wd t bt (L.setIfInBounds 6 true) v6 v7 v8 v9 v10 v11 (.pointer (some ⟨bt, 3, none⟩)) v13 v14 v15 v3 w :=
  ⟨F.bel, fun h => F.f0 (on_of h (by decide)),
    fun h => F.f1 (on_of h (by decide)),
    fun h => F.f2 (on_of h (by decide)),
    fun h => F.f3 (on_of h (by decide)),
    fun h => F.f4 (on_of h (by decide)),
    fun h => F.f5 (on_of h (by decide)),
    fun _ => rfl,
    fun h => F.f7 (on_of h (by decide)),
    fun h => F.f8 (on_of h (by decide)),
    fun h => by obtain ⟨h1, h2, h3, h4⟩ := F.f9 (on_of h (by decide)); exact ⟨on_set h1, on_set h2, on_set h3, h4⟩,
    fun h => F.f10 (on_of h (by decide)),
    fun h => by obtain ⟨h1, h2, h3⟩ := F.f11 (on_of h (by decide)); exact ⟨on_set h1, on_set h2, h3⟩⟩
theorem F1.s7 (F : F1 wd t bt L v6 v7 v8 v9 v10 v11 v12 v13 v14 v15 v3 w) : F1 wd t bt (L.setIfInBounds 7 true) v6 v7 v8 v9 v10 v11 v12 (.slice t.V t.vn t.vc) v14 v15 v3 w :=
  ⟨F.bel, fun h => F.f0 (on_of h (by decide)),
    fun h => F.f1 (on_of h (by decide)),
    fun h => F.f2 (on_of h (by decide)),
    fun h => F.f3 (on_of h (by decide)),
    fun h => F.f4 (on_of h (by decide)),
    fun h => F.f5 (on_of h (by decide)),
    fun h => F.f6 (on_of h (by decide)),
    fun _ => rfl,
    fun h => F.f8 (on_of h (by decide)),
    fun h => by obtain ⟨h1, h2, h3, h4⟩ := F.f9 (on_of h (by decide)); exact ⟨on_set h1, on_set h2, on_set h3, h4⟩,
    fun h => F.f10 (on_of h (by decide)),
    fun h => by obtain ⟨h1, h2, h3⟩ := F.f11 (on_of h (by decide)); exact ⟨on_set h1, on_set h2, h3⟩⟩
theorem F1.s2 (F : F1 wd t bt L v6 v7 v8 v9 v10 v11 v12 v13 v14 v15 v3 w) {A : Option Addr} {c : Nat} (hun : ¬ on L 2) (ho : OwnI w wd.heap.size 3 A c t.xs) : F1 wd t bt (L.setIfInBounds 2 true) v6 v7 (.slice A t.n c) v9 v10 v11 v12 v13 v14 v15 v3 w :=
  ⟨F.bel, fun h => F.f0 (on_of h (by decide)),
    fun h => F.f1 (on_of h (by decide)),
    fun _ => ⟨A, c, rfl, ho⟩,
    fun h => F.f3 (on_of h (by decide)),
    fun h => F.f4 (on_of h (by decide)),
    fun h => F.f5 (on_of h (by decide)),
    fun h => F.f6 (on_of h (by decide)),
    fun h => F.f7 (on_of h (by decide)),
    fun h => F.f8 (on_of h (by decide)),
    fun h => absurd (F.f9 (on_of h (by decide))).1 hun,
    fun h => F.f10 (on_of h (by decide)),
    fun h => absurd (F.f9 (F.f11 (on_of h (by decide))).1).1 hun⟩
theorem F1.s5 (F : F1 wd t bt L v6 v7 v8 v9 v10 v11 v12 v13 v14 v15 v3 w) {A : Option Addr} {c : Nat} (hun : ¬ on L 5) (ho : OwnS w wd.heap.size A c t.fs) : F1 wd t bt (L.setIfInBounds 5 true) v6 v7 v8 v9 v10 (.slice A t.fn c) v12 v13 v14 v15 v3 w :=
  ⟨F.bel, fun h => F.f0 (on_of h (by decide)),
    fun h => F.f1 (on_of h (by decide)),
    fun h => F.f2 (on_of h (by decide)),
    fun h => F.f3 (on_of h (by decide)),
    fun h => F.f4 (on_of h (by decide)),
    fun _ => ⟨A, c, rfl, ho⟩,
    fun h => F.f6 (on_of h (by decide)),
    fun h => F.f7 (on_of h (by decide)),
    fun h => F.f8 (on_of h (by decide)),
    fun h => absurd (F.f9 (on_of h (by decide))).2.1 hun,
    fun h => F.f10 (on_of h (by decide)),
    fun h => absurd (F.f9 (F.f11 (on_of h (by decide))).1).2.1 hun⟩
theorem F1.s8 (F : F1 wd t bt L v6 v7 v8 v9 v10 v11 v12 v13 v14 v15 v3 w) {A : Option Addr} {c : Nat} (hun : ¬ on L 8) (ho : OwnI w wd.heap.size 2 A c t.vs) : F1 wd t bt (L.setIfInBounds 8 true) v6 v7 v8 v9 v10 v11 v12 v13 (.slice A t.vn c) v15 v3 w :=
  ⟨F.bel, fun h => F.f0 (on_of h (by decide)),
    fun h => F.f1 (on_of h (by decide)),
    fun h => F.f2 (on_of h (by decide)),
    fun h => F.f3 (on_of h (by decide)),
    fun h => F.f4 (on_of h (by decide)),
    fun h => F.f5 (on_of h (by decide)),
    fun h => F.f6 (on_of h (by decide)),
    fun h => F.f7 (on_of h (by decide)),
    fun _ => ⟨A, c, rfl, ho⟩,
    fun h => absurd (F.f9 (on_of h (by decide))).2.2.1 hun,
    fun h => F.f10 (on_of h (by decide)),
    fun h => absurd (F.f9 (F.f11 (on_of h (by decide))).1).2.2.1 hun⟩
theorem F1.s9 (F : F1 wd t bt L v6 v7 v8 v9 v10 v11 v12 v13 v14 v15 v3 w) (h2 : on L 2) (h5 : on L 5) (h8 : on L 8) : F1 wd t bt (L.setIfInBounds 9 true) v6 v7 v8 v9 v10 v11 v12 v13 v14 (.agg #[v8, v11, .slice none 0 0, v14]) v3 w :=
  ⟨F.bel, fun h => F.f0 (on_of h (by decide)),
    fun h => F.f1 (on_of h (by decide)),
    fun h => F.f2 (on_of h (by decide)),
    fun h => F.f3 (on_of h (by decide)),
    fun h => F.f4 (on_of h (by decide)),
    fun h => F.f5 (on_of h (by decide)),
    fun h => F.f6 (on_of h (by decide)),
    fun h => F.f7 (on_of h (by decide)),
    fun h => F.f8 (on_of h (by decide)),
    fun _ => ⟨on_set h2, on_set h5, on_set h8, rfl⟩,
    fun h => F.f10 (on_of h (by decide)),
    fun h => by obtain ⟨h1, h2, h3⟩ := F.f11 (on_of h (by decide)); exact ⟨on_set h1, on_set h2, h3⟩⟩
theorem F1.s10 (F : F1 wd t bt L v6 v7 v8 v9 v10 v11 v12 v13 v14 v15 v3 w) {g : Nat} {y0 y1 y2 y3 : Value} (hun : ¬ on L 10) (hg : wd.heap.size ≤ g) (hs : w.heap[g]? = some (.cells #[y0, y1, y2, y3] 34 (0, 0))) : F1 wd t bt (L.setIfInBounds 10 true) v6 v7 v8 v9 v10 v11 v12 v13 v14 v15 (.pointer (some ⟨g, 0, none⟩)) w :=
  ⟨F.bel, fun h => F.f0 (on_of h (by decide)),
    fun h => F.f1 (on_of h (by decide)),
    fun h => F.f2 (on_of h (by decide)),
    fun h => F.f3 (on_of h (by decide)),
    fun h => F.f4 (on_of h (by decide)),
    fun h => F.f5 (on_of h (by decide)),
    fun h => F.f6 (on_of h (by decide)),
    fun h => F.f7 (on_of h (by decide)),
    fun h => F.f8 (on_of h (by decide)),
    fun h => by obtain ⟨h1, h2, h3, h4⟩ := F.f9 (on_of h (by decide)); exact ⟨on_set h1, on_set h2, on_set h3, h4⟩,
    fun _ => ⟨g, _, _, _, _, rfl, hg, hs⟩,
    fun h => absurd (F.f11 (on_of h (by decide))).2.1 hun⟩
theorem F1.s11 (F : F1 wd t bt L v6 v7 v8 v9 v10 v11 v12 v13 v14 v15 v3 w) {q : Nat} {y0 y1 y2 y3 : Value} (hq : v3 = .pointer (some ⟨q, 0, none⟩)) (hgq : wd.heap.size ≤ q) (hd1 : on L 9) (hd2 : on L 10) (hold : w.heap[q]? = some (.cells #[y0, y1, y2, y3] 34 (0, 0))) (hnew : w'.heap[q]? = some (.cells #[v8, v11, .slice none 0 0, v14] 34 (0, 0))) (hb : Below wd.heap.size wd w') (ho : ∀ k, k ≠ q → w'.heap[k]? = w.heap[k]?) : F1 wd t bt (L.setIfInBounds 11 true) v6 v7 v8 v9 v10 v11 v12 v13 v14 v15 v3 w' :=
  ⟨hb, fun h => F.f0 (on_of h (by decide)),
    fun h => F.f1 (on_of h (by decide)),
    fun h => by
      obtain ⟨A, c, h1, h2⟩ := F.f2 (on_of h (by decide))
      exact ⟨A, c, h1, ownI_same h2 fun b hb' => ho b (ownI_off h2 hold (by decide) b hb')⟩,
    fun h => F.f3 (on_of h (by decide)),
    fun h => F.f4 (on_of h (by decide)),
    fun h => by
      obtain ⟨A, c, h1, h2⟩ := F.f5 (on_of h (by decide))
      exact ⟨A, c, h1, h2.same fun b hb' => ho b (ownS_off h2 hold (by decide) b hb')⟩,
    fun h => F.f6 (on_of h (by decide)),
    fun h => F.f7 (on_of h (by decide)),
    fun h => by
      obtain ⟨A, c, h1, h2⟩ := F.f8 (on_of h (by decide))
      exact ⟨A, c, h1, ownI_same h2 fun b hb' => ho b (ownI_off h2 hold (by decide) b hb')⟩,
    fun h => by obtain ⟨h1, h2, h3, h4⟩ := F.f9 (on_of h (by decide)); exact ⟨on_set h1, on_set h2, on_set h3, h4⟩,
    fun _ => ⟨q, _, _, _, _, hq, hgq, hnew⟩,
    fun _ => ⟨on_set hd1, on_set hd2, fun b hb' => by rw [hq] at hb'; injection hb' with hb'; injection hb' with hb'; injection hb' with hb'; subst hb'; exact hnew⟩⟩
end
end Go.Proofs.Ytfimnmdcbnfhfaa
