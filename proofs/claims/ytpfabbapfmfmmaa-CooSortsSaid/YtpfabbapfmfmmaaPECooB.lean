/- What CooBoth asks for besides. -/
import Derived.Test.YtpfabbapfmfmmaaG16
import Derived.Test.YtpfabbapfmfmmaaPRingOps
import Derived.Deep.DeepCutAuto
import Derived.Deep.RegionHeld3
import Derived.Deep.RegionLaw
namespace Go.Proofs.Ytpfabbapfmfmmaa
open Go.RowKit

theorem few_coo2 (A B A2 B2 : Option Addr) (n c m e n2 c2 m2 e2 : Nat) (xs xs2 : List Int) (es fs : List Ent) (w : World) (h : CooV w A n B m xs es) (h2 : CooV w A2 n2 B2 m2 xs2 fs) (R : Bool) (HR : Hid (fewC [((⟨A, n, c, B, m, e⟩ : Hdr), es), (⟨A2, n2, c2, B2, m2, e2⟩, fs)] = R)) :
    Calls Try.prog 12 #[.slice (some ⟨w.heap.size, 0, none⟩) 2 2] (w.alloc (.cells #[.slice A n c, .slice B m e, .slice A2 n2 c2, .slice B2 m2 e2] 25)) fun x w' => x = .returned (.bool R) ∧ Below w.heap.size w w' := by
  have hb : Below w.heap.size w (w.alloc (.cells #[.slice A n c, .slice B m e, .slice A2 n2 c2, .slice B2 m2 e2] 25)) := (Below.refl _ w).alloc (Nat.le_refl _) _
  have hc := heap_alloc_new w (.cells #[.slice A n c, .slice B m e, .slice A2 n2 c2, .slice B2 m2 e2] 25)
  have := fewC_any w.heap.size 2 2 [(⟨A, n, c, B, m, e⟩, es), (⟨A2, n2, c2, B2, m2, e2⟩, fs)] (w.alloc (.cells #[.slice A n c, .slice B m e, .slice A2 n2 c2, .slice B2 m2 e2] 25)) rfl (by simp) (fun k d hd => by
      match k, hd with
      | 0, hd => simp at hd; subst hd; exact ⟨(cell_of_row _ _ 0 _ _ (0, 0) hc).trans (by simp), (cell_of_row _ _ 1 _ _ (0, 0) hc).trans (by simp)⟩
      | 1, hd => simp at hd; subst hd; exact ⟨(cell_of_row _ _ 2 _ _ (0, 0) hc).trans (by simp), (cell_of_row _ _ 3 _ _ (0, 0) hc).trans (by simp)⟩
      | k + 2, hd => simp at hd) (fun x hx => by
      rcases List.mem_cons.1 hx with rfl | hx
      · exact (h.2.below hb).more hb.size
      · rw [List.mem_singleton.1 hx]; exact (h2.2.below hb).more hb.size) (by omega)
  rw [HR.out] at this
  exact this.mono fun x w' ⟨h1, h2⟩ => ⟨h1, hb.trans (h2.mono hb.size)⟩
theorem fewC_two {A B A2 B2 : Option Addr} {n c m e n2 c2 m2 e2 : Nat} {es fs : List Ent} (h : fewC [((⟨A, n, c, B, m, e⟩ : Hdr), es), (⟨A2, n2, c2, B2, m2, e2⟩, fs)] = true) : n ≤ 20 ∧ m ≤ 2000 ∧ n2 ≤ 20 ∧ m2 ≤ 2000 := by
  unfold fewC at h
  simp at h
  exact ⟨h.1.1.1, h.1.1.2, h.2.1.1, h.2.1.2⟩
/-- whichever way Dense goes -/
theorem denV_any (A B : Option Addr) (n c m e : Nat) (xs : List Int) (es : List Ent) (w : World) (h : CooV w A n B m xs es) (hn : n ≤ 9223372036854775807) (hm : m ≤ 9223372036854775807) (E : Int) (hE : Hid (denE xs es = E)) :
    Calls Try.prog 29 #[.agg #[.slice A n c, .slice B m e]] w fun x w' => ∃ A1 n1 c1 A2 m2 c2, x = .returned (.tuple #[.agg #[.slice A1 n1 c1, .slice A2 m2 c2], .int .i64 E]) ∧ Below w.heap.size w w' := by
  by_cases h0 : E = 0
  · subst h0
    refine (denV_ok A B n c m e xs es w h hm hE.out).mono ?_
    rintro x w' ⟨A1, c1, A2, M, c2, rfl, _, _, _, hb⟩
    exact ⟨_, _, _, _, _, _, rfl, hb⟩
  · refine (denV_bad A B n c m e xs es w h hn hm E hE h0).mono ?_
    rintro x w' ⟨rfl, hb⟩
    exact ⟨_, _, _, _, _, _, rfl, hb⟩
theorem below_appE {w1 W w3 : World} {base p c : Nat} {A : Option Addr} {xs : List Ent} (hb : Below base w1 W) (hg : W.grownBy w3 (Value.slice A p c).ownBlock) (ho : OwnE W base A c xs) (hp : xs.length = p) (hs : base ≤ W.heap.size) : Below base w1 w3 := by
  subst hp
  exact hb.grown hg hs (fun k hk => (World.ownsRow.lt ho k hk).1)
theorem box_kept2 {w w' : World} {base' c' g p : Nat} {A' : Option Addr} {L : List Ent} {cs : Array Value} (h : w.heap[g]? = some (.cells cs 25 (0, 0))) (hE : OwnE w base' A' c' L) (hp : L.length = p) (hg : w.grownBy w' (Value.slice A' p c').ownBlock) : w'.heap[g]? = some (.cells cs 25 (0, 0)) := by
  subst hp
  exact box_keptE h (by decide) hE hg
theorem set_fst (w : World) (g : Nat) (u v a : Value) (t : TypeId) (h : w.heap[g]? = some (.cells #[u, v] t (0, 0))) : (w.setCell ⟨g, 0, none⟩ a).heap[g]? = some (.cells #[a, v] t (0, 0)) := by
  have h1 := blkE_set (i := 0) (cs := [u, v]) h a
  simpa using h1
/-- a new list whose entries' row is the call's own -/
structure AllCut (w0 wx : World) (gb : Nat) (u : Value) (A : Option Addr) (c : Nat) (L : List Ent) : Prop where
  box : wx.heap[gb]? = some (.cells #[u, .slice A L.length c] 25 (0, 0))
  new : w0.heap.size ≤ gb
  own : OwnE wx w0.heap.size A c L
  bel : Below w0.heap.size w0 wx
theorem all_new {w0 wz : World} {u : Value} {A : Option Addr} {c r : Nat} {L : List Ent} (h : OwnE wz w0.heap.size A c L) (hr : L.length = r) (hb : Below w0.heap.size w0 wz) : AllCut w0 (wz.alloc (.cells #[u, .slice A r c] 25)) wz.heap.size u A c L := by
  subst hr
  exact ⟨heap_alloc_new _ _, hb.size, World.ownsRow.alloc h _, hb.alloc hb.size _⟩
theorem all_set {w0 wz : World} {gb : Nat} {u a b : Value} {A : Option Addr} {c r : Nat} {L : List Ent} (hz : wz.heap[gb]? = some (.cells #[a, b] 25 (0, 0))) (hn : w0.heap.size ≤ gb) (h : OwnE wz w0.heap.size A c L) (hr : L.length = r) (hb : Below w0.heap.size w0 wz) : AllCut w0 ((wz.setCell ⟨gb, 0, none⟩ u).setCell ⟨gb, 1, none⟩ (.slice A r c)) gb u A c L := by
  subst hr
  obtain ⟨k1, k2⟩ := set_two wz gb a b u (.slice A L.length c) _ hz
  exact ⟨k1, hn, World.ownsRow.kept h k2 (rows_ne h hz (by decide)), hb.grown k2 hb.size (fun k hk => by injection hk with hk; omega)⟩

theorem ownE_ents2 {w : World} {base c r : Nat} {A : Option Addr} {L : List Ent} (h : OwnE w base A c L) (hr : L.length = r) (hx : ∀ x ∈ L, Ints w w.heap.size x.A x.n x.cs ∧ x.n ≤ 9223372036854775807 ∧ x.n ≤ x.c ∧ -9223372036854775808 ≤ x.v ∧ x.v ≤ 9223372036854775807) : Ents w w.heap.size A r L := by
  subst hr
  refine ⟨rfl, hx, fun h0 => ?_⟩
  obtain ⟨g, post, e, hb, hr⟩ := OwnE.row h h0
  refine ⟨g, 0, e, hr.lt, fun k x hk => ?_⟩
  obtain ⟨⟨a1, _⟩, a2, _⟩ := blk_ent hr hk
  rw [Nat.zero_add, Nat.mul_comm 2 k]
  exact ⟨a1, a2⟩
/-- what a dense one is, if there is one -/
def DenF (w : World) (A1 : Option Addr) (n1 : Nat) (A2 : Option Addr) (m2 n : Nat) (xs ys : List Int) (E : Int) : Prop := E = 0 → n1 = n ∧ DenV w A1 n A2 m2 xs ys ∧ m2 ≤ 65536 ∧ checkF xs m2 = 0
theorem DenF.below {w w' : World} {A1 A2 : Option Addr} {n1 m2 n : Nat} {xs ys : List Int} {E : Int} (h : DenF w A1 n1 A2 m2 n xs ys E) (hb : Below w.heap.size w w') : DenF w' A1 n1 A2 m2 n xs ys E := fun h0 => ⟨(h h0).1, (h h0).2.1.below hb, (h h0).2.2⟩
theorem denV_f (A B : Option Addr) (n c m e : Nat) (xs : List Int) (es : List Ent) (w : World) (h : CooV w A n B m xs es) (hn : n ≤ 9223372036854775807) (hm : m ≤ 9223372036854775807) (E : Int) (hE : Hid (denE xs es = E)) :
    Calls Try.prog 29 #[.agg #[.slice A n c, .slice B m e]] w fun x w' => ∃ A1 n1 c1 A2 m2 c2, x = .returned (.tuple #[.agg #[.slice A1 n1 c1, .slice A2 m2 c2], .int .i64 E]) ∧ DenF w' A1 n1 A2 m2 n xs (denseK xs (es.map keyE)) E ∧ Below w.heap.size w w' := by
  by_cases h0 : E = 0
  · subst h0
    refine (denV_ok A B n c m e xs es w h hm hE.out).mono ?_
    rintro x w' ⟨A1, c1, A2, M, c2, rfl, h1, h2, h3, hb⟩
    exact ⟨_, _, _, _, _, _, rfl, fun _ => ⟨rfl, h1, h2, h3⟩, hb⟩
  · refine (denV_bad A B n c m e xs es w h hn hm E hE h0).mono ?_
    rintro x w' ⟨rfl, hb⟩
    exact ⟨_, _, _, _, _, _, rfl, fun h => absurd h h0, hb⟩
def negE (x : Ent) : Ent := ⟨x.A, x.n, x.c, x.cs, wrap64 (-x.v)⟩
def negK (t : KeyT) : KeyT := (t.1, wrap64 (-t.2.1), t.2.2)
theorem negE_key (es : List Ent) : (es.map negE).map keyE = (es.map keyE).map negK := by rw [List.map_map, List.map_map]; rfl
theorem wrap_neg (v : Int) : wrap64 (-(wrap64 v)) = wrap64 (-v) := by
  obtain ⟨k, hk⟩ := wrap64_off v
  rw [hk, show -(v + k * 18446744073709551616) = -v + (-k) * 18446744073709551616 by omega, wrap64_more]
theorem totP_neg (P : List Int → Bool) (K : List KeyT) : wrap64 (totP P (K.map negK)) = wrap64 (-(totP P K)) := by
  induction K with
  | nil => rfl
  | cons t K ih =>
    simp only [List.map_cons, totP]
    rw [← wrap_add_r, ih, wrap_add_r]
    show wrap64 ((if P t.1 = true then wrap64 (-t.2.1) else 0) + -(totP P K)) = _
    by_cases h : P t.1 = true
    · rw [if_pos h, if_pos h, wrap_add_l]; congr 1; omega
    · rw [if_neg h, if_neg h]; congr 1; omega
theorem none_left {n : Nat} {K : List KeyT} (hk : KeyOk n K) : (joinK (sortK (iotaL n) (K ++ K.map negK))).filter nzK = [] := by
  have hk2 : KeyOk n (K ++ K.map negK) := fun t ht => by
    rcases List.mem_append.1 ht with h | h
    · exact hk t h
    · obtain ⟨s, hs, rfl⟩ := List.mem_map.1 h
      exact ⟨(hk s hs).1, (hk s hs).2.1, wrap64_bounds _⟩
  rw [List.filter_eq_nil_iff]
  intro t ht
  have := ((joined_mem (List.Perm.refl _) hk2 t).1 ht).2.1
  rw [totP_append, ← wrap_add_r, totP_neg, wrap_add_r, show totP (fun q => decide (q = t.1)) K + -(totP (fun q => decide (q = t.1)) K) = 0 by omega, wrap64_zero] at this
  unfold nzK
  simp [this]
end Go.Proofs.Ytpfabbapfmfmmaa
