/- A list of a tensor that is laid out: its keys rise, and are those of the plain list (maths). -/
import Derived.Test.YtpfabbapfmfmmaaG15
import Derived.Test.YtpfabbapfmfmmaaG3
import Derived.Test.YtpfabbapfmfmmaaG12
import Derived.Test.YtpfabbapfmfmmaaG4
import Derived.Deep.QuietTactic
import Derived.Test.YtpfabbapfmfmmaaG13
namespace Go.Proofs.Ytpfabbapfmfmmaa
open Go.RowKit

/-- places compared from the first mode on -/
def lexC : List Int → List Int → Int
  | x :: a, y :: b => if cmpI x y = 0 then lexC a b else cmpI x y
  | _, _ => 0
theorem cmpE_lex (a b : List Int) : ∀ (m d : Nat), d + m = a.length → d + m = b.length → cmpE ((List.range' d m).map fun (k : Nat) => (k : Int)) a b = lexC (a.drop d) (b.drop d)
  | 0, d, ha, hb => by
    rw [List.drop_of_length_le (by omega), List.drop_of_length_le (by omega)]; rfl
  | m + 1, d, ha, hb => by
    have h1 : d < a.length := by omega
    have h2 : d < b.length := by omega
    rw [List.range'_succ, List.map_cons, List.drop_eq_getElem_cons h1, List.drop_eq_getElem_cons h2]
    have e1 : pickE a (d : Int) = a[d] := by unfold pickE; simp [List.getD, List.getElem?_eq_getElem h1]
    have e2 : pickE b (d : Int) = b[d] := by unfold pickE; simp [List.getD, List.getElem?_eq_getElem h2]
    unfold cmpE lexC
    rw [e1, e2, cmpE_lex a b m (d + 1) (by omega) (by omega)]
theorem cmpE_iota {n : Nat} {a b : List Int} (ha : a.length = n) (hb : b.length = n) : cmpE (iotaL n) a b = lexC a b := by
  have := cmpE_lex a b n 0 (by omega) (by omega)
  rw [List.drop_zero, List.drop_zero] at this
  rw [← this]
  unfold iotaL
  rw [List.range_eq_range']
theorem lexC_lt : ∀ (xs a b : List Int), Inn xs a → Inn xs b → numR xs a < numR xs b → lexC a b < 0
  | [], [], [], _, _, h => absurd h (by simp [numR])
  | s :: l, x :: a, y :: b, ha, hb, h => by
    have h1 := ha.2.2.bound
    have h2 := hb.2.2.bound
    simp only [numR] at h
    unfold lexC
    by_cases hxy : x = y
    · subst hxy
      rw [if_pos (by unfold cmpI; simp)]
      exact lexC_lt l a b ha.2.2 hb.2.2 (by omega)
    · have hlt : x < y := by
        rcases Int.lt_or_gt_of_ne hxy with h3 | h3
        · exact h3
        · exfalso
          have h4 : (y + 1) * prodI l ≤ x * prodI l := Int.mul_le_mul_of_nonneg_right (by omega) (by omega)
          have h5 : (y + 1) * prodI l = y * prodI l + prodI l := by rw [Int.add_mul, Int.one_mul]
          omega
      have e : cmpI x y = -1 := by unfold cmpI; rw [if_pos hlt]
      rw [e, if_neg (by decide)]
      decide

theorem numR_inj : ∀ (xs a b : List Int), Inn xs a → Inn xs b → numR xs a = numR xs b → a = b
  | [], [], [], _, _, _ => rfl
  | s :: l, x :: a, y :: b, ha, hb, h => by
    have h1 := ha.2.2.bound
    have h2 := hb.2.2.bound
    simp only [numR] at h
    have hxy : x = y := by
      rcases Int.lt_trichotomy x y with h3 | h3 | h3
      · have h4 : (x + 1) * prodI l ≤ y * prodI l := Int.mul_le_mul_of_nonneg_right (by omega) (by omega)
        rw [Int.add_mul, Int.one_mul] at h4
        omega
      · exact h3
      · have h4 : (y + 1) * prodI l ≤ x * prodI l := Int.mul_le_mul_of_nonneg_right (by omega) (by omega)
        rw [Int.add_mul, Int.one_mul] at h4
        omega
    subst hxy
    rw [numR_inj l a b ha.2.2 hb.2.2 (by omega)]
/-- the keys of what is laid out, from cell k on -/
def ofK (xs : List Int) : Nat → List Int → List KeyT
  | _, [] => []
  | k, v :: l => if v = 0 then ofK xs (k + 1) l else (placeR xs k, v, xs.length) :: ofK xs (k + 1) l
theorem ofK_mem {xs : List Int} {t : KeyT} : ∀ (k : Nat) (l : List Int), t ∈ ofK xs k l ↔ ∃ i v, l[i]? = some v ∧ v ≠ 0 ∧ t = (placeR xs ((k + i : Nat) : Int), v, xs.length)
  | k, [] => by simp [ofK]
  | k, v :: l => by
    have ih := ofK_mem (xs := xs) (t := t) (k + 1) l
    unfold ofK
    constructor
    · intro h
      by_cases hv : v = 0
      · rw [if_pos hv] at h
        obtain ⟨i, u, h1, h2, h3⟩ := ih.1 h
        exact ⟨i + 1, u, h1, h2, by rw [h3, show k + 1 + i = k + (i + 1) by omega]⟩
      · rw [if_neg hv] at h
        rcases List.mem_cons.1 h with rfl | h
        · exact ⟨0, v, rfl, hv, rfl⟩
        · obtain ⟨i, u, h1, h2, h3⟩ := ih.1 h
          exact ⟨i + 1, u, h1, h2, by rw [h3, show k + 1 + i = k + (i + 1) by omega]⟩
    · rintro ⟨i, u, h1, h2, h3⟩
      cases i with
      | zero =>
        simp at h1
        subst h1
        rw [if_neg h2, h3]
        exact List.mem_cons_self ..
      | succ i =>
        have := ih.2 ⟨i, u, by simpa using h1, h2, by rw [h3, show k + 1 + i = k + (i + 1) by omega]⟩
        split
        · exact this
        · exact List.mem_cons_of_mem _ this
theorem ofK_rise {xs : List Int} (hp : ∀ x ∈ xs, 1 ≤ x) : ∀ (k : Nat) (l : List Int), (k : Int) + l.length ≤ prodI xs → KRise (iotaL xs.length) (ofK xs k l)
  | k, [], _ => List.Pairwise.nil
  | k, v :: l, h => by
    rw [List.length_cons] at h
    have ih := ofK_rise hp (k + 1) l (by omega)
    unfold ofK
    split
    · exact ih
    · refine List.pairwise_cons.2 ⟨fun t ht => ?_, ih⟩
      obtain ⟨i, u, h1, _, rfl⟩ := (ofK_mem _ _).1 ht
      have hi := (List.getElem?_eq_some_iff.1 h1).1
      have n1 := numR_placeR hp (k : Int)
      have n2 := numR_placeR hp ((k + 1 + i : Nat) : Int)
      rw [Int.emod_eq_of_lt (by omega) (by omega)] at n1 n2
      show cmpE (iotaL xs.length) (placeR xs k) (placeR xs ((k + 1 + i : Nat) : Int)) < 0
      rw [cmpE_iota (placeR_length _ _) (placeR_length _ _)]
      exact lexC_lt xs _ _ (placeR_inn hp _) (placeR_inn hp _) (by rw [n1, n2]; omega)
theorem totP_none {P : List Int → Bool} : ∀ {K : List KeyT}, (∀ t ∈ K, P t.1 = false) → totP P K = 0
  | [], _ => rfl
  | t :: K, h => by
    simp only [totP]
    rw [if_neg (by rw [h t (by simp)]; decide), totP_none (fun s hs => h s (by simp [hs]))]
    rfl
theorem totP_same {P Q : List Int → Bool} : ∀ {K : List KeyT}, (∀ t ∈ K, P t.1 = Q t.1) → totP P K = totP Q K
  | [], _ => rfl
  | t :: K, h => by
    simp only [totP]
    rw [h t (by simp), totP_same (fun s hs => h s (by simp [hs]))]
/-- a list laid out and listed again is the plain one -/
theorem of_dense {n : Nat} {xs : List Int} {es : List Ent} (hxl : xs.length = n) (hE : denE xs es = 0) (hk : KeyOk n (es.map keyE)) : ofK xs 0 (denseK xs (es.map keyE)) = (joinK (sortK (iotaL n) (es.map keyE))).filter nzK := by
  unfold denE at hE
  have h0 : cooF xs es = 0 := by
    by_cases h0 : cooF xs es = 0
    · exact h0
    · rw [if_neg h0] at hE; exact absurd hE h0
  rw [if_pos h0] at hE
  obtain ⟨p1, p2, p3⟩ := cooF_parts h0
  have hla := laidF_ok hE
  have hnn := laidF_nonneg (xs := xs)
  have hinn : ∀ t ∈ es.map keyE, Inn xs t.1 := fun t ht => by
    obtain ⟨y, hy, rfl⟩ := List.mem_map.1 ht
    exact inn_of_insideF (p3 y hy)
  have hperm : (iotaL n).Perm (iotaL n) := List.Perm.refl _
  have hlen := denseK_length xs (es.map keyE)
  -- where there is a cell at all, the sizes are 1 or more, and their product is the number of cells
  by_cases hM : (laidF xs).1 = 0
  · have hd : denseK xs (es.map keyE) = [] := List.eq_nil_of_length_eq_zero (by rw [hlen, hM]; rfl)
    have he : es = [] := by
      cases es with
      | nil => rfl
      | cons y t =>
        exfalso
        have hi := hinn (keyE y) (by simp)
        have := hi.bound
        have hpos := cellsF_ok_pos p1 hi.pos
        omega
    rw [hd, he]; rfl
  · have hp := cellsF_nz p1 (by rw [← hla.2]; exact hM)
    have hprod := cellsF_ok_pos p1 hp
    have hr1 := ofK_rise hp 0 (denseK xs (es.map keyE)) (by rw [hlen]; omega)
    rw [hxl] at hr1
    have hks := hk.perm (sortK_perm (iotaL n) _)
    have hr2 := joinK_rise hperm hks (sortK_ord (iotaL n) _)
    refine rise_ext (R := fun x y : KeyT => cmpE (iotaL n) x.1 y.1 < 0) KRise.asym hr1 (hr2.filter _) fun t => ?_
    rw [ofK_mem, List.mem_filter, joined_mem hperm hk]
    have hcell : ∀ (j : Nat) (v : Int), (denseK xs (es.map keyE))[j]? = some v ↔ (j < (laidF xs).1.toNat ∧ wrap64 (totP (fun p => decide ((numR xs p).toNat = j)) (es.map keyE)) = v) := fun j v => by
      unfold denseK
      rw [List.getElem?_map]
      by_cases hj : j < (laidF xs).1.toNat
      · rw [List.getElem?_range hj]; simp [hj]
      · rw [List.getElem?_eq_none (by simp; omega)]; simp [hj]
    have hnum : ∀ s ∈ es.map keyE, ∀ j : Nat, j < (laidF xs).1.toNat → ((numR xs s.1).toNat = j ↔ s.1 = placeR xs (j : Int)) := fun s hs j hj => by
      have hb := (hinn s hs).bound
      have n1 := numR_placeR hp (j : Int)
      rw [Int.emod_eq_of_lt (by omega) (by omega)] at n1
      constructor
      · intro e
        exact numR_inj xs _ _ (hinn s hs) (placeR_inn hp _) (by rw [n1]; omega)
      · intro e; rw [e, n1]; omega
    have hsum : ∀ j : Nat, j < (laidF xs).1.toNat → totP (fun p => decide ((numR xs p).toNat = j)) (es.map keyE) = totP (fun p => decide (p = placeR xs (j : Int))) (es.map keyE) := fun j hj => totP_same fun s hs => by
      show decide ((numR xs s.1).toNat = j) = decide (s.1 = placeR xs (j : Int))
      exact decide_eq_decide.2 (hnum s hs j hj)
    constructor
    · rintro ⟨j, v, h1, h2, rfl⟩
      rw [Nat.zero_add]
      obtain ⟨hj, hv⟩ := (hcell j v).1 h1
      rw [hsum j hj] at hv
      refine ⟨⟨?_, hv.symm, hxl⟩, by unfold nzK; simp [h2]⟩
      rcases Classical.em (∃ s ∈ es.map keyE, s.1 = placeR xs (j : Int)) with h | h
      · exact h
      · exfalso
        rw [totP_none (fun s hs => decide_eq_false fun e => h ⟨s, hs, e⟩), wrap64_zero] at hv
        exact h2 hv.symm
    · rintro ⟨⟨⟨s, hs, e⟩, hv, hn⟩, hz⟩
      obtain ⟨t1, t2, t3⟩ := t
      dsimp only at e hv hn hz
      have hb := (hinn s hs).bound
      have hj : (numR xs s.1).toNat < (laidF xs).1.toNat := by omega
      have hpl := (hnum s hs _ hj).1 rfl
      refine ⟨(numR xs s.1).toNat, t2, (hcell _ _).2 ⟨hj, ?_⟩, by unfold nzK at hz; simpa using hz, ?_⟩
      · rw [hsum _ hj, ← hpl, e, hv]
      · rw [Nat.zero_add, ← hpl, e, hn, hxl]
end Go.Proofs.Ytpfabbapfmfmmaa
/- coo.Of: the list of the cells that are not 0. -/
namespace Go.Proofs.Ytpfabbapfmfmmaa
open Go.RowKit

/-- one entry more, and what was written -/
theorem wpList_appendEntG {ops : Array Oper} {rest : List Oper} {o : Oper} {a : Act} {w : World} {Q : Exit → Act → World → Prop}
    (hg : o.guard = none) (s x : Operand) (hop : o.op = Op.call { callee := Callee.builtin Builtin.append, args := #[s, x], argTypes := #[23, 23] })
    (base : Nat) (A : Option Addr) (c p r : Nat) (y : Ent) (L : List Ent) (hs : a.eval s = .slice A p c) (hx : a.eval x = .slice (some ⟨w.heap.size, 0, none⟩) 1 1)
    (ho : OwnE w base A c L) (hp : L.length = p) (hr : p + 1 = r) (hl : r ≤ 1000000) (hb : base ≤ w.heap.size)
    (hK : ∀ A' c' w', OwnE w' base A' c' (L ++ [y]) → w.grownBy w' (Value.slice A p c).ownBlock → wpList Try.prog ops Q rest (a.put o.dst (.slice A' r c')) w') :
    wpList Try.prog ops Q (o :: rest) a (w.alloc (.cells #[.slice y.A y.n y.c, .int .i64 y.v] 37)) := by
  obtain ⟨i, hi, hz, h1, h2⟩ := info_parts infoEnt
  subst hp
  subst hr
  refine wpList_append_own _ hg s x 23 hop base 37 i (.agg #[.slice none 0 0, .int .i64 0]) 2 32 Try.underlying23 hi hz h1 h2 (by rfl) (by decide) _ L.length (cellsE L) hs (World.ownsRow.alloc ho _) ⟨w.heap.size, 0, none⟩ 1 1 [.slice y.A y.n y.c, .int .i64 y.v] hx rfl ?_ (by simp [Value.oneCell']) (by unfold maxLen; omega) (by omega) (by simp; omega) ?_
  · intro j u hj
    match j, hj with
    | 0, hj => simp at hj; subst hj; simp [Addr.add]
    | 1, hj => simp at hj; subst hj; simp [Addr.add]
    | j + 2, hj => simp at hj
  · intro v' w' hown hgr _
    obtain ⟨A', c', rfl⟩ : ∃ A' c', v' = .slice A' (L.length + 1) c' := by
      rcases hown.2 with ⟨rfl, h0⟩ | ⟨g, cap, cur, rfl, _⟩
      · omega
      · exact ⟨_, _, rfl⟩
    refine hK A' c' w' ?_ ((World.grownBy_alloc w _ _).trans hgr)
    unfold OwnE
    rw [List.length_append, cellsE_append]
    exact hown
/-- what is of another type is kept by a write into a slice of entries -/
theorem OwnI.keptE {w w' : World} {base base' c c' : Nat} {A A' : Option Addr} {xs : List Int} {L : List Ent} (h : OwnI w base 3 A c xs) (hE : OwnE w base' A' c' L) (hg : w.grownBy w' (Value.slice A' L.length c').ownBlock) : OwnI w' base 3 A c xs := by
  refine ⟨h.1.kept hg ?_, h.2⟩
  rcases hE.2 with ⟨h1, _⟩ | ⟨g, cap, cur, h1, _, hh, _⟩
  · rw [h1]
    rcases h.1.2 with ⟨h3, _⟩ | ⟨g', cap', cur', h3, _, hh', _⟩
    · left; rw [h3]; rfl
    · right; rw [h3]; simp [Value.ownBlock]
  · rw [h1]
    have := rows_ne h.1 hh (by decide)
    rcases this with h4 | h4
    · exact .inl h4
    · exact .inr (by simpa [Value.ownBlock] using h4)
theorem box_keptE {w w' : World} {base' c' g : Nat} {A' : Option Addr} {L : List Ent} {cs : Array Value} {t : TypeId} (h : w.heap[g]? = some (.cells cs t (0, 0))) (ht : t ≠ 37) (hE : OwnE w base' A' c' L) (hg : w.grownBy w' (Value.slice A' L.length c').ownBlock) : w'.heap[g]? = some (.cells cs t (0, 0)) := by
  refine (hg.block g (lt_of_heap h) ?_).trans h
  rcases hE.2 with ⟨h1, _⟩ | ⟨g', cap, cur, h1, _, hh, _⟩
  · rw [h1]; simp [Value.ownBlock]
  · rw [h1]
    intro e
    have : g' = g := by simpa [Value.ownBlock] using e.symm
    subst this
    rw [hh] at h
    injection h with h
    injection h with _ h
    exact ht h.symm
/-- an entry whose place is of the call's own -/
def OwnP (w : World) (base : Nat) (x : Ent) : Prop := OwnI w base 3 x.A x.c x.cs ∧ x.n = x.cs.length ∧ -9223372036854775808 ≤ x.v ∧ x.v ≤ 9223372036854775807
theorem ownE_ents {w : World} {base c : Nat} {A : Option Addr} {L : List Ent} (h : OwnE w base A c L) (hx : ∀ x ∈ L, OwnP w base x) : Ents w w.heap.size A L.length L := by
  refine ⟨rfl, fun x hm => ?_, fun h0 => ?_⟩
  · obtain ⟨h1, h2, h3⟩ := hx x hm
    have hi := h1.ints
    rw [← h2] at hi
    have hcap := h1.cap
    have hmx : x.n ≤ 9223372036854775807 := by
      rcases h1.1.2 with ⟨_, h4⟩ | ⟨g, cap, cur, h4, _, _, h5, h6, _⟩
      · omega
      · injection h4 with _ h4; unfold maxLen at h6; omega
    exact ⟨hi, hmx, by omega, h3⟩
  · obtain ⟨g, post, e, hb, hr⟩ := OwnE.row h h0
    refine ⟨g, 0, e, hr.lt, fun k x hk => ?_⟩
    obtain ⟨⟨a1, _⟩, a2, _⟩ := blk_ent hr hk
    rw [Nat.zero_add, Nat.mul_comm 2 k]
    exact ⟨a1, a2⟩

theorem take_of_lt {ys : List Int} {k : Nat} {v : Int} (hv : ys[k]? = some v) (xs : List Int) : ofK xs 0 (ys.take (k + 1)) = ofK xs 0 (ys.take k) ++ if v = 0 then [] else [(placeR xs (k : Int), v, xs.length)] := by
  have key : ∀ (l : List Int) (d : Nat) (u : Int), ofK xs d (l ++ [u]) = ofK xs d l ++ if u = 0 then [] else [(placeR xs ((d + l.length : Nat) : Int), u, xs.length)] := by
    intro l
    induction l with
    | nil => intro d u; simp only [List.nil_append, ofK, List.length_nil, Nat.add_zero]
    | cons z l ih =>
      intro d u
      simp only [List.cons_append, ofK, List.length_cons]
      rw [ih, show d + 1 + l.length = d + (l.length + 1) by omega]
      split <;> rfl
  have hk := (List.getElem?_eq_some_iff.1 hv).1
  rw [take_succ_of hv, key, Nat.zero_add, List.length_take, Nat.min_eq_left (by omega)]

set_option maxRecDepth 100000 in
set_option maxHeartbeats 8000000 in
theorem ofV_ok (A B : Option Addr) (n c m e : Nat) (xs ys : List Int) (w : World) (h : DenV w A n B m xs ys) (hck : checkF xs m = 0) :
    Calls Try.prog 31 #[.agg #[.slice A n c, .slice B m e]] w fun x w' => ∃ A1 c1 A2 m2 c2 Ts, x = .returned (.tuple #[.agg #[.slice A1 n c1, .slice A2 m2 c2], .int .i64 0]) ∧ CooV w' A1 n A2 m2 xs Ts ∧ Hid (Ts.map keyE = ofK xs 0 ys) ∧ m2 ≤ m ∧ Below w.heap.size w w' := by
  obtain ⟨c1', c2', c3'⟩ := check_parts hck
  have hn4 : n ≤ 4 := by rw [← h.1.1]; exact (cellsF_ok c1').1
  have hnn := laidF_nonneg (xs := xs)
  have hla := laidF_ok c2'
  have hm5 : m ≤ 65536 := by omega
  have hNm : (cellsF xs).1 = (m : Int) := by rw [← hla.2]; exact c3'.symm
  have z0 := (Below.refl w.heap.size w).alloc (Nat.le_refl _) (.cells #[.slice A n c, .slice B m e] 41)
  have z1 := z0.alloc z0.size (.cells #[.slice none 0 0, .slice none 0 0] 25)
  have b1 := (Below.heap_alloc (w.alloc (.cells #[.slice A n c, .slice B m e] 41)) (.cells #[.slice none 0 0, .slice none 0 0] 25) _ (lt_of_heap (heap_alloc_new w (.cells #[.slice A n c, .slice B m e] 41)))).trans (heap_alloc_new w (.cells #[.slice A n c, .slice B m e] 41))
  have b2 := heap_alloc_new (w.alloc (.cells #[.slice A n c, .slice B m e] 41)) (.cells #[.slice none 0 0, .slice none 0 0] 25)
  rw [World.size_alloc] at b2
  have HCK := fun W (hb : Below w.heap.size w W) => check_any A B n c m e xs W (h.below hb).1 (by omega)
  rw [hck] at HCK
  have HCL := fun W (hb : Below w.heap.size w W) => clone_any A n c xs W W.heap.size (h.below hb).1 (Nat.le_refl _) (by omega)
  have HCO := fun (k : Nat) (hk : k < m) W (hb : Below w.heap.size w W) => callsIn_wide.1 (coord_in 3 (Nat.le_refl _) A n c xs (k : Int) (m : Int) W (h.below hb).1 (by omega) c1' hNm (by omega) (by omega))
  have HYS := fun W (hb : Below w.heap.size w W) => (h.below hb).2
  have HYL : Hid (ys.length = m) := h.2.1
  have HXL : Hid (xs.length = n) := h.1.1
  clear h hck c1' c2' c3' hla hNm z0
  go_enter Try.func31, Try.ntmps31
  go_wp2_with fail
  refine (HCK _ z1).mono ?_
  rintro x w1 ⟨rfl, hb1⟩
  have hsz0 : w.heap.size + 2 ≤ w1.heap.size := by have := hb1.size; simp at this; omega
  have hb := z1.trans (hb1.mono z1.size)
  have q1 := (hb1.block w.heap.size (by simp; omega)).trans b1
  have q2 := (hb1.block (w.heap.size + 1) (by simp)).trans b2
  obtain ⟨k0, k1, _, _⟩ := pair_cells q1
  clear HCK b1 b2 z1 hb1
  go_wp2_with fail
  refine (HCL _ hb).mono ?_
  rintro x w2 ⟨A1, c1, rfl, HA1, hb3⟩
  have hbb := hb.trans (hb3.mono hb.size)
  have hs2 := hb3.size
  have r1 := (hb3.block w.heap.size (by omega)).trans q1
  have r2 := (hb3.block (w.heap.size + 1) (by omega)).trans q2
  have yb := (Below.refl w2.heap.size w2).alloc (Nat.le_refl _) (.cells #[.slice A1 n c1, .slice none 0 0] 25)
  have y0 := heap_alloc_new w2 (.cells #[.slice A1 n c1, .slice none 0 0] 25)
  have hi1 := HA1.ints
  rw [HXL.out] at hi1
  have HA2 := Lib.hid (hi1.alloc (Nat.le_refl _) (.cells #[.slice A1 n c1, .slice none 0 0] 25))
  have HF1 := Lib.hid HA1.farA
  have hbb3 := hbb.alloc hbb.size (.cells #[.slice A1 n c1, .slice none 0 0] 25)
  replace r1 := (yb.block w.heap.size (by omega)).trans r1
  replace r2 := (yb.block (w.heap.size + 1) (by omega)).trans r2
  have hs3 : (w2.alloc (.cells #[.slice A1 n c1, .slice none 0 0] 25)).heap.size = w2.heap.size + 1 := World.size_alloc _ _
  obtain ⟨wB, hw3⟩ : ∃ w3, w2.alloc (.cells #[.slice A1 n c1, .slice none 0 0] 25) = w3 := ⟨_, rfl⟩
  rw [hw3] at y0 HA2 r1 r2 hbb3 hs3
  have H3 := Lib.hid hw3
  have HY0 := Lib.hid y0
  have HR1 := Lib.hid r1
  have HR2 := Lib.hid r2
  have HBB := Lib.hid hbb3
  have hsB : w2.heap.size + 1 ≤ wB.heap.size := by omega
  obtain ⟨j0, j1, _, _⟩ := pair_cells r1
  clear k0 k1 hb hbb hb3 q1 q2 yb y0 HA1 hi1 hbb3 hs3 hw3 r1 r2 HCL
  go_upto_region 5 with fail
  rw [H3.out]
  go_wp2_with fail
  go_loopw [23] (fun v wr => ∃ (k : Nat) (Ts : List Ent) (A3 : Option Addr) (c3 : Nat), v = .int .i64 (k : Int) ∧ k ≤ m ∧ Ts.length ≤ k ∧ Hid (wr.heap[w2.heap.size]? = some (.cells #[.slice A1 n c1, .slice A3 Ts.length c3] 25 (0, 0))) ∧ Hid (OwnE wr wB.heap.size A3 c3 Ts) ∧ Hid (∀ x ∈ Ts, OwnP wr wB.heap.size x) ∧ Hid (Ts.map keyE = ofK xs 0 (ys.take k)) ∧ Hid (Below w2.heap.size wB wr)) (fun v _ => m - (intOf v).toNat)
  case atStart => exact ⟨0, [], none, 0, rfl, Nat.zero_le _, Nat.le_refl _, HY0, Lib.hid (OwnE.nil_ _ _), (fun x hx => by cases hx), rfl, Lib.hid (Below.refl _ _)⟩
  case round =>
    clear j0 j1
    obtain ⟨k, Ts, A3, c3, rfl, hk, htk, HBX, HOE, HOP, HKE, HB⟩ := hrel
    have hszr := HB.out.size
    have hr1 := (HB.out.block w.heap.size (by omega)).trans HR1.out
    obtain ⟨j0, j1, _, _⟩ := pair_cells hr1
    have hbw : Below w.heap.size w wr := HBB.out.trans (HB.out.mono (by omega))
    by_cases hlt : k < m
    · obtain ⟨b, off, v, rfl, _, HV, hcv, hv1, hv2⟩ := (HYS wr hbw).at_ hlt
      have HTK := Lib.hid (take_of_lt HV.out xs)
      by_cases hv : v = 0
      · have e1 : (v == 0) = true := by simpa using hv
        have HN : Hid (ofK xs 0 (ys.take (k + 1)) = ofK xs 0 (ys.take k)) := by unfold Hid; rw [HTK.out, if_pos hv, List.append_nil]
        clear hv hr1 hbw
        go_wp2_with fail
        go_roundw
        case rel => exact ⟨k + 1, Ts, A3, c3, by go_num, by omega, by omega, HBX, HOE, HOP, by unfold Hid; rw [HN.out]; exact HKE.out, HB⟩
        case measure => simp [intOf]; omega
      · have e1 : (v == 0) = false := by simpa using hv
        have HN : Hid (ofK xs 0 (ys.take (k + 1)) = ofK xs 0 (ys.take k) ++ [(placeR xs (k : Int), v, xs.length)]) := by unfold Hid; rw [HTK.out, if_neg hv]
        have HC := HCO k hlt wr hbw
        have HR1r := Lib.hid hr1
        clear hv hr1
        go_wp2_with fail
        refine HC.mono ?_
        rintro x w4 ⟨A4, c4, rfl, HA4, hb4⟩
        have hs4 := hb4.size
        have hl4 : (placeR xs (k : Int)).length = n := by rw [placeR_length, HXL.out]
        have HL4 := Lib.hid hl4
        have HBX4 := (hb4.block w2.heap.size (by omega)).trans HBX.out
        have HOE4 : Hid (OwnE w4 wB.heap.size A3 c3 Ts) := HOE.out.below hb4 (Nat.le_refl _)
        have HOP4 : Hid (∀ x ∈ Ts, OwnP w4 wB.heap.size x) := fun x hx => ⟨(HOP.out x hx).1.below hb4 (Nat.le_refl _), (HOP.out x hx).2⟩
        have HA4' : Hid (OwnI w4 wB.heap.size 3 A4 c4 (placeR xs (k : Int))) := HA4.mono (by omega)
        have HB4 : Hid (Below w2.heap.size wB w4) := HB.out.trans (hb4.mono (by omega))
        obtain ⟨N, hN⟩ : ∃ N, Ts.length = N := ⟨_, rfl⟩
        have HLN := Lib.hid hN
        rw [hN] at HBX4 htk
        obtain ⟨t0, t1, tf0, tf1⟩ := pair_cells HBX4
        have HBH := Lib.hid HBX4
        clear HA4 hb4 HC HOE HOP HB HBX hbw j0 j1 hl4 hN HBX4
        go_wp2_with (at_builtin; refine wpList_appendEntG rfl (.tmp 42) (.tmp 46) rfl wB.heap.size A3 c3 N (N + 1) ⟨A4, n, c4, placeR xs (k : Int), v⟩ Ts rfl rfl HOE4.out HLN.out rfl (by omega) (by omega) ?_; intro A5 c5 w5 HO5 hg5; have HO5' := Lib.hid HO5; clear HO5; have HG5 : Hid (w4.grownBy w5 (Value.slice A3 Ts.length c3).ownBlock) := (by unfold Hid; rw [HLN.out]; exact hg5); clear hg5; have rbx := box_keptE HBH.out (by decide) HOE4.out HG5.out; obtain ⟨s0, s1, sf0, sf1⟩ := pair_cells rbx; have HRB := Lib.hid rbx; clear rbx)
        have hsn := set_snd w5 w2.heap.size _ _ (.slice A5 (N + 1 : Nat) c5) _ HRB.out
        have HOWN6 : Hid (OwnE (w5.setCell ⟨w2.heap.size, 1, none⟩ (.slice A5 (N + 1 : Nat) c5)) wB.heap.size A5 c5 (Ts ++ [⟨A4, n, c4, placeR xs (k : Int), v⟩])) := World.ownsRow.kept HO5'.out hsn.2 (rows_ne HO5'.out HRB.out (by decide))
        have HOP6 : Hid (∀ x ∈ Ts ++ [⟨A4, n, c4, placeR xs (k : Int), v⟩], OwnP (w5.setCell ⟨w2.heap.size, 1, none⟩ (.slice A5 (N + 1 : Nat) c5)) wB.heap.size x) := fun x hx => by
          have hq : OwnP w4 wB.heap.size x := by
            rcases List.mem_append.1 hx with hx | hx
            · exact HOP4.out x hx
            · rw [List.mem_singleton.1 hx]; exact ⟨HA4'.out, HL4.out.symm, hv1, hv2⟩
          have q5 := hq.1.keptE HOE4.out HG5.out
          exact ⟨⟨q5.1.kept hsn.2 (rows_ne q5.1 HRB.out (by decide)), q5.2⟩, hq.2⟩
        have HBF6 : Hid (Below w2.heap.size wB (w5.setCell ⟨w2.heap.size, 1, none⟩ (.slice A5 (N + 1 : Nat) c5))) := by
          have q5 : Below w2.heap.size wB w5 := HB4.out.grown HG5.out (by omega) (fun k hk => by have := (World.ownsRow.lt HOE4.out k hk).1; omega)
          exact q5.setCell (p := ⟨w2.heap.size, 1, none⟩) (Nat.le_refl _) _
        have HHP6 : Hid ((w5.setCell ⟨w2.heap.size, 1, none⟩ (.slice A5 (N + 1 : Nat) c5)).heap[w2.heap.size]? = some (.cells #[.slice A1 n c1, .slice A5 (Ts ++ [⟨A4, n, c4, placeR xs (k : Int), v⟩] : List Ent).length c5] 25 (0, 0))) := by unfold Hid; rw [List.length_append, HLN.out]; exact hsn.1
        have HKE6 : Hid ((Ts ++ [⟨A4, n, c4, placeR xs (k : Int), v⟩] : List Ent).map keyE = ofK xs 0 (ys.take (k + 1))) := by unfold Hid; rw [HN.out, List.map_append, HKE.out, HXL.out]; rfl
        have hlen6 : (Ts ++ [⟨A4, n, c4, placeR xs (k : Int), v⟩] : List Ent).length ≤ k + 1 := by rw [List.length_append, HLN.out]; first | (show _ + 1 ≤ _; omega) | (simp <;> omega)
        clear hsn
        go_roundw
        case rel => exact ⟨k + 1, Ts ++ [⟨A4, n, c4, placeR xs (k : Int), v⟩], A5, c5, by go_num, by omega, hlen6, HHP6, HOWN6, HOP6, HKE6, HBF6⟩
        case measure => simp [intOf]; omega
    · have hkm : k = m := by omega
      have HKF : Hid (Ts.map keyE = ofK xs 0 ys) := by unfold Hid; rw [HKE.out, List.take_of_length_le (by rw [HYL.out]; omega)]
      have dk : decide ((k : Int) < (m : Int)) = false := by simp; omega
      have dk2 : decide (k < m) = false := by simp; omega
      have hr2 := (HB.out.block (w.heap.size + 1) (by omega)).trans HR2.out
      obtain ⟨v0, v1, vf0, vf1⟩ := pair_cells hr2
      have HRV := Lib.hid hr2
      obtain ⟨N, hN⟩ : ∃ N, Ts.length = N := ⟨_, rfl⟩
      have hbx := HBX.out
      rw [hN] at hbx htk
      obtain ⟨p0, p1, _, _⟩ := pair_cells hbx
      have HNN := Lib.hid hN
      have HBW := Lib.hid hbw
      clear hr1 hr2 hN hbx hbw hkm hlt
      go_wp2_with fail
      have hres := set_two wr (w.heap.size + 1) _ _ (.slice A1 n c1) (.slice A3 N c3) _ HRV.out
      obtain ⟨s0, s1, _, _⟩ := pair_cells hres.1
      obtain ⟨wz, hwz⟩ : ∃ wz, (wr.setCell ⟨w.heap.size + 1, 0, none⟩ (.slice A1 n c1)).setCell ⟨w.heap.size + 1, 1, none⟩ (.slice A3 N c3) = wz := ⟨_, rfl⟩
      rw [hwz] at hres s0 s1 ⊢
      refine bodyPost_ret (v := .tuple #[.agg #[.slice A1 n c1, .slice A3 N c3], .int .i64 0]) (by simp [results, Try.results31, go_sem, s0, s1]) rfl ⟨A1, c1, A3, N, c3, Ts, rfl, ⟨?_, ?_⟩, HKF, by omega, HBW.out.grown hres.2 HBW.out.size (fun k hk => by injection hk with hk; omega)⟩
      · exact ints_skip ((HA2.out.below HB.out).more (by omega)) hres.2 (fun b off e => by have := HF1.out b off e; omega)
      · have hoe : OwnE wz wB.heap.size A3 c3 Ts := World.ownsRow.kept HOE.out hres.2 (rows_ne HOE.out HRV.out (by decide))
        have := ownE_ents hoe (fun x hx => ⟨⟨(HOP.out x hx).1.1.kept hres.2 (rows_ne (HOP.out x hx).1.1 HRV.out (by decide)), (HOP.out x hx).1.2⟩, (HOP.out x hx).2⟩)
        rw [HNN.out] at this
        exact this
end Go.Proofs.Ytpfabbapfmfmmaa
/- The contracts of the document's Order and Ahead. -/
namespace Go.Proofs.Ytpfabbapfmfmmaa
open Go.RowKit

theorem iota_nodup (n : Nat) : (iotaL n).Nodup := by
  unfold iotaL List.Nodup
  rw [List.pairwise_map]
  exact List.nodup_range.imp fun h e => h (by omega)
theorem iota_mem {n : Nat} {a : Int} : a ∈ iotaL n ↔ 0 ≤ a ∧ a < n := by
  unfold iotaL
  rw [List.mem_map]
  constructor
  · rintro ⟨k, hk, rfl⟩
    have := List.mem_range.1 hk
    omega
  · rintro ⟨h1, h2⟩
    exact ⟨a.toNat, List.mem_range.2 (by omega), by omega⟩
theorem iota_le (n : Nat) : (iotaL n).Pairwise (· ≤ ·) := by
  unfold iotaL
  rw [List.pairwise_map]
  exact List.pairwise_lt_range.imp fun h => by omega
theorem sortI_le (os : List Int) : (sortI os).Pairwise (· ≤ ·) := by
  have := List.pairwise_mergeSort (le := fun x y : Int => decide (x ≤ y)) (fun a b c h1 h2 => by simp at *; omega) (fun a b => by simp; omega) os
  exact this.imp fun h => of_decide_eq_true h
theorem sortI_iota {n : Nat} {os : List Int} : sortI os = iotaL n ↔ os.Perm (iotaL n) := by
  constructor
  · intro h; rw [← h]; exact (sortI_perm os).symm
  · intro h
    exact List.Perm.eq_of_pairwise (le := (· ≤ ·)) (fun a b _ _ h1 h2 => Int.le_antisymm h1 h2) (sortI_le os) (iota_le n) ((sortI_perm os).trans h)
theorem perm_iota {n : Nat} {os : List Int} (hl : os.length = n) (h : ∀ i : Nat, i < n → os.count (i : Int) = 1) : os.Perm (iotaL n) := by
  rw [List.perm_iff_count]
  intro a
  rw [(iota_nodup n).count]
  split
  · rename_i ha
    have := iota_mem.1 ha
    have h1 := h a.toNat (by omega)
    rwa [show (a.toNat : Int) = a by omega] at h1
  · rename_i ha
    refine List.count_eq_zero.2 fun hm => ?_
    have hnd : (a :: iotaL n).Nodup := List.nodup_cons.2 ⟨ha, iota_nodup n⟩
    have := hnd.length_le_of_subset (l₂ := os) (fun x hx => by
      rcases List.mem_cons.1 hx with rfl | hx
      · exact hm
      · have hx' := iota_mem.1 hx
        have h1 := h x.toNat (by omega)
        rw [show (x.toNat : Int) = x by omega] at h1
        exact List.count_pos_iff.1 (by omega))
    rw [List.length_cons, iotaL_len] at this
    omega
theorem count_snoc (l : List Int) (x a : Int) : (l ++ [x]).count a = l.count a + if x = a then 1 else 0 := by
  rw [List.count_append, List.count_singleton]
  simp
theorem iota_succ (k : Nat) : iotaL k ++ [(k : Int)] = iotaL (k + 1) := by unfold iotaL; rw [List.range_succ, List.map_append]; rfl

set_option maxRecDepth 100000 in
/-- the plain order, as the document makes it -/
theorem refOrder_plain (n c : Nat) (A : Option Addr) (w : World) (hn : n ≤ 100000) :
    Calls Try.prog 38 #[.int .i64 (n : Int), .slice A 0 c] w fun e w' => ∃ A' c', e = .returned (.tuple #[.slice A' n c', .bool true]) ∧ OwnI w' w.heap.size 3 A' c' (iotaL n) ∧ Below w.heap.size w w' := by
  obtain ⟨i0, hi0, hz0, hz1, hz2⟩ := info_parts infoInt
  go_enter Try.func38, Try.ntmps38
  go_wp2
  go_loopw [6, 16] (fun v u wr => ∃ (A' : Option Addr) (c' k : Nat), v = .slice A' k c' ∧ u = .int .i64 k ∧ k ≤ n ∧ Hid (OwnI wr w.heap.size 3 A' c' (iotaL k)) ∧ Below w.heap.size w wr) (fun _ u _ => n - (intOf u).toNat)
  case atStart => exact ⟨none, 0, 0, rfl, rfl, Nat.zero_le _, OwnI.nil_ _ _ _, Below.refl _ _⟩
  case round =>
    obtain ⟨A', c', k, rfl, rfl, hk, HO, hb⟩ := hrel
    by_cases hlt : k < n
    · have hsz := hb.size
      have hbig : -9223372036854775808 ≤ (k : Int) ∧ (k : Int) ≤ 9223372036854775807 := by omega
      have HLk : Hid ((iotaL k).length = k) := iotaL_len k
      have HS : Hid (iotaL k ++ [(k : Int)] = iotaL (k + 1)) := iota_succ k
      go_wp2_with (at_builtin; refine wpList_appendInts _ rfl (.tmp 19) (.tmp 21) 22 rfl w.heap.size 3 i0 Try.underlying22 hi0 hz0 hz1 hz2 A' (some ⟨wr.heap.size, 0, none⟩) c' 1 1 (wr.heap.size + 1) k (k + 1) (iotaL k) [(k : Int)] rfl rfl (HO.out.alloc _) HLk.out rfl (src_new wr hbig) (by omega) (by simp; omega) ?_; intro A2 c2 w2 HO2 HG2; have hb2 := below_app (hb.alloc hsz _) HG2 (HO.out.alloc _) HLk.out (by simp; omega); rw [HS.out] at HO2; have HO3 := Lib.hid HO2; clear HO2 HG2)
      go_roundw
      case rel => exact ⟨A2, c2, k + 1, rfl, by go_num, by omega, HO3, hb2⟩
      case measure => simp [intOf]; omega
    · obtain rfl : k = n := by omega
      go_wp2
      go_ret2
      exact ⟨A', c', rfl, HO.out, hb⟩

set_option maxRecDepth 100000 in
/-- is a list of n numbers an order -/
theorem refOrder_is (A : Option Addr) (n c : Nat) (xs : List Int) (w : World) (B : Nat) (h : Ints w B A n xs) (hn : n ≤ 100000) (h0 : 0 < n) (R : Ending) (HR : Hid ((if sortI xs = iotaL n then Ending.returned (.tuple #[.slice A n c, .bool true]) else .returned (.tuple #[.slice none 0 0, .bool false])) = R)) :
    Calls Try.prog 38 #[.int .i64 (n : Int), .slice A n c] w fun e w' => e = R ∧ w = w' := by
  have HL : Hid (xs.length = n) := h.1
  have e0 : ((n : Int) == 0) = false := by simp; omega
  have e1 : ((n : Int) == (n : Int)) = true := by simp
  have e2 : ((n : Int) != (n : Int)) = false := by simp
  go_enter Try.func38, Try.ntmps38
  go_wp2
  go_loop [30] (fun u => ∃ k : Nat, u = .int .i64 k ∧ k ≤ n ∧ Hid (∀ i : Nat, i < k → xs.count (i : Int) = 1)) (fun u => n - (intOf u).toNat)
  case atStart => exact ⟨0, rfl, Nat.zero_le _, fun i hi => by omega⟩
  case round =>
    obtain ⟨k, rfl, hk, HK⟩ := hrel
    by_cases hlt : k < n
    · go_wp2
      go_loop [9, 35] (fun q u => ∃ j m : Nat, u = .int .i64 j ∧ q = .int .i64 m ∧ j ≤ n ∧ m ≤ j ∧ Hid (m = (xs.take j).count (k : Int))) (fun _ u => n - (intOf u).toNat)
      case atStart => exact ⟨0, 0, rfl, rfl, Nat.zero_le _, Nat.le_refl _, by unfold Hid; simp⟩
      case round =>
        obtain ⟨j, m, rfl, rfl, hj, hm, HM⟩ := hrel
        by_cases hjn : j < n
        · obtain ⟨b, off, x, rfl, _, HX, hc, hx1, hx2⟩ := h.at_ hjn
          by_cases hxk : x = (k : Int)
          · have HM' : Hid (m + 1 = (xs.take (j + 1)).count (k : Int)) := by unfold Hid; rw [take_succ_of HX.out, count_snoc, if_pos hxk, HM.out]
            have e3 : (x == (k : Int)) = true := by simpa using hxk
            clear hxk
            go_wp2
            go_round
            case rel => exact ⟨j + 1, m + 1, by go_num, by go_num, by omega, by omega, HM'⟩
            case measure => simp [intOf]; omega
          · have HM' : Hid (m = (xs.take (j + 1)).count (k : Int)) := by unfold Hid; rw [take_succ_of HX.out, count_snoc, if_neg hxk, HM.out]; rfl
            have e3 : (x == (k : Int)) = false := by simpa using hxk
            clear hxk
            go_wp2
            go_round
            case rel => exact ⟨j + 1, m, by go_num, rfl, by omega, by omega, HM'⟩
            case measure => simp [intOf]; omega
        · have hmm : m = xs.count (k : Int) := by rw [HM.out, List.take_of_length_le (by rw [HL.out]; omega)]
          by_cases hm1 : m = 1
          · have HK' : Hid (∀ i : Nat, i < k + 1 → xs.count (i : Int) = 1) := by
              intro i hi
              by_cases hik : i = k
              · subst hik; rw [← hmm, hm1]
              · exact HK.out i (by omega)
            have e3 : ((m : Int) == 1) = true := by simp; omega
            have e4 : ((m : Int) != 1) = false := by simp; omega
            clear hmm hm1
            go_wp2
            go_round
            case rel => exact ⟨k + 1, by go_num, by omega, HK'⟩
            case measure => simp [intOf]; omega
          · have HF : Hid (R = Ending.returned (.tuple #[.slice none 0 0, .bool false])) := by
              unfold Hid
              rw [← HR.out, if_neg]
              intro hp
              have hq := List.perm_iff_count.1 (sortI_iota.1 hp) (k : Int)
              rw [(iota_nodup n).count, if_pos (iota_mem.2 (by omega))] at hq
              omega
            have e3 : ((m : Int) == 1) = false := by simp; omega
            have e4 : ((m : Int) != 1) = true := by simp; omega
            clear hmm hm1
            go_wp2
            go_ret2
            exact ⟨by rw [HF.out]; rfl, rfl⟩
    · have HF : Hid (R = Ending.returned (.tuple #[.slice A n c, .bool true])) := by
        unfold Hid
        rw [← HR.out, if_pos (sortI_iota.2 (perm_iota HL.out fun i hi => HK.out i (by omega)))]
      go_wp2
      go_ret2
      exact ⟨by rw [HF.out]; rfl, rfl⟩

/-- whichever: the order that is meant -/
theorem refOrder_ok (A : Option Addr) (n r c : Nat) (os : List Int) (w : World) (h : Ints w w.heap.size A r os) (hn : n ≤ 100000) (hok : OrdOk n os) :
    Calls Try.prog 38 #[.int .i64 (n : Int), .slice A r c] w fun e w' => ∃ Am cm, e = .returned (.tuple #[.slice Am n cm, .bool true]) ∧ Ints w' w'.heap.size Am n (ordL n os) ∧ Below w.heap.size w w' := by
  rcases Nat.eq_zero_or_pos r with hr | hr
  · subst hr
    have h0 : os = [] := List.eq_nil_of_length_eq_zero h.1
    refine (refOrder_plain n c A w hn).mono ?_
    rintro x w' ⟨A', c', rfl, hO, hb⟩
    have hi := hO.ints
    rw [iotaL_len] at hi
    exact ⟨A', c', rfl, by unfold ordL; rw [if_pos h0]; exact hi, hb⟩
  · have h0 : os ≠ [] := by intro e; have := h.1; rw [e] at this; simp at this; omega
    have hs : sortI os = iotaL n := by rcases hok with h1 | h1; exact absurd h1 h0; exact h1
    have hrn : r = n := by have := congrArg List.length hs; rw [sortI_len, iotaL_len, h.1] at this; exact this
    subst hrn
    refine (refOrder_is A r c os w _ h hn hr _ rfl).mono ?_
    rintro x w' ⟨rfl, rfl⟩
    rw [if_pos hs]
    exact ⟨A, c, rfl, by unfold ordL; rw [if_neg h0]; exact h, Below.refl _ _⟩
set_option maxRecDepth 100000 in
theorem refOrder_no (A : Option Addr) (n r c : Nat) (os : List Int) (w : World) (h : Ints w w.heap.size A r os) (hn : n ≤ 100000) (hr0 : r ≤ 9223372036854775807) (hok : ¬ OrdOk n os) :
    Calls Try.prog 38 #[.int .i64 (n : Int), .slice A r c] w fun e w' => e = .returned (.tuple #[.slice none 0 0, .bool false]) ∧ Below w.heap.size w w' := by
  have hr : 0 < r := by
    rcases Nat.eq_zero_or_pos r with hr0 | hr0
    · subst hr0; exact absurd (.inl (List.eq_nil_of_length_eq_zero h.1)) hok
    · exact hr0
  by_cases hrn : r = n
  · subst hrn
    refine (refOrder_is A r c os w _ h hn hr _ rfl).mono ?_
    rintro x w' ⟨rfl, rfl⟩
    exact ⟨by rw [if_neg (fun hs => hok (.inr hs))], Below.refl _ _⟩
  · have e0 : ((r : Int) == 0) = false := by simp; omega
    have e1 : ((r : Int) == (n : Int)) = false := by simp; omega
    have e2 : ((r : Int) != (n : Int)) = true := by simp; omega
    clear hok hrn h
    go_enter Try.func38, Try.ntmps38
    go_wp2
    go_ret2
    exact ⟨rfl, Below.refl _ _⟩

set_option maxRecDepth 100000 in
set_option maxHeartbeats 1000000 in
theorem refAhead_any (A A2 Ao : Option Addr) (n n2 r c c2 co : Nat) (ax bx os : List Int) (w : World) (h1 : Ints w w.heap.size A n ax) (h2 : Ints w w.heap.size A2 n2 bx) (ho : Ints w w.heap.size Ao r os) (hr : r ≤ 100000) (hin : ∀ m ∈ os, 0 ≤ m ∧ m < n ∧ m < n2) (R : Bool) (HR : Hid (decide (cmpE os ax bx < 0) = R)) :
    Calls Try.prog 39 #[.slice A n c, .slice A2 n2 c2, .slice Ao r co] w fun e w' => e = .returned (.bool R) ∧ ∃ m, w' = w.drewN m := by
  have HLo : Hid (os.length = r) := ho.1
  have HIN := Lib.hid hin
  clear hin
  go_enter Try.func39, Try.ntmps39
  go_wp2
  go_loopw [11] (fun i wr => ∃ (k d : Nat), k ≤ r ∧ i = .int .i64 k ∧ wr = w.drewN d ∧ Hid (cmpE os ax bx = cmpE (os.drop k) ax bx)) (fun i _ => r - (intOf i).toNat)
  case atStart => exact ⟨0, 0, Nat.zero_le _, rfl, rfl, rfl⟩
  case round =>
    obtain ⟨k, d, hk, rfl, rfl, HC⟩ := hrel
    by_cases hlt : k < r
    · obtain ⟨bm, om, m, rfl, _, HM, hcm, _, _⟩ := ho.at_ hlt
      have hin := HIN.out m (List.mem_of_getElem? HM.out)
      obtain ⟨bq, ox, vx, rfl, _, HVX, hcx, hx1, hx2⟩ := h1.at_ (k := m.toNat) (by omega)
      obtain ⟨by_, oy, vy, rfl, _, HVY, hcy, hy1, hy2⟩ := h2.at_ (k := m.toNat) (by omega)
      have hcons := cmpE_cons (a := ax) (b := bx) HM.out
      rw [pickE_of HVX.out, pickE_of HVY.out] at hcons
      have hm0 : 0 ≤ m := hin.1
      have hmx : m < n := hin.2.1
      have hmy : m < n2 := hin.2.2
      clear hin
      by_cases hv : vx = vy
      · have HC2 : Hid (cmpE os ax bx = cmpE (os.drop (k + 1)) ax bx) := by
          have hz : cmpI vx vy = 0 := by subst hv; unfold cmpI; simp
          rw [if_pos hz] at hcons
          exact HC.out.trans hcons
        have e1 : (vx == vy) = true := by simpa using hv
        have e2 : (vx != vy) = false := by simpa using hv
        clear hcons hv
        go_wp2
        go_quiet (fail)
        go_wp2
        go_roundw
        case rel => exact ⟨k + 1, _, by omega, by go_num, rfl, HC2⟩
        case measure => simp [intOf]; omega
      · have HF : Hid (R = decide (vx < vy)) := by
          have hz : cmpI vx vy ≠ 0 := by unfold cmpI; split <;> (try split) <;> omega
          rw [if_neg hz] at hcons
          have h3 := HC.out.trans hcons
          unfold Hid
          rw [← HR.out, h3]
          unfold cmpI
          by_cases hlt2 : vx < vy
          · rw [if_pos hlt2, decide_eq_true hlt2]; rfl
          · rw [if_neg hlt2, decide_eq_false hlt2]; split <;> rfl
        have e1 : (vx == vy) = false := by simpa using hv
        have e2 : (vx != vy) = true := by simpa using hv
        clear hcons hv
        go_wp2
        go_quiet (fail)
        go_wp2
        go_quiet (fail)
        go_wp2
        go_ret
        exact ⟨by rw [HF.out]; rfl, _, by rw [World.drewN_drewN, World.drewN_drewN]⟩
    · have HF : Hid (R = false) := by
        unfold Hid
        rw [← HR.out, HC.out, List.drop_of_length_le (by rw [HLo.out]; omega)]
        rfl
      go_wp2
      go_ret
      exact ⟨by rw [HF.out]; rfl, d, rfl⟩
end Go.Proofs.Ytpfabbapfmfmmaa
/- purflelaw02.live returns true. -/
namespace Go.Proofs.Ytpfabbapfmfmmaa
open Go.RowKit

def liveEs (b : Nat) : List Ent := [⟨some ⟨b + 1, 0, none⟩, 1, 1, [1], 3⟩, ⟨some ⟨b + 1 + 1, 0, none⟩, 1, 1, [0], 2⟩, ⟨some ⟨b + 1 + 1 + 1, 0, none⟩, 1, 1, [1], 4⟩]
theorem live_coo (b : Nat) : cooF [2] (liveEs b) = 0 := by
  have h1 : (cellsF [2]).2 = 0 := by decide
  have h2 : insideF [2] [1] = true := by decide
  have h3 : insideF [2] [0] = true := by decide
  unfold cooF liveEs
  simp [h1, h2, h3]
theorem live_keys (b : Nat) : joinK (sortK (iotaL 1) ((liveEs b).map keyE)) = [([0], 2, 1), ([1], 7, 1)] := by
  have h : (liveEs b).map keyE = [([1], 3, 1), ([0], 2, 1), ([1], 4, 1)] := rfl
  rw [h]
  decide +kernel
theorem int_one (w : World) (g : Nat) (x : Int) (h : w.heap[g]? = some (.cells #[.int .i64 x] 3 (0, 0))) (hx : -9223372036854775808 ≤ x ∧ x ≤ 9223372036854775807) (B : Nat) (hB : g < B) : Ints w B (some ⟨g, 0, none⟩) 1 [x] := by
  refine ⟨rfl, fun y hy => by rw [List.mem_singleton.1 hy]; exact hx, fun _ => ⟨g, 0, rfl, hB, fun k y hy => ?_⟩⟩
  match k, hy with
  | 0, hy => simp at hy; subst hy; exact (cell_of_row _ _ 0 _ _ (0, 0) h).trans (by simp)
  | k + 1, hy => simp at hy

theorem past_alloc {w : World} {k : Nat} {v : Obj} (o : Obj) (h : w.heap[k]? = some v) : (w.alloc o).heap[k]? = some v := (Below.heap_alloc w o k (lt_of_heap h)).trans h
def liveW (w : World) : World := ((((w.alloc (.cells #[.int .i64 2] 3)).alloc (.cells #[.int .i64 1] 3)).alloc (.cells #[.int .i64 0] 3)).alloc (.cells #[.int .i64 1] 3)).alloc
  (.cells #[.slice (some ⟨w.heap.size + 1, 0, none⟩) 1 1, .int .i64 3, .slice (some ⟨w.heap.size + 1 + 1, 0, none⟩) 1 1, .int .i64 2, .slice (some ⟨w.heap.size + 1 + 1 + 1, 0, none⟩) 1 1, .int .i64 4] 37)
theorem live_size (w : World) : (liveW w).heap.size = w.heap.size + 1 + 1 + 1 + 1 + 1 := by simp [liveW]
theorem live_bel (w : World) : Below w.heap.size w (liveW w) := (((((Below.refl _ w).alloc (Nat.le_refl _) _).alloc (by simp) _).alloc (by simp; omega) _).alloc (by simp; omega) _).alloc (by simp; omega) _
theorem new_at (w : World) (o : Obj) (k : Nat) (h : w.heap.size = k) : (w.alloc o).heap[k]? = some o := by subst h; exact heap_alloc_new w o
theorem live_shape (w : World) : Ints (liveW w) (liveW w).heap.size (some ⟨w.heap.size, 0, none⟩) 1 [2] :=
  int_one _ _ _ (past_alloc _ (past_alloc _ (past_alloc _ (past_alloc _ (heap_alloc_new w _))))) (by omega) _ (by rw [live_size]; omega)
theorem live_ents (w : World) : Ents (liveW w) (liveW w).heap.size (some ⟨w.heap.size + 1 + 1 + 1 + 1, 0, none⟩) 3 (liveEs w.heap.size) := by
  have i1 : Ints (liveW w) (liveW w).heap.size (some ⟨w.heap.size + 1, 0, none⟩) 1 [1] := int_one _ _ _ (past_alloc _ (past_alloc _ (past_alloc _ (new_at _ _ _ (by simp))))) (by omega) _ (by rw [live_size]; omega)
  have i2 : Ints (liveW w) (liveW w).heap.size (some ⟨w.heap.size + 1 + 1, 0, none⟩) 1 [0] := int_one _ _ _ (past_alloc _ (past_alloc _ (new_at _ _ _ (by simp)))) (by omega) _ (by rw [live_size]; omega)
  have i3 : Ints (liveW w) (liveW w).heap.size (some ⟨w.heap.size + 1 + 1 + 1, 0, none⟩) 1 [1] := int_one _ _ _ (past_alloc _ (new_at _ _ _ (by simp))) (by omega) _ (by rw [live_size]; omega)
  have h4 : (liveW w).heap[w.heap.size + 1 + 1 + 1 + 1]? = some (.cells #[.slice (some ⟨w.heap.size + 1, 0, none⟩) 1 1, .int .i64 3, .slice (some ⟨w.heap.size + 1 + 1, 0, none⟩) 1 1, .int .i64 2, .slice (some ⟨w.heap.size + 1 + 1 + 1, 0, none⟩) 1 1, .int .i64 4] 37 (0, 0)) := new_at _ _ _ (by simp)
  refine ⟨rfl, fun x hx => ?_, fun _ => ⟨_, 0, rfl, by rw [live_size]; omega, fun k x hx => ?_⟩⟩
  · simp only [liveEs, List.mem_cons, List.not_mem_nil, or_false] at hx
    rcases hx with rfl | rfl | rfl
    · exact ⟨i1, by dsimp only; omega, Nat.le_refl _, by dsimp only; omega, by dsimp only; omega⟩
    · exact ⟨i2, by dsimp only; omega, Nat.le_refl _, by dsimp only; omega, by dsimp only; omega⟩
    · exact ⟨i3, by dsimp only; omega, Nat.le_refl _, by dsimp only; omega, by dsimp only; omega⟩
  · match k, hx with
    | 0, hx => simp [liveEs] at hx; subst hx; exact ⟨(cell_of_row _ _ 0 _ _ (0, 0) h4).trans (by simp), (cell_of_row _ _ 1 _ _ (0, 0) h4).trans (by simp)⟩
    | 1, hx => simp [liveEs] at hx; subst hx; exact ⟨(cell_of_row _ _ 2 _ _ (0, 0) h4).trans (by simp), (cell_of_row _ _ 3 _ _ (0, 0) h4).trans (by simp)⟩
    | 2, hx => simp [liveEs] at hx; subst hx; exact ⟨(cell_of_row _ _ 4 _ _ (0, 0) h4).trans (by simp), (cell_of_row _ _ 5 _ _ (0, 0) h4).trans (by simp)⟩
    | k + 3, hx => simp [liveEs] at hx

set_option maxRecDepth 100000 in
set_option maxHeartbeats 1000000 in
theorem cooLive_any (w : World) : Calls Try.prog 11 #[] w fun e w' => e = .returned (.bool true) ∧ Below w.heap.size w w' := by
  have HJ := cooJoin_pos (some ⟨w.heap.size, 0, none⟩) (some ⟨w.heap.size + 1 + 1 + 1 + 1, 0, none⟩) none 1 1 3 3 0 [2] (liveEs w.heap.size) (liveW w) (live_shape w) (live_ents w) (live_coo _) (by omega)
  rw [live_keys] at HJ
  have hbl := live_bel w
  have hsz := live_size w
  unfold liveW at HJ hbl
  go_enter Try.func11, Try.ntmps11
  go_wp2_with fail
  refine HJ.mono ?_
  rintro x w1 ⟨A1, c1, A2, c2, Js, rfl, _, hne, hkey, hb1⟩
  have hb := hbl.trans (hb1.mono hbl.size)
  have hl : Js.length = 2 := by have := congrArg List.length hkey; simpa using this
  rcases hne with hnil | ⟨g, post, rfl, _, hrow, _⟩
  · rw [hnil] at hl; simp at hl
  rw [hl]
  match Js, hl with
  | [x, y], _ =>
    have hk : keyE x = ([0], 2, 1) ∧ keyE y = ([1], 7, 1) := by simpa using hkey
    have hx : x.v = 2 := congrArg (fun q => q.2.1) hk.1
    have hy : y.v = 7 := congrArg (fun q => q.2.1) hk.2
    have hrg := hrow.lt
    obtain ⟨_, d1, _⟩ := blk_ent (j := 0) hrow (show ([x, y] : List Ent)[0]? = some x from rfl)
    obtain ⟨_, d2, _⟩ := blk_ent (j := 1) hrow (show ([x, y] : List Ent)[1]? = some y from rfl)
    rw [hx] at d1
    rw [hy] at d2
    simp only [Nat.zero_mul, Nat.one_mul, Nat.zero_add] at d1 d2
    clear HJ hbl hb1 hkey hrow hk hx hy
    go_wp2_with fail
    go_ret
    exact ⟨rfl, hb.alloc hb.size _⟩
end Go.Proofs.Ytpfabbapfmfmmaa
/- coo.turned. -/
namespace Go.Proofs.Ytpfabbapfmfmmaa
open Go.RowKit

/-- numbers in another order -/
def turnL (os xs : List Int) : List Int := os.map (pickE xs)
theorem turnL_len (os xs : List Int) : (turnL os xs).length = os.length := by unfold turnL; simp
theorem turnL_fits {os xs : List Int} (h : ∀ x ∈ xs, -9223372036854775808 ≤ x ∧ x ≤ 9223372036854775807) : ∀ x ∈ turnL os xs, -9223372036854775808 ≤ x ∧ x ≤ 9223372036854775807 := by
  intro x hx
  unfold turnL at hx
  obtain ⟨m, _, rfl⟩ := List.mem_map.1 hx
  unfold pickE
  rw [List.getD_eq_getElem?_getD]
  cases hq : xs[m.toNat]? with
  | none => simp
  | some y => exact h y (List.mem_of_getElem? hq)
set_option maxRecDepth 100000 in
set_option maxHeartbeats 2000000 in
theorem turned_any (A Ao : Option Addr) (n c ro co : Nat) (xs os : List Int) (w : World) (h : Ints w w.heap.size A n xs) (ho : Ints w w.heap.size Ao ro os) (hro : ro ≤ 100000) (hin : ∀ m ∈ os, 0 ≤ m ∧ m < n) :
    Calls Try.prog 57 #[.slice A n c, .slice Ao ro co] w fun x w' => ∃ g, x = .returned (.slice (some ⟨g, 0, none⟩) ro ro) ∧ OwnI w' w.heap.size 3 (some ⟨g, 0, none⟩) ro (turnL os xs) ∧ Below w.heap.size w w' := by
  obtain ⟨i0, hi0, hz0, hz1, hz2⟩ := info_parts infoInt
  have hmk := fun W => run_makeAll (P := Try.prog) 22 3 i0 Try.underlying22 hi0 hz0 hz1 hz2 ro (by omega) W
  have hs1 : w.heap.size ≤ w.heap.size := Nat.le_refl _
  have hown := own_made w 3 ro w.heap.size hs1 hro
  have HOW := Lib.hid hown
  have hbm := (Below.refl w.heap.size w).alloc (Nat.le_refl _) (.cells (madeCells #[.int .i64 0] ro) 3)
  have HBM := Lib.hid hbm
  have HTL : Hid ((turnL os xs).length = ro) := by unfold Hid; rw [turnL_len]; exact ho.1
  have HIN := Lib.hid hin
  clear hown hbm hin
  go_enter Try.func57, Try.ntmps57
  go_wp2
  go_loopw [13] (fun v wr => ∃ k : Nat, v = .int .i64 (k : Int) ∧ k ≤ ro ∧ Hid (OwnI wr w.heap.size 3 (some ⟨w.heap.size, 0, none⟩) ro ((turnL os xs).take k ++ List.replicate (ro - k) 0)) ∧ Hid (Below w.heap.size w wr)) (fun v _ => ro - (intOf v).toNat)
  case atStart => exact ⟨0, rfl, Nat.zero_le _, by unfold Hid; simpa using HOW.out, HBM⟩
  case round =>
    clear HOW HBM hmk
    obtain ⟨k, rfl, hk, HO, HB⟩ := hrel
    by_cases hlt : k < ro
    · have hb := HB.out
      obtain ⟨bm, om, m, rfl, _, HM, hcm, _, _⟩ := (ho.below hb).at_ hlt
      have hin := HIN.out m (List.mem_of_getElem? HM.out)
      obtain ⟨bx, ox, vx, rfl, _, HVX, hcx, hx1, hx2⟩ := (h.below hb).at_ (k := m.toNat) (by omega)
      have hm0 : 0 ≤ m := hin.1
      have hmx : m < n := hin.2
      have htk : (turnL os xs)[k]? = some vx := by unfold turnL; rw [List.getElem?_map, HM.out]; show some (pickE xs m) = _; rw [pickE_of HVX.out]
      have hz : ((turnL os xs).take k ++ List.replicate (ro - k) 0)[k]? = some (0 : Int) := by
        rw [List.getElem?_append_right (by rw [List.length_take, HTL.out]; omega), List.length_take, HTL.out, Nat.min_eq_left (by omega), Nat.sub_self, List.getElem?_replicate_of_lt (by omega)]
      obtain ⟨hcz, hfz⟩ := HO.out.cell_ hz
      have hset := HO.out.set_ k vx ⟨hx1, hx2⟩
      rw [fill_set HTL.out htk] at hset
      have HS := Lib.hid hset
      have HB2 := Lib.hid (hb.setCell (p := ⟨w.heap.size, k, none⟩) hs1 (.int .i64 vx))
      have hkn : (k : Int) < (ro : Int) := by omega
      have hk0 : (0 : Int) ≤ (k : Int) := by omega
      clear hz hset htk hin hb
      go_wp2
      go_roundw
      case rel => exact ⟨k + 1, by go_num, by omega, HS, HB2⟩
      case measure => simp [intOf]; omega
    · obtain rfl : k = ro := by omega
      have hfull : (turnL os xs).take k ++ List.replicate (k - k) 0 = turnL os xs := by rw [Nat.sub_self, List.replicate_zero, List.append_nil, List.take_of_length_le (Nat.le_of_eq HTL.out)]
      have HF : Hid (OwnI wr w.heap.size 3 (some ⟨w.heap.size, 0, none⟩) k (turnL os xs)) := by unfold Hid; rw [← hfull]; exact HO.out
      clear hfull
      go_wp2
      go_ret
      exact ⟨_, rfl, HF.out, HB.out⟩
end Go.Proofs.Ytpfabbapfmfmmaa
