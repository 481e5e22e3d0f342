/- The contract of box.Coord. -/
import Derived.Test.YtapbcmhkipaecaaG3
import Derived.Test.YtapbcmhkipaecaaG2
import Derived.Lib.QuietBelow
import Derived.Laws.AppendOwnNone
import Derived.Deep.RegionLaw
namespace Go.Proofs.Ytapbcmhkipaecaa
open Go.RowKit Go.Shelf
attribute [local go_sem] Oper.semAt_some

/-- what box.Coord has written when the pairs pre have come -/
def coSet (xs : List Int) (v : Int) (pre : List (Int × Int)) : List Int := pre.foldl (fun l x => l.set x.1.toNat (v / x.2 % (xs[x.1.toNat]?.getD 0))) (List.replicate xs.length 0)
theorem coSet_snoc (xs : List Int) (v : Int) (pre : List (Int × Int)) (x : Int × Int) : coSet xs v (pre ++ [x]) = (coSet xs v pre).set x.1.toNat (v / x.2 % (xs[x.1.toNat]?.getD 0)) := by simp [coSet]
theorem coSet_length (xs : List Int) (v : Int) (pre : List (Int × Int)) : (coSet xs v pre).length = xs.length := by
  unfold coSet
  suffices h : ∀ l : List Int, (pre.foldl (fun l x => l.set x.1.toNat (v / x.2 % (xs[x.1.toNat]?.getD 0))) l).length = l.length by rw [h]; simp
  induction pre with
  | nil => simp
  | cons x pre ih => intro l; rw [List.foldl_cons, ih]; simp
theorem coSet_comes {xs : List Int} (v : Int) (hp : ∀ x ∈ xs, 1 ≤ x) (hM : prodI xs ≤ 4611686018427387903) (k : Nat) (hk : k ≤ xs.length) : coSet xs v (comes xs k) = List.replicate (xs.length - k) 0 ++ (placeR xs v).drop (xs.length - k) := by
  induction k with
  | zero => rw [List.drop_of_length_le (by rw [placeR_length]; omega)]; simp [coSet, comes]
  | succ k ih =>
    have hx : xs[xs.length - 1 - k]? = some (xs[xs.length - 1 - k]'(by omega)) := List.getElem?_eq_getElem (by omega)
    have e3 : ((xs.length : Int) - 1 - k).toNat = xs.length - 1 - k := by omega
    have e2 : xs.length - 1 - k + 1 = xs.length - k := by omega
    rw [comes_succ, coSet_snoc, ih (by omega)]
    simp only [e3]
    rw [back_set (by omega)]
    rw [placeR_at hx, e2, backs_eq hp hM k (by omega), hx]; rfl
theorem own_row {A B : World} {row : Option Nat} {base n c g : Nat} {e : TypeId} {ys : List Value} (hs : A.ownsRow base e 1 (.slice (some ⟨g, 0, none⟩) n c) n ys) (hg : A.grownBy B row) (hr : ∀ r, row = some r → ∃ o : Obj, A.heap[r]? = some o ∧ o.isCells = false) :
    B.ownsRow base e 1 (.slice (some ⟨g, 0, none⟩) n c) n ys := by
  refine hs.kept hg (.inr fun e => ?_)
  obtain ⟨o, ho, hc⟩ := hr g e.symm
  rcases hs.2 with ⟨h', _⟩ | ⟨g', cap, cur, h', _, hh, _⟩
  · simp at h'
  · simp only [Value.slice.injEq, Option.some.injEq, Addr.mk.injEq, and_true, true_and] at h'
    obtain ⟨rfl, _⟩ := h'
    rw [hh] at ho
    injection ho with ho
    subst ho
    cases hc

theorem wpIn_makeFull {F : Fence} {m : Nat} {P : Program} (w : World) {ops : Array Oper} {rest : List Oper} {o : Oper} {a : Act} {Q : Exit → Act → World → Prop}
    (hg : o.guard = none) (l c : Operand) (t : TypeId) (hop : o.op = Op.makeSlice t l c)
    (base : Nat) (e : TypeId) (i : TypeInfo) (z : Value) (size : Nat) (h1 : P.underlying t = some (.slice e)) (h2 : P.info? e = some i) (h3 : i.zero = some z) (h4 : i.size = size)
    (kl kc : IntKind) (L C : Int) (n : Nat) (hl : a.eval l = .int kl L) (hc : a.eval c = .int kc C) (hL : L = (n : Int)) (hC : C = (n : Int)) (b2 : i.bytes * n ≤ 281474976710656) (b3 : n ≤ maxLen) (b4 : base ≤ w.heap.size)
    (hK : ∀ w', w'.ownsRow base e size (.slice (some ⟨w.heap.size, 0, none⟩) n n) n (madeCells z.cells (n * size)).toList → w.grownBy w' none → wpListIn F m P ops Q rest (a.put o.dst (.slice (some ⟨w.heap.size, 0, none⟩) n n)) w') :
    wpListIn F m P ops Q (o :: rest) a w := by
  refine wpListIn_plain hg fun K hK' => ?_
  obtain ⟨w', hrun, r1, r2⟩ := run_make_full (P := P) w base t e i z size h1 h2 h3 h4 kl kc n b2 b3 b4
  subst hL
  subst hC
  unfold Oper.wpIn
  refine ⟨?_, ?_⟩
  · simp [Oper.about, hop]
  · rw [Oper.semAt_plain F _ _ (by rw [hop]; intro c hc'; cases hc')]
    simp [execOp, hop, hl, hc, hrun, Result.andThen]
    exact hK' _ _ (hK w' r1 r2)

theorem mk_facts {w w1 : World} {u v : Value} {t t' : TypeId} (hg : ((w.alloc (.cells #[u] t)).alloc (.cells #[v] t')).grownBy w1 none) :
    Below (w.heap.size + 1 + 1) ((w.alloc (.cells #[u] t)).alloc (.cells #[v] t')) w1 ∧ w.heap.size + 1 + 1 ≤ w1.heap.size ∧ w1.cell? ⟨w.heap.size, 0, none⟩ = some u ∧ w1.cell? ⟨w.heap.size + 1, 0, none⟩ = some v := by
  have hb : Below (w.heap.size + 1 + 1) ((w.alloc (.cells #[u] t)).alloc (.cells #[v] t')) w1 := (Below.refl _ _).grown hg (by simp) (fun k e => by cases e)
  have c := newCell (w.alloc (.cells #[u] t)) v t'
  rw [World.size_alloc] at c
  refine ⟨hb, by simpa using hb.size, ?_, ?_⟩
  · exact (hb.cell (p := ⟨w.heap.size, 0, none⟩) (by simp; omega)).trans (cellPast _ (newCell w u t).1)
  · exact (hb.cell (p := ⟨w.heap.size + 1, 0, none⟩) (by simp)).trans c.1

theorem co_round {W w : World} {z : Value} {v1 v2 v3 : Value} {k g base e size n : Nat} {v : Value} {ys : List Value} (h1 : W.cell? ⟨g, 0, none⟩ = some v1) (h2 : W.cell? ⟨w.heap.size, 0, none⟩ = some v2) (h3 : W.cell? ⟨w.heap.size + 1, 0, none⟩ = some v3) (hB : Below w.heap.size w W)
    (hg : w.heap.size + 1 + 1 < g) (hr : (W.setCell ⟨w.heap.size + 1 + 1, k, none⟩ z).ownsRow base e size v n ys) :
    KeepsOthers W (W.setCell ⟨w.heap.size + 1 + 1, k, none⟩ z).drew ∧ KeepBox (g + 1) w.heap.size W (W.setCell ⟨w.heap.size + 1 + 1, k, none⟩ z).drew ∧
      ((W.setCell ⟨w.heap.size + 1 + 1, k, none⟩ z).drew.cell? ⟨g, 0, none⟩ = some v1 ∧ (W.setCell ⟨w.heap.size + 1 + 1, k, none⟩ z).drew.cell? ⟨w.heap.size, 0, none⟩ = some v2 ∧ (W.setCell ⟨w.heap.size + 1 + 1, k, none⟩ z).drew.cell? ⟨w.heap.size + 1, 0, none⟩ = some v3 ∧
        (W.setCell ⟨w.heap.size + 1 + 1, k, none⟩ z).drew.ownsRow base e size v n ys) ∧ Below w.heap.size w (W.setCell ⟨w.heap.size + 1 + 1, k, none⟩ z).drew := by
  refine ⟨(KeepsOthers.setCell _ _ _).trans (KeepsOthers.drew _), (KeepBox.of_setCell (p := ⟨w.heap.size + 1 + 1, k, none⟩) (by simp; omega) (by simp; omega) _).drew, ⟨?_, ?_, ?_, hr⟩, (hB.setCell (p := ⟨w.heap.size + 1 + 1, k, none⟩) (by simp; omega) _).drew⟩
  · exact (World.cell?_setCell_other W _ ⟨g, 0, none⟩ _ (by simp)).trans h1
  · exact (World.cell?_setCell_other W _ ⟨w.heap.size, 0, none⟩ _ (by simp)).trans h2
  · exact (World.cell?_setCell_other W _ ⟨w.heap.size + 1, 0, none⟩ _ (by simp)).trans h3

set_option maxRecDepth 100000 in
set_option maxHeartbeats 2000000 in
theorem coord_in (n : Nat) (hn : 3 ≤ n) (A : Option Addr) (r c : Nat) (xs : List Int) (v N : Int) (w : World) (h : Ints w w.heap.size A r xs) (hr : r ≤ 9223372036854775807)
   (hcf : (cellsF xs).2 = 0) (hN : (cellsF xs).1 = N) (hv0 : 0 ≤ v) (hvN : v < N) :
    CallsIn Fence.wide n Try.prog 62 #[.slice A r c, .int .i64 v] w fun e w' => ∃ A' c', e = .returned (.tuple #[.slice A' r c', .int .i64 0]) ∧ OwnI w' w.heap.size 3 A' c' (placeR xs v) ∧ Below w.heap.size w w' := by
  have h1 : 1 ≤ n := by omega
  have hp : ∀ x ∈ xs, 1 ≤ x := cellsF_nz hcf (by rw [hN]; omega)
  have hr5 : r ≤ 100000 := by have := (cellsF_ok hcf).1; have := h.1; omega
  have hM := cellsF_ok_pos hcf hp
  rw [hN] at hM
  have HC := fun W (hW : Ints W w.heap.size A r xs) => callsIn_wide (n := n - 1) |>.2 (cells_any A r c xs W w.heap.size hW hr)
  rw [hcf, hN] at HC
  have HF := fun W => fromBehind_in (n - 1) A r c W
  have HL := Lib.hid h.1
  have hvM : v ≤ 4611686018427387903 := by omega
  have hM2 := hM.2
  have HM1 := Lib.hid hM.1
  clear hcf hN hM
  have hv9 : decide (v < 0) = false := by simp; omega
  have hv8 : decide (N ≤ v) = false := by simp; omega
  obtain ⟨i0, hi0, hz0, hz1, hz2⟩ := info_parts infoInt
  refine callsIn_of_wp_marks Try.func62 rfl trivial ?_ rfl
  simp only [Try.ntmps62, List.size_toArray, List.length_cons, List.length_nil, Nat.reduceAdd, Nat.reduceSub, Array.replicate_succ, Array.replicate_zero, List.push_toArray, List.append_toArray, List.nil_append, List.cons_append]
  gi_wp2_with (first | (refine ⟨trivial, ?_⟩; gi_at_call 51; refine (HC _ ((h.alloc (Nat.le_refl _) _).alloc (by simp) _)).mono ?_; rintro e w' ⟨rfl, rfl⟩) | (gi_at_make; refine wpIn_makeFull _ rfl (.tmp 27) (.tmp 27) 22 rfl w.heap.size 3 i0 _ 1 Try.underlying22 hi0 hz0 hz1 _ _ _ _ r rfl rfl rfl rfl (by rw [hz2]; omega) (by unfold maxLen; omega) (by simp; omega) ?_; intro w1 hown hg; obtain ⟨hB1, hsz1, c2, c3⟩ := mk_facts hg; have d2 := fun o => cellPast o c2; have d3 := fun o => cellPast o c3) | (refine ⟨trivial, ?_⟩; gi_at_call 79; refine (HF _).mono ?_; rintro e w' ⟨rfl, rfl⟩))
  have hown2 : w1.ownsRow w.heap.size 3 1 (.slice (some ⟨w.heap.size + 1 + 1, 0, none⟩) r r) r ((coSet xs v []).map (Value.int .i64)) := by
    have : coSet xs v [] = List.replicate r 0 := by unfold coSet; rw [List.foldl_nil, HL.out]
    rw [this, List.map_replicate]
    simpa [Value.cells, toList_madeCells_one] using hown
  have hw1 : Below w.heap.size w w1 := (((Below.refl _ w).alloc (Nat.le_refl _) _).alloc (by simp) _).trans (hB1.mono (by omega))
  have cn := newCell w1 (.slice (some ⟨w.heap.size + 1 + 1, 0, none⟩) r r) 22
  have cs_ := newCell (w1.alloc (.cells #[.slice (some ⟨w.heap.size + 1 + 1, 0, none⟩) r r] 22)) (.slice A r c) 22
  simp only [World.size_alloc] at cs_
  have hB0 : Below w.heap.size w ((w1.alloc (.cells #[.slice (some ⟨w.heap.size + 1 + 1, 0, none⟩) r r] 22)).alloc (.cells #[.slice A r c] 22)) := (hw1.alloc (by omega) _).alloc (by simp; omega) _
  have hsz2 : w.heap.size + 1 + 1 < w1.heap.size := by simpa using (hown.lt _ rfl).2
  clear hown hg hB1 HC HF
  refine wpIn_rangeFunc_ownF rfl h1 (gf := 92) (lb := #[.pointer (some ⟨w1.heap.size + 1, 0, none⟩)]) rfl trivial (enters_of Try.func92 (by kernel_rfl) rfl)
    (fromBehind_stops (n - 1) (by omega) (fun x => (0 ≤ x.1 ∧ x.1 < r) ∧ 1 ≤ x.2) (w1.heap.size + 1) w.heap.size A r c xs hr5 (fun k hk => ⟨⟨by dsimp only; omega, by dsimp only; omega⟩, (backs_pos hp hM2 k (by rw [HL.out]; omega)).1⟩) _ (by simp) (by simp; omega) cs_.1 (h.below hB0)) KeepBox.trans (keepBox_b (by simp; omega) (by simp)) (Below.refl _ _) (fun _ => rfl)
    (fun pre W => (W.cell? ⟨w1.heap.size, 0, none⟩ = some (.slice (some ⟨w.heap.size + 1 + 1, 0, none⟩) r r) ∧ W.cell? ⟨w.heap.size, 0, none⟩ = some (.slice A r c) ∧ W.cell? ⟨w.heap.size + 1, 0, none⟩ = some (.int .i64 v) ∧
      W.ownsRow w.heap.size 3 1 (.slice (some ⟨w.heap.size + 1 + 1, 0, none⟩) r r) r ((coSet xs v (pre.map (·.1))).map (Value.int .i64))) ∧ Below w.heap.size w W)
    (fun _ _ _ => False)
    (OwnFrom.and (Own.from (fun s A B row hs hg hr => ⟨cell_kept hs.1 hg hr, cell_kept hs.2.1 hg hr, cell_kept hs.2.2.1 hg hr, own_row hs.2.2.2 hg hr⟩) _) (ownFrom_below (Nat.le_refl _) (by simp; omega)))
    (fun _ _ _ _ _ hs _ _ => hs)
    ⟨⟨cellPast _ cn.1, cellPast _ (d2 _), cellPast _ (d3 _), (hown2.alloc _).alloc _⟩, hB0⟩
    (fun x => { tmps := #[.slice A r c, .int .i64 v, .pointer (some ⟨w.heap.size, 0, none⟩), .pointer (some ⟨w.heap.size + 1, 0, none⟩), .slice none 0 0, .int .i64 0, .int .i64 N, .int .i64 0, .pointer (some ⟨w1.heap.size, 0, none⟩), .int .i64 x.1.1, .int .i64 x.1.2,
          .tuple #[.int .i64 N, .int .i64 0], .slice A r c, .tuple #[.int .i64 N, .int .i64 0], .int .i64 N, .int .i64 0, .int .i64 0, .bool false, undef, .int .i64 v, .bool false, .bool false, .int .i64 v, .int .i64 N, .bool false, .bool false, .slice A r c, .int .i64 r,
          .slice (some ⟨w.heap.size + 1 + 1, 0, none⟩) r r, .slice A r c, .func (.func 92) #[] #[.pointer (some ⟨w1.heap.size + 1, 0, none⟩)], .int .i64 x.1.1, .int .i64 x.1.2, undef, undef, undef, undef, undef, undef, undef, undef, undef, undef, undef, undef], defers := [] }) ?assign ?body ?done ?stop
  case assign =>
    intro l x W K hK
    gi_wp2
    exact hK
  case body =>
    rintro l pre ⟨⟨j, q⟩, ⟨hj0, hj1⟩, hq⟩ W ⟨⟨hcc, hcs, hcn, hrow⟩, hB⟩ _
    dsimp only at hj0 hj1 hq ⊢
    have h' := h.below hB
    obtain ⟨b, off, x, rfl, hbb, HX, hcx, hx1, hx2⟩ := h'.at_ (k := j.toNat) (by omega)
    have hx0 : 1 ≤ x := hp x (List.mem_of_getElem? HX.out)
    obtain ⟨u, hu⟩ : ∃ u, ((coSet xs v (pre.map (·.1))).map (Value.int .i64))[j.toNat]? = some u := by
      refine ⟨_, List.getElem?_eq_getElem ?_⟩
      rw [List.length_map, coSet_length, HL.out]; omega
    have hcell : W.cell? ⟨w.heap.size + 1 + 1, j.toNat, none⟩ = some u := (hrow.cellAt j.toNat (by omega)).trans hu
    have hfr := hrow.frozenAt j.toNat
    have HR := Lib.hid hrow
    clear hu cn cs_ hB0 h h' hp d2 d3 c2 c3 hw1 hown2 hrow
    have hq00 : ¬ q = 0 := by omega
    have hx00 : ¬ x = 0 := by omega
    obtain ⟨d, hd⟩ : ∃ d, v / q = d := ⟨_, rfl⟩
    have hd0 : 0 ≤ d := by rw [← hd]; exact Int.ediv_nonneg hv0 (by omega)
    have hd1 : d ≤ v := by rw [← hd]; exact Int.ediv_le_self _ hv0
    have he1 : IntKind.i64.wrap (v.tdiv q) = d := by rw [Int.tdiv_eq_ediv_of_nonneg hv0, hd, wrap_eq]; exact IntWalk.wrap64_in _ ⟨by omega, by omega⟩
    have he2 : IntKind.i64.wrap (d.tmod x) = d % x := by
      have hz0 := Int.emod_nonneg d hx00
      have hz1 := Int.emod_lt_of_pos d (b := x) (by omega)
      rw [Int.tmod_eq_emod_of_nonneg hd0, wrap_eq]; exact IntWalk.wrap64_in _ ⟨by omega, by omega⟩
    have HZ : Hid (v / q = d) := hd
    clear hd
    have hmx : Try.prog.follows .mixedOrders = true := by kernel_rfl
    gi_wp2
    refine wpIn_region_still_tail_round 11 hmx (by kernel_rfl) (by kernel_rfl) (by rintro ⟨_, _, hh⟩; exact hh) ?_
    simp only [List.take_succ_cons, List.take_zero, List.drop_succ_cons, List.drop_zero]
    repeat still_step
    refine wpStill_nil ?_
    change wpList _ _ _ _ _ W.drew
    go_wp2
    have HS := HR.out.stored j.toNat (.int .i64 (d % x))
    rw [← List.map_set] at HS
    exact co_round hcc hcs hcn hB hsz2 (by
      rw [List.map_append]; show (W.setCell _ _).ownsRow _ _ _ _ _ ((coSet xs v (pre.map (·.1) ++ [(j, q)])).map _)
      rw [coSet_snoc]; simp only [HX.out, Option.getD_some]; rw [HZ.out]; exact HS.1)
  case done =>
    rintro D ys W hD hys ⟨⟨hcc, _, _, hrow⟩, hB⟩ hK
    rw [hys] at hrow
    have hfin := coSet_comes v hp hM2 r (by rw [HL.out]; omega)
    rw [HL.out, Nat.sub_self, List.drop_zero] at hfin
    rw [hfin] at hrow
    clear hfin hys
    gi_wp2
    refine ⟨by simp, .inl ⟨_, _, rfl, run_takeDeferred hK, ?_⟩⟩
    refine ⟨_, results_tmp2 rfl _ _ _, _, _, rfl, ⟨?_, ?_⟩, hB.trans (belowK_b (w := w) (Nat.le_refl _) W D _ _ (by simp at hD; omega) hK rfl rfl)⟩
    · rw [placeR_length, HL.out]; exact own_row (by simpa using hrow) (grownBy_putObj' _ D (.deferred none)) (fun r e => by cases e; exact ⟨_, hK, rfl⟩)
    · exact placeR_fits hp (fun x hx => (h.2.1 x hx).2) v
  case stop =>
    rintro D c pre W _ _ h _
    exact h.elim

set_option maxRecDepth 100000 in
theorem coord_any (A : Option Addr) (r c : Nat) (xs : List Int) (v : Int) (w : World) (h : Ints w w.heap.size A r xs) (hr : r ≤ 9223372036854775807) :
    Calls Try.prog 62 #[.slice A r c, .int .i64 v] w fun e w' => ∃ A' c', e = .returned (.tuple #[.slice A' (coordF xs v).1.length c', .int .i64 (coordF xs v).2]) ∧ OwnI w' w.heap.size 3 A' c' (coordF xs v).1 ∧ Below w.heap.size w w' := by
  have HC := fun W (hW : Ints W w.heap.size A r xs) => cells_any A r c xs W w.heap.size hW hr
  have hB1 : ∀ o1 o2, Below w.heap.size w ((w.alloc o1).alloc o2) := fun o1 o2 => ((Below.refl _ w).alloc (Nat.le_refl _) _).alloc (by simp) _
  by_cases hcf : (cellsF xs).2 = 0
  · obtain ⟨N, hN⟩ : ∃ N, (cellsF xs).1 = N := ⟨_, rfl⟩
    by_cases hv : 0 ≤ v ∧ v < N
    · have HF : coordF xs v = (placeR xs v, 0) := by unfold coordF; rw [if_pos hcf, hN, if_pos hv]
      have hl : (placeR xs v).length = r := by rw [placeR_length]; exact h.1
      refine (callsIn_wide.1 (coord_in 3 (Nat.le_refl _) A r c xs v N w h hr hcf hN hv.1 hv.2)).mono ?_
      rintro e w' ⟨A', c', rfl, ho, hb⟩
      exact ⟨A', c', by rw [HF]; dsimp only; rw [hl], by rw [HF]; exact ho, hb⟩
    · have HF : Hid (coordF xs v = ([], 3)) := by unfold Hid coordF; rw [if_pos hcf, hN, if_neg hv]
      rw [hcf, hN] at HC
      clear hcf hN
      by_cases hv0 : v < 0
      · have hd : decide (v < 0) = true := by simpa using hv0
        clear hv
        go_enter Try.func62, Try.ntmps62
        go_wp2_with (go_at_call 51; refine (HC _ ((h.alloc (Nat.le_refl _) _).alloc (by simp) _)).mono ?_; rintro e w' ⟨rfl, rfl⟩)
        go_ret2
        exact ⟨none, 0, by rw [HF.out]; rfl, by rw [HF.out]; exact OwnI.nil_ _ _ _, hB1 _ _⟩
      · have hd : decide (v < 0) = false := by simpa using hv0
        have hv3 : N ≤ v := by omega
        have hd2 : decide (N ≤ v) = true := by simpa using hv3
        clear hv
        go_enter Try.func62, Try.ntmps62
        go_wp2_with (go_at_call 51; refine (HC _ ((h.alloc (Nat.le_refl _) _).alloc (by simp) _)).mono ?_; rintro e w' ⟨rfl, rfl⟩)
        go_ret2
        exact ⟨none, 0, by rw [HF.out]; rfl, by rw [HF.out]; exact OwnI.nil_ _ _ _, hB1 _ _⟩
  · have HF : Hid (coordF xs v = ([], (cellsF xs).2)) := by unfold Hid coordF; rw [if_neg hcf]
    obtain ⟨N, hN⟩ : ∃ N, (cellsF xs).1 = N := ⟨_, rfl⟩
    obtain ⟨E, hE⟩ : ∃ E, (cellsF xs).2 = E := ⟨_, rfl⟩
    rw [hN, hE] at HC
    rw [hE] at hcf HF
    have he1 : (E == 0) = false := by simpa using hcf
    have he2 : (E != 0) = true := by simpa using hcf
    clear hN hE hcf
    go_enter Try.func62, Try.ntmps62
    go_wp2_with (go_at_call 51; refine (HC _ ((h.alloc (Nat.le_refl _) _).alloc (by simp) _)).mono ?_; rintro e w' ⟨rfl, rfl⟩)
    go_ret2
    exact ⟨none, 0, by rw [HF.out]; rfl, by rw [HF.out]; exact OwnI.nil_ _ _ _, hB1 _ _⟩
end Go.Proofs.Ytapbcmhkipaecaa
/- The contract of the statements' live: the chapter's examples hold, and nothing that lay there has turned. -/
namespace Go.Proofs.Ytapbcmhkipaecaa
open Go.RowKit

theorem Ints.of_new (W : World) (e : TypeId) (xs : List Int) (hb : ∀ x ∈ xs, -9223372036854775808 ≤ x ∧ x ≤ 9223372036854775807) :
    Ints (W.alloc (.cells (xs.map (Value.int .i64)).toArray e)) (W.heap.size + 1) (some ⟨W.heap.size, 0, none⟩) xs.length xs := by
  refine ⟨rfl, hb, fun _ => ⟨W.heap.size, 0, rfl, by omega, fun k x hx => ?_⟩⟩
  have h : (W.alloc (.cells (xs.map (Value.int .i64)).toArray e)).heap[W.heap.size]? = some (.cells (xs.map (Value.int .i64)).toArray e (0, 0)) := heap_alloc_new W _
  have := cell_of_row _ _ k _ e (0, 0) h
  rw [Nat.zero_add, this]
  simp [hx]

theorem live_at (w : World) : Calls Try.prog 52 #[.slice (some ⟨w.heap.size, 0, none⟩) 2 2, .slice (some ⟨w.heap.size + 1, 0, none⟩) 2 2] ((w.alloc (.cells #[.int .i64 2, .int .i64 3] 3)).alloc (.cells #[.int .i64 1, .int .i64 2] 3))
    fun e w' => e = .returned (.tuple #[.int .i64 5, .int .i64 0]) ∧ Below (w.heap.size + 1 + 1) ((w.alloc (.cells #[.int .i64 2, .int .i64 3] 3)).alloc (.cells #[.int .i64 1, .int .i64 2] 3)) w' := by
  have h1 := ((Ints.of_new w 3 [2, 3] (by simp)).alloc (by simp) (.cells #[.int .i64 1, .int .i64 2] 3)).more (B' := w.heap.size + 1 + 1) (by omega)
  have h2 := Ints.of_new (w.alloc (.cells #[.int .i64 2, .int .i64 3] 3)) 3 [1, 2] (by simp)
  rw [World.size_alloc] at h2
  have := at_any _ _ 2 2 2 2 [2, 3] [1, 2] ((w.alloc (.cells #[.int .i64 2, .int .i64 3] 3)).alloc (.cells #[.int .i64 1, .int .i64 2] 3)) (by simpa using h1) (by simpa using h2) (by omega) (by omega)
  have e : atF [2, 3] [1, 2] = (5, 0) := by decide
  rw [e] at this
  simpa using this
theorem live_zero (w : World) : Calls Try.prog 58 #[.slice (some ⟨w.heap.size, 0, none⟩) 1 1] (w.alloc (.cells #[.int .i64 2] 3))
    fun e w' => ∃ A1 c1 A2 c2, e = .returned (.tuple #[.agg #[.slice A1 1 c1, .slice A2 2 c2], .int .i64 0]) ∧ Below (w.heap.size + 1) (w.alloc (.cells #[.int .i64 2] 3)) w' := by
  have h1 := Ints.of_new w 3 [2] (by simp)
  have := zero_ok _ 1 1 [2] 2 (w.alloc (.cells #[.int .i64 2] 3)) (by simpa using h1) (by omega) (by decide) (by decide) (by omega)
  refine this.mono ?_
  rintro e w' ⟨A1, c1, A2, c2, rfl, _, _, hb⟩
  exact ⟨A1, c1, A2, c2, rfl, by simpa using hb⟩

end Go.Proofs.Ytapbcmhkipaecaa
/- purflelaw01.BoxPlaces returns true at every input, and nothing that lay there has turned. -/
namespace Go.Proofs.Ytapbcmhkipaecaa
open Go.RowKit

theorem below_drewN {B : Nat} {w W : World} (h : Below B w W) (m : Nat) : Below B w (W.drewN m) := ⟨h.os, h.tape, h.output, h.size, h.block⟩
theorem coordF_len {xs : List Int} {v : Int} : (coordF xs v).1.length ≤ 4 := by
  unfold coordF
  split
  · rename_i h
    split
    · rw [placeR_length]; exact (cellsF_ok h).1
    · simp
  · simp

end Go.Proofs.Ytapbcmhkipaecaa
/- The contracts of box.Check and the document's Check, of few, of box.Same, the document's Equals and Same, of box.Get and the document's Get. -/
namespace Go.Proofs.Ytapbcmhkipaecaa
open Go.RowKit

/-- Check, of a shape and how many numbers there are -/
def checkF (xs : List Int) (m : Nat) : Int := if (laidF xs).2 = 0 then if (m : Int) = (laidF xs).1 then 0 else 1 else (laidF xs).2

set_option maxRecDepth 100000 in
theorem check_any (A B : Option Addr) (n c m e : Nat) (xs : List Int) (w : World) (h : Ints w w.heap.size A n xs) (hn : n ≤ 9223372036854775807) :
    Calls Try.prog 60 #[.agg #[.slice A n c, .slice B m e]] w fun x w' => x = .returned (.int .i64 (checkF xs m)) ∧ Below w.heap.size w w' := by
  have HC := fun W (hW : Ints W w.heap.size A n xs) => laid_any A n c xs W w.heap.size hW hn
  obtain ⟨N, hN⟩ : ∃ N, (laidF xs).1 = N := ⟨_, rfl⟩
  obtain ⟨E, hE⟩ : ∃ E, (laidF xs).2 = E := ⟨_, rfl⟩
  rw [hN, hE] at HC
  by_cases he : E = 0
  · by_cases hm : (m : Int) = N
    · have HF : Hid (checkF xs m = 0) := by unfold Hid checkF; rw [hE, if_pos he, hN, if_pos hm]
      have e1 : ((m : Int) == N) = true := by simpa using hm
      have e2 : ((m : Int) != N) = false := by simpa using hm
      clear hN hE hm
      subst he
      go_enter Try.func60, Try.ntmps60
      go_wp2_with (go_at_call 82; refine (HC _ (h.alloc (Nat.le_refl _) _)).mono ?_; rintro e w' ⟨rfl, rfl⟩)
      go_ret
      exact ⟨by rw [HF.out]; rfl, (Below.refl _ _).alloc (Nat.le_refl _) _⟩
    · have HF : Hid (checkF xs m = 1) := by unfold Hid checkF; rw [hE, if_pos he, hN, if_neg hm]
      have e1 : ((m : Int) == N) = false := by simpa using hm
      have e2 : ((m : Int) != N) = true := by simpa using hm
      clear hN hE hm
      subst he
      go_enter Try.func60, Try.ntmps60
      go_wp2_with (go_at_call 82; refine (HC _ (h.alloc (Nat.le_refl _) _)).mono ?_; rintro e w' ⟨rfl, rfl⟩)
      go_ret
      exact ⟨by rw [HF.out]; rfl, (Below.refl _ _).alloc (Nat.le_refl _) _⟩
  · have HF : Hid (checkF xs m = E) := by unfold Hid checkF; rw [hE, if_neg he]
    have e1 : (E == 0) = false := by simpa using he
    have e2 : (E != 0) = true := by simpa using he
    clear hN hE he
    go_enter Try.func60, Try.ntmps60
    go_wp2_with (go_at_call 82; refine (HC _ (h.alloc (Nat.le_refl _) _)).mono ?_; rintro e w' ⟨rfl, rfl⟩)
    go_ret
    exact ⟨by rw [HF.out]; rfl, (Below.refl _ _).alloc (Nat.le_refl _) _⟩

theorem checkF_err {xs : List Int} {m : Nat} (h : (cellsF xs).2 ≠ 0) : checkF xs m = (cellsF xs).2 := by
  unfold checkF laidF; rw [if_neg h]; exact if_neg h
theorem checkF_large {xs : List Int} {m : Nat} (h : (cellsF xs).2 = 0) (h2 : 65536 < (cellsF xs).1) : checkF xs m = 2 := by
  unfold checkF laidF; rw [if_pos h, if_pos h2]; rfl
theorem checkF_fit {xs : List Int} {m : Nat} (h : (cellsF xs).2 = 0) (h2 : ¬ 65536 < (cellsF xs).1) : checkF xs m = if (m : Int) = (cellsF xs).1 then 0 else 1 := by
  unfold checkF laidF; rw [if_pos h, if_neg h2]; rfl

set_option maxRecDepth 100000 in
theorem refCheck_any (A B : Option Addr) (n c m e : Nat) (xs : List Int) (w : World) (h : Ints w w.heap.size A n xs) (hn : n ≤ 9223372036854775807) :
    Calls Try.prog 63 #[.agg #[.slice A n c, .slice B m e]] w fun x w' => x = .returned (.int .i64 (checkF xs m)) ∧ Below w.heap.size w w' := by
  have HC := fun W (hW : Ints W w.heap.size A n xs) => refCells_any A n c xs W w.heap.size hW hn
  obtain ⟨N, hN⟩ : ∃ N, (cellsF xs).1 = N := ⟨_, rfl⟩
  obtain ⟨E, hE⟩ : ∃ E, (cellsF xs).2 = E := ⟨_, rfl⟩
  rw [hN, hE] at HC
  by_cases he : E = 0
  · by_cases hl : 65536 < N
    · have HF : Hid (checkF xs m = 2) := checkF_large (by rw [hE]; exact he) (by rw [hN]; exact hl)
      clear hN hE
      subst he
      go_enter Try.func63, Try.ntmps63
      go_wp2_with (go_at_call 53; refine (HC _ (h.alloc (Nat.le_refl _) _)).mono ?_; rintro e w' ⟨rfl, rfl⟩)
      go_ret
      exact ⟨by rw [HF.out]; rfl, (Below.refl _ _).alloc (Nat.le_refl _) _⟩
    · have hq := checkF_fit (xs := xs) (m := m) (by rw [hE]; exact he) (by rw [hN]; exact hl)
      rw [hN] at hq
      clear hN hE
      subst he
      by_cases hm : (m : Int) = N
      · rw [if_pos hm] at hq
        have HF := Lib.hid hq
        have e1 : ((m : Int) == N) = true := by simpa using hm
        have e2 : ((m : Int) != N) = false := by simpa using hm
        clear hm hq
        go_enter Try.func63, Try.ntmps63
        go_wp2_with (go_at_call 53; refine (HC _ (h.alloc (Nat.le_refl _) _)).mono ?_; rintro e w' ⟨rfl, rfl⟩)
        go_ret
        exact ⟨by rw [HF.out]; rfl, (Below.refl _ _).alloc (Nat.le_refl _) _⟩
      · rw [if_neg hm] at hq
        have HF := Lib.hid hq
        have e1 : ((m : Int) == N) = false := by simpa using hm
        have e2 : ((m : Int) != N) = true := by simpa using hm
        clear hm hq
        go_enter Try.func63, Try.ntmps63
        go_wp2_with (go_at_call 53; refine (HC _ (h.alloc (Nat.le_refl _) _)).mono ?_; rintro e w' ⟨rfl, rfl⟩)
        go_ret
        exact ⟨by rw [HF.out]; rfl, (Below.refl _ _).alloc (Nat.le_refl _) _⟩
  · have hq := checkF_err (xs := xs) (m := m) (by rw [hE]; exact he)
    rw [hE] at hq
    have HF := Lib.hid hq
    have e1 : (E == 0) = false := by simpa using he
    have e2 : (E != 0) = true := by simpa using he
    clear hN hE he hq
    go_enter Try.func63, Try.ntmps63
    go_wp2_with (go_at_call 53; refine (HC _ (h.alloc (Nat.le_refl _) _)).mono ?_; rintro e w' ⟨rfl, rfl⟩)
    go_ret
    exact ⟨by rw [HF.out]; rfl, (Below.refl _ _).alloc (Nat.le_refl _) _⟩

/-- a dense tensor's header, and what it holds -/
structure Hdr where
  A : Option Addr
  n : Nat
  c : Nat
  B : Option Addr
  m : Nat
  e : Nat
def Hdr.val (d : Hdr) : Value := .agg #[.slice d.A d.n d.c, .slice d.B d.m d.e]
def fewF (l : List Hdr) : Bool := l.all fun d => decide (d.n ≤ 20) && decide (d.m ≤ 70000)
/-- a block that holds tensors' headers one behind the other -/
def Hdrs (w : World) (g : Nat) (l : List Hdr) : Prop := ∀ (k : Nat) (d : Hdr), l[k]? = some d → w.cell? ⟨g, k * 2, none⟩ = some (.slice d.A d.n d.c) ∧ w.cell? ⟨g, k * 2 + 1, none⟩ = some (.slice d.B d.m d.e)

theorem two_boxes {w w1 : World} {a b c d : Value} {t : TypeId} (hb : Below ((w.alloc (.cells #[a, b] t)).alloc (.cells #[c, d] t)).heap.size ((w.alloc (.cells #[a, b] t)).alloc (.cells #[c, d] t)) w1) :
    w1.cell? ⟨w.heap.size, 0, none⟩ = some a ∧ w1.cell? ⟨w.heap.size, 1, none⟩ = some b ∧ w1.cell? ⟨w.heap.size + 1, 0, none⟩ = some c ∧ w1.cell? ⟨w.heap.size + 1, 1, none⟩ = some d := by
  have h0 : (w.alloc (.cells #[a, b] t)).heap[w.heap.size]? = some (.cells #[a, b] t (0, 0)) := heap_alloc_new w _
  have h1 : ((w.alloc (.cells #[a, b] t)).alloc (.cells #[c, d] t)).heap[w.heap.size]? = some (.cells #[a, b] t (0, 0)) := (Below.heap_alloc _ _ _ (by simp)).trans h0
  have h2 : ((w.alloc (.cells #[a, b] t)).alloc (.cells #[c, d] t)).heap[w.heap.size + 1]? = some (.cells #[c, d] t (0, 0)) := by
    have := heap_alloc_new (w.alloc (.cells #[a, b] t)) (.cells #[c, d] t); rwa [World.size_alloc] at this
  have k1 := (hb.block w.heap.size (by simp; omega)).trans h1
  have k2 := (hb.block (w.heap.size + 1) (by simp)).trans h2
  refine ⟨?_, ?_, ?_, ?_⟩
  · simpa using cell_of_row _ _ 0 _ t (0, 0) k1
  · simpa using cell_of_row _ _ 1 _ t (0, 0) k1
  · simpa using cell_of_row _ _ 0 _ t (0, 0) k2
  · simpa using cell_of_row _ _ 1 _ t (0, 0) k2

/-- box.Same -/
def sameF (xs : List Int) (m : Nat) (xs2 ys ys2 : List Int) : Bool := decide (checkF xs m = 0) && decide (xs = xs2) && decide (ys = ys2)

set_option maxRecDepth 100000 in
theorem same_any (A B A2 B2 : Option Addr) (n c m e n2 c2 m2 e2 : Nat) (xs ys xs2 ys2 : List Int) (w : World) (h : Ints w w.heap.size A n xs) (hv : Ints w w.heap.size B m ys) (h2 : Ints w w.heap.size A2 n2 xs2) (hv2 : Ints w w.heap.size B2 m2 ys2)
    (hn : n ≤ 9223372036854775807) (hm : m ≤ 100000) (hn2 : n2 ≤ 9223372036854775807) (hm2 : m2 ≤ 9223372036854775807) (hn5 : n ≤ 100000) :
    Calls Try.prog 37 #[.agg #[.slice A n c, .slice B m e], .agg #[.slice A2 n2 c2, .slice B2 m2 e2]] w fun x w' => x = .returned (.bool (sameF xs m xs2 ys ys2)) ∧ Below w.heap.size w w' := by
  have HC := fun W (hb : Below w.heap.size w W) => check_any A B n c m e xs W ((h.below hb).more hb.size) hn
  have HE := fun W (hb : Below w.heap.size w W) => equalInt_any A A2 n n2 c c2 xs xs2 W w.heap.size (h.below hb) (h2.below hb) hn5 hn2
  have HV := fun W (hb : Below w.heap.size w W) => equalInt64_any B B2 m m2 e e2 ys ys2 W w.heap.size (hv.below hb) (hv2.below hb) hm hm2
  obtain ⟨E, hE⟩ : ∃ E, checkF xs m = E := ⟨_, rfl⟩
  rw [hE] at HC
  have hB0 : ∀ o1 o2, Below w.heap.size w ((w.alloc o1).alloc o2) := fun o1 o2 => ((Below.refl _ w).alloc (Nat.le_refl _) _).alloc (by simp) _
  by_cases he : E = 0
  · subst he
    by_cases hx : xs = xs2
    · have hd1 : decide (xs = xs2) = true := by simpa using hx
      rw [hd1] at HE
      by_cases hy : ys = ys2
      · have hd2 : decide (ys = ys2) = true := by simpa using hy
        have HF : Hid (sameF xs m xs2 ys ys2 = true) := by unfold Hid sameF; rw [hE, hd1, hd2]; rfl
        rw [hd2] at HV
        clear hE hx hy hd1 hd2
        go_enter Try.func37, Try.ntmps37
        go_wp2_with (first | (go_at_call 60; refine (HC _ (hB0 _ _)).mono ?_; rintro x w1 ⟨rfl, hb1⟩; have hb2 := (hB0 _ _).trans (hb1.mono (by simp; omega)); obtain ⟨k0, k1, k2, k3⟩ := two_boxes hb1) | (go_at_call 48; refine (HE _ hb2).mono ?_; rintro x w3 ⟨rfl, m3, rfl⟩; have hb3 := below_drewN hb2 m3) | (go_at_call 65; refine (HV _ hb3).mono ?_; rintro x w4 ⟨rfl, m4, rfl⟩))
        go_ret
        exact ⟨by rw [HF.out]; rfl, below_drewN hb2 _⟩
      · have hd2 : decide (ys = ys2) = false := by simpa using hy
        have HF : Hid (sameF xs m xs2 ys ys2 = false) := by unfold Hid sameF; rw [hd2]; simp
        rw [hd2] at HV
        clear hE hx hy hd1 hd2
        go_enter Try.func37, Try.ntmps37
        go_wp2_with (first | (go_at_call 60; refine (HC _ (hB0 _ _)).mono ?_; rintro x w1 ⟨rfl, hb1⟩; have hb2 := (hB0 _ _).trans (hb1.mono (by simp; omega)); obtain ⟨k0, k1, k2, k3⟩ := two_boxes hb1) | (go_at_call 48; refine (HE _ hb2).mono ?_; rintro x w3 ⟨rfl, m3, rfl⟩; have hb3 := below_drewN hb2 m3) | (go_at_call 65; refine (HV _ hb3).mono ?_; rintro x w4 ⟨rfl, m4, rfl⟩))
        go_ret
        exact ⟨by rw [HF.out]; rfl, below_drewN hb2 _⟩
    · have hd1 : decide (xs = xs2) = false := by simpa using hx
      rw [hd1] at HE
      have HF : Hid (sameF xs m xs2 ys ys2 = false) := by unfold Hid sameF; rw [hd1]; simp
      clear hE hx hd1
      go_enter Try.func37, Try.ntmps37
      go_wp2_with (first | (go_at_call 60; refine (HC _ (hB0 _ _)).mono ?_; rintro x w1 ⟨rfl, hb1⟩; have hb2 := (hB0 _ _).trans (hb1.mono (by simp; omega)); obtain ⟨k0, k1, k2, k3⟩ := two_boxes hb1) | (go_at_call 48; refine (HE _ hb2).mono ?_; rintro x w3 ⟨rfl, m3, rfl⟩; have hb3 := below_drewN hb2 m3))
      go_ret
      exact ⟨by rw [HF.out]; rfl, below_drewN hb2 _⟩
  · have HF : Hid (sameF xs m xs2 ys ys2 = false) := by unfold Hid sameF; rw [hE, decide_eq_false he]; rfl
    have e1 : (E == 0) = false := by simpa using he
    clear hE he
    go_enter Try.func37, Try.ntmps37
    go_wp2_with (go_at_call 60; refine (HC _ (hB0 _ _)).mono ?_; rintro x w1 ⟨rfl, hb1⟩; have hb2 := (hB0 _ _).trans (hb1.mono (by simp; omega)); obtain ⟨k0, k1, k2, k3⟩ := two_boxes hb1)
    go_ret
    exact ⟨by rw [HF.out]; rfl, hb2⟩

set_option maxRecDepth 100000 in
/-- the document's Equals -/
theorem equals_any (A B A2 B2 : Option Addr) (n c m e n2 c2 m2 e2 : Nat) (xs ys xs2 ys2 : List Int) (w : World) (h : Ints w w.heap.size A n xs) (hv : Ints w w.heap.size B m ys) (h2 : Ints w w.heap.size A2 n2 xs2) (hv2 : Ints w w.heap.size B2 m2 ys2)
    (hn : n ≤ 100000) (hm : m ≤ 100000) (hn2 : n2 ≤ 9223372036854775807) (hm2 : m2 ≤ 9223372036854775807) :
    Calls Try.prog 35 #[.agg #[.slice A n c, .slice B m e], .agg #[.slice A2 n2 c2, .slice B2 m2 e2]] w fun x w' => x = .returned (.bool (decide (xs = xs2) && decide (ys = ys2))) ∧ Below w.heap.size w w' := by
  have HE := fun W (hb : Below w.heap.size w W) => refEqual_any A A2 n n2 c c2 xs xs2 W w.heap.size (h.below hb) (h2.below hb) hn hn2
  have hB0 : ∀ o1 o2, Below w.heap.size w ((w.alloc o1).alloc o2) := fun o1 o2 => ((Below.refl _ w).alloc (Nat.le_refl _) _).alloc (by simp) _
  have HL := Lib.hid hv.1
  have HL2 := Lib.hid hv2.1
  by_cases hx : xs = xs2
  · have hd1 : decide (xs = xs2) = true := by simpa using hx
    rw [hd1] at HE
    by_cases hmm : m = m2
    · subst hmm
      have HD := Lib.hid hd1
      clear hx hd1
      go_enter Try.func35, Try.ntmps35
      go_wp2_with (go_at_call 36; refine (HE _ (hB0 _ _)).mono ?_; rintro x w3 ⟨rfl, m3, rfl⟩)
      generalize hW : ((w.alloc (.cells #[.slice A n c, .slice B m e] 41)).alloc (.cells #[.slice A2 n2 c2, .slice B2 m e2] 41)) = W0
      have hb0 : Below w.heap.size w W0 := by rw [← hW]; exact hB0 _ _
      obtain ⟨k0, k1, k2, k3⟩ := two_boxes (w := w) (a := .slice A n c) (b := .slice B m e) (c := .slice A2 n2 c2) (d := .slice B2 m e2) (t := 41) (w1 := W0) (by rw [hW]; exact Below.refl _ _)
      clear hW HE
      go_loopw [24] (fun i wr => ∃ (k q : Nat), k ≤ m ∧ i = .int .i64 k ∧ wr = W0.drewN q ∧ Hid (ys.take k = ys2.take k)) (fun i _ => m - (intOf i).toNat)
      case atStart => exact ⟨0, _, Nat.zero_le _, rfl, rfl, by unfold Hid; simp⟩
      case round =>
        obtain ⟨k, q, hk, rfl, rfl, HK⟩ := hrel
        by_cases hlt : k < m
        · obtain ⟨b, off, x, rfl, _, HX, hc, hx1, hx2⟩ := (hv.below hb0).at_ hlt
          obtain ⟨b2, off2, y, rfl, _, HY, hc2, hy1, hy2⟩ := (hv2.below hb0).at_ hlt
          have hk0 : (0 : Int) ≤ k := by omega
          have hk1 : (k : Int) < m := by omega
          by_cases hxy : x = y
          · have HN : Hid (ys.take (k + 1) = ys2.take (k + 1)) := by unfold Hid; rw [take_succ_of HX.out, take_succ_of HY.out, HK.out, hxy]
            have e1 : (x == y) = true := by simpa using hxy
            have e2 : (x != y) = false := by simpa using hxy
            clear hxy
            go_wp2
            go_quiet (fail)
            go_wp2
            go_roundw
            case rel => exact ⟨k + 1, _, by omega, by go_num, rfl, HN⟩
            case measure => simp [intOf]; omega
          · have HF : Hid (decide (ys = ys2) = false) := by
              unfold Hid; rw [decide_eq_false]; intro e; subst e
              have := HX.out; rw [HY.out] at this; exact hxy (by injection this with this; exact this.symm)
            have e1 : (x == y) = false := by simpa using hxy
            have e2 : (x != y) = true := by simpa using hxy
            go_wp2
            go_quiet (fail)
            go_wp2
            go_ret
            exact ⟨by rw [HF.out, Bool.and_false]; rfl, below_drewN (below_drewN hb0 _) _⟩
        · have HF : Hid (decide (ys = ys2) = true) := by
            unfold Hid; rw [decide_eq_true]; have := HK.out
            rwa [List.take_of_length_le (by rw [HL.out]; omega), List.take_of_length_le (by rw [HL2.out]; omega)] at this
          go_wp2
          go_ret
          exact ⟨by rw [HF.out, HD.out]; rfl, below_drewN hb0 _⟩
    · have HF : Hid ((decide (xs = xs2) && decide (ys = ys2)) = false) := by
        unfold Hid; rw [decide_eq_false (p := ys = ys2), Bool.and_false]; intro e; subst e; exact hmm (by rw [← HL.out, ← HL2.out])
      have e1 : ((m : Int) == (m2 : Int)) = false := by simp; omega
      have e2 : ((m : Int) != (m2 : Int)) = true := by simp; omega
      clear hx hd1 hmm
      go_enter Try.func35, Try.ntmps35
      go_wp2_with (go_at_call 36; refine (HE _ (hB0 _ _)).mono ?_; rintro x w3 ⟨rfl, m3, rfl⟩)
      go_ret
      exact ⟨by rw [HF.out]; rfl, below_drewN (hB0 _ _) _⟩
  · have hd1 : decide (xs = xs2) = false := by simpa using hx
    have HF : Hid ((decide (xs = xs2) && decide (ys = ys2)) = false) := by unfold Hid; rw [hd1]; rfl
    rw [hd1] at HE
    clear hx hd1
    go_enter Try.func35, Try.ntmps35
    go_wp2_with (go_at_call 36; refine (HE _ (hB0 _ _)).mono ?_; rintro x w3 ⟨rfl, m3, rfl⟩)
    go_ret
    exact ⟨by rw [HF.out]; rfl, below_drewN (hB0 _ _) _⟩
end Go.Proofs.Ytapbcmhkipaecaa
/- The contracts of the document's Same, of box.Get and the document's Get. -/
namespace Go.Proofs.Ytapbcmhkipaecaa
open Go.RowKit

/-- Get -/
def getF (xs : List Int) (m : Nat) (ys cs : List Int) : Int × Int := if checkF xs m = 0 then if (atF xs cs).2 = 0 then (ys.getD (atF xs cs).1.toNat 0, 0) else (0, (atF xs cs).2) else (0, checkF xs m)
theorem checkF_ok {xs : List Int} {m : Nat} (h : checkF xs m = 0) : (cellsF xs).2 = 0 ∧ (m : Int) = (cellsF xs).1 ∧ m ≤ 65536 := by
  unfold checkF at h
  split at h
  · rename_i h1
    split at h
    · rename_i h2
      have ha := laidF_ok h1
      have hb := laidF_nonneg (xs := xs)
      exact ⟨ha.1, by omega, by omega⟩
    · simp at h
  · rename_i h1; exact absurd h h1
theorem atF_ok {xs cs : List Int} (h : (atF xs cs).2 = 0) : (cellsF xs).2 = 0 ∧ Inn xs cs ∧ (atF xs cs).1 = numR xs cs ∧ prodI xs = (cellsF xs).1 := by
  unfold atF at h ⊢
  split at h
  · rename_i h1
    split at h
    · rename_i h2
      have hI := inn_of_insideF h2
      rw [if_pos h1, if_pos h2]
      exact ⟨h1, hI, rfl, (cellsF_ok_pos h1 hI.pos).1.symm⟩
    · simp at h
  · rename_i h1; exact absurd h h1
theorem one_box {w w1 : World} {a b : Value} {t : TypeId} (hb : Below (w.alloc (.cells #[a, b] t)).heap.size (w.alloc (.cells #[a, b] t)) w1) :
    w1.cell? ⟨w.heap.size, 0, none⟩ = some a ∧ w1.cell? ⟨w.heap.size, 1, none⟩ = some b := by
  have h0 : (w.alloc (.cells #[a, b] t)).heap[w.heap.size]? = some (.cells #[a, b] t (0, 0)) := heap_alloc_new w _
  have k1 := (hb.block w.heap.size (by simp)).trans h0
  exact ⟨by simpa using cell_of_row _ _ 0 _ t (0, 0) k1, by simpa using cell_of_row _ _ 1 _ t (0, 0) k1⟩

set_option maxRecDepth 100000 in
theorem get_any (A B A2 : Option Addr) (n c m e n2 c2 : Nat) (xs ys cs : List Int) (w : World) (h : Ints w w.heap.size A n xs) (hv : Ints w w.heap.size B m ys) (h2 : Ints w w.heap.size A2 n2 cs) (hn : n ≤ 9223372036854775807) (hn2 : n2 ≤ 9223372036854775807) :
    Calls Try.prog 40 #[.agg #[.slice A n c, .slice B m e], .slice A2 n2 c2] w fun x w' => x = .returned (.tuple #[.int .i64 (getF xs m ys cs).1, .int .i64 (getF xs m ys cs).2]) ∧ Below w.heap.size w w' := by
  have HC := fun W (hb : Below w.heap.size w W) => check_any A B n c m e xs W ((h.below hb).more hb.size) hn
  have HA := fun W (hb : Below w.heap.size w W) => at_any A A2 n n2 c c2 xs cs W ((h.below hb).more hb.size) ((h2.below hb).more hb.size) hn hn2
  have hB0 : ∀ o1, Below w.heap.size w (w.alloc o1) := fun o1 => (Below.refl _ w).alloc (Nat.le_refl _) _
  obtain ⟨E, hE⟩ : ∃ E, checkF xs m = E := ⟨_, rfl⟩
  obtain ⟨X, hX⟩ : ∃ X, (atF xs cs).1 = X := ⟨_, rfl⟩
  obtain ⟨G, hG⟩ : ∃ G, (atF xs cs).2 = G := ⟨_, rfl⟩
  rw [hE] at HC
  rw [hX, hG] at HA
  by_cases he : E = 0
  · subst he
    by_cases hg : G = 0
    · subst hg
      have hok := checkF_ok hE
      have hat := atF_ok hG
      have hbd := hat.2.1.bound
      have hX0 : 0 ≤ X := by rw [← hX, hat.2.2.1]; exact hbd.1
      have hXm : X < m := by rw [← hX, hat.2.2.1, hok.2.1, ← hat.2.2.2]; exact hbd.2
      have HF : Hid (getF xs m ys cs = (ys.getD X.toNat 0, 0)) := by unfold Hid getF; rw [if_pos hE, if_pos hG, hX]
      clear hE hX hG hok hat hbd
      go_enter Try.func40, Try.ntmps40
      go_wp2_with fail
      refine (HC _ (hB0 _)).mono ?_
      rintro x w1 ⟨rfl, hb1⟩
      obtain ⟨k0, k1⟩ := one_box hb1
      have hb2 := (hB0 (.cells #[.slice A n c, .slice B m e] 41)).trans (hb1.mono (by simp))
      go_wp2_with fail
      refine (HA _ hb2).mono ?_
      rintro x w3 ⟨rfl, hb3⟩
      obtain ⟨k0', k1'⟩ := one_box (w := w) (a := .slice A n c) (b := .slice B m e) (t := 41) (hb1.trans (hb3.mono hb1.size))
      have hb4 := hb2.trans (hb3.mono hb2.size)
      obtain ⟨b, off, y, rfl, _, HY, hcy, hy1, hy2⟩ := (hv.below hb4).at_ (k := X.toNat) (by omega)
      go_wp2_with fail
      go_ret2
      exact ⟨by rw [HF.out]; simp only [List.getD, HY.out, Option.getD_some]; rfl, hb4⟩
    · have HF : Hid (getF xs m ys cs = (0, G)) := by unfold Hid getF; rw [if_pos hE, hG, if_neg hg]
      have e1 : (G == 0) = false := by simpa using hg
      have e2 : (G != 0) = true := by simpa using hg
      clear hE hX hG hg
      go_enter Try.func40, Try.ntmps40
      go_wp2_with fail
      refine (HC _ (hB0 _)).mono ?_
      rintro x w1 ⟨rfl, hb1⟩
      obtain ⟨k0, k1⟩ := one_box hb1
      have hb2 := (hB0 (.cells #[.slice A n c, .slice B m e] 41)).trans (hb1.mono (by simp))
      go_wp2_with fail
      refine (HA _ hb2).mono ?_
      rintro x w3 ⟨rfl, hb3⟩
      have hb4 := hb2.trans (hb3.mono hb2.size)
      go_wp2_with fail
      go_ret2
      exact ⟨by rw [HF.out]; rfl, hb4⟩
  · have HF : Hid (getF xs m ys cs = (0, E)) := by unfold Hid getF; rw [if_neg (by rw [hE]; exact he), hE]
    have e1 : (E == 0) = false := by simpa using he
    have e2 : (E != 0) = true := by simpa using he
    clear hE hX hG he HA
    go_enter Try.func40, Try.ntmps40
    go_wp2_with fail
    refine (HC _ (hB0 _)).mono ?_
    rintro x w1 ⟨rfl, hb1⟩
    have hb2 := (hB0 (.cells #[.slice A n c, .slice B m e] 41)).trans (hb1.mono (by simp))
    go_wp2_with fail
    go_ret2
    exact ⟨by rw [HF.out]; rfl, hb2⟩

end Go.Proofs.Ytapbcmhkipaecaa
/- The contract of the document's Zero. -/
namespace Go.Proofs.Ytapbcmhkipaecaa
open Go.RowKit

theorem run_appendNil {P : Program} (w : World) (base : Nat) (t ty e : TypeId) (i : TypeInfo) (ht : P.underlying t = some (.slice e)) (hi : P.info? e = some i) (v : Value) (n : Nat) (xs : List Value) (hown : w.ownsRow base e 1 v n xs) (c : Nat) :
    (Builtin.append_ #[t, t] ty #[v, .slice none 0 c]).run P w = .ok v w := by
  rcases hown.2 with ⟨rfl, rfl⟩ | ⟨g, cap, cur, rfl, _, _, hnc, _⟩ <;> simp [Builtin.append_, run_underlying ht, sizeOf, typeInfo, Builtin.lenOf, Builtin.firstCells, *, storeCells]

/-- append onto a slice of the call's own, from whatever slice of integers -/
theorem run_appendInts {P : Program} (w : World) (base : Nat) (t ty e : TypeId) (i : TypeInfo) (ht : P.underlying t = some (.slice e)) (hi : P.info? e = some i) (hz : i.zero = some (.int .i64 0)) (h1 : i.size = 1) (h2 : i.bytes = 8)
    (A A2 : Option Addr) (c m c2 B : Nat) (xs ys : List Int) (ho : OwnI w base e A c xs) (hs : Ints w B A2 m ys) (hl : xs.length + m ≤ 1000000) (hb : base ≤ w.heap.size) :
    ∃ A' c' w', (Builtin.append_ #[t, t] ty #[.slice A xs.length c, .slice A2 m c2]).run P w = .ok (.slice A' (xs.length + m) c') w' ∧ OwnI w' base e A' c' (xs ++ ys) ∧ w.grownBy w' (Value.slice A xs.length c).ownBlock := by
  have hlen := hs.1
  have hfit : ∀ x ∈ xs ++ ys, -9223372036854775808 ≤ x ∧ x ≤ 9223372036854775807 := by
    intro x hx
    rcases List.mem_append.1 hx with hx | hx
    · exact ho.2 x hx
    · exact hs.2.1 x hx
  rcases Option.eq_none_or_eq_some A2 with rfl | ⟨ad, rfl⟩
  · obtain rfl : m = 0 := by
      rcases Nat.eq_zero_or_pos m with h0 | h0
      · exact h0
      · obtain ⟨b, off, e', _⟩ := hs.2.2 h0; cases e'
    obtain rfl : ys = [] := List.eq_nil_of_length_eq_zero hlen
    have hrun := run_appendNil (P := P) w base t ty e i ht hi (.slice A xs.length c) xs.length (xs.map (Value.int .i64)) ho.1 c2
    exact ⟨A, c, w, by simpa using hrun, by simpa using ho, World.grownBy.refl w _⟩
  · obtain ⟨v', w', hr, h3, h4, _⟩ := run_append_own (P := P) w base t ty e i (.int .i64 0) 1 8 ht hi hz h1 h2 rfl (by decide) (.slice A xs.length c) xs.length (xs.map (Value.int .i64)) ho.1 ad m c2 (ys.map (Value.int .i64)) (by rw [List.length_map, hlen, Nat.mul_one]) hs.cells_ (ints_one ys) (by unfold maxLen; omega) (by omega) hb
    obtain ⟨A', c', rfl⟩ := row_form h3
    refine ⟨A', c', w', hr, ⟨?_, hfit⟩, h4⟩
    rw [List.length_append, hlen, List.map_append]
    exact h3

theorem step_appendInts {P : Program} {ops : Array Oper} {o : Oper} {a : Act} {w : World} {K : Act → World → Prop} {Q : Exit → Act → World → Prop} {E : Prop}
    (hg : o.guard = none) (s x : Operand) (t : TypeId) (hop : o.op = Op.call { callee := Callee.builtin Builtin.append, args := #[s, x], argTypes := #[t, t] })
    (base : Nat) (e : TypeId) (i : TypeInfo) (ht : P.underlying t = some (.slice e)) (hi : P.info? e = some i) (hz : i.zero = some (.int .i64 0)) (h1 : i.size = 1) (h2 : i.bytes = 8)
    (A A2 : Option Addr) (c m c2 B p r : Nat) (xs ys : List Int) (hs : a.eval s = .slice A p c) (hx : a.eval x = .slice A2 m c2) (ho : OwnI w base e A c xs) (hp : xs.length = p) (hr : p + m = r) (hi2 : Ints w B A2 m ys) (hl : r ≤ 1000000) (hb : base ≤ w.heap.size)
    (hK : ∀ A' c' w', OwnI w' base e A' c' (xs ++ ys) → w.grownBy w' (Value.slice A p c).ownBlock → K (a.put o.dst (.slice A' r c')) w') :
    if Region.wanted o (yielded ops a.tmps) = true then Oper.wp P o a w K Q else E := by
  have hw : Region.wanted o (yielded ops a.tmps) = true := by simp [Region.wanted, hg]
  rw [if_pos hw]
  subst hp
  subst hr
  obtain ⟨A', c', w', hrun, ho', hb'⟩ := run_appendInts (P := P) w base t o.type e i ht hi hz h1 h2 A A2 c m c2 B xs ys ho hi2 hl hb
  unfold Oper.wp
  simp [execOp, hop, resolve, invoke, builtin, hs, hx, hrun, Result.andThen]
  exact hK _ _ _ ho' hb'

theorem below_of_none {W w1 : World} (hg : W.grownBy w1 none) : Below W.heap.size W w1 := (Below.refl _ _).grown hg (Nat.le_refl _) (fun k e => by cases e)

set_option maxRecDepth 100000 in
/-- the document's Zero: an error's end -/
theorem refZero_err (A : Option Addr) (n c : Nat) (xs : List Int) (w : World) (h : Ints w w.heap.size A n xs) (hn : n ≤ 9223372036854775807) (he : (laidF xs).2 ≠ 0) :
    Calls Try.prog 59 #[.slice A n c] w fun e w' => e = .returned (.tuple #[.agg #[.slice none 0 0, .slice none 0 0], .int .i64 (laidF xs).2]) ∧ Below w.heap.size w w' := by
  have HC := fun W (hW : Ints W w.heap.size A n xs) => refCells_any A n c xs W w.heap.size hW hn
  obtain ⟨N, hN⟩ : ∃ N, (cellsF xs).1 = N := ⟨_, rfl⟩
  obtain ⟨E, hE⟩ : ∃ E, (cellsF xs).2 = E := ⟨_, rfl⟩
  rw [hN, hE] at HC
  by_cases h0 : E = 0
  · by_cases hl : 65536 < N
    · have HF : (laidF xs).2 = 2 := by unfold laidF; rw [hE, if_pos h0, hN, if_pos hl]
      rw [HF]
      clear hN hE he HF
      subst h0
      go_enter Try.func59, Try.ntmps59
      go_wp2_with (go_at_call 53; refine (HC _ (h.alloc (Nat.le_refl _) _)).mono ?_; rintro e w' ⟨rfl, rfl⟩)
      exact bodyPost_ret (v := .tuple #[.agg #[.slice none 0 0, .slice none 0 0], .int .i64 2]) (by simp [results, Try.results59, go_sem]) rfl ⟨rfl, (Below.refl _ _).alloc (Nat.le_refl _) _⟩
    · exfalso
      apply he
      unfold laidF; rw [hE, if_pos h0, hN, if_neg hl]
  · have HF : (laidF xs).2 = E := by unfold laidF; rw [hE, if_neg h0]
    rw [HF]
    have he1 : (E == 0) = false := by simpa using h0
    have he2 : (E != 0) = true := by simpa using h0
    clear hN hE he h0 HF
    go_enter Try.func59, Try.ntmps59
    go_wp2_with (go_at_call 53; refine (HC _ (h.alloc (Nat.le_refl _) _)).mono ?_; rintro e w' ⟨rfl, rfl⟩)
    exact bodyPost_ret (v := .tuple #[.agg #[.slice none 0 0, .slice none 0 0], .int .i64 E]) (by simp [results, Try.results59, go_sem]) rfl ⟨rfl, (Below.refl _ _).alloc (Nat.le_refl _) _⟩

set_option maxRecDepth 100000 in
set_option maxHeartbeats 1000000 in
theorem refZero_ok (A : Option Addr) (n c : Nat) (xs : List Int) (N : Nat) (w : World) (h : Ints w w.heap.size A n xs) (hn : n ≤ 100000) (he : (laidF xs).2 = 0) (hN : (laidF xs).1 = N) (hN2 : N ≤ 65536) :
    Calls Try.prog 59 #[.slice A n c] w fun e w' => ∃ A1 c1 A2 c2, e = .returned (.tuple #[.agg #[.slice A1 n c1, .slice A2 N c2], .int .i64 0]) ∧ OwnI w' w.heap.size 3 A1 c1 xs ∧ OwnI w' w.heap.size 2 A2 c2 (List.replicate N 0) ∧ Below w.heap.size w w' := by
  have HC := fun W (hW : Ints W w.heap.size A n xs) => refCells_any A n c xs W w.heap.size hW (by omega)
  have hok := laidF_ok he
  rw [hok.1, ← hok.2, hN] at HC
  obtain ⟨i0, hi0, hz0, hz1, hz2⟩ := info_parts infoInt64
  obtain ⟨i1, hi1, hy0, hy1, hy2⟩ := info_parts infoInt
  have hmk := fun W => run_makeAll (P := Try.prog) 39 2 i0 Try.underlying39 hi0 hz0 hz1 hz2 N (by omega) W
  have hlN : decide (65536 < (N : Int)) = false := by simp; omega
  clear hN he hok
  go_enter Try.func59, Try.ntmps59
  go_wp2_with (go_at_call 53; refine (HC _ (h.alloc (Nat.le_refl _) _)).mono ?_; rintro e w' ⟨rfl, rfl⟩)
  go_region_law (refine step_appendInts rfl (.const (.slice none 0 0)) (.tmp 18) 22 rfl (w.heap.size + 1) 3 i1 Try.underlying22 hi1 hy0 hy1 hy2 none A 0 n c w.heap.size 0 n [] xs rfl rfl (OwnI.nil_ _ _ _) rfl (Nat.zero_add _) (by first | exact h.alloc (Nat.le_refl _) _ | exact (h.alloc (Nat.le_refl _) _).alloc (by simp) _) (by omega) (by simp; try omega) ?_; intro A1 c1 w1 HO HG; have HB := below_of_none HG; obtain ⟨hs1, k0, k1, f0, f1⟩ := zfacts HB)
  all_goals go_wp2
  · obtain ⟨e0, e1⟩ := zcells (a := .slice A1 n c1) (b := .slice (some ⟨w1.heap.size, 0, none⟩) N N) k0 k1
    have e2 := fun o => cellPast o e0
    have e3 := fun o => cellPast o e1
    refine bodyPost_ret (v := .tuple #[.agg #[.slice A1 n c1, .slice (some ⟨w1.heap.size, 0, none⟩) N N], .int .i64 0]) (by simp [results, Try.results59, go_sem, e2, e3]) rfl ⟨A1, c1, _, _, rfl, ?_, ?_, ?_⟩
    · exact (((HO.setBelow (a := ⟨w.heap.size, 0, none⟩) (by simp) _).setBelow (a := ⟨w.heap.size, 1, none⟩) (by simp) _).alloc _).mono (by simp)
    · have := own_made ((w1.setCell ⟨w.heap.size, 0, none⟩ (.slice A1 n c1)).setCell ⟨w.heap.size, 1, none⟩ (.slice (some ⟨w1.heap.size, 0, none⟩) N N)) 2 N w.heap.size (by simp; omega) (by omega)
      simpa using this
    · exact ((((((Below.refl _ w).alloc (Nat.le_refl _) _).drew).trans (HB.mono (by simp))).setCell (p := ⟨w.heap.size, 0, none⟩) (Nat.le_refl _) _).setCell (p := ⟨w.heap.size, 1, none⟩) (Nat.le_refl _) _).alloc (by simp; omega) _
  · obtain ⟨e0, e1⟩ := zcells (a := .slice A1 n c1) (b := .slice (some ⟨w.heap.size + 1, 0, none⟩) N N) k0 k1
    refine bodyPost_ret (v := .tuple #[.agg #[.slice A1 n c1, .slice (some ⟨w.heap.size + 1, 0, none⟩) N N], .int .i64 0]) (by simp [results, Try.results59, go_sem, e0, e1]) rfl ⟨A1, c1, _, _, rfl, ?_, ?_, ?_⟩
    · exact ((HO.setBelow (a := ⟨w.heap.size, 0, none⟩) (by simp) _).setBelow (a := ⟨w.heap.size, 1, none⟩) (by simp) _).mono (by simp)
    · have := own_made (w.alloc (.cells #[.slice none 0 0, .slice none 0 0] 41)) 2 N (w.heap.size + 1) (by simp) (by omega)
      rw [World.size_alloc] at this
      exact (((this.drew.below HB (Nat.le_refl _)).setBelow (a := ⟨w.heap.size, 0, none⟩) (by simp) _).setBelow (a := ⟨w.heap.size, 1, none⟩) (by simp) _).mono (by omega)
    · exact ((((((Below.refl _ w).alloc (Nat.le_refl _) _).alloc (by simp) _).drew).trans (HB.mono (by simp; omega))).setCell (p := ⟨w.heap.size, 0, none⟩) (Nat.le_refl _) _).setCell (p := ⟨w.heap.size, 1, none⟩) (Nat.le_refl _) _
end Go.Proofs.Ytapbcmhkipaecaa
