/- A region of code that draws its order of evaluation, whose operations up to the last ones only read, inside a round of a range over a function: one walk in the text's order serves every order. Nothing is claimed of the program here. -/
import Derived.StillTail
import Derived.StillTactics
import Derived.RangeFuncCalls
import Derived.TacticsIn
import Derived.Test.YteepiifhmbcciaaG1
import Derived.Test.YteepiifhmbcciaaG2
import Derived.Lib.QuietBelow
import Derived.Laws.AppendOwnNone
import Derived.Deep.RegionLaw
import Derived.Test.YteepiifhmbcciaaProg
import Derived.BigQuiet
import Derived.Deep.QuietTactic
import Derived.Below
namespace Go.Proofs.Yteepiifhmbcciaa

theorem rowsIn_of_rows {n : Nat} {P : Program} {row : String} {args : Array Value} {w : World} {R : Value → World → Prop} (h : Rows P row args w R) : RowsIn Fence.wide n P row args w R :=
  fun c cs _ => let ⟨v, w', r, s⟩ := h c cs; ⟨v, w', r, stepsIn_wide.2 s⟩

set_option maxRecDepth 100000 in
theorem Oper.wpIn_of_wp_round {l n : Nat} {P : Program} {o : Oper} {a : Act} {w : World} {K K' : Act → World → Prop} {Q : Exit → Act → World → Prop} (hd : ∀ c, o.op ≠ .defer c) (hK : ∀ a w, K a w → K' a w) (h : o.wp P a w K Q) :
    o.wpIn (Fence.wide.inRound l) n P a w K' Q := by
  unfold Oper.wp at h
  unfold Oper.wpIn
  refine ⟨fun _ _ => trivial, ?_⟩
  rw [show (Fence.wide.inRound l).round = some l from rfl, Oper.semAt_some l _ o hd]
  generalize (execOp a.eval o).run P w = r at *
  cases r with
  | ok x w' =>
    cases x <;> first
      | exact hK _ _ h
      | exact h.elim
      | exact And.intro (fun hh => (by cases hh)) (CallsIn.inRound l (callsIn_wide.2 (Calls.mono h (fun e w'' he => (by cases e <;> first | exact hK _ _ he | exact he)))))
      | exact And.intro (fun hh => (by cases hh)) ((rowsIn_of_rows h).mono (fun _ _ he => hK _ _ he))
  | halt x w' => cases x <;> exact h

theorem wpOpsIn_of_wpOps {l n : Nat} {P : Program} {ops : Array Oper} {Q : Exit → Act → World → Prop} (hd : ∀ (i : Nat) (o : Oper), ops[i]? = some o → ∀ c, o.op ≠ .defer c) (hQ : ¬ LetsOut Q) : ∀ (is : List Nat) (a : Act) (w : World),
    wpOps P ops Q is a w → wpOpsIn (Fence.wide.inRound l) n P ops Q is a w
  | [], _, _, h => h
  | i :: rest, a, w, h => by
    unfold wpOps at h
    unfold wpOpsIn
    cases ho : ops[i]? with
    | none => simp only [ho] at h; exact wpOpsIn_of_wpOps hd hQ rest a w h
    | some o =>
      simp only [ho] at h ⊢
      split
      · rename_i hw
        rw [if_pos hw] at h
        rcases h with h | ⟨_, h⟩
        · exact Oper.wpIn_of_wp_round (hd i o ho) (fun a w => wpOpsIn_of_wpOps hd hQ rest a w) h
        · exact absurd h hQ
      · rename_i hw
        rw [if_neg hw] at h
        exact ⟨fun _ _ => trivial, wpOpsIn_of_wpOps hd hQ rest _ w h⟩

theorem wpIn_region_still_tail_round {lo m id : Nat} {P : Program} {Q : Exit → Act → World → Prop} {a : Act} {w : World} {l : List Oper} (n : Nat) (hm : P.follows .mixedOrders = true) (hB : Region.lexTailB .any l.toArray n = true)
    (hd : l.all (fun o => match o.op with | .defer _ => false | _ => true) = true) (hQ : ¬ LetsOut Q)
    (h : wpStill P l.toArray { w with drawn := w.drawn + 1 } (fun a' => wpList P l.toArray Q (l.drop n) a' { w with drawn := w.drawn + 1 }) (l.take n) a) : (Code.region id l.toArray true).wpIn (Fence.wide.inRound lo) m P Q a w := by
  simp only [Region.lexTailB, Bool.and_eq_true, decide_eq_true_eq] at hB
  obtain ⟨⟨⟨⟨hsel, hn⟩, hs⟩, hc⟩, hlex⟩ := hB
  have hn' : n < l.length := by simpa using hn
  have htl : (l.take n).length = n := by simp; omega
  have hdl : (l.drop n).length = l.toArray.size - n := by simp
  have inv0 : HeadInv .any l.toArray n (Array.replicate l.toArray.size false) :=
    ⟨by simp, fun j oj _ hl => (by rw [getD_replicate_false] at hl; cases hl), fun t _ ht => getD_in (by simpa using ht) (getD_replicate_false _ _)⟩
  have H := wpAnyL_lex (md := .any) (g := l.toArray.size - n) hsel hs hc hn (l.take n) 0 _ a (fun j hj => by
    have hj' : j < n := by rw [htl] at hj; exact hj
    simp [hj']) (by simpa using htl) inv0 (by rw [htl]; exact hlex) h
  have hany : wpAny P .any l.toArray Q l.toArray.size (Array.replicate l.toArray.size false) a { w with drawn := w.drawn + 1 } := by
    have := wpAny_of_head (Q' := Q) (g := l.toArray.size - n) (fun listed a' hL => by
      have := wpAny_of_seq (md := .any) (Q' := Q) (l.drop n) n listed a' { w with drawn := w.drawn + 1 } (fun j => by simp [List.getElem?_drop]) (by rw [hdl]; exact hL.1) hL.2
      rwa [hdl] at this) _ _ _ H
    rw [htl, show n + (l.toArray.size - n) = l.toArray.size by omega] at this
    exact this
  refine wpIn_region_draw fun t => ?_
  simp only [Region.schedule, hm, Bool.true_or, if_true]
  refine wpOpsIn_of_wpOps (fun i o ho c hc => ?_) hQ _ a _ (wpAny_sound _ t _ a _ hany)
  have hmem : o ∈ l := by
    have : l[i]? = some o := by simpa using ho
    exact List.mem_of_getElem? this
  have := List.all_eq_true.1 hd o hmem
  rw [hc] at this
  cases this
end Go.Proofs.Yteepiifhmbcciaa
/- The contract of box.At. -/
namespace Go.Proofs.Yteepiifhmbcciaa
open Go.RowKit Go.Shelf
attribute [local go_sem] Oper.semAt_some

theorem at_round {W w : World} {v : Value} {a a' : Int} {z : Int} (hc : W.cell? ⟨w.heap.size + 1, 0, none⟩ = some (.int .i64 a)) (hf : W.frozen? ⟨w.heap.size + 1, 0, none⟩ = false) (hcb : W.cell? ⟨w.heap.size, 0, none⟩ = some v) (hB : Below w.heap.size w W) (ha : a' = z) :
    KeepsOthers W (W.setCell ⟨w.heap.size + 1, 0, none⟩ (.int .i64 a')).drew ∧ KeepBox (w.heap.size + 1 + 1) w.heap.size W (W.setCell ⟨w.heap.size + 1, 0, none⟩ (.int .i64 a')).drew ∧
      ((W.setCell ⟨w.heap.size + 1, 0, none⟩ (.int .i64 a')).drew.cell? ⟨w.heap.size + 1, 0, none⟩ = some (.int .i64 z) ∧ (W.setCell ⟨w.heap.size + 1, 0, none⟩ (.int .i64 a')).drew.frozen? ⟨w.heap.size + 1, 0, none⟩ = false ∧
        (W.setCell ⟨w.heap.size + 1, 0, none⟩ (.int .i64 a')).drew.cell? ⟨w.heap.size, 0, none⟩ = some v) ∧ Below w.heap.size w (W.setCell ⟨w.heap.size + 1, 0, none⟩ (.int .i64 a')).drew := by
  subst ha
  refine ⟨(KeepsOthers.setCell _ _ _).trans (KeepsOthers.drew _), (KeepBox.of_setCell (p := ⟨w.heap.size + 1, 0, none⟩) (by simp) (by simp) _).drew, ⟨?_, ?_, ?_⟩, (hB.setCell (p := ⟨w.heap.size + 1, 0, none⟩) (by simp) _).drew⟩
  · exact World.cell?_setCell_same' _ _ _ (by rw [hc]; rfl)
  · rw [frozen_drew_own, World.frozen?_setCell]; exact hf
  · exact (World.cell?_setCell_other W _ ⟨w.heap.size, 0, none⟩ _ (by simp)).trans hcb

set_option maxRecDepth 100000 in
set_option maxHeartbeats 2000000 in
theorem at_in (n : Nat) (hn : 3 ≤ n) (A A2 : Option Addr) (r r2 c c2 : Nat) (xs cs : List Int) (w : World) (h : Ints w w.heap.size A r xs) (h2 : Ints w w.heap.size A2 r2 cs) (hr : r ≤ 9223372036854775807) (hr2 : r2 ≤ 9223372036854775807)
   (hcf : (cellsF xs).2 = 0) (hin : insideF xs cs = true) :
    CallsIn Fence.wide n Try.prog 43 #[.slice A r c, .slice A2 r2 c2] w fun e w' => e = .returned (.tuple #[.int .i64 (numR xs cs), .int .i64 0]) ∧ Below w.heap.size w w' := by
  have h1 : 1 ≤ n := by omega
  have hI := inn_of_insideF hin
  have hr5 : r ≤ 100000 := by have := (cellsF_ok hcf).1; have := h.1; omega
  obtain ⟨N, hN⟩ : ∃ N, (cellsF xs).1 = N := ⟨_, rfl⟩
  have HC := fun W (hW : Ints W w.heap.size A r xs) => callsIn_wide (n := n - 1) |>.2 (cells_any A r c xs W w.heap.size hW hr)
  rw [hcf, hN] at HC
  have HI := fun W (hW : Ints W w.heap.size A r xs) (hW2 : Ints W w.heap.size A2 r2 cs) => callsIn_wide (n := n - 1) |>.2 (inside_any A A2 r r2 c c2 xs cs W w.heap.size hW hW2 hr5 hr2)
  rw [hin] at HI
  have HF := fun W => fromBehind_in (n - 1) A r c W
  refine callsIn_of_wp_marks Try.func43 rfl trivial ?_ rfl
  simp only [Try.ntmps43, List.size_toArray, List.length_cons, List.length_nil, Nat.reduceAdd, Nat.reduceSub, Array.replicate_succ, Array.replicate_zero, List.push_toArray, List.append_toArray, List.nil_append, List.cons_append]
  gi_wp2_with (first | (refine ⟨trivial, ?_⟩; gi_at_call 67; refine (HC _ (h.alloc (Nat.le_refl _) _)).mono ?_; rintro e w' ⟨rfl, rfl⟩) | (refine ⟨trivial, ?_⟩; gi_at_call 68; refine (HI _ (h.alloc (Nat.le_refl _) _) (h2.alloc (Nat.le_refl _) _)).mono ?_; rintro e w' ⟨rfl, rfl⟩) | (refine ⟨trivial, ?_⟩; gi_at_call 69; refine (HF _).mono ?_; rintro e w' ⟨rfl, rfl⟩))
  have hM := cellsF_ok_pos hcf hI.pos
  have HL := Lib.hid h.1
  have HL2 := Lib.hid h2.1
  have cb := newCell w (.slice A2 r2 c2) 22
  have cn := newCell (w.alloc (.cells #[.slice A2 r2 c2] 22)) (.int .i64 0) 3
  have cs_ := newCell ((w.alloc (.cells #[.slice A2 r2 c2] 22)).alloc (.cells #[.int .i64 0] 3)) (.slice A r c) 22
  simp only [World.size_alloc] at cn cs_
  have hB0 : Below w.heap.size w (((w.alloc (.cells #[.slice A2 r2 c2] 22)).alloc (.cells #[.int .i64 0] 3)).alloc (.cells #[.slice A r c] 22)) := (((Below.refl _ w).alloc (Nat.le_refl _) _).alloc (by simp) _).alloc (by simp; omega) _
  refine wpIn_rangeFunc_ownF rfl h1 (gf := 87) (lb := #[.pointer (some ⟨w.heap.size + 1 + 1, 0, none⟩)]) rfl trivial (enters_of Try.func87 (by kernel_rfl) rfl)
    (fromBehind_stops (n - 1) (by omega) (fun x => 0 ≤ x.1 ∧ x.1 < r) (w.heap.size + 1 + 1) w.heap.size A r c xs hr5 (fun k hk => ⟨by dsimp only; omega, by dsimp only; omega⟩) _ (by simp) (by simp; omega) cs_.1 (h.below hB0)) KeepBox.trans (keepBox_b (by simp; omega) (by simp)) (Below.refl _ _) (fun _ => rfl)
    (fun pre W => (W.cell? ⟨w.heap.size + 1, 0, none⟩ = some (.int .i64 (atSum cs (pre.map (·.1)))) ∧ W.frozen? ⟨w.heap.size + 1, 0, none⟩ = false ∧ W.cell? ⟨w.heap.size, 0, none⟩ = some (.slice A2 r2 c2)) ∧ Below w.heap.size w W)
    (fun _ _ _ => False)
    (OwnFrom.and (Own.from (fun s A B row hs hg hr => ⟨cell_kept hs.1 hg hr, (frozen_kept hs.1 hg hr).trans hs.2.1, cell_kept hs.2.2 hg hr⟩) _) (ownFrom_below (Nat.le_refl _) (by simp; omega)))
    (fun _ _ _ _ _ hs _ _ => hs)
    ⟨⟨cellPast _ cn.1, frozenPast _ cn.1 cn.2, cellPast _ (cellPast _ cb.1)⟩, hB0⟩
    (fun x => { tmps := #[.slice A r c, .slice A2 r2 c2, undef, .pointer (some ⟨w.heap.size, 0, none⟩), .int .i64 0, .int .i64 0, .int .i64 N, .int .i64 0, .pointer (some ⟨w.heap.size + 1, 0, none⟩), .int .i64 x.1.1, .int .i64 x.1.2,
          .tuple #[.int .i64 N, .int .i64 0], .slice A r c, .tuple #[.int .i64 N, .int .i64 0], .int .i64 N, .int .i64 0, .int .i64 0, .bool false, undef, .slice A r c, .slice A2 r2 c2, .bool true, .bool false, .slice A r c,
          .func (.func 87) #[] #[.pointer (some ⟨w.heap.size + 1 + 1, 0, none⟩)], .int .i64 x.1.1, .int .i64 x.1.2, undef, undef, undef, undef, undef, undef, undef, undef, undef], defers := [] }) ?assign ?body ?done ?stop
  case assign =>
    intro l x W K hK
    gi_wp2
    exact hK
  case body =>
    rintro l pre ⟨⟨j, q⟩, hj0, hj1⟩ W ⟨⟨hc, hf, hcb⟩, hB⟩ _
    dsimp only at hj0 hj1 hc ⊢
    have h2' := h2.below hB
    have hj2 : j < r2 := by have := hI.len; rw [HL.out, HL2.out] at this; omega
    obtain ⟨b, off, y, rfl, hbb, HY, hcy, hy1, hy2⟩ := h2'.at_ (k := j.toNat) (by omega)
    obtain ⟨a, ha⟩ : ∃ a, atSum cs (pre.map (·.1)) = a := ⟨_, rfl⟩
    rw [ha] at hc
    have HA := Lib.hid ha
    clear ha HC HI HF cb cn cs_ hB0 h2
    have hmx : Try.prog.follows .mixedOrders = true := by kernel_rfl
    gi_wp2
    refine wpIn_region_still_tail_round 8 hmx (by kernel_rfl) (by kernel_rfl) (by rintro ⟨_, _, hh⟩; exact hh) ?_
    simp only [List.take_succ_cons, List.take_zero, List.drop_succ_cons, List.drop_zero]
    repeat still_step
    refine wpStill_nil ?_
    change wpList _ _ _ _ _ W.drew
    go_wp2
    exact at_round hc hf hcb hB (by rw [List.map_append]; show _ = atSum cs (pre.map (·.1) ++ [(j, q)]); rw [atSum_snoc, HA.out]; simp only [HY.out, Option.getD_some])
  case done =>
    rintro D ys W hD hys ⟨⟨hc, _, _⟩, hB⟩ hK
    rw [hys] at hc
    have hfin := atSum_comes hI hM.2 r (by rw [HL.out]; omega)
    rw [HL.out, Nat.sub_self, List.drop_zero, List.drop_zero] at hfin
    rw [hfin] at hc
    clear hfin hys
    gi_wp2
    refine ⟨by simp, .inl ⟨_, _, rfl, run_takeDeferred hK, ?_⟩⟩
    exact ⟨_, results_tmp2 rfl _ _ _, rfl, hB.trans (belowK_b (w := w) (Nat.le_refl _) W D _ _ (by simp at hD; omega) hK rfl rfl)⟩
  case stop =>
    rintro D c pre W _ _ h _
    exact h.elim

set_option maxRecDepth 100000 in
theorem at_any (A A2 : Option Addr) (r r2 c c2 : Nat) (xs cs : List Int) (w : World) (h : Ints w w.heap.size A r xs) (h2 : Ints w w.heap.size A2 r2 cs) (hr : r ≤ 9223372036854775807) (hr2 : r2 ≤ 9223372036854775807) :
    Calls Try.prog 43 #[.slice A r c, .slice A2 r2 c2] w fun e w' => e = .returned (.tuple #[.int .i64 (atF xs cs).1, .int .i64 (atF xs cs).2]) ∧ Below w.heap.size w w' := by
  have HC := fun W (hW : Ints W w.heap.size A r xs) => cells_any A r c xs W w.heap.size hW hr
  have hB1 : ∀ o, Below w.heap.size w (w.alloc o) := fun o => (Below.refl _ w).alloc (Nat.le_refl _) _
  by_cases hcf : (cellsF xs).2 = 0
  · by_cases hin : insideF xs cs = true
    · have HF : atF xs cs = (numR xs cs, 0) := by unfold atF; rw [if_pos hcf, if_pos hin]
      rw [HF]
      exact callsIn_wide.1 (at_in 3 (Nat.le_refl _) A A2 r r2 c c2 xs cs w h h2 hr hr2 hcf hin)
    · have hin' : insideF xs cs = false := by simpa using hin
      have h5 : r ≤ 100000 := by have := (cellsF_ok hcf).1; have := h.1; omega
      have HF : Hid (atF xs cs = (0, 3)) := by unfold Hid atF; rw [if_pos hcf, if_neg hin]
      have HI := fun W (hW : Ints W w.heap.size A r xs) (hW2 : Ints W w.heap.size A2 r2 cs) => inside_any A A2 r r2 c c2 xs cs W w.heap.size hW hW2 h5 hr2
      obtain ⟨N, hN⟩ : ∃ N, (cellsF xs).1 = N := ⟨_, rfl⟩
      rw [hcf, hN] at HC
      rw [hin'] at HI
      clear hcf hN hin hin'
      go_enter Try.func43, Try.ntmps43
      go_wp2_with (first | (go_at_call 67; refine (HC _ (h.alloc (Nat.le_refl _) _)).mono ?_; rintro e w' ⟨rfl, rfl⟩) | (go_at_call 68; refine (HI _ (h.alloc (Nat.le_refl _) _) (h2.alloc (Nat.le_refl _) _)).mono ?_; rintro e w' ⟨rfl, rfl⟩))
      go_ret2
      exact ⟨by rw [HF.out]; rfl, hB1 _⟩
  · have HF : Hid (atF xs cs = (0, (cellsF xs).2)) := by unfold Hid atF; rw [if_neg hcf]
    obtain ⟨N, hN⟩ : ∃ N, (cellsF xs).1 = N := ⟨_, rfl⟩
    obtain ⟨E, hE⟩ : ∃ E, (cellsF xs).2 = E := ⟨_, rfl⟩
    rw [hN, hE] at HC
    rw [hE] at hcf HF
    have he1 : (E == 0) = false := by simpa using hcf
    have he2 : (E != 0) = true := by simpa using hcf
    clear hN hE hcf
    go_enter Try.func43, Try.ntmps43
    go_wp2_with (go_at_call 67; refine (HC _ (h.alloc (Nat.le_refl _) _)).mono ?_; rintro e w' ⟨rfl, rfl⟩)
    go_ret2
    exact ⟨by rw [HF.out]; rfl, hB1 _⟩
end Go.Proofs.Yteepiifhmbcciaa
/- The contract of box.Coord. -/
namespace Go.Proofs.Yteepiifhmbcciaa
open Go.RowKit Go.Shelf
attribute [local go_sem] Oper.semAt_some

/-- what box.Coord has written when the pairs pre have come -/
def coSet (xs : List Int) (v : Int) (pre : List (Int × Int)) : List Int := pre.foldl (fun l x => l.set x.1.toNat (v / x.2 % (xs[x.1.toNat]?.getD 0))) (List.replicate xs.length 0)
theorem coSet_snoc (xs : List Int) (v : Int) (pre : List (Int × Int)) (x : Int × Int) : coSet xs v (pre ++ [x]) = (coSet xs v pre).set x.1.toNat (v / x.2 % (xs[x.1.toNat]?.getD 0)) := by simp [coSet]
theorem coSet_length (xs : List Int) (v : Int) (pre : List (Int × Int)) : (coSet xs v pre).length = xs.length := by
  unfold coSet
  suffices h : ∀ l : List Int, (pre.foldl (fun l x => l.set x.1.toNat (v / x.2 % (xs[x.1.toNat]?.getD 0))) l).length = l.length by rw [h]; simp
  induction pre with
  | nil => simp
  | cons x pre ih => intro l; rw [List.foldl_cons, ih]; simp
theorem coSet_comes {xs : List Int} (v : Int) (hp : ∀ x ∈ xs, 1 ≤ x) (hM : prodI xs ≤ 4611686018427387903) (k : Nat) (hk : k ≤ xs.length) : coSet xs v (comes xs k) = List.replicate (xs.length - k) 0 ++ (placeR xs v).drop (xs.length - k) := by
  induction k with
  | zero => rw [List.drop_of_length_le (by rw [placeR_length]; omega)]; simp [coSet, comes]
  | succ k ih =>
    have hx : xs[xs.length - 1 - k]? = some (xs[xs.length - 1 - k]'(by omega)) := List.getElem?_eq_getElem (by omega)
    have e3 : ((xs.length : Int) - 1 - k).toNat = xs.length - 1 - k := by omega
    have e2 : xs.length - 1 - k + 1 = xs.length - k := by omega
    rw [comes_succ, coSet_snoc, ih (by omega)]
    simp only [e3]
    rw [back_set (by omega)]
    rw [placeR_at hx, e2, backs_eq hp hM k (by omega), hx]; rfl
theorem own_row {A B : World} {row : Option Nat} {base n c g : Nat} {e : TypeId} {ys : List Value} (hs : A.ownsRow base e 1 (.slice (some ⟨g, 0, none⟩) n c) n ys) (hg : A.grownBy B row) (hr : ∀ r, row = some r → ∃ o : Obj, A.heap[r]? = some o ∧ o.isCells = false) :
    B.ownsRow base e 1 (.slice (some ⟨g, 0, none⟩) n c) n ys := by
  refine hs.kept hg (.inr fun e => ?_)
  obtain ⟨o, ho, hc⟩ := hr g e.symm
  rcases hs.2 with ⟨h', _⟩ | ⟨g', cap, cur, h', _, hh, _⟩
  · simp at h'
  · simp only [Value.slice.injEq, Option.some.injEq, Addr.mk.injEq, and_true, true_and] at h'
    obtain ⟨rfl, _⟩ := h'
    rw [hh] at ho
    injection ho with ho
    subst ho
    cases hc

theorem wpIn_makeFull {F : Fence} {m : Nat} {P : Program} (w : World) {ops : Array Oper} {rest : List Oper} {o : Oper} {a : Act} {Q : Exit → Act → World → Prop}
    (hg : o.guard = none) (l c : Operand) (t : TypeId) (hop : o.op = Op.makeSlice t l c)
    (base : Nat) (e : TypeId) (i : TypeInfo) (z : Value) (size : Nat) (h1 : P.underlying t = some (.slice e)) (h2 : P.info? e = some i) (h3 : i.zero = some z) (h4 : i.size = size)
    (kl kc : IntKind) (L C : Int) (n : Nat) (hl : a.eval l = .int kl L) (hc : a.eval c = .int kc C) (hL : L = (n : Int)) (hC : C = (n : Int)) (b2 : i.bytes * n ≤ 281474976710656) (b3 : n ≤ maxLen) (b4 : base ≤ w.heap.size)
    (hK : ∀ w', w'.ownsRow base e size (.slice (some ⟨w.heap.size, 0, none⟩) n n) n (madeCells z.cells (n * size)).toList → w.grownBy w' none → wpListIn F m P ops Q rest (a.put o.dst (.slice (some ⟨w.heap.size, 0, none⟩) n n)) w') :
    wpListIn F m P ops Q (o :: rest) a w := by
  refine wpListIn_plain hg fun K hK' => ?_
  obtain ⟨w', hrun, r1, r2⟩ := run_make_full (P := P) w base t e i z size h1 h2 h3 h4 kl kc n b2 b3 b4
  subst hL
  subst hC
  unfold Oper.wpIn
  refine ⟨?_, ?_⟩
  · simp [Oper.about, hop]
  · rw [Oper.semAt_plain F _ _ (by rw [hop]; intro c hc'; cases hc')]
    simp [execOp, hop, hl, hc, hrun, Result.andThen]
    exact hK' _ _ (hK w' r1 r2)

theorem mk_facts {w w1 : World} {u v : Value} {t t' : TypeId} (hg : ((w.alloc (.cells #[u] t)).alloc (.cells #[v] t')).grownBy w1 none) :
    Below (w.heap.size + 1 + 1) ((w.alloc (.cells #[u] t)).alloc (.cells #[v] t')) w1 ∧ w.heap.size + 1 + 1 ≤ w1.heap.size ∧ w1.cell? ⟨w.heap.size, 0, none⟩ = some u ∧ w1.cell? ⟨w.heap.size + 1, 0, none⟩ = some v := by
  have hb : Below (w.heap.size + 1 + 1) ((w.alloc (.cells #[u] t)).alloc (.cells #[v] t')) w1 := (Below.refl _ _).grown hg (by simp) (fun k e => by cases e)
  have c := newCell (w.alloc (.cells #[u] t)) v t'
  rw [World.size_alloc] at c
  refine ⟨hb, by simpa using hb.size, ?_, ?_⟩
  · exact (hb.cell (p := ⟨w.heap.size, 0, none⟩) (by simp; omega)).trans (cellPast _ (newCell w u t).1)
  · exact (hb.cell (p := ⟨w.heap.size + 1, 0, none⟩) (by simp)).trans c.1

theorem co_round {W w : World} {z : Value} {v1 v2 v3 : Value} {k g base e size n : Nat} {v : Value} {ys : List Value} (h1 : W.cell? ⟨g, 0, none⟩ = some v1) (h2 : W.cell? ⟨w.heap.size, 0, none⟩ = some v2) (h3 : W.cell? ⟨w.heap.size + 1, 0, none⟩ = some v3) (hB : Below w.heap.size w W)
    (hg : w.heap.size + 1 + 1 < g) (hr : (W.setCell ⟨w.heap.size + 1 + 1, k, none⟩ z).ownsRow base e size v n ys) :
    KeepsOthers W (W.setCell ⟨w.heap.size + 1 + 1, k, none⟩ z).drew ∧ KeepBox (g + 1) w.heap.size W (W.setCell ⟨w.heap.size + 1 + 1, k, none⟩ z).drew ∧
      ((W.setCell ⟨w.heap.size + 1 + 1, k, none⟩ z).drew.cell? ⟨g, 0, none⟩ = some v1 ∧ (W.setCell ⟨w.heap.size + 1 + 1, k, none⟩ z).drew.cell? ⟨w.heap.size, 0, none⟩ = some v2 ∧ (W.setCell ⟨w.heap.size + 1 + 1, k, none⟩ z).drew.cell? ⟨w.heap.size + 1, 0, none⟩ = some v3 ∧
        (W.setCell ⟨w.heap.size + 1 + 1, k, none⟩ z).drew.ownsRow base e size v n ys) ∧ Below w.heap.size w (W.setCell ⟨w.heap.size + 1 + 1, k, none⟩ z).drew := by
  refine ⟨(KeepsOthers.setCell _ _ _).trans (KeepsOthers.drew _), (KeepBox.of_setCell (p := ⟨w.heap.size + 1 + 1, k, none⟩) (by simp; omega) (by simp; omega) _).drew, ⟨?_, ?_, ?_, hr⟩, (hB.setCell (p := ⟨w.heap.size + 1 + 1, k, none⟩) (by simp; omega) _).drew⟩
  · exact (World.cell?_setCell_other W _ ⟨g, 0, none⟩ _ (by simp)).trans h1
  · exact (World.cell?_setCell_other W _ ⟨w.heap.size, 0, none⟩ _ (by simp)).trans h2
  · exact (World.cell?_setCell_other W _ ⟨w.heap.size + 1, 0, none⟩ _ (by simp)).trans h3

end Go.Proofs.Yteepiifhmbcciaa
/- The contract of the statements' live: the chapter's examples hold, and nothing that lay there has turned. -/
namespace Go.Proofs.Yteepiifhmbcciaa
open Go.RowKit

theorem Ints.of_new (W : World) (e : TypeId) (xs : List Int) (hb : ∀ x ∈ xs, -9223372036854775808 ≤ x ∧ x ≤ 9223372036854775807) :
    Ints (W.alloc (.cells (xs.map (Value.int .i64)).toArray e)) (W.heap.size + 1) (some ⟨W.heap.size, 0, none⟩) xs.length xs := by
  refine ⟨rfl, hb, fun _ => ⟨W.heap.size, 0, rfl, by omega, fun k x hx => ?_⟩⟩
  have h : (W.alloc (.cells (xs.map (Value.int .i64)).toArray e)).heap[W.heap.size]? = some (.cells (xs.map (Value.int .i64)).toArray e (0, 0)) := heap_alloc_new W _
  have := cell_of_row _ _ k _ e (0, 0) h
  rw [Nat.zero_add, this]
  simp [hx]

theorem live_at (w : World) : Calls Try.prog 43 #[.slice (some ⟨w.heap.size, 0, none⟩) 2 2, .slice (some ⟨w.heap.size + 1, 0, none⟩) 2 2] ((w.alloc (.cells #[.int .i64 2, .int .i64 3] 3)).alloc (.cells #[.int .i64 1, .int .i64 2] 3))
    fun e w' => e = .returned (.tuple #[.int .i64 5, .int .i64 0]) ∧ Below (w.heap.size + 1 + 1) ((w.alloc (.cells #[.int .i64 2, .int .i64 3] 3)).alloc (.cells #[.int .i64 1, .int .i64 2] 3)) w' := by
  have h1 := ((Ints.of_new w 3 [2, 3] (by simp)).alloc (by simp) (.cells #[.int .i64 1, .int .i64 2] 3)).more (B' := w.heap.size + 1 + 1) (by omega)
  have h2 := Ints.of_new (w.alloc (.cells #[.int .i64 2, .int .i64 3] 3)) 3 [1, 2] (by simp)
  rw [World.size_alloc] at h2
  have := at_any _ _ 2 2 2 2 [2, 3] [1, 2] ((w.alloc (.cells #[.int .i64 2, .int .i64 3] 3)).alloc (.cells #[.int .i64 1, .int .i64 2] 3)) (by simpa using h1) (by simpa using h2) (by omega) (by omega)
  have e : atF [2, 3] [1, 2] = (5, 0) := by decide
  rw [e] at this
  simpa using this
theorem live_zero (w : World) : Calls Try.prog 63 #[.slice (some ⟨w.heap.size, 0, none⟩) 1 1] (w.alloc (.cells #[.int .i64 2] 3))
    fun e w' => ∃ A1 c1 A2 c2, e = .returned (.tuple #[.agg #[.slice A1 1 c1, .slice A2 2 c2], .int .i64 0]) ∧ Below (w.heap.size + 1) (w.alloc (.cells #[.int .i64 2] 3)) w' := by
  have h1 := Ints.of_new w 3 [2] (by simp)
  have := zero_ok _ 1 1 [2] 2 (w.alloc (.cells #[.int .i64 2] 3)) (by simpa using h1) (by omega) (by decide) (by decide) (by omega)
  refine this.mono ?_
  rintro e w' ⟨A1, c1, A2, c2, rfl, _, _, hb⟩
  exact ⟨A1, c1, A2, c2, rfl, by simpa using hb⟩

end Go.Proofs.Yteepiifhmbcciaa
/- purflelaw01.BoxPlaces returns true at every input, and nothing that lay there has turned. -/
namespace Go.Proofs.Yteepiifhmbcciaa
open Go.RowKit

theorem below_drewN {B : Nat} {w W : World} (h : Below B w W) (m : Nat) : Below B w (W.drewN m) := ⟨h.os, h.tape, h.output, h.size, h.block⟩
theorem coordF_len {xs : List Int} {v : Int} : (coordF xs v).1.length ≤ 4 := by
  unfold coordF
  split
  · rename_i h
    split
    · rw [placeR_length]; exact (cellsF_ok h).1
    · simp
  · simp

end Go.Proofs.Yteepiifhmbcciaa
/- The contracts of box.Check and the document's Check, of few, of box.Same, the document's Equals and Same, of box.Get and the document's Get. -/
namespace Go.Proofs.Yteepiifhmbcciaa
open Go.RowKit

/-- Check, of a shape and how many numbers there are -/
def checkF (xs : List Int) (m : Nat) : Int := if (laidF xs).2 = 0 then if (m : Int) = (laidF xs).1 then 0 else 1 else (laidF xs).2

theorem checkF_err {xs : List Int} {m : Nat} (h : (cellsF xs).2 ≠ 0) : checkF xs m = (cellsF xs).2 := by
  unfold checkF laidF; rw [if_neg h]; exact if_neg h
theorem checkF_large {xs : List Int} {m : Nat} (h : (cellsF xs).2 = 0) (h2 : 65536 < (cellsF xs).1) : checkF xs m = 2 := by
  unfold checkF laidF; rw [if_pos h, if_pos h2]; rfl
theorem checkF_fit {xs : List Int} {m : Nat} (h : (cellsF xs).2 = 0) (h2 : ¬ 65536 < (cellsF xs).1) : checkF xs m = if (m : Int) = (cellsF xs).1 then 0 else 1 := by
  unfold checkF laidF; rw [if_pos h, if_neg h2]; rfl

/-- a dense tensor's header, and what it holds -/
structure Hdr where
  A : Option Addr
  n : Nat
  c : Nat
  B : Option Addr
  m : Nat
  e : Nat
def Hdr.val (d : Hdr) : Value := .agg #[.slice d.A d.n d.c, .slice d.B d.m d.e]
def fewF (l : List Hdr) : Bool := l.all fun d => decide (d.n ≤ 20) && decide (d.m ≤ 70000)
/-- a block that holds tensors' headers one behind the other -/
def Hdrs (w : World) (g : Nat) (l : List Hdr) : Prop := ∀ (k : Nat) (d : Hdr), l[k]? = some d → w.cell? ⟨g, k * 2, none⟩ = some (.slice d.A d.n d.c) ∧ w.cell? ⟨g, k * 2 + 1, none⟩ = some (.slice d.B d.m d.e)

theorem two_boxes {w w1 : World} {a b c d : Value} {t : TypeId} (hb : Below ((w.alloc (.cells #[a, b] t)).alloc (.cells #[c, d] t)).heap.size ((w.alloc (.cells #[a, b] t)).alloc (.cells #[c, d] t)) w1) :
    w1.cell? ⟨w.heap.size, 0, none⟩ = some a ∧ w1.cell? ⟨w.heap.size, 1, none⟩ = some b ∧ w1.cell? ⟨w.heap.size + 1, 0, none⟩ = some c ∧ w1.cell? ⟨w.heap.size + 1, 1, none⟩ = some d := by
  have h0 : (w.alloc (.cells #[a, b] t)).heap[w.heap.size]? = some (.cells #[a, b] t (0, 0)) := heap_alloc_new w _
  have h1 : ((w.alloc (.cells #[a, b] t)).alloc (.cells #[c, d] t)).heap[w.heap.size]? = some (.cells #[a, b] t (0, 0)) := (Below.heap_alloc _ _ _ (by simp)).trans h0
  have h2 : ((w.alloc (.cells #[a, b] t)).alloc (.cells #[c, d] t)).heap[w.heap.size + 1]? = some (.cells #[c, d] t (0, 0)) := by
    have := heap_alloc_new (w.alloc (.cells #[a, b] t)) (.cells #[c, d] t); rwa [World.size_alloc] at this
  have k1 := (hb.block w.heap.size (by simp; omega)).trans h1
  have k2 := (hb.block (w.heap.size + 1) (by simp)).trans h2
  refine ⟨?_, ?_, ?_, ?_⟩
  · simpa using cell_of_row _ _ 0 _ t (0, 0) k1
  · simpa using cell_of_row _ _ 1 _ t (0, 0) k1
  · simpa using cell_of_row _ _ 0 _ t (0, 0) k2
  · simpa using cell_of_row _ _ 1 _ t (0, 0) k2

/-- box.Same -/
def sameF (xs : List Int) (m : Nat) (xs2 ys ys2 : List Int) : Bool := decide (checkF xs m = 0) && decide (xs = xs2) && decide (ys = ys2)

set_option maxRecDepth 100000 in
/-- the document's Equals -/
theorem equals_any (A B A2 B2 : Option Addr) (n c m e n2 c2 m2 e2 : Nat) (xs ys xs2 ys2 : List Int) (w : World) (h : Ints w w.heap.size A n xs) (hv : Ints w w.heap.size B m ys) (h2 : Ints w w.heap.size A2 n2 xs2) (hv2 : Ints w w.heap.size B2 m2 ys2)
    (hn : n ≤ 100000) (hm : m ≤ 100000) (hn2 : n2 ≤ 9223372036854775807) (hm2 : m2 ≤ 9223372036854775807) :
    Calls Try.prog 22 #[.agg #[.slice A n c, .slice B m e], .agg #[.slice A2 n2 c2, .slice B2 m2 e2]] w fun x w' => x = .returned (.bool (decide (xs = xs2) && decide (ys = ys2))) ∧ Below w.heap.size w w' := by
  have HE := fun W (hb : Below w.heap.size w W) => refEqual_any A A2 n n2 c c2 xs xs2 W w.heap.size (h.below hb) (h2.below hb) hn hn2
  have hB0 : ∀ o1 o2, Below w.heap.size w ((w.alloc o1).alloc o2) := fun o1 o2 => ((Below.refl _ w).alloc (Nat.le_refl _) _).alloc (by simp) _
  have HL := Lib.hid hv.1
  have HL2 := Lib.hid hv2.1
  by_cases hx : xs = xs2
  · have hd1 : decide (xs = xs2) = true := by simpa using hx
    rw [hd1] at HE
    by_cases hmm : m = m2
    · subst hmm
      have HD := Lib.hid hd1
      clear hx hd1
      go_enter Try.func22, Try.ntmps22
      go_wp2_with (go_at_call 23; refine (HE _ (hB0 _ _)).mono ?_; rintro x w3 ⟨rfl, m3, rfl⟩)
      generalize hW : ((w.alloc (.cells #[.slice A n c, .slice B m e] 40)).alloc (.cells #[.slice A2 n2 c2, .slice B2 m e2] 40)) = W0
      have hb0 : Below w.heap.size w W0 := by rw [← hW]; exact hB0 _ _
      obtain ⟨k0, k1, k2, k3⟩ := two_boxes (w := w) (a := .slice A n c) (b := .slice B m e) (c := .slice A2 n2 c2) (d := .slice B2 m e2) (t := 40) (w1 := W0) (by rw [hW]; exact Below.refl _ _)
      clear hW HE
      go_loopw [24] (fun i wr => ∃ (k q : Nat), k ≤ m ∧ i = .int .i64 k ∧ wr = W0.drewN q ∧ Hid (ys.take k = ys2.take k)) (fun i _ => m - (intOf i).toNat)
      case atStart => exact ⟨0, _, Nat.zero_le _, rfl, rfl, by unfold Hid; simp⟩
      case round =>
        obtain ⟨k, q, hk, rfl, rfl, HK⟩ := hrel
        by_cases hlt : k < m
        · obtain ⟨b, off, x, rfl, _, HX, hc, hx1, hx2⟩ := (hv.below hb0).at_ hlt
          obtain ⟨b2, off2, y, rfl, _, HY, hc2, hy1, hy2⟩ := (hv2.below hb0).at_ hlt
          have hk0 : (0 : Int) ≤ k := by omega
          have hk1 : (k : Int) < m := by omega
          by_cases hxy : x = y
          · have HN : Hid (ys.take (k + 1) = ys2.take (k + 1)) := by unfold Hid; rw [take_succ_of HX.out, take_succ_of HY.out, HK.out, hxy]
            have e1 : (x == y) = true := by simpa using hxy
            have e2 : (x != y) = false := by simpa using hxy
            clear hxy
            go_wp2
            go_quiet (fail)
            go_wp2
            go_roundw
            case rel => exact ⟨k + 1, _, by omega, by go_num, rfl, HN⟩
            case measure => simp [intOf]; omega
          · have HF : Hid (decide (ys = ys2) = false) := by
              unfold Hid; rw [decide_eq_false]; intro e; subst e
              have := HX.out; rw [HY.out] at this; exact hxy (by injection this with this; exact this.symm)
            have e1 : (x == y) = false := by simpa using hxy
            have e2 : (x != y) = true := by simpa using hxy
            go_wp2
            go_quiet (fail)
            go_wp2
            go_ret
            exact ⟨by rw [HF.out, Bool.and_false]; rfl, below_drewN (below_drewN hb0 _) _⟩
        · have HF : Hid (decide (ys = ys2) = true) := by
            unfold Hid; rw [decide_eq_true]; have := HK.out
            rwa [List.take_of_length_le (by rw [HL.out]; omega), List.take_of_length_le (by rw [HL2.out]; omega)] at this
          go_wp2
          go_ret
          exact ⟨by rw [HF.out, HD.out]; rfl, below_drewN hb0 _⟩
    · have HF : Hid ((decide (xs = xs2) && decide (ys = ys2)) = false) := by
        unfold Hid; rw [decide_eq_false (p := ys = ys2), Bool.and_false]; intro e; subst e; exact hmm (by rw [← HL.out, ← HL2.out])
      have e1 : ((m : Int) == (m2 : Int)) = false := by simp; omega
      have e2 : ((m : Int) != (m2 : Int)) = true := by simp; omega
      clear hx hd1 hmm
      go_enter Try.func22, Try.ntmps22
      go_wp2_with (go_at_call 23; refine (HE _ (hB0 _ _)).mono ?_; rintro x w3 ⟨rfl, m3, rfl⟩)
      go_ret
      exact ⟨by rw [HF.out]; rfl, below_drewN (hB0 _ _) _⟩
  · have hd1 : decide (xs = xs2) = false := by simpa using hx
    have HF : Hid ((decide (xs = xs2) && decide (ys = ys2)) = false) := by unfold Hid; rw [hd1]; rfl
    rw [hd1] at HE
    clear hx hd1
    go_enter Try.func22, Try.ntmps22
    go_wp2_with (go_at_call 23; refine (HE _ (hB0 _ _)).mono ?_; rintro x w3 ⟨rfl, m3, rfl⟩)
    go_ret
    exact ⟨by rw [HF.out]; rfl, below_drewN (hB0 _ _) _⟩
end Go.Proofs.Yteepiifhmbcciaa
/- The contracts of the document's Same, of box.Get and the document's Get. -/
namespace Go.Proofs.Yteepiifhmbcciaa
open Go.RowKit

/-- Get -/
def getF (xs : List Int) (m : Nat) (ys cs : List Int) : Int × Int := if checkF xs m = 0 then if (atF xs cs).2 = 0 then (ys.getD (atF xs cs).1.toNat 0, 0) else (0, (atF xs cs).2) else (0, checkF xs m)
theorem checkF_ok {xs : List Int} {m : Nat} (h : checkF xs m = 0) : (cellsF xs).2 = 0 ∧ (m : Int) = (cellsF xs).1 ∧ m ≤ 65536 := by
  unfold checkF at h
  split at h
  · rename_i h1
    split at h
    · rename_i h2
      have ha := laidF_ok h1
      have hb := laidF_nonneg (xs := xs)
      exact ⟨ha.1, by omega, by omega⟩
    · simp at h
  · rename_i h1; exact absurd h h1
theorem atF_ok {xs cs : List Int} (h : (atF xs cs).2 = 0) : (cellsF xs).2 = 0 ∧ Inn xs cs ∧ (atF xs cs).1 = numR xs cs ∧ prodI xs = (cellsF xs).1 := by
  unfold atF at h ⊢
  split at h
  · rename_i h1
    split at h
    · rename_i h2
      have hI := inn_of_insideF h2
      rw [if_pos h1, if_pos h2]
      exact ⟨h1, hI, rfl, (cellsF_ok_pos h1 hI.pos).1.symm⟩
    · simp at h
  · rename_i h1; exact absurd h h1
theorem one_box {w w1 : World} {a b : Value} {t : TypeId} (hb : Below (w.alloc (.cells #[a, b] t)).heap.size (w.alloc (.cells #[a, b] t)) w1) :
    w1.cell? ⟨w.heap.size, 0, none⟩ = some a ∧ w1.cell? ⟨w.heap.size, 1, none⟩ = some b := by
  have h0 : (w.alloc (.cells #[a, b] t)).heap[w.heap.size]? = some (.cells #[a, b] t (0, 0)) := heap_alloc_new w _
  have k1 := (hb.block w.heap.size (by simp)).trans h0
  exact ⟨by simpa using cell_of_row _ _ 0 _ t (0, 0) k1, by simpa using cell_of_row _ _ 1 _ t (0, 0) k1⟩

end Go.Proofs.Yteepiifhmbcciaa
/- The contract of the document's Zero. -/
namespace Go.Proofs.Yteepiifhmbcciaa
open Go.RowKit

theorem run_appendNil {P : Program} (w : World) (base : Nat) (t ty e : TypeId) (i : TypeInfo) (ht : P.underlying t = some (.slice e)) (hi : P.info? e = some i) (v : Value) (n : Nat) (xs : List Value) (hown : w.ownsRow base e 1 v n xs) (c : Nat) :
    (Builtin.append_ #[t, t] ty #[v, .slice none 0 c]).run P w = .ok v w := by
  rcases hown.2 with ⟨rfl, rfl⟩ | ⟨g, cap, cur, rfl, _, _, hnc, _⟩ <;> simp [Builtin.append_, run_underlying ht, sizeOf, typeInfo, Builtin.lenOf, Builtin.firstCells, *, storeCells]

/-- append onto a slice of the call's own, from whatever slice of integers -/
theorem run_appendInts {P : Program} (w : World) (base : Nat) (t ty e : TypeId) (i : TypeInfo) (ht : P.underlying t = some (.slice e)) (hi : P.info? e = some i) (hz : i.zero = some (.int .i64 0)) (h1 : i.size = 1) (h2 : i.bytes = 8)
    (A A2 : Option Addr) (c m c2 B : Nat) (xs ys : List Int) (ho : OwnI w base e A c xs) (hs : Ints w B A2 m ys) (hl : xs.length + m ≤ 1000000) (hb : base ≤ w.heap.size) :
    ∃ A' c' w', (Builtin.append_ #[t, t] ty #[.slice A xs.length c, .slice A2 m c2]).run P w = .ok (.slice A' (xs.length + m) c') w' ∧ OwnI w' base e A' c' (xs ++ ys) ∧ w.grownBy w' (Value.slice A xs.length c).ownBlock := by
  have hlen := hs.1
  have hfit : ∀ x ∈ xs ++ ys, -9223372036854775808 ≤ x ∧ x ≤ 9223372036854775807 := by
    intro x hx
    rcases List.mem_append.1 hx with hx | hx
    · exact ho.2 x hx
    · exact hs.2.1 x hx
  rcases Option.eq_none_or_eq_some A2 with rfl | ⟨ad, rfl⟩
  · obtain rfl : m = 0 := by
      rcases Nat.eq_zero_or_pos m with h0 | h0
      · exact h0
      · obtain ⟨b, off, e', _⟩ := hs.2.2 h0; cases e'
    obtain rfl : ys = [] := List.eq_nil_of_length_eq_zero hlen
    have hrun := run_appendNil (P := P) w base t ty e i ht hi (.slice A xs.length c) xs.length (xs.map (Value.int .i64)) ho.1 c2
    exact ⟨A, c, w, by simpa using hrun, by simpa using ho, World.grownBy.refl w _⟩
  · obtain ⟨v', w', hr, h3, h4, _⟩ := run_append_own (P := P) w base t ty e i (.int .i64 0) 1 8 ht hi hz h1 h2 rfl (by decide) (.slice A xs.length c) xs.length (xs.map (Value.int .i64)) ho.1 ad m c2 (ys.map (Value.int .i64)) (by rw [List.length_map, hlen, Nat.mul_one]) hs.cells_ (ints_one ys) (by unfold maxLen; omega) (by omega) hb
    obtain ⟨A', c', rfl⟩ := row_form h3
    refine ⟨A', c', w', hr, ⟨?_, hfit⟩, h4⟩
    rw [List.length_append, hlen, List.map_append]
    exact h3

theorem step_appendInts {P : Program} {ops : Array Oper} {o : Oper} {a : Act} {w : World} {K : Act → World → Prop} {Q : Exit → Act → World → Prop} {E : Prop}
    (hg : o.guard = none) (s x : Operand) (t : TypeId) (hop : o.op = Op.call { callee := Callee.builtin Builtin.append, args := #[s, x], argTypes := #[t, t] })
    (base : Nat) (e : TypeId) (i : TypeInfo) (ht : P.underlying t = some (.slice e)) (hi : P.info? e = some i) (hz : i.zero = some (.int .i64 0)) (h1 : i.size = 1) (h2 : i.bytes = 8)
    (A A2 : Option Addr) (c m c2 B p r : Nat) (xs ys : List Int) (hs : a.eval s = .slice A p c) (hx : a.eval x = .slice A2 m c2) (ho : OwnI w base e A c xs) (hp : xs.length = p) (hr : p + m = r) (hi2 : Ints w B A2 m ys) (hl : r ≤ 1000000) (hb : base ≤ w.heap.size)
    (hK : ∀ A' c' w', OwnI w' base e A' c' (xs ++ ys) → w.grownBy w' (Value.slice A p c).ownBlock → K (a.put o.dst (.slice A' r c')) w') :
    if Region.wanted o (yielded ops a.tmps) = true then Oper.wp P o a w K Q else E := by
  have hw : Region.wanted o (yielded ops a.tmps) = true := by simp [Region.wanted, hg]
  rw [if_pos hw]
  subst hp
  subst hr
  obtain ⟨A', c', w', hrun, ho', hb'⟩ := run_appendInts (P := P) w base t o.type e i ht hi hz h1 h2 A A2 c m c2 B xs ys ho hi2 hl hb
  unfold Oper.wp
  simp [execOp, hop, resolve, invoke, builtin, hs, hx, hrun, Result.andThen]
  exact hK _ _ _ ho' hb'

theorem below_of_none {W w1 : World} (hg : W.grownBy w1 none) : Below W.heap.size W w1 := (Below.refl _ _).grown hg (Nat.le_refl _) (fun k e => by cases e)

set_option maxRecDepth 100000 in
/-- the document's Zero: an error's end -/
theorem refZero_err (A : Option Addr) (n c : Nat) (xs : List Int) (w : World) (h : Ints w w.heap.size A n xs) (hn : n ≤ 9223372036854775807) (he : (laidF xs).2 ≠ 0) :
    Calls Try.prog 41 #[.slice A n c] w fun e w' => e = .returned (.tuple #[.agg #[.slice none 0 0, .slice none 0 0], .int .i64 (laidF xs).2]) ∧ Below w.heap.size w w' := by
  have HC := fun W (hW : Ints W w.heap.size A n xs) => refCells_any A n c xs W w.heap.size hW hn
  obtain ⟨N, hN⟩ : ∃ N, (cellsF xs).1 = N := ⟨_, rfl⟩
  obtain ⟨E, hE⟩ : ∃ E, (cellsF xs).2 = E := ⟨_, rfl⟩
  rw [hN, hE] at HC
  by_cases h0 : E = 0
  · by_cases hl : 65536 < N
    · have HF : (laidF xs).2 = 2 := by unfold laidF; rw [hE, if_pos h0, hN, if_pos hl]
      rw [HF]
      clear hN hE he HF
      subst h0
      go_enter Try.func41, Try.ntmps41
      go_wp2_with (go_at_call 64; refine (HC _ (h.alloc (Nat.le_refl _) _)).mono ?_; rintro e w' ⟨rfl, rfl⟩)
      exact bodyPost_ret (v := .tuple #[.agg #[.slice none 0 0, .slice none 0 0], .int .i64 2]) (by simp [results, Try.results41, go_sem]) rfl ⟨rfl, (Below.refl _ _).alloc (Nat.le_refl _) _⟩
    · exfalso
      apply he
      unfold laidF; rw [hE, if_pos h0, hN, if_neg hl]
  · have HF : (laidF xs).2 = E := by unfold laidF; rw [hE, if_neg h0]
    rw [HF]
    have he1 : (E == 0) = false := by simpa using h0
    have he2 : (E != 0) = true := by simpa using h0
    clear hN hE he h0 HF
    go_enter Try.func41, Try.ntmps41
    go_wp2_with (go_at_call 64; refine (HC _ (h.alloc (Nat.le_refl _) _)).mono ?_; rintro e w' ⟨rfl, rfl⟩)
    exact bodyPost_ret (v := .tuple #[.agg #[.slice none 0 0, .slice none 0 0], .int .i64 E]) (by simp [results, Try.results41, go_sem]) rfl ⟨rfl, (Below.refl _ _).alloc (Nat.le_refl _) _⟩

set_option maxRecDepth 100000 in
set_option maxHeartbeats 1000000 in
theorem refZero_ok (A : Option Addr) (n c : Nat) (xs : List Int) (N : Nat) (w : World) (h : Ints w w.heap.size A n xs) (hn : n ≤ 100000) (he : (laidF xs).2 = 0) (hN : (laidF xs).1 = N) (hN2 : N ≤ 65536) :
    Calls Try.prog 41 #[.slice A n c] w fun e w' => ∃ A1 c1 A2 c2, e = .returned (.tuple #[.agg #[.slice A1 n c1, .slice A2 N c2], .int .i64 0]) ∧ OwnI w' w.heap.size 3 A1 c1 xs ∧ OwnI w' w.heap.size 2 A2 c2 (List.replicate N 0) ∧ Below w.heap.size w w' := by
  have HC := fun W (hW : Ints W w.heap.size A n xs) => refCells_any A n c xs W w.heap.size hW (by omega)
  have hok := laidF_ok he
  rw [hok.1, ← hok.2, hN] at HC
  obtain ⟨i0, hi0, hz0, hz1, hz2⟩ := info_parts infoInt64
  obtain ⟨i1, hi1, hy0, hy1, hy2⟩ := info_parts infoInt
  have hmk := fun W => run_makeAll (P := Try.prog) 25 2 i0 Try.underlying25 hi0 hz0 hz1 hz2 N (by omega) W
  have hlN : decide (65536 < (N : Int)) = false := by simp; omega
  clear hN he hok
  go_enter Try.func41, Try.ntmps41
  go_wp2_with (go_at_call 64; refine (HC _ (h.alloc (Nat.le_refl _) _)).mono ?_; rintro e w' ⟨rfl, rfl⟩)
  go_region_law (refine step_appendInts rfl (.const (.slice none 0 0)) (.tmp 18) 22 rfl (w.heap.size + 1) 3 i1 Try.underlying22 hi1 hy0 hy1 hy2 none A 0 n c w.heap.size 0 n [] xs rfl rfl (OwnI.nil_ _ _ _) rfl (Nat.zero_add _) (by first | exact h.alloc (Nat.le_refl _) _ | exact (h.alloc (Nat.le_refl _) _).alloc (by simp) _) (by omega) (by simp; try omega) ?_; intro A1 c1 w1 HO HG; have HB := below_of_none HG; obtain ⟨hs1, k0, k1, f0, f1⟩ := zfacts HB)
  all_goals go_wp2
  · obtain ⟨e0, e1⟩ := zcells (a := .slice A1 n c1) (b := .slice (some ⟨w1.heap.size, 0, none⟩) N N) k0 k1
    have e2 := fun o => cellPast o e0
    have e3 := fun o => cellPast o e1
    refine bodyPost_ret (v := .tuple #[.agg #[.slice A1 n c1, .slice (some ⟨w1.heap.size, 0, none⟩) N N], .int .i64 0]) (by simp [results, Try.results41, go_sem, e2, e3]) rfl ⟨A1, c1, _, _, rfl, ?_, ?_, ?_⟩
    · exact (((HO.setBelow (a := ⟨w.heap.size, 0, none⟩) (by simp) _).setBelow (a := ⟨w.heap.size, 1, none⟩) (by simp) _).alloc _).mono (by simp)
    · have := own_made ((w1.setCell ⟨w.heap.size, 0, none⟩ (.slice A1 n c1)).setCell ⟨w.heap.size, 1, none⟩ (.slice (some ⟨w1.heap.size, 0, none⟩) N N)) 2 N w.heap.size (by simp; omega) (by omega)
      simpa using this
    · exact ((((((Below.refl _ w).alloc (Nat.le_refl _) _).drew).trans (HB.mono (by simp))).setCell (p := ⟨w.heap.size, 0, none⟩) (Nat.le_refl _) _).setCell (p := ⟨w.heap.size, 1, none⟩) (Nat.le_refl _) _).alloc (by simp; omega) _
  · obtain ⟨e0, e1⟩ := zcells (a := .slice A1 n c1) (b := .slice (some ⟨w.heap.size + 1, 0, none⟩) N N) k0 k1
    refine bodyPost_ret (v := .tuple #[.agg #[.slice A1 n c1, .slice (some ⟨w.heap.size + 1, 0, none⟩) N N], .int .i64 0]) (by simp [results, Try.results41, go_sem, e0, e1]) rfl ⟨A1, c1, _, _, rfl, ?_, ?_, ?_⟩
    · exact ((HO.setBelow (a := ⟨w.heap.size, 0, none⟩) (by simp) _).setBelow (a := ⟨w.heap.size, 1, none⟩) (by simp) _).mono (by simp)
    · have := own_made (w.alloc (.cells #[.slice none 0 0, .slice none 0 0] 40)) 2 N (w.heap.size + 1) (by simp) (by omega)
      rw [World.size_alloc] at this
      exact (((this.drew.below HB (Nat.le_refl _)).setBelow (a := ⟨w.heap.size, 0, none⟩) (by simp) _).setBelow (a := ⟨w.heap.size, 1, none⟩) (by simp) _).mono (by omega)
    · exact ((((((Below.refl _ w).alloc (Nat.le_refl _) _).alloc (by simp) _).drew).trans (HB.mono (by simp; omega))).setCell (p := ⟨w.heap.size, 0, none⟩) (Nat.le_refl _) _).setCell (p := ⟨w.heap.size, 1, none⟩) (Nat.le_refl _) _
end Go.Proofs.Yteepiifhmbcciaa
/- The contract of perm.Check. -/
namespace Go.Proofs.Yteepiifhmbcciaa
open Go.RowKit

theorem blk_cell {w : World} {g i : Nat} {cs : List Value} {t : TypeId} {v : Value} (h : w.heap[g]? = some (.cells cs.toArray t (0, 0))) (hv : cs[i]? = some v) : w.cell? ⟨g, i, none⟩ = some v ∧ w.frozen? ⟨g, i, none⟩ = false :=
  ⟨(cell_of_row _ _ _ _ _ _ h).trans (by simpa using hv), by simp [World.frozen?, h]⟩
theorem blk_set {w : World} {g i : Nat} {cs : List Value} {t : TypeId} (h : w.heap[g]? = some (.cells cs.toArray t (0, 0))) (v : Value) : (w.setCell ⟨g, i, none⟩ v).heap[g]? = some (.cells (cs.set i v).toArray t (0, 0)) := by
  rw [heap_setCell_same _ _ _ _ _ _ h]; simp

end Go.Proofs.Yteepiifhmbcciaa
/- The contracts of level's smallest functions: Whole, many, inside, span, place, may, IsSorted; of the document's Whole and many. -/
namespace Go.Proofs.Yteepiifhmbcciaa
open Go.RowKit

/-- a level as a value -/
abbrev lvV (K S : Int) (A : Option Addr) (n c : Nat) (B : Option Addr) (m e : Nat) : Value := .agg #[.int .i64 K, .int .i64 S, .slice A n c, .slice B m e]
/-- the block that a level is laid in -/
abbrev lvO (K S : Int) (A : Option Addr) (n c : Nat) (B : Option Addr) (m e : Nat) : Obj := .cells #[.int .i64 K, .int .i64 S, .slice A n c, .slice B m e] 57
theorem lvBelow (w : World) (o : Obj) : Below w.heap.size w (w.alloc o) := (Below.refl _ _).alloc (Nat.le_refl _) _
theorem kinds (K : Int) : K = 0 ∨ K = 1 ∨ K = 2 ∨ K = 3 ∨ K = 4 ∨ ((K == 0) = false ∧ (K == 1) = false ∧ (K == 2) = false ∧ (K == 3) = false ∧ (K == 4) = false ∧ wholeB K = false) := by
  simp [wholeB]; omega
theorem oKeep {w1 w2 : World} {g : Nat} {o : Obj} (h : Below w1.heap.size w1 w2) (hg : w1.heap[g]? = some o) : w2.heap[g]? = some o := (h.block g (Array.getElem?_eq_some_iff.1 hg).1).trans hg
theorem oNew {w1 w2 : World} {o : Obj} (h : Below (w1.alloc o).heap.size (w1.alloc o) w2) : w2.heap[w1.heap.size]? = some o := (h.block w1.heap.size (by simp)).trans (heap_alloc_new w1 o)
/-- the cells of a level's block -/
theorem lvCells {W : World} {g : Nat} {u v x y : Value} {t : TypeId} (h : W.heap[g]? = some (.cells #[u, v, x, y] t (0, 0))) :
    W.cell? ⟨g, 0, none⟩ = some u ∧ W.cell? ⟨g, 1, none⟩ = some v ∧ W.cell? ⟨g, 2, none⟩ = some x ∧ W.cell? ⟨g, 3, none⟩ = some y ∧ W.frozen? ⟨g, 0, none⟩ = false ∧ W.frozen? ⟨g, 1, none⟩ = false ∧ W.frozen? ⟨g, 2, none⟩ = false ∧ W.frozen? ⟨g, 3, none⟩ = false :=
  ⟨by simpa using cell_of_row _ _ 0 _ t (0, 0) h, by simpa using cell_of_row _ _ 1 _ t (0, 0) h, by simpa using cell_of_row _ _ 2 _ t (0, 0) h, by simpa using cell_of_row _ _ 3 _ t (0, 0) h, by simp [World.frozen?, h], by simp [World.frozen?, h], by simp [World.frozen?, h], by simp [World.frozen?, h]⟩
theorem ret_of {v u : Value} (h : v = u) : Ending.returned v = Ending.returned u := by rw [h]

set_option maxRecDepth 100000 in
theorem whole_any (K S : Int) (A B : Option Addr) (n c m e : Nat) (w : World) :
    Calls Try.prog 60 #[lvV K S A n c B m e] w fun x w' => x = .returned (.bool (wholeB K)) ∧ Below w.heap.size w w' := by
  rcases kinds K with rfl | rfl | rfl | rfl | rfl | ⟨k0, k1, k2, k3, k4, HW⟩
  all_goals try
    go_enter Try.func60, Try.ntmps60
    go_wp2
    go_ret
    first | exact ⟨rfl, lvBelow _ _⟩ | exact ⟨ret_of (by rw [HW]; rfl), lvBelow _ _⟩

set_option maxRecDepth 100000 in
theorem refWhole_any (K S : Int) (A B : Option Addr) (n c m e : Nat) (w : World) :
    Calls Try.prog 82 #[lvV K S A n c B m e] w fun x w' => x = .returned (.bool (wholeB K)) ∧ Below w.heap.size w w' := by
  rcases kinds K with rfl | rfl | rfl | rfl | rfl | ⟨k0, k1, k2, k3, k4, HW⟩
  all_goals try
    go_enter Try.func82, Try.ntmps82
    go_wp2
    go_ret
    first | exact ⟨rfl, lvBelow _ _⟩ | exact ⟨ret_of (by rw [HW]; rfl), lvBelow _ _⟩

set_option maxRecDepth 100000 in
theorem lvInside_any (K S : Int) (A B : Option Addr) (n c m e : Nat) (y : Int) (w : World) :
    Calls Try.prog 94 #[lvV K S A n c B m e, .int .i64 y] w fun x w' => x = .returned (.bool (decide (0 ≤ y) && decide (y < S))) ∧ Below w.heap.size w w' := by
  by_cases hy : 0 ≤ y
  · have hd : decide (0 ≤ y) = true := by simpa using hy
    rw [hd, Bool.true_and]
    go_enter Try.func94, Try.ntmps94
    go_wp2
    go_ret
    exact ⟨rfl, lvBelow _ _⟩
  · have hd : decide (0 ≤ y) = false := by simpa using hy
    rw [hd, Bool.false_and]
    clear hy
    go_enter Try.func94, Try.ntmps94
    go_wp2
    go_ret
    exact ⟨rfl, lvBelow _ _⟩

set_option maxRecDepth 100000 in
set_option maxHeartbeats 1000000 in
theorem may_any (K S a : Int) (w : World) :
    Calls Try.prog 91 #[.int .i64 K, .int .i64 S, .int .i64 a] w fun x w' => x = .returned (.bool (pB (MayP K S a))) ∧ w = w' := by
  by_cases hg : 0 ≤ S ∧ S ≤ 2147483648 ∧ 0 ≤ a ∧ a ≤ 1048576
  · obtain ⟨h1, h2, h3, h4⟩ := hg
    have d1 : decide (0 ≤ S) = true := by simpa using h1
    have d2 : decide (S ≤ 2147483648) = true := by simpa using h2
    have d3 : decide (0 ≤ a) = true := by simpa using h3
    have d4 : decide (a ≤ 1048576) = true := by simpa using h4
    by_cases hS : S < 1
    · have d5 : decide (S < 1) = true := by simpa using hS
      rcases kinds K with rfl | rfl | rfl | rfl | rfl | ⟨k0, k1, k2, k3, k4, HW⟩
      · have HF : Hid (pB (MayP 0 S a) = true) := pB_t (by unfold MayP; omega)
        clear h1 h2 h3 h4 hS
        go_enter Try.func91, Try.ntmps91
        go_wp2
        go_ret
        exact ⟨ret_of (by rw [HF.out]; rfl), rfl⟩
      · have HF : Hid (pB (MayP 1 S a) = true) := pB_t (by unfold MayP; omega)
        clear h1 h2 h3 h4 hS
        go_enter Try.func91, Try.ntmps91
        go_wp2
        go_ret
        exact ⟨ret_of (by rw [HF.out]; rfl), rfl⟩
      · have HF : Hid (pB (MayP 2 S a) = true) := pB_t (by unfold MayP; omega)
        clear h1 h2 h3 h4 hS
        go_enter Try.func91, Try.ntmps91
        go_wp2
        go_ret
        exact ⟨ret_of (by rw [HF.out]; rfl), rfl⟩
      · have HF : Hid (pB (MayP 3 S a) = true) := pB_t (by unfold MayP; omega)
        clear h1 h2 h3 h4 hS
        go_enter Try.func91, Try.ntmps91
        go_wp2
        go_ret
        exact ⟨ret_of (by rw [HF.out]; rfl), rfl⟩
      · have HF : Hid (pB (MayP 4 S a) = false) := pB_f (by unfold MayP; omega)
        clear h1 h2 h3 h4 hS
        go_enter Try.func91, Try.ntmps91
        go_wp2
        go_ret
        exact ⟨ret_of (by rw [HF.out]; rfl), rfl⟩
      · have HF : Hid (pB (MayP K S a) = false) := pB_f (by simp at k0 k1 k2 k3 k4; unfold MayP; omega)
        clear h1 h2 h3 h4 hS HW
        go_enter Try.func91, Try.ntmps91
        go_wp2
        go_ret
        exact ⟨ret_of (by rw [HF.out]; rfl), rfl⟩
    · have d5 : decide (S < 1) = false := by simpa using hS
      rcases kinds K with rfl | rfl | rfl | rfl | rfl | ⟨k0, k1, k2, k3, k4, HW⟩
      · have HF : Hid (pB (MayP 0 S a) = true) := pB_t (by unfold MayP; omega)
        clear h1 h2 h3 h4 hS
        go_enter Try.func91, Try.ntmps91
        go_wp2
        go_ret
        exact ⟨ret_of (by rw [HF.out]; rfl), rfl⟩
      · have HF : Hid (pB (MayP 1 S a) = true) := pB_t (by unfold MayP; omega)
        clear h1 h2 h3 h4 hS
        go_enter Try.func91, Try.ntmps91
        go_wp2
        go_ret
        exact ⟨ret_of (by rw [HF.out]; rfl), rfl⟩
      · have HF : Hid (pB (MayP 2 S a) = true) := pB_t (by unfold MayP; omega)
        clear h1 h2 h3 h4 hS
        go_enter Try.func91, Try.ntmps91
        go_wp2
        go_ret
        exact ⟨ret_of (by rw [HF.out]; rfl), rfl⟩
      · have HF : Hid (pB (MayP 3 S a) = true) := pB_t (by unfold MayP; omega)
        clear h1 h2 h3 h4 hS
        go_enter Try.func91, Try.ntmps91
        go_wp2
        go_ret
        exact ⟨ret_of (by rw [HF.out]; rfl), rfl⟩
      · have HF : Hid (pB (MayP 4 S a) = true) := pB_t (by unfold MayP; omega)
        clear h1 h2 h3 h4 hS
        go_enter Try.func91, Try.ntmps91
        go_wp2
        go_ret
        exact ⟨ret_of (by rw [HF.out]; rfl), rfl⟩
      · have HF : Hid (pB (MayP K S a) = false) := pB_f (by simp at k0 k1 k2 k3 k4; unfold MayP; omega)
        clear h1 h2 h3 h4 hS HW
        go_enter Try.func91, Try.ntmps91
        go_wp2
        go_ret
        exact ⟨ret_of (by rw [HF.out]; rfl), rfl⟩
  · have HF : Hid (pB (MayP K S a) = false) := pB_f (by unfold MayP; omega)
    have hor : S < 0 ∨ (0 ≤ S ∧ 2147483648 < S) ∨ (0 ≤ S ∧ S ≤ 2147483648 ∧ a < 0) ∨ (0 ≤ S ∧ S ≤ 2147483648 ∧ 0 ≤ a ∧ 1048576 < a) := by omega
    clear hg
    have hS : decide (S < 1) = true ∨ decide (S < 1) = false := by cases decide (S < 1) <;> simp
    rcases hor with h1 | ⟨h1, h2⟩ | ⟨h1, h2, h3⟩ | ⟨h1, h2, h3, h4⟩
    · have d1 : decide (0 ≤ S) = false := by simp; omega
      clear h1
      rcases hS with d5 | d5
      all_goals
        rcases kinds K with rfl | rfl | rfl | rfl | rfl | ⟨k0, k1, k2, k3, k4, HW⟩
        all_goals try clear HW
        all_goals
          go_enter Try.func91, Try.ntmps91
          go_wp2
          go_ret
          exact ⟨ret_of (by rw [HF.out]; rfl), rfl⟩
    · have d1 : decide (0 ≤ S) = true := by simp; omega
      have d2 : decide (S ≤ 2147483648) = false := by simp; omega
      clear h1 h2
      rcases hS with d5 | d5
      all_goals
        rcases kinds K with rfl | rfl | rfl | rfl | rfl | ⟨k0, k1, k2, k3, k4, HW⟩
        all_goals try clear HW
        all_goals
          go_enter Try.func91, Try.ntmps91
          go_wp2
          go_ret
          exact ⟨ret_of (by rw [HF.out]; rfl), rfl⟩
    · have d1 : decide (0 ≤ S) = true := by simp; omega
      have d2 : decide (S ≤ 2147483648) = true := by simp; omega
      have d3 : decide (0 ≤ a) = false := by simp; omega
      clear h1 h2 h3
      rcases hS with d5 | d5
      all_goals
        rcases kinds K with rfl | rfl | rfl | rfl | rfl | ⟨k0, k1, k2, k3, k4, HW⟩
        all_goals try clear HW
        all_goals
          go_enter Try.func91, Try.ntmps91
          go_wp2
          go_ret
          exact ⟨ret_of (by rw [HF.out]; rfl), rfl⟩
    · have d1 : decide (0 ≤ S) = true := by simp; omega
      have d2 : decide (S ≤ 2147483648) = true := by simp; omega
      have d3 : decide (0 ≤ a) = true := by simp; omega
      have d4 : decide (a ≤ 1048576) = false := by simp; omega
      clear h1 h2 h3 h4
      rcases hS with d5 | d5
      all_goals
        rcases kinds K with rfl | rfl | rfl | rfl | rfl | ⟨k0, k1, k2, k3, k4, HW⟩
        all_goals try clear HW
        all_goals
          go_enter Try.func91, Try.ntmps91
          go_wp2
          go_ret
          exact ⟨ret_of (by rw [HF.out]; rfl), rfl⟩
end Go.Proofs.Yteepiifhmbcciaa
