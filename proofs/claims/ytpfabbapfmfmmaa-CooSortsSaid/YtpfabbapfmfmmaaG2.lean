/- A region of code that draws its order of evaluation, whose operations up to the last ones only read, inside a round of a range over a function: one walk in the text's order serves every order. Nothing is claimed of the program here. -/
import Derived.StillTail
import Derived.StillTactics
import Derived.RangeFuncCalls
import Derived.TacticsIn
import Derived.Test.YtpfabbapfmfmmaaG1
namespace Go.Proofs.Ytpfabbapfmfmmaa

theorem rowsIn_of_rows {n : Nat} {P : Program} {row : String} {args : Array Value} {w : World} {R : Value → World → Prop} (h : Rows P row args w R) : RowsIn Fence.wide n P row args w R :=
  fun c cs _ => let ⟨v, w', r, s⟩ := h c cs; ⟨v, w', r, stepsIn_wide.2 s⟩

set_option maxRecDepth 100000 in
theorem Oper.wpIn_of_wp_round {l n : Nat} {P : Program} {o : Oper} {a : Act} {w : World} {K K' : Act → World → Prop} {Q : Exit → Act → World → Prop} (hd : ∀ c, o.op ≠ .defer c) (hK : ∀ a w, K a w → K' a w) (h : o.wp P a w K Q) :
    o.wpIn (Fence.wide.inRound l) n P a w K' Q := by
  unfold Oper.wp at h
  unfold Oper.wpIn
  refine ⟨fun _ _ => trivial, ?_⟩
  rw [show (Fence.wide.inRound l).round = some l from rfl, Oper.semAt_some l _ o hd]
  generalize (execOp a.eval o).run P w = r at *
  cases r with
  | ok x w' =>
    cases x <;> first
      | exact hK _ _ h
      | exact h.elim
      | exact And.intro (fun hh => (by cases hh)) (CallsIn.inRound l (callsIn_wide.2 (Calls.mono h (fun e w'' he => (by cases e <;> first | exact hK _ _ he | exact he)))))
      | exact And.intro (fun hh => (by cases hh)) ((rowsIn_of_rows h).mono (fun _ _ he => hK _ _ he))
  | halt x w' => cases x <;> exact h

theorem wpOpsIn_of_wpOps {l n : Nat} {P : Program} {ops : Array Oper} {Q : Exit → Act → World → Prop} (hd : ∀ (i : Nat) (o : Oper), ops[i]? = some o → ∀ c, o.op ≠ .defer c) (hQ : ¬ LetsOut Q) : ∀ (is : List Nat) (a : Act) (w : World),
    wpOps P ops Q is a w → wpOpsIn (Fence.wide.inRound l) n P ops Q is a w
  | [], _, _, h => h
  | i :: rest, a, w, h => by
    unfold wpOps at h
    unfold wpOpsIn
    cases ho : ops[i]? with
    | none => simp only [ho] at h; exact wpOpsIn_of_wpOps hd hQ rest a w h
    | some o =>
      simp only [ho] at h ⊢
      split
      · rename_i hw
        rw [if_pos hw] at h
        rcases h with h | ⟨_, h⟩
        · exact Oper.wpIn_of_wp_round (hd i o ho) (fun a w => wpOpsIn_of_wpOps hd hQ rest a w) h
        · exact absurd h hQ
      · rename_i hw
        rw [if_neg hw] at h
        exact ⟨fun _ _ => trivial, wpOpsIn_of_wpOps hd hQ rest _ w h⟩

theorem wpIn_region_still_tail_round {lo m id : Nat} {P : Program} {Q : Exit → Act → World → Prop} {a : Act} {w : World} {l : List Oper} (n : Nat) (hm : P.follows .mixedOrders = true) (hB : Region.lexTailB .any l.toArray n = true)
    (hd : l.all (fun o => match o.op with | .defer _ => false | _ => true) = true) (hQ : ¬ LetsOut Q)
    (h : wpStill P l.toArray { w with drawn := w.drawn + 1 } (fun a' => wpList P l.toArray Q (l.drop n) a' { w with drawn := w.drawn + 1 }) (l.take n) a) : (Code.region id l.toArray true).wpIn (Fence.wide.inRound lo) m P Q a w := by
  simp only [Region.lexTailB, Bool.and_eq_true, decide_eq_true_eq] at hB
  obtain ⟨⟨⟨⟨hsel, hn⟩, hs⟩, hc⟩, hlex⟩ := hB
  have hn' : n < l.length := by simpa using hn
  have htl : (l.take n).length = n := by simp; omega
  have hdl : (l.drop n).length = l.toArray.size - n := by simp
  have inv0 : HeadInv .any l.toArray n (Array.replicate l.toArray.size false) :=
    ⟨by simp, fun j oj _ hl => (by rw [getD_replicate_false] at hl; cases hl), fun t _ ht => getD_in (by simpa using ht) (getD_replicate_false _ _)⟩
  have H := wpAnyL_lex (md := .any) (g := l.toArray.size - n) hsel hs hc hn (l.take n) 0 _ a (fun j hj => by
    have hj' : j < n := by rw [htl] at hj; exact hj
    simp [hj']) (by simpa using htl) inv0 (by rw [htl]; exact hlex) h
  have hany : wpAny P .any l.toArray Q l.toArray.size (Array.replicate l.toArray.size false) a { w with drawn := w.drawn + 1 } := by
    have := wpAny_of_head (Q' := Q) (g := l.toArray.size - n) (fun listed a' hL => by
      have := wpAny_of_seq (md := .any) (Q' := Q) (l.drop n) n listed a' { w with drawn := w.drawn + 1 } (fun j => by simp [List.getElem?_drop]) (by rw [hdl]; exact hL.1) hL.2
      rwa [hdl] at this) _ _ _ H
    rw [htl, show n + (l.toArray.size - n) = l.toArray.size by omega] at this
    exact this
  refine wpIn_region_draw fun t => ?_
  simp only [Region.schedule, hm, Bool.true_or, if_true]
  refine wpOpsIn_of_wpOps (fun i o ho c hc => ?_) hQ _ a _ (wpAny_sound _ t _ a _ hany)
  have hmem : o ∈ l := by
    have : l[i]? = some o := by simpa using ho
    exact List.mem_of_getElem? this
  have := List.all_eq_true.1 hd o hmem
  rw [hc] at this
  cases this
end Go.Proofs.Ytpfabbapfmfmmaa
/- The contracts of the document's number, place, At and Coord. -/
namespace Go.Proofs.Ytpfabbapfmfmmaa
open Go.RowKit

set_option maxRecDepth 100000 in
theorem number_any (A A2 : Option Addr) (n n2 c c2 : Nat) (xs cs : List Int) (w : World) (B : Nat) (h : Ints w B A n xs) (h2 : Ints w B A2 n2 cs) (hn : n ≤ 100000) (hi : Inn xs cs) (hM : prodI xs ≤ 4611686018427387903) :
    Calls Try.prog 81 #[.slice A n c, .slice A2 n2 c2] w fun e w' => e = .returned (.int .i64 (numR xs cs)) ∧ ∃ m, w' = w.drewN m := by
  have HL : Hid (xs.length = n) := h.1
  have HL2 : Hid (cs.length = n2) := h2.1
  obtain rfl : n2 = n := by have := hi.len; rw [HL.out, HL2.out] at this; exact this.symm
  go_enter Try.func81, Try.ntmps81
  go_wp2
  go_loopw [5, 9] (fun v i wr => ∃ (k m : Nat) (q P : Int), k ≤ n2 ∧ i = .int .i64 k ∧ v = .int .i64 q ∧ wr = w.drewN m ∧ 0 ≤ q ∧ q < P ∧ Hid (P = prodI (xs.take k)) ∧ Hid (q = hor (xs.take k) (cs.take k) 0)) (fun _ i _ => n2 - (intOf i).toNat)
  case atStart => exact ⟨0, 0, 0, 1, Nat.zero_le _, rfl, rfl, rfl, by omega, by omega, rfl, by unfold Hid; simp [hor]⟩
  case round =>
    obtain ⟨k, m, q, P, hk, rfl, rfl, rfl, hq0, hqP, HP, HQ⟩ := hrel
    by_cases hlt : k < n2
    · obtain ⟨b, off, x, rfl, _, HX, hc, hx1, hx2⟩ := h.at_ hlt
      obtain ⟨b2, off2, y, rfl, _, HY, hc2, hy1, hy2⟩ := h2.at_ hlt
      have hxy := hi.at_ HX.out HY.out
      have hk0 : (0 : Int) ≤ k := by omega
      have hk1 : (k : Int) < n2 := by omega
      have hPx : P * x ≤ 4611686018427387903 := by
        have := prodI_take_le hi.pos (k + 1)
        rw [take_succ_of HX.out, prodI_append, ← HP.out] at this
        simp [prodI] at this; omega
      have hb := step_bound hq0 hqP hxy.1 hxy.2
      have HP' : Hid (P * x = prodI (xs.take (k + 1))) := by unfold Hid; rw [take_succ_of HX.out, prodI_append, ← HP.out]; simp [prodI]
      have HQ' : Hid (q * x + y = hor (xs.take (k + 1)) (cs.take (k + 1)) 0) := by
        unfold Hid; rw [take_succ_of HX.out, take_succ_of HY.out, hor_snoc (by have := HL.out; have := HL2.out; simp; omega), ← HQ.out]
      obtain ⟨hb1, hb2, hb3⟩ := hb
      obtain ⟨p, hp⟩ : ∃ p, q * x = p := ⟨_, rfl⟩
      have hwp : IntKind.i64.wrap (q * x) = p := by rw [wrap_eq, hp]; exact IntWalk.wrap64_in _ ⟨by omega, by omega⟩
      have hws : IntKind.i64.wrap (p + y) = p + y := by rw [wrap_eq]; exact IntWalk.wrap64_in _ ⟨by omega, by omega⟩
      have HH := Lib.hid (And.intro hb2 hb3)
      rw [hp] at HH HQ'
      clear hb1 hb2 hb3 hp hPx hxy
      go_wp2
      go_quiet (fail)
      go_wp2
      go_roundw
      case rel => exact ⟨k + 1, _, p + y, P * x, by omega, by go_num, rfl, rfl, HH.out.1, HH.out.2, HP', HQ'⟩
      case measure => simp [intOf]; omega
    · have HF : Hid (q = numR xs cs) := by
        unfold Hid; rw [HQ.out, List.take_of_length_le (by rw [HL.out]; omega), List.take_of_length_le (by rw [HL2.out]; omega), hor_eq hi.len]; simp
      go_wp2
      go_ret
      exact ⟨by rw [← HF.out]; rfl, _, rfl⟩

/-- the document's At, whole -/
def atF (xs cs : List Int) : Int × Int := if (cellsF xs).2 = 0 then if insideF xs cs = true then (numR xs cs, 0) else (0, 3) else (0, (cellsF xs).2)

set_option maxRecDepth 100000 in
theorem refAt_any (A A2 : Option Addr) (n n2 c c2 : Nat) (xs cs : List Int) (w : World) (B : Nat) (h : Ints w B A n xs) (h2 : Ints w B A2 n2 cs) (hn : n ≤ 9223372036854775807) (hn2 : n2 ≤ 9223372036854775807) :
    Calls Try.prog 54 #[.slice A n c, .slice A2 n2 c2] w fun e w' => e = .returned (.tuple #[.int .i64 (atF xs cs).1, .int .i64 (atF xs cs).2]) ∧ ∃ m, w' = w.drewN m := by
  have HC := fun W (hW : Ints W B A n xs) => refCells_any A n c xs W B hW hn
  by_cases hcf : (cellsF xs).2 = 0
  · have h5 : n ≤ 100000 := by have := (cellsF_ok hcf).1; have := h.1; omega
    have HI := fun W (hW : Ints W B A n xs) (hW2 : Ints W B A2 n2 cs) => refIn_any A A2 n n2 c c2 xs cs W B hW hW2 h5 hn2
    obtain ⟨N, hN⟩ : ∃ N, (cellsF xs).1 = N := ⟨_, rfl⟩
    rw [hcf, hN] at HC
    by_cases hin : insideF xs cs = true
    · have hI := inn_of_insideF hin
      have HN := fun W (hW : Ints W B A n xs) (hW2 : Ints W B A2 n2 cs) => number_any A A2 n n2 c c2 xs cs W B hW hW2 h5 hI (cellsF_ok_pos hcf hI.pos).2
      have HF : Hid (atF xs cs = (numR xs cs, 0)) := by unfold Hid atF; rw [if_pos hcf, if_pos hin]
      rw [hin] at HI
      clear hcf hN hin hI
      go_enter Try.func54, Try.ntmps54
      go_wp2_with (first | (go_at_call 53; refine (HC _ h).mono ?_; rintro e w' ⟨rfl, rfl⟩) | (go_at_call 80; refine (HI _ h h2).mono ?_; rintro e w' ⟨rfl, m, rfl⟩) | (go_at_call 81; refine (HN _ (h.drewN _) (h2.drewN _)).mono ?_; rintro e w' ⟨rfl, m2, rfl⟩))
      go_ret2
      exact ⟨by rw [HF.out]; rfl, _, rfl⟩
    · have hin' : insideF xs cs = false := by simpa using hin
      have HF : Hid (atF xs cs = (0, 3)) := by unfold Hid atF; rw [if_pos hcf, if_neg hin]
      rw [hin'] at HI
      clear hcf hN hin hin'
      go_enter Try.func54, Try.ntmps54
      go_wp2_with (first | (go_at_call 53; refine (HC _ h).mono ?_; rintro e w' ⟨rfl, rfl⟩) | (go_at_call 80; refine (HI _ h h2).mono ?_; rintro e w' ⟨rfl, m, rfl⟩))
      go_ret2
      exact ⟨by rw [HF.out]; rfl, _, rfl⟩
  · have HF : Hid (atF xs cs = (0, (cellsF xs).2)) := by unfold Hid atF; rw [if_neg hcf]
    obtain ⟨N, hN⟩ : ∃ N, (cellsF xs).1 = N := ⟨_, rfl⟩
    obtain ⟨E, hE⟩ : ∃ E, (cellsF xs).2 = E := ⟨_, rfl⟩
    rw [hN, hE] at HC
    rw [hE] at hcf HF
    have he1 : (E == 0) = false := by simpa using hcf
    have he2 : (E != 0) = true := by simpa using hcf
    clear hN hE hcf
    go_enter Try.func54, Try.ntmps54
    go_wp2_with (go_at_call 53; refine (HC _ h).mono ?_; rintro e w' ⟨rfl, rfl⟩)
    go_ret2
    exact ⟨by rw [HF.out]; rfl, 0, rfl⟩
end Go.Proofs.Ytpfabbapfmfmmaa
/- The contract of box.At. -/
namespace Go.Proofs.Ytpfabbapfmfmmaa
open Go.RowKit Go.Shelf
attribute [local go_sem] Oper.semAt_some

theorem at_round {W w : World} {v : Value} {a a' : Int} {z : Int} (hc : W.cell? ⟨w.heap.size + 1, 0, none⟩ = some (.int .i64 a)) (hf : W.frozen? ⟨w.heap.size + 1, 0, none⟩ = false) (hcb : W.cell? ⟨w.heap.size, 0, none⟩ = some v) (hB : Below w.heap.size w W) (ha : a' = z) :
    KeepsOthers W (W.setCell ⟨w.heap.size + 1, 0, none⟩ (.int .i64 a')).drew ∧ KeepBox (w.heap.size + 1 + 1) w.heap.size W (W.setCell ⟨w.heap.size + 1, 0, none⟩ (.int .i64 a')).drew ∧
      ((W.setCell ⟨w.heap.size + 1, 0, none⟩ (.int .i64 a')).drew.cell? ⟨w.heap.size + 1, 0, none⟩ = some (.int .i64 z) ∧ (W.setCell ⟨w.heap.size + 1, 0, none⟩ (.int .i64 a')).drew.frozen? ⟨w.heap.size + 1, 0, none⟩ = false ∧
        (W.setCell ⟨w.heap.size + 1, 0, none⟩ (.int .i64 a')).drew.cell? ⟨w.heap.size, 0, none⟩ = some v) ∧ Below w.heap.size w (W.setCell ⟨w.heap.size + 1, 0, none⟩ (.int .i64 a')).drew := by
  subst ha
  refine ⟨(KeepsOthers.setCell _ _ _).trans (KeepsOthers.drew _), (KeepBox.of_setCell (p := ⟨w.heap.size + 1, 0, none⟩) (by simp) (by simp) _).drew, ⟨?_, ?_, ?_⟩, (hB.setCell (p := ⟨w.heap.size + 1, 0, none⟩) (by simp) _).drew⟩
  · exact World.cell?_setCell_same' _ _ _ (by rw [hc]; rfl)
  · rw [frozen_drew_own, World.frozen?_setCell]; exact hf
  · exact (World.cell?_setCell_other W _ ⟨w.heap.size, 0, none⟩ _ (by simp)).trans hcb

set_option maxRecDepth 100000 in
set_option maxHeartbeats 2000000 in
theorem at_in (n : Nat) (hn : 3 ≤ n) (A A2 : Option Addr) (r r2 c c2 : Nat) (xs cs : List Int) (w : World) (h : Ints w w.heap.size A r xs) (h2 : Ints w w.heap.size A2 r2 cs) (hr : r ≤ 9223372036854775807) (hr2 : r2 ≤ 9223372036854775807)
   (hcf : (cellsF xs).2 = 0) (hin : insideF xs cs = true) :
    CallsIn Fence.wide n Try.prog 52 #[.slice A r c, .slice A2 r2 c2] w fun e w' => e = .returned (.tuple #[.int .i64 (numR xs cs), .int .i64 0]) ∧ Below w.heap.size w w' := by
  have h1 : 1 ≤ n := by omega
  have hI := inn_of_insideF hin
  have hr5 : r ≤ 100000 := by have := (cellsF_ok hcf).1; have := h.1; omega
  obtain ⟨N, hN⟩ : ∃ N, (cellsF xs).1 = N := ⟨_, rfl⟩
  have HC := fun W (hW : Ints W w.heap.size A r xs) => callsIn_wide (n := n - 1) |>.2 (cells_any A r c xs W w.heap.size hW hr)
  rw [hcf, hN] at HC
  have HI := fun W (hW : Ints W w.heap.size A r xs) (hW2 : Ints W w.heap.size A2 r2 cs) => callsIn_wide (n := n - 1) |>.2 (inside_any A A2 r r2 c c2 xs cs W w.heap.size hW hW2 hr5 hr2)
  rw [hin] at HI
  have HF := fun W => fromBehind_in (n - 1) A r c W
  refine callsIn_of_wp_marks Try.func52 rfl trivial ?_ rfl
  simp only [Try.ntmps52, List.size_toArray, List.length_cons, List.length_nil, Nat.reduceAdd, Nat.reduceSub, Array.replicate_succ, Array.replicate_zero, List.push_toArray, List.append_toArray, List.nil_append, List.cons_append]
  gi_wp2_with (first | (refine ⟨trivial, ?_⟩; gi_at_call 51; refine (HC _ (h.alloc (Nat.le_refl _) _)).mono ?_; rintro e w' ⟨rfl, rfl⟩) | (refine ⟨trivial, ?_⟩; gi_at_call 78; refine (HI _ (h.alloc (Nat.le_refl _) _) (h2.alloc (Nat.le_refl _) _)).mono ?_; rintro e w' ⟨rfl, rfl⟩) | (refine ⟨trivial, ?_⟩; gi_at_call 79; refine (HF _).mono ?_; rintro e w' ⟨rfl, rfl⟩))
  have hM := cellsF_ok_pos hcf hI.pos
  have HL := Lib.hid h.1
  have HL2 := Lib.hid h2.1
  have cb := newCell w (.slice A2 r2 c2) 22
  have cn := newCell (w.alloc (.cells #[.slice A2 r2 c2] 22)) (.int .i64 0) 3
  have cs_ := newCell ((w.alloc (.cells #[.slice A2 r2 c2] 22)).alloc (.cells #[.int .i64 0] 3)) (.slice A r c) 22
  simp only [World.size_alloc] at cn cs_
  have hB0 : Below w.heap.size w (((w.alloc (.cells #[.slice A2 r2 c2] 22)).alloc (.cells #[.int .i64 0] 3)).alloc (.cells #[.slice A r c] 22)) := (((Below.refl _ w).alloc (Nat.le_refl _) _).alloc (by simp) _).alloc (by simp; omega) _
  refine wpIn_rangeFunc_ownF rfl h1 (gf := 92) (lb := #[.pointer (some ⟨w.heap.size + 1 + 1, 0, none⟩)]) rfl trivial (enters_of Try.func92 (by kernel_rfl) rfl)
    (fromBehind_stops (n - 1) (by omega) (fun x => 0 ≤ x.1 ∧ x.1 < r) (w.heap.size + 1 + 1) w.heap.size A r c xs hr5 (fun k hk => ⟨by dsimp only; omega, by dsimp only; omega⟩) _ (by simp) (by simp; omega) cs_.1 (h.below hB0)) KeepBox.trans (keepBox_b (by simp; omega) (by simp)) (Below.refl _ _) (fun _ => rfl)
    (fun pre W => (W.cell? ⟨w.heap.size + 1, 0, none⟩ = some (.int .i64 (atSum cs (pre.map (·.1)))) ∧ W.frozen? ⟨w.heap.size + 1, 0, none⟩ = false ∧ W.cell? ⟨w.heap.size, 0, none⟩ = some (.slice A2 r2 c2)) ∧ Below w.heap.size w W)
    (fun _ _ _ => False)
    (OwnFrom.and (Own.from (fun s A B row hs hg hr => ⟨cell_kept hs.1 hg hr, (frozen_kept hs.1 hg hr).trans hs.2.1, cell_kept hs.2.2 hg hr⟩) _) (ownFrom_below (Nat.le_refl _) (by simp; omega)))
    (fun _ _ _ _ _ hs _ _ => hs)
    ⟨⟨cellPast _ cn.1, frozenPast _ cn.1 cn.2, cellPast _ (cellPast _ cb.1)⟩, hB0⟩
    (fun x => { tmps := #[.slice A r c, .slice A2 r2 c2, undef, .pointer (some ⟨w.heap.size, 0, none⟩), .int .i64 0, .int .i64 0, .int .i64 N, .int .i64 0, .pointer (some ⟨w.heap.size + 1, 0, none⟩), .int .i64 x.1.1, .int .i64 x.1.2,
          .tuple #[.int .i64 N, .int .i64 0], .slice A r c, .tuple #[.int .i64 N, .int .i64 0], .int .i64 N, .int .i64 0, .int .i64 0, .bool false, undef, .slice A r c, .slice A2 r2 c2, .bool true, .bool false, .slice A r c,
          .func (.func 92) #[] #[.pointer (some ⟨w.heap.size + 1 + 1, 0, none⟩)], .int .i64 x.1.1, .int .i64 x.1.2, undef, undef, undef, undef, undef, undef, undef, undef, undef], defers := [] }) ?assign ?body ?done ?stop
  case assign =>
    intro l x W K hK
    gi_wp2
    exact hK
  case body =>
    rintro l pre ⟨⟨j, q⟩, hj0, hj1⟩ W ⟨⟨hc, hf, hcb⟩, hB⟩ _
    dsimp only at hj0 hj1 hc ⊢
    have h2' := h2.below hB
    have hj2 : j < r2 := by have := hI.len; rw [HL.out, HL2.out] at this; omega
    obtain ⟨b, off, y, rfl, hbb, HY, hcy, hy1, hy2⟩ := h2'.at_ (k := j.toNat) (by omega)
    obtain ⟨a, ha⟩ : ∃ a, atSum cs (pre.map (·.1)) = a := ⟨_, rfl⟩
    rw [ha] at hc
    have HA := Lib.hid ha
    clear ha HC HI HF cb cn cs_ hB0 h2
    have hmx : Try.prog.follows .mixedOrders = true := by kernel_rfl
    gi_wp2
    refine wpIn_region_still_tail_round 8 hmx (by kernel_rfl) (by kernel_rfl) (by rintro ⟨_, _, hh⟩; exact hh) ?_
    simp only [List.take_succ_cons, List.take_zero, List.drop_succ_cons, List.drop_zero]
    repeat still_step
    refine wpStill_nil ?_
    change wpList _ _ _ _ _ W.drew
    go_wp2
    exact at_round hc hf hcb hB (by rw [List.map_append]; show _ = atSum cs (pre.map (·.1) ++ [(j, q)]); rw [atSum_snoc, HA.out]; simp only [HY.out, Option.getD_some])
  case done =>
    rintro D ys W hD hys ⟨⟨hc, _, _⟩, hB⟩ hK
    rw [hys] at hc
    have hfin := atSum_comes hI hM.2 r (by rw [HL.out]; omega)
    rw [HL.out, Nat.sub_self, List.drop_zero, List.drop_zero] at hfin
    rw [hfin] at hc
    clear hfin hys
    gi_wp2
    refine ⟨by simp, .inl ⟨_, _, rfl, run_takeDeferred hK, ?_⟩⟩
    exact ⟨_, results_tmp2 rfl _ _ _, rfl, hB.trans (belowK_b (w := w) (Nat.le_refl _) W D _ _ (by simp at hD; omega) hK rfl rfl)⟩
  case stop =>
    rintro D c pre W _ _ h _
    exact h.elim

set_option maxRecDepth 100000 in
theorem at_any (A A2 : Option Addr) (r r2 c c2 : Nat) (xs cs : List Int) (w : World) (h : Ints w w.heap.size A r xs) (h2 : Ints w w.heap.size A2 r2 cs) (hr : r ≤ 9223372036854775807) (hr2 : r2 ≤ 9223372036854775807) :
    Calls Try.prog 52 #[.slice A r c, .slice A2 r2 c2] w fun e w' => e = .returned (.tuple #[.int .i64 (atF xs cs).1, .int .i64 (atF xs cs).2]) ∧ Below w.heap.size w w' := by
  have HC := fun W (hW : Ints W w.heap.size A r xs) => cells_any A r c xs W w.heap.size hW hr
  have hB1 : ∀ o, Below w.heap.size w (w.alloc o) := fun o => (Below.refl _ w).alloc (Nat.le_refl _) _
  by_cases hcf : (cellsF xs).2 = 0
  · by_cases hin : insideF xs cs = true
    · have HF : atF xs cs = (numR xs cs, 0) := by unfold atF; rw [if_pos hcf, if_pos hin]
      rw [HF]
      exact callsIn_wide.1 (at_in 3 (Nat.le_refl _) A A2 r r2 c c2 xs cs w h h2 hr hr2 hcf hin)
    · have hin' : insideF xs cs = false := by simpa using hin
      have h5 : r ≤ 100000 := by have := (cellsF_ok hcf).1; have := h.1; omega
      have HF : Hid (atF xs cs = (0, 3)) := by unfold Hid atF; rw [if_pos hcf, if_neg hin]
      have HI := fun W (hW : Ints W w.heap.size A r xs) (hW2 : Ints W w.heap.size A2 r2 cs) => inside_any A A2 r r2 c c2 xs cs W w.heap.size hW hW2 h5 hr2
      obtain ⟨N, hN⟩ : ∃ N, (cellsF xs).1 = N := ⟨_, rfl⟩
      rw [hcf, hN] at HC
      rw [hin'] at HI
      clear hcf hN hin hin'
      go_enter Try.func52, Try.ntmps52
      go_wp2_with (first | (go_at_call 51; refine (HC _ (h.alloc (Nat.le_refl _) _)).mono ?_; rintro e w' ⟨rfl, rfl⟩) | (go_at_call 78; refine (HI _ (h.alloc (Nat.le_refl _) _) (h2.alloc (Nat.le_refl _) _)).mono ?_; rintro e w' ⟨rfl, rfl⟩))
      go_ret2
      exact ⟨by rw [HF.out]; rfl, hB1 _⟩
  · have HF : Hid (atF xs cs = (0, (cellsF xs).2)) := by unfold Hid atF; rw [if_neg hcf]
    obtain ⟨N, hN⟩ : ∃ N, (cellsF xs).1 = N := ⟨_, rfl⟩
    obtain ⟨E, hE⟩ : ∃ E, (cellsF xs).2 = E := ⟨_, rfl⟩
    rw [hN, hE] at HC
    rw [hE] at hcf HF
    have he1 : (E == 0) = false := by simpa using hcf
    have he2 : (E != 0) = true := by simpa using hcf
    clear hN hE hcf
    go_enter Try.func52, Try.ntmps52
    go_wp2_with (go_at_call 51; refine (HC _ (h.alloc (Nat.le_refl _) _)).mono ?_; rintro e w' ⟨rfl, rfl⟩)
    go_ret2
    exact ⟨by rw [HF.out]; rfl, hB1 _⟩
end Go.Proofs.Ytpfabbapfmfmmaa
/- More plain arithmetic: the place of a number; slices of a call's own. -/
namespace Go.Proofs.Ytpfabbapfmfmmaa
open Go.RowKit

theorem placeR_length (xs : List Int) (n : Int) : (placeR xs n).length = xs.length := by
  induction xs with
  | nil => rfl
  | cons s l ih => simp [placeR, ih]
theorem placeR_at {xs : List Int} {n : Int} {k : Nat} {x : Int} (hx : xs[k]? = some x) : (placeR xs n)[k]? = some (n / prodI (xs.drop (k + 1)) % x) := by
  induction xs generalizing k with
  | nil => simp at hx
  | cons s l ih => cases k with
    | zero => simp at hx; subst hx; simp [placeR]
    | succ k => simpa [placeR] using ih (by simpa using hx)
theorem placeR_fits {xs : List Int} (hp : ∀ x ∈ xs, 1 ≤ x) (hM : ∀ x ∈ xs, x ≤ 9223372036854775807) (v : Int) : ∀ x ∈ placeR xs v, -9223372036854775808 ≤ x ∧ x ≤ 9223372036854775807 := by
  induction xs with
  | nil => simp [placeR]
  | cons s l ih =>
    have hs := hp s (by simp)
    have hs2 := hM s (by simp)
    have h1 := Int.emod_nonneg (v / prodI l) (b := s) (by omega)
    have h2 := Int.emod_lt_of_pos (v / prodI l) (b := s) (by omega)
    intro x hx
    simp only [placeR, List.mem_cons] at hx
    rcases hx with rfl | hx
    · omega
    · exact ih (fun x hx => hp x (by simp [hx])) (fun x hx => hM x (by simp [hx])) x hx
theorem cellsF_nz {xs : List Int} (h : (cellsF xs).2 = 0) (hn : (cellsF xs).1 ≠ 0) : ∀ x ∈ xs, 1 ≤ x := by
  have h0 := (cellsF_ok h).2
  intro x hx
  have := h0 x hx
  by_cases hz : x = 0
  · exfalso
    subst hz
    have hz : (xs.any fun s => s == 0) = true := by rw [List.any_eq_true]; exact ⟨0, hx, rfl⟩
    apply hn
    unfold cellsF at h ⊢
    split at h
    · simp at h
    · rename_i hh; rw [if_neg hh, if_pos hz]
  · omega
theorem back_set {p : List Int} {r k : Nat} {v : Int} (hk : k < r) (hv : p[r - 1 - k]? = some v) :
    (List.replicate (r - k) 0 ++ p.drop (r - k)).set (r - 1 - k) v = List.replicate (r - (k + 1)) 0 ++ p.drop (r - (k + 1)) := by
  have e : r - (k + 1) = r - 1 - k := by omega
  rw [e, drop_of hv]
  have e2 : r - 1 - k + 1 = r - k := by omega
  rw [e2]
  have e3 : List.replicate (r - k) (0 : Int) = List.replicate (r - 1 - k) 0 ++ [0] := by rw [← e2, List.replicate_succ']
  rw [e3, List.append_assoc, List.set_append_right _ _ (by simp)]
  simp
/-- the place is a place, and its number is n -/
theorem placeR_inn {xs : List Int} (hp : ∀ x ∈ xs, 1 ≤ x) (n : Int) : Inn xs (placeR xs n) := by
  induction xs with
  | nil => trivial
  | cons s l ih =>
    have hs := hp s (by simp)
    exact ⟨Int.emod_nonneg _ (by omega), Int.emod_lt_of_pos _ (by omega), ih (fun x hx => hp x (by simp [hx]))⟩
theorem numR_placeR {xs : List Int} (hp : ∀ x ∈ xs, 1 ≤ x) (n : Int) : numR xs (placeR xs n) = n % prodI xs := by
  induction xs with
  | nil => simp [numR, prodI, Int.emod_one]
  | cons s l ih =>
    have hl : ∀ x ∈ l, 1 ≤ x := fun x hx => hp x (by simp [hx])
    have h1 := prodI_pos hl
    simp only [placeR, numR, prodI]
    rw [ih hl]
    have e : n / prodI l % s * prodI l = prodI l * (n / prodI l % s) := Int.mul_comm _ _
    have h2 := Int.emod_add_mul_ediv n (prodI l)
    have h3 := Int.emod_add_mul_ediv (n / prodI l) s
    have h4 := Int.emod_add_mul_ediv n (s * prodI l)
    have h5 : n / (s * prodI l) = n / prodI l / s := by rw [Int.mul_comm, Int.ediv_ediv_of_nonneg (by omega)]
    rw [h5] at h4
    have h6 : prodI l * (n / prodI l) = prodI l * (n / prodI l % s) + prodI l * (s * (n / prodI l / s)) := by rw [← Int.mul_add, h3]
    have h7 : prodI l * (s * (n / prodI l / s)) = s * prodI l * (n / prodI l / s) := by rw [← Int.mul_assoc, Int.mul_comm (prodI l) s]
    omega

/-- a slice of the call's own, of 64-bit integers of type e -/
def OwnI (w : World) (base : Nat) (e : TypeId) (A : Option Addr) (c : Nat) (xs : List Int) : Prop :=
  w.ownsRow base e 1 (.slice A xs.length c) xs.length (xs.map (Value.int .i64)) ∧ ∀ x ∈ xs, -9223372036854775808 ≤ x ∧ x ≤ 9223372036854775807
theorem OwnI.ints {w : World} {base : Nat} {e : TypeId} {A : Option Addr} {c : Nat} {xs : List Int} (h : OwnI w base e A c xs) : Ints w w.heap.size A xs.length xs := Ints.of_own h.1 h.2
theorem OwnI.nil_ (w : World) (base : Nat) (e : TypeId) : OwnI w base e none 0 [] := ⟨w.ownsRow_nil base e 1, by simp⟩
theorem OwnI.below {w w' : World} {base B : Nat} {e : TypeId} {A : Option Addr} {c : Nat} {xs : List Int} (h : OwnI w base e A c xs) (hb : Below B w w') (hB : w.heap.size ≤ B) : OwnI w' base e A c xs :=
  ⟨h.1.kept ⟨hb.os, hb.tape, hb.output, hb.size, fun i hi _ => hb.block i (by omega)⟩ (row := none) (by cases hh : (Value.slice A xs.length c).ownBlock with | none => exact .inl rfl | some k => exact .inr (by simp)), h.2⟩
theorem OwnI.mono {w : World} {base base' : Nat} {e : TypeId} {A : Option Addr} {c : Nat} {xs : List Int} (h : OwnI w base e A c xs) (hb : base' ≤ base) : OwnI w base' e A c xs := by
  refine ⟨⟨h.1.1, ?_⟩, h.2⟩
  rcases h.1.2 with hh | ⟨g, cap, cur, h1, h2, h3⟩
  · exact .inl hh
  · exact .inr ⟨g, cap, cur, h1, by omega, h3⟩
/-- the document's Coord, whole -/
def coordF (xs : List Int) (n : Int) : List Int × Int := if (cellsF xs).2 = 0 then if 0 ≤ n ∧ n < (cellsF xs).1 then (placeR xs n, 0) else ([], 3) else ([], (cellsF xs).2)
end Go.Proofs.Ytpfabbapfmfmmaa
/- The contracts of the document's place and Coord. -/
namespace Go.Proofs.Ytpfabbapfmfmmaa
open Go.RowKit

set_option maxRecDepth 100000 in
theorem infoInt : (Try.prog.info? 3).map (fun i => (i.zero, i.size, i.bytes)) = some (some (.int .i64 0), 1, 8) := by kernel_rfl
set_option maxRecDepth 100000 in
theorem infoInt64 : (Try.prog.info? 2).map (fun i => (i.zero, i.size, i.bytes)) = some (some (.int .i64 0), 1, 8) := by kernel_rfl

set_option maxRecDepth 100000 in
theorem place_any (A : Option Addr) (n c : Nat) (xs : List Int) (v : Int) (w : World) (h : Ints w w.heap.size A n xs) (hn : n ≤ 100000) (hp : ∀ x ∈ xs, 1 ≤ x) (hv : 0 ≤ v) (hv2 : v ≤ 9223372036854775807) :
    Calls Try.prog 83 #[.slice A n c, .int .i64 v] w fun e w' => ∃ A' c', e = .returned (.slice A' n c') ∧ OwnI w' w.heap.size 3 A' c' (placeR xs v) ∧ Below w.heap.size w w' := by
  have HL : Hid (xs.length = n) := h.1
  have hpb : ∀ x ∈ placeR xs v, -9223372036854775808 ≤ x ∧ x ≤ 9223372036854775807 := by
    intro x hx
    obtain ⟨k, hk, rfl⟩ := List.getElem_of_mem hx
    have hk' : k < xs.length := by rw [← placeR_length xs v]; exact hk
    have h1 := placeR_at (n := v) (List.getElem?_eq_getElem hk')
    rw [List.getElem?_eq_getElem hk] at h1
    injection h1 with h1
    rw [h1]
    have h2 := hp _ (List.getElem_mem hk')
    have h3 := h.2.1 _ (List.getElem_mem hk')
    have h4 := Int.emod_nonneg (v / prodI (xs.drop (k + 1))) (b := xs[k]) (by omega)
    have h5 := Int.emod_lt_of_pos (v / prodI (xs.drop (k + 1))) (b := xs[k]) (by omega)
    omega
  obtain ⟨i0, hi0, hz0, hz1, hz2⟩ := info_parts infoInt
  go_enter Try.func83, Try.ntmps83
  go_wp2_with (at_make; refine wpList_make_full _ rfl (.tmp 8) (.tmp 8) 22 rfl w.heap.size 3 i0 _ 1 Try.underlying22 hi0 hz0 hz1 _ _ _ _ n rfl rfl rfl rfl (by rw [hz2]; omega) (by unfold maxLen; omega) (Nat.le_refl _) ?_; intro w1 hown hg)
  have hB : Below w.heap.size w w1 := (Below.refl _ _).grown hg (Nat.le_refl _) (fun k e => by cases e)
  have HO : Hid (w1.ownsRow w.heap.size 3 1 (.slice (some ⟨w.heap.size, 0, none⟩) n n) n ((List.replicate (n - 0) 0 ++ (placeR xs v).drop (n - 0)).map (Value.int .i64))) := by
    unfold Hid
    rw [List.drop_of_length_le (by rw [placeR_length, HL.out]; omega), List.append_nil, List.map_replicate, Nat.sub_zero]
    simpa [Value.cells, toList_madeCells_one] using hown
  clear hown hg
  go_loopw [1, 6] (fun m i wr => ∃ (k : Nat) (j q : Int), k ≤ n ∧ j = (n : Int) - 1 - k ∧ i = .int .i64 j ∧ m = .int .i64 q ∧ 0 ≤ q ∧ q ≤ 9223372036854775807 ∧ Hid (q = v / prodI (xs.drop (n - k))) ∧
      Hid (wr.ownsRow w.heap.size 3 1 (.slice (some ⟨w.heap.size, 0, none⟩) n n) n ((List.replicate (n - k) 0 ++ (placeR xs v).drop (n - k)).map (Value.int .i64))) ∧ Below w.heap.size w wr)
    (fun _ i _ => (intOf i + 1).toNat)
  case atStart => exact ⟨0, (n : Int) - 1, v, Nat.zero_le _, by omega, rfl, rfl, hv, hv2, by unfold Hid; rw [List.drop_of_length_le (by rw [HL.out]; omega)]; simp [prodI], HO, hB⟩
  case round =>
    obtain ⟨k, j, q, hk, hj, rfl, rfl, hq0, hq1, HQ, HO, hB⟩ := hrel
    by_cases hlt : k < n
    · have h' := h.below hB
      obtain ⟨b, off, x, rfl, hbb, HX, hc, hx1, hx2⟩ := h'.at_ (k := n - 1 - k) (by omega)
      have hx0 : 1 ≤ x := hp x (List.mem_of_getElem? HX.out)
      have hj0 : 0 ≤ j := by omega
      have hj1 : j < n := by omega
      have HE : Hid (j.toNat = n - 1 - k) := by unfold Hid; omega
      have hcj : wr.cell? ⟨b, off + j.toNat, none⟩ = some (.int .i64 x) := by rw [HE.out]; exact hc
      have hlen : j.toNat < n := by omega
      obtain ⟨u, hu⟩ : ∃ u, ((List.replicate (n - k) 0 ++ (placeR xs v).drop (n - k)).map (Value.int .i64))[j.toNat]? = some u := by
        refine ⟨_, List.getElem?_eq_getElem ?_⟩
        have := HO.out.1; omega
      have hcell : wr.cell? ⟨w.heap.size, j.toNat, none⟩ = some u := (HO.out.cellAt j.toNat (by omega)).trans hu
      have hfr := HO.out.frozenAt j.toNat
      have hother : (wr.setCell ⟨w.heap.size, j.toNat, none⟩ (.int .i64 (q % x))).cell? ⟨b, off + j.toNat, none⟩ = some (.int .i64 x) :=
        (World.cell?_setCell_other wr _ ⟨b, off + j.toNat, none⟩ _ (fun e => by injection e with e _; omega)).trans hcj
      have hst := (HO.out.stored j.toNat (.int .i64 (q % x))).1
      have e1 : n - 1 - k + 1 = n - k := by omega
      have HS : Hid ((wr.setCell ⟨w.heap.size, j.toNat, none⟩ (.int .i64 (q % x))).ownsRow w.heap.size 3 1 (.slice (some ⟨w.heap.size, 0, none⟩) n n) n ((List.replicate (n - (k + 1)) 0 ++ (placeR xs v).drop (n - (k + 1))).map (Value.int .i64))) := by
        unfold Hid
        rw [← back_set (v := q % x) hlt (by rw [placeR_at HX.out, e1, HQ.out]), List.map_set, ← HE.out]
        exact hst
      have HQ' : Hid (q / x = v / prodI (xs.drop (n - (k + 1)))) := by
        unfold Hid
        have e : n - (k + 1) = n - 1 - k := by omega
        rw [e, prodI_drop HX.out, e1, HQ.out, Int.ediv_ediv_of_nonneg (by have := prodI_pos (xs := xs.drop (n - k)) (fun y hy => hp y (List.mem_of_mem_drop hy)); omega), Int.mul_comm]
      have hq2 : 0 ≤ q / x := Int.ediv_nonneg hq0 (by omega)
      have hq3 : q / x ≤ q := Int.ediv_le_self _ hq0
      have hB' := hB.setCell (p := ⟨w.heap.size, j.toNat, none⟩) (Nat.le_refl _) (.int .i64 (q % x))
      have HJ := Lib.hid hj
      clear hst hu e1 hj HO hc h h' HQ
      go_wp2
      go_roundw
      case rel => exact ⟨k + 1, j - 1, q / x, by omega, by have := HJ.out; omega, rfl, rfl, hq2, by omega, HQ', HS, hB'⟩
      case measure => simp [intOf]; omega
    · have hk' : k = n := by omega
      have hj1 : j < 0 := by omega
      have HF : Hid (OwnI wr w.heap.size 3 (some ⟨w.heap.size, 0, none⟩) n (placeR xs v)) := by
        have := HO.out
        rw [hk', Nat.sub_self, List.drop_zero] at this
        exact ⟨by rw [placeR_length, HL.out]; simpa using this, hpb⟩
      clear hk' HO hj
      go_wp2
      go_ret
      exact ⟨_, _, rfl, HF.out, hB⟩

set_option maxRecDepth 100000 in
theorem refCoord_any (A : Option Addr) (n c : Nat) (xs : List Int) (v : Int) (w : World) (h : Ints w w.heap.size A n xs) (hn : n ≤ 9223372036854775807) (hv1 : -9223372036854775808 ≤ v) (hv2 : v ≤ 9223372036854775807) :
    Calls Try.prog 64 #[.slice A n c, .int .i64 v] w fun e w' => ∃ A' c', e = .returned (.tuple #[.slice A' (coordF xs v).1.length c', .int .i64 (coordF xs v).2]) ∧ OwnI w' w.heap.size 3 A' c' (coordF xs v).1 ∧ Below w.heap.size w w' := by
  have HC := refCells_any A n c xs w w.heap.size h hn
  by_cases hcf : (cellsF xs).2 = 0
  · have h5 : n ≤ 100000 := by have := (cellsF_ok hcf).1; have := h.1; omega
    obtain ⟨N, hN⟩ : ∃ N, (cellsF xs).1 = N := ⟨_, rfl⟩
    by_cases hv : 0 ≤ v ∧ v < N
    · have HP := place_any A n c xs v w h h5 (cellsF_nz hcf (by rw [hN]; omega)) hv.1 hv2
      have HF : Hid (coordF xs v = (placeR xs v, 0)) := by unfold Hid coordF; rw [if_pos hcf, hN, if_pos hv]
      have HL : Hid ((placeR xs v).length = n) := by unfold Hid; rw [placeR_length]; exact h.1
      rw [hcf, hN] at HC
      have hv3 := hv.1
      have hv4 := hv.2
      clear hcf hN hv
      go_enter Try.func64, Try.ntmps64
      go_wp2_with (first | (go_at_call 53; refine HC.mono ?_; rintro e w' ⟨rfl, rfl⟩) | (go_at_call 83; refine HP.mono ?_; rintro e w' ⟨A', c', rfl, ho, hb⟩; have HO := Lib.hid ho; clear ho))
      go_ret2
      exact ⟨A', c', by rw [HF.out]; dsimp only; rw [HL.out]; rfl, by rw [HF.out]; exact HO.out, hb⟩
    · have HF : Hid (coordF xs v = ([], 3)) := by unfold Hid coordF; rw [if_pos hcf, hN, if_neg hv]
      rw [hcf, hN] at HC
      clear hcf hN
      by_cases hv0 : v < 0
      · clear hv
        go_enter Try.func64, Try.ntmps64
        go_wp2_with (go_at_call 53; refine HC.mono ?_; rintro e w' ⟨rfl, rfl⟩)
        go_ret2
        exact ⟨none, 0, by rw [HF.out]; rfl, by rw [HF.out]; exact OwnI.nil_ _ _ _, Below.refl _ _⟩
      · have hv3 : N ≤ v := by omega
        clear hv
        go_enter Try.func64, Try.ntmps64
        go_wp2_with (go_at_call 53; refine HC.mono ?_; rintro e w' ⟨rfl, rfl⟩)
        go_ret2
        exact ⟨none, 0, by rw [HF.out]; rfl, by rw [HF.out]; exact OwnI.nil_ _ _ _, Below.refl _ _⟩
  · have HF : Hid (coordF xs v = ([], (cellsF xs).2)) := by unfold Hid coordF; rw [if_neg hcf]
    obtain ⟨N, hN⟩ : ∃ N, (cellsF xs).1 = N := ⟨_, rfl⟩
    obtain ⟨E, hE⟩ : ∃ E, (cellsF xs).2 = E := ⟨_, rfl⟩
    rw [hN, hE] at HC
    rw [hE] at hcf HF
    have he1 : (E == 0) = false := by simpa using hcf
    have he2 : (E != 0) = true := by simpa using hcf
    clear hN hE hcf
    go_enter Try.func64, Try.ntmps64
    go_wp2_with (go_at_call 53; refine HC.mono ?_; rintro e w' ⟨rfl, rfl⟩)
    go_ret2
    exact ⟨none, 0, by rw [HF.out]; rfl, by rw [HF.out]; exact OwnI.nil_ _ _ _, Below.refl _ _⟩
end Go.Proofs.Ytpfabbapfmfmmaa
