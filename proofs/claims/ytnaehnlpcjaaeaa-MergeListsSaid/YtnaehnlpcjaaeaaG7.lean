/- merge.Walk. -/
import Derived.Test.YtnaehnlpcjaaeaaG6
import Derived.Test.YtnaehnlpcjaaeaaG4
namespace Go.Proofs.Ytnaehnlpcjaaeaa
open Go.RowKit

/-- the stops so far: of the call's own, and so are their places -/
structure StopsW (w : World) (base ln : Nat) (LL : List (List Int)) (A H : Option Addr) (ch : Nat) (ss : List St) : Prop where
  rows : OwnS w base H ch ss
  ins : ∀ s ∈ ss, OwnI w base 3 s.A s.c s.ins ∧ Apart s.A A ∧ s.n = ln ∧ s.ins = LL.map (fun L => placeI L s.at_) ∧ -9223372036854775808 ≤ s.at_ ∧ s.at_ ≤ 9223372036854775807
section
variable {w w' w4 : World} {base ln : Nat} {LL : List (List Int)} {A A' H H4 : Option Addr} {ch : Nat} {ss : List St}
theorem StopsW.start (w : World) (base ln : Nat) (LL : List (List Int)) (A : Option Addr) : StopsW w base ln LL A none 0 [] := ⟨OwnS.nil_ _ _, fun s hs => by cases hs⟩
theorem StopsW.pass {q g b c : Nat} {ns : List Int} (h : StopsW w base ln LL A H ch ss) (hQ : FarQ w w' q g b A A') (hO : OwnI w b 3 A c ns) (hg : g < base) (hq : q < base) : StopsW w' base ln LL A' H ch ss := by
  refine ⟨h.rows.same fun b' hb => ?_, fun s hs => ?_⟩
  · have := (show OwnS w base (some ⟨b', 0, none⟩) ch ss from hb ▸ h.rows).lt
    exact hQ.mid b' this.2 (by omega) (by omega) (fun e => h.rows.apart hO b' e hb)
  · obtain ⟨h1, h2, h3⟩ := h.ins s hs
    have := hQ.own hg hq h1 h2
    exact ⟨this.1, this.2, h3⟩
theorem StopsW.below {B : Nat} (h : StopsW w base ln LL A H ch ss) (hb : Below B w w') (hB : w.heap.size ≤ B) : StopsW w' base ln LL A H ch ss :=
  ⟨h.rows.below hb hB, fun s hs => ⟨(h.ins s hs).1.below hb hB, (h.ins s hs).2⟩⟩
theorem StopsW.app {p c4 : Nat} {y : St} (h : StopsW w base ln LL A H ch ss) (hO : OwnS w4 base H4 c4 (ss ++ [y])) (hg : w.grownBy w4 (Value.slice H p ch).ownBlock)
    (hy : OwnI w base 3 y.A y.c y.ins ∧ Apart y.A A ∧ y.n = ln ∧ y.ins = LL.map (fun L => placeI L y.at_) ∧ -9223372036854775808 ≤ y.at_ ∧ y.at_ ≤ 9223372036854775807) : StopsW w4 base ln LL A H4 c4 (ss ++ [y]) := by
  refine ⟨hO, fun s hs => ?_⟩
  have key : OwnI w base 3 s.A s.c s.ins ∧ Apart s.A A ∧ s.n = ln ∧ s.ins = LL.map (fun L => placeI L s.at_) ∧ -9223372036854775808 ≤ s.at_ ∧ s.at_ ≤ 9223372036854775807 := by
    rcases List.mem_append.1 hs with hs | hs
    · exact h.ins s hs
    · rw [List.mem_singleton.1 hs]; exact hy
  exact ⟨key.1.keptS h.rows hg, key.2⟩
end
theorem HeadsF.below {B ln lc c Z : Nat} {LA A : Option Addr} {LL : List (List Int)} {nx ns : List Int} {w w' : World} (h : HeadsF B ln lc LA LL w nx ns A c) (hb : Below Z w w') (hZ : w.heap.size ≤ Z) : HeadsF B ln lc LA LL w' nx ns A c := by
  have hlt : ∀ b, A = some ⟨b, 0, none⟩ → b < w.heap.size := fun b hb => (show OwnI w (B + 2) 3 (some ⟨b, 0, none⟩) c ns from hb ▸ h.heap.own).ltL.2
  have hs := h.heap.sz
  exact ⟨h.heap.keep (hb.block _ (by omega)) (fun b hbb => hb.block b (by have := hlt b hbb; omega)) hb.size, h.heads.same hb (by omega), h.live, h.order, h.nonneg⟩
theorem HeadsF.keptS {B ln lc c ch p : Nat} {LA A H : Option Addr} {LL : List (List Int)} {nx ns : List Int} {ss : List St} {w w' : World} (h : HeadsF B ln lc LA LL w nx ns A c) (hS : OwnS w (B + 2) H ch ss) (hg : w.grownBy w' (Value.slice H p ch).ownBlock) : HeadsF B ln lc LA LL w' nx ns A c := by
  have hs := h.heap.sz
  have hbl := below_appS (Below.refl (B + 2) w) hg hS hs
  refine ⟨h.heap.keep (hbl.block _ (by omega)) (fun b hb => ?_) hbl.size, h.heads.same hbl (by omega), h.live, h.order, h.nonneg⟩
  refine hg.block b (show OwnI w (B + 2) 3 (some ⟨b, 0, none⟩) c ns from hb ▸ h.heap.own).ltL.2 ?_
  have hne := hS.apart h.heap.own b hb
  rcases hS.heap with h1 | ⟨g, cur, h1, _⟩
  · rw [h1]; intro e; cases e
  · rw [h1] at hne ⊢
    intro e
    simp only [Value.ownBlock, Option.some.injEq] at e
    exact hne (by rw [e])
theorem repeat_at (v : Int) (n B c1 : Nat) (b : Nat) (off Z : Nat) (w : World) (hZ : w.heap.size = Z) (h : Ints w B (some ⟨b, off, none⟩) 1 [v]) (hB : B ≤ w.heap.size) (hn0 : 0 < n) (hn : n ≤ 1000) :
    Calls Try.prog 30 #[.slice (some ⟨b, off, none⟩) 1 c1, .int .i64 n] w fun e w' => e = .returned (.slice (some ⟨Z, 0, none⟩) n n) ∧ OwnI w' Z 3 (some ⟨Z, 0, none⟩) n (List.replicate n v) ∧ Below Z w w' := by
  subst hZ
  exact repeat_one v n B c1 b off w h hB hn0 hn
/-- what a walk tells -/
structure WalkI (LL : List (List Int)) (ln : Nat) (ss : List St) : Prop where
  union : UnionI LL (ss.map (·.at_))
  ins : ∀ s ∈ ss, s.n = ln ∧ s.ins = LL.map (fun L => placeI L s.at_)
set_option maxRecDepth 100000 in
set_option maxHeartbeats 8000000 in
theorem walk_ok (LA : Option Addr) (ln lc : Nat) (LL : List (List Int)) (w : World) (h : IntsLL w w.heap.size LA ln LL) (hln : ln ≤ 1000) (hT : LL.flatten.length ≤ 100000) (hR : AllRise LL) :
    Calls Try.prog 17 #[.slice LA ln lc] w fun e w' => ∃ ss A r c, e = .returned (.tuple #[.slice A r c, .int .i64 0]) ∧ ss.length = r ∧ r ≤ c ∧ WalkI LL ln ss ∧ Stops w' w'.heap.size A r ss ∧ Below w.heap.size w w' := by
  have hL : ∀ L ∈ LL, L.length ≤ 9223372036854775806 := fun L hL => by
    have : L.length ≤ LL.flatten.length := (List.sublist_flatten_of_mem hL).length_le
    omega
  have cO := open_go LA ln lc LL w h hL hln hR
  have HLL : Hid (LL.length = ln) := h.1
  have HL := Lib.hid hL
  have HR := Lib.hid hR
  obtain ⟨T, hT2⟩ : ∃ T, LL.flatten.length = T := ⟨_, rfl⟩
  rw [hT2] at hT
  have HT := Lib.hid hT2
  clear h hL hR hT2
  go_enter Try.func17, Try.ntmps17
  go_wp2_with (go_at_call 25; refine cO.mono ?_; rintro e w1 ⟨rfl, nx0, ns0, A0, c0, hF0, hI0, hB0, _⟩; have HF0 := Lib.hid hF0; have HI0 := Lib.hid hI0; have HB0 := Lib.hid hB0; clear hF0 hI0 hB0)
  go_loopw [6] (fun v wr => ∃ (ss : List St) (r : Nat) (H : Option Addr) (ch : Nat) (nx ns : List Int) (A : Option Addr) (c : Nat), v = .slice H r ch ∧ Hid (ss.length = r) ∧ Hid (HeadsF w.heap.size ln lc LA LL wr nx ns A c) ∧ Hid (MergeI LL nx ln (ss.map (·.at_))) ∧ Hid (StopsW wr (w.heap.size + 2) ln LL A H ch ss) ∧ Hid (Below w.heap.size w wr)) (fun v _ => T - sliceLen v)
  case atStart => exact ⟨[], 0, none, 0, nx0, ns0, A0, c0, rfl, rfl, HF0, HI0, StopsW.start _ _ _ _ _, HB0⟩
  case round =>
    obtain ⟨ss, r, H, ch, nx, ns, A, c, rfl, HRL, HF, HI, HS, HB⟩ := hrel
    have dcl := HF.out.heap.cell
    obtain ⟨N, hN⟩ : ∃ N, ns.length = N := ⟨_, rfl⟩
    rw [hN] at dcl
    by_cases hlt : 0 < N
    · have y1 : (0 : Int) < (N : Int) := by omega
      have hln0 : 0 < ln := by have := HF.out.live.le; omega
      have cP := pass_go w.heap.size (w.heap.size + 1) (w.heap.size + 2) ln ln lc ln LA A c ns LL nx wr HF.out (by omega) HR.out HL.out hln
      obtain ⟨wo, hwo⟩ : ∃ wo : World, wo = wr := ⟨_, rfl⟩
      rw [← hwo] at cP HF HS HB dcl ⊢
      clear hN hwo
      go_wp2_with (first | (go_at_call 26; refine (numLen _ _ _ _).mono ?_; rintro e w2 ⟨rfl, rfl⟩) | (go_at_call 27; refine cP.mono ?_; rintro e w3 ⟨at_, Hh, hs, chh, nx', ms, A', c', rfl, hF3, hS3, hOh, hAh, hQ3, ha1, ha2⟩; have HS3 := Lib.hid (HS.out.pass hQ3 HF.out.heap.own (by omega) (by omega)); have HI4 := Lib.hid (HI.out.next hS3 HR.out HLL.out HF.out.nonneg); have HB3 := Lib.hid (HB.out.trans (hQ3.below (Nat.le_refl _) (by omega) (by omega))); have HIN := Lib.hid (hS3.ins HI.out HR.out HLL.out HF.out.nonneg); have HPS := Lib.hid hS3; have HF3 : Hid (HeadsF w.heap.size ln lc LA LL w3 nx' ms A' c') := hF3; have HOH := Lib.hid hOh.ints; have HAT := Lib.hid (And.intro ha1 ha2); have HZ3 := Lib.hid (show w.heap.size + 2 ≤ w3.heap.size from hF3.heap.sz); clear hF3 hS3 hOh hAh hQ3; obtain ⟨M, hM⟩ : ∃ M, hs.length = M := ⟨_, rfl⟩; rw [hM] at HOH; rw [hM]) | (go_at_call 30; refine (repeat_at (-1) ln (w3.heap.size + 1) 1 w3.heap.size 0 (w3.heap.size + 1) _ (World.size_alloc _ _) (src_new w3 (by decide)) (by simp) hln0 hln).mono ?_; rintro e w5 ⟨rfl, hO5, hB5⟩))
      have HO5 : Hid (OwnI w5 (w3.heap.size + 1) 3 (some ⟨w3.heap.size + 1, 0, none⟩) ln (insAt nx ln (hs.take 0))) := by
        unfold Hid
        rw [List.take_zero, insAt_nil]
        exact hO5
      have HB5 := Lib.hid hB5
      clear hO5 hB5
      have hML : M ≤ ln := by have h1 := HPS.out.step.le; have h2 := HOH.out.1; omega
      go_loopw [37] (fun v wr => ∃ k : Nat, v = .int .i64 (k : Int) ∧ k ≤ M ∧ Hid (OwnI wr (w3.heap.size + 1) 3 (some ⟨w3.heap.size + 1, 0, none⟩) ln (insAt nx ln (hs.take k))) ∧ Hid (Below (w3.heap.size + 1) (w3.alloc (.cells #[.int .i64 (-1)] 3)) wr)) (fun v _ => M - (intOf v).toNat)
      case atStart => exact ⟨0, rfl, Nat.zero_le _, HO5, HB5⟩
      case round =>
        obtain ⟨k, rfl, hk, HOI, HBI⟩ := hrel
        have HB6 := Lib.hid (((Below.refl w3.heap.size w3).alloc (Nat.le_refl _) (.cells #[.int .i64 (-1)] 3)).trans (HBI.out.mono (Nat.le_succ _)))
        have HF6 := Lib.hid (HF3.out.below HB6.out (Nat.le_refl _))
        by_cases hkm : k < M
        · obtain ⟨b, off, x, rfl, _, HX, hcx, _, _⟩ := (HOH.out.below HB6.out).at_ hkm
          obtain ⟨n, hxn, hnl, hnn⟩ := HPS.out.nx_lt (List.mem_of_getElem? HX.out)
          rw [hxn] at hcx
          have r2 := HF6.out.heap.restAt (k := 1) (v := .slice (some ⟨w.heap.size, 0, none⟩) ln ln) rfl
          have hnx : nx'[n]? = some (nxN nx' n) := by
            have hl := HF6.out.heads.len
            unfold nxN
            rw [List.getD_eq_getElem?_getD, List.getElem?_eq_getElem (by omega)]
            rfl
          obtain ⟨nxc, _⟩ := HF6.out.heads.next.cell_ hnx
          have hpb := HF6.out.heads.next.2 _ (List.mem_of_getElem? hnx)
          have hv0 := HF.out.nonneg n hnl
          obtain ⟨v1, hv1⟩ : ∃ v1, nxN nx n = v1 := ⟨_, rfl⟩
          obtain ⟨p1, hp1⟩ : ∃ p1, nxN nx' n = p1 := ⟨_, rfl⟩
          rw [hp1] at nxc hpb hnn
          rw [hv1] at hv0 hnn
          have wp : IntKind.i64.wrap (p1 - 1) = v1 := by
            rw [wrap_eq, IntWalk.wrap64_in _ ⟨by omega, by omega⟩]; omega
          have hnin : n < (insAt nx ln (hs.take k)).length := by rw [insAt_length]; exact hnl
          obtain ⟨z0, hz0⟩ : ∃ z0, (insAt nx ln (hs.take k))[n]? = some z0 := ⟨_, List.getElem?_eq_getElem hnin⟩
          obtain ⟨oc, ofz⟩ := HOI.out.cell_ hz0
          have HON : Hid (OwnI (wr.setCell ⟨w3.heap.size + 1, n, none⟩ (.int .i64 v1)) (w3.heap.size + 1) 3 (some ⟨w3.heap.size + 1, 0, none⟩) ln (insAt nx ln (hs.take (k + 1)))) := by
            unfold Hid
            rw [take_succ_of HX.out, hxn, insAt_next, hv1]
            exact HOI.out.set_ n v1 ⟨by omega, by omega⟩
          have HBN := Lib.hid (HBI.out.setCell (p := ⟨w3.heap.size + 1, n, none⟩) (Nat.le_refl _) (.int .i64 v1))
          have k0 : (0 : Int) ≤ (k : Int) := by omega
          have k1 : (k : Int) < (M : Int) := by omega
          have n0 : (0 : Int) ≤ (n : Int) := by omega
          have n1 : (n : Int) < (ln : Int) := by omega
          clear hxn hnx hpb hv0 hv1 hp1 hnn hz0 hnin hlt
          go_wp2_with fail
          go_roundw
          case rel => exact ⟨k + 1, by go_num, by omega, HON, HBN⟩
          case measure => simp [intOf]; omega
        · obtain rfl : k = M := by omega
          have hall : hs.take k = hs := by rw [← HOH.out.1, List.take_length]
          rw [hall] at HOI
          have HS6 := Lib.hid (HS3.out.below HB6.out (Nat.le_refl _))
          have hsz6 := HB6.out.size
          have hr4 : r + 1 ≤ T := by
            have h1 := HI4.out.le HLL.out
            rw [HT.out, List.length_append, List.length_map, HRL.out] at h1
            exact h1
          have hz3 := HZ3.out
          clear hkm hk hall hlt
          go_wp2_with (at_builtin; refine wpList_appendStop rfl (.tmp 53) (.tmp 57) rfl (w.heap.size + 2) H ch r (r + 1) ⟨at_, some ⟨w3.heap.size + 1, 0, none⟩, ln, ln, insAt nx ln hs⟩ ss rfl rfl HS6.out.rows HRL.out rfl (by omega) (by omega) ?_; intro H4 c4 w4 HO4 HG4)
          go_roundw
          case rel =>
            have hb4 := below_appS (Below.refl (w.heap.size + 2) wr) HG4 HS6.out.rows (by omega)
            refine ⟨ss ++ [⟨at_, some ⟨w3.heap.size + 1, 0, none⟩, ln, ln, insAt nx ln hs⟩], r + 1, H4, c4, nx', ms, A', c', rfl, by unfold Hid; rw [List.length_append, HRL.out]; rfl, HF6.out.keptS HS6.out.rows HG4, ?_, HS6.out.app HO4 HG4 ⟨HOI.out.mono (by omega), fun g e e2 => ?_, rfl, HIN.out, HAT.out.1, HAT.out.2⟩, (HB3.out.trans (HB6.out.mono (by omega))).trans (hb4.mono (by omega))⟩
            · unfold Hid
              rw [List.map_append]
              exact HI4.out
            · injection e with e
              injection e with e
              have := (show OwnI w3 (w.heap.size + 2) 3 (some ⟨g, 0, none⟩) c' ms from e2 ▸ HF3.out.heap.own).ltL.2
              omega
          case measure => simp [sliceLen]; omega
    · obtain rfl : N = 0 := by omega
      have HE : Hid (ns = []) := List.eq_nil_of_length_eq_zero hN
      clear hlt hN
      go_wp2_with (first | (go_at_call 26; refine (numLen _ _ _ _).mono ?_; rintro e w2 ⟨rfl, rfl⟩))
      go_ret2
      refine ⟨ss, H, r, ch, rfl, HRL.out, by rw [← HRL.out]; exact HS.out.rows.lenCap, ⟨HI.out.union HLL.out (by have := HF.out.live; rwa [HE.out] at this), fun s hs => ⟨(HS.out.ins s hs).2.2.1, (HS.out.ins s hs).2.2.2.1⟩⟩, ?_, HB.out⟩
      rw [← HRL.out]
      refine HS.out.rows.stops fun s hs => ?_
      obtain ⟨h1, _, h3, h4, h5⟩ := HS.out.ins s hs
      have h6 : s.ins.length = s.n := by rw [h4, h3, List.length_map, HLL.out]
      have h7 := h1.ints
      have h8 := h1.len_cap
      rw [h6] at h7 h8
      exact ⟨h7, h8, h5⟩
set_option maxRecDepth 100000 in
theorem walk_err (LA : Option Addr) (ln lc : Nat) (LL : List (List Int)) (w : World) (h : IntsLL w w.heap.size LA ln LL) (hL : ∀ L ∈ LL, L.length ≤ 9223372036854775806) (hln : ln ≤ 1000) (hR : ¬ AllRise LL) :
    Calls Try.prog 17 #[.slice LA ln lc] w fun e w' => e = .returned (.tuple #[.slice none 0 0, .int .i64 1]) ∧ Below w.heap.size w w' := by
  have cO := open_err LA ln lc LL w h hL hln hR
  clear h hL hR
  go_enter Try.func17, Try.ntmps17
  go_wp2_with (go_at_call 25; refine cO.mono ?_; rintro e w1 ⟨rfl, hB0⟩)
  go_ret2
  exact ⟨rfl, hB0⟩
end Go.Proofs.Ytnaehnlpcjaaeaa
/- merge.inside, and what it gives. -/
namespace Go.Proofs.Ytnaehnlpcjaaeaa
open Go.RowKit

def loI (xs : List Int) : Int := xs.foldl (fun a y => if y < a then y else a) 0
def hiI (xs : List Int) : Int := xs.foldl (fun a y => if a < y then y else a) (-1)
theorem loI_snoc (xs : List Int) (y : Int) : loI (xs ++ [y]) = if y < loI xs then y else loI xs := by unfold loI; rw [List.foldl_append]; rfl
theorem hiI_snoc (xs : List Int) (y : Int) : hiI (xs ++ [y]) = if hiI xs < y then y else hiI xs := by unfold hiI; rw [List.foldl_append]; rfl
theorem inI_iff (xs : List Int) (m : Int) (hm : 0 ≤ m) : (0 ≤ loI xs ∧ hiI xs < m) ↔ ∀ x ∈ xs, 0 ≤ x ∧ x < m := by
  have key : ∀ n, ∀ xs : List Int, xs.length = n → (loI xs ≤ 0 ∧ -1 ≤ hiI xs) ∧ ((0 ≤ loI xs ∧ hiI xs < m) ↔ ∀ x ∈ xs, 0 ≤ x ∧ x < m) := by
    intro n
    induction n with
    | zero => intro xs h; rw [List.eq_nil_of_length_eq_zero h]; simp [loI, hiI]; omega
    | succ n ih =>
      intro xs h
      obtain ⟨ys, y, rfl⟩ : ∃ ys y, xs = ys ++ [y] := ⟨xs.dropLast, xs.getLast (by intro e; rw [e] at h; cases h), (List.dropLast_concat_getLast _).symm⟩
      obtain ⟨h1, h2⟩ := ih ys (by simpa using h)
      rw [loI_snoc, hiI_snoc]
      constructor
      · constructor <;> split <;> omega
      · constructor
        · rintro ⟨h3, h4⟩ x hx
          have h5 : 0 ≤ loI ys := by split at h3 <;> omega
          have h6 : hiI ys < m := by split at h4 <;> omega
          rcases List.mem_append.1 hx with hx | hx
          · exact h2.1 ⟨h5, h6⟩ x hx
          · rw [List.mem_singleton.1 hx]
            constructor
            · split at h3 <;> omega
            · split at h4 <;> omega
        · intro h3
          have h4 := h2.2 fun x hx => h3 x (List.mem_append.2 (.inl hx))
          have h5 := h3 y (by simp)
          constructor <;> split <;> omega
  exact (key _ xs rfl).2
/-- a block that holds one number -/
def OneN (w : World) (g : Nat) (v : Int) : Prop := w.heap[g]? = some (.cells #[.int .i64 v] 3 (0, 0))
theorem OneN.cell {w : World} {g : Nat} {v : Int} (h : OneN w g v) : w.cell? ⟨g, 0, none⟩ = some (.int .i64 v) ∧ w.frozen? ⟨g, 0, none⟩ = false :=
  blk_cell (cs := [.int .i64 v]) h rfl
theorem OneN.lt {w : World} {g : Nat} {v : Int} (h : OneN w g v) : g < w.heap.size := (Array.getElem?_eq_some_iff.1 h).1
theorem OneN.below {w w' : World} {g B : Nat} {v : Int} (h : OneN w g v) (hb : Below B w w') (hg : g < B) : OneN w' g v := (hb.block g hg).trans h
theorem OneN.set {w : World} {g : Nat} {v : Int} (h : OneN w g v) (u : Int) : OneN (w.setCell ⟨g, 0, none⟩ (.int .i64 u)) g u := blk_set0 (v := .int .i64 v) (vs := []) h (.int .i64 u)
theorem OneN.far {w : World} {g g' : Nat} {v : Int} (h : OneN w g v) (hne : g ≠ g') (u : Value) : OneN (w.setCell ⟨g', 0, none⟩ u) g v := (Below.heap_setCell w ⟨g', 0, none⟩ _ _ (fun e => hne (by first | exact e | exact e.symm))).trans h
theorem OneN.drew {w : World} {g : Nat} {v : Int} (h : OneN w g v) : OneN w.drew g v := h
theorem OneN.drewN {w : World} {g : Nat} {v : Int} (h : OneN w g v) (m : Nat) : OneN (w.drewN m) g v := h
set_option maxRecDepth 100000 in
/-- what inside gives: whether so many are more than all that is named -/
theorem insideClo_any (g1 g2 : Nat) (lo hi m : Int) (w : World) (h1 : OneN w g1 lo) (h2 : OneN w g2 hi) :
    Calls Try.prog 46 #[.int .i64 m, .pointer (some ⟨g1, 0, none⟩), .pointer (some ⟨g2, 0, none⟩)] w fun e w' => e = .returned (.bool (decide (0 ≤ lo ∧ hi < m))) ∧ ∃ q, w' = w.drewN q := by
  obtain ⟨c1, _⟩ := h1.cell
  obtain ⟨c2, _⟩ := h2.cell
  go_enter Try.func46, Try.ntmps46
  by_cases hl : 0 ≤ lo
  · go_wp2
    go_ret
    exact ⟨by simp [hl], 0, rfl⟩
  · go_wp2
    go_ret
    exact ⟨by rw [decide_eq_false (show ¬ 0 ≤ lo by omega)]; rfl, 0, rfl⟩
set_option maxRecDepth 100000 in
set_option maxHeartbeats 8000000 in
theorem inside_sets (A : Option Addr) (n c : Nat) (LL : List (List Int)) (w : World) (h : IntsLL w w.heap.size A n LL) (hL : ∀ L ∈ LL, L.length ≤ 1000000) (hn : n ≤ 1000000) :
    Calls Try.prog 31 #[.slice A n c] w fun e w' => e = .returned (.func (.func 46) #[] #[.pointer (some ⟨w.heap.size, 0, none⟩), .pointer (some ⟨w.heap.size + 1, 0, none⟩)]) ∧ OneN w' w.heap.size (loI LL.flatten) ∧ OneN w' (w.heap.size + 1) (hiI LL.flatten) ∧ Below w.heap.size w w' := by
  have HLN : Hid (LL.length = n) := h.1
  have HLB := Lib.hid hL
  have z0 := (Below.refl w.heap.size w).alloc (Nat.le_refl _) (.cells #[.int .i64 0] 3)
  have z1 := z0.alloc z0.size (.cells #[.int .i64 (-1)] 3)
  clear hL
  go_enter Try.func31, Try.ntmps31
  go_wp2_with fail
  have hs0 : ((w.alloc (.cells #[.int .i64 0] 3)).alloc (.cells #[.int .i64 (-1)] 3)).heap.size = w.heap.size + 2 := by simp
  have q2 : OneN ((w.alloc (.cells #[.int .i64 0] 3)).alloc (.cells #[.int .i64 (-1)] 3)) (w.heap.size + 1) (-1) := by
    have := heap_alloc_new (w.alloc (.cells #[.int .i64 0] 3)) (.cells #[.int .i64 (-1)] 3)
    rwa [World.size_alloc] at this
  have q1 : OneN ((w.alloc (.cells #[.int .i64 0] 3)).alloc (.cells #[.int .i64 (-1)] 3)) w.heap.size 0 := by
    unfold OneN
    rw [Below.heap_alloc _ _ _ (by simp)]
    exact heap_alloc_new w _
  obtain ⟨W1, hW1⟩ : ∃ W, (w.alloc (.cells #[.int .i64 0] 3)).alloc (.cells #[.int .i64 (-1)] 3) = W := ⟨_, rfl⟩
  rw [hW1] at hs0 q1 q2 z1 ⊢
  clear hW1 z0
  have HQ1 := Lib.hid q1
  have HQ2 := Lib.hid q2
  have HZ1 := Lib.hid z1
  clear q1 q2 z1
  go_loopw [11] (fun v wr => ∃ (k : Nat), v = .int .i64 (k : Int) ∧ k ≤ n ∧ Hid (OneN wr w.heap.size (loI (LL.take k).flatten)) ∧ Hid (OneN wr (w.heap.size + 1) (hiI (LL.take k).flatten)) ∧ Hid (Below w.heap.size w wr)) (fun v _ => n - (intOf v).toNat)
  case atStart => exact ⟨0, rfl, Nat.zero_le _, HQ1, HQ2, HZ1⟩
  case round =>
    obtain ⟨k, rfl, hk, HA, HB, HZ⟩ := hrel
    by_cases hlt : k < n
    · obtain ⟨b, off, L, a, lc, rfl, hbB, HX, hc0, hcap, hI⟩ := h.at_ hlt
      have hc := (HZ.out.cell (p := ⟨b, off + k, none⟩) hbB).trans hc0
      have hLm := HLB.out L (List.mem_of_getElem? HX.out)
      have hfs : (LL.take (k + 1)).flatten = (LL.take k).flatten ++ L := by rw [take_succ_of HX.out, List.flatten_append]; simp
      have HFS := Lib.hid hfs
      obtain ⟨M, hM⟩ : ∃ M, L.length = M := ⟨_, rfl⟩
      rw [hM] at hc hc0 hcap hI hLm
      have HI := Lib.hid hI
      have k0 : (0 : Int) ≤ (k : Int) := by omega
      have k2 : (k : Int) < (n : Int) := by omega
      obtain ⟨wo, hwo⟩ : ∃ wo : World, wo = wr := ⟨_, rfl⟩
      rw [← hwo] at HA HB HZ hc ⊢
      clear hfs hM hI hwo hc0
      go_wp2_with fail
      go_loopw [17] (fun v wr => ∃ (j : Nat), v = .int .i64 (j : Int) ∧ j ≤ M ∧ Hid (OneN wr w.heap.size (loI ((LL.take k).flatten ++ L.take j))) ∧ Hid (OneN wr (w.heap.size + 1) (hiI ((LL.take k).flatten ++ L.take j))) ∧ Hid (Below w.heap.size w wr)) (fun v _ => M - (intOf v).toNat)
      case atStart => exact ⟨0, rfl, Nat.zero_le _, by rw [List.take_zero, List.append_nil]; exact HA, by rw [List.take_zero, List.append_nil]; exact HB, HZ⟩
      case round =>
        obtain ⟨j, rfl, hj, HA2, HB2, HZ2⟩ := hrel
        by_cases hjm : j < M
        · obtain ⟨b2, off2, y, rfl, _, HY, hcy, hy1, hy2⟩ := (HI.out.below HZ2.out).at_ hjm
          obtain ⟨p1, f1⟩ := HA2.out.cell
          obtain ⟨p2, f2⟩ := HB2.out.cell
          have hlt1 := HA2.out.lt
          have hlt2 := HB2.out.lt
          have hmin := loI_snoc ((LL.take k).flatten ++ L.take j) y
          have hmax := hiI_snoc ((LL.take k).flatten ++ L.take j) y
          rw [List.append_assoc, ← take_succ_of HY.out] at hmin hmax
          obtain ⟨lo, hlo⟩ : ∃ v, loI ((LL.take k).flatten ++ L.take j) = v := ⟨_, rfl⟩
          obtain ⟨hi, hhi⟩ : ∃ v, hiI ((LL.take k).flatten ++ L.take j) = v := ⟨_, rfl⟩
          rw [hlo] at p1 hmin HA2
          rw [hhi] at p2 hmax HB2
          have HMIN := Lib.hid hmin
          have HMAX := Lib.hid hmax
          have j0 : (0 : Int) ≤ (j : Int) := by omega
          have j2 : (j : Int) < (M : Int) := by omega
          clear hlo hhi hmin hmax
          go_wp2_with fail
          go_region
          all_goals
            have hA3 := (HA2.out.set (if y < lo then y else lo)).far (g' := w.heap.size + 1) (by omega) (.int .i64 (if hi < y then y else hi))
            have hB3 := (HB2.out.far (g' := w.heap.size) (by omega) (.int .i64 (if y < lo then y else lo))).set (if hi < y then y else hi)
            have hZ3 := ((HZ2.out.setCell (p := ⟨w.heap.size, 0, none⟩) (Nat.le_refl _) (.int .i64 (if y < lo then y else lo))).setCell (p := ⟨w.heap.size + 1, 0, none⟩) (Nat.le_succ _) (.int .i64 (if hi < y then y else hi))).drew
            rw [← HMIN.out] at hA3 hB3 hZ3 ⊢
            rw [← HMAX.out] at hA3 hB3 hZ3 ⊢
            clear p1 f1 p2 f2 hlt1 hlt2
            go_wp2_with fail
            go_roundw
            case rel => exact ⟨j + 1, by go_num, by omega, hA3.drew, hB3.drew, hZ3⟩
            case measure => simp [intOf]; omega
        · obtain rfl : j = M := by omega
          have he : L.take j = L := by rw [← HI.out.1, List.take_length]
          rw [he, ← HFS.out] at HA2 HB2
          clear hjm he
          go_wp2_with fail
          go_roundw
          case rel => exact ⟨k + 1, by go_num, by omega, HA2, HB2, HZ2⟩
          case measure => simp [intOf]; omega
    · obtain rfl : k = n := by omega
      have he : LL.take k = LL := by rw [← HLN.out, List.take_length]
      rw [he] at HA HB
      clear hlt he
      go_wp2_with fail
      go_ret
      exact ⟨rfl, HA.out, HB.out, HZ.out⟩
end Go.Proofs.Ytnaehnlpcjaaeaa
/- merge's queue: how it lies, and what its operations leave. -/
namespace Go.Proofs.Ytnaehnlpcjaaeaa
open Go.RowKit

/-- one that waits: a slice of the call's own -/
structure RowT where
  A : Option Addr
  c : Nat
  L : List Int
def RowT.hdr (r : RowT) : Value := .slice r.A r.L.length r.c
def qRest (LA : Option Addr) (ln lc bc bs bw : Nat) : List Value := [.slice LA ln lc, .slice (some ⟨bc, 0, none⟩) ln ln, .slice (some ⟨bs, 0, none⟩) ln ln, .slice (some ⟨bw, 0, none⟩) ln ln]
/-- where the queue's blocks lie -/
structure QPos (B0 bc bs bw g base : Nat) : Prop where
  low : B0 ≤ bc ∧ B0 ≤ bs ∧ B0 ≤ bw ∧ B0 ≤ g
  high : bc < base ∧ bs < base ∧ bw < base ∧ g < base
  ne : bc ≠ bs ∧ bc ≠ bw ∧ bc ≠ g ∧ bs ≠ bw ∧ bs ≠ g ∧ bw ≠ g
structure QJ (B0 bc bs bw g base ln lc : Nat) (LA : Option Addr) (LL : List (List Int)) (cm : List Bool) (sn : List Int) (rows : List RowT) (A : Option Addr) (c : Nat) (ns : List Int) (w : World) : Prop where
  heap : HeapB w g base 62 (qRest LA ln lc bc bs bw) A c ns
  order : HeapP (fun x => x) ns ns.length
  lists : IntsLL w B0 LA ln LL
  come : w.heap[bc]? = some (.cells (cm.map Value.bool).toArray 4 (0, 0))
  seen : w.heap[bs]? = some (.cells (sn.map (Value.int .i64)).toArray 3 (0, 0))
  wait : w.heap[bw]? = some (.cells (rows.map RowT.hdr).toArray 25 (0, 0))
  own : ∀ r ∈ rows, OwnI w base 3 r.A r.c r.L
  apart : ∀ (i j : Nat) (ri rj : RowT), rows[i]? = some ri → rows[j]? = some rj → i ≠ j → Apart ri.A rj.A
  off : ∀ r ∈ rows, Apart r.A A
  pos : QPos B0 bc bs bw g base
/-- a block that grows -/
def QSet (A : Option Addr) (rows : List RowT) (b : Nat) : Prop := A = some ⟨b, 0, none⟩ ∨ ∃ r ∈ rows, r.A = some ⟨b, 0, none⟩
/-- what lies beside the queue is as it was; where it grows then -/
structure QFar (B0 bc bs bw g : Nat) (w w' : World) (A : Option Addr) (rows : List RowT) (A' : Option Addr) (rows' : List RowT) : Prop where
  bel : Below B0 w w'
  mid : ∀ b, b < w.heap.size → b ≠ bc → b ≠ bs → b ≠ bw → b ≠ g → ¬ QSet A rows b → w'.heap[b]? = w.heap[b]?
  wher : ∀ b, QSet A' rows' b → QSet A rows b ∨ w.heap.size ≤ b
section
variable {B0 bc bs bw g base ln lc : Nat} {LA : Option Addr} {LL : List (List Int)} {cm : List Bool} {sn : List Int} {rows rows' rows2 : List RowT} {A A' A2 : Option Addr} {c c' : Nat} {ns ns' : List Int} {w w' w2 : World}
theorem QFar.refl (w : World) : QFar B0 bc bs bw g w w A rows A rows := ⟨Below.refl _ _, fun _ _ _ _ _ _ _ => rfl, fun _ h => .inl h⟩
theorem QFar.trans (h : QFar B0 bc bs bw g w w' A rows A' rows') (h2 : QFar B0 bc bs bw g w' w2 A' rows' A2 rows2) : QFar B0 bc bs bw g w w2 A rows A2 rows2 :=
  ⟨h.bel.trans h2.bel, fun b hb h1 h3 h4 h5 h6 => (h2.mid b (Nat.lt_of_lt_of_le hb h.bel.size) h1 h3 h4 h5 (fun hq => by rcases h.wher b hq with e | e; exact h6 e; omega)).trans (h.mid b hb h1 h3 h4 h5 h6), fun b hq => by
    rcases h2.wher b hq with e | e
    · exact h.wher b e
    · exact .inr (Nat.le_trans h.bel.size e)⟩
theorem QFar.drewN (h : QFar B0 bc bs bw g w w' A rows A' rows') (m : Nat) : QFar B0 bc bs bw g w (w'.drewN m) A rows A' rows' := ⟨⟨h.bel.os, h.bel.tape, h.bel.output, h.bel.size, h.bel.block⟩, h.mid, h.wher⟩
/-- another's slice stays -/
theorem QFar.own {base co : Nat} {O : Option Addr} {os : List Int} (h : QFar B0 bc bs bw g w w' A rows A' rows') (hp : QPos B0 bc bs bw g base) (hO : OwnI w base 3 O co os) (hA : ∀ b, O = some ⟨b, 0, none⟩ → ¬ QSet A rows b) : OwnI w' base 3 O co os ∧ ∀ b, O = some ⟨b, 0, none⟩ → ¬ QSet A' rows' b := by
  have hl : ∀ b, O = some ⟨b, 0, none⟩ → base ≤ b ∧ b < w.heap.size := fun b hb => (show OwnI w base 3 (some ⟨b, 0, none⟩) co os from hb ▸ hO).ltL
  obtain ⟨h1, h2, h3, h4⟩ := hp.high
  refine ⟨hO.same_ fun b hb => ?_, fun b hb hq => ?_⟩
  · have := hl b hb
    exact h.mid b this.2 (by omega) (by omega) (by omega) (by omega) (hA b hb)
  · have := hl b hb
    rcases h.wher b hq with e | e
    · exact hA b hb e
    · omega
theorem QJ.drewN (h : QJ B0 bc bs bw g base ln lc LA LL cm sn rows A c ns w) (m : Nat) : QJ B0 bc bs bw g base ln lc LA LL cm sn rows A c ns (w.drewN m) :=
  ⟨h.heap.drewN m, h.order, h.lists, h.come, h.seen, h.wait, h.own, h.apart, h.off, h.pos⟩
/-- an operation of the heap -/
theorem QJ.heapop (h : QJ B0 bc bs bw g base ln lc LA LL cm sn rows A c ns w) (hB : HeapB w' g base 62 (qRest LA ln lc bc bs bw) A' c' ns') (hP : HeapP (fun x => x) ns' ns'.length) (hF : FarB w w' g base A A') :
    QJ B0 bc bs bw g base ln lc LA LL cm sn rows A' c' ns' w' ∧ QFar B0 bc bs bw g w w' A rows A' rows := by
  obtain ⟨h1, h2, h3, h4⟩ := h.pos.high
  obtain ⟨l1, l2, l3, l4⟩ := h.pos.low
  obtain ⟨n1, n2, n3, n4, n5, n6⟩ := h.pos.ne
  have hbl : Below B0 w w' := (hF.below (B := B0) l4 h4)
  have hrl : ∀ r ∈ rows, ∀ b, r.A = some ⟨b, 0, none⟩ → base ≤ b ∧ b < w.heap.size := fun r hr b hb => (show OwnI w base 3 (some ⟨b, 0, none⟩) r.c r.L from hb ▸ h.own r hr).ltL
  refine ⟨⟨hB, hP, h.lists.below hbl, (hF.low bc h1 n3).trans h.come, (hF.low bs h2 n5).trans h.seen, (hF.low bw h3 n6).trans h.wait, fun r hr => (h.own r hr).same_ fun b hb => ?_, h.apart, fun r hr b hb hb' => ?_, h.pos⟩, hbl, fun b hb _ _ _ hg hq => hF.mid b hb hg fun e => hq (.inl e), fun b hq => ?_⟩
  · have := hrl r hr b hb
    exact hF.mid b this.2 (by omega) (h.off r hr b hb)
  · rcases hF.wher b hb' with e | e
    · exact h.off r hr b hb e
    · have := hrl r hr b hb; omega
  · rcases hq with e | e
    · rcases hF.wher b e with e | e
      · exact .inl (.inl e)
      · exact .inr e
    · exact .inl (.inr e)
/-- a write into one of the queue's own blocks of one size -/
theorem QJ.keepLow (h : QJ B0 bc bs bw g base ln lc LA LL cm sn rows A c ns w) {p : Nat} (hp : p < base) (hg : p ≠ g) (hB : B0 ≤ p) (i : Nat) (v : Value) :
    HeapB (w.setCell ⟨p, i, none⟩ v) g base 62 (qRest LA ln lc bc bs bw) A c ns ∧ IntsLL (w.setCell ⟨p, i, none⟩ v) B0 LA ln LL ∧ (∀ r ∈ rows, OwnI (w.setCell ⟨p, i, none⟩ v) base 3 r.A r.c r.L) ∧ Below B0 w (w.setCell ⟨p, i, none⟩ v) ∧ ∀ b, b ≠ p → (w.setCell ⟨p, i, none⟩ v).heap[b]? = w.heap[b]? := by
  have hk : ∀ b, b ≠ p → (w.setCell ⟨p, i, none⟩ v).heap[b]? = w.heap[b]? := fun b hb => Below.heap_setCell w ⟨p, i, none⟩ v b (fun e => hb (by first | exact e | exact e.symm))
  have hbl : Below B0 w (w.setCell ⟨p, i, none⟩ v) := (Below.refl B0 w).setCell (p := ⟨p, i, none⟩) hB v
  exact ⟨⟨(hk g (fun e => hg e.symm)).trans h.heap.box, h.heap.own.setBelow (a := ⟨p, i, none⟩) hp v, h.heap.lt, by simpa using h.heap.sz⟩, h.lists.below hbl, fun r hr => (h.own r hr).setBelow (a := ⟨p, i, none⟩) hp v, hbl, hk⟩
theorem qfar_set (hbl : Below B0 w w') {p : Nat} (hp : p = bc ∨ p = bs ∨ p = bw) (hk : ∀ b, b ≠ p → w'.heap[b]? = w.heap[b]?) : QFar B0 bc bs bw g w w' A rows A rows :=
  ⟨hbl, fun b _ h1 h2 h3 _ _ => hk b (by rcases hp with e | e | e <;> omega), fun b hq => .inl hq⟩
theorem map_set_ {α β : Type} (f : α → β) (l : List α) (i : Nat) (v : α) : (l.map f).set i (f v) = (l.set i v).map f := (List.map_set).symm
theorem QJ.setSeen (h : QJ B0 bc bs bw g base ln lc LA LL cm sn rows A c ns w) (i : Nat) (v : Int) :
    QJ B0 bc bs bw g base ln lc LA LL cm (sn.set i v) rows A c ns (w.setCell ⟨bs, i, none⟩ (.int .i64 v)) ∧ QFar B0 bc bs bw g w (w.setCell ⟨bs, i, none⟩ (.int .i64 v)) A rows A rows := by
  obtain ⟨n1, n2, n3, n4, n5, n6⟩ := h.pos.ne
  obtain ⟨k1, k2, k3, k4, k5⟩ := h.keepLow h.pos.high.2.1 n5 h.pos.low.2.1 i (.int .i64 v)
  refine ⟨⟨k1, h.order, k2, (k5 bc n1).trans h.come, ?_, (k5 bw (fun e => n4 e.symm)).trans h.wait, k3, h.apart, h.off, h.pos⟩, qfar_set k4 (.inr (.inl rfl)) k5⟩
  rw [← map_set_]
  exact blk_set h.seen _
theorem QJ.setCome (h : QJ B0 bc bs bw g base ln lc LA LL cm sn rows A c ns w) (i : Nat) (v : Bool) :
    QJ B0 bc bs bw g base ln lc LA LL (cm.set i v) sn rows A c ns (w.setCell ⟨bc, i, none⟩ (.bool v)) ∧ QFar B0 bc bs bw g w (w.setCell ⟨bc, i, none⟩ (.bool v)) A rows A rows := by
  obtain ⟨n1, n2, n3, n4, n5, n6⟩ := h.pos.ne
  obtain ⟨k1, k2, k3, k4, k5⟩ := h.keepLow h.pos.high.1 n3 h.pos.low.1 i (.bool v)
  refine ⟨⟨k1, h.order, k2, ?_, (k5 bs (fun e => n1 e.symm)).trans h.seen, (k5 bw (fun e => n2 e.symm)).trans h.wait, k3, h.apart, h.off, h.pos⟩, qfar_set k4 (.inl rfl) k5⟩
  rw [← map_set_]
  exact blk_set h.come _
/-- one more waits in row a: what the append and the write leave -/
theorem QJ.wait_ (h : QJ B0 bc bs bw g base ln lc LA LL cm sn rows A c ns w) {a p : Nat} {r : RowT} (hr : rows[a]? = some r) (hp : r.L.length = p) {x : Int} {o : Obj} {A4 : Option Addr} {c4 : Nat} {w4 : World}
    (hO4 : OwnI w4 base 3 A4 c4 (r.L ++ [x])) (hG : (w.alloc o).grownBy w4 (Value.slice r.A p r.c).ownBlock) (hW : ∀ b, A4 = some ⟨b, 0, none⟩ → r.A = some ⟨b, 0, none⟩ ∨ (w.alloc o).heap.size ≤ b) :
    QJ B0 bc bs bw g base ln lc LA LL cm sn (rows.set a ⟨A4, c4, r.L ++ [x]⟩) A c ns (w4.setCell ⟨bw, a, none⟩ (.slice A4 (p + 1) c4)) ∧ QFar B0 bc bs bw g w (w4.setCell ⟨bw, a, none⟩ (.slice A4 (p + 1) c4)) A rows A (rows.set a ⟨A4, c4, r.L ++ [x]⟩) := by
  obtain ⟨h1, h2, h3, h4⟩ := h.pos.high
  obtain ⟨l1, l2, l3, l4⟩ := h.pos.low
  obtain ⟨n1, n2, n3, n4, n5, n6⟩ := h.pos.ne
  have hrm := List.mem_of_getElem? hr
  have hz := h.heap.sz
  have hzz : (w.alloc o).heap.size = w.heap.size + 1 := World.size_alloc _ _
  have hb0 : Below base w (w.alloc o) := ((Below.refl w.heap.size w).alloc (Nat.le_refl _) o).mono hz
  have hbl : Below base w w4 := below_app hb0 hG ((h.own r hrm).alloc o) hp (by omega)
  have hk : ∀ b, b ≠ bw → (w4.setCell ⟨bw, a, none⟩ (.slice A4 (p + 1) c4)).heap[b]? = w4.heap[b]? := fun b hb => Below.heap_setCell w4 ⟨bw, a, none⟩ _ b (fun e => hb (by first | exact e | exact e.symm))
  have hold : ∀ b, b < w.heap.size → b ≠ bw → r.A ≠ some ⟨b, 0, none⟩ → (w4.setCell ⟨bw, a, none⟩ (.slice A4 (p + 1) c4)).heap[b]? = w.heap[b]? := fun b hb h5 h6 =>
    (hk b h5).trans ((hG.block b (by omega) (own_block_neL ((h.own r hrm).alloc o) hp h6)).trans (Below.heap_alloc w _ b hb))
  have hlow : ∀ b, b < base → b ≠ bw → (w4.setCell ⟨bw, a, none⟩ (.slice A4 (p + 1) c4)).heap[b]? = w.heap[b]? := fun b hb h5 => (hk b h5).trans (hbl.block b hb)
  have hAl : ∀ b, A = some ⟨b, 0, none⟩ → base ≤ b ∧ b < w.heap.size := fun b hb => (show OwnI w base 3 (some ⟨b, 0, none⟩) c ns from hb ▸ h.heap.own).ltL
  have hrl : ∀ q ∈ rows, ∀ b, q.A = some ⟨b, 0, none⟩ → base ≤ b ∧ b < w.heap.size := fun q hq b hb => (show OwnI w base 3 (some ⟨b, 0, none⟩) q.c q.L from hb ▸ h.own q hq).ltL
  have hBel : Below B0 w (w4.setCell ⟨bw, a, none⟩ (.slice A4 (p + 1) c4)) := (hbl.mono (by omega)).setCell (p := ⟨bw, a, none⟩) l3 _
  have halen : a < rows.length := (List.getElem?_eq_some_iff.1 hr).1
  have hmem : ∀ q ∈ rows.set a ⟨A4, c4, r.L ++ [x]⟩, q = ⟨A4, c4, r.L ++ [x]⟩ ∨ ∃ i, i ≠ a ∧ rows[i]? = some q := fun q hq => by
    obtain ⟨i, hi⟩ := List.getElem?_of_mem hq
    rw [List.getElem?_set] at hi
    by_cases e : a = i
    · rw [if_pos e, if_pos halen] at hi
      injection hi with hi
      exact .inl hi.symm
    · rw [if_neg e] at hi
      exact .inr ⟨i, fun e2 => e e2.symm, hi⟩
  refine ⟨⟨⟨(hlow g h4 (fun e => n6 e.symm)).trans h.heap.box, h.heap.own.same_ fun b hb => ?_, h.heap.lt, by simpa using Nat.le_trans hz hbl.size⟩, h.order, h.lists.below hBel, (hlow bc h1 n2).trans h.come, (hlow bs h2 n4).trans h.seen, ?_, fun q hq => ?_, fun i j ri rj hi hj hij => ?_, fun q hq => ?_, h.pos⟩, hBel, fun b hb _ _ h7 _ h9 => ?_, fun b hq => ?_⟩
  · exact hold b (hAl b hb).2 (by have := (hAl b hb).1; omega) (fun e => h.off r hrm b e hb)
  · have hwt : w4.heap[bw]? = some (.cells (rows.map RowT.hdr).toArray 25 (0, 0)) := (hbl.block bw h3).trans h.wait
    have := blk_set hwt (i := a) (.slice A4 (p + 1) c4)
    rw [this, ← map_set_]
    simp [RowT.hdr, hp]
  · rcases hmem q hq with rfl | ⟨i, hi, hri⟩
    · exact hO4.setBelow (a := ⟨bw, a, none⟩) h3 _
    · have hqm := List.mem_of_getElem? hri
      exact (h.own q hqm).same_ fun b hb => hold b (hrl q hqm b hb).2 (by have := (hrl q hqm b hb).1; omega) (fun e => h.apart i a q r hri hr hi b hb e)
  · intro b hb hb'
    rw [List.getElem?_set] at hi hj
    by_cases e1 : a = i
    · rw [if_pos e1, if_pos halen] at hi
      have e2 : ¬ a = j := fun e => hij (e1.symm.trans e)
      rw [if_neg e2] at hj
      injection hi with hi
      subst hi
      rcases hW b hb with h5 | h5
      · exact h.apart j a rj r hj hr (fun e => e2 e.symm) b hb' h5
      · have := hrl rj (List.mem_of_getElem? hj) b hb'; omega
    · rw [if_neg e1] at hi
      by_cases e2 : a = j
      · rw [if_pos e2, if_pos halen] at hj
        injection hj with hj
        subst hj
        rcases hW b hb' with h5 | h5
        · exact h.apart i a ri r hi hr (fun e => e1 e.symm) b hb h5
        · have := hrl ri (List.mem_of_getElem? hi) b hb; omega
      · rw [if_neg e2] at hj
        exact h.apart i j ri rj hi hj hij b hb hb'
  · intro b hb hb'
    rcases hmem q hq with rfl | ⟨i, hi, hri⟩
    · rcases hW b hb with h5 | h5
      · exact h.off r hrm b h5 hb'
      · have := hAl b hb'; omega
    · exact h.off q (List.mem_of_getElem? hri) b hb hb'
  · exact hold b hb h7 (fun e => h9 (.inr ⟨r, hrm, e⟩))
  · rcases hq with e | ⟨q, hq, e⟩
    · exact .inl (.inl e)
    · rcases hmem q hq with rfl | ⟨i, hi, hri⟩
      · rcases hW b e with h5 | h5
        · exact .inl (.inr ⟨r, hrm, h5⟩)
        · exact .inr (by omega)
      · exact .inl (.inr ⟨q, List.mem_of_getElem? hri, e⟩)
end
end Go.Proofs.Ytnaehnlpcjaaeaa
/- queue.look. -/
namespace Go.Proofs.Ytnaehnlpcjaaeaa
open Go.RowKit

set_option maxRecDepth 100000 in
theorem run_ifaceQ (g : Nat) (w : World) : (Instr.makeInterface 73 (.pointer (some ⟨g, 0, none⟩))).run Try.prog w = .ok (.iface 73 (.pointer (some ⟨g, 0, none⟩))) w := by kernel_rfl
/-- what a look at n comes to -/
def LookP (ln : Nat) (cm : List Bool) (L : List Int) (n s0 : Nat) (sn : List Int) (rows : List RowT) (ns sn' : List Int) (rows' : List RowT) (ns' : List Int) : Prop :=
  (∃ (j a : Nat) (r : RowT) (A4 : Option Addr) (c4 : Nat), s0 ≤ j ∧ L[j]? = some (a : Int) ∧ a < ln ∧ cm.getD a false = false ∧ (∀ (i : Nat) (y : Int), s0 ≤ i → i < j → L[i]? = some y → cm.getD y.toNat false = true) ∧ sn' = sn.set n (j : Int) ∧ rows[a]? = some r ∧ rows' = rows.set a ⟨A4, c4, r.L ++ [(n : Int)]⟩ ∧ ns' = ns) ∨
  ((∀ (i : Nat) (y : Int), s0 ≤ i → L[i]? = some y → cm.getD y.toNat false = true) ∧ sn' = sn.set n (L.length : Int) ∧ rows' = rows ∧ ns'.Perm (ns ++ [(n : Int)]))
theorem grownBy_drew {W w4 : World} {r : Option Nat} (h : W.drew.grownBy w4 r) : W.grownBy w4 r := ⟨h.os, h.tape, h.output, h.size, h.block⟩
set_option maxRecDepth 100000 in
set_option maxHeartbeats 8000000 in
theorem look_ok (B0 bc bs bw g base ln lc : Nat) (LA : Option Addr) (LL : List (List Int)) (cm : List Bool) (sn : List Int) (rows : List RowT) (A : Option Addr) (c : Nat) (ns : List Int) (w : World) (h : QJ B0 bc bs bw g base ln lc LA LL cm sn rows A c ns w) (n s0 : Nat) (L : List Int) (hn : n < ln) (hs0 : sn[n]? = some (s0 : Int)) (hL : LL[n]? = some L) (hs : s0 ≤ L.length) (hll : L.length ≤ 100000) (hin : ∀ y ∈ L, ∃ a : Nat, y = (a : Int) ∧ a < ln) (hcm : cm.length = ln) (hrw : rows.length = ln) (hns : ns.length < 1000) (hrl : ∀ (a : Nat) (r : RowT), cm.getD a false = false → rows[a]? = some r → r.L.length ≤ 1000) (hln : ln ≤ 1000) :
    Calls Try.prog 38 #[.pointer (some ⟨g, 0, none⟩), .int .i64 n] w fun e w' => e = .returned (.tuple #[]) ∧ ∃ sn' rows' A' c' ns', QJ B0 bc bs bw g base ln lc LA LL cm sn' rows' A' c' ns' w' ∧ QFar B0 bc bs bw g w w' A rows A' rows' ∧ LookP ln cm L n s0 sn rows ns sn' rows' ns' := by
  have r1 := h.heap.restAt (k := 0) (v := .slice LA ln lc) rfl
  have r3 := h.heap.restAt (k := 2) (v := .slice (some ⟨bs, 0, none⟩) ln ln) rfl
  obtain ⟨b, off, L', a0, c0, rfl, _, hL', hc1, hcap, hI⟩ := h.lists.at_ hn
  have e1 : L' = L := by have := hL'.out; rw [hL] at this; injection this with this; exact this.symm
  rw [e1] at hc1 hcap hI
  obtain ⟨hsc, _⟩ := blk_cell h.seen (i := n) (v := .int .i64 (s0 : Int)) (by rw [List.getElem?_map, hs0]; rfl)
  have hI2 := hI.drop_ hs hcap
  have hd := fun W : World => run_drop (w := W) a0 L.length c0 s0 hs
  obtain ⟨D, hD⟩ : ∃ D, (if c0 = s0 then a0 else a0.map (·.add (s0 * 1))) = D := ⟨_, rfl⟩
  rw [hD] at hI2
  simp only [hD] at hd
  obtain ⟨M, hM⟩ : ∃ M, L.length = M := ⟨_, rfl⟩
  obtain ⟨R, hR⟩ : ∃ R, M - s0 = R := ⟨_, rfl⟩
  rw [hM, hR] at hI2
  simp only [hM, hR] at hd
  rw [hM] at hc1 hcap hll hs
  have hRb : R ≤ 100000 := by omega
  have HM2 : Hid (M = s0 + R) := by unfold Hid; omega
  have HM : Hid (L.length = s0 + R) := by unfold Hid; omega
  have HI := Lib.hid hI2
  have HH := Lib.hid h
  have HIN := Lib.hid hin
  have HRL := Lib.hid hrl
  have HS0 := Lib.hid hs0
  have HP := Lib.hid h.pos
  have n0 : (0 : Int) ≤ (n : Int) := by omega
  have n1 : (n : Int) < (ln : Int) := by omega
  have s00 : (0 : Int) ≤ (s0 : Int) := by omega
  have s01 : (s0 : Int) ≤ (M : Int) := by omega
  obtain ⟨i0, hi0, hz0, hz1, hz2⟩ := info_parts infoInt
  clear h hI hI2 hM hR hD hs0 hL hL' hin hrl e1
  go_enter Try.func38, Try.ntmps38
  go_wp2_with fail
  go_quiet (fail)
  go_wp2_with fail
  go_loopw [22] (fun v wr => ∃ (j p : Nat), v = .int .i64 (j : Int) ∧ j ≤ R ∧ Hid (p = s0 + j) ∧ Hid (∀ (i : Nat) (y : Int), s0 ≤ i → i < p → L[i]? = some y → cm.getD y.toNat false = true) ∧ Hid (QJ B0 bc bs bw g base ln lc (some ⟨b, off, none⟩) LL cm (sn.set n (p : Int)) rows A c ns wr) ∧ Hid (QFar B0 bc bs bw g w wr A rows A rows)) (fun v _ => R - (intOf v).toNat)
  case atStart =>
    have e : sn.set n (s0 : Int) = sn := by
      obtain ⟨h1, h2⟩ := List.getElem?_eq_some_iff.1 HS0.out
      rw [← h2]; exact List.set_getElem_self _
    exact ⟨0, s0, rfl, Nat.zero_le _, rfl, fun i y h1 h2 _ => absurd h1 (by omega), by unfold Hid; rw [e]; exact HH.out.drewN _, (QFar.refl w).drewN _⟩
  case round =>
    clear r1 r3 hsc
    obtain ⟨j, p, rfl, hj, HPJ, HAL, HQ, HF⟩ := hrel
    have hp := HQ.out.pos
    have q2 := HQ.out.heap.restAt (k := 1) (v := .slice (some ⟨bc, 0, none⟩) ln ln) rfl
    have q3 := HQ.out.heap.restAt (k := 2) (v := .slice (some ⟨bs, 0, none⟩) ln ln) rfl
    have q4 := HQ.out.heap.restAt (k := 3) (v := .slice (some ⟨bw, 0, none⟩) ln ln) rfl
    by_cases hlt : j < R
    · obtain ⟨b2, off2, y, rfl, _, HY, hcy, _, _⟩ := (HI.out.below HF.out.bel).at_ hlt
      have HYL : Hid (L[p]? = some y) := by
        have := HY.out
        rw [List.getElem?_drop, ← HPJ.out] at this
        exact this
      obtain ⟨a, ha, hal⟩ := HIN.out y (List.mem_of_getElem? HYL.out)
      subst ha
      have a0' : (0 : Int) ≤ (a : Int) := by omega
      have a1 : (a : Int) < (ln : Int) := by omega
      have j0 : (0 : Int) ≤ (j : Int) := by omega
      have j1 : (j : Int) < (R : Int) := by omega
      have hac : cm[a]? = some (cm.getD a false) := by rw [List.getD_eq_getElem?_getD, List.getElem?_eq_getElem (by omega)]; rfl
      obtain ⟨cc, _⟩ := blk_cell HQ.out.come (i := a) (v := .bool (cm.getD a false)) (by rw [List.getElem?_map, hac]; rfl)
      by_cases hcv : cm.getD a false = true
      · rw [hcv] at cc
        have hsn : (sn.set n (p : Int))[n]? = some (p : Int) := by
          have := (List.getElem?_eq_some_iff.1 HS0.out).1
          rw [List.getElem?_set, if_pos rfl, if_pos this]
        obtain ⟨sc, sf⟩ := blk_cell HQ.out.seen (i := n) (v := .int .i64 (p : Int)) (by rw [List.getElem?_map, hsn]; rfl)
        have hS := HQ.out.setSeen n ((p : Int) + 1)
        rw [List.set_set] at hS
        have HQ2 := Lib.hid hS.1
        have HF2 := Lib.hid (HF.out.trans hS.2)
        have wp : IntKind.i64.wrap ((p : Int) + 1) = (p : Int) + 1 := by rw [wrap_eq]; exact IntWalk.wrap64_in _ ⟨by have := HPJ.out; have := HM2.out; omega, by have := HPJ.out; have := HM2.out; omega⟩
        have HAL2 : Hid (∀ (i : Nat) (y : Int), s0 ≤ i → i < p + 1 → L[i]? = some y → cm.getD y.toNat false = true) := fun i y h1 h2 h3 => by
          by_cases e : i = p
          · subst e
            rw [HYL.out] at h3
            injection h3 with h3
            rw [← h3, Int.toNat_natCast]; exact hcv
          · exact HAL.out i y h1 (by omega) h3
        clear hsn hS hac hcv HY
        go_wp2_with fail
        go_roundw
        case rel => exact ⟨j + 1, p + 1, by go_num, by omega, by have := HPJ.out; unfold Hid; omega, HAL2, HQ2, HF2⟩
        case measure => simp [intOf]; omega
      · have hcf : cm.getD a false = false := by cases e : cm.getD a false with | false => rfl | true => exact absurd e hcv
        rw [hcf] at cc
        obtain ⟨⟨RA, rc, RL⟩, hr⟩ : ∃ r, rows[a]? = some r := ⟨_, List.getElem?_eq_getElem (by omega)⟩
        have hrl : RL.length ≤ 1000 := HRL.out a _ hcf hr
        obtain ⟨P, hP⟩ : ∃ P, RL.length = P := ⟨_, rfl⟩
        have hO : OwnI wr base 3 RA rc RL := HQ.out.own _ (List.mem_of_getElem? hr)
        have hwa : (rows.map RowT.hdr)[a]? = some (.slice RA P rc) := by rw [List.getElem?_map, hr]; simp [RowT.hdr, hP]
        obtain ⟨wc, wf⟩ := blk_cell HQ.out.wait hwa
        have hz := HQ.out.heap.sz
        have C0 := fun o => cellPast o q4
        have W0 := fun o => cellPast o wc
        have HOA : Hid (OwnI (wr.alloc (.cells #[.int .i64 (n : Int)] 3)).drew base 3 RA rc RL) := hO.alloc _
        have HSA : Hid (Ints (wr.alloc (.cells #[.int .i64 (n : Int)] 3)).drew (wr.heap.size + 1) (some ⟨wr.heap.size, 0, none⟩) 1 [(n : Int)]) := src_new wr ⟨by omega, by omega⟩
        have HZA : Hid (base ≤ (wr.alloc (.cells #[.int .i64 (n : Int)] 3)).drew.heap.size) := by unfold Hid; have : (wr.alloc (.cells #[.int .i64 (n : Int)] 3)).drew.heap.size = wr.heap.size + 1 := World.size_alloc ..; omega
        have HBA : Hid (Below base wr (wr.alloc (.cells #[.int .i64 (n : Int)] 3)).drew) := ((Below.refl wr.heap.size wr).alloc (Nat.le_refl _) _).drew.mono hz
        have HPL := Lib.hid hP
        have HWA := Lib.hid hwa
        have HR := Lib.hid hr
        have HCF := Lib.hid hcf
        have hbd : P + 1 ≤ 1000000 := by omega
        clear hcv hac hO hwa hr hP hrl hcf HY
        go_wp2_with fail
        go_region_law (refine step_appendWhere rfl (.tmp 45) (.tmp 47) 25 rfl base 3 i0 Try.underlying25 hi0 hz0 hz1 hz2 RA (some ⟨wr.heap.size, 0, none⟩) rc 1 1 (wr.heap.size + 1) P (P + 1) RL [(n : Int)] rfl rfl HOA.out HPL.out rfl HSA.out hbd HZA.out ?_; intro A4 c4 w4 HO4 HG4 HW4; have hbA := below_app HBA.out HG4 HOA.out HPL.out HZA.out; have l4 : w4.cell? ⟨g, 4, none⟩ = some (.slice (some ⟨bw, 0, none⟩) ln ln) := (hbA.cell (p := ⟨g, 4, none⟩) hp.high.2.2.2).trans q4; have lw := (hbA.block bw hp.high.2.2.1).trans HQ.out.wait; obtain ⟨lc4, lf4⟩ := blk_cell lw HWA.out)
        all_goals
          obtain ⟨k1, k2⟩ := HQ.out.wait_ HR.out HPL.out HO4 (grownBy_drew HG4) HW4
          have K1 := Lib.hid k1
          have K2 := Lib.hid k2
          clear k1 k2 HG4 HW4 lw
          go_wp2_with fail
          refine bodyPost_ret (results_none rfl _ _ _) rfl ?_
          refine ⟨rfl, _, _, A, c, ns, K1.out, HF.out.trans K2.out, .inl ⟨p, a, ⟨RA, rc, RL⟩, A4, c4, ?_, HYL.out, hal, HCF.out, HAL.out, rfl, HR.out, rfl, rfl⟩⟩
          have := HPJ.out
          omega
    · obtain rfl : j = R := by omega
      have HQ1 := Lib.hid HQ.out
      have hif := run_ifaceQ g
      have hif2 := run_iface (n : Int)
      have cP := fun m : Nat => heapPush (queue_ok g base (qRest (some ⟨b, off, none⟩) ln lc bc bs bw) (fun _ => True) (fun _ _ _ _ _ _ => trivial)) A c ns (n : Int) (wr.drewN m) (HQ.out.heap.drewN m) trivial (fun _ _ => trivial) trivial (by omega) ⟨by omega, by omega⟩ HQ.out.order
      clear hlt hj
      go_wp2_with (go_at_call 51; refine (cP 0).mono ?_; rintro e w3 ⟨rfl, ms, A', c', hB3, hP3, hH3, hF3⟩)
      go_end0
      obtain ⟨k1, k2⟩ := HQ.out.heapop hB3 hH3 hF3
      refine ⟨rfl, _, rows, A', c', ms, k1, HF.out.trans k2, .inr ⟨fun i y h1 h2 => HAL.out i y h1 ?_ h2, ?_, rfl, hP3⟩⟩
      · have := (List.getElem?_eq_some_iff.1 h2).1
        have := HM.out
        have := HPJ.out
        omega
      · rw [HM.out, HPJ.out]
end Go.Proofs.Ytnaehnlpcjaaeaa
