/- store.rises: whether the places behind a loose level rise. -/
import Derived.Test.YteepiifhmbcciaaG6
import Derived.Test.YteepiifhmbcciaaG1
namespace Go.Proofs.Yteepiifhmbcciaa
open Go.RowKit

set_option maxRecDepth 100000 in
theorem risesFn_any (l : Lv) (w : World) :
    Calls Try.prog 75 #[lvV l.k l.s l.A l.n l.c l.B l.m l.e] w fun e w' => e = .returned (.bool (l.k == 2)) ∧ Below w.heap.size w w' := by
  go_enter Try.func75, Try.ntmps75
  go_wp2
  go_ret
  exact ⟨rfl, (Below.refl w.heap.size w).alloc (Nat.le_refl _) _⟩
set_option maxRecDepth 100000 in
set_option maxHeartbeats 4000000 in
theorem indexLoose_any (A : Option Addr) (n c : Nat) (ls : List Lv) (w : World) (h : Lvs w w.heap.size A n ls) (hn : n ≤ 140737488355328) :
    Calls Try.prog 74 #[.slice A n c, .func (.func 75) #[] #[]] w fun e w' => e = .returned (.int .i64 (idxL ls)) ∧ Below w.heap.size w w' := by
  have HL : Hid (ls.length = n) := h.1
  obtain ⟨FI, HFI⟩ : ∃ b, Hid (idxL ls = b) := ⟨_, Lib.hid rfl⟩
  rw [HFI.out]
  go_enter Try.func74, Try.ntmps74
  go_wp2
  go_loopw [8] (fun i wr => ∃ k : Nat, k ≤ n ∧ i = .int .i64 k ∧ Hid ((ls.take k).any (fun s => s.k == 2) = false) ∧ Hid (Below w.heap.size w wr)) (fun i _ => n - (intOf i).toNat)
  case atStart => exact ⟨0, Nat.zero_le _, rfl, by unfold Hid; simp, Below.refl _ _⟩
  case round =>
    obtain ⟨k, hk, rfl, HK, HB⟩ := hrel
    have hbw : w.heap.size ≤ wr.heap.size := HB.out.size
    by_cases hlt : k < n
    · obtain ⟨b, off, x, rfl, hbl, HX, c0, c1, c2, c3, xo⟩ := (h.on HB.out (Nat.le_refl _)).at_ hlt
      have HS : Hid (∀ w' : World, Below wr.heap.size wr w' → Below w.heap.size w w') := fun w' hh => HB.out.trans (hh.mono hbw)
      have cS := risesFn_any x wr
      clear xo
      by_cases hx : x.k = 2
      · have HF : Hid (FI = (k : Int)) := HFI.out.symm.trans (idxL_hit HX.out hx HK.out)
        have e1 : (x.k == 2) = true := by simpa using hx
        rw [e1] at cS
        clear hx e1 HB
        go_wp2_with (go_at_call 75; refine cS.mono ?_; rintro e w' ⟨rfl, hbb⟩; have HBB := Lib.hid hbb; clear hbb)
        go_ret
        exact ⟨by rw [HF.out]; rfl, HS.out _ HBB.out⟩
      · have e1 : (x.k == 2) = false := by simpa using hx
        have HK1 : Hid ((ls.take (k + 1)).any (fun s => s.k == 2) = false) := by unfold Hid; rw [take_succ_of HX.out, List.any_append, HK.out]; simp [e1]
        rw [e1] at cS
        clear hx e1 HB
        go_wp2_with (go_at_call 75; refine cS.mono ?_; rintro e w' ⟨rfl, hbb⟩; have HBB := Lib.hid hbb; clear hbb)
        go_roundw
        case rel => exact ⟨k + 1, by omega, by go_num, HK1, HS.out _ HBB.out⟩
        case measure => simp [intOf]; omega
    · have HF : Hid (FI = -1) := HFI.out.symm.trans (idxL_none (by
        have := HK.out
        rwa [List.take_of_length_le (by rw [HL.out]; omega)] at this))
      go_wp2
      go_ret
      exact ⟨by rw [HF.out]; rfl, HB.out⟩
set_option maxRecDepth 100000 in
set_option maxHeartbeats 8000000 in
theorem stRises_any (A : Option Addr) (n c : Nat) (ls : List Lv) (w : World) (h : Lvs w w.heap.size A n ls) (hn : n ≤ 100000) (hnc : n ≤ c) (hok : LooseOK ls) :
    Calls Try.prog 50 #[.slice A n c] w fun r w' => r = .returned (.bool (pB (RiseL ls))) ∧ Below w.heap.size w w' := by
  obtain ⟨FB, HFB⟩ : ∃ b, Hid (pB (RiseL ls) = b) := ⟨_, Lib.hid rfl⟩
  rw [HFB.out]
  have HLen := Lib.hid h.1
  have HI := indexLoose_any A n c ls w h (by omega)
  by_cases hany : (ls.any fun s => s.k == 2) = true
  · obtain ⟨k, l, hidx, hl, hk2⟩ := idxL_some hany
    obtain ⟨⟨a, hLok⟩, hlen, huni⟩ := hok k l hl hk2
    rw [hidx] at HI
    have hkn : k < n := by rw [← h.1]; exact (List.getElem?_eq_some_iff.1 hl).1
    obtain ⟨bl, ol, l', rfl, hbb, HLk, d0, d1, d2, d3, li⟩ := h.at_ hkn
    obtain rfl : l' = l := by have := HLk.out; rw [hl] at this; injection this with this; exact this.symm
    have HK2 := Lib.hid hk2
    have hpl := hLok.posLen (.inr rfl)
    have hnx : l'.n = a + 1 := by rw [← li.pos.1, hpl]
    have ha := hLok.ahead
    have hnz : l'.n ≤ 1048577 := by omega
    have e0 : IntKind.i64.wrap ((l'.n : Int) - 1) = (a : Int) := by rw [hnx, IntWalk.i64_in _ (by omega)]; omega
    have HM : Hid (∀ x ∈ ls.drop k, x.m = l'.ys.length) := fun x hx => by
      have h2 := (h.2.1 x (List.mem_of_mem_drop hx)).crd.1
      rw [← h2]; exact hlen x hx
    have HLok := Lib.hid hLok
    have HRL : Hid ((∀ p n, p < a → offN 2 l'.s l'.xs p < n → n < offN 2 l'.s l'.xs (p + 1) → aheadB (n - 1) n (ls.drop k) = true) → FB = true) := fun hh => HFB.out.symm.trans (pB_t (by
      intro kl l2 h1 h2 p n' h3 h4 h5
      obtain rfl := huni kl l2 h1 h2
      rw [hl] at h1; cases h1
      exact hh p n' (by omega) h4 h5))
    have HRN : Hid (∀ p n, p < a → offN 2 l'.s l'.xs p < n → n < offN 2 l'.s l'.xs (p + 1) → aheadB (n - 1) n (ls.drop k) = false → FB = false) := fun p n' h3 h4 h5 h6 => HFB.out.symm.trans (pB_f fun hh => by
      have := hh k l' hl hk2 p n' (by omega) h4 h5
      rw [h6] at this; cases this)
    have HSP : Hid (∀ (p : Nat) W, p < a → Below w.heap.size w W → Calls Try.prog 37 #[lvV l'.k l'.s l'.A l'.n l'.c l'.B l'.m l'.e, .int .i64 p] W fun e w' => e = .returned (.tuple #[.int .i64 (offN 2 l'.s l'.xs p : Nat), .int .i64 (offN 2 l'.s l'.xs (p + 1) : Nat)]) ∧ Below W.heap.size W w') := by
      intro p W hp hW
      have := st_span_ok l'.k l'.s l'.A l'.B l'.n l'.c l'.m l'.e p a l'.xs l'.ys W ((li.pos.below hW).more hW.size) (by rw [HK2.out]; exact HLok.out) hp
      rw [HK2.out] at this ⊢
      exact this
    have HAH : Hid (∀ (q : Nat) W, 1 ≤ q → q < l'.ys.length → Below w.heap.size w W → Calls Try.prog 76 #[.slice (if c = k then some ⟨bl, ol, none⟩ else (some ⟨bl, ol, none⟩ : Option Addr).map (·.add (k * 4))) (n - k) (c - k), .int .i64 ((q - 1 : Nat) : Int), .int .i64 (q : Int)] W fun r w' => r = .returned (.bool (aheadB (q - 1) q (ls.drop k))) ∧ Below W.heap.size W w') := by
      intro q W h1 h2 hW
      exact isAhead_any _ (n - k) (c - k) (q - 1) q (ls.drop k) W ((((h.on hW (Nat.le_refl _))).drop_ (by omega) hnc).more hW.size) (by omega) (fun x hx => by rw [HM.out x hx]; omega)
    have hys := hLok.crd
    have hkc : (k : Int) < (c : Int) := by omega
    have hkc2 : ¬ c = k := by omega
    have hadr : (some ⟨bl, ol, none⟩ : Option Addr).map (·.add (k * 4)) = some ⟨bl, ol + k * 4, none⟩ := by rw [Option.map_some, Addr.add_lit]
    rw [if_neg hkc2, hadr] at HAH
    clear hadr
    have HH := Lib.hid h
    have HLI := Lib.hid li
    clear hany hidx hl hk2 hlen huni hpl hLok hnx h li
    go_enter Try.func50, Try.ntmps50
    go_wp2_with (go_at_call 74; refine HI.mono ?_; rintro e w1 ⟨rfl, hb1⟩; have d0' := (hb1.cell (p := ⟨bl, ol + k * 4, none⟩) hbb).trans d0; have d1' := (hb1.cell (p := ⟨bl, ol + k * 4 + 1, none⟩) hbb).trans d1; have d2' := (hb1.cell (p := ⟨bl, ol + k * 4 + 2, none⟩) hbb).trans d2; have d3' := (hb1.cell (p := ⟨bl, ol + k * 4 + 3, none⟩) hbb).trans d3; have HB1 := Lib.hid hb1; clear hb1)
    obtain ⟨wo, rfl⟩ : ∃ wo : World, wo = w1 := ⟨_, rfl⟩
    clear d0' d1' d2' d3' HI
    go_loopw [19] (fun i wr => ∃ p : Nat, p ≤ a ∧ i = .int .i64 p ∧ Hid (∀ p' n, p' < p → offN 2 l'.s l'.xs p' < n → n < offN 2 l'.s l'.xs (p' + 1) → aheadB (n - 1) n (ls.drop k) = true) ∧ Hid (Below w.heap.size w wr)) (fun i _ => a - (intOf i).toNat)
    case atStart => exact ⟨0, Nat.zero_le _, rfl, fun p' _ hp => absurd hp (by omega), HB1⟩
    case round =>
      obtain ⟨p, hp, rfl, HR, HB⟩ := hrel
      have hbw : w.heap.size ≤ wr.heap.size := HB.out.size
      by_cases hlt : p < a
      · have HC := HSP.out p wr hlt HB.out
        have hz := HLok.out.le_tot (p := p + 1) (by omega)
        rw [← HLok.out.crdLen (by rfl)] at hz
        obtain ⟨x, hx⟩ : ∃ x, offN 2 l'.s l'.xs p = x := ⟨_, rfl⟩
        obtain ⟨z, hz2⟩ : ∃ z, offN 2 l'.s l'.xs (p + 1) = z := ⟨_, rfl⟩
        have hxz := HLok.out.step p hlt
        rw [hx, hz2] at HC hxz
        rw [hz2] at hz
        have HX := Lib.hid hx
        have HZ := Lib.hid hz2
        have d0' := (HB.out.cell (p := ⟨bl, ol + k * 4, none⟩) hbb).trans d0
        have d1' := (HB.out.cell (p := ⟨bl, ol + k * 4 + 1, none⟩) hbb).trans d1
        have d2' := (HB.out.cell (p := ⟨bl, ol + k * 4 + 2, none⟩) hbb).trans d2
        have d3' := (HB.out.cell (p := ⟨bl, ol + k * 4 + 3, none⟩) hbb).trans d3
        have HS : Hid (∀ w' : World, Below wr.heap.size wr w' → Below w.heap.size w w') := fun w' hh => HB.out.trans (hh.mono hbw)
        clear hx hz2 HB
        go_wp2_with (go_at_call 37; refine HC.mono ?_; rintro e w2 ⟨rfl, hb2⟩; have HB2 := Lib.hid (HS.out _ hb2); clear hb2)
        clear d0' d1' d2' d3' HC HS hbw
        obtain ⟨wp, rfl⟩ : ∃ wp : World, wp = w2 := ⟨_, rfl⟩
        go_loopw [7] (fun i wr => ∃ q : Nat, x + 1 ≤ q ∧ (q ≤ x + 1 ∨ q ≤ z) ∧ i = .int .i64 q ∧ Hid (∀ j, x < j → j < q → aheadB (j - 1) j (ls.drop k) = true) ∧ Hid (Below w.heap.size w wr)) (fun i _ => z - (intOf i).toNat)
        case atStart => exact ⟨x + 1, Nat.le_refl _, .inl (Nat.le_refl _), by go_num, fun j h1 h2 => absurd h1 (by omega), HB2⟩
        case round =>
          obtain ⟨q, hq1, hq2, rfl, HJ, HB⟩ := hrel
          have hbw : w.heap.size ≤ wr.heap.size := HB.out.size
          by_cases hlt2 : q < z
          · have HA := HAH.out q wr (by omega) (by omega) HB.out
            rw [show ((q - 1 : Nat) : Int) = (q : Int) - 1 by omega] at HA
            have HS : Hid (∀ w' : World, Below wr.heap.size wr w' → Below w.heap.size w w') := fun w' hh => HB.out.trans (hh.mono hbw)
            have g1 : IntKind.i64.wrap ((q : Int) - 1) = (q : Int) - 1 := by rw [IntWalk.i64_in _ (by omega)]
            clear HB
            by_cases hah : aheadB (q - 1) q (ls.drop k) = true
            · have HJ2 : Hid (∀ j, x < j → j < q + 1 → aheadB (j - 1) j (ls.drop k) = true) := fun j h1 h2 => by
                rcases Nat.lt_or_ge j q with hh | hh
                · exact HJ.out j h1 hh
                · obtain rfl : j = q := by omega
                  exact hah
              rw [hah] at HA
              clear hah
              go_wp2_with (go_at_call 76; refine HA.mono ?_; rintro e w3 ⟨rfl, hb3⟩; have HB3 := Lib.hid (HS.out _ hb3); clear hb3)
              go_roundw
              case rel => exact ⟨q + 1, by omega, by omega, by go_num, HJ2, HB3⟩
              case measure => simp [intOf]; omega
            · have hah' : aheadB (q - 1) q (ls.drop k) = false := by simpa using hah
              have HF := Lib.hid (HRN.out p q hlt (by rw [HX.out]; omega) (by rw [HZ.out]; omega) hah')
              rw [hah'] at HA
              clear hah hah'
              go_wp2_with (go_at_call 76; refine HA.mono ?_; rintro e w3 ⟨rfl, hb3⟩; have HB3 := Lib.hid (HS.out _ hb3); clear hb3)
              go_ret
              exact ⟨by rw [HF.out]; rfl, HB3.out⟩
          · have HN : Hid (∀ p' n, p' < p + 1 → offN 2 l'.s l'.xs p' < n → n < offN 2 l'.s l'.xs (p' + 1) → aheadB (n - 1) n (ls.drop k) = true) := fun p' n h1 h2 h3 => by
              rcases Nat.lt_or_ge p' p with hh | hh
              · exact HR.out p' n hh h2 h3
              · obtain rfl : p' = p := by omega
                rw [HX.out] at h2
                rw [HZ.out] at h3
                exact HJ.out n h2 (by omega)
            go_wp2
            go_roundw
            case rel => exact ⟨p + 1, by omega, by go_num, HN, HB⟩
            case measure => simp [intOf]; omega
      · have HF : Hid (FB = true) := HRL.out fun p' n' h1 h2 h3 => HR.out p' n' (by omega) h2 h3
        go_wp2
        go_ret
        exact ⟨by rw [HF.out]; rfl, HB.out⟩
  · have hany' : (ls.any fun s => s.k == 2) = false := by simpa using hany
    rw [idxL_none hany'] at HI
    have HF : Hid (FB = true) := HFB.out.symm.trans (pB_t (riseL_none hany'))
    clear hany hany'
    go_enter Try.func50, Try.ntmps50
    go_wp2_with (go_at_call 74; refine HI.mono ?_; rintro e w1 ⟨rfl, hb1⟩)
    go_ret
    exact ⟨by rw [HF.out]; rfl, by assumption⟩
end Go.Proofs.Yteepiifhmbcciaa
/- Stored tensors: how they read; their errors, by definition. -/
namespace Go.Proofs.Yteepiifhmbcciaa
open Go.RowKit

/-- a stored tensor: its four slices, and how they read -/
structure Ten where
  A : Option Addr
  n : Nat
  c : Nat
  xs : List Int
  F : Option Addr
  fn : Nat
  fc : Nat
  fs : List Sp
  L : Option Addr
  ln : Nat
  lc : Nat
  ls : List Lv
  V : Option Addr
  vn : Nat
  vc : Nat
  vs : List Int
abbrev Ten.val (t : Ten) : Value := .agg #[.slice t.A t.n t.c, .slice t.F t.fn t.fc, .slice t.L t.ln t.lc, .slice t.V t.vn t.vc]
abbrev Ten.obj (t : Ten) : Obj := .cells #[.slice t.A t.n t.c, .slice t.F t.fn t.fc, .slice t.L t.ln t.lc, .slice t.V t.vn t.vc] 27
structure Ten.In (w : World) (B : Nat) (t : Ten) : Prop where
  shape : Ints w B t.A t.n t.xs
  form : Specs w B t.F t.fn t.fs
  lvs : Lvs w B t.L t.ln t.ls
  vals : Ints w B t.V t.vn t.vs
  nc : t.n ≤ t.c
  fc : t.fn ≤ t.fc
  lc : t.ln ≤ t.lc
  vc : t.vn ≤ t.vc
  n1 : t.n ≤ 100000
  f1 : t.fn ≤ 100000
  l1 : t.ln ≤ 100000
  v1 : t.vn ≤ 100000
section
variable {w w' : World} {B B' : Nat} {t : Ten}
theorem Ten.In.keep (h : t.In w B) (hk : ∀ p : Addr, p.block < B → w'.cell? p = w.cell? p) : t.In w' B :=
  ⟨h.shape.keep hk, h.form.keep hk, h.lvs.keep hk, h.vals.keep hk, h.nc, h.fc, h.lc, h.vc, h.n1, h.f1, h.l1, h.v1⟩
theorem Ten.In.more (h : t.In w B) (hB : B ≤ B') : t.In w B' := ⟨h.shape.more hB, h.form.more hB, h.lvs.more hB, h.vals.more hB, h.nc, h.fc, h.lc, h.vc, h.n1, h.f1, h.l1, h.v1⟩
theorem Ten.In.below (h : t.In w B) (hb : Below B w w') : t.In w' B := h.keep fun _ hp => hb.cell hp
theorem Ten.In.on (h : t.In w w.heap.size) (hb : Below w.heap.size w w') : t.In w' w'.heap.size := (h.below hb).more hb.size
end
/-- Counts' error -/
noncomputable def tenE (t : Ten) : Int :=
  if sizesE t.xs t.fs ≠ 0 then sizesE t.xs t.fs else if pB (OfP t.ls t.fs (sizesL t.xs t.fs)) = true then if levE t.ls t.ln ≠ 0 then levE t.ls t.ln else if t.vn ≠ ahN t.ls t.ln then 1 else if pB (RiseL t.ls) = true then 0 else 1 else 1
/-- how many children each level has -/
def cntL (ls : List Lv) : List Int := (List.range ls.length).map fun k => ((ahN ls (k + 1) : Nat) : Int)
theorem sizesL_length (xs : List Int) (fs : List Sp) : (sizesL xs fs).length = fs.length := by unfold sizesL; simp
theorem sizesE_parts {xs : List Int} {fs : List Sp} (h : sizesE xs fs = 0) : (cellsF xs).2 = 0 ∧ formOK xs fs ∧ ∀ k, k < fs.length → szAt xs fs k ≤ 2147483648 := by
  unfold sizesE at h
  split at h
  · next hh => exact absurd h hh
  · next hh =>
    split at h
    · next h1 =>
      split at h
      · cases h
      · next h2 =>
        refine ⟨Classical.not_not.1 hh, ?_, fun k hk => ?_⟩
        · unfold formB at h1; exact @of_decide_eq_true _ (Classical.propDecidable _) h1
        · simp only [List.any_eq_true, not_exists, not_and] at h2
          have := h2 (szAt xs fs k) (List.mem_map.2 ⟨k, List.mem_range.2 hk, rfl⟩)
          simpa using this
    · cases h
theorem szAt_range {xs : List Int} {fs : List Sp} (h : sizesE xs fs = 0) {k : Nat} (hk : k < fs.length) : 0 ≤ szAt xs fs k ∧ szAt xs fs k ≤ 2147483648 := by
  obtain ⟨h0, h1, h2⟩ := sizesE_parts h
  refine ⟨?_, h2 k hk⟩
  obtain ⟨x, hx⟩ : ∃ x, fs[k]? = some x := ⟨_, List.getElem?_eq_getElem hk⟩
  have hs := h1.1 k x hx
  unfold szAt
  rw [hx]
  simp only
  split
  · next h4 =>
    rcases hs.2.2.2 with hh | hh
    · exact absurd h4 hh.2.1
    · omega
  · obtain ⟨t, ht, ht1⟩ := stepK_pos h1 fs.length (Nat.le_refl _) k hk
    have hv : 0 ≤ xs.getD x.m.toNat 0 := by
      rw [List.getD_eq_getElem?_getD]
      have : x.m.toNat < xs.length := by have := hs.1; have := hs.2.1; omega
      rw [List.getElem?_eq_getElem this]
      exact cellsF_nonneg h0 _ (List.getElem_mem this)
    have hq : (stepK fs fs.length).getD k 0 = t := by rw [List.getD_eq_getElem?_getD, ht]; rfl
    rw [hq]
    exact Int.tdiv_nonneg hv (by omega)
theorem goes_at {xs : List Int} {fs : List Sp} (hf : formOK xs fs) {i : Nat} {x y : Sp} (hx : fs[i]? = some x) (hy : fs[i + 1]? = some y) : (x.k = 2 ∨ x.k = 3 → y.k = 3) ∧ (¬ (x.k = 2 ∨ x.k = 3) → y.k = 0 ∨ y.k = 1 ∨ y.k = 2 ∨ y.k = 4) := by
  have hs := (hf.1 (i + 1) y hy).2.2.1
  have hlast : (fs.take (i + 1)).getLast? = some x := by
    rw [List.getLast?_eq_getElem?, List.length_take, Nat.min_eq_left (by have := (List.getElem?_eq_some_iff.1 hy).1; omega), List.getElem?_take, if_pos (by omega)]
    exact hx
  unfold goesB at hs
  rw [hlast] at hs
  simp only at hs
  split at hs
  · next h => exact ⟨fun _ => by simpa using hs, fun hn => absurd h hn⟩
  · next h => exact ⟨fun hh => absurd hh h, fun _ => by simpa using hs⟩
/-- behind a loose level all are single -/
theorem single_behind {xs : List Int} {fs : List Sp} (hf : formOK xs fs) {i : Nat} {x : Sp} (hx : fs[i]? = some x) (h2 : x.k = 2) : ∀ (d : Nat) (y : Sp), fs[i + 1 + d]? = some y → y.k = 3 := by
  intro d
  induction d with
  | zero => intro y hy; exact (goes_at hf hx hy).1 (.inl h2)
  | succ d ih =>
    intro y hy
    obtain ⟨z, hz⟩ : ∃ z, fs[i + 1 + d]? = some z := ⟨_, List.getElem?_eq_getElem (by have := (List.getElem?_eq_some_iff.1 hy).1; omega)⟩
    exact (goes_at hf hz (show fs[(i + 1 + d) + 1]? = some y from hy)).1 (.inr (ih z hz))
theorem OfP.kind {ls : List Lv} {fs : List Sp} {zs : List Int} (h : OfP ls fs zs) (hz : zs.length = fs.length) {k : Nat} {l : Lv} {f : Sp} (hl : ls[k]? = some l) (hf : fs[k]? = some f) : l.k = f.k := by
  obtain ⟨z, hz'⟩ : ∃ z, zs[k]? = some z := ⟨_, List.getElem?_eq_getElem (by have := (List.getElem?_eq_some_iff.1 hf).1; omega)⟩
  exact (h.2 k l f z hl hf hz').1
theorem OfP.spec {ls : List Lv} {fs : List Sp} {zs : List Int} (h : OfP ls fs zs) {k : Nat} {l : Lv} (hl : ls[k]? = some l) : ∃ f, fs[k]? = some f := ⟨_, List.getElem?_eq_getElem (by have := (List.getElem?_eq_some_iff.1 hl).1; have := h.1; omega)⟩
theorem Lok.single {K S : Int} {xs ys : List Int} {a : Nat} (h : Lok K S xs ys a) (hK : K = 3) : totN K S ys a = a := by
  have := h.last
  subst hK
  simpa [offN, wholeB] using this.symm
theorem looseOK_of {xs : List Int} {fs : List Sp} {ls : List Lv} {zs : List Int} (hf : formOK xs fs) (hz : zs.length = fs.length) (ho : OfP ls fs zs) (he : levE ls ls.length = 0) : LooseOK ls := by
  intro kl l hl h2
  have hkl := (List.getElem?_eq_some_iff.1 hl).1
  obtain ⟨f, hfk⟩ := ho.spec hl
  have hf2 : f.k = 2 := by rw [← ho.kind hz hl hfk]; exact h2
  have hs := single_behind hf hfk hf2
  have hsl : ∀ (d : Nat) (y : Lv), ls[kl + 1 + d]? = some y → y.k = 3 := fun d y hy => by
    obtain ⟨g, hg⟩ := ho.spec hy
    rw [ho.kind hz hy hg]; exact hs d g hg
  have hL := lok_at he hkl hl
  have hL2 := hL
  rw [h2] at hL2
  refine ⟨⟨_, hL2⟩, ?_, ?_⟩
  · have htot : ∀ d, kl + 1 + d ≤ ls.length → ahN ls (kl + 1 + d) = l.ys.length := by
      intro d
      induction d with
      | zero => intro _; show ahN ls (kl + 1) = _; rw [ahN_succ hl, h2]; rfl
      | succ d ih =>
        intro hd
        obtain ⟨y, hy⟩ : ∃ y, ls[kl + 1 + d]? = some y := ⟨_, List.getElem?_eq_getElem (by omega)⟩
        have := lok_at he (by omega) hy
        show ahN ls ((kl + 1 + d) + 1) = _
        rw [ahN_succ hy, this.single (hsl d y hy)]
        exact ih (by omega)
    intro x hx
    obtain ⟨i, hi⟩ := List.mem_iff_getElem?.1 hx
    rw [List.getElem?_drop] at hi
    have hil := (List.getElem?_eq_some_iff.1 hi).1
    by_cases h0 : i = 0
    · subst h0
      rw [Nat.add_zero, hl] at hi
      cases hi; rfl
    · obtain ⟨d, rfl⟩ : ∃ d, i = d + 1 := ⟨i - 1, by omega⟩
      rw [show kl + (d + 1) = kl + 1 + d by omega] at hi hil
      have hx3 := hsl d x hi
      have hLx := lok_at he hil hi
      have e1 := hLx.single hx3
      rw [htot d (by omega)] at e1
      rw [← e1, hx3]
      rfl
  · intro j l' hj h2'
    rcases Nat.lt_trichotomy j kl with hh | hh | hh
    · obtain ⟨g, hg⟩ := ho.spec hj
      have hg2 : g.k = 2 := by rw [← ho.kind hz hj hg]; exact h2'
      have := single_behind hf hg hg2 (kl - j - 1) f (by rw [show j + 1 + (kl - j - 1) = kl by omega]; exact hfk)
      omega
    · exact hh
    · have := hsl (j - kl - 1) l' (by rw [show kl + 1 + (j - kl - 1) = j by omega]; exact hj)
      omega
theorem tenE_small {t : Ten} (h : tenE t = 0) : sizesE t.xs t.fs = 0 ∧ OfP t.ls t.fs (sizesL t.xs t.fs) ∧ levE t.ls t.ln = 0 ∧ t.vn = ahN t.ls t.ln ∧ RiseL t.ls := by
  unfold tenE at h
  split at h
  · next hh => exact absurd h hh
  · next hh =>
    split at h
    · next h1 =>
      split at h
      · next h2 => exact absurd h h2
      · next h2 =>
        split at h
        · cases h
        · next h3 =>
          split at h
          · next h4 => exact ⟨Classical.not_not.1 hh, pB_iff.1 h1, Classical.not_not.1 h2, Classical.not_not.1 h3, pB_iff.1 h4⟩
          · cases h
    · cases h
end Go.Proofs.Yteepiifhmbcciaa
/- How far apart a level's neighbours are in its mode: as far as its mode's block is long. Plain mathematics. -/
namespace Go.Proofs.Yteepiifhmbcciaa
open Go.RowKit

/-- how long a mode's block is, or 1 -/
def bsz (fs : List Sp) (m : Int) : Int := match fs.find? (fun s => s.k == 4 && s.m == m) with
  | some s => s.s
  | none => 1
theorem getD_of {l : List Int} {m : Nat} {v : Int} (h : l[m]? = some v) : l.getD m 0 = v := by rw [List.getD_eq_getElem?_getD, h]; rfl
theorem bsz_snoc_other {fs : List Sp} {x : Sp} {m : Int} (h : ¬ (x.k = 4 ∧ x.m = m)) : bsz (fs ++ [x]) m = bsz fs m := by
  unfold bsz
  rw [List.find?_append]
  have : ([x].find? fun s => s.k == 4 && s.m == m) = none := by
    rw [List.find?_eq_none]
    intro y hy
    rw [List.mem_singleton.1 hy]
    simpa using h
  rw [this]
  cases hh : fs.find? (fun s => s.k == 4 && s.m == m) <;> simp
theorem bsz_none {fs : List Sp} {m : Int} (h : ∀ x ∈ fs, ¬ (x.k = 4 ∧ x.m = m)) : bsz fs m = 1 := by
  unfold bsz
  have : (fs.find? fun s => s.k == 4 && s.m == m) = none := by
    rw [List.find?_eq_none]
    intro y hy
    simpa using h y hy
  rw [this]
theorem bsz_snoc_new {fs : List Sp} {x : Sp} {m : Int} (h : ∀ y ∈ fs, ¬ (y.k = 4 ∧ y.m = m)) (h4 : x.k = 4) (hm : x.m = m) : bsz (fs ++ [x]) m = x.s := by
  unfold bsz
  have : (fs.find? fun s => s.k == 4 && s.m == m) = none := by
    rw [List.find?_eq_none]
    intro y hy
    simpa using h y hy
  rw [List.find?_append, this]
  simp [h4, hm]
theorem cntS_pos {fs : List Sp} {m : Int} {i : Nat} {x : Sp} (h : fs[i]? = some x) (hm : x.m = m) : 1 ≤ cntS fs m := by
  unfold cntS
  exact List.countP_pos_iff.2 ⟨x, List.mem_of_getElem? h, by simpa using hm⟩
theorem cntS_zero {fs : List Sp} {m : Int} (h : cntS fs m = 0) : ∀ x ∈ fs, x.m ≠ m := by
  intro x hx e
  unfold cntS at h
  rw [List.countP_eq_zero] at h
  exact h x hx (by simpa using e)
/-- of two places of one mode there are two -/
theorem cntS_two {fs : List Sp} {m : Int} {i j : Nat} {x y : Sp} (hi : fs[i]? = some x) (hj : fs[j]? = some y) (hx : x.m = m) (hy : y.m = m) (h : i < j) : 2 ≤ cntS fs m := by
  have hjl := (List.getElem?_eq_some_iff.1 hj).1
  have e : fs = fs.take j ++ fs.drop j := (List.take_append_drop j fs).symm
  unfold cntS
  rw [e, List.countP_append]
  have h1 : 1 ≤ (fs.take j).countP (fun x => x.m == m) := List.countP_pos_iff.2 ⟨x, List.mem_of_getElem? (i := i) (by rw [List.getElem?_take, if_pos h]; exact hi), by simpa using hx⟩
  have h2 : 1 ≤ (fs.drop j).countP (fun x => x.m == m) := List.countP_pos_iff.2 ⟨y, List.mem_of_getElem? (i := 0) (by rw [List.getElem?_drop, Nat.add_zero]; exact hj), by simpa using hy⟩
  omega
theorem cntS_find {fs : List Sp} {m : Int} (h : 1 ≤ cntS fs m) : ∃ (i : Nat) (x : Sp), fs[i]? = some x ∧ x.m = m := by
  unfold cntS at h
  obtain ⟨x, hx, hm⟩ := List.countP_pos_iff.1 h
  obtain ⟨i, hi⟩ := List.mem_iff_getElem?.1 hx
  exact ⟨i, x, hi, by simpa using hm⟩
/-- a level ahead of a block, of its mode: there is just one, and it is the first of its mode -/
theorem block_first {xs : List Int} {fs : List Sp} (hf : formOK xs fs) {k : Nat} {x : Sp} (hx : fs[k]? = some x) (h4 : x.k = 4) : ∃ (j : Nat) (y : Sp), idxM fs x.m = (j : Int) ∧ j < k ∧ fs[j]? = some y ∧ y.m = x.m ∧ y.k ≠ 4 ∧ ∀ (i : Nat) (z : Sp), i < k → fs[i]? = some z → z.m = x.m → i = j := by
  have hs := hf.1 k x hx
  have hc : cntS (fs.take k) x.m = 1 := by
    rcases hs.2.2.2 with hh | hh
    · exact absurd h4 hh.2.1
    · exact hh.1
  obtain ⟨j, y, hy, hm⟩ := cntS_find (fs := fs.take k) (m := x.m) (by omega)
  have hj : j < k := by have := (List.getElem?_eq_some_iff.1 hy).1; rw [List.length_take] at this; omega
  have hy' : fs[j]? = some y := by rw [List.getElem?_take, if_pos hj] at hy; exact hy
  have hone : ∀ (i : Nat) (z : Sp), i < k → fs[i]? = some z → z.m = x.m → i = j := by
    intro i z hi hz hzm
    have hz' : (fs.take k)[i]? = some z := by rw [List.getElem?_take, if_pos hi]; exact hz
    rcases Nat.lt_trichotomy i j with h | h | h
    · have := cntS_two hz' hy hzm hm h; omega
    · exact h
    · have := cntS_two hy hz' hm hzm h; omega
  refine ⟨j, y, ?_, hj, hy', hm, ?_, hone⟩
  · refine idxM_hit hy' hm ?_
    rw [List.any_eq_false]
    intro z hz
    obtain ⟨i, hi⟩ := List.mem_iff_getElem?.1 hz
    have hij : i < j := by have := (List.getElem?_eq_some_iff.1 hi).1; rw [List.length_take] at this; omega
    rw [List.getElem?_take, if_pos hij] at hi
    intro e
    have := hone i z (by omega) hi (by simpa using e)
    omega
  · intro hy4
    have hsy := hf.1 j y hy'
    rcases hsy.2.2.2 with hh | hh
    · exact hh.2.1 hy4
    · obtain ⟨i, z, hz, hzm⟩ := cntS_find (fs := fs.take j) (m := y.m) (by omega)
      have hi : i < j := by have := (List.getElem?_eq_some_iff.1 hz).1; rw [List.length_take] at this; omega
      rw [List.getElem?_take, if_pos hi] at hz
      have := hone i z (by omega) hz (by rw [hzm, hm])
      omega
theorem plain_first {xs : List Int} {fs : List Sp} (hf : formOK xs fs) {k : Nat} {x : Sp} (hx : fs[k]? = some x) (h4 : x.k ≠ 4) : ∀ (i : Nat) (z : Sp), i < k → fs[i]? = some z → z.m ≠ x.m := by
  have hs := hf.1 k x hx
  have hc : cntS (fs.take k) x.m = 0 := by
    rcases hs.2.2.2 with hh | hh
    · exact hh.1
    · exact absurd hh.2.1 h4
  intro i z hi hz
  exact cntS_zero hc z (List.mem_of_getElem? (i := i) (by rw [List.getElem?_take, if_pos hi]; exact hz))
theorem mem_take_at {α : Type} {l : List α} {k : Nat} {y : α} (h : y ∈ l.take k) : ∃ i, i < k ∧ l[i]? = some y := by
  obtain ⟨i, hi⟩ := List.mem_iff_getElem?.1 h
  have hik : i < k := by have := (List.getElem?_eq_some_iff.1 hi).1; rw [List.length_take] at this; omega
  rw [List.getElem?_take, if_pos hik] at hi
  exact ⟨i, hik, hi⟩
theorem stepK_val {xs : List Int} {fs : List Sp} (hf : formOK xs fs) (k : Nat) (hk : k ≤ fs.length) : ∀ (i : Nat) (y : Sp), i < k → fs[i]? = some y → (stepK fs k)[i]? = some (if y.k = 4 then 1 else bsz (fs.take k) y.m) := by
  induction k with
  | zero => intro i y hi; omega
  | succ k ih =>
    intro i y hi hy
    obtain ⟨x, hx⟩ : ∃ x, fs[k]? = some x := ⟨_, List.getElem?_eq_getElem (by omega)⟩
    have hl := stepK_length fs k
    rw [stepK, hx, take_succ_of hx]
    simp only
    by_cases h4 : x.k = 4
    · rw [if_pos h4]
      obtain ⟨j, z, hj, hjk, hz, hzm, hz4, hone⟩ := block_first hf hx h4
      have hnb : ∀ w ∈ fs.take k, ¬ (w.k = 4 ∧ w.m = x.m) := by
        intro w hw hh
        obtain ⟨i', hi', hw'⟩ := mem_take_at hw
        obtain rfl := hone i' w hi' hw' hh.2
        rw [hz] at hw'; cases hw'
        exact hz4 hh.1
      rw [hj, Int.toNat_natCast]
      by_cases e : i = j
      · subst e
        rw [hz] at hy; cases hy
        rw [List.getElem?_set_self (by rw [List.length_set]; omega), if_neg hz4, hzm, bsz_snoc_new hnb h4 rfl]
      · rw [List.getElem?_set_ne (by omega)]
        by_cases e2 : i = k
        · subst e2
          rw [hx] at hy; cases hy
          rw [List.getElem?_set_self (by omega), if_pos h4]
        · rw [List.getElem?_set_ne (by omega), ih (by omega) i y (by omega) hy]
          by_cases h5 : y.k = 4
          · rw [if_pos h5, if_pos h5]
          · rw [if_neg h5, if_neg h5, bsz_snoc_other (fun hh => e (hone i y (by omega) hy hh.2.symm))]
    · rw [if_neg h4]
      by_cases e2 : i = k
      · subst e2
        rw [hx] at hy; cases hy
        rw [List.getElem?_set_self (by omega), if_neg h4, bsz_none]
        intro w hw hh
        rcases List.mem_append.1 hw with hw | hw
        · obtain ⟨i', hi', hw'⟩ := mem_take_at hw
          exact plain_first hf hx h4 i' w hi' hw' hh.2
        · rw [List.mem_singleton.1 hw] at hh; exact h4 hh.1
      · rw [List.getElem?_set_ne (by omega), ih (by omega) i y (by omega) hy]
        by_cases h5 : y.k = 4
        · rw [if_pos h5, if_pos h5]
        · rw [if_neg h5, if_neg h5, bsz_snoc_other (fun hh => h4 hh.1)]
/-- how far apart the neighbours of level k are -/
noncomputable def stAt (fs : List Sp) (k : Nat) : Int := (stepK fs fs.length).getD k 0
theorem stAt_eq {xs : List Int} {fs : List Sp} (hf : formOK xs fs) {k : Nat} {x : Sp} (hx : fs[k]? = some x) : stAt fs k = if x.k = 4 then 1 else bsz fs x.m := by
  have := stepK_val hf fs.length (Nat.le_refl _) k x (List.getElem?_eq_some_iff.1 hx).1 hx
  rw [List.take_length] at this
  unfold stAt
  rw [List.getD_eq_getElem?_getD, this]
  rfl
theorem bsz_block {xs : List Int} {fs : List Sp} (hf : formOK xs fs) {k : Nat} {x : Sp} (hx : fs[k]? = some x) (h4 : x.k = 4) : bsz fs x.m = x.s := by
  obtain ⟨j, z, hj, hjk, hz, hzm, hz4, hone⟩ := block_first hf hx h4
  have h1 := stAt_eq hf hz
  rw [if_neg hz4, hzm] at h1
  have hkl := (List.getElem?_eq_some_iff.1 hx).1
  -- no block of that mode stands ahead
  unfold bsz
  cases hh : fs.find? (fun s => s.k == 4 && s.m == x.m) with
  | none =>
    rw [List.find?_eq_none] at hh
    exact absurd (by simpa using h4) (hh x (List.mem_of_getElem? hx))
  | some y =>
    have hy := List.find?_some hh
    have hym := List.mem_of_find?_eq_some hh
    simp at hy
    obtain ⟨i, hi⟩ := List.mem_iff_getElem?.1 hym
    have : i = k := by
      rcases Nat.lt_trichotomy i k with h | h | h
      · obtain rfl := hone i y h hi hy.2
        rw [hz] at hi; cases hi
        exact absurd hy.1 hz4
      · exact h
      · obtain ⟨j2, z2, _, _, hz2, _, hz24, hone2⟩ := block_first hf hi hy.1
        obtain rfl := hone2 k x h hx hy.2.symm
        rw [hx] at hz2; cases hz2
        exact absurd h4 hz24
    subst this
    rw [hx] at hi; cases hi
    rfl
theorem bsz_pos {xs : List Int} {fs : List Sp} (hf : formOK xs fs) (m : Int) : 1 ≤ bsz fs m := by
  unfold bsz
  cases hh : fs.find? (fun s => s.k == 4 && s.m == m) with
  | none => simp
  | some y =>
    have hy := List.find?_some hh
    have hym := List.mem_of_find?_eq_some hh
    simp at hy
    obtain ⟨i, hi⟩ := List.mem_iff_getElem?.1 hym
    rcases (hf.1 i y hi).2.2.2 with hg | hg
    · exact absurd hy.1 hg.2.1
    · exact hg.2.2.1
/-- a mode's size can be divided by its block's -/
theorem bsz_dvd {xs : List Int} {fs : List Sp} (hf : formOK xs fs) (m : Nat) : ∃ q, xs.getD m 0 = q * bsz fs m := by
  unfold bsz
  cases hh : fs.find? (fun s => s.k == 4 && s.m == (m : Int)) with
  | none => exact ⟨xs.getD m 0, by simp⟩
  | some y =>
    have hy := List.find?_some hh
    have hym := List.mem_of_find?_eq_some hh
    simp at hy
    obtain ⟨i, hi⟩ := List.mem_iff_getElem?.1 hym
    rcases (hf.1 i y hi).2.2.2 with hg | hg
    · exact absurd hy.1 hg.2.1
    · have := hg.2.2.2
      rw [hy.2, Int.toNat_natCast] at this
      exact ⟨(xs.getD m 0).tdiv y.s, (Int.tdiv_mul_cancel (Int.dvd_of_tmod_eq_zero this)).symm⟩
end Go.Proofs.Yteepiifhmbcciaa
/- At which place each number of a stored tensor is: by whose child it is, level by level. Plain mathematics. -/
namespace Go.Proofs.Yteepiifhmbcciaa
open Go.RowKit

open Classical in
/-- whose child n is -/
noncomputable def parN (l : Lv) (a n : Nat) : Nat := if h : ∃ p, p < a ∧ offN l.k l.s l.xs p ≤ n ∧ n < offN l.k l.s l.xs (p + 1) then h.choose else 0
theorem parN_eq {l : Lv} {a n p : Nat} (hL : Lok l.k l.s l.xs l.ys a) (hp : p < a) (h1 : offN l.k l.s l.xs p ≤ n) (h2 : n < offN l.k l.s l.xs (p + 1)) : parN l a n = p := by
  have h : ∃ p, p < a ∧ offN l.k l.s l.xs p ≤ n ∧ n < offN l.k l.s l.xs (p + 1) := ⟨p, hp, h1, h2⟩
  unfold parN
  rw [dif_pos h]
  have hc := h.choose_spec
  exact hL.owner_one hc.1 hp hc.2.1 hc.2.2 h1 h2
theorem parN_spec {l : Lv} {a n : Nat} (hL : Lok l.k l.s l.xs l.ys a) (hn : n < totN l.k l.s l.ys a) : parN l a n < a ∧ offN l.k l.s l.xs (parN l a n) ≤ n ∧ n < offN l.k l.s l.xs (parN l a n + 1) := by
  obtain ⟨p, hp, h1, h2⟩ := hL.owner hn
  rw [parN_eq hL hp h1 h2]
  exact ⟨hp, h1, h2⟩
/-- one level more: where its mode then is -/
def stepC (c : List Int) (m : Nat) (d : Int) : List Int := c.set m (c.getD m 0 + d)
/-- the place of node n of level k -/
noncomputable def cN (r : Nat) (fs : List Sp) (ls : List Lv) : Nat → Nat → List Int
  | 0, _ => List.replicate r 0
  | k + 1, n => match ls[k]?, fs[k]? with
    | some l, some f => stepC (cN r fs ls k (parN l (ahN ls k) n)) f.m.toNat (atN l.k l.s l.ys n * stAt fs k)
    | _, _ => List.replicate r 0
theorem cN_succ {r : Nat} {fs : List Sp} {ls : List Lv} {k : Nat} {l : Lv} {f : Sp} (hl : ls[k]? = some l) (hf : fs[k]? = some f) (n : Nat) :
    cN r fs ls (k + 1) n = stepC (cN r fs ls k (parN l (ahN ls k) n)) f.m.toNat (atN l.k l.s l.ys n * stAt fs k) := by rw [cN, hl, hf]
theorem stepC_length (c : List Int) (m : Nat) (d : Int) : (stepC c m d).length = c.length := by unfold stepC; simp
theorem cN_length (r : Nat) (fs : List Sp) (ls : List Lv) (k n : Nat) : (cN r fs ls k n).length = r := by
  induction k generalizing n with
  | zero => simp [cN]
  | succ k ih =>
    rw [cN]
    split
    · rw [stepC_length]; exact ih _
    · simp
theorem stepC_same {c : List Int} {m : Nat} (d : Int) (h : m < c.length) : (stepC c m d).getD m 0 = c.getD m 0 + d := by
  unfold stepC
  rw [List.getD_eq_getElem?_getD, List.getElem?_set_self h]
  rfl
theorem stepC_other {c : List Int} {m i : Nat} (d : Int) (h : i ≠ m) : (stepC c m d).getD i 0 = c.getD i 0 := by
  unfold stepC
  rw [List.getD_eq_getElem?_getD, List.getElem?_set_ne (by omega), List.getD_eq_getElem?_getD]
/-- a tensor that may be -/
structure Tok (xs : List Int) (fs : List Sp) (ls : List Lv) : Prop where
  size : sizesE xs fs = 0
  of : OfP ls fs (sizesL xs fs)
  lev : levE ls ls.length = 0
  rise : RiseL ls
section
variable {xs : List Int} {fs : List Sp} {ls : List Lv}
theorem Tok.form (h : Tok xs fs ls) : formOK xs fs := (sizesE_parts h.size).2.1
theorem Tok.cells (h : Tok xs fs ls) : (cellsF xs).2 = 0 := (sizesE_parts h.size).1
theorem Tok.lok (h : Tok xs fs ls) {k : Nat} {l : Lv} (hl : ls[k]? = some l) : Lok l.k l.s l.xs l.ys (ahN ls k) := lok_at h.lev (List.getElem?_eq_some_iff.1 hl).1 hl
theorem Tok.spec (h : Tok xs fs ls) {k : Nat} {l : Lv} (hl : ls[k]? = some l) : ∃ f, fs[k]? = some f := h.of.spec hl
theorem Tok.level (h : Tok xs fs ls) {k : Nat} {f : Sp} (hf : fs[k]? = some f) : ∃ l, ls[k]? = some l := ⟨_, List.getElem?_eq_getElem (by have := (List.getElem?_eq_some_iff.1 hf).1; have := h.of.1; omega)⟩
theorem Tok.kind (h : Tok xs fs ls) {k : Nat} {l : Lv} {f : Sp} (hl : ls[k]? = some l) (hf : fs[k]? = some f) : l.k = f.k := h.of.kind (sizesL_length _ _) hl hf
theorem Tok.sz (h : Tok xs fs ls) {k : Nat} {l : Lv} {f : Sp} (hl : ls[k]? = some l) (hf : fs[k]? = some f) : l.s = szAt xs fs k := by
  have hk := (List.getElem?_eq_some_iff.1 hf).1
  exact (h.of.2 k l f _ hl hf (by unfold sizesL; rw [List.getElem?_map, List.getElem?_range hk]; rfl)).2
theorem Tok.mode (h : Tok xs fs ls) {k : Nat} {f : Sp} (hf : fs[k]? = some f) : ∃ m : Nat, f.m = (m : Int) ∧ m < xs.length := by
  have h1 := (h.form.1 k f hf).1
  have h2 := (h.form.1 k f hf).2.1
  exact ⟨f.m.toNat, by omega, by omega⟩
theorem Tok.nonneg (h : Tok xs fs ls) (m : Nat) : 0 ≤ xs.getD m 0 := by
  rw [List.getD_eq_getElem?_getD]
  rcases Nat.lt_or_ge m xs.length with hm | hm
  · rw [List.getElem?_eq_getElem hm]; exact cellsF_nonneg h.cells _ (List.getElem_mem hm)
  · rw [List.getElem?_eq_none hm]; simp
/-- a level's size times how far apart its neighbours are: the mode's size, or the block's -/
theorem Tok.szStep (h : Tok xs fs ls) {k : Nat} {l : Lv} {f : Sp} (hl : ls[k]? = some l) (hf : fs[k]? = some f) : l.s * stAt fs k = if f.k = 4 then bsz fs f.m else xs.getD f.m.toNat 0 := by
  rw [h.sz hl hf, stAt_eq h.form hf]
  unfold szAt
  rw [hf]
  simp only
  by_cases h4 : f.k = 4
  · rw [if_pos h4, if_pos h4, if_pos h4, bsz_block h.form hf h4, Int.mul_one]
  · rw [if_neg h4, if_neg h4, if_neg h4]
    obtain ⟨m, hm, hm2⟩ := h.mode hf
    obtain ⟨q, hq⟩ := bsz_dvd h.form m
    have h1 := stAt_eq h.form hf
    rw [if_neg h4] at h1
    have hp := bsz_pos h.form f.m
    have hst : (stepK fs fs.length).getD k 0 = bsz fs f.m := h1
    rw [hst, hm, Int.toNat_natCast, hq, ← hm, Int.mul_tdiv_cancel _ (by omega)]
/-- where a mode is: at 0, ahead of its level; a block's place, ahead of its block; or any place -/
structure InvC (xs : List Int) (fs : List Sp) (k : Nat) (c : List Int) : Prop where
  len : c.length = xs.length
  none_ : ∀ m : Nat, m < xs.length → cntS (fs.take k) m = 0 → c.getD m 0 = 0
  one_ : ∀ m : Nat, m < xs.length → cntS (fs.take k) m = 1 → ∃ q, 0 ≤ q ∧ c.getD m 0 = q * bsz fs m ∧ q * bsz fs m + bsz fs m ≤ xs.getD m 0
  in_ : ∀ m : Nat, m < xs.length → cntS (fs.take k) m ≠ 0 → 0 ≤ c.getD m 0 ∧ c.getD m 0 < xs.getD m 0
theorem invC_zero (xs : List Int) (fs : List Sp) : InvC xs fs 0 (List.replicate xs.length 0) := by
  refine ⟨by simp, fun m hm _ => ?_, fun m _ hc => ?_, fun m _ hc => ?_⟩
  · rw [List.getD_eq_getElem?_getD, List.getElem?_replicate, if_pos hm]; rfl
  · simp [cntS] at hc
  · simp [cntS] at hc
/-- how far a level goes in its mode -/
theorem Tok.range (h : Tok xs fs ls) {k : Nat} {l : Lv} {f : Sp} (hl : ls[k]? = some l) (hf : fs[k]? = some f) {n : Nat} (hn : n < totN l.k l.s l.ys (ahN ls k)) {c : List Int} (hc : InvC xs fs k c) :
    0 ≤ atN l.k l.s l.ys n * stAt fs k ∧ 0 ≤ c.getD f.m.toNat 0 ∧ c.getD f.m.toNat 0 + atN l.k l.s l.ys n * stAt fs k + stAt fs k ≤ xs.getD f.m.toNat 0 ∧ 1 ≤ stAt fs k ∧ (f.k = 4 → stAt fs k = 1 ∧ atN l.k l.s l.ys n < bsz fs f.m ∧ ∃ q, 0 ≤ q ∧ c.getD f.m.toNat 0 = q * bsz fs f.m) ∧ (f.k ≠ 4 → stAt fs k = bsz fs f.m ∧ c.getD f.m.toNat 0 = 0) := by
  obtain ⟨h0, h1⟩ := (h.lok hl).place n hn
  obtain ⟨m, hm, hm2⟩ := h.mode hf
  have hs := h.form.1 k f hf
  have hss := h.szStep hl hf
  have hst := stAt_eq h.form hf
  have hb := bsz_pos h.form f.m
  have h1' : atN l.k l.s l.ys n * stAt fs k + stAt fs k ≤ l.s * stAt fs k := by
    have hp : 1 ≤ stAt fs k := by rw [hst]; split <;> omega
    have := Int.mul_le_mul_of_nonneg_right (show atN l.k l.s l.ys n + 1 ≤ l.s by omega) (show 0 ≤ stAt fs k by omega)
    rw [Int.add_mul, Int.one_mul] at this
    exact this
  by_cases h4 : f.k = 4
  · rw [if_pos h4] at hst hss
    have hc1 : cntS (fs.take k) m = 1 := by
      rcases hs.2.2.2 with hh | hh
      · exact absurd h4 hh.2.1
      · rw [← hm]; exact hh.1
    obtain ⟨q, hq0, hq1, hq2⟩ := hc.one_ m hm2 hc1
    rw [hm, Int.toNat_natCast] at *
    rw [hst] at h1' hss ⊢
    simp only [Int.mul_one] at h1' hss ⊢
    have hbq : 0 ≤ q * bsz fs m := Int.mul_nonneg hq0 (by omega)
    refine ⟨h0, by omega, by omega, by omega, fun _ => ⟨trivial, by omega, q, hq0, hq1⟩, fun hh => absurd h4 hh⟩
  · rw [if_neg h4] at hst hss
    have hc0 : cntS (fs.take k) m = 0 := by
      rcases hs.2.2.2 with hh | hh
      · rw [← hm]; exact hh.1
      · exact absurd hh.2.1 h4
    have hz := hc.none_ m hm2 hc0
    have hnn : 0 ≤ atN l.k l.s l.ys n * stAt fs k := Int.mul_nonneg h0 (by omega)
    rw [hm, Int.toNat_natCast] at *
    refine ⟨hnn, by omega, by rw [hz]; omega, by omega, fun hh => absurd hh h4, fun _ => ⟨hst, hz⟩⟩
theorem invC_step (h : Tok xs fs ls) {k : Nat} {l : Lv} {f : Sp} (hl : ls[k]? = some l) (hf : fs[k]? = some f) {n : Nat} (hn : n < totN l.k l.s l.ys (ahN ls k)) {c : List Int} (hc : InvC xs fs k c) :
    InvC xs fs (k + 1) (stepC c f.m.toNat (atN l.k l.s l.ys n * stAt fs k)) := by
  obtain ⟨r1, r2, r3, r4, r5, r6⟩ := h.range hl hf hn hc
  obtain ⟨m, hm, hm2⟩ := h.mode hf
  have hs := h.form.1 k f hf
  have h0 := ((h.lok hl).place n hn).1
  rw [hm, Int.toNat_natCast] at r2 r3 r5 r6 ⊢
  have hlen := hc.len
  have hcnt : ∀ i : Nat, cntS (fs.take (k + 1)) i = cntS (fs.take k) i + if i = m then 1 else 0 := by
    intro i
    rw [take_succ_of hf, cntS_snoc, hm]
    by_cases e : i = m
    · subst e; simp
    · rw [if_neg (by omega), if_neg e]
  refine ⟨by rw [stepC_length]; exact hlen, fun i hi hci => ?_, fun i hi hci => ?_, fun i hi hci => ?_⟩
  · rw [hcnt] at hci
    have e : i ≠ m := by intro e; rw [if_pos e] at hci; omega
    rw [if_neg e] at hci
    rw [stepC_other _ e]
    exact hc.none_ i hi (by omega)
  · rw [hcnt] at hci
    by_cases e : i = m
    · subst e
      rw [if_pos rfl] at hci
      have hc0 : cntS (fs.take k) i = 0 := by omega
      have h4 : f.k ≠ 4 := by
        rcases hs.2.2.2 with hh | hh
        · exact hh.2.1
        · have := hh.1; rw [hm] at this; omega
      obtain ⟨hst, hz⟩ := r6 h4
      rw [stepC_same _ (by omega), hz, Int.zero_add]
      refine ⟨atN l.k l.s l.ys n, h0, by rw [hst], ?_⟩
      rw [hz, hst] at r3
      omega
    · rw [if_neg e] at hci
      rw [stepC_other _ e]
      exact hc.one_ i hi (by omega)
  · rw [hcnt] at hci
    by_cases e : i = m
    · subst e
      rw [stepC_same _ (by omega)]
      exact ⟨by omega, by omega⟩
    · rw [if_neg e] at hci
      rw [stepC_other _ e]
      exact hc.in_ i hi (by omega)
theorem invC_node (h : Tok xs fs ls) (k : Nat) (hk : k ≤ ls.length) : ∀ n, n < ahN ls k → InvC xs fs k (cN xs.length fs ls k n) := by
  induction k with
  | zero => intro n _; exact invC_zero _ _
  | succ k ih =>
    intro n hn
    obtain ⟨l, hl⟩ : ∃ l, ls[k]? = some l := ⟨_, List.getElem?_eq_getElem (by omega)⟩
    obtain ⟨f, hf⟩ := h.spec hl
    rw [ahN_succ hl] at hn
    rw [cN_succ hl hf]
    exact invC_step h hl hf hn (ih (by omega) _ (parN_spec (h.lok hl) hn).1)
end
/-- the first number below node p -/
def loN : List Lv → Nat → Nat
  | [], p => p
  | l :: r, p => loN r (offN l.k l.s l.xs p)
theorem loN_drop {ls : List Lv} {k : Nat} {l : Lv} (h : ls[k]? = some l) (p : Nat) : loN (ls.drop k) p = loN (ls.drop (k + 1)) (offN l.k l.s l.xs p) := by rw [drop_of h, loN]
end Go.Proofs.Yteepiifhmbcciaa
/- Slices of entries: when one reads as a list of places and numbers. -/
namespace Go.Proofs.Yteepiifhmbcciaa
open Go.RowKit

/-- an entry: its place's header, the place, the number -/
structure Ent where
  A : Option Addr
  n : Nat
  c : Nat
  cs : List Int
  v : Int
/-- the header (A, n) leads to the entries es, in blocks below B -/
def Ents (w : World) (B : Nat) (A : Option Addr) (n : Nat) (es : List Ent) : Prop :=
  es.length = n ∧ (∀ x ∈ es, Ints w B x.A x.n x.cs ∧ x.n ≤ 9223372036854775807 ∧ x.n ≤ x.c ∧ -9223372036854775808 ≤ x.v ∧ x.v ≤ 9223372036854775807) ∧
  (0 < n → ∃ b off, A = some ⟨b, off, none⟩ ∧ b < B ∧ ∀ (k : Nat) (x : Ent), es[k]? = some x → w.cell? ⟨b, off + 2 * k, none⟩ = some (.slice x.A x.n x.c) ∧ w.cell? ⟨b, off + 2 * k + 1, none⟩ = some (.int .i64 x.v))
section
variable {w w' : World} {B B' n : Nat} {A : Option Addr} {es : List Ent}
theorem Ents.nil_ : Ents w B A 0 [] := ⟨rfl, by simp, fun h => absurd h (by omega)⟩
theorem Ents.len (h : Ents w B A n es) : es.length = n := h.1
theorem Ents.keep (h : Ents w B A n es) (hk : ∀ p : Addr, p.block < B → w'.cell? p = w.cell? p) : Ents w' B A n es := by
  obtain ⟨hl, hb, hc⟩ := h
  refine ⟨hl, fun x hx => ⟨(hb x hx).1.keep hk, (hb x hx).2⟩, fun hn => ?_⟩
  obtain ⟨b, off, e, hB, hx⟩ := hc hn
  exact ⟨b, off, e, hB, fun k x hx' => ⟨(hk _ hB).trans (hx k x hx').1, (hk _ hB).trans (hx k x hx').2⟩⟩
theorem Ents.more (h : Ents w B A n es) (hB : B ≤ B') : Ents w B' A n es := by
  obtain ⟨hl, hb, hc⟩ := h
  refine ⟨hl, fun x hx => ⟨(hb x hx).1.more hB, (hb x hx).2⟩, fun hn => ?_⟩
  obtain ⟨b, off, e, hB', hx⟩ := hc hn
  exact ⟨b, off, e, by omega, hx⟩
theorem Ents.below (h : Ents w B A n es) (hb : Below B w w') : Ents w' B A n es := h.keep fun _ hp => hb.cell hp
theorem Ents.at_ {k : Nat} (h : Ents w B A n es) (hk : k < n) :
    ∃ b off x, A = some ⟨b, off, none⟩ ∧ b < B ∧ Hid (es[k]? = some x) ∧ w.cell? ⟨b, off + 2 * k, none⟩ = some (.slice x.A x.n x.c) ∧ w.cell? ⟨b, off + 2 * k + 1, none⟩ = some (.int .i64 x.v) ∧ Ints w B x.A x.n x.cs ∧ x.n ≤ 9223372036854775807 ∧ x.n ≤ x.c ∧ -9223372036854775808 ≤ x.v ∧ x.v ≤ 9223372036854775807 := by
  obtain ⟨hl, hb, hc⟩ := h
  obtain ⟨b, off, rfl, hB, hx⟩ := hc (by omega)
  have hk' : k < es.length := by omega
  have hm := hb _ (List.getElem_mem hk')
  have hx' := hx k _ (List.getElem?_eq_getElem hk')
  exact ⟨b, off, es[k], rfl, hB, List.getElem?_eq_getElem hk', hx'.1, hx'.2, hm.1, hm.2.1, hm.2.2.1, hm.2.2.2.1, hm.2.2.2.2⟩
theorem Ents.take_ {k : Nat} (h : Ents w B A n es) (hk : k ≤ n) : Ents w B A k (es.take k) := by
  obtain ⟨hl, hb, hc⟩ := h
  refine ⟨by rw [List.length_take]; omega, fun x hx => hb x (List.mem_of_mem_take hx), fun h0 => ?_⟩
  obtain ⟨b, off, e, hB, hx⟩ := hc (by omega)
  refine ⟨b, off, e, hB, fun j x hj => hx j x ?_⟩
  rw [List.getElem?_take] at hj
  split at hj
  · exact hj
  · cases hj
theorem Ents.drop_ {k c : Nat} (h : Ents w B A n es) (hk : k ≤ n) (hc : n ≤ c) : Ents w B (if c = k then A else A.map (·.add (k * 2))) (n - k) (es.drop k) := by
  obtain ⟨hl, hb, hcc⟩ := h
  refine ⟨by rw [List.length_drop]; omega, fun x hx => hb x (List.mem_of_mem_drop hx), fun h0 => ?_⟩
  obtain ⟨b, off, rfl, hB, hx⟩ := hcc (by omega)
  rw [if_neg (by omega)]
  refine ⟨b, off + 2 * k, ?_, hB, fun j x hj => ?_⟩
  · by_cases hk0 : k = 0
    · subst hk0; simp [Addr.add]
    · have h2 : ¬ k * 2 = 0 := by omega
      simp [Addr.add, h2, Nat.mul_comm]
  · rw [List.getElem?_drop] at hj
    have := hx (k + j) x hj
    rw [show off + 2 * k + 2 * j = off + 2 * (k + j) by omega]
    exact this
end
end Go.Proofs.Yteepiifhmbcciaa
