/- heads.pass. -/
import Derived.Test.YtnaehnlpcjaaeaaG4
namespace Go.Proofs.Ytnaehnlpcjaaeaa
open Go.RowKit

def sliceLen : Value → Nat
  | .slice _ n _ => n
  | _ => 0
set_option maxRecDepth 100000 in
theorem run_ifaceH (g : Nat) (w : World) : (Instr.makeInterface 44 (.pointer (some ⟨g, 0, none⟩))).run Try.prog w = .ok (.iface 44 (.pointer (some ⟨g, 0, none⟩))) w := by kernel_rfl
/-- what a call of pass leaves -/
structure PassPost (q g base ln cN lc nc : Nat) (LA A : Option Addr) (LL : List (List Int)) (nx : List Int) (at_ : Int) (w w' : World) (H : Option Addr) (ch : Nat) (hs nx' ms : List Int) (A' : Option Addr) (c' : Nat) : Prop where
  heap : HeapB w' g base 50 [.slice LA ln lc, .slice (some ⟨q, 0, none⟩) ln nc] A' c' ms
  heads : HeadsJ q g LA ln cN LL nx' w'
  live : LiveS LL nx' ln ms
  order : HeapP (headF LL nx') ms ms.length
  step : StepP LL nx ln at_ hs nx'
  least : ∀ m ∈ ms, at_ ≤ headF LL nx' m
  own : OwnI w' w.heap.size 3 H ch hs
  apart : Apart H A'
  far : FarQ w w' q g base A A'

theorem PassPost.drewN {q g base ln cN lc nc : Nat} {LA A : Option Addr} {LL : List (List Int)} {nx : List Int} {at_ : Int} {w w' : World} {H : Option Addr} {ch : Nat} {hs nx' ms : List Int} {A' : Option Addr} {c' : Nat} (h : PassPost q g base ln cN lc nc LA A LL nx at_ w w' H ch hs nx' ms A' c') (m : Nat) : PassPost q g base ln cN lc nc LA A LL nx at_ w (w'.drewN m) H ch hs nx' ms A' c' :=
  ⟨h.heap.drewN m, h.heads.drewN m, h.live, h.order, h.step, h.least, h.own, h.apart, h.far.drewN m⟩

set_option maxRecDepth 100000 in
set_option maxHeartbeats 8000000 in
theorem pass_ok (q g base ln cN lc nc : Nat) (LA A : Option Addr) (c : Nat) (ns : List Int) (LL : List (List Int)) (nx : List Int) (w : World) (h : HeapB w g base 50 [.slice LA ln lc, .slice (some ⟨q, 0, none⟩) ln nc] A c ns) (hJ : HeadsJ q g LA ln cN LL nx w) (hS : LiveS LL nx ln ns) (hP : HeapP (headF LL nx) ns ns.length) (h0 : 0 < ns.length) (hz : ∀ k, k < ln → 0 ≤ nxN nx k) (hR : AllRise LL) (hL : ∀ L ∈ LL, L.length ≤ 9223372036854775806) (hln : ln ≤ 1000) :
    Calls Try.prog 27 #[.pointer (some ⟨g, 0, none⟩)] w fun e w' => ∃ (at_ : Int) (H : Option Addr) (hs : List Int) (ch : Nat) (nx' ms : List Int) (A' : Option Addr) (c' : Nat), e = .returned (.tuple #[.int .i64 at_, .slice H hs.length ch]) ∧
      PassPost q g base ln cN lc nc LA A LL nx at_ w w' H ch hs nx' ms A' c' ∧ at_ = headF LL nx (atN ns 0) ∧ ∀ m ∈ ms, at_ < headF LL nx' m := by
  have hll : LL.length = ln := hJ.lists.1
  have hL7 : ∀ L ∈ LL, L.length ≤ 9223372036854775807 := fun L hm => by have := hL L hm; omega
  have hnn : ∀ i ∈ nx, 0 ≤ i := (step_nil LL 0 hJ.len).nonneg hz
  obtain ⟨n0, hn0⟩ : ∃ n0, ns[0]? = some n0 := ⟨_, List.getElem?_eq_getElem h0⟩
  obtain ⟨at_, hat⟩ := hS.goes hJ.len hll hnn n0 (List.mem_of_getElem? hn0)
  have HAT : Hid (at_ = headF LL nx (atN ns 0)) := by unfold Hid; rw [atN_of hn0, hat.head]
  have cH := head_any q g base ln cN lc nc LA A c ns LL nx n0 at_ w h hJ hat hL7 (by omega)
  obtain ⟨b, hA⟩ : ∃ b, A = some ⟨b, 0, none⟩ := by
    rcases h.own.1.2 with ⟨_, h2⟩ | ⟨b, cap, cur, h1, _⟩
    · omega
    · injection h1 with h1; exact ⟨b, h1⟩
  subst hA
  obtain ⟨c0, _⟩ := h.own.cell_ hn0
  have hcl := h.cell
  have HGE0 : Hid (∀ m ∈ ns, at_ ≤ headF LL nx m) := fun m hm => by
    obtain ⟨k, hk, rfl⟩ := List.getElem_of_mem hm
    have h1 := hP.min k hk
    have h2 : atN ns k = ns[k] := by simp [atN, List.getD, List.getElem?_eq_getElem hk]
    rw [h2] at h1
    rw [HAT.out]; exact h1
  have HP0 : Hid (PassPost q g base ln cN lc nc LA (some ⟨b, 0, none⟩) LL nx at_ w w none 0 [] nx ns (some ⟨b, 0, none⟩) c) :=
    ⟨h, hJ, hS, hP, step_nil LL at_ hJ.len, HGE0.out, OwnI.nil_ _ _ _, fun _ e => (by cases e), FarQ.refl _ _ _ _ _⟩
  have HR := Lib.hid hR
  have HL := Lib.hid hL
  have HL7 := Lib.hid hL7
  have HZ := Lib.hid hz
  have HLL := Lib.hid hll
  have HBW := Lib.hid h.sz
  have HGB := Lib.hid h.lt
  have HQG := Lib.hid hJ.lt
  obtain ⟨i0, hi0, hz0, hz1, hz2⟩ := info_parts infoInt
  obtain ⟨N, hN⟩ : ∃ N, ns.length = N := ⟨_, rfl⟩
  rw [hN] at hcl h0
  have z1 : (0 : Int) < (N : Int) := by omega
  clear h hJ hS hP hz hnn hat hR hL hL7 hll hN hn0
  go_enter Try.func27, Try.ntmps27
  go_wp2_with (first | (go_at_call 43; refine cH.mono ?_; rintro e w2 ⟨rfl, q2, rfl⟩))
  go_loopw [5] (fun v wr => ∃ (hs : List Int) (r : Nat) (H : Option Addr) (ch : Nat) (nx' ms : List Int) (A' : Option Addr) (c' : Nat), v = .slice H r ch ∧ hs.length = r ∧ Hid (PassPost q g base ln cN lc nc LA (some ⟨b, 0, none⟩) LL nx at_ w wr H ch hs nx' ms A' c')) (fun v _ => ln - sliceLen v)
  case atStart => exact ⟨[], 0, none, 0, nx, ns, some ⟨b, 0, none⟩, c, rfl, rfl, HP0.out.drewN _⟩
  case round =>
    obtain ⟨hs, r, H, ch, nx', ms, A', c', rfl, hr, HP⟩ := hrel
    have hrl := HP.out.step.le
    have hml := HP.out.live.le
    by_cases hlt : 0 < ms.length
    · obtain ⟨n0, hn0⟩ : ∃ n0, ms[0]? = some n0 := ⟨_, List.getElem?_eq_getElem hlt⟩
      obtain ⟨n, rfl, hn, hlv⟩ := (HP.out.live.2 n0).1 (List.mem_of_getElem? hn0)
      have hDD := HP.out.live.goes HP.out.heads.len HLL.out (HP.out.step.nonneg HZ.out)
      obtain ⟨x, hx⟩ := hDD n (List.mem_of_getElem? hn0)
      have cHx := head_any q g base ln cN lc nc LA A' c' ms LL nx' n x wr HP.out.heap HP.out.heads hx HL7.out (by omega)
      obtain ⟨b', hA'⟩ : ∃ b', A' = some ⟨b', 0, none⟩ := by
        rcases HP.out.heap.own.1.2 with ⟨_, h2⟩ | ⟨b, cap, cur, h1, _⟩
        · omega
        · injection h1 with h1; exact ⟨b, h1⟩
      subst hA'
      obtain ⟨d0, _⟩ := HP.out.heap.own.cell_ hn0
      have dcl := HP.out.heap.cell
      obtain ⟨N', hN'⟩ : ∃ N', ms.length = N' + 1 := ⟨ms.length - 1, by omega⟩
      rw [hN'] at dcl
      have y1 : (0 : Int) < ((N' + 1 : Nat) : Int) := by omega
      have y2 : decide ((0 : Int) < ((N' + 1 : Nat) : Int)) = true := decide_eq_true y1
      by_cases hxa : x = at_
      · subst hxa
        have HHX : Hid (headF LL nx' n = x) := hx.head
        have HLS : Hid (nx'.length = ln) := HP.out.step.len
        obtain ⟨k0, L0, p0, hL0, hp0, hp1, hp2⟩ := hx
        obtain ⟨p, rfl⟩ : ∃ p : Nat, p0 = (p : Int) := ⟨p0.toNat, by omega⟩
        rw [Int.toNat_natCast] at hL0 hp0 hp2
        have hpn : nxN nx' n = (p : Int) := by simp [nxN, List.getD, hp0]
        have hpL : p < L0.length := (List.getElem?_eq_some_iff.1 hp2).1
        have hL0m := HL.out L0 (List.mem_of_getElem? hL0)
        have HpB : Hid (p ≤ 9223372036854775805) := by unfold Hid; omega
        have HL0 := Lib.hid hL0
        have HP0n := Lib.hid hp0
        have cPop := fun m : Nat => heapPop (heads_ok q g base ln cN lc nc LA LL nx' HL7.out (by omega) HGB.out) (some ⟨b', 0, none⟩) c' N' ms (wr.drewN m) (HP.out.heap.drewN m) (HP.out.heads.drewN m) hDD hN' (by omega) (by rw [← hN']; exact HP.out.order) n hn0
        have hif := run_ifaceH g
        have hta := run_assert (n : Int)
        have HRL := Lib.hid hr
        have HPN := Lib.hid hpn
        have hzq : Hid (q < w.heap.size ∧ g < w.heap.size) := ⟨by have := HBW.out; have := HGB.out; have := HQG.out; omega, by have := HBW.out; have := HGB.out; omega⟩
        have hrl2 : r ≤ ln := by omega
        have k1 : (n : Int) < (ln : Int) := by omega
        have k0 : (0 : Int) ≤ (n : Int) := by omega
        have e2 : IntKind.i64.wrap ((p : Int) + 1) = (p : Int) + 1 := by rw [wrap_eq]; exact IntWalk.wrap64_in _ ⟨by have := HpB.out; omega, by have := HpB.out; omega⟩
        obtain ⟨v2, hv2⟩ : ∃ v2, (p : Int) + 1 = v2 := ⟨_, rfl⟩
        have HV2 : Hid (-9223372036854775808 ≤ v2 ∧ v2 ≤ 9223372036854775807) := ⟨by have := HpB.out; omega, by have := HpB.out; omega⟩
        rw [hv2] at e2
        have HVP : Hid (nxN nx' n + 1 = v2) := by unfold Hid; rw [HPN.out, hv2]
        by_cases hb2 : liveB LL (nx'.set n v2) n = true
        · have HB2 := Lib.hid hb2
          clear hlv hDD hn0 hlt hL0 hp0 hp1 hp2 hL0m hpL hb2 hr hrl hpn hn
          go_wp2_with (first | (go_at_call 26; refine (numLen _ _ _ _).mono ?_; rintro e w2 ⟨rfl, rfl⟩) | (go_at_call 43; refine cHx.mono ?_; rintro e w2 ⟨rfl, q3, rfl⟩)  | (go_at_call 44; refine (cPop _).mono ?_; rintro e w3 ⟨rfl, ms3, hB3, hP3, hl3, hH3, hF3⟩; have hO3 := hF3.own hzq.out.2 HP.out.own HP.out.apart; have hsz3 : w.heap.size ≤ w3.heap.size := Nat.le_trans HP.out.far.size hF3.size)  | (at_builtin; refine wpList_appendWhere _ rfl (.tmp 37) (.tmp 39) 25 rfl w.heap.size 3 i0 Try.underlying25 hi0 hz0 hz1 hz2 H (some ⟨w3.heap.size, 0, none⟩) ch 1 1 (w3.heap.size + 1) r (r + 1) hs [(n : Int)] rfl rfl (hO3.1.alloc _) HRL.out rfl (src_new w3 ⟨by omega, by omega⟩) (by omega) (by simp; omega) ?_; intro H4 c4 w4 HO4 HG4 HW4; obtain ⟨hB4, hAP4, hbl4⟩ := app_beside hB3 hO3.1 HRL.out hO3.2 HBW.out hsz3 HO4 HG4 HW4; have HPZ := pass_turn HP.out.step HP.out.live HP.out.least HR.out HLL.out HZ.out hP3 HHX.out; rw [HVP.out] at HPZ; obtain ⟨t1, t2, t3, t4⟩ := HPZ; have hJ3 := (HP.out.heads.drewN _).keep hF3 HGB.out; have hJ4 := hJ3.same hbl4 hzq.out.1; have r2 := hB4.restAt (k := 1) (v := .slice (some ⟨q, 0, none⟩) ln nc) rfl; obtain ⟨nxc, nxf⟩ := hJ4.next.cell_ HP0n.out; have hB5 := hB4.setQ HQG.out n (.int .i64 v2); have hJ5 := hJ4.set n v2 HV2.out (Nat.le_of_lt (Nat.lt_of_lt_of_le hzq.out.1 (Nat.le_trans hsz3 hbl4.size))); have hO5 := HO4.setBelow (a := ⟨q, n, none⟩) hzq.out.1 (.int .i64 v2); have hF5 := (((HP.out.far.drewN _).trans hF3.toQ).then hbl4 HBW.out).set n (.int .i64 v2); have hrl4 : r + 1 ≤ ln := (by have := t1.le; rw [List.length_append, HRL.out] at this; exact this); have hlv5 := t3 HB2.out (ms3 ++ [(n : Int)]) (List.Perm.refl _); have hg5 := hlv5.1.goes hJ5.len HLL.out (t1.nonneg HZ.out); obtain ⟨y, hy⟩ := hg5 n (by simp); have hH5 : HeapP (headF LL (nx'.set n v2)) ms3 ms3.length := heapP_same (by rw [hl3]; exact hH3) (Nat.le_refl _) t2; have cPut := headsPut_go q g base ln cN lc nc LA (some ⟨b', 0, none⟩) c' ms3 LL (nx'.set n v2) (n : Int) y _ hB5 hJ5 HL7.out (by omega) (fun m hm => hg5 m (List.mem_append.2 (.inl hm))) hy (by omega) hH5) | (go_at_call 42; refine cPut.mono ?_; rintro e w6 ⟨rfl, ms6, A6, c6, hB6, hP6, hH6, hF6⟩))
          go_roundw
          case rel =>
            have hO6 := hF6.own hzq.out.2 hO5 hAP4
            exact ⟨hs ++ [(n : Int)], r + 1, H4, c4, nx'.set n v2, ms6, A6, c6, rfl, by rw [List.length_append, HRL.out]; rfl, ⟨hB6, hJ5.keep hF6 HGB.out, (t3 HB2.out ms6 hP6).1, hH6, t1, (t3 HB2.out ms6 hP6).2, hO6.1, hO6.2, hF5.trans hF6.toQ⟩⟩
          case measure => simp [sliceLen]; omega
        · have HB2 := Lib.hid hb2
          have HN2 : Hid ((nx'.set n v2)[n]? = some (((p + 1 : Nat)) : Int)) := by
            unfold Hid
            rw [List.getElem?_set, if_pos rfl, if_pos (by rw [HLS.out]; exact hn), ← hv2]
            rfl
          have HLE : Hid (L0.length ≤ p + 1) := by
            unfold Hid
            rw [live_iff, nxN_set (by rw [HLS.out]; exact hn), if_pos rfl, ← hv2] at hb2
            simp only [List.getD, HL0.out, Option.getD_some] at hb2
            omega
          clear hlv hDD hn0 hlt hL0 hp0 hp1 hp2 hL0m hpL hb2 hr hrl hpn hn
          go_wp2_with (first | (go_at_call 26; refine (numLen _ _ _ _).mono ?_; rintro e w2 ⟨rfl, rfl⟩) | (go_at_call 43; refine cHx.mono ?_; rintro e w2 ⟨rfl, q3, rfl⟩)  | (go_at_call 44; refine (cPop _).mono ?_; rintro e w3 ⟨rfl, ms3, hB3, hP3, hl3, hH3, hF3⟩; have hO3 := hF3.own hzq.out.2 HP.out.own HP.out.apart; have hsz3 : w.heap.size ≤ w3.heap.size := Nat.le_trans HP.out.far.size hF3.size)  | (at_builtin; refine wpList_appendWhere _ rfl (.tmp 37) (.tmp 39) 25 rfl w.heap.size 3 i0 Try.underlying25 hi0 hz0 hz1 hz2 H (some ⟨w3.heap.size, 0, none⟩) ch 1 1 (w3.heap.size + 1) r (r + 1) hs [(n : Int)] rfl rfl (hO3.1.alloc _) HRL.out rfl (src_new w3 ⟨by omega, by omega⟩) (by omega) (by simp; omega) ?_; intro H4 c4 w4 HO4 HG4 HW4; obtain ⟨hB4, hAP4, hbl4⟩ := app_beside hB3 hO3.1 HRL.out hO3.2 HBW.out hsz3 HO4 HG4 HW4; have HPZ := pass_turn HP.out.step HP.out.live HP.out.least HR.out HLL.out HZ.out hP3 HHX.out; rw [HVP.out] at HPZ; obtain ⟨t1, t2, t3, t4⟩ := HPZ; have hJ3 := (HP.out.heads.drewN _).keep hF3 HGB.out; have hJ4 := hJ3.same hbl4 hzq.out.1; have r2 := hB4.restAt (k := 1) (v := .slice (some ⟨q, 0, none⟩) ln nc) rfl; obtain ⟨nxc, nxf⟩ := hJ4.next.cell_ HP0n.out; have hB5 := hB4.setQ HQG.out n (.int .i64 v2); have hJ5 := hJ4.set n v2 HV2.out (Nat.le_of_lt (Nat.lt_of_lt_of_le hzq.out.1 (Nat.le_trans hsz3 hbl4.size))); have hO5 := HO4.setBelow (a := ⟨q, n, none⟩) hzq.out.1 (.int .i64 v2); have hF5 := (((HP.out.far.drewN _).trans hF3.toQ).then hbl4 HBW.out).set n (.int .i64 v2); have hrl4 : r + 1 ≤ ln := (by have := t1.le; rw [List.length_append, HRL.out] at this; exact this); have cPut := headsPut_end q g base ln cN lc nc LA (some ⟨b', 0, none⟩) c' ms3 LL (nx'.set n v2) n (p + 1) L0 _ hB5 hJ5 HL0.out HN2.out HLE.out) | (go_at_call 42; refine cPut.mono ?_; rintro e w6 ⟨rfl, q6, rfl⟩))
          go_roundw
          case rel => exact ⟨hs ++ [(n : Int)], r + 1, H4, c4, nx'.set n v2, ms3, _, c', rfl, by rw [List.length_append, HRL.out]; rfl, ⟨hB5.drewN _, hJ5.drewN _, (t4 HB2.out).1, heapP_same (by rw [hl3]; exact hH3) (Nat.le_refl _) t2, t1, (t4 HB2.out).2, hO5, hAP4, hF5.drewN _⟩⟩
          case measure => simp [sliceLen]; omega
      · have HGT : Hid (∀ m ∈ ms, at_ < headF LL nx' m) := fun m hm => by
          obtain ⟨k, hk, rfl⟩ := List.getElem_of_mem hm
          have h1 := HP.out.order.min k hk
          have h2 : atN ms k = ms[k] := by simp [atN, List.getD, List.getElem?_eq_getElem hk]
          rw [h2, atN_of hn0, hx.head] at h1
          have h3 := HP.out.least n (List.mem_of_getElem? hn0)
          rw [hx.head] at h3
          omega
        have HRL := Lib.hid hr
        clear hrl hml hn hlv hDD hx hn0 hlt hr
        go_wp2_with (first | (go_at_call 26; refine (numLen _ _ _ _).mono ?_; rintro e w2 ⟨rfl, rfl⟩) | (go_at_call 43; refine cHx.mono ?_; rintro e w2 ⟨rfl, q3, rfl⟩))
        go_ret2
        exact ⟨at_, H, hs, ch, nx', ms, _, c', by rw [HRL.out]; rfl, HP.out.drewN _, HAT.out, HGT.out⟩
    · obtain ⟨N', hN'⟩ : ∃ N', ms.length = N' := ⟨_, rfl⟩
      obtain rfl : N' = 0 := by omega
      have dcl := HP.out.heap.cell
      rw [hN'] at dcl
      have hms : ms = [] := List.eq_nil_of_length_eq_zero hN'
      have HGT : Hid (∀ m ∈ ms, at_ < headF LL nx' m) := fun m hm => by rw [hms] at hm; cases hm
      have HRL := Lib.hid hr
      clear hrl hml hlt hr hms hN'
      go_wp2_with (first | (go_at_call 26; refine (numLen _ _ _ _).mono ?_; rintro e w2 ⟨rfl, rfl⟩))
      go_ret2
      exact ⟨at_, H, hs, ch, nx', ms, _, c', by rw [HRL.out]; rfl, HP.out.drewN 0, HAT.out, HGT.out⟩
end Go.Proofs.Ytnaehnlpcjaaeaa
/- What merge's passes come to, one after another: plain mathematics. -/
namespace Go.Proofs.Ytnaehnlpcjaaeaa

/-- what list k has gone by -/
def byN (LL : List (List Int)) (nx : List Int) (k : Nat) : List Int := (LL.getD k []).take (nxN nx k).toNat
/-- u is what the lists have gone by, in order -/
structure MergeI (LL : List (List Int)) (nx : List Int) (ln : Nat) (u : List Int) : Prop where
  rise : u.Pairwise (· < ·)
  mem : ∀ m, m ∈ u ↔ ∃ k, k < ln ∧ m ∈ byN LL nx k
  ahead : ∀ m ∈ u, ∀ k, k < ln → liveB LL nx k = true → m < headF LL nx k
theorem mergeI_start (LL : List (List Int)) (ln : Nat) : MergeI LL (List.replicate ln 0) ln [] := by
  refine ⟨List.Pairwise.nil, fun m => ⟨fun h => (by cases h), ?_⟩, fun m h => (by cases h)⟩
  rintro ⟨k, hk, h⟩
  have : nxN (List.replicate ln 0) k = 0 := by simp [nxN, List.getD, hk]
  simp [byN, this] at h
theorem drop_ge {L : List Int} (hR : L.Pairwise (· < ·)) {i : Nat} {v : Int} (h : v ∈ L.drop i) : i < L.length ∧ L.getD i 0 ≤ v := by
  obtain ⟨j, hj, rfl⟩ := List.getElem_of_mem h
  rw [List.length_drop] at hj
  refine ⟨by omega, ?_⟩
  rw [List.getElem_drop]
  have e : L[i + j]'(by omega) = L.getD (i + j) 0 := by simp [List.getD, List.getElem?_eq_getElem (show i + j < L.length by omega)]
  rw [e]
  rcases Nat.eq_zero_or_pos j with h0 | h0
  · subst h0; exact Int.le_refl _
  · exact Int.le_of_lt (rise_lt hR (by omega) (by omega))
theorem take_next {L : List Int} {i : Nat} (h : i < L.length) : L.take (i + 1) = L.take i ++ [L.getD i 0] := by
  rw [List.take_add_one, List.getElem?_eq_getElem h]
  simp [List.getD, List.getElem?_eq_getElem h]
section
variable {LL : List (List Int)} {nx nx' : List Int} {ln : Nat} {at_ : Int} {hs u : List Int}
/-- how a pass goes: by the least of all heads -/
structure PassS (LL : List (List Int)) (nx : List Int) (ln : Nat) (at_ : Int) (hs nx' : List Int) : Prop where
  step : StepP LL nx ln at_ hs nx'
  whole : ∀ m, m ∈ hs ↔ ∃ k : Nat, m = (k : Int) ∧ k < ln ∧ liveB LL nx k = true ∧ headF LL nx k = at_
  least : ∀ k, k < ln → liveB LL nx k = true → at_ ≤ headF LL nx k
  one : ∃ k : Nat, k < ln ∧ (k : Int) ∈ hs
theorem PassS.by_ (h : PassS LL nx ln at_ hs nx') (hz : ∀ k, k < ln → 0 ≤ nxN nx k) {k : Nat} (hk : k < ln) : byN LL nx' k = byN LL nx k ++ if (k : Int) ∈ hs then [at_] else [] := by
  have h1 := h.step.nx k hk
  have h2 := hz k hk
  by_cases hh : (k : Int) ∈ hs
  · rw [if_pos hh] at h1 ⊢
    obtain ⟨k', e, _, hl, ha⟩ := (h.whole _).1 hh
    obtain rfl : k = k' := by omega
    rw [headF_nat] at ha
    rw [live_iff] at hl
    unfold byN
    rw [h1, show (nxN nx k + 1).toNat = (nxN nx k).toNat + 1 by omega, take_next hl, ha]
  · rw [if_neg hh] at h1 ⊢
    unfold byN
    rw [h1]; simp
theorem MergeI.lt (hI : MergeI LL nx ln u) (h : PassS LL nx ln at_ hs nx') : ∀ m ∈ u, m < at_ := fun m hm => by
  obtain ⟨k, hk, hh⟩ := h.one
  obtain ⟨k', e, _, hl, ha⟩ := (h.whole _).1 hh
  obtain rfl : k = k' := by omega
  rw [← ha]; exact hI.ahead m hm k hk hl
/-- the lists that go on are just those that have the number -/
theorem MergeI.has (hI : MergeI LL nx ln u) (h : PassS LL nx ln at_ hs nx') (hR : AllRise LL) (hll : LL.length = ln) {k : Nat} (hk : k < ln) : at_ ∈ LL.getD k [] ↔ (k : Int) ∈ hs := by
  constructor
  · intro hm
    rw [← List.take_append_drop (nxN nx k).toNat (LL.getD k [])] at hm
    rcases List.mem_append.1 hm with h1 | h1
    · have := hI.lt h at_ ((hI.mem at_).2 ⟨k, hk, h1⟩)
      omega
    · obtain ⟨h2, h3⟩ := drop_ge (hR _ (getD_mem (by omega))) h1
      have hl : liveB LL nx k = true := live_iff.2 h2
      have h4 := h.least k hk hl
      rw [← headF_nat] at h3
      exact (h.whole _).2 ⟨k, rfl, hk, hl, by omega⟩
  · intro hh
    obtain ⟨k', e, _, hl, ha⟩ := (h.whole _).1 hh
    obtain rfl : k = k' := by omega
    rw [headF_nat] at ha
    rw [live_iff] at hl
    rw [← ha]
    have e : (LL.getD k []).getD (nxN nx k).toNat 0 = (LL.getD k [])[(nxN nx k).toNat] := by rw [List.getD_eq_getElem?_getD, List.getElem?_eq_getElem hl]; rfl
    rw [e]
    exact List.getElem_mem _
theorem MergeI.next (hI : MergeI LL nx ln u) (h : PassS LL nx ln at_ hs nx') (hR : AllRise LL) (hll : LL.length = ln) (hz : ∀ k, k < ln → 0 ≤ nxN nx k) : MergeI LL nx' ln (u ++ [at_]) := by
  have hlt := hI.lt h
  refine ⟨?_, fun m => ⟨fun hm => ?_, ?_⟩, fun m hm k hk hl => ?_⟩
  · rw [List.pairwise_append]
    exact ⟨hI.rise, List.pairwise_singleton _ _, fun a ha b hb => by rw [List.mem_singleton.1 hb]; exact hlt a ha⟩
  · rcases List.mem_append.1 hm with hm | hm
    · obtain ⟨k, hk, h1⟩ := (hI.mem m).1 hm
      exact ⟨k, hk, by rw [h.by_ hz hk]; exact List.mem_append.2 (.inl h1)⟩
    · obtain ⟨k, hk, hh⟩ := h.one
      exact ⟨k, hk, by rw [h.by_ hz hk, if_pos hh]; exact List.mem_append.2 (.inr hm)⟩
  · rintro ⟨k, hk, h1⟩
    rw [h.by_ hz hk] at h1
    rcases List.mem_append.1 h1 with h1 | h1
    · exact List.mem_append.2 (.inl ((hI.mem m).2 ⟨k, hk, h1⟩))
    · by_cases hh : (k : Int) ∈ hs
      · rw [if_pos hh] at h1; exact List.mem_append.2 (.inr h1)
      · rw [if_neg hh] at h1; cases h1
  · have hle : m ≤ at_ := by
      rcases List.mem_append.1 hm with hm | hm
      · exact Int.le_of_lt (hlt m hm)
      · rw [List.mem_singleton.1 hm]; exact Int.le_refl _
    by_cases hh : (k : Int) ∈ hs
    · have := h.step.gone hR hll hz hh hl
      omega
    · obtain ⟨_, s2, s3⟩ := h.step.stays hk hh
      rw [s2] at hl
      rw [s3]
      have h1 := h.least k hk hl
      have h2 : headF LL nx k ≠ at_ := fun e => hh ((h.whole _).2 ⟨k, rfl, hk, hl, e⟩)
      omega
/-- none is left: u is what all lists have -/
theorem MergeI.done (hI : MergeI LL nx ln u) (hS : LiveS LL nx ln []) (m : Int) : m ∈ u ↔ ∃ k, k < ln ∧ m ∈ LL.getD k [] := by
  have key : ∀ k, k < ln → byN LL nx k = LL.getD k [] := fun k hk => by
    have : ¬ liveB LL nx k = true := fun hl => by
      have := (hS.2 (k : Int)).2 ⟨k, rfl, hk, hl⟩
      cases this
    rw [live_iff] at this
    exact List.take_of_length_le (by omega)
  rw [hI.mem]
  constructor
  · rintro ⟨k, hk, h⟩; exact ⟨k, hk, key k hk ▸ h⟩
  · rintro ⟨k, hk, h⟩; exact ⟨k, hk, (key k hk).symm ▸ h⟩
end
end Go.Proofs.Ytnaehnlpcjaaeaa
/- heads.pass, as merge's functions call it. -/
namespace Go.Proofs.Ytnaehnlpcjaaeaa
open Go.RowKit

theorem goes_bound {q g ln cN : Nat} {LA : Option Addr} {LL : List (List Int)} {nx : List Int} {w : World} {n x : Int} (h : HeadsJ q g LA ln cN LL nx w) (hg : Goes LL nx n x) : -9223372036854775808 ≤ x ∧ x ≤ 9223372036854775807 := by
  obtain ⟨h0, L, i, h1, h2, h3, h4⟩ := hg
  have hk : n.toNat < ln := by have := (List.getElem?_eq_some_iff.1 h1).1; have := h.lists.1; omega
  obtain ⟨b, off, L', a, lc', _, _, hL1, _, _, hI⟩ := h.lists.at_ hk
  have e1 : L' = L := by have := hL1.out; rw [h1] at this; injection this with this; exact this.symm
  rw [e1] at hI
  have hpl : i.toNat < L.length := (List.getElem?_eq_some_iff.1 h4).1
  obtain ⟨b2, off2, x', _, _, hX, _, y1, y2⟩ := hI.at_ hpl
  have e2 : x' = x := by have := hX.out; rw [h4] at this; injection this with this; exact this.symm
  rw [e2] at y1 y2
  exact ⟨y1, y2⟩
/-- the heads at work: how far the lists have gone, those that have not ended in a heap -/
structure HeadsW (q g base ln cN lc nc : Nat) (LA : Option Addr) (LL : List (List Int)) (w : World) (nx ns : List Int) (A : Option Addr) (c : Nat) : Prop where
  heap : HeapB w g base 50 [.slice LA ln lc, .slice (some ⟨q, 0, none⟩) ln nc] A c ns
  heads : HeadsJ q g LA ln cN LL nx w
  live : LiveS LL nx ln ns
  order : HeapP (headF LL nx) ns ns.length
  nonneg : ∀ k, k < ln → 0 ≤ nxN nx k
theorem HeadsW.drewN {q g base ln cN lc nc : Nat} {LA : Option Addr} {LL : List (List Int)} {w : World} {nx ns : List Int} {A : Option Addr} {c : Nat} (h : HeadsW q g base ln cN lc nc LA LL w nx ns A c) (m : Nat) : HeadsW q g base ln cN lc nc LA LL (w.drewN m) nx ns A c := ⟨h.heap.drewN m, h.heads.drewN m, h.live, h.order, h.nonneg⟩
theorem pass_go (q g base ln cN lc nc : Nat) (LA A : Option Addr) (c : Nat) (ns : List Int) (LL : List (List Int)) (nx : List Int) (w : World) (h : HeadsW q g base ln cN lc nc LA LL w nx ns A c) (h0 : 0 < ns.length) (hR : AllRise LL) (hL : ∀ L ∈ LL, L.length ≤ 9223372036854775806) (hln : ln ≤ 1000) :
    Calls Try.prog 27 #[.pointer (some ⟨g, 0, none⟩)] w fun e w' => ∃ (at_ : Int) (H : Option Addr) (hs : List Int) (ch : Nat) (nx' ms : List Int) (A' : Option Addr) (c' : Nat), e = .returned (.tuple #[.int .i64 at_, .slice H hs.length ch]) ∧
      HeadsW q g base ln cN lc nc LA LL w' nx' ms A' c' ∧ PassS LL nx ln at_ hs nx' ∧ OwnI w' w.heap.size 3 H ch hs ∧ Apart H A' ∧ FarQ w w' q g base A A' ∧ -9223372036854775808 ≤ at_ ∧ at_ ≤ 9223372036854775807 := by
  refine (pass_ok q g base ln cN lc nc LA A c ns LL nx w h.heap h.heads h.live h.order h0 h.nonneg hR hL hln).mono ?_
  rintro e w' ⟨at_, H, hs, ch, nx', ms, A', c', rfl, hp, hat, hgt⟩
  have hmem : atN ns 0 ∈ ns := by
    have : atN ns 0 = ns[0] := by simp [atN, List.getD, List.getElem?_eq_getElem h0]
    rw [this]; exact List.getElem_mem _
  obtain ⟨n, hn, hnl, hlv⟩ := (h.live.2 _).1 hmem
  have hnn : ∀ i ∈ nx, 0 ≤ i := (step_nil LL 0 h.heads.len).nonneg h.nonneg
  obtain ⟨x, hx⟩ := h.live.goes h.heads.len h.heads.lists.1 hnn _ hmem
  have hb := goes_bound h.heads hx
  rw [← hx.head, ← hat] at hb
  have hw := hp.step.whole hp.live hgt
  refine ⟨at_, H, hs, ch, nx', ms, A', c', rfl, ⟨hp.heap, hp.heads, hp.live, hp.order, fun k hk => ?_⟩, ⟨hp.step, hw, fun k hk hl => ?_, ⟨n, hnl, ?_⟩⟩, hp.own, hp.apart, hp.far, hb.1, hb.2⟩
  · have h1 := hp.step.nx k hk
    have h2 := h.nonneg k hk
    have h4 : (0 : Int) ≤ if (k : Int) ∈ hs then 1 else 0 := by split <;> omega
    omega
  · have hm := (h.live.2 (k : Int)).2 ⟨k, rfl, hk, hl⟩
    obtain ⟨j, hj, e⟩ := List.getElem_of_mem hm
    have h1 := h.order.min j hj
    have h2 : atN ns j = ns[j] := by simp [atN, List.getD, List.getElem?_eq_getElem hj]
    rw [h2, e, ← hat] at h1
    exact h1
  · exact (hw _).2 ⟨n, rfl, hnl, hlv, by rw [← hn]; exact hat.symm⟩
end Go.Proofs.Ytnaehnlpcjaaeaa
/- merge.open, where a list does not rise. -/
namespace Go.Proofs.Ytnaehnlpcjaaeaa
open Go.RowKit

set_option maxRecDepth 100000 in
set_option maxHeartbeats 8000000 in
theorem open_err (LA : Option Addr) (ln lc : Nat) (LL : List (List Int)) (w : World) (h : IntsLL w w.heap.size LA ln LL) (hL : ∀ L ∈ LL, L.length ≤ 9223372036854775806) (hln : ln ≤ 1000) (hR : ¬ AllRise LL) :
    Calls Try.prog 25 #[.slice LA ln lc] w fun e w' => e = .returned (.tuple #[.pointer none, .int .i64 1]) ∧ Below w.heap.size w w' := by
  obtain ⟨i0, hi0, hz0, hz1, hz2⟩ := info_parts infoInt
  have hmk := fun W => run_makeAll (P := Try.prog) 25 3 i0 Try.underlying25 hi0 hz0 hz1 hz2 ln (by omega) W
  have hs1 : w.heap.size ≤ w.heap.size := Nat.le_refl _
  have hown := own_made w 3 ln w.heap.size hs1 (by omega)
  have HLN : Hid (LL.length = ln) := h.1
  have HLL := Lib.hid h
  have HLB := Lib.hid hL
  have HRR := Lib.hid hR
  clear h hL hR
  go_enter Try.func25, Try.ntmps25
  go_wp2_with fail
  have z0 := (Below.refl w.heap.size w).alloc (Nat.le_refl _) (.cells (madeCells #[.int .i64 0] ln) 3)
  have z1 := z0.alloc z0.size (.cells #[.slice none 0 0, .slice LA ln lc, .slice (some ⟨w.heap.size, 0, none⟩) ln ln] 50)
  have hsz : ((w.alloc (.cells (madeCells #[.int .i64 0] ln) 3)).alloc (.cells #[.slice none 0 0, .slice LA ln lc, .slice (some ⟨w.heap.size, 0, none⟩) ln ln] 50)).heap.size = w.heap.size + 2 := by simp
  have hbx : ((w.alloc (.cells (madeCells #[.int .i64 0] ln) 3)).alloc (.cells #[.slice none 0 0, .slice LA ln lc, .slice (some ⟨w.heap.size, 0, none⟩) ln ln] 50)).heap[w.heap.size + 1]? = some (.cells #[.slice none 0 0, .slice LA ln lc, .slice (some ⟨w.heap.size, 0, none⟩) ln ln] 50 (0, 0)) := by
    have := heap_alloc_new (w.alloc (.cells (madeCells #[.int .i64 0] ln) 3)) (.cells #[.slice none 0 0, .slice LA ln lc, .slice (some ⟨w.heap.size, 0, none⟩) ln ln] 50)
    rwa [World.size_alloc] at this
  have hown2 := hown.alloc (.cells #[.slice none 0 0, .slice LA ln lc, .slice (some ⟨w.heap.size, 0, none⟩) ln ln] 50)
  obtain ⟨W1, hW1⟩ : ∃ W, (w.alloc (.cells (madeCells #[.int .i64 0] ln) 3)).alloc (.cells #[.slice none 0 0, .slice LA ln lc, .slice (some ⟨w.heap.size, 0, none⟩) ln ln] 50) = W := ⟨_, rfl⟩
  rw [hW1] at z1 hsz hbx hown2 ⊢
  have HB1 : Hid (HeapB W1 (w.heap.size + 1) (w.heap.size + 2) 50 [.slice LA ln lc, .slice (some ⟨w.heap.size, 0, none⟩) ln ln] none 0 []) := ⟨hbx, OwnI.nil_ _ _ _, by omega, by omega⟩
  have HJ1 : Hid (HeadsJ w.heap.size (w.heap.size + 1) LA ln ln LL (List.replicate ln 0) W1) := ⟨HLL.out.below z1, hown2, by simp, by omega⟩
  have HZ1 := Lib.hid z1
  clear z0 z1 hsz hbx hown2 hown hmk hW1
  go_loopw [15] (fun v wr => ∃ (k : Nat) (ms : List Int) (A : Option Addr) (c : Nat), v = .int .i64 (k : Int) ∧ k ≤ ln ∧ Hid (HeapB wr (w.heap.size + 1) (w.heap.size + 2) 50 [.slice LA ln lc, .slice (some ⟨w.heap.size, 0, none⟩) ln ln] A c ms) ∧ Hid (ms.Perm (liveL LL (List.replicate ln 0) k)) ∧ Hid (∀ j, j < k → ∀ L, LL[j]? = some L → L.Pairwise (· < ·)) ∧ Hid (HeapP (headF LL (List.replicate ln 0)) ms ms.length) ∧ Hid (FarB W1 wr (w.heap.size + 1) (w.heap.size + 2) none A)) (fun v _ => ln - (intOf v).toNat)
  case atStart => exact ⟨0, [], none, 0, rfl, Nat.zero_le _, HB1, List.Perm.refl _, fun j hj => absurd hj (by omega), fun k h0 hk => absurd hk (by simp), Lib.hid (FarB.refl _ _ _ _)⟩
  case round =>
    obtain ⟨k, ms, A, c, rfl, hk, HB, HP, HRS, HH, HA⟩ := hrel
    have HJ : Hid (HeadsJ w.heap.size (w.heap.size + 1) LA ln ln LL (List.replicate ln 0) wr) := HJ1.out.keep HA.out (by omega)
    have HBW : Hid (Below w.heap.size w wr) := HZ1.out.trans (HA.out.below (by omega) (by omega))
    have HML : Hid (ms.length ≤ k) := by
      unfold Hid
      rw [HP.out.length_eq]
      unfold liveL
      rw [List.length_map]
      have := List.length_filter_le (liveB LL (List.replicate ln 0)) (List.range k)
      rwa [List.length_range] at this
    by_cases hlt : k < ln
    · obtain ⟨b, off, L, a, c', rfl, _, hLk, hc1, hc2, hI⟩ := HJ.out.lists.at_ hlt
      have hLm := List.mem_of_getElem? hLk.out
      by_cases hri : L.Pairwise (· < ·)
      · have cR := rises_any a L.length c' _ L wr hI (HLB.out L hLm) true (decide_eq_true hri)
        have HRN : Hid (∀ j, j < k + 1 → ∀ L, LL[j]? = some L → L.Pairwise (· < ·)) := fun j hj L' hL' => by
          by_cases e : j = k
          · subst e
            have := hLk.out
            rw [hL'] at this
            injection this with this
            rw [this]; exact hri
          · exact HRS.out j (by omega) L' hL'
        have hn0 : (List.replicate ln (0 : Int))[k]? = some 0 := by rw [List.getElem?_replicate, if_pos hlt]
        have hDs : ∀ m ∈ ms, ∃ x, Goes LL (List.replicate ln 0) m x := fun m hm => by
          obtain ⟨n, rfl, hn, hb⟩ := liveL_mem.1 (HP.out.mem_iff.1 hm)
          exact live_goes (by rw [List.length_replicate, HLN.out]) (by rw [HLN.out]; omega) (repl_nonneg _) hb
        have HSC := Lib.hid (liveL_succ LL (List.replicate ln 0) k)
        obtain ⟨M, hM⟩ : ∃ M, L.length = M := ⟨_, rfl⟩
        by_cases hl0 : 0 < L.length
        · obtain ⟨x, hx⟩ : ∃ x, L[0]? = some x := ⟨_, List.getElem?_eq_getElem hl0⟩
          have hg : Goes LL (List.replicate ln 0) (k : Int) x := ⟨by omega, L, 0, by simpa using hLk.out, by simpa using hn0, by omega, by simpa using hx⟩
          have cP := fun q : Nat => headsPut_go w.heap.size (w.heap.size + 1) (w.heap.size + 2) ln ln lc ln (some ⟨b, off, none⟩) A c ms LL (List.replicate ln 0) (k : Int) x (wr.drewN q) (HB.out.drewN q) (HJ.out.drewN q) (fun L hL => by have := HLB.out L hL; omega) (by omega) hDs hg (by have := HML.out; omega) HH.out
          have hlv : liveB LL (List.replicate ln 0) k = true := by unfold liveB; simp [List.getD, hLk.out, hn0, hl0]
          have HPN : Hid (∀ ms' : List Int, ms'.Perm (ms ++ [(k : Int)]) → ms'.Perm (liveL LL (List.replicate ln 0) (k + 1))) := fun ms' h => by
            rw [HSC.out, if_pos hlv]
            exact h.trans (HP.out.append_right _)
          rw [hM] at hc1 cR
          clear hx hg hlv hl0 hM hDs hn0 hI
          go_wp2_with (first | (go_at_call 11; refine cR.mono ?_; rintro e w2 ⟨rfl, q2, rfl⟩) | (go_at_call 42; refine (cP _).mono ?_; rintro e w3 ⟨rfl, ms', A', c9, hB3, hP3, hH3, hA3⟩))
          go_roundw
          case rel => exact ⟨k + 1, ms', A', c9, by go_num, by omega, Lib.hid hB3, HPN.out ms' hP3, HRN, Lib.hid hH3, Lib.hid ((HA.out.drewN _).trans hA3)⟩
          case measure => simp [intOf]; omega
        · have cP := fun q : Nat => headsPut_end w.heap.size (w.heap.size + 1) (w.heap.size + 2) ln ln lc ln (some ⟨b, off, none⟩) A c ms LL (List.replicate ln 0) k 0 L (wr.drewN q) (HB.out.drewN q) (HJ.out.drewN q) hLk.out (by simpa using hn0) (by omega)
          have hlv : ¬ liveB LL (List.replicate ln 0) k = true := fun h => by unfold liveB at h; have := of_decide_eq_true h; simp only [List.getD, hLk.out, hn0, Option.getD_some] at this; omega
          have HPN : Hid (ms.Perm (liveL LL (List.replicate ln 0) (k + 1))) := by
            unfold Hid
            rw [HSC.out, if_neg hlv, List.append_nil]
            exact HP.out
          rw [hM] at hc1 cR
          clear hlv hl0 hM hDs hn0 hI
          go_wp2_with (first | (go_at_call 11; refine cR.mono ?_; rintro e w2 ⟨rfl, q2, rfl⟩) | (go_at_call 42; refine (cP _).mono ?_; rintro e w3 ⟨rfl, q3, rfl⟩))
          go_roundw
          case rel => exact ⟨k + 1, ms, A, c, by go_num, by omega, Lib.hid (HB.out.drewN _), HPN, HRN, HH, Lib.hid (HA.out.drewN _)⟩
          case measure => simp [intOf]; omega
      · have cR := rises_any a L.length c' _ L wr hI (HLB.out L hLm) false (decide_eq_false hri)
        obtain ⟨M, hM⟩ : ∃ M, L.length = M := ⟨_, rfl⟩
        rw [hM] at hc1 cR
        clear hM hI hri
        go_wp2_with (first | (go_at_call 11; refine cR.mono ?_; rintro e w2 ⟨rfl, q2, rfl⟩))
        go_ret2
        exact ⟨rfl, ⟨HBW.out.os, HBW.out.tape, HBW.out.output, HBW.out.size, HBW.out.block⟩⟩
    · exact absurd (fun L hL => by
        obtain ⟨j, hj, e⟩ := List.getElem_of_mem hL
        exact HRS.out j (by have := HLN.out; omega) L (by rw [List.getElem?_eq_getElem hj, e])) HRR.out
end Go.Proofs.Ytnaehnlpcjaaeaa
/- merge.Union. -/
namespace Go.Proofs.Ytnaehnlpcjaaeaa
open Go.RowKit

/-- what the heads are while one of merge's functions goes on: in blocks of its own -/
def HeadsF (B ln lc : Nat) (LA : Option Addr) (LL : List (List Int)) (w : World) (nx ns : List Int) (A : Option Addr) (c : Nat) : Prop := HeadsW B (B + 1) (B + 2) ln ln lc ln LA LL w nx ns A c
theorem open_go (LA : Option Addr) (ln lc : Nat) (LL : List (List Int)) (w : World) (h : IntsLL w w.heap.size LA ln LL) (hL : ∀ L ∈ LL, L.length ≤ 9223372036854775806) (hln : ln ≤ 1000) (hR : AllRise LL) :
    Calls Try.prog 25 #[.slice LA ln lc] w fun e w' => e = .returned (.tuple #[.pointer (some ⟨w.heap.size + 1, 0, none⟩), .int .i64 0]) ∧
      ∃ nx ns A c, HeadsF w.heap.size ln lc LA LL w' nx ns A c ∧ MergeI LL nx ln [] ∧ Below w.heap.size w w' ∧ ∀ k, k < ln → nxN nx k = 0 := by
  refine (open_ok LA ln lc LL w h hL hln hR).mono ?_
  rintro e w' ⟨rfl, ms, A, c, hB, hJ, hP, hH, hW⟩
  have h0 : ∀ k, k < ln → nxN (List.replicate ln 0) k = 0 := fun k hk => by simp [nxN, List.getD, hk]
  exact ⟨rfl, List.replicate ln 0, ms, A, c, ⟨hB, hJ, (liveL_s _ _ _).of_perm hP, hH, fun k hk => by rw [h0 k hk]; exact Int.le_refl _⟩, mergeI_start LL ln, hW, h0⟩
/-- the numbers that merge's lists have, in order -/
structure UnionI (LL : List (List Int)) (u : List Int) : Prop where
  rise : u.Pairwise (· < ·)
  mem : ∀ m, m ∈ u ↔ ∃ L ∈ LL, m ∈ L
theorem MergeI.union {LL : List (List Int)} {nx : List Int} {ln : Nat} {u : List Int} (hI : MergeI LL nx ln u) (hll : LL.length = ln) (hS : LiveS LL nx ln []) : UnionI LL u := by
  refine ⟨hI.rise, fun m => (hI.done hS m).trans ?_⟩
  constructor
  · rintro ⟨k, hk, h⟩; exact ⟨_, getD_mem (by omega), h⟩
  · rintro ⟨L, hL, h⟩
    obtain ⟨k, hk, rfl⟩ := List.getElem_of_mem hL
    exact ⟨k, by omega, by simpa [List.getD, List.getElem?_eq_getElem hk] using h⟩
theorem FarQ.own {w w' : World} {q g base Bh c : Nat} {A A' H : Option Addr} {e : TypeId} {xs : List Int} (h : FarQ w w' q g base A A') (hg : g < Bh) (hq : q < Bh) (hO : OwnI w Bh e H c xs) (hA : Apart H A) : OwnI w' Bh e H c xs ∧ Apart H A' := by
  refine ⟨hO.same_ fun b hb => ?_, fun b hb hb' => ?_⟩
  · have := (show OwnI w Bh e (some ⟨b, 0, none⟩) c xs from hb ▸ hO).ltL
    exact h.mid b this.2 (by omega) (by omega) (hA b hb)
  · have := (show OwnI w Bh e (some ⟨b, 0, none⟩) c xs from hb ▸ hO).ltL
    rcases h.wher b hb' with h1 | h1
    · exact hA b hb h1
    · omega
theorem heads_beside {w w4 : World} {B ln lc c c4 ch r : Nat} {LA A H H4 : Option Addr} {LL : List (List Int)} {nx ns hs hs' : List Int} {o : Obj} (h : HeadsF B ln lc LA LL w nx ns A c) (hO : OwnI w (B + 2) 3 H ch hs) (hr : hs.length = r) (hA : Apart H A)
    (hO4 : OwnI w4 (B + 2) 3 H4 c4 hs') (hG : (w.alloc o).grownBy w4 (Value.slice H r ch).ownBlock) (hW : ∀ b, H4 = some ⟨b, 0, none⟩ → H = some ⟨b, 0, none⟩ ∨ (w.alloc o).heap.size ≤ b) :
    HeadsF B ln lc LA LL w4 nx ns A c ∧ Apart H4 A ∧ Below B w w4 := by
  obtain ⟨h1, h2, h3⟩ := app_beside h.heap hO hr hA (Nat.le_refl _) h.heap.sz hO4 hG hW
  exact ⟨⟨h1, h.heads.same h3 (by omega), h.live, h.order, h.nonneg⟩, h2, h3.mono (by omega)⟩
theorem MergeI.le {LL : List (List Int)} {nx : List Int} {ln : Nat} {u : List Int} (hI : MergeI LL nx ln u) (hll : LL.length = ln) : u.length ≤ LL.flatten.length := by
  refine List.Nodup.length_le_of_subset (hI.rise.imp fun h e => by omega) fun m hm => ?_
  obtain ⟨k, hk, h⟩ := (hI.mem m).1 hm
  exact List.mem_flatten.2 ⟨_, getD_mem (by omega), List.mem_of_mem_take h⟩
set_option maxRecDepth 100000 in
set_option maxHeartbeats 8000000 in
theorem union_ok (LA : Option Addr) (ln lc : Nat) (LL : List (List Int)) (w : World) (h : IntsLL w w.heap.size LA ln LL) (hln : ln ≤ 1000) (hT : LL.flatten.length ≤ 100000) (hR : AllRise LL) :
    Calls Try.prog 13 #[.slice LA ln lc] w fun e w' => ∃ u A r c, e = .returned (.tuple #[.slice A r c, .int .i64 0]) ∧ u.length = r ∧ UnionI LL u ∧ OwnI w' (w.heap.size + 2) 3 A c u ∧ Below w.heap.size w w' := by
  have hL : ∀ L ∈ LL, L.length ≤ 9223372036854775806 := fun L hL => by
    have : L.length ≤ LL.flatten.length := (List.sublist_flatten_of_mem hL).length_le
    omega
  have cO := open_go LA ln lc LL w h hL hln hR
  obtain ⟨i0, hi0, hz0, hz1, hz2⟩ := info_parts infoInt
  have HLL : Hid (LL.length = ln) := h.1
  have HL := Lib.hid hL
  have HR := Lib.hid hR
  obtain ⟨T, hT2⟩ : ∃ T, LL.flatten.length = T := ⟨_, rfl⟩
  rw [hT2] at hT
  have HT := Lib.hid hT2
  clear h hL hR hT2
  go_enter Try.func13, Try.ntmps13
  go_wp2_with (go_at_call 25; refine cO.mono ?_; rintro e w1 ⟨rfl, nx0, ns0, A0, c0, hF0, hI0, hB0, _⟩; have HF0 := Lib.hid hF0; have HI0 := Lib.hid hI0; have HB0 := Lib.hid hB0; clear hF0 hI0 hB0)
  go_loopw [6] (fun v wr => ∃ (u : List Int) (r : Nat) (H : Option Addr) (ch : Nat) (nx ns : List Int) (A : Option Addr) (c : Nat), v = .slice H r ch ∧ u.length = r ∧ Hid (HeadsF w.heap.size ln lc LA LL wr nx ns A c) ∧ Hid (MergeI LL nx ln u) ∧ Hid (OwnI wr (w.heap.size + 2) 3 H ch u) ∧ Hid (Apart H A) ∧ Hid (Below w.heap.size w wr)) (fun v _ => T - sliceLen v)
  case atStart => exact ⟨[], 0, none, 0, nx0, ns0, A0, c0, rfl, rfl, HF0, HI0, OwnI.nil_ _ _ _, fun _ e => (by cases e), HB0⟩
  case round =>
    obtain ⟨u, r, H, ch, nx, ns, A, c, rfl, hr, HF, HI, HO, HA, HB⟩ := hrel
    have dcl := HF.out.heap.cell
    obtain ⟨N, hN⟩ : ∃ N, ns.length = N := ⟨_, rfl⟩
    rw [hN] at dcl
    have HRL := Lib.hid hr
    by_cases hlt : 0 < N
    · have y1 : (0 : Int) < (N : Int) := by omega
      have cP := pass_go w.heap.size (w.heap.size + 1) (w.heap.size + 2) ln ln lc ln LA A c ns LL nx wr HF.out (by omega) HR.out HL.out hln
      clear hr hN
      go_wp2_with (first | (go_at_call 26; refine (numLen _ _ _ _).mono ?_; rintro e w2 ⟨rfl, rfl⟩) | (go_at_call 27; refine cP.mono ?_; rintro e w3 ⟨at_, Hh, hs, chh, nx', ms, A', c', rfl, hF3, hS3, _, _, hQ3, ha1, ha2⟩; have hO3 := hQ3.own (by omega) (by omega) HO.out HA.out) | (at_builtin; refine wpList_appendWhere _ rfl (.tmp 28) (.tmp 30) 25 rfl (w.heap.size + 2) 3 i0 Try.underlying25 hi0 hz0 hz1 hz2 H (some ⟨w3.heap.size, 0, none⟩) ch 1 1 (w3.heap.size + 1) r (r + 1) u [at_] rfl rfl (hO3.1.alloc _) HRL.out rfl (src_new w3 ⟨ha1, ha2⟩) (by have := HI.out.le HLL.out; rw [HT.out, HRL.out] at this; omega) (by have := hF3.heap.sz; simp; omega) ?_; intro H4 c4 w4 HO4 HG4 HW4; obtain ⟨hF4, hA4, hB4⟩ := heads_beside hF3 hO3.1 HRL.out hO3.2 HO4 HG4 HW4; have hI4 := HI.out.next hS3 HR.out HLL.out HF.out.nonneg; have hr4 : r + 1 ≤ T := (by have := hI4.le HLL.out; rw [HT.out, List.length_append, HRL.out] at this; exact this); have hB5 := (HB.out.trans (hQ3.below (Nat.le_refl _) (by omega) (by omega))).trans hB4))
      go_roundw
      case rel => exact ⟨u ++ [at_], r + 1, H4, c4, nx', ms, A', c', rfl, by rw [List.length_append, HRL.out]; rfl, hF4, hI4, HO4, hA4, hB5⟩
      case measure => simp [sliceLen]; omega
    · obtain rfl : N = 0 := by omega
      have HE : Hid (ns = []) := List.eq_nil_of_length_eq_zero hN
      clear hlt hr hN
      go_wp2_with (first | (go_at_call 26; refine (numLen _ _ _ _).mono ?_; rintro e w2 ⟨rfl, rfl⟩))
      go_ret2
      exact ⟨u, H, r, ch, rfl, HRL.out, HI.out.union HLL.out (by have := HF.out.live; rwa [HE.out] at this), HO.out, HB.out⟩
set_option maxRecDepth 100000 in
theorem union_err (LA : Option Addr) (ln lc : Nat) (LL : List (List Int)) (w : World) (h : IntsLL w w.heap.size LA ln LL) (hL : ∀ L ∈ LL, L.length ≤ 9223372036854775806) (hln : ln ≤ 1000) (hR : ¬ AllRise LL) :
    Calls Try.prog 13 #[.slice LA ln lc] w fun e w' => e = .returned (.tuple #[.slice none 0 0, .int .i64 1]) ∧ Below w.heap.size w w' := by
  have cO := open_err LA ln lc LL w h hL hln hR
  clear h hL hR
  go_enter Try.func13, Try.ntmps13
  go_wp2_with (go_at_call 25; refine cO.mono ?_; rintro e w1 ⟨rfl, hB0⟩)
  go_ret2
  exact ⟨rfl, hB0⟩
end Go.Proofs.Ytnaehnlpcjaaeaa
/- merge.Both: its mathematics, and what tells how far the lists have gone. -/
namespace Go.Proofs.Ytnaehnlpcjaaeaa
open Go.RowKit

theorem sum_le_ {f g : Nat → Nat} : ∀ n, (∀ k, k < n → f k ≤ g k) → ((List.range n).map f).sum ≤ ((List.range n).map g).sum
  | 0, _ => Nat.le_refl _
  | n + 1, h => by
    have h1 := sum_le_ n fun k hk => h k (by omega)
    have h2 := h n (by omega)
    simp only [List.range_succ, List.map_append, List.sum_append, List.map_cons, List.map_nil, List.sum_cons, List.sum_nil]
    omega
theorem sum_lt_ {f g : Nat → Nat} : ∀ n, (∀ k, k < n → f k ≤ g k) → (∃ k, k < n ∧ f k < g k) → ((List.range n).map f).sum < ((List.range n).map g).sum
  | 0, _, h => by obtain ⟨k, hk, _⟩ := h; omega
  | n + 1, h, hx => by
    simp only [List.range_succ, List.map_append, List.sum_append, List.map_cons, List.map_nil, List.sum_cons, List.sum_nil]
    have h2 := h n (by omega)
    obtain ⟨k, hk, hlt⟩ := hx
    by_cases e : k = n
    · subst e
      have h1 := sum_le_ k fun j hj => h j (by omega)
      omega
    · have h1 := sum_lt_ n (fun j hj => h j (by omega)) ⟨k, by omega, hlt⟩
      omega
theorem sum_flat {LL : List (List Int)} {ln : Nat} (hll : LL.length = ln) : LL.flatten.length = ((List.range ln).map fun k => (LL.getD k []).length).sum := by
  rw [List.length_flatten]
  congr 1
  refine List.ext_getElem (by simp [hll]) fun k h1 h2 => ?_
  simp only [List.getElem_map, List.getElem_range]
  rw [List.length_map] at h1
  simp [List.getD, List.getElem?_eq_getElem h1]
/-- how many numbers the lists have gone by, read from block q -/
def goneN (w : World) (q ln : Nat) : Nat := ((List.range ln).map fun k => match w.cell? ⟨q, k, none⟩ with
  | some (.int _ v) => v.toNat
  | _ => 0).sum
theorem gone_of {q g ln cN : Nat} {LA : Option Addr} {LL : List (List Int)} {nx : List Int} {w : World} (h : HeadsJ q g LA ln cN LL nx w) : goneN w q ln = ((List.range ln).map fun k => (nxN nx k).toNat).sum := by
  unfold goneN
  congr 1
  refine List.map_congr_left fun k hk => ?_
  have hk := List.mem_range.1 hk
  have hl := h.len
  have e : nx[k]? = some (nxN nx k) := by
    unfold nxN
    rw [List.getD_eq_getElem?_getD, List.getElem?_eq_getElem (by omega)]
    rfl
  rw [(h.next.cell_ e).1]
/-- none has gone beyond its end -/
def FitsN (LL : List (List Int)) (nx : List Int) (ln : Nat) : Prop := ∀ k, k < ln → (nxN nx k).toNat ≤ (LL.getD k []).length
theorem FitsN.le {LL : List (List Int)} {nx : List Int} {ln : Nat} (h : FitsN LL nx ln) (hll : LL.length = ln) : ((List.range ln).map fun k => (nxN nx k).toNat).sum ≤ LL.flatten.length := by
  rw [sum_flat hll]
  exact sum_le_ ln h
theorem PassS.fits {LL : List (List Int)} {nx nx' : List Int} {ln : Nat} {at_ : Int} {hs : List Int} (h : PassS LL nx ln at_ hs nx') (hz : ∀ k, k < ln → 0 ≤ nxN nx k) (hf : FitsN LL nx ln) : FitsN LL nx' ln ∧ ((List.range ln).map fun k => (nxN nx k).toNat).sum < ((List.range ln).map fun k => (nxN nx' k).toNat).sum := by
  have key : ∀ k, k < ln → (nxN nx' k).toNat = (nxN nx k).toNat + if (k : Int) ∈ hs then 1 else 0 := fun k hk => by
    have h1 := h.step.nx k hk
    have h2 := hz k hk
    split <;> rename_i hh
    · rw [if_pos hh] at h1; omega
    · rw [if_neg hh] at h1; omega
  refine ⟨fun k hk => ?_, sum_lt_ ln (fun k hk => by rw [key k hk]; omega) ?_⟩
  · rw [key k hk]
    split <;> rename_i hh
    · obtain ⟨k', e, _, hl, _⟩ := (h.whole _).1 hh
      obtain rfl : k = k' := by omega
      rw [live_iff] at hl
      omega
    · have := hf k hk; omega
  · obtain ⟨k, hk, hh⟩ := h.one
    exact ⟨k, hk, by rw [key k hk, if_pos hh]; omega⟩
/-- do all lists have it -/
def allHave (LL : List (List Int)) (v : Int) : Bool := LL.all fun L => L.contains v
theorem allHave_iff {LL : List (List Int)} {v : Int} : allHave LL v = true ↔ ∀ L ∈ LL, v ∈ L := by simp [allHave, List.all_eq_true]
/-- the numbers that all of merge's lists have, in order -/
structure BothI (LL : List (List Int)) (b : List Int) : Prop where
  rise : b.Pairwise (· < ·)
  mem : ∀ m, m ∈ b ↔ (∃ L ∈ LL, m ∈ L) ∧ ∀ L ∈ LL, m ∈ L
theorem UnionI.both {LL : List (List Int)} {u : List Int} (h : UnionI LL u) : BothI LL (u.filter (allHave LL)) :=
  ⟨h.rise.sublist List.filter_sublist, fun m => by rw [List.mem_filter, h.mem, allHave_iff]⟩
theorem PassS.full {LL : List (List Int)} {nx nx' : List Int} {ln : Nat} {at_ : Int} {hs u : List Int} (h : PassS LL nx ln at_ hs nx') (hI : MergeI LL nx ln u) (hR : AllRise LL) (hll : LL.length = ln) : hs.length = ln ↔ allHave LL at_ = true := by
  have key : (∀ L ∈ LL, at_ ∈ L) ↔ ∀ k, k < ln → (k : Int) ∈ hs := by
    constructor
    · intro h1 k hk; exact (hI.has h hR hll hk).1 (h1 _ (getD_mem (by omega)))
    · intro h1 L hL
      obtain ⟨k, hk, rfl⟩ := List.getElem_of_mem hL
      have := (hI.has h hR hll (by omega)).2 (h1 k (by omega))
      simpa [List.getD, List.getElem?_eq_getElem hk] using this
  rw [allHave_iff, key]
  constructor
  · intro hl k hk
    refine Decidable.byContradiction fun hn => ?_
    have := nodup_le (l := (k : Int) :: hs) (n := ln) (List.nodup_cons.2 ⟨hn, h.step.nodup⟩) fun x hx => by
      rcases List.mem_cons.1 hx with rfl | hx
      · exact ⟨k, rfl, hk⟩
      · obtain ⟨k', e, hk', _⟩ := h.step.some_ x hx
        exact ⟨k', e, hk'⟩
    rw [List.length_cons] at this
    omega
  · intro hk
    refine Nat.le_antisymm h.step.le ?_
    have hn : ((List.range ln).map fun k : Nat => (k : Int)).Nodup := by
      unfold List.Nodup
      rw [List.pairwise_map]
      exact List.nodup_range.imp fun h e => h (by omega)
    have := hn.length_le_of_subset (l₂ := hs) fun x hx => by
      obtain ⟨k, hk2, rfl⟩ := List.mem_map.1 hx
      exact hk k (List.mem_range.1 hk2)
    simpa using this
theorem fits_start (LL : List (List Int)) (ln : Nat) : FitsN LL (List.replicate ln 0) ln := fun k hk => by simp [nxN, List.getD, hk]
end Go.Proofs.Ytnaehnlpcjaaeaa
