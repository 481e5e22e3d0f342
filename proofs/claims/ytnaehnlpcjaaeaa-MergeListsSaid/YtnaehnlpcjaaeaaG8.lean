/- queue.let. -/
import Derived.Test.YtnaehnlpcjaaeaaG7
import Derived.Test.YtnaehnlpcjaaeaaG6
import Derived.Test.YtnaehnlpcjaaeaaG1
import Derived.Deep.QuietTactic
import Derived.BigQuiet
import Derived.Test.YtnaehnlpcjaaeaaG2
namespace Go.Proofs.Ytnaehnlpcjaaeaa
open Go.RowKit

theorem LookP.next {LL : List (List Int)} {ln : Nat} {o : List Int} {cm : List Bool} {sn sn' : List Int} {rows rows' : List RowT} {ns ns' lim L : List Int} {n s0 : Nat} (hQ : QI LL ln o cm sn (rows.map (·.L)) ns ((n : Int) :: lim)) (hL : LL[n]? = some L) (hs0 : sn[n]? = some (s0 : Int)) (hin : ∀ y ∈ L, ∃ a : Nat, y = (a : Int) ∧ a < ln) (h : LookP ln cm L n s0 sn rows ns sn' rows' ns') :
    QI LL ln o cm sn' (rows'.map (·.L)) ns' lim ∧ ∀ k, cm.getD k false = true → rows'[k]? = rows[k]? := by
  obtain ⟨n', e, hn, hno, _⟩ := hQ.ofLim
  obtain rfl : n = n' := by omega
  have hLg : LL.getD n [] = L := by rw [List.getD_eq_getElem?_getD, hL]; rfl
  have hsg : sn.getD n 0 = (s0 : Int) := by rw [List.getD_eq_getElem?_getD, hs0]; rfl
  have hsee := (hQ.seen n hn hno).2.2
  rw [hsg, hLg, Int.toNat_natCast] at hsee
  have key : ∀ (i : Nat) (y : Int), L[i]? = some y → (s0 ≤ i → cm.getD y.toNat false = true) → y ∈ o := fun i y hi hc => by
    by_cases hlt : i < s0
    · exact hsee y (List.mem_of_getElem? (show (L.take s0)[i]? = some y by rw [List.getElem?_take, if_pos hlt]; exact hi))
    · obtain ⟨a, rfl, hal⟩ := hin y (List.mem_of_getElem? hi)
      have := hc (by omega)
      rw [Int.toNat_natCast] at this
      exact (hQ.come a hal).1 this
  rcases h with ⟨j, a, r, A4, c4, h1, h2, h3, h4, h5, rfl, h7, rfl, rfl⟩ | ⟨h1, rfl, rfl, h4⟩
  · have := hQ.waits (j := j) h3 h4 (by rw [Int.toNat_natCast, hLg]; exact h2) (by
      rw [Int.toNat_natCast, hLg]
      intro y hy
      obtain ⟨i, hi⟩ := List.getElem?_of_mem hy
      rw [List.getElem?_take] at hi
      split at hi
      · rename_i hij
        exact key i y hi fun hs => h5 i y hs hij hi
      · cases hi)
    rw [Int.toNat_natCast] at this
    have hrl : (rows.map (·.L)).getD a [] = r.L := by rw [List.getD_eq_getElem?_getD, List.getElem?_map, h7]; rfl
    rw [hrl] at this
    refine ⟨?_, fun k hk => ?_⟩
    · rw [List.map_set]
      exact this
    · rw [List.getElem?_set]
      have : ¬ a = k := fun e => by rw [e, hk] at h4; cases h4
      rw [if_neg this]
  · have := hQ.mays h4 (by
      rw [Int.toNat_natCast, hLg]
      intro y hy
      obtain ⟨i, hi⟩ := List.getElem?_of_mem hy
      exact key i y hi fun hs => h1 i y hs hi)
    rw [Int.toNat_natCast, hLg] at this
    exact ⟨this, fun _ _ => rfl⟩
/-- the facts that a look at the next of those to be looked at asks for -/
theorem look_go (B0 bc bs bw g base ln lc : Nat) (LA : Option Addr) (LL : List (List Int)) (cm : List Bool) (sn : List Int) (rows : List RowT) (A : Option Addr) (c : Nat) (ns lim o : List Int) (n : Nat) (w : World) (h : QJ B0 bc bs bw g base ln lc LA LL cm sn rows A c ns w) (hQ : QI LL ln o cm sn (rows.map (·.L)) ns ((n : Int) :: lim)) (hll : ∀ L ∈ LL, L.length ≤ 100000) (hin : ∀ L ∈ LL, ∀ y ∈ L, ∃ a : Nat, y = (a : Int) ∧ a < ln) (hln : ln ≤ 999) :
    Calls Try.prog 38 #[.pointer (some ⟨g, 0, none⟩), .int .i64 n] w fun e w' => e = .returned (.tuple #[]) ∧ ∃ sn' rows' A' c' ns', QJ B0 bc bs bw g base ln lc LA LL cm sn' rows' A' c' ns' w' ∧ QFar B0 bc bs bw g w w' A rows A' rows' ∧ QI LL ln o cm sn' (rows'.map (·.L)) ns' lim ∧ ∀ k, cm.getD k false = true → rows'[k]? = rows[k]? := by
  obtain ⟨n', e, hn, hno, _⟩ := hQ.ofLim
  obtain rfl : n = n' := by omega
  have hL : LL[n]? = some (LL.getD n []) := by rw [List.getD_eq_getElem?_getD, List.getElem?_eq_getElem (by rw [hQ.ll]; exact hn)]; rfl
  have hLm := List.mem_of_getElem? hL
  obtain ⟨h1, h2, _⟩ := hQ.seen n hn hno
  have hs0 : sn[n]? = some (((sn.getD n 0).toNat : Nat) : Int) := by
    rw [Int.toNat_of_nonneg h1, List.getD_eq_getElem?_getD, List.getElem?_eq_getElem (by rw [hQ.ls]; exact hn)]; rfl
  have hrw : rows.length = ln := by have := hQ.lw; simpa using this
  refine (look_ok B0 bc bs bw g base ln lc LA LL cm sn rows A c ns w h n _ (LL.getD n []) hn hs0 hL h2 (hll _ hLm) (hin _ hLm) hQ.lc hrw (by have := hQ.lenN; omega) (fun a r hc hr => ?_) (by omega)).mono ?_
  · have ha : a < ln := by have := (List.getElem?_eq_some_iff.1 hr).1; omega
    have := hQ.lenW ha hc
    rw [List.getD_eq_getElem?_getD, List.getElem?_map, hr] at this
    simp at this
    omega
  · rintro e w' ⟨rfl, sn', rows', A', c', ns', k1, k2, k3⟩
    obtain ⟨k4, k5⟩ := k3.next hQ hL hs0 (hin _ hLm)
    exact ⟨rfl, sn', rows', A', c', ns', k1, k2, k4, k5⟩
theorem QI.lenL {LL : List (List Int)} {ln : Nat} {o : List Int} {cm : List Bool} {sn : List Int} {wl : List (List Int)} {ns lim : List Int} (h : QI LL ln o cm sn wl ns lim) : lim.length ≤ ln := nodup_le h.nodups.2.2 fun x hx => h.range (by have := List.count_pos_iff.2 hx; omega)
theorem QI.least {LL : List (List Int)} {ln : Nat} {o : List Int} {cm : List Bool} {sn : List Int} {wl : List (List Int)} {ns : List Int} (h : QI LL ln o cm sn wl ns []) (hP : HeapP (fun x => x) ns ns.length) {x : Nat} (hx : ns[0]? = some (x : Int)) : MayO LL ln o x ∧ ∀ j, MayO LL ln o j → x ≤ j := by
  refine ⟨(h.may_iff x).2 (List.mem_of_getElem? hx), fun j hj => ?_⟩
  obtain ⟨k, hk, e⟩ := List.getElem_of_mem ((h.may_iff j).1 hj)
  have h1 := hP.min k hk
  have h2 : atN ns k = ns[k] := by simp [atN, List.getD, List.getElem?_eq_getElem hk]
  rw [h2, e, atN_of hx] at h1
  omega
set_option maxRecDepth 100000 in
set_option maxHeartbeats 8000000 in
theorem let_ok (B0 bc bs bw g base ln lc : Nat) (LA : Option Addr) (LL : List (List Int)) (cm : List Bool) (sn : List Int) (rows : List RowT) (A : Option Addr) (c : Nat) (ns o : List Int) (w : World) (h : QJ B0 bc bs bw g base ln lc LA LL cm sn rows A c ns w) (hQ : QI LL ln o cm sn (rows.map (·.L)) ns []) (hll : ∀ L ∈ LL, L.length ≤ 100000) (hin : ∀ L ∈ LL, ∀ y ∈ L, ∃ a : Nat, y = (a : Int) ∧ a < ln) (hln : ln ≤ 999) (h0 : 0 < ns.length) :
    Calls Try.prog 39 #[.pointer (some ⟨g, 0, none⟩)] w fun e w' => ∃ x : Nat, e = .returned (.int .i64 x) ∧ MayO LL ln o x ∧ (∀ j, MayO LL ln o j → x ≤ j) ∧ ∃ cm' sn' rows' A' c' ns', QJ B0 bc bs bw g base ln lc LA LL cm' sn' rows' A' c' ns' w' ∧ QFar B0 bc bs bw g w w' A rows A' rows' ∧ QI LL ln (o ++ [(x : Int)]) cm' sn' (rows'.map (·.L)) ns' [] := by
  obtain ⟨x0, hx0⟩ : ∃ x0, ns[0]? = some x0 := ⟨_, List.getElem?_eq_getElem h0⟩
  obtain ⟨k, rfl, hk, _⟩ := hQ.ofNs (List.mem_of_getElem? hx0)
  obtain ⟨hm1, hm2⟩ := hQ.least h.order hx0
  have HM1 := Lib.hid hm1
  have HM2 := Lib.hid hm2
  obtain ⟨N, hN⟩ : ∃ N, ns.length = N + 1 := ⟨ns.length - 1, by omega⟩
  have hNl := hQ.lenN
  have hrw : rows.length = ln := by have := hQ.lw; simpa using this
  have cP := fun m : Nat => heapPop (queue_ok g base (qRest LA ln lc bc bs bw) (fun _ => True) (fun _ _ _ _ _ _ => trivial)) A c N ns (w.drewN m) (h.heap.drewN m) trivial (fun _ _ => trivial) hN (by omega) (by rw [← hN]; exact h.order) (k : Int) hx0
  have hif := run_ifaceQ g
  have hta := run_assert (k : Int)
  obtain ⟨⟨RA, rc, RL⟩, hr⟩ : ∃ r, rows[k]? = some r := ⟨_, List.getElem?_eq_getElem (by omega)⟩
  obtain ⟨P, hP⟩ : ∃ P, RL.length = P := ⟨_, rfl⟩
  have HPL := Lib.hid hP
  have HR := Lib.hid hr
  have HH := Lib.hid h
  have HQ := Lib.hid hQ
  have HLL := Lib.hid hll
  have HIN := Lib.hid hin
  have k0 : (0 : Int) ≤ (k : Int) := by omega
  have k1 : (k : Int) < (ln : Int) := by omega
  have hwa : (rows.map RowT.hdr)[k]? = some (.slice RA P rc) := by rw [List.getElem?_map, hr]; simp [RowT.hdr, hP]
  have HWA := Lib.hid hwa
  have hkc : (cm.map Value.bool)[k]? = some (.bool (cm.getD k false)) := by rw [List.getElem?_map, List.getD_eq_getElem?_getD, List.getElem?_eq_getElem (by rw [hQ.lc]; exact hk)]; rfl
  have HKC := Lib.hid hkc
  clear h hQ hll hin h0 hx0 hm1 hm2 hN hNl hrw hr hP hwa hkc
  go_enter Try.func39, Try.ntmps39
  go_wp2_with (first | (go_at_call 44; refine (cP 0).mono ?_; rintro e w3 ⟨rfl, ms, hB3, hP3, hl3, hH3, hF3⟩; obtain ⟨j1, j2⟩ := HH.out.heapop hB3 (by rw [hl3]; exact hH3) hF3; have q2 := hB3.restAt (k := 1) (v := .slice (some ⟨bc, 0, none⟩) ln ln) rfl; obtain ⟨kc, kf⟩ := blk_cell j1.come HKC.out; have J3 := j1.setCome k true; have q4 := J3.1.heap.restAt (k := 3) (v := .slice (some ⟨bw, 0, none⟩) ln ln) rfl; obtain ⟨wc, wf⟩ := blk_cell J3.1.wait HWA.out; have HQ3 := Lib.hid (HQ.out.comes hP3); have HJ3 := Lib.hid J3.1; have HF3 := Lib.hid (j2.trans J3.2); clear j1 j2 J3 hB3 hP3 hl3 hH3 hF3))
  have HQ4 : Hid (QI LL ln (o ++ [(k : Int)]) (cm.set k true) sn (rows.map (·.L)) ms RL) := by
    have := HQ3.out
    rw [Int.toNat_natCast] at this
    have e : (rows.map (·.L)).getD k [] = RL := by rw [List.getD_eq_getElem?_getD, List.getElem?_map, HR.out]; rfl
    rw [e] at this
    exact this
  have hPl : P ≤ ln := by rw [← HPL.out]; exact HQ4.out.lenL
  clear q2 q4 wc wf kc kf HQ3
  go_loopw [24] (fun v wr => ∃ (j : Nat) (sn' : List Int) (rows' : List RowT) (A' : Option Addr) (c' : Nat) (ns' : List Int), v = .int .i64 (j : Int) ∧ j ≤ P ∧ Hid (QJ B0 bc bs bw g base ln lc LA LL (cm.set k true) sn' rows' A' c' ns' wr) ∧ Hid (QFar B0 bc bs bw g w wr A rows A' rows') ∧ Hid (QI LL ln (o ++ [(k : Int)]) (cm.set k true) sn' (rows'.map (·.L)) ns' (RL.drop j)) ∧ Hid (rows'[k]? = some ⟨RA, rc, RL⟩)) (fun v _ => P - (intOf v).toNat)
  case atStart => exact ⟨0, sn, rows, A, c, ms, rfl, Nat.zero_le _, HJ3, HF3, by rw [List.drop_zero]; exact HQ4, HR⟩
  case round =>
    obtain ⟨j, sn', rows', A', c', ns', rfl, hj, HJ, HF, HQI, HRK⟩ := hrel
    by_cases hlt : j < P
    · have hO : OwnI wr base 3 RA rc RL := HJ.out.own _ (List.mem_of_getElem? HRK.out)
      have hI := hO.ints
      rw [HPL.out] at hI
      obtain ⟨b2, off2, y, rfl, _, HY, hcy, _, _⟩ := hI.at_ hlt
      have hdr : RL.drop j = y :: RL.drop (j + 1) := by
        obtain ⟨h1, h2⟩ := List.getElem?_eq_some_iff.1 HY.out
        rw [List.drop_eq_getElem_cons h1, h2]
      have hq := HQI.out
      rw [hdr] at hq
      obtain ⟨m, hm, _⟩ := hq.ofLim
      subst hm
      have cL := look_go B0 bc bs bw g base ln lc LA LL (cm.set k true) sn' rows' A' c' ns' (RL.drop (j + 1)) (o ++ [(k : Int)]) m wr HJ.out hq HLL.out HIN.out hln
      have HCK : Hid ((cm.set k true).getD k false = true) := by
        have := (List.getElem?_eq_some_iff.1 HKC.out).1
        rw [List.length_map] at this
        unfold Hid
        rw [getD_set _ _ _ _ _ this, if_pos rfl]
      have j0 : (0 : Int) ≤ (j : Int) := by omega
      have j1 : (j : Int) < (P : Int) := by omega
      clear hO hI hdr hq HY
      go_wp2_with (go_at_call 38; refine cL.mono ?_; rintro e w5 ⟨rfl, sn5, rows5, A5, c5, ns5, k1, k2, k3, k4⟩)
      go_roundw
      case rel => exact ⟨j + 1, sn5, rows5, A5, c5, ns5, by go_num, by omega, k1, HF.out.trans k2, k3, by unfold Hid; rw [k4 k HCK.out]; exact HRK.out⟩
      case measure => simp [intOf]; omega
    · obtain rfl : j = P := by omega
      have hq := HQI.out
      rw [List.drop_of_length_le (by rw [HPL.out]; exact Nat.le_refl _)] at hq
      have HQF := Lib.hid hq
      clear hlt hq
      go_wp2_with fail
      go_ret
      exact ⟨k, rfl, HM1.out, HM2.out, _, sn', rows', A', c', ns', HJ.out, HF.out, HQF.out⟩
end Go.Proofs.Ytnaehnlpcjaaeaa
/- merge.Order. -/
namespace Go.Proofs.Ytnaehnlpcjaaeaa
open Go.RowKit

set_option maxRecDepth 100000 in
theorem infoBoolM : (Try.prog.info? 4).map (fun i => (i.zero, i.size, i.bytes)) = some (some (.bool false), 1, 1) := by kernel_rfl
theorem run_makeZ {P : Program} (t e : TypeId) (i : TypeInfo) (z : Value) (ht : P.underlying t = some (.slice e)) (hi : P.info? e = some i) (hz : i.zero = some z) (hc : z.cells = #[z]) (h1 : i.size = 1) (h2 : i.bytes ≤ 24) (n : Nat) (hn : n ≤ 100000) (w : World) :
    (Instr.makeSlice t (.int .i64 (n : Int)) (.int .i64 (n : Int))).run P w = .ok (.slice (some ⟨w.heap.size, 0, none⟩) n n) (w.alloc (.cells (List.replicate n z).toArray e)) := by
  have hb : (i.bytes : Int) * (n : Int) ≤ 24 * 100000 := by
    have : i.bytes * n ≤ 24 * 100000 := Nat.mul_le_mul h2 hn
    omega
  have hr := run_make (P := P) w t e i z ht hi hz .i64 .i64 n n (by omega) (by omega) (by omega) (by omega)
  simp only [Int.toNat_natCast, h1, Nat.mul_one, hc] at hr
  rw [hr, ← toList_madeCells_one]
theorem four_new (w : World) (o0 o1 o2 o3 : Obj) : ((((w.alloc o0).alloc o1).alloc o2).alloc o3).heap[w.heap.size]? = some o0 ∧ ((((w.alloc o0).alloc o1).alloc o2).alloc o3).heap[w.heap.size + 1]? = some o1 ∧ ((((w.alloc o0).alloc o1).alloc o2).alloc o3).heap[w.heap.size + 1 + 1]? = some o2 ∧ ((((w.alloc o0).alloc o1).alloc o2).alloc o3).heap[w.heap.size + 1 + 1 + 1]? = some o3 ∧ Below w.heap.size w ((((w.alloc o0).alloc o1).alloc o2).alloc o3) ∧ ((((w.alloc o0).alloc o1).alloc o2).alloc o3).heap.size = w.heap.size + 4 := by
  have s1 : (w.alloc o0).heap.size = w.heap.size + 1 := World.size_alloc _ _
  have s2 : ((w.alloc o0).alloc o1).heap.size = w.heap.size + 1 + 1 := by rw [World.size_alloc, s1]
  have s3 : (((w.alloc o0).alloc o1).alloc o2).heap.size = w.heap.size + 1 + 1 + 1 := by rw [World.size_alloc, s2]
  have h0 := heap_alloc_new w o0
  have h1 := heap_alloc_new (w.alloc o0) o1
  have h2 := heap_alloc_new ((w.alloc o0).alloc o1) o2
  have h3 := heap_alloc_new (((w.alloc o0).alloc o1).alloc o2) o3
  rw [s1] at h1
  rw [s2] at h2
  rw [s3] at h3
  have k1 := fun b hb => Below.heap_alloc (w.alloc o0) o1 b hb
  have k2 := fun b hb => Below.heap_alloc ((w.alloc o0).alloc o1) o2 b hb
  have k3 := fun b hb => Below.heap_alloc (((w.alloc o0).alloc o1).alloc o2) o3 b hb
  rw [s1] at k1
  rw [s2] at k2
  rw [s3] at k3
  have z0 := (Below.refl w.heap.size w).alloc (Nat.le_refl _) o0
  have z1 := z0.alloc z0.size o1
  have z2 := z1.alloc z1.size o2
  have z3 := z2.alloc z2.size o3
  exact ⟨(k3 _ (by omega)).trans ((k2 _ (by omega)).trans ((k1 _ (by omega)).trans h0)), (k3 _ (by omega)).trans ((k2 _ (by omega)).trans h1), (k3 _ (by omega)).trans h2, h3, z3, by rw [World.size_alloc, s3]⟩
/-- a new queue -/
structure QCut (LA : Option Addr) (ln lc : Nat) (w0 w : World) (g bc bs bw : Nat) : Prop where
  box : w.heap[g]? = some (.cells #[.slice none 0 0, .slice LA ln lc, .slice (some ⟨bc, 0, none⟩) ln ln, .slice (some ⟨bs, 0, none⟩) ln ln, .slice (some ⟨bw, 0, none⟩) ln ln] 62 (0, 0))
  come : w.heap[bc]? = some (.cells (Array.replicate ln (.bool false)) 4 (0, 0))
  seen : w.heap[bs]? = some (.cells (Array.replicate ln (.int .i64 0)) 3 (0, 0))
  wait : w.heap[bw]? = some (.cells (Array.replicate ln (.slice none 0 0)) 25 (0, 0))
  pos : QPos w0.heap.size bc bs bw g (w0.heap.size + 4)
  bel : Below w0.heap.size w0 w
  size : w.heap.size = w0.heap.size + 4
theorem QCut.qj {LA : Option Addr} {ln lc g bc bs bw B0 : Nat} {w0 w : World} {LL : List (List Int)} (h : QCut LA ln lc w0 w g bc bs bw) (hB : B0 ≤ w0.heap.size) (hL : IntsLL w B0 LA ln LL) :
    QJ B0 bc bs bw g (w0.heap.size + 4) ln lc LA LL (List.replicate ln false) (List.replicate ln 0) (List.replicate ln ⟨none, 0, []⟩) none 0 [] w := by
  obtain ⟨l1, l2, l3, l4⟩ := h.pos.low
  refine ⟨⟨h.box, OwnI.nil_ _ _ _, h.pos.high.2.2.2, by rw [h.size]; exact Nat.le_refl _⟩, fun k h0 hk => absurd hk (by simp), hL, ?_, ?_, ?_, fun r hr => ?_, fun i j ri rj hi hj hij => ?_, fun r hr => ?_, ⟨⟨by omega, by omega, by omega, by omega⟩, h.pos.high, h.pos.ne⟩⟩
  · rw [List.map_replicate, List.toArray_replicate]; exact h.come
  · rw [List.map_replicate, List.toArray_replicate]; exact h.seen
  · rw [List.map_replicate, List.toArray_replicate]; exact h.wait
  · rw [(List.mem_replicate.1 hr).2]; exact OwnI.nil_ _ _ _
  · rw [List.getElem?_replicate] at hi
    split at hi
    · injection hi with hi
      rw [← hi]
      intro b hb
      cases hb
    · cases hi
  · rw [(List.mem_replicate.1 hr).2]
    intro b hb
    cases hb
/-- a number more in a slice beside the queue -/
theorem QJ.beside {B0 bc bs bw g base ln lc co c4 r : Nat} {LA A O O4 : Option Addr} {LL : List (List Int)} {cm : List Bool} {sn : List Int} {rows : List RowT} {c : Nat} {ns os os' : List Int} {w w4 : World} {o : Obj} (h : QJ B0 bc bs bw g base ln lc LA LL cm sn rows A c ns w) (hO : OwnI w base 3 O co os) (hr : os.length = r) (hA : ∀ b, O = some ⟨b, 0, none⟩ → ¬ QSet A rows b)
    (_ : OwnI w4 base 3 O4 c4 os') (hG : (w.alloc o).grownBy w4 (Value.slice O r co).ownBlock) (hW : ∀ b, O4 = some ⟨b, 0, none⟩ → O = some ⟨b, 0, none⟩ ∨ (w.alloc o).heap.size ≤ b) :
    QJ B0 bc bs bw g base ln lc LA LL cm sn rows A c ns w4 ∧ (∀ b, O4 = some ⟨b, 0, none⟩ → ¬ QSet A rows b) ∧ Below base w w4 := by
  have hz := h.heap.sz
  have hb0 : Below base w (w.alloc o) := ((Below.refl w.heap.size w).alloc (Nat.le_refl _) o).mono hz
  have hzz : (w.alloc o).heap.size = w.heap.size + 1 := World.size_alloc _ _
  have hbl : Below base w w4 := below_app hb0 hG (hO.alloc o) hr (by omega)
  obtain ⟨h1, h2, h3, h4⟩ := h.pos.high
  have hAl : ∀ b, A = some ⟨b, 0, none⟩ → base ≤ b ∧ b < w.heap.size := fun b hb => (show OwnI w base 3 (some ⟨b, 0, none⟩) c ns from hb ▸ h.heap.own).ltL
  have hrl : ∀ q ∈ rows, ∀ b, q.A = some ⟨b, 0, none⟩ → base ≤ b ∧ b < w.heap.size := fun q hq b hb => (show OwnI w base 3 (some ⟨b, 0, none⟩) q.c q.L from hb ▸ h.own q hq).ltL
  have hold : ∀ b, b < w.heap.size → O ≠ some ⟨b, 0, none⟩ → w4.heap[b]? = w.heap[b]? := fun b hb h6 => (hG.block b (by omega) (own_block_neL (hO.alloc o) hr h6)).trans (Below.heap_alloc w _ b hb)
  refine ⟨⟨h.heap.keep (hbl.block g h4) (fun b hb => hold b (hAl b hb).2 (fun e => hA b e (.inl hb))) hbl.size, h.order, h.lists.below (hbl.mono (Nat.le_of_lt (Nat.lt_of_le_of_lt h.pos.low.1 h1))), (hbl.block bc h1).trans h.come, (hbl.block bs h2).trans h.seen, (hbl.block bw h3).trans h.wait, fun q hq => (h.own q hq).same_ fun b hb => hold b (hrl q hq b hb).2 (fun e => hA b e (.inr ⟨q, hq, hb⟩)), h.apart, h.off, h.pos⟩, fun b hb hq => ?_, hbl⟩
  rcases hW b hb with e | e
  · exact hA b e hq
  · rcases hq with e2 | ⟨q, hq, e2⟩
    · have := hAl b e2; omega
    · have := hrl q hq b e2; omega
set_option maxRecDepth 100000 in
set_option maxHeartbeats 8000000 in
theorem order_in (LA : Option Addr) (ln lc : Nat) (LL : List (List Int)) (w : World) (h : IntsLL w w.heap.size LA ln LL) (hln : ln ≤ 999) (hll : ∀ L ∈ LL, L.length ≤ 100000) (hin : ∀ L ∈ LL, ∀ y ∈ L, 0 ≤ y ∧ y < (ln : Int)) :
    Calls Try.prog 22 #[.slice LA ln lc] w fun e w' => ∃ o, StepsO LL ln o ∧ ((o.length = ln ∧ ∃ A c, e = .returned (.tuple #[.slice A ln c, .int .i64 0]) ∧ OwnI w' w.heap.size 3 A c o) ∨ (o.length < ln ∧ (∀ j, ¬ MayO LL ln o j) ∧ e = .returned (.tuple #[.slice none 0 0, .int .i64 5]))) ∧ Below w.heap.size w w' := by
  have cI := inside_sets LA ln lc LL w h (fun L hL => by have := hll L hL; omega) (by omega)
  have hR : decide (0 ≤ loI LL.flatten ∧ hiI LL.flatten < (ln : Int)) = true := decide_eq_true ((inI_iff LL.flatten ln (by omega)).2 fun x hx => by
    obtain ⟨L, hL, hx⟩ := List.mem_flatten.1 hx
    exact hin L hL x hx)
  obtain ⟨i0, hi0, hz0, hz1, hz2⟩ := info_parts infoRow
  obtain ⟨i1, hi1, hy0, hy1, hy2⟩ := info_parts infoInt
  obtain ⟨i2, hi2, hx0, hx1, hx2⟩ := info_parts infoBoolM
  have m1 := fun W => run_makeZ (P := Try.prog) 39 4 i2 (.bool false) Try.underlying39 hi2 hx0 rfl hx1 (by omega) ln (by omega) W
  have m2 := fun W => run_makeZ (P := Try.prog) 25 3 i1 (.int .i64 0) Try.underlying25 hi1 hy0 rfl hy1 (by omega) ln (by omega) W
  have m3 := fun W => run_makeZ (P := Try.prog) 22 25 i0 (.slice none 0 0) Try.underlying22 hi0 hz0 rfl hz1 (by omega) ln (by omega) W
  have HRR := Lib.hid hR
  have HLL := Lib.hid h
  have HLB := Lib.hid hll
  have HIN : Hid (∀ L ∈ LL, ∀ y ∈ L, ∃ a : Nat, y = (a : Int) ∧ a < ln) := fun L hL y hy => ⟨y.toNat, by have := hin L hL y hy; omega, by have := hin L hL y hy; omega⟩
  clear h hll hin hR
  go_enter Try.func22, Try.ntmps22
  go_wp2_with (first | (go_at_call 31; refine cI.mono ?_; rintro e w1 ⟨rfl, hA1, hB1, hbl1⟩) | (go_at_call 46; refine (insideClo_any _ _ _ _ ln _ hA1 hB1).mono ?_; rintro e w2 ⟨rfl, q2, hw2⟩; rw [HRR.out]; have hbl2 : Below w.heap.size w w2 := (by rw [hw2]; exact ⟨hbl1.os, hbl1.tape, hbl1.output, hbl1.size, hbl1.block⟩); clear hw2))
  obtain ⟨Z, hZ⟩ : ∃ Z, w2.heap.size = Z := ⟨_, rfl⟩
  have HB2 := Lib.hid hbl2
  clear hA1 hB1 hbl1 hbl2 cI
  go_cut [4] (fun s wx => ∃ g bc bs bw, s = .pointer (some ⟨g, 0, none⟩) ∧ QCut LA ln lc w2 wx g bc bs bw)
  case first =>
    clear hZ HB2 HRR HLL HLB HIN
    go_region_law (fail)
    all_goals go_wp2_with fail
    all_goals go_meet
    all_goals
      obtain ⟨f0, f1, f2, f3, fb, fz⟩ := four_new w2 _ _ _ _
      refine ⟨_, ?_, ?_, ?_, rfl, ⟨?_, ?_, ?_, ?_, ?_, fb.drew, fz⟩⟩
      rotate_left 3
      · first | exact f0 | exact f1 | exact f2 | exact f3
      · first | exact f0 | exact f1 | exact f2 | exact f3
      · first | exact f0 | exact f1 | exact f2 | exact f3
      · first | exact f0 | exact f1 | exact f2 | exact f3
      · exact ⟨⟨by omega, by omega, by omega, by omega⟩, ⟨by omega, by omega, by omega, by omega⟩, ⟨by omega, by omega, by omega, by omega, by omega, by omega⟩⟩
  case rest =>
    obtain ⟨g, bc, bs, bw, rfl, hcut⟩ := hcut
    have hbc := HB2.out.trans (hcut.bel.mono (by rw [hZ]; rw [← hZ]; exact HB2.out.size))
    have hQ0 := Lib.hid (hcut.qj HB2.out.size (HLL.out.below hbc))
    rw [hZ] at hQ0
    have HBC := Lib.hid hbc
    have hZ4 : w.heap.size ≤ Z := by rw [← hZ]; exact HB2.out.size
    have HI0 := Lib.hid (QI.start LL ln HLL.out.1)
    obtain ⟨base, hbase⟩ : ∃ base, Z + 4 = base := ⟨_, rfl⟩
    rw [hbase] at hQ0
    have hwb : w.heap.size ≤ base := by omega
    obtain ⟨wg, rfl⟩ : ∃ W : World, W = wc := ⟨_, rfl⟩
    clear hcut hbc hZ HB2 m1 m2 m3 hZ4 hbase
    go_wp2_with fail
    go_loopw [26] (fun v wr => ∃ (k : Nat) (sn : List Int) (rows : List RowT) (A : Option Addr) (c : Nat) (ns : List Int), v = .int .i64 (k : Int) ∧ k ≤ ln ∧ Hid (QJ w.heap.size bc bs bw g base ln lc LA LL (List.replicate ln false) sn rows A c ns wr) ∧ Hid (QI LL ln [] (List.replicate ln false) sn (rows.map (·.L)) ns (((List.range ln).map fun k : Nat => (k : Int)).drop k)) ∧ Hid (Below w.heap.size w wr)) (fun v _ => ln - (intOf v).toNat)
    case atStart => exact ⟨0, _, _, _, _, _, rfl, Nat.zero_le _, hQ0, by rw [List.map_replicate, List.drop_zero]; exact HI0, HBC⟩
    case round =>
      obtain ⟨k, sn, rows, A, c, ns, rfl, hk, HQ, HI, HB⟩ := hrel
      by_cases hlt : k < ln
      · have hdr : ((List.range ln).map fun k : Nat => (k : Int)).drop k = (k : Int) :: ((List.range ln).map fun k : Nat => (k : Int)).drop (k + 1) := by
          rw [List.drop_eq_getElem_cons (by simpa using hlt)]
          simp
        have hi := HI.out
        rw [hdr] at hi
        have cL := look_go w.heap.size bc bs bw g base ln lc LA LL (List.replicate ln false) sn rows A c ns _ [] k wr HQ.out hi HLB.out HIN.out hln
        have k1 : (k : Int) < (ln : Int) := by omega
        clear hdr hi hQ0 HI0
        go_wp2_with (go_at_call 38; refine cL.mono ?_; rintro e w5 ⟨rfl, sn5, rows5, A5, c5, ns5, j1, j2, j3, _⟩)
        go_roundw
        case rel => exact ⟨k + 1, sn5, rows5, A5, c5, ns5, by go_num, by omega, j1, j3, HB.out.trans j2.bel⟩
        case measure => simp [intOf]; omega
      · obtain rfl : k = ln := by omega
        have hi := HI.out
        rw [List.drop_of_length_le (by simp)] at hi
        have HI2 := Lib.hid hi
        obtain ⟨wo, hwo⟩ : ∃ wo : World, wo = wr := ⟨_, rfl⟩
        rw [← hwo] at HQ HB ⊢
        clear hlt hi hwo HI HI0 hQ0 hk
        go_wp2_with fail
        go_loopw [6] (fun v wr => ∃ (O : Option Addr) (r co : Nat) (o : List Int) (cm : List Bool) (sn : List Int) (rows : List RowT) (A : Option Addr) (c : Nat) (ns : List Int), v = .slice O r co ∧ Hid (o.length = r) ∧ Hid (QJ w.heap.size bc bs bw g base k lc LA LL cm sn rows A c ns wr) ∧ Hid (QI LL k o cm sn (rows.map (·.L)) ns []) ∧ Hid (StepsO LL k o) ∧ Hid (OwnI wr base 3 O co o) ∧ Hid (∀ b, O = some ⟨b, 0, none⟩ → ¬ QSet A rows b) ∧ Hid (Below w.heap.size w wr)) (fun v _ => k - sliceLen v)
        case atStart => exact ⟨none, 0, 0, [], _, sn, rows, A, c, ns, rfl, rfl, HQ, HI2, StepsO.nil_ _ _, OwnI.nil_ _ _ _, fun _ e => (by cases e), HB⟩
        case round =>
          clear HQ HI2 HB HBC
          obtain ⟨O, r, co, o, cm, sn, rows, A, c, ns, rfl, HR, HQ, HI, HS, HO, HA, HB⟩ := hrel
          have dcl := HQ.out.heap.cell
          obtain ⟨N, hN⟩ : ∃ N, ns.length = N := ⟨_, rfl⟩
          rw [hN] at dcl
          have hro : r ≤ k := by rw [← HR.out]; exact HI.out.lenO
          by_cases hlt : 0 < N
          · have y1 : (0 : Int) < (N : Int) := by omega
            have cP := let_ok w.heap.size bc bs bw g base k lc LA LL cm sn rows A c ns o wr HQ.out HI.out HLB.out HIN.out hln (by omega)
            obtain ⟨i1, hi1, hy0, hy1, hy2⟩ := info_parts infoInt
            clear hN
            go_wp2_with (first | (go_at_call 26; refine (numLen _ _ _ _).mono ?_; rintro e w2 ⟨rfl, rfl⟩) | (go_at_call 39; refine cP.mono ?_; rintro e w3 ⟨x, rfl, hm1, hm2, cm3, sn3, rows3, A3, c3, ns3, j1, j2, j3⟩; have hxk := hm1.1; have hO3 := j2.own HQ.out.pos HO.out HA.out; have hz3 := j1.heap.sz; have hS3 := HS.out.snoc hm1 hm2; have hB3 := HB.out.trans j2.bel) | (at_builtin; refine wpList_appendWhere _ rfl (.tmp 36) (.tmp 38) 25 rfl base 3 i1 Try.underlying25 hi1 hy0 hy1 hy2 O (some ⟨w3.heap.size, 0, none⟩) co 1 1 (w3.heap.size + 1) r (r + 1) o [(x : Int)] rfl rfl (hO3.1.alloc _) HR.out rfl (src_new w3 ⟨by omega, by omega⟩) (by omega) (by simp; omega) ?_; intro O4 co4 w4 HO4 HG4 HW4; obtain ⟨q1, q2, q3⟩ := j1.beside hO3.1 HR.out hO3.2 HO4 HG4 HW4; have hrk : r + 1 ≤ k := (by have := j3.lenO; rw [List.length_append, HR.out] at this; exact this)))
            go_roundw
            case rel => exact ⟨O4, r + 1, co4, o ++ [(x : Int)], cm3, sn3, rows3, A3, c3, ns3, rfl, by unfold Hid; rw [List.length_append, HR.out]; rfl, q1, j3, hS3, HO4, q2, hB3.trans (q3.mono hwb)⟩
            case measure => simp [sliceLen]; omega
          · obtain rfl : N = 0 := by omega
            have HE : Hid (ns = []) := List.eq_nil_of_length_eq_zero hN
            clear hlt hN
            by_cases hrk : r < k
            · have HNO : Hid (∀ j, ¬ MayO LL k o j) := fun j hj => by
                have := (HI.out.may_iff j).1 hj
                rw [HE.out] at this
                cases this
              have HRK : Hid (o.length < k) := by unfold Hid; rw [HR.out]; exact hrk
              have r1 : (r : Int) < (k : Int) := by omega
              clear hro
              go_wp2_with (first | (go_at_call 26; refine (numLen _ _ _ _).mono ?_; rintro e w2 ⟨rfl, rfl⟩))
              go_ret2
              exact ⟨o, HS.out, .inr ⟨HRK.out, HNO.out, rfl⟩, HB.out⟩
            · obtain rfl : r = k := by omega
              clear hro hrk
              go_wp2_with (first | (go_at_call 26; refine (numLen _ _ _ _).mono ?_; rintro e w2 ⟨rfl, rfl⟩))
              go_ret2
              exact ⟨o, HS.out, .inl ⟨HR.out, O, co, rfl, HO.out.mono hwb⟩, HB.out⟩
end Go.Proofs.Ytnaehnlpcjaaeaa
/- The document's SameStops. -/
namespace Go.Proofs.Ytnaehnlpcjaaeaa
open Go.RowKit

/-- what a stop tells -/
def keyS (s : St) : Int × List Int := (s.at_, s.ins)
set_option maxRecDepth 100000 in
set_option maxHeartbeats 4000000 in
theorem refSameStops_any (A A2 : Option Addr) (n n2 c c2 : Nat) (ss ts : List St) (w : World) (h : Stops w w.heap.size A n ss) (h2 : Stops w w.heap.size A2 n2 ts) (hn : n ≤ 100000) (hn2 : n2 ≤ 9223372036854775807) (hb : ∀ s ∈ ss, s.n ≤ 100000) (hb2 : ∀ s ∈ ts, s.n ≤ 9223372036854775807) :
    Calls Try.prog 20 #[.slice A n c, .slice A2 n2 c2] w fun e w' => e = .returned (.bool (decide (ss.map keyS = ts.map keyS))) ∧ ∃ m, w' = w.drewN m := by
  have HL : Hid (ss.length = n) := h.1
  have HL2 : Hid (ts.length = n2) := h2.1
  have HB := Lib.hid hb
  have HB2 := Lib.hid hb2
  clear hb hb2
  by_cases hne : n = n2
  · subst hne
    go_enter Try.func20, Try.ntmps20
    go_wp2
    go_loopw [13] (fun i wr => ∃ (k m : Nat), k ≤ n ∧ i = .int .i64 k ∧ wr = w.drewN m ∧ Hid ((ss.take k).map keyS = (ts.take k).map keyS)) (fun i _ => n - (intOf i).toNat)
    case atStart => exact ⟨0, 0, Nat.zero_le _, rfl, rfl, by unfold Hid; simp⟩
    case round =>
      obtain ⟨k, m, hk, rfl, hwr, HK⟩ := hrel
      have h' : Stops wr w.heap.size A n ss := by rw [hwr]; exact h
      have h2' : Stops wr w.heap.size A2 n ts := by rw [hwr]; exact h2
      have HWR := Lib.hid hwr
      clear hwr
      by_cases hlt : k < n
      · obtain ⟨b, off, ⟨a1, X, nx, cx, xs⟩, rfl, _, HX, hc, hc', hI, _, hx1, hx2⟩ := h'.at_ hlt
        obtain ⟨b2, off2, ⟨a2, Y, ny, cy, ys⟩, rfl, _, HY, hd, hd', hI2, _, hy1, hy2⟩ := h2'.at_ hlt
        simp only at hc hc' hd hd' hI hI2 hx1 hx2 hy1 hy2
        have hk0 : (0 : Int) ≤ k := by omega
        have hk1 : (k : Int) < n := by omega
        have cE := fun q : Nat => refEqual_any X Y nx ny cx cy xs ys (wr.drewN q) w.heap.size (hI.drewN q) (hI2.drewN q) (HB.out _ (List.mem_of_getElem? HX.out)) (HB2.out _ (List.mem_of_getElem? HY.out))
        clear hI hI2 h' h2'
        by_cases hat : a1 = a2
        · subst hat
          have e1 : (a1 == a1) = true := by simp
          have e2 : (a1 != a1) = false := by simp
          by_cases hxy : xs = ys
          · rw [decide_eq_true hxy] at cE
            have HN : Hid ((ss.take (k + 1)).map keyS = (ts.take (k + 1)).map keyS) := by
              unfold Hid
              rw [take_succ_of HX.out, take_succ_of HY.out, List.map_append, List.map_append, HK.out]
              simp [keyS, hxy]
            clear hxy
            go_wp2_with fail
            go_quiet ((go_at_call 19; with_reducible exact Calls.quiet_of (cE _)))
            go_wp2
            go_roundw
            case rel => exact ⟨k + 1, _, by omega, by go_num, by rw [HWR.out]; exact World.drewN_drewN _ _ _, HN⟩
            case measure => simp [intOf]; omega
          · rw [decide_eq_false hxy] at cE
            have HF : Hid (decide (ss.map keyS = ts.map keyS) = false) := by
              unfold Hid; rw [decide_eq_false]; intro e
              have := congrArg (·[k]?) e
              simp only [List.getElem?_map, HX.out, HY.out, Option.map_some, Option.some.injEq, keyS, Prod.mk.injEq] at this
              exact hxy this.2
            clear hxy
            go_wp2_with fail
            go_quiet ((go_at_call 19; with_reducible exact Calls.quiet_of (cE _)))
            go_wp2
            go_ret
            exact ⟨by rw [HF.out]; rfl, _, by rw [HWR.out]; exact World.drewN_drewN _ _ _⟩
        · have HF : Hid (decide (ss.map keyS = ts.map keyS) = false) := by
            unfold Hid; rw [decide_eq_false]; intro e
            have := congrArg (·[k]?) e
            simp only [List.getElem?_map, HX.out, HY.out, Option.map_some, Option.some.injEq, keyS, Prod.mk.injEq] at this
            exact hat this.1
          have e1 : (a1 == a2) = false := by simpa using hat
          have e2 : (a1 != a2) = true := by simpa using hat
          clear cE hat
          go_wp2_with fail
          go_quiet (fail)
          go_wp2
          go_ret
          exact ⟨by rw [HF.out]; rfl, _, by rw [HWR.out]; exact World.drewN_drewN _ _ _⟩
      · have HF : Hid (decide (ss.map keyS = ts.map keyS) = true) := by
          unfold Hid; rw [decide_eq_true]; have := HK.out
          rwa [List.take_of_length_le (by rw [HL.out]; omega), List.take_of_length_le (by rw [HL2.out]; omega)] at this
        go_wp2
        go_ret
        exact ⟨by rw [HF.out]; rfl, _, HWR.out⟩
  · have HF : Hid (decide (ss.map keyS = ts.map keyS) = false) := by
      unfold Hid; rw [decide_eq_false]; intro e
      have := congrArg List.length e
      rw [List.length_map, List.length_map, HL.out, HL2.out] at this
      exact hne this
    have hne1 : ((n : Int) == (n2 : Int)) = false := by simp; omega
    have hne2 : ((n : Int) != (n2 : Int)) = true := by simp; omega
    go_enter Try.func20, Try.ntmps20
    go_wp2
    go_ret
    exact ⟨by rw [HF.out]; rfl, 0, rfl⟩
end Go.Proofs.Ytnaehnlpcjaaeaa
/- Slices of the call's own, of slices that lay there: how they read, and others behind them. -/
namespace Go.Proofs.Ytnaehnlpcjaaeaa
open Go.RowKit

/-- headers that lead to lists, in blocks below B -/
def Heads (w : World) (B : Nat) (vs : List Value) (LL : List (List Int)) : Prop :=
  vs.length = LL.length ∧ ∀ (k : Nat) (L : List Int), LL[k]? = some L → ∃ a c, vs[k]? = some (.slice a L.length c) ∧ L.length ≤ c ∧ Ints w B a L.length L
theorem Heads.below {w w' : World} {B B' : Nat} {vs : List Value} {LL : List (List Int)} (h : Heads w B vs LL) (hb : Below B' w w') (hB : B ≤ B') : Heads w' B vs LL := by
  refine ⟨h.1, fun k L hL => ?_⟩
  obtain ⟨a, c, h1, h2, h3⟩ := h.2 k L hL
  exact ⟨a, c, h1, h2, h3.keep fun p hp => hb.cell (by omega)⟩
theorem Heads.append {w : World} {B : Nat} {vs us : List Value} {LL MM : List (List Int)} (h : Heads w B vs LL) (h2 : Heads w B us MM) : Heads w B (vs ++ us) (LL ++ MM) := by
  refine ⟨by rw [List.length_append, List.length_append, h.1, h2.1], fun k L hL => ?_⟩
  by_cases hk : k < LL.length
  · rw [List.getElem?_append_left hk] at hL
    rw [List.getElem?_append_left (by rw [h.1]; exact hk)]
    exact h.2 k L hL
  · rw [List.getElem?_append_right (by omega)] at hL
    rw [List.getElem?_append_right (by rw [h.1]; omega), h.1]
    exact h2.2 _ L hL
theorem IntsLL.heads {w : World} {B n : Nat} {ad : Addr} {LL : List (List Int)} (h : IntsLL w B (some ad) n LL) :
    ∃ vs, vs.length = n ∧ (∀ (j : Nat) (u : Value), vs[j]? = some u → w.cell? (ad.add j) = some u) ∧ Heads w B vs LL ∧ ∀ u ∈ vs, u.oneCell' = true := by
  rcases Nat.eq_zero_or_pos n with rfl | hn
  · have : LL = [] := List.eq_nil_of_length_eq_zero h.1
    subst this
    exact ⟨[], rfl, by simp, ⟨rfl, by simp⟩, by simp⟩
  obtain ⟨b, off, e, hB, hx⟩ := h.2 hn
  injection e with e
  subst e
  have hat : ∀ (k : Nat), k < n → ∃ L a c, LL[k]? = some L ∧ w.cell? ⟨b, off + k, none⟩ = some (.slice a L.length c) ∧ L.length ≤ c ∧ Ints w B a L.length L := by
    intro k hk
    have hL := List.getElem?_eq_getElem (l := LL) (i := k) (by rw [h.1]; exact hk)
    obtain ⟨a, c, h1, h2, h3⟩ := hx k _ hL
    exact ⟨_, a, c, hL, h1, h2, h3⟩
  have hvs : ∀ (k : Nat), k < n → ((List.range n).map fun k => (w.cell? ⟨b, off + k, none⟩).getD (.bool false))[k]? = some ((w.cell? ⟨b, off + k, none⟩).getD (.bool false)) := by
    intro k hk
    rw [List.getElem?_map, List.getElem?_range hk]; rfl
  refine ⟨(List.range n).map fun k => (w.cell? ⟨b, off + k, none⟩).getD (.bool false), by simp, fun j u hu => ?_, ⟨by simp [h.1], fun k L hL => ?_⟩, fun u hu => ?_⟩
  · have hj : j < n := by have := (List.getElem?_eq_some_iff.1 hu).1; simpa using this
    rw [hvs j hj] at hu
    injection hu with hu
    obtain ⟨L, a, c, _, h1, _⟩ := hat j hj
    rw [h1] at hu
    simp only [Option.getD_some] at hu
    subst hu
    by_cases h0 : j = 0
    · subst h0; simpa [Addr.add] using h1
    · simpa [Addr.add, h0] using h1
  · have hk : k < n := by have := (List.getElem?_eq_some_iff.1 hL).1; rw [h.1] at this; exact this
    obtain ⟨L', a, c, h0, h1, h2, h3⟩ := hat k hk
    rw [hL] at h0
    injection h0 with h0
    subst h0
    exact ⟨a, c, by rw [hvs k hk, h1]; rfl, h2, h3⟩
  · obtain ⟨j, hj⟩ := List.getElem?_of_mem hu
    have hjn : j < n := by have := (List.getElem?_eq_some_iff.1 hj).1; simpa using this
    rw [hvs j hjn] at hj
    injection hj with hj
    obtain ⟨L, a, c, _, h1, _⟩ := hat j hjn
    rw [h1] at hj
    simp only [Option.getD_some] at hj
    subst hj
    rfl
/-- a slice of the call's own, of slices in blocks below B -/
def OwnH (w : World) (B base : Nat) (A : Option Addr) (c : Nat) (LL : List (List Int)) : Prop :=
  ∃ vs, w.ownsRow base 25 1 (.slice A LL.length c) LL.length vs ∧ Heads w B vs LL
theorem OwnH.nil_ (w : World) (B base : Nat) : OwnH w B base none 0 [] := ⟨[], w.ownsRow_nil base _ 1, rfl, by simp⟩
theorem OwnH.ints {w : World} {B base : Nat} {A : Option Addr} {c : Nat} {LL : List (List Int)} (h : OwnH w B base A c LL) (hB : B ≤ w.heap.size) : IntsLL w w.heap.size A LL.length LL := by
  obtain ⟨vs, hr, hh⟩ := h
  refine ⟨rfl, fun h0 => ?_⟩
  rcases hr.2 with ⟨_, h1⟩ | ⟨g, cap, cur, hv, _, hg, _⟩
  · omega
  have hA : A = some ⟨g, 0, none⟩ := by injection hv
  subst hA
  refine ⟨g, 0, rfl, (hr.lt g rfl).2, fun k L hL => ?_⟩
  obtain ⟨a, c2, h1, h2, h3⟩ := hh.2 k L hL
  have hk := (List.getElem?_eq_some_iff.1 hL).1
  refine ⟨a, c2, ?_, h2, h3.more hB⟩
  rw [Nat.zero_add]
  exact (hr.cellAt k (by omega)).trans h1
theorem run_appendHeads (w : World) (B base : Nat) (ty : TypeId) (A A2 : Option Addr) (c m c2 : Nat) (LL MM : List (List Int)) (ho : OwnH w B base A c LL) (hs : IntsLL w B A2 m MM) (hl : LL.length + m ≤ 1000000) (hb : base ≤ w.heap.size) (hB : B ≤ base) :
    ∃ A' c' w', (Builtin.append_ #[22, 22] ty #[.slice A LL.length c, .slice A2 m c2]).run Try.prog w = .ok (.slice A' (LL.length + m) c') w' ∧ OwnH w' B base A' c' (LL ++ MM) ∧ Below base w w' := by
  obtain ⟨i, hi, hz, h1, h2⟩ := info_parts infoRow
  obtain ⟨vs, hr, hh⟩ := ho
  have hm := hs.1
  rcases Option.eq_none_or_eq_some A2 with rfl | ⟨ad, rfl⟩
  · obtain rfl : m = 0 := by
      rcases Nat.eq_zero_or_pos m with h0 | h0
      · exact h0
      · obtain ⟨b, off, e', _⟩ := hs.2 h0; cases e'
    obtain rfl : MM = [] := List.eq_nil_of_length_eq_zero hm
    have hrun := run_appendNil (P := Try.prog) w base 22 ty 25 i Try.underlying22 hi (.slice A LL.length c) LL.length vs hr c2
    exact ⟨A, c, w, by simpa using hrun, ⟨vs, by simpa using hr, by simpa using hh⟩, Below.refl _ _⟩
  · obtain ⟨us, hul, huc, huh, hu1⟩ := hs.heads
    obtain ⟨v', w', hrun, h3, h4, _⟩ := run_append_own (P := Try.prog) w base 22 ty 25 i (.slice none 0 0) 1 24 Try.underlying22 hi hz h1 h2 rfl (by decide) (.slice A LL.length c) LL.length vs hr ad m c2 us (by rw [hul, Nat.mul_one]) huc hu1 (by unfold maxLen; omega) (by omega) hb
    obtain ⟨A', c', rfl⟩ := row_form h3
    have hbel : Below base w w' := (Below.refl _ w).grown h4 hb (fun k hk => (hr.lt k hk).1)
    refine ⟨A', c', w', hrun, ⟨vs ++ us, ?_, (hh.append huh).below hbel hB⟩, hbel⟩
    rw [List.length_append, hm]
    exact h3
theorem wpList_appendHeads {ops : Array Oper} {rest : List Oper} {o : Oper} {a : Act} {w : World} {Q : Exit → Act → World → Prop}
    (hg : o.guard = none) (s x : Operand) (hop : o.op = Op.call { callee := Callee.builtin Builtin.append, args := #[s, x], argTypes := #[22, 22] })
    (B base : Nat) (A A2 : Option Addr) (c m c2 p r : Nat) (LL MM : List (List Int)) (hs : a.eval s = .slice A p c) (hx : a.eval x = .slice A2 m c2)
    (ho : OwnH w B base A c LL) (hi2 : IntsLL w B A2 m MM) (hp : LL.length = p) (hr : p + m = r) (hl : r ≤ 1000000) (hb : base ≤ w.heap.size) (hB : B ≤ base)
    (hK : ∀ A' c' w', OwnH w' B base A' c' (LL ++ MM) → Below base w w' → wpList Try.prog ops Q rest (a.put o.dst (.slice A' r c')) w') : wpList Try.prog ops Q (o :: rest) a w := by
  refine wpList_plain hg fun K hK' => ?_
  subst hp
  subst hr
  obtain ⟨A', c', w', hrun, ho', hb'⟩ := run_appendHeads w B base o.type A A2 c m c2 LL MM ho hi2 hl hb hB
  unfold Oper.wp
  simp [execOp, hop, resolve, invoke, builtin, hs, hx, hrun, Result.andThen]
  exact hK' _ _ (hK _ _ _ ho' hb')
end Go.Proofs.Ytnaehnlpcjaaeaa
/- The contract of purflelaw07.live: the chapter's examples hold, and nothing that lay there has turned. -/
namespace Go.Proofs.Ytnaehnlpcjaaeaa
open Go.RowKit

theorem Heads.new {W : World} {vs : List Value} {LL : List (List Int)} (h : Heads W W.heap.size vs LL) : IntsLL (W.alloc (.cells vs.toArray 25)) (W.heap.size + 1) (some ⟨W.heap.size, 0, none⟩) LL.length LL := by
  have hb := (Below.refl W.heap.size W).alloc (Nat.le_refl _) (.cells vs.toArray 25)
  refine ⟨rfl, fun _ => ⟨_, _, rfl, by omega, fun k L hL => ?_⟩⟩
  obtain ⟨a, c, h1, h2, h3⟩ := h.2 k L hL
  refine ⟨a, c, ?_, h2, (h3.below hb).more (Nat.le_succ _)⟩
  have := heap_alloc_new W (.cells vs.toArray 25)
  rw [Nat.zero_add]
  exact (cell_of_row _ _ k _ _ (0, 0) this).trans (by simpa using h1)
theorem Heads.cons {w : World} {B : Nat} {vs : List Value} {LL : List (List Int)} {a : Option Addr} {c n : Nat} {L : List Int} (h : Heads w B vs LL) (hn : L.length = n) (hc : n ≤ c) (hI : Ints w B a n L) : Heads w B (.slice a n c :: vs) (L :: LL) := by
  subst hn
  refine ⟨by simp [h.1], fun k M hM => ?_⟩
  cases k with
  | zero => simp at hM; subst hM; exact ⟨a, c, rfl, hc, hI⟩
  | succ k => exact h.2 k M (by simpa using hM)
theorem Heads.nil_ (w : World) (B : Nat) : Heads w B [] [] := ⟨rfl, by simp⟩
theorem Stops.new {W : World} {ss : List St} (hx : ∀ x ∈ ss, Ints W W.heap.size x.A x.n x.ins ∧ x.n ≤ x.c ∧ -9223372036854775808 ≤ x.at_ ∧ x.at_ ≤ 9223372036854775807) : Stops (W.alloc (.cells (cellsS ss).toArray 36)) (W.heap.size + 1) (some ⟨W.heap.size, 0, none⟩) ss.length ss := by
  have hb := (Below.refl W.heap.size W).alloc (Nat.le_refl _) (.cells (cellsS ss).toArray 36)
  have hn := heap_alloc_new W (.cells (cellsS ss).toArray 36)
  refine ⟨rfl, fun x hm => ?_, fun _ => ⟨_, _, rfl, by omega, fun k x hk => ?_⟩⟩
  · obtain ⟨h1, h2⟩ := hx x hm
    exact ⟨(h1.below hb).more (Nat.le_succ _), h2⟩
  · obtain ⟨c1, c2⟩ := cellsS_at hk
    rw [Nat.zero_add, Nat.mul_comm k 2]
    exact ⟨(cell_of_row _ _ _ _ _ (0, 0) hn).trans (by simpa using c1), (cell_of_row _ _ _ _ _ (0, 0) hn).trans (by simpa using c2)⟩
/-- lists that rise, of the same numbers -/
theorem rise_same : ∀ {a b : List Int}, a.Pairwise (· < ·) → b.Pairwise (· < ·) → (∀ x, x ∈ a ↔ x ∈ b) → a = b
  | [], [], _, _, _ => rfl
  | [], y :: b, _, _, h => by have := (h y).2 (by simp); cases this
  | x :: a, [], _, _, h => by have := (h x).1 (by simp); cases this
  | x :: a, y :: b, ha, hb, h => by
    rw [List.pairwise_cons] at ha hb
    have e : x = y := by
      have h1 := (h x).1 (by simp)
      have h2 := (h y).2 (by simp)
      rcases List.mem_cons.1 h1 with h1 | h1
      · exact h1
      · rcases List.mem_cons.1 h2 with h2 | h2
        · exact h2.symm
        · have := hb.1 x h1; have := ha.1 y h2; omega
    subst e
    rw [rise_same ha.2 hb.2 fun z => ?_]
    have h1 := h z
    simp only [List.mem_cons] at h1
    constructor
    · intro hz
      have := h1.1 (.inr hz)
      rcases this with rfl | this
      · have := ha.1 _ hz; omega
      · exact this
    · intro hz
      have := h1.2 (.inr hz)
      rcases this with rfl | this
      · have := hb.1 _ hz; omega
      · exact this
theorem WalkI.keys {LL : List (List Int)} {ln : Nat} {ss : List St} (h : WalkI LL ln ss) : ss.map keyS = (ss.map (·.at_)).map fun v => (v, LL.map fun L => placeI L v) := by
  rw [List.map_map]
  refine List.map_congr_left fun s hs => ?_
  simp only [keyS, Function.comp]
  rw [(h.ins s hs).2]
/-- what may come next, reckoned -/
def mayB (LL : List (List Int)) (o : List Int) (i : Nat) : Bool := !(o.contains (i : Int)) && (LL.getD i []).all fun y => o.contains y
def nextB (LL : List (List Int)) (ln : Nat) (o : List Int) : Option Nat := (List.range ln).find? (mayB LL o)
def runB (LL : List (List Int)) (ln : Nat) : Nat → List Int
  | 0 => []
  | k + 1 => match nextB LL ln (runB LL ln k) with
    | some i => runB LL ln k ++ [(i : Int)]
    | none => runB LL ln k
theorem mayB_iff {LL : List (List Int)} {ln : Nat} {o : List Int} {i : Nat} (hi : i < ln) : mayB LL o i = true ↔ MayO LL ln o i := by
  unfold mayB MayO
  simp [hi]
theorem next_of {LL : List (List Int)} {ln : Nat} {o : List Int} {i : Nat} (h : MayO LL ln o i) (hl : ∀ j, MayO LL ln o j → i ≤ j) : nextB LL ln o = some i := by
  unfold nextB
  cases e : (List.range ln).find? (mayB LL o) with
  | none =>
    rw [List.find?_eq_none] at e
    exact absurd ((mayB_iff h.1).2 h) (e i (List.mem_range.2 h.1))
  | some j =>
    have h1 := List.find?_some e
    have hj := List.mem_range.1 (List.mem_of_find?_eq_some e)
    have h2 := hl j ((mayB_iff hj).1 h1)
    rw [List.find?_eq_some_iff_getElem] at e
    obtain ⟨_, k, hk, e1, e2⟩ := e
    simp at e1
    subst e1
    by_cases hlt : i < k
    · have := e2 i hlt
      simp [(mayB_iff h.1).2 h] at this
    · congr 1; omega
theorem StepsO.run {LL : List (List Int)} {ln : Nat} {o : List Int} (h : StepsO LL ln o) : o = runB LL ln o.length := by
  have key : ∀ k, k ≤ o.length → o.take k = runB LL ln k := by
    intro k
    induction k with
    | zero => intro _; simp [runB]
    | succ k ih =>
      intro hk
      have hk' : k < o.length := by omega
      have ht := ih (by omega)
      obtain ⟨i, hi, _⟩ := h.rng _ (List.getElem_mem hk')
      have hx : o[k]? = some (i : Int) := by rw [List.getElem?_eq_getElem hk', hi]
      obtain ⟨h1, h2⟩ := h.step k i hx
      have hn := next_of h1 h2
      rw [ht] at hn
      rw [take_succ_of hx, ht]
      simp only [runB, hn]
  have := key o.length (Nat.le_refl _)
  rwa [List.take_length] at this
theorem none_next {LL : List (List Int)} {ln : Nat} {o : List Int} (h : ∀ j, ¬ MayO LL ln o j) : nextB LL ln o = none := by
  unfold nextB
  rw [List.find?_eq_none]
  intro j hj
  exact fun e => h j ((mayB_iff (List.mem_range.1 hj)).1 e)
theorem live_order {o : List Int} (h : StepsO [[2], [], [1]] 3 o) (hn : o.length < 3 → ∀ j, ¬ MayO [[2], [], [1]] 3 o j) (hl : o.length ≤ 3) : o = [1, 2, 0] := by
  have hr := h.run
  have hc : o.length = 0 ∨ o.length = 1 ∨ o.length = 2 ∨ o.length = 3 := by omega
  rcases hc with e | e | e | e
  · rw [e] at hr
    have := none_next (hn (by omega))
    rw [hr] at this
    exact absurd this (by decide)
  · rw [e] at hr
    have := none_next (hn (by omega))
    rw [hr] at this
    exact absurd this (by decide)
  · rw [e] at hr
    have := none_next (hn (by omega))
    rw [hr] at this
    exact absurd this (by decide)
  · rw [e] at hr
    rw [hr]; decide
theorem live_keys {ss : List St} (h : WalkI [[1, 3], [3]] 2 ss) : ss.map keyS = [(1, [0, -1]), (3, [1, 0])] := by
  have : ss.map (·.at_) = [1, 3] := rise_same h.union.rise (by simp) fun x => (h.union.mem x).trans (by simp)
  rw [h.keys, this]
  decide
end Go.Proofs.Ytnaehnlpcjaaeaa
