/- container/heap's Pop, at merge's heaps. -/
import Derived.Test.YtnaehnlpcjaaeaaG3
import Derived.Test.YtnaehnlpcjaaeaaG2
import Derived.Test.YtnaehnlpcjaaeaaG1
import Derived.Deep.QuietTactic
namespace Go.Proofs.Ytnaehnlpcjaaeaa
open Go.RowKit

theorem snoc_at {ms : List Int} {n : Nat} (h : ms.length = n + 1) : ms = ms.take n ++ [atN ms n] := by
  have h1 : ms[n]? = some (atN ms n) := by
    rw [List.getElem?_eq_getElem (by omega)]
    simp [atN, List.getD, List.getElem?_eq_getElem (show n < ms.length by omega)]
  have h2 := take_succ_of h1
  rw [← h2, List.take_of_length_le (by omega)]
theorem atN_take {ms : List Int} {n k : Nat} (hk : k < n) : atN (ms.take n) k = atN ms k := by
  unfold atN
  rw [List.getD_eq_getElem?_getD, List.getD_eq_getElem?_getD, List.getElem?_take, if_pos hk]
set_option maxRecDepth 100000 in
set_option maxHeartbeats 8000000 in
theorem heapPop {T S : TypeId} {g base : Nat} {rest : List Value} {f : Int → Int} {J : World → Prop} {D : Int → Prop} {fl : FuncId} {rv : Option Addr → Nat → Nat → Value} (hL : LessOK T S g base rest f J D fl rv) (A : Option Addr) (c n : Nat) (ns : List Int) (w : World) (h : HeapB w g base S rest A c ns) (hJ : J w) (hD : ∀ x ∈ ns, D x) (hN : ns.length = n + 1) (hl : n < 100000) (hP : HeapP f ns (n + 1)) (x : Int) (hx : ns[0]? = some x) :
    Calls Try.prog 44 #[.iface T (.pointer (some ⟨g, 0, none⟩))] w fun e w' => e = .returned (.iface 3 (.int .i64 x)) ∧ ∃ ms, HeapB w' g base S rest A c ms ∧ (ms ++ [x]).Perm ns ∧ ms.length = n ∧ HeapP f ms n ∧ FarB w w' g base A A := by
  obtain ⟨y, hy⟩ : ∃ y, ns[n]? = some y := ⟨_, List.getElem?_eq_getElem (by omega)⟩
  have mLen := hL.t.runLen w g (n + 1) c A (by have := h.cell; rwa [hN] at this)
  have cLen := numLen A (n + 1) c w
  have mS := hL.t.runSwap w g (n + 1) c A (by have := h.cell; rwa [hN] at this)
  have cS := swapB h hx hy
  rw [hN] at cS
  have HPM : Hid ((swapL ns 0 n x y).Perm ns) := swapL_perm hx hy
  have HDX : Hid (DownX f (swapL ns 0 n x y) 0 n) := hP.down fun k h0 hk => by rw [swapL_at hx hy, if_neg (by omega), if_neg (by omega)]
  have HAT : Hid (atN (swapL ns 0 n x y) n = x) := by unfold Hid; rw [swapL_at hx hy, if_pos rfl]
  obtain ⟨eLen, ePush, ePop, eSwap⟩ := HeapT.enters
  have HL := Lib.hid hL
  have HJ := Lib.hid hJ
  have HD := Lib.hid hD
  have HN := Lib.hid hN
  have e0 : (((n + 1 : Nat) : Int)) - 1 = (n : Int) := by omega
  have e1 : ((n : Int) + 1) - 1 = (n : Int) := by omega
  have e2 : IntKind.i64.wrap (n : Int) = (n : Int) := wrap_natM _ (by omega)
  clear hL hJ hD hN hP hx hy h
  go_enter Try.func44, Try.ntmps44
  go_wp2_with (first | (go_at_call 26; refine cLen.mono ?_; rintro e w2 ⟨rfl, rfl⟩))
  refine cS.mono ?_
  rintro e w3 ⟨rfl, hB3, hA3⟩
  have hln : (swapL ns 0 n x y).length = n + 1 := by rw [swapL_len, HN.out]
  have cD := heapDown HL.out A c (n + 1) n (swapL ns 0 n x y) w3 hB3 (HL.out.keep _ _ _ _ HJ.out hA3) (fun z hz => HD.out z (HPM.out.mem_iff.1 hz)) hln (by omega) (by omega) (by omega) HDX.out
  have HA3 := Lib.hid hA3
  clear hB3 hA3 cS mS cLen mLen hln
  go_wp2_with fail
  refine cD.mono ?_
  rintro e w4 ⟨⟨b, rfl⟩, ms, hB4, hP4, hH4, hK4, hA4⟩
  have hml : ms.length = n + 1 := by rw [hP4.length_eq, swapL_len, HN.out]
  have hsn := snoc_at hml
  rw [hK4 n (Nat.le_refl _), HAT.out] at hsn
  have hB5 : HeapB w4 g base S rest A c (ms.take n ++ [x]) := by rw [← hsn]; exact hB4
  have htl : (ms.take n).length = n := by rw [List.length_take]; omega
  have mPop := HL.out.t.runPop w4 g
  have cPop := numPop g base S rest A c (ms.take n) x w4 hB5 (by omega)
  have HH4 : Hid (HeapP f (ms.take n) n) := fun k h0 hk => by
    rw [atN_take hk, atN_take (by omega)]; exact hH4 k h0 hk
  have HP5 : Hid ((ms.take n ++ [x]).Perm ns) := by unfold Hid; rw [← hsn]; exact hP4.trans HPM.out
  have HA4 := Lib.hid hA4
  have HTL := Lib.hid htl
  clear hB4 hP4 hH4 hK4 hA4 hsn hB5 htl hml cD
  go_wp2_with fail
  refine cPop.mono ?_
  rintro e w5 ⟨rfl, hB6, hA6⟩
  go_wp2_with fail
  go_ret
  exact ⟨rfl, ms.take n, hB6, HP5.out, HTL.out, HH4.out, (HA3.out.trans HA4.out).trans hA6⟩
end Go.Proofs.Ytnaehnlpcjaaeaa
/- heads: the next number of a list, and which goes on with a less one. -/
namespace Go.Proofs.Ytnaehnlpcjaaeaa
open Go.RowKit

/-- the lists and how far each has gone, in blocks below q and in block q -/
structure HeadsJ (q g : Nat) (LA : Option Addr) (ln cN : Nat) (LL : List (List Int)) (nx : List Int) (w : World) : Prop where
  lists : IntsLL w q LA ln LL
  next : OwnI w q 3 (some ⟨q, 0, none⟩) cN nx
  len : nx.length = ln
  lt : q < g
theorem OwnI.same {w w' : World} {base q c : Nat} {e : TypeId} {xs : List Int} (h : OwnI w base e (some ⟨q, 0, none⟩) c xs) (hq : w'.heap[q]? = w.heap[q]?) : OwnI w' base e (some ⟨q, 0, none⟩) c xs := by
  refine ⟨⟨h.1.1, ?_⟩, h.2⟩
  rcases h.1.2 with h1 | ⟨b, cap, cur, h1, h2, h3, h4⟩
  · exact .inl h1
  · refine .inr ⟨b, cap, cur, h1, h2, ?_, h4⟩
    injection h1 with h1
    injection h1 with h1
    injection h1 with h1
    subst h1
    rw [hq]; exact h3
theorem HeadsJ.keep {q g base ln cN : Nat} {LA : Option Addr} {LL : List (List Int)} {nx : List Int} {w w' : World} {A A' : Option Addr} (h : HeadsJ q g LA ln cN LL nx w) (hA : FarB w w' g base A A') (hg : g < base) : HeadsJ q g LA ln cN LL nx w' :=
  ⟨h.lists.below (hA.below (Nat.le_of_lt h.lt) hg), h.next.same (hA.low q (Nat.lt_trans h.lt hg) (Nat.ne_of_lt h.lt)), h.len, h.lt⟩
/-- list n has not ended, and goes on with x -/
def Goes (LL : List (List Int)) (nx : List Int) (n x : Int) : Prop := 0 ≤ n ∧ ∃ L i, LL[n.toNat]? = some L ∧ nx[n.toNat]? = some i ∧ 0 ≤ i ∧ L[i.toNat]? = some x
def headF (LL : List (List Int)) (nx : List Int) (n : Int) : Int := (LL.getD n.toNat []).getD (nx.getD n.toNat 0).toNat 0
theorem Goes.head {LL : List (List Int)} {nx : List Int} {n x : Int} (h : Goes LL nx n x) : headF LL nx n = x := by
  obtain ⟨h0, L, i, h1, h2, h3, h4⟩ := h
  simp [headF, List.getD, h1, h2, h4]
set_option maxRecDepth 100000 in
theorem head_any (q g base ln cN lc nc : Nat) (LA A : Option Addr) (c : Nat) (ns : List Int) (LL : List (List Int)) (nx : List Int) (n x : Int) (w : World) (h : HeapB w g base 50 [.slice LA ln lc, .slice (some ⟨q, 0, none⟩) ln nc] A c ns) (hJ : HeadsJ q g LA ln cN LL nx w) (hn : Goes LL nx n x) (hL : ∀ L ∈ LL, L.length ≤ 9223372036854775807) (_ : ln ≤ 9223372036854775807) :
    Calls Try.prog 43 #[.pointer (some ⟨g, 0, none⟩), .int .i64 n] w fun e w' => e = .returned (.int .i64 x) ∧ ∃ m, w' = w.drewN m := by
  obtain ⟨h0, L, i, h1, h2, h3, h4⟩ := hn
  obtain ⟨k, rfl⟩ : ∃ k : Nat, n = (k : Int) := ⟨n.toNat, by omega⟩
  obtain ⟨p, rfl⟩ : ∃ p : Nat, i = (p : Int) := ⟨i.toNat, by omega⟩
  rw [Int.toNat_natCast] at h1 h2 h4
  have hk : k < ln := by have := (List.getElem?_eq_some_iff.1 h1).1; have := hJ.lists.1; omega
  obtain ⟨b, off, L', a, lc', rfl, _, hL1, hc1, hc2, hI⟩ := hJ.lists.at_ hk
  have e1 : L' = L := by have := hL1.out; rw [h1] at this; injection this with this; exact this.symm
  rw [e1] at hc1 hI
  have hpl : p < L.length := (List.getElem?_eq_some_iff.1 h4).1
  have hLb := hL L (List.mem_of_getElem? h1)
  obtain ⟨b2, off2, x', rfl, _, hX, hcx, _, _⟩ := hI.at_ hpl
  have e2 : x' = x := by have := hX.out; rw [h4] at this; injection this with this; exact this.symm
  rw [e2] at hcx
  obtain ⟨hnx, _⟩ := hJ.next.cell_ h2
  have r1 := h.restAt (k := 0) (v := .slice (some ⟨b, off, none⟩) ln lc) rfl
  have r2 := h.restAt (k := 1) (v := .slice (some ⟨q, 0, none⟩) ln nc) rfl
  obtain ⟨N, hN⟩ : ∃ N, L.length = N := ⟨_, rfl⟩
  rw [hN] at hc1 hpl hLb
  have k0 : (0 : Int) ≤ (k : Int) := by omega
  have k1 : (k : Int) < (ln : Int) := by omega
  have p0 : (0 : Int) ≤ (p : Int) := by omega
  have p1 : (p : Int) < (N : Int) := by omega
  clear h hJ hL h0 h1 h2 h3 h4 hL1 hI hX e1 e2 hN
  go_enter Try.func43, Try.ntmps43
  go_wp2
  go_quiet (fail)
  go_wp2
  go_ret
  exact ⟨rfl, _, rfl⟩
end Go.Proofs.Ytnaehnlpcjaaeaa
/- heads.Less, and that a heap of heads is one. -/
namespace Go.Proofs.Ytnaehnlpcjaaeaa
open Go.RowKit

theorem HeadsJ.drewN {q g ln cN : Nat} {LA : Option Addr} {LL : List (List Int)} {nx : List Int} {w : World} (h : HeadsJ q g LA ln cN LL nx w) (m : Nat) : HeadsJ q g LA ln cN LL nx (w.drewN m) := ⟨h.lists, h.next, h.len, h.lt⟩
set_option maxRecDepth 100000 in
set_option maxHeartbeats 4000000 in
theorem headsLess (q g base ln cN lc nc : Nat) (LA A : Option Addr) (c i j : Nat) (ns : List Int) (LL : List (List Int)) (nx : List Int) (x y vx vy : Int) (w : World) (h : HeapB w g base 50 [.slice LA ln lc, .slice (some ⟨q, 0, none⟩) ln nc] A c ns) (hJ : HeadsJ q g LA ln cN LL nx w) (hx : ns[i]? = some x) (hy : ns[j]? = some y) (gx : Goes LL nx x vx) (gy : Goes LL nx y vy) (hL : ∀ L ∈ LL, L.length ≤ 9223372036854775807) (hln : ln ≤ 9223372036854775807) (_hN : ns.length ≤ 100000) (R : Bool) (HR : Hid (decide (vx < vy) = R)) :
    Calls Try.prog 73 #[.pointer (some ⟨g, 0, none⟩), .int .i64 i, .int .i64 j] w fun e w' => e = .returned (.bool R) ∧ ∃ m, w' = w.drewN m := by
  have H1 := fun m : Nat => head_any q g base ln cN lc nc LA A c ns LL nx x vx (w.drewN m) (h.drewN m) (hJ.drewN m) gx hL hln
  have H2 := fun m : Nat => head_any q g base ln cN lc nc LA A c ns LL nx y vy (w.drewN m) (h.drewN m) (hJ.drewN m) gy hL hln
  have hin : i < ns.length := (List.getElem?_eq_some_iff.1 hx).1
  have hjn : j < ns.length := (List.getElem?_eq_some_iff.1 hy).1
  obtain ⟨b, rfl⟩ : ∃ b, A = some ⟨b, 0, none⟩ := by
    rcases h.own.1.2 with ⟨_, h2⟩ | ⟨b, cap, cur, h1, _⟩
    · omega
    · injection h1 with h1; exact ⟨b, h1⟩
  obtain ⟨ci, _⟩ := h.own.cell_ hx
  obtain ⟨cj, _⟩ := h.own.cell_ hy
  have hc := h.cell
  obtain ⟨N, hN2⟩ : ∃ N, ns.length = N := ⟨_, rfl⟩
  rw [hN2] at hc hin hjn
  have i0 : (0 : Int) ≤ (i : Int) := by omega
  have i1 : (i : Int) < (N : Int) := by omega
  have j0 : (0 : Int) ≤ (j : Int) := by omega
  have j1 : (j : Int) < (N : Int) := by omega
  have HR2 : Hid (decide (vx < vy) = R) := HR
  clear h hJ hx hy gx gy hL _hN hN2 hln HR
  go_enter Try.func73, Try.ntmps73
  go_wp2
  go_quiet ((first | (go_at_call 43; with_reducible exact Calls.quiet_of (H1 _)) | (go_at_call 43; with_reducible exact Calls.quiet_of (H2 _))))
  go_wp2
  go_ret
  exact ⟨by rw [← HR2.out]; rfl, _, rfl⟩
set_option maxRecDepth 100000 in
theorem heads_ok (q g base ln cN lc nc : Nat) (LA : Option Addr) (LL : List (List Int)) (nx : List Int) (hL : ∀ L ∈ LL, L.length ≤ 9223372036854775807) (hln : ln ≤ 9223372036854775807) (hg : g < base) :
    LessOK 44 50 g base [.slice LA ln lc, .slice (some ⟨q, 0, none⟩) ln nc] (headF LL nx) (HeadsJ q g LA ln cN LL nx) (fun n => ∃ x, Goes LL nx n x) 73 (fun _ _ _ => .pointer (some ⟨g, 0, none⟩)) where
  t := heads_t
  keep := fun w w' A A' h hA => h.keep hA hg
  enters := enters_of Try.func73 (by kernel_rfl) rfl
  find := fun w A c ns h k => run_meth_self (by unfold MethF; kernel_rfl) Try.underlying44 w _ k
  less := fun w A c ns i j x y h hJ hx hy ⟨vx, gx⟩ ⟨vy, gy⟩ hN => by
    rw [gx.head, gy.head]
    exact headsLess q g base ln cN lc nc LA A c i j ns LL nx x y vx vy w h hJ hx hy gx gy hL hln hN _ rfl
end Go.Proofs.Ytnaehnlpcjaaeaa
/- merge's queue is a heap of its numbers themselves. -/
namespace Go.Proofs.Ytnaehnlpcjaaeaa
open Go.RowKit

set_option maxRecDepth 100000 in
theorem queue_ok (g base : Nat) (rest : List Value) (J : World → Prop) (hJ : ∀ w w' A A', J w → FarB w w' g base A A' → J w') :
    LessOK 73 62 g base rest (fun x => x) J (fun _ => True) 77 (fun A c n => .slice A n c) where
  t := queue_t
  keep := hJ
  enters := enters_of Try.func77 (by kernel_rfl) rfl
  find := fun w A c ns h k => by
    obtain ⟨fs, fd, h1, h2, h3, h4⟩ := queue_t.str
    exact run_meth_val qm_less h1 h2 h3 (by rw [h4]; exact Try.underlying48) queue_t.ptr w (by rw [h4]; exact size_nums w) g ns.length c A h.cell k
  less := fun w A c ns i j x y h _ hx hy _ _ _ => numLess A ns.length c i j ns w w.heap.size h.own.ints x y hx hy _ rfl
end Go.Proofs.Ytnaehnlpcjaaeaa
/- heads.put. -/
namespace Go.Proofs.Ytnaehnlpcjaaeaa
open Go.RowKit

set_option maxRecDepth 100000 in
set_option maxHeartbeats 4000000 in
theorem headsPut_go (q g base ln cN lc nc : Nat) (LA A : Option Addr) (c : Nat) (ns : List Int) (LL : List (List Int)) (nx : List Int) (n x : Int) (w : World) (h : HeapB w g base 50 [.slice LA ln lc, .slice (some ⟨q, 0, none⟩) ln nc] A c ns) (hJ : HeadsJ q g LA ln cN LL nx w) (hL : ∀ L ∈ LL, L.length ≤ 9223372036854775807) (hln : ln ≤ 100000) (hD : ∀ m ∈ ns, ∃ x, Goes LL nx m x) (hn : Goes LL nx n x) (hl : ns.length < 100000) (hP : HeapP (headF LL nx) ns ns.length) :
    Calls Try.prog 42 #[.pointer (some ⟨g, 0, none⟩), .int .i64 n] w fun e w' => e = .returned (.tuple #[]) ∧ ∃ ms A' c', HeapB w' g base 50 [.slice LA ln lc, .slice (some ⟨q, 0, none⟩) ln nc] A' c' ms ∧ ms.Perm (ns ++ [n]) ∧ HeapP (headF LL nx) ms ms.length ∧ FarB w w' g base A A' := by
  have hnb : -9223372036854775808 ≤ n ∧ n ≤ 9223372036854775807 := by
    obtain ⟨h0, L, i, h1, _⟩ := hn
    have := (List.getElem?_eq_some_iff.1 h1).1
    have := hJ.lists.1
    omega
  have cP := fun m : Nat => heapPush (heads_ok q g base ln cN lc nc LA LL nx hL (by omega) h.lt) A c ns n (w.drewN m) (h.drewN m) (hJ.drewN m) hD ⟨x, hn⟩ hl hnb hP
  obtain ⟨h0, L, i, h1, h2, h3, h4⟩ := hn
  obtain ⟨k, rfl⟩ : ∃ k : Nat, n = (k : Int) := ⟨n.toNat, by omega⟩
  obtain ⟨p, rfl⟩ : ∃ p : Nat, i = (p : Int) := ⟨i.toNat, by omega⟩
  rw [Int.toNat_natCast] at h1 h2 h4
  have hk : k < ln := by have := (List.getElem?_eq_some_iff.1 h1).1; have := hJ.lists.1; omega
  obtain ⟨b, off, L', a, lc', rfl, _, hL1, hc1, hc2, hI⟩ := hJ.lists.at_ hk
  have e1 : L' = L := by have := hL1.out; rw [h1] at this; injection this with this; exact this.symm
  rw [e1] at hc1 hI
  have hpl : p < L.length := (List.getElem?_eq_some_iff.1 h4).1
  obtain ⟨hnx, _⟩ := hJ.next.cell_ h2
  have r1 := h.restAt (k := 0) (v := .slice (some ⟨b, off, none⟩) ln lc) rfl
  have r2 := h.restAt (k := 1) (v := .slice (some ⟨q, 0, none⟩) ln nc) rfl
  obtain ⟨N, hN⟩ : ∃ N, L.length = N := ⟨_, rfl⟩
  rw [hN] at hc1 hpl
  have hif := run_iface (k : Int)
  have k0 : (0 : Int) ≤ (k : Int) := by omega
  have k1 : (k : Int) < (ln : Int) := by omega
  have d1 : decide ((p : Int) < (N : Int)) = true := by simp; omega
  have d2 : decide (p < N) = true := by simp; omega
  clear h hJ hL h0 h1 h2 h3 h4 hL1 hI e1 hN hD hP
  go_enter Try.func42, Try.ntmps42
  go_wp2_with fail
  go_quiet (fail)
  go_wp2_with (go_at_call 51; refine (cP _).mono ?_; rintro e w3 ⟨rfl, ms, A', c', hB3, hP3, hH3, hA3⟩)
  go_end0
  exact ⟨rfl, ms, A', c', hB3, hP3, hH3, ((FarB.refl w g base A).drewN _).trans hA3⟩
set_option maxRecDepth 100000 in
set_option maxHeartbeats 4000000 in
theorem headsPut_end (q g base ln cN lc nc : Nat) (LA A : Option Addr) (c : Nat) (ns : List Int) (LL : List (List Int)) (nx : List Int) (k p : Nat) (L : List Int) (w : World) (h : HeapB w g base 50 [.slice LA ln lc, .slice (some ⟨q, 0, none⟩) ln nc] A c ns) (hJ : HeadsJ q g LA ln cN LL nx w) (h1 : LL[k]? = some L) (h2 : nx[k]? = some (p : Int)) (h3 : L.length ≤ p) :
    Calls Try.prog 42 #[.pointer (some ⟨g, 0, none⟩), .int .i64 k] w fun e w' => e = .returned (.tuple #[]) ∧ ∃ m, w' = w.drewN m := by
  have hk : k < ln := by have := (List.getElem?_eq_some_iff.1 h1).1; have := hJ.lists.1; omega
  obtain ⟨b, off, L', a, lc', rfl, _, hL1, hc1, hc2, hI⟩ := hJ.lists.at_ hk
  have e1 : L' = L := by have := hL1.out; rw [h1] at this; injection this with this; exact this.symm
  rw [e1] at hc1 hI
  obtain ⟨hnx, _⟩ := hJ.next.cell_ h2
  have r1 := h.restAt (k := 0) (v := .slice (some ⟨b, off, none⟩) ln lc) rfl
  have r2 := h.restAt (k := 1) (v := .slice (some ⟨q, 0, none⟩) ln nc) rfl
  obtain ⟨N, hN⟩ : ∃ N, L.length = N := ⟨_, rfl⟩
  rw [hN] at hc1 h3
  have k0 : (0 : Int) ≤ (k : Int) := by omega
  have k1 : (k : Int) < (ln : Int) := by omega
  have d1 : decide ((p : Int) < (N : Int)) = false := by simp; omega
  have d2 : decide (p < N) = false := by simp; omega
  clear h hJ h1 h2 hL1 hI e1 hN
  go_enter Try.func42, Try.ntmps42
  go_wp2_with fail
  go_quiet (fail)
  go_wp2
  go_end0
  exact ⟨rfl, _, rfl⟩
end Go.Proofs.Ytnaehnlpcjaaeaa
/- merge.Rises, and the document's. -/
namespace Go.Proofs.Ytnaehnlpcjaaeaa
open Go.RowKit

theorem rise_at {L : List Int} (h : L.Pairwise (· < ·)) {p : Nat} {x y : Int} (hx : L[p]? = some x) (hy : L[p + 1]? = some y) : x < y := by
  obtain ⟨h1, rfl⟩ := List.getElem?_eq_some_iff.1 hx
  obtain ⟨h2, rfl⟩ := List.getElem?_eq_some_iff.1 hy
  exact List.pairwise_iff_getElem.1 h p (p + 1) h1 h2 (by omega)
theorem rise_step {L : List Int} {k p : Nat} {x y : Int} (h : (L.take k).Pairwise (· < ·)) (hp : k = p + 1) (hx : L[p]? = some x) (hy : L[k]? = some y) (hxy : x < y) : (L.take (k + 1)).Pairwise (· < ·) := by
  rw [take_succ_of hy, List.pairwise_append]
  refine ⟨h, List.pairwise_singleton _ _, fun a ha b hb => ?_⟩
  rw [List.mem_singleton.1 hb]
  subst hp
  rw [take_succ_of hx] at h ha
  rw [List.pairwise_append] at h
  rcases List.mem_append.1 ha with ha | ha
  · have := h.2.2 a ha x (by simp)
    omega
  · rw [List.mem_singleton.1 ha]; exact hxy
set_option maxRecDepth 100000 in
set_option maxHeartbeats 2000000 in
theorem rises_any (A : Option Addr) (n c B : Nat) (L : List Int) (w : World) (h : Ints w B A n L) (hn : n ≤ 9223372036854775806) (R : Bool) (HR : Hid (decide (L.Pairwise (· < ·)) = R)) :
    Calls Try.prog 11 #[.slice A n c] w fun e w' => e = .returned (.bool R) ∧ ∃ m, w' = w.drewN m := by
  have HL : Hid (L.length = n) := h.1
  go_enter Try.func11, Try.ntmps11
  go_wp2
  go_loopw [3] (fun v wr => ∃ (k m : Nat), v = .int .i64 (k : Int) ∧ 1 ≤ k ∧ (k ≤ n ∨ k = 1) ∧ Hid ((L.take k).Pairwise (· < ·)) ∧ wr = w.drewN m) (fun v _ => n - (intOf v).toNat)
  case atStart => exact ⟨1, 0, rfl, Nat.le_refl _, .inr rfl, by unfold Hid; cases L <;> simp, rfl⟩
  case round =>
    obtain ⟨k, m, rfl, hk1, hkn, HP, rfl⟩ := hrel
    by_cases hlt : k < n
    · obtain ⟨b, off, y, rfl, _, HY, hcy, hy1, hy2⟩ := h.at_ hlt
      obtain ⟨p, hp⟩ : ∃ p, k = p + 1 := ⟨k - 1, by omega⟩
      obtain ⟨b', off', x, hA, _, HX, hcx, hx1, hx2⟩ := h.at_ (k := p) (by omega)
      injection hA with hA
      injection hA with e1 e2
      subst e1 e2
      have eq1 : (k : Int) - 1 = (p : Int) := by omega
      have eq2 : IntKind.i64.wrap (p : Int) = (p : Int) := by rw [wrap_eq]; exact IntWalk.wrap64_in _ ⟨by omega, by omega⟩
      have k0 : (0 : Int) ≤ (k : Int) := by omega
      have k2 : (k : Int) < (n : Int) := by omega
      have p0 : (0 : Int) ≤ (p : Int) := by omega
      have p1 : (p : Int) < (n : Int) := by omega
      have HPK := Lib.hid hp
      by_cases hxy : x < y
      · have HN : Hid ((L.take (k + 1)).Pairwise (· < ·)) := rise_step HP.out HPK.out HX.out HY.out hxy
        have d1 : decide (y ≤ x) = false := by simp; omega
        clear hp hxy
        go_wp2
        go_quiet (fail)
        go_wp2
        go_roundw
        case rel => exact ⟨k + 1, _, by go_num, by omega, by omega, HN, rfl⟩
        case measure => simp [intOf]; omega
      · have HF : Hid (R = false) := by
          unfold Hid
          rw [← HR.out, decide_eq_false]
          exact fun h => hxy (rise_at h HX.out (by rw [← HPK.out]; exact HY.out))
        have d1 : decide (y ≤ x) = true := by simp; omega
        clear hp hxy
        go_wp2
        go_quiet (fail)
        go_wp2
        go_ret
        exact ⟨by rw [HF.out]; rfl, _, by rw [World.drewN_drewN]⟩
    · have HF : Hid (R = true) := by
        unfold Hid
        rw [← HR.out, decide_eq_true]
        have := HP.out
        rwa [List.take_of_length_le (by rw [HL.out]; omega)] at this
      have d0 : decide ((k : Int) < (n : Int)) = false := by simp; omega
      have d0' : decide (k < n) = false := by simp; omega
      go_wp2
      go_ret
      exact ⟨by rw [HF.out]; rfl, _, rfl⟩
set_option maxRecDepth 100000 in
set_option maxHeartbeats 2000000 in
theorem refRises_any (A : Option Addr) (n c B : Nat) (L : List Int) (w : World) (h : Ints w B A n L) (hn : n ≤ 9223372036854775806) (R : Bool) (HR : Hid (decide (L.Pairwise (· < ·)) = R)) :
    Calls Try.prog 12 #[.slice A n c] w fun e w' => e = .returned (.bool R) ∧ ∃ m, w' = w.drewN m := by
  have HL : Hid (L.length = n) := h.1
  go_enter Try.func12, Try.ntmps12
  go_wp2
  go_loopw [3] (fun v wr => ∃ (k m : Nat), v = .int .i64 (k : Int) ∧ 1 ≤ k ∧ (k ≤ n ∨ k = 1) ∧ Hid ((L.take k).Pairwise (· < ·)) ∧ wr = w.drewN m) (fun v _ => n - (intOf v).toNat)
  case atStart => exact ⟨1, 0, rfl, Nat.le_refl _, .inr rfl, by unfold Hid; cases L <;> simp, rfl⟩
  case round =>
    obtain ⟨k, m, rfl, hk1, hkn, HP, rfl⟩ := hrel
    by_cases hlt : k < n
    · obtain ⟨b, off, y, rfl, _, HY, hcy, hy1, hy2⟩ := h.at_ hlt
      obtain ⟨p, hp⟩ : ∃ p, k = p + 1 := ⟨k - 1, by omega⟩
      obtain ⟨b', off', x, hA, _, HX, hcx, hx1, hx2⟩ := h.at_ (k := p) (by omega)
      injection hA with hA
      injection hA with e1 e2
      subst e1 e2
      have eq1 : (k : Int) - 1 = (p : Int) := by omega
      have eq2 : IntKind.i64.wrap (p : Int) = (p : Int) := by rw [wrap_eq]; exact IntWalk.wrap64_in _ ⟨by omega, by omega⟩
      have k0 : (0 : Int) ≤ (k : Int) := by omega
      have k2 : (k : Int) < (n : Int) := by omega
      have p0 : (0 : Int) ≤ (p : Int) := by omega
      have p1 : (p : Int) < (n : Int) := by omega
      have HPK := Lib.hid hp
      by_cases hxy : x < y
      · have HN : Hid ((L.take (k + 1)).Pairwise (· < ·)) := rise_step HP.out HPK.out HX.out HY.out hxy
        have d1 : decide (y ≤ x) = false := by simp; omega
        clear hp hxy
        go_wp2
        go_quiet (fail)
        go_wp2
        go_roundw
        case rel => exact ⟨k + 1, _, by go_num, by omega, by omega, HN, rfl⟩
        case measure => simp [intOf]; omega
      · have HF : Hid (R = false) := by
          unfold Hid
          rw [← HR.out, decide_eq_false]
          exact fun h => hxy (rise_at h HX.out (by rw [← HPK.out]; exact HY.out))
        have d1 : decide (y ≤ x) = true := by simp; omega
        clear hp hxy
        go_wp2
        go_quiet (fail)
        go_wp2
        go_ret
        exact ⟨by rw [HF.out]; rfl, _, by rw [World.drewN_drewN]⟩
    · have HF : Hid (R = true) := by
        unfold Hid
        rw [← HR.out, decide_eq_true]
        have := HP.out
        rwa [List.take_of_length_le (by rw [HL.out]; omega)] at this
      have d0 : decide ((k : Int) < (n : Int)) = false := by simp; omega
      have d0' : decide (k < n) = false := by simp; omega
      go_wp2
      go_ret
      exact ⟨by rw [HF.out]; rfl, _, rfl⟩
end Go.Proofs.Ytnaehnlpcjaaeaa
/- merge.open. -/
namespace Go.Proofs.Ytnaehnlpcjaaeaa
open Go.RowKit

/-- has list n not ended -/
def liveB (LL : List (List Int)) (nx : List Int) (n : Nat) : Bool := decide ((nx.getD n 0).toNat < (LL.getD n []).length)
/-- of the first k lists those that have not ended -/
def liveL (LL : List (List Int)) (nx : List Int) (k : Nat) : List Int := ((List.range k).filter (liveB LL nx)).map fun n : Nat => (n : Int)
theorem liveL_succ (LL : List (List Int)) (nx : List Int) (k : Nat) : liveL LL nx (k + 1) = liveL LL nx k ++ if liveB LL nx k = true then [(k : Int)] else [] := by
  unfold liveL
  rw [List.range_succ, List.filter_append, List.map_append]
  congr 1
  by_cases h : liveB LL nx k = true
  · rw [if_pos h, List.filter_cons_of_pos h]; rfl
  · rw [if_neg h, List.filter_cons_of_neg h]; rfl
theorem liveL_mem {LL : List (List Int)} {nx : List Int} {k : Nat} {m : Int} : m ∈ liveL LL nx k ↔ ∃ n : Nat, m = (n : Int) ∧ n < k ∧ liveB LL nx n = true := by
  unfold liveL
  rw [List.mem_map]
  constructor
  · rintro ⟨n, hn, rfl⟩
    have := List.mem_filter.1 hn
    exact ⟨n, rfl, List.mem_range.1 this.1, this.2⟩
  · rintro ⟨n, rfl, h1, h2⟩
    exact ⟨n, List.mem_filter.2 ⟨List.mem_range.2 h1, h2⟩, rfl⟩
theorem live_goes {LL : List (List Int)} {nx : List Int} {n : Nat} (hl : nx.length = LL.length) (hn : n < LL.length) (h0 : ∀ i ∈ nx, 0 ≤ i) (h : liveB LL nx n = true) : ∃ x, Goes LL nx n x := by
  unfold liveB at h
  have h := of_decide_eq_true h
  have e1 : LL[n]? = some LL[n] := List.getElem?_eq_getElem hn
  have e2 : nx[n]? = some nx[n] := List.getElem?_eq_getElem (by omega)
  simp only [List.getD, e1, e2, Option.getD_some] at h
  refine ⟨_, Int.natCast_nonneg n, LL[n], nx[n], by simp, by simp, h0 _ (List.getElem_mem _), List.getElem?_eq_getElem h⟩
theorem repl_nonneg (n : Nat) : ∀ i ∈ List.replicate n (0 : Int), 0 ≤ i := fun i hi => by rw [(List.mem_replicate.1 hi).2]; exact Int.le_refl _
/-- all lists rise -/
def AllRise (LL : List (List Int)) : Prop := ∀ L ∈ LL, L.Pairwise (· < ·)

set_option maxRecDepth 100000 in
set_option maxHeartbeats 8000000 in
theorem open_ok (LA : Option Addr) (ln lc : Nat) (LL : List (List Int)) (w : World) (h : IntsLL w w.heap.size LA ln LL) (hL : ∀ L ∈ LL, L.length ≤ 9223372036854775806) (hln : ln ≤ 1000) (hR : AllRise LL) :
    Calls Try.prog 25 #[.slice LA ln lc] w fun e w' => e = .returned (.tuple #[.pointer (some ⟨w.heap.size + 1, 0, none⟩), .int .i64 0]) ∧
      ∃ ms A c, HeapB w' (w.heap.size + 1) (w.heap.size + 2) 50 [.slice LA ln lc, .slice (some ⟨w.heap.size, 0, none⟩) ln ln] A c ms ∧ HeadsJ w.heap.size (w.heap.size + 1) LA ln ln LL (List.replicate ln 0) w' ∧ ms.Perm (liveL LL (List.replicate ln 0) ln) ∧ HeapP (headF LL (List.replicate ln 0)) ms ms.length ∧ Below w.heap.size w w' := by
  obtain ⟨i0, hi0, hz0, hz1, hz2⟩ := info_parts infoInt
  have hmk := fun W => run_makeAll (P := Try.prog) 25 3 i0 Try.underlying25 hi0 hz0 hz1 hz2 ln (by omega) W
  have hs1 : w.heap.size ≤ w.heap.size := Nat.le_refl _
  have hown := own_made w 3 ln w.heap.size hs1 (by omega)
  have HLN : Hid (LL.length = ln) := h.1
  have HLL := Lib.hid h
  have HLB := Lib.hid hL
  have HRR := Lib.hid hR
  clear h hL hR
  go_enter Try.func25, Try.ntmps25
  go_wp2_with fail
  have z0 := (Below.refl w.heap.size w).alloc (Nat.le_refl _) (.cells (madeCells #[.int .i64 0] ln) 3)
  have z1 := z0.alloc z0.size (.cells #[.slice none 0 0, .slice LA ln lc, .slice (some ⟨w.heap.size, 0, none⟩) ln ln] 50)
  have hsz : ((w.alloc (.cells (madeCells #[.int .i64 0] ln) 3)).alloc (.cells #[.slice none 0 0, .slice LA ln lc, .slice (some ⟨w.heap.size, 0, none⟩) ln ln] 50)).heap.size = w.heap.size + 2 := by simp
  have hbx : ((w.alloc (.cells (madeCells #[.int .i64 0] ln) 3)).alloc (.cells #[.slice none 0 0, .slice LA ln lc, .slice (some ⟨w.heap.size, 0, none⟩) ln ln] 50)).heap[w.heap.size + 1]? = some (.cells #[.slice none 0 0, .slice LA ln lc, .slice (some ⟨w.heap.size, 0, none⟩) ln ln] 50 (0, 0)) := by
    have := heap_alloc_new (w.alloc (.cells (madeCells #[.int .i64 0] ln) 3)) (.cells #[.slice none 0 0, .slice LA ln lc, .slice (some ⟨w.heap.size, 0, none⟩) ln ln] 50)
    rwa [World.size_alloc] at this
  have hown2 := hown.alloc (.cells #[.slice none 0 0, .slice LA ln lc, .slice (some ⟨w.heap.size, 0, none⟩) ln ln] 50)
  obtain ⟨W1, hW1⟩ : ∃ W, (w.alloc (.cells (madeCells #[.int .i64 0] ln) 3)).alloc (.cells #[.slice none 0 0, .slice LA ln lc, .slice (some ⟨w.heap.size, 0, none⟩) ln ln] 50) = W := ⟨_, rfl⟩
  rw [hW1] at z1 hsz hbx hown2 ⊢
  have HB1 : Hid (HeapB W1 (w.heap.size + 1) (w.heap.size + 2) 50 [.slice LA ln lc, .slice (some ⟨w.heap.size, 0, none⟩) ln ln] none 0 []) := ⟨hbx, OwnI.nil_ _ _ _, by omega, by omega⟩
  have HJ1 : Hid (HeadsJ w.heap.size (w.heap.size + 1) LA ln ln LL (List.replicate ln 0) W1) := ⟨HLL.out.below z1, hown2, by simp, by omega⟩
  have HZ1 := Lib.hid z1
  clear z0 z1 hsz hbx hown2 hown hmk hW1
  go_loopw [15] (fun v wr => ∃ (k : Nat) (ms : List Int) (A : Option Addr) (c : Nat), v = .int .i64 (k : Int) ∧ k ≤ ln ∧ Hid (HeapB wr (w.heap.size + 1) (w.heap.size + 2) 50 [.slice LA ln lc, .slice (some ⟨w.heap.size, 0, none⟩) ln ln] A c ms) ∧ Hid (ms.Perm (liveL LL (List.replicate ln 0) k)) ∧ Hid (HeapP (headF LL (List.replicate ln 0)) ms ms.length) ∧ Hid (FarB W1 wr (w.heap.size + 1) (w.heap.size + 2) none A)) (fun v _ => ln - (intOf v).toNat)
  case atStart => exact ⟨0, [], none, 0, rfl, Nat.zero_le _, HB1, List.Perm.refl _, fun k h0 hk => absurd hk (by simp), Lib.hid (FarB.refl _ _ _ _)⟩
  case round =>
    obtain ⟨k, ms, A, c, rfl, hk, HB, HP, HH, HA⟩ := hrel
    have HJ : Hid (HeadsJ w.heap.size (w.heap.size + 1) LA ln ln LL (List.replicate ln 0) wr) := HJ1.out.keep HA.out (by omega)
    have HBW : Hid (Below w.heap.size w wr) := HZ1.out.trans (HA.out.below (by omega) (by omega))
    have HML : Hid (ms.length ≤ k) := by
      unfold Hid
      rw [HP.out.length_eq]
      unfold liveL
      rw [List.length_map]
      have := List.length_filter_le (liveB LL (List.replicate ln 0)) (List.range k)
      rwa [List.length_range] at this
    by_cases hlt : k < ln
    · obtain ⟨b, off, L, a, c', rfl, _, hLk, hc1, hc2, hI⟩ := HJ.out.lists.at_ hlt
      have hLm := List.mem_of_getElem? hLk.out
      have cR := rises_any a L.length c' _ L wr hI (HLB.out L hLm) true (decide_eq_true (HRR.out L hLm))
      have hn0 : (List.replicate ln (0 : Int))[k]? = some 0 := by rw [List.getElem?_replicate, if_pos hlt]
      have hDs : ∀ m ∈ ms, ∃ x, Goes LL (List.replicate ln 0) m x := fun m hm => by
        obtain ⟨n, rfl, hn, hb⟩ := liveL_mem.1 (HP.out.mem_iff.1 hm)
        exact live_goes (by rw [List.length_replicate, HLN.out]) (by rw [HLN.out]; omega) (repl_nonneg _) hb
      have HSC := Lib.hid (liveL_succ LL (List.replicate ln 0) k)
      obtain ⟨M, hM⟩ : ∃ M, L.length = M := ⟨_, rfl⟩
      by_cases hl0 : 0 < L.length
      · obtain ⟨x, hx⟩ : ∃ x, L[0]? = some x := ⟨_, List.getElem?_eq_getElem hl0⟩
        have hg : Goes LL (List.replicate ln 0) (k : Int) x := ⟨by omega, L, 0, by simpa using hLk.out, by simpa using hn0, by omega, by simpa using hx⟩
        have cP := fun q : Nat => headsPut_go w.heap.size (w.heap.size + 1) (w.heap.size + 2) ln ln lc ln (some ⟨b, off, none⟩) A c ms LL (List.replicate ln 0) (k : Int) x (wr.drewN q) (HB.out.drewN q) (HJ.out.drewN q) (fun L hL => by have := HLB.out L hL; omega) (by omega) hDs hg (by have := HML.out; omega) HH.out
        have hlv : liveB LL (List.replicate ln 0) k = true := by unfold liveB; simp [List.getD, hLk.out, hn0, hl0]
        have HPN : Hid (∀ ms' : List Int, ms'.Perm (ms ++ [(k : Int)]) → ms'.Perm (liveL LL (List.replicate ln 0) (k + 1))) := fun ms' h => by
          rw [HSC.out, if_pos hlv]
          exact h.trans (HP.out.append_right _)
        rw [hM] at hc1 cR
        clear hx hg hlv hl0 hM hDs hn0 hI
        go_wp2_with (first | (go_at_call 11; refine cR.mono ?_; rintro e w2 ⟨rfl, q2, rfl⟩) | (go_at_call 42; refine (cP _).mono ?_; rintro e w3 ⟨rfl, ms', A', c9, hB3, hP3, hH3, hA3⟩))
        go_roundw
        case rel => exact ⟨k + 1, ms', A', c9, by go_num, by omega, Lib.hid hB3, HPN.out ms' hP3, Lib.hid hH3, Lib.hid ((HA.out.drewN _).trans hA3)⟩
        case measure => simp [intOf]; omega
      · have cP := fun q : Nat => headsPut_end w.heap.size (w.heap.size + 1) (w.heap.size + 2) ln ln lc ln (some ⟨b, off, none⟩) A c ms LL (List.replicate ln 0) k 0 L (wr.drewN q) (HB.out.drewN q) (HJ.out.drewN q) hLk.out (by simpa using hn0) (by omega)
        have hlv : ¬ liveB LL (List.replicate ln 0) k = true := fun h => by unfold liveB at h; have := of_decide_eq_true h; simp only [List.getD, hLk.out, hn0, Option.getD_some] at this; omega
        have HPN : Hid (ms.Perm (liveL LL (List.replicate ln 0) (k + 1))) := by
          unfold Hid
          rw [HSC.out, if_neg hlv, List.append_nil]
          exact HP.out
        rw [hM] at hc1 cR
        clear hlv hl0 hM hDs hn0 hI
        go_wp2_with (first | (go_at_call 11; refine cR.mono ?_; rintro e w2 ⟨rfl, q2, rfl⟩) | (go_at_call 42; refine (cP _).mono ?_; rintro e w3 ⟨rfl, q3, rfl⟩))
        go_roundw
        case rel => exact ⟨k + 1, ms, A, c, by go_num, by omega, Lib.hid (HB.out.drewN _), HPN, HH, Lib.hid (HA.out.drewN _)⟩
        case measure => simp [intOf]; omega
    · have hkn : k = ln := by omega
      have dk : decide ((k : Int) < (ln : Int)) = false := by simp; omega
      have dk2 : decide (k < ln) = false := by simp; omega
      have HPF : Hid (ms.Perm (liveL LL (List.replicate ln 0) ln)) := by unfold Hid; have := HP.out; rwa [hkn] at this
      clear hkn hlt
      go_wp2_with fail
      go_ret2
      exact ⟨rfl, ms, A, c, HB.out, HJ.out, HPF.out, HH.out, HBW.out⟩
end Go.Proofs.Ytnaehnlpcjaaeaa
/- What heads.pass does to how far the lists have gone: plain mathematics. -/
namespace Go.Proofs.Ytnaehnlpcjaaeaa

def nxN (nx : List Int) (k : Nat) : Int := nx.getD k 0
/-- those in the heap are just the lists that have not ended -/
def LiveS (LL : List (List Int)) (nx : List Int) (ln : Nat) (ns : List Int) : Prop := ns.Nodup ∧ ∀ m, m ∈ ns ↔ ∃ k : Nat, m = (k : Int) ∧ k < ln ∧ liveB LL nx k = true
/-- some of those lists whose next number is at have gone on -/
structure StepP (LL : List (List Int)) (nx : List Int) (ln : Nat) (at_ : Int) (hs : List Int) (nx' : List Int) : Prop where
  nodup : hs.Nodup
  some_ : ∀ m ∈ hs, ∃ k : Nat, m = (k : Int) ∧ k < ln ∧ liveB LL nx k = true ∧ headF LL nx k = at_
  len : nx'.length = ln
  nx : ∀ k, k < ln → nxN nx' k = nxN nx k + if (k : Int) ∈ hs then 1 else 0
theorem liveL_s (LL : List (List Int)) (nx : List Int) (ln : Nat) : LiveS LL nx ln (liveL LL nx ln) := by
  refine ⟨?_, fun m => liveL_mem⟩
  unfold liveL List.Nodup
  rw [List.pairwise_map]
  exact (List.nodup_range.sublist List.filter_sublist).imp fun h e => h (by omega)
theorem LiveS.of_perm {LL : List (List Int)} {nx : List Int} {ln : Nat} {ns ms : List Int} (h : LiveS LL nx ln ns) (hp : ms.Perm ns) : LiveS LL nx ln ms := ⟨(hp.nodup_iff).2 h.1, fun m => hp.mem_iff.trans (h.2 m)⟩
theorem live_iff {LL : List (List Int)} {nx : List Int} {k : Nat} : liveB LL nx k = true ↔ (nxN nx k).toNat < (LL.getD k []).length := by unfold liveB nxN; exact decide_eq_true_iff
theorem headF_nat (LL : List (List Int)) (nx : List Int) (k : Nat) : headF LL nx (k : Int) = (LL.getD k []).getD (nxN nx k).toNat 0 := by unfold headF nxN; rw [Int.toNat_natCast]
theorem step_nil (LL : List (List Int)) {nx : List Int} {ln : Nat} (at_ : Int) (hl : nx.length = ln) : StepP LL nx ln at_ [] nx := ⟨List.nodup_nil, fun m hm => (by cases hm), hl, fun k _ => (by simp)⟩
theorem rise_lt {L : List Int} (h : L.Pairwise (· < ·)) {i j : Nat} (hij : i < j) (hj : j < L.length) : L.getD i 0 < L.getD j 0 := by
  have h1 := List.pairwise_iff_getElem.1 h i j (by omega) hj hij
  simpa [List.getD, List.getElem?_eq_getElem (show i < L.length by omega), List.getElem?_eq_getElem hj] using h1
theorem getD_mem {LL : List (List Int)} {k : Nat} (h : k < LL.length) : LL.getD k [] ∈ LL := by
  simp [List.getD, List.getElem?_eq_getElem h]
section
variable {LL : List (List Int)} {nx nx' : List Int} {ln : Nat} {at_ : Int} {hs : List Int}
/-- a list that has gone on goes on with a greater number -/
theorem StepP.gone (h : StepP LL nx ln at_ hs nx') (hR : AllRise LL) (hll : LL.length = ln) (h0 : ∀ k, k < ln → 0 ≤ nxN nx k) {k : Nat} (hk : (k : Int) ∈ hs) (hl : liveB LL nx' k = true) : at_ < headF LL nx' k := by
  obtain ⟨k', e, hkl, hb, ha⟩ := h.some_ _ hk
  obtain rfl : k = k' := by omega
  have hn := h.nx k hkl
  rw [if_pos hk] at hn
  have hz := h0 k hkl
  rw [← ha, headF_nat, headF_nat]
  rw [live_iff] at hl
  refine rise_lt (hR _ (getD_mem (by omega))) ?_ hl
  omega
theorem StepP.stays (h : StepP LL nx ln at_ hs nx') {k : Nat} (hkl : k < ln) (hk : (k : Int) ∉ hs) : nxN nx' k = nxN nx k ∧ liveB LL nx' k = liveB LL nx k ∧ headF LL nx' k = headF LL nx k := by
  have hn := h.nx k hkl
  rw [if_neg hk, Int.add_zero] at hn
  refine ⟨hn, ?_, by rw [headF_nat, headF_nat, hn]⟩
  rw [Bool.eq_iff_iff, live_iff, live_iff, hn]
theorem nxN_set {nx : List Int} {n k : Nat} {v : Int} (hn : n < nx.length) : nxN (nx.set n v) k = if k = n then v else nxN nx k := by
  unfold nxN
  simp only [List.getD, List.getElem?_set]
  by_cases e : n = k
  · subst e; simp [hn]
  · have : ¬ k = n := fun h => e h.symm
    simp [e, this]
/-- one more goes on -/
theorem StepP.more (h : StepP LL nx ln at_ hs nx') {n : Nat} (hn : n < ln) (hnh : (n : Int) ∉ hs) (hl : liveB LL nx n = true) (ha : headF LL nx n = at_) : StepP LL nx ln at_ (hs ++ [(n : Int)]) (nx'.set n (nxN nx' n + 1)) := by
  refine ⟨?_, fun m hm => ?_, by rw [List.length_set]; exact h.len, fun k hk => ?_⟩
  · rw [List.nodup_append]
    exact ⟨h.nodup, List.pairwise_singleton _ _, fun a ha b hb e => by rw [List.mem_singleton.1 hb] at e; exact hnh (e ▸ ha)⟩
  · rcases List.mem_append.1 hm with hm | hm
    · exact h.some_ m hm
    · rw [List.mem_singleton.1 hm]; exact ⟨n, rfl, hn, hl, ha⟩
  · rw [nxN_set (by rw [h.len]; exact hn)]
    have hk2 := h.nx k hk
    by_cases e : k = n
    · subst e
      rw [if_pos rfl, if_pos (by simp)]
      rw [if_neg hnh] at hk2
      omega
    · rw [if_neg e, hk2]
      have : ((k : Int) ∈ hs ++ [(n : Int)]) ↔ (k : Int) ∈ hs := by
        rw [List.mem_append, List.mem_singleton]
        exact ⟨fun h => h.resolve_right (by omega), .inl⟩
      simp only [this]
/-- none is left that goes on with it -/
theorem StepP.whole (h : StepP LL nx ln at_ hs nx') {ns : List Int} (hS : LiveS LL nx' ln ns) (hmin : ∀ m ∈ ns, at_ < headF LL nx' m) : ∀ m, m ∈ hs ↔ ∃ k : Nat, m = (k : Int) ∧ k < ln ∧ liveB LL nx k = true ∧ headF LL nx k = at_ := by
  intro m
  refine ⟨h.some_ m, ?_⟩
  rintro ⟨k, rfl, hk, hl, ha⟩
  refine Decidable.byContradiction fun hn => ?_
  obtain ⟨_, e2, e3⟩ := h.stays hk hn
  have := hmin k ((hS.2 _).2 ⟨k, rfl, hk, by rw [e2]; exact hl⟩)
  omega
theorem LiveS.after {ns ms : List Int} {n : Nat} {v : Int} (h : LiveS LL nx' ln ns) (hlen : nx'.length = ln) (hp : (ms ++ [(n : Int)]).Perm ns) : (liveB LL (nx'.set n v) n = true → ∀ ms', ms'.Perm (ms ++ [(n : Int)]) → LiveS LL (nx'.set n v) ln ms') ∧ (¬ liveB LL (nx'.set n v) n = true → LiveS LL (nx'.set n v) ln ms) ∧ (n : Int) ∉ ms ∧ n < ln := by
  have hnd := hp.nodup_iff.2 h.1
  rw [List.nodup_append] at hnd
  have hnm : (n : Int) ∉ ms := fun hm => hnd.2.2 _ hm _ (by simp) rfl
  obtain ⟨n', e, hn, hl⟩ := (h.2 (n : Int)).1 (hp.mem_iff.1 (by simp))
  obtain rfl : n = n' := by omega
  have key : ∀ k, k ≠ n → liveB LL (nx'.set n v) k = liveB LL nx' k := fun k hk => by
    rw [Bool.eq_iff_iff, live_iff, live_iff, nxN_set (by omega), if_neg hk]
  refine ⟨fun hb ms' hp' => ⟨?_, fun m => ?_⟩, fun hb => ⟨hnd.1, fun m => ?_⟩, hnm, hn⟩
  · exact hp'.nodup_iff.2 (hp.nodup_iff.2 h.1)
  · rw [hp'.mem_iff, hp.mem_iff, h.2]
    constructor
    · rintro ⟨k, rfl, hk, hl'⟩
      by_cases e2 : k = n
      · subst e2; exact ⟨k, rfl, hk, hb⟩
      · exact ⟨k, rfl, hk, by rw [key k e2]; exact hl'⟩
    · rintro ⟨k, rfl, hk, hl'⟩
      by_cases e2 : k = n
      · subst e2; exact ⟨k, rfl, hk, hl⟩
      · exact ⟨k, rfl, hk, by rw [← key k e2]; exact hl'⟩
  · constructor
    · intro hm
      obtain ⟨k, rfl, hk, hl'⟩ := (h.2 m).1 (hp.mem_iff.1 (List.mem_append.2 (.inl hm)))
      have e2 : k ≠ n := fun e2 => hnm (e2 ▸ hm)
      exact ⟨k, rfl, hk, by rw [key k e2]; exact hl'⟩
    · rintro ⟨k, rfl, hk, hl'⟩
      have e2 : k ≠ n := fun e2 => hb (e2 ▸ hl')
      have := hp.mem_iff.2 ((h.2 (k : Int)).2 ⟨k, rfl, hk, by rw [← key k e2]; exact hl'⟩)
      rcases List.mem_append.1 this with h1 | h1
      · exact h1
      · exact absurd (by have := List.mem_singleton.1 h1; omega) e2
theorem headF_set {n : Nat} {v : Int} {m : Int} (hn : n < nx'.length) (hm : m ≠ (n : Int)) (h0 : 0 ≤ m) : headF LL (nx'.set n v) m = headF LL nx' m := by
  obtain ⟨k, rfl⟩ : ∃ k : Nat, m = (k : Int) := ⟨m.toNat, by omega⟩
  rw [headF_nat, headF_nat, nxN_set hn, if_neg (by omega)]
theorem heapP_same {f f' : Int → Int} {ns : List Int} {n : Nat} (h : HeapP f ns n) (hn : n ≤ ns.length) (hf : ∀ m ∈ ns, f' m = f m) : HeapP f' ns n := fun k h0 hk => by
  have hm : ∀ j, j < n → atN ns j ∈ ns := fun j hj => by
    have : j < ns.length := by omega
    simp [atN, List.getD, List.getElem?_eq_getElem this]
  rw [hf _ (hm _ (by omega)), hf _ (hm k hk)]
  exact h k h0 hk
end
end Go.Proofs.Ytnaehnlpcjaaeaa
/- What heads.pass needs beside its walk: counts, and what stays as it was. -/
namespace Go.Proofs.Ytnaehnlpcjaaeaa
open Go.RowKit

theorem nodup_le {l : List Int} {n : Nat} (h1 : l.Nodup) (h2 : ∀ x ∈ l, ∃ k : Nat, x = (k : Int) ∧ k < n) : l.length ≤ n := by
  have h := h1.length_le_of_subset (l₂ := (List.range n).map fun k : Nat => (k : Int)) fun x hx => by
    obtain ⟨k, rfl, hk⟩ := h2 x hx
    exact List.mem_map.2 ⟨k, List.mem_range.2 hk, rfl⟩
  simpa using h
section
variable {LL : List (List Int)} {nx nx' : List Int} {ln : Nat} {at_ : Int} {hs ns : List Int}
theorem LiveS.le (h : LiveS LL nx ln ns) : ns.length ≤ ln := nodup_le h.1 fun x hx => by
  obtain ⟨k, e, hk, _⟩ := (h.2 x).1 hx
  exact ⟨k, e, hk⟩
theorem StepP.le (h : StepP LL nx ln at_ hs nx') : hs.length ≤ ln := nodup_le h.nodup fun x hx => by
  obtain ⟨k, e, hk, _⟩ := h.some_ x hx
  exact ⟨k, e, hk⟩
theorem StepP.nonneg (h : StepP LL nx ln at_ hs nx') (h0 : ∀ k, k < ln → 0 ≤ nxN nx k) : ∀ i ∈ nx', 0 ≤ i := fun i hi => by
  obtain ⟨k, hk, rfl⟩ := List.getElem_of_mem hi
  have hkl : k < ln := by have := h.len; omega
  have h1 := h.nx k hkl
  have h2 := h0 k hkl
  have h3 : nxN nx' k = nx'[k] := by simp [nxN, List.getD, List.getElem?_eq_getElem hk]
  have h4 : (0 : Int) ≤ if (k : Int) ∈ hs then 1 else 0 := by split <;> omega
  omega
theorem LiveS.goes (h : LiveS LL nx ln ns) (hl : nx.length = ln) (hll : LL.length = ln) (h0 : ∀ i ∈ nx, 0 ≤ i) : ∀ m ∈ ns, ∃ x, Goes LL nx m x := fun m hm => by
  obtain ⟨n, rfl, hn, hb⟩ := (h.2 m).1 hm
  exact live_goes (by rw [hl, hll]) (by rw [hll]; exact hn) h0 hb
end
theorem OwnI.same_ {w w' : World} {base c : Nat} {e : TypeId} {H : Option Addr} {xs : List Int} (h : OwnI w base e H c xs) (hq : ∀ b, H = some ⟨b, 0, none⟩ → w'.heap[b]? = w.heap[b]?) : OwnI w' base e H c xs := by
  refine ⟨⟨h.1.1, ?_⟩, h.2⟩
  rcases h.1.2 with h1 | ⟨b, cap, cur, h1, h2, h3, h4⟩
  · exact .inl h1
  · refine .inr ⟨b, cap, cur, h1, h2, ?_, h4⟩
    injection h1 with h1
    rw [hq b h1]; exact h3
theorem HeapB.keep {w w' : World} {g base c : Nat} {S : TypeId} {rest : List Value} {A : Option Addr} {ns : List Int} (h : HeapB w g base S rest A c ns) (hg : w'.heap[g]? = w.heap[g]?) (hA : ∀ b, A = some ⟨b, 0, none⟩ → w'.heap[b]? = w.heap[b]?) (hs : w.heap.size ≤ w'.heap.size) : HeapB w' g base S rest A c ns :=
  ⟨by rw [hg]; exact h.box, h.own.same_ hA, h.lt, Nat.le_trans h.sz hs⟩
/-- but for blocks g and q and the numbers' own block all is as it was; where the numbers lie then -/
structure FarQ (w w' : World) (q g base : Nat) (A A' : Option Addr) : Prop where
  os : w'.os = w.os
  tape : w'.tape = w.tape
  output : w'.output = w.output
  size : w.heap.size ≤ w'.heap.size
  low : ∀ b, b < base → b ≠ g → b ≠ q → w'.heap[b]? = w.heap[b]?
  mid : ∀ b, b < w.heap.size → b ≠ g → b ≠ q → A ≠ some ⟨b, 0, none⟩ → w'.heap[b]? = w.heap[b]?
  wher : ∀ b, A' = some ⟨b, 0, none⟩ → A = some ⟨b, 0, none⟩ ∨ w.heap.size ≤ b
section
variable {w w' w2 : World} {q g base : Nat} {A A' A2 : Option Addr}
theorem FarQ.refl (w : World) (q g base : Nat) (A : Option Addr) : FarQ w w q g base A A := ⟨rfl, rfl, rfl, Nat.le_refl _, fun _ _ _ _ => rfl, fun _ _ _ _ _ => rfl, fun _ hq => .inl hq⟩
theorem FarB.toQ (h : FarB w w' g base A A') : FarQ w w' q g base A A' := ⟨h.os, h.tape, h.output, h.size, fun b hb h1 _ => h.low b hb h1, fun b hb h1 _ h3 => h.mid b hb h1 h3, h.wher⟩
theorem FarQ.trans (h : FarQ w w' q g base A A') (h2 : FarQ w' w2 q g base A' A2) : FarQ w w2 q g base A A2 :=
  ⟨h2.os.trans h.os, h2.tape.trans h.tape, h2.output.trans h.output, Nat.le_trans h.size h2.size, fun b hb h1 h3 => (h2.low b hb h1 h3).trans (h.low b hb h1 h3), fun b hb h1 h3 hA => (h2.mid b (Nat.lt_of_lt_of_le hb h.size) h1 h3 (fun e => by rcases h.wher b e with e2 | e2; exact hA e2; omega)).trans (h.mid b hb h1 h3 hA), fun b hb => by
    rcases h2.wher b hb with e | e
    · exact h.wher b e
    · exact .inr (Nat.le_trans h.size e)⟩
theorem FarQ.drewN (h : FarQ w w' q g base A A') (m : Nat) : FarQ w (w'.drewN m) q g base A A' := ⟨h.os, h.tape, h.output, h.size, h.low, h.mid, h.wher⟩
theorem FarQ.set (h : FarQ w w' q g base A A') (i : Nat) (v : Value) : FarQ w (w'.setCell ⟨q, i, none⟩ v) q g base A A' :=
  ⟨h.os, h.tape, h.output, by simpa using h.size, fun b hb h1 h2 => (Below.heap_setCell _ ⟨q, i, none⟩ _ _ (fun e => h2 (by first | exact e.symm | exact e))).trans (h.low b hb h1 h2), fun b hb h1 h2 h3 => (Below.heap_setCell _ ⟨q, i, none⟩ _ _ (fun e => h2 (by first | exact e.symm | exact e))).trans (h.mid b hb h1 h2 h3), h.wher⟩
/-- what is built beyond stays beyond -/
theorem FarQ.then (h : FarQ w w' q g base A A') (hb : Below w.heap.size w' w2) (hs : base ≤ w.heap.size) : FarQ w w2 q g base A A' :=
  ⟨hb.os.trans h.os, hb.tape.trans h.tape, hb.output.trans h.output, Nat.le_trans h.size hb.size, fun b hb1 h1 h2 => (hb.block b (by omega)).trans (h.low b hb1 h1 h2), fun b hb1 h1 h2 h3 => (hb.block b hb1).trans (h.mid b hb1 h1 h2 h3), h.wher⟩
theorem FarQ.below {B : Nat} (h : FarQ w w' q g base A A') (hB : B ≤ q) (hq : q < g) (hg : g < base) : Below B w w' := ⟨h.os, h.tape, h.output, h.size, fun b hb => h.low b (by omega) (by omega) (by omega)⟩
/-- an operation of the heap leaves a slice of another's as it is -/
theorem FarB.own {Bh c : Nat} {e : TypeId} {H : Option Addr} {xs : List Int} (h : FarB w w' g base A A') (hg : g < Bh) (hO : OwnI w Bh e H c xs) (hA : Apart H A) : OwnI w' Bh e H c xs ∧ Apart H A' := by
  refine ⟨hO.same_ fun b hb => ?_, fun b hb hb' => ?_⟩
  · have := (show OwnI w Bh e (some ⟨b, 0, none⟩) c xs from hb ▸ hO).ltL
    exact h.mid b this.2 (by omega) (hA b hb)
  · have := (show OwnI w Bh e (some ⟨b, 0, none⟩) c xs from hb ▸ hO).ltL
    rcases h.wher b hb' with h1 | h1
    · exact hA b hb h1
    · omega
end
/-- a number is appended to a slice of the call's own: the heap beside it -/
theorem app_beside {w w4 : World} {g base Bh c c4 ch r : Nat} {S : TypeId} {rest : List Value} {A H H4 : Option Addr} {ns hs hs' : List Int} {o : Obj} (h : HeapB w g base S rest A c ns) (hO : OwnI w Bh 3 H ch hs) (hr : hs.length = r) (hA : Apart H A) (hB : base ≤ Bh) (hz : Bh ≤ w.heap.size)
    (_ : OwnI w4 Bh 3 H4 c4 hs') (hG : (w.alloc o).grownBy w4 (Value.slice H r ch).ownBlock) (hW : ∀ b, H4 = some ⟨b, 0, none⟩ → H = some ⟨b, 0, none⟩ ∨ (w.alloc o).heap.size ≤ b) :
    HeapB w4 g base S rest A c ns ∧ Apart H4 A ∧ Below Bh w w4 := by
  have hb0 : Below Bh w (w.alloc o) := ((Below.refl w.heap.size w).alloc (Nat.le_refl _) o).mono hz
  have hzz : (w.alloc o).heap.size = w.heap.size + 1 := World.size_alloc _ _
  have hbl := below_app hb0 hG (hO.alloc o) hr (by omega)
  have hlt : ∀ b, A = some ⟨b, 0, none⟩ → b < w.heap.size := fun b hb => (show OwnI w base 3 (some ⟨b, 0, none⟩) c ns from hb ▸ h.own).ltL.2
  refine ⟨h.keep (hbl.block g (Nat.lt_of_lt_of_le h.lt hB)) (fun b hb => ?_) hbl.size, fun b hb hb' => ?_, hbl⟩
  · have hl := hlt b hb
    exact (hG.block b (by omega) (own_block_neL (hO.alloc o) hr (fun e => hA b e hb))).trans (Below.heap_alloc w _ b hl)
  · have hl := hlt b hb'
    rcases hW b hb with h1 | h1
    · exact hA b h1 hb'
    · omega
theorem HeadsJ.same {w w' : World} {q g ln cN B : Nat} {LA : Option Addr} {LL : List (List Int)} {nx : List Int} (h : HeadsJ q g LA ln cN LL nx w) (hb : Below B w w') (hq : q < B) : HeadsJ q g LA ln cN LL nx w' :=
  ⟨h.lists.below (hb.mono (Nat.le_of_lt hq)), h.next.same (hb.block q hq), h.len, h.lt⟩
theorem HeadsJ.set {w : World} {q g ln cN : Nat} {LA : Option Addr} {LL : List (List Int)} {nx : List Int} (h : HeadsJ q g LA ln cN LL nx w) (n : Nat) (v : Int) (hv : -9223372036854775808 ≤ v ∧ v ≤ 9223372036854775807) (hq : q ≤ w.heap.size) : HeadsJ q g LA ln cN LL (nx.set n v) (w.setCell ⟨q, n, none⟩ (.int .i64 v)) :=
  ⟨h.lists.below (((Below.refl w.heap.size w).mono hq).setCell (p := ⟨q, n, none⟩) (Nat.le_refl _) _), h.next.set_ n v hv, by rw [List.length_set]; exact h.len, h.lt⟩
theorem HeapB.setQ {w : World} {q g base c : Nat} {S : TypeId} {rest : List Value} {A : Option Addr} {ns : List Int} (h : HeapB w g base S rest A c ns) (hq : q < g) (i : Nat) (v : Value) : HeapB (w.setCell ⟨q, i, none⟩ v) g base S rest A c ns :=
  ⟨by rw [Below.heap_setCell w ⟨q, i, none⟩ v g (fun e => by have e2 : g = q := (by first | exact e | exact e.symm); omega)]; exact h.box, h.own.setBelow (a := ⟨q, i, none⟩) (Nat.lt_trans hq h.lt) v, h.lt, by simpa using h.sz⟩
/-- one more has gone on: the mathematics of a turn of pass -/
theorem pass_turn {LL : List (List Int)} {nx nx' : List Int} {ln n : Nat} {at_ : Int} {hs ms ms3 : List Int} (hS : StepP LL nx ln at_ hs nx') (hV : LiveS LL nx' ln ms) (hG : ∀ m ∈ ms, at_ ≤ headF LL nx' m) (hR : AllRise LL) (hll : LL.length = ln) (hz : ∀ k, k < ln → 0 ≤ nxN nx k) (hp : (ms3 ++ [(n : Int)]).Perm ms) (hx : headF LL nx' n = at_) :
    StepP LL nx ln at_ (hs ++ [(n : Int)]) (nx'.set n (nxN nx' n + 1)) ∧ (∀ m ∈ ms3, headF LL (nx'.set n (nxN nx' n + 1)) m = headF LL nx' m) ∧
      (liveB LL (nx'.set n (nxN nx' n + 1)) n = true → ∀ ms', ms'.Perm (ms3 ++ [(n : Int)]) → LiveS LL (nx'.set n (nxN nx' n + 1)) ln ms' ∧ ∀ m ∈ ms', at_ ≤ headF LL (nx'.set n (nxN nx' n + 1)) m) ∧
      (¬ liveB LL (nx'.set n (nxN nx' n + 1)) n = true → LiveS LL (nx'.set n (nxN nx' n + 1)) ln ms3 ∧ ∀ m ∈ ms3, at_ ≤ headF LL (nx'.set n (nxN nx' n + 1)) m) := by
  obtain ⟨a1, a2, a3, a4⟩ := hV.after (v := nxN nx' n + 1) hS.len hp
  have hlv : liveB LL nx' n = true := by
    obtain ⟨k, e, _, h⟩ := (hV.2 (n : Int)).1 (hp.mem_iff.1 (by simp))
    obtain rfl : n = k := by omega
    exact h
  have hnh : (n : Int) ∉ hs := fun h => by
    have := hS.gone hR hll hz h hlv
    omega
  obtain ⟨_, s2, s3⟩ := hS.stays a4 hnh
  have hM := hS.more a4 hnh (by rw [← s2]; exact hlv) (by rw [← s3]; exact hx)
  have hsame : ∀ m ∈ ms3, headF LL (nx'.set n (nxN nx' n + 1)) m = headF LL nx' m := fun m hm => by
    refine headF_set (by rw [hS.len]; exact a4) (fun e => a3 (e ▸ hm)) ?_
    obtain ⟨k, e, _, _⟩ := (hV.2 m).1 (hp.mem_iff.1 (List.mem_append.2 (.inl hm)))
    omega
  have hG3 : ∀ m ∈ ms3, at_ ≤ headF LL (nx'.set n (nxN nx' n + 1)) m := fun m hm => by
    rw [hsame m hm]
    exact hG m (hp.mem_iff.1 (List.mem_append.2 (.inl hm)))
  refine ⟨hM, hsame, fun hb ms' hp' => ⟨a1 hb ms' hp', fun m hm => ?_⟩, fun hb => ⟨a2 hb, hG3⟩⟩
  rcases List.mem_append.1 (hp'.mem_iff.1 hm) with h1 | h1
  · exact hG3 m h1
  · rw [List.mem_singleton.1 h1]
    exact Int.le_of_lt (hM.gone hR hll hz (by simp) hb)
end Go.Proofs.Ytnaehnlpcjaaeaa
