/- The contract of the document's Cycles. -/
import Derived.Test.YtnjjmeaggnlafaaPRefD
import Derived.Test.YtnjjmeaggnlafaaPCycP
namespace Go.Proofs.Ytnjjmeaggnlafaa
open Go.RowKit

set_option maxRecDepth 100000 in
theorem infoBool : (Try.prog.info? 4).map (fun i => (i.zero, i.size, i.bytes)) = some (some (.bool false), 1, 1) := by kernel_rfl
theorem run_makeBools {P : Program} (t e : TypeId) (i : TypeInfo) (ht : P.underlying t = some (.slice e)) (hi : P.info? e = some i) (hz : i.zero = some (.bool false)) (h1 : i.size = 1) (h2 : i.bytes = 1) (n : Nat) (hn : n ≤ 100000) (w : World) :
    (Instr.makeSlice t (.int .i64 (n : Int)) (.int .i64 (n : Int))).run P w = .ok (.slice (some ⟨w.heap.size, 0, none⟩) n n) (w.alloc (.cells (madeCells #[.bool false] n) e)) := by
  have hr := run_make (P := P) w t e i (.bool false) ht hi hz .i64 .i64 n n (by omega) (by omega) (by rw [h2]; omega) (by omega)
  simp only [Int.toNat_natCast, h1, Nat.mul_one] at hr
  exact hr
/-- the marks of what was met -/
def metV (n : Nat) (S : List Int) : List Value := (List.range n).map fun i : Nat => Value.bool (S.contains (i : Int))
theorem metV_nil (n : Nat) : (madeCells #[.bool false] n) = (metV n []).toArray := by
  apply Array.ext'
  rw [toList_madeCells_one]
  show _ = metV n []
  unfold metV
  exact (List.eq_replicate_iff.2 ⟨by simp, by simp⟩).symm
theorem metV_at {n : Nat} {S : List Int} {i : Nat} (h : i < n) : (metV n S)[i]? = some (.bool (S.contains (i : Int))) := by
  unfold metV; simp [h]
theorem metV_set (n : Nat) (S : List Int) {i : Nat} (h : i < n) : (metV n S).set i (.bool true) = metV n (S ++ [(i : Int)]) := by
  apply List.ext_getElem?
  intro j
  rw [List.getElem?_set]
  unfold metV
  by_cases hj : j < n
  · by_cases hij : i = j
    · subst hij; simp [hj]
    · simp [hj, hij]; omega
  · simp [hj]; omega
theorem grown_below {w0 w1 w2 : World} {row : Option Nat} (hg : w0.grownBy w1 row) (hb : Below w0.heap.size w1 w2) : w0.grownBy w2 row :=
  ⟨hb.os.trans hg.os, hb.tape.trans hg.tape, hb.output.trans hg.output, Nat.le_trans hg.size hb.size, fun i hi hne => (hb.block i hi).trans (hg.block i hi hne)⟩
theorem grown_setCell (w : World) (g j : Nat) (u : Value) : w.grownBy (w.setCell ⟨g, j, none⟩ u) (some g) :=
  ⟨rfl, rfl, rfl, by simp [World.setCell], fun i hi hn => Below.heap_setCell w ⟨g, j, none⟩ u i (fun e => hn (by rw [e]))⟩
theorem OwnI.kept_bool {w w' : World} {base c g0 : Nat} {A : Option Addr} {xs : List Int} {cs : Array Value} (h : OwnI w base 3 A c xs) (hg : w.grownBy w' (some g0)) (h0 : w.heap[g0]? = some (.cells cs 4 (0, 0))) : OwnI w' base 3 A c xs := by
  refine h.grown_ hg fun g hA e => ?_
  subst hA
  injection e with e
  subst e
  obtain ⟨post, hb, _⟩ := h.blk
  rw [hb] at h0
  injection h0 with h0
  injection h0 with _ h0 _
  exact absurd h0 (by decide)
theorem OwnLL.kept_bool {w w' : World} {base c g0 : Nat} {A : Option Addr} {LL : List (List Int)} {cs : Array Value} (h : OwnLL w base A c LL) (hg : w.grownBy w' (some g0)) (h0 : w.heap[g0]? = some (.cells cs 4 (0, 0))) : OwnLL w' base A c LL := by
  obtain ⟨vs, hr, hh⟩ := h
  refine ⟨vs, hr.kept hg ?_, hh.map fun a c L ho => ho.kept_bool hg h0⟩
  rcases hr.2 with ⟨hv, _⟩ | ⟨g, cap, cur, hv, _, hb, _⟩
  · rw [hv]; exact .inl rfl
  · right
    rw [hv]
    intro e
    simp only [Value.ownBlock, Option.some.injEq] at e
    subst e
    rw [hb] at h0
    injection h0 with h0
    injection h0 with _ h0 _
    exact absurd h0 (by decide)
/-- how far the inner loop has come -/
def CycAt (p : List Int) (k : Nat) (L : List Int) (x : Int) : Prop := (L = [] ∧ x = (k : Int)) ∨ CycTo p (k : Int) L x
theorem CycAt.bound {p : List Int} {k : Nat} {L : List Int} {x : Int} (hp : Perm_ p) (hk : k < p.length) (h : CycAt p k L x) : 0 ≤ x ∧ x < p.length ∧ L.length ≤ p.length := by
  rcases h with ⟨rfl, rfl⟩ | h
  · exact ⟨by omega, by omega, by simp⟩
  · obtain ⟨z, hz, hzx⟩ := h.next
    have := hp.inn x (List.mem_of_getElem? hzx)
    exact ⟨this.1, this.2, nodup_len h.nodup h.inn⟩
theorem CycAt.mem {p : List Int} {k : Nat} {L : List Int} {x : Int} (hp : Perm_ p) (hk : k < p.length) (h : CycAt p k L x) : x ∈ cycL p (k : Int) := by
  rcases h with ⟨rfl, rfl⟩ | h
  · exact self_mem hp hk
  · obtain ⟨z, hz, hzx⟩ := h.next
    have hzm : z ∈ cycL p (k : Int) := by rw [h.all]; exact List.mem_append_left _ (List.mem_of_getElem? hz)
    have := (cyc_of hp hk).next_mem hzm
    rwa [pick_of hzx] at this
theorem CycAt.met {p : List Int} {k : Nat} {S L : List Int} {x : Int} (hp : Perm_ p) (hk : k < p.length) (h : CycAt p k L x) (hS : ∀ y ∈ cycL p (k : Int), y ∉ S) : (S ++ L).contains x = true ↔ CycTo p (k : Int) L x ∧ x = (k : Int) := by
  have hm := h.mem hp hk
  simp only [List.contains_eq_mem, decide_eq_true_eq, List.mem_append]
  constructor
  · rintro (hx | hx)
    · exact absurd hx (hS x hm)
    · rcases h with ⟨rfl, rfl⟩ | h
      · simp at hx
      · refine ⟨h, ?_⟩
        by_cases hne : x = (k : Int)
        · exact hne
        · exact absurd hx (h.new hp hne)
  · rintro ⟨h, rfl⟩
    exact .inr (List.mem_of_getElem? h.head)
theorem CycAt.next_ {p : List Int} {k : Nat} {L : List Int} {x y : Int} (hp : Perm_ p) (hk : k < p.length) (h : CycAt p k L x) (hn : ¬ (CycTo p (k : Int) L x ∧ x = (k : Int))) (hy : p[x.toNat]? = some y) : CycAt p k (L ++ [x]) y := by
  right
  rcases h with ⟨rfl, rfl⟩ | h
  · exact CycTo.start (by omega) (by omega) hy
  · exact (h.step hp (fun e => hn ⟨h, e⟩) hy).1

set_option maxRecDepth 100000 in
set_option maxHeartbeats 4000000 in
theorem refCycles_any (A : Option Addr) (n c : Nat) (xs : List Int) (w : World) (h : Ints w w.heap.size A n xs) (hn : n ≤ 9223372036854775807) :
    Calls Try.prog 31 #[.slice A n c] w fun e w' => ∃ A' c', e = .returned (.tuple #[.slice A' (cyclesF xs).1.length c', .int .i64 (cyclesF xs).2]) ∧ OwnLL w' w.heap.size A' c' (cyclesF xs).1 ∧ Below w.heap.size w w' := by
  have hI := is_ok A n c xs w w.heap.size h hn
  rcases permB_ord xs with ⟨ho, hb, hp⟩ | ⟨ho, hb, hp⟩
  · have h12 : n ≤ 12 := by rw [← h.1]; exact hp.len
    have HL : Hid (xs.length = n) := h.1
    have HP := Lib.hid hp
    have HF : Hid (cyclesF xs = (cycsL xs, 0)) := by unfold Hid cyclesF; rw [if_pos ho]
    obtain ⟨i0, hi0, hz0, hz1, hz2⟩ := info_parts infoRow
    obtain ⟨i1, hi1, hy0, hy1, hy2⟩ := info_parts infoInt
    obtain ⟨i2, hi2, hx0, hx1, hx2⟩ := info_parts infoBool
    have hmk := fun W => run_makeBools (P := Try.prog) 64 4 i2 Try.underlying64 hi2 hx0 hx1 hx2 n (by omega) W
    rw [metV_nil] at hmk
    rw [hb] at hI
    clear ho hb hp
    go_enter Try.func31, Try.ntmps31
    go_wp2_with (go_at_call 38; refine hI.mono ?_; rintro e w' ⟨rfl, rfl⟩)
    clear hI hmk
    have HM0 : Hid ((w.alloc (.cells (metV n []).toArray 4)).heap[w.heap.size]? = some (.cells (metV n []).toArray 4 (0, 0))) := heap_alloc_new w _
    go_loopw [4, 17] (fun v u wr => ∃ (A' : Option Addr) (c' m k : Nat), v = .slice A' m c' ∧ u = .int .i64 k ∧ k ≤ n ∧ Hid ((cycsTo xs k).length = m) ∧ m ≤ k ∧ Hid (OwnLL wr (w.heap.size + 1) A' c' (cycsTo xs k)) ∧ Hid (wr.heap[w.heap.size]? = some (.cells (metV n (cycsTo xs k).flatten).toArray 4 (0, 0))) ∧ Below w.heap.size w wr ∧ w.heap.size + 1 ≤ wr.heap.size)
      (fun _ u _ => n - (intOf u).toNat)
    case atStart => exact ⟨none, 0, 0, 0, rfl, rfl, Nat.zero_le _, by unfold Hid; simp [cycsTo], Nat.le_refl _, by unfold Hid; simp only [cycsTo, List.range_zero, List.filterMap_nil]; exact OwnLL.nil_ _ _, by unfold Hid; simp only [cycsTo, List.range_zero, List.filterMap_nil, List.flatten_nil]; exact HM0.out, (Below.refl _ w).alloc (Nat.le_refl _) _, by simp⟩
    case round =>
      obtain ⟨A', c', m, k, rfl, rfl, hk, HLm, hm, HO, HM, hb, hsz⟩ := hrel
      by_cases hlt : k < n
      · have hkl : k < xs.length := by rw [HL.out]; exact hlt
        have hsucc := cycsTo_succ xs k
        by_cases hin : (cycsTo xs k).flatten.contains (k : Int) = true
        · -- met before: nothing is laid
          have hmin : ¬ minL (cycL xs (k : Int)) = (k : Int) := fun e => ((met_min HP.out hkl).2 e) (by simpa using hin)
          rw [if_neg hmin, List.append_nil] at hsucc
          have HS := Lib.hid hsucc
          obtain ⟨hc1, hf1⟩ := blk_cell HM.out (metV_at (S := (cycsTo xs k).flatten) hlt)
          rw [hin] at hc1
          clear hin hmin hsucc
          go_wp2
          go_loopw [7, 8] (fun v u w2 => v = .slice none 0 0 ∧ u = .int .i64 k ∧ w2 = wr) (fun _ _ _ => 0)
          case atStart => exact ⟨rfl, rfl, rfl⟩
          case round =>
            obtain ⟨rfl, rfl, rfl⟩ := hrel
            go_wp2
            go_roundw
            case rel => exact ⟨A', c', m, k + 1, rfl, by go_num, by omega, by unfold Hid; rw [HS.out]; exact HLm.out, by omega, by unfold Hid; rw [HS.out]; exact HO.out, by unfold Hid; rw [HS.out]; exact HM.out, hb, hsz⟩
            case measure => simp [intOf]; omega
        · have hnot : (k : Int) ∉ (cycsTo xs k).flatten := by simpa using hin
          have hmin := (met_min HP.out hkl).1 hnot
          have HAPT := Lib.hid (met_apart HP.out hkl hnot)
          rw [if_pos hmin] at hsucc
          have HS := Lib.hid hsucc
          have HKL := Lib.hid hkl
          clear hin hnot hmin hsucc hkl
          go_wp2
          obtain ⟨wo, rfl⟩ : ∃ wo : World, wo = wr := ⟨_, rfl⟩
          go_loopw [7, 8] (fun v u wr => ∃ (A2 : Option Addr) (c2 s : Nat) (L : List Int) (x : Int), v = .slice A2 s c2 ∧ u = .int .i64 x ∧ s ≤ n ∧ Hid (L.length = s) ∧ Hid (CycAt xs k L x) ∧ Hid (OwnI wr wo.heap.size 3 A2 c2 L) ∧ Hid (wr.heap[w.heap.size]? = some (.cells (metV n ((cycsTo xs k).flatten ++ L)).toArray 4 (0, 0))) ∧ Hid (wo.grownBy wr (some w.heap.size)))
            (fun v _ _ => match v with | .slice _ s _ => n + 1 - s | _ => 0)
          case atStart => exact ⟨none, 0, 0, [], (k : Int), rfl, rfl, Nat.zero_le _, rfl, .inl ⟨rfl, rfl⟩, OwnI.nil_ _ _ _, by unfold Hid; rw [List.append_nil]; exact HM.out, World.grownBy.refl _ _⟩
          case round =>
            obtain ⟨A2, c2, s, L, x, rfl, rfl, hs, HLs, HCY, HOC, HMM, HGR⟩ := hrel
            have hbd := HCY.out.bound HP.out HKL.out
            rw [HL.out, HLs.out] at hbd
            obtain ⟨xn, rfl⟩ : ∃ xn : Nat, x = xn := ⟨x.toNat, by omega⟩
            have hxn : xn < n := by omega
            have hxn2 : (xn : Int) < n := by omega
            obtain ⟨hc1, hf1⟩ := blk_cell HMM.out (metV_at (S := (cycsTo xs k).flatten ++ L) hxn)
            have hmet := HCY.out.met HP.out HKL.out HAPT.out
            have hgs := HGR.out.size
            have hbo : Below w.heap.size w wr := ⟨HGR.out.os.trans hb.os, HGR.out.tape.trans hb.tape, HGR.out.output.trans hb.output, Nat.le_trans hb.size hgs, fun i hi => (HGR.out.block i (by omega) (fun e => by injection e with e; omega)).trans (hb.block i hi)⟩
            clear hbd
            by_cases hdone : CycTo xs (k : Int) L (xn : Int) ∧ (xn : Int) = (k : Int)
            · rw [hmet.2 hdone] at hc1
              have hcyc : cycL xs (k : Int) = L := by have := hdone.1; rw [hdone.2] at this; exact this.done
              have hpos : 0 < s := by rw [← HLs.out, ← hcyc]; exact (cyc_of HP.out HKL.out).pos
              have hd : decide ((0 : Int) < (s : Int)) = true := by simp; omega
              have HLL2 := Lib.hid (HO.out.kept_bool HGR.out HM.out)
              have HOC2 := Lib.hid (HOC.out.mono (base' := w.heap.size + 1) hsz)
              have HCC := Lib.hid hcyc
              have hs1 : w.heap.size + 1 ≤ wr.heap.size := Nat.le_trans hsz hgs
              clear hdone hmet hcyc HOC
              go_wp2_with (at_builtin; refine wpList_appendRow rfl (.tmp 40) (.tmp 42) rfl (w.heap.size + 1) i0 hi0 hz0 hz1 hz2 A' c' m (m + 1) c2 s A2 (cycsTo xs k) L rfl rfl HLL2.out HOC2.out HLs.out HLm.out rfl (by omega) hs1 ?_; intro A4 c4 w4 HO4 hb4; have HO5 := Lib.hid HO4; clear HO4; have hb5 := hbo.trans (hb4.mono (by omega)); have HM5 := Lib.hid ((hb4.block w.heap.size (by omega)).trans HMM.out); have hs4 := hb4.size)
              go_roundw
              case rel => exact ⟨A4, c4, m + 1, k + 1, rfl, by go_num, by omega, by unfold Hid; rw [HS.out, List.length_append, HLm.out]; rfl, by omega, by unfold Hid; rw [HS.out, HCC.out]; exact HO5.out, by unfold Hid; rw [HS.out, List.flatten_append, HCC.out]; simpa using HM5.out, hb5, by omega⟩
              case measure => simp [intOf]; omega
            · have hno : ((cycsTo xs k).flatten ++ L).contains (xn : Int) = false := by
                cases hh : ((cycsTo xs k).flatten ++ L).contains (xn : Int) with
                | false => rfl
                | true => exact absurd (hmet.1 hh) hdone
              rw [hno] at hc1
              obtain ⟨b, off, y, hA, _, HX, hcx, hx3, hx4⟩ := (h.below hbo).at_ hxn
              have HNX := Lib.hid (HCY.out.next_ HP.out HKL.out hdone (by rw [Int.toNat_natCast]; exact HX.out))
              have hLn := HNX.out.bound HP.out HKL.out
              rw [List.length_append, HLs.out, HL.out] at hLn
              have hsn : s + 1 ≤ n := hLn.2.2
              have hbig : -9223372036854775808 ≤ (xn : Int) ∧ (xn : Int) ≤ 9223372036854775807 := by omega
              have G1 := (HGR.out).trans (grown_setCell wr w.heap.size xn (.bool true))
              have HM2 : Hid ((wr.setCell ⟨w.heap.size, xn, none⟩ (.bool true)).heap[w.heap.size]? = some (.cells (metV n ((cycsTo xs k).flatten ++ (L ++ [(xn : Int)]))).toArray 4 (0, 0))) := by
                unfold Hid; rw [blk_set HMM.out, metV_set _ _ hxn, List.append_assoc]
              have HOC2 := Lib.hid (HOC.out.kept_bool (grown_setCell wr w.heap.size xn (.bool true)) HMM.out)
              have hsc : (wr.setCell ⟨w.heap.size, xn, none⟩ (.bool true)).heap.size = wr.heap.size := by simp [World.setCell]
              have hbo2 := hbo.setCell (p := ⟨w.heap.size, xn, none⟩) (Nat.le_refl _) (.bool true)
              have HG1 := Lib.hid G1
              have HSC := Lib.hid hsc
              have HHX : Hid (∀ W, Below w.heap.size w W → W.cell? ⟨b, off + xn, none⟩ = some (.int .i64 y)) := by
                intro W hW
                obtain ⟨b5, off5, y5, hA5, _, HX5, hc5, _, _⟩ := (h.below hW).at_ hxn
                rw [hA] at hA5; injection hA5 with hA5; injection hA5 with h1 h2; subst h1; subst h2
                have := HX.out; rw [HX5.out] at this; injection this with this
                rw [← this]; exact hc5
              have HA := Lib.hid hA
              subst hA
              have HSRC : Hid (Ints ((wr.setCell ⟨w.heap.size, xn, none⟩ (.bool true)).alloc (.cells #[.int .i64 (xn : Int)] 3)) (wr.heap.size + 1) (some ⟨wr.heap.size, 0, none⟩) 1 [(xn : Int)]) := by
                have := src_new (t := 3) (wr.setCell ⟨w.heap.size, xn, none⟩ (.bool true)) hbig
                rw [hsc] at this; exact this
              have hgs2 : wo.heap.size ≤ ((wr.setCell ⟨w.heap.size, xn, none⟩ (.bool true)).alloc (.cells #[.int .i64 (xn : Int)] 3)).heap.size := by rw [World.size_alloc, hsc]; omega
              have hgs3 : wo.heap.size ≤ (wr.setCell ⟨w.heap.size, xn, none⟩ (.bool true)).heap.size := by rw [hsc]; omega
              clear hmet hdone hno G1 hsc HOC HMM HCY hcx hLn
              go_wp2_with (at_builtin; refine wpList_appendInts _ rfl (.tmp 33) (.tmp 35) 22 rfl wo.heap.size 3 i1 Try.underlying22 hi1 hy0 hy1 hy2 A2 (some ⟨wr.heap.size, 0, none⟩) c2 1 1 (wr.heap.size + 1) s (s + 1) L [(xn : Int)] rfl rfl (HOC2.out.alloc _) HLs.out rfl HSRC.out (by omega) hgs2 ?_; intro A3 c3 w2 HO2 HG2; have hbA := below_app (Below.refl wo.heap.size _) HG2 (HOC2.out.alloc _) HLs.out hgs2; have hbB := ((Below.refl wo.heap.size (wr.setCell ⟨w.heap.size, xn, none⟩ (.bool true))).alloc hgs3 (.cells #[.int .i64 (xn : Int)] 3)).trans hbA; have HGN := Lib.hid (grown_below HG1.out hbB); have HM3 := Lib.hid ((hbB.block w.heap.size (by omega)).trans HM2.out); have hbo3 := hbo2.trans (hbB.mono (by omega)); have hcn := HHX.out w2 hbo3; have HO3 := Lib.hid HO2; clear HO2 HG2 hbA hbB)
              go_roundw
              case rel => exact ⟨A3, c3, s + 1, L ++ [(xn : Int)], y, rfl, rfl, by omega, by unfold Hid; rw [List.length_append, HLs.out]; rfl, HNX, HO3, HM3, HGN⟩
              case measure => simp; omega
      · have HR : Hid (cycsTo xs k = cycsL xs) := by unfold Hid cycsL; rw [HL.out, show k = n by omega]
        go_wp2
        go_ret2
        exact ⟨A', c', by rw [HF.out]; dsimp only; rw [← HR.out, HLm.out]; rfl, by rw [HF.out]; dsimp only; rw [← HR.out]; exact HO.out.mono (by omega), hb⟩
  · have HF : Hid (cyclesF xs = ([], 1)) := by unfold Hid cyclesF; rw [if_neg (by omega)]
    rw [hb] at hI
    clear ho hb hp
    go_enter Try.func31, Try.ntmps31
    go_wp2_with (go_at_call 38; refine hI.mono ?_; rintro e w' ⟨rfl, rfl⟩)
    go_ret2
    exact ⟨none, 0, by rw [HF.out]; rfl, by rw [HF.out]; exact OwnLL.nil_ _ _, Below.refl _ _⟩
end Go.Proofs.Ytnjjmeaggnlafaa
