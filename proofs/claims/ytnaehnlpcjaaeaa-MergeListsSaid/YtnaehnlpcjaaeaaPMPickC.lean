/- What merge.Pick calls. -/
import Derived.Test.YtnaehnlpcjaaeaaPMWhole
import Derived.Test.YtnaehnlpcjaaeaaG1
namespace Go.Proofs.Ytnaehnlpcjaaeaa
open Go.RowKit

/-- a block that holds a stop -/
def StopB (w : World) (g : Nat) (s : St) : Prop := w.heap[g]? = some (.cells #[.int .i64 s.at_, .slice s.A s.n s.c] 36 (0, 0))
theorem StopB.cells {w : World} {g : Nat} {s : St} (h : StopB w g s) : w.cell? ⟨g, 0, none⟩ = some (.int .i64 s.at_) ∧ w.cell? ⟨g, 1, none⟩ = some (.slice s.A s.n s.c) :=
  ⟨(blk_cell (cs := [.int .i64 s.at_, .slice s.A s.n s.c]) (i := 0) h rfl).1, (blk_cell (cs := [.int .i64 s.at_, .slice s.A s.n s.c]) (i := 1) h rfl).1⟩
/-- has it not -/
def lacksB (s : St) (m : Int) : Bool := s.ins.getD m.toNat 0 == -1
/-- do all that a set names have it -/
def haveB (s : St) (set : List Int) : Bool := !(set.any (lacksB s))
/-- names of lists that are some -/
def InS (n : Nat) (set : List Int) : Prop := ∀ m ∈ set, 0 ≤ m ∧ m < (n : Int)
set_option maxRecDepth 100000 in
theorem have1_any (bx B k : Nat) (s : St) (w : World) (hx : StopB w bx s) (hI : Ints w B s.A s.n s.ins) (hk : k < s.n) :
    Calls Try.prog 50 #[.int .i64 k, .pointer (some ⟨bx, 0, none⟩)] w fun e w' => e = .returned (.bool (lacksB s (k : Int))) ∧ ∃ q, w' = w.drewN q := by
  obtain ⟨at_, X, n, c, xs⟩ := s
  obtain ⟨c0, c1⟩ := hx.cells
  simp only at c0 c1 hI hk
  obtain ⟨b, off, y, rfl, _, HY, hcy, _, _⟩ := hI.at_ hk
  have k0 : (0 : Int) ≤ (k : Int) := by omega
  have k1 : (k : Int) < (n : Int) := by omega
  have HL : Hid (lacksB ⟨at_, some ⟨b, off, none⟩, n, c, xs⟩ (k : Int) = (y == -1)) := by
    unfold Hid lacksB
    simp only [Int.toNat_natCast, List.getD_eq_getElem?_getD, HY.out, Option.getD_some]
  clear hI HY hx
  go_enter Try.func50, Try.ntmps50
  go_wp2
  go_ret
  exact ⟨by rw [HL.out]; rfl, 0, rfl⟩
set_option maxRecDepth 100000 in
set_option maxHeartbeats 2000000 in
theorem haveIdx_any (bx B n c : Nat) (A : Option Addr) (set : List Int) (s : St) (w : World) (hx : StopB w bx s) (hI : Ints w B s.A s.n s.ins) (h : Ints w B A n set) (hn : n ≤ 100000) (hs : InS s.n set) :
    Calls Try.prog 55 #[.slice A n c, .func (.func 50) #[] #[.pointer (some ⟨bx, 0, none⟩)]] w fun e w' => ∃ r : Int, e = .returned (.int .i64 r) ∧ decide (0 ≤ r) = set.any (lacksB s) ∧ ∃ q, w' = w.drewN q := by
  have HL : Hid (set.length = n) := h.1
  have HS := Lib.hid hs
  have cM := fun (q k : Nat) (hk : k < s.n) => have1_any bx B k s (w.drewN q) hx (hI.drewN q) hk
  clear hs hI
  go_enter Try.func55, Try.ntmps55
  go_wp2
  go_loopw [8] (fun v wr => ∃ (k q : Nat), k ≤ n ∧ v = .int .i64 (k : Int) ∧ Hid ((set.take k).any (lacksB s) = false) ∧ wr = w.drewN q) (fun v _ => n - (intOf v).toNat)
  case atStart => exact ⟨0, 0, Nat.zero_le _, rfl, by unfold Hid; simp, rfl⟩
  case round =>
    obtain ⟨k, q, hk, rfl, HK, rfl⟩ := hrel
    by_cases hlt : k < n
    · obtain ⟨b, off, x, rfl, _, HX, hc, _, _⟩ := h.at_ hlt
      have hxr := HS.out x (List.mem_of_getElem? HX.out)
      obtain ⟨m, hm⟩ : ∃ m : Nat, x = (m : Int) := ⟨x.toNat, by omega⟩
      subst hm
      have k0 : (0 : Int) ≤ (k : Int) := by omega
      have k1 : (k : Int) < (n : Int) := by omega
      have hms : m < s.n := by omega
      have cK := cM q m hms
      obtain ⟨R, hR⟩ : ∃ R, lacksB s (m : Int) = R := ⟨_, rfl⟩
      rw [hR] at cK
      cases R with
      | true =>
        have HF : Hid (set.any (lacksB s) = true) := any_hit HX.out hR
        clear hR hxr cM
        go_wp2_with (go_at_call 50; refine cK.mono ?_; rintro e w5 ⟨rfl, q5, rfl⟩)
        go_ret
        exact ⟨k, rfl, by rw [HF.out]; simp, _, rfl⟩
      | false =>
        have HN : Hid ((set.take (k + 1)).any (lacksB s) = false) := any_miss HK.out HX.out hR
        clear hR hxr cM
        go_wp2_with (go_at_call 50; refine cK.mono ?_; rintro e w5 ⟨rfl, q5, rfl⟩)
        go_roundw
        case rel => exact ⟨k + 1, _, by omega, by go_num, HN, rfl⟩
        case measure => simp [intOf]; omega
    · have HF : Hid (set.any (lacksB s) = false) := any_all HK.out HL.out (by omega)
      go_wp2
      go_ret
      exact ⟨-1, rfl, by rw [HF.out]; rfl, _, rfl⟩
set_option maxRecDepth 100000 in
theorem haveCon_any (bx B n c : Nat) (A : Option Addr) (set : List Int) (s : St) (w : World) (hx : StopB w bx s) (hI : Ints w B s.A s.n s.ins) (h : Ints w B A n set) (hn : n ≤ 100000) (hs : InS s.n set) :
    Calls Try.prog 49 #[.slice A n c, .func (.func 50) #[] #[.pointer (some ⟨bx, 0, none⟩)]] w fun e w' => e = .returned (.bool (set.any (lacksB s))) ∧ ∃ q, w' = w.drewN q := by
  have cI := haveIdx_any bx B n c A set s w hx hI h hn hs
  clear hx hI h hs
  go_enter Try.func49, Try.ntmps49
  go_wp2_with (go_at_call 55; refine cI.mono ?_; rintro e w' ⟨r, rfl, HR, q, rfl⟩; have HH := Lib.hid HR; clear HR)
  go_ret
  exact ⟨by rw [HH.out]; rfl, _, rfl⟩
set_option maxRecDepth 100000 in
theorem haveAll_any (n c : Nat) (A : Option Addr) (set : List Int) (s : St) (w : World) (hI : Ints w w.heap.size s.A s.n s.ins) (h : Ints w w.heap.size A n set) (hn : n ≤ 100000) (hs : InS s.n set) :
    Calls Try.prog 36 #[.agg #[.int .i64 s.at_, .slice s.A s.n s.c], .slice A n c] w fun e w' => e = .returned (.bool (haveB s set)) ∧ Below w.heap.size w w' := by
  have hb := belowM w (.cells #[.int .i64 s.at_, .slice s.A s.n s.c] 36)
  have cC := haveCon_any w.heap.size w.heap.size n c A set s (w.alloc (.cells #[.int .i64 s.at_, .slice s.A s.n s.c] 36)) (heap_alloc_new w _) (hI.below hb) (h.below hb) hn hs
  have HB := Lib.hid hb
  clear hI h hs hb
  go_enter Try.func36, Try.ntmps36
  go_wp2_with (go_at_call 49; refine cC.mono ?_; rintro e w' ⟨rfl, q, hw⟩; have hb2 := belowQ HB.out hw; clear hw)
  go_ret
  exact ⟨by unfold haveB; rfl, hb2⟩
set_option maxRecDepth 100000 in
theorem pick2_any (bx n c : Nat) (A : Option Addr) (set : List Int) (s : St) (w : World) (hx : StopB w bx s) (hI : Ints w w.heap.size s.A s.n s.ins) (h : Ints w w.heap.size A n set) (hn : n ≤ 100000) (hs : InS s.n set) :
    Calls Try.prog 35 #[.slice A n c, .pointer (some ⟨bx, 0, none⟩)] w fun e w' => e = .returned (.bool (haveB s set)) ∧ Below w.heap.size w w' := by
  obtain ⟨c0, c1⟩ := hx.cells
  have cC := haveAll_any n c A set s w hI h hn hs
  clear hx hI h hs
  go_enter Try.func35, Try.ntmps35
  go_wp2_with (go_at_call 36; refine cC.mono ?_; rintro e w' ⟨rfl, hb⟩)
  go_ret
  exact ⟨rfl, hb⟩
set_option maxRecDepth 100000 in
set_option maxHeartbeats 2000000 in
theorem pickIdx_any (bx n c : Nat) (A : Option Addr) (sets : List (List Int)) (s : St) (w : World) (hx : StopB w bx s) (hI : Ints w w.heap.size s.A s.n s.ins) (h : IntsLL w w.heap.size A n sets) (hn : n ≤ 100000) (hl : ∀ L ∈ sets, L.length ≤ 100000) (hs : ∀ L ∈ sets, InS s.n L) :
    Calls Try.prog 48 #[.slice A n c, .func (.func 35) #[] #[.pointer (some ⟨bx, 0, none⟩)]] w fun e w' => ∃ r : Int, e = .returned (.int .i64 r) ∧ decide (0 ≤ r) = sets.any (haveB s) ∧ Below w.heap.size w w' := by
  have HL : Hid (sets.length = n) := h.1
  have HS := Lib.hid hs
  have HLL := Lib.hid hl
  have hbx := (Array.getElem?_eq_some_iff.1 hx).1
  have HH := Lib.hid h
  have HI := Lib.hid hI
  have HX0 := Lib.hid hx
  clear hs hI h hl hx
  go_enter Try.func48, Try.ntmps48
  go_wp2
  go_loopw [8] (fun v wr => ∃ (k : Nat), k ≤ n ∧ v = .int .i64 (k : Int) ∧ Hid ((sets.take k).any (haveB s) = false) ∧ Hid (Below w.heap.size w wr)) (fun v _ => n - (intOf v).toNat)
  case atStart => exact ⟨0, Nat.zero_le _, rfl, by unfold Hid; simp, Below.refl _ _⟩
  case round =>
    obtain ⟨k, hk, rfl, HK, HB⟩ := hrel
    by_cases hlt : k < n
    · obtain ⟨b, off, L, a, lc, rfl, _, HX, hc, _, hIL⟩ := (HH.out.below HB.out).at_ hlt
      have hLm := List.mem_of_getElem? HX.out
      have k0 : (0 : Int) ≤ (k : Int) := by omega
      have k1 : (k : Int) < (n : Int) := by omega
      have cK := pick2_any bx L.length lc a L s wr ((HB.out.block bx hbx).trans HX0.out) ((HI.out.below HB.out).more HB.out.size) (hIL.more HB.out.size) (HLL.out L hLm) (HS.out L hLm)
      obtain ⟨R, hR⟩ : ∃ R, haveB s L = R := ⟨_, rfl⟩
      rw [hR] at cK
      obtain ⟨M, hM⟩ : ∃ M, L.length = M := ⟨_, rfl⟩
      rw [hM] at hc cK
      cases R with
      | true =>
        have HF : Hid (sets.any (haveB s) = true) := any_hit HX.out hR
        clear hR hLm hIL hM
        go_wp2_with (go_at_call 35; refine cK.mono ?_; rintro e w5 ⟨rfl, hb5⟩; have hb6 := HB.out.trans (hb5.mono HB.out.size))
        go_ret
        exact ⟨k, rfl, by rw [HF.out]; simp, hb6⟩
      | false =>
        have HN : Hid ((sets.take (k + 1)).any (haveB s) = false) := any_miss HK.out HX.out hR
        clear hR hLm hIL hM
        go_wp2_with (go_at_call 35; refine cK.mono ?_; rintro e w5 ⟨rfl, hb5⟩; have hb6 := HB.out.trans (hb5.mono HB.out.size))
        go_roundw
        case rel => exact ⟨k + 1, by omega, by go_num, HN, hb6⟩
        case measure => simp [intOf]; omega
    · have HF : Hid (sets.any (haveB s) = false) := any_all HK.out HL.out (by omega)
      go_wp2
      go_ret
      exact ⟨-1, rfl, by rw [HF.out]; rfl, HB.out⟩
set_option maxRecDepth 100000 in
theorem pickCon_any (bx n c : Nat) (A : Option Addr) (sets : List (List Int)) (s : St) (w : World) (hx : StopB w bx s) (hI : Ints w w.heap.size s.A s.n s.ins) (h : IntsLL w w.heap.size A n sets) (hn : n ≤ 100000) (hl : ∀ L ∈ sets, L.length ≤ 100000) (hs : ∀ L ∈ sets, InS s.n L) :
    Calls Try.prog 34 #[.slice A n c, .func (.func 35) #[] #[.pointer (some ⟨bx, 0, none⟩)]] w fun e w' => e = .returned (.bool (sets.any (haveB s))) ∧ Below w.heap.size w w' := by
  have cI := pickIdx_any bx n c A sets s w hx hI h hn hl hs
  clear hx hI h hl hs
  go_enter Try.func34, Try.ntmps34
  go_wp2_with (go_at_call 48; refine cI.mono ?_; rintro e w' ⟨r, rfl, HR, hb⟩; have HH := Lib.hid HR; clear HR)
  go_ret
  exact ⟨by rw [HH.out]; rfl, hb⟩
/-- a block that holds what inside gave -/
def FunB (w : World) (g g1 g2 : Nat) : Prop := w.heap[g]? = some (.cells #[.func (.func 46) #[] #[.pointer (some ⟨g1, 0, none⟩), .pointer (some ⟨g2, 0, none⟩)]] 40 (0, 0))
set_option maxRecDepth 100000 in
theorem pick1_any (bf g1 g2 n c : Nat) (A : Option Addr) (at_ lo hi : Int) (w : World) (hf : FunB w bf g1 g2) (h1 : OneN w g1 lo) (h2 : OneN w g2 hi) (hR : 0 ≤ lo ∧ hi < (n : Int)) :
    Calls Try.prog 33 #[.agg #[.int .i64 at_, .slice A n c], .pointer (some ⟨bf, 0, none⟩)] w fun e w' => e = .returned (.bool false) ∧ Below w.heap.size w w' := by
  have hb := belowM w (.cells #[.int .i64 at_, .slice A n c] 36)
  have hbf := (Array.getElem?_eq_some_iff.1 hf).1
  have cC := insideClo_any g1 g2 lo hi n (w.alloc (.cells #[.int .i64 at_, .slice A n c] 36)) (h1.below hb h1.lt) (h2.below hb h2.lt)
  rw [decide_eq_true hR] at cC
  obtain ⟨c0, _⟩ := blk_cell (cs := [.func (.func 46) #[] #[.pointer (some ⟨g1, 0, none⟩), .pointer (some ⟨g2, 0, none⟩)]]) (i := 0) ((hb.block bf hbf).trans hf) rfl
  have HB := Lib.hid hb
  clear h1 h2 hf hb
  go_enter Try.func33, Try.ntmps33
  go_wp2_with (go_at_call 46; refine cC.mono ?_; rintro e w' ⟨rfl, q, hw⟩; have hb2 := belowQ HB.out hw; clear hw)
  go_ret
  exact ⟨rfl, hb2⟩
set_option maxRecDepth 100000 in
set_option maxHeartbeats 2000000 in
theorem stopIdx_any (bf g1 g2 n c : Nat) (A : Option Addr) (lo hi : Int) (ss : List St) (w : World) (hf : FunB w bf g1 g2) (h1 : OneN w g1 lo) (h2 : OneN w g2 hi) (h : Stops w w.heap.size A n ss) (hn : n ≤ 100000) (hR : ∀ s ∈ ss, 0 ≤ lo ∧ hi < (s.n : Int)) :
    Calls Try.prog 47 #[.slice A n c, .func (.func 33) #[] #[.pointer (some ⟨bf, 0, none⟩)]] w fun e w' => e = .returned (.int .i64 (-1)) ∧ Below w.heap.size w w' := by
  have hbf := (Array.getElem?_eq_some_iff.1 hf).1
  have HH := Lib.hid h
  have HF0 := Lib.hid hf
  have H1 := Lib.hid h1
  have H2 := Lib.hid h2
  have HR := Lib.hid hR
  clear hf h1 h2 h hR
  go_enter Try.func47, Try.ntmps47
  go_wp2
  go_loopw [8] (fun v wr => ∃ (k : Nat), k ≤ n ∧ v = .int .i64 (k : Int) ∧ Hid (Below w.heap.size w wr)) (fun v _ => n - (intOf v).toNat)
  case atStart => exact ⟨0, Nat.zero_le _, rfl, Below.refl _ _⟩
  case round =>
    obtain ⟨k, hk, rfl, HB⟩ := hrel
    by_cases hlt : k < n
    · obtain ⟨b, off, ⟨at_, X, nx, cx, xs⟩, rfl, _, HX, hc, hc', _, _, _, _⟩ := (HH.out.below HB.out).at_ hlt
      simp only at hc hc'
      have k0 : (0 : Int) ≤ (k : Int) := by omega
      have k1 : (k : Int) < (n : Int) := by omega
      have cK := pick1_any bf g1 g2 nx cx X at_ lo hi wr ((HB.out.block bf hbf).trans HF0.out) (H1.out.below HB.out H1.out.lt) (H2.out.below HB.out H2.out.lt) (HR.out _ (List.mem_of_getElem? HX.out))
      clear HX
      go_wp2_with (go_at_call 33; refine cK.mono ?_; rintro e w5 ⟨rfl, hb5⟩; have hb6 := HB.out.trans (hb5.mono HB.out.size))
      go_roundw
      case rel => exact ⟨k + 1, by omega, by go_num, hb6⟩
      case measure => simp [intOf]; omega
    · go_wp2
      go_ret
      exact ⟨rfl, HB.out⟩
set_option maxRecDepth 100000 in
theorem stopCon_any (bf g1 g2 n c : Nat) (A : Option Addr) (lo hi : Int) (ss : List St) (w : World) (hf : FunB w bf g1 g2) (h1 : OneN w g1 lo) (h2 : OneN w g2 hi) (h : Stops w w.heap.size A n ss) (hn : n ≤ 100000) (hR : ∀ s ∈ ss, 0 ≤ lo ∧ hi < (s.n : Int)) :
    Calls Try.prog 32 #[.slice A n c, .func (.func 33) #[] #[.pointer (some ⟨bf, 0, none⟩)]] w fun e w' => e = .returned (.bool false) ∧ Below w.heap.size w w' := by
  have cI := stopIdx_any bf g1 g2 n c A lo hi ss w hf h1 h2 h hn hR
  clear hf h1 h2 h hR
  go_enter Try.func32, Try.ntmps32
  go_wp2_with (go_at_call 47; refine cI.mono ?_; rintro e w' ⟨rfl, hb⟩)
  go_ret
  exact ⟨rfl, hb⟩
end Go.Proofs.Ytnaehnlpcjaaeaa
