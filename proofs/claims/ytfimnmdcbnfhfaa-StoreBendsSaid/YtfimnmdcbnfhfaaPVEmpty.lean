/- store.Empty: whether all numbers are 0. -/
import Derived.Test.YtfimnmdcbnfhfaaG14
namespace Go.Proofs.Ytfimnmdcbnfhfaa
open Go.RowKit

def nzB (y : Int) : Bool := y != 0
set_option maxRecDepth 100000 in
theorem emptyClo_any (y : Int) (w : World) : Calls Try.prog 65 #[.int .i64 y] w fun e w' => e = .returned (.bool (nzB y)) ∧ w = w' := by
  by_cases h : y = 0
  · subst h
    go_enter Try.func65, Try.ntmps65
    go_wp2
    go_ret
    exact ⟨rfl, rfl⟩
  · have e1 : (y != 0) = true := by simpa using h
    have e2 : nzB y = true := e1
    rw [e2]
    clear h e2
    go_enter Try.func65, Try.ntmps65
    go_wp2
    go_ret
    exact ⟨rfl, rfl⟩
set_option maxRecDepth 100000 in
theorem indexNz_any (A : Option Addr) (n c : Nat) (zs : List Int) (w : World) (h : Ints w w.heap.size A n zs) (hn : n ≤ 100000) :
    Calls Try.prog 90 #[.slice A n c, .func (.func 65) #[] #[]] w fun x w' => ∃ r : Int, x = .returned (.int .i64 r) ∧ decide (0 ≤ r) = zs.any nzB ∧ Below w.heap.size w w' := by
  have HL : Hid (zs.length = n) := h.1
  go_enter Try.func90, Try.ntmps90
  go_wp2
  go_loopw [8] (fun i wr => ∃ k : Nat, k ≤ n ∧ i = .int .i64 k ∧ Hid ((zs.take k).any nzB = false) ∧ Below w.heap.size w wr) (fun i _ => n - (intOf i).toNat)
  case atStart => exact ⟨0, Nat.zero_le _, rfl, by unfold Hid; simp, Below.refl _ _⟩
  case round =>
    obtain ⟨k, hk, rfl, HK, hb⟩ := hrel
    by_cases hlt : k < n
    · obtain ⟨b, off, y, rfl, _, HX, hc, hx1, hx2⟩ := (h.below hb).at_ hlt
      have HC := emptyClo_any y wr
      by_cases ho : nzB y = true
      · rw [ho] at HC
        have HF : Hid (zs.any nzB = true) := any_hit HX.out ho
        clear ho
        go_wp2_with (go_at_call 65; refine HC.mono ?_; rintro x w1 ⟨rfl, rfl⟩)
        go_ret
        exact ⟨k, rfl, by rw [HF.out]; simp, hb⟩
      · have ho' : nzB y = false := by simpa using ho
        rw [ho'] at HC
        have HN : Hid ((zs.take (k + 1)).any nzB = false) := any_miss HK.out HX.out ho'
        clear ho ho'
        go_wp2_with (go_at_call 65; refine HC.mono ?_; rintro x w1 ⟨rfl, rfl⟩)
        go_roundw
        case rel => exact ⟨k + 1, by omega, by go_num, HN, hb⟩
        case measure => simp [intOf]; omega
    · have HF : Hid (zs.any nzB = false) := any_all HK.out HL.out (by omega)
      go_wp2
      go_ret
      exact ⟨-1, rfl, by rw [HF.out]; rfl, hb⟩
set_option maxRecDepth 100000 in
theorem containsNz_any (A : Option Addr) (n c : Nat) (zs : List Int) (w : World) (h : Ints w w.heap.size A n zs) (hn : n ≤ 100000) :
    Calls Try.prog 64 #[.slice A n c, .func (.func 65) #[] #[]] w fun x w' => x = .returned (.bool (zs.any nzB)) ∧ Below w.heap.size w w' := by
  have HC := indexNz_any A n c zs w h hn
  obtain ⟨R, hR⟩ : ∃ R, zs.any nzB = R := ⟨_, rfl⟩
  rw [hR] at HC ⊢
  clear hR
  go_enter Try.func64, Try.ntmps64
  go_wp2_with (go_at_call 90; refine HC.mono ?_; rintro x w1 ⟨r, rfl, hr, hb1⟩; have HR := Lib.hid hr; clear hr)
  go_ret
  exact ⟨ret_of (by rw [← HR.out]; rfl), hb1⟩
def EmptyPost (w : World) (t : Ten) (e : Ending) (w' : World) : Prop :=
  Below w.heap.size w w' ∧ ((tenE t ≠ 0 ∧ e = .returned (.tuple #[.bool false, .int .i64 (tenE t)])) ∨ (tenE t = 0 ∧ e = .returned (.tuple #[.bool (!(t.vs.any nzB)), .int .i64 0])))
set_option maxRecDepth 100000 in
set_option maxHeartbeats 1000000 in
theorem stEmpty_any (t : Ten) (w : World) (ht : t.In w w.heap.size) :
    Calls Try.prog 29 #[t.val] w (EmptyPost w t) := by
  have HI := Lib.hid ht
  obtain ⟨W0, hW0⟩ : ∃ W, w.alloc t.obj = W := ⟨_, rfl⟩
  have HB0 : Hid (Below w.heap.size w W0) := by rw [← hW0]; exact lvBelow w _
  have HX0 : Hid (W0.heap[w.heap.size]? = some t.obj) := by rw [← hW0]; exact heap_alloc_new w _
  have HCK := stCheck_any t W0 (ht.on HB0.out)
  obtain ⟨k0, k1, k2, k3, _⟩ := lvCells HX0.out
  obtain ⟨E, hEE⟩ : ∃ E, tenE t = E := ⟨_, rfl⟩
  rw [hEE] at HCK
  have HEE := Lib.hid hEE
  clear hEE ht
  by_cases hE : E = 0
  · subst hE
    obtain ⟨R, hR⟩ : ∃ R, t.vs.any nzB = R := ⟨_, rfl⟩
    have HR := Lib.hid hR
    clear hR
    go_enter Try.func29, Try.ntmps29
    go_wp2_with fail
    try rw [hW0]
    refine HCK.mono ?_
    rintro e w1 ⟨rfl, hb1⟩
    obtain ⟨k0, k1, k2, k3, _⟩ := lvCells (keep_b hb1 HX0.out)
    have HB1 := Lib.hid (HB0.out.trans (hb1.mono HB0.out.size))
    have hC := containsNz_any t.V t.vn t.vc t.vs w1 (HI.out.on HB1.out).vals HI.out.v1
    rw [HR.out] at hC
    clear hb1 hW0
    go_wp2_with fail
    refine hC.mono ?_
    rintro e w2 ⟨rfl, hb2⟩
    have HB2 := Lib.hid (HB1.out.trans (hb2.mono HB1.out.size))
    clear hb2 k0 k1 k2 k3
    go_wp2_with fail
    go_ret2
    exact ⟨HB2.out, .inr ⟨HEE.out, by rw [HR.out]; rfl⟩⟩
  · have e1 : (E != 0) = true := by simpa using hE
    have HNE := Lib.hid hE
    clear hE
    go_enter Try.func29, Try.ntmps29
    go_wp2_with fail
    try rw [hW0]
    refine HCK.mono ?_
    rintro e w1 ⟨rfl, hb1⟩
    have HB1 := Lib.hid (HB0.out.trans (hb1.mono HB0.out.size))
    clear hb1 k0 k1 k2 k3 hW0
    go_wp2_with fail
    go_ret2
    exact ⟨HB1.out, .inl ⟨by rw [HEE.out]; exact HNE.out, by rw [HEE.out]; rfl⟩⟩
end Go.Proofs.Ytfimnmdcbnfhfaa
