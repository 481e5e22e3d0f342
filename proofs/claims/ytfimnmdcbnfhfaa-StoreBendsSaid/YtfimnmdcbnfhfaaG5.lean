/- The contracts of level.Check's function, of slices.IndexFunc and ContainsFunc asked by it, and of level's rises. -/
import Derived.Test.YtfimnmdcbnfhfaaG4
import Derived.Test.YtfimnmdcbnfhfaaG2
import Derived.Test.YtfimnmdcbnfhfaaG1
import Derived.Below
import Derived.Lib.Hide
import Derived.Test.YtfimnmdcbnfhfaaProg
import Derived.WalkKit
import Derived.Deep.QuietTactic
import Derived.BigQuiet
import Derived.WalkLawsBesides
import Derived.WalkSpells
namespace Go.Proofs.Ytfimnmdcbnfhfaa
open Go.RowKit

def outB (S y : Int) : Bool := !(decide (0 ≤ y) && decide (y < S))
set_option maxRecDepth 100000 in
theorem check1_any (K S : Int) (A B : Option Addr) (n c m e g : Nat) (y : Int) (w : World) (hg : w.heap[g]? = some (lvO K S A n c B m e)) :
    Calls Try.prog 102 #[.int .i64 y, .pointer (some ⟨g, 0, none⟩)] w fun x w' => x = .returned (.bool (outB S y)) ∧ Below w.heap.size w w' := by
  have HC := fun W => lvInside_any K S A B n c m e y W
  obtain ⟨k0, k1, k2, k3, _⟩ := lvCells hg
  unfold outB
  obtain ⟨b, hb⟩ : ∃ b, (decide (0 ≤ y) && decide (y < S)) = b := ⟨_, rfl⟩
  rw [hb] at HC ⊢
  clear hb hg
  go_enter Try.func102, Try.ntmps102
  go_wp2_with (go_at_call 103; refine (HC _).mono ?_; rintro x w1 ⟨rfl, hb1⟩)
  go_ret
  exact ⟨rfl, hb1⟩

set_option maxRecDepth 100000 in
theorem indexOut_any (K S : Int) (A B : Option Addr) (n c m e g : Nat) (A2 : Option Addr) (n2 c2 : Nat) (zs : List Int) (w : World) (hg : w.heap[g]? = some (lvO K S A n c B m e)) (h : Ints w w.heap.size A2 n2 zs) (hn : n2 ≤ 100000) :
    Calls Try.prog 92 #[.slice A2 n2 c2, .func (.func 102) #[] #[.pointer (some ⟨g, 0, none⟩)]] w fun x w' => ∃ r : Int, x = .returned (.int .i64 r) ∧ decide (0 ≤ r) = zs.any (outB S) ∧ Below w.heap.size w w' := by
  have HL : Hid (zs.length = n2) := h.1
  go_enter Try.func92, Try.ntmps92
  go_wp2
  go_loopw [8] (fun i wr => ∃ k : Nat, k ≤ n2 ∧ i = .int .i64 k ∧ Hid ((zs.take k).any (outB S) = false) ∧ Below w.heap.size w wr) (fun i _ => n2 - (intOf i).toNat)
  case atStart => exact ⟨0, Nat.zero_le _, rfl, by unfold Hid; simp, Below.refl _ _⟩
  case round =>
    obtain ⟨k, hk, rfl, HK, hb⟩ := hrel
    by_cases hlt : k < n2
    · obtain ⟨b, off, y, rfl, _, HX, hc, hx1, hx2⟩ := (h.below hb).at_ hlt
      have HC := check1_any K S A B n c m e g y wr (oKeep hb hg)
      by_cases ho : outB S y = true
      · rw [ho] at HC
        have HF : Hid (zs.any (outB S) = true) := any_hit HX.out ho
        clear ho
        go_wp2_with (go_at_call 102; refine HC.mono ?_; rintro x w1 ⟨rfl, hb1⟩; have hb2 := hb.trans (hb1.mono hb.size))
        go_ret
        exact ⟨k, rfl, by rw [HF.out]; simp, hb2⟩
      · have ho' : outB S y = false := by simpa using ho
        rw [ho'] at HC
        have HN : Hid ((zs.take (k + 1)).any (outB S) = false) := any_miss HK.out HX.out ho'
        clear ho ho'
        go_wp2_with (go_at_call 102; refine HC.mono ?_; rintro x w1 ⟨rfl, hb1⟩; have hb2 := hb.trans (hb1.mono hb.size))
        go_roundw
        case rel => exact ⟨k + 1, by omega, by go_num, HN, hb2⟩
        case measure => simp [intOf]; omega
    · have HF : Hid (zs.any (outB S) = false) := any_all HK.out HL.out (by omega)
      go_wp2
      go_ret
      exact ⟨-1, rfl, by rw [HF.out]; rfl, hb⟩

set_option maxRecDepth 100000 in
theorem containsOut_any (K S : Int) (A B : Option Addr) (n c m e g : Nat) (A2 : Option Addr) (n2 c2 : Nat) (zs : List Int) (w : World) (hg : w.heap[g]? = some (lvO K S A n c B m e)) (h : Ints w w.heap.size A2 n2 zs) (hn : n2 ≤ 100000) :
    Calls Try.prog 69 #[.slice A2 n2 c2, .func (.func 102) #[] #[.pointer (some ⟨g, 0, none⟩)]] w fun x w' => x = .returned (.bool (!(pB (InsP S zs)))) ∧ Below w.heap.size w w' := by
  have HC := indexOut_any K S A B n c m e g A2 n2 c2 zs w hg h hn
  have HQ : Hid (zs.any (outB S) = !(pB (InsP S zs))) := by
    unfold Hid
    cases hh : zs.any (outB S) with
    | true =>
      obtain ⟨y, hy, ho⟩ := List.any_eq_true.1 hh
      rw [pB_f (fun hi : InsP S zs => by have := hi y hy; unfold outB at ho; simp at ho; omega)]; rfl
    | false =>
      rw [List.any_eq_false] at hh
      rw [pB_t (P := InsP S zs) (fun y hy => by have := hh y hy; unfold outB at this; simp at this; omega)]; rfl
  go_enter Try.func69, Try.ntmps69
  go_wp2_with (go_at_call 92; refine HC.mono ?_; rintro x w1 ⟨r, rfl, hr, hb1⟩; have HR := Lib.hid hr; clear hr)
  go_ret
  exact ⟨ret_of (by rw [← HQ.out, ← HR.out]; rfl), hb1⟩

set_option maxRecDepth 100000 in
set_option maxHeartbeats 4000000 in
theorem rises_1 (S : Int) (A B : Option Addr) (n c m e a : Nat) (xs ys : List Int) (w : World) (h : Ints w w.heap.size A n xs) (hv : Ints w w.heap.size B m ys) (hm : m ≤ 65536) (ha : a ≤ 1048576) (hT : ToldP 1 xs ys a) (hI : InsP S ys) (hS : S ≤ 2147483648) :
    Calls Try.prog 104 #[lvV 1 S A n c B m e, .int .i64 a] w fun x w' => x = .returned (.bool (pB (RiseP 1 xs ys a))) ∧ Below w.heap.size w w' := by
  have hK : (1 : Int) = 1 ∨ (1 : Int) = 2 := by omega
  obtain ⟨hx1, hx2, hx3, hx4⟩ := (told_pos hK xs ys a).1 hT
  have HLm : Hid (ys.length = m) := hv.1
  have HLn : Hid (xs.length = n) := h.1
  have hn : n ≤ 1048577 := by rw [← h.1, hx1]; omega
  have HX : Hid (∀ p, p < a → ∃ x z : Nat, xs[p]? = some (x : Int) ∧ xs[p + 1]? = some (z : Int) ∧ x ≤ m ∧ z ≤ m) := by
    intro p hp
    have u1 := List.getElem?_eq_getElem (l := xs) (i := p) (by omega)
    have u2 := List.getElem?_eq_getElem (l := xs) (i := p + 1) (by omega)
    have l1 := sortP_le hx4 (Nat.zero_le _) hx2 u1
    have l2 := sortP_le hx4 (Nat.zero_le _) hx2 u2
    have r1 := sortP_le hx4 (by omega) u1 hx3
    have r2 := sortP_le hx4 (by omega) u2 hx3
    rw [hv.1] at r1 r2
    refine ⟨(xs[p]'(by omega)).toNat, (xs[p + 1]'(by omega)).toNat, ?_, ?_, by omega, by omega⟩
    · rw [u1]; congr 1; omega
    · rw [u2]; congr 1; omega
  have HY : Hid (∀ y ∈ ys, 0 ≤ y ∧ y < 2147483648) := fun y hy => by have := hI y hy; omega
  have HSP := fun (p : Nat) (x z : Int) W (hb : Below w.heap.size w W) (q1 : xs[p]? = some x) (q2 : xs[p + 1]? = some z) => span_pos 1 S hK A B n c m e p xs x z W ((h.below hb).more hb.size) hn q1 q2
  have z0 := lvBelow w (lvO 1 S A n c B m e)
  have zz := heap_alloc_new w (lvO 1 S A n c B m e)
  clear hT hI hx1 hx2 hx3 hx4 hK
  go_enter Try.func104, Try.ntmps104
  go_wp2
  go_loopw [17] (fun i wr => ∃ p : Nat, p ≤ a ∧ i = .int .i64 p ∧ Hid (∀ q, q < p → RiseAt 1 xs ys q) ∧ wr.heap[w.heap.size]? = some (lvO 1 S A n c B m e) ∧ Below w.heap.size w wr) (fun i _ => a - (intOf i).toNat)
  case atStart => exact ⟨0, Nat.zero_le _, rfl, by unfold Hid; intro q hq; omega, zz, z0⟩
  case round =>
    clear zz z0
    obtain ⟨p, hp, rfl, HR, hblk, hb⟩ := hrel
    by_cases hlt : p < a
    · obtain ⟨x, z, hxx, hzz, hxm, hzm⟩ := HX.out p hlt
      have HC := HSP p x z wr hb hxx hzz
      have HXX := Lib.hid hxx
      have HZZ := Lib.hid hzz
      clear hxx hzz HSP
      obtain ⟨k0, k1, k2, k3, _⟩ := lvCells hblk
      go_wp2_with (go_at_call 108; refine HC.mono ?_; rintro x w1 ⟨rfl, hb1⟩; replace hblk := oKeep hb1 hblk; replace hb := hb.trans (hb1.mono hb.size))
      clear hb1 HC k0 k1 k2 k3
      obtain ⟨wo, rfl⟩ : ∃ wo : World, wo = w1 := ⟨_, rfl⟩
      go_loopw [9] (fun i wr => ∃ k q : Nat, x + 1 ≤ k ∧ (k ≤ x + 1 ∨ k ≤ z) ∧ i = .int .i64 k ∧ wr = wo.drewN q ∧ Hid (∀ (j : Nat) (u v : Int), x + 1 ≤ j → j < k → ys[j - 1]? = some u → ys[j]? = some v → u + 1 ≤ v)) (fun i _ => z - (intOf i).toNat)
      case atStart => exact ⟨x + 1, 0, Nat.le_refl _, .inl (Nat.le_refl _), by go_num, rfl, by unfold Hid; intro j u v h1 h2; omega⟩
      case round =>
        obtain ⟨k, q, hk1, hk2, rfl, rfl, HJ⟩ := hrel
        obtain ⟨k0, k1, k2, k3, _⟩ := lvCells hblk
        by_cases hlt2 : k < z
        · obtain ⟨b, off, v, rfl, _, HV, hc, hv1, hv2⟩ := (hv.below hb).at_ (k := k) (by omega)
          obtain ⟨b2, off2, u, e2, _, HU, hc2, hu1, hu2⟩ := (hv.below hb).at_ (k := k - 1) (by omega)
          injection e2 with e2; injection e2 with e2 e3; subst e2; subst e3
          have hu := HY.out u (List.mem_of_getElem? HU.out)
          have e1 : IntKind.i64.wrap ((k : Int) - 1) = (k : Int) - 1 := by rw [IntWalk.i64_in _ (by omega)]
          have e2 : IntKind.i64.wrap (u + 1) = u + 1 := by rw [IntWalk.i64_in _ (by omega)]
          have g0 : (0 : Int) ≤ k := by omega
          have g1 : (k : Int) < m := by omega
          have g3 : (0 : Int) ≤ (k : Int) - 1 := by omega
          have g4 : ((k : Int) - 1).toNat = k - 1 := by omega
          have g5 : (1 : Int) ≤ k := by omega
          have g6 : (k : Int) - 1 < m := by omega
          have g7 : (k : Int) < m + 1 := by omega
          have g8 : 1 ≤ k := by omega
          have g9 : u + 1 ≤ 4294967296 := by omega
          by_cases huv : v < u + 1
          · have HF : Hid (pB (RiseP 1 xs ys a) = false) := pB_f (fun hr => by
              have := hr (by omega) p (by omega) k x z u v HXX.out HZZ.out (by omega) (by omega) HU.out HV.out
              unfold byI at this; simp at this; omega)
            have d1 : decide (v < u + 1) = true := by simpa using huv
            have d2 : decide (v ≤ u) = true := by simp; omega
            clear huv hu
            go_wp2
            go_quiet (fail)
            go_wp2
            go_ret
            exact ⟨ret_of (by rw [HF.out]; rfl), below_drewN2 (below_drewN2 hb _) _⟩
          · have HN : Hid (∀ (j : Nat) (u v : Int), x + 1 ≤ j → j < k + 1 → ys[j - 1]? = some u → ys[j]? = some v → u + 1 ≤ v) := by
              intro j u' v' h1 h2 h3 h4
              by_cases ej : j = k
              · subst ej
                rw [HU.out] at h3; rw [HV.out] at h4
                injection h3 with h3; injection h4 with h4; omega
              · exact HJ.out j u' v' h1 (by omega) h3 h4
            have d1 : decide (v < u + 1) = false := by simpa using huv
            have d2 : decide (v ≤ u) = false := by simp; omega
            clear huv hu
            go_wp2
            go_quiet (fail)
            go_wp2
            go_roundw
            case rel => exact ⟨k + 1, _, by omega, by omega, by go_num, rfl, HN⟩
            case measure => simp [intOf]; omega
        · have HN : Hid (∀ q, q < p + 1 → RiseAt 1 xs ys q) := by
            intro q' hq
            by_cases e' : q' = p
            · subst e'
              intro j x' z' u v h1 h2 h3 h4 h5 h6
              rw [HXX.out] at h1; rw [HZZ.out] at h2
              injection h1 with h1; injection h2 with h2
              have := HJ.out j u v (by omega) (by omega) h5 h6
              unfold byI; simp; omega
            · exact HR.out q' (by omega)
          go_wp2
          go_roundw
          case rel => exact ⟨p + 1, by omega, by go_num, HN, hblk, below_drewN2 hb _⟩
          case measure => simp [intOf]; omega
    · have HF : Hid (pB (RiseP 1 xs ys a) = true) := pB_t (fun _ p' hp' => HR.out p' (by omega))
      go_wp2
      go_ret
      exact ⟨ret_of (by rw [HF.out]; rfl), hb⟩

set_option maxRecDepth 100000 in
set_option maxHeartbeats 4000000 in
theorem rises_2 (S : Int) (A B : Option Addr) (n c m e a : Nat) (xs ys : List Int) (w : World) (h : Ints w w.heap.size A n xs) (hv : Ints w w.heap.size B m ys) (hm : m ≤ 65536) (ha : a ≤ 1048576) (hT : ToldP 2 xs ys a) (hI : InsP S ys) (hS : S ≤ 2147483648) :
    Calls Try.prog 104 #[lvV 2 S A n c B m e, .int .i64 a] w fun x w' => x = .returned (.bool (pB (RiseP 2 xs ys a))) ∧ Below w.heap.size w w' := by
  have hK : (2 : Int) = 1 ∨ (2 : Int) = 2 := by omega
  obtain ⟨hx1, hx2, hx3, hx4⟩ := (told_pos hK xs ys a).1 hT
  have HLm : Hid (ys.length = m) := hv.1
  have HLn : Hid (xs.length = n) := h.1
  have hn : n ≤ 1048577 := by rw [← h.1, hx1]; omega
  have HX : Hid (∀ p, p < a → ∃ x z : Nat, xs[p]? = some (x : Int) ∧ xs[p + 1]? = some (z : Int) ∧ x ≤ m ∧ z ≤ m) := by
    intro p hp
    have u1 := List.getElem?_eq_getElem (l := xs) (i := p) (by omega)
    have u2 := List.getElem?_eq_getElem (l := xs) (i := p + 1) (by omega)
    have l1 := sortP_le hx4 (Nat.zero_le _) hx2 u1
    have l2 := sortP_le hx4 (Nat.zero_le _) hx2 u2
    have r1 := sortP_le hx4 (by omega) u1 hx3
    have r2 := sortP_le hx4 (by omega) u2 hx3
    rw [hv.1] at r1 r2
    refine ⟨(xs[p]'(by omega)).toNat, (xs[p + 1]'(by omega)).toNat, ?_, ?_, by omega, by omega⟩
    · rw [u1]; congr 1; omega
    · rw [u2]; congr 1; omega
  have HY : Hid (∀ y ∈ ys, 0 ≤ y ∧ y < 2147483648) := fun y hy => by have := hI y hy; omega
  have HSP := fun (p : Nat) (x z : Int) W (hb : Below w.heap.size w W) (q1 : xs[p]? = some x) (q2 : xs[p + 1]? = some z) => span_pos 2 S hK A B n c m e p xs x z W ((h.below hb).more hb.size) hn q1 q2
  have z0 := lvBelow w (lvO 2 S A n c B m e)
  have zz := heap_alloc_new w (lvO 2 S A n c B m e)
  clear hT hI hx1 hx2 hx3 hx4 hK
  go_enter Try.func104, Try.ntmps104
  go_wp2
  go_loopw [17] (fun i wr => ∃ p : Nat, p ≤ a ∧ i = .int .i64 p ∧ Hid (∀ q, q < p → RiseAt 2 xs ys q) ∧ wr.heap[w.heap.size]? = some (lvO 2 S A n c B m e) ∧ Below w.heap.size w wr) (fun i _ => a - (intOf i).toNat)
  case atStart => exact ⟨0, Nat.zero_le _, rfl, by unfold Hid; intro q hq; omega, zz, z0⟩
  case round =>
    clear zz z0
    obtain ⟨p, hp, rfl, HR, hblk, hb⟩ := hrel
    by_cases hlt : p < a
    · obtain ⟨x, z, hxx, hzz, hxm, hzm⟩ := HX.out p hlt
      have HC := HSP p x z wr hb hxx hzz
      have HXX := Lib.hid hxx
      have HZZ := Lib.hid hzz
      clear hxx hzz HSP
      obtain ⟨k0, k1, k2, k3, _⟩ := lvCells hblk
      go_wp2_with (go_at_call 108; refine HC.mono ?_; rintro x w1 ⟨rfl, hb1⟩; replace hblk := oKeep hb1 hblk; replace hb := hb.trans (hb1.mono hb.size))
      clear hb1 HC k0 k1 k2 k3
      obtain ⟨wo, rfl⟩ : ∃ wo : World, wo = w1 := ⟨_, rfl⟩
      go_loopw [9] (fun i wr => ∃ k q : Nat, x + 1 ≤ k ∧ (k ≤ x + 1 ∨ k ≤ z) ∧ i = .int .i64 k ∧ wr = wo.drewN q ∧ Hid (∀ (j : Nat) (u v : Int), x + 1 ≤ j → j < k → ys[j - 1]? = some u → ys[j]? = some v → u + 0 ≤ v)) (fun i _ => z - (intOf i).toNat)
      case atStart => exact ⟨x + 1, 0, Nat.le_refl _, .inl (Nat.le_refl _), by go_num, rfl, by unfold Hid; intro j u v h1 h2; omega⟩
      case round =>
        obtain ⟨k, q, hk1, hk2, rfl, rfl, HJ⟩ := hrel
        obtain ⟨k0, k1, k2, k3, _⟩ := lvCells hblk
        by_cases hlt2 : k < z
        · obtain ⟨b, off, v, rfl, _, HV, hc, hv1, hv2⟩ := (hv.below hb).at_ (k := k) (by omega)
          obtain ⟨b2, off2, u, e2, _, HU, hc2, hu1, hu2⟩ := (hv.below hb).at_ (k := k - 1) (by omega)
          injection e2 with e2; injection e2 with e2 e3; subst e2; subst e3
          have hu := HY.out u (List.mem_of_getElem? HU.out)
          have e1 : IntKind.i64.wrap ((k : Int) - 1) = (k : Int) - 1 := by rw [IntWalk.i64_in _ (by omega)]
          have e2 : IntKind.i64.wrap (u + 0) = u + 0 := by rw [IntWalk.i64_in _ (by omega)]
          have g0 : (0 : Int) ≤ k := by omega
          have g1 : (k : Int) < m := by omega
          have g3 : (0 : Int) ≤ (k : Int) - 1 := by omega
          have g4 : ((k : Int) - 1).toNat = k - 1 := by omega
          have g5 : (1 : Int) ≤ k := by omega
          have g6 : (k : Int) - 1 < m := by omega
          have g7 : (k : Int) < m + 1 := by omega
          have g8 : 1 ≤ k := by omega
          have e4 : IntKind.i64.wrap u = u := by rw [IntWalk.i64_in _ (by omega)]
          by_cases huv : v < u + 0
          · have HF : Hid (pB (RiseP 2 xs ys a) = false) := pB_f (fun hr => by
              have := hr (by omega) p (by omega) k x z u v HXX.out HZZ.out (by omega) (by omega) HU.out HV.out
              unfold byI at this; simp at this; omega)
            have d1 : decide (v < u + 0) = true := by simpa using huv
            have d2 : decide (v < u) = true := by simp; omega
            clear huv hu
            go_wp2
            go_quiet (fail)
            go_wp2
            go_ret
            exact ⟨ret_of (by rw [HF.out]; rfl), below_drewN2 (below_drewN2 hb _) _⟩
          · have HN : Hid (∀ (j : Nat) (u v : Int), x + 1 ≤ j → j < k + 1 → ys[j - 1]? = some u → ys[j]? = some v → u + 0 ≤ v) := by
              intro j u' v' h1 h2 h3 h4
              by_cases ej : j = k
              · subst ej
                rw [HU.out] at h3; rw [HV.out] at h4
                injection h3 with h3; injection h4 with h4; omega
              · exact HJ.out j u' v' h1 (by omega) h3 h4
            have d1 : decide (v < u + 0) = false := by simpa using huv
            have d2 : decide (v < u) = false := by simp; omega
            clear huv hu
            go_wp2
            go_quiet (fail)
            go_wp2
            go_roundw
            case rel => exact ⟨k + 1, _, by omega, by omega, by go_num, rfl, HN⟩
            case measure => simp [intOf]; omega
        · have HN : Hid (∀ q, q < p + 1 → RiseAt 2 xs ys q) := by
            intro q' hq
            by_cases e' : q' = p
            · subst e'
              intro j x' z' u v h1 h2 h3 h4 h5 h6
              rw [HXX.out] at h1; rw [HZZ.out] at h2
              injection h1 with h1; injection h2 with h2
              have := HJ.out j u v (by omega) (by omega) h5 h6
              unfold byI; simp; omega
            · exact HR.out q' (by omega)
          go_wp2
          go_roundw
          case rel => exact ⟨p + 1, by omega, by go_num, HN, hblk, below_drewN2 hb _⟩
          case measure => simp [intOf]; omega
    · have HF : Hid (pB (RiseP 2 xs ys a) = true) := pB_t (fun _ p' hp' => HR.out p' (by omega))
      go_wp2
      go_ret
      exact ⟨ret_of (by rw [HF.out]; rfl), hb⟩


set_option maxRecDepth 100000 in
theorem rises_any (K S : Int) (A B : Option Addr) (n c m e a : Nat) (xs ys : List Int) (w : World) (h : Ints w w.heap.size A n xs) (hv : Ints w w.heap.size B m ys) (hm : m ≤ 65536) (ha : a ≤ 1048576) (hT : ToldP K xs ys a) (hI : InsP S ys) (hS : S ≤ 2147483648) :
    Calls Try.prog 104 #[lvV K S A n c B m e, .int .i64 a] w fun x w' => x = .returned (.bool (pB (RiseP K xs ys a))) ∧ Below w.heap.size w w' := by
  by_cases h1 : K = 1
  · subst h1; exact rises_1 S A B n c m e a xs ys w h hv hm ha hT hI hS
  by_cases h2 : K = 2
  · subst h2; exact rises_2 S A B n c m e a xs ys w h hv hm ha hT hI hS
  have HF : Hid (pB (RiseP K xs ys a) = true) := pB_t (fun e => by omega)
  have k1 : (K == 1) = false := by simp; omega
  have k2 : (K == 2) = false := by simp; omega
  have z0 := lvBelow w (lvO K S A n c B m e)
  clear h1 h2 hT hI
  go_enter Try.func104, Try.ntmps104
  go_wp2
  go_ret
  exact ⟨ret_of (by rw [HF.out]; rfl), z0⟩
end Go.Proofs.Ytfimnmdcbnfhfaa
/- The contract of level.Check: its error is lvF. -/
namespace Go.Proofs.Ytfimnmdcbnfhfaa
open Go.RowKit

set_option maxRecDepth 100000 in
set_option maxHeartbeats 4000000 in
theorem lvCheck_any (K S a : Int) (A B : Option Addr) (n c m e : Nat) (xs ys : List Int) (w : World) (h : Ints w w.heap.size A n xs) (hn : n ≤ 9223372036854775807) (hv : Ints w w.heap.size B m ys) (hm : m ≤ 9223372036854775807) :
    Calls Try.prog 85 #[lvV K S A n c B m e, .int .i64 a] w fun x w' => x = .returned (.int .i64 (lvF K S xs ys a)) ∧ Below w.heap.size w w' := by
  have HM := fun W => may_any K S a W
  have z0 := lvBelow w (lvO K S A n c B m e)
  have zz := heap_alloc_new w (lvO K S A n c B m e)
  have HLm : Hid (ys.length = m) := hv.1
  by_cases hmay : MayP K S a
  · rw [pB_t hmay] at HM
    obtain ⟨_, _, hs0, hs1, ha0, ha1⟩ := id hmay
    obtain ⟨b, rfl⟩ : ∃ b : Nat, a = b := ⟨a.toNat, by omega⟩
    have HT := fun W (hb : Below w.heap.size w W) => told_any K S A B n c m e b xs ys W ((h.below hb).more hb.size) hn hm hv.1 (by omega)
    by_cases htold : ToldP K xs ys b
    · rw [pB_t htold] at HT
      have HY := fun W => many_any K S b A B n c m e ys W hv.1 hm ha0 ha1 hs0 hs1
      obtain ⟨M, hM⟩ : ∃ M, manyF K S ys b = M := ⟨_, rfl⟩
      rw [hM] at HY
      by_cases hlarge : 65536 < m ∨ 1048576 < M
      · have HF : Hid (lvF K S xs ys b = 2) := by
          unfold Hid lvF; rw [if_pos (pB_t ⟨hmay, htold⟩), if_pos (by rw [hM, hv.1]; exact hlarge)]
        clear hmay htold
        by_cases hm1 : 65536 < m
        · have d1 : decide (65536 < (m : Int)) = true := by simp; omega
          clear hlarge hm1 hM
          go_enter Try.func85, Try.ntmps85
          go_wp2_with (first | (go_at_call 100; refine (HM _).mono ?_; rintro x w1 ⟨rfl, rfl⟩) | (go_at_call 101; refine (HT _ z0).mono ?_; rintro x w1 ⟨rfl, hb1⟩; have hb2 := z0.trans (hb1.mono z0.size); have hk2 := oKeep hb1 zz; obtain ⟨k0, k1, k2, k3, _⟩ := lvCells hk2))
          go_ret
          exact ⟨ret_of (by rw [HF.out]; rfl), hb2⟩
        · have d1 : decide (65536 < (m : Int)) = false := by simp; omega
          have d2 : decide (1048576 < M) = true := by simp; omega
          clear hlarge hm1 hM
          go_enter Try.func85, Try.ntmps85
          go_wp2_with (first | (go_at_call 100; refine (HM _).mono ?_; rintro x w1 ⟨rfl, rfl⟩) | (go_at_call 101; refine (HT _ z0).mono ?_; rintro x w1 ⟨rfl, hb1⟩; have hb2 := z0.trans (hb1.mono z0.size); have hk2 := oKeep hb1 zz; obtain ⟨k0, k1, k2, k3, _⟩ := lvCells hk2) | (go_at_call 86; refine (HY _).mono ?_; rintro x w3 ⟨rfl, hb3⟩; have hb4 := hb2.trans (hb3.mono hb2.size); have hk4 := oKeep hb3 hk2))
          go_ret
          exact ⟨ret_of (by rw [HF.out]; rfl), hb4⟩
      · have d1 : decide (65536 < (m : Int)) = false := by simp; omega
        have d2 : decide (1048576 < M) = false := by simp; omega
        have hm1 : m ≤ 65536 := by omega
        have HI := fun W (hb : Below w.heap.size w W) (hg : W.heap[w.heap.size]? = some (lvO K S A n c B m e)) => containsOut_any K S A B n c m e w.heap.size B m e ys W hg ((hv.below hb).more hb.size) (by omega)
        by_cases hins : InsP S ys
        · rw [pB_t hins] at HI
          have HR := fun W (hb : Below w.heap.size w W) => rises_any K S A B n c m e b xs ys W ((h.below hb).more hb.size) ((hv.below hb).more hb.size) hm1 (by omega) htold hins hs1
          have HF : Hid (lvF K S xs ys b = if pB (RiseP K xs ys b) = true then 0 else 1) := by
            unfold Hid lvF; rw [if_pos (pB_t ⟨hmay, htold⟩), if_neg (by rw [hM, hv.1]; exact hlarge), if_pos (pB_t hins)]
          obtain ⟨r, hr⟩ : ∃ r, pB (RiseP K xs ys b) = r := ⟨_, rfl⟩
          rw [hr] at HF HR
          clear hmay htold hlarge hM hins hr
          cases r
          all_goals
            go_enter Try.func85, Try.ntmps85
            go_wp2_with (first | (go_at_call 100; refine (HM _).mono ?_; rintro x w1 ⟨rfl, rfl⟩) | (go_at_call 101; refine (HT _ z0).mono ?_; rintro x w1 ⟨rfl, hb1⟩; have hb2 := z0.trans (hb1.mono z0.size); have hk2 := oKeep hb1 zz; obtain ⟨k0, k1, k2, k3, _⟩ := lvCells hk2) | (go_at_call 86; refine (HY _).mono ?_; rintro x w3 ⟨rfl, hb3⟩; have hb4 := hb2.trans (hb3.mono hb2.size); have hk4 := oKeep hb3 hk2; obtain ⟨l0, l1, l2, l3, _⟩ := lvCells hk4) | (go_at_call 69; refine (HI _ hb4 hk4).mono ?_; rintro x w5 ⟨rfl, hb5⟩; have hb6 := hb4.trans (hb5.mono hb4.size); have hk6 := oKeep hb5 hk4; obtain ⟨p0, p1, p2, p3, _⟩ := lvCells hk6) | (go_at_call 104; refine (HR _ hb6).mono ?_; rintro x w7 ⟨rfl, hb7⟩; have hb8 := hb6.trans (hb7.mono hb6.size)))
            go_ret
            exact ⟨ret_of (by rw [HF.out]; rfl), hb8⟩
        · rw [pB_f hins] at HI
          have HF : Hid (lvF K S xs ys b = 3) := by
            unfold Hid lvF; rw [if_pos (pB_t ⟨hmay, htold⟩), if_neg (by rw [hM, hv.1]; exact hlarge), if_neg (by rw [pB_f hins]; decide)]
          clear hmay htold hlarge hM hins
          go_enter Try.func85, Try.ntmps85
          go_wp2_with (first | (go_at_call 100; refine (HM _).mono ?_; rintro x w1 ⟨rfl, rfl⟩) | (go_at_call 101; refine (HT _ z0).mono ?_; rintro x w1 ⟨rfl, hb1⟩; have hb2 := z0.trans (hb1.mono z0.size); have hk2 := oKeep hb1 zz; obtain ⟨k0, k1, k2, k3, _⟩ := lvCells hk2) | (go_at_call 86; refine (HY _).mono ?_; rintro x w3 ⟨rfl, hb3⟩; have hb4 := hb2.trans (hb3.mono hb2.size); have hk4 := oKeep hb3 hk2; obtain ⟨l0, l1, l2, l3, _⟩ := lvCells hk4) | (go_at_call 69; refine (HI _ hb4 hk4).mono ?_; rintro x w5 ⟨rfl, hb5⟩; have hb6 := hb4.trans (hb5.mono hb4.size)))
          go_ret
          exact ⟨ret_of (by rw [HF.out]; rfl), hb6⟩
    · rw [pB_f htold] at HT
      have HF : Hid (lvF K S xs ys b = 1) := by
        unfold Hid lvF; rw [if_neg (by rw [pB_f (fun q => htold q.2)]; decide)]
      clear hmay htold
      go_enter Try.func85, Try.ntmps85
      go_wp2_with (first | (go_at_call 100; refine (HM _).mono ?_; rintro x w1 ⟨rfl, rfl⟩) | (go_at_call 101; refine (HT _ z0).mono ?_; rintro x w1 ⟨rfl, hb1⟩; have hb2 := z0.trans (hb1.mono z0.size)))
      go_ret
      exact ⟨ret_of (by rw [HF.out]; rfl), hb2⟩
  · rw [pB_f hmay] at HM
    have HF : Hid (lvF K S xs ys a = 1) := by
      unfold Hid lvF; rw [if_neg (by rw [pB_f (fun q => hmay q.1)]; decide)]
    clear hmay
    go_enter Try.func85, Try.ntmps85
    go_wp2_with (go_at_call 100; refine (HM _).mono ?_; rintro x w1 ⟨rfl, rfl⟩)
    go_ret
    exact ⟨ret_of (by rw [HF.out]; rfl), z0⟩
end Go.Proofs.Ytfimnmdcbnfhfaa
/- Slices of slices of integers: how they read, those of the call's own, and one more behind them. -/
namespace Go.Proofs.Ytfimnmdcbnfhfaa
open Go.RowKit

set_option maxRecDepth 100000 in
theorem infoRow : (Try.prog.info? 22).map (fun i => (i.zero, i.size, i.bytes)) = some (some (.slice none 0 0), 1, 24) := by kernel_rfl

/-- the header (A, n) leads to slices that read as the lists LL -/
def IntsLL (w : World) (B : Nat) (A : Option Addr) (n : Nat) (LL : List (List Int)) : Prop :=
  LL.length = n ∧ (0 < n → ∃ b off, A = some ⟨b, off, none⟩ ∧ b < B ∧ ∀ (k : Nat) (L : List Int), LL[k]? = some L → ∃ a c, w.cell? ⟨b, off + k, none⟩ = some (.slice a L.length c) ∧ L.length ≤ c ∧ Ints w B a L.length L)
theorem IntsLL.at_ {w : World} {B n k : Nat} {A : Option Addr} {LL : List (List Int)} (h : IntsLL w B A n LL) (hk : k < n) :
    ∃ b off L a c, A = some ⟨b, off, none⟩ ∧ b < B ∧ Hid (LL[k]? = some L) ∧ w.cell? ⟨b, off + k, none⟩ = some (.slice a L.length c) ∧ L.length ≤ c ∧ Ints w B a L.length L := by
  obtain ⟨hl, hc⟩ := h
  obtain ⟨b, off, rfl, hB, hx⟩ := hc (by omega)
  have hk' : k < LL.length := by omega
  obtain ⟨a, c, h1, h2, h3⟩ := hx k _ (List.getElem?_eq_getElem hk')
  exact ⟨b, off, LL[k], a, c, rfl, hB, List.getElem?_eq_getElem hk', h1, h2, h3⟩
theorem IntsLL.below {w w' : World} {B n : Nat} {A : Option Addr} {LL : List (List Int)} (h : IntsLL w B A n LL) (hb : Below B w w') : IntsLL w' B A n LL := by
  refine ⟨h.1, fun h0 => ?_⟩
  obtain ⟨b, off, rfl, hB, hx⟩ := h.2 h0
  refine ⟨b, off, rfl, hB, fun k L hL => ?_⟩
  obtain ⟨a, c, h1, h2, h3⟩ := hx k L hL
  exact ⟨a, c, (hb.cell (p := ⟨b, off + k, none⟩) hB).trans h1, h2, h3.below hb⟩
theorem IntsLL.more {w : World} {B B' n : Nat} {A : Option Addr} {LL : List (List Int)} (h : IntsLL w B A n LL) (hb : B ≤ B') : IntsLL w B' A n LL := by
  refine ⟨h.1, fun h0 => ?_⟩
  obtain ⟨b, off, rfl, hB, hx⟩ := h.2 h0
  refine ⟨b, off, rfl, by omega, fun k L hL => ?_⟩
  obtain ⟨a, c, h1, h2, h3⟩ := hx k L hL
  exact ⟨a, c, h1, h2, h3.more hb⟩
theorem IntsLL.nil_ (w : World) (B : Nat) (A : Option Addr) : IntsLL w B A 0 [] := ⟨rfl, fun h => absurd h (by omega)⟩

/-- the heads of slices of the call's own -/
def HeadsOK (w : World) (base : Nat) : List Value → List (List Int) → Prop
  | [], [] => True
  | v :: vs, L :: LL => (∃ a c, v = .slice a L.length c ∧ OwnI w base 3 a c L) ∧ HeadsOK w base vs LL
  | _, _ => False
theorem HeadsOK.len {w : World} {base : Nat} {vs : List Value} {LL : List (List Int)} (h : HeadsOK w base vs LL) : vs.length = LL.length := by
  induction vs generalizing LL with
  | nil => cases LL with | nil => rfl | cons L LL => exact h.elim
  | cons v vs ih => cases LL with | nil => exact h.elim | cons L LL => simp [ih h.2]
theorem HeadsOK.at_ {w : World} {base k : Nat} {vs : List Value} {LL : List (List Int)} {L : List Int} (h : HeadsOK w base vs LL) (hk : LL[k]? = some L) : ∃ a c, vs[k]? = some (.slice a L.length c) ∧ OwnI w base 3 a c L := by
  induction vs generalizing LL k with
  | nil => cases LL with | nil => simp at hk | cons L LL => exact h.elim
  | cons v vs ih => cases LL with
    | nil => exact h.elim
    | cons L' LL => cases k with
      | zero => simp at hk; subst hk; obtain ⟨a, c, rfl, ho⟩ := h.1; exact ⟨a, c, rfl, ho⟩
      | succ k => exact ih h.2 (by simpa using hk)
theorem HeadsOK.map {w w' : World} {base base' : Nat} {vs : List Value} {LL : List (List Int)} (h : HeadsOK w base vs LL) (hm : ∀ a c L, OwnI w base 3 a c L → OwnI w' base' 3 a c L) : HeadsOK w' base' vs LL := by
  induction vs generalizing LL with
  | nil => cases LL with | nil => trivial | cons L LL => exact h.elim
  | cons v vs ih => cases LL with
    | nil => exact h.elim
    | cons L LL => obtain ⟨⟨a, c, e, ho⟩, h2⟩ := h; exact ⟨⟨a, c, e, hm _ _ _ ho⟩, ih h2⟩
theorem HeadsOK.snoc {w : World} {base c : Nat} {a : Option Addr} {vs : List Value} {LL : List (List Int)} {L : List Int} (h : HeadsOK w base vs LL) (ho : OwnI w base 3 a c L) : HeadsOK w base (vs ++ [.slice a L.length c]) (LL ++ [L]) := by
  induction vs generalizing LL with
  | nil => cases LL with | nil => exact ⟨⟨a, c, rfl, ho⟩, trivial⟩ | cons L LL => exact h.elim
  | cons v vs ih => cases LL with
    | nil => exact h.elim
    | cons L LL => exact ⟨h.1, ih h.2⟩

/-- a slice of the call's own, of slices of the call's own -/
def OwnLL (w : World) (base : Nat) (A : Option Addr) (c : Nat) (LL : List (List Int)) : Prop :=
  ∃ vs, w.ownsRow base 22 1 (.slice A LL.length c) LL.length vs ∧ HeadsOK w base vs LL
theorem OwnLL.nil_ (w : World) (base : Nat) : OwnLL w base none 0 [] := ⟨[], w.ownsRow_nil base _ 1, trivial⟩
theorem OwnI.len_cap {w : World} {base : Nat} {e : TypeId} {A : Option Addr} {c : Nat} {xs : List Int} (h : OwnI w base e A c xs) : xs.length ≤ c := by
  rcases h.1.2 with ⟨hv, h0⟩ | ⟨g', cap, cur, hv, hb, hh, hc, _⟩
  · omega
  · injection hv with h1 h2 h3; omega
theorem OwnLL.ints {w : World} {base : Nat} {A : Option Addr} {c : Nat} {LL : List (List Int)} (h : OwnLL w base A c LL) : IntsLL w w.heap.size A LL.length LL := by
  obtain ⟨vs, hr, hh⟩ := h
  refine ⟨rfl, fun h0 => ?_⟩
  rcases hr.2 with ⟨_, h1⟩ | ⟨g, cap, cur, hv, _, hg, _⟩
  · omega
  have hA : A = some ⟨g, 0, none⟩ := by injection hv
  subst hA
  have hlt : g < w.heap.size := (hr.lt g rfl).2
  refine ⟨g, 0, rfl, hlt, fun k L hL => ?_⟩
  obtain ⟨a, c2, h1, h2⟩ := hh.at_ hL
  have hk := (List.getElem?_eq_some_iff.1 h1).1
  refine ⟨a, c2, ?_, h2.len_cap, h2.ints⟩
  rw [Nat.zero_add]
  exact (hr.cellAt k (by rw [← hh.len]; omega)).trans h1
theorem OwnLL.below {w w' : World} {base B : Nat} {A : Option Addr} {c : Nat} {LL : List (List Int)} (h : OwnLL w base A c LL) (hb : Below B w w') (hB : w.heap.size ≤ B) : OwnLL w' base A c LL := by
  obtain ⟨vs, hr, hh⟩ := h
  refine ⟨vs, ?_, hh.map fun a c L ho => ho.below hb hB⟩
  exact hr.kept ⟨hb.os, hb.tape, hb.output, hb.size, fun i hi _ => hb.block i (by omega)⟩ (row := none) (by cases hh : (Value.slice A LL.length c).ownBlock with | none => exact .inl rfl | some k => exact .inr (by simp))
theorem OwnLL.mono {w : World} {base base' : Nat} {A : Option Addr} {c : Nat} {LL : List (List Int)} (h : OwnLL w base A c LL) (hb : base' ≤ base) : OwnLL w base' A c LL := by
  obtain ⟨vs, hr, hh⟩ := h
  refine ⟨vs, ⟨hr.1, ?_⟩, hh.map fun a c L ho => ho.mono hb⟩
  rcases hr.2 with hh | ⟨g, cap, cur, h1, h2, h3⟩
  · exact .inl hh
  · exact .inr ⟨g, cap, cur, h1, by omega, h3⟩
theorem OwnLL.alloc {w : World} {base : Nat} {A : Option Addr} {c : Nat} {LL : List (List Int)} (h : OwnLL w base A c LL) (o : Obj) : OwnLL (w.alloc o) base A c LL := by
  obtain ⟨vs, hr, hh⟩ := h
  exact ⟨vs, hr.alloc o, hh.map fun a c L ho => ho.alloc o⟩

end Go.Proofs.Ytfimnmdcbnfhfaa
/- Slices of children: how they read, those of the call's own, and one more behind them. -/
namespace Go.Proofs.Ytfimnmdcbnfhfaa
open Go.RowKit

def chCells (L : List (Int × Int)) : List Value := L.flatMap fun x => [.int .i64 x.1, .int .i64 x.2]
theorem chCells_nil : chCells [] = [] := rfl
theorem chCells_append (L M : List (Int × Int)) : chCells (L ++ M) = chCells L ++ chCells M := by simp [chCells]
theorem chCells_length (L : List (Int × Int)) : (chCells L).length = L.length * 2 := by
  induction L with
  | nil => rfl
  | cons x L ih => show (([_, _] : List Value) ++ chCells L).length = _; rw [List.length_append, ih]; simp; omega
theorem chCells_at {L : List (Int × Int)} {k : Nat} {x : Int × Int} (h : L[k]? = some x) : (chCells L)[k * 2]? = some (.int .i64 x.1) ∧ (chCells L)[k * 2 + 1]? = some (.int .i64 x.2) := by
  induction L generalizing k with
  | nil => simp at h
  | cons y L ih =>
    have hc : chCells (y :: L) = .int .i64 y.1 :: .int .i64 y.2 :: chCells L := rfl
    cases k with
    | zero => simp at h; subst h; rw [hc]; exact ⟨rfl, rfl⟩
    | succ k =>
      have := ih (k := k) (by simpa using h)
      rw [hc, show (k + 1) * 2 = k * 2 + 1 + 1 by omega, show k * 2 + 1 + 1 + 1 = (k * 2 + 1) + 1 + 1 by omega]
      exact this
def FitC (L : List (Int × Int)) : Prop := ∀ x ∈ L, (-9223372036854775808 ≤ x.1 ∧ x.1 ≤ 9223372036854775807) ∧ (-9223372036854775808 ≤ x.2 ∧ x.2 ≤ 9223372036854775807)
/-- the header (A, n) leads to the children L, in blocks below B -/
def Chs (w : World) (B : Nat) (A : Option Addr) (n : Nat) (L : List (Int × Int)) : Prop :=
  L.length = n ∧ FitC L ∧ (0 < n → ∃ b off, A = some ⟨b, off, none⟩ ∧ b < B ∧ ∀ (k : Nat) (x : Int × Int), L[k]? = some x → w.cell? ⟨b, off + k * 2, none⟩ = some (.int .i64 x.1) ∧ w.cell? ⟨b, off + k * 2 + 1, none⟩ = some (.int .i64 x.2))
theorem Chs.at_ {w : World} {B n k : Nat} {A : Option Addr} {L : List (Int × Int)} (h : Chs w B A n L) (hk : k < n) :
    ∃ b off x, A = some ⟨b, off, none⟩ ∧ b < B ∧ Hid (L[k]? = some x) ∧ w.cell? ⟨b, off + k * 2, none⟩ = some (.int .i64 x.1) ∧ w.cell? ⟨b, off + k * 2 + 1, none⟩ = some (.int .i64 x.2) ∧ (-9223372036854775808 ≤ x.1 ∧ x.1 ≤ 9223372036854775807) ∧ (-9223372036854775808 ≤ x.2 ∧ x.2 ≤ 9223372036854775807) := by
  obtain ⟨hl, hb, hc⟩ := h
  obtain ⟨b, off, rfl, hB, hx⟩ := hc (by omega)
  have hk' : k < L.length := by omega
  have := hx k _ (List.getElem?_eq_getElem hk')
  have hf := hb _ (List.getElem_mem hk')
  exact ⟨b, off, L[k], rfl, hB, List.getElem?_eq_getElem hk', this.1, this.2, hf.1, hf.2⟩
theorem Chs.below {w w' : World} {B n : Nat} {A : Option Addr} {L : List (Int × Int)} (h : Chs w B A n L) (hb : Below B w w') : Chs w' B A n L := by
  refine ⟨h.1, h.2.1, fun h0 => ?_⟩
  obtain ⟨b, off, rfl, hB, hx⟩ := h.2.2 h0
  exact ⟨b, off, rfl, hB, fun k x hk => ⟨(hb.cell (p := ⟨b, off + k * 2, none⟩) hB).trans (hx k x hk).1, (hb.cell (p := ⟨b, off + k * 2 + 1, none⟩) hB).trans (hx k x hk).2⟩⟩
theorem Chs.more {w : World} {B B' n : Nat} {A : Option Addr} {L : List (Int × Int)} (h : Chs w B A n L) (hb : B ≤ B') : Chs w B' A n L := by
  refine ⟨h.1, h.2.1, fun h0 => ?_⟩
  obtain ⟨b, off, rfl, hB, hx⟩ := h.2.2 h0
  exact ⟨b, off, rfl, by omega, hx⟩
theorem Chs.nil_ (w : World) (B : Nat) (A : Option Addr) : Chs w B A 0 [] := ⟨rfl, (fun x hx => by cases hx), fun h => absurd h (by omega)⟩

end Go.Proofs.Ytfimnmdcbnfhfaa
/- The contracts of level's Below, of and Children. -/
namespace Go.Proofs.Ytfimnmdcbnfhfaa
open Go.RowKit

/-- the level's lists as they lie -/
structure LvI (w : World) (A : Option Addr) (n : Nat) (B : Option Addr) (m : Nat) (xs ys : List Int) : Prop where
  pos : Ints w w.heap.size A n xs
  crd : Ints w w.heap.size B m ys
  n1 : n ≤ 9223372036854775807
  m1 : m ≤ 9223372036854775807
theorem LvI.below {w w' : World} {A B : Option Addr} {n m : Nat} {xs ys : List Int} (h : LvI w A n B m xs ys) (hb : Below w.heap.size w w') : LvI w' A n B m xs ys :=
  ⟨(h.pos.below hb).more hb.size, (h.crd.below hb).more hb.size, h.n1, h.m1⟩

set_option maxRecDepth 100000 in
theorem below_err (K S a E : Int) (A B : Option Addr) (n c m e : Nat) (xs ys : List Int) (w : World) (h : LvI w A n B m xs ys) (hE : lvF K S xs ys a = E) (h0 : E ≠ 0) :
    Calls Try.prog 62 #[lvV K S A n c B m e, .int .i64 a] w fun x w' => x = .returned (.tuple #[.int .i64 0, .int .i64 E]) ∧ Below w.heap.size w w' := by
  have HC := fun W (hb : Below w.heap.size w W) => lvCheck_any K S a A B n c m e xs ys W (h.below hb).pos h.n1 (h.below hb).crd h.m1
  rw [hE] at HC
  have z0 := lvBelow w (lvO K S A n c B m e)
  have e1 : (E == 0) = false := by simpa using h0
  have e2 : (E != 0) = true := by simpa using h0
  clear hE h0
  go_enter Try.func62, Try.ntmps62
  go_wp2_with (go_at_call 85; refine (HC _ z0).mono ?_; rintro x w1 ⟨rfl, hb1⟩; have hb2 := z0.trans (hb1.mono z0.size))
  go_ret2
  exact ⟨rfl, hb2⟩

theorem totN_eq {K S : Int} {ys : List Int} {a : Nat} (hs : 0 ≤ S) : manyF K S ys a = ((totN K S ys a : Nat) : Int) := by
  unfold manyF totN
  split
  · rw [Int.natCast_mul, Int.toNat_of_nonneg hs]
  · rfl
set_option maxRecDepth 100000 in
theorem below_ok (K S : Int) (a : Nat) (A B : Option Addr) (n c m e : Nat) (xs ys : List Int) (w : World) (h : LvI w A n B m xs ys) (hE : lvF K S xs ys a = 0) :
    Calls Try.prog 62 #[lvV K S A n c B m e, .int .i64 a] w fun x w' => x = .returned (.tuple #[.int .i64 (totN K S ys a : Nat), .int .i64 0]) ∧ Below w.heap.size w w' := by
  have HC := fun W (hb : Below w.heap.size w W) => lvCheck_any K S a A B n c m e xs ys W (h.below hb).pos h.n1 (h.below hb).crd h.m1
  rw [hE] at HC
  obtain ⟨b, hab, HL⟩ := lok_of hE
  obtain rfl : b = a := by omega
  have HM := fun W => many_any K S (b : Int) A B n c m e ys W h.crd.1 h.m1 (by omega) (by have := HL.ahead; omega) HL.size0 HL.size1
  rw [totN_eq HL.size0] at HM
  have z0 := lvBelow w (lvO K S A n c B m e)
  have zz := heap_alloc_new w (lvO K S A n c B m e)
  clear hE HL hab
  go_enter Try.func62, Try.ntmps62
  go_wp2_with (first | (go_at_call 85; refine (HC _ z0).mono ?_; rintro x w1 ⟨rfl, hb1⟩; have hb2 := z0.trans (hb1.mono z0.size); obtain ⟨k0, k1, k2, k3, _⟩ := lvCells (oKeep hb1 zz)) | (go_at_call 86; refine (HM _).mono ?_; rintro x w3 ⟨rfl, hb3⟩; have hb4 := hb2.trans (hb3.mono hb2.size)))
  go_ret2
  exact ⟨rfl, hb4⟩

/-- the children of p -/
def kidsUpto (K S : Int) (xs ys : List Int) (p q : Nat) : List (Int × Int) := (List.range q).map fun i => (atN K S ys (offN K S xs p + i), ((offN K S xs p + i : Nat) : Int))
def kids (K S : Int) (xs ys : List Int) (p : Nat) : List (Int × Int) := kidsUpto K S xs ys p (offN K S xs (p + 1) - offN K S xs p)
theorem kidsUpto_length (K S : Int) (xs ys : List Int) (p q : Nat) : (kidsUpto K S xs ys p q).length = q := by simp [kidsUpto]
theorem kidsUpto_succ (K S : Int) (xs ys : List Int) (p q : Nat) : kidsUpto K S xs ys p (q + 1) = kidsUpto K S xs ys p q ++ [(atN K S ys (offN K S xs p + q), ((offN K S xs p + q : Nat) : Int))] := by simp [kidsUpto, List.range_succ]
theorem kids_length (K S : Int) (xs ys : List Int) (p : Nat) : (kids K S xs ys p).length = offN K S xs (p + 1) - offN K S xs p := kidsUpto_length _ _ _ _ _ _
theorem kids_at {K S : Int} {xs ys : List Int} {p i : Nat} (hi : i < offN K S xs (p + 1) - offN K S xs p) : (kids K S xs ys p)[i]? = some (atN K S ys (offN K S xs p + i), ((offN K S xs p + i : Nat) : Int)) := by
  unfold kids kidsUpto
  rw [List.getElem?_map, List.getElem?_range hi]; rfl

end Go.Proofs.Ytfimnmdcbnfhfaa
/- Specs: how a form's levels read. -/
namespace Go.Proofs.Ytfimnmdcbnfhfaa
open Go.RowKit

/-- a level of a form: its kind, its mode, a block's size -/
structure Sp where
  k : Int
  m : Int
  s : Int
def Sp.val (t : Sp) : Value := .agg #[.int .i64 t.k, .int .i64 t.m, .int .i64 t.s]
def Sp.ok (t : Sp) : Prop := -9223372036854775808 ≤ t.k ∧ t.k ≤ 9223372036854775807 ∧ -9223372036854775808 ≤ t.m ∧ t.m ≤ 9223372036854775807 ∧ -9223372036854775808 ≤ t.s ∧ t.s ≤ 9223372036854775807
/-- the header (A, n) leads to the specs fs, in blocks below B -/
def Specs (w : World) (B : Nat) (A : Option Addr) (n : Nat) (fs : List Sp) : Prop :=
  fs.length = n ∧ (∀ x ∈ fs, x.ok) ∧
  (0 < n → ∃ b off, A = some ⟨b, off, none⟩ ∧ b < B ∧ ∀ (k : Nat) (x : Sp), fs[k]? = some x → w.cell? ⟨b, off + k * 3, none⟩ = some (.int .i64 x.k) ∧ w.cell? ⟨b, off + k * 3 + 1, none⟩ = some (.int .i64 x.m) ∧ w.cell? ⟨b, off + k * 3 + 2, none⟩ = some (.int .i64 x.s))
section
variable {w w' : World} {B B' n : Nat} {A : Option Addr} {fs : List Sp}
theorem Specs.nil_ : Specs w B A 0 [] := ⟨rfl, by simp, fun h => absurd h (by omega)⟩
theorem Specs.keep (h : Specs w B A n fs) (hk : ∀ p : Addr, p.block < B → w'.cell? p = w.cell? p) : Specs w' B A n fs := by
  obtain ⟨hl, hb, hc⟩ := h
  refine ⟨hl, hb, fun hn => ?_⟩
  obtain ⟨b, off, e, hB, hx⟩ := hc hn
  exact ⟨b, off, e, hB, fun k x hx' => ⟨(hk _ hB).trans (hx k x hx').1, (hk _ hB).trans (hx k x hx').2.1, (hk _ hB).trans (hx k x hx').2.2⟩⟩
theorem Specs.more (h : Specs w B A n fs) (hB : B ≤ B') : Specs w B' A n fs := by
  obtain ⟨hl, hb, hc⟩ := h
  refine ⟨hl, hb, fun hn => ?_⟩
  obtain ⟨b, off, e, hB', hx⟩ := hc hn
  exact ⟨b, off, e, by omega, hx⟩
theorem Specs.on (h : Specs w B A n fs) (hb : Below B' w w') (hB : B ≤ B') : Specs w' B A n fs := h.keep fun _ hp => hb.cell (Nat.lt_of_lt_of_le hp hB)
theorem Specs.drewN (h : Specs w B A n fs) (k : Nat) : Specs (w.drewN k) B A n fs := h
theorem Specs.at_ {k : Nat} (h : Specs w B A n fs) (hk : k < n) :
    ∃ b off x, A = some ⟨b, off, none⟩ ∧ b < B ∧ Hid (fs[k]? = some x) ∧ w.cell? ⟨b, off + k * 3, none⟩ = some (.int .i64 x.k) ∧ w.cell? ⟨b, off + k * 3 + 1, none⟩ = some (.int .i64 x.m) ∧ w.cell? ⟨b, off + k * 3 + 2, none⟩ = some (.int .i64 x.s) ∧ x.ok := by
  obtain ⟨hl, hb, hc⟩ := h
  obtain ⟨b, off, rfl, hB, hx⟩ := hc (by omega)
  have hk' : k < fs.length := by omega
  have hm := hb _ (List.getElem_mem hk')
  have hx' := hx k _ (List.getElem?_eq_getElem hk')
  exact ⟨b, off, fs[k], rfl, hB, List.getElem?_eq_getElem hk', hx'.1, hx'.2.1, hx'.2.2, hm⟩
/-- the first ones of a form -/
theorem Specs.take (h : Specs w B A n fs) {k : Nat} (hk : k ≤ n) : Specs w B A k (fs.take k) := by
  obtain ⟨hl, hb, hc⟩ := h
  refine ⟨by rw [List.length_take]; omega, fun x hx => hb x (List.mem_of_mem_take hx), fun h0 => ?_⟩
  obtain ⟨b, off, e, hB, hx⟩ := hc (by omega)
  exact ⟨b, off, e, hB, fun j x hj => hx j x (by
    rw [List.getElem?_take] at hj
    split at hj
    · exact hj
    · cases hj)⟩
end
/-- a level of that kind may stand behind those -/
def goesB (fs : List Sp) (k : Int) : Bool :=
  match fs.getLast? with
  | some x => if x.k = 2 ∨ x.k = 3 then decide (k = 3) else decide (k = 0 ∨ k = 1 ∨ k = 2 ∨ k = 4)
  | none => decide (k = 0 ∨ k = 1 ∨ k = 2 ∨ k = 4)
/-- how many levels of a mode there are -/
def cntS (fs : List Sp) (m : Int) : Nat := fs.countP fun x => x.m == m
/-- a level may stand behind those of a form -/
def stepOK (xs : List Int) (fs : List Sp) (s : Sp) : Prop :=
  0 ≤ s.m ∧ s.m < xs.length ∧ goesB fs s.k = true ∧ ((cntS fs s.m = 0 ∧ s.k ≠ 4 ∧ s.s = 0) ∨ (cntS fs s.m = 1 ∧ s.k = 4 ∧ 1 ≤ s.s ∧ Int.tmod (xs.getD s.m.toNat 0) s.s = 0))
/-- a form is one of a shape -/
def formOK (xs : List Int) (fs : List Sp) : Prop := (∀ i s, fs[i]? = some s → stepOK xs (fs.take i) s) ∧ ∀ m : Nat, m < xs.length → cntS fs m ≠ 0
end Go.Proofs.Ytfimnmdcbnfhfaa
/- Slices of levels: how they read. -/
namespace Go.Proofs.Ytfimnmdcbnfhfaa
open Go.RowKit

/-- a level: its kind, its size, and its two lists -/
structure Lv where
  k : Int
  s : Int
  A : Option Addr
  n : Nat
  c : Nat
  B : Option Addr
  m : Nat
  e : Nat
  xs : List Int
  ys : List Int
/-- the level's lists read, in blocks below B -/
structure Lv.In (w : World) (B : Nat) (l : Lv) : Prop where
  k0 : -9223372036854775808 ≤ l.k ∧ l.k ≤ 9223372036854775807
  s0 : -9223372036854775808 ≤ l.s ∧ l.s ≤ 9223372036854775807
  pos : Ints w B l.A l.n l.xs
  crd : Ints w B l.B l.m l.ys
  n1 : l.n ≤ 140737488355328
  m1 : l.m ≤ 140737488355328
  nc : l.n ≤ l.c
  me : l.m ≤ l.e
/-- the header (A, n) leads to the levels ls, in blocks below B -/
def Lvs (w : World) (B : Nat) (A : Option Addr) (n : Nat) (ls : List Lv) : Prop :=
  ls.length = n ∧ (∀ x ∈ ls, x.In w B) ∧
  (0 < n → ∃ b off, A = some ⟨b, off, none⟩ ∧ b < B ∧ ∀ (k : Nat) (x : Lv), ls[k]? = some x → w.cell? ⟨b, off + k * 4, none⟩ = some (.int .i64 x.k) ∧ w.cell? ⟨b, off + k * 4 + 1, none⟩ = some (.int .i64 x.s) ∧ w.cell? ⟨b, off + k * 4 + 2, none⟩ = some (.slice x.A x.n x.c) ∧ w.cell? ⟨b, off + k * 4 + 3, none⟩ = some (.slice x.B x.m x.e))
section
variable {w w' : World} {B B' n : Nat} {A : Option Addr} {ls : List Lv}
theorem Lv.In.keep {l : Lv} (h : l.In w B) (hk : ∀ p : Addr, p.block < B → w'.cell? p = w.cell? p) : l.In w' B :=
  ⟨h.k0, h.s0, h.pos.keep hk, h.crd.keep hk, h.n1, h.m1, h.nc, h.me⟩
theorem Lv.In.more {l : Lv} (h : l.In w B) (hB : B ≤ B') : l.In w B' := ⟨h.k0, h.s0, h.pos.more hB, h.crd.more hB, h.n1, h.m1, h.nc, h.me⟩
theorem Lv.In.below {l : Lv} (h : l.In w B) (hb : Below B w w') : l.In w' B := h.keep fun _ hp => hb.cell hp
theorem Lv.In.lvI {l : Lv} (h : l.In w w.heap.size) : LvI w l.A l.n l.B l.m l.xs l.ys := ⟨h.pos, h.crd, by have := h.n1; omega, by have := h.m1; omega⟩
theorem Lvs.nil_ : Lvs w B A 0 [] := ⟨rfl, by simp, fun h => absurd h (by omega)⟩
theorem Lvs.keep (h : Lvs w B A n ls) (hk : ∀ p : Addr, p.block < B → w'.cell? p = w.cell? p) : Lvs w' B A n ls := by
  obtain ⟨hl, hb, hc⟩ := h
  refine ⟨hl, fun x hx => (hb x hx).keep hk, fun hn => ?_⟩
  obtain ⟨b, off, e, hB, hx⟩ := hc hn
  exact ⟨b, off, e, hB, fun k x hx' => ⟨(hk _ hB).trans (hx k x hx').1, (hk _ hB).trans (hx k x hx').2.1, (hk _ hB).trans (hx k x hx').2.2.1, (hk _ hB).trans (hx k x hx').2.2.2⟩⟩
theorem Lvs.more (h : Lvs w B A n ls) (hB : B ≤ B') : Lvs w B' A n ls := by
  obtain ⟨hl, hb, hc⟩ := h
  refine ⟨hl, fun x hx => (hb x hx).more hB, fun hn => ?_⟩
  obtain ⟨b, off, e, hB', hx⟩ := hc hn
  exact ⟨b, off, e, by omega, hx⟩
theorem Lvs.below (h : Lvs w B A n ls) (hb : Below B w w') : Lvs w' B A n ls := h.keep fun _ hp => hb.cell hp
theorem Lvs.on (h : Lvs w B A n ls) (hb : Below B' w w') (hB : B ≤ B') : Lvs w' B A n ls := h.keep fun _ hp => hb.cell (Nat.lt_of_lt_of_le hp hB)
theorem Lvs.at_ {k : Nat} (h : Lvs w B A n ls) (hk : k < n) :
    ∃ b off x, A = some ⟨b, off, none⟩ ∧ b < B ∧ Hid (ls[k]? = some x) ∧ w.cell? ⟨b, off + k * 4, none⟩ = some (.int .i64 x.k) ∧ w.cell? ⟨b, off + k * 4 + 1, none⟩ = some (.int .i64 x.s) ∧ w.cell? ⟨b, off + k * 4 + 2, none⟩ = some (.slice x.A x.n x.c) ∧ w.cell? ⟨b, off + k * 4 + 3, none⟩ = some (.slice x.B x.m x.e) ∧ x.In w B := by
  obtain ⟨hl, hb, hc⟩ := h
  obtain ⟨b, off, rfl, hB, hx⟩ := hc (by omega)
  have hk' : k < ls.length := by omega
  have hm := hb _ (List.getElem_mem hk')
  have hx' := hx k _ (List.getElem?_eq_getElem hk')
  exact ⟨b, off, ls[k], rfl, hB, List.getElem?_eq_getElem hk', hx'.1, hx'.2.1, hx'.2.2.1, hx'.2.2.2, hm⟩
theorem Lvs.drop_ {k c : Nat} (h : Lvs w B A n ls) (hk : k ≤ n) (hc : n ≤ c) : Lvs w B (if c = k then A else A.map (·.add (k * 4))) (n - k) (ls.drop k) := by
  obtain ⟨hl, hb, hcc⟩ := h
  refine ⟨by rw [List.length_drop]; omega, fun x hx => hb x (List.mem_of_mem_drop hx), fun h0 => ?_⟩
  obtain ⟨b, off, rfl, hB, hx⟩ := hcc (by omega)
  rw [if_neg (by omega)]
  refine ⟨b, off + k * 4, ?_, hB, fun j x hj => ?_⟩
  · by_cases hk0 : k = 0
    · subst hk0; simp [Addr.add]
    · have h2 : ¬ k * 4 = 0 := by omega
      simp [Addr.add, h2]
  · rw [List.getElem?_drop] at hj
    have := hx (k + j) x hj
    rw [show off + k * 4 + j * 4 = off + (k + j) * 4 by omega]
    exact this
end
end Go.Proofs.Ytfimnmdcbnfhfaa
/- store.goesBehind: whether a level of a kind may stand behind those of a form. -/
namespace Go.Proofs.Ytfimnmdcbnfhfaa
open Go.RowKit

theorem ret_bool {a b : Bool} (h : a = b) : Ending.returned (.bool a) = .returned (.bool b) := by rw [h]
set_option maxRecDepth 100000 in
set_option maxHeartbeats 4000000 in
theorem goes_any (A : Option Addr) (n c : Nat) (fs : List Sp) (k : Int) (w : World) (B : Nat) (h : Specs w B A n fs) (hn : n ≤ 9223372036854775806) : Calls Try.prog 72 #[.slice A n c, .int .i64 k] w fun e w' => e = .returned (.bool (goesB fs k)) ∧ w = w' := by
  rcases Nat.eq_zero_or_pos n with rfl | h0
  · have HG : Hid (goesB fs k = decide (k = 0 ∨ k = 1 ∨ k = 2 ∨ k = 4)) := by
      rw [List.eq_nil_of_length_eq_zero h.1]
      rfl
    clear h
    go_enter Try.func72, Try.ntmps72
    go_wp2
    all_goals
      go_ret
      refine ⟨ret_bool ?_, rfl⟩
      rw [HG.out]
      first | (simp_all; done) | (simp_all; rfl)
  · obtain ⟨q, rfl⟩ : ∃ q, n = q + 1 := ⟨n - 1, by omega⟩
    obtain ⟨b, off, x, rfl, _, HX, c0, _, _, _⟩ := h.at_ (k := q) (by omega)
    have HG : Hid (goesB fs k = if x.k = 2 ∨ x.k = 3 then decide (k = 3) else decide (k = 0 ∨ k = 1 ∨ k = 2 ∨ k = 4)) := by
      have : fs.getLast? = some x := by rw [List.getLast?_eq_getElem?, h.1]; exact HX.out
      unfold Hid goesB
      rw [this]
    clear h h0
    go_enter Try.func72, Try.ntmps72
    go_wp2
    all_goals
      go_ret
      refine ⟨ret_bool ?_, rfl⟩
      rw [HG.out]
      first | (simp_all; done) | (simp_all; rfl)
end Go.Proofs.Ytfimnmdcbnfhfaa
