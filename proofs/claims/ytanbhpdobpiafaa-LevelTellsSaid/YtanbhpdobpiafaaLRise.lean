/- The contracts of level.Check's function, of slices.IndexFunc and ContainsFunc asked by it, and of level's rises. -/
import Derived.Test.YtanbhpdobpiafaaLTold
namespace Go.Proofs.Ytanbhpdobpiafaa
open Go.RowKit

def outB (S y : Int) : Bool := !(decide (0 ≤ y) && decide (y < S))
set_option maxRecDepth 100000 in
theorem check1_any (K S : Int) (A B : Option Addr) (n c m e g : Nat) (y : Int) (w : World) (hg : w.heap[g]? = some (lvO K S A n c B m e)) :
    Calls Try.prog 42 #[.int .i64 y, .pointer (some ⟨g, 0, none⟩)] w fun x w' => x = .returned (.bool (outB S y)) ∧ Below w.heap.size w w' := by
  have HC := fun W => lvInside_any K S A B n c m e y W
  obtain ⟨k0, k1, k2, k3, _⟩ := lvCells hg
  unfold outB
  obtain ⟨b, hb⟩ : ∃ b, (decide (0 ≤ y) && decide (y < S)) = b := ⟨_, rfl⟩
  rw [hb] at HC ⊢
  clear hb hg
  go_enter Try.func42, Try.ntmps42
  go_wp2_with (go_at_call 34; refine (HC _).mono ?_; rintro x w1 ⟨rfl, hb1⟩)
  go_ret
  exact ⟨rfl, hb1⟩

set_option maxRecDepth 100000 in
theorem indexOut_any (K S : Int) (A B : Option Addr) (n c m e g : Nat) (A2 : Option Addr) (n2 c2 : Nat) (zs : List Int) (w : World) (hg : w.heap[g]? = some (lvO K S A n c B m e)) (h : Ints w w.heap.size A2 n2 zs) (hn : n2 ≤ 100000) :
    Calls Try.prog 52 #[.slice A2 n2 c2, .func (.func 42) #[] #[.pointer (some ⟨g, 0, none⟩)]] w fun x w' => ∃ r : Int, x = .returned (.int .i64 r) ∧ decide (0 ≤ r) = zs.any (outB S) ∧ Below w.heap.size w w' := by
  have HL : Hid (zs.length = n2) := h.1
  go_enter Try.func52, Try.ntmps52
  go_wp2
  go_loopw [8] (fun i wr => ∃ k : Nat, k ≤ n2 ∧ i = .int .i64 k ∧ Hid ((zs.take k).any (outB S) = false) ∧ Below w.heap.size w wr) (fun i _ => n2 - (intOf i).toNat)
  case atStart => exact ⟨0, Nat.zero_le _, rfl, by unfold Hid; simp, Below.refl _ _⟩
  case round =>
    obtain ⟨k, hk, rfl, HK, hb⟩ := hrel
    by_cases hlt : k < n2
    · obtain ⟨b, off, y, rfl, _, HX, hc, hx1, hx2⟩ := (h.below hb).at_ hlt
      have HC := check1_any K S A B n c m e g y wr (oKeep hb hg)
      by_cases ho : outB S y = true
      · rw [ho] at HC
        have HF : Hid (zs.any (outB S) = true) := any_hit HX.out ho
        clear ho
        go_wp2_with (go_at_call 42; refine HC.mono ?_; rintro x w1 ⟨rfl, hb1⟩; have hb2 := hb.trans (hb1.mono hb.size))
        go_ret
        exact ⟨k, rfl, by rw [HF.out]; simp, hb2⟩
      · have ho' : outB S y = false := by simpa using ho
        rw [ho'] at HC
        have HN : Hid ((zs.take (k + 1)).any (outB S) = false) := any_miss HK.out HX.out ho'
        clear ho ho'
        go_wp2_with (go_at_call 42; refine HC.mono ?_; rintro x w1 ⟨rfl, hb1⟩; have hb2 := hb.trans (hb1.mono hb.size))
        go_roundw
        case rel => exact ⟨k + 1, by omega, by go_num, HN, hb2⟩
        case measure => simp [intOf]; omega
    · have HF : Hid (zs.any (outB S) = false) := any_all HK.out HL.out (by omega)
      go_wp2
      go_ret
      exact ⟨-1, rfl, by rw [HF.out]; rfl, hb⟩

set_option maxRecDepth 100000 in
theorem containsOut_any (K S : Int) (A B : Option Addr) (n c m e g : Nat) (A2 : Option Addr) (n2 c2 : Nat) (zs : List Int) (w : World) (hg : w.heap[g]? = some (lvO K S A n c B m e)) (h : Ints w w.heap.size A2 n2 zs) (hn : n2 ≤ 100000) :
    Calls Try.prog 41 #[.slice A2 n2 c2, .func (.func 42) #[] #[.pointer (some ⟨g, 0, none⟩)]] w fun x w' => x = .returned (.bool (!(pB (InsP S zs)))) ∧ Below w.heap.size w w' := by
  have HC := indexOut_any K S A B n c m e g A2 n2 c2 zs w hg h hn
  have HQ : Hid (zs.any (outB S) = !(pB (InsP S zs))) := by
    unfold Hid
    cases hh : zs.any (outB S) with
    | true =>
      obtain ⟨y, hy, ho⟩ := List.any_eq_true.1 hh
      rw [pB_f (fun hi : InsP S zs => by have := hi y hy; unfold outB at ho; simp at ho; omega)]; rfl
    | false =>
      rw [List.any_eq_false] at hh
      rw [pB_t (P := InsP S zs) (fun y hy => by have := hh y hy; unfold outB at this; simp at this; omega)]; rfl
  go_enter Try.func41, Try.ntmps41
  go_wp2_with (go_at_call 52; refine HC.mono ?_; rintro x w1 ⟨r, rfl, hr, hb1⟩; have HR := Lib.hid hr; clear hr)
  go_ret
  exact ⟨ret_of (by rw [← HQ.out, ← HR.out]; rfl), hb1⟩

set_option maxRecDepth 100000 in
set_option maxHeartbeats 4000000 in
theorem rises_1 (S : Int) (A B : Option Addr) (n c m e a : Nat) (xs ys : List Int) (w : World) (h : Ints w w.heap.size A n xs) (hv : Ints w w.heap.size B m ys) (hm : m ≤ 65536) (ha : a ≤ 1048576) (hT : ToldP 1 xs ys a) (hI : InsP S ys) (hS : S ≤ 2147483648) :
    Calls Try.prog 43 #[lvV 1 S A n c B m e, .int .i64 a] w fun x w' => x = .returned (.bool (pB (RiseP 1 xs ys a))) ∧ Below w.heap.size w w' := by
  have hK : (1 : Int) = 1 ∨ (1 : Int) = 2 := by omega
  obtain ⟨hx1, hx2, hx3, hx4⟩ := (told_pos hK xs ys a).1 hT
  have HLm : Hid (ys.length = m) := hv.1
  have HLn : Hid (xs.length = n) := h.1
  have hn : n ≤ 1048577 := by rw [← h.1, hx1]; omega
  have HX : Hid (∀ p, p < a → ∃ x z : Nat, xs[p]? = some (x : Int) ∧ xs[p + 1]? = some (z : Int) ∧ x ≤ m ∧ z ≤ m) := by
    intro p hp
    have u1 := List.getElem?_eq_getElem (l := xs) (i := p) (by omega)
    have u2 := List.getElem?_eq_getElem (l := xs) (i := p + 1) (by omega)
    have l1 := sortP_le hx4 (Nat.zero_le _) hx2 u1
    have l2 := sortP_le hx4 (Nat.zero_le _) hx2 u2
    have r1 := sortP_le hx4 (by omega) u1 hx3
    have r2 := sortP_le hx4 (by omega) u2 hx3
    rw [hv.1] at r1 r2
    refine ⟨(xs[p]'(by omega)).toNat, (xs[p + 1]'(by omega)).toNat, ?_, ?_, by omega, by omega⟩
    · rw [u1]; congr 1; omega
    · rw [u2]; congr 1; omega
  have HY : Hid (∀ y ∈ ys, 0 ≤ y ∧ y < 2147483648) := fun y hy => by have := hI y hy; omega
  have HSP := fun (p : Nat) (x z : Int) W (hb : Below w.heap.size w W) (q1 : xs[p]? = some x) (q2 : xs[p + 1]? = some z) => span_pos 1 S hK A B n c m e p xs x z W ((h.below hb).more hb.size) hn q1 q2
  have z0 := lvBelow w (lvO 1 S A n c B m e)
  have zz := heap_alloc_new w (lvO 1 S A n c B m e)
  clear hT hI hx1 hx2 hx3 hx4 hK
  go_enter Try.func43, Try.ntmps43
  go_wp2
  go_loopw [17] (fun i wr => ∃ p : Nat, p ≤ a ∧ i = .int .i64 p ∧ Hid (∀ q, q < p → RiseAt 1 xs ys q) ∧ wr.heap[w.heap.size]? = some (lvO 1 S A n c B m e) ∧ Below w.heap.size w wr) (fun i _ => a - (intOf i).toNat)
  case atStart => exact ⟨0, Nat.zero_le _, rfl, by unfold Hid; intro q hq; omega, zz, z0⟩
  case round =>
    clear zz z0
    obtain ⟨p, hp, rfl, HR, hblk, hb⟩ := hrel
    by_cases hlt : p < a
    · obtain ⟨x, z, hxx, hzz, hxm, hzm⟩ := HX.out p hlt
      have HC := HSP p x z wr hb hxx hzz
      have HXX := Lib.hid hxx
      have HZZ := Lib.hid hzz
      clear hxx hzz HSP
      obtain ⟨k0, k1, k2, k3, _⟩ := lvCells hblk
      go_wp2_with (go_at_call 38; refine HC.mono ?_; rintro x w1 ⟨rfl, hb1⟩; replace hblk := oKeep hb1 hblk; replace hb := hb.trans (hb1.mono hb.size))
      clear hb1 HC k0 k1 k2 k3
      obtain ⟨wo, rfl⟩ : ∃ wo : World, wo = w1 := ⟨_, rfl⟩
      go_loopw [9] (fun i wr => ∃ k q : Nat, x + 1 ≤ k ∧ (k ≤ x + 1 ∨ k ≤ z) ∧ i = .int .i64 k ∧ wr = wo.drewN q ∧ Hid (∀ (j : Nat) (u v : Int), x + 1 ≤ j → j < k → ys[j - 1]? = some u → ys[j]? = some v → u + 1 ≤ v)) (fun i _ => z - (intOf i).toNat)
      case atStart => exact ⟨x + 1, 0, Nat.le_refl _, .inl (Nat.le_refl _), by go_num, rfl, by unfold Hid; intro j u v h1 h2; omega⟩
      case round =>
        obtain ⟨k, q, hk1, hk2, rfl, rfl, HJ⟩ := hrel
        obtain ⟨k0, k1, k2, k3, _⟩ := lvCells hblk
        by_cases hlt2 : k < z
        · obtain ⟨b, off, v, rfl, _, HV, hc, hv1, hv2⟩ := (hv.below hb).at_ (k := k) (by omega)
          obtain ⟨b2, off2, u, e2, _, HU, hc2, hu1, hu2⟩ := (hv.below hb).at_ (k := k - 1) (by omega)
          injection e2 with e2; injection e2 with e2 e3; subst e2; subst e3
          have hu := HY.out u (List.mem_of_getElem? HU.out)
          have e1 : IntKind.i64.wrap ((k : Int) - 1) = (k : Int) - 1 := by rw [IntWalk.i64_in _ (by omega)]
          have e2 : IntKind.i64.wrap (u + 1) = u + 1 := by rw [IntWalk.i64_in _ (by omega)]
          have g0 : (0 : Int) ≤ k := by omega
          have g1 : (k : Int) < m := by omega
          have g3 : (0 : Int) ≤ (k : Int) - 1 := by omega
          have g4 : ((k : Int) - 1).toNat = k - 1 := by omega
          have g5 : (1 : Int) ≤ k := by omega
          have g6 : (k : Int) - 1 < m := by omega
          have g7 : (k : Int) < m + 1 := by omega
          have g8 : 1 ≤ k := by omega
          have g9 : u + 1 ≤ 4294967296 := by omega
          by_cases huv : v < u + 1
          · have HF : Hid (pB (RiseP 1 xs ys a) = false) := pB_f (fun hr => by
              have := hr (by omega) p (by omega) k x z u v HXX.out HZZ.out (by omega) (by omega) HU.out HV.out
              unfold byI at this; simp at this; omega)
            have d1 : decide (v < u + 1) = true := by simpa using huv
            have d2 : decide (v ≤ u) = true := by simp; omega
            clear huv hu
            go_wp2
            go_quiet (fail)
            go_wp2
            go_ret
            exact ⟨ret_of (by rw [HF.out]; rfl), below_drewN2 (below_drewN2 hb _) _⟩
          · have HN : Hid (∀ (j : Nat) (u v : Int), x + 1 ≤ j → j < k + 1 → ys[j - 1]? = some u → ys[j]? = some v → u + 1 ≤ v) := by
              intro j u' v' h1 h2 h3 h4
              by_cases ej : j = k
              · subst ej
                rw [HU.out] at h3; rw [HV.out] at h4
                injection h3 with h3; injection h4 with h4; omega
              · exact HJ.out j u' v' h1 (by omega) h3 h4
            have d1 : decide (v < u + 1) = false := by simpa using huv
            have d2 : decide (v ≤ u) = false := by simp; omega
            clear huv hu
            go_wp2
            go_quiet (fail)
            go_wp2
            go_roundw
            case rel => exact ⟨k + 1, _, by omega, by omega, by go_num, rfl, HN⟩
            case measure => simp [intOf]; omega
        · have HN : Hid (∀ q, q < p + 1 → RiseAt 1 xs ys q) := by
            intro q' hq
            by_cases e' : q' = p
            · subst e'
              intro j x' z' u v h1 h2 h3 h4 h5 h6
              rw [HXX.out] at h1; rw [HZZ.out] at h2
              injection h1 with h1; injection h2 with h2
              have := HJ.out j u v (by omega) (by omega) h5 h6
              unfold byI; simp; omega
            · exact HR.out q' (by omega)
          go_wp2
          go_roundw
          case rel => exact ⟨p + 1, by omega, by go_num, HN, hblk, below_drewN2 hb _⟩
          case measure => simp [intOf]; omega
    · have HF : Hid (pB (RiseP 1 xs ys a) = true) := pB_t (fun _ p' hp' => HR.out p' (by omega))
      go_wp2
      go_ret
      exact ⟨ret_of (by rw [HF.out]; rfl), hb⟩

set_option maxRecDepth 100000 in
set_option maxHeartbeats 4000000 in
theorem rises_2 (S : Int) (A B : Option Addr) (n c m e a : Nat) (xs ys : List Int) (w : World) (h : Ints w w.heap.size A n xs) (hv : Ints w w.heap.size B m ys) (hm : m ≤ 65536) (ha : a ≤ 1048576) (hT : ToldP 2 xs ys a) (hI : InsP S ys) (hS : S ≤ 2147483648) :
    Calls Try.prog 43 #[lvV 2 S A n c B m e, .int .i64 a] w fun x w' => x = .returned (.bool (pB (RiseP 2 xs ys a))) ∧ Below w.heap.size w w' := by
  have hK : (2 : Int) = 1 ∨ (2 : Int) = 2 := by omega
  obtain ⟨hx1, hx2, hx3, hx4⟩ := (told_pos hK xs ys a).1 hT
  have HLm : Hid (ys.length = m) := hv.1
  have HLn : Hid (xs.length = n) := h.1
  have hn : n ≤ 1048577 := by rw [← h.1, hx1]; omega
  have HX : Hid (∀ p, p < a → ∃ x z : Nat, xs[p]? = some (x : Int) ∧ xs[p + 1]? = some (z : Int) ∧ x ≤ m ∧ z ≤ m) := by
    intro p hp
    have u1 := List.getElem?_eq_getElem (l := xs) (i := p) (by omega)
    have u2 := List.getElem?_eq_getElem (l := xs) (i := p + 1) (by omega)
    have l1 := sortP_le hx4 (Nat.zero_le _) hx2 u1
    have l2 := sortP_le hx4 (Nat.zero_le _) hx2 u2
    have r1 := sortP_le hx4 (by omega) u1 hx3
    have r2 := sortP_le hx4 (by omega) u2 hx3
    rw [hv.1] at r1 r2
    refine ⟨(xs[p]'(by omega)).toNat, (xs[p + 1]'(by omega)).toNat, ?_, ?_, by omega, by omega⟩
    · rw [u1]; congr 1; omega
    · rw [u2]; congr 1; omega
  have HY : Hid (∀ y ∈ ys, 0 ≤ y ∧ y < 2147483648) := fun y hy => by have := hI y hy; omega
  have HSP := fun (p : Nat) (x z : Int) W (hb : Below w.heap.size w W) (q1 : xs[p]? = some x) (q2 : xs[p + 1]? = some z) => span_pos 2 S hK A B n c m e p xs x z W ((h.below hb).more hb.size) hn q1 q2
  have z0 := lvBelow w (lvO 2 S A n c B m e)
  have zz := heap_alloc_new w (lvO 2 S A n c B m e)
  clear hT hI hx1 hx2 hx3 hx4 hK
  go_enter Try.func43, Try.ntmps43
  go_wp2
  go_loopw [17] (fun i wr => ∃ p : Nat, p ≤ a ∧ i = .int .i64 p ∧ Hid (∀ q, q < p → RiseAt 2 xs ys q) ∧ wr.heap[w.heap.size]? = some (lvO 2 S A n c B m e) ∧ Below w.heap.size w wr) (fun i _ => a - (intOf i).toNat)
  case atStart => exact ⟨0, Nat.zero_le _, rfl, by unfold Hid; intro q hq; omega, zz, z0⟩
  case round =>
    clear zz z0
    obtain ⟨p, hp, rfl, HR, hblk, hb⟩ := hrel
    by_cases hlt : p < a
    · obtain ⟨x, z, hxx, hzz, hxm, hzm⟩ := HX.out p hlt
      have HC := HSP p x z wr hb hxx hzz
      have HXX := Lib.hid hxx
      have HZZ := Lib.hid hzz
      clear hxx hzz HSP
      obtain ⟨k0, k1, k2, k3, _⟩ := lvCells hblk
      go_wp2_with (go_at_call 38; refine HC.mono ?_; rintro x w1 ⟨rfl, hb1⟩; replace hblk := oKeep hb1 hblk; replace hb := hb.trans (hb1.mono hb.size))
      clear hb1 HC k0 k1 k2 k3
      obtain ⟨wo, rfl⟩ : ∃ wo : World, wo = w1 := ⟨_, rfl⟩
      go_loopw [9] (fun i wr => ∃ k q : Nat, x + 1 ≤ k ∧ (k ≤ x + 1 ∨ k ≤ z) ∧ i = .int .i64 k ∧ wr = wo.drewN q ∧ Hid (∀ (j : Nat) (u v : Int), x + 1 ≤ j → j < k → ys[j - 1]? = some u → ys[j]? = some v → u + 0 ≤ v)) (fun i _ => z - (intOf i).toNat)
      case atStart => exact ⟨x + 1, 0, Nat.le_refl _, .inl (Nat.le_refl _), by go_num, rfl, by unfold Hid; intro j u v h1 h2; omega⟩
      case round =>
        obtain ⟨k, q, hk1, hk2, rfl, rfl, HJ⟩ := hrel
        obtain ⟨k0, k1, k2, k3, _⟩ := lvCells hblk
        by_cases hlt2 : k < z
        · obtain ⟨b, off, v, rfl, _, HV, hc, hv1, hv2⟩ := (hv.below hb).at_ (k := k) (by omega)
          obtain ⟨b2, off2, u, e2, _, HU, hc2, hu1, hu2⟩ := (hv.below hb).at_ (k := k - 1) (by omega)
          injection e2 with e2; injection e2 with e2 e3; subst e2; subst e3
          have hu := HY.out u (List.mem_of_getElem? HU.out)
          have e1 : IntKind.i64.wrap ((k : Int) - 1) = (k : Int) - 1 := by rw [IntWalk.i64_in _ (by omega)]
          have e2 : IntKind.i64.wrap (u + 0) = u + 0 := by rw [IntWalk.i64_in _ (by omega)]
          have g0 : (0 : Int) ≤ k := by omega
          have g1 : (k : Int) < m := by omega
          have g3 : (0 : Int) ≤ (k : Int) - 1 := by omega
          have g4 : ((k : Int) - 1).toNat = k - 1 := by omega
          have g5 : (1 : Int) ≤ k := by omega
          have g6 : (k : Int) - 1 < m := by omega
          have g7 : (k : Int) < m + 1 := by omega
          have g8 : 1 ≤ k := by omega
          have e4 : IntKind.i64.wrap u = u := by rw [IntWalk.i64_in _ (by omega)]
          by_cases huv : v < u + 0
          · have HF : Hid (pB (RiseP 2 xs ys a) = false) := pB_f (fun hr => by
              have := hr (by omega) p (by omega) k x z u v HXX.out HZZ.out (by omega) (by omega) HU.out HV.out
              unfold byI at this; simp at this; omega)
            have d1 : decide (v < u + 0) = true := by simpa using huv
            have d2 : decide (v < u) = true := by simp; omega
            clear huv hu
            go_wp2
            go_quiet (fail)
            go_wp2
            go_ret
            exact ⟨ret_of (by rw [HF.out]; rfl), below_drewN2 (below_drewN2 hb _) _⟩
          · have HN : Hid (∀ (j : Nat) (u v : Int), x + 1 ≤ j → j < k + 1 → ys[j - 1]? = some u → ys[j]? = some v → u + 0 ≤ v) := by
              intro j u' v' h1 h2 h3 h4
              by_cases ej : j = k
              · subst ej
                rw [HU.out] at h3; rw [HV.out] at h4
                injection h3 with h3; injection h4 with h4; omega
              · exact HJ.out j u' v' h1 (by omega) h3 h4
            have d1 : decide (v < u + 0) = false := by simpa using huv
            have d2 : decide (v < u) = false := by simp; omega
            clear huv hu
            go_wp2
            go_quiet (fail)
            go_wp2
            go_roundw
            case rel => exact ⟨k + 1, _, by omega, by omega, by go_num, rfl, HN⟩
            case measure => simp [intOf]; omega
        · have HN : Hid (∀ q, q < p + 1 → RiseAt 2 xs ys q) := by
            intro q' hq
            by_cases e' : q' = p
            · subst e'
              intro j x' z' u v h1 h2 h3 h4 h5 h6
              rw [HXX.out] at h1; rw [HZZ.out] at h2
              injection h1 with h1; injection h2 with h2
              have := HJ.out j u v (by omega) (by omega) h5 h6
              unfold byI; simp; omega
            · exact HR.out q' (by omega)
          go_wp2
          go_roundw
          case rel => exact ⟨p + 1, by omega, by go_num, HN, hblk, below_drewN2 hb _⟩
          case measure => simp [intOf]; omega
    · have HF : Hid (pB (RiseP 2 xs ys a) = true) := pB_t (fun _ p' hp' => HR.out p' (by omega))
      go_wp2
      go_ret
      exact ⟨ret_of (by rw [HF.out]; rfl), hb⟩


set_option maxRecDepth 100000 in
theorem rises_any (K S : Int) (A B : Option Addr) (n c m e a : Nat) (xs ys : List Int) (w : World) (h : Ints w w.heap.size A n xs) (hv : Ints w w.heap.size B m ys) (hm : m ≤ 65536) (ha : a ≤ 1048576) (hT : ToldP K xs ys a) (hI : InsP S ys) (hS : S ≤ 2147483648) :
    Calls Try.prog 43 #[lvV K S A n c B m e, .int .i64 a] w fun x w' => x = .returned (.bool (pB (RiseP K xs ys a))) ∧ Below w.heap.size w w' := by
  by_cases h1 : K = 1
  · subst h1; exact rises_1 S A B n c m e a xs ys w h hv hm ha hT hI hS
  by_cases h2 : K = 2
  · subst h2; exact rises_2 S A B n c m e a xs ys w h hv hm ha hT hI hS
  have HF : Hid (pB (RiseP K xs ys a) = true) := pB_t (fun e => by omega)
  have k1 : (K == 1) = false := by simp; omega
  have k2 : (K == 2) = false := by simp; omega
  have z0 := lvBelow w (lvO K S A n c B m e)
  clear h1 h2 hT hI
  go_enter Try.func43, Try.ntmps43
  go_wp2
  go_ret
  exact ⟨ret_of (by rw [HF.out]; rfl), z0⟩
end Go.Proofs.Ytanbhpdobpiafaa
