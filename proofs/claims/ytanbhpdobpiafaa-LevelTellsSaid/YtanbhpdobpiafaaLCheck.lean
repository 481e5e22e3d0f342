/- The contract of level.Check: its error is lvF. -/
import Derived.Test.YtanbhpdobpiafaaLRise
namespace Go.Proofs.Ytanbhpdobpiafaa
open Go.RowKit

set_option maxRecDepth 100000 in
set_option maxHeartbeats 4000000 in
theorem lvCheck_any (K S a : Int) (A B : Option Addr) (n c m e : Nat) (xs ys : List Int) (w : World) (h : Ints w w.heap.size A n xs) (hn : n ≤ 9223372036854775807) (hv : Ints w w.heap.size B m ys) (hm : m ≤ 9223372036854775807) :
    Calls Try.prog 20 #[lvV K S A n c B m e, .int .i64 a] w fun x w' => x = .returned (.int .i64 (lvF K S xs ys a)) ∧ Below w.heap.size w w' := by
  have HM := fun W => may_any K S a W
  have z0 := lvBelow w (lvO K S A n c B m e)
  have zz := heap_alloc_new w (lvO K S A n c B m e)
  have HLm : Hid (ys.length = m) := hv.1
  by_cases hmay : MayP K S a
  · rw [pB_t hmay] at HM
    obtain ⟨_, _, hs0, hs1, ha0, ha1⟩ := id hmay
    obtain ⟨b, rfl⟩ : ∃ b : Nat, a = b := ⟨a.toNat, by omega⟩
    have HT := fun W (hb : Below w.heap.size w W) => told_any K S A B n c m e b xs ys W ((h.below hb).more hb.size) hn hm hv.1 (by omega)
    by_cases htold : ToldP K xs ys b
    · rw [pB_t htold] at HT
      have HY := fun W => many_any K S b A B n c m e ys W hv.1 hm ha0 ha1 hs0 hs1
      obtain ⟨M, hM⟩ : ∃ M, manyF K S ys b = M := ⟨_, rfl⟩
      rw [hM] at HY
      by_cases hlarge : 65536 < m ∨ 1048576 < M
      · have HF : Hid (lvF K S xs ys b = 2) := by
          unfold Hid lvF; rw [if_pos (pB_t ⟨hmay, htold⟩), if_pos (by rw [hM, hv.1]; exact hlarge)]
        clear hmay htold
        by_cases hm1 : 65536 < m
        · have d1 : decide (65536 < (m : Int)) = true := by simp; omega
          clear hlarge hm1 hM
          go_enter Try.func20, Try.ntmps20
          go_wp2_with (first | (go_at_call 39; refine (HM _).mono ?_; rintro x w1 ⟨rfl, rfl⟩) | (go_at_call 40; refine (HT _ z0).mono ?_; rintro x w1 ⟨rfl, hb1⟩; have hb2 := z0.trans (hb1.mono z0.size); have hk2 := oKeep hb1 zz; obtain ⟨k0, k1, k2, k3, _⟩ := lvCells hk2))
          go_ret
          exact ⟨ret_of (by rw [HF.out]; rfl), hb2⟩
        · have d1 : decide (65536 < (m : Int)) = false := by simp; omega
          have d2 : decide (1048576 < M) = true := by simp; omega
          clear hlarge hm1 hM
          go_enter Try.func20, Try.ntmps20
          go_wp2_with (first | (go_at_call 39; refine (HM _).mono ?_; rintro x w1 ⟨rfl, rfl⟩) | (go_at_call 40; refine (HT _ z0).mono ?_; rintro x w1 ⟨rfl, hb1⟩; have hb2 := z0.trans (hb1.mono z0.size); have hk2 := oKeep hb1 zz; obtain ⟨k0, k1, k2, k3, _⟩ := lvCells hk2) | (go_at_call 29; refine (HY _).mono ?_; rintro x w3 ⟨rfl, hb3⟩; have hb4 := hb2.trans (hb3.mono hb2.size); have hk4 := oKeep hb3 hk2))
          go_ret
          exact ⟨ret_of (by rw [HF.out]; rfl), hb4⟩
      · have d1 : decide (65536 < (m : Int)) = false := by simp; omega
        have d2 : decide (1048576 < M) = false := by simp; omega
        have hm1 : m ≤ 65536 := by omega
        have HI := fun W (hb : Below w.heap.size w W) (hg : W.heap[w.heap.size]? = some (lvO K S A n c B m e)) => containsOut_any K S A B n c m e w.heap.size B m e ys W hg ((hv.below hb).more hb.size) (by omega)
        by_cases hins : InsP S ys
        · rw [pB_t hins] at HI
          have HR := fun W (hb : Below w.heap.size w W) => rises_any K S A B n c m e b xs ys W ((h.below hb).more hb.size) ((hv.below hb).more hb.size) hm1 (by omega) htold hins hs1
          have HF : Hid (lvF K S xs ys b = if pB (RiseP K xs ys b) = true then 0 else 1) := by
            unfold Hid lvF; rw [if_pos (pB_t ⟨hmay, htold⟩), if_neg (by rw [hM, hv.1]; exact hlarge), if_pos (pB_t hins)]
          obtain ⟨r, hr⟩ : ∃ r, pB (RiseP K xs ys b) = r := ⟨_, rfl⟩
          rw [hr] at HF HR
          clear hmay htold hlarge hM hins hr
          cases r
          all_goals
            go_enter Try.func20, Try.ntmps20
            go_wp2_with (first | (go_at_call 39; refine (HM _).mono ?_; rintro x w1 ⟨rfl, rfl⟩) | (go_at_call 40; refine (HT _ z0).mono ?_; rintro x w1 ⟨rfl, hb1⟩; have hb2 := z0.trans (hb1.mono z0.size); have hk2 := oKeep hb1 zz; obtain ⟨k0, k1, k2, k3, _⟩ := lvCells hk2) | (go_at_call 29; refine (HY _).mono ?_; rintro x w3 ⟨rfl, hb3⟩; have hb4 := hb2.trans (hb3.mono hb2.size); have hk4 := oKeep hb3 hk2; obtain ⟨l0, l1, l2, l3, _⟩ := lvCells hk4) | (go_at_call 41; refine (HI _ hb4 hk4).mono ?_; rintro x w5 ⟨rfl, hb5⟩; have hb6 := hb4.trans (hb5.mono hb4.size); have hk6 := oKeep hb5 hk4; obtain ⟨p0, p1, p2, p3, _⟩ := lvCells hk6) | (go_at_call 43; refine (HR _ hb6).mono ?_; rintro x w7 ⟨rfl, hb7⟩; have hb8 := hb6.trans (hb7.mono hb6.size)))
            go_ret
            exact ⟨ret_of (by rw [HF.out]; rfl), hb8⟩
        · rw [pB_f hins] at HI
          have HF : Hid (lvF K S xs ys b = 3) := by
            unfold Hid lvF; rw [if_pos (pB_t ⟨hmay, htold⟩), if_neg (by rw [hM, hv.1]; exact hlarge), if_neg (by rw [pB_f hins]; decide)]
          clear hmay htold hlarge hM hins
          go_enter Try.func20, Try.ntmps20
          go_wp2_with (first | (go_at_call 39; refine (HM _).mono ?_; rintro x w1 ⟨rfl, rfl⟩) | (go_at_call 40; refine (HT _ z0).mono ?_; rintro x w1 ⟨rfl, hb1⟩; have hb2 := z0.trans (hb1.mono z0.size); have hk2 := oKeep hb1 zz; obtain ⟨k0, k1, k2, k3, _⟩ := lvCells hk2) | (go_at_call 29; refine (HY _).mono ?_; rintro x w3 ⟨rfl, hb3⟩; have hb4 := hb2.trans (hb3.mono hb2.size); have hk4 := oKeep hb3 hk2; obtain ⟨l0, l1, l2, l3, _⟩ := lvCells hk4) | (go_at_call 41; refine (HI _ hb4 hk4).mono ?_; rintro x w5 ⟨rfl, hb5⟩; have hb6 := hb4.trans (hb5.mono hb4.size)))
          go_ret
          exact ⟨ret_of (by rw [HF.out]; rfl), hb6⟩
    · rw [pB_f htold] at HT
      have HF : Hid (lvF K S xs ys b = 1) := by
        unfold Hid lvF; rw [if_neg (by rw [pB_f (fun q => htold q.2)]; decide)]
      clear hmay htold
      go_enter Try.func20, Try.ntmps20
      go_wp2_with (first | (go_at_call 39; refine (HM _).mono ?_; rintro x w1 ⟨rfl, rfl⟩) | (go_at_call 40; refine (HT _ z0).mono ?_; rintro x w1 ⟨rfl, hb1⟩; have hb2 := z0.trans (hb1.mono z0.size)))
      go_ret
      exact ⟨ret_of (by rw [HF.out]; rfl), hb2⟩
  · rw [pB_f hmay] at HM
    have HF : Hid (lvF K S xs ys a = 1) := by
      unfold Hid lvF; rw [if_neg (by rw [pB_f (fun q => hmay q.1)]; decide)]
    clear hmay
    go_enter Try.func20, Try.ntmps20
    go_wp2_with (go_at_call 39; refine (HM _).mono ?_; rintro x w1 ⟨rfl, rfl⟩)
    go_ret
    exact ⟨ret_of (by rw [HF.out]; rfl), z0⟩
end Go.Proofs.Ytanbhpdobpiafaa
