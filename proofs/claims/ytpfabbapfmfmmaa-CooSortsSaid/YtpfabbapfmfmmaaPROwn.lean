/- The document's own and Copy of layer 2. -/
import Derived.Test.YtpfabbapfmfmmaaPRSrt
import Derived.Test.YtpfabbapfmfmmaaG4
import Derived.Deep.RegionLaw
namespace Go.Proofs.Ytpfabbapfmfmmaa
open Go.RowKit

set_option maxRecDepth 100000 in
set_option maxHeartbeats 2000000 in
theorem refOwn_any (A : Option Addr) (n c : Nat) (cs : List Int) (v : Int) (w : World) (h : Ints w w.heap.size A n cs) (hn : n ≤ 100000) :
    Calls Try.prog 42 #[.agg #[.slice A n c, .int .i64 v]] w fun x w' => ∃ A1 c1, x = .returned (.agg #[.slice A1 n c1, .int .i64 v]) ∧ OwnI w' w.heap.size 3 A1 c1 cs ∧ Below w.heap.size w w' := by
  obtain ⟨i0, hi0, hz0, hz1, hz2⟩ := info_parts infoInt
  have z0 := (Below.refl w.heap.size w).alloc (Nat.le_refl _) (.cells #[.slice A n c, .int .i64 v] 37)
  have z1 := z0.alloc z0.size (.cells #[.slice none 0 0, .int .i64 0] 37)
  have b1 := zf_two w (.cells #[.slice A n c, .int .i64 v] 37) (.cells #[.slice none 0 0, .int .i64 0] 37)
  have b2 := zf_snd w (.cells #[.slice none 0 0, .int .i64 0] 37) (.cells #[.slice A n c, .int .i64 v] 37)
  have hi := h.below z1
  have hs0 : ((w.alloc (.cells #[.slice A n c, .int .i64 v] 37)).alloc (.cells #[.slice none 0 0, .int .i64 0] 37)).heap.size = w.heap.size + 2 := by simp
  obtain ⟨W0, hW0⟩ : ∃ W0, (w.alloc (.cells #[.slice A n c, .int .i64 v] 37)).alloc (.cells #[.slice none 0 0, .int .i64 0] 37) = W0 := ⟨_, rfl⟩
  rw [hW0] at z1 b1 b2 hi hs0
  have HW0 := Lib.hid hW0
  have B2 := Lib.hid b2
  obtain ⟨k0, k1, _, _⟩ := pair_cells b1
  obtain ⟨r0, r1, rf0, rf1⟩ := pair_cells b2
  have hbd : n ≤ 1000000 := by omega
  have hI1 : Ints W0.drew w.heap.size A n cs := hi
  have hlt1 : w.heap.size + 1 < W0.drew.heap.size := lt_of_heap b2
  have hlt0 : w.heap.size < W0.drew.heap.size := lt_of_heap b1
  have hle : w.heap.size ≤ W0.heap.size := z1.size
  have Z1 := Lib.hid z1
  clear hW0 hi z0 b1 b2 hn h z1
  go_enter Try.func42, Try.ntmps42
  go_upto_region 1 with fail
  rw [HW0.out]
  go_region_law (refine step_appendInts rfl (.const (.slice none 0 0)) (.tmp 4) 22 rfl W0.heap.size 3 i0 Try.underlying22 hi0 hz0 hz1 hz2 none A 0 n c w.heap.size 0 n [] cs rfl rfl (OwnI.nil_ _ _ _) rfl (Nat.zero_add _) hI1 hbd (Nat.le_refl _) ?_; intro A1 c1 w1 HO HG; rw [List.nil_append] at HO; have HB := below_of_none HG; have l1 := (HB.cell (p := ⟨w.heap.size, 1, none⟩) hlt0).trans k1; have q2 := (HB.block (w.heap.size + 1) hlt1).trans B2.out; obtain ⟨s0, s1, sf0, sf1⟩ := pair_cells q2)
  all_goals
    have hres := set_two w1 (w.heap.size + 1) _ _ (.slice A1 n c1) (.int .i64 v) _ q2
    obtain ⟨u0, u1, _, _⟩ := pair_cells hres.1
    have hbw : Below w.heap.size w w1 := Z1.out.trans ((below_dN (Below.refl W0.heap.size W0) 1).trans HB |>.mono hle)
    obtain ⟨wz, hwz⟩ : ∃ wz, (w1.setCell ⟨w.heap.size + 1, 0, none⟩ (.slice A1 n c1)).setCell ⟨w.heap.size + 1, 1, none⟩ (.int .i64 v) = wz := ⟨_, rfl⟩
    rw [hwz] at hres u0 u1
    go_wp2_with fail
    rw [hwz]
    refine bodyPost_ret (v := .agg #[.slice A1 n c1, .int .i64 v]) (by simp [results, Try.results42, go_sem, u0, u1]) rfl ⟨A1, c1, rfl, ?_, hbw.grown hres.2 hbw.size (fun k hk => by injection hk with hk; omega)⟩
    exact OwnI.mono (w := wz) (base := W0.heap.size) ⟨HO.1.kept hres.2 (rows_ne HO.1 q2 (by decide)), HO.2⟩ hle
end Go.Proofs.Ytpfabbapfmfmmaa
