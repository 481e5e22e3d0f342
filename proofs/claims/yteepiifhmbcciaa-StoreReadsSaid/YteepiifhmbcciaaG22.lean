/- purflelaw05.live returns true. -/
import Derived.Test.YteepiifhmbcciaaG21
import Derived.Outline
import Derived.Test.YteepiifhmbcciaaG16
import Derived.Test.YteepiifhmbcciaaG19
import Derived.Test.YteepiifhmbcciaaG20
import Derived.Deep.RegionLaw
import Derived.Test.YteepiifhmbcciaaG15
namespace Go.Proofs.Yteepiifhmbcciaa
open Go.RowKit

theorem some_tok (s : Nat) : Tok (someT s).xs (someT s).fs (someT s).ls := tenE_tok (some_tenE s) rfl
theorem some_par1 (s n : Nat) (hn : n < 2) : parN ⟨1, 3, some ⟨s + 1 + 1 + 1, 0, none⟩, 3, 3, some ⟨s + 1 + 1 + 1 + 1, 0, none⟩, 2, 2, [0, 1, 2], [2, 0]⟩ (ahN (someLs s) 1) n = n := by
  have hL := (some_tok s).lok (k := 1) (l := ⟨1, 3, some ⟨s + 1 + 1 + 1, 0, none⟩, 3, 3, some ⟨s + 1 + 1 + 1 + 1, 0, none⟩, 2, 2, [0, 1, 2], [2, 0]⟩) rfl
  rcases (by omega : n = 0 ∨ n = 1) with rfl | rfl
  · exact parN_eq hL (show 0 < 2 by decide) (show 0 ≤ 0 by decide) (show 0 < 1 by decide)
  · exact parN_eq hL (show 1 < 2 by decide) (show 1 ≤ 1 by decide) (show 1 < 2 by decide)
theorem some_par0 (s n : Nat) (hn : n < 2) : parN ⟨0, 2, none, 0, 0, none, 0, 0, [], []⟩ (ahN (someLs s) 0) n = 0 := by
  have hL := (some_tok s).lok (k := 0) (l := ⟨0, 2, none, 0, 0, none, 0, 0, [], []⟩) rfl
  exact parN_eq hL (show 0 < 1 by decide) (show 0 ≤ n by omega) (show n < 2 by omega)
theorem some_st0 : stAt someFs 0 = 1 := by decide +kernel
theorem some_st1 : stAt someFs 1 = 1 := by decide +kernel
theorem some_cN (s n : Nat) (hn : n < 2) : cN 2 someFs (someLs s) 2 n = if n = 0 then [0, 2] else [1, 0] := by
  rw [cN_succ (k := 1) (l := ⟨1, 3, some ⟨s + 1 + 1 + 1, 0, none⟩, 3, 3, some ⟨s + 1 + 1 + 1 + 1, 0, none⟩, 2, 2, [0, 1, 2], [2, 0]⟩) (f := ⟨1, 1, 0⟩) rfl rfl, some_par1 s n hn, cN_succ (k := 0) (l := ⟨0, 2, none, 0, 0, none, 0, 0, [], []⟩) (f := ⟨0, 0, 0⟩) rfl rfl, some_par0 s n hn, some_st0, some_st1]
  rcases (by omega : n = 0 ∨ n = 1) with rfl | rfl
  · simp only [cN]; decide
  · simp only [cN]; decide
theorem some_ent (s : Nat) : entK (someT s) 2 = [([0, 2], 5, 2), ([1, 0], 7, 2)] := by
  have h0 := some_cN s 0 (by omega)
  have h1 := some_cN s 1 (by omega)
  unfold entK
  show [_, _] = _
  exact congr (congrArg _ (Prod.ext h0 rfl)) (congrArg (fun x => [x]) (Prod.ext h1 rfl))
theorem some_den (s : Nat) : stDenV (someT s) = [0, 0, 5, 7, 0, 0] := by
  unfold stDenV
  show denseK [2, 3] (entK (someT s) 2) = _
  rw [some_ent]
  decide +kernel
theorem some_denE (s : Nat) : stDenE (someT s) = 0 := by
  unfold stDenE
  rw [if_neg (by rw [some_tenE]; simp)]
  show (laidF [2, 3]).2 = 0
  decide +kernel
theorem at_new (w : World) (o : Obj) {k : Nat} (h : w.heap.size = k) : (w.alloc o).heap[k]? = some o := by subst h; exact heap_alloc_new w o
def someW (w : World) : World := ((((((w.alloc (.cells #[.slice (some ⟨w.heap.size + 1, 0, none⟩) 2 2, .slice (some ⟨w.heap.size + 1 + 1, 0, none⟩) 2 2, .slice (some ⟨w.heap.size + 1 + 1 + 1 + 1 + 1, 0, none⟩) 2 2, .slice (some ⟨w.heap.size + 1 + 1 + 1 + 1 + 1 + 1, 0, none⟩) 2 2] 27)).alloc (.cells #[.int .i64 2, .int .i64 3] 3)).alloc
  (.cells #[.int .i64 0, .int .i64 0, .int .i64 0, .int .i64 1, .int .i64 1, .int .i64 0] 60)).alloc (.cells #[.int .i64 0, .int .i64 1, .int .i64 2] 3)).alloc (.cells #[.int .i64 2, .int .i64 0] 3)).alloc
  (.cells #[.int .i64 0, .int .i64 2, .slice none 0 0, .slice none 0 0, .int .i64 1, .int .i64 3, .slice (some ⟨w.heap.size + 1 + 1 + 1, 0, none⟩) 3 3, .slice (some ⟨w.heap.size + 1 + 1 + 1 + 1, 0, none⟩) 2 2] 57)).alloc (.cells #[.int .i64 5, .int .i64 7] 2)
theorem someW_b (w : World) : SomeB (someW w) w.heap.size :=
  ⟨heapPast_ _ (heapPast_ _ (heapPast_ _ (heapPast_ _ (heapPast_ _ (at_new _ _ (by simp)))))), heapPast_ _ (heapPast_ _ (heapPast_ _ (heapPast_ _ (at_new _ _ (by simp))))), heapPast_ _ (heapPast_ _ (heapPast_ _ (at_new _ _ (by simp)))), heapPast_ _ (heapPast_ _ (at_new _ _ (by simp))), heapPast_ _ (at_new _ _ (by simp)), at_new _ _ (by simp)⟩
theorem someW_bel (w : World) : Below w.heap.size w (someW w) := ((((((((Below.refl _ w).alloc (Nat.le_refl _) _).alloc (by simp) _).alloc (by simp; omega) _).alloc (by simp; omega) _).alloc (by simp; omega) _).alloc (by simp; omega) _).alloc (by simp; omega) _)
theorem someW_0 (w : World) : (someW w).heap[w.heap.size]? = some (someT w.heap.size).obj := heapPast_ _ (heapPast_ _ (heapPast_ _ (heapPast_ _ (heapPast_ _ (heapPast_ _ (heap_alloc_new w _))))))
theorem SomeB.on {w w' : World} {s : Nat} (h : SomeB w s) (hb : Below w.heap.size w w') : SomeB w' s := ⟨keep_b hb h.b1, keep_b hb h.b2, keep_b hb h.b3, keep_b hb h.b4, keep_b hb h.b5, keep_b hb h.b6⟩
set_option maxRecDepth 100000 in
set_option maxHeartbeats 4000000 in
theorem some_any (w : World) : Calls Try.prog 25 #[] w fun e w' => e = .returned (someT w.heap.size).val ∧ SomeB w' w.heap.size ∧ Below w.heap.size w w' := by
  go_enter Try.func25, Try.ntmps25
  go_wp2_with fail
  change bodyPost _ _ _ _ _ (someW w)
  obtain ⟨s0, s1, s2, s3, _⟩ := lvCells (someW_0 w)
  exact bodyPost_ret (v := (someT w.heap.size).val) (by simp [results, Try.results25, go_sem, s0, s1, s2, s3]) rfl ⟨rfl, someW_b w, someW_bel w⟩
/-- no form of a shape: a list of one mode, without levels -/
def oneT (g : Nat) : Ten := ⟨some ⟨g, 0, none⟩, 1, 1, [1], none, 0, 0, [], none, 0, 0, [], none, 0, 0, []⟩
theorem one_tenE (g : Nat) : tenE (oneT g) = 4 := by
  have h : sizesE [1] [] = 4 := by
    unfold sizesE
    have h1 : (cellsF [1]).2 = 0 := by decide
    have h2 : formB [1] [] = false := formB_no fun h => h.2 0 (by decide) rfl
    rw [h1, h2]
    rfl
  unfold tenE
  show (if sizesE [1] [] ≠ 0 then sizesE [1] [] else _) = 4
  rw [h]
  rfl
theorem one_in {w : World} {g : Nat} (h : w.heap[g]? = some (.cells #[.int .i64 1] 3 (0, 0))) : (oneT g).In w w.heap.size :=
  ⟨ints_blk (zs := [1]) h rfl (by decide) (lt_of_heap h), Specs.nil_, Lvs.nil_, Ints.nil_, Nat.le_refl 1, Nat.le_refl 0, Nat.le_refl 0, Nat.le_refl 0, by show 1 ≤ 100000; omega, by show 0 ≤ 100000; omega, by show 0 ≤ 100000; omega, by show 0 ≤ 100000; omega⟩
theorem some_dense {w1 : World} {s : Nat} (h : SomeB w1 s) : Calls Try.prog 13 #[(someT s).val] w1 fun e w' => ∃ (A1 : Option Addr) (c1 g c2 : Nat), e = .returned (.tuple #[.agg #[.slice A1 2 c1, .slice (some ⟨g, 0, none⟩) 6 c2], .int .i64 0]) ∧ OwnI w' w1.heap.size 2 (some ⟨g, 0, none⟩) c2 [0, 0, 5, 7, 0, 0] ∧ Below w1.heap.size w1 w' := by
  refine (stDense_any (someT s) w1 (some_in h) (by show 2 ≤ 65536; omega)).mono ?_
  rintro e w2 ⟨hb2, ⟨hE, _⟩ | ⟨_, A1, c1, A2, c2, rfl, _, h2⟩⟩
  · exact absurd (some_denE s) hE
  · rw [some_den] at h2 ⊢
    rcases h2.1.2 with ⟨_, h0⟩ | ⟨g, cap, cur, hv, _⟩
    · simp at h0
    · obtain rfl : A2 = some ⟨g, 0, none⟩ := by injection hv
      exact ⟨A1, c1, g, c2, rfl, h2, hb2⟩
theorem one_read {w : World} {g : Nat} (h : w.heap[g]? = some (.cells #[.int .i64 1] 3 (0, 0))) : Calls Try.prog 11 #[.agg #[.slice (some ⟨g, 0, none⟩) 1 1, .slice none 0 0, .slice none 0 0, .slice none 0 0]] w fun e w' => e = .returned (.tuple #[.agg #[.slice none 0 0, .slice none 0 0], .int .i64 4]) ∧ Below w.heap.size w w' := by
  refine (stRead_any (oneT g) w (one_in h)).mono ?_
  rintro e w2 ⟨hb2, ⟨_, rfl⟩ | ⟨hE, _⟩⟩
  · exact ⟨by rw [one_tenE], hb2⟩
  · rw [one_tenE] at hE; cases hE
theorem some_check {w1 : World} {s : Nat} (h : SomeB w1 s) : Calls Try.prog 7 #[(someT s).val] w1 fun e w' => e = .returned (.int .i64 0) ∧ Below w1.heap.size w1 w' := by
  refine (stCheck_any (someT s) w1 (some_in h)).mono ?_
  rintro e w2 ⟨rfl, hb⟩
  exact ⟨by rw [some_tenE], hb⟩
set_option maxRecDepth 100000 in
set_option maxHeartbeats 4000000 in
theorem stLive_any (w : World) : Calls Try.prog 4 #[] w fun e w' => e = .returned (.bool true) ∧ Below w.heap.size w w' := by
  go_enter Try.func4, Try.ntmps4
  go_wp2_with fail
  refine (some_any _).mono ?_
  rintro e w1 ⟨rfl, hB1, hb1⟩
  have HB1 := Lib.hid hb1
  have HS1 := Lib.hid hB1
  clear hB1 hb1
  go_wp2_with fail
  refine (some_dense HS1.out).mono ?_
  rintro e w2 ⟨A1, c1, g, c2, rfl, h2, hb2⟩
  have HB2 := Lib.hid (HB1.out.trans (hb2.mono HB1.out.size))
  obtain ⟨W3, hW3⟩ : ∃ W, (w2.alloc (.cells #[.slice A1 2 c1, .slice (some ⟨g, 0, none⟩) 6 c2] 40)).alloc (.cells #[.int .i64 1] 3) = W := ⟨_, rfl⟩
  have hal : Below w2.heap.size w2 W3 := by rw [← hW3]; exact ((Below.refl _ _).alloc (Nat.le_refl _) _).alloc (by simp) _
  have HB3 := Lib.hid (HB2.out.trans (hal.mono HB2.out.size))
  have HO3 := Lib.hid (h2.below hal (Nat.le_refl _))
  have HX3 : Hid (W3.heap[w2.heap.size]? = some (.cells #[.slice A1 2 c1, .slice (some ⟨g, 0, none⟩) 6 c2] 40 (0, 0))) := by unfold Hid; rw [← hW3]; exact heapPast_ _ (heap_alloc_new _ _)
  have HN3 : Hid (W3.heap[w2.heap.size + 1]? = some (.cells #[.int .i64 1] 3 (0, 0))) := by unfold Hid; rw [← hW3]; exact at_new _ _ (by simp)
  have HW3 := Lib.hid hW3
  clear h2 hb2 hal hW3
  go_wp2_with fail
  rw [HW3.out]
  refine (one_read HN3.out).mono ?_
  rintro e w4 ⟨rfl, hb4⟩
  obtain ⟨W5, hW5⟩ : ∃ W, w4.alloc (.cells #[.slice none 0 0, .slice none 0 0] 36) = W := ⟨_, rfl⟩
  have hal : Below W3.heap.size W3 W5 := by rw [← hW5]; exact hb4.alloc hb4.size _
  have HB5 := Lib.hid (HB3.out.trans (hal.mono HB3.out.size))
  have HO5 := Lib.hid (HO3.out.below hal (Nat.le_refl _))
  have HX5 := Lib.hid (keep_b hal HX3.out)
  have HW5 := Lib.hid hW5
  clear hal hb4 hW5
  go_upto_region 3 with fail
  rw [HW5.out]
  go_wp2_with fail
  refine (some_any _).mono ?_
  rintro e w6 ⟨rfl, hB6, hb6⟩
  have HS6 := Lib.hid hB6
  have HB6 := Lib.hid (HB5.out.trans (hb6.mono HB5.out.size))
  have HO6 := Lib.hid (HO5.out.below hb6 (Nat.le_refl _))
  have HX6 := Lib.hid (keep_b hb6 HX5.out)
  clear hB6 hb6
  go_wp2_with fail
  refine (some_check HS6.out).mono ?_
  rintro e w7 ⟨rfl, hb7⟩
  have HB7 := Lib.hid (HB6.out.trans (hb7.mono HB6.out.size))
  have HO7 := Lib.hid (HO6.out.below hb7 (Nat.le_refl _))
  have hx7 := keep_b hb7 HX6.out
  obtain ⟨x0, x1, _, _⟩ := pair_cells hx7
  obtain ⟨y2, _⟩ := HO7.out.cell_ (k := 2) (x := 5) rfl
  obtain ⟨y3, _⟩ := HO7.out.cell_ (k := 3) (x := 7) rfl
  clear hb7 hx7
  go_wp2_with fail
  go_ret
  exact ⟨rfl, HB7.out⟩
end Go.Proofs.Yteepiifhmbcciaa
/- purflelaw05.StoreOnce returns true. -/
namespace Go.Proofs.Yteepiifhmbcciaa
open Go.RowKit Go.Sort

theorem eqF5 (A A2 : Option Addr) (n n2 c c2 : Nat) (xs ys : List Int) (w : World) (h : Ints w w.heap.size A n xs) (h2 : Ints w w.heap.size A2 n2 ys) (hn : n ≤ 100000) (hn2 : n2 ≤ 9223372036854775807) (hne : xs ≠ ys) :
    Calls Try.prog 23 #[.slice A n c, .slice A2 n2 c2] w fun e w' => e = .returned (.bool false) ∧ Below w.heap.size w w' :=
  (refEqual_any A A2 n n2 c c2 xs ys w w.heap.size h h2 hn hn2).mono fun e w' ⟨he, m, hm⟩ => ⟨by rw [he, decide_eq_false hne], by subst hm; exact below_drewN (Below.refl _ _) m⟩
theorem ownE_cap5 {w : World} {base c : Nat} {A : Option Addr} {L : List Ent} (h : OwnE w base A c L) : L.length ≤ c := by
  rcases h.2 with ⟨h1, h2⟩ | ⟨g, cap, cur, h1, _, _, h4, _⟩
  · have : L.length = 0 := by
      cases L with
      | nil => rfl
      | cons x r => simp at h2
    omega
  · injection h1 with _ _ h3; omega
set_option maxRecDepth 100000 in
theorem run_take5 {w : World} (A : Option Addr) (n c k : Nat) (hk : k ≤ n) (hc : n ≤ c) : (Instr.slice 34 (.slice A n c) none (some (.int .i64 (k : Int))) none).run Try.prog w = .ok (.slice A k c) w := by
  obtain ⟨i0, hi0, hz0, hz1, hz2⟩ := info_parts infoEnt
  rw [run_slice_h w 34 A n c (by kernel_rfl) .i64 (k : Int) (by omega) (by omega)]
  have hs : (sizeOf (Try.prog.elem 34)).run Try.prog w = .ok 2 w := by
    have he : Try.prog.elem 34 = 53 := by kernel_rfl
    rw [he]; simp [sizeOf, typeInfo, hi0, hz1]
  rw [hs]
  simp only [Result.andThen, sliced, Int.toNat_natCast, Nat.zero_mul, Nat.sub_zero]
  have : (if c = 0 then A else A.map (·.add 0)) = A := by
    split
    · rfl
    · cases A <;> simp [Addr.add]
  rw [this]
theorem ent_key {Ts : List Ent} {t : Ten} (h : Ts.map keyE = entK t t.vn) {i : Nat} {y : Ent} (hy : Ts[i]? = some y) : i < t.vn ∧ y.cs = cN t.n t.fs t.ls t.ln i ∧ y.v = t.vs.getD i 0 ∧ y.n = t.n := by
  have hl : Ts.length = t.vn := by have := congrArg List.length h; rw [List.length_map, entK_length] at this; exact this
  have hi : i < t.vn := by have := (List.getElem?_eq_some_iff.1 hy).1; omega
  have h1 : (Ts.map keyE)[i]? = some (keyE y) := by rw [List.getElem?_map, hy]; rfl
  rw [h] at h1
  unfold entK at h1
  rw [List.getElem?_map, List.getElem?_range hi] at h1
  injection h1 with h1
  have e1 := congrArg (fun q => q.1) h1
  have e2 := congrArg (fun q => q.2.1) h1
  have e3 := congrArg (fun q => q.2.2) h1
  exact ⟨hi, e1.symm, e2.symm, e3.symm⟩
theorem atF_in {xs cs : List Int} (h : (cellsF xs).2 = 0) (hi : insideF xs cs = true) : (atF xs cs).2 = 0 := by unfold atF; rw [if_pos h, if_pos hi]

end Go.Proofs.Yteepiifhmbcciaa
/- The document's Get of a stored tensor, on its Read. -/
namespace Go.Proofs.Yteepiifhmbcciaa
open Go.RowKit Go.Sort

/-- the document's Read tells the numbers with their places -/
def ReadOK (t : Ten) : Prop := ∀ W : World, t.In W W.heap.size → Calls Try.prog 12 #[t.val] W (ReadPost W t)
theorem atF_two {xs cs : List Int} (h : (cellsF xs).2 = 0) (h0 : (atF xs cs).2 ≠ 0) : (atF xs cs).2 = 3 := by
  unfold atF at h0 ⊢
  rw [if_pos h] at h0 ⊢
  split at h0
  · exact absurd rfl h0
  · next hh => rw [if_neg hh]
theorem eqG5 (A A2 : Option Addr) (n n2 c c2 : Nat) (xs ys : List Int) (w : World) (h : Ints w w.heap.size A n xs) (h2 : Ints w w.heap.size A2 n2 ys) (hn : n ≤ 100000) (hn2 : n2 ≤ 9223372036854775807) :
    Calls Try.prog 23 #[.slice A n c, .slice A2 n2 c2] w fun e w' => e = .returned (.bool (decide (xs = ys))) ∧ Below w.heap.size w w' :=
  (refEqual_any A A2 n n2 c c2 xs ys w w.heap.size h h2 hn hn2).mono fun e w' ⟨he, m, hm⟩ => ⟨he, by subst hm; exact below_drewN (Below.refl _ _) m⟩
set_option maxRecDepth 100000 in
set_option maxHeartbeats 4000000 in
theorem refGet5_of (t : Ten) (w : World) (HR : ReadOK t) (ht : t.In w w.heap.size) (Cc : Option Addr) (cn cc : Nat) (cs : List Int) (hc : Ints w w.heap.size Cc cn cs) (hcn : cn ≤ 100000) :
    Calls Try.prog 16 #[t.val, .slice Cc cn cc] w (GetAll w t cs) := by
  have HI := Lib.hid ht
  have HC := Lib.hid hc
  obtain ⟨W0, hW0⟩ : ∃ W, w.alloc t.obj = W := ⟨_, rfl⟩
  have HB0 : Hid (Below w.heap.size w W0) := by rw [← hW0]; exact lvBelow w _
  have HX0 : Hid (W0.heap[w.heap.size]? = some t.obj) := by rw [← hW0]; exact heap_alloc_new w _
  have hRD := HR W0 (ht.on HB0.out)
  obtain ⟨k0, k1, k2, k3, _⟩ := lvCells HX0.out
  have hv1 := ht.v1
  have hn1 := ht.n1
  clear ht hc
  go_enter Try.func16, Try.ntmps16
  go_wp2_with fail
  try rw [hW0]
  refine hRD.mono ?_
  rintro e w1 ⟨hb1, hh⟩
  have HB1 := Lib.hid (HB0.out.trans (hb1.mono HB0.out.size))
  have HX1 := Lib.hid (keep_b hb1 HX0.out)
  clear hRD hW0 k0 k1 k2 k3
  rcases hh with ⟨hE, rfl⟩ | ⟨hE, A1, c1, A3, c3, Ts, rfl, hO1, hOE, hOP, hK⟩
  · obtain ⟨E, hEE⟩ : ∃ E, tenE t = E := ⟨_, rfl⟩
    rw [hEE] at hE ⊢
    have HEE := Lib.hid hEE
    have e1 : (E != 0) = true := by simpa using hE
    have HE := Lib.hid hE
    clear hb1 hE hEE
    go_wp2_with fail
    go_ret3
    exact ⟨HB1.out.alloc HB1.out.size _, .inl ⟨by rw [HEE.out]; exact HE.out, by rw [HEE.out]; rfl⟩⟩
  · obtain ⟨hTok, hvn, _⟩ := Ten.tok HI.out hE
    have HE := Lib.hid hE
    have hcf := hTok.cells
    have hlen : Ts.length = t.vn := by have := congrArg List.length hK; rw [List.length_map, entK_length] at this; exact this
    have HLEN := Lib.hid hlen
    have HES : Hid (Ents w1 w1.heap.size A3 Ts.length Ts) := ownE_ents hOE hOP
    have HKY : Hid (∀ (i : Nat) (y : Ent), Ts[i]? = some y → i < t.vn ∧ y.cs = cN t.n t.fs t.ls t.ln i ∧ y.v = t.vs.getD i 0 ∧ y.n = t.n) := fun i y h => ent_key hK h
    obtain ⟨W2, hW2⟩ : ∃ W, w1.alloc (.cells #[.slice A1 t.n c1, .slice A3 t.vn c3] 36) = W := ⟨_, rfl⟩
    have hb12 : Below w1.heap.size w1 W2 := by rw [← hW2]; exact lvBelow w1 _
    have HB2 := Lib.hid (HB1.out.trans (hb12.mono HB1.out.size))
    have HX2 := Lib.hid (keep_b hb12 HX1.out)
    have hbc : W2.heap[w1.heap.size]? = some (.cells #[.slice A1 t.n c1, .slice A3 t.vn c3] 36 (0, 0)) := by rw [← hW2]; exact heap_alloc_new w1 _
    have HBC := Lib.hid hbc
    have HE2 : Hid (Ents W2 W2.heap.size A3 t.vn Ts) := by unfold Hid; rw [← HLEN.out]; exact (HES.out.below hb12).more hb12.size
    have hAT := refAtB t.A Cc t.n cn t.c cc t.xs cs W2 ((HI.out.on HB2.out).shape) ((HC.out.below HB2.out).more HB2.out.size) (by omega) (by omega)
    obtain ⟨F, hF⟩ : ∃ z, (atF t.xs cs).2 = z := ⟨_, rfl⟩
    obtain ⟨G, hG⟩ : ∃ z, (atF t.xs cs).1 = z := ⟨_, rfl⟩
    rw [hF, hG] at hAT
    have H3 : Hid (F ≠ 0 → F = 3) := fun h => by rw [← hF] at h ⊢; exact atF_two hcf h
    have HF := Lib.hid hF
    obtain ⟨k0, k1, k2, k3, _⟩ := lvCells HX2.out
    obtain ⟨p0, p1, pf0, pf1⟩ := pair_cells HBC.out
    clear hb1 hE hO1 hOE hOP hK hTok hvn hcf hlen hb12 hbc hF hG
    go_wp2_with fail
    try rw [hW2]
    refine hAT.mono ?_
    rintro e w3 ⟨rfl, hb3⟩
    have HB3 := Lib.hid (HB2.out.trans (hb3.mono HB2.out.size))
    have HBC3 := Lib.hid (keep_b hb3 HBC.out)
    have HE3 : Hid (Ents w3 w3.heap.size A3 t.vn Ts) := (HE2.out.below hb3).more hb3.size
    obtain ⟨p0, p1, pf0, pf1⟩ := pair_cells HBC3.out
    clear hAT hb3 hW2 k0 k1 k2 k3
    by_cases h0 : F = 0
    · subst h0
      go_wp2_with fail
      clear p0 p1 pf0 pf1
      obtain ⟨wo, rfl⟩ : ∃ wo : World, wo = w3 := ⟨_, rfl⟩
      go_loopw [33] (fun i wr => ∃ k : Nat, k ≤ t.vn ∧ i = .int .i64 k ∧ Hid (∀ j < k, cN t.n t.fs t.ls t.ln j ≠ cs) ∧ Hid (Below wo.heap.size wo wr)) (fun i _ => t.vn - (intOf i).toNat)
      case atStart => exact ⟨0, Nat.zero_le _, rfl, fun j hj => absurd hj (by omega), Below.refl _ _⟩
      case round =>
        obtain ⟨k, hk, rfl, HN, HB⟩ := hrel
        by_cases hlt : k < t.vn
        · obtain ⟨b, off, x, hA, hbb, HX, hc0, hc1, ix, hx1, hx2, hx3, hx4⟩ := ((HE3.out.below HB.out).more HB.out.size).at_ hlt
          subst hA
          obtain ⟨_, q1, q2, q3⟩ := HKY.out k x HX.out
          have hc2 : wr.cell? ⟨b, off + k * 2, none⟩ = some (.slice x.A x.n x.c) := by rw [Nat.mul_comm k 2]; exact hc0
          have hc3 : wr.cell? ⟨b, off + k * 2 + 1, none⟩ = some (.int .i64 x.v) := by rw [Nat.mul_comm k 2]; exact hc1
          have hnb := heap_alloc_new wr (.cells #[.slice x.A x.n x.c, .int .i64 x.v] 53)
          obtain ⟨t0, t1, tf0, tf1⟩ := pair_cells hnb
          have hb6 := lvBelow wr (.cells #[.slice x.A x.n x.c, .int .i64 x.v] 53)
          have HBW := Lib.hid (HB.out.trans (hb6.mono HB.out.size))
          have HBT := Lib.hid (HB3.out.trans (HBW.out.mono HB3.out.size))
          have hEQ := eqG5 x.A Cc x.n cn x.c cc x.cs cs _ ((ix.below hb6).more hb6.size) ((HC.out.below HBT.out).more HBT.out.size) (by omega) (by omega)
          have HNB := Lib.hid hnb
          have HQ2 := Lib.hid q1
          have HQ3 := Lib.hid q2
          have hxn : x.n ≤ 100000 := by omega
          clear q1 q2 q3 hc0 hc1 hb6 hnb ix hx1 hx2 hx3 hx4
          by_cases hq : x.cs = cs
          · rw [decide_eq_true hq] at hEQ
            have HQ : Hid (cN t.n t.fs t.ls t.ln k = cs) := by unfold Hid; rw [← HQ2.out, hq]
            clear hq
            go_wp2_with fail
            refine hEQ.mono ?_
            rintro e w7 ⟨rfl, hb7⟩
            have HB7 := Lib.hid (HBT.out.trans (hb7.mono HBT.out.size))
            obtain ⟨t0, t1, tf0, tf1⟩ := pair_cells (keep_b hb7 HNB.out)
            clear hEQ hb7
            go_wp2_with fail
            go_ret3
            exact ⟨HB7.out, .inr (.inr ⟨HE.out, HF.out, .inl ⟨k, hlt, HQ.out, by rw [← HQ3.out]; rfl⟩⟩)⟩
          · rw [decide_eq_false hq] at hEQ
            have HQ : Hid (cN t.n t.fs t.ls t.ln k ≠ cs) := by unfold Hid; rw [← HQ2.out]; exact hq
            clear hq
            go_wp2_with fail
            refine hEQ.mono ?_
            rintro e w7 ⟨rfl, hb7⟩
            have HB7 := Lib.hid (HBW.out.trans (hb7.mono HBW.out.size))
            clear hEQ hb7 t0 t1 tf0 tf1
            go_wp2_with fail
            go_roundw
            case rel => exact ⟨k + 1, by omega, by go_num, fun j hj => by
              by_cases ej : j = k
              · rw [ej]; exact HQ.out
              · exact HN.out j (by omega), HB7.out⟩
            case measure => simp [intOf]; omega
        · have HNO : Hid (∀ q, q < t.vn → cN t.n t.fs t.ls t.ln q ≠ cs) := fun q hq => HN.out q (by omega)
          go_wp2_with fail
          go_ret3
          exact ⟨HB3.out.trans (HB.out.mono HB3.out.size), .inr (.inr ⟨HE.out, HF.out, .inr ⟨HNO.out, rfl⟩⟩)⟩
    · have e1 : (F != 0) = true := by simpa using h0
      have HF3 := Lib.hid (H3.out h0)
      have H0 := Lib.hid h0
      clear h0
      go_wp2_with fail
      go_ret3
      exact ⟨HB3.out, .inr (.inl ⟨HE.out, by rw [HF.out]; exact H0.out, by rw [HF.out, HF3.out]; rfl⟩)⟩
end Go.Proofs.Yteepiifhmbcciaa
/- The document's Read of a stored tensor, where it may be. -/
namespace Go.Proofs.Yteepiifhmbcciaa
open Go.RowKit Go.Sort

set_option maxRecDepth 100000 in
set_option maxHeartbeats 8000000 in
theorem refRead5_ok (t : Ten) (w : World) (ht : t.In w w.heap.size) (hf : fewT t) (hE : tenE t = 0) :
    Calls Try.prog 12 #[t.val] w (ReadPost w t) := by
  have z0 := lvBelow w t.obj
  have z1 := z0.alloc z0.size (.cells #[.slice none 0 0, .slice none 0 0] 36)
  have HC := refCheck5_any t ((w.alloc t.obj).alloc (.cells #[.slice none 0 0, .slice none 0 0] 36)) (ht.on z1) hf
  rw [hE] at HC
  have HE := Lib.hid hE
  have HI := Lib.hid ht
  have HF := Lib.hid hf
  have b1 := zf_two w t.obj (.cells #[.slice none 0 0, .slice none 0 0] 36)
  have b2 := zf_snd w (.cells #[.slice none 0 0, .slice none 0 0] 36) t.obj
  have hbx2 : (w.alloc t.obj).heap.size = w.heap.size + 1 := World.size_alloc _ _
  obtain ⟨k0, k1, k2, k3, _⟩ := lvCells b1
  have HZ1 := Lib.hid z1
  have HB2 := Lib.hid b2
  have HB1 := Lib.hid b1
  clear hE ht hf hbx2 z0 z1 b2 b1
  go_enter Try.func12, Try.ntmps12
  go_wp2_with fail
  refine HC.mono ?_
  rintro e w1 ⟨rfl, hb1⟩
  have HB := Lib.hid (HZ1.out.trans (hb1.mono HZ1.out.size))
  have HX := Lib.hid (keep_b hb1 HB1.out)
  have HR := Lib.hid (keep_b hb1 HB2.out)
  obtain ⟨l0, l1, l2, l3, _⟩ := lvCells HX.out
  clear hb1 HC k0 k1 k2 k3
  have hCN := refCnt_any t w1 (HI.out.on HB.out) HF.out
  go_wp2_with fail
  refine hCN.mono ?_
  rintro e w2 ⟨hb2, hh⟩
  rcases hh with ⟨hne, _⟩ | ⟨_, A2, c2, rfl, hO⟩
  · exact absurd (tenE_small HE.out).2.2.1 hne
  have HTK := Lib.hid (Ten.tok HI.out HE.out)
  have HLL : Hid (t.ls.length = t.ln) := HI.out.lvs.1
  have HXL : Hid (t.xs.length = t.n) := HI.out.shape.1
  have HB2 := Lib.hid (HB.out.trans (hb2.mono HB.out.size))
  have HX2 := Lib.hid (keep_b hb2 HX.out)
  have HR2 := Lib.hid (keep_b hb2 HR.out)
  have hci := hO.ints
  rw [cntL_length, HLL.out] at hci
  have hl1 : t.ln ≤ 40 := HF.out.2.2.1
  have hn1 : t.n ≤ 20 := HF.out.1
  have hv1 : t.vn ≤ 3000 := HF.out.2.2.2.1
  obtain ⟨W3, hW3⟩ : ∃ W, w2.alloc (.cells #[.int .i64 1] 3) = W := ⟨_, rfl⟩
  have hb3 : Below w2.heap.size w2 W3 := by rw [← hW3]; exact lvBelow w2 _
  have HB3 := Lib.hid (HB2.out.trans (hb3.mono HB2.out.size))
  have HX3 := Lib.hid (keep_b hb3 HX2.out)
  have HR3 := Lib.hid (keep_b hb3 HR2.out)
  have HL3 : Hid (OwnI W3 w2.heap.size 3 (some ⟨w2.heap.size, 0, none⟩) 1 [1]) := by rw [← hW3]; exact own_lit5 w2 1 w2.heap.size (Nat.le_refl _) (by decide)
  have hc3 : Hid (Ints W3 W3.heap.size A2 t.ln (cntL t.ls)) := (hci.below hb3).more hb3.size
  have hle3 : t.ln + 1 ≤ 1000000 := by omega
  have hsz3 : w2.heap.size ≤ W3.heap.size := hb3.size
  clear hb2 hb3 hO hci hCN l0 l1 l2 l3
  obtain ⟨i0, hi0, hz0, hz1, hz2⟩ := info_parts infoInt
  go_upto_region 6 with (at_builtin; refine wpList_appendInts _ rfl (.tmp 22) (.tmp 23) 22 rfl w2.heap.size 3 i0 Try.underlying22 hi0 hz0 hz1 hz2 (some ⟨w2.heap.size, 0, none⟩) A2 1 t.ln c2 W3.heap.size 1 (t.ln + 1) [1] (cntL t.ls) rfl rfl HL3.out rfl (Nat.add_comm _ _) hc3.out hle3 hsz3 ?_; intro A4 c4 w4 hO4 hG4)
  have hb4 : Below w2.heap.size W3 w4 := below_app (Below.refl _ _) hG4 HL3.out rfl hsz3
  have HB4 := Lib.hid (HB3.out.trans (hb4.mono HB2.out.size))
  have hX4 : w4.heap[w.heap.size]? = some t.obj := (hb4.block _ (lt_of_heap HX2.out)).trans HX3.out
  have hR4 : w4.heap[w.heap.size + 1]? = some (.cells #[.slice none 0 0, .slice none 0 0] 36 (0, 0)) := (hb4.block _ (lt_of_heap HR2.out)).trans HR3.out
  have HX4 := Lib.hid hX4
  have HR4 := Lib.hid hR4
  have HO4 := Lib.hid hO4
  have hcA : Hid (Ints w4 w4.heap.size t.A t.n t.xs) := (HI.out.on HB4.out).shape
  have hle5 : t.n ≤ 1000000 := by omega
  obtain ⟨m0, m1, m2, m3, _⟩ := lvCells hX4
  obtain ⟨Vh, hVh⟩ : ∃ V, t.V = V := ⟨_, rfl⟩
  have HVH := Lib.hid hVh
  clear hb4 hX4 hR4 hO4 hG4 hVh
  go_upto_region 7 with (at_builtin; refine wpList_appendInts _ rfl (.const (.slice none 0 0)) (.tmp 26) 22 rfl w4.heap.size 3 i0 Try.underlying22 hi0 hz0 hz1 hz2 none t.A 0 t.n t.c w4.heap.size 0 t.n [] t.xs rfl rfl (OwnI.nil_ _ _ _) rfl (Nat.zero_add _) hcA.out hle5 (Nat.le_refl _) ?_; intro A5 c5 w5 hO5 hG5; have hb5 := below_of_none hG5; have hX5 := keep_b hb5 HX4.out; have n3 := (lvCells hX5).2.2.2.1; rw [HVH.out] at n3)
  obtain ⟨W6, hW6⟩ : ∃ W, w5.alloc (.cells #[.slice A5 t.n c5, .slice none 0 0] 36) = W := ⟨_, rfl⟩
  obtain ⟨bx, hbx⟩ : ∃ b, w5.heap.size = b := ⟨_, rfl⟩
  have hb6 : Below w5.heap.size w5 W6 := by rw [← hW6]; exact lvBelow w5 _
  have HK6 : Hid (RK t w bx A5 A4 c5 c4 W6 [] none 0) := by
    have hs4 : w.heap.size ≤ w4.heap.size := HB4.out.size
    have hs2 : w.heap.size ≤ w2.heap.size := HB2.out.size
    have hR5 := keep_b hb5 HR4.out
    refine ⟨(HB4.out.trans (hb5.mono hs4)).trans (hb6.mono (by have := hb5.size; omega)), keep_b hb6 hX5, keep_b hb6 hR5, ?_, ?_, ?_, ?_, ?_, ?_⟩
    · rw [← hW6, ← hbx]; exact heap_alloc_new w5 _
    · rw [← hbx]; exact lt_of_heap hR5
    · exact World.ownsRow_nil _ _ _ _
    · intro x hx; cases hx
    · exact (hO5.mono hs4).below hb6 (Nat.le_refl _)
    · exact (((HO4.out).mono hs2).below hb5 (Nat.le_refl _)).below hb6 (Nat.le_refl _)
  rw [hW6, hbx]
  have n4 : W6.cell? ⟨w.heap.size, 3, none⟩ = some (.slice Vh t.vn t.vc) := (hb6.cell (p := ⟨w.heap.size, 3, none⟩) (lt_of_heap hX5)).trans n3
  clear hb6 hW6 hbx hb5 hX5 hO5 hG5 n3 m0 m1 m2 m3 hcA hle5 hle3 hsz3 hc3 HL3 hW3 hi0 hz0 hz1 hz2
  go_wp2_with fail
  clear n4
  go_loopw [32] (fun i wr => ∃ (k : Nat) (Ts : List Ent) (A3 : Option Addr) (c3 : Nat), k ≤ t.vn ∧ i = .int .i64 k ∧ Hid (RK t w bx A5 A4 c5 c4 wr Ts A3 c3) ∧ Hid (Ts.map keyE = entK t k)) (fun i _ => t.vn - (intOf i).toNat)
  case atStart => exact ⟨0, [], none, 0, Nat.zero_le _, rfl, HK6.out, rfl⟩
  case round =>
    obtain ⟨k, Ts, A3, c3, hk, rfl, HRK, HKY⟩ := hrel
    have HTL : Hid (Ts.length = k) := by have := congrArg List.length HKY.out; rw [List.length_map, entK_length] at this; exact this
    by_cases hlt : k < t.vn
    · obtain ⟨bV, oV, v, hVA, hVb, HV, cv, v1, v2⟩ := (HI.out.on HRK.out.bel).vals.at_ hlt
      rw [HVH.out] at hVA
      subst hVA
      obtain ⟨x0, x1, xf0, xf1⟩ := pair_cells HRK.out.box
      rw [HTL.out] at x1
      obtain ⟨s0, s1, s2, s3, _⟩ := lvCells HRK.out.st
      have hq : k < ahN t.ls t.ln := by rw [← HTK.out.2.1]; exact hlt
      have hAH : Hid (∀ W, Below wr.heap.size wr W → Ints W W.heap.size A4 (t.ln + 1) (1 :: cntL t.ls)) := fun W hW => by
        have h := ((HRK.out.below hW).ah).ints
        rw [List.length_cons, cntL_length, HLL.out] at h
        exact h
      have HPL : Hid (∀ W, Below wr.heap.size wr W → Calls Try.prog 39 #[t.val, .slice A4 (t.ln + 1) c4, .int .i64 k] W (PlacePost W t k)) := fun W hW => refPlace_any t W (HI.out.on (HRK.out.below hW).bel) HF.out HTK.out.1 A4 c4 (hAH.out W hW) k hq
      have HST : Hid (∀ W, Below wr.heap.size wr W → RK t w bx A5 A4 c5 c4 W Ts A3 c3 ∧ (W.cell? ⟨bx, 1, none⟩ = some (.slice A3 k c3) ∧ W.frozen? ⟨bx, 1, none⟩ = false)) := by
        intro W hW
        have h := HRK.out.below hW
        obtain ⟨_, y1, _, y3⟩ := pair_cells h.box
        rw [HTL.out] at y1
        exact ⟨h, y1, y3⟩
      have HVV : Hid (t.vs.getD k 0 = v) := by unfold Hid; rw [List.getD_eq_getElem?_getD, HV.out]; rfl
      have HCL : Hid ((cN t.n t.fs t.ls t.ln k).length = t.n ∧ ∀ z ∈ cN t.n t.fs t.ls t.ln k, -9223372036854775808 ≤ z ∧ z ≤ 9223372036854775807) := cN_fits HI.out HTK.out.1 hq
      have hle : k + 1 ≤ 1000000 := by omega
      have HB0 : Hid (∀ W : World, Below wr.heap.size wr W → w.heap.size ≤ W.heap.size) := fun W hW => (HRK.out.below hW).bel.size
      have cv1 : wr.cell? ⟨bV, oV + k, none⟩ = some (.int .i64 v) := cv
      clear hq cv hVb x0 xf0
      go_upto_region 10 with fail
      go_region_law (first | (refine step_appendEnt1 rfl (.tmp 38) (.tmp 45) rfl w.heap.size A3 c3 k (k + 1) ⟨some ⟨g6, 0, none⟩, t.n, t.n, cN t.n t.fs t.ls t.ln k, v⟩ Ts rfl rfl HS6.out.1.own HTL.out rfl hle hB6 ?_; intro A7 c7 w7 HO7 HG7; have hg7 : w6.grownBy w7 (Value.slice A3 Ts.length c3).ownBlock := (by rw [HTL.out]; exact HG7); have hbx7 := box_keptE HS6.out.1.box (by decide) HS6.out.1.own hg7; obtain ⟨_, l1, _, l3⟩ := pair_cells hbx7) | (go_simp; go_at_call 39; refine (HPL.out _ ?b0).mono ?_; (case b0 => first | exact Below.refl _ _ | exact (Below.refl _ _).drew); rintro e w6 ⟨hb6, g6, hg6, rfl, hG6⟩; have hw6 : Below wr.heap.size wr w6 := ⟨hb6.os, hb6.tape, hb6.output, hb6.size, hb6.block⟩; have HG6 := Lib.hid hG6; have HN6 := Lib.hid hg6; have HS6 := Lib.hid (HST.out _ hw6); have hB6 := HB0.out _ hw6; have HW6 := Lib.hid hw6; obtain ⟨l1, l3⟩ := HS6.out.2; have l1' := fun o => cellPast o l1; clear hb6 hG6 hg6 hw6))
      all_goals
        go_wp2_with fail
        go_roundw
        case rel =>
          obtain ⟨Ts', h1, h2⟩ := RK.step HRK.out HW6.out HS6.out.1 HO7 hg7 HG6.out HN6.out HKY.out HTL.out ⟨v1, v2⟩ HVV.out HCL.out (by omega)
          exact ⟨k + 1, Ts', A7, c7, by omega, by go_num, h1, h2⟩
        case measure => simp [intOf]; omega
    · obtain ⟨x0, x1, xf0, xf1⟩ := pair_cells HRK.out.box
      have hkk : k = t.vn := by omega
      rw [HTL.out, hkk] at x1
      have HKK := Lib.hid hkk
      obtain ⟨r0, r1, rf0, rf1⟩ := pair_cells HRK.out.rs
      clear hkk
      go_wp2_with fail
      have hd := HRK.out.done (by rw [← HKK.out]; exact HKY.out) HE.out
      have hres := set_two wr (w.heap.size + 1) _ _ (.slice A5 t.n c5) (.slice A3 t.vn c3) _ HRK.out.rs
      obtain ⟨q0, q1, _, _⟩ := pair_cells hres.1
      obtain ⟨wz, hwz⟩ : ∃ wz, (wr.setCell ⟨w.heap.size + 1, 0, none⟩ (.slice A5 t.n c5)).setCell ⟨w.heap.size + 1, 1, none⟩ (.slice A3 t.vn c3) = wz := ⟨_, rfl⟩
      rw [hwz] at hd q0 q1 ⊢
      exact bodyPost_ret (v := .tuple #[.agg #[.slice A5 t.n c5, .slice A3 t.vn c3], .int .i64 0]) (by simp [results, Try.results12, go_sem, q0, q1]) rfl hd
end Go.Proofs.Yteepiifhmbcciaa
/- What the document's Dense of a stored tensor lays out: nothing is written twice. -/
namespace Go.Proofs.Yteepiifhmbcciaa
open Go.RowKit Go.Sort

theorem denseK_nil (xs : List Int) : denseK xs [] = List.replicate (laidF xs).1.toNat 0 := by
  unfold denseK
  rw [List.eq_replicate_iff]
  refine ⟨by simp, fun b hb => ?_⟩
  obtain ⟨j, _, rfl⟩ := List.mem_map.1 hb
  show wrap64 0 = 0
  unfold wrap64
  omega
theorem denseK_set {xs : List Int} {K : List KeyT} {cs : List Int} {v : Int} {n j : Nat} (hj : (numR xs cs).toNat = j) (hne : ∀ z ∈ K, (numR xs z.1).toNat ≠ j) (hv : -9223372036854775808 ≤ v ∧ v ≤ 9223372036854775807) :
    (denseK xs K).set j v = denseK xs (K ++ [(cs, v, n)]) := by
  have hw : wrap64 v = v := by unfold wrap64; omega
  refine List.ext_getElem? fun i => ?_
  unfold denseK
  rw [List.getElem?_set]
  simp only [List.length_map, List.length_range, List.getElem?_map]
  by_cases hi : i < (laidF xs).1.toNat
  · rw [List.getElem?_range hi]
    simp only [Option.map_some, totP_append, totP_one]
    by_cases hij : j = i
    · subst hij
      rw [if_pos rfl, if_pos hi, totP_none (fun t ht => decide_eq_false (hne t ht)), if_pos (by simpa using hj), Int.zero_add, hw]
    · rw [if_neg hij, if_neg (by simp; omega), Int.add_zero]
  · rw [List.getElem?_eq_none (by simpa using hi)]
    by_cases hij : j = i
    · subst hij
      rw [if_pos rfl, if_neg hi]; rfl
    · rw [if_neg hij]; rfl
section
variable {t : Ten} {w : World}
/-- the cell of a number -/
theorem ten_at (ht : t.In w w.heap.size) (hT : Tok t.xs t.fs t.ls) {k : Nat} (hk : k < ahN t.ls t.ln) :
    atF t.xs (cN t.n t.fs t.ls t.ln k) = (numR t.xs (cN t.n t.fs t.ls t.ln k), 0) ∧ 0 ≤ numR t.xs (cN t.n t.fs t.ls t.ln k) ∧ numR t.xs (cN t.n t.fs t.ls t.ln k) < (cellsF t.xs).1 := by
  have h1 := ht.shape.1
  have h2 := ht.lvs.1
  have hi := tok_inside hT (n := k) (by rw [h2]; exact hk)
  rw [h1, h2] at hi
  have e : atF t.xs (cN t.n t.fs t.ls t.ln k) = (numR t.xs (cN t.n t.fs t.ls t.ln k), 0) := by unfold atF; rw [if_pos hT.cells, if_pos hi]
  obtain ⟨_, hI, _, hP⟩ := atF_ok (xs := t.xs) (cs := cN t.n t.fs t.ls t.ln k) (by rw [e])
  have hb := hI.bound
  exact ⟨e, hb.1, by omega⟩
theorem ten_ne (ht : t.In w w.heap.size) (hT : Tok t.xs t.fs t.ls) {j k : Nat} (hj : j < ahN t.ls t.ln) (hk : k < ahN t.ls t.ln) (hjk : j ≠ k) :
    (numR t.xs (cN t.n t.fs t.ls t.ln j)).toNat ≠ (numR t.xs (cN t.n t.fs t.ls t.ln k)).toNat := by
  intro e
  have h1 := ht.shape.1
  have h2 := ht.lvs.1
  obtain ⟨a1, a2, a3⟩ := ten_at ht hT hj
  obtain ⟨b1, b2, b3⟩ := ten_at ht hT hk
  have e2 := numR_inj t.xs _ _ (atF_ok (by rw [a1])).2.1 (atF_ok (by rw [b1])).2.1 (show numR t.xs (cN t.n t.fs t.ls t.ln j) = numR t.xs (cN t.n t.fs t.ls t.ln k) by omega)
  rw [← h1, ← h2] at e2
  exact hjk (hT.one (by rw [h2]; exact hj) (by rw [h2]; exact hk) e2)
/-- one number more is laid out -/
theorem stDen_step (ht : t.In w w.heap.size) (hT : Tok t.xs t.fs t.ls) {j k : Nat} (hk : k < ahN t.ls t.ln) (hj : numR t.xs (cN t.n t.fs t.ls t.ln k) = (j : Int)) {v : Int} (hv : -9223372036854775808 ≤ v ∧ v ≤ 9223372036854775807) (hvv : t.vs.getD k 0 = v) :
    (denseK t.xs (entK t k)).set j v = denseK t.xs (entK t (k + 1)) := by
  rw [entK_succ, hvv]
  refine denseK_set (by omega) (fun z hz => ?_) hv
  unfold entK at hz
  obtain ⟨i, hi, rfl⟩ := List.mem_map.1 hz
  have hi := List.mem_range.1 hi
  have := ten_ne ht hT (j := i) (k := k) (by omega) hk (by omega)
  show (numR t.xs (cN t.n t.fs t.ls t.ln i)).toNat ≠ j
  omega
end
theorem refRead5_any (t : Ten) (w : World) (ht : t.In w w.heap.size) (hf : fewT t) : Calls Try.prog 12 #[t.val] w (ReadPost w t) := by
  by_cases hE : tenE t = 0
  · exact refRead5_ok t w ht hf hE
  · exact refRead5_err t w ht hf hE
end Go.Proofs.Yteepiifhmbcciaa
/- The document's Dense of a stored tensor. -/
namespace Go.Proofs.Yteepiifhmbcciaa
open Go.RowKit Go.Sort

set_option maxRecDepth 100000 in
set_option maxHeartbeats 4000000 in
theorem refDense5_err (t : Ten) (w : World) (ht : t.In w w.heap.size) (hf : fewT t) (hE : tenE t ≠ 0) :
    Calls Try.prog 14 #[t.val] w (StDenPost w t) := by
  have z0 := lvBelow w t.obj
  have z1 := z0.alloc z0.size (.cells #[.slice none 0 0, .slice none 0 0] 40)
  have HR := refRead5_err t ((w.alloc t.obj).alloc (.cells #[.slice none 0 0, .slice none 0 0] 40)) (ht.on z1) hf hE
  have b1 := zf_two w t.obj (.cells #[.slice none 0 0, .slice none 0 0] 40)
  have b2 := zf_snd w (.cells #[.slice none 0 0, .slice none 0 0] 40) t.obj
  obtain ⟨k0, k1, k2, k3, _⟩ := lvCells b1
  obtain ⟨E, hEE⟩ : ∃ E, tenE t = E := ⟨_, rfl⟩
  have HEE := Lib.hid hEE
  have HE0 := Lib.hid hE
  clear ht hE hEE
  go_enter Try.func14, Try.ntmps14
  go_wp2_with fail
  refine HR.mono ?_
  rintro e w1 ⟨hb1, hh⟩
  have HB := Lib.hid (z1.trans (hb1.mono z1.size))
  have HBR := Lib.hid ((hb1.block (w.heap.size + 1) (by simp)).trans b2)
  clear k0 k1 k2 k3
  rcases hh with ⟨hE, rfl⟩ | ⟨hE, _⟩
  · rw [HEE.out] at hE ⊢
    have HE : Hid (stDenE t = E ∧ E ≠ 0) := ⟨by unfold stDenE; rw [HEE.out, if_pos hE], hE⟩
    have e1 : (E != 0) = true := by simpa using hE
    obtain ⟨W2, hW2⟩ : ∃ W, w1.alloc (.cells #[.slice none 0 0, .slice none 0 0] 36) = W := ⟨_, rfl⟩
    have hal : Below w1.heap.size w1 W2 := by rw [← hW2]; exact (Below.refl _ _).alloc (Nat.le_refl _) _
    have HBR2 := Lib.hid (keep_b hal HBR.out)
    have HB2 := Lib.hid (HB.out.trans (hal.mono HB.out.size))
    have HW2 := Lib.hid hW2
    obtain ⟨r0, r1, rf0, rf1⟩ := pair_cells HBR2.out
    clear hE hb1 b1 b2 z0 z1 HR hal hW2
    go_upto_region 2 with fail
    rw [HW2.out]
    go_wp2_with fail
    have hres := set_two W2 (w.heap.size + 1) _ _ (.slice none 0 0) (.slice none 0 0) _ HBR2.out
    obtain ⟨s0, s1, _, _⟩ := pair_cells hres.1
    obtain ⟨wz, hwz⟩ : ∃ wz, (W2.setCell ⟨w.heap.size + 1, 0, none⟩ (.slice none 0 0)).setCell ⟨w.heap.size + 1, 1, none⟩ (.slice none 0 0) = wz := ⟨_, rfl⟩
    rw [hwz] at hres s0 s1 ⊢
    exact bodyPost_ret (v := .tuple #[.agg #[.slice none 0 0, .slice none 0 0], .int .i64 E]) (by simp [results, Try.results14, go_sem, s0, s1]) rfl ⟨HB2.out.grown hres.2 HB2.out.size (fun k hk => by injection hk with hk; omega), .inl ⟨by rw [HE.out.1]; exact HE.out.2, by rw [HE.out.1]⟩⟩
  · exact absurd hE HE0.out
set_option maxRecDepth 100000 in
set_option maxHeartbeats 8000000 in
theorem refDense5_ok (t : Ten) (w : World) (ht : t.In w w.heap.size) (hf : fewT t) (hE : tenE t = 0) :
    Calls Try.prog 14 #[t.val] w (StDenPost w t) := by
  have z0 := lvBelow w t.obj
  have z1 := z0.alloc z0.size (.cells #[.slice none 0 0, .slice none 0 0] 40)
  have HR := refRead5_ok t ((w.alloc t.obj).alloc (.cells #[.slice none 0 0, .slice none 0 0] 40)) (ht.on z1) hf hE
  have b1 := zf_two w t.obj (.cells #[.slice none 0 0, .slice none 0 0] 40)
  have b2 := zf_snd w (.cells #[.slice none 0 0, .slice none 0 0] 40) t.obj
  obtain ⟨k0, k1, k2, k3, _⟩ := lvCells b1
  have HI := Lib.hid ht
  have HF := Lib.hid hf
  have HE := Lib.hid hE
  have HTK := Lib.hid (Ten.tok ht hE)
  clear ht hE hf
  go_enter Try.func14, Try.ntmps14
  go_wp2_with fail
  refine HR.mono ?_
  rintro e w1 ⟨hb1, hh⟩
  have HB := Lib.hid (z1.trans (hb1.mono z1.size))
  have HBR := Lib.hid ((hb1.block (w.heap.size + 1) (by simp)).trans b2)
  have HBT := Lib.hid ((hb1.block w.heap.size (by simp; omega)).trans b1)
  clear k0 k1 k2 k3
  rcases hh with ⟨hE, _⟩ | ⟨_, A1, c1, A3, c3, Ts, rfl, hA1, hA3, hP, hK⟩
  · exact absurd HE.out hE
  have hlen : Ts.length = t.vn := by have := congrArg List.length hK; rw [List.length_map, entK_length] at this; exact this
  have hes : Ents w1 w1.heap.size A3 t.vn Ts := by rw [← hlen]; exact ownE_ents hA3 hP
  have HKY : Hid (∀ (i : Nat) (y : Ent), Ts[i]? = some y → i < t.vn ∧ y.cs = cN t.n t.fs t.ls t.ln i ∧ y.v = t.vs.getD i 0 ∧ y.n = t.n) := fun i y h => ent_key hK h
  obtain ⟨W2, hW2⟩ : ∃ W, w1.alloc (.cells #[.slice A1 t.n c1, .slice A3 t.vn c3] 36) = W := ⟨_, rfl⟩
  have hal : Below w1.heap.size w1 W2 := by rw [← hW2]; exact (Below.refl _ _).alloc (Nat.le_refl _) _
  have HX2 : Hid (W2.heap[w1.heap.size]? = some (.cells #[.slice A1 t.n c1, .slice A3 t.vn c3] 36 (0, 0))) := by rw [← hW2]; exact heap_alloc_new w1 _
  have HBR2 := Lib.hid (keep_b hal HBR.out)
  have HBT2 := Lib.hid (keep_b hal HBT.out)
  have HB2 := Lib.hid (HB.out.trans (hal.mono HB.out.size))
  have HES : Hid (Ents W2 W2.heap.size A3 t.vn Ts) := (hes.below hal).more hal.size
  have HW2 := Lib.hid hW2
  obtain ⟨g1, hg1⟩ : ∃ g, w1.heap.size = g := ⟨_, rfl⟩
  have HG1 : Hid (w.heap.size + 1 < g1) := by unfold Hid; rw [← hg1]; exact lt_of_heap HBR.out
  have HSH : Hid (Ints W2 W2.heap.size t.A t.n t.xs) := (HI.out.on HB2.out).shape
  have hn1 : t.n ≤ 20 := HF.out.1
  have hv1 : t.vn ≤ 3000 := HF.out.2.2.2.1
  rw [hg1] at HX2
  obtain ⟨l0, l1, l2, l3, _⟩ := lvCells HBT2.out
  clear hb1 b1 b2 z0 z1 HR hal hW2 hA1 hA3 hP hes hlen hK
  go_upto_region 2 with fail
  try rw [HW2.out]
  try rw [hg1]
  clear hg1
  by_cases hla : (laidF t.xs).2 = 0
  · have HLA := Lib.hid hla
    obtain ⟨N, hN, hN2⟩ : ∃ N : Nat, (laidF t.xs).1 = N ∧ N ≤ 65536 := ⟨(laidF t.xs).1.toNat, by have := (laidF_nonneg (xs := t.xs)); omega, by have := (laidF_nonneg (xs := t.xs)); omega⟩
    have HZ := refZero_ok t.A t.n t.c t.xs N W2 HSH.out (by omega) hla hN hN2
    have HN := Lib.hid hN
    clear hla hN
    go_wp2_with fail
    refine HZ.mono ?_
    rintro x w3 ⟨B1, d1, B2, d2, rfl, HA1, HA2, hb3⟩
    obtain ⟨W5, hW5⟩ : ∃ W, w3.alloc (.cells #[.slice B1 t.n d1, .slice B2 N d2] 40) = W := ⟨_, rfl⟩
    obtain ⟨g2, hg2⟩ : ∃ g, w3.heap.size = g := ⟨_, rfl⟩
    have hal : Below w3.heap.size w3 W5 := by rw [← hW5]; exact (Below.refl _ _).alloc (Nat.le_refl _) _
    have HX5 : Hid (W5.heap[g2]? = some (.cells #[.slice B1 t.n d1, .slice B2 N d2] 40 (0, 0))) := by rw [← hW5, ← hg2]; exact heap_alloc_new w3 _
    have HB5 : Hid (Below W2.heap.size W2 W5) := hb3.trans (hal.mono hb3.size)
    have HA1' : Hid (OwnI W5 W2.heap.size 3 B1 d1 t.xs) := HA1.below hal (Nat.le_refl _)
    have HA2' : Hid (OwnI W5 W2.heap.size 2 B2 d2 (List.replicate N 0)) := HA2.below hal (Nat.le_refl _)
    have HG2 : Hid (W2.heap.size ≤ g2) := by unfold Hid; rw [← hg2]; exact hb3.size
    have HW5 := Lib.hid hW5
    obtain ⟨y0, y1, _, _⟩ := pair_cells (keep_b HB5.out HX2.out)
    clear hb3 hal hW5 HA1 HA2 HZ l0 l1 l2 l3
    go_upto_region 5 with fail
    try rw [HW5.out]
    try rw [hg2]
    clear hg2
    go_wp2_with fail
    clear y0 y1
    go_loopw [33] (fun v wr => ∃ q : Nat, v = .int .i64 (q : Int) ∧ q ≤ t.vn ∧ Hid (OwnI wr W2.heap.size 2 B2 d2 (denseK t.xs (entK t q))) ∧ Hid (OwnI wr W2.heap.size 3 B1 d1 t.xs) ∧ Hid (wr.heap[g2]? = some (.cells #[.slice B1 t.n d1, .slice B2 N d2] 40 (0, 0))) ∧ Hid (Below W2.heap.size W2 wr)) (fun v _ => t.vn - (intOf v).toNat)
    case atStart => exact ⟨0, rfl, Nat.zero_le _, by unfold Hid; rw [show entK t 0 = [] from rfl, denseK_nil, HN.out, Int.toNat_natCast]; exact HA2'.out, HA1', HX5, HB5⟩
    case round =>
      obtain ⟨q, rfl, hq, HO2, HO1, HD, HBr⟩ := hrel
      have HDL : Hid ((denseK t.xs (entK t q)).length = N) := by unfold Hid; rw [denseK_length, HN.out, Int.toNat_natCast]
      by_cases hlt : q < t.vn
      · obtain ⟨bE, oE, y, rfl, hbE, HY, hc0, hc1, iy, hy1, hy2, hy3, hy4⟩ := HES.out.at_ hlt
        obtain ⟨_, hyc, hyv, hyn⟩ := HKY.out q y HY.out
        have hq2 : q < ahN t.ls t.ln := by rw [← HTK.out.2.1]; exact hlt
        obtain ⟨hat, hn0, hnN⟩ := ten_at HI.out HTK.out.1 hq2
        rw [← hyc] at hat hn0 hnN
        have hok := (laidF_ok HLA.out).2
        rw [← hok, HN.out] at hnN
        have hbr := HBr.out
        have hc2 : wr.cell? ⟨bE, oE + q * 2, none⟩ = some (.slice y.A y.n y.c) := by rw [Nat.mul_comm q 2]; exact (hbr.cell (p := ⟨bE, oE + 2 * q, none⟩) hbE).trans hc0
        have hc3 : wr.cell? ⟨bE, oE + q * 2 + 1, none⟩ = some (.int .i64 y.v) := by rw [Nat.mul_comm q 2]; exact (hbr.cell (p := ⟨bE, oE + 2 * q + 1, none⟩) hbE).trans hc1
        obtain ⟨W6, hW6⟩ : ∃ W, wr.alloc (.cells #[.slice y.A y.n y.c, .int .i64 y.v] 53) = W := ⟨_, rfl⟩
        have hal : Below wr.heap.size wr W6 := by rw [← hW6]; exact (Below.refl _ _).alloc (Nat.le_refl _) _
        have HY6 : Hid (W6.heap[wr.heap.size]? = some (.cells #[.slice y.A y.n y.c, .int .i64 y.v] 53 (0, 0))) := by rw [← hW6]; exact heap_alloc_new wr _
        have HB6 := Lib.hid (HBr.out.trans (hal.mono HBr.out.size))
        have HAT := refAtB t.A y.A t.n y.n t.c y.c t.xs y.cs W6 ((HSH.out.below HB6.out).more HB6.out.size) ((iy.below HB6.out).more HB6.out.size) (by omega) (by omega)
        obtain ⟨j, hj⟩ : ∃ j : Nat, numR t.xs y.cs = (j : Int) := ⟨(numR t.xs y.cs).toNat, by omega⟩
        rw [hat, hj] at HAT
        dsimp only at HAT
        rw [hj] at hnN
        have hjN : j < N := by omega
        have hst := stDen_step (v := y.v) HI.out HTK.out.1 hq2 (by rw [← hyc]; exact hj) (by omega) (by rw [hyv])
        have HST := Lib.hid hst
        have HO6 : Hid (OwnI W6 W2.heap.size 2 B2 d2 (denseK t.xs (entK t q))) := HO2.out.below hal (Nat.le_refl _)
        have HO7 : Hid (OwnI W6 W2.heap.size 3 B1 d1 t.xs) := HO1.out.below hal (Nat.le_refl _)
        have HD6 := Lib.hid (keep_b hal HD.out)
        obtain ⟨l0, l1, l2, l3, _⟩ := lvCells (keep_b HB6.out HBT2.out)
        obtain ⟨t0, t1, _, _⟩ := pair_cells HY6.out
        obtain ⟨d0, d1', _, _⟩ := pair_cells HD6.out
        have HVR : Hid (-9223372036854775808 ≤ y.v ∧ y.v ≤ 9223372036854775807) := ⟨by omega, by omega⟩
        have hj0 : (0 : Int) ≤ (j : Int) := by omega
        have hj3 : (j : Int) < (N : Int) := by omega
        have HW6 := Lib.hid hW6
        have hqs : (q : Int) < (t.vn : Int) := by omega
        clear hyc hyv hat hn0 hnN hok hbr hc0 hc1 iy hal hW6 hj hst HY hq2 hyn
        go_upto_region 10 with fail
        try rw [HW6.out]
        go_wp2_with fail
        refine HAT.mono ?_
        rintro x w7 ⟨rfl, hb7⟩
        have HB7 := Lib.hid (HB6.out.trans (hb7.mono HB6.out.size))
        have HD7 := Lib.hid (keep_b hb7 HD6.out)
        have HO7' : Hid (OwnI w7 W2.heap.size 2 B2 d2 (denseK t.xs (entK t q))) := HO6.out.below hb7 (Nat.le_refl _)
        have HO8' : Hid (OwnI w7 W2.heap.size 3 B1 d1 t.xs) := HO7.out.below hb7 (Nat.le_refl _)
        obtain ⟨t0', t1', _, _⟩ := pair_cells (keep_b hb7 HY6.out)
        obtain ⟨d0', d1'', _, _⟩ := pair_cells HD7.out
        rcases HO7'.out.1.2 with ⟨_, hzz⟩ | ⟨gv, cap, cur, hB2, hgb, _, _⟩
        · rw [HDL.out] at hzz; omega
        obtain rfl : B2 = some ⟨gv, 0, none⟩ := by injection hB2
        obtain ⟨z0, hz0⟩ : ∃ z, (denseK t.xs (entK t q))[j]? = some z := ⟨_, List.getElem?_eq_getElem (by rw [HDL.out]; exact hjN)⟩
        obtain ⟨hcz, hfz⟩ := HO7'.out.cell_ hz0
        have hset := HO7'.out.set_ j y.v HVR.out
        rw [HST.out] at hset
        have HS := Lib.hid hset
        have HS1 := Lib.hid (HO8'.out.other_ HO7'.out (by decide) j (.int .i64 y.v))
        have hnev := HO7'.out.ne HD7.out (by decide)
        have HS2 : Hid ((w7.setCell ⟨gv, j, none⟩ (.int .i64 y.v)).heap[g2]? = some (.cells #[.slice B1 t.n d1, .slice (some ⟨gv, 0, none⟩) N d2] 40 (0, 0))) := (Below.heap_setCell _ ⟨gv, j, none⟩ _ _ (fun e => hnev (by rw [e]))).trans HD7.out
        have HS3 := Lib.hid (HB7.out.setCell (p := ⟨gv, j, none⟩) hgb (.int .i64 y.v))
        clear hset hnev hz0 hb7 HAT l0 l1 l2 l3 t0 t1 d0 d1' hgb hB2 hc2 hc3
        go_wp2_with fail
        go_roundw
        case rel => exact ⟨q + 1, by go_num, by omega, HS, HS1, HS2, HS3⟩
        case measure => simp [intOf]; omega
      · obtain rfl : q = t.vn := by omega
        have hrv := keep_b HBr.out HBR2.out
        obtain ⟨v0, v1, vf0, vf1⟩ := pair_cells hrv
        have HRV := Lib.hid hrv
        obtain ⟨d0, d1', _, _⟩ := pair_cells HD.out
        clear hrv
        go_wp2_with fail
        have hres := set_two wr (w.heap.size + 1) _ _ (.slice B1 t.n d1) (.slice B2 N d2) _ HRV.out
        obtain ⟨s0, s1, _, _⟩ := pair_cells hres.1
        obtain ⟨wz, hwz⟩ : ∃ wz, (wr.setCell ⟨w.heap.size + 1, 0, none⟩ (.slice B1 t.n d1)).setCell ⟨w.heap.size + 1, 1, none⟩ (.slice B2 N d2) = wz := ⟨_, rfl⟩
        rw [hwz] at hres s0 s1 ⊢
        have hEz : stDenE t = 0 := by unfold stDenE; rw [if_neg (by rw [HE.out]; simp), HLA.out]
        have hlen : (stDenV t).length = N := HDL.out
        refine bodyPost_ret (v := .tuple #[.agg #[.slice B1 t.n d1, .slice B2 N d2], .int .i64 0]) (by simp [results, Try.results14, go_sem, s0, s1]) rfl ⟨(HB2.out.trans (HBr.out.mono HB2.out.size)).grown hres.2 (HB2.out.trans (HBr.out.mono HB2.out.size)).size (fun k hk => by injection hk with hk; omega), .inr ⟨hEz, B1, d1, B2, d2, by rw [hlen], ?_, ?_⟩⟩
        · exact OwnI.mono (w := wz) (base := W2.heap.size) ⟨HO1.out.1.kept hres.2 (rows_ne HO1.out.1 HRV.out (by decide)), HO1.out.2⟩ HB2.out.size
        · exact OwnI.mono (w := wz) (base := W2.heap.size) ⟨HO2.out.1.kept hres.2 (rows_ne HO2.out.1 HRV.out (by decide)), HO2.out.2⟩ HB2.out.size
  · have HZ := refZero_err t.A t.n t.c t.xs W2 HSH.out (by omega) hla
    obtain ⟨E, hEE⟩ : ∃ E, (laidF t.xs).2 = E := ⟨_, rfl⟩
    rw [hEE] at HZ hla
    have e1 : (E != 0) = true := by simpa using hla
    have HEZ : Hid (stDenE t = E) := by unfold Hid stDenE; rw [if_neg (by rw [HE.out]; simp), hEE]
    have HE0 := Lib.hid hla
    clear hla hEE
    go_wp2_with fail
    refine HZ.mono ?_
    rintro x w3 ⟨rfl, hb3⟩
    obtain ⟨W5, hW5⟩ : ∃ W, w3.alloc (.cells #[.slice none 0 0, .slice none 0 0] 40) = W := ⟨_, rfl⟩
    have hal : Below w3.heap.size w3 W5 := by rw [← hW5]; exact (Below.refl _ _).alloc (Nat.le_refl _) _
    have HB5 : Hid (Below W2.heap.size W2 W5) := hb3.trans (hal.mono hb3.size)
    have HBW : Hid (Below w.heap.size w W5) := HB2.out.trans (HB5.out.mono HB2.out.size)
    have HRV := Lib.hid (keep_b HB5.out HBR2.out)
    obtain ⟨v0, v1, vf0, vf1⟩ := pair_cells HRV.out
    have HW5 := Lib.hid hW5
    clear hb3 hal hW5 HZ l0 l1 l2 l3
    go_upto_region 5 with fail
    try rw [HW5.out]
    go_wp2_with fail
    have hres := set_two W5 (w.heap.size + 1) _ _ (.slice none 0 0) (.slice none 0 0) _ HRV.out
    obtain ⟨s0, s1, _, _⟩ := pair_cells hres.1
    obtain ⟨wz, hwz⟩ : ∃ wz, (W5.setCell ⟨w.heap.size + 1, 0, none⟩ (.slice none 0 0)).setCell ⟨w.heap.size + 1, 1, none⟩ (.slice none 0 0) = wz := ⟨_, rfl⟩
    rw [hwz] at hres s0 s1 ⊢
    exact bodyPost_ret (v := .tuple #[.agg #[.slice none 0 0, .slice none 0 0], .int .i64 E]) (by simp [results, Try.results14, go_sem, s0, s1]) rfl ⟨HBW.out.grown hres.2 HBW.out.size (fun k hk => by injection hk with hk; omega), .inl ⟨by rw [HEZ.out]; exact HE0.out, by rw [HEZ.out]⟩⟩
theorem refDense5_any (t : Ten) (w : World) (ht : t.In w w.heap.size) (hf : fewT t) : Calls Try.prog 14 #[t.val] w (StDenPost w t) := by
  by_cases hE : tenE t = 0
  · exact refDense5_ok t w ht hf hE
  · exact refDense5_err t w ht hf hE
end Go.Proofs.Yteepiifhmbcciaa
