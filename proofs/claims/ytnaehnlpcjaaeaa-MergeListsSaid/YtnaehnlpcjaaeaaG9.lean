/- The contract of purflelaw07.live. -/
import Derived.Test.YtnaehnlpcjaaeaaG8
import Derived.Test.YtnaehnlpcjaaeaaG6
import Derived.Test.YtnaehnlpcjaaeaaRows
import Derived.Test.YtnaehnlpcjaaeaaG1
import Derived.WalkKit
import Derived.ProofKit
import Derived.OpenShut
import Derived.ChangeOld
import Derived.Below
import Derived.Lib.SmallJoins
import Derived.Test.YtnaehnlpcjaaeaaG2
import Derived.Deep.Slices
import Derived.Deep.Fields
import Derived.SizedLaws
namespace Go.Proofs.Ytnaehnlpcjaaeaa
open Go.RowKit

theorem belowM (w : World) (o : Obj) : Below w.heap.size w (w.alloc o) := (Below.refl _ _).alloc (Nat.le_refl _) _
theorem live_ord {e : Ending} {w w' : World} {o : List Int} (h : StepsO [[2], [], [1]] 3 o) (hc : (o.length = 3 ∧ ∃ A c, e = .returned (.tuple #[.slice A 3 c, .int .i64 0]) ∧ OwnI w' w.heap.size 3 A c o) ∨ (o.length < 3 ∧ (∀ j, ¬ MayO [[2], [], [1]] 3 o j) ∧ e = .returned (.tuple #[.slice none 0 0, .int .i64 5]))) :
    ∃ A c, e = .returned (.tuple #[.slice A 3 c, .int .i64 0]) ∧ Ints w' w'.heap.size A 3 [1, 2, 0] := by
  rcases hc with ⟨hl, A, c, rfl, hO⟩ | ⟨hl, hn, rfl⟩
  · have := live_order h (fun hh => absurd hh (by omega)) (by omega)
    subst this
    exact ⟨A, c, rfl, hO.ints⟩
  · have := live_order h (fun _ => hn) (by omega)
    subst this
    simp at hl
theorem liveR1 (w : World) : IntsLL (((w.alloc (.cells #[.int .i64 1, .int .i64 3] 3)).alloc (.cells #[.int .i64 3] 3)).alloc (.cells #[.slice (some ⟨w.heap.size, 0, none⟩) 2 2, .slice (some ⟨w.heap.size + 1, 0, none⟩) 1 1] 25)) (w.heap.size + 1 + 1 + 1) (some ⟨w.heap.size + 1 + 1, 0, none⟩) 2 [[1, 3], [3]] := by
  have a1 := (Ints.of_new w 3 [1, 3] (by simp)).alloc (by simp) (.cells #[.int .i64 3] 3)
  have a2 := Ints.of_new (w.alloc (.cells #[.int .i64 1, .int .i64 3] 3)) 3 [3] (by simp)
  have hs : ((w.alloc (.cells #[.int .i64 1, .int .i64 3] 3)).alloc (.cells #[.int .i64 3] 3)).heap.size = w.heap.size + 1 + 1 := by simp
  simp only [World.size_alloc] at a2
  have h := ((Heads.nil_ ((w.alloc (.cells #[.int .i64 1, .int .i64 3] 3)).alloc (.cells #[.int .i64 3] 3)) ((w.alloc (.cells #[.int .i64 1, .int .i64 3] 3)).alloc (.cells #[.int .i64 3] 3)).heap.size).cons (c := 1) rfl (Nat.le_refl _) (a2.more (by omega))).cons (c := 2) rfl (Nat.le_refl _) (a1.more (by omega))
  have := h.new
  rw [hs] at this
  exact this
theorem liveR2 (w : World) : IntsLL (((w.alloc (.cells #[.int .i64 2] 3)).alloc (.cells #[.int .i64 1] 3)).alloc (.cells #[.slice (some ⟨w.heap.size, 0, none⟩) 1 1, .slice none 0 0, .slice (some ⟨w.heap.size + 1, 0, none⟩) 1 1] 25)) (w.heap.size + 1 + 1 + 1) (some ⟨w.heap.size + 1 + 1, 0, none⟩) 3 [[2], [], [1]] := by
  have a1 := (Ints.of_new w 3 [2] (by simp)).alloc (by simp) (.cells #[.int .i64 1] 3)
  have a2 := Ints.of_new (w.alloc (.cells #[.int .i64 2] 3)) 3 [1] (by simp)
  have hs : ((w.alloc (.cells #[.int .i64 2] 3)).alloc (.cells #[.int .i64 1] 3)).heap.size = w.heap.size + 1 + 1 := by simp
  simp only [World.size_alloc] at a2
  have h := (((Heads.nil_ ((w.alloc (.cells #[.int .i64 2] 3)).alloc (.cells #[.int .i64 1] 3)) ((w.alloc (.cells #[.int .i64 2] 3)).alloc (.cells #[.int .i64 1] 3)).heap.size).cons (c := 1) rfl (Nat.le_refl _) (a2.more (by omega))).cons (a := none) (L := []) rfl (Nat.le_refl 0) Ints.nil_).cons (c := 1) rfl (Nat.le_refl _) (a1.more (by omega))
  have := h.new
  rw [hs] at this
  exact this
theorem liveS (w : World) : Stops (((w.alloc (.cells #[.int .i64 0, .int .i64 (-1)] 3)).alloc (.cells #[.int .i64 1, .int .i64 0] 3)).alloc (.cells #[.int .i64 1, .slice (some ⟨w.heap.size, 0, none⟩) 2 2, .int .i64 3, .slice (some ⟨w.heap.size + 1, 0, none⟩) 2 2] 36)) (w.heap.size + 1 + 1 + 1) (some ⟨w.heap.size + 1 + 1, 0, none⟩) 2 [⟨1, some ⟨w.heap.size, 0, none⟩, 2, 2, [0, -1]⟩, ⟨3, some ⟨w.heap.size + 1, 0, none⟩, 2, 2, [1, 0]⟩] := by
  have a1 := (Ints.of_new w 3 [0, -1] (by simp)).alloc (by simp) (.cells #[.int .i64 1, .int .i64 0] 3)
  have a2 := Ints.of_new (w.alloc (.cells #[.int .i64 0, .int .i64 (-1)] 3)) 3 [1, 0] (by simp)
  have hs : ((w.alloc (.cells #[.int .i64 0, .int .i64 (-1)] 3)).alloc (.cells #[.int .i64 1, .int .i64 0] 3)).heap.size = w.heap.size + 1 + 1 := by simp
  simp only [World.size_alloc] at a2
  have h := Stops.new (W := (w.alloc (.cells #[.int .i64 0, .int .i64 (-1)] 3)).alloc (.cells #[.int .i64 1, .int .i64 0] 3)) (ss := [⟨1, some ⟨w.heap.size, 0, none⟩, 2, 2, [0, -1]⟩, ⟨3, some ⟨w.heap.size + 1, 0, none⟩, 2, 2, [1, 0]⟩]) (fun x hx => by
    rw [hs]
    rcases List.mem_cons.1 hx with rfl | hx
    · exact ⟨a1.more (by omega), by simp, by simp, by simp⟩
    · rw [List.mem_singleton.1 hx]
      exact ⟨a2.more (by omega), by simp, by simp, by simp⟩)
  rw [hs] at h
  exact h
set_option maxRecDepth 100000 in
set_option maxHeartbeats 4000000 in
theorem mLive_any (w : World) : Calls Try.prog 9 #[] w fun e w' => e = .returned (.bool true) ∧ Below w.heap.size w w' := by
  have c1 := walk_ok (some ⟨w.heap.size + 1 + 1, 0, none⟩) 2 2 [[1, 3], [3]] _ ((liveR1 w).more (by simp)) (by omega) (by simp) (by intro L hL; simp at hL; rcases hL with rfl | rfl <;> simp)
  have hb0 := (((belowM w (.cells #[.int .i64 1, .int .i64 3] 3)).alloc (by simp) (.cells #[.int .i64 3] 3)).alloc (by simp; omega) (.cells #[.slice (some ⟨w.heap.size, 0, none⟩) 2 2, .slice (some ⟨w.heap.size + 1, 0, none⟩) 1 1] 25))
  go_enter Try.func9, Try.ntmps9
  go_wp2_with fail
  refine c1.mono ?_
  rintro e w1 ⟨ss, A, r, c, rfl, hr, hrc, hWI, hSt, hb1⟩
  have hb2 := Lib.hid (hb0.trans (hb1.mono hb0.size))
  have HK := Lib.hid (live_keys hWI)
  have HN : Hid (∀ s ∈ ss, s.n = 2) := fun s hs => (hWI.ins s hs).1
  have HST := Lib.hid hSt
  have HRL := Lib.hid hr
  have c2 := order_in (some ⟨w1.heap.size + 1 + 1, 0, none⟩) 3 3 [[2], [], [1]] _ ((liveR2 w1).more (by simp)) (by omega) (by simp) (by simp)
  have hb3 := Lib.hid ((((belowM w1 (.cells #[.int .i64 2] 3)).alloc (by simp) (.cells #[.int .i64 1] 3)).alloc (by simp; omega) (.cells #[.slice (some ⟨w1.heap.size, 0, none⟩) 1 1, .slice none 0 0, .slice (some ⟨w1.heap.size + 1, 0, none⟩) 1 1] 25)))
  clear c1 hb0 hb1 hWI hSt hr hrc
  go_wp2_with fail
  refine c2.mono ?_
  rintro e w2 ⟨o, hSO, hcase, hb4⟩
  obtain ⟨A2, cc2, rfl, hO2⟩ := live_ord hSO hcase
  have hb5 := hb3.out.trans (hb4.mono hb3.out.size)
  have HS5 := Lib.hid ((HST.out.below hb5).more hb5.size)
  have HB5 := Lib.hid (hb2.out.trans (hb5.mono hb2.out.size))
  have HO2 := Lib.hid hO2
  clear c2 hb2 hb3 hb4 hb5 HST hSO hcase hO2
  have hb6 := (((belowM w2 (.cells #[.int .i64 0, .int .i64 (-1)] 3)).alloc (by simp) (.cells #[.int .i64 1, .int .i64 0] 3)).alloc (by simp; omega) (.cells #[.int .i64 1, .slice (some ⟨w2.heap.size, 0, none⟩) 2 2, .int .i64 3, .slice (some ⟨w2.heap.size + 1, 0, none⟩) 2 2] 36))
  have c3 := refSameStops_any A (some ⟨w2.heap.size + 1 + 1, 0, none⟩) r 2 c 2 ss [⟨1, some ⟨w2.heap.size, 0, none⟩, 2, 2, [0, -1]⟩, ⟨3, some ⟨w2.heap.size + 1, 0, none⟩, 2, 2, [1, 0]⟩] _ ((HS5.out.below hb6).more hb6.size) ((liveS w2).more (by simp)) (by have := congrArg List.length HK.out; rw [List.length_map, HRL.out] at this; simp at this; omega) (by omega) (fun s hs => by rw [HN.out s hs]; omega) (by intro s hs; simp at hs; rcases hs with rfl | rfl <;> simp)
  rw [HK.out] at c3
  have hd : decide ([((1 : Int), [(0 : Int), -1]), (3, [1, 0])] = List.map keyS [⟨1, some ⟨w2.heap.size, 0, none⟩, 2, 2, [0, -1]⟩, ⟨3, some ⟨w2.heap.size + 1, 0, none⟩, 2, 2, [1, 0]⟩]) = true := rfl
  rw [hd] at c3
  have HB6 := Lib.hid hb6
  clear hd hb6
  go_wp2_with fail
  refine c3.mono ?_
  rintro e w3 ⟨rfl, q3, hw3⟩
  have hb7 : Below w2.heap.size w2 w3 := by rw [hw3]; exact ⟨HB6.out.os, HB6.out.tape, HB6.out.output, HB6.out.size, HB6.out.block⟩
  have h1 := ((HO2.out.below hb7).more hb7.size).alloc' (.cells #[.int .i64 1, .int .i64 2, .int .i64 0] 3)
  have h2 := (Ints.of_new w3 3 [1, 2, 0] (by simp)).more (B' := (w3.alloc (.cells #[.int .i64 1, .int .i64 2, .int .i64 0] 3)).heap.size) (by simp)
  have c4 := refEqual_any A2 (some ⟨w3.heap.size, 0, none⟩) 3 3 cc2 3 [1, 2, 0] [1, 2, 0] _ _ h1 h2 (by omega) (by omega)
  rw [decide_eq_true rfl] at c4
  have HB7 := Lib.hid hb7
  clear h1 h2 hb7 hw3 c3
  go_wp2_with fail
  refine c4.mono ?_
  rintro e w4 ⟨rfl, q4, hw4⟩
  have hb8 := HB7.out.trans ((belowM w3 (.cells #[.int .i64 1, .int .i64 2, .int .i64 0] 3)).mono HB7.out.size)
  have hb9 : Below w2.heap.size w2 w4 := by rw [hw4]; exact ⟨hb8.os, hb8.tape, hb8.output, hb8.size, hb8.block⟩
  have HB9 := Lib.hid (HB5.out.trans (hb9.mono HB5.out.size))
  clear hb8 hb9 hw4 c4
  go_wp2_with fail
  go_ret
  exact ⟨rfl, HB9.out⟩
end Go.Proofs.Ytnaehnlpcjaaeaa
/- The contract of purflelaw07.few. -/
namespace Go.Proofs.Ytnaehnlpcjaaeaa
open Go.RowKit

set_option maxRecDepth 100000 in
set_option maxHeartbeats 4000000 in
theorem few_big (A : Option Addr) (n c B : Nat) (LL : List (List Int)) (w : World) (h : IntsLL w B A n LL) (hn : n ≤ 5864062014805) (hbig : 50 < n) :
    Calls Try.prog 10 #[.slice A n c] w fun e w' => e = .returned (.bool false) ∧ ∃ q, w' = w.drewN q := by
  go_enter Try.func10, Try.ntmps10
  go_wp2
  go_loopw [3, 8] (fun u v wr => ∃ (k q : Nat) (x : Int), u = .int .i64 x ∧ v = .int .i64 (k : Int) ∧ k ≤ n ∧ wr = w.drewN q) (fun _ v _ => n - (intOf v).toNat)
  case atStart => exact ⟨0, 0, 0, rfl, rfl, Nat.zero_le _, rfl⟩
  case round =>
    obtain ⟨k, q, x, rfl, rfl, hk, rfl⟩ := hrel
    by_cases hlt : k < n
    · obtain ⟨b, off, L, a, lc, rfl, _, HX, hc, hcap, hI⟩ := h.at_ hlt
      have k0 : (0 : Int) ≤ (k : Int) := by omega
      have k1 : (k : Int) < (n : Int) := by omega
      clear hI
      go_wp2
      go_roundw
      case rel => exact ⟨k + 1, q, _, rfl, by go_num, by omega, by first | trivial | rfl⟩
      case measure => simp [intOf]; omega
    · obtain rfl : k = n := by omega
      have d1 : decide ((k : Int) ≤ 50) = false := decide_eq_false (by omega)
      clear hlt
      go_wp2
      go_ret
      exact ⟨rfl, _, rfl⟩
set_option maxRecDepth 100000 in
set_option maxHeartbeats 4000000 in
theorem few_small (A : Option Addr) (n c B : Nat) (LL : List (List Int)) (w : World) (h : IntsLL w B A n LL) (hL : ∀ L ∈ LL, L.length ≤ 17592186044416) (hs : n ≤ 50) (R : Bool) (HR : Hid (decide (LL.flatten.length ≤ 500) = R)) :
    Calls Try.prog 10 #[.slice A n c] w fun e w' => e = .returned (.bool R) ∧ ∃ q, w' = w.drewN q := by
  have HLN : Hid (LL.length = n) := h.1
  have HLB := Lib.hid hL
  have key : ∀ k, k ≤ n → (LL.take k).flatten.length ≤ k * 17592186044416 := by
    intro k
    induction k with
    | zero => intro _; simp
    | succ k ih =>
      intro hk
      have hkl : k < LL.length := by have := HLN.out; omega
      have h1 := ih (by omega)
      have h2 := hL _ (List.getElem_mem hkl)
      rw [take_succ_of (List.getElem?_eq_getElem hkl), List.flatten_append, List.length_append]
      simp
      simp at h1
      omega
  have HKEY := Lib.hid key
  clear hL key
  go_enter Try.func10, Try.ntmps10
  go_wp2
  go_loopw [3, 8] (fun u v wr => ∃ (k q t : Nat), u = .int .i64 (t : Int) ∧ v = .int .i64 (k : Int) ∧ k ≤ n ∧ Hid ((LL.take k).flatten.length = t) ∧ wr = w.drewN q) (fun _ v _ => n - (intOf v).toNat)
  case atStart => exact ⟨0, 0, 0, rfl, rfl, Nat.zero_le _, by unfold Hid; simp, rfl⟩
  case round =>
    obtain ⟨k, q, t, rfl, rfl, hk, HT, rfl⟩ := hrel
    by_cases hlt : k < n
    · obtain ⟨b, off, L, a, lc, rfl, _, HX, hc, hcap, hI⟩ := h.at_ hlt
      have k0 : (0 : Int) ≤ (k : Int) := by omega
      have k1 : (k : Int) < (n : Int) := by omega
      have hLb := HLB.out L (List.mem_of_getElem? HX.out)
      have hT1 := HKEY.out k (by omega)
      rw [HT.out] at hT1
      have HT2 : Hid ((LL.take (k + 1)).flatten.length = t + L.length) := by
        unfold Hid
        rw [take_succ_of HX.out, List.flatten_append, List.length_append, HT.out]; simp
      obtain ⟨M, hM⟩ : ∃ M, L.length = M := ⟨_, rfl⟩
      rw [hM] at hc hcap hLb HT2
      have wt : IntKind.i64.wrap ((t : Int) + (M : Int)) = ((t + M : Nat) : Int) := by rw [wrap_eq, IntWalk.wrap64_in _ ⟨by omega, by omega⟩]; omega
      clear hI hM
      go_wp2
      go_roundw
      case rel => exact ⟨k + 1, q, t + M, rfl, by go_num, by omega, HT2, by first | trivial | rfl⟩
      case measure => simp [intOf]; omega
    · obtain rfl : k = n := by omega
      have he : LL.take k = LL := by rw [← HLN.out, List.take_length]
      rw [he] at HT
      have hR := HR.out
      rw [HT.out] at hR
      have d1 : decide ((k : Int) ≤ 50) = true := decide_eq_true (by omega)
      have HRR := Lib.hid hR
      have d2 : decide ((t : Int) ≤ 500) = R := by rw [← hR]; simp; omega
      clear hlt he hR
      go_wp2
      go_ret
      exact ⟨rfl, _, rfl⟩
end Go.Proofs.Ytnaehnlpcjaaeaa
/- merge.Least. -/
namespace Go.Proofs.Ytnaehnlpcjaaeaa
open Go.RowKit

/-- m is the least of them -/
def IsLeast (xs : List Int) (m : Int) : Prop := m ∈ xs ∧ ∀ y ∈ xs, m ≤ y
theorem least_step {xs : List Int} {k : Nat} {x y : Int} (h : IsLeast (xs.take k) x) (hy : xs[k]? = some y) : IsLeast (xs.take (k + 1)) (min x y) := by
  rw [take_succ_of hy]
  refine ⟨?_, fun z hz => ?_⟩
  · rcases Int.le_total x y with h1 | h1
    · rw [Int.min_eq_left h1]; exact List.mem_append.2 (.inl h.1)
    · rw [Int.min_eq_right h1]; exact List.mem_append.2 (.inr (by simp))
  · rcases List.mem_append.1 hz with hz | hz
    · have := h.2 z hz; omega
    · rw [List.mem_singleton.1 hz]; omega
set_option maxRecDepth 100000 in
set_option maxHeartbeats 4000000 in
theorem sliceMin (A : Option Addr) (n c B : Nat) (xs : List Int) (w : World) (h : Ints w B A n xs) (h0 : 0 < n) (hn : n ≤ 100000) :
    Calls Try.prog 41 #[.slice A n c] w fun e w' => ∃ m, e = .returned (.int .i64 m) ∧ IsLeast xs m ∧ ∃ q, w' = w.drewN q := by
  have HL : Hid (xs.length = n) := h.1
  obtain ⟨b0, off0, x0, rfl, _, HX0, hc0, _, _⟩ := h.at_ h0
  rw [Nat.add_zero] at hc0
  have d0 : decide ((n : Int) < 1) = false := decide_eq_false (by omega)
  have z0 : (0 : Int) < (n : Int) := by omega
  go_enter Try.func41, Try.ntmps41
  go_wp2
  go_loopw [3, 4] (fun u v wr => ∃ (k q : Nat) (x : Int), u = .int .i64 x ∧ v = .int .i64 (k : Int) ∧ 1 ≤ k ∧ k ≤ n ∧ Hid (IsLeast (xs.take k) x) ∧ wr = w.drewN q) (fun _ v _ => n - (intOf v).toNat)
  case atStart =>
    have e : xs.take 1 = [x0] := by
      have := take_succ_of (k := 0) HX0.out
      simpa using this
    exact ⟨1, 0, x0, rfl, rfl, Nat.le_refl _, h0, by unfold Hid IsLeast; rw [e]; simp, rfl⟩
  case round =>
    obtain ⟨k, q, x, rfl, rfl, hk1, hkn, HM, rfl⟩ := hrel
    by_cases hlt : k < n
    · obtain ⟨b, off, y, hA, _, HY, hcy, hy1, hy2⟩ := h.at_ hlt
      injection hA with hA
      injection hA with e1 e2
      subst e1 e2
      have HN := Lib.hid (least_step HM.out HY.out)
      have k0 : (0 : Int) ≤ (k : Int) := by omega
      have k2 : (k : Int) < (n : Int) := by omega
      go_wp2
      have e : (if y < x then y else x) = min x y := by rw [Int.min_def]; split <;> split <;> omega
      rw [e]
      refine ⟨⟨k + 1, q, min x y, rfl, by go_num, by omega, by omega, HN, rfl⟩, ?_⟩
      simp [intOf]; omega
    · obtain rfl : k = n := by omega
      have HE : Hid (IsLeast xs x) := by
        have := HM.out
        rwa [← HL.out, List.take_length] at this
      clear hlt
      go_wp2
      go_ret
      exact ⟨x, rfl, HE.out, _, rfl⟩
set_option maxRecDepth 100000 in
set_option maxHeartbeats 4000000 in
theorem sliceIndex (A : Option Addr) (n c B : Nat) (xs : List Int) (m : Int) (w : World) (h : Ints w B A n xs) (hm : m ∈ xs) (hn : n ≤ 100000) :
    Calls Try.prog 40 #[.slice A n c, .int .i64 m] w fun e w' => ∃ i : Nat, e = .returned (.int .i64 i) ∧ xs[i]? = some m ∧ (∀ j, j < i → xs[j]? ≠ some m) ∧ ∃ q, w' = w.drewN q := by
  have HL : Hid (xs.length = n) := h.1
  have HM := Lib.hid hm
  clear hm
  go_enter Try.func40, Try.ntmps40
  go_wp2
  go_loopw [8] (fun v wr => ∃ (k q : Nat), v = .int .i64 (k : Int) ∧ k ≤ n ∧ Hid (∀ j, j < k → xs[j]? ≠ some m) ∧ wr = w.drewN q) (fun v _ => n - (intOf v).toNat)
  case atStart => exact ⟨0, 0, rfl, Nat.zero_le _, fun j hj => absurd hj (by omega), rfl⟩
  case round =>
    obtain ⟨k, q, rfl, hkn, HN, rfl⟩ := hrel
    by_cases hlt : k < n
    · obtain ⟨b, off, y, rfl, _, HY, hcy, hy1, hy2⟩ := h.at_ hlt
      have k0 : (0 : Int) ≤ (k : Int) := by omega
      have k2 : (k : Int) < (n : Int) := by omega
      by_cases hym : m = y
      · subst hym
        go_wp2
        go_ret
        exact ⟨k, rfl, HY.out, HN.out, _, rfl⟩
      · have HNN : Hid (∀ j, j < k + 1 → xs[j]? ≠ some m) := fun j hj => by
          by_cases e : j = k
          · subst e
            rw [HY.out]
            exact fun h => hym (Option.some.inj h).symm
          · exact HN.out j (by omega)
        go_wp2
        go_roundw
        case rel => exact ⟨k + 1, _, by go_num, by omega, HNN, rfl⟩
        case measure => simp [intOf]; omega
    · exact absurd HM.out (fun hm => by
        obtain ⟨j, hj, e⟩ := List.getElem_of_mem hm
        exact HN.out j (by have := HL.out; omega) (by rw [List.getElem?_eq_getElem hj, e]))
set_option maxRecDepth 100000 in
theorem least_ok (A : Option Addr) (n c B : Nat) (xs : List Int) (w : World) (h : Ints w B A n xs) (h0 : 0 < n) (hn : n ≤ 100000) :
    Calls Try.prog 24 #[.slice A n c] w fun e w' => ∃ (i : Nat) (m : Int), e = .returned (.tuple #[.int .i64 i, .bool true]) ∧ IsLeast xs m ∧ xs[i]? = some m ∧ (∀ j, j < i → xs[j]? ≠ some m) ∧ ∃ q, w' = w.drewN q := by
  have cM := sliceMin A n c B xs w h h0 hn
  have cI := fun (m : Int) (hm : m ∈ xs) (q : Nat) => sliceIndex A n c B xs m (w.drewN q) h hm hn
  clear h
  go_enter Try.func24, Try.ntmps24
  go_wp2_with (first | (go_at_call 41; refine cM.mono ?_; rintro e w2 ⟨m, rfl, hm, q2, rfl⟩; have HIM := Lib.hid hm; clear hm) | (go_at_call 40; refine (cI _ HIM.out.1 _).mono ?_; rintro e w3 ⟨i, rfl, hi1, hi2, q3, rfl⟩))
  go_ret2
  exact ⟨i, m, rfl, HIM.out, hi1, hi2, _, rfl⟩
set_option maxRecDepth 100000 in
theorem least_none (A : Option Addr) (c : Nat) (w : World) : Calls Try.prog 24 #[.slice A 0 c] w fun e w' => e = .returned (.tuple #[.int .i64 0, .bool false]) ∧ ∃ q, w' = w.drewN q := by
  go_enter Try.func24, Try.ntmps24
  go_wp2
  go_ret2
  exact ⟨rfl, 0, rfl⟩
end Go.Proofs.Ytnaehnlpcjaaeaa
/- How the arguments of the statements read: slices of integers, dense tensors, integers. -/
namespace Go.Proofs.Ytnaehnlpcjaaeaa
open Go.ChangeShapes Go.WideShapes Go.ChangeAt Go.RowKit

set_option maxRecDepth 100000 in
theorem own : ownKnob Try.prog.godebug = none := by kernel_rfl
set_option maxRecDepth 100000 in
theorem laidOut : laidOutB Try.prog = true := by kernel_rfl

theorem lt_of_cell {w : World} {a : Addr} {v : Value} (h : w.cell? a = some v) : a.block < w.heap.size := by
  rcases Nat.lt_or_ge a.block w.heap.size with hlt | hge
  · exact hlt
  · have : w.heap[a.block]? = none := Array.getElem?_eq_none hge
    simp [World.cell?, this] at h

theorem wf_bounds {n : Int} (h : (Lit.int .i64 n).wf = true) : -9223372036854775808 ≤ n ∧ n ≤ 9223372036854775807 := by
  simp [Lit.wf, IntKind.min, IntKind.max, IntKind.signed, IntKind.bits] at h
  omega

theorem ints_of_row {w : World} {x : Addr} {len : Nat} {zs : List Int} (hz : len ≤ zs.length) (hcell : ∀ i, i < zs.length → w.cell? (x.add i) = some (.int .i64 (zs.getD i 0))) (hwz : ∀ n ∈ zs, (Lit.int .i64 n).wf = true) :
    Ints w w.heap.size (some x) len (zs.take len) := by
  refine ⟨by rw [List.length_take]; omega, fun n hn => wf_bounds (hwz n (List.mem_of_mem_take hn)), fun h0 => ?_⟩
  obtain ⟨b, off, spot⟩ := x
  have hc := hcell 0 (by omega)
  have hspot : spot = none := by simpa [Addr.add] using World.cell?_spot hc
  subst hspot
  have hlt : b < w.heap.size := by have := lt_of_cell hc; simpa [Addr.add] using this
  refine ⟨b, off, rfl, hlt, fun k y hy => ?_⟩
  have hk : k < len := by have := (List.getElem?_eq_some_iff.1 hy).1; rw [List.length_take] at this; omega
  have h1 := hcell k (by omega)
  have h2 : zs.getD k 0 = y := by
    rw [List.getElem?_take, if_pos hk] at hy
    simp [List.getD, hy]
  rw [h2] at h1
  by_cases hk0 : k = 0
  · subst hk0; simpa [Addr.add] using h1
  · simpa [Addr.add, hk0] using h1

section
variable {H : Type} {enc : TypeId × Value → H} {w : World} {base : Nat} {spare : Nat → Bool} {held : Bool}
/-- a []int, or a []int64, that came in -/
theorem open_nums {t e : TypeId} {v : Value} {d : DataW H} {p : List MemPlace} (ht : Try.prog.underlying t = some (.slice e)) (he : Try.prog.underlying e = some (.int .i64)) (hC : Try.prog.cellsOf e = 1) (hf : ∃ a n c, v = .slice a n c) (h : DataW.Trod enc Try.prog w base spare held t v d p) :
    ∃ A n c xs, v = .slice A n c ∧ Ints w w.heap.size A n xs ∧ n ≤ 9223372036854775807 := by
  obtain ⟨a0, len0, cap0, rfl⟩ := hf
  obtain ⟨fuel, hf⟩ := h
  rcases open_ints ht he hC hf with ⟨hcs, _⟩ | ⟨x, l, c, zs, hcs, _, hl, hm, hz, _, hcell, hwz⟩
  · simp [Value.cells] at hcs
    obtain ⟨rfl, rfl, rfl⟩ := hcs
    exact ⟨none, 0, 0, [], rfl, Ints.nil_, by omega⟩
  · simp [Value.cells] at hcs
    obtain ⟨rfl, rfl, rfl⟩ := hcs
    have hz' : len0 ≤ zs.length := by split at hz <;> omega
    refine ⟨_, _, _, _, rfl, ints_of_row hz' hcell hwz, ?_⟩
    unfold maxLen at hm
    omega
end
end Go.Proofs.Ytnaehnlpcjaaeaa
/- How a slice of integers that came in reads, with its room. -/
namespace Go.Proofs.Ytnaehnlpcjaaeaa
open Go.ChangeShapes Go.WideShapes Go.ChangeAt Go.RowKit

section
variable {H : Type} {enc : TypeId × Value → H} {w : World} {base : Nat} {spare : Nat → Bool} {held : Bool}
/-- the same, and its room -/
theorem open_numsc {t e : TypeId} {v : Value} {d : DataW H} {p : List MemPlace} (ht : Try.prog.underlying t = some (.slice e)) (he : Try.prog.underlying e = some (.int .i64)) (hC : Try.prog.cellsOf e = 1) (hf : ∃ a n c, v = .slice a n c) (h : DataW.Trod enc Try.prog w base spare held t v d p) :
    ∃ A n c xs, v = .slice A n c ∧ Ints w w.heap.size A n xs ∧ n ≤ 9223372036854775807 ∧ n ≤ c := by
  obtain ⟨a0, len0, cap0, rfl⟩ := hf
  obtain ⟨fuel, hf⟩ := h
  rcases open_ints ht he hC hf with ⟨hcs, _⟩ | ⟨x, l, c, zs, hcs, _, hl, hm, hz, _, hcell, hwz⟩
  · simp [Value.cells] at hcs
    obtain ⟨rfl, rfl, rfl⟩ := hcs
    exact ⟨none, 0, 0, [], rfl, Ints.nil_, by omega, Nat.le_refl _⟩
  · simp [Value.cells] at hcs
    obtain ⟨rfl, rfl, rfl⟩ := hcs
    have hz' : len0 ≤ zs.length := by split at hz <;> omega
    refine ⟨_, _, _, _, rfl, ints_of_row hz' hcell hwz, ?_, hl⟩
    unfold maxLen at hm
    omega
end
end Go.Proofs.Ytnaehnlpcjaaeaa
/- How a slice of slices of integers that came in reads. -/
namespace Go.Proofs.Ytnaehnlpcjaaeaa
open Go.ChangeShapes Go.WideShapes Go.ChangeAt Go.RowKit Go.Deep

section
variable {H : Type} {enc : TypeId × Value → H} {w : World} {base : Nat} {spare : Nat → Bool} {held : Bool}
set_option maxRecDepth 100000 in
theorem bytesInt : Try.prog.bytesOf 3 = 8 := by kernel_rfl
set_option maxRecDepth 100000 in
theorem bytesRow : Try.prog.bytesOf 25 = 24 := by kernel_rfl
theorem weightsAll_mem {P : Program} {t : TypeId} {d : DataW H} {x : Nat} : ∀ {ds : List (DataW H)}, d ∈ ds → x ∈ d.weights P t → x ∈ DataW.weightsAll P t ds
  | d' :: r, hm, hx => by
    rcases List.mem_cons.1 hm with rfl | hm
    · simp [DataW.weightsAll, hx]
    · simp [DataW.weightsAll, weightsAll_mem hm hx]
set_option maxRecDepth 100000 in
theorem one_row {fuel : Nat} {a : Addr} {cs : List Value} {x : DataW H × List MemPlace} (hl : cs.length = 1) (hc : ∀ i, i < 1 → w.cell? (a.add i) = cs[i]?) (h : DataW.trod enc Try.prog w base spare held fuel 25 cs = some x) (hw : ∀ y ∈ x.1.weights Try.prog 25, y ≤ reachBytes) :
    ∃ (A : Option Addr) (n c : Nat) (L : List Int), w.cell? a = some (.slice A n c) ∧ Ints w w.heap.size A n L ∧ n ≤ 17592186044416 ∧ n ≤ c := by
  match cs, hl with
  | [v], _ =>
    obtain ⟨a0, l0, c0, e0⟩ := Go.Joins.slice_form Try.underlying25 h
    simp only [List.cons.injEq, and_true] at e0
    subst e0
    obtain ⟨A, n, c, L, f, i, b, g⟩ := open_numsc Try.underlying25 Try.underlying3 (by kernel_rfl) ⟨_, _, _, rfl⟩ (⟨fuel, h⟩ : DataW.Trod enc Try.prog w base spare held 25 (.slice a0 l0 c0) x.1 x.2)
    have hn : n ≤ 17592186044416 := by
      rcases open_slice Try.underlying25 h with ⟨hcs, _⟩ | ⟨x0, l, c, m, k, D, Pl, hcs, _, _, _, hmm, hx, _⟩
      · simp only [List.cons.injEq, and_true] at hcs
        rw [f] at hcs
        injection hcs with _ hcs _
        omega
      · simp only [List.cons.injEq, and_true] at hcs
        rw [f] at hcs
        injection hcs with _ hcs _
        have := hw ((((List.range l).map D).length + ((List.range (m - l)).map fun j => D (l + j)).length) * Try.prog.bytesOf 3) (by rw [hx]; simp [DataW.weights, Try.underlying25])
        rw [bytesInt] at this
        simp only [List.length_map, List.length_range, reachBytes] at this
        omega
    refine ⟨A, n, c, L, ?_, i, hn, g⟩
    have := hc 0 (by omega)
    rw [← f]
    simpa [Addr.add] using this
theorem add_one_ (b off i : Nat) : (Addr.add ⟨b, off, none⟩ i : Addr) = ⟨b, off + i, none⟩ := by
  by_cases h : i = 0
  · subst h; simp [Addr.add]
  · simp [Addr.add, h]
set_option maxRecDepth 100000 in
/-- a [][]int that came in -/
theorem open_rows {v : Value} {d : DataW H} {p : List MemPlace} (hf : ∃ a n c, v = .slice a n c) (h : DataW.Trod enc Try.prog w base spare held 22 v d p) (hw : ∀ y ∈ d.weights Try.prog 22, y ≤ reachBytes) :
    ∃ A n c LL, v = .slice A n c ∧ IntsLL w w.heap.size A n LL ∧ n ≤ 5864062014805 ∧ n ≤ c ∧ ∀ L ∈ LL, L.length ≤ 17592186044416 := by
  obtain ⟨a0, len0, cap0, rfl⟩ := hf
  obtain ⟨fuel, hf⟩ := h
  rcases open_slice Try.underlying22 hf with ⟨hcs, _⟩ | ⟨x, l, c, m, k, D, Pl, hcs, _, hl, hm, hmm, hx, hi⟩
  · simp [Value.cells] at hcs
    obtain ⟨rfl, rfl, rfl⟩ := hcs
    exact ⟨none, 0, 0, [], rfl, IntsLL.nil_ _ _ _, by omega, Nat.le_refl _, by simp⟩
  · simp [Value.cells] at hcs
    obtain ⟨rfl, rfl, rfl⟩ := hcs
    have hC : Try.prog.cellsOf 25 = 1 := by kernel_rfl
    have key : ∀ i, i < len0 → ∃ (L : List Int) (A : Option Addr) (n c : Nat), w.cell? (x.add i) = some (.slice A n c) ∧ Ints w w.heap.size A n L ∧ n ≤ 17592186044416 ∧ n ≤ c := by
      intro i hil
      have hml : len0 ≤ m := by rw [hmm]; split <;> omega
      obtain ⟨cs', hc, ht'⟩ := hi i (by omega)
      rw [hC, Nat.mul_one] at hc
      obtain ⟨_, hlen, hat⟩ := World.cells?_some hc
      obtain ⟨A, n, c, L, h1, h2, h3, h4⟩ := one_row hlen hat ht' (fun y hy => hw y (by
        have hd : d = .slice ((List.range len0).map D) ((List.range (m - len0)).map fun j => D (len0 + j)) := by injection hx
        rw [hd]
        simp only [DataW.weights, Try.underlying22]
        exact List.mem_cons_of_mem _ (List.mem_append_left _ (weightsAll_mem (d := D i) (List.mem_map.2 ⟨i, List.mem_range.2 hil, rfl⟩) hy))))
      exact ⟨L, A, n, c, h1, h2, h3, h4⟩
    have hmax : len0 ≤ 5864062014805 := by
      have hd : d = .slice ((List.range len0).map D) ((List.range (m - len0)).map fun j => D (len0 + j)) := by injection hx
      have := hw ((((List.range len0).map D).length + ((List.range (m - len0)).map fun j => D (len0 + j)).length) * Try.prog.bytesOf 25) (by rw [hd]; simp [DataW.weights, Try.underlying22])
      rw [bytesRow] at this
      simp only [List.length_map, List.length_range, reachBytes] at this
      omega
    refine ⟨_, _, _, (List.range len0).map fun i => if hh : i < len0 then Classical.choose (key i hh) else [], rfl, ⟨by simp, fun h0 => ?_⟩, hmax, hl, fun L hL => ?_⟩
    · obtain ⟨b, off, spot⟩ := x
      obtain ⟨A, n, c, hs, _⟩ := Classical.choose_spec (key 0 h0)
      have hspot : spot = none := by simpa [Addr.add] using World.cell?_spot hs
      subst hspot
      have hlt : b < w.heap.size := by have := lt_of_cell hs; simpa [Addr.add] using this
      refine ⟨b, off, rfl, hlt, fun q y hy => ?_⟩
      rw [List.getElem?_map, Option.map_eq_some_iff] at hy
      obtain ⟨i, hir, hiy⟩ := hy
      have hq : q < len0 := by have := (List.getElem?_eq_some_iff.1 hir).1; simpa using this
      have hqi : i = q := by have := (List.getElem?_eq_some_iff.1 hir).2; simpa using this.symm
      subst hqi
      rw [dif_pos hq] at hiy
      obtain ⟨A, n, c, h1, h2, h3, h4⟩ := Classical.choose_spec (key i hq)
      rw [hiy] at h2
      have hyl := h2.1
      subst hyl
      rw [add_one_] at h1
      exact ⟨A, c, h1, h4, h2⟩
    · rw [List.mem_map] at hL
      obtain ⟨i, hir, rfl⟩ := hL
      have hil := List.mem_range.1 hir
      rw [dif_pos hil]
      obtain ⟨A, n, c, _, h2, h3, _⟩ := Classical.choose_spec (key i hil)
      rw [h2.1]; exact h3
end
end Go.Proofs.Ytnaehnlpcjaaeaa
/- How a tensor that came in reads, with the room of its shape and of its cells. -/
namespace Go.Proofs.Ytnaehnlpcjaaeaa
open Go.ChangeShapes Go.WideShapes Go.ChangeAt Go.RowKit

section
variable {H : Type} {enc : TypeId × Value → H} {w : World} {base : Nat} {spare : Nat → Bool} {held : Bool}
end
end Go.Proofs.Ytnaehnlpcjaaeaa
