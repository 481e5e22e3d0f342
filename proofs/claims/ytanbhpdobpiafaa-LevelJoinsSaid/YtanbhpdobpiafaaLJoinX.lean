/- purflelaw04.LevelJoins returns true where groups are too many, or where the level of both may not be. -/
import Derived.Test.YtanbhpdobpiafaaLJoinN
namespace Go.Proofs.Ytanbhpdobpiafaa
open Go.RowKit

set_option maxRecDepth 100000 in
set_option maxHeartbeats 4000000 in
theorem levelJoins_many (K S : Int) (A : Option Addr) (n c : Nat) (AA : List (List Int)) (B : Option Addr) (m e : Nat) (BB : List (List Int)) (w : World) (_hA : IntsLL w w.heap.size A n AA) (hn : n ≤ 5864062014805) (_hAb : ∀ L ∈ AA, L.length ≤ 17592186044416) (_hB : IntsLL w w.heap.size B m BB) (hm : m ≤ 5864062014805) (_hBb : ∀ L ∈ BB, L.length ≤ 17592186044416) (h100 : 100 < n + m) :
    Calls Try.prog 8 #[.int .i64 K, .int .i64 S, .slice A n c, .slice B m e] w fun x w' => x = .returned (.bool true) ∧ Below w.heap.size w w' := by
  have HB : Below w.heap.size w w := Below.refl _ _
  have d1 : decide ((100 : Int) < (n : Int) + (m : Int)) = true := decide_eq_true (by omega)
  have d2 : (100 : Int) < (n : Int) + (m : Int) := by omega
  clear h100
  go_enter Try.func8, Try.ntmps8
  go_wp2_with fail
  refine (lvLive_any _).mono ?_
  rintro x w1 ⟨rfl, hb⟩
  replace HB := HB.trans (hb.mono HB.size)
  clear hb
  go_wp2_with fail
  go_ret
  exact ⟨rfl, HB⟩

set_option maxRecDepth 100000 in
set_option maxHeartbeats 4000000 in
theorem levelJoins_bad_ab (K S : Int) (A : Option Addr) (n c : Nat) (AA : List (List Int)) (B : Option Addr) (m e : Nat) (BB : List (List Int)) (w : World) (hA : IntsLL w w.heap.size A n AA) (hn : n ≤ 5864062014805) (hAb : ∀ L ∈ AA, L.length ≤ 17592186044416) (hB : IntsLL w w.heap.size B m BB) (hm : m ≤ 5864062014805) (hBb : ∀ L ∈ BB, L.length ≤ 17592186044416) (h100 : n + m ≤ 100) (hEa : makeE K S AA = 0) (hEb : makeE K S BB = 0) (hEz : makeE K S (AA ++ BB) ≠ 0) :
    Calls Try.prog 8 #[.int .i64 K, .int .i64 S, .slice A n c, .slice B m e] w fun x w' => x = .returned (.bool true) ∧ Below w.heap.size w w' := by
  have HB : Below w.heap.size w w := Below.refl _ _
  have d1 : decide ((100 : Int) < (n : Int) + (m : Int)) = false := decide_eq_false (by omega)
  have d2 : ¬ (100 : Int) < (n : Int) + (m : Int) := by omega
  have hAc : ∀ L ∈ AA, L.length ≤ 9223372036854775807 := fun L hL => by have := hAb L hL; omega
  have hBc : ∀ L ∈ BB, L.length ≤ 9223372036854775807 := fun L hL => by have := hBb L hL; omega
  have hZc : ∀ L ∈ AA ++ BB, L.length ≤ 9223372036854775807 := fun L hL => by rcases List.mem_append.1 hL with q | q; exact hAc L q; exact hBc L q
  have HAL : Hid (AA.length = n) := hA.1
  obtain ⟨Ez, hz⟩ : ∃ Ez, makeE K S (AA ++ BB) = Ez := ⟨_, rfl⟩
  rw [hz] at hEz
  have HMZ := fun W A' c' (hI : IntsLL W W.heap.size A' (n + m) (AA ++ BB)) => make_bad K S Ez A' (n + m) c' _ W hI (by omega) hZc hz hEz
  have ez1 : (Ez == 0) = false := by simpa using hEz
  have ez2 : (Ez != 0) = true := by simpa using hEz
  have HMA := fun W (hI : IntsLL W W.heap.size A n AA) => make_ok K S A n c _ W hI (by omega) hAc hEa
  have HMB := fun W (hI : IntsLL W W.heap.size B m BB) => make_ok K S B m e _ W hI (by omega) hBc hEb
  clear hEa hEb hEz hz hAb hBb hAc hBc hZc  
  go_enter Try.func8, Try.ntmps8
  go_wp2_with fail
  refine (lvLive_any _).mono ?_
  rintro x w1 ⟨rfl, hb⟩
  replace hA := (hA.below hb).more hb.size
  replace hB := (hB.below hb).more hb.size
  replace HB := HB.trans (hb.mono HB.size)
  clear hb
  go_wp2_with fail
  refine (HMA _ hA).mono ?_
  rintro x w2 ⟨A1, n1, c1, A2, m1, c2, rfl, _, _, _, hb⟩
  replace hA := (hA.below hb).more hb.size
  replace hB := (hB.below hb).more hb.size
  replace HB := HB.trans (hb.mono HB.size)
  clear hb
  have hz := lvBelow w2 (lvO K S A1 n1 c1 A2 m1 c2)
  have zx := heap_alloc_new w2 (lvO K S A1 n1 c1 A2 m1 c2)
  replace hA := (hA.below hz).more hz.size
  replace hB := (hB.below hz).more hz.size
  replace HB := HB.trans (hz.mono HB.size)
  clear hz
  go_wp2_with fail
  refine (HMB _ hB).mono ?_
  rintro x w3 ⟨A3, n3, c3, A4, m3, c4, rfl, _, _, _, hb⟩
  replace hA := (hA.below hb).more hb.size
  replace hB := (hB.below hb).more hb.size
  replace zx := oKeep hb zx
  replace HB := HB.trans (hb.mono HB.size)
  clear hb
  have hz := lvBelow w3 (lvO K S A3 n3 c3 A4 m3 c4)
  have zy := heap_alloc_new w3 (lvO K S A3 n3 c3 A4 m3 c4)
  replace hA := (hA.below hz).more hz.size
  replace hB := (hB.below hz).more hz.size
  replace zx := oKeep hz zx
  replace HB := HB.trans (hz.mono HB.size)
  clear hz
  go_wp2_with (first | (at_builtin; refine wpList_appendHeads rfl (.const (.slice none 0 0)) (.tmp 53) rfl (w3.alloc (lvO K S A3 n3 c3 A4 m3 c4)).heap.size (w3.alloc (lvO K S A3 n3 c3 A4 m3 c4)).heap.size none A 0 n c 0 n [] AA rfl rfl (OwnH.nil_ _ _ _) hA rfl (Nat.zero_add n) (by omega) (Nat.le_refl _) (Nat.le_refl _) ?_; intro A6 c6 w6 HO6 hb6; have hB6 := hB.below hb6) | (at_builtin; refine wpList_appendHeads rfl (.tmp 54) (.tmp 55) rfl (w3.alloc (lvO K S A3 n3 c3 A4 m3 c4)).heap.size (w3.alloc (lvO K S A3 n3 c3 A4 m3 c4)).heap.size A6 B c6 m e n (n + m) ([] ++ AA) BB rfl rfl HO6 hB6 HAL.out rfl (by omega) hb6.size (Nat.le_refl _) ?_; intro A7 c7 w7 HO7 hb7))
  have hbq := hb6.trans hb7
  have hZ := HO7.ints hbq.size
  rw [List.nil_append] at hZ
  have hlz : (AA ++ BB).length = n + m := by rw [List.length_append, HAL.out, hB.1]
  rw [hlz] at hZ
  replace HB := HB.trans (hbq.mono HB.size)
  clear hlz hb6 hb7 hB6 HO6 HO7 hA hB zx zy hbq
  go_wp2_with fail
  refine (HMZ _ A7 c7 hZ).mono ?_
  rintro x w9 ⟨rfl, hb⟩
  replace HB := HB.trans (hb.mono HB.size)
  clear hb
  replace HB := HB.trans ((lvBelow w9 (lvO 0 0 none 0 0 none 0 0)).mono HB.size)
  go_wp2_with fail
  go_ret
  exact ⟨rfl, HB⟩

set_option maxRecDepth 100000 in
set_option maxHeartbeats 4000000 in
theorem levelJoins_bad_ax (K S : Int) (A : Option Addr) (n c : Nat) (AA : List (List Int)) (B : Option Addr) (m e : Nat) (BB : List (List Int)) (w : World) (hA : IntsLL w w.heap.size A n AA) (hn : n ≤ 5864062014805) (hAb : ∀ L ∈ AA, L.length ≤ 17592186044416) (hB : IntsLL w w.heap.size B m BB) (hm : m ≤ 5864062014805) (hBb : ∀ L ∈ BB, L.length ≤ 17592186044416) (h100 : n + m ≤ 100) (hEa : makeE K S AA = 0) (hEb : makeE K S BB ≠ 0) (hEz : makeE K S (AA ++ BB) ≠ 0) :
    Calls Try.prog 8 #[.int .i64 K, .int .i64 S, .slice A n c, .slice B m e] w fun x w' => x = .returned (.bool true) ∧ Below w.heap.size w w' := by
  have HB : Below w.heap.size w w := Below.refl _ _
  have d1 : decide ((100 : Int) < (n : Int) + (m : Int)) = false := decide_eq_false (by omega)
  have d2 : ¬ (100 : Int) < (n : Int) + (m : Int) := by omega
  have hAc : ∀ L ∈ AA, L.length ≤ 9223372036854775807 := fun L hL => by have := hAb L hL; omega
  have hBc : ∀ L ∈ BB, L.length ≤ 9223372036854775807 := fun L hL => by have := hBb L hL; omega
  have hZc : ∀ L ∈ AA ++ BB, L.length ≤ 9223372036854775807 := fun L hL => by rcases List.mem_append.1 hL with q | q; exact hAc L q; exact hBc L q
  have HAL : Hid (AA.length = n) := hA.1
  obtain ⟨Ez, hz⟩ : ∃ Ez, makeE K S (AA ++ BB) = Ez := ⟨_, rfl⟩
  rw [hz] at hEz
  have HMZ := fun W A' c' (hI : IntsLL W W.heap.size A' (n + m) (AA ++ BB)) => make_bad K S Ez A' (n + m) c' _ W hI (by omega) hZc hz hEz
  have ez1 : (Ez == 0) = false := by simpa using hEz
  have ez2 : (Ez != 0) = true := by simpa using hEz
  have HMA := fun W (hI : IntsLL W W.heap.size A n AA) => make_ok K S A n c _ W hI (by omega) hAc hEa
  obtain ⟨Eb, hbb⟩ : ∃ Eb, makeE K S BB = Eb := ⟨_, rfl⟩
  rw [hbb] at hEb
  have HMB := fun W (hI : IntsLL W W.heap.size B m BB) => make_bad K S Eb B m e _ W hI (by omega) hBc hbb hEb
  have eb1 : (Eb == 0) = false := by simpa using hEb
  have eb2 : (Eb != 0) = true := by simpa using hEb
  clear hEa hEb hEz hz hAb hBb hAc hBc hZc  hbb
  go_enter Try.func8, Try.ntmps8
  go_wp2_with fail
  refine (lvLive_any _).mono ?_
  rintro x w1 ⟨rfl, hb⟩
  replace hA := (hA.below hb).more hb.size
  replace hB := (hB.below hb).more hb.size
  replace HB := HB.trans (hb.mono HB.size)
  clear hb
  go_wp2_with fail
  refine (HMA _ hA).mono ?_
  rintro x w2 ⟨A1, n1, c1, A2, m1, c2, rfl, _, _, _, hb⟩
  replace hA := (hA.below hb).more hb.size
  replace hB := (hB.below hb).more hb.size
  replace HB := HB.trans (hb.mono HB.size)
  clear hb
  have hz := lvBelow w2 (lvO K S A1 n1 c1 A2 m1 c2)
  have zx := heap_alloc_new w2 (lvO K S A1 n1 c1 A2 m1 c2)
  replace hA := (hA.below hz).more hz.size
  replace hB := (hB.below hz).more hz.size
  replace HB := HB.trans (hz.mono HB.size)
  clear hz
  go_wp2_with fail
  refine (HMB _ hB).mono ?_
  rintro x w3 ⟨rfl, hb⟩
  replace hA := (hA.below hb).more hb.size
  replace hB := (hB.below hb).more hb.size
  replace zx := oKeep hb zx
  replace HB := HB.trans (hb.mono HB.size)
  clear hb
  have hz := lvBelow w3 (lvO 0 0 none 0 0 none 0 0)
  have zy := heap_alloc_new w3 (lvO 0 0 none 0 0 none 0 0)
  replace hA := (hA.below hz).more hz.size
  replace hB := (hB.below hz).more hz.size
  replace zx := oKeep hz zx
  replace HB := HB.trans (hz.mono HB.size)
  clear hz
  go_wp2_with (first | (at_builtin; refine wpList_appendHeads rfl (.const (.slice none 0 0)) (.tmp 53) rfl (w3.alloc (lvO 0 0 none 0 0 none 0 0)).heap.size (w3.alloc (lvO 0 0 none 0 0 none 0 0)).heap.size none A 0 n c 0 n [] AA rfl rfl (OwnH.nil_ _ _ _) hA rfl (Nat.zero_add n) (by omega) (Nat.le_refl _) (Nat.le_refl _) ?_; intro A6 c6 w6 HO6 hb6; have hB6 := hB.below hb6) | (at_builtin; refine wpList_appendHeads rfl (.tmp 54) (.tmp 55) rfl (w3.alloc (lvO 0 0 none 0 0 none 0 0)).heap.size (w3.alloc (lvO 0 0 none 0 0 none 0 0)).heap.size A6 B c6 m e n (n + m) ([] ++ AA) BB rfl rfl HO6 hB6 HAL.out rfl (by omega) hb6.size (Nat.le_refl _) ?_; intro A7 c7 w7 HO7 hb7))
  have hbq := hb6.trans hb7
  have hZ := HO7.ints hbq.size
  rw [List.nil_append] at hZ
  have hlz : (AA ++ BB).length = n + m := by rw [List.length_append, HAL.out, hB.1]
  rw [hlz] at hZ
  replace HB := HB.trans (hbq.mono HB.size)
  clear hlz hb6 hb7 hB6 HO6 HO7 hA hB zx zy hbq
  go_wp2_with fail
  refine (HMZ _ A7 c7 hZ).mono ?_
  rintro x w9 ⟨rfl, hb⟩
  replace HB := HB.trans (hb.mono HB.size)
  clear hb
  replace HB := HB.trans ((lvBelow w9 (lvO 0 0 none 0 0 none 0 0)).mono HB.size)
  go_wp2_with fail
  go_ret
  exact ⟨rfl, HB⟩

set_option maxRecDepth 100000 in
set_option maxHeartbeats 4000000 in
theorem levelJoins_bad_xb (K S : Int) (A : Option Addr) (n c : Nat) (AA : List (List Int)) (B : Option Addr) (m e : Nat) (BB : List (List Int)) (w : World) (hA : IntsLL w w.heap.size A n AA) (hn : n ≤ 5864062014805) (hAb : ∀ L ∈ AA, L.length ≤ 17592186044416) (hB : IntsLL w w.heap.size B m BB) (hm : m ≤ 5864062014805) (hBb : ∀ L ∈ BB, L.length ≤ 17592186044416) (h100 : n + m ≤ 100) (hEa : makeE K S AA ≠ 0) (hEb : makeE K S BB = 0) (hEz : makeE K S (AA ++ BB) ≠ 0) :
    Calls Try.prog 8 #[.int .i64 K, .int .i64 S, .slice A n c, .slice B m e] w fun x w' => x = .returned (.bool true) ∧ Below w.heap.size w w' := by
  have HB : Below w.heap.size w w := Below.refl _ _
  have d1 : decide ((100 : Int) < (n : Int) + (m : Int)) = false := decide_eq_false (by omega)
  have d2 : ¬ (100 : Int) < (n : Int) + (m : Int) := by omega
  have hAc : ∀ L ∈ AA, L.length ≤ 9223372036854775807 := fun L hL => by have := hAb L hL; omega
  have hBc : ∀ L ∈ BB, L.length ≤ 9223372036854775807 := fun L hL => by have := hBb L hL; omega
  have hZc : ∀ L ∈ AA ++ BB, L.length ≤ 9223372036854775807 := fun L hL => by rcases List.mem_append.1 hL with q | q; exact hAc L q; exact hBc L q
  have HAL : Hid (AA.length = n) := hA.1
  obtain ⟨Ez, hz⟩ : ∃ Ez, makeE K S (AA ++ BB) = Ez := ⟨_, rfl⟩
  rw [hz] at hEz
  have HMZ := fun W A' c' (hI : IntsLL W W.heap.size A' (n + m) (AA ++ BB)) => make_bad K S Ez A' (n + m) c' _ W hI (by omega) hZc hz hEz
  have ez1 : (Ez == 0) = false := by simpa using hEz
  have ez2 : (Ez != 0) = true := by simpa using hEz
  obtain ⟨Ea, ha⟩ : ∃ Ea, makeE K S AA = Ea := ⟨_, rfl⟩
  rw [ha] at hEa
  have HMA := fun W (hI : IntsLL W W.heap.size A n AA) => make_bad K S Ea A n c _ W hI (by omega) hAc ha hEa
  have ea1 : (Ea == 0) = false := by simpa using hEa
  have ea2 : (Ea != 0) = true := by simpa using hEa
  have HMB := fun W (hI : IntsLL W W.heap.size B m BB) => make_ok K S B m e _ W hI (by omega) hBc hEb
  clear hEa hEb hEz hz hAb hBb hAc hBc hZc ha 
  go_enter Try.func8, Try.ntmps8
  go_wp2_with fail
  refine (lvLive_any _).mono ?_
  rintro x w1 ⟨rfl, hb⟩
  replace hA := (hA.below hb).more hb.size
  replace hB := (hB.below hb).more hb.size
  replace HB := HB.trans (hb.mono HB.size)
  clear hb
  go_wp2_with fail
  refine (HMA _ hA).mono ?_
  rintro x w2 ⟨rfl, hb⟩
  replace hA := (hA.below hb).more hb.size
  replace hB := (hB.below hb).more hb.size
  replace HB := HB.trans (hb.mono HB.size)
  clear hb
  have hz := lvBelow w2 (lvO 0 0 none 0 0 none 0 0)
  have zx := heap_alloc_new w2 (lvO 0 0 none 0 0 none 0 0)
  replace hA := (hA.below hz).more hz.size
  replace hB := (hB.below hz).more hz.size
  replace HB := HB.trans (hz.mono HB.size)
  clear hz
  go_wp2_with fail
  refine (HMB _ hB).mono ?_
  rintro x w3 ⟨A3, n3, c3, A4, m3, c4, rfl, _, _, _, hb⟩
  replace hA := (hA.below hb).more hb.size
  replace hB := (hB.below hb).more hb.size
  replace zx := oKeep hb zx
  replace HB := HB.trans (hb.mono HB.size)
  clear hb
  have hz := lvBelow w3 (lvO K S A3 n3 c3 A4 m3 c4)
  have zy := heap_alloc_new w3 (lvO K S A3 n3 c3 A4 m3 c4)
  replace hA := (hA.below hz).more hz.size
  replace hB := (hB.below hz).more hz.size
  replace zx := oKeep hz zx
  replace HB := HB.trans (hz.mono HB.size)
  clear hz
  go_wp2_with (first | (at_builtin; refine wpList_appendHeads rfl (.const (.slice none 0 0)) (.tmp 53) rfl (w3.alloc (lvO K S A3 n3 c3 A4 m3 c4)).heap.size (w3.alloc (lvO K S A3 n3 c3 A4 m3 c4)).heap.size none A 0 n c 0 n [] AA rfl rfl (OwnH.nil_ _ _ _) hA rfl (Nat.zero_add n) (by omega) (Nat.le_refl _) (Nat.le_refl _) ?_; intro A6 c6 w6 HO6 hb6; have hB6 := hB.below hb6) | (at_builtin; refine wpList_appendHeads rfl (.tmp 54) (.tmp 55) rfl (w3.alloc (lvO K S A3 n3 c3 A4 m3 c4)).heap.size (w3.alloc (lvO K S A3 n3 c3 A4 m3 c4)).heap.size A6 B c6 m e n (n + m) ([] ++ AA) BB rfl rfl HO6 hB6 HAL.out rfl (by omega) hb6.size (Nat.le_refl _) ?_; intro A7 c7 w7 HO7 hb7))
  have hbq := hb6.trans hb7
  have hZ := HO7.ints hbq.size
  rw [List.nil_append] at hZ
  have hlz : (AA ++ BB).length = n + m := by rw [List.length_append, HAL.out, hB.1]
  rw [hlz] at hZ
  replace HB := HB.trans (hbq.mono HB.size)
  clear hlz hb6 hb7 hB6 HO6 HO7 hA hB zx zy hbq
  go_wp2_with fail
  refine (HMZ _ A7 c7 hZ).mono ?_
  rintro x w9 ⟨rfl, hb⟩
  replace HB := HB.trans (hb.mono HB.size)
  clear hb
  replace HB := HB.trans ((lvBelow w9 (lvO 0 0 none 0 0 none 0 0)).mono HB.size)
  go_wp2_with fail
  go_ret
  exact ⟨rfl, HB⟩

set_option maxRecDepth 100000 in
set_option maxHeartbeats 4000000 in
theorem levelJoins_bad_xx (K S : Int) (A : Option Addr) (n c : Nat) (AA : List (List Int)) (B : Option Addr) (m e : Nat) (BB : List (List Int)) (w : World) (hA : IntsLL w w.heap.size A n AA) (hn : n ≤ 5864062014805) (hAb : ∀ L ∈ AA, L.length ≤ 17592186044416) (hB : IntsLL w w.heap.size B m BB) (hm : m ≤ 5864062014805) (hBb : ∀ L ∈ BB, L.length ≤ 17592186044416) (h100 : n + m ≤ 100) (hEa : makeE K S AA ≠ 0) (hEb : makeE K S BB ≠ 0) (hEz : makeE K S (AA ++ BB) ≠ 0) :
    Calls Try.prog 8 #[.int .i64 K, .int .i64 S, .slice A n c, .slice B m e] w fun x w' => x = .returned (.bool true) ∧ Below w.heap.size w w' := by
  have HB : Below w.heap.size w w := Below.refl _ _
  have d1 : decide ((100 : Int) < (n : Int) + (m : Int)) = false := decide_eq_false (by omega)
  have d2 : ¬ (100 : Int) < (n : Int) + (m : Int) := by omega
  have hAc : ∀ L ∈ AA, L.length ≤ 9223372036854775807 := fun L hL => by have := hAb L hL; omega
  have hBc : ∀ L ∈ BB, L.length ≤ 9223372036854775807 := fun L hL => by have := hBb L hL; omega
  have hZc : ∀ L ∈ AA ++ BB, L.length ≤ 9223372036854775807 := fun L hL => by rcases List.mem_append.1 hL with q | q; exact hAc L q; exact hBc L q
  have HAL : Hid (AA.length = n) := hA.1
  obtain ⟨Ez, hz⟩ : ∃ Ez, makeE K S (AA ++ BB) = Ez := ⟨_, rfl⟩
  rw [hz] at hEz
  have HMZ := fun W A' c' (hI : IntsLL W W.heap.size A' (n + m) (AA ++ BB)) => make_bad K S Ez A' (n + m) c' _ W hI (by omega) hZc hz hEz
  have ez1 : (Ez == 0) = false := by simpa using hEz
  have ez2 : (Ez != 0) = true := by simpa using hEz
  obtain ⟨Ea, ha⟩ : ∃ Ea, makeE K S AA = Ea := ⟨_, rfl⟩
  rw [ha] at hEa
  have HMA := fun W (hI : IntsLL W W.heap.size A n AA) => make_bad K S Ea A n c _ W hI (by omega) hAc ha hEa
  have ea1 : (Ea == 0) = false := by simpa using hEa
  have ea2 : (Ea != 0) = true := by simpa using hEa
  obtain ⟨Eb, hbb⟩ : ∃ Eb, makeE K S BB = Eb := ⟨_, rfl⟩
  rw [hbb] at hEb
  have HMB := fun W (hI : IntsLL W W.heap.size B m BB) => make_bad K S Eb B m e _ W hI (by omega) hBc hbb hEb
  have eb1 : (Eb == 0) = false := by simpa using hEb
  have eb2 : (Eb != 0) = true := by simpa using hEb
  clear hEa hEb hEz hz hAb hBb hAc hBc hZc ha hbb
  go_enter Try.func8, Try.ntmps8
  go_wp2_with fail
  refine (lvLive_any _).mono ?_
  rintro x w1 ⟨rfl, hb⟩
  replace hA := (hA.below hb).more hb.size
  replace hB := (hB.below hb).more hb.size
  replace HB := HB.trans (hb.mono HB.size)
  clear hb
  go_wp2_with fail
  refine (HMA _ hA).mono ?_
  rintro x w2 ⟨rfl, hb⟩
  replace hA := (hA.below hb).more hb.size
  replace hB := (hB.below hb).more hb.size
  replace HB := HB.trans (hb.mono HB.size)
  clear hb
  have hz := lvBelow w2 (lvO 0 0 none 0 0 none 0 0)
  have zx := heap_alloc_new w2 (lvO 0 0 none 0 0 none 0 0)
  replace hA := (hA.below hz).more hz.size
  replace hB := (hB.below hz).more hz.size
  replace HB := HB.trans (hz.mono HB.size)
  clear hz
  go_wp2_with fail
  refine (HMB _ hB).mono ?_
  rintro x w3 ⟨rfl, hb⟩
  replace hA := (hA.below hb).more hb.size
  replace hB := (hB.below hb).more hb.size
  replace zx := oKeep hb zx
  replace HB := HB.trans (hb.mono HB.size)
  clear hb
  have hz := lvBelow w3 (lvO 0 0 none 0 0 none 0 0)
  have zy := heap_alloc_new w3 (lvO 0 0 none 0 0 none 0 0)
  replace hA := (hA.below hz).more hz.size
  replace hB := (hB.below hz).more hz.size
  replace zx := oKeep hz zx
  replace HB := HB.trans (hz.mono HB.size)
  clear hz
  go_wp2_with (first | (at_builtin; refine wpList_appendHeads rfl (.const (.slice none 0 0)) (.tmp 53) rfl (w3.alloc (lvO 0 0 none 0 0 none 0 0)).heap.size (w3.alloc (lvO 0 0 none 0 0 none 0 0)).heap.size none A 0 n c 0 n [] AA rfl rfl (OwnH.nil_ _ _ _) hA rfl (Nat.zero_add n) (by omega) (Nat.le_refl _) (Nat.le_refl _) ?_; intro A6 c6 w6 HO6 hb6; have hB6 := hB.below hb6) | (at_builtin; refine wpList_appendHeads rfl (.tmp 54) (.tmp 55) rfl (w3.alloc (lvO 0 0 none 0 0 none 0 0)).heap.size (w3.alloc (lvO 0 0 none 0 0 none 0 0)).heap.size A6 B c6 m e n (n + m) ([] ++ AA) BB rfl rfl HO6 hB6 HAL.out rfl (by omega) hb6.size (Nat.le_refl _) ?_; intro A7 c7 w7 HO7 hb7))
  have hbq := hb6.trans hb7
  have hZ := HO7.ints hbq.size
  rw [List.nil_append] at hZ
  have hlz : (AA ++ BB).length = n + m := by rw [List.length_append, HAL.out, hB.1]
  rw [hlz] at hZ
  replace HB := HB.trans (hbq.mono HB.size)
  clear hlz hb6 hb7 hB6 HO6 HO7 hA hB zx zy hbq
  go_wp2_with fail
  refine (HMZ _ A7 c7 hZ).mono ?_
  rintro x w9 ⟨rfl, hb⟩
  replace HB := HB.trans (hb.mono HB.size)
  clear hb
  replace HB := HB.trans ((lvBelow w9 (lvO 0 0 none 0 0 none 0 0)).mono HB.size)
  go_wp2_with fail
  go_ret
  exact ⟨rfl, HB⟩
end Go.Proofs.Ytanbhpdobpiafaa
