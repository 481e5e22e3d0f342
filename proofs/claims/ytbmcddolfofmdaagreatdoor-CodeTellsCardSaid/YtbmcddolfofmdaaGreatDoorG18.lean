/- The program's tokens of a line: word, numeral, partTokens. -/
import Derived.Test.YtbmcddolfofmdaaGreatDoorG12
import Derived.Test.YtbmcddolfofmdaaGreatDoorG10
import Derived.Test.YtbmcddolfofmdaaGreatDoorG17
import Derived.Test.YtbmcddolfofmdaaGreatDoorG8
import Derived.Test.YtbmcddolfofmdaaGreatDoorG11
import Derived.Test.YtbmcddolfofmdaaGreatDoorG15
import Derived.Test.YtbmcddolfofmdaaGreatDoorG14
import Derived.Test.YtbmcddolfofmdaaGreatDoorG13
import Derived.Test.YtbmcddolfofmdaaGreatDoorG6
import Derived.Test.YtbmcddolfofmdaaGreatDoorG9
namespace Go.Proofs.YtbmcddolfofmdaaGreatDoor
open Go Go.RowKit

set_option maxRecDepth 100000 in
theorem word_tok (s : ByteArray) (w : World) : Calls Tryz.prog 64 #[.string s] w fun e w' => e = .returned (Tk.val ⟨1, s, 0⟩) ∧ Below w.heap.size w w' := by
  obtain ⟨W0, hW0⟩ : ∃ W, w.alloc zeroT = W := ⟨_, rfl⟩
  have HB0 : Hid (Below w.heap.size w W0) := by rw [← hW0]; exact lvBelow _ _
  have HR0 : Hid (W0.heap[w.heap.size]? = some (.cells #[.int .i64 0, .string ⟨#[]⟩, .int .i64 0] 49 (0, 0))) := by rw [← hW0]; exact heap_alloc_new w zeroT
  obtain ⟨r0, r1, r2, rf0, rf1, rf2⟩ := cells3 HR0.out
  obtain ⟨s0, s1, s2, _⟩ := cells3 (three_cells HR0.out (.int .i64 1) (.string s) (.int .i64 0))
  have HSS := Lib.hid (And.intro s0 (And.intro s1 s2))
  have HD := Lib.hid (put3_below HB0.out (Nat.le_refl _) (.int .i64 1) (.string s) (.int .i64 0))
  clear s0 s1 s2
  go_enter Tryz.func64, Tryz.ntmps64
  go_upto_region 1 with fail
  try rw [hW0]
  go_wp2_with fail
  obtain ⟨s0, s1, s2⟩ := HSS.out
  exact bodyPost_ret (v := Tk.val ⟨1, s, 0⟩) (by simp [results, Tryz.results64, go_sem, s0, s1, s2, Tk.val]) rfl ⟨rfl, HD.out⟩
theorem itoa_nat {v : Int} (h : 0 ≤ v) : Lib.itoa v = Lib.decDigits v.toNat := by unfold Lib.itoa; rw [if_neg (by omega)]
theorem TabT.on {W w : World} (h : TabT W) (hb : Below W.heap.size W w) : TabT w := fun _ h' => h.at_ (hb.trans (h'.mono hb.size))
set_option maxRecDepth 100000 in
theorem numeral_tok (v : Int) (w : World) (h0 : 0 ≤ v) (h1 : v ≤ 9223372036854775807) (hT : TabT w) : Calls Tryz.prog 81 #[.int .i64 v] w fun e w' => e = .returned (tokN v).val ∧ Below w.heap.size w w' := by
  obtain ⟨W0, hW0⟩ : ∃ W, w.alloc zeroT = W := ⟨_, rfl⟩
  have HB0 : Hid (Below w.heap.size w W0) := by rw [← hW0]; exact lvBelow _ _
  have HR0 : Hid (W0.heap[w.heap.size]? = some (.cells #[.int .i64 0, .string ⟨#[]⟩, .int .i64 0] 49 (0, 0))) := by rw [← hW0]; exact heap_alloc_new w zeroT
  obtain ⟨T, hTT⟩ : ∃ T, ofL (Lib.itoa v) = T := ⟨_, rfl⟩
  have HTT := Lib.hid hTT
  have hTN : (tokN v).val = .agg #[.int .i64 2, .string T, .int .i64 v] := by unfold tokN Tk.val; rw [← itoa_nat h0, hTT]
  rw [hTN]
  have cD := digits_any v (by omega) h1 W0 (hT.at_ HB0.out) T HTT
  clear hT hTT hTN
  go_enter Tryz.func81, Tryz.ntmps81
  go_upto_region 1 with fail
  try rw [hW0]
  go_wp2_with fail
  refine cD.mono ?_
  rintro e w1 ⟨rfl, hb⟩
  have HB1 := Lib.hid (HB0.out.trans (hb.mono HB0.out.size))
  have HR1 := Lib.hid (keep_b hb HR0.out)
  clear hb cD hW0
  obtain ⟨r0, r1, r2, rf0, rf1, rf2⟩ := cells3 HR1.out
  obtain ⟨s0, s1, s2, _⟩ := cells3 (three_cells HR1.out (.int .i64 2) (.string T) (.int .i64 v))
  have HSS := Lib.hid (And.intro s0 (And.intro s1 s2))
  have HD := Lib.hid (put3_below HB1.out (Nat.le_refl _) (.int .i64 2) (.string T) (.int .i64 v))
  clear s0 s1 s2
  go_wp2_with fail
  obtain ⟨s0, s1, s2⟩ := HSS.out
  exact bodyPost_ret (v := .agg #[.int .i64 2, .string T, .int .i64 v]) (by simp [results, Tryz.results81, go_sem, s0, s1, s2]) rfl ⟨rfl, HD.out⟩
/-- the tokens of a part -/
def partT (kd v : Int) : List Tk := if kd = 0 then [] else if kd = 1 ∨ kd = 2 then [regT 114 v] else if kd = 3 then [regT 97 v] else numT v
theorem partT_len (kd v : Int) : (partT kd v).length ≤ 2 := by
  unfold partT numT
  repeat' split
  all_goals simp
theorem own_tok1 (W : World) (t : Tk) (base : Nat) (hb : base ≤ W.heap.size) : OwnT (W.alloc (.cells #[.int .i64 t.k, .string t.s, .int .i64 t.n] 49)) base (some ⟨W.heap.size, 0, none⟩) 1 [t] :=
  ⟨rfl, .inr ⟨W.heap.size, 1, #[.int .i64 t.k, .string t.s, .int .i64 t.n], rfl, hb, heap_alloc_new W _, Nat.le_refl _, by unfold maxLen; omega, rfl, rfl⟩⟩
theorem own_tok2 (W : World) (t u : Tk) (base : Nat) (hb : base ≤ W.heap.size) : OwnT (W.alloc (.cells #[.int .i64 t.k, .string t.s, .int .i64 t.n, .int .i64 u.k, .string u.s, .int .i64 u.n] 49)) base (some ⟨W.heap.size, 0, none⟩) 2 [t, u] :=
  ⟨rfl, .inr ⟨W.heap.size, 2, #[.int .i64 t.k, .string t.s, .int .i64 t.n, .int .i64 u.k, .string u.s, .int .i64 u.n], rfl, hb, heap_alloc_new W _, Nat.le_refl _, by unfold maxLen; omega, rfl, rfl⟩⟩
def PartP (L : List Tk) (w : World) (e : Ending) (w' : World) : Prop := ∃ A c, e = .returned (.slice A L.length c) ∧ OwnT w' w.heap.size A c L ∧ Below w.heap.size w w'
theorem str_cons (c : UInt8) (l : List UInt8) : strJ [c] ++ ofL l = ofL (c :: l) := by
  rw [← ofL_bl (strJ [c] ++ ofL l), bl_append, bl_strJ, bl_ofL]; rfl
set_option maxRecDepth 100000 in
set_option maxHeartbeats 4000000 in
theorem partTokens_any (kd v : Int) (w : World) (hd : 0 ≤ kd ∧ kd ≤ 6) (hv : kd = 6 ∨ 0 ≤ v) (hb : -1000000000000000000 < v ∧ v < 1000000000000000000) (hT : TabT w) : Calls Tryz.prog 65 #[.int .i64 kd, .int .i64 v] w (PartP (partT kd v) w) := by
  have HT := Lib.hid hT
  have cM := mark_any kd w hd
  by_cases h0 : kd = 0
  · subst h0
    clear hT cM
    go_enter Tryz.func65, Tryz.ntmps65
    go_wp2_with fail
    go_ret
    exact ⟨none, 0, rfl, OwnT.nil_ _ _, Below.refl _ _⟩
  have d0 : (kd == 0) = false := by simpa using h0
  by_cases h3 : kd = 1 ∨ kd = 2 ∨ kd = 3
  · have hv0 : 0 ≤ v := by omega
    obtain ⟨c, hc, HPT⟩ : ∃ c : UInt8, markL kd = [c] ∧ Hid (partT kd v = [regT c v]) := by
      rcases h3 with rfl | rfl | rfl
      · exact ⟨114, rfl, Lib.hid rfl⟩
      · exact ⟨114, rfl, Lib.hid rfl⟩
      · exact ⟨97, rfl, Lib.hid rfl⟩
    rw [hc] at cM
    obtain ⟨T, hTT⟩ : ∃ T, ofL (Lib.itoa v) = T := ⟨_, rfl⟩
    have cD := digits_any v (by omega) (by omega) w (HT.out.at_ (Below.refl _ _)) T hTT
    have hts : T.size ≤ 20 := by rw [← hTT, ofL_size]; exact itoa_short v (by omega) (by omega)
    have HRT : Hid (⟨1, strJ [c] ++ T, 0⟩ = regT c v) := by
      unfold Hid regT tokW
      rw [← hTT, str_cons, itoa_nat hv0]
    have cW := fun W => word_tok (strJ [c] ++ T) W
    have hms : (strJ [c]).size = 1 := strJ_size [c]
    have hne : (strJ [c]).toList ≠ [] := by rw [Lib.toList_data]; show bl (strJ [c]) ≠ []; rw [bl_strJ]; simp
    have hne2 : (strJ [c]).toList.isEmpty = false := by rw [List.isEmpty_eq_false_iff]; exact hne
    have hne3 : ((strJ [c]).toList == []) = false := by rw [beq_eq_false_iff_ne]; exact hne
    generalize strJ [c] = M at cM cW hms hne hne2 hne3 HRT
    unfold Tk.val at cW
    clear hT h0 h3 hc hTT hd hv hb
    go_enter Tryz.func65, Tryz.ntmps65
    go_wp2_with fail
    refine cM.mono ?_
    rintro e w1 ⟨rfl, rfl⟩
    go_wp2_with fail
    refine cD.mono ?_
    rintro e w1 ⟨rfl, hb1⟩
    have HB1 := Lib.hid hb1
    clear hb1 cM cD
    go_wp2_with fail
    refine (cW _).mono ?_
    rintro e w2 ⟨rfl, hb2⟩
    have HB2 := Lib.hid (HB1.out.trans (hb2.mono HB1.out.size))
    clear hb2 cW
    go_wp2_with fail
    go_ret
    exact ⟨some ⟨w2.heap.size, 0, none⟩, 1, by rw [HPT.out]; rfl, by rw [HPT.out, ← HRT.out]; exact own_tok1 w2 _ _ HB2.out.size, HB2.out.alloc HB2.out.size _⟩
  · have hc : markL kd = [] := by unfold markL; rw [if_neg (by omega), if_neg (by omega)]
    rw [hc] at cM
    have HPT : Hid (partT kd v = numT v) := by unfold Hid partT; rw [if_neg h0, if_neg (by omega), if_neg (by omega)]
    have hme : strJ [] = (⟨#[]⟩ : ByteArray) := rfl
    rw [hme] at cM
    by_cases hn : v < 0
    · have HN : Hid (numT v = [minusTk, tokN (-v)]) := numT_neg hn
      have hw1 : IntKind.i64.wrap (-v) = -v := IntWalk.i64_in _ (by omega)
      have dn : decide (v < 0) = true := decide_eq_true hn
      have cN := fun W h => numeral_tok (-v) W (by omega) (by omega) h
      have cMn := minus_any w
      unfold minusTk Tk.val at cMn
      obtain ⟨tn, htn⟩ : ∃ t, tokN (-v) = t := ⟨_, rfl⟩
      rw [htn] at cN HN
      unfold Tk.val at cN
      clear hT h0 h3 hc hd hv hb hn htn hme
      go_enter Tryz.func65, Tryz.ntmps65
      go_wp2_with fail
      refine cM.mono ?_
      rintro e w1 ⟨rfl, rfl⟩
      go_wp2_with fail
      refine cMn.mono ?_
      rintro e w1 ⟨rfl, hb1⟩
      have HB1 := Lib.hid hb1
      clear hb1 cM cMn
      go_wp2_with fail
      refine (cN _ (HT.out.on HB1.out)).mono ?_
      rintro e w2 ⟨rfl, hb2⟩
      have HB2 := Lib.hid (HB1.out.trans (hb2.mono HB1.out.size))
      clear hb2 cN
      go_wp2_with fail
      go_ret
      exact ⟨some ⟨w2.heap.size, 0, none⟩, 2, by rw [HPT.out, HN.out]; rfl, by rw [HPT.out, HN.out]; exact own_tok2 w2 minusTk tn _ HB2.out.size, HB2.out.alloc HB2.out.size _⟩
    · have HN : Hid (numT v = [tokN v]) := numT_pos (by omega)
      have dn : decide (v < 0) = false := decide_eq_false hn
      have cN := numeral_tok v w (by omega) (by omega) HT.out
      obtain ⟨tn, htn⟩ : ∃ t, tokN v = t := ⟨_, rfl⟩
      rw [htn] at cN HN
      unfold Tk.val at cN
      clear hT h0 h3 hc hd hv hb hn htn hme
      go_enter Tryz.func65, Tryz.ntmps65
      go_wp2_with fail
      refine cM.mono ?_
      rintro e w1 ⟨rfl, rfl⟩
      go_wp2_with fail
      refine cN.mono ?_
      rintro e w2 ⟨rfl, hb2⟩
      have HB2 := Lib.hid hb2
      clear hb2 cN cM
      go_wp2_with fail
      go_ret
      exact ⟨some ⟨w2.heap.size, 0, none⟩, 1, by rw [HPT.out, HN.out]; rfl, by rw [HPT.out, HN.out]; exact own_tok1 w2 tn _ HB2.out.size, HB2.out.alloc HB2.out.size _⟩
end Go.Proofs.YtbmcddolfofmdaaGreatDoor
/- The program's tokens of a line of a shape. -/
namespace Go.Proofs.YtbmcddolfofmdaaGreatDoor
open Go Go.RowKit

/-- the tokens of parts, one behind the other -/
def tokG : List Int → List Int → List Tk
  | k :: ks, v :: vs => partT k v ++ tokG ks vs
  | _, _ => []
theorem tokG_snoc : ∀ (ks vs : List Int) (i : Nat) (k v : Int), ks[i]? = some k → vs[i]? = some v → tokG (ks.take (i + 1)) vs = tokG (ks.take i) vs ++ partT k v
  | [], _, i, _, _, h, _ => by simp at h
  | _ :: _, [], i, _, _, _, h => by simp at h
  | k0 :: ks, v0 :: vs, 0, k, v, h, h2 => by
    simp at h h2
    subst h; subst h2
    simp [tokG]
  | k0 :: ks, v0 :: vs, i + 1, k, v, h, h2 => by
    have := tokG_snoc ks vs i k v (by simpa using h) (by simpa using h2)
    simp only [List.take_succ_cons]
    unfold tokG
    rw [this, List.append_assoc]
theorem tokG_len : ∀ (ks vs : List Int), (tokG ks vs).length ≤ 2 * vs.length
  | [], _ => by simp [tokG]
  | _ :: _, [] => by simp [tokG]
  | k :: ks, v :: vs => by
    have := tokG_len ks vs
    have := partT_len k v
    unfold tokG
    rw [List.length_append, List.length_cons]
    omega
def lineS (ws : ByteArray) (ks vs : List Int) : List Tk := (⟨1, ws, 0⟩ : Tk) :: tokG ks vs
theorem regT_ok2 (c : UInt8) {v : Int} (h0 : 0 ≤ v) (h1 : v ≤ 9223372036854775807) : (regT c v).ok := by
  refine ⟨by show (-9223372036854775808 : Int) ≤ 1; omega, by show (1 : Int) ≤ 9223372036854775807; omega, by show (-9223372036854775808 : Int) ≤ 0; omega, by show (0 : Int) ≤ 9223372036854775807; omega, ?_⟩
  show (ofL (c :: Lib.decDigits v.toNat)).size ≤ maxLen
  have := dd_le 18 v.toNat (by omega)
  rw [ofL_size, List.length_cons]
  unfold maxLen
  omega
theorem partT_ok {kd v : Int} (hv : kd = 0 ∨ kd = 6 ∨ 0 ≤ v) (h0 : -1000000000000000000 < v) (h1 : v < 1000000000000000000) (_hd : 0 ≤ kd ∧ kd ≤ 6) : ∀ t ∈ partT kd v, t.ok := by
  intro t ht
  unfold partT at ht
  split at ht
  · cases ht
  · split at ht
    · rw [List.mem_singleton.1 ht]; exact regT_ok2 _ (by omega) (by omega)
    · split at ht
      · rw [List.mem_singleton.1 ht]; exact regT_ok2 _ (by omega) (by omega)
      · exact numT_ok (by omega) (by omega) t ht
set_option maxRecDepth 100000 in
theorem partTokens_any' (kd v : Int) (w : World) (hd : 0 ≤ kd ∧ kd ≤ 6) (hv : kd = 0 ∨ kd = 6 ∨ 0 ≤ v) (hb : -1000000000000000000 < v ∧ v < 1000000000000000000) (hT : TabT w) : Calls Tryz.prog 65 #[.int .i64 kd, .int .i64 v] w (PartP (partT kd v) w) := by
  by_cases h0 : kd = 0
  · subst h0
    go_enter Tryz.func65, Tryz.ntmps65
    go_wp2_with fail
    go_ret
    exact ⟨none, 0, rfl, OwnT.nil_ _ _, Below.refl _ _⟩
  · exact partTokens_any kd v w hd (by omega) hb hT
set_option maxRecDepth 100000 in
set_option maxHeartbeats 8000000 in
theorem tokens_any (ws : ByteArray) (k0 k1 k2 k3 v0 v1 v2 v3 : Int) (w : World) (hk : ∀ v ∈ [k0, k1, k2, k3], 0 ≤ v ∧ v ≤ 6) (hv : ∀ (i : Nat) (k v : Int), [k0, k1, k2, k3][i]? = some k → [v0, v1, v2, v3][i]? = some v → (k = 0 ∨ k = 6 ∨ 0 ≤ v) ∧ -1000000000000000000 < v ∧ v < 1000000000000000000) (hT : TabT w) :
    Calls Tryz.prog 48 #[shW ws k0 k1 k2 k3, .agg #[.int .i64 v0, .int .i64 v1, .int .i64 v2, .int .i64 v3]] w (PartP (lineS ws [k0, k1, k2, k3] [v0, v1, v2, v3]) w) := by
  have hb0 := ((Below.refl w.heap.size w).alloc (Nat.le_refl _) (shWO ws k0 k1 k2 k3)).alloc (by simp) (.cells #[.int .i64 v0, .int .i64 v1, .int .i64 v2, .int .i64 v3] 79)
  obtain ⟨W0, hW0⟩ : ∃ W, (w.alloc (shWO ws k0 k1 k2 k3)).alloc (.cells #[.int .i64 v0, .int .i64 v1, .int .i64 v2, .int .i64 v3] 79) = W := ⟨_, rfl⟩
  have HB0 : Hid (Below w.heap.size w W0) := by rw [← hW0]; exact hb0
  have HX0 : Hid (W0.heap[w.heap.size]? = some (.cells #[.string ws, .int .i64 k0, .int .i64 k1, .int .i64 k2, .int .i64 k3] 58 (0, 0))) := by rw [← hW0]; exact pastJ _ (heap_alloc_new w _)
  have HP0 : Hid (W0.heap[w.heap.size + 1]? = some (.cells #[.int .i64 v0, .int .i64 v1, .int .i64 v2, .int .i64 v3] 79 (0, 0))) := by
    rw [← hW0]
    have h := heap_alloc_new (w.alloc (shWO ws k0 k1 k2 k3)) (.cells #[.int .i64 v0, .int .i64 v1, .int .i64 v2, .int .i64 v3] 79)
    rwa [World.size_alloc] at h
  obtain ⟨s0, s1, s2, s3, s4, _⟩ := cells5 HX0.out
  have HK := Lib.hid hk
  have HV := Lib.hid hv
  have HT := Lib.hid hT
  have cW := word_tok ws W0
  unfold Tk.val at cW
  clear hb0 hk hv hT
  go_enter Tryz.func48, Tryz.ntmps48
  go_upto_region 1 with fail
  try rw [hW0]
  clear hW0
  go_wp2_with fail
  refine cW.mono ?_
  rintro e w1 ⟨rfl, hb⟩
  have HB1 := Lib.hid (HB0.out.trans (hb.mono HB0.out.size))
  have HX1 := Lib.hid (keep_b hb HX0.out)
  have HP1 := Lib.hid (keep_b hb HP0.out)
  clear hb cW s0 s1 s2 s3 s4
  obtain ⟨W2, hW2⟩ : ∃ W, w1.alloc (.cells #[.int .i64 1, .string ws, .int .i64 0] 49) = W := ⟨_, rfl⟩
  have hb2 : Below w1.heap.size w1 W2 := by rw [← hW2]; exact lvBelow _ _
  have HB2 := Lib.hid (HB1.out.trans (hb2.mono HB1.out.size))
  have HX2 := Lib.hid (keep_b hb2 HX1.out)
  have HP2 := Lib.hid (keep_b hb2 HP1.out)
  have HO2 : Hid (OwnT W2 w.heap.size (some ⟨w1.heap.size, 0, none⟩) 1 (lineS ws ([k0, k1, k2, k3].take 0) [v0, v1, v2, v3])) := by rw [← hW2]; exact own_tok1 w1 ⟨1, ws, 0⟩ _ HB1.out.size
  obtain ⟨g, hg⟩ : ∃ g, w1.heap.size = g := ⟨_, rfl⟩
  go_upto_region 2 with fail
  try rw [hW2]
  rw [hg] at HO2
  try rw [hg]
  clear hb2 hW2 hg HX1 HP1
  obtain ⟨s0, s1, s2, s3, s4, _⟩ := cells5 HX2.out
  go_wp2_with fail
  clear s0 s1 s2 s3 s4
  go_loopw [5, 14] (fun v i wr => ∃ (k : Nat) (A : Option Addr) (c : Nat), k ≤ 4 ∧ i = .int .i64 k ∧ v = .slice A (lineS ws ([k0, k1, k2, k3].take k) [v0, v1, v2, v3]).length c ∧ Hid (OwnT wr w.heap.size A c (lineS ws ([k0, k1, k2, k3].take k) [v0, v1, v2, v3])) ∧ Hid (Below w.heap.size w wr) ∧ Hid (wr.heap[w.heap.size + 1]? = some (.cells #[.int .i64 v0, .int .i64 v1, .int .i64 v2, .int .i64 v3] 79 (0, 0)))) (fun _ i _ => 4 - (intOf i).toNat)
  case atStart => exact ⟨0, some ⟨g, 0, none⟩, 1, Nat.zero_le _, rfl, rfl, HO2, HB2, HP2⟩
  case round =>
    obtain ⟨k, A, c, hk, rfl, rfl, HO, HB, HP⟩ := hrel
    by_cases hlt : k < 4
    · obtain ⟨kd, hkd⟩ : ∃ kd, [k0, k1, k2, k3][k]? = some kd := ⟨_, List.getElem?_eq_getElem (by simpa using hlt)⟩
      obtain ⟨v, hv⟩ : ∃ v, [v0, v1, v2, v3][k]? = some v := ⟨_, List.getElem?_eq_getElem (by simpa using hlt)⟩
      have hix := index_kV hkd wr
      have hkb := HK.out kd (List.mem_of_getElem? hkd)
      obtain ⟨hv1, hv2, hv3⟩ := HV.out k kd v hkd hv
      have hk4 : (k : Int) < 4 := by omega
      have hk0 : (0 : Int) ≤ (k : Int) := by omega
      have HSN : Hid (lineS ws ([k0, k1, k2, k3].take (k + 1)) [v0, v1, v2, v3] = lineS ws ([k0, k1, k2, k3].take k) [v0, v1, v2, v3] ++ partT kd v) := by
        unfold Hid lineS
        rw [tokG_snoc _ _ k kd v hkd hv, List.cons_append]
      have hpc : wr.cell? ⟨w.heap.size + 1, k, none⟩ = some (.int .i64 v) := by
        refine (cell_of_row _ _ _ _ _ _ HP.out).trans ?_
        have : ([v0, v1, v2, v3].map (Value.int .i64))[k]? = some (.int .i64 v) := by rw [List.getElem?_map, hv]; rfl
        simpa using this
      have cP := partTokens_any' kd v wr hkb hv1 ⟨hv2, hv3⟩ (HT.out.on HB.out)
      have HPO := Lib.hid (partT_ok hv1 hv2 hv3 hkb)
      have hl2 := partT_len kd v
      have hl8 : (lineS ws ([k0, k1, k2, k3].take k) [v0, v1, v2, v3]).length ≤ 9 := by
        have := tokG_len ([k0, k1, k2, k3].take k) [v0, v1, v2, v3]
        simp only [lineS, List.length_cons, List.length_nil] at this ⊢
        omega
      unfold PartP at cP
      generalize partT kd v = PT at cP HSN HPO hl2
      generalize lineS ws ([k0, k1, k2, k3].take k) [v0, v1, v2, v3] = LK at HO HSN hl8
      obtain ⟨m, hm⟩ : ∃ m, LK.length = m := ⟨_, rfl⟩
      have HM := Lib.hid hm
      rw [hm] at hl8 ⊢
      clear hkd hv hm hv1 hv2 hv3 hkb
      go_wp2_with fail
      refine cP.mono ?_
      rintro e w2 ⟨A2, c2, rfl, hO2, hb⟩
      have HB3 := Lib.hid (HB.out.trans (hb.mono HB.out.size))
      have HP3 := Lib.hid (keep_b hb HP.out)
      have HO3 : Hid (OwnT w2 w.heap.size A c LK) := HO.out.below hb (Nat.le_refl _)
      have HT2 := Lib.hid (hO2.toks HPO.out)
      obtain ⟨p, hp⟩ : ∃ p, PT.length = p := ⟨_, rfl⟩
      rw [hp] at HT2 hl2 ⊢
      have HPP := Lib.hid hp
      have hle : m + p ≤ 1000000 := by omega
      have hsz : w.heap.size ≤ w2.heap.size := HB3.out.size
      clear hb cP hpc hO2 hp
      go_wp2_with (at_builtin; refine wpList_appendToks rfl (.tmp 18) (.tmp 23) rfl w.heap.size A A2 c p c2 w2.heap.size m (m + p) LK PT rfl rfl HO3.out HM.out rfl HT2.out hle hsz ?_; intro A4 c4 w4 hO4 hG4)
      have hG5 : w2.grownBy w4 (Value.slice A LK.length c).ownBlock := by rw [HM.out]; exact hG4
      have hb4 := below_appT HB3.out hG5 HO3.out hsz
      have hP4 := past_tok HO3.out HP3.out (by decide) HM.out hG4
      have HO4 := Lib.hid hO4
      have HB4 := Lib.hid hb4
      have HP4 := Lib.hid hP4
      clear hO4 hb4 hP4 hG4 hG5
      go_wp2_with fail
      go_roundw
      case rel => exact ⟨k + 1, A4, c4, by omega, by go_num, by rw [HSN.out, List.length_append, HM.out, HPP.out], by rw [HSN.out]; exact HO4.out, HB4.out, HP4.out⟩
      case measure => simp [intOf]; omega
    · have hk4 : ¬ (k : Int) < 4 := by omega
      have HTK : Hid ([k0, k1, k2, k3].take k = [k0, k1, k2, k3]) := List.take_of_length_le (by simp; omega)
      rw [HTK.out] at HO ⊢
      go_wp2_with fail
      go_ret
      exact ⟨A, c, rfl, HO.out, HB.out⟩
end Go.Proofs.YtbmcddolfofmdaaGreatDoor
/- Code's tokens as the program makes them are the document's; a list that is made and appended in a region that draws its order. -/
namespace Go.Proofs.YtbmcddolfofmdaaGreatDoor
open Go Go.RowKit

theorem lineS_line (x : Ji) : lineS (strJ (wJ x.op)) (kN x.op) x.p = lineT x := by
  obtain ⟨op, a, b, c, n⟩ := x
  unfold lineS lineT
  show (⟨1, strJ (wJ op), 0⟩ : Tk) :: tokG (kN op) [a, b, c, n] = (⟨1, ofL (wJ op), 0⟩ : Tk) :: argsT (kJ op) [a, b, c] n
  congr 1
  rcases op_split op with h | rfl | rfl | rfl | rfl | rfl | rfl | rfl | rfl | rfl | rfl | rfl | rfl | rfl
  · rw [kN_out h, kJ_out h]; simp [tokG, partT, argsT]
  all_goals simp [tokG, partT, argsT, argT, kN, kJ, kindNs, kindsJ]
theorem lineS_head (R A I : Int) : lineS ⟨#[99, 111, 100, 101]⟩ [5, 5, 5, 0] [R, A, I, 0] = headT R A I := by
  unfold lineS headT
  show (⟨1, ⟨#[99, 111, 100, 101]⟩, 0⟩ : Tk) :: tokG [5, 5, 5, 0] [R, A, I, 0] = (tokW codeW :: []) ++ numT R ++ numT A ++ numT I
  simp [tokG, partT]
  rfl
theorem restT_step : ∀ (l : List Ji) (k : Nat) (x : Ji), l[k]? = some x → restT (l.take (k + 1)) = restT (l.take k) ++ [lineTk] ++ lineT x
  | [], k, x, h => by simp at h
  | y :: l, 0, x, h => by
    simp at h
    subst h
    simp [restT]
  | y :: l, k + 1, x, h => by
    have := restT_step l k x (by simpa using h)
    simp only [List.take_succ_cons, restT]
    rw [this]
    simp
section
variable {P : Program} {Q : Exit → Act → World → Prop} {a : Act} {w : World} {l : List Oper}
/-- as wp_region_joint, where the values at the start are those that were there -/
theorem wp_region_joint2 {id : Nat} (J : (Nat → Bool) → (Nat → Value) → World → Prop) (hm : P.follows .mixedOrders = true) (hup : upC l.toArray = true) (ho : onceD (l.map (·.dst)) = true)
    (h0 : ∀ D vs, putV vs 0 (l.map (·.dst)) a = a → (∀ i, i < l.length → D i = false) → J D vs w.drew)
    (hstep : ∀ i o, l[i]? = some o → ∀ D vs w', J D vs w' → D i = false → (∀ k, o.after.toList.any (fun e => Region.binds .any e && e.on == k) = true → D k = true) →
      ∀ K : Act → World → Prop, (∀ a'' v w'' D', a'' = (putV vs 0 (l.map (·.dst)) a).put o.dst v → (∀ j, j ≠ i → D' j = D j) → D' i = true → J D' (fun j => if j = i then v else vs j) w'' → K a'' w'') →
      if Region.wanted o (yielded l.toArray (putV vs 0 (l.map (·.dst)) a).tmps) = true then Oper.wp P o (putV vs 0 (l.map (·.dst)) a) w' K Q else K ((putV vs 0 (l.map (·.dst)) a).put o.dst undef) w')
    (hend : ∀ D vs w', J D vs w' → (∀ i, i < l.length → D i = true) → Q .normal (putV vs 0 (l.map (·.dst)) a) w')
    (hJ : ∀ D D' vs w', (∀ i, i < l.length → D i = D' i) → J D vs w' → J D' vs w') : (Code.region id l.toArray true).wp P Q a w := by
  refine wp_region_invC (fun a0 L a' w' => ∃ vs, a' = putV vs 0 (l.map (·.dst)) a0 ∧ J (fun k => L.getD k false) vs w' ∧ L.size = l.length) hm hup ?_ ?_ ?_
  · obtain ⟨vs, h⟩ := putV_self a (l.map (·.dst)) 0
    refine ⟨vs, h.symm, h0 _ vs h fun i _ => ?_, by simp⟩
    show (Array.replicate l.toArray.size false).getD i false = false
    unfold Array.getD
    split <;> simp
  · rintro L a' w' ⟨vs, rfl, hj, _⟩ hall
    exact hend _ vs w' hj (fun i hi => hall i (by simpa using hi))
  · rintro L a' w' i ⟨vs, rfl, hj, hsz⟩ hi
    obtain ⟨hun, o, ho1, _⟩ := mem_ready.1 hi
    have ho2 : l[i]? = some o := by simpa using ho1
    have hlt : i < l.length := (List.getElem?_eq_some_iff.1 ho2).1
    have hD : L.getD i false = false := by
      have h2 : i < L.size := by omega
      simp [h2] at hun ⊢
      exact hun
    refine wpOp_of ho1 (fun K hK => hstep i o ho2 _ vs w' hj hD (fun k hk => ready_at hi ho1 k hk) K ?_)
    intro a'' v w'' D' e hD1 hD2 hr
    refine hK _ _ ⟨fun j => if j = 0 + i then v else vs j, ?_, ?_, by simp [hsz]⟩
    · rw [e]
      exact putV_at vs v _ 0 i a o.dst ho (by rw [List.getElem?_map, ho2]; rfl)
    · simp only [Nat.zero_add]
      refine hJ D' _ _ _ (fun j hj => ?_) hr
      by_cases hji : j = i
      · subst hji
        rw [hD2]
        have h2 : j < L.size := by omega
        simp [h2]
      · rw [hD1 j hji, getD_set_ne false (Ne.symm hji)]
end
/-- what comes up behind what -/
def Cl (D : Nat → Bool) : Prop := (D 4 = true → D 1 = true ∧ D 3 = true) ∧ (D 3 = true → D 2 = true) ∧ (D 5 = true → D 0 = true ∧ D 4 = true) ∧ (D 6 = true → D 5 = true)
theorem Cl.put {D : Nat → Bool} (h : Cl D) (i : Nat) (h3 : i = 3 → D 2 = true) (h4 : i = 4 → D 1 = true ∧ D 3 = true) (h5 : i = 5 → D 0 = true ∧ D 4 = true) (h6 : i = 6 → D 5 = true) : Cl (fun j => j == i || D j) := by
  have up : ∀ j, D j = true → (j == i || D j) = true := fun j e => by rw [e, Bool.or_true]
  have dn : ∀ j, (j == i || D j) = true → j = i ∨ D j = true := fun j e => by simpa using e
  obtain ⟨a, b, c, d⟩ := h
  refine ⟨fun e => ?_, fun e => ?_, fun e => ?_, fun e => ?_⟩
  · rcases dn 4 e with e | e
    · exact ⟨up 1 (h4 e.symm).1, up 3 (h4 e.symm).2⟩
    · exact ⟨up 1 (a e).1, up 3 (a e).2⟩
  · rcases dn 3 e with e | e
    · exact up 2 (h3 e.symm)
    · exact up 2 (b e)
  · rcases dn 5 e with e | e
    · exact ⟨up 0 (h5 e.symm).1, up 4 (h5 e.symm).2⟩
    · exact ⟨up 0 (c e).1, up 4 (c e).2⟩
  · rcases dn 6 e with e | e
    · exact up 5 (h6 e.symm)
    · exact up 5 (d e)
theorem Cl.not5 {D : Nat → Bool} (h : Cl D) {i : Nat} (hi : i < 5) (hDi : D i = false) : D 5 = false := by
  obtain ⟨a, b, c, _⟩ := h
  cases e : D 5
  · rfl
  · obtain ⟨a0, a4⟩ := c e
    obtain ⟨a1, a3⟩ := a a4
    have a2 := b a3
    rcases (by omega : i = 0 ∨ i = 1 ∨ i = 2 ∨ i = 3 ∨ i = 4) with rfl | rfl | rfl | rfl | rfl
    · rw [a0] at hDi; cases hDi
    · rw [a1] at hDi; cases hDi
    · rw [a2] at hDi; cases hDi
    · rw [a3] at hDi; cases hDi
    · rw [a4] at hDi; cases hDi
theorem Cl.not6 {D : Nat → Bool} (h : Cl D) (h5 : D 5 = false) : D 6 = false := by
  cases e : D 6
  · rfl
  · rw [h.2.2.2 e] at h5; cases h5
/-- a list that is made (value 4), appended (5) and kept (6), behind values that are told -/
structure AppJ (w W7 : World) (base p m : Nat) (A : Option Addr) (c : Nat) (L0 PT : List Tk) (F : Nat → Value) (D : Nat → Bool) (vs : Nat → Value) (w' : World) : Prop where
  bel : Below base w w'
  pre : D 5 = false → Below W7.heap.size W7 w'
  vals : ∀ i, i < 4 → D i = true → vs i = F i
  cl : Cl D
  own0 : D 5 = false → OwnT w' base A c L0
  made : D 4 = true → D 5 = false → ∃ A2 c2, vs 4 = .slice A2 p c2 ∧ Toks w' w'.heap.size A2 p PT
  app : D 5 = true → ∃ A4 c4, vs 5 = .slice A4 (m + p) c4 ∧ OwnT w' base A4 c4 (L0 ++ PT)
  kept : D 6 = true → vs 6 = vs 5
  old : D 6 = false → vs 6 = F 0
section
variable {w W7 w' w'' : World} {base p m c : Nat} {A : Option Addr} {L0 PT : List Tk} {F : Nat → Value} {D D' : Nat → Bool} {vs : Nat → Value}
theorem AppJ.same (h : AppJ w W7 base p m A c L0 PT F D vs w') (hD : ∀ i, i < 7 → D i = D' i) : AppJ w W7 base p m A c L0 PT F D' vs w' := by
  have e0 := hD 0 (by omega)
  have e1 := hD 1 (by omega)
  have e2 := hD 2 (by omega)
  have e3 := hD 3 (by omega)
  have e4 := hD 4 (by omega)
  have e5 := hD 5 (by omega)
  have e6 := hD 6 (by omega)
  obtain ⟨h1, h2, h3, h4, h5, h6, h7, h8, h9⟩ := h
  refine ⟨h1, ?_, fun i hi hd => h3 i hi (by rw [hD i (by omega)]; exact hd), ?_, ?_, ?_, ?_, ?_, ?_⟩
  · rw [← e5]; exact h2
  · unfold Cl; rw [← e0, ← e1, ← e2, ← e3, ← e4, ← e5, ← e6]; exact h4
  · rw [← e5]; exact h5
  · rw [← e4, ← e5]; exact h6
  · rw [← e5]; exact h7
  · rw [← e6]; exact h8
  · rw [← e6]; exact h9
theorem AppJ.step (h : AppJ w W7 base p m A c L0 PT F D vs w') {i : Nat} (hi : i < 4) (hDi : D i = false) (hb : Below w'.heap.size w' w'') (hbs : base ≤ w'.heap.size) (hc : Cl D') (hD : ∀ j, j ≠ i → D' j = D j) : AppJ w W7 base p m A c L0 PT F D' (fun j => if j = i then F i else vs j) w'' := by
  have h5 := h.cl.not5 (by omega) hDi
  have h5' : D' 5 = false := by rw [hD 5 (by omega)]; exact h5
  have h6' := hc.not6 h5'
  refine ⟨h.bel.trans (hb.mono hbs), fun _ => (h.pre h5).trans (hb.mono (h.pre h5).size), fun j hj hd => ?_, hc, fun _ => (h.own0 h5).below hb (Nat.le_refl _), fun hd _ => ?_, fun hd => (by rw [h5'] at hd; cases hd), fun hd => (by rw [h6'] at hd; cases hd), fun _ => ?_⟩
  · by_cases e : j = i
    · subst e; exact if_pos rfl
    · show (if j = i then F i else vs j) = _
      rw [if_neg e]
      exact h.vals j hj (by rw [← hD j e]; exact hd)
  · obtain ⟨A2, c2, e1, e2⟩ := h.made (by rw [← hD 4 (by omega)]; exact hd) h5
    refine ⟨A2, c2, ?_, (e2.below hb).more hb.size⟩
    show (if 4 = i then F i else vs 4) = _
    rw [if_neg (by omega)]
    exact e1
  · show (if 6 = i then F i else vs 6) = _
    rw [if_neg (by omega)]
    exact h.old (h.cl.not6 h5)
theorem AppJ.make (h : AppJ w W7 base p m A c L0 PT F D vs w') (hDi : D 4 = false) {A2 : Option Addr} {c2 : Nat} (hb : Below w'.heap.size w' w'') (hbs : base ≤ w'.heap.size) (ho : Toks w'' w''.heap.size A2 p PT) (hc : Cl D') (hD : ∀ j, j ≠ 4 → D' j = D j) : AppJ w W7 base p m A c L0 PT F D' (fun j => if j = 4 then .slice A2 p c2 else vs j) w'' := by
  have h5 := h.cl.not5 (by omega) hDi
  have h5' : D' 5 = false := by rw [hD 5 (by omega)]; exact h5
  have h6' := hc.not6 h5'
  refine ⟨h.bel.trans (hb.mono hbs), fun _ => (h.pre h5).trans (hb.mono (h.pre h5).size), fun j hj hd => ?_, hc, fun _ => (h.own0 h5).below hb (Nat.le_refl _), fun _ _ => ⟨A2, c2, if_pos rfl, ho⟩, fun hd => (by rw [h5'] at hd; cases hd), fun hd => (by rw [h6'] at hd; cases hd), fun _ => ?_⟩
  · show (if j = 4 then _ else vs j) = _
    rw [if_neg (by omega)]
    exact h.vals j hj (by rw [← hD j (by omega)]; exact hd)
  · show (if 6 = 4 then _ else vs 6) = _
    rw [if_neg (by omega)]
    exact h.old (h.cl.not6 h5)
theorem AppJ.append (h : AppJ w W7 base p m A c L0 PT F D vs w') (hDi : D 5 = false) {A4 : Option Addr} {c4 : Nat} (hb : Below base w w'') (ho : OwnT w'' base A4 c4 (L0 ++ PT)) (hc : Cl D') (hD : ∀ j, j ≠ 5 → D' j = D j) (hD5 : D' 5 = true) : AppJ w W7 base p m A c L0 PT F D' (fun j => if j = 5 then .slice A4 (m + p) c4 else vs j) w'' := by
  have h6' : D' 6 = false := by rw [hD 6 (by omega)]; exact h.cl.not6 hDi
  refine ⟨hb, fun h => (by rw [hD5] at h; cases h), fun j hj hd => ?_, hc, fun hd => (by rw [hD5] at hd; cases hd), fun _ hd => (by rw [hD5] at hd; cases hd), fun _ => ⟨A4, c4, if_pos rfl, ho⟩, fun hd => (by rw [h6'] at hd; cases hd), fun _ => ?_⟩
  · show (if j = 5 then _ else vs j) = _
    rw [if_neg (by omega)]
    exact h.vals j hj (by rw [← hD j (by omega)]; exact hd)
  · show (if 6 = 5 then _ else vs 6) = _
    rw [if_neg (by omega)]
    exact h.old (h.cl.not6 hDi)
theorem AppJ.keep (h : AppJ w W7 base p m A c L0 PT F D vs w') (hd5 : D 5 = true) (hc : Cl D') (hD6 : D' 6 = true) (hD : ∀ j, j ≠ 6 → D' j = D j) : AppJ w W7 base p m A c L0 PT F D' (fun j => if j = 6 then vs 5 else vs j) w' := by
  refine ⟨h.bel, fun e => (by rw [hD 5 (by omega), hd5] at e; cases e), fun j hj hd => ?_, hc, fun hd => (by rw [hD 5 (by omega), hd5] at hd; cases hd), fun _ hd => (by rw [hD 5 (by omega), hd5] at hd; cases hd), fun _ => ?_, fun _ => ?_, fun e => (by rw [hD6] at e; cases e)⟩
  · show (if j = 6 then _ else vs j) = _
    rw [if_neg (by omega)]
    exact h.vals j hj (by rw [← hD j (by omega)]; exact hd)
  · exact h.app hd5
  · show (if 6 = 6 then vs 5 else vs 6) = (if 5 = 6 then vs 5 else vs 5)
    rfl
end
/-- values that are told, and a list that is made (value 8) and kept (9) -/
structure HeadJ (W0 : World) (base : Nat) (L : List Tk) (p : Nat) (F : Nat → Value) (D : Nat → Bool) (vs : Nat → Value) (w' : World) : Prop where
  bel : Below W0.heap.size W0 w'
  vals : ∀ i, i < 8 → D i = true → vs i = F i
  made : D 8 = true → ∃ A c, vs 8 = .slice A p c ∧ OwnT w' base A c L
  kept : D 9 = true → D 8 = true ∧ vs 9 = vs 8
section
variable {W0 w' w'' : World} {base p : Nat} {L : List Tk} {F : Nat → Value} {D D' : Nat → Bool} {vs : Nat → Value}
theorem HeadJ.same (h : HeadJ W0 base L p F D vs w') (hD : ∀ i, i < 10 → D i = D' i) : HeadJ W0 base L p F D' vs w' := by
  refine ⟨h.bel, fun i hi hd => h.vals i hi (by rw [hD i (by omega)]; exact hd), fun hd => h.made (by rw [hD 8 (by omega)]; exact hd), fun hd => ?_⟩
  have := h.kept (by rw [hD 9 (by omega)]; exact hd)
  rw [hD 8 (by omega)] at this
  exact this
theorem HeadJ.step (h : HeadJ W0 base L p F D vs w') {i : Nat} (hi : i < 8) (hb : Below w'.heap.size w' w'') (hD : ∀ j, j ≠ i → D' j = D j) : HeadJ W0 base L p F D' (fun j => if j = i then F i else vs j) w'' := by
  refine ⟨h.bel.trans (hb.mono h.bel.size), fun j hj hd => ?_, fun hd => ?_, fun hd => ?_⟩
  · by_cases e : j = i
    · subst e; exact if_pos rfl
    · show (if j = i then F i else vs j) = _
      rw [if_neg e]
      exact h.vals j hj (by rw [← hD j e]; exact hd)
  · obtain ⟨A, c, e1, e2⟩ := h.made (by rw [← hD 8 (by omega)]; exact hd)
    refine ⟨A, c, ?_, e2.below hb (Nat.le_refl _)⟩
    show (if 8 = i then F i else vs 8) = _
    rw [if_neg (by omega)]
    exact e1
  · obtain ⟨e1, e2⟩ := h.kept (by rw [← hD 9 (by omega)]; exact hd)
    refine ⟨by rw [hD 8 (by omega)]; exact e1, ?_⟩
    show (if 9 = i then F i else vs 9) = (if 8 = i then F i else vs 8)
    rw [if_neg (by omega), if_neg (by omega)]
    exact e2
theorem HeadJ.make (h : HeadJ W0 base L p F D vs w') (hDi : D 8 = false) {A : Option Addr} {c : Nat} (hb : Below w'.heap.size w' w'') (ho : OwnT w'' base A c L) (hD : ∀ j, j ≠ 8 → D' j = D j) : HeadJ W0 base L p F D' (fun j => if j = 8 then .slice A p c else vs j) w'' := by
  refine ⟨h.bel.trans (hb.mono h.bel.size), fun j hj hd => ?_, fun _ => ⟨A, c, if_pos rfl, ho⟩, fun hd => ?_⟩
  · show (if j = 8 then _ else vs j) = _
    rw [if_neg (by omega)]
    exact h.vals j hj (by rw [← hD j (by omega)]; exact hd)
  · obtain ⟨e1, _⟩ := h.kept (by rw [← hD 9 (by omega)]; exact hd)
    rw [e1] at hDi; cases hDi
theorem HeadJ.keep (h : HeadJ W0 base L p F D vs w') (hd8 : D 8 = true) (hD : ∀ j, j ≠ 9 → D' j = D j) : HeadJ W0 base L p F D' (fun j => if j = 9 then vs 8 else vs j) w' := by
  refine ⟨h.bel, fun j hj hd => ?_, fun _ => h.made hd8, fun _ => ⟨by rw [hD 8 (by omega)]; exact hd8, rfl⟩⟩
  show (if j = 9 then _ else vs j) = _
  rw [if_neg (by omega)]
  exact h.vals j hj (by rw [← hD j (by omega)]; exact hd)
end
/-- the parts of an instruction that may be -/
theorem parts_may {R A L : Int} {x : Ji} (h : mayJ R A L x = true) (hR : R ≤ 1000) (hA : A ≤ 1000) (hL : L ≤ 1000000) : ∀ (i : Nat) (k v : Int), (kN x.op)[i]? = some k → x.p[i]? = some v → (k = 0 ∨ k = 6 ∨ 0 ≤ v) ∧ -1000000000000000000 < v ∧ v < 1000000000000000000 := by
  obtain ⟨⟨h0, h1⟩, h2, h3, h4⟩ := mayJ_parts h
  have hlim : ∀ k, limJ R A L k ≤ 1000000 := fun k => by unfold limJ; split; omega; split; omega; split; omega; omega
  have i0 := h2 0 (by omega)
  have i1 := h2 1 (by omega)
  have i2 := h2 2 (by omega)
  have l0 := hlim ((kJ x.op).getD 0 32)
  have l1 := hlim ((kJ x.op).getD 1 32)
  have l2 := hlim ((kJ x.op).getD 2 32)
  have hn : -1000000000000000000 < x.n ∧ x.n < 1000000000000000000 := by
    by_cases hm : (110 : UInt8) ∈ kJ x.op
    · exact h3 hm
    · rw [h4 hm]; omega
  have hk3 : ∀ k, (kN x.op)[3]? = some k → k = 0 ∨ k = 6 := by
    intro k hk
    rcases op_cases h0 h1 with e | e | e | e | e | e | e | e | e | e | e | e | e <;> (rw [e] at hk; simp [kN, kindNs] at hk; omega)
  unfold InB at i0 i1 i2
  intro i k v hk hv
  match i, hv with
  | 0, hv => obtain rfl : x.a = v := Option.some.inj hv; have e : x.f.getD 0 0 = x.a := rfl; rw [e] at i0; omega
  | 1, hv => obtain rfl : x.b = v := Option.some.inj hv; have e : x.f.getD 1 0 = x.b := rfl; rw [e] at i1; omega
  | 2, hv => obtain rfl : x.c = v := Option.some.inj hv; have e : x.f.getD 2 0 = x.c := rfl; rw [e] at i2; omega
  | 3, hv => obtain rfl : x.n = v := Option.some.inj hv; have := hk3 k hk; omega
  | i + 4, hv => cases hv
end Go.Proofs.YtbmcddolfofmdaaGreatDoor
/- The program's codeTokens: code's tokens. -/
namespace Go.Proofs.YtbmcddolfofmdaaGreatDoor
open Go Go.RowKit

theorem OwnT.mono {w : World} {base base' c : Nat} {A : Option Addr} {ss : List Tk} (h : OwnT w base A c ss) (hb : base' ≤ base) : OwnT w base' A c ss := by
  refine ⟨h.1, ?_⟩
  rcases h.2 with h1 | ⟨g, cap, cur, h1, h2, h3⟩
  · exact .inl h1
  · exact .inr ⟨g, cap, cur, h1, by omega, h3⟩
theorem kN_sh (op : Int) : [kA op 0, kA op 1, kA op 2, kA op 3] = kN op := by
  obtain ⟨a, b, c, d, h⟩ : ∃ a b c d, kN op = [a, b, c, d] := by
    have := kN_len op
    match kN op, this with
    | [a, b, c, d], _ => exact ⟨a, b, c, d, rfl⟩
  unfold kA
  rw [h]
  rfl
/-- the tokens of an instruction that may be -/
theorem lineTokens_any (x : Ji) {R A L : Int} (w : World) (h : mayJ R A L x = true) (hR : R ≤ 1000) (hA : A ≤ 1000) (hL : L ≤ 1000000) (hT : TabT w) :
    Calls Tryz.prog 48 #[shW (strJ (wJ x.op)) (kA x.op 0) (kA x.op 1) (kA x.op 2) (kA x.op 3), partsV x] w (PartP (lineT x) w) := by
  have h1 := tokens_any (strJ (wJ x.op)) (kA x.op 0) (kA x.op 1) (kA x.op 2) (kA x.op 3) x.a x.b x.c x.n w (by rw [kN_sh]; exact kN_bound x.op) (by rw [kN_sh]; exact parts_may h hR hA hL) hT
  rw [kN_sh, show [x.a, x.b, x.c, x.n] = x.p from rfl, lineS_line] at h1
  exact h1
set_option maxRecDepth 100000 in
set_option maxHeartbeats 8000000 in
theorem codeTokens_any (q : Cq) (w : World) (hq : q.In w) (hm : q.cd.may = true) (hS : ShT w) (hT : TabT w) : Calls Tryz.prog 23 #[q.val] w (PartP (progT q.cd) w) := by
  obtain ⟨R, A, I, P, n, ch, l⟩ := q
  obtain ⟨W0, hW0⟩ : ∃ W, w.alloc (Cq.obj ⟨R, A, I, P, n, ch, l⟩) = W := ⟨_, rfl⟩
  have HB0 : Hid (Below w.heap.size w W0) := by rw [← hW0]; exact lvBelow w _
  have HX0 : Hid (W0.heap[w.heap.size]? = some (Cq.obj ⟨R, A, I, P, n, ch, l⟩)) := by rw [← hW0]; exact heap_alloc_new w _
  have HQ := Lib.hid hq
  have HS := Lib.hid hS
  have HT := Lib.hid hT
  have HLN : Hid (l.length = n) := hq.len
  obtain ⟨⟨hR0, hR1, hA0, hA1, hI0, hI1, hl0, hl1⟩, hmy, _⟩ := Cd.may_parts hm
  have hn4 : n ≤ 4096 := by
    have h : (Cq.cd ⟨R, A, I, P, n, ch, l⟩).l.length = n := HLN.out
    rw [← h]; exact_mod_cast hl1
  have HMY : Hid (∀ x ∈ l, mayJ R A n x = true) := fun x hx => by
    have := hmy x hx
    rwa [show (Cq.cd ⟨R, A, I, P, n, ch, l⟩).l.length = n from HLN.out] at this
  have HRR : Hid ((0 ≤ R ∧ R ≤ 128) ∧ (0 ≤ A ∧ A ≤ 128) ∧ 0 ≤ I ∧ I ≤ 128) := by
    have g1 : 0 ≤ R := hR0
    have g2 : R ≤ 128 := hR1
    have g3 : 0 ≤ A := hA0
    have g4 : A ≤ 128 := hA1
    have g5 : 0 ≤ I := hI0
    have g6 : I ≤ A := hI1
    unfold Hid
    omega
  have HPR : Hid (progT (Cq.cd ⟨R, A, I, P, n, ch, l⟩) = progT ⟨R, A, I, l⟩) := rfl
  rw [HPR.out]
  clear hq hm hS hT hR0 hR1 hA0 hA1 hI0 hI1 hl0 hl1 hmy
  have hmx : Tryz.prog.follows .mixedOrders = true := by kernel_rfl
  have HFI := Lib.hid (fun W => first_any W)
  have HTK : Hid (∀ W, Below W0.heap.size W0 W → Calls Tryz.prog 48 #[shW ⟨#[99, 111, 100, 101]⟩ 5 5 5 0, .agg #[.int .i64 R, .int .i64 A, .int .i64 I, .int .i64 0]] W (PartP (headT R A I) W)) := fun W hb => by
    have h := tokens_any ⟨#[99, 111, 100, 101]⟩ 5 5 5 0 R A I 0 W (by decide) (by
      obtain ⟨h1, h2, h3⟩ := HRR.out
      intro i k v hk hv
      match i, hk, hv with
      | 0, hk, hv => cases hk; cases hv; omega
      | 1, hk, hv => cases hk; cases hv; omega
      | 2, hk, hv => cases hk; cases hv; omega
      | 3, hk, hv => cases hk; cases hv; omega
      | i + 4, hk, hv => cases hv) (HT.out.on (HB0.out.trans (hb.mono HB0.out.size)))
    rw [lineS_head] at h
    exact h
  obtain ⟨c0, c1, c2, c3, _⟩ := lvCells HX0.out
  have hgt : w.heap.size < W0.heap.size := lt_of_heap HX0.out
  have HC : Hid (∀ W, Below W0.heap.size W0 W → W.cell? ⟨w.heap.size, 0, none⟩ = some (.int .i64 R) ∧ W.cell? ⟨w.heap.size, 1, none⟩ = some (.int .i64 A) ∧ W.cell? ⟨w.heap.size, 2, none⟩ = some (.int .i64 I)) := fun W hb =>
    ⟨(hb.cell hgt).trans c0, (hb.cell hgt).trans c1, (hb.cell hgt).trans c2⟩
  obtain ⟨hp, hhp⟩ : ∃ p, (headT R A I).length = p := ⟨_, rfl⟩
  have HHP := Lib.hid hhp
  clear c0 c1 c2 c3 hgt hhp
  go_enter Tryz.func23, Tryz.ntmps23
  go_upto_region 1 with fail
  try rw [hW0]
  clear hW0
  let F : Nat → Value := fun i => match i with
    | 0 => shW ⟨#[99, 111, 100, 101]⟩ 5 5 5 0
    | 1 => .pointer (some ⟨w.heap.size, 0, none⟩)
    | 2 => .int .i64 R
    | 3 => .pointer (some ⟨w.heap.size, 1, none⟩)
    | 4 => .int .i64 A
    | 5 => .pointer (some ⟨w.heap.size, 2, none⟩)
    | 6 => .int .i64 I
    | _ => .agg #[.int .i64 R, .int .i64 A, .int .i64 I, .int .i64 0]
  refine wp_region_joint (HeadJ W0 w.heap.size (headT R A I) hp F) hmx (by kernel_rfl) (by kernel_rfl) ?_ ?_ ?_ ?_
  · intro D vs hD
    exact ⟨(Below.refl _ _).drew, fun i hi hd => (by rw [hD i (by show i < 10; omega)] at hd; cases hd), fun hd => (by rw [hD 8 (by decide)] at hd; cases hd), fun hd => (by rw [hD 9 (by decide)] at hd; cases hd)⟩
  · intro i o ho D vs w2 hJ hDi hd K hK
    have hi : i < 10 := (List.getElem?_eq_some_iff.1 ho).1
    generalize hlit : putV vs 0 _ _ = z at hK ⊢
    simp only [List.map_cons, List.map_nil, putV, Act.put, List.setIfInBounds_toArray, List.set_cons_succ, List.set_cons_zero] at hlit
    subst hlit
    rcases (by omega : i = 0 ∨ i = 1 ∨ i = 2 ∨ i = 3 ∨ i = 4 ∨ i = 5 ∨ i = 6 ∨ i = 7 ∨ i = 8 ∨ i = 9) with rfl | rfl | rfl | rfl | rfl | rfl | rfl | rfl | rfl | rfl
    · -- 0
      obtain rfl := Option.some.inj ho
      clear ho hd hi
      go_simp
      go_at_call 47
      refine (HFI.out _).mono ?_
      rintro e wf ⟨rfl, hbf⟩
      exact hK _ (F 0) _ (fun j => j == 0 || D j) (by simp [Act.put]; try rfl) (fun j hj => by simp [hj]) (by simp) (hJ.step (by decide) hbf (fun j hj => by simp [hj]))
    · -- 1
      obtain rfl := Option.some.inj ho
      clear ho hd hi
      go_simp
      exact hK _ (F 1) _ (fun j => j == 1 || D j) (by simp [Act.put]; try rfl) (fun j hj => by simp [hj]) (by simp) (hJ.step (by decide) (Below.refl _ _) (fun j hj => by simp [hj]))
    · -- 2
      obtain rfl := Option.some.inj ho
      have v1 : vs 1 = F 1 := hJ.vals 1 (by decide) (hd 1 (by kernel_rfl))
      obtain ⟨c0, c1, c2⟩ := HC.out w2 hJ.bel
      clear ho hd hi
      dsimp only [F] at v1
      go_simp
      exact hK _ (F 2) _ (fun j => j == 2 || D j) (by simp [Act.put, v1]; try rfl) (fun j hj => by simp [hj]) (by simp) (hJ.step (by decide) (Below.refl _ _) (fun j hj => by simp [hj]))
    · -- 3
      obtain rfl := Option.some.inj ho
      clear ho hd hi
      go_simp
      exact hK _ (F 3) _ (fun j => j == 3 || D j) (by simp [Act.put]; try rfl) (fun j hj => by simp [hj]) (by simp) (hJ.step (by decide) (Below.refl _ _) (fun j hj => by simp [hj]))
    · -- 4
      obtain rfl := Option.some.inj ho
      have v3 : vs 3 = F 3 := hJ.vals 3 (by decide) (hd 3 (by kernel_rfl))
      obtain ⟨c0, c1, c2⟩ := HC.out w2 hJ.bel
      clear ho hd hi
      dsimp only [F] at v3
      go_simp
      exact hK _ (F 4) _ (fun j => j == 4 || D j) (by simp [Act.put, v3]; try rfl) (fun j hj => by simp [hj]) (by simp) (hJ.step (by decide) (Below.refl _ _) (fun j hj => by simp [hj]))
    · -- 5
      obtain rfl := Option.some.inj ho
      clear ho hd hi
      go_simp
      exact hK _ (F 5) _ (fun j => j == 5 || D j) (by simp [Act.put]; try rfl) (fun j hj => by simp [hj]) (by simp) (hJ.step (by decide) (Below.refl _ _) (fun j hj => by simp [hj]))
    · -- 6
      obtain rfl := Option.some.inj ho
      have v5 : vs 5 = F 5 := hJ.vals 5 (by decide) (hd 5 (by kernel_rfl))
      obtain ⟨c0, c1, c2⟩ := HC.out w2 hJ.bel
      clear ho hd hi
      dsimp only [F] at v5
      go_simp
      exact hK _ (F 6) _ (fun j => j == 6 || D j) (by simp [Act.put, v5]; try rfl) (fun j hj => by simp [hj]) (by simp) (hJ.step (by decide) (Below.refl _ _) (fun j hj => by simp [hj]))
    · -- 7
      obtain rfl := Option.some.inj ho
      have v2 : vs 2 = F 2 := hJ.vals 2 (by decide) (hd 2 (by kernel_rfl))
      have v4 : vs 4 = F 4 := hJ.vals 4 (by decide) (hd 4 (by kernel_rfl))
      have v6 : vs 6 = F 6 := hJ.vals 6 (by decide) (hd 6 (by kernel_rfl))
      clear ho hd hi
      dsimp only [F] at v2 v4 v6
      go_simp
      exact hK _ (F 7) _ (fun j => j == 7 || D j) (by simp [Act.put, v2, v4, v6]; try rfl) (fun j hj => by simp [hj]) (by simp) (hJ.step (by decide) (Below.refl _ _) (fun j hj => by simp [hj]))
    · -- 8
      obtain rfl := Option.some.inj ho
      have v0 : vs 0 = F 0 := hJ.vals 0 (by decide) (hd 0 (by kernel_rfl))
      have v7 : vs 7 = F 7 := hJ.vals 7 (by decide) (hd 7 (by kernel_rfl))
      clear ho hd hi
      dsimp only [F] at v0 v7
      go_simp
      go_at_call 48
      refine (HTK.out _ hJ.bel).mono ?_
      rintro e wf ⟨A3, c3, rfl, hO3, hbf⟩
      rw [HHP.out]
      exact hK _ (.slice A3 hp c3) _ (fun j => j == 8 || D j) (by simp [Act.put, v0, v7]; try rfl) (fun j hj => by simp [hj]) (by simp) (hJ.make hDi hbf (hO3.mono (Nat.le_trans HB0.out.size hJ.bel.size)) (fun j hj => by simp [hj]))
    · -- 9
      obtain rfl := Option.some.inj ho
      have hd8 := hd 8 (by kernel_rfl)
      clear ho hd hi
      go_simp
      exact hK _ (vs 8) _ (fun j => j == 9 || D j) (by simp [Act.put]; try rfl) (fun j hj => by simp [hj]) (by simp) (hJ.keep hd8 (fun j hj => by simp [hj]))
  · intro D vs w2 hJ hall
    obtain ⟨A3, c3, v8, hO3⟩ := hJ.made (hall 8 (by decide))
    have v9 := (hJ.kept (hall 9 (by decide))).2
    rw [v8] at v9
    have v0 : vs 0 = F 0 := hJ.vals 0 (by decide) (hall 0 (by decide))
    have v1 : vs 1 = F 1 := hJ.vals 1 (by decide) (hall 1 (by decide))
    have v2 : vs 2 = F 2 := hJ.vals 2 (by decide) (hall 2 (by decide))
    have v3 : vs 3 = F 3 := hJ.vals 3 (by decide) (hall 3 (by decide))
    have v4 : vs 4 = F 4 := hJ.vals 4 (by decide) (hall 4 (by decide))
    have v5 : vs 5 = F 5 := hJ.vals 5 (by decide) (hall 5 (by decide))
    have v6 : vs 6 = F 6 := hJ.vals 6 (by decide) (hall 6 (by decide))
    have v7 : vs 7 = F 7 := hJ.vals 7 (by decide) (hall 7 (by decide))
    dsimp only [F] at v0 v1 v2 v3 v4 v5 v6 v7
    have HB2 := Lib.hid (HB0.out.trans (hJ.bel.mono HB0.out.size))
    have HX2 := Lib.hid (keep_b hJ.bel HX0.out)
    have HO2 := Lib.hid hO3
    generalize hlit : putV vs 0 _ _ = z
    simp only [List.map_cons, List.map_nil, putV, Act.put, List.setIfInBounds_toArray, List.set_cons_succ, List.set_cons_zero] at hlit
    rw [v0, v1, v2, v3, v4, v5, v6, v7, v8, v9] at hlit
    subst hlit
    clear hJ hall v0 v1 v2 v3 v4 v5 v6 v7 v8 v9 hO3
    clear F
    clear HFI HTK HC hmx HB0 HX0
    have hp0 : headT R A I = progT ⟨R, A, I, l.take 0⟩ := by rw [List.take_zero]; unfold progT restT; rw [List.append_nil]
    rw [hp0] at HO2 HHP
    obtain ⟨c0, c1, c2, c3', _⟩ := lvCells HX2.out
    clear hp0
    rw [← HHP.out]
    go_wp2_with fail
    clear c0 c1 c2 c3'
    go_loopw [3, 20] (fun v i wr => ∃ (k : Nat) (A' : Option Addr) (c' : Nat), k ≤ n ∧ i = .int .i64 k ∧ v = .slice A' (progT ⟨R, A, I, l.take k⟩).length c' ∧ Hid (OwnT wr w.heap.size A' c' (progT ⟨R, A, I, l.take k⟩)) ∧ Hid (Below w.heap.size w wr)) (fun _ i _ => n - (intOf i).toNat)
    case atStart => exact ⟨0, _, _, Nat.zero_le _, rfl, rfl, HO2, HB2⟩
    case round =>
      obtain ⟨k, A', c', hk, rfl, rfl, HO, HB⟩ := hrel
      have hll := progT_len ⟨R, A, I, l.take k⟩
      have hlk : (l.take k).length ≤ k := by rw [List.length_take]; omega
      by_cases hlt : k < n
      · obtain ⟨b, off, y, hA, hbb, HY, ⟨y0, y1, y2, y3, y4⟩, hyo⟩ := ((HQ.out.on HB.out).ins).at_ hlt
        subst hA
        have hmy := HMY.out y (List.mem_of_getElem? HY.out)
        have hRb := HRR.out
        have HLT := Lib.hid (fun W h => lineTokens_any y W hmy (by omega) (by omega) (by omega) h)
        have HTL := Lib.hid (lineT_ok hmy hyo)
        have hq7 : (lineT y).length ≤ 7 := by
          have h1 := argsT_len (kJ y.op) y.f y.n
          have h2 := kJ_len y.op
          unfold lineT
          rw [List.length_cons]
          omega
        have HST := Lib.hid (prog_step (R := R) (A := A) (I := I) HY.out)
        obtain ⟨T, hT⟩ : ∃ T, lineT y = T := ⟨_, rfl⟩
        obtain ⟨p, hp⟩ : ∃ p, T.length = p := ⟨_, rfl⟩
        rw [hT] at HLT HTL hq7 HST
        rw [hp] at hq7
        have HPL := Lib.hid hp
        obtain ⟨m, hm⟩ : ∃ m, (progT ⟨R, A, I, l.take k⟩).length = m := ⟨_, rfl⟩
        have HM := Lib.hid hm
        have hm7 : m ≤ 7 + 8 * (l.take k).length := by rw [← hm]; exact hll
        have hm5 : m ≤ 40000 := by omega
        rw [hm]
        obtain ⟨W4, hW4⟩ : ∃ W, wr.alloc y.obj = W := ⟨_, rfl⟩
        obtain ⟨gy, hgy⟩ : ∃ g, wr.heap.size = g := ⟨_, rfl⟩
        have hb4 : Below wr.heap.size wr W4 := by rw [← hW4]; exact lvBelow _ _
        have HB4 := Lib.hid (HB.out.trans (hb4.mono HB.out.size))
        have HY4 : Hid (W4.heap[gy]? = some y.obj) := by rw [← hW4, ← hgy]; exact newJ wr y
        have HO4 := Lib.hid (HO.out.below hb4 (Nat.le_refl _))
        have hk0 : (0 : Int) ≤ (k : Int) := by omega
        have hki : (k : Int) < (n : Int) := by omega
        have HW4 := Lib.hid hW4
        clear hbb hb4 hW4 hT hp hm hm7 hll hlk hmy hRb hyo
        go_upto_region 5 with fail
        try rw [HW4.out]
        try rw [hgy]
        clear y0 y1 y2 y3 y4 hgy
        obtain ⟨⟨y0, y1, y2, y3, y4⟩, yf⟩ := box_cellsJ HY4.out
        clear yf
        have cS := shapeOf_any y.op W4 (HS.out.on HB4.out)
        unfold ShapeP shV at cS
        go_wp2_with fail
        refine cS.mono ?_
        rintro e w5 ⟨rfl, hb⟩
        have HB5 := Lib.hid (HB4.out.trans (hb.mono HB4.out.size))
        have HY5 := Lib.hid (keep_b hb HY4.out)
        have HO5 := Lib.hid (HO4.out.below hb (Nat.le_refl _))
        obtain ⟨W6, hW6⟩ : ∃ W, w5.alloc (shObj y.op) = W := ⟨_, rfl⟩
        obtain ⟨gs, hgs⟩ : ∃ g, w5.heap.size = g := ⟨_, rfl⟩
        have hb6 : Below w5.heap.size w5 W6 := by rw [← hW6]; exact lvBelow _ _
        have HB6 := Lib.hid (HB5.out.trans (hb6.mono HB5.out.size))
        have HY6 := Lib.hid (keep_b hb6 HY5.out)
        have HO6 := Lib.hid (HO5.out.below hb6 (Nat.le_refl _))
        have HG6 : Hid (W6.heap[gs]? = some (.cells #[.string (strJ (wJ y.op)), .int .i64 (kA y.op 0), .int .i64 (kA y.op 1), .int .i64 (kA y.op 2), .int .i64 (kA y.op 3)] 58 (0, 0))) := by rw [← hW6, ← hgs]; exact heap_alloc_new _ _
        have HW6 := Lib.hid hW6
        clear hb hb6 hW6 cS y0 y1 y2 y3 y4
        go_upto_region 6 with fail
        try rw [HW6.out]
        try rw [hgs]
        clear hgs
        have hs6 : w.heap.size ≤ W6.heap.size := HB6.out.size
        have hT1 := (own_tok1 W6 lineTk 0 (Nat.zero_le _)).toks (fun x hx => by rw [List.mem_singleton.1 hx]; exact lineTk_ok)
        have hle1 : m + 1 ≤ 1000000 := by omega
        generalize progT ⟨R, A, I, l.take k⟩ = LK at HO6 HM HST ⊢
        go_wp2_with (at_builtin; refine wpList_appendToks rfl (.tmp 30) (.tmp 32) rfl w.heap.size A' (some ⟨W6.heap.size, 0, none⟩) c' 1 1 _ m (m + 1) LK [lineTk] rfl rfl (HO6.out.alloc _) HM.out rfl hT1 hle1 (by simp; omega) ?_; intro A7 c7 w7 hO7 hG7)
        have HB7 := Lib.hid (below_appT (HB6.out.alloc hs6 _) hG7 (HO6.out.alloc _) (by simp; omega))
        have HY7 : Hid (w7.heap[gy]? = some y.obj) := past_tok (HO6.out.alloc _) (pastJ _ HY6.out) (by decide) HM.out hG7
        have HG7 : Hid (w7.heap[gs]? = some (.cells #[.string (strJ (wJ y.op)), .int .i64 (kA y.op 0), .int .i64 (kA y.op 1), .int .i64 (kA y.op 2), .int .i64 (kA y.op 3)] 58 (0, 0))) := past_tok (HO6.out.alloc _) (pastJ _ HG6.out) (by decide) HM.out hG7
        have HO7 := Lib.hid hO7
        have HM1 : Hid ((LK ++ [lineTk]).length = m + 1) := by unfold Hid; rw [List.length_append, HM.out]; rfl
        have hmx : Tryz.prog.follows .mixedOrders = true := by kernel_rfl
        clear hG7 hT1 hO7 HO6 HO5 HO4 HY6 HY5 HY4 HG6 HB6 HB5 HB4 HW4 HW6 hle1
        go_upto_region 7 with fail
        let F : Nat → Value := fun i => match i with
          | 0 => .slice A7 (m + 1) c7
          | 1 => shW (strJ (wJ y.op)) (kA y.op 0) (kA y.op 1) (kA y.op 2) (kA y.op 3)
          | 2 => y.val
          | _ => partsV y
        refine wp_region_joint2 (AppJ w w7 w.heap.size p (m + 1) A7 c7 (LK ++ [lineTk]) T F) hmx (by kernel_rfl) (by kernel_rfl) ?_ ?_ ?_ ?_
        · intro D vs hpv hD
          have v6 : vs 6 = .slice A7 (m + 1) c7 := by
            have h := congrArg (fun a : Act => a.tmps.getD 3 undef) hpv
            simp only [List.map_cons, List.map_nil, putV, Act.put, List.setIfInBounds_toArray, List.set_cons_succ, List.set_cons_zero] at h
            exact h
          clear hpv
          have d5 := hD 5 (by decide)
          have d6 := hD 6 (by decide)
          have d4 := hD 4 (by decide)
          have d3 := hD 3 (by decide)
          exact ⟨HB7.out.drew, fun _ => (Below.refl _ _).drew, fun i hi hd => (by rw [hD i (by show i < 7; omega)] at hd; cases hd), ⟨fun hd => (by rw [d4] at hd; cases hd), fun hd => (by rw [d3] at hd; cases hd), fun hd => (by rw [d5] at hd; cases hd), fun hd => (by rw [d6] at hd; cases hd)⟩, fun _ => HO7.out, fun hd => (by rw [d4] at hd; cases hd), fun hd => (by rw [d5] at hd; cases hd), fun hd => (by rw [d6] at hd; cases hd), fun _ => v6⟩
        · intro i o ho D vs w2 hJ hDi hd K hK
          have hi : i < 7 := (List.getElem?_eq_some_iff.1 ho).1
          have hbs : w.heap.size ≤ w2.heap.size := hJ.bel.size
          generalize hlit : putV vs 0 _ _ = z at hK ⊢
          simp only [List.map_cons, List.map_nil, putV, Act.put, List.setIfInBounds_toArray, List.set_cons_succ, List.set_cons_zero] at hlit
          subst hlit
          rcases (by omega : i = 0 ∨ i = 1 ∨ i = 2 ∨ i = 3 ∨ i = 4 ∨ i = 5 ∨ i = 6) with rfl | rfl | rfl | rfl | rfl | rfl | rfl
          · -- 0
            obtain rfl := Option.some.inj ho
            have v6 : vs 6 = F 0 := hJ.old (hJ.cl.not6 (hJ.cl.not5 (by decide) hDi))
            clear ho hd hi
            go_simp
            exact hK _ (F 0) _ (fun j => j == 0 || D j) (by simp [Act.put, v6]; try rfl) (fun j hj => by simp [hj]) (by simp) (hJ.step (by decide) hDi (Below.refl _ _) hbs (hJ.cl.put 0 (fun h => absurd h (by decide)) (fun h => absurd h (by decide)) (fun h => absurd h (by decide)) (fun h => absurd h (by decide))) (fun j hj => by simp [hj]))
          · -- 1
            obtain rfl := Option.some.inj ho
            obtain ⟨s0, s1, s2, s3, s4, _⟩ := cells5 (keep_b (hJ.pre (hJ.cl.not5 (by decide) hDi)) HG7.out)
            clear ho hd hi
            go_simp
            exact hK _ (F 1) _ (fun j => j == 1 || D j) (by simp [Act.put]; try rfl) (fun j hj => by simp [hj]) (by simp) (hJ.step (by decide) hDi (Below.refl _ _) hbs (hJ.cl.put 1 (fun h => absurd h (by decide)) (fun h => absurd h (by decide)) (fun h => absurd h (by decide)) (fun h => absurd h (by decide))) (fun j hj => by simp [hj]))
          · -- 2
            obtain rfl := Option.some.inj ho
            obtain ⟨⟨y0, y1, y2, y3, y4⟩, _⟩ := box_cellsJ (keep_b (hJ.pre (hJ.cl.not5 (by decide) hDi)) HY7.out)
            clear ho hd hi
            go_simp
            exact hK _ (F 2) _ (fun j => j == 2 || D j) (by simp [Act.put]; try rfl) (fun j hj => by simp [hj]) (by simp) (hJ.step (by decide) hDi (Below.refl _ _) hbs (hJ.cl.put 2 (fun h => absurd h (by decide)) (fun h => absurd h (by decide)) (fun h => absurd h (by decide)) (fun h => absurd h (by decide))) (fun j hj => by simp [hj]))
          · -- 3
            obtain rfl := Option.some.inj ho
            have hd2 := hd 2 (by kernel_rfl)
            have v2 : vs 2 = F 2 := hJ.vals 2 (by decide) hd2
            clear ho hd hi
            dsimp only [F] at v2
            go_simp
            go_at_call 49
            refine (parts_any y _).mono ?_
            rintro e wf ⟨rfl, hbf⟩
            exact hK _ (F 3) _ (fun j => j == 3 || D j) (by simp [Act.put, v2]; try rfl) (fun j hj => by simp [hj]) (by simp) (hJ.step (by decide) hDi hbf hbs (hJ.cl.put 3 (fun _ => hd2) (fun h => absurd h (by decide)) (fun h => absurd h (by decide)) (fun h => absurd h (by decide))) (fun j hj => by simp [hj]))
          · -- 4
            obtain rfl := Option.some.inj ho
            have hd1 := hd 1 (by kernel_rfl)
            have hd3 := hd 3 (by kernel_rfl)
            have v1 : vs 1 = F 1 := hJ.vals 1 (by decide) hd1
            have v3 : vs 3 = F 3 := hJ.vals 3 (by decide) hd3
            clear ho hd hi
            dsimp only [F] at v1 v3
            go_simp
            go_at_call 48
            refine (HLT.out _ (HT.out.on hJ.bel)).mono ?_
            rintro e wf ⟨A3, c3, rfl, hO3, hbf⟩
            rw [HPL.out]
            exact hK _ (.slice A3 p c3) _ (fun j => j == 4 || D j) (by simp [Act.put, v1, v3]; try rfl) (fun j hj => by simp [hj]) (by simp) (hJ.make hDi hbf hbs (by have h := hO3.toks HTL.out; rw [HPL.out] at h; exact h) (hJ.cl.put 4 (fun h => absurd h (by decide)) (fun _ => ⟨hd1, hd3⟩) (fun h => absurd h (by decide)) (fun h => absurd h (by decide))) (fun j hj => by simp [hj]))
          · -- 5
            obtain rfl := Option.some.inj ho
            have hd0 := hd 0 (by kernel_rfl)
            have hd4 := hd 4 (by kernel_rfl)
            have v0 : vs 0 = F 0 := hJ.vals 0 (by decide) hd0
            obtain ⟨A3, c3, v4, hT3⟩ := hJ.made hd4 hDi
            clear ho hd hi
            dsimp only [F] at v0
            rw [if_pos (by rfl)]
            refine wp_appendToks (.tmp 34) (.tmp 38) rfl w.heap.size A7 A3 c7 p c3 w2.heap.size (m + 1) (m + 1 + p) (LK ++ [lineTk]) T v0 v4 (hJ.own0 hDi) HM1.out rfl hT3 (by omega) hbs ?_
            intro A9 c9 w9 hO9 hG9
            exact hK _ (.slice A9 (m + 1 + p) c9) _ (fun j => j == 5 || D j) rfl (fun j hj => by simp [hj]) (by simp) (hJ.append hDi (below_appT hJ.bel hG9 (hJ.own0 hDi) hbs) hO9 (hJ.cl.put 5 (fun h => absurd h (by decide)) (fun h => absurd h (by decide)) (fun _ => ⟨hd0, hd4⟩) (fun h => absurd h (by decide))) (fun j hj => by simp [hj]) (by simp))
          · -- 6
            obtain rfl := Option.some.inj ho
            have hd5 := hd 5 (by kernel_rfl)
            clear ho hd hi
            go_simp
            exact hK _ (vs 5) _ (fun j => j == 6 || D j) (by simp [Act.put]; try rfl) (fun j hj => by simp [hj]) (by simp) (hJ.keep hd5 (hJ.cl.put 6 (fun h => absurd h (by decide)) (fun h => absurd h (by decide)) (fun h => absurd h (by decide)) (fun _ => hd5)) (by simp) (fun j hj => by simp [hj]))
        · intro D vs w2 hJ hall
          obtain ⟨A9, c9, v5, hO9⟩ := hJ.app (hall 5 (by decide))
          have v6 := hJ.kept (hall 6 (by decide))
          rw [v5] at v6
          have v0 : vs 0 = F 0 := hJ.vals 0 (by decide) (hall 0 (by decide))
          have v1 : vs 1 = F 1 := hJ.vals 1 (by decide) (hall 1 (by decide))
          have v2 : vs 2 = F 2 := hJ.vals 2 (by decide) (hall 2 (by decide))
          have v3 : vs 3 = F 3 := hJ.vals 3 (by decide) (hall 3 (by decide))
          dsimp only [F] at v0 v1 v2 v3
          have HB9 := Lib.hid hJ.bel
          have HO9 := Lib.hid hO9
          generalize hlit : putV vs 0 _ _ = z
          simp only [List.map_cons, List.map_nil, putV, Act.put, List.setIfInBounds_toArray, List.set_cons_succ, List.set_cons_zero] at hlit
          rw [v0, v1, v2, v3, v5, v6] at hlit
          generalize vs 4 = x4 at hlit
          subst hlit
          clear hJ hall v0 v1 v2 v3 v5 v6 hO9
          clear F
          clear HY7 HG7 HO7 HB7 hmx
          go_wp2_with fail
          go_roundw
          case rel => exact ⟨k + 1, A9, c9, by omega, by go_num, by rw [HST.out, List.length_append, HM1.out, HPL.out], by rw [HST.out]; exact HO9.out, HB9.out⟩
          case measure => simp [intOf]; omega
        · exact fun D D' vs w' hD h => h.same hD
      · obtain rfl : k = n := by omega
        have hpl : progT ⟨R, A, I, l.take k⟩ = progT ⟨R, A, I, l⟩ := by rw [List.take_of_length_le (by rw [HLN.out]; omega)]
        rw [hpl] at HO ⊢
        clear hpl hll hlk
        go_wp2_with fail
        go_ret
        exact ⟨A', c', rfl, HO.out, HB.out⟩
  · exact fun D D' vs w' hD h => h.same hD
end Go.Proofs.YtbmcddolfofmdaaGreatDoor
/- The program's Text of code. -/
namespace Go.Proofs.YtbmcddolfofmdaaGreatDoor
open Go Go.RowKit

theorem prog_may {q : Cq} {w : World} (hq : q.In w) (hm : q.cd.may = true) : ∀ t ∈ progT q.cd, t.ok := by
  obtain ⟨⟨hR0, hR1, hA0, hA1, hI0, hI1, _, _⟩, hmy, _⟩ := Cd.may_parts hm
  exact prog_ok (R := q.R) (A := q.A) (I := q.I) ⟨hR0, hR1⟩ ⟨hA0, hA1⟩ ⟨hI0, Int.le_trans hI1 hA1⟩ q.l (fun x hx => lineT_ok (hmy x hx) (hq.ins.2.1 x hx))
set_option maxRecDepth 100000 in
set_option maxHeartbeats 4000000 in
theorem codeText_any (q : Cq) (w : World) (hq : q.In w) (hS : ShT w) (hT : TabT w) (hl : q.cd.may = true → (progT q.cd).length ≤ 5000) : Calls Tryz.prog 6 #[q.val] w (TextP q w) := by
  have HLM := Lib.hid hl
  obtain ⟨W0, hW0⟩ : ∃ W, w.alloc q.obj = W := ⟨_, rfl⟩
  have HB0 : Hid (Below w.heap.size w W0) := by rw [← hW0]; exact lvBelow w _
  have HX0 : Hid (W0.heap[w.heap.size]? = some q.obj) := by rw [← hW0]; exact heap_alloc_new w _
  have HQ := Lib.hid hq
  have HS := Lib.hid hS
  have HT := Lib.hid hT
  obtain ⟨E, hE⟩ : ∃ E, q.cd.e = E := ⟨_, rfl⟩
  have hC := codeCheck_any q W0 (HQ.out.on HB0.out) (HS.out.on HB0.out)
  unfold CkP at hC
  rw [hE] at hC
  have HE := Lib.hid hE
  clear hq hS hT hE hl
  obtain ⟨m0, m1, m2, m3, _⟩ := lvCells HX0.out
  by_cases hE0 : E = 0
  case neg =>
    have e0 : (E != 0) = true := by simpa using hE0
    have e1 : E = 1 := by
      have h := HE.out
      unfold Cd.e at h
      split at h <;> omega
    have HTX : Hid (textF q.cd = (⟨#[]⟩, 1)) := by
      unfold Hid textF
      have hm : q.cd.may = false := by
        cases h : q.cd.may with
        | false => rfl
        | true => exact absurd (by rw [← HE.out]; unfold Cd.e; rw [h]; rfl) hE0
      rw [hm]
      rfl
    subst e1
    clear hE0
    go_enter Tryz.func6, Tryz.ntmps6
    go_wp2_with fail
    try rw [hW0]
    go_wp2_with fail
    refine hC.mono ?_
    rintro e w1 ⟨rfl, hb⟩
    have HB1 := Lib.hid (HB0.out.trans (hb.mono HB0.out.size))
    clear hb hC m0 m1 m2 m3
    go_wp2_with fail
    go_ret2
    unfold TextP
    rw [HTX.out]
    exact ⟨rfl, HB1.out⟩
  subst hE0
  have hmay : q.cd.may = true := by
    have h := HE.out
    unfold Cd.e at h
    split at h
    · assumption
    · cases h
  have HTX : Hid (textF q.cd = joinF (progT q.cd)) := by
    unfold Hid textF
    rw [if_pos hmay]
  have hln := HLM.out hmay
  have HOK := Lib.hid (prog_may HQ.out hmay)
  have HMM := Lib.hid hmay
  go_enter Tryz.func6, Tryz.ntmps6
  go_wp2_with fail
  try rw [hW0]
  go_wp2_with fail
  refine hC.mono ?_
  rintro e w1 ⟨rfl, hb⟩
  have HB1 := Lib.hid (HB0.out.trans (hb.mono HB0.out.size))
  have HX1 := Lib.hid (keep_b hb HX0.out)
  clear hb hC m0 m1 m2 m3 hW0
  obtain ⟨m0, m1, m2, m3, _⟩ := lvCells HX1.out
  have cT := codeTokens_any q w1 (HQ.out.on HB1.out) HMM.out (HS.out.on HB1.out) (HT.out.on HB1.out)
  unfold PartP at cT
  obtain ⟨p, hp⟩ : ∃ p, (progT q.cd).length = p := ⟨_, rfl⟩
  have HPL := Lib.hid hp
  rw [hp] at cT hln
  clear hp hmay
  go_wp2_with fail
  refine cT.mono ?_
  rintro e w2 ⟨A, c, rfl, hO, hb⟩
  have HB2 := Lib.hid (HB1.out.trans (hb.mono HB1.out.size))
  have hT2 := hO.toks HOK.out
  rw [HPL.out] at hT2
  have cJ := join_any A p c (progT q.cd) w2 hT2 hln
  unfold JoinP at cJ
  clear hb cT hO hT2 m0 m1 m2 m3
  go_wp2_with fail
  refine cJ.mono ?_
  rintro e w3 ⟨rfl, hb⟩
  have HB3 := Lib.hid (HB2.out.trans (hb.mono HB2.out.size))
  clear hb cJ
  go_wp2_with fail
  go_ret2
  unfold TextP
  rw [HTX.out]
  exact ⟨rfl, HB3.out⟩
end Go.Proofs.YtbmcddolfofmdaaGreatDoor
