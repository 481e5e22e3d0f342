/- purflelaw08.LexerRows, where tokens are few. -/
import Derived.Test.YtinjkakfnppjpaaPXRows
import Derived.Deep.DeepCutAuto
namespace Go.Proofs.Ytinjkakfnppjpaa
open Go.RowKit

theorem rows_mem (P : Tk → Prop) {rs : List RowK} {l : List Tk} (h : rs.map (·.L) = linesL l) (hP : ∀ t ∈ l, t.k ≠ 4 → P t) : ∀ r ∈ rs, ∀ t ∈ r.L, P t := fun r hr => linesL_mem P hP r.L (by rw [← h]; exact List.mem_map_of_mem hr)
theorem linesK_len : ∀ (l cur : List Tk) (D : List (List Tk)), (linesK D cur l).length ≤ D.length + 1 + l.length
  | [], cur, D => by simp [linesK]
  | t :: l, cur, D => by
    by_cases h : t.k = 4
    · rw [linesK_line h]
      have := linesK_len l [] (D ++ [cur])
      simp only [List.length_append, List.length_cons, List.length_nil] at this ⊢
      omega
    · rw [linesK_on h]
      have := linesK_len l (cur ++ [t]) D
      simp only [List.length_cons]
      omega
theorem linesL_len (l : List Tk) : (linesL l).length ≤ 1 + l.length := by
  unfold linesL
  split
  · simp
  · simpa using linesK_len l [] []
theorem linesK_short : ∀ (l cur : List Tk) (D : List (List Tk)), ∀ R ∈ linesK D cur l, R ∈ D ∨ R.length ≤ cur.length + l.length
  | [], cur, D => by
    intro R hR
    rw [linesK, List.mem_append, List.mem_singleton] at hR
    rcases hR with hR | rfl
    · exact .inl hR
    · exact .inr (by omega)
  | t :: l, cur, D => by
    intro R hR
    by_cases h : t.k = 4
    · rw [linesK_line h] at hR
      rcases linesK_short l [] (D ++ [cur]) R hR with h1 | h1
      · rw [List.mem_append, List.mem_singleton] at h1
        rcases h1 with h1 | rfl
        · exact .inl h1
        · exact .inr (by omega)
      · exact .inr (by simp only [List.length_nil, List.length_cons] at h1 ⊢; omega)
    · rw [linesK_on h] at hR
      rcases linesK_short l (cur ++ [t]) D R hR with h1 | h1
      · exact .inl h1
      · exact .inr (by simp only [List.length_append, List.length_cons, List.length_nil] at h1 ⊢; omega)
theorem linesL_short {l R : List Tk} (h : R ∈ linesL l) : R.length ≤ l.length := by
  unfold linesL at h
  split at h
  · cases h
  · rcases linesK_short l [] [] R h with h1 | h1
    · cases h1
    · simpa using h1
theorem RowsR.two {w : World} {B n m : Nat} {H H2 : Option Addr} {rs ss : List RowK} (h : RowsR w B H n rs) (h2 : RowsR w B H2 m ss) : ∀ r ∈ rs ++ ss, Toks w B r.A r.L.length r.L := fun r hr => by
  rcases List.mem_append.1 hr with hr | hr
  · exact h.toks r hr
  · exact h2.toks r hr
set_option maxRecDepth 100000 in
set_option maxHeartbeats 8000000 in
theorem lexerRows_main (W : World) (A : Option Addr) (n c : Nat) (L : List Tk) (h1 : Toks W W.heap.size A n L) (hn : n ≤ 5000) (A' : Option Addr) (n' c' : Nat) (M : List Tk) (h2 : Toks W W.heap.size A' n' M) (hn' : n' ≤ 5000) (f1 : fewL L = true) (f2 : fewL M = true) (n0 : 0 < n) (m0 : 0 < n') : Calls Try.prog 8 #[.slice A n c, .slice A' n' c'] W fun e w' => e = .returned (.bool true) ∧ Below W.heap.size W w' := by
  have F1 := Lib.hid f1
  have F2 := Lib.hid f2
  have e1 : ((n : Int) == 0) = false := by rw [beq_eq_false_iff_ne]; omega
  have e2 : ((n' : Int) == 0) = false := by rw [beq_eq_false_iff_ne]; omega
  have HL := Lib.hid h1.1
  have HL2 : Hid ((L ++ [lineTk]).length = n + 1) := Lib.hid (by rw [List.length_append, h1.1]; rfl)
  have HL3 : Hid ((L ++ [lineTk] ++ M).length = n + 1 + n') := Lib.hid (by rw [List.length_append, List.length_append, h1.1, h2.1]; rfl)
  have HC : Hid (linesL (L ++ [lineTk] ++ M) = linesL L ++ linesL M) := Lib.hid (linesL_cat rfl (fun e => by rw [← h1.1, e] at n0; exact absurd n0 (by decide)) (fun e => by rw [← h2.1, e] at m0; exact absurd m0 (by decide)))
  have okL := Lib.hid h1.2.1
  have okM := Lib.hid h2.2.1
  have okA : Hid (∀ x ∈ L ++ [lineTk] ++ M, x.ok) := by
    intro x hx
    simp only [List.mem_append, List.mem_singleton] at hx
    rcases hx with (hx | rfl) | hx
    · exact okL.out x hx
    · exact line_may.ok
    · exact okM.out x hx
  have hl1 : n ≤ 1000000 := by omega
  have hl2 : n + 1 ≤ 1000000 := by omega
  have hl3 : n + 1 + n' ≤ 1000000 := by omega
  clear f1 f2
  go_enter Try.func8, Try.ntmps8
  go_wp2_with (first | (go_at_call 9; refine (live_any _).mono ?_; rintro e w1 ⟨rfl, hb1⟩) | (go_at_call 13; (with_reducible refine (fewT_any A n c L _ ((h1.on hb1 (Nat.le_refl _)).more hb1.size) (by omega)).mono ?_); rintro e w2 ⟨rfl, hb2⟩; rw [F1.out]) | (go_at_call 13; refine (fewT_any A' n' c' M _ (((h2.on hb1 (Nat.le_refl _)).on hb2 hb1.size).more (Nat.le_trans hb1.size hb2.size)) (by omega)).mono ?_; rintro e w3 ⟨rfl, hb3⟩; rw [F2.out]; have HB3 : Below W.heap.size W w3 := (hb1.trans (hb2.mono hb1.size)).trans (hb3.mono (Nat.le_trans hb1.size hb2.size)); have hs3 := HB3.size) | (at_builtin; refine wpList_appendToks rfl (.const (.slice none 0 0)) (.tmp 34) rfl w3.heap.size none A 0 n c W.heap.size 0 n [] L rfl rfl (OwnT.nil_ _ _) rfl (Nat.zero_add _) (h1.on HB3 (Nat.le_refl _)) hl1 (Nat.le_refl _) ?_; intro A4 c4 w4 HO4 HG4; rw [List.nil_append] at HO4; have HB4 : Below w3.heap.size w3 w4 := (Below.refl _ _).grown HG4 (Nat.le_refl _) (fun g e => by cases e); have hs4 := HB4.size) | (at_builtin; refine wpList_appendTok rfl (.tmp 35) (.tmp 37) rfl w3.heap.size A4 c4 n (n + 1) w4.heap.size lineTk L rfl rfl rfl HO4 HL.out rfl hl2 hs4 ?_; intro A5 c5 w5 HO5 HG5; have HB5 : Below w3.heap.size w3 w5 := HB4.grown HG5 hs4 HO4.row; have hs5 := HB5.size) | (at_builtin; refine wpList_appendToks rfl (.tmp 38) (.tmp 39) rfl w3.heap.size A5 A' c5 n' c' W.heap.size (n + 1) (n + 1 + n') (L ++ [lineTk]) M rfl rfl HO5 HL2.out rfl ((h2.on HB3 (Nat.le_refl _)).on HB5 hs3) hl3 hs5 ?_; intro A6 c6 w6 HO6 HG6; have HB6 : Below w3.heap.size w3 w6 := HB5.grown HG6 hs5 HO5.row; have hs6 := HB6.size))
  have HW6 : Below W.heap.size W w6 := HB3.trans (HB6.mono hs3)
  have hsw6 := HW6.size
  go_wp2_with (go_at_call 16; (with_reducible refine (lines_any A n c L w6 ((h1.on HW6 (Nat.le_refl _)).more hsw6) (by omega)).mono ?_); rintro e w7 ⟨HX, nx, chx, rx, rfl, hnx, hLx, HKx, hb7⟩)
  go_wp2_with (go_at_call 16; (with_reducible refine (lines_any A' n' c' M w7 (((h2.on HW6 (Nat.le_refl _)).on hb7 hsw6).more (Nat.le_trans hsw6 hb7.size)) (by omega)).mono ?_); rintro e w8 ⟨HY, ny, chy, ry, rfl, hny, hLy, HKy, hb8⟩)
  go_upto_region 8 with (go_at_call 16; (with_reducible refine (lines_any A6 (n + 1 + n') c6 (L ++ [lineTk] ++ M) w8 ((((HO6.rd okA.out HL3.out).on hb7 (Nat.le_refl _)).on hb8 hb7.size).more (Nat.le_trans hb7.size hb8.size)) (by omega)).mono ?_); rintro e w9 ⟨HZ, nz, chz, rz, rfl, hnz, hLz, HKz, hb9⟩; skip)
  have HW9 : Below W.heap.size W w9 := ((HW6.trans (hb7.mono hsw6)).trans (hb8.mono (Nat.le_trans hsw6 hb7.size))).trans (hb9.mono (Nat.le_trans (Nat.le_trans hsw6 hb7.size) hb8.size))
  have RX := (((HKx.reads hnx (rows_mem Tk.ok hLx fun t ht _ => okL.out t ht)).on hb8 (Nat.le_refl _)).on hb9 hb8.size).more (Nat.le_trans hb8.size hb9.size)
  have RY := ((HKy.reads hny (rows_mem Tk.ok hLy fun t ht _ => okM.out t ht)).on hb9 (Nat.le_refl _)).more hb9.size
  have RZ := HKz.reads hnz (rows_mem Tk.ok hLz fun t ht _ => okA.out t ht)
  have HNL : Hid (∀ r ∈ rz, ∀ t ∈ r.L, t.k ≠ 4) := rows_mem (fun t => t.k ≠ 4) hLz fun t _ h => h
  have HMM : Hid (rz.map (·.L) = (rx ++ ry).map (·.L)) := Lib.hid (by rw [hLz, HC.out, List.map_append, hLx, hLy])
  have hsum : Hid (nx + ny = nz) := by
    have := congrArg List.length HMM.out
    simp only [List.length_map, List.length_append, hnx, hny, hnz] at this
    exact this.symm
  have hbz : nz ≤ 1000000 := by
    have := linesL_len (L ++ [lineTk] ++ M)
    rw [← hLz, List.length_map, hnz, HL3.out] at this
    omega
  have hbx : nx ≤ 1000000 := by have := hsum.out; omega
  have HZS : Hid (∀ r ∈ rz, r.L.length ≤ 10001) := fun r hr => by
    have := linesL_short (l := L ++ [lineTk] ++ M) (R := r.L) (by rw [← hLz]; exact List.mem_map_of_mem hr)
    rw [HL3.out] at this
    omega
  have HNX := Lib.hid hnx
  have HRW : Hid ((rx ++ ry).length = nz) := Lib.hid (by rw [List.length_append, hnx, hny, hsum.out])
  clear hnx hny hnz hLx hLy hLz HKx HKy HKz
  go_wp2_with (first | (at_builtin; refine wpList_appendHds rfl (.const (.slice none 0 0)) (.tmp 47) rfl w9.heap.size none HX 0 nx chx w9.heap.size 0 nx [] rx rfl rfl (OwnHd.nil_ _ _) rfl (Nat.zero_add _) RX hbx (Nat.le_refl _) ?_; intro H10 c10 w10 HO10 HG10; rw [List.nil_append] at HO10; have HB10 : Below w9.heap.size w9 w10 := (Below.refl _ _).grown HG10 (Nat.le_refl _) (fun g e => by cases e); have hs10 := HB10.size) | (at_builtin; refine wpList_appendHds rfl (.tmp 48) (.tmp 49) rfl w9.heap.size H10 HY c10 ny chy w9.heap.size nx nz rx ry rfl rfl HO10 HNX.out hsum.out (RY.on HB10 (Nat.le_refl _)) hbz hs10 ?_; intro H11 c11 w11 HO11 HG11; have HB11 : Below w9.heap.size w9 w11 := HB10.grown HG11 hs10 HO10.row; have hs11 := HB11.size; have RW : RowsR w11 w11.heap.size H11 nz (rx ++ ry) := HO11.reads HRW.out (fun r hr => (((RX.on HB11 (Nat.le_refl _)).more hs11).two ((RY.on HB11 (Nat.le_refl _)).more hs11)) r hr); have RZ2 := (RZ.on HB11 (Nat.le_refl _)).more hs11))
  have HW11 : Hid (Below W.heap.size W w11) := HW9.trans (HB11.mono HW9.size)
  clear HO11 HG11 HB11 HO10 HG10 HB10 HW9 RX RY RZ HW6 HO6 HO5 HO4 HG6 HG5 HG4 HB6 HB5 HB4 HB3 hb1 hb2 hb3 hb7 hb8 hb9 h1 h2
  go_loopw [58] (fun i wr => ∃ k : Nat, k ≤ nz ∧ i = .int .i64 k ∧ Hid (Below w11.heap.size w11 wr)) (fun i _ => nz - (intOf i).toNat)
  case atStart => exact ⟨0, Nat.zero_le _, rfl, Below.refl _ _⟩
  case round =>
    obtain ⟨k, hk, rfl, HB⟩ := hrel
    obtain ⟨wo, rfl⟩ : ∃ wo : World, wo = wr := ⟨_, rfl⟩
    by_cases hlt : k < nz
    · obtain ⟨bz, ⟨zA, zc, zL⟩, rfl, hbz2, HZK, hcz, _⟩ := (RZ2.on HB.out (Nat.le_refl _)).row hlt
      obtain ⟨bw, ⟨wA, wc, wL⟩, rfl, hbw, HWK, hcw, _⟩ := (RW.on HB.out (Nat.le_refl _)).row hlt
      have hmz := List.mem_of_getElem? HZK.out
      have TZ := RZ2.toks _ hmz
      have TW := RW.toks _ (List.mem_of_getElem? HWK.out)
      have hLL : zL = wL := by
        have := congrArg (fun l => l[k]?) HMM.out
        simp only [List.getElem?_map, HZK.out, HWK.out, Option.map_some, Option.some.injEq] at this
        exact this
      subst hLL
      have hps := HZS.out _ hmz
      have HK4 : Hid (∀ t ∈ zL, t.k ≠ 4) := HNL.out _ hmz
      obtain ⟨p, hp⟩ : ∃ p, zL.length = p := ⟨_, rfl⟩
      simp only [RowK.hdr, hp] at hcz hcw TZ TW hps
      have cE : ∀ q, Calls Try.prog 12 #[.slice zA p zc, .slice wA p wc] (wo.drewN q) fun e w' => e = .returned (.bool true) ∧ ∃ m, w' = (wo.drewN q).drewN m := fun q => by
        have := refSame_any zA wA p zc p wc w11.heap.size zL zL (wo.drewN q) ((TZ.on HB.out (Nat.le_refl _)).drewN q) ((TW.on HB.out (Nat.le_refl _)).drewN q) (by omega)
        rw [sameTL_rfl] at this
        exact this
      have hk0 : (0 : Int) ≤ k := by omega
      have hk1 : (k : Int) < nz := by omega
      have HBq : ∀ q, Below w11.heap.size w11 (wo.drewN q) := fun q => below_dX HB.out q
      have HBQ := Lib.hid HBq
      clear hp HZK HWK hmz HBq TW
      go_wp2
      go_quiet ((go_at_call 12; with_reducible exact Calls.quiet_of (cE _)))
      clear cE
      go_wp2
      go_loopw [76] (fun i wi => ∃ j : Nat, j ≤ p ∧ i = .int .i64 j ∧ Hid (Below w11.heap.size w11 wi)) (fun i _ => p - (intOf i).toNat)
      case atStart => exact ⟨0, Nat.zero_le _, rfl, HBQ.out _⟩
      case round =>
        obtain ⟨j, hj, rfl, HBi⟩ := hrel
        by_cases hjl : j < p
        · obtain ⟨b, off, x, rfl, _, HX2, hc0, hc1, hc2, _⟩ := (TZ.on HBi.out (Nat.le_refl _)).at_ hjl
          have b4 : (x.k == 4) = false := by rw [beq_eq_false_iff_ne]; exact HK4.out x (List.mem_of_getElem? HX2.out)
          have HBi2 : Hid (Below w11.heap.size w11 (wr.alloc (.cells #[.int .i64 x.k, .string x.s, .int .i64 x.n] 35))) := HBi.out.alloc HBi.out.size _
          go_wp2
          go_roundw
          case rel => exact ⟨j + 1, by omega, by go_num, HBi2⟩
          case measure => simp [intOf]; omega
        · obtain rfl : p = j := by omega
          go_wp2
          go_roundw
          case rel => exact ⟨k + 1, by omega, by go_num, HBi⟩
          case measure => simp [intOf]; omega
    · obtain rfl : nz = k := by omega
      go_wp2
      go_ret
      exact ⟨rfl, HW11.out.trans (HB.out.mono HW11.out.size)⟩
theorem lexerRows_any (W : World) (A : Option Addr) (n c : Nat) (L : List Tk) (h1 : Toks W W.heap.size A n L) (hn : n ≤ 4398046511104) (_ : n ≤ c) (A' : Option Addr) (n' c' : Nat) (M : List Tk) (h2 : Toks W W.heap.size A' n' M) (hn' : n' ≤ 4398046511104) (_ : n' ≤ c') : Calls Try.prog 8 #[.slice A n c, .slice A' n' c'] W fun e w' => e = .returned (.bool true) ∧ Below W.heap.size W w' := by
  by_cases hx : fewL L = true ∧ fewL M = true ∧ n ≠ 0 ∧ n' ≠ 0
  · have e1 : n ≤ 5000 := by
      have := hx.1
      unfold fewL at this
      rw [decide_eq_true_iff, h1.1] at this
      exact this.2
    have e2 : n' ≤ 5000 := by
      have := hx.2.1
      unfold fewL at this
      rw [decide_eq_true_iff, h2.1] at this
      exact this.2
    exact lexerRows_main W A n c L h1 e1 A' n' c' M h2 e2 hx.1 hx.2.1 (Nat.pos_of_ne_zero hx.2.2.1) (Nat.pos_of_ne_zero hx.2.2.2)
  · exact lexerRows_few W A n c L h1 hn A' n' c' M h2 hn' hx
end Go.Proofs.Ytinjkakfnppjpaa
