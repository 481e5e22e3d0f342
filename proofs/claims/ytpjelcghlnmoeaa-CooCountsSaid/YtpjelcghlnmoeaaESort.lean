/- coo.Sort where no order is named. -/
import Derived.Test.YtpjelcghlnmoeaaECln
import Derived.Test.YtpjelcghlnmoeaaCooCheck
import Derived.Test.YtpjelcghlnmoeaaCooCount
namespace Go.Proofs.Ytpjelcghlnmoeaa

section
open Go.RowKit
/-- the plain order -/
def iotaL (n : Nat) : List Int := (List.range n).map fun (k : Nat) => (k : Int)
theorem iotaL_len (n : Nat) : (iotaL n).length = n := by simp [iotaL]
theorem iotaL_at {n k : Nat} (h : k < n) : (iotaL n)[k]? = some (k : Int) := by
  unfold iotaL; rw [List.getElem?_map, List.getElem?_range h]; rfl

set_option maxRecDepth 100000 in
theorem modesBy_err (A B Ao : Option Addr) (n c m e ro co : Nat) (xs : List Int) (es : List Ent) (E : Int) (w : World) (h : Ints w w.heap.size A n xs) (hn : n ≤ 9223372036854775807) (hv : Ents w w.heap.size B m es) (hm : m ≤ 9223372036854775807) (hE : cooF xs es = E) (h0 : E ≠ 0) :
    Calls Try.prog 43 #[.agg #[.slice A n c, .slice B m e], .slice Ao ro co] w fun x w' => x = .returned (.tuple #[.slice none 0 0, .int .i64 E]) ∧ Below w.heap.size w w' := by
  have z0 := (Below.refl w.heap.size w).alloc (Nat.le_refl _) (.cells #[.slice A n c, .slice B m e] 25)
  have HC := fun W (hb : Below w.heap.size w W) => cooCheck_any A B n c m e xs es W ((h.below hb).more hb.size) hn ((hv.below hb).more hb.size) hm
  rw [hE] at HC
  have e1 : (E == 0) = false := by simpa using h0
  have e2 : (E != 0) = true := by simpa using h0
  clear hE h0
  go_enter Try.func43, Try.ntmps43
  go_wp2_with (go_at_call 23; refine (HC _ z0).mono ?_; rintro x w1 ⟨rfl, hb1⟩; have hb2 := z0.trans (hb1.mono z0.size))
  go_ret2
  exact ⟨rfl, hb2⟩

set_option maxRecDepth 100000 in
set_option maxHeartbeats 1000000 in
theorem modesBy_plain (A B Ao : Option Addr) (n c m e co : Nat) (xs : List Int) (es : List Ent) (w : World) (h : Ints w w.heap.size A n xs) (hn : n ≤ 100000) (hv : Ents w w.heap.size B m es) (hm : m ≤ 9223372036854775807) (hE : cooF xs es = 0) :
    Calls Try.prog 43 #[.agg #[.slice A n c, .slice B m e], .slice Ao 0 co] w fun x w' => ∃ gv, x = .returned (.tuple #[.slice (some ⟨gv, 0, none⟩) n n, .int .i64 0]) ∧ OwnI w' w.heap.size 3 (some ⟨gv, 0, none⟩) n (iotaL n) ∧ Below w.heap.size w w' := by
  have z0 := (Below.refl w.heap.size w).alloc (Nat.le_refl _) (.cells #[.slice A n c, .slice B m e] 25)
  have b1 := heap_alloc_new w (.cells #[.slice A n c, .slice B m e] 25)
  have HC := fun W (hb : Below w.heap.size w W) => cooCheck_any A B n c m e xs es W ((h.below hb).more hb.size) (by omega) ((hv.below hb).more hb.size) hm
  rw [hE] at HC
  obtain ⟨i0, hi0, hz0, hz1, hz2⟩ := info_parts infoInt
  have hmk := fun W => run_makeAll (P := Try.prog) 22 3 i0 Try.underlying22 hi0 hz0 hz1 hz2 n (by omega) W
  clear hE h hv
  go_enter Try.func43, Try.ntmps43
  go_wp2_with (go_at_call 23; refine (HC _ z0).mono ?_; rintro x w1 ⟨rfl, hb1⟩; have hb2 := z0.trans (hb1.mono z0.size); obtain ⟨k0, k1, _, _⟩ := pair_cells ((hb1.block w.heap.size (by simp)).trans b1))
  have hs1 : w.heap.size ≤ w1.heap.size := hb2.size
  have hown := own_made w1 3 n w.heap.size hs1 hn
  have HOW := Lib.hid hown
  have hbm := hb2.alloc hb2.size (.cells (madeCells #[.int .i64 0] n) 3)
  have HBM := Lib.hid hbm
  clear hown hbm HC z0 b1 hb1 k0 k1 hmk
  go_loopw [20] (fun v wr => ∃ k : Nat, v = .int .i64 (k : Int) ∧ k ≤ n ∧ Hid (OwnI wr w.heap.size 3 (some ⟨w1.heap.size, 0, none⟩) n ((iotaL n).take k ++ List.replicate (n - k) 0)) ∧ Hid (Below w.heap.size w wr)) (fun v _ => n - (intOf v).toNat)
  case atStart => exact ⟨0, rfl, Nat.zero_le _, by unfold Hid; simpa using HOW.out, HBM⟩
  case round =>
    clear HOW HBM
    obtain ⟨k, rfl, hk, HO, HB⟩ := hrel
    by_cases hlt : k < n
    · have hz : ((iotaL n).take k ++ List.replicate (n - k) 0)[k]? = some (0 : Int) := by
        rw [List.getElem?_append_right (by rw [List.length_take, iotaL_len]; omega), List.length_take, iotaL_len, Nat.min_eq_left (by omega), Nat.sub_self, List.getElem?_replicate_of_lt (by omega)]
      obtain ⟨hcz, hfz⟩ := HO.out.cell_ hz
      have hset := HO.out.set_ k (k : Int) (by omega)
      rw [fill_set (iotaL_len n) (iotaL_at hlt)] at hset
      have HS := Lib.hid hset
      have HB2 := Lib.hid (HB.out.setCell (p := ⟨w1.heap.size, k, none⟩) hs1 (.int .i64 (k : Int)))
      have hkn : (k : Int) < (n : Int) := by omega
      have hk0 : (0 : Int) ≤ (k : Int) := by omega
      clear hz hset
      go_wp2
      go_roundw
      case rel => exact ⟨k + 1, by go_num, by omega, HS, HB2⟩
      case measure => simp [intOf]; omega
    · obtain rfl : k = n := by omega
      have hfull : (iotaL k).take k ++ List.replicate (k - k) 0 = iotaL k := by rw [Nat.sub_self, List.replicate_zero, List.append_nil, List.take_of_length_le (Nat.le_of_eq (iotaL_len k))]
      have HF : Hid (OwnI wr w.heap.size 3 (some ⟨w1.heap.size, 0, none⟩) k (iotaL k)) := by unfold Hid; rw [← hfull]; exact HO.out
      clear hfull
      go_wp2
      go_ret2
      exact ⟨_, rfl, HF.out, HB.out⟩
end

section
open Go.RowKit
def ltK (os : List Int) (a b : List Int × Int × Nat) : Bool := decide (cmpE os a.1 b.1 < 0)
def insK (os : List Int) (P : List (List Int × Int × Nat)) (x : List Int × Int × Nat) : List (List Int × Int × Nat) := (P.reverse.dropWhile (ltK os x)).reverse ++ x :: (P.reverse.takeWhile (ltK os x)).reverse
/-- the insertion sort of places and numbers alone -/
def sortK (os : List Int) (l : List (List Int × Int × Nat)) : List (List Int × Int × Nat) := l.foldl (insK os) []
theorem insE_key (os : List Int) (P : List Ent) (x : Ent) : (insE os P x).map keyE = insK os (P.map keyE) (keyE x) := by
  unfold insE insK
  have e : ltE os x = ltK os (keyE x) ∘ keyE := rfl
  have h1 : (P.map keyE).reverse.takeWhile (ltK os (keyE x)) = (P.reverse.takeWhile (ltK os (keyE x) ∘ keyE)).map keyE := by rw [← List.map_reverse, List.takeWhile_map]
  have h2 : (P.map keyE).reverse.dropWhile (ltK os (keyE x)) = (P.reverse.dropWhile (ltK os (keyE x) ∘ keyE)).map keyE := by rw [← List.map_reverse, List.dropWhile_map]
  rw [h1, h2, e, List.map_append, List.map_cons, List.map_reverse, List.map_reverse]
theorem sortE_key (os : List Int) (l : List Ent) : (sortE os l).map keyE = sortK os (l.map keyE) := by
  have key : ∀ (l P : List Ent), (l.foldl (insE os) P).map keyE = (l.map keyE).foldl (insK os) (P.map keyE) := by
    intro l
    induction l with
    | nil => intro P; rfl
    | cons x l ih => intro P; rw [List.foldl_cons, ih, insE_key]; rfl
  exact key l []
set_option maxRecDepth 100000 in
theorem aheadBy_any (A : Option Addr) (n c : Nat) (w : World) :
    Calls Try.prog 46 #[.slice A n c] w fun e w' => e = .returned (.func (.func 72) #[] #[.pointer (some ⟨w.heap.size, 0, none⟩)]) ∧ w' = w.alloc (.cells #[.slice A n c] 22) := by
  go_enter Try.func46, Try.ntmps46
  go_wp2
  go_ret
  exact ⟨rfl, rfl⟩
theorem key_len {xs : List Int} {es : List Ent} (h : cooF xs es = 0) (hl : ∀ y ∈ es, y.cs.length = y.n) : ∀ y ∈ es, y.n = xs.length := fun y hy => by
  have := (cooF_parts h).2.2 y hy
  unfold insideF at this
  rw [Bool.and_eq_true] at this
  rw [← hl y hy]
  exact of_decide_eq_true this.1
theorem keys_mem {Ds es : List Ent} (h : Ds.map keyE = es.map keyE) {x : Ent} (hx : x ∈ Ds) : ∃ y ∈ es, keyE x = keyE y := by
  have : keyE x ∈ es.map keyE := by rw [← h]; exact List.mem_map_of_mem hx
  obtain ⟨y, hy, e⟩ := List.mem_map.1 this
  exact ⟨y, hy, e.symm⟩
theorem NewE.below {w w' : World} {base g : Nat} {x : Ent} (h : NewE w base g x) (hb : Below w.heap.size w w') : NewE w' base g x := h.grown (grown_below' (grown_same w g) hb)
set_option maxRecDepth 100000 in
set_option maxHeartbeats 4000000 in
theorem cooSort_pos (A B Ao : Option Addr) (n c m e co : Nat) (xs : List Int) (es : List Ent) (w : World) (h : Ints w w.heap.size A n xs) (hv : Ents w w.heap.size B m es) (hE : cooF xs es = 0) (hm0 : 0 < m) :
    Calls Try.prog 14 #[.agg #[.slice A n c, .slice B m e], .slice Ao 0 co] w fun x w' => ∃ A1 c1 A2 c2 Ds, x = .returned (.tuple #[.agg #[.slice A1 n c1, .slice A2 m c2], .int .i64 0]) ∧ OwnI w' w.heap.size 3 A1 c1 xs ∧ NewEs w' w.heap.size A2 c2 Ds ∧ Ds.map keyE = sortK (iotaL n) (es.map keyE) ∧ Below w.heap.size w w' := by
  have hn4 : n ≤ 4 := by rw [← h.1]; exact (cellsF_ok (cooF_parts hE).1).1
  have hm5 : m ≤ 65536 := by rw [← hv.1]; exact (cooF_parts hE).2.1
  have hyl : ∀ y ∈ es, y.n = n := fun y hy => by rw [← h.1]; exact key_len hE (fun y hy => (hv.2.1 y hy).1.1) y hy
  have z0 := (Below.refl w.heap.size w).alloc (Nat.le_refl _) (.cells #[.slice A n c, .slice B m e] 25)
  have z1 := z0.alloc z0.size (.cells #[.slice none 0 0, .slice none 0 0] 25)
  have b1 := zf_two w (.cells #[.slice A n c, .slice B m e] 25) (.cells #[.slice none 0 0, .slice none 0 0] 25)
  have b2 := zf_snd w (.cells #[.slice none 0 0, .slice none 0 0] 25) (.cells #[.slice A n c, .slice B m e] 25)
  have HMB := fun W (hb : Below w.heap.size w W) => modesBy_plain A B Ao n c m e co xs es W ((h.below hb).more hb.size) (by omega) ((hv.below hb).more hb.size) (by omega) hE
  have HCL := fun W (hb : Below w.heap.size w W) => cooClone_any A B n c m e xs es W ((h.below hb).more hb.size) (by omega) ((hv.below hb).more hb.size) hm5 (fun y hy => by have := hyl y hy; omega)
  have HYL := Lib.hid hyl
  have HVL : Hid (es.length = m) := hv.1
  clear h hv hE z0 hyl
  go_enter Try.func14, Try.ntmps14
  go_wp2_with fail
  refine (HMB _ z1).mono ?_
  rintro x w1 ⟨gv, rfl, HO, hb1⟩
  have hsz0 : w.heap.size + 2 ≤ w1.heap.size := by have := hb1.size; simp at this; omega
  have hb := z1.trans (hb1.mono z1.size)
  have q1 := (hb1.block w.heap.size (by simp; omega)).trans b1
  have q2 := (hb1.block (w.heap.size + 1) (by simp)).trans b2
  have HOO := Lib.hid HO
  have hgv : gv < w1.heap.size := (HO.1.lt gv rfl).2
  obtain ⟨k0, k1, _, _⟩ := pair_cells q1
  clear HMB b1 b2 z1 hb1 HO
  go_wp2_with fail
  refine (HCL _ hb).mono ?_
  rintro x w2 ⟨A1, c1, A2, c2, Ds, rfl, HA1, HNE, hkey, hb3⟩
  have hbb := hb.trans (hb3.mono hb.size)
  replace q2 := (hb3.block (w.heap.size + 1) (by omega)).trans q2
  have hdl : Ds.length = m := by have := congrArg List.length hkey; rw [List.length_map, List.length_map] at this; rw [this]; exact HVL.out
  rcases HNE with hnil | ⟨g, post, rfl, hgb, hrow, hnew, hlc⟩
  · rw [hnil] at hdl; simp at hdl; omega
  have HKEY := Lib.hid hkey
  have HOW := Lib.hid (HOO.out.below hb3 (Nat.le_refl _))
  have HA1' := Lib.hid HA1
  have hgl := hrow.lt
  have y0 := heap_alloc_new w2 (.cells #[.slice A1 n c1, .slice (some ⟨g, 0, none⟩) m c2] 25)
  have yb := (Below.refl w2.heap.size w2).alloc (Nat.le_refl _) (.cells #[.slice A1 n c1, .slice (some ⟨g, 0, none⟩) m c2] 25)
  obtain ⟨j0, j1, _, _⟩ := pair_cells y0
  clear HCL hb3 k0 k1 q1 hkey HA1 HOO
  have r2 := (yb.block (w.heap.size + 1) (by omega)).trans q2
  have hrow3 := hrow.below yb
  have HNEW3 : Hid (∀ x ∈ Ds, NewE (w2.alloc (.cells #[.slice A1 n c1, .slice (some ⟨g, 0, none⟩) m c2] 25)) w1.heap.size g x) := fun x hx => (hnew x hx).below yb
  have HOW3 := Lib.hid (HOW.out.alloc (.cells #[.slice A1 n c1, .slice (some ⟨g, 0, none⟩) m c2] 25))
  have HA3 := Lib.hid (HA1'.out.alloc (.cells #[.slice A1 n c1, .slice (some ⟨g, 0, none⟩) m c2] 25))
  have hbb3 := hbb.alloc hbb.size (.cells #[.slice A1 n c1, .slice (some ⟨g, 0, none⟩) m c2] 25)
  have hs3 : (w2.alloc (.cells #[.slice A1 n c1, .slice (some ⟨g, 0, none⟩) m c2] 25)).heap.size = w2.heap.size + 1 := World.size_alloc _ _
  obtain ⟨w3, hw3⟩ : ∃ w3, w2.alloc (.cells #[.slice A1 n c1, .slice (some ⟨g, 0, none⟩) m c2] 25) = w3 := ⟨_, rfl⟩
  rw [hw3] at y0 j0 j1 r2 hrow3 HNEW3 HOW3 HA3 hbb3 hs3
  have H3 := Lib.hid hw3
  have hs3a : w2.heap.size < w3.heap.size := by omega
  clear hs3
  have HR3 := Lib.hid hrow3
  have hsz2 : w1.heap.size ≤ w2.heap.size := by omega
  have HXN : Hid (∀ x ∈ Ds, x.n = n) := fun x hx => by
    obtain ⟨y, hy, e⟩ := keys_mem HKEY.out hx
    have e2 : x.n = y.n := congrArg (fun q => q.2.2) e
    rw [e2]; exact HYL.out y hy
  have HSO := fun W (hbW : Below w3.heap.size w3 W) (hc : W.cell? ⟨w3.heap.size, 0, none⟩ = some (.slice (some ⟨gv, 0, none⟩) n n)) =>
    sort_any g m c2 w3.heap.size Ds post (some ⟨gv, 0, none⟩) n n (iotaL n) W (HR3.out.below hbW) hdl (by omega)
      ⟨fun x hx => ⟨((HNEW3.out x hx).below hbW).1, fun q hq => by
          obtain ⟨k, hk, rfl⟩ := List.mem_map.1 hq
          have := List.mem_range.1 hk
          have := HXN.out x hx
          omega, (HNEW3.out x hx).2.2.2⟩, by
        have hi := ((HOW3.out.below hbW (Nat.le_refl _)).ints)
        rw [iotaL_len] at hi
        exact ⟨hi, fun b off e => by injection e with e; injection e with e; omega⟩, hc, by omega, by omega⟩
  have hj := fun o => cellPast o j1
  clear yb hw3 hrow hrow3 hnew hb q2 hbb
  go_upto_region 5 with fail
  rw [H3.out]
  go_region_law (first | (go_simp; go_at_call 46; refine (aheadBy_any _ _ _ _).mono ?_; rintro x w4 ⟨rfl, rfl⟩) | (go_simp; go_at_call 45; refine (HSO _ ?b0 ?b1).mono ?_; (case b0 => first | exact (Below.refl _ _).drew.alloc (Nat.le_refl _) _ | exact ((Below.refl _ _).alloc (Nat.le_refl _) _).drew | exact (Below.refl _ _).alloc (Nat.le_refl _) _); (case b1 => simp); rintro x w5 ⟨rfl, hr5, hg5⟩))
  all_goals
    have hbW : Below w3.heap.size w3 (w3.alloc (.cells #[.slice (some ⟨gv, 0, none⟩) n n] 22)).drew := ((Below.refl _ _).alloc (Nat.le_refl _) _).drew
    obtain ⟨W4, hW4⟩ : ∃ W4, (w3.alloc (.cells #[.slice (some ⟨gv, 0, none⟩) n n] 22)).drew = W4 := ⟨_, rfl⟩
    rw [hW4] at hg5 hbW
    have hsW := hbW.size
    have y5 := (hg5.block w2.heap.size (by omega) (by intro e; injection e with e; omega)).trans ((hbW.block w2.heap.size hs3a).trans y0)
    have r5 := (hg5.block (w.heap.size + 1) (by omega) (by intro e; injection e with e; omega)).trans ((hbW.block (w.heap.size + 1) (by omega)).trans r2)
    have HNE5 : Hid (∀ x ∈ sortE (iotaL n) Ds, NewE w5 w1.heap.size g x) := fun x hx => ((HNEW3.out x (sortE_sub hx)).below hbW).grown hg5
    have hA4 := HA3.out.below hbW (Nat.le_refl _)
    have hA5 : OwnI w5 w1.heap.size 3 A1 c1 xs := ⟨hA4.1.kept hg5 (rows_ne hA4.1 (HR3.out.below hbW) (by decide)), hA4.2⟩
    have HA5 := Lib.hid hA5
    have HR5 := Lib.hid hr5
    have HB5 : Hid (Below w.heap.size w w5) := (hbb3.trans (hbW.mono hbb3.size)).grown hg5 (by have := hbb3.size; omega) (fun k hk => by injection hk with hk; omega)
    have hwz := hbb3.size
    obtain ⟨k0, k1, _, _⟩ := pair_cells y5
    obtain ⟨v0, v1, vf0, vf1⟩ := pair_cells r5
    have HR2 := Lib.hid r5
    clear j0 j1 hj HSO hr5 hg5 hbW hW4 hA4 hA5 y5 r5 HNEW3 HOW3 HA3 HR3 H3
    go_wp2_with fail
    have hres := set_two w5 (w.heap.size + 1) _ _ (.slice A1 n c1) (.slice (some ⟨g, 0, none⟩) m c2) _ HR2.out
    obtain ⟨s0, s1, _, _⟩ := pair_cells hres.1
    obtain ⟨wz, hwz'⟩ : ∃ wz, (w5.setCell ⟨w.heap.size + 1, 0, none⟩ (.slice A1 n c1)).setCell ⟨w.heap.size + 1, 1, none⟩ (.slice (some ⟨g, 0, none⟩) m c2) = wz := ⟨_, rfl⟩
    rw [hwz'] at hres s0 s1 ⊢
    refine bodyPost_ret (v := .tuple #[.agg #[.slice A1 n c1, .slice (some ⟨g, 0, none⟩) m c2], .int .i64 0]) (by simp [results, Try.results14, go_sem, s0, s1]) rfl ⟨A1, c1, some ⟨g, 0, none⟩, c2, sortE (iotaL n) Ds, rfl, ?_, ?_, ?_, ?_⟩
    · exact OwnI.mono (w := wz) (base := w1.heap.size) ⟨HA5.out.1.kept hres.2 (rows_ne HA5.out.1 HR2.out (by decide)), HA5.out.2⟩ (by omega)
    · refine .inr ⟨g, post, rfl, by omega, (hres.2.block g HR5.out.lt (by intro e; injection e with e; omega)).trans HR5.out, fun x hx => ((HNE5.out x hx).far hres.2 (by omega)).mono (by omega), by rw [sortE_len]; exact hlc⟩
    · rw [sortE_key, HKEY.out]
    · exact HB5.out.grown hres.2 HB5.out.size (fun k hk => by injection hk with hk; omega)
end
end Go.Proofs.Ytpjelcghlnmoeaa
