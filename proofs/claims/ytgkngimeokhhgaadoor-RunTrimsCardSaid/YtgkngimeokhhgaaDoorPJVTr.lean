/- The program's Trim. -/
import Derived.Test.YtgkngimeokhhgaaDoorPJVPl
namespace Go.Proofs.YtgkngimeokhhgaaDoor
open Go.RowKit

/-- what is reached of the first i instructions, as it stands -/
noncomputable def rawL (c : Cd) (i : Nat) : List Ji := ((List.range i).filter (wayB c)).map fun j => c.l.getD j zJi
theorem rawL_len (c : Cd) (i : Nat) : (rawL c i).length = rk c i := by unfold rawL rk; rw [List.length_map]
theorem rawL_yes {c : Cd} {i : Nat} {x : Ji} (h : wayB c i = true) (hx : c.l[i]? = some x) : rawL c (i + 1) = rawL c i ++ [x] := by
  unfold rawL
  rw [List.range_succ, List.filter_append, List.map_append]
  simp [h, List.getD_eq_getElem?_getD, hx]
theorem rawL_no {c : Cd} {i : Nat} (h : wayB c i = false) : rawL c (i + 1) = rawL c i := by
  unfold rawL
  rw [List.range_succ, List.filter_append, List.map_append]
  simp [h]
theorem rawL_trim (c : Cd) : (rawL c c.l.length).map (renum (rk c)) = c.trim.l := by
  unfold rawL
  rw [List.map_map]
  rfl
theorem rawL_mem {c : Cd} {x : Ji} (h : x ∈ rawL c c.l.length) : x ∈ c.l := by
  unfold rawL at h
  obtain ⟨j, hj, rfl⟩ := List.mem_map.1 h
  have hj2 := List.mem_range.1 (List.mem_filter.1 hj).1
  rw [List.getD_eq_getElem?_getD, List.getElem?_eq_getElem hj2]
  exact List.getElem_mem hj2
/-- the first k are told anew -/
def mixL (f : Nat → Nat) (l : List Ji) (k : Nat) : List Ji := (l.take k).map (renum f) ++ l.drop k
theorem mixL_zero (f : Nat → Nat) (l : List Ji) : mixL f l 0 = l := by unfold mixL; simp
theorem mixL_all (f : Nat → Nat) (l : List Ji) : mixL f l l.length = l.map (renum f) := by unfold mixL; simp
theorem mixL_len (f : Nat → Nat) (l : List Ji) (k : Nat) : (mixL f l k).length = l.length := by unfold mixL; rw [List.length_append, List.length_map, List.length_take, List.length_drop]; omega
theorem mixL_at (f : Nat → Nat) {l : List Ji} {k : Nat} (hk : k < l.length) : (mixL f l k)[k]? = l[k]? := by
  unfold mixL
  have hl : ((l.take k).map (renum f)).length = k := by rw [List.length_map, List.length_take]; omega
  rw [List.getElem?_append_right (by omega), hl, Nat.sub_self, List.getElem?_drop, Nat.add_zero]
theorem mixL_set (f : Nat → Nat) {l : List Ji} {k : Nat} {x : Ji} (hx : l[k]? = some x) : (mixL f l k).set k (renum f x) = mixL f l (k + 1) := by
  have hk := (List.getElem?_eq_some_iff.1 hx).1
  apply List.ext_getElem?
  intro i
  have hl : ((l.take k).map (renum f)).length = k := by rw [List.length_map, List.length_take]; omega
  have hl2 : ((l.take (k + 1)).map (renum f)).length = k + 1 := by rw [List.length_map, List.length_take]; omega
  by_cases e : k = i
  · subst e
    rw [List.getElem?_set_self (by rw [mixL_len]; exact hk)]
    unfold mixL
    rw [List.getElem?_append_left (by omega), List.getElem?_map, List.getElem?_take_of_lt (by omega), hx]
    rfl
  · rw [List.getElem?_set_ne e]
    unfold mixL
    by_cases hi : i < k
    · rw [List.getElem?_append_left (by omega), List.getElem?_append_left (by omega), List.getElem?_map, List.getElem?_map, List.getElem?_take_of_lt hi, List.getElem?_take_of_lt (by omega)]
    · rw [List.getElem?_append_right (by omega), List.getElem?_append_right (by omega), hl, hl2, List.getElem?_drop, List.getElem?_drop]
      congr 1
      omega
/-- where the variables of Trim lie -/
structure TrG (w w1 : World) (q : Cq) (gR ga : Nat) (bs : List Bool) (vals : List Int) (W : World) (A' : Option Addr) (c' : Nat) (L : List Ji) : Prop where
  bel : Below w.heap.size w W
  bel1 : Below w1.heap.size w1 W
  bx : W.heap[w.heap.size]? = some q.obj
  rv : W.heap[w.heap.size + 1]? = some zeroC
  lt : w.heap.size + 1 < w1.heap.size
  gr : gR < w1.heap.size
  rb : BoB W gR bs
  ga1 : w1.heap.size ≤ ga
  ab : InB_ W ga vals
  own : OwnJ W w1.heap.size A' c' L
section
variable {w w1 W w' : World} {q : Cq} {gR ga c' c2 : Nat} {bs : List Bool} {vals : List Int} {A' A2 : Option Addr} {L : List Ji} {y : Ji}
theorem TrG.on (h : TrG w w1 q gR ga bs vals W A' c' L) (hb : Below W.heap.size W w') : TrG w w1 q gR ga bs vals w' A' c' L :=
  ⟨h.bel.trans (hb.mono h.bel.size), h.bel1.trans (hb.mono h.bel1.size), keep_b hb h.bx, keep_b hb h.rv, h.lt, h.gr, keep_b hb h.rb, h.ga1, keep_b hb h.ab, h.own.below hb (Nat.le_refl _)⟩
theorem TrG.count (h : TrG w w1 q gR ga bs vals W A' c' L) (i : Nat) (v : Int) : TrG w w1 q gR ga bs (vals.set i v) (W.setCell ⟨ga, i, none⟩ (.int .i64 v)) A' c' L := by
  have hl := h.lt
  have hg := h.gr
  have ha := h.ga1
  have hot : ∀ k, k ≠ ga → (W.setCell ⟨ga, i, none⟩ (.int .i64 v)).heap[k]? = W.heap[k]? := fun k hk => heap_setCell_other W _ k _ hk
  exact ⟨h.bel.setCell (p := ⟨ga, i, none⟩) (by show w.heap.size ≤ ga; omega) _, h.bel1.setCell (p := ⟨ga, i, none⟩) ha _, (hot _ (by omega)).trans h.bx, (hot _ (by omega)).trans h.rv, hl, hg, (hot _ (by omega)).trans h.rb, ha, h.ab.set i v, h.own.set_other h.ab (by decide) _ _⟩
theorem TrG.add (h : TrG w w1 q gR ga bs vals W A' c' L) (hO : OwnJ w' w1.heap.size A2 c2 (L ++ [y])) (hG : W.grownBy w' (Value.slice A' L.length c').ownBlock) : TrG w w1 q gR ga bs vals w' A2 c2 (L ++ [y]) :=
  ⟨below_appJ h.bel hG (h.own.mono (by have := h.lt; omega)) h.bel.size, below_appJ h.bel1 hG h.own h.bel1.size, box_keptJ h.bx (by decide) hG h.own, box_keptJ h.rv (by decide) hG h.own, h.lt, h.gr, box_keptJ h.rb (by decide) hG h.own, h.ga1, box_keptJ h.ab (by decide) hG h.own, hO⟩
theorem TrG.puts {g : Nat} (h : TrG w w1 q gR ga bs vals W (some ⟨g, 0, none⟩) c' L) (k : Nat) (y : Ji) : TrG w w1 q gR ga bs vals (((((W.setCell ⟨g, k * 5, none⟩ (.int .i64 y.op)).setCell ⟨g, k * 5 + 1, none⟩ (.int .i64 y.a)).setCell ⟨g, k * 5 + 2, none⟩ (.int .i64 y.b)).setCell ⟨g, k * 5 + 3, none⟩ (.int .i64 y.c)).setCell ⟨g, k * 5 + 4, none⟩ (.int .i64 y.n)) (some ⟨g, 0, none⟩) c' (L.set k y) := by
  have hl := h.lt
  have hg := h.gr
  have hlt := h.own.lt
  have hne : ga ≠ g := by
    rcases h.own.heap with h1 | ⟨g', cur, h1, _, h3⟩
    · cases h1
    · injection h1 with h1; injection h1 with h1
      subst h1
      exact heap_ne h.ab h3 (by decide)
  exact ⟨put5_bel h.bel (by omega) _ _ _ _ _ _, put5_bel h.bel1 hlt.1 _ _ _ _ _ _, (put5_off _ _ _ _ _ _ _ _ (by omega)).trans h.bx, (put5_off _ _ _ _ _ _ _ _ (by omega)).trans h.rv, hl, hg, (put5_off _ _ _ _ _ _ _ _ (by omega)).trans h.rb, h.ga1, (put5_off _ _ _ _ _ _ _ _ hne).trans h.ab, h.own.put k y⟩
end
set_option maxRecDepth 100000 in
set_option maxHeartbeats 16000000 in
theorem validTrim_any (q : Cq) (w : World) (hq : q.In w) (hS : ShT w) : Calls Tryd.prog 18 #[q.val] w (TrimP q w) := by
  have HQ := Lib.hid hq
  have HS := Lib.hid hS
  obtain ⟨R, A, I, P, n, c, l⟩ := q
  have HLN : Hid (l.length = n) := hq.len
  obtain ⟨W0, hW0⟩ : ∃ W, (w.alloc (Cq.obj ⟨R, A, I, P, n, c, l⟩)).alloc zeroC = W := ⟨_, rfl⟩
  have HB0 : Hid (Below w.heap.size w W0) := by rw [← hW0]; exact ((Below.refl w.heap.size w).alloc (Nat.le_refl _) _).alloc (by simp) _
  have HX0 : Hid (W0.heap[w.heap.size]? = some (Cq.obj ⟨R, A, I, P, n, c, l⟩)) := by rw [← hW0]; exact pastJ _ (heap_alloc_new w _)
  have HR0 : Hid (W0.heap[w.heap.size + 1]? = some zeroC) := by
    have h := heap_alloc_new (w.alloc (Cq.obj ⟨R, A, I, P, n, c, l⟩)) zeroC
    rw [World.size_alloc, hW0] at h
    exact h
  obtain ⟨k0, k1, k2, k3, _⟩ := lvCells HX0.out
  clear hq hS
  cases hm : Cd.may (Cq.cd ⟨R, A, I, P, n, c, l⟩) with
  | false =>
    have HM := Lib.hid hm
    have hC := validReach_no ⟨R, A, I, P, n, c, l⟩ W0 (HQ.out.on HB0.out) hm (HS.out.on HB0.out)
    unfold ReachN at hC
    clear hm
    go_enter Tryd.func18, Tryd.ntmps18
    go_wp2_with fail
    try rw [hW0]
    refine hC.mono ?_
    rintro e w1 ⟨rfl, hb⟩
    have HB1 := Lib.hid (HB0.out.trans (hb.mono HB0.out.size))
    have HR1 := Lib.hid (keep_b hb HR0.out)
    clear hb hC k0 k1 k2 k3 hW0
    obtain ⟨r0, r1, r2, r3, rf0, rf1, rf2, rf3⟩ := lvCells HR1.out
    go_wp2_with fail
    obtain ⟨s0, s1, s2, s3⟩ := putC_cells HR1.out 0 0 0 (.slice none 0 0)
    have hd := trim_none (q := ⟨R, A, I, P, n, c, l⟩) (g := w.heap.size + 1) HB1.out (by omega) HM.out
    obtain ⟨wz, hwz⟩ : ∃ wz, putC w1 (w.heap.size + 1) 0 0 0 (.slice none 0 0) = wz := ⟨_, rfl⟩
    rw [hwz] at hd s0 s1 s2 s3
    unfold putC at hwz
    try rw [hwz]
    exact bodyPost_ret (v := .tuple #[.agg #[.int .i64 0, .int .i64 0, .int .i64 0, .slice none 0 0], .int .i64 1]) (by simp [results, Tryd.results18, go_sem, s0, s1, s2, s3]) rfl hd
  | true =>
    have HE := Lib.hid (Cd.e_yes hm)
    have HTC : Hid (trimC (Cq.cd ⟨R, A, I, P, n, c, l⟩) = (Cq.cd ⟨R, A, I, P, n, c, l⟩).trim) := by unfold Hid trimC; rw [hm]; rfl
    have HM := Lib.hid hm
    obtain ⟨⟨_, _, _, _, _, _, hl0, hl1⟩, _⟩ := Cd.may_parts hm
    have hl1 : l.length ≤ 4096 := hl1
    rw [HLN.out] at hl1
    have HPI : Hid (∀ x ∈ l, (x.op = 10 → 0 ≤ x.a ∧ x.a < n) ∧ (x.op = 11 ∨ x.op = 12 → 0 ≤ x.c ∧ x.c < n)) := fun x hx => by
      have h := place_in hm (x := x) hx
      have e : (Cq.cd ⟨R, A, I, P, n, c, l⟩).l.length = n := HLN.out
      rw [e] at h
      exact h
    have HXO : Hid (∀ x ∈ l, x.ok) := HQ.out.ins.2.1
    obtain ⟨i1, hi1, hy0, hy1, hy2⟩ := info_parts infoInt
    have hmk := fun W => run_makeIn (P := Tryd.prog) 39 3 i1 Tryd.underlying39 hi1 hy0 hy1 hy2 n (by omega) W
    have hC := validReach_yes ⟨R, A, I, P, n, c, l⟩ W0 (HQ.out.on HB0.out) hm (HS.out.on HB0.out)
    unfold ReachG at hC
    clear hm hl0
    go_enter Tryd.func18, Tryd.ntmps18
    go_wp2_with fail
    try rw [hW0]
    refine hC.mono ?_
    rintro e w1 ⟨gR, rfl, hO, hb⟩
    have HB1 := Lib.hid (HB0.out.trans (hb.mono HB0.out.size))
    have HX1 := Lib.hid (keep_b hb HX0.out)
    have HR1 := Lib.hid (keep_b hb HR0.out)
    have HO := Lib.hid hO
    clear hb hC hO k0 k1 k2 k3 hW0
    obtain ⟨k0, k1, k2, k3, _⟩ := lvCells HX1.out
    obtain ⟨W2, hW2⟩ : ∃ W, w1.alloc (.cells (Array.replicate n (Value.int .i64 0)) 3) = W := ⟨_, rfl⟩
    obtain ⟨ga, hga⟩ : ∃ z, w1.heap.size = z := ⟨_, rfl⟩
    have hb2 : Below w1.heap.size w1 W2 := by rw [← hW2]; exact lvBelow _ _
    obtain ⟨cd, hcd⟩ : ∃ cd, Cq.cd ⟨R, A, I, P, n, c, l⟩ = cd := ⟨_, rfl⟩
    have HT2 : Hid (TrG w w1 ⟨R, A, I, P, n, c, l⟩ gR ga (reachB cd (-1)) (rkL cd n 0) W2 none 0 (rawL cd 0)) :=
      ⟨HB1.out.trans (hb2.mono HB1.out.size), hb2, keep_b hb2 HX1.out, keep_b hb2 HR1.out, lt_of_heap HR1.out, lt_of_heap HO.out, by rw [← hcd]; exact keep_b hb2 HO.out, Nat.le_of_eq hga, by rw [rkL_zero, ← hga, ← hW2]; exact InB_.made w1 n, OwnJ.nil_ _ _⟩
    have HCL : Hid (cd.l.length = n) := by rw [← hcd]; exact HLN
    have HCE : Hid (cd.l = l) := by rw [← hcd]; rfl
    rw [hcd] at HE HM HTC
    have HCD := Lib.hid hcd
    have HW2 := Lib.hid hW2
    have HGA := Lib.hid hga
    clear hW2 hb2 hcd hga
    go_upto_region 6 with fail
    try rw [HW2.out]
    try rw [HGA.out]
    clear k0 k1 k2 k3 hmk HW2 HGA
    obtain ⟨k0, k1, k2, k3, _⟩ := lvCells HT2.out.bx
    go_wp2_with fail
    clear k0 k1 k2 k3
    go_loopw [6, 28] (fun v a wr => ∃ (i : Nat) (A' : Option Addr) (c' : Nat), i ≤ n ∧ a = .int .i64 i ∧ v = .slice A' (rk cd i) c' ∧ Hid (TrG w w1 ⟨R, A, I, P, n, c, l⟩ gR ga (reachB cd (-1)) (rkL cd n i) wr A' c' (rawL cd i))) (fun _ a _ => n - (intOf a).toNat)
    case atStart => exact ⟨0, none, 0, Nat.zero_le _, rfl, rfl, HT2⟩
    case round =>
      obtain ⟨i, A', c', hi, rfl, rfl, HT⟩ := hrel
      clear HT2
      by_cases hin : i < n
      · have hii : (i : Int) < (n : Int) := by omega
        have hi0 : (0 : Int) ≤ (i : Int) := by omega
        obtain ⟨b, off, x, hA, hbb, HXX, ⟨y0, y1, y2, y3, y4⟩, hxo⟩ := ((HQ.out.on HT.out.bel).ins).at_ hin
        subst hA
        have HXC : Hid (cd.l[i]? = some x) := by unfold Hid; rw [HCE.out]; exact HXX.out
        obtain ⟨W4, hW4⟩ : ∃ W, wr.alloc x.obj = W := ⟨_, rfl⟩
        obtain ⟨gx, hgx⟩ : ∃ z, wr.heap.size = z := ⟨_, rfl⟩
        have hb4 : Below wr.heap.size wr W4 := by rw [← hW4]; exact lvBelow _ _
        have HT4 := Lib.hid (HT.out.on hb4)
        have HY4 : Hid (W4.heap[gx]? = some x.obj) := by rw [← hW4, ← hgx]; exact newJ wr x
        have hgal : ga < wr.heap.size := lt_of_heap HT.out.ab
        have HNE : Hid (gx ≠ ga) := by unfold Hid; omega
        have HWQ := Lib.hid hW4
        have HGX := Lib.hid hgx
        clear hbb hxo hb4 hW4 HXX hgx hgal
        go_upto_region 9 with fail
        try rw [HWQ.out]
        try rw [HGX.out]
        clear HWQ y0 y1 y2 y3 y4
        obtain ⟨u, hu⟩ := rkL_get cd hin
        obtain ⟨a0, af0⟩ := HT4.out.ab.at_ hu
        have ht5 := HT4.out.count i ((rk cd i : Nat) : Int)
        rw [rkL_set cd hin] at ht5
        have HT5 := Lib.hid ht5
        have HY5 : Hid ((W4.setCell ⟨ga, i, none⟩ (.int .i64 ((rk cd i : Nat) : Int))).heap[gx]? = some x.obj) := (Below.heap_setCell _ ⟨ga, i, none⟩ _ _ (by show gx ≠ ga; exact HNE.out)).trans HY4.out
        obtain ⟨v, hv⟩ := reachB_get (c := cd) (-1) (i := i) (by rw [HCL.out]; exact hin)
        have HV := Lib.hid (wayB_of (reachB_iff hv))
        have HVV := Lib.hid hv
        clear hu ht5 hv
        obtain ⟨W5, hW5⟩ : ∃ W, W4.setCell ⟨ga, i, none⟩ (.int .i64 ((rk cd i : Nat) : Int)) = W := ⟨_, rfl⟩
        rw [hW5] at HT5 HY5
        have HW5 := Lib.hid hW5
        clear hW5
        go_upto_region 10 with fail
        try rw [HW5.out]
        clear a0 af0 HW5
        obtain ⟨m0, _⟩ := HT5.out.rb.at_ HVV.out
        cases v with
        | false =>
          have HRK : Hid (rk cd (i + 1) = rk cd i) := rk_no HV.out
          have HRL : Hid (rawL cd (i + 1) = rawL cd i) := rawL_no HV.out
          go_wp2_with fail
          go_roundw
          case rel => exact ⟨i + 1, A', c', by omega, by go_num, by rw [HRK.out], by rw [HRL.out]; exact HT5⟩
          case measure => simp [intOf]; omega
        | true =>
          have HRK : Hid (rk cd (i + 1) = rk cd i + 1) := rk_succ HV.out
          have HRL : Hid (rawL cd (i + 1) = rawL cd i ++ [x]) := rawL_yes HV.out HXC.out
          have HLK : Hid ((rawL cd i).length = rk cd i) := rawL_len cd i
          have hrkk := rk_le cd i
          have hle : rk cd i + 1 ≤ 1000000 := by omega
          obtain ⟨rk_, hrk_⟩ : ∃ r, rk cd i = r := ⟨_, rfl⟩
          rw [hrk_] at HLK hle HRK
          have HRR := Lib.hid hrk_
          try rw [hrk_]
          clear hrkk hrk_
          obtain ⟨⟨y0, y1, y2, y3, y4⟩, yf⟩ := box_cellsJ HY5.out
          clear yf
          have hsz : w1.heap.size ≤ W5.heap.size := HT5.out.bel1.size
          go_wp2_with (at_builtin; refine wpList_appendJ rfl (.tmp 42) (.tmp 44) rfl w1.heap.size A' c' rk_ (rk_ + 1) W5.heap.size x (rawL cd i) rfl rfl rfl HT5.out.own HLK.out rfl hle hsz ?_; intro A3 c3 w3 hO3 hG3; have hG3' : W5.grownBy w3 (Value.slice A' (rawL cd i).length c').ownBlock := (by rw [HLK.out]; exact hG3); have HT6 := Lib.hid (HT5.out.add hO3 hG3'); clear hO3 hG3 hG3')
          go_roundw
          case rel => exact ⟨i + 1, A3, c3, by omega, by go_num, by rw [HRK.out], by rw [HRL.out]; exact HT6⟩
          case measure => simp [intOf]; omega
      obtain rfl : i = n := by omega
      obtain ⟨m, hmr⟩ : ∃ m, rk cd i = m := ⟨_, rfl⟩
      have HMR := Lib.hid hmr
      have hmi : m ≤ i := by rw [← hmr]; exact rk_le cd i
      try rw [hmr]
      clear hmr
      have HRW : Hid ((rawL cd i).length = m) := by unfold Hid; rw [rawL_len, HMR.out]
      have HMX : Hid (∀ x ∈ rawL cd i, x ∈ l) := fun x hx => by
        rw [← HCE.out]
        exact rawL_mem (by rw [HCL.out]; exact hx)
      obtain ⟨RL, hRL⟩ : ∃ RL, rawL cd i = RL := ⟨_, rfl⟩
      have HRL := Lib.hid hRL
      rw [hRL] at HRW HMX HT
      clear hRL
      go_wp2_with fail
      go_loopw [49] (fun a wr => ∃ k : Nat, k ≤ m ∧ a = .int .i64 k ∧ Hid (TrG w w1 ⟨R, A, I, P, i, c, l⟩ gR ga (reachB cd (-1)) (rkL cd i i) wr A' c' (mixL (rk cd) RL k))) (fun a _ => m - (intOf a).toNat)
      case atStart => exact ⟨0, Nat.zero_le _, rfl, by rw [mixL_zero]; exact HT⟩
      case round =>
        obtain ⟨k, hk, rfl, HT⟩ := hrel
        by_cases hkm : k < m
        case neg =>
          obtain rfl : k = m := by omega
          have HTL : Hid (mixL (rk cd) RL k = cd.trim.l) := by
            unfold Hid
            rw [← HRW.out, mixL_all, ← HRL.out, ← HCL.out]
            exact rawL_trim cd
          have HLN2 : Hid (cd.trim.l.length = k) := by unfold Hid; rw [← HTL.out, mixL_len, HRW.out]
          obtain ⟨x0, x1, x2, x3, _, _, _, xf3⟩ := lvCells HT.out.bx
          have hlt := HT.out.lt
          have HX7 : Hid ((wr.setCell ⟨w.heap.size, 3, none⟩ (.slice A' k c')).heap[w.heap.size]? = some (.cells #[.int .i64 R, .int .i64 A, .int .i64 I, .slice A' k c'] 24 (0, 0))) := set_j (i := 3) (cs := [.int .i64 R, .int .i64 A, .int .i64 I, .slice P i c]) HT.out.bx _
          have HR7 : Hid ((wr.setCell ⟨w.heap.size, 3, none⟩ (.slice A' k c')).heap[w.heap.size + 1]? = some zeroC) := (Below.heap_setCell _ ⟨w.heap.size, 3, none⟩ _ _ (by show w.heap.size + 1 ≠ w.heap.size; omega)).trans HT.out.rv
          have HB7 : Hid (Below w.heap.size w (wr.setCell ⟨w.heap.size, 3, none⟩ (.slice A' k c'))) := HT.out.bel.setCell (p := ⟨w.heap.size, 3, none⟩) (Nat.le_refl _) _
          have HO7 : Hid (OwnJ (wr.setCell ⟨w.heap.size, 3, none⟩ (.slice A' k c')) w1.heap.size A' c' cd.trim.l) := by rw [← HTL.out]; exact HT.out.own.set_other HT.out.bx (by decide) _ _
          obtain ⟨W7, hW7⟩ : ∃ W, wr.setCell ⟨w.heap.size, 3, none⟩ (.slice A' k c') = W := ⟨_, rfl⟩
          rw [hW7] at HX7 HR7 HB7 HO7
          have HW7 := Lib.hid hW7
          clear hW7
          go_upto_region 19 with fail
          try rw [HW7.out]
          clear x0 x1 x2 x3 xf3
          obtain ⟨x0, x1, x2, x3, _⟩ := lvCells HX7.out
          obtain ⟨r0, r1, r2, r3, rf0, rf1, rf2, rf3⟩ := lvCells HR7.out
          go_wp2_with fail
          obtain ⟨s0, s1, s2, s3⟩ := putC_cells HR7.out R A I (.slice A' k c')
          have hd : TrimP ⟨R, A, I, P, i, c, l⟩ w (.returned (.tuple #[.agg #[.int .i64 R, .int .i64 A, .int .i64 I, .slice A' k c'], .int .i64 0])) (putC W7 (w.heap.size + 1) R A I (.slice A' k c')) := by
            unfold TrimP
            rw [HCD.out, HTC.out, HE.out]
            have eR : cd.trim.R = R := by rw [← HCD.out]; rfl
            have eA : cd.trim.A = A := by rw [← HCD.out]; rfl
            have eI : cd.trim.I = I := by rw [← HCD.out]; rfl
            have ho := HO7.out.mono (base' := w.heap.size) (by omega)
            refine ⟨A', c', by rw [eR, eA, eI, HLN2.out], putC_own ho HR7.out _ _ _ _, ?_⟩
            exact (((HB7.out.setCell (p := ⟨w.heap.size + 1, 0, none⟩) (by show w.heap.size ≤ w.heap.size + 1; omega) _).setCell (p := ⟨w.heap.size + 1, 1, none⟩) (by show w.heap.size ≤ w.heap.size + 1; omega) _).setCell (p := ⟨w.heap.size + 1, 2, none⟩) (by show w.heap.size ≤ w.heap.size + 1; omega) _).setCell (p := ⟨w.heap.size + 1, 3, none⟩) (by show w.heap.size ≤ w.heap.size + 1; omega) _
          obtain ⟨wz, hwz⟩ : ∃ wz, putC W7 (w.heap.size + 1) R A I (.slice A' k c') = wz := ⟨_, rfl⟩
          rw [hwz] at hd s0 s1 s2 s3
          unfold putC at hwz
          try rw [hwz]
          exact bodyPost_ret (v := .tuple #[.agg #[.int .i64 R, .int .i64 A, .int .i64 I, .slice A' k c'], .int .i64 0]) (by simp [results, Tryd.results18, go_sem, s0, s1, s2, s3]) rfl hd
        have hkk : (k : Int) < (m : Int) := by omega
        have hk0 : (0 : Int) ≤ (k : Int) := by omega
        obtain ⟨x, hx⟩ : ∃ x, RL[k]? = some x := ⟨_, List.getElem?_eq_getElem (by rw [HRW.out]; exact hkm)⟩
        obtain ⟨g, hg, _, hgl, hcl⟩ := HT.out.own.rows k x (by rw [mixL_at _ (by rw [HRW.out]; exact hkm)]; exact hx)
        subst hg
        have hMS := mixL_set (rk cd) hx
        have HMS := Lib.hid hMS
        have HXK := Lib.hid hx
        have hpl := HPI.out x (HMX.out x (List.mem_of_getElem? hx))
        have HPL := Lib.hid hpl
        have y0 := hcl 0 (by decide)
        have y1 := hcl 1 (by decide)
        have y2 := hcl 2 (by decide)
        have y3 := hcl 3 (by decide)
        have y4 := hcl 4 (by decide)
        rw [Nat.mul_comm 5 k] at y0 y1 y2 y3 y4
        simp only [Nat.add_zero, Ji.at] at y0 y1 y2 y3 y4
        obtain ⟨W4, hW4⟩ : ∃ W, wr.alloc x.obj = W := ⟨_, rfl⟩
        obtain ⟨gx, hgx⟩ : ∃ z, wr.heap.size = z := ⟨_, rfl⟩
        have hb4 : Below wr.heap.size wr W4 := by rw [← hW4]; exact lvBelow _ _
        have HT4 := Lib.hid (HT.out.on hb4)
        have HY4 : Hid (W4.heap[gx]? = some x.obj) := by rw [← hW4, ← hgx]; exact newJ wr x
        have HWQ := Lib.hid hW4
        have HGX := Lib.hid hgx
        clear hcl hx hMS hpl hb4 hW4 hgx hgl
        go_upto_region 16 with fail
        try rw [HWQ.out]
        try rw [HGX.out]
        clear HWQ y0 y1 y2 y3 y4
        obtain ⟨⟨y0, y1, y2, y3, y4⟩, _⟩ := box_cellsJ HY4.out
        have hP := placed_any (rk cd) ga i x W4 (fun j hj => (HT4.out.ab.at_ (rkL_at cd hj)).1) HPL.out.1 HPL.out.2
        go_wp2_with fail
        (with_reducible refine hP.mono ?_)
        rintro e w5 ⟨rfl, hb5⟩
        have HT5 := Lib.hid (HT4.out.on hb5)
        have ht6 := HT5.out.puts k (renum (rk cd) x)
        rw [HMS.out] at ht6
        have HT6 := Lib.hid ht6
        obtain ⟨g', hg', _, _, hcl⟩ := HT5.out.own.rows k x (by rw [mixL_at _ (by rw [HRW.out]; exact hkm)]; exact HXK.out)
        injection hg' with hg'; injection hg' with hg'
        subst hg'
        have z0 := hcl 0 (by decide)
        have z1 := hcl 1 (by decide)
        have z2 := hcl 2 (by decide)
        have z3 := hcl 3 (by decide)
        have z4 := hcl 4 (by decide)
        rw [Nat.mul_comm 5 k] at z0 z1 z2 z3 z4
        simp only [Nat.add_zero, Ji.at] at z0 z1 z2 z3 z4
        obtain ⟨f0, f1, f2, f3, f4⟩ : w5.frozen? ⟨g, k * 5, none⟩ = false ∧ w5.frozen? ⟨g, k * 5 + 1, none⟩ = false ∧ w5.frozen? ⟨g, k * 5 + 2, none⟩ = false ∧ w5.frozen? ⟨g, k * 5 + 3, none⟩ = false ∧ w5.frozen? ⟨g, k * 5 + 4, none⟩ = false := by
          rcases HT5.out.own.heap with h1 | ⟨g', cur, h1, _, h3⟩
          · cases h1
          · injection h1 with h1; injection h1 with h1
            subst h1
            exact ⟨frozen_of_row _ _ _ _ _ h3, frozen_of_row _ _ _ _ _ h3, frozen_of_row _ _ _ _ _ h3, frozen_of_row _ _ _ _ _ h3, frozen_of_row _ _ _ _ _ h3⟩
        obtain ⟨Y, hY⟩ : ∃ Y, renum (rk cd) x = Y := ⟨_, rfl⟩
        rw [hY] at HT6
        try rw [hY]
        clear hb5 ht6 hcl hP y0 y1 y2 y3 y4 hY
        go_wp2_with fail
        go_roundw
        case rel => exact ⟨k + 1, by omega, by go_num, HT6⟩
        case measure => simp [intOf]; omega
end Go.Proofs.YtgkngimeokhhgaaDoor
