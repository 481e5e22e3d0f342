/- A machine ahead of the first instruction. -/
import Derived.Test.YtgkngimeokhhgaaGreatDoorG17
import Derived.Test.YtgkngimeokhhgaaGreatDoorG14
namespace Go.Proofs.YtgkngimeokhhgaaGreatDoor
open Go.RowKit Go.Sort

/-- a machine's cells while it is laid -/
@[reducible] def CS (r a p n : Nat) (P : Option Addr) (n0 c0 : Nat) (A : Option Addr) (c : Nat) (fuel cells : Int) (gO gR : Nat) (Dv : Option Addr) (k cD : Nat) : List Value := [.slice (some ⟨gO, 0, none⟩) p p, .int .i64 0, .int .i64 0, .int .i64 (r : Int), .int .i64 (a : Int), .int .i64 (n : Int), .slice P n0 c0, .slice (some ⟨gR, 0, none⟩) r r, .slice A n c, .int .i64 fuel, .int .i64 cells, .slice Dv k cD, .int .i64 0, .bool false]
theorem start_drop (c : Cd) {ins : List (List Int)} {n a p : Nat} (hn : ins.length = n) (ha : c.A = (a : Int)) (hp : a - n = p) : (startM c ins).A.drop n = List.replicate p [] := by
  subst hn
  show (ins ++ List.replicate (c.A.toNat - ins.length) []).drop ins.length = _
  rw [List.drop_left, ha, Int.toNat_natCast, hp]
theorem start_take (c : Cd) {ins : List (List Int)} {n : Nat} (hn : ins.length = n) : (startM c ins).A.take n = ins := by
  subst hn
  exact List.take_left
set_option maxRecDepth 100000 in
theorem infoRowU : (Tryz.prog.info? 28).map (fun i => (i.zero, i.size, i.bytes)) = some (some (.slice none 0 0), 1, 24) := by kernel_rfl
set_option maxRecDepth 100000 in
set_option maxHeartbeats 8000000 in
theorem begin_any (q : Cq) (fuel cells : Int) (A : Option Addr) (n c : Nat) (ins : List (List Int)) (w : World) (hq : q.In w) (h : IntsLL w w.heap.size A n ins) (hmay : q.cd.may = true) (hi : (ins.length : Int) = q.I) :
    Calls Tryz.prog 19 #[q.val, .int .i64 fuel, .int .i64 cells, .slice A n c] w fun e w' => ∃ m rs, e = .returned (.pointer (some ⟨m.g, 0, none⟩)) ∧ MsM w' w.heap.size m (startM q.cd ins) rs false ∧ (m.l = q.l ∧ m.n0 = q.n ∧ (m.i : Int) = q.I ∧ m.ins = ins ∧ m.fuel = fuel ∧ m.cells = cells ∧ m.P = q.P ∧ m.A = A ∧ m.n = n) ∧ Below w.heap.size w w' := by
  have hmx : Tryz.prog.follows .mixedOrders = true := by kernel_rfl
  obtain ⟨W0, hW0⟩ : ∃ W, w.alloc q.obj = W := ⟨_, rfl⟩
  obtain ⟨g0, hg0⟩ : ∃ z, w.heap.size = z := ⟨_, rfl⟩
  have hb1 : Below w.heap.size w W0 := by rw [← hW0]; exact lvBelow w _
  have h1 : W0.heap[g0]? = some q.obj := by rw [← hW0, ← hg0]; exact heap_alloc_new w _
  have HB0 := Lib.hid hb1
  have HX0 := Lib.hid h1
  have HQ0 := Lib.hid (hq.on hb1)
  have HJ0 : Hid (Jis w w.heap.size q.P q.n q.l) := hq.ins
  have HI0 : Hid (IntsLL w w.heap.size A n ins) := h
  have HQL : Hid (q.l.length = q.n) := hq.len
  have hn : ins.length = n := h.1
  obtain ⟨R, A0, I, P, n0, c0, l⟩ := q
  obtain ⟨⟨q1, q2, q3, q4, q5, q6, q7, q8⟩, hall, _⟩ := Cd.may_parts hmay
  have q1 : 0 ≤ R := q1
  have q2 : R ≤ 128 := q2
  have q3 : 0 ≤ A0 := q3
  have q4 : A0 ≤ 128 := q4
  have q6 : I ≤ A0 := q6
  have q7 : 1 ≤ l.length := q7
  have q8 : l.length ≤ 4096 := q8
  have hi : (ins.length : Int) = I := hi
  have hnl : l.length = n0 := HQL.out
  rw [hnl] at q7 q8
  rw [hn] at hi
  subst hi
  obtain ⟨r, rfl⟩ := Int.eq_ofNat_of_zero_le q1
  obtain ⟨a, rfl⟩ := Int.eq_ofNat_of_zero_le q3
  have hr : r ≤ 100000 := by omega
  have ha : a ≤ 128 := by omega
  have hna : n ≤ a := by omega
  have HOP : Hid (∀ x ∈ l, 0 ≤ x.op ∧ x.op ≤ 12) := fun x hx => (mayJ_parts (hall x hx)).1
  obtain ⟨i0, hi0, hz0, hz1, hz2⟩ := info_parts infoInt64
  have hmk := run_makeIn (P := Tryz.prog) 28 2 i0 Tryz.underlying28 hi0 hz0 hz1 hz2 r hr
  have HN : Hid (ins.length = n) := hn
  have HNL : Hid (l.length = n0) := hnl
  obtain ⟨k0, k1, k2, k3, _⟩ := lvCells h1
  clear hb1 h1 hq h hi0 hz0 hz1 hz2 hmay hall hn hnl q1 q2 q3 q4 q6 HQL
  go_enter Tryz.func19, Tryz.ntmps19
  go_upto_region 1 with fail
  try rw [hW0]
  try rw [hg0]
  clear k0 k1 k2 k3
  let F : Nat → Value := fun o => match o with
    | 0 => .agg #[.int .i64 (r : Int), .int .i64 (a : Int), .int .i64 (n : Int), .slice P n0 c0]
    | 1 => .pointer (some ⟨g0, 0, none⟩)
    | 2 => .int .i64 (r : Int)
    | 4 => .slice A n c
    | 5 => .int .i64 fuel
    | 6 => .int .i64 cells
    | _ => undef
  let G : Value → Array Value := fun v => #[.slice none 0 0, .int .i64 0, .int .i64 0, .int .i64 (r : Int), .int .i64 (a : Int), .int .i64 (n : Int), .slice P n0 c0, v, .slice A n c, .int .i64 fuel, .int .i64 cells, .slice none 0 0, .int .i64 0, .bool false]
  refine wp_region_joint (BgJ W0 r F G) hmx (by kernel_rfl) (by kernel_rfl) ?_ ?_ ?_ ?_
  · intro D vs hD
    exact ⟨(Below.refl _ _).drew, fun i hi _ hd => (by rw [hD i (by show i < 10; omega)] at hd; cases hd), fun hd => (by rw [hD 3 (by decide)] at hd; cases hd), fun hd => (by rw [hD 7 (by decide)] at hd; cases hd), fun hd => (by rw [hD 8 (by decide)] at hd; cases hd), fun hd => (by rw [hD 9 (by decide)] at hd; cases hd)⟩
  · intro o o9 ho D vs w2 hJ hDi hd K hK
    have hi9 : o < 10 := (List.getElem?_eq_some_iff.1 ho).1
    generalize hlit : putV vs 0 _ _ = z at hK ⊢
    simp only [List.map_cons, List.map_nil, putV, Act.put, List.setIfInBounds_toArray, List.set_cons_succ, List.set_cons_zero] at hlit
    subst hlit
    rcases (by omega : o = 0 ∨ o = 1 ∨ o = 2 ∨ o = 3 ∨ o = 4 ∨ o = 5 ∨ o = 6 ∨ o = 7 ∨ o = 8 ∨ o = 9) with rfl | rfl | rfl | rfl | rfl | rfl | rfl | rfl | rfl | rfl
    · -- 0
      obtain rfl := Option.some.inj ho
      obtain ⟨z0, z1, z2, z3, _⟩ := lvCells (keep_b hJ.bel HX0.out)
      clear ho hd hi9
      go_simp
      exact hK _ (F 0) _ (fun q => q == 0 || D q) (by simp [Act.put]; try rfl) (fun q hq => by simp [hq]) (by simp) (hJ.other (by decide) (fun q hq => by simp [hq]))
    · -- 1
      obtain rfl := Option.some.inj ho
      clear ho hd hi9
      go_simp
      exact hK _ (F 1) _ (fun q => q == 1 || D q) (by simp [Act.put]; try rfl) (fun q hq => by simp [hq]) (by simp) (hJ.other (by decide) (fun q hq => by simp [hq]))
    · -- 2
      obtain rfl := Option.some.inj ho
      have v1 : vs 1 = F 1 := hJ.vals 1 (by decide) (by decide) (hd 1 (by kernel_rfl))
      obtain ⟨z0, z1, z2, z3, _⟩ := lvCells (keep_b hJ.bel HX0.out)
      clear ho hd hi9
      dsimp only [F] at v1
      go_simp
      exact hK _ (F 2) _ (fun q => q == 2 || D q) (by simp [Act.put, v1]; try rfl) (fun q hq => by simp [hq]) (by simp) (hJ.other (by decide) (fun q hq => by simp [hq]))
    · -- 3
      obtain rfl := Option.some.inj ho
      have v2 : vs 2 = F 2 := hJ.vals 2 (by decide) (by decide) (hd 2 (by kernel_rfl))
      clear ho hd hi9
      dsimp only [F] at v2
      have hmk2 := hmk w2
      go_simp
      exact hK _ (.slice (some ⟨w2.heap.size, 0, none⟩) r r) _ (fun q => q == 3 || D q) (by simp [Act.put, v2]; try rfl) (fun q hq => by simp [hq]) (by simp) (hJ.made hDi (fun q hq => by simp [hq]))
    · -- 4
      obtain rfl := Option.some.inj ho
      clear ho hd hi9
      go_simp
      exact hK _ (F 4) _ (fun q => q == 4 || D q) (by simp [Act.put]; try rfl) (fun q hq => by simp [hq]) (by simp) (hJ.other (by decide) (fun q hq => by simp [hq]))
    · -- 5
      obtain rfl := Option.some.inj ho
      clear ho hd hi9
      go_simp
      exact hK _ (F 5) _ (fun q => q == 5 || D q) (by simp [Act.put]; try rfl) (fun q hq => by simp [hq]) (by simp) (hJ.other (by decide) (fun q hq => by simp [hq]))
    · -- 6
      obtain rfl := Option.some.inj ho
      clear ho hd hi9
      go_simp
      exact hK _ (F 6) _ (fun q => q == 6 || D q) (by simp [Act.put]; try rfl) (fun q hq => by simp [hq]) (by simp) (hJ.other (by decide) (fun q hq => by simp [hq]))
    · -- 7
      obtain rfl := Option.some.inj ho
      have v0 : vs 0 = F 0 := hJ.vals 0 (by decide) (by decide) (hd 0 (by kernel_rfl))
      have v4 : vs 4 = F 4 := hJ.vals 4 (by decide) (by decide) (hd 4 (by kernel_rfl))
      have v5 : vs 5 = F 5 := hJ.vals 5 (by decide) (by decide) (hd 5 (by kernel_rfl))
      have v6 : vs 6 = F 6 := hJ.vals 6 (by decide) (by decide) (hd 6 (by kernel_rfl))
      have h3 := hd 3 (by kernel_rfl)
      obtain ⟨gr, v3, _, _⟩ := hJ.m3 h3
      clear ho hd hi9
      dsimp only [F] at v0 v4 v5 v6
      have hbt := hJ.built (D' := fun q => q == 7 || D q) hDi h3 (fun q hq => by simp [hq])
      dsimp only [G] at hbt
      rw [v3] at hbt
      go_simp
      refine hK _ (.agg (G (vs 3))) _ (fun q => q == 7 || D q) ?_ (fun q hq => by simp [hq]) (by simp) ?_
      · dsimp only [G]; simp [Act.put, v0, v3, v4, v5, v6]; try rfl
      · rw [v3]; exact hbt
    · -- 8
      obtain rfl := Option.some.inj ho
      have h7 := hd 7 (by kernel_rfl)
      obtain ⟨v7, hbx⟩ := hJ.boxed (D' := fun q => q == 8 || D q) hDi h7 (fun q hq => by simp [hq])
      obtain ⟨h3, _⟩ := hJ.v7 h7
      obtain ⟨gr, v3, _, _⟩ := hJ.m3 h3
      clear ho hd hi9
      rw [v3] at v7 hbx
      dsimp only [G] at v7 hbx
      go_simp
      exact hK _ (.pointer (some ⟨w2.heap.size, 0, none⟩)) _ (fun q => q == 8 || D q) (by simp [Act.put, v3, v7]; try rfl) (fun q hq => by simp [hq]) (by simp) hbx
    · -- 9
      obtain rfl := Option.some.inj ho
      have h8 := hd 8 (by kernel_rfl)
      have hl := hJ.last (D' := fun q => q == 9 || D q) h8 (fun q hq => by simp [hq])
      clear ho hd hi9
      go_simp
      exact hK _ (vs 8) _ (fun q => q == 9 || D q) (by simp [Act.put]; try rfl) (fun q hq => by simp [hq]) (by simp) hl
  · intro D vs w5 hJ hall
    obtain ⟨h8, e9⟩ := hJ.v9 (hall 9 (by decide))
    obtain ⟨h7, g, v8, hgb, hgh⟩ := hJ.b8 h8
    obtain ⟨h3, v7⟩ := hJ.v7 h7
    obtain ⟨gR, v3, hRb, hRh⟩ := hJ.m3 h3
    have v9 : vs 9 = .pointer (some ⟨g, 0, none⟩) := e9.trans v8
    rw [v3] at v7 hgh
    have v0 : vs 0 = F 0 := hJ.vals 0 (by decide) (by decide) (hall 0 (by decide))
    have v1 : vs 1 = F 1 := hJ.vals 1 (by decide) (by decide) (hall 1 (by decide))
    have v2 : vs 2 = F 2 := hJ.vals 2 (by decide) (by decide) (hall 2 (by decide))
    have v4 : vs 4 = F 4 := hJ.vals 4 (by decide) (by decide) (hall 4 (by decide))
    have v5 : vs 5 = F 5 := hJ.vals 5 (by decide) (by decide) (hall 5 (by decide))
    have v6 : vs 6 = F 6 := hJ.vals 6 (by decide) (by decide) (hall 6 (by decide))
    dsimp only [F] at v0 v1 v2 v4 v5 v6
    dsimp only [G] at v7 hgh
    have hbel := hJ.bel
    generalize hlit : putV vs 0 _ _ = z
    simp only [List.map_cons, List.map_nil, putV, Act.put, List.setIfInBounds_toArray, List.set_cons_succ, List.set_cons_zero] at hlit
    rw [v0, v1, v2, v3, v4, v5, v6, v7, v8, v9] at hlit
    subst hlit
    clear hJ hall v0 v1 v2 v3 v4 v5 v6 v7 v8 v9 e9 h3 h7 h8 D vs
    clear F G
    have hX5 := keep_b hbel HX0.out
    have HB5 := Lib.hid (HB0.out.trans (hbel.mono HB0.out.size))
    have HRH := Lib.hid hRh
    have HGH := Lib.hid hgh
    have HX5 := Lib.hid hX5
    have hs0 := HB0.out.size
    have HRB : Hid (w.heap.size ≤ gR) := Nat.le_trans hs0 hRb
    have HGB : Hid (w.heap.size ≤ g) := Nat.le_trans hs0 hgb
    obtain ⟨k0, k1, k2, k3, _⟩ := lvCells hX5
    obtain ⟨p, hp⟩ : ∃ p, a - n = p := ⟨_, rfl⟩
    have hs : (a : Int) - (n : Int) = (p : Int) := by omega
    have hwp : IntKind.i64.wrap (p : Int) = (p : Int) := by rw [wrap_eq]; exact IntWalk.wrap64_in _ ⟨by omega, by omega⟩
    have HP := Lib.hid hp
    obtain ⟨i1, hi1, hy0, hy1, hy2⟩ := info_parts infoRowU
    have hmk2 := run_makeRu (P := Tryz.prog) 25 28 i1 Tryz.underlying25 hi1 hy0 hy1 hy2 p (by omega)
    have hbr := lvBelow w5 (.cells (Array.replicate p (Value.slice none 0 0)) 28)
    have hO6 := heap_alloc_new w5 (.cells (Array.replicate p (Value.slice none 0 0)) 28)
    have hG6 := keep_b hbr hgh
    have hR6 := keep_b hbr hRh
    have hX6 := keep_b hbr hX5
    have hf0 : (w5.alloc (.cells (Array.replicate p (Value.slice none 0 0)) 28)).frozen? ⟨g, 0, none⟩ = false := by simp [World.frozen?, hG6]
    have hc0 : (w5.alloc (.cells (Array.replicate p (Value.slice none 0 0)) 28)).cell? ⟨g, 0, none⟩ = some (.slice none 0 0) := cell_of_row _ _ _ _ _ _ hG6
    clear hmk hbel hgh hRh hX5 hi1 hy0 hy1 hy2 hp hgb hRb hs0
    go_upto_region 3 with fail
    obtain ⟨W6, hW6⟩ : ∃ W, (w5.alloc (.cells (Array.replicate p (Value.slice none 0 0)) 28)).setCell ⟨g, 0, none⟩ (.slice (some ⟨w5.heap.size, 0, none⟩) p p) = W := ⟨_, rfl⟩
    obtain ⟨gO, hgO⟩ : ∃ z, w5.heap.size = z := ⟨_, rfl⟩
    have hGH6 := set_j (i := 0) (cs := [.slice none 0 0, .int .i64 0, .int .i64 0, .int .i64 (r : Int), .int .i64 (a : Int), .int .i64 (n : Int), .slice P n0 c0, .slice (some ⟨gR, 0, none⟩) r r, .slice A n c, .int .i64 fuel, .int .i64 cells, .slice none 0 0, .int .i64 0, .bool false]) hG6 (.slice (some ⟨w5.heap.size, 0, none⟩) p p)
    have hgR : gR ≠ g := fun e => by
      have h1 := HRH.out
      rw [e, HGH.out] at h1
      injection h1 with h1; injection h1 with _ h1
      exact absurd h1 (by decide)
    have hgX : g0 ≠ g := fun e => by
      have h1 := HX5.out
      rw [e, HGH.out] at h1
      injection h1 with h1; injection h1 with _ h1
      exact absurd h1 (by decide)
    have hgOg : w5.heap.size ≠ g := by have := lt_of_heap HGH.out; omega
    have hO6' := (heap_setCell_other (w5.alloc (.cells (Array.replicate p (Value.slice none 0 0)) 28)) ⟨g, 0, none⟩ w5.heap.size (.slice (some ⟨w5.heap.size, 0, none⟩) p p) hgOg).trans hO6
    have hR6' := (heap_setCell_other (w5.alloc (.cells (Array.replicate p (Value.slice none 0 0)) 28)) ⟨g, 0, none⟩ gR (.slice (some ⟨w5.heap.size, 0, none⟩) p p) hgR).trans hR6
    have hX6' := (heap_setCell_other (w5.alloc (.cells (Array.replicate p (Value.slice none 0 0)) 28)) ⟨g, 0, none⟩ g0 (.slice (some ⟨w5.heap.size, 0, none⟩) p p) hgX).trans hX6
    have hB6 : Below w.heap.size w ((w5.alloc (.cells (Array.replicate p (Value.slice none 0 0)) 28)).setCell ⟨g, 0, none⟩ (.slice (some ⟨w5.heap.size, 0, none⟩) p p)) := (HB5.out.trans (hbr.mono HB5.out.size)).setCell (p := ⟨g, 0, none⟩) HGB.out _
    rw [hW6] at hGH6 hO6' hR6' hX6' hB6
    rw [hgO] at hGH6 hO6'
    simp only [List.set_cons_zero] at hGH6
    have HGH6 := Lib.hid hGH6
    have HO6 := Lib.hid hO6'
    have HR6 := Lib.hid hR6'
    have HX6 := Lib.hid hX6'
    have HB6 := Lib.hid hB6
    have HOB : Hid (w.heap.size ≤ gO) := by have := HB5.out.size; unfold Hid; omega
    try rw [hW6]
    try rw [hgO]
    clear hW6 hgO hGH6 hO6' hR6' hX6' hB6 hbr hO6 hG6 hR6 hX6 hf0 hc0 hmk2 k0 k1 k2 k3 hs hwp hgR hgX hgOg
    have cA := acts_any g W6
    go_upto_region 4 with (first | (go_at_call 30; refine cA.mono ?_; rintro e w7 ⟨b, rfl, hact, hbb, hb7⟩))
    have HACT := Lib.hid hact
    have HGH7 := Lib.hid (keep_b hb7 HGH6.out)
    have HO7 := Lib.hid (keep_b hb7 HO6.out)
    have HR7 := Lib.hid (keep_b hb7 HR6.out)
    have HX7 := Lib.hid (keep_b hb7 HX6.out)
    have HB7 := Lib.hid (HB6.out.trans (hb7.mono HB6.out.size))
    have HBN : Hid (b ≠ g) := fun e => by
      obtain ⟨es, clock, h1, _⟩ := hact
      rw [e, HGH7.out] at h1
      injection h1 with h1; cases h1
    clear hact hbb hb7 cA
    obtain ⟨k0, k1, k2, k3, _⟩ := lvCells HX7.out
    go_upto_region 5 with fail
    clear k0 k1 k2 k3
    go_loopw [37] (fun v wr => ∃ (k : Nat) (Dv : Option Addr) (cD : Nat), v = .int .i64 (k : Int) ∧ k ≤ n0 ∧ Hid (OwnFn wr w.heap.size g Dv cD (l.take k)) ∧ Hid (wr.heap[g]? = some (.cells (CS r a p n P n0 c0 A c fuel cells gO gR Dv k cD).toArray 52 (0, 0))) ∧ Hid (wr.heap[gO]? = some (.cells (Array.replicate p (Value.slice none 0 0)) 28 (0, 0))) ∧ Hid (wr.heap[gR]? = some (.cells (Array.replicate r (Value.int .i64 0)) 2 (0, 0))) ∧ Hid (ActO wr g b 13) ∧ Hid (Below w.heap.size w wr)) (fun v _ => n0 - (intOf v).toNat)
    case atStart => exact ⟨0, none, 0, rfl, Nat.zero_le _, by rw [List.take_zero]; exact OwnFn.nil_ _ _ _, HGH7, HO7, HR7, HACT, HB7⟩
    case round =>
      obtain ⟨k, Dv, cD, rfl, hk, HOF, HOG, HOO, HOR, HACT8, HB8⟩ := hrel
      clear HGH7 HO7 HR7 HX7 HACT HB7
      by_cases hkn : k < n0
      case neg =>
        obtain rfl : k = n0 := by omega
        have d0 : decide (k < k) = false := decide_eq_false (Nat.lt_irrefl _)
        go_wp2_with fail
        go_ret
        have hOF := HOF.out
        rw [List.take_of_length_le (by have := HNL.out; omega)] at hOF
        obtain ⟨gD, rfl, hDb, cur, hc1, hc2⟩ := hOF.some_ (by have := HNL.out; omega)
        have hp := HP.out
        have hM := MsW.madeU HOR.out HOO.out HRB.out HOB.out (by omega) (by omega)
        have hsd := start_drop (Cq.cd ⟨(r : Int), (a : Int), (n : Int), P, k, c0, l⟩) HN.out rfl hp
        refine ⟨⟨(r : Int), (a : Int), n, P, k, c0, l, A, n, c, ins, fuel, cells, g, gR, gO, gD, r, p, cD⟩, List.replicate p ⟨none, 0, []⟩, rfl, ⟨HOG.out, ⟨hM.R, hM.A, ?_, hM.far⟩, ⟨cur, hc1, hc2⟩, HJ0.out.below HB8.out, HI0.out.below HB8.out, start_take _ HN.out, ?_, ?_, HGB.out⟩, ⟨rfl, rfl, rfl, rfl, rfl, rfl, rfl, rfl, rfl⟩, HB8.out⟩
        · exact hM.L.trans hsd.symm
        · show (List.replicate _ (0 : Int)).length = r
          rw [List.length_replicate]; rfl
        · show ((startM _ ins).A.drop n).length = p
          rw [hsd, List.length_replicate]
      have hk1 : (k : Int) < (n0 : Int) := by omega
      have hk0 : (0 : Int) ≤ (k : Int) := by omega
      obtain ⟨bP, oP, x, hP, _, HXL, hcJ, hok⟩ := (HJ0.out.below HB8.out).at_ (k := k) hkn
      have hP : P = some ⟨bP, oP, none⟩ := hP
      subst hP
      obtain ⟨y0, y1, y2, y3, y4⟩ := hcJ
      have HXO : Hid (0 ≤ x.op ∧ x.op ≤ 12) := HOP.out x (List.mem_of_getElem? HXL.out)
      have HTK : Hid ((l.take k).length = k) := by
        have := HNL.out
        unfold Hid
        rw [List.length_take]; omega
      obtain ⟨W1, hW1⟩ : ∃ W, wr.alloc (.cells #[.int .i64 x.op, .int .i64 x.a, .int .i64 x.b, .int .i64 x.c, .int .i64 x.n] 70) = W := ⟨_, rfl⟩
      have hx1 := heap_alloc_new wr (.cells #[.int .i64 x.op, .int .i64 x.a, .int .i64 x.b, .int .i64 x.c, .int .i64 x.n] 70)
      have hb1 : Below wr.heap.size wr W1 := by rw [← hW1]; exact lvBelow wr _
      rw [hW1] at hx1
      obtain ⟨gx, hgx⟩ : ∃ z, wr.heap.size = z := ⟨_, rfl⟩
      have HX1 : Hid (W1.heap[gx]? = some (.cells #[.int .i64 x.op, .int .i64 x.a, .int .i64 x.b, .int .i64 x.c, .int .i64 x.n] 70 (0, 0))) := by rw [← hgx]; exact hx1
      have HXG : Hid (gx ≠ g) := by have := lt_of_heap HOG.out; unfold Hid; omega
      have HOF9 := Lib.hid (HOF.out.below hb1 (Nat.le_refl _))
      have HOG9 := Lib.hid (keep_b hb1 HOG.out)
      have HOO9 := Lib.hid (keep_b hb1 HOO.out)
      have HOR9 := Lib.hid (keep_b hb1 HOR.out)
      have HB9 := Lib.hid (HB8.out.trans (hb1.mono HB8.out.size))
      have HSZ : Hid (w.heap.size ≤ W1.heap.size) := HB9.out.size
      have HACT9 : Hid (ActO W1 g b 13) := HACT8.out.kept (KeepF.of_below (base := 0) (gm := g) hb1 (Nat.zero_le _)) HBN.out
      go_upto_region 7 with fail
      try rw [hW1]
      try rw [hgx]
      clear hW1 hgx hx1 hb1 y0 y1 y2 y3 y4 hok HOF HOG HOO HOR HACT8 HB8
      let F : Nat → Value := fun o => match o with
        | 0 => .pointer (some ⟨g, 0, none⟩)
        | 1 => .pointer (some ⟨g, 0, none⟩)
        | 2 => .pointer (some ⟨g, 0, none⟩)
        | 3 => .pointer (some ⟨g, 11, none⟩)
        | 4 => .slice Dv k cD
        | 5 => .map (some b)
        | 6 => .pointer (some ⟨gx, 0, none⟩)
        | 7 => .int .i64 x.op
        | 8 => actV g x.op
        | 11 => .pointer (some ⟨g, 0, none⟩)
        | 12 => .pointer (some ⟨g, 11, none⟩)
        | _ => undef
      refine wp_region_joint (ApF W1 w.heap.size g k (l.take k) x (fun Dv' cD' => .cells (CS r a p n (some ⟨bP, oP, none⟩) n0 c0 A c fuel cells gO gR Dv' (k + 1) cD').toArray 52 (0, 0)) (.cells (CS r a p n (some ⟨bP, oP, none⟩) n0 c0 A c fuel cells gO gR Dv k cD).toArray 52 (0, 0)) F) hmx (by kernel_rfl) (by kernel_rfl) ?_ ?_ ?_ ?_
      · intro D vs hD
        exact ⟨KeepF.of_below (Below.refl _ _).drew HSZ.out, fun o ho _ _ hd => (by rw [hD o (by show o < 14; omega)] at hd; cases hd), fun hd => (by rw [hD 9 (by decide)] at hd; cases hd), fun _ => (Below.refl _ _).drew, fun hd => (by rw [hD 10 (by decide)] at hd; cases hd), fun hd => (by rw [hD 10 (by decide)] at hd; cases hd), fun _ => HOG9.out, fun hd => (by rw [hD 13 (by decide)] at hd; cases hd)⟩
      · intro o o9 ho D vs w2 hJ hDi hd K hK
        have hi9 : o < 14 := (List.getElem?_eq_some_iff.1 ho).1
        generalize hlit : putV vs 0 _ _ = z at hK ⊢
        simp only [List.map_cons, List.map_nil, putV, Act.put, List.setIfInBounds_toArray, List.set_cons_succ, List.set_cons_zero] at hlit
        subst hlit
        rcases (by omega : o = 0 ∨ o = 1 ∨ o = 2 ∨ o = 3 ∨ o = 4 ∨ o = 5 ∨ o = 6 ∨ o = 7 ∨ o = 8 ∨ o = 9 ∨ o = 10 ∨ o = 11 ∨ o = 12 ∨ o = 13) with rfl | rfl | rfl | rfl | rfl | rfl | rfl | rfl | rfl | rfl | rfl | rfl | rfl | rfl
        · -- 0
          obtain rfl := Option.some.inj ho
          clear ho hd hi9
          go_simp
          exact hK _ (F 0) _ (fun q => q == 0 || D q) (by simp [Act.put]; try rfl) (fun q hq => by simp [hq]) (by simp) (hJ.other (by decide) (fun q hq => by simp [hq]) (by simp))
        · -- 1
          obtain rfl := Option.some.inj ho
          clear ho hd hi9
          go_simp
          exact hK _ (F 1) _ (fun q => q == 1 || D q) (by simp [Act.put]; try rfl) (fun q hq => by simp [hq]) (by simp) (hJ.other (by decide) (fun q hq => by simp [hq]) (by simp))
        · -- 2
          obtain rfl := Option.some.inj ho
          have v1 : vs 1 = F 1 := hJ.vals 1 (by decide) (by decide) (by decide) (hd 1 (by kernel_rfl))
          clear ho hd hi9
          dsimp only [F] at v1
          go_simp
          exact hK _ (F 2) _ (fun q => q == 2 || D q) (by simp [Act.put, v1]; try rfl) (fun q hq => by simp [hq]) (by simp) (hJ.other (by decide) (fun q hq => by simp [hq]) (by simp))
        · -- 3
          obtain rfl := Option.some.inj ho
          have v2 : vs 2 = F 2 := hJ.vals 2 (by decide) (by decide) (by decide) (hd 2 (by kernel_rfl))
          clear ho hd hi9
          dsimp only [F] at v2
          go_simp
          exact hK _ (F 3) _ (fun q => q == 3 || D q) (by simp [Act.put, v2]; try rfl) (fun q hq => by simp [hq]) (by simp) (hJ.other (by decide) (fun q hq => by simp [hq]) (by simp))
        · -- 4
          obtain rfl := Option.some.inj ho
          have v3 : vs 3 = F 3 := hJ.vals 3 (by decide) (by decide) (by decide) (hd 3 (by kernel_rfl))
          have hc : w2.cell? ⟨g, 11, none⟩ = some (.slice Dv k cD) := cell_of_row _ _ _ _ _ _ (hJ.hg (hJ.not13 (.inl hDi)))
          clear ho hd hi9
          dsimp only [F] at v3
          go_simp
          exact hK _ (F 4) _ (fun q => q == 4 || D q) (by simp [Act.put, v3]; try rfl) (fun q hq => by simp [hq]) (by simp) (hJ.other (by decide) (fun q hq => by simp [hq]) (by simp))
        · -- 5
          obtain rfl := Option.some.inj ho
          clear ho hd hi9
          go_simp
          exact hK _ (F 5) _ (fun q => q == 5 || D q) (by simp [Act.put]; try rfl) (fun q hq => by simp [hq]) (by simp) (hJ.other (by decide) (fun q hq => by simp [hq]) (by simp))
        · -- 6
          obtain rfl := Option.some.inj ho
          clear ho hd hi9
          go_simp
          exact hK _ (F 6) _ (fun q => q == 6 || D q) (by simp [Act.put]; try rfl) (fun q hq => by simp [hq]) (by simp) (hJ.other (by decide) (fun q hq => by simp [hq]) (by simp))
        · -- 7
          obtain rfl := Option.some.inj ho
          have v6 : vs 6 = F 6 := hJ.vals 6 (by decide) (by decide) (by decide) (hd 6 (by kernel_rfl))
          obtain ⟨⟨z0, _, _, _, _⟩, _⟩ := box_cellsJ (hJ.keep.blk _ _ HX1.out HXG.out (fun cs e => by injection e with _ e; exact absurd e (by decide)))
          clear ho hd hi9
          dsimp only [F] at v6
          go_simp
          exact hK _ (F 7) _ (fun q => q == 7 || D q) (by simp [Act.put, v6]; try rfl) (fun q hq => by simp [hq]) (by simp) (hJ.other (by decide) (fun q hq => by simp [hq]) (by simp))
        · -- 8
          obtain rfl := Option.some.inj ho
          have v5 : vs 5 = F 5 := hJ.vals 5 (by decide) (by decide) (by decide) (hd 5 (by kernel_rfl))
          have v7 : vs 7 = F 7 := hJ.vals 7 (by decide) (by decide) (by decide) (hd 7 (by kernel_rfl))
          have hlk := act_look (HACT9.out.kept hJ.keep HBN.out) HXO.out.1 HXO.out.2
          clear ho hd hi9
          dsimp only [F] at v5
          dsimp only [F] at v7
          go_simp
          exact hK _ (F 8) _ (fun q => q == 8 || D q) (by simp [Act.put, v5, v7]; try rfl) (fun q hq => by simp [hq]) (by simp) (hJ.other (by decide) (fun q hq => by simp [hq]) (by simp))
        · -- 9
          obtain rfl := Option.some.inj ho
          have v8 : vs 8 = F 8 := hJ.vals 8 (by decide) (by decide) (by decide) (hd 8 (by kernel_rfl))
          clear ho hd hi9
          dsimp only [F] at v8
          go_simp
          exact hK _ (.slice (some ⟨w2.heap.size, 0, none⟩) 1 1) _ (fun q => q == 9 || D q) (by simp [Act.put, v8]; try rfl) (fun q hq => by simp [hq]) (by simp) (hJ.lay hDi (fun q hq => by simp [hq]) (Nat.le_trans HSZ.out hJ.keep.bel.size))
        · -- 10
          obtain rfl := Option.some.inj ho
          have v4 : vs 4 = F 4 := hJ.vals 4 (by decide) (by decide) (by decide) (hd 4 (by kernel_rfl))
          have h4 := hd 4 (by kernel_rfl)
          have h9 := hd 9 (by kernel_rfl)
          obtain ⟨gl, v9, hgl, hlit⟩ := hJ.lit h9
          have hgl2 := hlit hDi
          have hbp := hJ.pre hDi
          have hO2 := HOF9.out.below hbp (Nat.le_refl _)
          have hbs : w.heap.size ≤ w2.heap.size := Nat.le_trans HSZ.out hJ.keep.bel.size
          clear ho hd hi9
          dsimp only [F] at v4
          refine step_appendFn rfl (.tmp 45) (.tmp 50) rfl w.heap.size g gl k Dv cD (l.take k) x v4 v9 hO2 HTK.out hgl2 (by omega) hbs ?_
          intro A8 c8 w8 hO8 hG8
          exact hK _ (.slice A8 (k + 1) c8) w8 (fun q => q == 10 || D q) rfl (fun q hq => by simp [hq]) (by simp) (hJ.app hDi h4 h9 hO2 HTK.out hO8 hG8 hbs rfl (fun q hq => by simp [hq]) (by simp))
        · -- 11
          obtain rfl := Option.some.inj ho
          have v0 : vs 0 = F 0 := hJ.vals 0 (by decide) (by decide) (by decide) (hd 0 (by kernel_rfl))
          clear ho hd hi9
          dsimp only [F] at v0
          go_simp
          exact hK _ (F 11) _ (fun q => q == 11 || D q) (by simp [Act.put, v0]; try rfl) (fun q hq => by simp [hq]) (by simp) (hJ.other (by decide) (fun q hq => by simp [hq]) (by simp))
        · -- 12
          obtain rfl := Option.some.inj ho
          have v11 : vs 11 = F 11 := hJ.vals 11 (by decide) (by decide) (by decide) (hd 11 (by kernel_rfl))
          clear ho hd hi9
          dsimp only [F] at v11
          go_simp
          exact hK _ (F 12) _ (fun q => q == 12 || D q) (by simp [Act.put, v11]; try rfl) (fun q hq => by simp [hq]) (by simp) (hJ.other (by decide) (fun q hq => by simp [hq]) (by simp))
        · -- 13
          obtain rfl := Option.some.inj ho
          have v12 : vs 12 = F 12 := hJ.vals 12 (by decide) (by decide) (by decide) (hd 12 (by kernel_rfl))
          have h10 := hd 10 (by kernel_rfl)
          have hf := hJ.hg hDi
          have hc : w2.cell? ⟨g, 11, none⟩ = some (.slice Dv k cD) := cell_of_row _ _ _ _ _ _ hf
          have hz : w2.frozen? ⟨g, 11, none⟩ = false := by simp [World.frozen?, hf]
          obtain ⟨A8, c8, v10, hst⟩ := hJ.ready (cs := (CS r a p n (some ⟨bP, oP, none⟩) n0 c0 A c fuel cells gO gR Dv k cD)) h10 hDi rfl (fun _ _ => rfl) HGB.out
          clear ho hd hi9 hf
          dsimp only [F] at v12
          go_simp
          exact hK _ undef _ (fun q => q == 13 || D q) (by simp [Act.put, v10, v12]; try rfl) (fun q hq => by simp [hq]) (by simp) (hst _ undef (fun q hq => by simp [hq]) (by simp))
      · intro D vs w5 hJ hall
        obtain ⟨_, A8, c8, hN8, hG8⟩ := hJ.fin (hall 13 (by decide))
        have v0 : vs 0 = F 0 := hJ.vals 0 (by decide) (by decide) (by decide) (hall 0 (by decide))
        have v1 : vs 1 = F 1 := hJ.vals 1 (by decide) (by decide) (by decide) (hall 1 (by decide))
        have v2 : vs 2 = F 2 := hJ.vals 2 (by decide) (by decide) (by decide) (hall 2 (by decide))
        have v3 : vs 3 = F 3 := hJ.vals 3 (by decide) (by decide) (by decide) (hall 3 (by decide))
        have v4 : vs 4 = F 4 := hJ.vals 4 (by decide) (by decide) (by decide) (hall 4 (by decide))
        have v5 : vs 5 = F 5 := hJ.vals 5 (by decide) (by decide) (by decide) (hall 5 (by decide))
        have v6 : vs 6 = F 6 := hJ.vals 6 (by decide) (by decide) (by decide) (hall 6 (by decide))
        have v7 : vs 7 = F 7 := hJ.vals 7 (by decide) (by decide) (by decide) (hall 7 (by decide))
        have v8 : vs 8 = F 8 := hJ.vals 8 (by decide) (by decide) (by decide) (hall 8 (by decide))
        have v11 : vs 11 = F 11 := hJ.vals 11 (by decide) (by decide) (by decide) (hall 11 (by decide))
        have v12 : vs 12 = F 12 := hJ.vals 12 (by decide) (by decide) (by decide) (hall 12 (by decide))
        dsimp only [F] at v0 v1 v2 v3 v4 v5 v6 v7 v8 v11 v12
        have HK5 := Lib.hid hJ.keep
        generalize hlit : putV vs 0 _ _ = z
        simp only [List.map_cons, List.map_nil, putV, Act.put, List.setIfInBounds_toArray, List.set_cons_succ, List.set_cons_zero] at hlit
        rw [v0, v1, v2, v3, v4, v5, v6, v7, v8, v11, v12] at hlit
        generalize vs 9 = u9 at hlit
        generalize vs 10 = u10 at hlit
        subst hlit
        clear hJ hall v0 v1 v2 v3 v4 v5 v6 v7 v8 v11 v12
        clear F
        have hset : (l.take k) ++ [x] = l.take (k + 1) := by
          rw [List.take_add_one, HXL.out]; rfl
        rw [hset] at hN8
        have HN8 := Lib.hid hN8
        have HG8 := Lib.hid hG8
        have hne : ∀ {cs cs' : Array Value} {t : TypeId}, t ≠ 71 → Obj.cells cs t (0, 0) ≠ .cells cs' 71 (0, 0) := fun ht e => by injection e with _ e; exact ht e
        have hgOg : gO ≠ g := fun e => by
          have h1 := HOO9.out
          rw [e, HOG9.out] at h1
          injection h1 with h1; injection h1 with _ h1
          exact absurd h1 (by decide)
        have hgRg : gR ≠ g := fun e => by
          have h1 := HOR9.out
          rw [e, HOG9.out] at h1
          injection h1 with h1; injection h1 with _ h1
          exact absurd h1 (by decide)
        have HO5 := Lib.hid (HK5.out.blk _ _ HOO9.out hgOg fun _ => hne (by decide))
        have HR5 := Lib.hid (HK5.out.blk _ _ HOR9.out hgRg fun _ => hne (by decide))
        have HA5 := Lib.hid (HACT9.out.kept HK5.out HBN.out)
        have HB5 := Lib.hid (HB9.out.trans HK5.out.bel)
        clear hset hN8 hG8 hne hgOg hgRg
        go_wp2_with fail
        go_roundw
        case rel => exact ⟨k + 1, A8, c8, rfl, by omega, HN8, HG8, HO5, HR5, HA5, HB5⟩
        case measure => simp [intOf]; omega
      · exact fun D D' vs w' hD h => h.same hD
  · exact fun D D' vs w' hD h => h.same hD
end Go.Proofs.YtgkngimeokhhgaaGreatDoor
/- How the program follows all ways through code, with a pile of what is still to be gone on from: plain mathematics. Nothing is claimed of the program here. -/
namespace Go.Proofs.YtgkngimeokhhgaaGreatDoor
open Go.RowKit

/-- the marks of all registers: one is set -/
def bitR (r : List Bool) (n : Nat) : Bool := r.getD n false
/-- what is set behind an instruction -/
def behR (x : Ji) (r : List Bool) : List Bool := if setsJ x = true then r.set (writesJ x).toNat true else r
def andR (r s : List Bool) : List Bool := List.zipWith (fun a b => a && b) r s
def noR : List Bool := List.replicate 128 false
theorem noR_len : noR.length = 128 := by unfold noR; rw [List.length_replicate]
theorem bit_noR (n : Nat) : bitR noR n = false := by
  unfold bitR noR
  rw [List.getD_eq_getElem?_getD, List.getElem?_replicate]
  split <;> rfl
theorem behR_len (x : Ji) (r : List Bool) : (behR x r).length = r.length := by unfold behR; split <;> simp
theorem andR_len {r s : List Bool} (h : r.length = s.length) : (andR r s).length = s.length := by unfold andR; rw [List.length_zipWith]; omega
theorem bit_andR {r s : List Bool} (h : r.length = s.length) (n : Nat) : bitR (andR r s) n = (bitR r n && bitR s n) := by
  unfold bitR andR
  rw [List.getD_eq_getElem?_getD, List.getD_eq_getElem?_getD, List.getD_eq_getElem?_getD, List.getElem?_zipWith]
  by_cases hn : n < r.length
  · rw [List.getElem?_eq_getElem hn, List.getElem?_eq_getElem (by omega : n < s.length)]; rfl
  · rw [List.getElem?_eq_none (by omega : r.length ≤ n), List.getElem?_eq_none (by omega : s.length ≤ n)]; rfl
theorem bit_some {r : List Bool} {n : Nat} {v : Bool} (h : r[n]? = some v) : bitR r n = v := by unfold bitR; rw [List.getD_eq_getElem?_getD, h]; rfl
theorem bit_lt {r : List Bool} {n : Nat} (h : bitR r n = true) : n < r.length := by
  apply Classical.byContradiction
  intro hn
  unfold bitR at h
  rw [List.getD_eq_getElem?_getD, List.getElem?_eq_none (by omega)] at h
  cases h
theorem bit_ext {r s : List Bool} (h : r.length = s.length) (hb : ∀ n, bitR r n = bitR s n) : r = s := by
  apply List.ext_getElem?
  intro n
  by_cases hn : n < r.length
  · have := hb n
    rw [bit_some (List.getElem?_eq_getElem hn), bit_some (List.getElem?_eq_getElem (by omega : n < s.length))] at this
    rw [List.getElem?_eq_getElem hn, List.getElem?_eq_getElem (by omega : n < s.length), this]
  · rw [List.getElem?_eq_none (by omega), List.getElem?_eq_none (by omega)]
theorem bit_behR {x : Ji} {r : List Bool} {n : Nat} (h : bitR (behR x r) n = false) (hn : n < r.length) (hw : setsJ x = true → 0 ≤ writesJ x) : bitR r n = false ∧ ¬(setsJ x = true ∧ writesJ x = (n : Int)) := by
  unfold behR at h
  split at h
  · rename_i hs
    have h0 := hw hs
    by_cases e : (writesJ x).toNat = n
    · exfalso
      rw [e] at h
      unfold bitR at h
      rw [List.getD_eq_getElem?_getD, List.getElem?_set_self hn] at h
      cases h
    · refine ⟨?_, fun h2 => e (by omega)⟩
      unfold bitR at h ⊢
      rw [List.getD_eq_getElem?_getD, List.getElem?_set_ne e] at h
      rw [List.getD_eq_getElem?_getD]; exact h
  · rename_i hs
    exact ⟨h, fun h2 => hs h2.1⟩
theorem bit_beh_no {x : Ji} {r : List Bool} {n : Nat} (h : bitR r n = false) (hw : ¬(setsJ x = true ∧ writesJ x = (n : Int))) (h0 : setsJ x = true → 0 ≤ writesJ x) : bitR (behR x r) n = false := by
  unfold behR
  split
  · rename_i hs
    have h1 := h0 hs
    have e : (writesJ x).toNat ≠ n := fun e => hw ⟨hs, by omega⟩
    unfold bitR at h ⊢
    rw [List.getD_eq_getElem?_getD, List.getElem?_set_ne e, ← List.getD_eq_getElem?_getD]
    exact h
  · exact h
/-- how much may still come: of all instructions -/
def potF : List Bool → List (List Bool) → Nat
  | b :: o, r :: rows => (if b = true then r.countP id else 129) + potF o rows
  | _, _ => 0
theorem potF_le : ∀ (o : List Bool) (rows : List (List Bool)), (∀ r ∈ rows, r.length = 128) → potF o rows ≤ 129 * rows.length
  | [], _, _ => by unfold potF; omega
  | _ :: _, [], _ => by unfold potF; omega
  | b :: o, r :: rows, h => by
    have ih := potF_le o rows fun s hs => h s (List.mem_cons_of_mem _ hs)
    have h1 := h r (List.mem_cons_self ..)
    have h2 : r.countP id ≤ r.length := List.countP_le_length
    unfold potF
    rw [List.length_cons]
    split <;> omega
theorem potF_set : ∀ (o : List Bool) (rows : List (List Bool)) (k : Nat) (b : Bool) (r r' : List Bool), o[k]? = some b → rows[k]? = some r → (if b = true then r.countP id else 129) > r'.countP id → potF (o.set k true) (rows.set k r') < potF o rows
  | [], _, _, _, _, _, h, _, _ => by simp at h
  | _ :: _, [], _, _, _, _, _, h, _ => by simp at h
  | b0 :: o, r0 :: rows, 0, b, r, r', h1, h2, h3 => by
    simp only [List.getElem?_cons_zero, Option.some.injEq] at h1 h2
    subst h1 h2
    rw [List.set_cons_zero, List.set_cons_zero]
    unfold potF
    rw [if_pos rfl]
    omega
  | b0 :: o, r0 :: rows, k + 1, b, r, r', h1, h2, h3 => by
    rw [List.getElem?_cons_succ] at h1 h2
    have ih := potF_set o rows k b r r' h1 h2 h3
    rw [List.set_cons_succ, List.set_cons_succ]
    unfold potF
    omega
theorem cnt_and : ∀ (r s : List Bool), r.length = s.length → (andR r s).countP id ≤ s.countP id ∧ ((andR r s).countP id = s.countP id → andR r s = s)
  | [], [], _ => ⟨Nat.le_refl _, fun _ => rfl⟩
  | [], _ :: _, h => by simp at h
  | _ :: _, [], h => by simp at h
  | a :: r, b :: s, h => by
    obtain ⟨h1, h2⟩ := cnt_and r s (by simpa using h)
    have e : andR (a :: r) (b :: s) = (a && b) :: andR r s := rfl
    rw [e, List.countP_cons, List.countP_cons]
    cases a <;> cases b
    · simp only [id, Bool.and_self, Bool.false_eq_true, if_false, Nat.add_zero]
      exact ⟨h1, fun e => by rw [h2 e]⟩
    · simp only [id, Bool.false_and, Bool.false_eq_true, if_false, if_true, Nat.add_zero]
      exact ⟨by omega, fun e => by omega⟩
    · simp only [id, Bool.and_false, Bool.false_eq_true, if_false, Nat.add_zero]
      exact ⟨h1, fun e => by rw [h2 e]⟩
    · simp only [id, Bool.and_self, if_true]
      exact ⟨by omega, fun e => by rw [h2 (by omega)]⟩
/-- from i it is gone on to k: k is marked, and what is set there is set behind i -/
def EdgeF (o : List Bool) (rows : List (List Bool)) (r : List Bool) (k : Nat) : Prop := o[k]? = some true ∧ ∀ s, rows[k]? = some s → ∀ n, bitR s n = true → bitR r n = true
/-- what is known of the marks, of what is set, and of the pile -/
structure FolI (c : Cd) (o : List Bool) (rows : List (List Bool)) (op : List Nat) (ex : Nat → Prop) : Prop where
  lo : o.length = c.l.length
  la : rows.length = c.l.length
  l8 : ∀ r ∈ rows, r.length = 128
  on : ∀ i ∈ op, o[i]? = some true
  zero : ∀ (i : Nat) (r : List Bool), o[i]? = some false → rows[i]? = some r → r = noR
  way : ∀ i : Nat, o[i]? = some true → Way c.l (-1) i
  no : ∀ (i n : Nat) (r : List Bool), o[i]? = some true → rows[i]? = some r → n < 128 → bitR r n = false → Way c.l n i
  fst : o[0]? = some true ∧ rows[0]? = some noR
  cls : ∀ (i : Nat) (x : Ji) (r : List Bool) (k : Nat), o[i]? = some true → i ∉ op → ¬ ex i → c.l[i]? = some x → rows[i]? = some r → (k : Int) ∈ nextJ x i → EdgeF o rows (behR x r) k
  pot : op.length + potF o rows ≤ 129 * c.l.length + 1
theorem FolI.start {c : Cd} (hm : c.may = true) : FolI c ((List.replicate c.l.length false).set 0 true) ((List.replicate c.l.length noR).set 0 noR) [0] (fun _ => False) := by
  obtain ⟨⟨_, _, _, _, _, _, n0, n1⟩, _⟩ := Cd.may_parts hm
  have e1 : ((List.replicate c.l.length false).set 0 true)[0]? = some true := List.getElem?_set_self (by rw [List.length_replicate]; omega)
  have e2 : (List.replicate c.l.length noR).set 0 noR = List.replicate c.l.length noR := by
    apply List.ext_getElem?
    intro i
    by_cases e : 0 = i
    · subst e
      rw [List.getElem?_set_self (by rw [List.length_replicate]; omega), List.getElem?_replicate, if_pos (by omega)]
    · rw [List.getElem?_set_ne e]
  have one : ∀ i : Nat, ((List.replicate c.l.length false).set 0 true)[i]? = some true → i = 0 := by
    intro i hi
    apply Classical.byContradiction
    intro e
    rw [List.getElem?_set_ne (by omega), List.getElem?_replicate] at hi
    split at hi <;> simp at hi
  have l8 : ∀ r ∈ List.replicate c.l.length noR, r.length = 128 := fun r hr => by rw [(List.mem_replicate.1 hr).2]; exact noR_len
  rw [e2]
  refine ⟨by simp, by simp, l8, fun i hi => ?_, fun i r _ hr => ?_, fun i hi => ?_, fun i n r hi _ _ _ => ?_, ⟨e1, ?_⟩, fun i _ _ _ hi hn _ => ?_, ?_⟩
  · rw [List.mem_singleton] at hi
    subst hi; exact e1
  · exact (List.mem_replicate.1 (List.mem_of_getElem? hr)).2
  · rw [one i hi]; exact .start
  · rw [one i hi]; exact .start
  · rw [List.getElem?_replicate, if_pos (by omega)]
  · exact absurd (List.mem_singleton.2 (one i hi)) hn
  · have := potF_le ((List.replicate c.l.length false).set 0 true) (List.replicate c.l.length noR) l8
    rw [List.length_replicate] at this
    simp only [List.length_cons, List.length_nil]
    omega
/-- at an instruction of the pile: the first j of those where it goes on are gone on to -/
structure FolJ (c : Cd) (o : List Bool) (rows : List (List Bool)) (op : List Nat) (i : Nat) (x : Ji) (r : List Bool) (j : Nat) : Prop where
  base : FolI c o rows op (fun k => k = i)
  hx : c.l[i]? = some x
  wi : Way c.l (-1) i
  l8 : r.length = 128
  no : ∀ n : Nat, n < 128 → bitR r n = false → Way c.l n i
  same : i ∈ op ∨ rows[i]? = some r
  done : ∀ j2, j2 < j → ∀ k : Nat, (nextJ x i)[j2]? = some (k : Int) → EdgeF o rows (behR x r) k
theorem FolI.pop {c : Cd} {o : List Bool} {rows : List (List Bool)} {op : List Nat} {i : Nat} {x : Ji} {r : List Bool} (h : FolI c o rows (op ++ [i]) (fun _ => False)) (hx : c.l[i]? = some x) (hr : rows[i]? = some r) : FolJ c o rows op i x r 0 := by
  have hi : o[i]? = some true := h.on i (List.mem_append_right _ (List.mem_singleton.2 rfl))
  refine ⟨⟨h.lo, h.la, h.l8, fun k hk => h.on k (List.mem_append_left _ hk), h.zero, h.way, h.no, h.fst, fun k y s m h1 h2 h3 => ?_, ?_⟩, hx, h.way i hi, h.l8 r (List.mem_of_getElem? hr), fun n hn hb => h.no i n r hi hr hn hb, .inr hr, fun j2 h2 => absurd h2 (by omega)⟩
  · refine h.cls k y s m h1 (fun hk => ?_) (fun h => h)
    rcases List.mem_append.1 hk with hk | hk
    · exact h2 hk
    · exact h3 (List.mem_singleton.1 hk)
  · have := h.pot
    rw [List.length_append, List.length_singleton] at this
    omega
theorem FolJ.close {c : Cd} {o : List Bool} {rows : List (List Bool)} {op : List Nat} {i j : Nat} {x : Ji} {r : List Bool} (h : FolJ c o rows op i x r j) (hj : j = (nextJ x i).length) : FolI c o rows op (fun _ => False) := by
  refine ⟨h.base.lo, h.base.la, h.base.l8, h.base.on, h.base.zero, h.base.way, h.base.no, h.base.fst, fun k y s m h1 h2 _ h4 h5 h6 => ?_, h.base.pot⟩
  by_cases e : k = i
  · subst e
    rcases h.same with hs | hs
    · exact absurd hs h2
    · rw [hs] at h5
      injection h5 with h5
      subst h5
      rw [h.hx] at h4
      injection h4 with h4
      subst h4
      obtain ⟨j2, e2⟩ := List.mem_iff_getElem?.1 h6
      have hj2 := (List.getElem?_eq_some_iff.1 e2).1
      exact h.done j2 (by omega) m e2
  · exact h.base.cls k y s m h1 h2 e h4 h5 h6
/-- it goes on to one that is marked, and nothing is less set there -/
theorem FolJ.stay {c : Cd} {o : List Bool} {rows : List (List Bool)} {op : List Nat} {i j k : Nat} {x : Ji} {r s : List Bool} (h : FolJ c o rows op i x r j) (hk : (nextJ x i)[j]? = some (k : Int)) (ho : o[k]? = some true) (hs : rows[k]? = some s) (he : andR (behR x r) s = s) : FolJ c o rows op i x r (j + 1) := by
  refine ⟨h.base, h.hx, h.wi, h.l8, h.no, h.same, fun j2 h2 k2 h3 => ?_⟩
  by_cases e : j2 = j
  · subst e
    rw [hk] at h3
    injection h3 with h3
    have : k = k2 := by omega
    subst this
    refine ⟨ho, fun t ht n hn => ?_⟩
    rw [hs] at ht
    injection ht with ht
    subst ht
    have hl : (behR x r).length = s.length := by rw [behR_len, h.l8, h.base.l8 s (List.mem_of_getElem? hs)]
    have := bit_andR hl n
    rw [he, hn] at this
    cases hb : bitR (behR x r) n with
    | true => rfl
    | false => rw [hb] at this; cases this
  · exact h.done j2 (by omega) k2 h3
/-- it goes on to one that was not marked, or where something is less set now: this is piled -/
theorem FolJ.push {c : Cd} (hm : c.may = true) {o : List Bool} {rows : List (List Bool)} {op : List Nat} {i j k : Nat} {x : Ji} {r s t : List Bool} {b : Bool} (h : FolJ c o rows op i x r j) (hk : (nextJ x i)[j]? = some (k : Int)) (ho : o[k]? = some b) (hs : rows[k]? = some s) (ht : t = if b = true then andR (behR x r) s else behR x r) (hne : b = true → t ≠ s) : FolJ c (o.set k true) (rows.set k t) (op ++ [k]) i x r (j + 1) ∧ potF (o.set k true) (rows.set k t) < potF o rows := by
  have hsl : s.length = 128 := h.base.l8 s (List.mem_of_getElem? hs)
  have hbl : (behR x r).length = s.length := by rw [behR_len, h.l8, hsl]
  have htl : t.length = 128 := by
    rw [ht]
    split
    · rw [andR_len hbl, hsl]
    · rw [behR_len, h.l8]
  have hko : k < o.length := (List.getElem?_eq_some_iff.1 ho).1
  have hkr : k < rows.length := (List.getElem?_eq_some_iff.1 hs).1
  have hle : ∀ n, bitR t n = true → bitR (behR x r) n = true := by
    intro n hn
    rw [ht] at hn
    split at hn
    · rw [bit_andR hbl, Bool.and_eq_true] at hn
      exact hn.1
    · exact hn
  have hls : b = true → ∀ n, bitR t n = true → bitR s n = true := by
    intro hb n hn
    rw [ht, if_pos hb, bit_andR hbl, Bool.and_eq_true] at hn
    exact hn.2
  have hxm := (Cd.may_parts hm).2.1 x (List.mem_of_getElem? h.hx)
  have hw0 : setsJ x = true → 0 ≤ writesJ x := fun hs => (sets_in hxm hs).1
  have hkn : (k : Int) ∈ nextJ x i := List.mem_of_getElem? hk
  have hwk : Way c.l (-1) k := h.wi.on hm h.hx hkn
  have hno : ∀ n : Nat, n < 128 → bitR t n = false → Way c.l n k := by
    intro n hn hb
    have go : bitR (behR x r) n = false → Way c.l n k := by
      intro h1
      obtain ⟨h2, h3⟩ := bit_behR h1 (by rw [h.l8]; exact hn) hw0
      exact .step (h.no n hn h2) h.hx h3 hkn
    cases b with
    | false => rw [ht, if_neg (by decide)] at hb; exact go hb
    | true =>
      rw [ht, if_pos rfl, bit_andR hbl] at hb
      cases h1 : bitR (behR x r) n with
      | false => exact go h1
      | true =>
        rw [h1, Bool.true_and] at hb
        exact h.base.no k n s ho hs hn hb
  have hpot : potF (o.set k true) (rows.set k t) < potF o rows := by
    refine potF_set o rows k b s t ho hs ?_
    cases b with
    | false =>
      have : t.countP id ≤ t.length := List.countP_le_length
      rw [if_neg (by decide)]; omega
    | true =>
      rw [if_pos rfl]
      have h1 := hne rfl
      rw [if_pos rfl] at ht
      obtain ⟨h2, h3⟩ := cnt_and (behR x r) s hbl
      rw [← ht] at h2 h3
      rcases Nat.lt_or_ge (t.countP id) (s.countP id) with h4 | h4
      · exact h4
      · exact absurd (h3 (by omega)) h1
  have hedge : ∀ (q : List Bool) (m : Nat), EdgeF o rows q m → (m = k → ∀ n, bitR t n = true → bitR q n = true) → EdgeF (o.set k true) (rows.set k t) q m := by
    intro q m he hq
    refine ⟨set_true he.1, fun u hu n hn => ?_⟩
    by_cases e : k = m
    · subst e
      rw [List.getElem?_set_self hkr] at hu
      injection hu with hu
      subst hu
      exact hq rfl n hn
    · rw [List.getElem?_set_ne e] at hu
      exact he.2 u hu n hn
  have hed : ∀ (q : List Bool) (m : Nat), EdgeF o rows q m → EdgeF (o.set k true) (rows.set k t) q m := by
    intro q m he
    refine hedge q m he fun e n hn => ?_
    subst e
    have hb : b = true := by
      have := he.1
      rw [ho] at this
      injection this
    exact he.2 s hs n (hls hb n hn)
  refine ⟨⟨⟨by rw [List.length_set]; exact h.base.lo, by rw [List.length_set]; exact h.base.la, fun u hu => ?_, fun m hm2 => ?_, fun m u h1 h2 => ?_, fun m h1 => ?_, fun m n u h1 h2 h3 h4 => ?_, ⟨set_true h.base.fst.1, ?_⟩, fun m y u p h1 h2 h3 h4 h5 h6 => ?_, ?_⟩, h.hx, h.wi, h.l8, h.no, ?_, fun j2 h2 k2 h3 => ?_⟩, hpot⟩
  · rcases List.mem_or_eq_of_mem_set hu with hu | hu
    · exact h.base.l8 u hu
    · rw [hu]; exact htl
  · rcases List.mem_append.1 hm2 with h1 | h1
    · exact set_true (h.base.on m h1)
    · rw [List.mem_singleton] at h1
      subst h1
      exact List.getElem?_set_self hko
  · by_cases e : k = m
    · subst e
      rw [List.getElem?_set_self hko] at h1
      cases h1
    · rw [List.getElem?_set_ne e] at h1 h2
      exact h.base.zero m u h1 h2
  · by_cases e : k = m
    · subst e; exact hwk
    · rw [List.getElem?_set_ne e] at h1
      exact h.base.way m h1
  · by_cases e : k = m
    · subst e
      rw [List.getElem?_set_self hkr] at h2
      injection h2 with h2
      subst h2
      exact hno n h3 h4
    · rw [List.getElem?_set_ne e] at h1 h2
      exact h.base.no m n u h1 h2 h3 h4
  · by_cases e : k = 0
    · subst e
      rw [List.getElem?_set_self hkr]
      congr 1
      refine bit_ext (by rw [htl, noR_len]) fun n => ?_
      have h1 := h.base.fst
      rw [ho] at h1
      have hb : b = true := by have := h1.1; injection this
      rw [bit_noR]
      cases h2 : bitR t n with
      | false => rfl
      | true =>
        have := hls hb n h2
        have h3 := h1.2
        rw [hs] at h3
        injection h3 with h3
        rw [h3, bit_noR] at this
        cases this
    · rw [List.getElem?_set_ne e]; exact h.base.fst.2
  · have hmk : m ≠ k := fun e => h2 (List.mem_append_right _ (List.mem_singleton.2 e))
    rw [List.getElem?_set_ne (Ne.symm hmk)] at h1 h5
    exact hed _ _ (h.base.cls m y u p h1 (fun h => h2 (List.mem_append_left _ h)) h3 h4 h5 h6)
  · have := h.base.pot
    rw [List.length_append, List.length_singleton]
    omega
  · by_cases e : k = i
    · left
      exact List.mem_append_right _ (List.mem_singleton.2 e.symm)
    · rcases h.same with hs2 | hs2
      · exact .inl (List.mem_append_left _ hs2)
      · right
        rw [List.getElem?_set_ne e]; exact hs2
  · by_cases e : j2 = j
    · subst e
      rw [hk] at h3
      injection h3 with h3
      have : k = k2 := by omega
      subst this
      refine ⟨List.getElem?_set_self hko, fun u hu n hn => ?_⟩
      rw [List.getElem?_set_self hkr] at hu
      injection hu with hu
      subst hu
      exact hle n hn
    · exact hed _ _ (h.done j2 (by omega) k2 h3)
/-- with nothing left on the pile: marked is what is reached, and of that is set what is surely set -/
structure FolD (c : Cd) (o : List Bool) (rows : List (List Bool)) : Prop where
  o_ : o = reachB c (-1)
  la : rows.length = c.l.length
  l8 : ∀ r ∈ rows, r.length = 128
  bit : ∀ (i n : Nat) (r : List Bool), rows[i]? = some r → (bitR r n = true ↔ (n : Int) ∈ setN c i)
open Classical in
theorem FolI.done {c : Cd} (hm : c.may = true) {o : List Bool} {rows : List (List Bool)} (h : FolI c o rows [] (fun _ => False)) : FolD c o rows := by
  have hR := (Cd.may_parts hm).1
  have hall : ∀ i, Way c.l (-1) i → o[i]? = some true := by
    intro i hw
    induction hw with
    | start => exact h.fst.1
    | step hw hl hn hk ih =>
      rename_i i k x
      have hi := (List.getElem?_eq_some_iff.1 hl).1
      have hr := List.getElem?_eq_getElem (l := rows) (i := i) (by rw [h.la]; exact hi)
      exact (h.cls i x _ k ih (by simp) (fun h => h) hl hr hk).1
  have hset : ∀ (n i : Nat), Way c.l (n : Int) i → ∀ r, rows[i]? = some r → bitR r n = false := by
    intro n i hw
    induction hw with
    | start =>
      intro r hr
      rw [h.fst.2] at hr
      injection hr with hr
      rw [← hr, bit_noR]
    | step hw hl hn hk ih =>
      rename_i i k x
      intro r hr
      have hi := (List.getElem?_eq_some_iff.1 hl).1
      have hri := List.getElem?_eq_getElem (l := rows) (i := i) (by rw [h.la]; exact hi)
      have hoi := hall i (hw.all_ hm)
      have hxm := (Cd.may_parts hm).2.1 x (List.mem_of_getElem? hl)
      have h1 := bit_beh_no (ih _ hri) hn (fun hs => (sets_in hxm hs).1)
      have he := (h.cls i x _ k hoi (by simp) (fun h => h) hl hri hk).2 r hr n
      cases h2 : bitR r n with
      | false => rfl
      | true => rw [he h2] at h1; cases h1
  have ho : ∀ i, i < c.l.length → o[i]? = some (decide (o[i]? = some true)) := by
    intro i hi
    have := List.getElem?_eq_getElem (l := o) (i := i) (by rw [h.lo]; exact hi)
    rw [this]
    generalize o[i]'(by rw [h.lo]; exact hi) = b
    cases b <;> simp
  refine ⟨?_, h.la, h.l8, fun i n r hr => ?_⟩
  · apply List.ext_getElem?
    intro i
    by_cases hi : i < c.l.length
    · rw [reachB_at hi, ho i hi]
      congr 1
      by_cases hw : Way c.l (-1) i
      · rw [decide_eq_true hw, decide_eq_true (hall i hw)]
      · rw [decide_eq_false hw, decide_eq_false fun h2 => hw (h.way i h2)]
    · rw [List.getElem?_eq_none (by rw [h.lo]; omega), List.getElem?_eq_none (by rw [reachB_len]; omega)]
  · have hi : i < c.l.length := by have := (List.getElem?_eq_some_iff.1 hr).1; rwa [h.la] at this
    have hr8 := h.l8 r (List.mem_of_getElem? hr)
    rw [mem_setN]
    constructor
    · intro hb
      have hn := bit_lt hb
      have hoi : o[i]? = some true := by
        cases h1 : o[i]? with
        | none =>
          have := List.getElem?_eq_none_iff.1 h1
          rw [h.lo] at this; omega
        | some v =>
          cases v with
          | true => rfl
          | false =>
            rw [h.zero i r h1 hr, bit_noR] at hb
            cases hb
      have hwi := h.way i hoi
      have hnw : ¬ Way c.l (n : Int) i := fun hw => by
        rw [hset n i hw r hr] at hb
        cases hb
      refine ⟨by omega, ?_, hwi, hnw⟩
      apply Classical.byContradiction
      intro hnR
      apply hnw
      have : ∀ x ∈ c.l, ¬(setsJ x = true ∧ writesJ x = (n : Int)) := by
        intro x hx ⟨h1, h2⟩
        have := sets_in ((Cd.may_parts hm).2.1 x hx) h1
        omega
      clear hnw hb hr hoi
      induction hwi with
      | start => exact .start
      | step hw hl _ hk ih => exact .step (ih (List.getElem?_eq_some_iff.1 hl).1) hl (this _ (List.mem_of_getElem? hl)) hk
    · rintro ⟨_, hnR, hw, hnw⟩
      cases h2 : bitR r n with
      | true => rfl
      | false => exact absurd (h.no i n r (hall i hw) hr (by omega) h2) hnw
end Go.Proofs.YtgkngimeokhhgaaGreatDoor
