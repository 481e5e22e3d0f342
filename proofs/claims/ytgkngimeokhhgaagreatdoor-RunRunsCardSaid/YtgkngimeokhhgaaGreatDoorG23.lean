/- The document's run. -/
import Derived.Test.YtgkngimeokhhgaaGreatDoorG22
import Derived.Test.YtgkngimeokhhgaaGreatDoorG17
import Derived.Test.YtgkngimeokhhgaaGreatDoorG5
import Derived.BigQuiet
namespace Go.Proofs.YtgkngimeokhhgaaGreatDoor
open Go.RowKit Go.Sort

set_option maxRecDepth 100000 in
theorem infoRu64 : (Tryz.prog.info? 28).map (fun i => (i.zero, i.size, i.bytes)) = some (some (.slice none 0 0), 1, 24) := by kernel_rfl
theorem may_of_validE {c : Cd} (h : validE c = 0) : c.may = true := by
  cases e : c.may with
  | true => rfl
  | false => rw [validE_may e] at h; cases h
set_option maxRecDepth 100000 in
set_option maxHeartbeats 8000000 in
theorem refRun_go (q : Cq) (fuel cells : Int) (A : Option Addr) (n c : Nat) (ins : List (List Int)) (w : World) (hq : q.In w) (hI : IntsLL w w.heap.size A n ins) (hv : validE q.cd = 0) (hf : ¬ fuel < 0) (hc : ¬ cells < 0) (hn : (ins.length : Int) = q.I) (M : Nat) (hl : ∀ L ∈ ins, L.length ≤ M) (hvi : ∀ L ∈ ins, ∀ v ∈ L, I64 v) (hF : (M : Int) + fuel ≤ 900000) :
    Calls Tryz.prog 21 #[q.val, .int .i64 fuel, .int .i64 cells, .slice A n c] w (RunP q.cd fuel cells ins w) := by
  have HQ := Lib.hid hq
  obtain ⟨R, A0, I, P, n0, c0, l⟩ := q
  obtain ⟨W0, hW0⟩ : ∃ W, (w.alloc (Cq.obj ⟨R, A0, I, P, n0, c0, l⟩)).alloc stZ = W := ⟨_, rfl⟩
  obtain ⟨g0, hg0⟩ : ∃ z, w.heap.size = z := ⟨_, rfl⟩
  have hb1 := lvBelow w (Cq.obj ⟨R, A0, I, P, n0, c0, l⟩)
  have hb2 := lvBelow (w.alloc (Cq.obj ⟨R, A0, I, P, n0, c0, l⟩)) stZ
  have h1 := keep_b hb2 (heap_alloc_new w (Cq.obj ⟨R, A0, I, P, n0, c0, l⟩))
  have h2 := heap_alloc_new (w.alloc (Cq.obj ⟨R, A0, I, P, n0, c0, l⟩)) stZ
  have hb := hb1.trans (hb2.mono hb1.size)
  rw [hW0] at h1 h2 hb
  simp only [World.size_alloc] at h2
  rw [hg0] at h1 h2
  have HB0 := Lib.hid hb
  have HX0 := Lib.hid h1
  have HZ0 := Lib.hid h2
  have HG0 := Lib.hid hg0
  have HII := Lib.hid hI
  have hC := refValid15_any ⟨R, A0, I, P, n0, c0, l⟩ W0 (hq.on hb)
  unfold ValidP at hC
  clear hb1 hb2 h1 h2 hb hq
  obtain ⟨k0, k1, k2, k3, _⟩ := lvCells HX0.out
  have HV : Hid (validE (Cq.cd ⟨R, A0, I, P, n0, c0, l⟩) = 0) := hv
  rw [HV.out] at hC
  have hm := may_of_validE HV.out
  have HM := Lib.hid hm
  obtain ⟨⟨m0, m1, m2, m3, m4, m5, m6, m7⟩, _⟩ := Cd.may_parts hm
  have m0 : 0 ≤ R := m0
  have m1 : R ≤ 128 := m1
  have m2 : 0 ≤ A0 := m2
  have m3 : A0 ≤ 128 := m3
  have m5 : I ≤ A0 := m5
  have m7 : l.length ≤ 4096 := m7
  have HLN : Hid (l.length = n0) := HQ.out.len
  rw [HLN.out] at m7
  have hI2 : (n : Int) = I := by rw [← HII.out.1]; exact hn
  obtain ⟨r, rfl⟩ := Int.eq_ofNat_of_zero_le m0
  obtain ⟨a, rfl⟩ := Int.eq_ofNat_of_zero_le m2
  obtain ⟨f, rfl⟩ := Int.eq_ofNat_of_zero_le (show (0 : Int) ≤ fuel by omega)
  subst hI2
  obtain ⟨cd, hcd⟩ : ∃ cd, Cq.cd ⟨(r : Int), (a : Int), (n : Int), P, n0, c0, l⟩ = cd := ⟨_, rfl⟩
  have HCD : Hid (cd.R = (r : Int) ∧ cd.A = (a : Int) ∧ cd.I = (n : Int) ∧ cd.l = l) := by rw [← hcd]; exact ⟨rfl, rfl, rfl, rfl⟩
  rw [hcd] at HV HM ⊢
  have HRU : Hid (runM cd (f : Int) cells ins = goM cd cells f (startM cd ins)) := by
    unfold Hid runM
    rw [if_neg (by rw [HV.out]; simp), if_neg (by rw [HCD.out.2.2.1, HII.out.1]; omega), Int.toNat_natCast]
  have HLL := Lib.hid hl
  have HVV := Lib.hid hvi
  have d0 : decide ((f : Int) < 0) = false := decide_eq_false hf
  have d1 : decide (cells < 0) = false := decide_eq_false hc
  have hmx : Tryz.prog.follows .mixedOrders = true := by kernel_rfl
  obtain ⟨i6, hi6, hy0, hy1, hy2⟩ := info_parts infoInt64
  obtain ⟨i1, hi1, hx0, hx1, hx2⟩ := info_parts infoInt
  have HI1 := Lib.hid (And.intro hi1 (And.intro hx0 (And.intro hx1 hx2)))
  have HI6 := Lib.hid (And.intro hi6 (And.intro hy0 (And.intro hy1 hy2)))
  obtain ⟨i7, hi7, hz0, hz1, hz2⟩ := info_parts infoRu64
  have HI7 := Lib.hid (And.intro hi7 (And.intro hz0 (And.intro hz1 hz2)))
  clear hv hm hn hl hvi hf hc m0 m2 m4 m6 hcd hi1 hx0 hx1 hx2 hi6 hy0 hy1 hy2 hi7 hz0 hz1 hz2 hI
  go_enter Tryz.func21, Tryz.ntmps21
  go_wp2_with fail
  try rw [hW0]
  try rw [hg0]
  refine hC.mono ?_
  rintro e w1 ⟨rfl, hb1⟩
  have HB1 := Lib.hid (HB0.out.trans (hb1.mono HB0.out.size))
  have HZ1 := Lib.hid (keep_b hb1 HZ0.out)
  have HX1 := Lib.hid (keep_b hb1 HX0.out)
  clear hb1 hC k0 k1 k2 k3 hW0 hg0
  obtain ⟨q0, q1, q2, q3, q4, qf0, qf1, qf2, qf3, qf4⟩ := cells5 HZ1.out
  obtain ⟨k0, k1, k2, k3, _⟩ := lvCells HX1.out
  go_upto_region 6 with fail
  clear k0 k1 k2 k3 q0 q1 q2 q3 q4 qf0 qf1 qf2 qf3 qf4
  let F : Nat → Value := fun o => match o with
    | 0 => .pointer (some ⟨g0, 0, none⟩)
    | 1 => .int .i64 (r : Int)
    | 3 => .pointer (some ⟨g0, 1, none⟩)
    | 4 => .int .i64 (a : Int)
    | _ => undef
  refine wp_region_joint (MkU w1 r a F) hmx (by kernel_rfl) (by kernel_rfl) ?_ ?_ ?_ ?_
  · intro D vs hD
    exact ⟨(Below.refl _ _).drew, fun i hi _ hd => (by rw [hD i (by show i < 9; omega)] at hd; cases hd), fun hd => (by rw [hD 2 (by decide)] at hd; cases hd), fun hd => (by rw [hD 5 (by decide)] at hd; cases hd), fun hd => (by rw [hD 6 (by decide)] at hd; cases hd), fun hd => (by rw [hD 7 (by decide)] at hd; cases hd), fun hd => (by rw [hD 8 (by decide)] at hd; cases hd)⟩
  · intro o o9 ho D vs w2 hJ hDi hd K hK
    have hi9 : o < 9 := (List.getElem?_eq_some_iff.1 ho).1
    generalize hlit : putV vs 0 _ _ = z at hK ⊢
    simp only [List.map_cons, List.map_nil, putV, Act.put, List.setIfInBounds_toArray, List.set_cons_succ, List.set_cons_zero] at hlit
    subst hlit
    rcases (by omega : o = 0 ∨ o = 1 ∨ o = 2 ∨ o = 3 ∨ o = 4 ∨ o = 5 ∨ o = 6 ∨ o = 7 ∨ o = 8) with rfl | rfl | rfl | rfl | rfl | rfl | rfl | rfl | rfl
    · -- 0
      obtain rfl := Option.some.inj ho
      clear ho hd hi9
      go_simp
      exact hK _ (F 0) _ (fun j => j == 0 || D j) (by simp [Act.put]; try rfl) (fun j hj => by simp [hj]) (by simp) (hJ.other (by decide) (fun j hj => by simp [hj]))
    · -- 1
      obtain rfl := Option.some.inj ho
      have v0 : vs 0 = F 0 := hJ.vals 0 (by decide) (by decide) (hd 0 (by kernel_rfl))
      obtain ⟨cc, _⟩ := lvCells (keep_b hJ.bel HX1.out)
      clear ho hd hi9
      dsimp only [F] at v0
      go_simp
      exact hK _ (F 1) _ (fun j => j == 1 || D j) (by simp [Act.put, v0]; try rfl) (fun j hj => by simp [hj]) (by simp) (hJ.other (by decide) (fun j hj => by simp [hj]))
    · -- 2
      obtain rfl := Option.some.inj ho
      have v1 : vs 1 = F 1 := hJ.vals 1 (by decide) (by decide) (hd 1 (by kernel_rfl))
      have hmk := run_makeIn (P := Tryz.prog) 28 2 i6 Tryz.underlying28 HI6.out.1 HI6.out.2.1 HI6.out.2.2.1 HI6.out.2.2.2 r (by omega) w2
      clear ho hd hi9
      dsimp only [F] at v1
      go_simp
      exact hK _ (.slice (some ⟨w2.heap.size, 0, none⟩) r r) _ (fun j => j == 2 || D j) (by simp [Act.put, v1]; try rfl) (fun j hj => by simp [hj]) (by simp) (hJ.fresh (i := 2) (by decide) hDi (fun j hj => by simp [hj]) (fun _ => ⟨rfl, rfl⟩) (fun e => absurd e (by decide)) (fun e => absurd e (by decide)))
    · -- 3
      obtain rfl := Option.some.inj ho
      clear ho hd hi9
      go_simp
      exact hK _ (F 3) _ (fun j => j == 3 || D j) (by simp [Act.put]; try rfl) (fun j hj => by simp [hj]) (by simp) (hJ.other (by decide) (fun j hj => by simp [hj]))
    · -- 4
      obtain rfl := Option.some.inj ho
      have v3 : vs 3 = F 3 := hJ.vals 3 (by decide) (by decide) (hd 3 (by kernel_rfl))
      obtain ⟨_, cc, _⟩ := lvCells (keep_b hJ.bel HX1.out)
      clear ho hd hi9
      dsimp only [F] at v3
      go_simp
      exact hK _ (F 4) _ (fun j => j == 4 || D j) (by simp [Act.put, v3]; try rfl) (fun j hj => by simp [hj]) (by simp) (hJ.other (by decide) (fun j hj => by simp [hj]))
    · -- 5
      obtain rfl := Option.some.inj ho
      have v4 : vs 4 = F 4 := hJ.vals 4 (by decide) (by decide) (hd 4 (by kernel_rfl))
      have hmk := run_makeRu (P := Tryz.prog) 25 28 i7 Tryz.underlying25 HI7.out.1 HI7.out.2.1 HI7.out.2.2.1 HI7.out.2.2.2 a (by omega) w2
      clear ho hd hi9
      dsimp only [F] at v4
      go_simp
      exact hK _ (.slice (some ⟨w2.heap.size, 0, none⟩) a a) _ (fun j => j == 5 || D j) (by simp [Act.put, v4]; try rfl) (fun j hj => by simp [hj]) (by simp) (hJ.fresh (i := 5) (by decide) hDi (fun j hj => by simp [hj]) (fun e => absurd e (by decide)) (fun _ => ⟨rfl, rfl⟩) (fun e => absurd e (by decide)))
    · -- 6
      obtain rfl := Option.some.inj ho
      have h2 := hd 2 (by kernel_rfl)
      have h5 := hd 5 (by kernel_rfl)
      obtain ⟨g2, v2, _, _⟩ := hJ.m2 h2
      obtain ⟨g5, v5, _, _⟩ := hJ.m5 h5
      have hh := hJ.build (D' := fun j => j == 6 || D j) h2 h5 hDi (fun j hj => by simp [hj])
      rw [v2, v5] at hh
      clear ho hd hi9
      go_simp
      exact hK _ (.agg #[.int .i64 0, .slice (some ⟨g2, 0, none⟩) r r, .slice (some ⟨g5, 0, none⟩) a a, .int .i64 0, .int .i64 0]) _ (fun j => j == 6 || D j) (by simp [Act.put, v2, v5]; try rfl) (fun j hj => by simp [hj]) (by simp) hh
    · -- 7
      obtain rfl := Option.some.inj ho
      clear ho hd hi9
      go_simp
      exact hK _ (.pointer (some ⟨w2.heap.size, 0, none⟩)) _ (fun j => j == 7 || D j) (by simp [Act.put]; try rfl) (fun j hj => by simp [hj]) (by simp) (hJ.fresh (i := 7) (by decide) hDi (fun j hj => by simp [hj]) (fun e => absurd e (by decide)) (fun e => absurd e (by decide)) (fun _ => ⟨rfl, rfl⟩))
    · -- 8
      obtain rfl := Option.some.inj ho
      have h6 := hd 6 (by kernel_rfl)
      have h7 := hd 7 (by kernel_rfl)
      obtain ⟨h2, h5, v6⟩ := hJ.v6 h6
      obtain ⟨g2, v2, _, _⟩ := hJ.m2 h2
      obtain ⟨g5, v5, _, _⟩ := hJ.m5 h5
      obtain ⟨g7, v7, _, hg7⟩ := hJ.b7 h7
      rw [v2, v5] at v6
      rw [hDi, if_neg (show ¬(false = true) by decide)] at hg7
      obtain ⟨y0, y1, y2, y3, y4, yf0, yf1, yf2, yf3, yf4⟩ := cells5 hg7
      have hh := hJ.put8 (D' := fun j => j == 8 || D j) h6 h7 hDi v7 undef (fun j hj => by simp [hj]) (by simp)
      unfold put5 at hh
      rw [v2, v5] at hh
      clear ho hd hi9 hg7
      go_simp
      exact hK _ undef _ (fun j => j == 8 || D j) (by simp [Act.put, v2, v5, v6, v7]; try rfl) (fun j hj => by simp [hj]) (by simp) hh
  · intro D vs w2 hJ hall
    obtain ⟨gR, v2, l2, hgR⟩ := hJ.m2 (hall 2 (by decide))
    obtain ⟨gA, v5, l5, hgA⟩ := hJ.m5 (hall 5 (by decide))
    obtain ⟨_, _, v6⟩ := hJ.v6 (hall 6 (by decide))
    obtain ⟨gs, v7, l7, hgs⟩ := hJ.b7 (hall 7 (by decide))
    rw [if_pos (hall 8 (by decide)), v2, v5] at hgs
    rw [v2, v5] at v6
    have v0 : vs 0 = F 0 := hJ.vals 0 (by decide) (by decide) (hall 0 (by decide))
    have v1 : vs 1 = F 1 := hJ.vals 1 (by decide) (by decide) (hall 1 (by decide))
    have v3 : vs 3 = F 3 := hJ.vals 3 (by decide) (by decide) (hall 3 (by decide))
    have v4 : vs 4 = F 4 := hJ.vals 4 (by decide) (by decide) (hall 4 (by decide))
    dsimp only [F] at v0 v1 v3 v4
    have HB2 := Lib.hid (HB1.out.trans (hJ.bel.mono HB1.out.size))
    have HX2 := Lib.hid (keep_b hJ.bel HX1.out)
    have HZ2 := Lib.hid (keep_b hJ.bel HZ1.out)
    have hsz := HB1.out.size
    have HM2 : Hid (MsW w2 w.heap.size gR gA (startM cd (ins.take 0)) (List.replicate a ⟨none, 0, []⟩)) := by
      rw [List.take_zero, start_nil, HCD.out.1, HCD.out.2.1, Int.toNat_natCast, Int.toNat_natCast]
      exact MsW.madeU hgR hgA (by omega) (by omega) (by omega) (by omega)
    have HS2 : Hid (w2.heap[gs]? = some (.cells #[.int .i64 0, .slice (some ⟨gR, 0, none⟩) r r, .slice (some ⟨gA, 0, none⟩) a a, .int .i64 0, .int .i64 0] 54 (0, 0))) := hgs
    have hgz : w1.heap.size ≤ gs := l7
    generalize hlit : putV vs 0 _ _ = z
    simp only [List.map_cons, List.map_nil, putV, Act.put, List.setIfInBounds_toArray, List.set_cons_succ, List.set_cons_zero] at hlit
    rw [v0, v1, v2, v3, v4, v5, v6, v7] at hlit
    subst hlit
    clear hJ hall v0 v1 v2 v3 v4 v5 v6 v7 hgR hgA hgs l2 l5 l7 hsz
    clear F
    have hn : n ≤ 128 := by omega
    have HIL : Hid (ins.length = n) := HII.out.1
    have HAA : Hid (cd.A.toNat = a) := by unfold Hid; rw [HCD.out.2.1]; rfl
    have HRR : Hid (cd.R.toNat = r) := by unfold Hid; rw [HCD.out.1]; rfl
    go_wp2_with fail
    go_loopw [48] (fun x wr => ∃ (k : Nat) (rs : List RowU), k ≤ n ∧ x = .int .i64 k ∧ Hid (MsW wr w.heap.size gR gA (startM cd (ins.take k)) rs) ∧ Hid (Below w.heap.size w wr) ∧ Hid (wr.heap[g0]? = some (Cq.obj ⟨(r : Int), (a : Int), (n : Int), P, n0, c0, l⟩)) ∧ Hid (wr.heap[g0 + 1]? = some stZ) ∧ Hid (wr.heap[gs]? = some (.cells #[.int .i64 0, .slice (some ⟨gR, 0, none⟩) r r, .slice (some ⟨gA, 0, none⟩) a a, .int .i64 0, .int .i64 0] 54 (0, 0)))) (fun x _ => n - (intOf x).toNat)
    case atStart => exact ⟨0, _, Nat.zero_le _, rfl, HM2, HB2, HX2, HZ2, HS2⟩
    case round =>
      obtain ⟨k, rs, hk, rfl, HMW, HBW, HXW, HZW, HSW⟩ := hrel
      by_cases hkn : k < n
      case neg =>
        obtain rfl : n = k := by omega
        have HM3 : Hid (MsW wr w.heap.size gR gA (startM cd ins) rs) := by
          have := HMW.out
          rw [List.take_of_length_le (by have := HIL.out; omega)] at this
          exact this
        have HS3 : Hid (wr.heap[gs]? = some (stO (startM cd ins) gR gA)) := by
          have e1 : (startM cd ins).R.length = r := by show (List.replicate cd.R.toNat (0 : Int)).length = r; rw [List.length_replicate, HRR.out]
          have e2 : (startM cd ins).A.length = a := by
            show (ins ++ List.replicate (cd.A.toNat - ins.length) []).length = a
            rw [List.length_append, List.length_replicate, HAA.out, HIL.out]; omega
          show wr.heap[gs]? = some (.cells #[.int .i64 0, .slice (some ⟨gR, 0, none⟩) (startM cd ins).R.length (startM cd ins).R.length, .slice (some ⟨gA, 0, none⟩) (startM cd ins).A.length (startM cd ins).A.length, .int .i64 0, .int .i64 0] 54 (0, 0))
          rw [e1, e2]
          exact HSW.out
        have HRU2 : Hid (runM cd (f : Int) cells ins = joinM [] (goM cd cells (f - 0) (startM cd ins))) := by rw [joinM_nil]; exact HRU.out
        have HMK : Hid (MsOk cd M (startM cd ins)) := MsOk.start (by rw [HIL.out, HAA.out]; omega) HVV.out HLL.out
        clear hkn hk
        obtain ⟨wo, hwo⟩ : ∃ wo : World, wo = wr := ⟨_, rfl⟩
        rw [← hwo] at HMW HBW HXW HZW HSW HM3 HS3 ⊢
        clear hwo
        go_wp2_with fail
        go_loopw [15] (fun x wx => ∃ (s : Ms) (p : List Nat) (rs : List RowU) (pl : Nat) (Ap : Option Addr) (cp : Nat), x = .slice Ap pl cp ∧ pl ≤ f ∧ Hid (runM cd (f : Int) cells ins = joinM p (goM cd cells (f - pl) s)) ∧ Hid (p.length = pl) ∧ Hid (s.st = pl ∧ s.ce ≤ pl) ∧ Hid (MsOk cd M s) ∧ Hid (Way cd.l (-1) s.at_) ∧ Hid (MsW wx w.heap.size gR gA s rs) ∧ Hid (OwnI wx w.heap.size 3 Ap cp (p.map fun n : Nat => (n : Int))) ∧ Hid (Below w.heap.size w wx) ∧ Hid (wx.heap[g0]? = some (Cq.obj ⟨(r : Int), (a : Int), (n : Int), P, n0, c0, l⟩)) ∧ Hid (wx.heap[g0 + 1]? = some stZ) ∧ Hid (wx.heap[gs]? = some (stO s gR gA))) (fun x _ => f - lenOfV x)
        case atStart => exact ⟨_, [], _, 0, _, _, rfl, Nat.zero_le _, HRU2, rfl, ⟨rfl, Nat.le_refl _⟩, HMK, Way.start, HM3, OwnI.nil_ _ _ _, HBW, HXW, HZW, HS3⟩
        case round =>
          clear HMW HBW HXW HZW HSW HM3 HS3 HRU2 HMK
          obtain ⟨s, p, rs, pl, Ap, cp, rfl, hpl, HRJ, HPL, HST, HMK, HWY, HMW, HOP, HBW, HXW, HZW, HSW⟩ := hrel
          obtain ⟨hst1, hst2⟩ := HST.out
          obtain ⟨y0, y1, y2, y3, y4, yf0, yf1, yf2, yf3, yf4⟩ := cells5 HSW.out
          rw [hst1] at y3
          by_cases hlt : pl < f
          case neg =>
            obtain rfl : pl = f := by omega
            have HZ1 := HZW
            have HB1 := HBW
            have hE : runM cd (pl : Int) cells ins = .error 9 := by rw [HRJ.out, Nat.sub_self]; rfl
            have HE := Lib.hid hE
            obtain ⟨q0, q1, q2, q3, q4, qf0, qf1, qf2, qf3, qf4⟩ := cells5 HZ1.out
            have e1 : decide ((pl : Int) ≤ (pl : Int)) = true := decide_eq_true (Int.le_refl _)
            clear hE hlt
            go_wp2_with fail
            obtain ⟨s0, s1, s2, s3, s4, _⟩ := cells5 (five_cells HZ1.out (.int .i64 0) (.slice none 0 0) (.slice none 0 0) (.int .i64 0) (.int .i64 0))
            exact bodyPost_ret (v := .tuple #[stN, .slice none 0 0, .int .i64 9]) (by simp [results, Tryz.results21, go_sem, s0, s1, s2, s3, s4]) rfl (.inl ⟨9, HE.out, rfl, put5_below HB1.out (by have := HG0.out; omega) _ _ _ _ _⟩)
          have hll : ((f : Int) ≤ (pl : Int)) = False := by simp; omega
          have e1 : decide ((f : Int) ≤ (pl : Int)) = false := decide_eq_false (by omega)
          obtain ⟨hat, _⟩ := small_at HM.out HWY.out
          rw [HCD.out.2.2.2, HLN.out] at hat
          have hat0 : (0 : Int) ≤ (s.at_ : Int) := by omega
          have hat1 : (s.at_ : Int) < (n0 : Int) := by omega
          obtain ⟨b, off, x, hP, hbb, HX, ⟨x0, x1, x2, x3, x4⟩, hxo⟩ := ((HQ.out.on HBW.out).ins).at_ hat
          subst hP
          obtain ⟨k0, k1, k2, k3, _⟩ := lvCells HXW.out
          have HXO := Lib.hid hxo
          have HXG : Hid (cd.l.getD s.at_ zJi = x) := by unfold Hid; rw [HCD.out.2.2.2, List.getD_eq_getElem?_getD, HX.out]; rfl
          obtain ⟨W4, hW4⟩ : ∃ W, wr.alloc x.obj = W := ⟨_, rfl⟩
          obtain ⟨gx, hgx⟩ : ∃ z, wr.heap.size = z := ⟨_, rfl⟩
          have hb4 : Below wr.heap.size wr W4 := by rw [← hW4]; exact lvBelow _ _
          have HY4 : Hid (W4.heap[gx]? = some x.obj) := by rw [← hW4, ← hgx]; exact newJ wr x
          have HM4 := Lib.hid (HMW.out.on hb4)
          have HO4 := Lib.hid (HOP.out.below hb4 (Nat.le_refl _))
          have HX4 := Lib.hid (keep_b hb4 HXW.out)
          have HZ4 := Lib.hid (keep_b hb4 HZW.out)
          have HS4 := Lib.hid (keep_b hb4 HSW.out)
          have HB4 := Lib.hid (HBW.out.trans (hb4.mono HBW.out.size))
          have HWQ := Lib.hid hW4
          clear hbb hxo hb4 hW4
          go_upto_region 16 with fail
          try rw [HWQ.out]
          try rw [hgx]
          clear hst1 hst2 x0 x1 x2 x3 x4 k0 k1 k2 k3 y0 y1 y2 y3 y4 yf0 yf1 yf2 yf3 yf4 hll e1 HWQ hgx
          obtain ⟨y0, y1, y2, y3, y4, yf0, yf1, yf2, yf3, yf4⟩ := cells5 HS4.out
          have HPM : Hid ((p.map fun n : Nat => (n : Int)).length = pl) := by unfold Hid; rw [List.length_map]; exact HPL.out
          have hws : w.heap.size ≤ W4.heap.size := HB4.out.size
          go_upto_region 17 with (at_builtin; refine wpList_appendWhere _ rfl (.tmp 71) (.tmp 74) 36 rfl w.heap.size 3 i1 Tryz.underlying36 HI1.out.1 HI1.out.2.1 HI1.out.2.2.1 HI1.out.2.2.2 Ap (some ⟨W4.heap.size, 0, none⟩) cp 1 1 (W4.heap.size + 1) pl (pl + 1) (p.map fun n : Nat => (n : Int)) [(s.at_ : Int)] rfl rfl (HO4.out.alloc _) HPM.out rfl (src_new W4 ⟨by omega, by omega⟩) (by omega) (by simp; omega) ?_; intro A8 c8 w8 hO8 hG8 _; have HO8 : Hid (OwnI w8 w.heap.size 3 A8 c8 ((p ++ [s.at_]).map fun n : Nat => (n : Int))) := (by rw [map_snoc]; exact hO8); have HM8 := Lib.hid (MsW.beside (HM4.out.on (lvBelow _ _)) (HO4.out.alloc _) HPM.out hG8); have HX8 := Lib.hid (OwnI.boxes (HO4.out.alloc _) HPM.out hG8 (keep_b (lvBelow _ _) HX4.out) (by decide)); have HZ8 := Lib.hid (OwnI.boxes (HO4.out.alloc _) HPM.out hG8 (keep_b (lvBelow _ _) HZ4.out) (by decide)); have HS8 := Lib.hid (OwnI.boxes (HO4.out.alloc _) HPM.out hG8 (keep_b (lvBelow _ _) HS4.out) (by decide)); have HY8 := Lib.hid (OwnI.boxes (HO4.out.alloc _) HPM.out hG8 (keep_b (lvBelow _ _) HY4.out) (by decide)); have HB8 := Lib.hid (below_app (HB4.out.alloc hws _) hG8 (HO4.out.alloc _) HPM.out (by simp; omega)); clear hO8 hG8)
          clear y0 y1 y2 y3 y4 yf0 yf1 yf2 yf3 yf4 hws
          obtain ⟨y0, y1, y2, y3, y4, yf0, yf1, yf2, yf3, yf4⟩ := cells5 HS8.out
          obtain ⟨⟨x0, x1, x2, x3, x4⟩, _⟩ := box_cellsJ HY8.out
          have hmx2 : mayJ cd.R cd.A cd.l.length x = true := by
            have := (may_get HM.out (small_at HM.out HWY.out).1).1
            rw [HXG.out] at this
            exact this
          have hS := refStep_any cd M x cells s rs w.heap.size gR gA w8 HM8.out HB8.out.size ⟨by omega, by have := HST.out.1; omega, by have := HST.out.2; omega⟩ HMK.out (by have := HST.out.2; omega) hmx2 HXO.out.n
          unfold StepP at hS
          have HMX2 := Lib.hid hmx2
          clear hmx2
          go_wp2_with fail
          (with_reducible refine hS.mono ?_)
          have HGS1 : Hid (g0 + 1 < gs) := by have := lt_of_heap HZ1.out; unfold Hid; omega
          rintro e w9 (⟨z, rs', hz, rfl, hM9, hK9⟩ | ⟨v, hv, rfl, hK9⟩)
          case inr =>
            have hv3 : v = 3 ∨ v = 10 := by
              rcases doM_errors hv with ⟨h1, _⟩ | ⟨h1, _⟩
              · exact .inl h1
              · exact .inr h1
            have hv0 : (v != 0) = true := by rcases hv3 with rfl | rfl <;> rfl
            have HE : Hid (runM cd (f : Int) cells ins = .error v) := by
              unfold Hid
              rw [HRJ.out]
              obtain ⟨k, hk⟩ : ∃ k, f - pl = k + 1 := ⟨f - pl - 1, by omega⟩
              rw [hk]
              exact goM_err (by rw [HXG.out]; exact hv)
            obtain ⟨W10, hW10⟩ : ∃ W, w9.alloc (stO s.tick gR gA) = W := ⟨_, rfl⟩
            obtain ⟨g10, hg10⟩ : ∃ z, w9.heap.size = z := ⟨_, rfl⟩
            have hb10 : Below w9.heap.size w9 W10 := by rw [← hW10]; exact lvBelow _ _
            have HB9 := HB8.out.trans hK9.bel
            have HB1 := Lib.hid (HB9.trans (hb10.mono HB9.size))
            have HZ1 := Lib.hid (keep_b hb10 (hK9.blk _ _ _ HZ8.out (by decide) (by decide)))
            have HWQ := Lib.hid hW10
            clear hv3 hv hK9 hb10 hW10 HB9 hS x0 x1 x2 x3 x4 y0 y1 y2 y3 y4 yf0 yf1 yf2 yf3 yf4
            go_upto_region 18 with fail
            try rw [HWQ.out]
            try rw [hg10]
            clear HWQ hg10
            obtain ⟨q0, q1, q2, q3, q4, qf0, qf1, qf2, qf3, qf4⟩ := cells5 HZ1.out
            go_wp2_with fail
            obtain ⟨s0, s1, s2, s3, s4, _⟩ := cells5 (five_cells HZ1.out (.int .i64 0) (.slice none 0 0) (.slice none 0 0) (.int .i64 0) (.int .i64 0))
            exact bodyPost_ret (v := .tuple #[stN, .slice none 0 0, .int .i64 v]) (by simp [results, Tryz.results21, go_sem, s0, s1, s2, s3, s4]) rfl (.inl ⟨v, HE.out, rfl, put5_below HB1.out (by have := HG0.out; omega) _ _ _ _ _⟩)
          obtain ⟨W10, hW10⟩ : ∃ W, w9.alloc (stO z gR gA) = W := ⟨_, rfl⟩
          obtain ⟨g10, hg10⟩ : ∃ z, w9.heap.size = z := ⟨_, rfl⟩
          have hb10 : Below w9.heap.size w9 W10 := by rw [← hW10]; exact lvBelow _ _
          have HB9 := HB8.out.trans hK9.bel
          have HB10 := Lib.hid (HB9.trans (hb10.mono HB9.size))
          have HZ10 := Lib.hid (keep_b hb10 (hK9.blk _ _ _ HZ8.out (by decide) (by decide)))
          have HX10 := Lib.hid (keep_b hb10 (hK9.blk _ _ _ HX8.out (by decide) (by decide)))
          have HS10 := Lib.hid (keep_b hb10 (hK9.blk _ _ _ HS8.out (by decide) (by decide)))
          have HY10 := Lib.hid (keep_b hb10 (hK9.blk _ _ _ HY8.out (by decide) (by decide)))
          have HT10 : Hid (W10.heap[g10]? = some (stO z gR gA)) := by rw [← hW10, ← hg10]; exact heap_alloc_new w9 _
          have HO10 := Lib.hid ((HO8.out.keepU hK9).below hb10 (Nat.le_refl _))
          have HM10 := Lib.hid (hM9.on hb10)
          have HDM := Lib.hid hz
          have HWQ := Lib.hid hW10
          clear hz hK9 hM9 hb10 hW10 HB9 hS x0 x1 x2 x3 x4 y0 y1 y2 y3 y4 yf0 yf1 yf2 yf3 yf4
          go_upto_region 18 with fail
          try rw [HWQ.out]
          try rw [hg10]
          clear HWQ hg10
          obtain ⟨y0, y1, y2, y3, y4, yf0, yf1, yf2, yf3, yf4⟩ := cells5 HS10.out
          obtain ⟨u0, u1, u2, u3, u4, _⟩ := cells5 HT10.out
          obtain ⟨W11, hW11⟩ : ∃ W, put5 W10 gs (.int .i64 (z.at_ : Int)) (.slice (some ⟨gR, 0, none⟩) z.R.length z.R.length) (.slice (some ⟨gA, 0, none⟩) z.A.length z.A.length) (.int .i64 (z.st : Int)) (.int .i64 (z.ce : Int)) = W := ⟨_, rfl⟩
          have HS11 : Hid (W11.heap[gs]? = some (stO z gR gA)) := by rw [← hW11]; exact five_cells HS10.out _ _ _ _ _
          have HM11 : Hid (MsW W11 w.heap.size gR gA z rs') := by rw [← hW11]; exact HM10.out.put5 HS10.out _ _ _ _ _
          have HO11 : Hid (OwnI W11 w.heap.size 3 A8 c8 ((p ++ [s.at_]).map fun n : Nat => (n : Int))) := by rw [← hW11]; exact HO10.out.put5 HS10.out _ _ _ _ _
          have hgsx : gx ≠ gs := fun e => by
            have h1 := HY10.out
            rw [e, HS10.out] at h1
            injection h1 with h1; injection h1 with _ h1
            exact absurd h1 (by decide)
          have HX11 : Hid (W11.heap[g0]? = some (Cq.obj ⟨(r : Int), (a : Int), (n : Int), some ⟨b, off, none⟩, n0, c0, l⟩)) := by rw [← hW11]; unfold Hid; rw [put5_other (by have := HGS1.out; omega)]; exact HX10.out
          have HZ11 : Hid (W11.heap[g0 + 1]? = some stZ) := by rw [← hW11]; unfold Hid; rw [put5_other (by have := HGS1.out; omega)]; exact HZ10.out
          have HY11 : Hid (W11.heap[gx]? = some x.obj) := by rw [← hW11]; unfold Hid; rw [put5_other hgsx]; exact HY10.out
          have HB11 : Hid (Below w.heap.size w W11) := by rw [← hW11]; exact put5_below HB10.out (by have := HGS1.out; have := HG0.out; omega) _ _ _ _ _
          unfold put5 at hW11
          have HWQ := Lib.hid hW11
          clear hW11 hgsx
          go_upto_region 21 with fail
          try rw [HWQ.out]
          clear HWQ y0 y1 y2 y3 y4 yf0 yf1 yf2 yf3 yf4 u0 u1 u2 u3 u4
          obtain ⟨⟨x0, x1, x2, x3, x4⟩, _⟩ := box_cellsJ HY11.out
          have HPL2 : Hid ((p ++ [s.at_]).length = pl + 1) := by unfold Hid; rw [List.length_append, HPL.out]; rfl
          obtain ⟨kf, hkf⟩ : ∃ k, f - pl = k + 1 := ⟨f - pl - 1, by omega⟩
          have HSM : Hid (stepM s (cd.l.getD s.at_ zJi) cells = .ok z) := by rw [HXG.out]; exact HDM.out
          by_cases h0 : x.op = 0
          · have HE : Hid (runM cd (f : Int) cells ins = .ok (z, p ++ [s.at_])) := by
              unfold Hid
              rw [HRJ.out, hkf]
              exact goM_halt HSM.out (by rw [HXG.out]; exact h0)
            have e3 : (x.op == 0) = true := by simpa using h0
            obtain ⟨y0, y1, y2, y3, y4, yf0, yf1, yf2, yf3, yf4⟩ := cells5 HS11.out
            obtain ⟨q0, q1, q2, q3, q4, qf0, qf1, qf2, qf3, qf4⟩ := cells5 HZ11.out
            have HE3 := Lib.hid h0
            clear hkf h0
            go_wp2_with fail
            obtain ⟨s0, s1, s2, s3, s4, _⟩ := cells5 (five_cells HZ11.out (.int .i64 (z.at_ : Int)) (.slice (some ⟨gR, 0, none⟩) z.R.length z.R.length) (.slice (some ⟨gA, 0, none⟩) z.A.length z.A.length) (.int .i64 (z.st : Int)) (.int .i64 (z.ce : Int)))
            exact bodyPost_ret (v := .tuple #[stV z gR gA, .slice A8 (pl + 1) c8, .int .i64 0]) (by simp [results, Tryz.results21, go_sem, s0, s1, s2, s3, s4]) rfl (.inr ⟨z, p ++ [s.at_], gR, gA, rs', A8, c8, HE.out, (by rw [HPL2.out]), HM11.out.put5 HZ11.out _ _ _ _ _, HO11.out.put5 HZ11.out _ _ _ _ _, put5_below HB11.out (by have := HG0.out; omega) _ _ _ _ _⟩)
          · have e3 : (x.op == 0) = false := by simpa using h0
            obtain ⟨hk1, _, _, _, hk2, _⟩ := doM_keeps HDM.out
            have hk1 : z.st = s.st + 1 := hk1
            have hk2 : z.ce ≤ s.ce + 1 := by
              rw [hk2]
              show s.ce + _ ≤ s.ce + 1
              split <;> omega
            have HRJ2 : Hid (runM cd (f : Int) cells ins = joinM (p ++ [s.at_]) (goM cd cells (f - (pl + 1)) z)) := by
              unfold Hid
              rw [HRJ.out, hkf, goM_next HSM.out (by rw [HXG.out]; exact h0), show f - (pl + 1) = kf by omega]
            have HST2 : Hid (z.st = pl + 1 ∧ z.ce ≤ pl + 1) := by obtain ⟨h1, h2⟩ := HST.out; exact ⟨by omega, by omega⟩
            have HMK2 : Hid (MsOk cd M z) := HMK.out.tick.do_ HXO.out (by show M + s.ce ≤ 1000000; have := HST.out.2; omega) HDM.out
            have HWY2 : Hid (Way cd.l (-1) z.at_) := Way.on HM.out HWY.out (may_get HM.out (small_at HM.out HWY.out).1).2 (by rw [HXG.out]; exact stepM_next HMX2.out (by omega) HDM.out h0)
            clear hkf h0 hk1 hk2
            go_wp2_with fail
            go_roundw
            case rel => exact ⟨z, p ++ [s.at_], rs', pl + 1, A8, c8, rfl, by omega, HRJ2, HPL2, HST2, HMK2, HWY2, HM11, HO11, HB11, HX11, HZ11, HS11⟩
            case measure => simp [lenOfV]; omega
      have hkk : (k : Int) < (n : Int) := by omega
      have hk0 : (0 : Int) ≤ (k : Int) := by omega
      have hka : (k : Int) < (a : Int) := by omega
      obtain ⟨b, off, L, al, cl, rfl, hb, HLK, hc, _, hIL⟩ := (HII.out.below HBW.out).at_ hkn
      obtain ⟨m, hmL⟩ : ∃ m, L.length = m := ⟨_, rfl⟩
      rw [hmL] at hc hIL
      have HML := Lib.hid hmL
      have HIN := Lib.hid hIL
      have hmM : m ≤ M := by rw [← hmL]; exact HLL.out L (List.mem_of_getElem? HLK.out)
      have hlen : rs.length = a := by
        rw [HMW.out.len]
        show (ins.take k ++ List.replicate (cd.A.toNat - (ins.take k).length) []).length = a
        rw [List.length_append, List.length_replicate, List.length_take, HAA.out, HIL.out]
        omega
      obtain ⟨rk, hrk⟩ : ∃ rk, rs[k]? = some rk := ⟨_, List.getElem?_eq_getElem (by omega)⟩
      have HRK := Lib.hid hrk
      clear hmL hIL hrk hb
      go_upto_region 10 with fail
      clear hc
      let F : Nat → Value := fun o => match o with
        | 0 => .pointer (some ⟨gs, 2, none⟩)
        | 1 => .slice (some ⟨gA, 0, none⟩) a a
        | 2 => .int .i64 (k : Int)
        | 3 => .slice al m cl
        | 5 => .pointer (some ⟨gA, k, none⟩)
        | _ => undef
      refine wp_region_joint (CpU wr w.heap.size gR gA k m (startM cd (ins.take k)) rs L F) hmx (by kernel_rfl) (by kernel_rfl) ?_ ?_ ?_ ?_
      · intro D vs hD
        exact ⟨fun _ => ⟨rfl, rfl, rfl, Nat.le_refl _, fun _ _ _ => rfl⟩, fun i hi _ hd => (by rw [hD i (by show i < 7; omega)] at hd; cases hd), fun hd => (by rw [hD 4 (by decide)] at hd; cases hd), fun hd => (by rw [hD 6 (by decide)] at hd; cases hd), fun hd => (by rw [hD 6 (by decide)] at hd; cases hd)⟩
      · intro o o9 ho D vs w2 hJ hDi hd K hK
        have hi9 : o < 7 := (List.getElem?_eq_some_iff.1 ho).1
        generalize hlit : putV vs 0 _ _ = z at hK ⊢
        simp only [List.map_cons, List.map_nil, putV, Act.put, List.setIfInBounds_toArray, List.set_cons_succ, List.set_cons_zero] at hlit
        subst hlit
        rcases (by omega : o = 0 ∨ o = 1 ∨ o = 2 ∨ o = 3 ∨ o = 4 ∨ o = 5 ∨ o = 6) with rfl | rfl | rfl | rfl | rfl | rfl | rfl
        · -- 0
          obtain rfl := Option.some.inj ho
          clear ho hd hi9
          go_simp
          exact hK _ (F 0) _ (fun j => j == 0 || D j) (by simp [Act.put]; try rfl) (fun j hj => by simp [hj]) (by simp) (hJ.other (by decide) hDi (fun j hj => by simp [hj]))
        · -- 1
          obtain rfl := Option.some.inj ho
          have v0 : vs 0 = F 0 := hJ.vals 0 (by decide) (by decide) (hd 0 (by kernel_rfl))
          obtain ⟨_, _, y2, _⟩ := cells5 (keep_b (hJ.bel (hJ.not6 (by decide) hDi)) HSW.out)
          clear ho hd hi9
          dsimp only [F] at v0
          go_simp
          exact hK _ (F 1) _ (fun j => j == 1 || D j) (by simp [Act.put, v0]; try rfl) (fun j hj => by simp [hj]) (by simp) (hJ.other (by decide) hDi (fun j hj => by simp [hj]))
        · -- 2
          obtain rfl := Option.some.inj ho
          clear ho hd hi9
          go_simp
          exact hK _ (F 2) _ (fun j => j == 2 || D j) (by simp [Act.put]; try rfl) (fun j hj => by simp [hj]) (by simp) (hJ.other (by decide) hDi (fun j hj => by simp [hj]))
        · -- 3
          obtain rfl := Option.some.inj ho
          clear ho hd hi9
          go_simp
          exact hK _ (F 3) _ (fun j => j == 3 || D j) (by simp [Act.put]; try rfl) (fun j hj => by simp [hj]) (by simp) (hJ.other (by decide) hDi (fun j hj => by simp [hj]))
        · -- 4
          obtain rfl := Option.some.inj ho
          have v3 : vs 3 = F 3 := hJ.vals 3 (by decide) (by decide) (hd 3 (by kernel_rfl))
          have h6 := hJ.not6 (by decide) hDi
          have hbs := (hJ.bel h6).size
          have hin : Ints w2 w.heap.size al m L := HIN.out.keep fun p hp => (hJ.bel h6).cell (Nat.lt_of_lt_of_le hp HBW.out.size)
          clear ho hd hi9
          dsimp only [F] at v3
          refine step_appendWhereU rfl (.const (.slice none 0 0)) (.tmp 56) 28 rfl w.heap.size 2 i6 Tryz.underlying28 HI6.out.1 HI6.out.2.1 HI6.out.2.2.1 HI6.out.2.2.2 none al 0 m cl w.heap.size 0 m [] L rfl v3 (OwnI.nil_ _ _ _) rfl (Nat.zero_add _) hin (by omega) (Nat.le_trans HBW.out.size hbs) ?_
          intro A8 c8 w8 hO8 hG8 hA8
          exact hK _ (.slice A8 m c8) w8 (fun q => q == 4 || D q) rfl (fun q hq => by simp [hq]) (by simp) (hJ.app hDi hO8 hG8 (fun b hb => (hA8 b hb).resolve_left (by simp)) (fun q hq => by simp [hq]))
        · -- 5
          obtain rfl := Option.some.inj ho
          have v1 : vs 1 = F 1 := hJ.vals 1 (by decide) (by decide) (hd 1 (by kernel_rfl))
          have v2 : vs 2 = F 2 := hJ.vals 2 (by decide) (by decide) (hd 2 (by kernel_rfl))
          clear ho hd hi9
          dsimp only [F] at v1
          dsimp only [F] at v2
          go_simp
          exact hK _ (F 5) _ (fun j => j == 5 || D j) (by simp [Act.put, v1, v2]; try rfl) (fun j hj => by simp [hj]) (by simp) (hJ.other (by decide) hDi (fun j hj => by simp [hj]))
        · -- 6
          obtain rfl := Option.some.inj ho
          have h4 := hd 4 (by kernel_rfl)
          have h5 := hd 5 (by kernel_rfl)
          have h0 := hd 0 (by kernel_rfl)
          have h1 := hd 1 (by kernel_rfl)
          have h2 := hd 2 (by kernel_rfl)
          have h3 := hd 3 (by kernel_rfl)
          have v5 : vs 5 = F 5 := hJ.vals 5 (by decide) (by decide) h5
          obtain ⟨A8, c8, v4, hcc, hff, hst⟩ := hJ.put hDi ⟨h0, h1, h2, h3, h4, h5⟩ HMW.out HRK.out HML.out
          unfold RowU.hdr at hcc
          clear ho hd hi9
          dsimp only [F] at v5
          go_simp
          exact hK _ undef _ (fun q => q == 6 || D q) (by simp [Act.put, v4, v5]; try rfl) (fun q hq => by simp [hq]) (by simp) (hst _ undef (fun q hq => by simp [hq]) (by simp))
      · intro D vs w5 hJ hall
        obtain ⟨A8, c8, v4, hM5, hK5⟩ := hJ.fin (hall 6 (by decide))
        have v0 : vs 0 = F 0 := hJ.vals 0 (by decide) (by decide) (hall 0 (by decide))
        have v1 : vs 1 = F 1 := hJ.vals 1 (by decide) (by decide) (hall 1 (by decide))
        have v2 : vs 2 = F 2 := hJ.vals 2 (by decide) (by decide) (hall 2 (by decide))
        have v3 : vs 3 = F 3 := hJ.vals 3 (by decide) (by decide) (hall 3 (by decide))
        have v5 : vs 5 = F 5 := hJ.vals 5 (by decide) (by decide) (hall 5 (by decide))
        dsimp only [F] at v0 v1 v2 v3 v5
        have HM5 : Hid (MsW w5 w.heap.size gR gA (startM cd (ins.take (k + 1))) (rs.set k ⟨A8, c8, L⟩)) := by
          rw [← start_next cd HLK.out (by rw [HIL.out, HAA.out]; omega)]
          exact hM5
        have HB5 := Lib.hid (HBW.out.trans hK5.bel)
        have HX5 := Lib.hid (hK5.blk _ _ _ HXW.out (by decide) (by decide))
        have HZ5 := Lib.hid (hK5.blk _ _ _ HZW.out (by decide) (by decide))
        have HS5 := Lib.hid (hK5.blk _ _ _ HSW.out (by decide) (by decide))
        generalize hlit : putV vs 0 _ _ = z
        simp only [List.map_cons, List.map_nil, putV, Act.put, List.setIfInBounds_toArray, List.set_cons_succ, List.set_cons_zero] at hlit
        rw [v0, v1, v2, v3, v4, v5] at hlit
        subst hlit
        clear hJ hall v0 v1 v2 v3 v4 v5 hM5 hK5
        clear F
        go_wp2_with fail
        go_roundw
        case rel => exact ⟨k + 1, _, by omega, by go_num, HM5, HB5, HX5, HZ5, HS5⟩
        case measure => simp [intOf]; omega
      · intro D D' vs w2 hD hJ
        exact hJ.same hD
  · intro D D' vs w2 hD hJ
    exact hJ.same hD
end Go.Proofs.YtgkngimeokhhgaaGreatDoor
/- The document's SameLists. -/
namespace Go.Proofs.YtgkngimeokhhgaaGreatDoor
open Go.RowKit

theorem take_succU {α : Type} {l : List α} {k : Nat} {x : α} (h : l[k]? = some x) : l.take (k + 1) = l.take k ++ [x] := by rw [List.take_add_one, h]; rfl
set_option maxRecDepth 100000 in
set_option maxHeartbeats 2000000 in
theorem sameListsU_any (A A2 : Option Addr) (n n2 c c2 : Nat) (XS YS : List (List Int)) (w : World) (B : Nat) (h : IntsLL w B A n XS) (h2 : IntsLL w B A2 n2 YS) (hn : n ≤ 100000) (hn2 : n2 ≤ 100000) (hx : ∀ L ∈ XS, L.length ≤ 100000) (hy : ∀ L ∈ YS, L.length ≤ 100000) :
    Calls Tryz.prog 15 #[.slice A n c, .slice A2 n2 c2] w fun e w' => e = .returned (.bool (decide (XS = YS))) ∧ ∃ m, w' = w.drewN m := by
  have HL : Hid (XS.length = n) := h.1
  have HL2 : Hid (YS.length = n2) := h2.1
  by_cases hne : n = n2
  · subst hne
    go_enter Tryz.func15, Tryz.ntmps15
    go_wp2
    go_loopw [14] (fun i wr => ∃ (k m : Nat), k ≤ n ∧ i = .int .i64 k ∧ wr = w.drewN m ∧ Hid (XS.take k = YS.take k)) (fun i _ => n - (intOf i).toNat)
    case atStart => exact ⟨0, 0, Nat.zero_le _, rfl, rfl, by unfold Hid; simp⟩
    case round =>
      obtain ⟨k, m, hk, rfl, rfl, HK⟩ := hrel
      by_cases hlt : k < n
      · obtain ⟨b, off, L, a, cL, rfl, _, HX, hc, _, hI⟩ := h.at_ hlt
        obtain ⟨b2, off2, M, a2, cM, rfl, _, HY, hc2, _, hI2⟩ := h2.at_ hlt
        have hlL := hx L (List.mem_of_getElem? HX.out)
        have hlM := hy M (List.mem_of_getElem? HY.out)
        have hk0 : (0 : Int) ≤ k := by omega
        have hk1 : (k : Int) < n := by omega
        obtain ⟨lL, hlLe⟩ : ∃ l, L.length = l := ⟨_, rfl⟩
        obtain ⟨lM, hlMe⟩ : ∃ l, M.length = l := ⟨_, rfl⟩
        rw [hlLe] at hc hI hlL
        rw [hlMe] at hc2 hI2 hlM
        have HLL := Lib.hid hlLe
        have HLM := Lib.hid hlMe
        clear hlLe hlMe
        by_cases hll : lL = lM
        · subst hll
          have e1 : ((lL : Int) == (lL : Int)) = true := by simp
          have e2 : ((lL : Int) != (lL : Int)) = false := by simp
          go_wp2
          go_quiet (fail)
          go_wp2
          go_loopw [33] (fun i wr => ∃ (j m : Nat), j ≤ lL ∧ i = .int .i64 j ∧ wr = w.drewN m ∧ Hid (L.take j = M.take j)) (fun i _ => lL - (intOf i).toNat)
          case atStart => exact ⟨0, _, Nat.zero_le _, rfl, rfl, by unfold Hid; simp⟩
          case round =>
            obtain ⟨j, m2, hj, rfl, rfl, HJ⟩ := hrel
            by_cases hjl : j < lL
            · obtain ⟨b3, off3, x, rfl, _, HX3, hc3, hx1, hx2⟩ := hI.at_ hjl
              obtain ⟨b4, off4, y, rfl, _, HY3, hc4, hy1, hy2⟩ := hI2.at_ hjl
              have hj0 : (0 : Int) ≤ j := by omega
              have hj1 : (j : Int) < lL := by omega
              by_cases hxy : x = y
              · have HN : Hid (L.take (j + 1) = M.take (j + 1)) := by unfold Hid; rw [take_succU HX3.out, take_succU HY3.out, HJ.out, hxy]
                have e1 : (x == y) = true := by simpa using hxy
                have e2 : (x != y) = false := by simpa using hxy
                clear hxy
                go_wp2
                go_quiet (fail)
                go_wp2
                go_roundw
                case rel => exact ⟨j + 1, _, by omega, by go_num, rfl, HN⟩
                case measure => simp [intOf]; omega
              · have HF : Hid (decide (XS = YS) = false) := by
                  unfold Hid; rw [decide_eq_false]; intro e; subst e
                  have e3 := HX.out; rw [HY.out] at e3; injection e3 with e3; subst e3
                  have := HX3.out; rw [HY3.out] at this; exact hxy (by injection this with this; exact this.symm)
                have e1 : (x == y) = false := by simpa using hxy
                have e2 : (x != y) = true := by simpa using hxy
                clear hxy
                go_wp2
                go_quiet (fail)
                go_wp2
                go_ret
                exact ⟨by rw [HF.out]; rfl, _, World.drewN_drewN _ _ _⟩
            · have HN : Hid (XS.take (k + 1) = YS.take (k + 1)) := by
                unfold Hid; rw [take_succU HX.out, take_succU HY.out, HK.out]
                have := HJ.out
                rw [List.take_of_length_le (by rw [HLL.out]; omega), List.take_of_length_le (by rw [HLM.out]; omega)] at this
                rw [this]
              go_wp2
              go_roundw
              case rel => exact ⟨k + 1, _, by omega, by go_num, rfl, HN⟩
              case measure => simp [intOf]; omega
        · have HF : Hid (decide (XS = YS) = false) := by
            unfold Hid; rw [decide_eq_false]; intro e; subst e
            have e3 := HX.out; rw [HY.out] at e3; injection e3 with e3; subst e3
            exact hll (by rw [← HLL.out, ← HLM.out])
          have e1 : ((lL : Int) == (lM : Int)) = false := by simp; omega
          have e2 : ((lL : Int) != (lM : Int)) = true := by simp; omega
          clear hll
          go_wp2
          go_quiet (fail)
          go_wp2
          go_ret
          exact ⟨by rw [HF.out]; rfl, _, World.drewN_drewN _ _ _⟩
      · have HF : Hid (decide (XS = YS) = true) := by
          unfold Hid; rw [decide_eq_true]; have := HK.out
          rwa [List.take_of_length_le (by rw [HL.out]; omega), List.take_of_length_le (by rw [HL2.out]; omega)] at this
        go_wp2
        go_ret
        exact ⟨by rw [HF.out]; rfl, _, rfl⟩
  · have HF : Hid (decide (XS = YS) = false) := by unfold Hid; rw [decide_eq_false]; intro e; subst e; exact hne (by rw [← HL.out, ← HL2.out])
    have hne1 : ((n : Int) == (n2 : Int)) = false := by simp; omega
    have hne2 : ((n : Int) != (n2 : Int)) = true := by simp; omega
    clear hne
    go_enter Tryz.func15, Tryz.ntmps15
    go_wp2
    go_ret
    exact ⟨by rw [HF.out]; rfl, 0, rfl⟩

end Go.Proofs.YtgkngimeokhhgaaGreatDoor
/- What a run comes to, as it is handed on; the document's Same of two of them. -/
namespace Go.Proofs.YtgkngimeokhhgaaGreatDoor
open Go.RowKit

structure Rq where
  A : Option Addr
  n : Nat
  c : Nat
  L : List (List Int)
  st : Int
  ce : Int
@[reducible] def Rq.val (r : Rq) : Value := .agg #[.slice r.A r.n r.c, .int .i64 r.st, .int .i64 r.ce]
@[reducible] def Rq.obj (r : Rq) : Obj := .cells #[.slice r.A r.n r.c, .int .i64 r.st, .int .i64 r.ce] 30
structure Rq.In (r : Rq) (w : World) : Prop where
  out : IntsLL w w.heap.size r.A r.n r.L
  few : r.n ≤ 100000
  all : ∀ l ∈ r.L, l.length ≤ 100000
theorem Rq.In.on {r : Rq} {w w' : World} (h : r.In w) (hb : Below w.heap.size w w') : r.In w' := ⟨(h.out.below hb).more hb.size, h.few, h.all⟩
def sameR (a b : Rq) : Bool := decide (a.st = b.st) && (decide (a.ce = b.ce) && decide (a.L = b.L))
theorem cells3U {W : World} {g : Nat} {u v x : Value} {t : TypeId} (h : W.heap[g]? = some (.cells #[u, v, x] t (0, 0))) :
    W.cell? ⟨g, 0, none⟩ = some u ∧ W.cell? ⟨g, 1, none⟩ = some v ∧ W.cell? ⟨g, 2, none⟩ = some x :=
  ⟨by simpa using cell_of_row _ _ 0 _ t (0, 0) h, by simpa using cell_of_row _ _ 1 _ t (0, 0) h, by simpa using cell_of_row _ _ 2 _ t (0, 0) h⟩
set_option maxRecDepth 100000 in
set_option maxHeartbeats 2000000 in
theorem refSame16_any (a b : Rq) (w : World) (ha : a.In w) (hb : b.In w) : Calls Tryz.prog 12 #[a.val, b.val] w fun e w' => e = .returned (.bool (sameR a b)) ∧ Below w.heap.size w w' := by
  obtain ⟨A, n, c, L, st, ce⟩ := a
  obtain ⟨A2, n2, c2, L2, st2, ce2⟩ := b
  obtain ⟨W0, hW0⟩ : ∃ W, (w.alloc (Rq.obj ⟨A, n, c, L, st, ce⟩)).alloc (Rq.obj ⟨A2, n2, c2, L2, st2, ce2⟩) = W := ⟨_, rfl⟩
  have HB0 : Hid (Below w.heap.size w W0) := by rw [← hW0]; exact ((Below.refl w.heap.size w).alloc (Nat.le_refl _) _).alloc (by simp) _
  have hX0 : W0.heap[w.heap.size]? = some (Rq.obj ⟨A, n, c, L, st, ce⟩) := by
    have hb1 : Below (w.alloc (Rq.obj ⟨A, n, c, L, st, ce⟩)).heap.size (w.alloc (Rq.obj ⟨A, n, c, L, st, ce⟩)) W0 := by rw [← hW0]; exact (Below.refl _ _).alloc (Nat.le_refl _) _
    exact keep_b hb1 (heap_alloc_new w _)
  have hY0 : W0.heap[w.heap.size + 1]? = some (Rq.obj ⟨A2, n2, c2, L2, st2, ce2⟩) := by
    have h := heap_alloc_new (w.alloc (Rq.obj ⟨A, n, c, L, st, ce⟩)) (Rq.obj ⟨A2, n2, c2, L2, st2, ce2⟩)
    rw [World.size_alloc, hW0] at h
    exact h
  have HA := Lib.hid (ha.on HB0.out)
  have HC := Lib.hid (hb.on HB0.out)
  obtain ⟨k0, k1, k2⟩ := cells3U hX0
  obtain ⟨m0, m1, m2⟩ := cells3U hY0
  have hmx : Tryz.prog.follows .mixedOrders = true := by kernel_rfl
  clear ha hb hX0 hY0
  by_cases e0 : st = st2
  case neg =>
    have f0 : (st == st2) = false := by simpa using e0
    have HS : Hid (sameR ⟨A, n, c, L, st, ce⟩ ⟨A2, n2, c2, L2, st2, ce2⟩ = false) := by unfold Hid sameR; simp [e0]
    clear e0
    go_enter Tryz.func12, Tryz.ntmps12
    go_wp2_with fail
    try rw [hW0]
    go_ret
    exact ⟨by rw [HS.out]; rfl, HB0.out⟩
  subst e0
  by_cases e1 : ce = ce2
  case neg =>
    have f1 : (ce == ce2) = false := by simpa using e1
    have HS : Hid (sameR ⟨A, n, c, L, st, ce⟩ ⟨A2, n2, c2, L2, st, ce2⟩ = false) := by unfold Hid sameR; simp [e1]
    clear e1
    go_enter Tryz.func12, Tryz.ntmps12
    go_wp2_with fail
    try rw [hW0]
    go_ret
    exact ⟨by rw [HS.out]; rfl, HB0.out⟩
  subst e1
  have HS : Hid (sameR ⟨A, n, c, L, st, ce⟩ ⟨A2, n2, c2, L2, st, ce⟩ = decide (L = L2)) := by unfold Hid sameR; simp
  have f0 : (st == st) = true := by simp
  have f1 : (ce == ce) = true := by simp
  go_enter Tryz.func12, Tryz.ntmps12
  go_wp2_with fail
  try rw [hW0]
  refine (sameListsU_any A A2 n n2 c c2 L L2 W0 W0.heap.size HA.out.out HC.out.out HA.out.few HC.out.few HA.out.all HC.out.all).mono ?_
  rintro e w1 ⟨rfl, m, rfl⟩
  have HB1 : Hid (Below w.heap.size w (W0.drewN m)) := belowD HB0.out m
  clear hW0
  go_wp2_with fail
  go_ret
  exact ⟨by rw [HS.out]; rfl, HB1.out⟩
end Go.Proofs.YtgkngimeokhhgaaGreatDoor
