/- coo.Turn: the modes in another order (its beginning). -/
import Derived.Test.YtpfabbapfmfmmaaG16
import Derived.Deep.DeepCutAuto
import Derived.Deep.RegionHeld3
import Derived.Deep.RegionLaw
import Derived.Test.YtpfabbapfmfmmaaRows
import Derived.Test.YtpfabbapfmfmmaaG1
import Derived.WalkKit
import Derived.ProofKit
import Derived.OpenShut
import Derived.ChangeOld
import Derived.Below
import Derived.Lib.SmallJoins
import Derived.Deep.Slices
import Derived.Deep.Fields
namespace Go.Proofs.Ytpfabbapfmfmmaa
open Go.RowKit

def turnK (os : List Int) (t : KeyT) : KeyT := (turnL os t.1, t.2.1, os.length)
theorem run_makeE (m : Nat) (hm : m ≤ 100000) (w : World) : (Instr.makeSlice 23 (.int .i64 (m : Int)) (.int .i64 (m : Int))).run Try.prog w = .ok (.slice (some ⟨w.heap.size, 0, none⟩) m m) (w.alloc (.cells (cellsE (List.replicate m zeroE)).toArray 37)) := by
  obtain ⟨i0, hi0, hz0, hz1, hz2⟩ := info_parts infoEnt
  have hr := run_make (P := Try.prog) w 23 37 i0 (.agg #[.slice none 0 0, .int .i64 0]) Try.underlying23 hi0 hz0 .i64 .i64 m m (by omega) (by omega) (by rw [hz2]; omega) (by omega)
  have hc : madeCells (Value.agg #[.slice none 0 0, .int .i64 0]).cells (m * 2) = (cellsE (List.replicate m zeroE)).toArray := by
    rw [← zeroCells_ents, Array.toArray_toList]
    rfl
  simp only [Int.toNat_natCast, hz1, hc] at hr
  exact hr
theorem rowE_new (w : World) (m : Nat) : RowE (w.alloc (.cells (cellsE (List.replicate m zeroE)).toArray 37)) w.heap.size (List.replicate m zeroE) [] := by
  unfold RowE
  rw [List.append_nil]
  exact heap_alloc_new _ _
theorem rowE_new2 (w : World) (o : Obj) (m : Nat) : RowE ((w.alloc o).alloc (.cells (cellsE (List.replicate m zeroE)).toArray 37)) (w.heap.size + 1) (List.replicate m zeroE) [] := by
  have := rowE_new (w.alloc o) m
  rwa [World.size_alloc] at this
theorem RowE.alloc_ {w : World} {g : Nat} {M : List Ent} {post : List Value} (h : RowE w g M post) (o : Obj) : RowE (w.alloc o) g M post := (Below.heap_alloc w o g h.lt).trans h
/-- what stands behind the new list -/
structure TurnCut (W0 wx : World) (gb gE g1 n m : Nat) (ys : List Int) : Prop where
  box : wx.heap[gb]? = some (.cells #[.slice (some ⟨g1, 0, none⟩) n n, .slice (some ⟨gE, 0, none⟩) m m] 25 (0, 0))
  new : W0.heap.size ≤ gb
  shp : OwnI wx W0.heap.size 3 (some ⟨g1, 0, none⟩) n ys
  row : RowE wx gE (List.replicate m zeroE) []
  newE : W0.heap.size ≤ gE
  bel : Below W0.heap.size W0 wx
theorem turn_new {W0 wz : World} {gE g1 n m : Nat} {ys : List Int} (h1 : OwnI wz W0.heap.size 3 (some ⟨g1, 0, none⟩) n ys) (h2 : RowE wz gE (List.replicate m zeroE) []) (h3 : W0.heap.size ≤ gE) (hb : Below W0.heap.size W0 wz) :
    TurnCut W0 (wz.alloc (.cells #[.slice (some ⟨g1, 0, none⟩) n n, .slice (some ⟨gE, 0, none⟩) m m] 25)) wz.heap.size gE g1 n m ys :=
  ⟨heap_alloc_new _ _, hb.size, h1.alloc _, h2.alloc_ _, h3, hb.alloc hb.size _⟩
theorem turn_new1 {W0 wz : World} {gE g1 n m q : Nat} {ys : List Int} (hq : wz.heap.size = q) (h1 : OwnI wz W0.heap.size 3 (some ⟨g1, 0, none⟩) n ys) (h2 : RowE wz gE (List.replicate m zeroE) []) (h3 : W0.heap.size ≤ gE) (hb : Below W0.heap.size W0 wz) :
    TurnCut W0 (wz.alloc (.cells #[.slice (some ⟨g1, 0, none⟩) n n, .slice (some ⟨gE, 0, none⟩) m m] 25)) q gE g1 n m ys := by
  subst hq
  exact turn_new h1 h2 h3 hb
theorem turn_two {W0 wz : World} {g1 n m : Nat} {ys : List Int} (h1 : OwnI wz W0.heap.size 3 (some ⟨g1, 0, none⟩) n ys) (hb : Below W0.heap.size W0 wz) :
    TurnCut W0 ((wz.alloc (.cells #[.slice (some ⟨g1, 0, none⟩) n n, .slice (some ⟨wz.heap.size + 1, 0, none⟩) m m] 25)).alloc (.cells (cellsE (List.replicate m zeroE)).toArray 37)) wz.heap.size (wz.heap.size + 1) g1 n m ys :=
  ⟨(Below.heap_alloc _ _ _ (lt_of_heap (heap_alloc_new _ _))).trans (heap_alloc_new _ _), hb.size, (h1.alloc _).alloc _, rowE_new2 wz _ m, Nat.le_succ_of_le hb.size, (hb.alloc hb.size _).alloc (by have := hb.size; simp; omega) _⟩
theorem turn_set {W0 wz : World} {gb gE g1 n m : Nat} {u v : Value} {ys : List Int} (hz : wz.heap[gb]? = some (.cells #[u, v] 25 (0, 0))) (hn : W0.heap.size ≤ gb) (h1 : OwnI wz W0.heap.size 3 (some ⟨g1, 0, none⟩) n ys) (h2 : RowE wz gE (List.replicate m zeroE) []) (h3 : W0.heap.size ≤ gE) (hb : Below W0.heap.size W0 wz) :
    TurnCut W0 ((wz.setCell ⟨gb, 0, none⟩ (.slice (some ⟨g1, 0, none⟩) n n)).setCell ⟨gb, 1, none⟩ (.slice (some ⟨gE, 0, none⟩) m m)) gb gE g1 n m ys := by
  obtain ⟨k1, k2⟩ := set_two wz gb u v (.slice (some ⟨g1, 0, none⟩) n n) (.slice (some ⟨gE, 0, none⟩) m m) _ hz
  have hne : gE ≠ gb := by
    rintro rfl
    unfold RowE at h2
    rw [hz] at h2
    injection h2 with h2
    injection h2 with _ h2
    exact absurd h2 (by decide)
  exact ⟨k1, hn, ⟨h1.1.kept k2 (rows_ne h1.1 hz (by decide)), h1.2⟩, (k2.block gE h2.lt (by intro e; injection e with e; exact hne e)).trans h2, h3, hb.grown k2 hb.size (fun k hk => by injection hk with hk; omega)⟩

set_option maxRecDepth 100000 in
set_option maxHeartbeats 8000000 in
theorem turnV_ok (A B Ao : Option Addr) (n c m e ro co : Nat) (xs os : List Int) (es : List Ent) (w : World) (h : CooV w A n B m xs es) (hE : cooF xs es = 0) (hok : OrdOk n os) (ho : Ints w w.heap.size Ao ro os) (hro : ro ≤ 100000) :
    Calls Try.prog 27 #[.agg #[.slice A n c, .slice B m e], .slice Ao ro co] w fun x w' => ∃ A1 c1 A2 c2 Ts, x = .returned (.tuple #[.agg #[.slice A1 n c1, .slice A2 m c2], .int .i64 0]) ∧ CooV w' A1 n A2 m (turnL (ordL n os) xs) Ts ∧ Hid (Ts.map keyE = (es.map keyE).map (turnK (ordL n os))) ∧ Below w.heap.size w w' := by
  have hn4 : n ≤ 4 := by rw [← h.1.1]; exact (cellsF_ok (cooF_parts hE).1).1
  have hm5 : m ≤ 65536 := by rw [← h.2.1]; exact (cooF_parts hE).2.1
  have hokk := keyOk_of h hE
  have HYN : Hid (∀ y ∈ es, y.n = n) := fun y hy => (hokk (keyE y) (List.mem_map_of_mem hy)).2.1
  have z0 := (Below.refl w.heap.size w).alloc (Nat.le_refl _) (.cells #[.slice A n c, .slice B m e] 25)
  have z1 := z0.alloc z0.size (.cells #[.slice none 0 0, .slice none 0 0] 25)
  have b1 := zf_two w (.cells #[.slice A n c, .slice B m e] 25) (.cells #[.slice none 0 0, .slice none 0 0] 25)
  have b2 := zf_snd w (.cells #[.slice none 0 0, .slice none 0 0] 25) (.cells #[.slice A n c, .slice B m e] 25)
  have HMB := fun W (hb : Below w.heap.size w W) => modesBy_ok A B Ao n c m e ro co xs os es W (h.below hb).1 (by omega) (h.below hb).2 (by omega) hE ((ho.below hb).more hb.size) hro hok
  have HV := Lib.hid h
  have HOK := Lib.hid hok
  have HOL : Hid ((ordL n os).length = n) := ordL_len hok
  have HEL : Hid (es.length = m) := h.2.1
  clear h hE z0 hokk ho hok
  go_enter Try.func27, Try.ntmps27
  go_wp2_with fail
  refine (HMB _ z1).mono ?_
  rintro x w1 ⟨Am, cm, rfl, HO, hAb, hb1⟩
  have hsz0 : w.heap.size + 2 ≤ w1.heap.size := by have := hb1.size; simp at this; omega
  have hb := z1.trans (hb1.mono z1.size)
  have q1 := (hb1.block w.heap.size (by simp; omega)).trans b1
  have q2 := (hb1.block (w.heap.size + 1) (by simp)).trans b2
  obtain ⟨k0, k1, _, _⟩ := pair_cells q1
  have hlt0 := lt_of_heap q1
  clear HMB b1 b2 z1 hb1
  go_upto_region 4 with fail
  go_cut [7] (fun s wx => ∃ gb gE g1, s = .pointer (some ⟨gb, 0, none⟩) ∧ TurnCut w1 wx gb gE g1 n m (turnL (ordL n os) xs))
  case first =>
    have hmk := fun W => run_makeE m (by omega) W
    have hr1 := (Below.refl w1.heap.size w1)
    have HK := fun W (hW : Below w1.heap.size w1 W) => (turned_any A Am n c n cm xs (ordL n os) W ((HV.out.below hb).below hW).1 ((HO.below hW).more hW.size) (by omega) (fun q hq => ordL_mem HOK.out hq)).mono (R' := fun e w' => ∃ g1, e = .returned (.slice (some ⟨g1, 0, none⟩) n n) ∧ OwnI w' w1.heap.size 3 (some ⟨g1, 0, none⟩) n (turnL (ordL n os) xs) ∧ Below W.heap.size W w' ∧ Below w1.heap.size w1 w') fun e w' ⟨g, h1, h2, h3⟩ => ⟨g, h1, h2.mono hW.size, h3, hW.trans (h3.mono hW.size)⟩
    have q0 := fun (W : World) (o : Obj) => (newPair W (.slice none 0 0) (.slice none 0 0) 25 o).1
    have q1 := fun (W : World) (o : Obj) => (newPair W (.slice none 0 0) (.slice none 0 0) 25 o).2.1
    have q2 := fun (W : World) (o : Obj) => (newPair W (.slice none 0 0) (.slice none 0 0) 25 o).2.2.1
    have q3 := fun (W : World) (o : Obj) => (newPair W (.slice none 0 0) (.slice none 0 0) 25 o).2.2.2
    have p0 := fun (W : World) (o : Obj) => (pair_cells (zf_snd W (.cells #[.slice none 0 0, .slice none 0 0] 25) o)).1
    have p1 := fun (W : World) (o : Obj) => (pair_cells (zf_snd W (.cells #[.slice none 0 0, .slice none 0 0] 25) o)).2.1
    have p2 := fun (W : World) (o : Obj) => (pair_cells (zf_snd W (.cells #[.slice none 0 0, .slice none 0 0] 25) o)).2.2.1
    have p3 := fun (W : World) (o : Obj) => (pair_cells (zf_snd W (.cells #[.slice none 0 0, .slice none 0 0] 25) o)).2.2.2
    have K0 := fun o => cellPast o k0
    have K1 := fun o => cellPast o k1
    have K2 := fun o o2 => cellPast o2 (cellPast o k0)
    have K3 := fun o o2 => cellPast o2 (cellPast o k1)
    go_region_law (first | (go_simp; go_at_call 57; refine (HK _ ?b0).mono ?_; (case b0 => first | exact hr1 | exact hr1.drew | exact hr1.alloc (Nat.le_refl _) _ | exact (hr1.alloc (Nat.le_refl _) _).drew | exact (hr1.alloc (Nat.le_refl _) _).alloc (by simp) _ | exact ((hr1.alloc (Nat.le_refl _) _).alloc (by simp) _).drew); rintro x w6 ⟨g1, rfl, HT6, HB, HB0⟩; have yi0 := (HB0.cell (p := ⟨w.heap.size, 0, none⟩) hlt0).trans k0; have yi1 := (HB0.cell (p := ⟨w.heap.size, 1, none⟩) hlt0).trans k1; have Y0 := fun o => cellPast o yi0; have Y1 := fun o => cellPast o yi1; have Y2 := fun o o2 => cellPast o2 (cellPast o yi0); have Y3 := fun o o2 => cellPast o2 (cellPast o yi1); have si := HB0.size; first | (have zi := (HB.block w1.heap.size (by simp)).trans (heap_alloc_new w1 (.cells #[.slice none 0 0, .slice none 0 0] 25)); obtain ⟨t0, t1, t2, t3⟩ := pair_cells zi; have T0 := fun o => cellPast o t0; have T1 := fun o => cellPast o t1; have T2 := fun o => frozenPast o t0 t2; have T3 := fun o => frozenPast o t1 t3) | (have zi := (HB.block w1.heap.size (by simp; omega)).trans (heapPast (.cells (cellsE (List.replicate m zeroE)).toArray 37) (heap_alloc_new w1 (.cells #[.slice none 0 0, .slice none 0 0] 25))); obtain ⟨t0, t1, t2, t3⟩ := pair_cells zi; have T0 := fun o => cellPast o t0; have T1 := fun o => cellPast o t1; have T2 := fun o => frozenPast o t0 t2; have T3 := fun o => frozenPast o t1 t3) | (have zi := (HB.block (w1.heap.size + 1) (by simp)).trans (zf_snd w1 (.cells #[.slice none 0 0, .slice none 0 0] 25) (.cells (cellsE (List.replicate m zeroE)).toArray 37)); obtain ⟨t0, t1, t2, t3⟩ := pair_cells zi; have T0 := fun o => cellPast o t0; have T1 := fun o => cellPast o t1; have T2 := fun o => frozenPast o t0 t2; have T3 := fun o => frozenPast o t1 t3) | skip))
    all_goals go_wp2_with fail
    all_goals go_meet
    all_goals first | exact ⟨_, _, _, rfl, turn_new1 (World.size_alloc w6 _) (HT6.alloc _) (rowE_new w6 m) HB0.size (HB0.alloc HB0.size _)⟩ | exact ⟨_, _, _, rfl, turn_new (HT6.alloc _) (rowE_new w6 m) HB0.size (HB0.alloc HB0.size _)⟩ | exact ⟨_, _, _, rfl, turn_new HT6 ((HB.block w1.heap.size (by simp)).trans (rowE_new w1 m)) (Nat.le_refl _) HB0⟩ | exact ⟨_, _, _, rfl, turn_set (zf_snd w6 _ _) (Nat.le_succ_of_le HB0.size) ((HT6.alloc _).alloc _) ((rowE_new w6 m).alloc_ _) HB0.size ((HB0.alloc HB0.size _).alloc (by simp; omega) _)⟩ | exact ⟨_, _, _, rfl, turn_set (heapPast _ (heap_alloc_new w6 _)) HB0.size ((HT6.alloc _).alloc _) (rowE_new2 w6 _ m) (Nat.le_succ_of_le HB0.size) ((HB0.alloc HB0.size _).alloc (by simp; omega) _)⟩ | exact ⟨_, _, _, rfl, turn_set zi (Nat.le_succ _) HT6 ((HB.block w1.heap.size (by simp; omega)).trans ((rowE_new w1 m).alloc_ _)) (Nat.le_refl _) HB0⟩ | exact ⟨_, _, _, rfl, turn_set zi (Nat.le_refl _) HT6 ((HB.block (w1.heap.size + 1) (by simp)).trans (rowE_new2 w1 _ m)) (Nat.le_succ _) HB0⟩ | exact ⟨_, _, _, rfl, turn_set (heapPast _ zi) (Nat.le_refl _) (HT6.alloc _) (rowE_new w6 m) HB0.size (HB0.alloc HB0.size _)⟩ | exact ⟨_, _, _, rfl, turn_two HT6 HB0⟩
  case rest =>
    obtain ⟨gb, gE, g1, rfl, hcut⟩ := hcut
    have hbw := hb.trans (hcut.bel.mono hb.size)
    have hszc := hcut.bel.size
    have hrv := (hcut.bel.block (w.heap.size + 1) (by omega)).trans q2
    have hqx := (hcut.bel.block w.heap.size (by omega)).trans q1
    have hne : gb ≠ gE := by
      rintro rfl
      have e := hcut.row
      unfold RowE at e
      rw [hcut.box] at e
      injection e with e
      injection e with _ e
      exact absurd e (by decide)
    have hgE := hcut.newE
    have hgEl := hcut.row.lt
    have hgbl := lt_of_heap hcut.box
    have hgb := hcut.new
    have HBOX := Lib.hid hcut.box
    have HROW := Lib.hid hcut.row
    have HSHP := Lib.hid hcut.shp
    have HBEL := Lib.hid hcut.bel
    have HORD := Lib.hid HO
    have HQX := Lib.hid hqx
    have HRV := Lib.hid hrv
    have HBW := Lib.hid hbw
    clear hcut hrv HO hAb q1 q2 k0 k1 hb hbw
    obtain ⟨k0, k1, _, _⟩ := pair_cells hqx
    go_wp2_with fail
    clear k0 k1 hqx
    go_loopw [32] (fun v wr => ∃ (k : Nat) (Ds : List Ent), v = .int .i64 (k : Int) ∧ k ≤ m ∧ Hid (Ds.length = k) ∧ Hid (Ds.map keyE = ((es.take k).map keyE).map (turnK (ordL n os))) ∧ Hid (∀ x ∈ Ds, NewE wr w1.heap.size gE x) ∧ Hid (RowE wr gE (Ds ++ List.replicate (m - k) zeroE) []) ∧ Hid (wc.grownBy wr (some gE))) (fun v _ => m - (intOf v).toNat)
    case atStart => exact ⟨0, [], rfl, Nat.zero_le _, rfl, by unfold Hid; simp, (fun x hx => by cases hx), by unfold Hid; simpa using HROW.out, Lib.hid (grown_same wc gE)⟩
    case round =>
      obtain ⟨k, Ds, rfl, hk, HD, HK, HN, HR, HG⟩ := hrel
      have hszr := HG.out.size
      have hbr : Below w.heap.size w wr := HBW.out.grown HG.out HBW.out.size (fun k hk => by injection hk with hk; omega)
      have hbr1 : Below w1.heap.size w1 wr := HBEL.out.grown HG.out HBEL.out.size (fun k hk => by injection hk with hk; omega)
      have hqx := (HG.out.block w.heap.size (by omega) (by intro e; injection e with e; omega)).trans HQX.out
      have hbx := (HG.out.block gb (by omega) (by intro e; injection e with e; omega)).trans HBOX.out
      by_cases hlt : k < m
      · obtain ⟨b, off, y, hyA, hbb, HY, hc0, hc1, iy, hy1, hy2, hy3, hy4⟩ := (HV.out.below hbr).2.at_ hlt
        have hyn := HYN.out y (List.mem_of_getElem? HY.out)
        obtain rfl := hyA
        have hc2 : wr.cell? ⟨b, off + k * 2, none⟩ = some (.slice y.A y.n y.c) := by rw [Nat.mul_comm k 2]; exact hc0
        have hc3 : wr.cell? ⟨b, off + k * 2 + 1, none⟩ = some (.int .i64 y.v) := by rw [Nat.mul_comm k 2]; exact hc1
        have hkm : (k : Int) < (m : Int) := by omega
        have hk0 : (0 : Int) ≤ (k : Int) := by omega
        have hal := (Below.refl wr.heap.size wr).alloc (Nat.le_refl _) (.cells #[.slice y.A y.n y.c, .int .i64 y.v] 37)
        have hte := heap_alloc_new wr (.cells #[.slice y.A y.n y.c, .int .i64 y.v] 37)
        have HTK := Lib.hid (take_succ_of HY.out)
        have hrp : List.replicate (m - k) zeroE = zeroE :: List.replicate (m - (k + 1)) zeroE := by rw [show m - k = m - (k + 1) + 1 by omega]; rfl
        have hRt := HR.out.below hal
        rw [hrp] at hRt
        have hMk : (Ds ++ zeroE :: List.replicate (m - (k + 1)) zeroE)[k]? = some zeroE := by rw [List.getElem?_append_right (by rw [HD.out]; exact Nat.le_refl _), HD.out, Nat.sub_self]; rfl
        have HNt : Hid (∀ x ∈ Ds, NewE (wr.alloc (.cells #[.slice y.A y.n y.c, .int .i64 y.v] 37)) w1.heap.size gE x) := fun x hx => (HN.out x hx).below hal
        have HGt := Lib.hid (grown_below' HG.out hal)
        have hbxt := (hal.block gb (by omega)).trans hbx
        have iyt := (iy.below (hal.mono (by omega))).more (B' := (wr.alloc (.cells #[.slice y.A y.n y.c, .int .i64 y.v] 37)).heap.size) (by have := hal.size; have := hbr.size; omega)
        have iot := (HORD.out.below (hbr1.trans (hal.mono hbr1.size))).more (B' := (wr.alloc (.cells #[.slice y.A y.n y.c, .int .i64 y.v] 37)).heap.size) (by have := hal.size; omega)
        have hszt := hal.size
        obtain ⟨wt, hwt⟩ : ∃ W, wr.alloc (.cells #[.slice y.A y.n y.c, .int .i64 y.v] 37) = W := ⟨_, rfl⟩
        rw [hwt] at hte hRt HNt HGt hbxt iyt iot hszt
        have HWT := Lib.hid hwt
        have HVB : Hid (-9223372036854775808 ≤ y.v ∧ y.v ≤ 9223372036854775807) := ⟨hy3, hy4⟩
        have hltb := lt_of_heap hbxt
        have hltt := lt_of_heap hte
        have HKC := fun W (hW : Below wt.heap.size wt W) => (turned_any y.A Am y.n y.c n cm y.cs (ordL n os) W ((iyt.below hW).more hW.size) ((iot.below hW).more hW.size) (by omega) (fun q hq => by have := ordL_mem HOK.out hq; omega)).mono (R' := fun e w' => ∃ g2, e = .returned (.slice (some ⟨g2, 0, none⟩) n n) ∧ OwnI w' wt.heap.size 3 (some ⟨g2, 0, none⟩) n (turnL (ordL n os) y.cs) ∧ Below W.heap.size W w' ∧ Below wt.heap.size wt w') fun e w' ⟨g, h1, h2, h3⟩ => ⟨g, h1, h2.mono hW.size, h3, hW.trans (h3.mono hW.size)⟩
        have HMK := Lib.hid hMk
        have HRT := Lib.hid hRt
        have HTL : Hid ((turnL (ordL n os) y.cs).length = n) := by unfold Hid; rw [turnL_len]; exact HOL.out
        have HRP := Lib.hid hrp
        obtain ⟨p0, p1, _, _⟩ := pair_cells hbxt
        obtain ⟨t0, t1, _, _⟩ := pair_cells hte
        clear hwt hal hc0 hc1 iy hbr hbr1 hqx hbx hyn hRt hMk hrp
        go_upto_region 8 with fail
        rw [HWT.out]
        clear hc2 hc3 HWT
        go_region_law (first | (go_simp; go_at_call 57; refine (HKC _ ?b0).mono ?_; (case b0 => first | exact Below.refl _ _ | exact (Below.refl _ _).drew); rintro x w6 ⟨g2, rfl, HO6, HB6, HB60⟩; have yb0 := (HB60.cell (p := ⟨gb, 1, none⟩) hltb).trans p1; have yt0 := (HB60.cell (p := ⟨wr.heap.size, 0, none⟩) hltt).trans t0; have yt1 := (HB60.cell (p := ⟨wr.heap.size, 1, none⟩) hltt).trans t1; obtain ⟨⟨x1, x2⟩, x3, x4⟩ := blk_ent (HRT.out.below HB60) HMK.out))
        all_goals
          have hset := ent_set (HRT.out.below HB60) (j := k) (by rw [List.length_append, HD.out]; simp) ⟨some ⟨g2, 0, none⟩, n, n, turnL (ordL n os) y.cs, y.v⟩
          rw [set_head zeroE _ HD.out] at hset
          have HST : Hid (RowE ((w6.setCell ⟨gE, k * 2, none⟩ (.slice (some ⟨g2, 0, none⟩) n n)).setCell ⟨gE, k * 2 + 1, none⟩ (.int .i64 y.v)) gE (Ds ++ [⟨some ⟨g2, 0, none⟩, n, n, turnL (ordL n os) y.cs, y.v⟩] ++ List.replicate (m - (k + 1)) zeroE) []) := by unfold Hid RowE; exact hset
          have hgs := grownBy_setE (grownBy_setE (grown_same w6 gE) (k * 2) (.slice (some ⟨g2, 0, none⟩) n n)) (k * 2 + 1) (.int .i64 y.v)
          have HGS := Lib.hid (grown_trans (grown_below' HGt.out HB60) hgs)
          have HNX : Hid (∀ z ∈ Ds ++ [⟨some ⟨g2, 0, none⟩, n, n, turnL (ordL n os) y.cs, y.v⟩], NewE ((w6.setCell ⟨gE, k * 2, none⟩ (.slice (some ⟨g2, 0, none⟩) n n)).setCell ⟨gE, k * 2 + 1, none⟩ (.int .i64 y.v)) w1.heap.size gE z) := by
            unfold Hid
            intro z hz
            rcases List.mem_append.1 hz with hz | hz
            · exact (HNt.out z hz).grown (grown_trans (grown_below' (grown_same wt gE) HB60) hgs)
            · rw [List.mem_singleton.1 hz]
              have q := (HO6.newE (g := gE) (v := y.v) (by omega) HVB.out).mono (base' := w1.heap.size) (by omega)
              rw [HTL.out] at q
              exact q.grown hgs
          have HKN : Hid ((Ds ++ [⟨some ⟨g2, 0, none⟩, n, n, turnL (ordL n os) y.cs, y.v⟩] : List Ent).map keyE = ((es.take (k + 1)).map keyE).map (turnK (ordL n os))) := by
            unfold Hid
            rw [HTK.out, List.map_append, List.map_append, List.map_append, HK.out]
            show _ ++ [(turnL (ordL n os) y.cs, y.v, n)] = _ ++ [(turnL (ordL n os) y.cs, y.v, (ordL n os).length)]
            rw [HOL.out]
          obtain ⟨w7, hw7⟩ : ∃ w7, (w6.setCell ⟨gE, k * 2, none⟩ (.slice (some ⟨g2, 0, none⟩) n n)).setCell ⟨gE, k * 2 + 1, none⟩ (.int .i64 y.v) = w7 := ⟨_, rfl⟩
          rw [hw7] at HST HGS HNX ⊢
          clear hset hgs hw7
          go_wp2_with fail
          go_roundw
          case rel => exact ⟨k + 1, Ds ++ [⟨some ⟨g2, 0, none⟩, n, n, turnL (ordL n os) y.cs, y.v⟩], by go_num, by omega, by unfold Hid; rw [List.length_append, HD.out]; rfl, HKN, HNX, HST, HGS⟩
          case measure => simp [intOf]; omega
      · have hkm2 : k = m := by omega
        have HKF : Hid (Ds.map keyE = (es.map keyE).map (turnK (ordL n os))) := by unfold Hid; rw [HK.out, List.take_of_length_le (by rw [HEL.out]; omega)]
        have HRF : Hid (RowE wr gE Ds []) := by
          have q := HR.out
          rw [show m - k = 0 by omega, List.replicate_zero, List.append_nil] at q
          exact q
        have HLM : Hid (Ds.length = m) := by unfold Hid; rw [HD.out, hkm2]
        have HXN : Hid (∀ x ∈ Ds, x.n = n) := fun x hx => by
          have : keyE x ∈ (es.map keyE).map (turnK (ordL n os)) := by rw [← HKF.out]; exact List.mem_map_of_mem hx
          obtain ⟨t, _, e⟩ := List.mem_map.1 this
          have e2 : x.n = (ordL n os).length := (congrArg (fun q => q.2.2) e).symm
          rw [e2, HOL.out]
        have hrv := (HG.out.block (w.heap.size + 1) (by omega) (by intro e; injection e with e; omega)).trans HRV.out
        have hsh : OwnI wr w1.heap.size 3 (some ⟨g1, 0, none⟩) n (turnL (ordL n os) xs) := ⟨HSHP.out.1.kept HG.out (rows_ne HSHP.out.1 HROW.out (by decide)), HSHP.out.2⟩
        have HSH := Lib.hid hsh
        obtain ⟨v0, v1, vf0, vf1⟩ := pair_cells hrv
        obtain ⟨p0, p1, _, _⟩ := pair_cells hbx
        have HRV2 := Lib.hid hrv
        have HBR := Lib.hid hbr
        have dz : decide ((k : Int) < (m : Int)) = false := by simp; omega
        have dz2 : decide (k < m) = false := by simp; omega
        clear hrv hsh hbr hbr1 hqx hbx hkm2 hlt
        go_wp2_with fail
        have hres := set_two wr (w.heap.size + 1) _ _ (.slice (some ⟨g1, 0, none⟩) n n) (.slice (some ⟨gE, 0, none⟩) m m) _ HRV2.out
        obtain ⟨s0, s1, _, _⟩ := pair_cells hres.1
        obtain ⟨wz, hwz⟩ : ∃ wz, (wr.setCell ⟨w.heap.size + 1, 0, none⟩ (.slice (some ⟨g1, 0, none⟩) n n)).setCell ⟨w.heap.size + 1, 1, none⟩ (.slice (some ⟨gE, 0, none⟩) m m) = wz := ⟨_, rfl⟩
        rw [hwz] at hres s0 s1 ⊢
        refine bodyPost_ret (v := .tuple #[.agg #[.slice (some ⟨g1, 0, none⟩) n n, .slice (some ⟨gE, 0, none⟩) m m], .int .i64 0]) (by simp [results, Try.results27, go_sem, s0, s1]) rfl ⟨_, n, _, m, Ds, rfl, ⟨?_, ?_⟩, HKF, HBR.out.grown hres.2 HBR.out.size (fun k hk => by injection hk with hk; omega)⟩
        · have q : OwnI wz w1.heap.size 3 (some ⟨g1, 0, none⟩) n (turnL (ordL n os) xs) := ⟨HSH.out.1.kept hres.2 (rows_ne HSH.out.1 HRV2.out (by decide)), HSH.out.2⟩
          have hi := q.ints
          rw [turnL_len, HOL.out] at hi
          exact hi
        · have hne2 : NewEs wz w1.heap.size (some ⟨gE, 0, none⟩) m Ds := .inr ⟨gE, [], rfl, hgE, (hres.2.block gE HRF.out.lt (by intro e; injection e with e; omega)).trans HRF.out, fun x hx => (HN.out x hx).far hres.2 (by omega), Nat.le_of_eq HLM.out⟩
          have := hne2.ents (fun x hx => by have := HXN.out x hx; omega)
          rw [HLM.out] at this
          exact this
end Go.Proofs.Ytpfabbapfmfmmaa
/- How the arguments of the statements read: slices of integers, dense tensors, integers. -/
namespace Go.Proofs.Ytpfabbapfmfmmaa
open Go.ChangeShapes Go.WideShapes Go.ChangeAt Go.RowKit

set_option maxRecDepth 100000 in
theorem own : ownKnob Try.prog.godebug = none := by kernel_rfl
set_option maxRecDepth 100000 in
theorem laidOut : laidOutB Try.prog = true := by kernel_rfl

theorem lt_of_cell {w : World} {a : Addr} {v : Value} (h : w.cell? a = some v) : a.block < w.heap.size := by
  rcases Nat.lt_or_ge a.block w.heap.size with hlt | hge
  · exact hlt
  · have : w.heap[a.block]? = none := Array.getElem?_eq_none hge
    simp [World.cell?, this] at h

theorem wf_bounds {n : Int} (h : (Lit.int .i64 n).wf = true) : -9223372036854775808 ≤ n ∧ n ≤ 9223372036854775807 := by
  simp [Lit.wf, IntKind.min, IntKind.max, IntKind.signed, IntKind.bits] at h
  omega

theorem ints_of_row {w : World} {x : Addr} {len : Nat} {zs : List Int} (hz : len ≤ zs.length) (hcell : ∀ i, i < zs.length → w.cell? (x.add i) = some (.int .i64 (zs.getD i 0))) (hwz : ∀ n ∈ zs, (Lit.int .i64 n).wf = true) :
    Ints w w.heap.size (some x) len (zs.take len) := by
  refine ⟨by rw [List.length_take]; omega, fun n hn => wf_bounds (hwz n (List.mem_of_mem_take hn)), fun h0 => ?_⟩
  obtain ⟨b, off, spot⟩ := x
  have hc := hcell 0 (by omega)
  have hspot : spot = none := by simpa [Addr.add] using World.cell?_spot hc
  subst hspot
  have hlt : b < w.heap.size := by have := lt_of_cell hc; simpa [Addr.add] using this
  refine ⟨b, off, rfl, hlt, fun k y hy => ?_⟩
  have hk : k < len := by have := (List.getElem?_eq_some_iff.1 hy).1; rw [List.length_take] at this; omega
  have h1 := hcell k (by omega)
  have h2 : zs.getD k 0 = y := by
    rw [List.getElem?_take, if_pos hk] at hy
    simp [List.getD, hy]
  rw [h2] at h1
  by_cases hk0 : k = 0
  · subst hk0; simpa [Addr.add] using h1
  · simpa [Addr.add, hk0] using h1

section
variable {H : Type} {enc : TypeId × Value → H} {w : World} {base : Nat} {spare : Nat → Bool} {held : Bool}
/-- a []int, or a []int64, that came in -/
theorem open_nums {t e : TypeId} {v : Value} {d : DataW H} {p : List MemPlace} (ht : Try.prog.underlying t = some (.slice e)) (he : Try.prog.underlying e = some (.int .i64)) (hC : Try.prog.cellsOf e = 1) (hf : ∃ a n c, v = .slice a n c) (h : DataW.Trod enc Try.prog w base spare held t v d p) :
    ∃ A n c xs, v = .slice A n c ∧ Ints w w.heap.size A n xs ∧ n ≤ 9223372036854775807 := by
  obtain ⟨a0, len0, cap0, rfl⟩ := hf
  obtain ⟨fuel, hf⟩ := h
  rcases open_ints ht he hC hf with ⟨hcs, _⟩ | ⟨x, l, c, zs, hcs, _, hl, hm, hz, _, hcell, hwz⟩
  · simp [Value.cells] at hcs
    obtain ⟨rfl, rfl, rfl⟩ := hcs
    exact ⟨none, 0, 0, [], rfl, Ints.nil_, by omega⟩
  · simp [Value.cells] at hcs
    obtain ⟨rfl, rfl, rfl⟩ := hcs
    have hz' : len0 ≤ zs.length := by split at hz <;> omega
    refine ⟨_, _, _, _, rfl, ints_of_row hz' hcell hwz, ?_⟩
    unfold maxLen at hm
    omega
set_option maxRecDepth 100000 in
/-- an api.Dense that came in -/
theorem open_dense {r : Reach} {b0 : Nat} {v : Value} {d : DataW H} {p : List MemPlace} (hv : Value.okWide Try.prog w r b0 41 v) (h : DataW.Trod enc Try.prog w base spare held 41 v d p) :
    ∃ A n c B m e xs ys, v = .agg #[.slice A n c, .slice B m e] ∧ Ints w w.heap.size A n xs ∧ n ≤ 9223372036854775807 ∧ Ints w w.heap.size B m ys ∧ m ≤ 9223372036854775807 := by
  obtain ⟨v0, v1, y0, y1, k, rfl, _, _, h0, h1⟩ := Go.Joins.open_agg2 Try.underlying41 (by kernel_rfl) (by kernel_rfl) hv h
  obtain ⟨a0, l0, c0, e0⟩ := Go.Joins.slice_form Try.underlying22 h0
  obtain ⟨a1, l1, c1, e1⟩ := Go.Joins.slice_form Try.underlying39 h1
  simp only [List.cons.injEq, and_true] at e0 e1
  have t0 : DataW.Trod enc Try.prog w base spare held 22 v0 y0.1 y0.2 := ⟨k, by rw [e0] at h0 ⊢; exact h0⟩
  have t1 : DataW.Trod enc Try.prog w base spare held 39 v1 y1.1 y1.2 := ⟨k, by rw [e1] at h1 ⊢; exact h1⟩
  obtain ⟨A, n, c, xs, f0, i0, b0⟩ := open_nums Try.underlying22 Try.underlying3 (by kernel_rfl) ⟨_, _, _, e0⟩ t0
  obtain ⟨B, m, e, ys, f1, i1, b1⟩ := open_nums Try.underlying39 Try.underlying2 (by kernel_rfl) ⟨_, _, _, e1⟩ t1
  exact ⟨A, n, c, B, m, e, xs, ys, by rw [f0, f1], i0, b0, i1, b1⟩
end
end Go.Proofs.Ytpfabbapfmfmmaa
/- How a slice of integers that came in reads, with its room. -/
namespace Go.Proofs.Ytpfabbapfmfmmaa
open Go.ChangeShapes Go.WideShapes Go.ChangeAt Go.RowKit

section
variable {H : Type} {enc : TypeId × Value → H} {w : World} {base : Nat} {spare : Nat → Bool} {held : Bool}
/-- the same, and its room -/
theorem open_numsc {t e : TypeId} {v : Value} {d : DataW H} {p : List MemPlace} (ht : Try.prog.underlying t = some (.slice e)) (he : Try.prog.underlying e = some (.int .i64)) (hC : Try.prog.cellsOf e = 1) (hf : ∃ a n c, v = .slice a n c) (h : DataW.Trod enc Try.prog w base spare held t v d p) :
    ∃ A n c xs, v = .slice A n c ∧ Ints w w.heap.size A n xs ∧ n ≤ 9223372036854775807 ∧ n ≤ c := by
  obtain ⟨a0, len0, cap0, rfl⟩ := hf
  obtain ⟨fuel, hf⟩ := h
  rcases open_ints ht he hC hf with ⟨hcs, _⟩ | ⟨x, l, c, zs, hcs, _, hl, hm, hz, _, hcell, hwz⟩
  · simp [Value.cells] at hcs
    obtain ⟨rfl, rfl, rfl⟩ := hcs
    exact ⟨none, 0, 0, [], rfl, Ints.nil_, by omega, Nat.le_refl _⟩
  · simp [Value.cells] at hcs
    obtain ⟨rfl, rfl, rfl⟩ := hcs
    have hz' : len0 ≤ zs.length := by split at hz <;> omega
    refine ⟨_, _, _, _, rfl, ints_of_row hz' hcell hwz, ?_, hl⟩
    unfold maxLen at hm
    omega
end
end Go.Proofs.Ytpfabbapfmfmmaa
/- How a slice of entries that came in reads. -/
namespace Go.Proofs.Ytpfabbapfmfmmaa
open Go.ChangeShapes Go.WideShapes Go.ChangeAt Go.RowKit Go.Deep

section
variable {H : Type} {enc : TypeId × Value → H} {w : World} {base : Nat} {spare : Nat → Bool} {held : Bool}
set_option maxRecDepth 100000 in
/-- one entry's cells -/
theorem open_entry {f0 f1 : Field} {fuel : Nat} {a : Addr} {cs : List Value} {x : DataW H × List MemPlace} (hs : Try.prog.underlying 37 = some (.struct #[f0, f1])) (hone : oneCellFields Try.prog #[f0, f1] = true) (ht0 : f0.type = 22) (ht1 : f1.type = 2) (hl : cs.length = 2)
    (hc : ∀ i, i < 2 → w.cell? (a.add i) = cs[i]?) (h : DataW.trod enc Try.prog w base spare held fuel 37 cs = some x) :
    ∃ y : Ent, w.cell? (a.add 0) = some (.slice y.A y.n y.c) ∧ w.cell? (a.add 1) = some (.int .i64 y.v) ∧ Ints w w.heap.size y.A y.n y.cs ∧ y.n ≤ 9223372036854775807 ∧ y.n ≤ y.c ∧ -9223372036854775808 ≤ y.v ∧ y.v ≤ 9223372036854775807 := by
  obtain ⟨ys, k, _, _, _, hyl, hf⟩ := DataW.trod_struct hs h
  match cs, hl with
  | [v0, v1], _ =>
    match ys, hyl with
    | [y0, y1], _ =>
      obtain ⟨o0, k0⟩ := hone_of hone 0 f0 rfl
      obtain ⟨o1, k1⟩ := hone_of hone 1 f1 rfl
      have h0 := hf 0 f0 rfl
      have h1 := hf 1 f1 rfl
      rw [o0, k0, ht0] at h0
      rw [o1, k1, ht1] at h1
      simp only [List.drop_zero, List.take_succ_cons, List.take_zero, List.drop_succ_cons, List.getElem?_cons_zero, List.getElem?_cons_succ] at h0 h1
      obtain ⟨a0, l0, c0, e0⟩ := Go.Joins.slice_form Try.underlying22 h0
      simp only [List.cons.injEq, and_true] at e0
      subst e0
      have t0 : DataW.Trod enc Try.prog w base spare held 22 (.slice a0 l0 c0) y0.1 y0.2 := ⟨k, h0⟩
      obtain ⟨A, n, c, zs, f0', i0, b0, g0⟩ := open_numsc Try.underlying22 Try.underlying3 (by kernel_rfl) ⟨_, _, _, rfl⟩ t0
      obtain ⟨v, e1, _, hw⟩ := DataW.trod_int Try.underlying2 h1
      simp only [List.cons.injEq, and_true] at e1
      subst e1
      have hb := wf_bounds hw
      refine ⟨⟨A, n, c, zs, v⟩, ?_, ?_, i0, b0, g0, hb.1, hb.2⟩
      · have := hc 0 (by omega); rw [this, ← f0']; rfl
      · have := hc 1 (by omega); rw [this]; rfl
theorem add_two (b off i : Nat) : (Addr.add ⟨b, off, none⟩ i : Addr) = ⟨b, off + i, none⟩ := by
  by_cases h : i = 0
  · subst h; simp [Addr.add]
  · simp [Addr.add, h]
set_option maxRecDepth 100000 in
/-- a []api.Entry that came in -/
theorem open_ents {v : Value} {d : DataW H} {p : List MemPlace} (hf : ∃ a n c, v = .slice a n c) (h : DataW.Trod enc Try.prog w base spare held 23 v d p) :
    ∃ A n c es, v = .slice A n c ∧ Ents w w.heap.size A n es ∧ n ≤ 9223372036854775807 ∧ n ≤ c := by
  obtain ⟨a0, len0, cap0, rfl⟩ := hf
  obtain ⟨fuel, hf⟩ := h
  rcases open_slice Try.underlying23 hf with ⟨hcs, _⟩ | ⟨x, l, c, m, k, D, Pl, hcs, _, hl, hm, hmm, _, hi⟩
  · simp [Value.cells] at hcs
    obtain ⟨rfl, rfl, rfl⟩ := hcs
    exact ⟨none, 0, 0, [], rfl, Ents.nil_, by omega, Nat.le_refl _⟩
  · simp [Value.cells] at hcs
    obtain ⟨rfl, rfl, rfl⟩ := hcs
    have hC : Try.prog.cellsOf 37 = 2 := by kernel_rfl
    have key : ∀ i, i < len0 → ∃ y : Ent, w.cell? ((x.add (i * 2)).add 0) = some (.slice y.A y.n y.c) ∧ w.cell? ((x.add (i * 2)).add 1) = some (.int .i64 y.v) ∧ Ints w w.heap.size y.A y.n y.cs ∧ y.n ≤ 9223372036854775807 ∧ y.n ≤ y.c ∧ -9223372036854775808 ≤ y.v ∧ y.v ≤ 9223372036854775807 := by
      intro i hil
      have hml : len0 ≤ m := by rw [hmm]; split <;> omega
      obtain ⟨cs', hc, ht'⟩ := hi i (by omega)
      rw [hC] at hc
      obtain ⟨_, hlen, hat⟩ := World.cells?_some hc
      exact open_entry Try.underlying37 (by kernel_rfl) (by kernel_rfl) (by kernel_rfl) hlen hat ht'
    refine ⟨_, _, _, (List.range len0).map fun i => if hh : i < len0 then Classical.choose (key i hh) else ⟨none, 0, 0, [], 0⟩, rfl, ⟨by simp, ?_, ?_⟩, by unfold maxLen at hm; omega, hl⟩
    · intro y hy
      rw [List.mem_map] at hy
      obtain ⟨i, hir, rfl⟩ := hy
      have hil := List.mem_range.1 hir
      rw [dif_pos hil]
      exact (Classical.choose_spec (key i hil)).2.2
    · intro h0
      obtain ⟨b, off, spot⟩ := x
      have hs := (Classical.choose_spec (key 0 h0)).1
      have hspot : spot = none := by simpa [Addr.add] using World.cell?_spot hs
      subst hspot
      have hlt : b < w.heap.size := by have := lt_of_cell hs; simpa [Addr.add] using this
      refine ⟨b, off, rfl, hlt, fun q y hy => ?_⟩
      rw [List.getElem?_map, Option.map_eq_some_iff] at hy
      obtain ⟨i, hir, hiy⟩ := hy
      have hq : q < len0 := by have := (List.getElem?_eq_some_iff.1 hir).1; simpa using this
      have hqi : i = q := by have := (List.getElem?_eq_some_iff.1 hir).2; simpa using this.symm
      subst hqi
      rw [dif_pos hq] at hiy
      have hk := Classical.choose_spec (key i hq)
      rw [hiy] at hk
      obtain ⟨k0, k1, _⟩ := hk
      rw [add_two, add_two] at k0 k1
      rw [show off + 2 * i = off + i * 2 + 0 by omega]
      exact ⟨k0, k1⟩
set_option maxRecDepth 100000 in
/-- an api.Coo that came in -/
theorem open_coo {r : Reach} {b0 : Nat} {v : Value} {d : DataW H} {p : List MemPlace} (hv : Value.okWide Try.prog w r b0 25 v) (h : DataW.Trod enc Try.prog w base spare held 25 v d p) :
    ∃ A n c B m e xs es, v = .agg #[.slice A n c, .slice B m e] ∧ Ints w w.heap.size A n xs ∧ n ≤ 9223372036854775807 ∧ Ents w w.heap.size B m es ∧ m ≤ 9223372036854775807 ∧ n ≤ c ∧ m ≤ e := by
  obtain ⟨v0, v1, y0, y1, k, rfl, _, _, h0, h1⟩ := Go.Joins.open_agg2 Try.underlying25 (by kernel_rfl) (by kernel_rfl) hv h
  obtain ⟨a0, l0, c0, e0⟩ := Go.Joins.slice_form Try.underlying22 h0
  obtain ⟨a1, l1, c1, e1⟩ := Go.Joins.slice_form Try.underlying23 h1
  simp only [List.cons.injEq, and_true] at e0 e1
  have t0 : DataW.Trod enc Try.prog w base spare held 22 v0 y0.1 y0.2 := ⟨k, by rw [e0] at h0 ⊢; exact h0⟩
  have t1 : DataW.Trod enc Try.prog w base spare held 23 v1 y1.1 y1.2 := ⟨k, by rw [e1] at h1 ⊢; exact h1⟩
  obtain ⟨A, n, c, xs, f0, i0, b0, g0⟩ := open_numsc Try.underlying22 Try.underlying3 (by kernel_rfl) ⟨_, _, _, e0⟩ t0
  obtain ⟨B, m, e, es, f1, i1, b1, g1⟩ := open_ents ⟨_, _, _, e1⟩ t1
  exact ⟨A, n, c, B, m, e, xs, es, by rw [f0, f1], i0, b0, i1, b1, g0, g1⟩
end
end Go.Proofs.Ytpfabbapfmfmmaa
/- How a tensor that came in reads, with the room of its shape and of its cells. -/
namespace Go.Proofs.Ytpfabbapfmfmmaa
open Go.ChangeShapes Go.WideShapes Go.ChangeAt Go.RowKit

section
variable {H : Type} {enc : TypeId × Value → H} {w : World} {base : Nat} {spare : Nat → Bool} {held : Bool}
set_option maxRecDepth 100000 in
theorem open_densee {r : Reach} {b0 : Nat} {v : Value} {d : DataW H} {p : List MemPlace} (hv : Value.okWide Try.prog w r b0 41 v) (h : DataW.Trod enc Try.prog w base spare held 41 v d p) :
    ∃ A n c B m e xs ys, v = .agg #[.slice A n c, .slice B m e] ∧ Ints w w.heap.size A n xs ∧ n ≤ 9223372036854775807 ∧ Ints w w.heap.size B m ys ∧ m ≤ 9223372036854775807 ∧ n ≤ c ∧ m ≤ e := by
  obtain ⟨v0, v1, y0, y1, k, rfl, _, _, h0, h1⟩ := Go.Joins.open_agg2 Try.underlying41 (by kernel_rfl) (by kernel_rfl) hv h
  obtain ⟨a0, l0, c0, e0⟩ := Go.Joins.slice_form Try.underlying22 h0
  obtain ⟨a1, l1, c1, e1⟩ := Go.Joins.slice_form Try.underlying39 h1
  simp only [List.cons.injEq, and_true] at e0 e1
  have t0 : DataW.Trod enc Try.prog w base spare held 22 v0 y0.1 y0.2 := ⟨k, by rw [e0] at h0 ⊢; exact h0⟩
  have t1 : DataW.Trod enc Try.prog w base spare held 39 v1 y1.1 y1.2 := ⟨k, by rw [e1] at h1 ⊢; exact h1⟩
  obtain ⟨A, n, c, xs, f0, i0, b0, g0⟩ := open_numsc Try.underlying22 Try.underlying3 (by kernel_rfl) ⟨_, _, _, e0⟩ t0
  obtain ⟨B, m, e, ys, f1, i1, b1, g1⟩ := open_numsc Try.underlying39 Try.underlying2 (by kernel_rfl) ⟨_, _, _, e1⟩ t1
  exact ⟨A, n, c, B, m, e, xs, ys, by rw [f0, f1], i0, b0, i1, b1, g0, g1⟩
end
end Go.Proofs.Ytpfabbapfmfmmaa
