/- coo.modesBy where an order is named. -/
import Derived.Test.YtpfabbapfmfmmaaG11
namespace Go.Proofs.Ytpfabbapfmfmmaa
open Go.RowKit

theorem below_dN {B : Nat} {w W : World} (h : Below B w W) (m : Nat) : Below B w (W.drewN m) := ⟨h.os, h.tape, h.output, h.size, h.block⟩
/-- the order of the modes that is meant -/
def ordL (n : Nat) (os : List Int) : List Int := if os = [] then iotaL n else os
/-- whether an order is one -/
def OrdOk (n : Nat) (os : List Int) : Prop := os = [] ∨ sortI os = iotaL n
instance (n : Nat) (os : List Int) : Decidable (OrdOk n os) := by unfold OrdOk; infer_instance
theorem ordL_perm {n : Nat} {os : List Int} (h : OrdOk n os) : (ordL n os).Perm (iotaL n) := by
  unfold ordL
  split
  · exact List.Perm.refl _
  · rename_i h0
    rcases h with h | h
    · exact absurd h h0
    · rw [← h]; exact (sortI_perm os).symm
theorem ordL_len {n : Nat} {os : List Int} (h : OrdOk n os) : (ordL n os).length = n := by rw [(ordL_perm h).length_eq, iotaL_len]
theorem ordL_mem {n : Nat} {os : List Int} (h : OrdOk n os) {m : Int} (hm : m ∈ ordL n os) : 0 ≤ m ∧ m < n := by
  have := (ordL_perm h).mem_iff.1 hm
  unfold iotaL at this
  obtain ⟨k, hk, rfl⟩ := List.mem_map.1 this
  have := List.mem_range.1 hk
  omega

set_option maxRecDepth 100000 in
set_option maxHeartbeats 2000000 in
theorem modesBy_ord (A B Ao : Option Addr) (n c m e ro co : Nat) (xs os : List Int) (es : List Ent) (w : World) (h : Ints w w.heap.size A n xs) (hn : n ≤ 100000) (hv : Ents w w.heap.size B m es) (hm : m ≤ 9223372036854775807) (hE : cooF xs es = 0)
   (ho : Ints w w.heap.size Ao ro os) (hro : ro ≤ 100000) (hr0 : 0 < ro) (R : Ending) (HR : Hid ((if sortI os = iotaL n then Ending.returned (.tuple #[.slice Ao ro co, .int .i64 0]) else .returned (.tuple #[.slice none 0 0, .int .i64 1])) = R)) :
    Calls Try.prog 43 #[.agg #[.slice A n c, .slice B m e], .slice Ao ro co] w fun x w' => x = R ∧ Below w.heap.size w w' := by
  have z0 := (Below.refl w.heap.size w).alloc (Nat.le_refl _) (.cells #[.slice A n c, .slice B m e] 25)
  have b1 := heap_alloc_new w (.cells #[.slice A n c, .slice B m e] 25)
  have HC := fun W (hb : Below w.heap.size w W) => cooCheck_any A B n c m e xs es W ((h.below hb).more hb.size) (by omega) ((hv.below hb).more hb.size) hm
  rw [hE] at HC
  obtain ⟨i0, hi0, hz0, hz1, hz2⟩ := info_parts infoInt
  have hmk := fun W => run_makeAll (P := Try.prog) 22 3 i0 Try.underlying22 hi0 hz0 hz1 hz2 n (by omega) W
  have e0 : (((ro : Nat) : Int) == 0) = false := by simp; omega
  have HOL : Hid (os.length = ro) := ho.1
  clear hE h hv
  go_enter Try.func43, Try.ntmps43
  go_wp2_with (go_at_call 23; refine (HC _ z0).mono ?_; rintro x w1 ⟨rfl, hb1⟩; have hb2 := z0.trans (hb1.mono z0.size); obtain ⟨k0, k1, _, _⟩ := pair_cells ((hb1.block w.heap.size (by simp)).trans b1))
  have hs1 : w.heap.size ≤ w1.heap.size := hb2.size
  have hown := own_made w1 3 n w.heap.size hs1 hn
  have HOW := Lib.hid hown
  have hbm := hb2.alloc hb2.size (.cells (madeCells #[.int .i64 0] n) 3)
  have HBM := Lib.hid hbm
  clear hown hbm HC z0 b1 hb1 k0 k1 hmk
  go_loopw [20] (fun v wr => ∃ k : Nat, v = .int .i64 (k : Int) ∧ k ≤ n ∧ Hid (OwnI wr w.heap.size 3 (some ⟨w1.heap.size, 0, none⟩) n ((iotaL n).take k ++ List.replicate (n - k) 0)) ∧ Hid (Below w.heap.size w wr)) (fun v _ => n - (intOf v).toNat)
  case atStart => exact ⟨0, rfl, Nat.zero_le _, by unfold Hid; simpa using HOW.out, HBM⟩
  case round =>
    clear HOW HBM
    obtain ⟨k, rfl, hk, HO, HB⟩ := hrel
    by_cases hlt : k < n
    · have hz : ((iotaL n).take k ++ List.replicate (n - k) 0)[k]? = some (0 : Int) := by
        rw [List.getElem?_append_right (by rw [List.length_take, iotaL_len]; omega), List.length_take, iotaL_len, Nat.min_eq_left (by omega), Nat.sub_self, List.getElem?_replicate_of_lt (by omega)]
      obtain ⟨hcz, hfz⟩ := HO.out.cell_ hz
      have hset := HO.out.set_ k (k : Int) (by omega)
      rw [fill_set (iotaL_len n) (iotaL_at hlt)] at hset
      have HS := Lib.hid hset
      have HB2 := Lib.hid (HB.out.setCell (p := ⟨w1.heap.size, k, none⟩) hs1 (.int .i64 (k : Int)))
      have hkn : (k : Int) < (n : Int) := by omega
      have hk0 : (0 : Int) ≤ (k : Int) := by omega
      clear hz hset
      go_wp2
      go_roundw
      case rel => exact ⟨k + 1, by go_num, by omega, HS, HB2⟩
      case measure => simp [intOf]; omega
    · obtain rfl : k = n := by omega
      have hfull : (iotaL k).take k ++ List.replicate (k - k) 0 = iotaL k := by rw [Nat.sub_self, List.replicate_zero, List.append_nil, List.take_of_length_le (Nat.le_of_eq (iotaL_len k))]
      have HF : Hid (OwnI wr w.heap.size 3 (some ⟨w1.heap.size, 0, none⟩) k (iotaL k)) := by unfold Hid; rw [← hfull]; exact HO.out
      clear hfull HO hb2
      have HV := fun W => values_any Ao ro co W
      have hor := ho.below HB.out
      have hszr := HB.out.size
      have cn := newCell wr (.slice Ao ro co) 22
      have HSO := sorted_any wr.heap.size Ao ro co os hro (wr.alloc (.cells #[.slice Ao ro co] 22)) (by simp) cn.1 ((hor.more hszr).alloc' _)
      have hba : Below w.heap.size w (wr.alloc (.cells #[.slice Ao ro co] 22)) := HB.out.alloc hszr _
      clear cn hor
      go_wp2_with fail
      refine (HV _).mono ?_
      rintro x w2 ⟨rfl, rfl⟩
      go_wp2_with fail
      refine HSO.mono ?_
      rintro x w3 ⟨A3, c3, rfl, hO3, hb3⟩
      have hbw := hba.trans (hb3.mono hba.size)
      have hp : OwnI w3 w.heap.size 3 (some ⟨w1.heap.size, 0, none⟩) k (iotaL k) := (HF.out.alloc _).below hb3 (Nat.le_refl _)
      have hs3 := hO3.ints
      rw [sortI_len, HOL.out] at hs3
      have hp3 := hp.ints
      rw [iotaL_len] at hp3
      have HEQ := equalInt_any A3 (some ⟨w1.heap.size, 0, none⟩) ro k c3 k (sortI os) (iotaL k) w3 w3.heap.size hs3 hp3 hro (by omega)
      have HBW := Lib.hid hbw
      clear hb3 hp hs3 hp3 hO3 HSO HV hba hbw
      by_cases hq : sortI os = iotaL k
      · rw [decide_eq_true hq] at HEQ
        have HR2 := HR.out.symm
        rw [if_pos hq] at HR2
        have HR3 := Lib.hid HR2
        clear hq HR2
        go_wp2_with fail
        refine HEQ.mono ?_
        rintro x w4 ⟨rfl, q, hw4⟩
        have HB4 : Hid (Below w.heap.size w w4) := by subst hw4; exact below_dN HBW.out q
        clear hw4
        go_wp2_with fail
        go_ret2
        exact ⟨by rw [HR3.out]; rfl, HB4.out⟩
      · rw [decide_eq_false hq] at HEQ
        have HR2 := HR.out.symm
        rw [if_neg hq] at HR2
        have HR3 := Lib.hid HR2
        clear hq HR2
        go_wp2_with fail
        refine HEQ.mono ?_
        rintro x w4 ⟨rfl, q, hw4⟩
        have HB4 : Hid (Below w.heap.size w w4) := by subst hw4; exact below_dN HBW.out q
        clear hw4
        go_wp2_with fail
        go_ret2
        exact ⟨by rw [HR3.out]; rfl, HB4.out⟩

/-- whichever way: the order of the modes that is meant, in a block that was there behind the call -/
theorem modesBy_ok (A B Ao : Option Addr) (n c m e ro co : Nat) (xs os : List Int) (es : List Ent) (w : World) (h : Ints w w.heap.size A n xs) (hn : n ≤ 100000) (hv : Ents w w.heap.size B m es) (hm : m ≤ 9223372036854775807) (hE : cooF xs es = 0)
   (ho : Ints w w.heap.size Ao ro os) (hro : ro ≤ 100000) (hok : OrdOk n os) :
    Calls Try.prog 43 #[.agg #[.slice A n c, .slice B m e], .slice Ao ro co] w fun x w' => ∃ Am cm, x = .returned (.tuple #[.slice Am n cm, .int .i64 0]) ∧ Ints w' w'.heap.size Am n (ordL n os) ∧ (∀ b off, Am = some ⟨b, off, none⟩ → b < w'.heap.size) ∧ Below w.heap.size w w' := by
  rcases Nat.eq_zero_or_pos ro with hr0 | hr0
  · subst hr0
    have h0 : os = [] := List.eq_nil_of_length_eq_zero ho.1
    refine (modesBy_plain A B Ao n c m e co xs es w h hn hv hm hE).mono ?_
    rintro x w' ⟨gv, rfl, hO, hb⟩
    have hi := hO.ints
    rw [iotaL_len] at hi
    exact ⟨_, _, rfl, by unfold ordL; rw [if_pos h0]; exact hi, fun b off e => by injection e with e; injection e with e; subst e; exact (hO.1.lt gv rfl).2, hb⟩
  · have h0 : os ≠ [] := by intro e; have := ho.1; rw [e] at this; simp at this; omega
    have hs : sortI os = iotaL n := by rcases hok with h1 | h1; exact absurd h1 h0; exact h1
    have hrn : ro = n := by have := congrArg List.length hs; rw [sortI_len, iotaL_len, ho.1] at this; exact this
    refine (modesBy_ord A B Ao n c m e ro co xs os es w h hn hv hm hE ho hro hr0 _ rfl).mono ?_
    rintro x w' ⟨rfl, hb⟩
    rw [if_pos hs]
    subst hrn
    refine ⟨Ao, co, rfl, by unfold ordL; rw [if_neg h0]; exact (ho.below hb).more hb.size, fun b off e => ?_, hb⟩
    obtain ⟨b', off', e', hlt, _⟩ := ho.2.2 hr0
    rw [e'] at e
    injection e with e
    injection e with e
    have := hb.size
    omega
theorem modesBy_no (A B Ao : Option Addr) (n c m e ro co : Nat) (xs os : List Int) (es : List Ent) (w : World) (h : Ints w w.heap.size A n xs) (hn : n ≤ 100000) (hv : Ents w w.heap.size B m es) (hm : m ≤ 9223372036854775807) (hE : cooF xs es = 0)
   (ho : Ints w w.heap.size Ao ro os) (hro : ro ≤ 100000) (hok : ¬ OrdOk n os) :
    Calls Try.prog 43 #[.agg #[.slice A n c, .slice B m e], .slice Ao ro co] w fun x w' => x = .returned (.tuple #[.slice none 0 0, .int .i64 1]) ∧ Below w.heap.size w w' := by
  have hr0 : 0 < ro := by
    rcases Nat.eq_zero_or_pos ro with hr0 | hr0
    · subst hr0; exact absurd (.inl (List.eq_nil_of_length_eq_zero ho.1)) hok
    · exact hr0
  refine (modesBy_ord A B Ao n c m e ro co xs os es w h hn hv hm hE ho hro hr0 _ rfl).mono ?_
  rintro x w' ⟨rfl, hb⟩
  exact ⟨by rw [if_neg (fun hs => hok (.inr hs))], hb⟩
end Go.Proofs.Ytpfabbapfmfmmaa
/- coo.Sort by any order, at any number of entries; its errors. -/
namespace Go.Proofs.Ytpfabbapfmfmmaa
open Go.RowKit

set_option maxRecDepth 100000 in
theorem stableE_none (A : Option Addr) (c : Nat) (f : Value) (w : World) :
    Calls Try.prog 71 #[.slice A 0 c, .int .i64 0, f] w fun e w' => e = .returned (.tuple #[]) ∧ w' = w := by
  have HI : ∀ W, Calls Try.prog 87 #[.slice A 0 c, .int .i64 0, .int .i64 0, f] W fun e w' => e = .returned (.tuple #[]) ∧ w' = W := fun W => by
    go_enter Try.func87, Try.ntmps87
    go_wp2
    go_loopw [8] (fun v wr => v = .int .i64 1 ∧ wr = W) (fun _ _ => 0)
    case atStart => exact ⟨rfl, rfl⟩
    case round =>
      obtain ⟨rfl, rfl⟩ := hrel
      go_wp2
      go_end0
      exact ⟨rfl, rfl⟩
  go_enter Try.func71, Try.ntmps71
  go_wp2
  go_loopw [7, 8] (fun v u wr => v = .int .i64 0 ∧ u = .int .i64 20 ∧ wr = w) (fun _ _ _ => 0)
  case atStart => exact ⟨rfl, rfl, rfl⟩
  case round =>
    obtain ⟨rfl, rfl, rfl⟩ := hrel
    go_wp2_with fail
    refine (HI _).mono ?_
    rintro _ w2 ⟨rfl, rfl⟩
    clear HI
    go_wp2
    go_loopw [6] (fun v wx => v = .int .i64 20 ∧ wx = w2) (fun _ _ => 0)
    case atStart => exact ⟨rfl, rfl⟩
    case round =>
      obtain ⟨rfl, rfl⟩ := hrel
      go_wp2
      go_end0
      exact ⟨rfl, rfl⟩
set_option maxRecDepth 100000 in
theorem sortE_none (A : Option Addr) (c : Nat) (f : Value) (w : World) :
    Calls Try.prog 45 #[.slice A 0 c, f] w fun e w' => e = .returned (.tuple #[]) ∧ w' = w := by
  have HI := fun W => stableE_none A c f W
  go_enter Try.func45, Try.ntmps45
  go_wp2_with fail
  refine (HI _).mono ?_
  rintro _ w2 ⟨rfl, rfl⟩
  go_wp2
  go_end0
  exact ⟨rfl, rfl⟩

set_option maxRecDepth 100000 in
set_option maxHeartbeats 4000000 in
theorem cooSort_ok (A B Ao : Option Addr) (n c m e ro co : Nat) (xs os : List Int) (es : List Ent) (w : World) (h : Ints w w.heap.size A n xs) (hv : Ents w w.heap.size B m es) (hE : cooF xs es = 0) (ho : Ints w w.heap.size Ao ro os) (hro : ro ≤ 100000) (hok : OrdOk n os) :
    Calls Try.prog 14 #[.agg #[.slice A n c, .slice B m e], .slice Ao ro co] w fun x w' => ∃ A1 c1 A2 c2 Ds, x = .returned (.tuple #[.agg #[.slice A1 n c1, .slice A2 m c2], .int .i64 0]) ∧ OwnI w' w.heap.size 3 A1 c1 xs ∧ NewEs w' w.heap.size A2 c2 Ds ∧ Ds.map keyE = sortK (ordL n os) (es.map keyE) ∧ Below w.heap.size w w' := by
  have hn4 : n ≤ 4 := by rw [← h.1]; exact (cellsF_ok (cooF_parts hE).1).1
  have hm5 : m ≤ 65536 := by rw [← hv.1]; exact (cooF_parts hE).2.1
  have hyl : ∀ y ∈ es, y.n = n := fun y hy => by rw [← h.1]; exact key_len hE (fun y hy => (hv.2.1 y hy).1.1) y hy
  have z0 := (Below.refl w.heap.size w).alloc (Nat.le_refl _) (.cells #[.slice A n c, .slice B m e] 25)
  have z1 := z0.alloc z0.size (.cells #[.slice none 0 0, .slice none 0 0] 25)
  have b1 := zf_two w (.cells #[.slice A n c, .slice B m e] 25) (.cells #[.slice none 0 0, .slice none 0 0] 25)
  have b2 := zf_snd w (.cells #[.slice none 0 0, .slice none 0 0] 25) (.cells #[.slice A n c, .slice B m e] 25)
  have HMB := fun W (hb : Below w.heap.size w W) => modesBy_ok A B Ao n c m e ro co xs os es W ((h.below hb).more hb.size) (by omega) ((hv.below hb).more hb.size) (by omega) hE ((ho.below hb).more hb.size) hro hok
  have HCL := fun W (hb : Below w.heap.size w W) => cooClone_any A B n c m e xs es W ((h.below hb).more hb.size) (by omega) ((hv.below hb).more hb.size) hm5 (fun y hy => by have := hyl y hy; omega)
  have HYL := Lib.hid hyl
  have HVL : Hid (es.length = m) := hv.1
  have HOK := Lib.hid hok
  clear h hv hE z0 hyl ho hok
  go_enter Try.func14, Try.ntmps14
  go_wp2_with fail
  refine (HMB _ z1).mono ?_
  rintro x w1 ⟨Am, cm, rfl, HO, hAb, hb1⟩
  have hsz0 : w.heap.size + 2 ≤ w1.heap.size := by have := hb1.size; simp at this; omega
  have hb := z1.trans (hb1.mono z1.size)
  have q1 := (hb1.block w.heap.size (by simp; omega)).trans b1
  have q2 := (hb1.block (w.heap.size + 1) (by simp)).trans b2
  have HOO := Lib.hid HO
  have HAB := Lib.hid hAb
  obtain ⟨k0, k1, _, _⟩ := pair_cells q1
  clear HMB b1 b2 z1 hb1 HO hAb
  go_wp2_with fail
  refine (HCL _ hb).mono ?_
  rintro x w2 ⟨A1, c1, A2, c2, Ds, rfl, HA1, HNE, hkey, hb3⟩
  have hbb := hb.trans (hb3.mono hb.size)
  replace q2 := (hb3.block (w.heap.size + 1) (by omega)).trans q2
  have hdl : Ds.length = m := by have := congrArg List.length hkey; rw [List.length_map, List.length_map] at this; rw [this]; exact HVL.out
  have HOW := Lib.hid (HOO.out.below hb3)
  rcases HNE with hnil | ⟨g, post, rfl, hgb, hrow, hnew, hlc⟩
  · obtain rfl : m = 0 := by rw [hnil] at hdl; simpa using hdl.symm
    have hes0 : es = [] := List.eq_nil_of_length_eq_zero HVL.out
    have HFK : Hid (([] : List Ent).map keyE = sortK (ordL n os) (es.map keyE)) := by unfold Hid; rw [hes0]; rfl
    have HA1' := Lib.hid HA1
    have y0 := heap_alloc_new w2 (.cells #[.slice A1 n c1, .slice A2 0 c2] 25)
    obtain ⟨j0, j1, _, _⟩ := pair_cells y0
    have yb := (Below.refl w2.heap.size w2).alloc (Nat.le_refl _) (.cells #[.slice A1 n c1, .slice A2 0 c2] 25)
    have hsz2 := hb3.size
    have r2 := (yb.block (w.heap.size + 1) (by omega)).trans q2
    have hbb3 := hbb.alloc hbb.size (.cells #[.slice A1 n c1, .slice A2 0 c2] 25)
    have hs3 : (w2.alloc (.cells #[.slice A1 n c1, .slice A2 0 c2] 25)).heap.size = w2.heap.size + 1 := World.size_alloc _ _
    obtain ⟨w3, hw3⟩ : ∃ w3, w2.alloc (.cells #[.slice A1 n c1, .slice A2 0 c2] 25) = w3 := ⟨_, rfl⟩
    have HA3 : Hid (OwnI w3 w1.heap.size 3 A1 c1 xs) := by unfold Hid; rw [← hw3]; exact HA1'.out.alloc _
    rw [hw3] at y0 j0 j1 r2 hbb3 hs3
    have H3 := Lib.hid hw3
    have hs3a : w2.heap.size < w3.heap.size := by omega
    have hj := fun o => cellPast o j1
    have HSO := fun W f => sortE_none A2 c2 f W
    clear yb hw3 hb q2 hbb hs3 HCL hb3 k0 k1 q1 hkey HA1 HOO hnil hes0 hdl
    go_upto_region 5 with fail
    rw [H3.out]
    go_region_law (first | (go_simp; go_at_call 46; refine (aheadBy_any _ _ _ _).mono ?_; rintro x w4 ⟨rfl, rfl⟩) | (go_simp; go_at_call 45; refine (HSO _ _).mono ?_; rintro x w5 ⟨rfl, rfl⟩))
    all_goals
      have hbW : Below w3.heap.size w3 (w3.alloc (.cells #[.slice Am n cm] 22)).drew := ((Below.refl _ _).alloc (Nat.le_refl _) _).drew
      obtain ⟨w5, hW5⟩ : ∃ w5, (w3.alloc (.cells #[.slice Am n cm] 22)).drew = w5 := ⟨_, rfl⟩
      rw [hW5] at hbW ⊢
      have y5 := (hbW.block w2.heap.size hs3a).trans y0
      have r5 := (hbW.block (w.heap.size + 1) (by omega)).trans r2
      have HA5 := Lib.hid (HA3.out.below hbW (Nat.le_refl _))
      have HB5 : Hid (Below w.heap.size w w5) := hbb3.trans (hbW.mono hbb3.size)
      obtain ⟨k0, k1, _, _⟩ := pair_cells y5
      obtain ⟨v0, v1, vf0, vf1⟩ := pair_cells r5
      have HR2 := Lib.hid r5
      clear j0 j1 hj HSO hbW hW5 y5 r5 HA3 H3
      go_wp2_with fail
      have hres := set_two w5 (w.heap.size + 1) _ _ (.slice A1 n c1) (.slice A2 0 c2) _ HR2.out
      obtain ⟨s0, s1, _, _⟩ := pair_cells hres.1
      obtain ⟨wz, hwz'⟩ : ∃ wz, (w5.setCell ⟨w.heap.size + 1, 0, none⟩ (.slice A1 n c1)).setCell ⟨w.heap.size + 1, 1, none⟩ (.slice A2 0 c2) = wz := ⟨_, rfl⟩
      rw [hwz'] at hres s0 s1 ⊢
      refine bodyPost_ret (v := .tuple #[.agg #[.slice A1 n c1, .slice A2 0 c2], .int .i64 0]) (by simp [results, Try.results14, go_sem, s0, s1]) rfl ⟨A1, c1, A2, c2, [], rfl, ?_, .inl rfl, HFK.out, ?_⟩
      · exact OwnI.mono (w := wz) (base := w1.heap.size) ⟨HA5.out.1.kept hres.2 (rows_ne HA5.out.1 HR2.out (by decide)), HA5.out.2⟩ (by omega)
      · exact HB5.out.grown hres.2 HB5.out.size (fun k hk => by injection hk with hk; omega)
  have HKEY := Lib.hid hkey
  have HA1' := Lib.hid HA1
  have hgl := hrow.lt
  have y0 := heap_alloc_new w2 (.cells #[.slice A1 n c1, .slice (some ⟨g, 0, none⟩) m c2] 25)
  have yb := (Below.refl w2.heap.size w2).alloc (Nat.le_refl _) (.cells #[.slice A1 n c1, .slice (some ⟨g, 0, none⟩) m c2] 25)
  obtain ⟨j0, j1, _, _⟩ := pair_cells y0
  have hsz21 : w1.heap.size ≤ w2.heap.size := hb3.size
  clear HCL hb3 k0 k1 q1 hkey HA1 HOO
  have r2 := (yb.block (w.heap.size + 1) (by omega)).trans q2
  have hrow3 := hrow.below yb
  have HNEW3 : Hid (∀ x ∈ Ds, NewE (w2.alloc (.cells #[.slice A1 n c1, .slice (some ⟨g, 0, none⟩) m c2] 25)) w1.heap.size g x) := fun x hx => (hnew x hx).below yb
  have HOW3 := Lib.hid (HOW.out.below (yb.mono hsz21))
  have HA3 := Lib.hid (HA1'.out.alloc (.cells #[.slice A1 n c1, .slice (some ⟨g, 0, none⟩) m c2] 25))
  have hbb3 := hbb.alloc hbb.size (.cells #[.slice A1 n c1, .slice (some ⟨g, 0, none⟩) m c2] 25)
  have hs3 : (w2.alloc (.cells #[.slice A1 n c1, .slice (some ⟨g, 0, none⟩) m c2] 25)).heap.size = w2.heap.size + 1 := World.size_alloc _ _
  obtain ⟨w3, hw3⟩ : ∃ w3, w2.alloc (.cells #[.slice A1 n c1, .slice (some ⟨g, 0, none⟩) m c2] 25) = w3 := ⟨_, rfl⟩
  rw [hw3] at y0 j0 j1 r2 hrow3 HNEW3 HOW3 HA3 hbb3 hs3
  have H3 := Lib.hid hw3
  have hs3a : w2.heap.size < w3.heap.size := by omega
  clear hs3
  have HR3 := Lib.hid hrow3
  have hsz2 : w1.heap.size ≤ w2.heap.size := by omega
  have HXN : Hid (∀ x ∈ Ds, x.n = n) := fun x hx => by
    obtain ⟨y, hy, e⟩ := keys_mem HKEY.out hx
    have e2 : x.n = y.n := congrArg (fun q => q.2.2) e
    rw [e2]; exact HYL.out y hy
  have HSO := fun W (hbW : Below w3.heap.size w3 W) (hc : W.cell? ⟨w3.heap.size, 0, none⟩ = some (.slice Am n cm)) =>
    sort_any g m c2 w3.heap.size Ds post Am n cm (ordL n os) W (HR3.out.below hbW) hdl (by omega)
      ⟨fun x hx => ⟨((HNEW3.out x hx).below hbW).1, fun q hq => by
          have := ordL_mem HOK.out hq
          have := HXN.out x hx
          omega, (HNEW3.out x hx).2.2.2⟩, by
        have hi := (HOW3.out.below (hbW.mono (by omega))).more (B' := W.heap.size) (by have := hbW.size; omega)
        exact ⟨hi, fun b off e => by have := HAB.out b off e; omega⟩, hc, by omega, by omega⟩
  have hj := fun o => cellPast o j1
  clear yb hw3 hrow hrow3 hnew hb q2 hbb
  go_upto_region 5 with fail
  rw [H3.out]
  go_region_law (first | (go_simp; go_at_call 46; refine (aheadBy_any _ _ _ _).mono ?_; rintro x w4 ⟨rfl, rfl⟩) | (go_simp; go_at_call 45; refine (HSO _ ?b0 ?b1).mono ?_; (case b0 => first | exact (Below.refl _ _).drew.alloc (Nat.le_refl _) _ | exact ((Below.refl _ _).alloc (Nat.le_refl _) _).drew | exact (Below.refl _ _).alloc (Nat.le_refl _) _); (case b1 => simp); rintro x w5 ⟨rfl, hr5, hg5⟩))
  all_goals
    have hbW : Below w3.heap.size w3 (w3.alloc (.cells #[.slice Am n cm] 22)).drew := ((Below.refl _ _).alloc (Nat.le_refl _) _).drew
    obtain ⟨W4, hW4⟩ : ∃ W4, (w3.alloc (.cells #[.slice Am n cm] 22)).drew = W4 := ⟨_, rfl⟩
    rw [hW4] at hg5 hbW
    have hsW := hbW.size
    have y5 := (hg5.block w2.heap.size (by omega) (by intro e; injection e with e; omega)).trans ((hbW.block w2.heap.size hs3a).trans y0)
    have r5 := (hg5.block (w.heap.size + 1) (by omega) (by intro e; injection e with e; omega)).trans ((hbW.block (w.heap.size + 1) (by omega)).trans r2)
    have HNE5 : Hid (∀ x ∈ sortE (ordL n os) Ds, NewE w5 w1.heap.size g x) := fun x hx => ((HNEW3.out x (sortE_sub hx)).below hbW).grown hg5
    have hA4 := HA3.out.below hbW (Nat.le_refl _)
    have hA5 : OwnI w5 w1.heap.size 3 A1 c1 xs := ⟨hA4.1.kept hg5 (rows_ne hA4.1 (HR3.out.below hbW) (by decide)), hA4.2⟩
    have HA5 := Lib.hid hA5
    have HR5 := Lib.hid hr5
    have HB5 : Hid (Below w.heap.size w w5) := (hbb3.trans (hbW.mono hbb3.size)).grown hg5 (by have := hbb3.size; omega) (fun k hk => by injection hk with hk; omega)
    have hwz := hbb3.size
    obtain ⟨k0, k1, _, _⟩ := pair_cells y5
    obtain ⟨v0, v1, vf0, vf1⟩ := pair_cells r5
    have HR2 := Lib.hid r5
    clear j0 j1 hj HSO hr5 hg5 hbW hW4 hA4 hA5 y5 r5 HNEW3 HOW3 HA3 HR3 H3
    go_wp2_with fail
    have hres := set_two w5 (w.heap.size + 1) _ _ (.slice A1 n c1) (.slice (some ⟨g, 0, none⟩) m c2) _ HR2.out
    obtain ⟨s0, s1, _, _⟩ := pair_cells hres.1
    obtain ⟨wz, hwz'⟩ : ∃ wz, (w5.setCell ⟨w.heap.size + 1, 0, none⟩ (.slice A1 n c1)).setCell ⟨w.heap.size + 1, 1, none⟩ (.slice (some ⟨g, 0, none⟩) m c2) = wz := ⟨_, rfl⟩
    rw [hwz'] at hres s0 s1 ⊢
    refine bodyPost_ret (v := .tuple #[.agg #[.slice A1 n c1, .slice (some ⟨g, 0, none⟩) m c2], .int .i64 0]) (by simp [results, Try.results14, go_sem, s0, s1]) rfl ⟨A1, c1, some ⟨g, 0, none⟩, c2, sortE (ordL n os) Ds, rfl, ?_, ?_, ?_, ?_⟩
    · exact OwnI.mono (w := wz) (base := w1.heap.size) ⟨HA5.out.1.kept hres.2 (rows_ne HA5.out.1 HR2.out (by decide)), HA5.out.2⟩ (by omega)
    · refine .inr ⟨g, post, rfl, by omega, (hres.2.block g HR5.out.lt (by intro e; injection e with e; omega)).trans HR5.out, fun x hx => ((HNE5.out x hx).far hres.2 (by omega)).mono (by omega), by rw [sortE_len]; exact hlc⟩
    · rw [sortE_key, HKEY.out]
    · exact HB5.out.grown hres.2 HB5.out.size (fun k hk => by injection hk with hk; omega)

set_option maxRecDepth 100000 in
theorem cooSort_fail (A B Ao : Option Addr) (n c m e ro co : Nat) (E : Int) (w : World) (h0 : E ≠ 0)
   (HC : ∀ W, Below w.heap.size w W → Calls Try.prog 43 #[.agg #[.slice A n c, .slice B m e], .slice Ao ro co] W fun x w' => x = .returned (.tuple #[.slice none 0 0, .int .i64 E]) ∧ Below W.heap.size W w') :
    Calls Try.prog 14 #[.agg #[.slice A n c, .slice B m e], .slice Ao ro co] w fun x w' => x = .returned (.tuple #[.agg #[.slice none 0 0, .slice none 0 0], .int .i64 E]) ∧ Below w.heap.size w w' := by
  have z0 := (Below.refl w.heap.size w).alloc (Nat.le_refl _) (.cells #[.slice A n c, .slice B m e] 25)
  have z1 := z0.alloc z0.size (.cells #[.slice none 0 0, .slice none 0 0] 25)
  have b2 := zf_snd w (.cells #[.slice none 0 0, .slice none 0 0] 25) (.cells #[.slice A n c, .slice B m e] 25)
  have e1 : (E == 0) = false := by simpa using h0
  have e2 : (E != 0) = true := by simpa using h0
  clear h0
  go_enter Try.func14, Try.ntmps14
  go_wp2_with fail
  refine (HC _ z1).mono ?_
  rintro x w1 ⟨rfl, hb1⟩
  have hb := z1.trans (hb1.mono z1.size)
  have q2 := (hb1.block (w.heap.size + 1) (by simp)).trans b2
  obtain ⟨v0, v1, vf0, vf1⟩ := pair_cells q2
  have Q2 := Lib.hid q2
  clear q2 b2 z0 z1 HC hb1
  go_wp2_with fail
  have hres := set_two w1 (w.heap.size + 1) _ _ (.slice none 0 0) (.slice none 0 0) _ Q2.out
  obtain ⟨s0, s1, _, _⟩ := pair_cells hres.1
  obtain ⟨wz, hwz⟩ : ∃ wz, (w1.setCell ⟨w.heap.size + 1, 0, none⟩ (.slice none 0 0)).setCell ⟨w.heap.size + 1, 1, none⟩ (.slice none 0 0) = wz := ⟨_, rfl⟩
  rw [hwz] at hres s0 s1 ⊢
  exact bodyPost_ret (v := .tuple #[.agg #[.slice none 0 0, .slice none 0 0], .int .i64 E]) (by simp [results, Try.results14, go_sem, s0, s1]) rfl ⟨rfl, hb.grown hres.2 hb.size (fun k hk => by injection hk with hk; omega)⟩


set_option maxRecDepth 100000 in
theorem cooJoin_fail (A B Ao : Option Addr) (n c m e ro co : Nat) (E : Int) (w : World) (h0 : E ≠ 0)
   (HM : ∀ W, Below w.heap.size w W → Calls Try.prog 43 #[.agg #[.slice A n c, .slice B m e], .slice Ao ro co] W fun x w' => x = .returned (.tuple #[.slice none 0 0, .int .i64 E]) ∧ Below W.heap.size W w') :
    Calls Try.prog 16 #[.agg #[.slice A n c, .slice B m e], .slice Ao ro co] w fun x w' => x = .returned (.tuple #[.agg #[.slice none 0 0, .slice none 0 0], .int .i64 E]) ∧ Below w.heap.size w w' := by
  have z0 := (Below.refl w.heap.size w).alloc (Nat.le_refl _) (.cells #[.slice A n c, .slice B m e] 25)
  have z1 := z0.alloc z0.size (.cells #[.slice none 0 0, .slice none 0 0] 25)
  have b2 := zf_snd w (.cells #[.slice none 0 0, .slice none 0 0] 25) (.cells #[.slice A n c, .slice B m e] 25)
  have HC := fun W (hb : Below w.heap.size w W) => cooSort_fail A B Ao n c m e ro co E W h0 (fun X hX => HM X (hb.trans (hX.mono hb.size)))
  have e1 : (E == 0) = false := by simpa using h0
  have e2 : (E != 0) = true := by simpa using h0
  clear h0
  go_enter Try.func16, Try.ntmps16
  go_wp2_with fail
  refine (HC _ z1).mono ?_
  rintro x w1 ⟨rfl, hb1⟩
  have hb := z1.trans (hb1.mono z1.size)
  have q2 := (hb1.block (w.heap.size + 1) (by simp)).trans b2
  have hsz := hb1.size
  have hal := (Below.refl w1.heap.size w1).alloc (Nat.le_refl _) (.cells #[.slice none 0 0, .slice none 0 0] 25)
  have q4 := (hal.block (w.heap.size + 1) (lt_of_heap q2)).trans q2
  have hb4 := hb.trans (hal.mono hb.size)
  obtain ⟨W5, hW5⟩ : ∃ W5, w1.alloc (.cells #[.slice none 0 0, .slice none 0 0] 25) = W5 := ⟨_, rfl⟩
  rw [hW5] at q4 hb4
  have HW5 := Lib.hid hW5
  obtain ⟨v0, v1, vf0, vf1⟩ := pair_cells q4
  have Q4 := Lib.hid q4
  clear q2 q4 b2 z0 z1 HC hb1 hW5 hal hb
  go_upto_region 2 with fail
  rw [HW5.out]
  go_wp2_with fail
  have hres := set_two W5 (w.heap.size + 1) _ _ (.slice none 0 0) (.slice none 0 0) _ Q4.out
  obtain ⟨s0, s1, _, _⟩ := pair_cells hres.1
  obtain ⟨wz, hwz⟩ : ∃ wz, (W5.setCell ⟨w.heap.size + 1, 0, none⟩ (.slice none 0 0)).setCell ⟨w.heap.size + 1, 1, none⟩ (.slice none 0 0) = wz := ⟨_, rfl⟩
  rw [hwz] at hres s0 s1 ⊢
  exact bodyPost_ret (v := .tuple #[.agg #[.slice none 0 0, .slice none 0 0], .int .i64 E]) (by simp [results, Try.results16, go_sem, s0, s1]) rfl ⟨rfl, hb4.grown hres.2 hb4.size (fun k hk => by injection hk with hk; omega)⟩

/-- the errors of Sort and Join -/
def sortE' (xs os : List Int) (n : Nat) (es : List Ent) : Int := if cooF xs es = 0 then if OrdOk n os then 0 else 1 else cooF xs es
theorem modesBy_bad (A B Ao : Option Addr) (n c m e ro co : Nat) (xs os : List Int) (es : List Ent) (w : World) (h : Ints w w.heap.size A n xs) (hn : n ≤ 100000) (hv : Ents w w.heap.size B m es) (hm : m ≤ 9223372036854775807) (ho : Ints w w.heap.size Ao ro os) (hro : ro ≤ 100000) (hne : sortE' xs os n es ≠ 0) :
    ∀ W, Below w.heap.size w W → Calls Try.prog 43 #[.agg #[.slice A n c, .slice B m e], .slice Ao ro co] W fun x w' => x = .returned (.tuple #[.slice none 0 0, .int .i64 (sortE' xs os n es)]) ∧ Below W.heap.size W w' := fun W hb => by
  have h' := (h.below hb).more hb.size
  have hv' := (hv.below hb).more hb.size
  have ho' := (ho.below hb).more hb.size
  unfold sortE' at hne ⊢
  by_cases hE : cooF xs es = 0
  · rw [if_pos hE] at hne ⊢
    by_cases hk : OrdOk n os
    · rw [if_pos hk] at hne; exact absurd rfl hne
    · rw [if_neg hk]
      exact modesBy_no A B Ao n c m e ro co xs os es W h' hn hv' hm hE ho' hro hk
  · rw [if_neg hE]
    exact modesBy_err A B Ao n c m e ro co xs es _ W h' (by omega) hv' hm rfl hE
end Go.Proofs.Ytpfabbapfmfmmaa
