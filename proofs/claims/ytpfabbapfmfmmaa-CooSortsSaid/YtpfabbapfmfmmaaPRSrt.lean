/- The document's sorted: a list in order, of halves. -/
import Derived.Test.YtpfabbapfmfmmaaG16
import Derived.Test.YtpfabbapfmfmmaaG15
import Derived.Test.YtpfabbapfmfmmaaG9
namespace Go.Proofs.Ytpfabbapfmfmmaa
open Go.RowKit

set_option maxRecDepth 100000 in
theorem run_dropA {w : World} (A : Option Addr) (n c k : Nat) (hk : k ≤ n) : (Instr.slice 23 (.slice A n c) (some (.int .i64 (k : Int))) none none).run Try.prog w = .ok (.slice (if c = k then A else A.map (·.add (k * 2))) (n - k) (c - k)) w := by
  obtain ⟨i0, hi0, hz0, hz1, hz2⟩ := info_parts infoEnt
  rw [run_slice_l w 23 A n c (by kernel_rfl) .i64 (k : Int) (by omega) (by omega)]
  have hs : (sizeOf (Try.prog.elem 23)).run Try.prog w = .ok 2 w := by
    have he : Try.prog.elem 23 = 37 := by kernel_rfl
    rw [he]; simp [sizeOf, typeInfo, hi0, hz1]
  rw [hs]
  simp only [Result.andThen, sliced, Int.toNat_natCast]
/-- an entry's place and number may be read -/
def EntOk (w : World) (B : Nat) (x : Ent) : Prop := Ints w B x.A x.n x.cs ∧ x.n ≤ 9223372036854775807 ∧ x.n ≤ x.c ∧ -9223372036854775808 ≤ x.v ∧ x.v ≤ 9223372036854775807
theorem OwnE.entsOf {w : World} {base c : Nat} {A : Option Addr} {L : List Ent} (h : OwnE w base A c L) (hx : ∀ x ∈ L, EntOk w w.heap.size x) : Ents w w.heap.size A L.length L := by
  refine ⟨rfl, hx, fun h0 => ?_⟩
  obtain ⟨g, post, e, hb, hr⟩ := OwnE.row h h0
  refine ⟨g, 0, e, hr.lt, fun k x hk => ?_⟩
  obtain ⟨⟨a1, _⟩, a2, _⟩ := blk_ent hr hk
  rw [Nat.zero_add, Nat.mul_comm 2 k]
  exact ⟨a1, a2⟩
theorem OwnE.drewN {w : World} {base c : Nat} {A : Option Addr} {L : List Ent} (h : OwnE w base A c L) (d : Nat) : OwnE (w.drewN d) base A c L := h
theorem OwnE.cap {w : World} {base c : Nat} {A : Option Addr} {L : List Ent} (h : OwnE w base A c L) : L.length ≤ c := by
  rcases h.2 with ⟨h1, h2⟩ | ⟨g, cap, cur, h1, _, _, h4, _⟩
  · omega
  · injection h1 with _ _ h3; omega
theorem Ents.ok {w : World} {B n : Nat} {A : Option Addr} {es : List Ent} (h : Ents w B A n es) {x : Ent} (hx : x ∈ es) : EntOk w B x := h.2.1 x hx
theorem EntOk.below {w w' : World} {x : Ent} (h : EntOk w w.heap.size x) (hb : Below w.heap.size w w') : EntOk w' w'.heap.size x := ⟨(h.1.below hb).more hb.size, h.2⟩
theorem sortE_small (os : List Int) {l : List Ent} (h : l.length < 2) : sortE os l = l := by
  match l, h with
  | [], _ => rfl
  | [x], _ => rfl
theorem half_le {m : Nat} (h : 2 ≤ m) : 0 < m / 2 ∧ m / 2 < m ∧ m - m / 2 < m ∧ 0 < m - m / 2 := by omega
/-- the head of a slice of entries, and what stands behind it -/
theorem Ents.tail_ {w : World} {B p c : Nat} {A : Option Addr} {x : Ent} {L : List Ent} (h : Ents w B A (p + 1) (x :: L)) (hc : p + 1 ≤ c) : Ents w B (if c = 1 then A else A.map (·.add (1 * 2))) p L := by
  have := h.drop_ (k := 1) (c := c) (by omega) hc
  simpa using this

set_option maxRecDepth 100000 in
set_option maxHeartbeats 8000000 in
theorem refSorted_any (n ro co : Nat) (Ao : Option Addr) (os : List Int) (hin : ∀ q ∈ os, 0 ≤ q ∧ q < n) (hro : ro ≤ 100000) : ∀ (M m e : Nat) (B : Option Addr) (es : List Ent) (w : World), m ≤ M → Ents w w.heap.size B m es → m ≤ e → m ≤ 70000 → (∀ y ∈ es, y.n = n) → Ints w w.heap.size Ao ro os →
    Calls Try.prog 47 #[.slice B m e, .slice Ao ro co] w fun x w' => ∃ B' e', x = .returned (.slice B' m e') ∧ Ents w' w'.heap.size B' m (sortE os es) ∧ m ≤ e' ∧ Below w.heap.size w w' := by
  intro M
  induction M with
  | zero =>
    intro m e B es w hM hE hme hm hn ho
    obtain rfl : m = 0 := by omega
    have hs : sortE os es = es := sortE_small os (by rw [hE.1]; omega)
    rw [hs]
    have HE := Lib.hid hE
    clear hE hs
    go_enter Try.func47, Try.ntmps47
    go_wp2
    go_ret
    exact ⟨B, e, rfl, HE.out, hme, Below.refl _ _⟩
  | succ M ih =>
    intro m e B es w hM hE hme hm hn ho
    by_cases h2 : m < 2
    · have hs : sortE os es = es := sortE_small os (by rw [hE.1]; omega)
      rw [hs]
      have HE := Lib.hid hE
      have d1 : decide ((m : Int) < 2) = true := by simp; omega
      have d2 : decide (m < 2) = true := by simp; omega
      clear hE hs ih
      go_enter Try.func47, Try.ntmps47
      go_wp2
      go_ret
      exact ⟨B, e, rfl, HE.out, hme, Below.refl _ _⟩
    · obtain ⟨q, hq⟩ : ∃ q, m / 2 = q := ⟨_, rfl⟩
      have hh := half_le (m := m) (by omega)
      rw [hq] at hh
      obtain ⟨hq0, hqm, hrm, hr0⟩ := hh
      have d1 : decide ((m : Int) < 2) = false := by simp; omega
      have d2 : decide (m < 2) = false := by simp; omega
      have q1 : Int.tdiv (m : Int) 2 = (q : Int) := by rw [← hq]; exact (Int.ofNat_tdiv m 2)
      have q2 : ((m : Int) / 2) = (q : Int) := by omega
      have q3 : IntKind.i64.wrap ((m : Int).tdiv 2) = (q : Int) := by rw [q1]; exact wrap_nat _ (by omega)
      have q4 : IntKind.i64.wrap ((m : Int) / 2) = (q : Int) := by rw [q2]; exact wrap_nat _ (by omega)
      have hsl1 := fun W : World => run_takeF (w := W) B m e q (by omega) hme
      have hsl2 := fun W : World => run_dropA (w := W) B m e q (by omega)
      have E1 : Ents w w.heap.size B q (es.take q) := hE.take_ (by omega)
      have E2 : Ents w w.heap.size (if e = q then B else B.map (·.add (q * 2))) (m - q) (es.drop q) := hE.drop_ (by omega) hme
      obtain ⟨B2, hB2⟩ : ∃ B2, (if e = q then B else B.map (·.add (q * 2))) = B2 := ⟨_, rfl⟩
      rw [hB2] at E2
      simp only [hB2] at hsl2
      have HC1 := ih q e B (es.take q) w (by omega) E1 (by omega) (by omega) (fun y hy => hn y (List.mem_of_mem_take hy)) ho
      have HC2 := fun W (hb : Below w.heap.size w W) => ih (m - q) (e - q) B2 (es.drop q) W (by omega) ((E2.below hb).more hb.size) (by omega) (by omega) (fun y hy => hn y (List.mem_of_mem_drop hy)) ((ho.below hb).more hb.size)
      have HMR : Hid (mergeE os (sortE os (es.take q)) (sortE os (es.drop q)) = sortE os es) := merge_rest os q es
      have HYN : Hid (∀ y ∈ es, y.n = n) := hn
      have HIN := Lib.hid hin
      have HEL : Hid (es.length = m) := hE.1
      have HEN := Lib.hid hE
      obtain ⟨r, hr⟩ : ∃ r, m - q = r := ⟨_, rfl⟩
      rw [hr] at HC2 hrm hr0
      simp only [hr] at hsl2
      clear ih hn hin hE E1 E2 hB2
      go_enter Try.func47, Try.ntmps47
      go_wp2_with fail
      refine HC1.mono ?_
      rintro x w1 ⟨Ba, ea, rfl, EA, hea, hb1⟩
      have HC3 := HC2 w1 hb1
      clear HC1 HC2
      go_wp2_with fail
      refine HC3.mono ?_
      rintro x w2 ⟨Bb, eb, rfl, EB, heb, hb2⟩
      have hbb := hb1.trans (hb2.mono hb1.size)
      have HA2 : Hid (Ents w2 w2.heap.size Ba q (sortE os (es.take q))) := (EA.below hb2).more hb2.size
      have HB2 := Lib.hid EB
      have HO2 : Hid (Ints w2 w2.heap.size Ao ro os) := (ho.below hbb).more hbb.size
      have HBB := Lib.hid hbb
      have HE2 : Hid (Ents w2 w2.heap.size B m es) := (HEN.out.below hbb).more hbb.size
      clear HC3 hb1 hb2 hbb EA EB ho hsl1 hsl2 q1 q2 q3 q4 HEN
      go_wp2_with fail
      go_loopw [5, 6, 7] (fun ua ub uo wr => ∃ (p s t : Nat) (Aa Ab Ac : Option Addr) (ca cb cc : Nat) (La Lb Lo : List Ent), ua = .slice Aa p ca ∧ ub = .slice Ab s cb ∧ uo = .slice Ac t cc ∧ p ≤ ca ∧ s ≤ cb ∧ p + s + t = m ∧ Hid (Ents w2 w2.heap.size Aa p La) ∧ Hid (Ents w2 w2.heap.size Ab s Lb) ∧ Hid (OwnE wr w2.heap.size Ac cc Lo) ∧ Hid (Lo.length = t) ∧ Hid (Lo ++ mergeE os La Lb = sortE os es) ∧ Hid (Below w2.heap.size w2 wr)) (fun ua ub _ _ => (match ua with | .slice _ p _ => p | _ => 0) + (match ub with | .slice _ s _ => s | _ => 0))
      case atStart => exact ⟨q, r, 0, Ba, Bb, none, ea, eb, 0, _, _, [], rfl, rfl, rfl, hea, heb, by omega, HA2, HB2, Lib.hid (OwnE.nil_ _ _), rfl, by unfold Hid; rw [List.nil_append]; exact HMR.out, Lib.hid (Below.refl _ _)⟩
      case round =>
        obtain ⟨p, s, t, Aa, Ab, Ac, ca, cb, cc, La, Lb, Lo, rfl, rfl, rfl, hpc, hsc, hpst, HLA, HLB, HLO, HLT, HMG, HBW⟩ := hrel
        have hszr := HBW.out.size
        have HLAl : Hid (La.length = p) := HLA.out.1
        have HLBl : Hid (Lb.length = s) := HLB.out.1
        have HNA : Hid (∀ y ∈ La, y.n = n) := fun y hy => by
          refine HYN.out y (sortE_sub (os := os) ?_)
          rw [← HMG.out, List.mem_append, mergeE_mem]; exact .inr (.inl hy)
        have HNB : Hid (∀ y ∈ Lb, y.n = n) := fun y hy => by
          refine HYN.out y (sortE_sub (os := os) ?_)
          rw [← HMG.out, List.mem_append, mergeE_mem]; exact .inr (.inr hy)
        by_cases hp0 : p = 0
        · subst hp0
          have hLa : La = [] := List.eq_nil_of_length_eq_zero HLAl.out
          by_cases hs0 : s = 0
          · subst hs0
            have hLb : Lb = [] := List.eq_nil_of_length_eq_zero HLBl.out
            have HF : Hid (Lo = sortE os es) := by unfold Hid; rw [← HMG.out, hLa, hLb, mergeE_nil_left, List.append_nil]
            have htm : t = m := by omega
            clear hLa hLb
            go_wp2_with fail
            go_ret
            have hoe := HLO.out.entsOf (fun x hx => (HE2.out.ok (sortE_sub (os := os) (by rw [← HF.out]; exact hx))).below HBW.out)
            rw [HLT.out, HF.out, htm] at hoe
            exact ⟨Ac, cc, by rw [← htm]; rfl, hoe, by rw [← htm, ← HLT.out]; exact HLO.out.cap, HBB.out.trans (HBW.out.mono HBB.out.size)⟩
          · have ds : decide ((0 : Int) < (s : Int)) = true := by simp; omega
            have ds2 : decide (0 < s) = true := by simp; omega
            obtain ⟨s', hsq⟩ : ∃ s', s = s' + 1 := ⟨s - 1, by omega⟩
            obtain ⟨y, Lb', hLb⟩ : ∃ y Lb', Lb = y :: Lb' := by
              match Lb, HLBl.out.trans hsq with
              | y :: Lb', _ => exact ⟨y, Lb', rfl⟩
            obtain ⟨bb, ob, y', hAb, hbb, HY, hyc0, hyc1, iy, hy1, hy2, hy3, hy4⟩ := HLB.out.at_ (k := 0) (by omega)
            have hyy : y' = y := by have := HY.out; rw [hLb] at this; simpa using this.symm
            subst hyy
            subst hAb
            rw [Nat.mul_zero, Nat.add_zero] at hyc0 hyc1
            replace hyc0 := (HBW.out.cell (p := ⟨bb, ob, none⟩) hbb).trans hyc0
            replace hyc1 := (HBW.out.cell (p := ⟨bb, ob + 1, none⟩) hbb).trans hyc1
            have iyr := (iy.below HBW.out).more hszr
            have HYN2 : Hid (y'.n = n) := HNB.out y' (by rw [hLb]; simp)
            have HTB : Hid (Ents w2 w2.heap.size (if cb = 1 then some ⟨bb, ob, none⟩ else (some (⟨bb, ob, none⟩ : Addr)).map (·.add (1 * 2))) s' Lb') := by have := HLB.out; rw [hLb, hsq] at this; exact this.tail_ (by omega)
            have hsb : ∀ W, (Instr.slice 23 (.slice (some ⟨bb, ob, none⟩) s cb) (some (.int .i64 1)) none none).run Try.prog W = .ok (.slice (if cb = 1 then some ⟨bb, ob, none⟩ else (some (⟨bb, ob, none⟩ : Addr)).map (·.add (1 * 2))) s' (cb - 1)) W := fun W => by have h9 := run_dropA (w := W) (some ⟨bb, ob, none⟩) s cb 1 (by omega); rwa [show s - 1 = s' by omega] at h9
            obtain ⟨Ab2, hAb2⟩ : ∃ Z, (if cb = 1 then some ⟨bb, ob, none⟩ else (some (⟨bb, ob, none⟩ : Addr)).map (·.add (1 * 2))) = Z := ⟨_, rfl⟩
            rw [hAb2] at HTB
            simp only [hAb2] at hsb
            have HLBe := Lib.hid hLb
            have HSQ := Lib.hid hsq
            clear hAb2 iy HY hsq
            have HMG8 : Hid (Lo ++ [y'] ++ mergeE os La Lb' = sortE os es) := by unfold Hid; rw [← HMG.out, HLBe.out, hLa, mergeE_nil_left, mergeE_nil_left, List.append_assoc]; rfl
            clear hLa hLb
            go_wp2_with fail
            go_quiet (fail)
            have hbt : t + 1 ≤ 1000000 := by omega
            go_wp2_with (at_builtin; refine wpList_appendEntG rfl (.tmp 54) (.tmp 58) rfl w2.heap.size Ac cc t (t + 1) y' Lo rfl rfl (HLO.out.drewN _) HLT.out rfl hbt hszr ?_; intro A8 c8 w8 HO8' HG8'; have HO8 := Lib.hid HO8'; have HBW8 : Hid (Below w2.heap.size w2 w8) := (by rw [← HLT.out] at HG8'; exact (below_dN HBW.out _).grown HG8' hszr (fun k hk => (World.ownsRow.lt HLO.out k hk).1)); clear HO8' HG8')
            have HLT8 : Hid ((Lo ++ [y']).length = t + 1) := by unfold Hid; rw [List.length_append, HLT.out]; rfl
            go_roundw
            case rel => exact ⟨_, s', t + 1, _, Ab2, A8, ca, cb - 1, c8, La, Lb', Lo ++ [y'], rfl, rfl, rfl, hpc, (by have := HSQ.out; omega), (by have := HSQ.out; omega), HLA, HTB, HO8, HLT8, HMG8, HBW8⟩
            case measure => first | (have := HPQ.out; simp; omega) | (have := HSQ.out; simp; omega) | simp
        · have dp : decide ((0 : Int) < (p : Int)) = true := by simp; omega
          have dp2 : decide (0 < p) = true := by simp; omega
          have dp3 : ((p : Int) == 0) = false := by simp; omega
          obtain ⟨p', hpq⟩ : ∃ p', p = p' + 1 := ⟨p - 1, by omega⟩
          obtain ⟨x, La', hLa⟩ : ∃ x La', La = x :: La' := by
            match La, HLAl.out.trans hpq with
            | x :: La', _ => exact ⟨x, La', rfl⟩
          obtain ⟨ba, oa, x', hAa, hba, HX, hxc0, hxc1, ix, hx1, hx2, hx3, hx4⟩ := HLA.out.at_ (k := 0) (by omega)
          have hxx : x' = x := by have := HX.out; rw [hLa] at this; simpa using this.symm
          subst hxx
          subst hAa
          rw [Nat.mul_zero, Nat.add_zero] at hxc0 hxc1
          replace hxc0 := (HBW.out.cell (p := ⟨ba, oa, none⟩) hba).trans hxc0
          replace hxc1 := (HBW.out.cell (p := ⟨ba, oa + 1, none⟩) hba).trans hxc1
          have ixr := (ix.below HBW.out).more hszr
          have HXN : Hid (x'.n = n) := HNA.out x' (by rw [hLa]; simp)
          have HTA : Hid (Ents w2 w2.heap.size (if ca = 1 then some ⟨ba, oa, none⟩ else (some (⟨ba, oa, none⟩ : Addr)).map (·.add (1 * 2))) p' La') := by have := HLA.out; rw [hLa, hpq] at this; exact this.tail_ (by omega)
          have hsa : ∀ W, (Instr.slice 23 (.slice (some ⟨ba, oa, none⟩) p ca) (some (.int .i64 1)) none none).run Try.prog W = .ok (.slice (if ca = 1 then some ⟨ba, oa, none⟩ else (some (⟨ba, oa, none⟩ : Addr)).map (·.add (1 * 2))) p' (ca - 1)) W := fun W => by have h9 := run_dropA (w := W) (some ⟨ba, oa, none⟩) p ca 1 (by omega); rwa [show p - 1 = p' by omega] at h9
          obtain ⟨Aa2, hAa2⟩ : ∃ Z, (if ca = 1 then some ⟨ba, oa, none⟩ else (some (⟨ba, oa, none⟩ : Addr)).map (·.add (1 * 2))) = Z := ⟨_, rfl⟩
          rw [hAa2] at HTA
          simp only [hAa2] at hsa
          have HLAe := Lib.hid hLa
          have HPQ := Lib.hid hpq
          clear hAa2 ix HX hpq
          by_cases hs0 : s = 0
          · subst hs0
            have hLb : Lb = [] := List.eq_nil_of_length_eq_zero HLBl.out
            have HMG8 : Hid (Lo ++ [x'] ++ mergeE os La' Lb = sortE os es) := by unfold Hid; rw [← HMG.out, HLAe.out, hLb, mergeE_nil_right, mergeE_nil_right, List.append_assoc]; rfl
            clear hLa hLb
            go_wp2_with fail
            go_quiet (fail)
            have hbt : t + 1 ≤ 1000000 := by omega
            go_wp2_with (at_builtin; refine wpList_appendEntG rfl (.tmp 62) (.tmp 66) rfl w2.heap.size Ac cc t (t + 1) x' Lo rfl rfl (HLO.out.drewN _) HLT.out rfl hbt hszr ?_; intro A8 c8 w8 HO8' HG8'; have HO8 := Lib.hid HO8'; have HBW8 : Hid (Below w2.heap.size w2 w8) := (by rw [← HLT.out] at HG8'; exact (below_dN HBW.out _).grown HG8' hszr (fun k hk => (World.ownsRow.lt HLO.out k hk).1)); clear HO8' HG8')
            have HLT8 : Hid ((Lo ++ [x']).length = t + 1) := by unfold Hid; rw [List.length_append, HLT.out]; rfl
            go_roundw
            case rel => exact ⟨p', _, t + 1, Aa2, _, A8, ca - 1, cb, c8, La', Lb, Lo ++ [x'], rfl, rfl, rfl, (by have := HPQ.out; omega), hsc, (by have := HPQ.out; omega), HTA, HLB, HO8, HLT8, HMG8, HBW8⟩
            case measure => first | (have := HPQ.out; simp; omega) | (have := HSQ.out; simp; omega) | simp
          · have ds : decide ((0 : Int) < (s : Int)) = true := by simp; omega
            have ds2 : decide (0 < s) = true := by simp; omega
            have ds3 : ((s : Int) == 0) = false := by simp; omega
            obtain ⟨s', hsq⟩ : ∃ s', s = s' + 1 := ⟨s - 1, by omega⟩
            obtain ⟨y, Lb', hLb⟩ : ∃ y Lb', Lb = y :: Lb' := by
              match Lb, HLBl.out.trans hsq with
              | y :: Lb', _ => exact ⟨y, Lb', rfl⟩
            obtain ⟨bb, ob, y', hAb, hbb, HY, hyc0, hyc1, iy, hy1, hy2, hy3, hy4⟩ := HLB.out.at_ (k := 0) (by omega)
            have hyy : y' = y := by have := HY.out; rw [hLb] at this; simpa using this.symm
            subst hyy
            subst hAb
            rw [Nat.mul_zero, Nat.add_zero] at hyc0 hyc1
            replace hyc0 := (HBW.out.cell (p := ⟨bb, ob, none⟩) hbb).trans hyc0
            replace hyc1 := (HBW.out.cell (p := ⟨bb, ob + 1, none⟩) hbb).trans hyc1
            have iyr := (iy.below HBW.out).more hszr
            have HYN2 : Hid (y'.n = n) := HNB.out y' (by rw [hLb]; simp)
            have HTB : Hid (Ents w2 w2.heap.size (if cb = 1 then some ⟨bb, ob, none⟩ else (some (⟨bb, ob, none⟩ : Addr)).map (·.add (1 * 2))) s' Lb') := by have := HLB.out; rw [hLb, hsq] at this; exact this.tail_ (by omega)
            have hsb : ∀ W, (Instr.slice 23 (.slice (some ⟨bb, ob, none⟩) s cb) (some (.int .i64 1)) none none).run Try.prog W = .ok (.slice (if cb = 1 then some ⟨bb, ob, none⟩ else (some (⟨bb, ob, none⟩ : Addr)).map (·.add (1 * 2))) s' (cb - 1)) W := fun W => by have h9 := run_dropA (w := W) (some ⟨bb, ob, none⟩) s cb 1 (by omega); rwa [show s - 1 = s' by omega] at h9
            obtain ⟨Ab2, hAb2⟩ : ∃ Z, (if cb = 1 then some ⟨bb, ob, none⟩ else (some (⟨bb, ob, none⟩ : Addr)).map (·.add (1 * 2))) = Z := ⟨_, rfl⟩
            rw [hAb2] at HTB
            simp only [hAb2] at hsb
            have HLBe := Lib.hid hLb
            have HSQ := Lib.hid hsq
            clear hAb2 iy HY hsq
            have ior := (HO2.out.below HBW.out).more hszr
            have hinq : ∀ q ∈ os, 0 ≤ q ∧ q < y'.n ∧ q < x'.n := fun q hq => by have h5 := HIN.out q hq; have h6 := HXN.out; have h7 := HYN2.out; omega
            by_cases hlt : ltE os y' x' = true
            · have HA := fun d : Nat => refAhead_any y'.A x'.A Ao y'.n x'.n ro y'.c x'.c co y'.cs x'.cs os (wr.drewN d) (iyr.drewN d) (ixr.drewN d) (ior.drewN d) hro hinq true hlt
              have HMG8 : Hid (Lo ++ [y'] ++ mergeE os La Lb' = sortE os es) := by unfold Hid; rw [← HMG.out, HLBe.out, HLAe.out, mergeE_right _ _ hlt, List.append_assoc]; rfl
              clear hLa hLb hlt hinq
              go_wp2_with fail
              go_quiet ((go_at_call 39; exact Calls.quiet_of (HA _)))
              have hbt : t + 1 ≤ 1000000 := by omega
              go_wp2_with (at_builtin; refine wpList_appendEntG rfl (.tmp 54) (.tmp 58) rfl w2.heap.size Ac cc t (t + 1) y' Lo rfl rfl (HLO.out.drewN _) HLT.out rfl hbt hszr ?_; intro A8 c8 w8 HO8' HG8'; have HO8 := Lib.hid HO8'; have HBW8 : Hid (Below w2.heap.size w2 w8) := (by rw [← HLT.out] at HG8'; exact (below_dN HBW.out _).grown HG8' hszr (fun k hk => (World.ownsRow.lt HLO.out k hk).1)); clear HO8' HG8')
              have HLT8 : Hid ((Lo ++ [y']).length = t + 1) := by unfold Hid; rw [List.length_append, HLT.out]; rfl
              go_roundw
              case rel => exact ⟨_, s', t + 1, _, Ab2, A8, ca, cb - 1, c8, La, Lb', Lo ++ [y'], rfl, rfl, rfl, hpc, (by have := HSQ.out; omega), (by have := HSQ.out; omega), HLA, HTB, HO8, HLT8, HMG8, HBW8⟩
              case measure => first | (have := HPQ.out; simp; omega) | (have := HSQ.out; simp; omega) | simp
            · have hlt2 : ltE os y' x' = false := by simpa using hlt
              have HA := fun d : Nat => refAhead_any y'.A x'.A Ao y'.n x'.n ro y'.c x'.c co y'.cs x'.cs os (wr.drewN d) (iyr.drewN d) (ixr.drewN d) (ior.drewN d) hro hinq false hlt2
              have HMG8 : Hid (Lo ++ [x'] ++ mergeE os La' Lb = sortE os es) := by unfold Hid; rw [← HMG.out, HLBe.out, HLAe.out, mergeE_left _ _ hlt2, List.append_assoc]; rfl
              clear hLa hLb hlt hlt2 hinq
              go_wp2_with fail
              go_quiet ((go_at_call 39; exact Calls.quiet_of (HA _)))
              have hbt : t + 1 ≤ 1000000 := by omega
              go_wp2_with (at_builtin; refine wpList_appendEntG rfl (.tmp 62) (.tmp 66) rfl w2.heap.size Ac cc t (t + 1) x' Lo rfl rfl (HLO.out.drewN _) HLT.out rfl hbt hszr ?_; intro A8 c8 w8 HO8' HG8'; have HO8 := Lib.hid HO8'; have HBW8 : Hid (Below w2.heap.size w2 w8) := (by rw [← HLT.out] at HG8'; exact (below_dN HBW.out _).grown HG8' hszr (fun k hk => (World.ownsRow.lt HLO.out k hk).1)); clear HO8' HG8')
              have HLT8 : Hid ((Lo ++ [x']).length = t + 1) := by unfold Hid; rw [List.length_append, HLT.out]; rfl
              go_roundw
              case rel => exact ⟨p', _, t + 1, Aa2, _, A8, ca - 1, cb, c8, La', Lb, Lo ++ [x'], rfl, rfl, rfl, (by have := HPQ.out; omega), hsc, (by have := HPQ.out; omega), HTA, HLB, HO8, HLT8, HMG8, HBW8⟩
              case measure => first | (have := HPQ.out; simp; omega) | (have := HSQ.out; simp; omega) | simp
end Go.Proofs.Ytpfabbapfmfmmaa
