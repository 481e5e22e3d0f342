/- The contracts of perm's each, eachPlace, Inverse, Turn and After. -/
import Derived.Test.YtnjjmeaggnlafaaPEach
namespace Go.Proofs.Ytnjjmeaggnlafaa
open Go.RowKit

set_option maxRecDepth 100000 in
theorem eachFind_ok (A : Option Addr) (n c : Nat) (xs : List Int) (w : World) (h : Ints w w.heap.size A n xs) (hn : n ≤ 12) (hp : Perm_ xs) :
    Calls Try.prog 36 #[.slice A n c, .func (.func 37) #[] #[]] w fun e w' => ∃ A' c', e = .returned (.slice A' n c') ∧ OwnI w' w.heap.size 3 A' c' (invL xs) ∧ Below w.heap.size w w' := by
  have HL : Hid (xs.length = n) := h.1
  have hC := fun W (hb : Below w.heap.size w W) (k : Nat) (hk : k < n) => find_ok A n c xs (k : Int) W w.heap.size (h.below hb) (by omega) (hp.mem (by rw [h.1]; exact hk))
  obtain ⟨i0, hi0, hz0, hz1, hz2⟩ := info_parts infoInt
  have hmk := fun W => run_makeAll (P := Try.prog) 22 3 i0 Try.underlying22 hi0 hz0 hz1 hz2 n (by omega) W
  have hR : Hid ((invL xs).length = n) := by unfold Hid; rw [invL_length, HL.out]
  have hI : Hid (∀ k, k < n → xs.idxOf (k : Int) < n) := by unfold Hid; intro k hk; rw [← HL.out]; exact List.idxOf_lt_length_iff.2 (hp.mem (by rw [HL.out]; exact hk))
  clear hp
  go_enter Try.func36, Try.ntmps36
  go_wp2
  go_loopw [12] (fun i wr => ∃ k : Nat, k ≤ n ∧ i = .int .i64 k ∧ Hid (OwnI wr w.heap.size 3 (some ⟨w.heap.size, 0, none⟩) n ((invL xs).take k ++ List.replicate (n - k) 0)) ∧ Below w.heap.size w wr) (fun i _ => n - (intOf i).toNat)
  case atStart => exact ⟨0, Nat.zero_le _, rfl, own_made w 3 n w.heap.size (Nat.le_refl _) (by omega), (Below.refl _ w).alloc (Nat.le_refl _) _⟩
  case round =>
    obtain ⟨k, hk, rfl, HO, hb⟩ := hrel
    by_cases hlt : k < n
    · obtain ⟨hc, hf⟩ := HO.out.cell_ (fill_at hR.out hlt)
      have hC' := hC wr hb k hlt
      have hib := hI.out k hlt
      have hia := invL_at (p := xs) (k := k) (by rw [HL.out]; exact hlt)
      obtain ⟨v, hv⟩ : ∃ v, xs.idxOf (k : Int) = v := ⟨_, rfl⟩
      rw [hv] at hC' hib hia
      have HO' : Hid (OwnI (wr.setCell ⟨w.heap.size, k, none⟩ (.int .i64 (v : Int))) w.heap.size 3 (some ⟨w.heap.size, 0, none⟩) n ((invL xs).take (k + 1) ++ List.replicate (n - (k + 1)) 0)) := by
        unfold Hid; have := HO.out.set_ k (v : Int) (by omega); rwa [fill_set hia hR.out] at this
      have hb' := hb.setCell (p := ⟨w.heap.size, k, none⟩) (Nat.le_refl _) (.int .i64 (v : Int))
      clear HO hia hv hC
      go_wp2_with (go_at_call 37; refine hC'.mono ?_; rintro e w' ⟨rfl, rfl⟩)
      go_roundw
      case rel => exact ⟨k + 1, by omega, by go_num, HO', hb'⟩
      case measure => simp [intOf]; omega
    · obtain rfl : k = n := by omega
      have HF : Hid (OwnI wr w.heap.size 3 (some ⟨w.heap.size, 0, none⟩) k (invL xs)) := by unfold Hid; have := HO.out; rwa [fill_done hR.out] at this
      go_wp2
      go_ret
      exact ⟨_, _, rfl, HF.out, hb⟩

set_option maxRecDepth 100000 in
theorem eachLess_ok (A : Option Addr) (n c : Nat) (xs : List Int) (w : World) (h : Ints w w.heap.size A n xs) (hn : n ≤ 12) (hcap : n ≤ c) :
    Calls Try.prog 36 #[.slice A n c, .func (.func 41) #[] #[]] w fun e w' => ∃ A' c', e = .returned (.slice A' n c') ∧ OwnI w' w.heap.size 3 A' c' (lessL xs) ∧ Below w.heap.size w w' := by
  have HL : Hid (xs.length = n) := h.1
  have hC := fun W (hb : Below w.heap.size w W) (k : Nat) (x : Int) (hx : xs[k]? = some x) => less_ok A n c xs k x W w.heap.size (h.below hb) (by omega) hcap hx
  obtain ⟨i0, hi0, hz0, hz1, hz2⟩ := info_parts infoInt
  have hmk := fun W => run_makeAll (P := Try.prog) 22 3 i0 Try.underlying22 hi0 hz0 hz1 hz2 n (by omega) W
  have hR : Hid ((lessL xs).length = n) := by unfold Hid; rw [lessL_length, HL.out]
  go_enter Try.func36, Try.ntmps36
  go_wp2
  go_loopw [12] (fun i wr => ∃ k : Nat, k ≤ n ∧ i = .int .i64 k ∧ Hid (OwnI wr w.heap.size 3 (some ⟨w.heap.size, 0, none⟩) n ((lessL xs).take k ++ List.replicate (n - k) 0)) ∧ Below w.heap.size w wr) (fun i _ => n - (intOf i).toNat)
  case atStart => exact ⟨0, Nat.zero_le _, rfl, own_made w 3 n w.heap.size (Nat.le_refl _) (by omega), (Below.refl _ w).alloc (Nat.le_refl _) _⟩
  case round =>
    obtain ⟨k, hk, rfl, HO, hb⟩ := hrel
    by_cases hlt : k < n
    · obtain ⟨hc, hf⟩ := HO.out.cell_ (fill_at hR.out hlt)
      obtain ⟨b, off, x, hA, _, HX, _, _, _⟩ := h.at_ hlt
      have hC' := hC wr hb k x HX.out
      have hia := lessL_at HX.out
      have hib := lessC_le x (xs.drop (k + 1))
      rw [List.length_drop, HL.out] at hib
      obtain ⟨v, hv⟩ : ∃ v, lessC x (xs.drop (k + 1)) = v := ⟨_, rfl⟩
      rw [hv] at hC' hia hib
      have HO' : Hid (OwnI (wr.setCell ⟨w.heap.size, k, none⟩ (.int .i64 (v : Int))) w.heap.size 3 (some ⟨w.heap.size, 0, none⟩) n ((lessL xs).take (k + 1) ++ List.replicate (n - (k + 1)) 0)) := by
        unfold Hid; have := HO.out.set_ k (v : Int) (by omega); rwa [fill_set hia hR.out] at this
      have hb' := hb.setCell (p := ⟨w.heap.size, k, none⟩) (Nat.le_refl _) (.int .i64 (v : Int))
      clear HO hia hv hC hA HX
      go_wp2_with (go_at_call 41; refine hC'.mono ?_; rintro e w' ⟨rfl, rfl⟩)
      go_roundw
      case rel => exact ⟨k + 1, by omega, by go_num, HO', hb'⟩
      case measure => simp [intOf]; omega
    · obtain rfl : k = n := by omega
      have HF : Hid (OwnI wr w.heap.size 3 (some ⟨w.heap.size, 0, none⟩) k (lessL xs)) := by unfold Hid; have := HO.out; rwa [fill_done hR.out] at this
      go_wp2
      go_ret
      exact ⟨_, _, rfl, HF.out, hb⟩

set_option maxRecDepth 100000 in
theorem eachAt_ok (A A2 : Option Addr) (n c c2 : Nat) (xs ls : List Int) (w : World) (h : Ints w w.heap.size A n xs) (h2 : Ints w w.heap.size A2 n ls) (hn : n ≤ 12) (hp : Perm_ xs) :
    Calls Try.prog 39 #[.slice A n c, .func (.func 40) #[.slice A2 n c2] #[]] w fun e w' => ∃ A' c', e = .returned (.slice A' n c') ∧ OwnI w' w.heap.size 3 A' c' (turnL ls xs) ∧ Below w.heap.size w w' := by
  have HL : Hid (xs.length = n) := h.1
  have HL2 : Hid (ls.length = n) := h2.1
  have hC := fun W (hb : Below w.heap.size w W) (x y : Int) (hx : 0 ≤ x) (hy : ls[x.toNat]? = some y) => at_ok A2 n c2 ls x y W w.heap.size (h2.below hb) hx hy
  obtain ⟨i0, hi0, hz0, hz1, hz2⟩ := info_parts infoInt
  have hmk := fun W => run_makeAll (P := Try.prog) 22 3 i0 Try.underlying22 hi0 hz0 hz1 hz2 n (by omega) W
  have hR : Hid ((turnL ls xs).length = n) := by unfold Hid; rw [turnL_length, HL.out]
  have HP := Lib.hid hp
  clear hp
  go_enter Try.func39, Try.ntmps39
  go_wp2
  go_loopw [13] (fun i wr => ∃ k : Nat, k ≤ n ∧ i = .int .i64 k ∧ Hid (OwnI wr w.heap.size 3 (some ⟨w.heap.size, 0, none⟩) n ((turnL ls xs).take k ++ List.replicate (n - k) 0)) ∧ Below w.heap.size w wr) (fun i _ => n - (intOf i).toNat)
  case atStart => exact ⟨0, Nat.zero_le _, rfl, own_made w 3 n w.heap.size (Nat.le_refl _) (by omega), (Below.refl _ w).alloc (Nat.le_refl _) _⟩
  case round =>
    obtain ⟨k, hk, rfl, HO, hb⟩ := hrel
    by_cases hlt : k < n
    · obtain ⟨hc, hf⟩ := HO.out.cell_ (fill_at hR.out hlt)
      obtain ⟨b, off, x, rfl, _, HX, hcx, hx1, hx2⟩ := (h.below hb).at_ hlt
      have hin := HP.out.inn x (List.mem_of_getElem? HX.out)
      obtain ⟨y, hy⟩ : ∃ y, ls[x.toNat]? = some y := ⟨_, List.getElem?_eq_getElem (by rw [HL2.out]; have := HL.out; omega)⟩
      have hC' := hC wr hb x y hin.1 hy
      have hia := turnL_at HX.out hy
      have hyb := h2.2.1 y (List.mem_of_getElem? hy)
      have HO' : Hid (OwnI (wr.setCell ⟨w.heap.size, k, none⟩ (.int .i64 y)) w.heap.size 3 (some ⟨w.heap.size, 0, none⟩) n ((turnL ls xs).take (k + 1) ++ List.replicate (n - (k + 1)) 0)) := by
        unfold Hid; have := HO.out.set_ k y hyb; rwa [fill_set hia hR.out] at this
      have hb' := hb.setCell (p := ⟨w.heap.size, k, none⟩) (Nat.le_refl _) (.int .i64 y)
      clear HO hia hC hy hin
      go_wp2_with (go_at_call 40; refine hC'.mono ?_; rintro e w' ⟨rfl, rfl⟩)
      go_roundw
      case rel => exact ⟨k + 1, by omega, by go_num, HO', hb'⟩
      case measure => simp [intOf]; omega
    · obtain rfl : k = n := by omega
      have HF : Hid (OwnI wr w.heap.size 3 (some ⟨w.heap.size, 0, none⟩) k (turnL ls xs)) := by unfold Hid; have := HO.out; rwa [fill_done hR.out] at this
      go_wp2
      go_ret
      exact ⟨_, _, rfl, HF.out, hb⟩

/-- perm.Inverse -/
def invF (p : List Int) : List Int × Int := if ordF p = 0 then (invL p, 0) else ([], 1)
theorem ordF_two (p : List Int) : ordF p = 0 ∨ ordF p = 1 := by unfold ordF; split <;> simp
set_option maxRecDepth 100000 in
theorem inverse_any (A : Option Addr) (n c : Nat) (xs : List Int) (w : World) (h : Ints w w.heap.size A n xs) (hn : n ≤ 9223372036854775807) :
    Calls Try.prog 15 #[.slice A n c] w fun e w' => ∃ A' c', e = .returned (.tuple #[.slice A' (invF xs).1.length c', .int .i64 (invF xs).2]) ∧ OwnI w' w.heap.size 3 A' c' (invF xs).1 ∧ Below w.heap.size w w' := by
  have hC := check_ok A n c xs w w.heap.size h (Nat.le_refl _) hn
  rcases ordF_two xs with hz | hz
  · have HF : Hid (invF xs = (invL xs, 0)) := by unfold Hid invF; rw [if_pos hz]
    have hp := ordF_ok.1 hz
    have h12 : n ≤ 12 := by rw [← h.1]; exact hp.len
    have hE := fun W (hb : Below w.heap.size w W) => eachFind_ok A n c xs W ((h.below hb).more hb.size) h12 hp
    have HL : Hid ((invL xs).length = n) := by unfold Hid; rw [invL_length, h.1]
    rw [hz] at hC
    clear hz hp
    go_enter Try.func15, Try.ntmps15
    go_wp2_with (first | (go_at_call 22; refine hC.mono ?_; rintro e w1 ⟨rfl, hb1⟩) | (go_at_call 36; refine (hE _ hb1).mono ?_; rintro e w2 ⟨A', c', rfl, HO, hb2⟩))
    go_ret2
    refine ⟨A', c', by rw [HF.out]; dsimp only; rw [HL.out]; rfl, by rw [HF.out]; exact HO.mono hb1.size, hb1.trans (hb2.mono hb1.size)⟩
  · have HF : Hid (invF xs = ([], 1)) := by unfold Hid invF; rw [if_neg (by omega)]
    rw [hz] at hC
    clear hz
    go_enter Try.func15, Try.ntmps15
    go_wp2_with (go_at_call 22; refine hC.mono ?_; rintro e w1 ⟨rfl, hb1⟩)
    go_ret2
    exact ⟨none, 0, by rw [HF.out]; rfl, by rw [HF.out]; exact OwnI.nil_ _ _ _, hb1⟩

/-- perm.Turn -/
def turnF (l p : List Int) : List Int × Int := if ordF p = 0 then if l.length = p.length then (turnL l p, 0) else ([], 4) else ([], 1)
set_option maxRecDepth 100000 in
theorem turn_any (A2 A : Option Addr) (m c2 n c : Nat) (ls xs : List Int) (w : World) (h2 : Ints w w.heap.size A2 m ls) (h : Ints w w.heap.size A n xs) (hn : n ≤ 9223372036854775807) :
    Calls Try.prog 19 #[.slice A2 m c2, .slice A n c] w fun e w' => ∃ A' c', e = .returned (.tuple #[.slice A' (turnF ls xs).1.length c', .int .i64 (turnF ls xs).2]) ∧ OwnI w' w.heap.size 3 A' c' (turnF ls xs).1 ∧ Below w.heap.size w w' := by
  have hC := check_ok A n c xs w w.heap.size h (Nat.le_refl _) hn
  rcases ordF_two xs with hz | hz
  · have hp := ordF_ok.1 hz
    have h12 : n ≤ 12 := by rw [← h.1]; exact hp.len
    by_cases hmn : m = n
    · have HF : Hid (turnF ls xs = (turnL ls xs, 0)) := by unfold Hid turnF; rw [if_pos hz, if_pos (by rw [h.1, h2.1, hmn])]
      subst hmn
      have hE := fun W (hb : Below w.heap.size w W) => eachAt_ok A A2 m c c2 xs ls W ((h.below hb).more hb.size) ((h2.below hb).more hb.size) h12 hp
      have HL : Hid ((turnL ls xs).length = m) := by unfold Hid; rw [turnL_length, h.1]
      have e1 : ((m : Int) == m) = true := by simp
      have e2 : ((m : Int) != m) = false := by simp
      rw [hz] at hC
      clear hz hp
      go_enter Try.func19, Try.ntmps19
      go_wp2_with (first | (go_at_call 22; refine hC.mono ?_; rintro e w1 ⟨rfl, hb1⟩) | (go_at_call 39; refine (hE _ hb1).mono ?_; rintro e w2 ⟨A', c', rfl, HO, hb2⟩))
      go_ret2
      refine ⟨A', c', by rw [HF.out]; dsimp only; rw [HL.out]; rfl, by rw [HF.out]; exact HO.mono hb1.size, hb1.trans (hb2.mono hb1.size)⟩
    · have HF : Hid (turnF ls xs = ([], 4)) := by unfold Hid turnF; rw [if_pos hz, if_neg (by rw [h.1, h2.1]; exact hmn)]
      have e1 : ((m : Int) == n) = false := by simp; omega
      have e2 : ((m : Int) != n) = true := by simp; omega
      rw [hz] at hC
      clear hz hp hmn
      go_enter Try.func19, Try.ntmps19
      go_wp2_with (go_at_call 22; refine hC.mono ?_; rintro e w1 ⟨rfl, hb1⟩)
      go_ret2
      exact ⟨none, 0, by rw [HF.out]; rfl, by rw [HF.out]; exact OwnI.nil_ _ _ _, hb1⟩
  · have HF : Hid (turnF ls xs = ([], 1)) := by unfold Hid turnF; rw [if_neg (by omega)]
    rw [hz] at hC
    clear hz
    go_enter Try.func19, Try.ntmps19
    go_wp2_with (go_at_call 22; refine hC.mono ?_; rintro e w1 ⟨rfl, hb1⟩)
    go_ret2
    exact ⟨none, 0, by rw [HF.out]; rfl, by rw [HF.out]; exact OwnI.nil_ _ _ _, hb1⟩

/-- perm.After -/
def afterF (p q : List Int) : List Int × Int := if ordF p = 0 then turnF p q else ([], 1)
set_option maxRecDepth 100000 in
theorem after_any (A2 A : Option Addr) (m c2 n c : Nat) (ls xs : List Int) (w : World) (h2 : Ints w w.heap.size A2 m ls) (h : Ints w w.heap.size A n xs) (hm : m ≤ 9223372036854775807) (hn : n ≤ 9223372036854775807) :
    Calls Try.prog 17 #[.slice A2 m c2, .slice A n c] w fun e w' => ∃ A' c', e = .returned (.tuple #[.slice A' (afterF ls xs).1.length c', .int .i64 (afterF ls xs).2]) ∧ OwnI w' w.heap.size 3 A' c' (afterF ls xs).1 ∧ Below w.heap.size w w' := by
  have hC := check_ok A2 m c2 ls w w.heap.size h2 (Nat.le_refl _) hm
  rcases ordF_two ls with hz | hz
  · have HF : Hid (afterF ls xs = turnF ls xs) := by unfold Hid afterF; rw [if_pos hz]
    rw [hz] at hC
    have hT := fun W (hb : Below w.heap.size w W) => turn_any A2 A m c2 n c ls xs W ((h2.below hb).more hb.size) ((h.below hb).more hb.size) hn
    obtain ⟨R, hR⟩ : ∃ R, (turnF ls xs).1 = R := ⟨_, rfl⟩
    obtain ⟨E, hE⟩ : ∃ E, (turnF ls xs).2 = E := ⟨_, rfl⟩
    rw [hR, hE] at hT
    have HR : Hid ((afterF ls xs).1 = R ∧ (afterF ls xs).2 = E) := by unfold Hid; rw [HF.out]; exact ⟨hR, hE⟩
    clear hz hR hE HF
    go_enter Try.func17, Try.ntmps17
    go_wp2_with (first | (go_at_call 22; refine hC.mono ?_; rintro e w1 ⟨rfl, hb1⟩) | (go_at_call 19; refine (hT _ hb1).mono ?_; rintro e w2 ⟨A', c', rfl, HO, hb2⟩))
    go_ret2
    exact ⟨A', c', by rw [HR.out.1, HR.out.2]; rfl, by rw [HR.out.1]; exact HO.mono hb1.size, hb1.trans (hb2.mono hb1.size)⟩
  · have HF : Hid (afterF ls xs = ([], 1)) := by unfold Hid afterF; rw [if_neg (by omega)]
    rw [hz] at hC
    clear hz
    go_enter Try.func17, Try.ntmps17
    go_wp2_with (go_at_call 22; refine hC.mono ?_; rintro e w1 ⟨rfl, hb1⟩)
    go_ret2
    exact ⟨none, 0, by rw [HF.out]; rfl, by rw [HF.out]; exact OwnI.nil_ _ _ _, hb1⟩
end Go.Proofs.Ytnjjmeaggnlafaa
