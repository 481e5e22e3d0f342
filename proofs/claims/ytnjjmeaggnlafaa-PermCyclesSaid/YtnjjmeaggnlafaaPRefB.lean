/- The contracts of the document's Inverse, After, Turn. -/
import Derived.Test.YtnjjmeaggnlafaaPRefA
namespace Go.Proofs.Ytnjjmeaggnlafaa
open Go.RowKit

theorem permB_ord (p : List Int) : (ordF p = 0 ∧ permB p = true ∧ Perm_ p) ∨ (ordF p = 1 ∧ permB p = false ∧ ¬ Perm_ p) := by
  unfold ordF
  cases h : permB p with
  | true => exact .inl ⟨by simp, rfl, permB_iff.1 h⟩
  | false => exact .inr ⟨by simp, rfl, fun hp => by rw [permB_iff.2 hp] at h; cases h⟩

set_option maxRecDepth 100000 in
theorem refInverse_any (A : Option Addr) (n c : Nat) (xs : List Int) (w : World) (h : Ints w w.heap.size A n xs) (hn : n ≤ 9223372036854775807) :
    Calls Try.prog 16 #[.slice A n c] w fun e w' => ∃ A' c', e = .returned (.tuple #[.slice A' (invF xs).1.length c', .int .i64 (invF xs).2]) ∧ OwnI w' w.heap.size 3 A' c' (invF xs).1 ∧ Below w.heap.size w w' := by
  have hI := is_ok A n c xs w w.heap.size h hn
  rcases permB_ord xs with ⟨ho, hb, hp⟩ | ⟨ho, hb, hp⟩
  · have HF : Hid (invF xs = (invL xs, 0)) := by unfold Hid invF; rw [if_pos ho]
    have HL : Hid (xs.length = n) := h.1
    have h12 : n ≤ 12 := by rw [← h.1]; exact hp.len
    have HP := Lib.hid hp
    rw [hb] at hI
    obtain ⟨i0, hi0, hz0, hz1, hz2⟩ := info_parts infoInt
    have hmk := fun W => run_makeAll (P := Try.prog) 22 3 i0 Try.underlying22 hi0 hz0 hz1 hz2 n (by omega) W
    have HLi : Hid ((invL xs).length = n) := by unfold Hid; rw [invL_length, HL.out]
    have H0 : Hid (List.replicate n (0 : Int) = invTo xs 0) := by unfold Hid; rw [invTo_zero, HL.out]
    have HIL : Hid (∀ k, (invTo xs k).length = n) := by intro k; simp [invTo, HL.out]
    clear ho hb hp
    go_enter Try.func16, Try.ntmps16
    go_wp2_with (go_at_call 38; refine hI.mono ?_; rintro e w' ⟨rfl, rfl⟩)
    go_loopw [15] (fun i wr => ∃ k : Nat, k ≤ n ∧ i = .int .i64 k ∧ Hid (OwnI wr w.heap.size 3 (some ⟨w.heap.size, 0, none⟩) n (invTo xs k)) ∧ Below w.heap.size w wr) (fun i _ => n - (intOf i).toNat)
    case atStart => exact ⟨0, Nat.zero_le _, rfl, by unfold Hid; rw [← H0.out]; exact own_made w 3 n w.heap.size (Nat.le_refl _) (by omega), (Below.refl _ w).alloc (Nat.le_refl _) _⟩
    case round =>
      obtain ⟨k, hk, rfl, HO, hb⟩ := hrel
      by_cases hlt : k < n
      · obtain ⟨b, off, x, rfl, _, HX, hcx, hx1, hx2⟩ := (h.below hb).at_ hlt
        have hin := HP.out.inn x (List.mem_of_getElem? HX.out)
        rw [HL.out] at hin
        obtain ⟨y, rfl⟩ : ∃ y : Nat, x = y := ⟨x.toNat, by omega⟩
        have hyn : y < n := by omega
        obtain ⟨u, hu⟩ : ∃ u, (invTo xs k)[y]? = some u := ⟨_, List.getElem?_eq_getElem (by rw [HIL.out k]; exact hyn)⟩
        obtain ⟨hc, hf⟩ := HO.out.cell_ hu
        have HO' : Hid (OwnI (wr.setCell ⟨w.heap.size, y, none⟩ (.int .i64 (k : Int))) w.heap.size 3 (some ⟨w.heap.size, 0, none⟩) n (invTo xs (k + 1))) := by
          unfold Hid; have := HO.out.set_ y (k : Int) (by omega); rwa [invTo_set HP.out HX.out] at this
        have hb' := hb.setCell (p := ⟨w.heap.size, y, none⟩) (Nat.le_refl _) (.int .i64 (k : Int))
        have hy2 : (y : Int) < n := by omega
        clear HO hu hin
        go_wp2
        go_roundw
        case rel => exact ⟨k + 1, by omega, by go_num, HO', hb'⟩
        case measure => simp [intOf]; omega
      · have HFF : Hid (OwnI wr w.heap.size 3 (some ⟨w.heap.size, 0, none⟩) n (invL xs)) := by
          unfold Hid; have := HO.out; rwa [show k = xs.length by rw [HL.out]; omega, invTo_all HP.out] at this
        go_wp2
        go_ret2
        exact ⟨_, _, by rw [HF.out]; dsimp only; rw [HLi.out]; rfl, by rw [HF.out]; exact HFF.out, hb⟩
  · have HF : Hid (invF xs = ([], 1)) := by unfold Hid invF; rw [if_neg (by omega)]
    rw [hb] at hI
    clear ho hb hp
    go_enter Try.func16, Try.ntmps16
    go_wp2_with (go_at_call 38; refine hI.mono ?_; rintro e w' ⟨rfl, rfl⟩)
    go_ret2
    exact ⟨none, 0, by rw [HF.out]; rfl, by rw [HF.out]; exact OwnI.nil_ _ _ _, Below.refl _ _⟩

set_option maxRecDepth 100000 in
set_option maxHeartbeats 1000000 in
theorem refTurn_any (A2 A : Option Addr) (m c2 n c : Nat) (ls xs : List Int) (w : World) (h2 : Ints w w.heap.size A2 m ls) (h : Ints w w.heap.size A n xs) (hn : n ≤ 9223372036854775807) :
    Calls Try.prog 20 #[.slice A2 m c2, .slice A n c] w fun e w' => ∃ A' c', e = .returned (.tuple #[.slice A' (turnF ls xs).1.length c', .int .i64 (turnF ls xs).2]) ∧ OwnI w' w.heap.size 3 A' c' (turnF ls xs).1 ∧ Below w.heap.size w w' := by
  have hI := is_ok A n c xs w w.heap.size h hn
  rcases permB_ord xs with ⟨ho, hb, hp⟩ | ⟨ho, hb, hp⟩
  · rw [hb] at hI
    by_cases hmn : m = n
    · subst hmn
      have HF : Hid (turnF ls xs = (turnL ls xs, 0)) := by unfold Hid turnF; rw [if_pos ho, if_pos (by rw [h.1, h2.1])]
      have HL : Hid (xs.length = m) := h.1
      have HL2 : Hid (ls.length = m) := h2.1
      have h12 : m ≤ 12 := by rw [← h.1]; exact hp.len
      have HP := Lib.hid hp
      have e1 : ((m : Int) == m) = true := by simp
      have e2 : ((m : Int) != m) = false := by simp
      have HLt : Hid ((turnL ls xs).length = m) := by unfold Hid; rw [turnL_length, HL.out]
      obtain ⟨i0, hi0, hz0, hz1, hz2⟩ := info_parts infoInt
      clear ho hb hp
      go_enter Try.func20, Try.ntmps20
      go_wp2_with (go_at_call 38; refine hI.mono ?_; rintro e w' ⟨rfl, rfl⟩)
      go_loopw [6, 19] (fun v u wr => ∃ (A' : Option Addr) (c' k : Nat), v = .slice A' k c' ∧ u = .int .i64 k ∧ k ≤ m ∧ Hid (OwnI wr w.heap.size 3 A' c' ((turnL ls xs).take k)) ∧ Below w.heap.size w wr) (fun _ u _ => m - (intOf u).toNat)
      case atStart => exact ⟨none, 0, 0, rfl, rfl, Nat.zero_le _, by unfold Hid; rw [List.take_zero]; exact OwnI.nil_ _ _ _, Below.refl _ _⟩
      case round =>
        obtain ⟨A', c', k, rfl, rfl, hk, HO, hb⟩ := hrel
        by_cases hlt : k < m
        · have hsz := hb.size
          obtain ⟨b, off, x, rfl, _, HX, hcx, hx1, hx2⟩ := (h.below hb).at_ hlt
          have hin := HP.out.inn x (List.mem_of_getElem? HX.out)
          rw [HL.out] at hin
          obtain ⟨b2, off2, y, rfl, _, HY, hcy, hy1, hy2⟩ := (h2.below hb).at_ (k := x.toNat) (by omega)
          have HLk : Hid (((turnL ls xs).take k).length = k) := by unfold Hid; rw [List.length_take, HLt.out]; omega
          have HS : Hid ((turnL ls xs).take k ++ [y] = (turnL ls xs).take (k + 1)) := by unfold Hid; rw [take_succ_of (turnL_at HX.out HY.out)]
          have hbig : -9223372036854775808 ≤ y ∧ y ≤ 9223372036854775807 := ⟨hy1, hy2⟩
          have hx0 : 0 ≤ x := hin.1
          have hxm : x < m := hin.2
          clear hin
          go_wp2_with (at_builtin; refine wpList_appendInts _ rfl (.tmp 23) (.tmp 28) 22 rfl w.heap.size 3 i0 Try.underlying22 hi0 hz0 hz1 hz2 A' (some ⟨wr.heap.size, 0, none⟩) c' 1 1 (wr.heap.size + 1) k (k + 1) ((turnL ls xs).take k) [y] rfl rfl (HO.out.alloc _) HLk.out rfl (src_new wr hbig) (by omega) (by simp; omega) ?_; intro A4 c4 w2 HO2 HG2; have hb2 := below_app (hb.alloc hsz _) HG2 (HO.out.alloc _) HLk.out (by simp; omega); rw [HS.out] at HO2; have HO3 := Lib.hid HO2; clear HO2 HG2)
          go_roundw
          case rel => exact ⟨A4, c4, k + 1, rfl, by go_num, by omega, HO3, hb2⟩
          case measure => simp [intOf]; omega
        · have HFF : Hid (OwnI wr w.heap.size 3 A' c' (turnL ls xs)) := by unfold Hid; have := HO.out; rwa [List.take_of_length_le (by rw [HLt.out]; omega)] at this
          obtain rfl : k = m := by omega
          go_wp2
          go_ret2
          exact ⟨A', c', by rw [HF.out]; dsimp only; rw [HLt.out]; rfl, by rw [HF.out]; exact HFF.out, hb⟩
    · have HF : Hid (turnF ls xs = ([], 4)) := by unfold Hid turnF; rw [if_pos ho, if_neg (by rw [h.1, h2.1]; exact hmn)]
      have e1 : ((m : Int) == n) = false := by simp; omega
      have e2 : ((m : Int) != n) = true := by simp; omega
      clear ho hb hp hmn
      go_enter Try.func20, Try.ntmps20
      go_wp2_with (go_at_call 38; refine hI.mono ?_; rintro e w' ⟨rfl, rfl⟩)
      go_ret2
      exact ⟨none, 0, by rw [HF.out]; rfl, by rw [HF.out]; exact OwnI.nil_ _ _ _, Below.refl _ _⟩
  · have HF : Hid (turnF ls xs = ([], 1)) := by unfold Hid turnF; rw [if_neg (by omega)]
    rw [hb] at hI
    clear ho hb hp
    go_enter Try.func20, Try.ntmps20
    go_wp2_with (go_at_call 38; refine hI.mono ?_; rintro e w' ⟨rfl, rfl⟩)
    go_ret2
    exact ⟨none, 0, by rw [HF.out]; rfl, by rw [HF.out]; exact OwnI.nil_ _ _ _, Below.refl _ _⟩

set_option maxRecDepth 100000 in
set_option maxHeartbeats 1000000 in
theorem refAfter_any (A2 A : Option Addr) (m c2 n c : Nat) (ls xs : List Int) (w : World) (h2 : Ints w w.heap.size A2 m ls) (h : Ints w w.heap.size A n xs) (hm : m ≤ 9223372036854775807) (hn : n ≤ 9223372036854775807) :
    Calls Try.prog 18 #[.slice A2 m c2, .slice A n c] w fun e w' => ∃ A' c', e = .returned (.tuple #[.slice A' (afterF ls xs).1.length c', .int .i64 (afterF ls xs).2]) ∧ OwnI w' w.heap.size 3 A' c' (afterF ls xs).1 ∧ Below w.heap.size w w' := by
  have hI := is_ok A n c xs w w.heap.size h hn
  have hI2 := is_ok A2 m c2 ls w w.heap.size h2 hm
  by_cases hz : ordF ls = 0
  case neg =>
    have HF : Hid (afterF ls xs = ([], 1)) := by unfold Hid afterF; rw [if_neg hz]
    rcases permB_ord ls with ⟨ho2, hb2, hp2⟩ | ⟨ho2, hb2, hp2⟩
    · exact absurd ho2 hz
    rw [hb2] at hI2
    clear ho2 hb2 hp2 hz
    go_enter Try.func18, Try.ntmps18
    go_wp2_with (go_at_call 38; refine hI2.mono ?_; rintro e w' ⟨rfl, rfl⟩)
    go_ret2
    exact ⟨none, 0, by rw [HF.out]; rfl, by rw [HF.out]; exact OwnI.nil_ _ _ _, Below.refl _ _⟩
  have ho2 := hz
  have hb2 : permB ls = true := permB_iff.2 (ordF_ok.1 hz)
  have hp2 := hz
  rw [hb2] at hI2
  clear hb2 hp2
  rcases permB_ord xs with ⟨ho, hb, hp⟩ | ⟨ho, hb, hp⟩
  · rw [hb] at hI
    by_cases hmn : m = n
    · subst hmn
      have HF : Hid (afterF ls xs = (turnL ls xs, 0)) := by unfold Hid afterF turnF; rw [if_pos ho2, if_pos ho, if_pos (by rw [h.1, h2.1])]
      have HL : Hid (xs.length = m) := h.1
      have HL2 : Hid (ls.length = m) := h2.1
      have h12 : m ≤ 12 := by rw [← h.1]; exact hp.len
      have HP := Lib.hid hp
      have e1 : ((m : Int) == m) = true := by simp
      have e2 : ((m : Int) != m) = false := by simp
      have HLt : Hid ((turnL ls xs).length = m) := by unfold Hid; rw [turnL_length, HL.out]
      obtain ⟨i0, hi0, hz0, hz1, hz2⟩ := info_parts infoInt
      clear ho hb hp ho2 hz
      go_enter Try.func18, Try.ntmps18
      go_wp2_with (first | (go_at_call 38; (with_reducible refine hI.mono ?_); rintro e w' ⟨rfl, rfl⟩) | (go_at_call 38; (with_reducible refine hI2.mono ?_); rintro e w' ⟨rfl, rfl⟩))
      go_loopw [6, 24] (fun v u wr => ∃ (A' : Option Addr) (c' k : Nat), v = .slice A' k c' ∧ u = .int .i64 k ∧ k ≤ m ∧ Hid (OwnI wr w.heap.size 3 A' c' ((turnL ls xs).take k)) ∧ Below w.heap.size w wr) (fun _ u _ => m - (intOf u).toNat)
      case atStart => exact ⟨none, 0, 0, rfl, rfl, Nat.zero_le _, by unfold Hid; rw [List.take_zero]; exact OwnI.nil_ _ _ _, Below.refl _ _⟩
      case round =>
        obtain ⟨A', c', k, rfl, rfl, hk, HO, hb⟩ := hrel
        by_cases hlt : k < m
        · have hsz := hb.size
          obtain ⟨b, off, x, rfl, _, HX, hcx, hx1, hx2⟩ := (h.below hb).at_ hlt
          have hin := HP.out.inn x (List.mem_of_getElem? HX.out)
          rw [HL.out] at hin
          obtain ⟨b2, off2, y, rfl, _, HY, hcy, hy1, hy2⟩ := (h2.below hb).at_ (k := x.toNat) (by omega)
          have HLk : Hid (((turnL ls xs).take k).length = k) := by unfold Hid; rw [List.length_take, HLt.out]; omega
          have HS : Hid ((turnL ls xs).take k ++ [y] = (turnL ls xs).take (k + 1)) := by unfold Hid; rw [take_succ_of (turnL_at HX.out HY.out)]
          have hbig : -9223372036854775808 ≤ y ∧ y ≤ 9223372036854775807 := ⟨hy1, hy2⟩
          have hx0 : 0 ≤ x := hin.1
          have hxm : x < m := hin.2
          clear hin
          go_wp2_with (at_builtin; refine wpList_appendInts _ rfl (.tmp 28) (.tmp 33) 22 rfl w.heap.size 3 i0 Try.underlying22 hi0 hz0 hz1 hz2 A' (some ⟨wr.heap.size, 0, none⟩) c' 1 1 (wr.heap.size + 1) k (k + 1) ((turnL ls xs).take k) [y] rfl rfl (HO.out.alloc _) HLk.out rfl (src_new wr hbig) (by omega) (by simp; omega) ?_; intro A4 c4 w2 HO2 HG2; have hb2 := below_app (hb.alloc hsz _) HG2 (HO.out.alloc _) HLk.out (by simp; omega); rw [HS.out] at HO2; have HO3 := Lib.hid HO2; clear HO2 HG2)
          go_roundw
          case rel => exact ⟨A4, c4, k + 1, rfl, by go_num, by omega, HO3, hb2⟩
          case measure => simp [intOf]; omega
        · have HFF : Hid (OwnI wr w.heap.size 3 A' c' (turnL ls xs)) := by unfold Hid; have := HO.out; rwa [List.take_of_length_le (by rw [HLt.out]; omega)] at this
          obtain rfl : k = m := by omega
          go_wp2
          go_ret2
          exact ⟨A', c', by rw [HF.out]; dsimp only; rw [HLt.out]; rfl, by rw [HF.out]; exact HFF.out, hb⟩
    · have HF : Hid (afterF ls xs = ([], 4)) := by unfold Hid afterF turnF; rw [if_pos ho2, if_pos ho, if_neg (by rw [h.1, h2.1]; exact hmn)]
      have e1 : ((m : Int) == n) = false := by simp; omega
      have e2 : ((m : Int) != n) = true := by simp; omega
      clear ho hb hp ho2 hz hmn
      go_enter Try.func18, Try.ntmps18
      go_wp2_with (first | (go_at_call 38; (with_reducible refine hI.mono ?_); rintro e w' ⟨rfl, rfl⟩) | (go_at_call 38; (with_reducible refine hI2.mono ?_); rintro e w' ⟨rfl, rfl⟩))
      go_ret2
      exact ⟨none, 0, by rw [HF.out]; rfl, by rw [HF.out]; exact OwnI.nil_ _ _ _, Below.refl _ _⟩
  · have HF : Hid (afterF ls xs = ([], 1)) := by unfold Hid afterF turnF; rw [if_pos ho2, if_neg (by omega)]
    rw [hb] at hI
    clear ho hb hp ho2 hz
    go_enter Try.func18, Try.ntmps18
    go_wp2_with (first | (go_at_call 38; (with_reducible refine hI.mono ?_); rintro e w' ⟨rfl, rfl⟩) | (go_at_call 38; (with_reducible refine hI2.mono ?_); rintro e w' ⟨rfl, rfl⟩))
    go_ret2
    exact ⟨none, 0, by rw [HF.out]; rfl, by rw [HF.out]; exact OwnI.nil_ _ _ _, Below.refl _ _⟩

end Go.Proofs.Ytnjjmeaggnlafaa
