/- The contracts of perm's pull, and of perm.Nth. -/
import Derived.Test.YtnjjmeaggnlafaaPRank
import Derived.Laws.CopyOwn
import Derived.StillTailTactics
namespace Go.Proofs.Ytnjjmeaggnlafaa
open Go.RowKit

theorem OwnI.blk {w : World} {base g : Nat} {e : TypeId} {c : Nat} {xs : List Int} (h : OwnI w base e (some ⟨g, 0, none⟩) c xs) :
    ∃ post : List Value, w.heap[g]? = some (.cells (xs.map (Value.int .i64) ++ post).toArray e (0, 0)) ∧ base ≤ g ∧ xs.length ≤ c ∧ c ≤ maxLen ∧ (xs.map (Value.int .i64) ++ post).length = c := by
  rcases h.1.2 with ⟨hv, _⟩ | ⟨g', cap, cur, hv, hb, hh, hc, hm, hs, ht⟩
  · cases hv
  · injection hv with h1 h2 h3
    injection h1 with h1
    injection h1 with h1
    subst h1; subst h3
    refine ⟨cur.toList.drop xs.length, ?_, hb, hc, hm, ?_⟩
    · rw [← ht, Nat.mul_one, List.take_append_drop]; simpa using hh
    · rw [← ht, Nat.mul_one, List.take_append_drop]; simpa using hs
theorem OwnI.of_blk {w : World} {base g : Nat} {e : TypeId} {c : Nat} {xs : List Int} {post : List Value} (h : w.heap[g]? = some (.cells (xs.map (Value.int .i64) ++ post).toArray e (0, 0))) (hb : base ≤ g) (hc : xs.length ≤ c) (hm : c ≤ maxLen)
    (hl : (xs.map (Value.int .i64) ++ post).length = c) (hx : ∀ x ∈ xs, -9223372036854775808 ≤ x ∧ x ≤ 9223372036854775807) : OwnI w base e (some ⟨g, 0, none⟩) c xs := by
  refine ⟨⟨by simp, .inr ⟨g, c, _, rfl, hb, h, hc, hm, by simpa using hl, ?_⟩⟩, hx⟩
  simp

/-- the number at k ahead of all that begin at off -/
def pullL (P : List Int) (off k : Nat) : List Int := P.take off ++ (P.drop off).getD k 0 :: (P.drop off).eraseIdx k
theorem pullL_eq {P : List Int} {off m k : Nat} {x : Int} (hm : P.length = off + m) (hk : k < m) (hx : P[off + k]? = some x) :
    (splice P (off + 1) ((P.drop off).take k)).set off x = pullL P off k := by
  have e1 : ((P.drop off).take k).length = k := by rw [List.length_take, List.length_drop]; omega
  obtain ⟨y, hy⟩ : ∃ y, P[off]? = some y := ⟨_, List.getElem?_eq_getElem (by omega)⟩
  unfold splice pullL
  rw [e1, take_succ_of hy, List.append_assoc, List.set_append_right _ _ (by rw [List.length_take]; omega)]
  have e2 : off - (P.take off).length = 0 := by rw [List.length_take]; omega
  rw [e2, List.singleton_append, List.set_cons_zero]
  have e3 : (P.drop off).getD k 0 = x := by rw [List.getD_eq_getElem?_getD, List.getElem?_drop, hx]; rfl
  rw [e3, List.eraseIdx_eq_take_drop_succ, List.drop_drop]
  have e4 : off + 1 + k = off + (k + 1) := by omega
  rw [e4]
theorem splice_map {α β : Type} (f : α → β) (P : List α) (post : List β) (off : Nat) (cs : List α) (h : off + cs.length ≤ P.length) : splice (P.map f ++ post) off (cs.map f) = (splice P off cs).map f ++ post := by
  unfold splice
  rw [List.take_append_of_le_length (by simp; omega), List.length_map, List.drop_append_of_le_length (by simp; omega)]
  simp
theorem pullL_length {P : List Int} {off m k : Nat} (hm : P.length = off + m) (hk : k < m) : (pullL P off k).length = P.length := by
  unfold pullL
  rw [List.length_append, List.length_take, List.length_cons, List.length_eraseIdx, List.length_drop]
  split <;> omega
theorem pullL_mem {P : List Int} {off m k : Nat} (hm : P.length = off + m) (hk : k < m) : ∀ x ∈ pullL P off k, x ∈ P := by
  intro x hx
  unfold pullL at hx
  rcases List.mem_append.1 hx with hx | hx
  · exact List.mem_of_mem_take hx
  · rcases List.mem_cons.1 hx with rfl | hx
    · rw [List.getD_eq_getElem?_getD, List.getElem?_eq_getElem (by rw [List.length_drop]; omega)]
      exact List.mem_of_mem_drop (List.getElem_mem _)
    · exact List.mem_of_mem_drop (List.mem_of_mem_eraseIdx hx)

set_option maxRecDepth 100000 in
theorem run_takeN {w : World} (A : Option Addr) (n c k : Nat) (hk : k ≤ n) (hc : n ≤ c) : (Instr.slice 54 (.slice A n c) none (some (.int .i64 (k : Int))) none).run Try.prog w = .ok (.slice A k c) w := by
  obtain ⟨i0, hi0, hz0, hz1, hz2⟩ := info_parts infoInt
  rw [run_slice_h w 54 A n c (by kernel_rfl) .i64 (k : Int) (by omega) (by omega)]
  have hs : (sizeOf (Try.prog.elem 54)).run Try.prog w = .ok 1 w := by
    have he : Try.prog.elem 54 = 3 := by kernel_rfl
    rw [he]; simp [sizeOf, typeInfo, hi0, hz1]
  rw [hs]
  simp only [Result.andThen, sliced, Int.toNat_natCast, Nat.zero_mul, Nat.sub_zero]
  have : (if c = 0 then A else A.map (·.add 0)) = A := by
    split
    · rfl
    · cases A <;> simp [Addr.add]
  rw [this]

set_option maxRecDepth 100000 in
theorem infoSize : (Try.prog.info? 3).map (·.size) = some 1 := by kernel_rfl
set_option maxRecDepth 100000 in
theorem pull_ok (g off m c k : Nat) (P : List Int) (w : World) (B : Nat) (h : OwnI w B 3 (some ⟨g, 0, none⟩) (off + c) P) (hm : P.length = off + m) (hk : k < m) (hm2 : m ≤ 100000) :
    Calls Try.prog 44 #[.slice (some ⟨g, off, none⟩) m c, .int .i64 (k : Int)] w fun e w' => e = .returned (.tuple #[]) ∧ OwnI w' B 3 (some ⟨g, 0, none⟩) (off + c) (pullL P off k) ∧ Below g w w' := by
  obtain ⟨x, hx⟩ : ∃ x, P[off + k]? = some x := ⟨_, List.getElem?_eq_getElem (by omega)⟩
  obtain ⟨hcx, hfx⟩ := h.cell_ hx
  obtain ⟨post, hblk, hBg, hlc, hmx, hlen⟩ := h.blk
  have hmc : m ≤ c := by omega
  have hs1 := fun W => run_dropN (w := W) (some ⟨g, off, none⟩) m c 1 (by omega)
  have hs2 := fun W => run_takeN (w := W) (some ⟨g, off, none⟩) m c k (by omega) hmc
  obtain ⟨D, hD⟩ : ∃ D, (if c = 1 then some (⟨g, off, none⟩ : Addr) else (some (⟨g, off, none⟩ : Addr)).map (·.add (1 * 1))) = D := ⟨_, rfl⟩
  rw [hD] at hs1
  simp only [Int.cast_ofNat_Int] at hs1
  have hcl : (((P.drop off).take k).map (Value.int .i64)).length = k := by rw [List.length_map, List.length_take, List.length_drop]; omega
  have hPl : (P.map (Value.int .i64)).length = off + m := by rw [List.length_map]; exact hm
  have hcs : ∀ j v, (((P.drop off).take k).map (Value.int .i64))[j]? = some v → w.drew.cell? ((⟨g, off, none⟩ : Addr).add j) = some v := by
    intro j v hj
    rw [List.getElem?_map, List.getElem?_take] at hj
    split at hj
    · rw [List.getElem?_drop] at hj
      obtain ⟨y, hy, rfl⟩ := Option.map_eq_some_iff.1 hj
      have := (h.cell_ hy).1
      by_cases hj0 : j = 0
      · subst hj0; simpa [Addr.add] using this
      · simpa [Addr.add, hj0] using this
    · cases hj
  have hpos : 0 < k → D = some ⟨g, off + 1, none⟩ := by
    intro h0; rw [← hD, if_neg (by omega)]; simp [Addr.add]
  obtain ⟨u, hu⟩ : ∃ u, (splice (P.map (Value.int .i64) ++ post) (off + 1) (((P.drop off).take k).map (Value.int .i64)))[off]? = some u :=
    ⟨_, List.getElem?_eq_getElem (by rw [length_splice _ _ _ (by rw [hcl, List.length_append, hPl]; omega), List.length_append, hPl]; omega)⟩
  have hfin : (splice (P.map (Value.int .i64) ++ post) (off + 1) (((P.drop off).take k).map (Value.int .i64))).set off (.int .i64 x) = (pullL P off k).map (Value.int .i64) ++ post := by
    rw [splice_map _ _ _ _ _ (by rw [List.length_take, List.length_drop]; omega)]
    have hl2 : (splice P (off + 1) ((P.drop off).take k)).length = off + m := by rw [length_splice _ _ _ (by rw [List.length_take, List.length_drop]; omega), hm]
    rw [List.set_append_left _ _ (by rw [List.length_map, hl2]; omega), ← List.map_set, pullL_eq hm hk hx]
  have hones := ints_one ((P.drop off).take k)
  have HU := Lib.hid hu
  have HCL := Lib.hid hcl
  have HPL := Lib.hid hPl
  have HCS := Lib.hid hcs
  have HPOS := Lib.hid hpos
  have HFIN := Lib.hid hfin
  have HONE := Lib.hid hones
  clear hcl hPl hcs hpos hu hfin hones
  have hblk2 : w.drew.heap[g]? = some (.cells (P.map (Value.int .i64) ++ post).toArray 3 (0, 0)) := hblk
  have HBLK := Lib.hid hblk2
  have HD := Lib.hid hD
  have HX := Lib.hid hx
  have HM := Lib.hid hm
  have HO := Lib.hid h
  clear hblk hblk2 hD hx hm h
  go_enter Try.func44, Try.ntmps44
  go_wp2
  go_still_tail 5, (by kernel_rfl)
  change wpList _ _ _ _ _ w.drew
  refine wpList_copy_splice rfl (.tmp 10) (.tmp 13) 54 54 rfl 3 Try.underlying54 infoSize D (some ⟨g, off, none⟩) (m - 1) (c - 1) k c rfl rfl g (off + 1) _ 3 HBLK.out (((P.drop off).take k).map (Value.int .i64)) (HCL.out.trans (Nat.min_eq_left (by omega)).symm) (fun h0 => ⟨HPOS.out (by rw [HCL.out] at h0; exact h0), _, rfl, HCS.out⟩) (by rw [HCL.out, List.length_append, HPL.out]; omega) HONE.out g w (Below.refl _ _).drew (Nat.le_refl _) ?_
  intro w1 hg1 hb1
  obtain ⟨hc1, hf1⟩ := blk_cell hg1.out HU.out
  go_wp2
  go_end0
  refine ⟨rfl, ?_, hb1.setCell (p := ⟨g, off, none⟩) (Nat.le_refl _) _⟩
  have hB2 := blk_set (i := off) hg1.out (.int .i64 x)
  rw [HFIN.out] at hB2
  refine OwnI.of_blk hB2 hBg (by rw [pullL_length HM.out hk]; omega) hmx ?_ (fun y hy => HO.out.2 y (pullL_mem HM.out hk y hy))
  rw [← hlen, List.length_append, List.length_append, List.length_map, List.length_map, pullL_length HM.out hk]
end Go.Proofs.Ytnjjmeaggnlafaa
