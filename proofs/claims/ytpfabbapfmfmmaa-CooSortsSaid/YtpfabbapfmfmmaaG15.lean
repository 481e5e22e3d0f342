/- slices.DeleteFunc at entries, as coo.Trim calls it; coo.Trim. -/
import Derived.Test.YtpfabbapfmfmmaaG14
import Derived.Laws.IdiomCopy
import Derived.Test.YtpfabbapfmfmmaaG11
import Derived.Test.YtpfabbapfmfmmaaG4
namespace Go.Proofs.Ytpfabbapfmfmmaa
open Go.RowKit

def nzE (x : Ent) : Bool := !(x.v == 0)
set_option maxRecDepth 100000 in
theorem trim1_any (A : Option Addr) (n c : Nat) (v : Int) (w : World) (R : Bool) (HR : Hid ((v == 0) = R)) :
    Calls Try.prog 50 #[.agg #[.slice A n c, .int .i64 v]] w fun e w' => e = .returned (.bool R) ∧ w' = w.alloc (.cells #[.slice A n c, .int .i64 v] 37) := by
  have hr := HR.out
  go_enter Try.func50, Try.ntmps50
  go_wp2
  go_ret
  exact ⟨rfl, rfl⟩

set_option maxRecDepth 100000 in
set_option maxHeartbeats 1000000 in
theorem index_none (A : Option Addr) (n c : Nat) (es : List Ent) (w : World) (h : Ents w w.heap.size A n es) (hn : n ≤ 9223372036854775807) (hz : ∀ x ∈ es, x.v ≠ 0) :
    Calls Try.prog 74 #[.slice A n c, .func (.func 50) #[] #[]] w fun e w' => e = .returned (.int .i64 (-1)) ∧ Below w.heap.size w w' := by
  have HZ := Lib.hid hz
  clear hz
  go_enter Try.func74, Try.ntmps74
  go_wp2
  go_loopw [8] (fun i wr => ∃ k : Nat, k ≤ n ∧ i = .int .i64 k ∧ Below w.heap.size w wr) (fun i _ => n - (intOf i).toNat)
  case atStart => exact ⟨0, Nat.zero_le _, rfl, Below.refl _ _⟩
  case round =>
    obtain ⟨k, hk, rfl, hT⟩ := hrel
    by_cases hlt : k < n
    · obtain ⟨b, off, x, rfl, hbb, HX, hc0, hc1, _, _, _, hx3, hx4⟩ := (h.below hT).at_ hlt
      have HT1 := fun W => trim1_any x.A x.n x.c x.v W false (Lib.hid (by have := HZ.out x (List.mem_of_getElem? HX.out); simpa using this))
      have hc2 : wr.cell? ⟨b, off + k * 2, none⟩ = some (.slice x.A x.n x.c) := by rw [Nat.mul_comm k 2]; exact hc0
      have hc3 : wr.cell? ⟨b, off + k * 2 + 1, none⟩ = some (.int .i64 x.v) := by rw [Nat.mul_comm k 2]; exact hc1
      have hT2 := hT.alloc hT.size (.cells #[.slice x.A x.n x.c, .int .i64 x.v] 37)
      clear hc0 hc1
      go_wp2_with fail
      refine (HT1 _).mono ?_
      rintro e w3 ⟨rfl, rfl⟩
      go_wp2_with fail
      go_roundw
      case rel => exact ⟨k + 1, by omega, by go_num, hT2⟩
      case measure => simp [intOf]; omega
    · go_wp2
      go_ret
      exact ⟨rfl, hT⟩
set_option maxRecDepth 100000 in
set_option maxHeartbeats 1000000 in
theorem index_some (A : Option Addr) (n c : Nat) (es : List Ent) (w : World) (h : Ents w w.heap.size A n es) (hn : n ≤ 9223372036854775807) (p : Nat) (y : Ent) (hp : es[p]? = some y) (hy : y.v = 0) (hz : ∀ x ∈ es.take p, x.v ≠ 0) :
    Calls Try.prog 74 #[.slice A n c, .func (.func 50) #[] #[]] w fun e w' => e = .returned (.int .i64 (p : Int)) ∧ Below w.heap.size w w' := by
  have hpn : p < n := by rw [← h.1]; exact (List.getElem?_eq_some_iff.1 hp).1
  have HP := Lib.hid hp
  have HY := Lib.hid hy
  have HZ := Lib.hid hz
  clear hz hp hy
  go_enter Try.func74, Try.ntmps74
  go_wp2
  go_loopw [8] (fun i wr => ∃ k : Nat, k ≤ p ∧ i = .int .i64 k ∧ Below w.heap.size w wr) (fun i _ => n - (intOf i).toNat)
  case atStart => exact ⟨0, Nat.zero_le _, rfl, Below.refl _ _⟩
  case round =>
    obtain ⟨k, hk, rfl, hT⟩ := hrel
    have hlt : k < n := by omega
    obtain ⟨b, off, x, rfl, hbb, HX, hc0, hc1, _, _, _, hx3, hx4⟩ := (h.below hT).at_ hlt
    have hc2 : wr.cell? ⟨b, off + k * 2, none⟩ = some (.slice x.A x.n x.c) := by rw [Nat.mul_comm k 2]; exact hc0
    have hc3 : wr.cell? ⟨b, off + k * 2 + 1, none⟩ = some (.int .i64 x.v) := by rw [Nat.mul_comm k 2]; exact hc1
    have hT2 := hT.alloc hT.size (.cells #[.slice x.A x.n x.c, .int .i64 x.v] 37)
    clear hc0 hc1
    rcases Nat.lt_or_ge k p with hkp | hkp
    · have HT1 := fun W => trim1_any x.A x.n x.c x.v W false (by
        have hm : x ∈ es.take p := List.mem_of_getElem? (i := k) (by rw [List.getElem?_take_of_lt hkp]; exact HX.out)
        have := HZ.out x hm; exact Lib.hid (by simpa using this))
      go_wp2_with fail
      refine (HT1 _).mono ?_
      rintro e w3 ⟨rfl, rfl⟩
      go_wp2_with fail
      go_roundw
      case rel => exact ⟨k + 1, by omega, by go_num, hT2⟩
      case measure => simp [intOf]; omega
    · have hkq : Hid (k = p) := by unfold Hid; omega
      have HT1 := fun W => trim1_any x.A x.n x.c x.v W true (by
        have e : x = y := by have h1 := HX.out; rw [hkq.out, HP.out] at h1; exact (Option.some.inj h1).symm
        rw [e]; unfold Hid; rw [HY.out]; rfl)
      go_wp2_with fail
      refine (HT1 _).mono ?_
      rintro e w3 ⟨rfl, rfl⟩
      go_wp2_with fail
      go_ret
      exact ⟨by rw [hkq.out]; rfl, hT2⟩

/-! ### a part of a block, written at once -/
theorem blk_setCells {g : Nat} {t : TypeId} : ∀ (vs : List Value) (o : Nat) (L : List Value) (w : World), w.heap[g]? = some (.cells L.toArray t (0, 0)) → o + vs.length ≤ L.length →
    (w.setCells g o vs).heap[g]? = some (.cells (L.take o ++ vs ++ L.drop (o + vs.length)).toArray t (0, 0)) ∧ w.grownBy (w.setCells g o vs) (some g)
  | [], o, L, w, h, _ => ⟨by simpa [World.setCells] using h, grown_same w g⟩
  | v :: vs, o, L, w, h, hl => by
    have h1 := blkE_set (i := o) h v
    have hl' : o + (vs.length + 1) ≤ L.length := hl
    obtain ⟨h2, h3⟩ := blk_setCells vs (o + 1) (L.set o v) (w.setCell ⟨g, o, none⟩ v) h1 (by rw [List.length_set]; omega)
    refine ⟨?_, grown_trans (grownBy_setE (grown_same w g) o v) h3⟩
    have e : (L.set o v).take (o + 1) ++ vs ++ (L.set o v).drop (o + 1 + vs.length) = L.take o ++ (v :: vs) ++ L.drop (o + (v :: vs).length) := by
      have ho : o < L.length := by omega
      rw [List.take_add_one, List.getElem?_set_self ho, List.take_set_of_le (Nat.le_refl _), List.drop_set_of_lt (by omega)]
      simp [Nat.add_assoc, Nat.add_comm 1]
    rw [e] at h2
    exact h2
theorem part_list {α : Type} (F S P Z : List α) (a : Nat) (ha : F.length = a) (hz : Z.length = S.length) : (F ++ S ++ P).take a ++ Z ++ (F ++ S ++ P).drop (a + Z.length) = F ++ (Z ++ P) := by
  subst ha
  rw [hz, List.append_assoc F S P, List.take_left, List.append_assoc, ← List.drop_drop, List.drop_left, List.drop_left]
def zeroE : Ent := ⟨none, 0, 0, [], 0⟩
theorem zeroCells_ents (n : Nat) : (Builtin.zeroCells #[.slice none 0 0, .int .i64 0] n).toList = cellsE (List.replicate n zeroE) := by
  apply List.ext_getElem?
  intro j
  by_cases hj : j < n * 2
  · have hk : j / 2 < n := by omega
    have hz := cellsE_at (es := List.replicate n zeroE) (k := j / 2) (List.getElem?_replicate_of_lt hk)
    have hl : (Builtin.zeroCells #[.slice none 0 0, .int .i64 0] n).toList[j]? = some ((#[Value.slice none 0 0, .int .i64 0] : Array Value)[j % 2]!) := by
      simp [Builtin.zeroCells, hj]
    rw [hl]
    rcases Nat.mod_two_eq_zero_or_one j with hm | hm
    · have e : j = 2 * (j / 2) := by omega
      rw [hm]
      conv => rhs; rw [e]
      rw [hz.1]; rfl
    · have e : j = 2 * (j / 2) + 1 := by omega
      rw [hm]
      conv => rhs; rw [e]
      rw [hz.2]; rfl
  · rw [List.getElem?_eq_none (by simp [Builtin.zeroCells]; omega), List.getElem?_eq_none (by rw [cellsE_length]; simp; omega)]
theorem run_clearE (w : World) (g i n c : Nat) (F S : List Ent) (post : List Value) (hr : RowE w g (F ++ S) post) (hF : F.length = i) (hS : S.length = n) (hn : 0 < n) :
    ∃ w', (∀ ty, (Builtin.clear_ #[23] ty #[.slice (some ⟨g, i * 2, none⟩) n c]).run Try.prog w = .ok (.tuple #[]) w') ∧ RowE w' g F (cellsE (List.replicate n zeroE) ++ post) ∧ w.grownBy w' (some g) := by
  have hlF := cellsE_length F
  have hlS := cellsE_length S
  have hlZ := cellsE_length (List.replicate n zeroE)
  rw [List.length_replicate] at hlZ
  have hr' := hr
  unfold RowE at hr'
  rw [cellsE_append] at hr'
  have hcell : ∀ j, j < n * 2 → (w.cell? ⟨g, i * 2 + j, none⟩).isSome = true ∧ w.frozen? ⟨g, i * 2 + j, none⟩ = false := fun j hj => by
    have hlt : i * 2 + j < (cellsE F ++ cellsE S ++ post).length := by simp only [List.length_append]; omega
    refine ⟨?_, by simp [World.frozen?, hr']⟩
    rw [cell_of_row _ _ (i * 2 + j) _ _ (0, 0) hr']
    rw [List.getElem?_toArray, List.getElem?_eq_getElem hlt]; rfl
  have hst := run_storeCells_cells (P := Try.prog) g (i * 2) (cellsE (List.replicate n zeroE)) 0 w (fun j hj => by rw [Nat.add_zero]; exact (hcell j (by omega)).1) (fun j hj => by rw [Nat.add_zero]; exact (hcell j (by omega)).2) (fun v hv => cellsE_one _ v hv)
  rw [Nat.add_zero] at hst
  have hb := blk_setCells (cellsE (List.replicate n zeroE)) (i * 2) _ w hr' (by simp only [List.length_append]; omega)
  refine ⟨_, fun ty => ?_, ?_, hb.2⟩
  · obtain ⟨m, rfl⟩ : ∃ m, n = m + 1 := ⟨n - 1, by omega⟩
    have hz := zeroCells_ents (m + 1)
    simp only [Builtin.clear_]
    simp [run_underlying Try.underlying23, Try.zeroValue37, Value.cells, hz, hst]
  · unfold RowE
    rw [hb.1, part_list (cellsE F) (cellsE S) post (cellsE (List.replicate n zeroE)) (i * 2) (by omega) (by omega)]
end Go.Proofs.Ytpfabbapfmfmmaa
/- coo.Trim: the entries of 0 are left out. -/
namespace Go.Proofs.Ytpfabbapfmfmmaa
open Go.RowKit

set_option maxRecDepth 100000 in
theorem run_takeF {w : World} (A : Option Addr) (n c k : Nat) (hk : k ≤ n) (hc : n ≤ c) : (Instr.slice 23 (.slice A n c) none (some (.int .i64 (k : Int))) none).run Try.prog w = .ok (.slice A k c) w := by
  obtain ⟨i0, hi0, hz0, hz1, hz2⟩ := info_parts infoEnt
  rw [run_slice_h w 23 A n c (by kernel_rfl) .i64 (k : Int) (by omega) (by omega)]
  have hs : (sizeOf (Try.prog.elem 23)).run Try.prog w = .ok 2 w := by
    have he : Try.prog.elem 23 = 37 := by kernel_rfl
    rw [he]; simp [sizeOf, typeInfo, hi0, hz1]
  rw [hs]
  simp only [Result.andThen, sliced, Int.toNat_natCast, Nat.zero_mul, Nat.sub_zero]
  have : (if c = 0 then A else A.map (·.add 0)) = A := by
    split
    · rfl
    · cases A <;> simp [Addr.add]
  rw [this]
set_option maxRecDepth 100000 in
theorem run_dropF {w : World} (g n c k : Nat) (hk : k < n) (hc : n ≤ c) : (Instr.slice 23 (.slice (some ⟨g, 0, none⟩) n c) (some (.int .i64 (k : Int))) none none).run Try.prog w = .ok (.slice (some ⟨g, k * 2, none⟩) (n - k) (c - k)) w := by
  obtain ⟨i0, hi0, hz0, hz1, hz2⟩ := info_parts infoEnt
  rw [run_slice_l w 23 (some ⟨g, 0, none⟩) n c (by kernel_rfl) .i64 (k : Int) (by omega) (by omega)]
  have hs : (sizeOf (Try.prog.elem 23)).run Try.prog w = .ok 2 w := by
    have he : Try.prog.elem 23 = 37 := by kernel_rfl
    rw [he]; simp [sizeOf, typeInfo, hi0, hz1]
  rw [hs]
  simp only [Result.andThen, sliced, Int.toNat_natCast]
  rw [if_neg (by omega)]
  by_cases h0 : k * 2 = 0
  · have : k = 0 := by omega
    subst this; simp [Addr.add]
  · simp [Addr.add, h0]
theorem filter_all {l : List Ent} (h : ∀ x ∈ l, x.v ≠ 0) : l.filter nzE = l := List.filter_eq_self.2 fun x hx => by unfold nzE; simp [h x hx]
theorem first_zero : ∀ (es : List Ent), (∀ x ∈ es, x.v ≠ 0) ∨ ∃ p y, es[p]? = some y ∧ y.v = 0 ∧ ∀ x ∈ es.take p, x.v ≠ 0
  | [] => .inl (by simp)
  | z :: es => by
    by_cases hz : z.v = 0
    · exact .inr ⟨0, z, rfl, hz, by simp⟩
    · rcases first_zero es with h | ⟨p, y, h1, h2, h3⟩
      · exact .inl fun x hx => by rcases List.mem_cons.1 hx with rfl | hx; exact hz; exact h x hx
      · exact .inr ⟨p + 1, y, h1, h2, fun x hx => by
          rw [List.take_succ_cons] at hx
          rcases List.mem_cons.1 hx with rfl | hx; exact hz; exact h3 x hx⟩

set_option maxRecDepth 100000 in
theorem delete_none (A : Option Addr) (n c : Nat) (es : List Ent) (w : World) (h : Ents w w.heap.size A n es) (hn : n ≤ 9223372036854775807) (hz : ∀ x ∈ es, x.v ≠ 0) :
    Calls Try.prog 49 #[.slice A n c, .func (.func 50) #[] #[]] w fun e w' => e = .returned (.slice A n c) ∧ Below w.heap.size w w' := by
  have HI := index_none A n c es w h hn hz
  clear h hz
  go_enter Try.func49, Try.ntmps49
  go_wp2_with fail
  refine HI.mono ?_
  rintro e w1 ⟨rfl, hb⟩
  clear HI
  go_wp2_with fail
  go_ret
  exact ⟨rfl, hb⟩

theorem mid_list {F S D : List Ent} {x : Ent} {i j : Nat} (hF : F.length = i) (hS : S.length = j - i) (hij : i ≤ j) : (F ++ S ++ x :: D)[j]? = some x := by
  rw [List.getElem?_append_right (by rw [List.length_append]; omega), List.length_append, hF, hS, show j - (i + (j - i)) = 0 by omega]
  rfl
theorem keep_list {F S' D : List Ent} {s x : Ent} {i : Nat} (hF : F.length = i) : (F ++ (s :: S') ++ x :: D).set i x = F ++ [x] ++ (S' ++ [x]) ++ D := by
  subst hF
  rw [List.append_assoc, List.set_append_right _ _ (Nat.le_refl _), Nat.sub_self, List.cons_append, List.set_cons_zero]
  simp
set_option maxRecDepth 100000 in
set_option maxHeartbeats 4000000 in
theorem delete_some (g m c : Nat) (es : List Ent) (post : List Value) (w : World) (hr : RowE w g es post) (h : Ents w w.heap.size (some ⟨g, 0, none⟩) m es) (hm : m ≤ 65536) (hmc : m ≤ c) (p : Nat) (y : Ent) (hp : es[p]? = some y) (hy : y.v = 0) (hz : ∀ x ∈ es.take p, x.v ≠ 0) :
    Calls Try.prog 49 #[.slice (some ⟨g, 0, none⟩) m c, .func (.func 50) #[] #[]] w fun e w' => ∃ k post', e = .returned (.slice (some ⟨g, 0, none⟩) k c) ∧ Hid ((es.filter nzE).length = k) ∧ RowE w' g (es.filter nzE) post' ∧ w.grownBy w' (some g) := by
  have HI := index_some (some ⟨g, 0, none⟩) m c es w h (by omega) p y hp hy hz
  have HL : Hid (es.length = m) := h.1
  have HBD : Hid (∀ x ∈ es, x.n ≤ x.c ∧ -9223372036854775808 ≤ x.v ∧ x.v ≤ 9223372036854775807) := fun x hx => (h.2.1 x hx).2.2
  have hpn : p < m := by rw [← h.1]; exact (List.getElem?_eq_some_iff.1 hp).1
  have HS0 : Hid ((es.take (p + 1)).filter nzE = es.take p) := by
    unfold Hid
    rw [take_succ_of hp, List.filter_append, filter_all hz]
    simp [nzE, hy]
  have HD0 : Hid (es.take p ++ [y] ++ es.drop (p + 1) = es) := by unfold Hid; rw [← take_succ_of hp, List.take_append_drop]
  have HR := Lib.hid hr
  have e0 : ((p : Int) == -1) = false := by simp
  clear hr h hp hy hz
  go_enter Try.func49, Try.ntmps49
  go_wp2_with fail
  refine HI.mono ?_
  rintro e w1 ⟨rfl, hb⟩
  have HG1 := Lib.hid (grown_below' (grown_same w g) hb)
  have HR1 := Lib.hid (HR.out.below hb)
  clear HI hb
  go_wp2_with fail
  go_loopw [5, 6] (fun v u wr => ∃ (i j : Nat) (S : List Ent), v = .int .i64 (i : Int) ∧ u = .int .i64 (j : Int) ∧ i < j ∧ j ≤ m ∧ Hid (S.length = j - i) ∧ Hid (((es.take j).filter nzE).length = i) ∧ Hid (RowE wr g ((es.take j).filter nzE ++ S ++ es.drop j) post) ∧ Hid (w.grownBy wr (some g))) (fun _ u _ => m - (intOf u).toNat)
  case atStart =>
    refine ⟨p, p + 1, [y], rfl, (by first | rfl | simp), Nat.lt_succ_self p, hpn, Lib.hid (by simp), ?_, ?_, HG1⟩
    · unfold Hid; rw [HS0.out, List.length_take, HL.out]; omega
    · unfold Hid; rw [HS0.out, HD0.out]; exact HR1.out
  case round =>
    clear HR1 HG1 HS0 HD0 e0
    obtain ⟨i, j, S, rfl, rfl, hij, hjm, HS, HF, HW, HG⟩ := hrel
    by_cases hlt : j < m
    · obtain ⟨x, hx⟩ : ∃ x, es[j]? = some x := ⟨_, List.getElem?_eq_getElem (by rw [HL.out]; exact hlt)⟩
      have hdr : es.drop j = x :: es.drop (j + 1) := drop_of hx
      have hR := HW.out
      rw [hdr] at hR
      have hMk := mid_list (F := (es.take j).filter nzE) (S := S) (D := es.drop (j + 1)) (x := x) HF.out HS.out (by omega)
      obtain ⟨⟨a1, a2⟩, a3, a4⟩ := blk_ent hR hMk
      have HTK := Lib.hid (take_succ_of hx)
      have hjn : (j : Int) < (m : Int) := by omega
      have hj0 : (0 : Int) ≤ (j : Int) := by omega
      have hal := (Below.refl wr.heap.size wr).alloc (Nat.le_refl _) (.cells #[.slice x.A x.n x.c, .int .i64 x.v] 37)
      have hal2 := hal.alloc hal.size (.cells #[.slice x.A x.n x.c, .int .i64 x.v] 37)
      have hbx := (two_ent wr (.slice x.A x.n x.c) (.int .i64 x.v) (.cells #[.slice x.A x.n x.c, .int .i64 x.v] 37))
      have HHR := Lib.hid (RowE.below hR hal2)
      have HGG := Lib.hid (grown_below' HG.out hal2)
      by_cases hv : x.v = 0
      · have HT1 := fun W => trim1_any x.A x.n x.c x.v W true (Lib.hid (by rw [hv]; rfl))
        have HN1 : Hid (((es.take (j + 1)).filter nzE) = (es.take j).filter nzE) := by unfold Hid; rw [HTK.out, List.filter_append]; simp [nzE, hv]
        obtain ⟨t0, t1, _, _⟩ := pair_cells hbx.1
        clear hx hdr hR hMk hal hal2 hbx hv
        go_wp2_with fail
        refine (HT1 _).mono ?_
        rintro e w3 ⟨rfl, rfl⟩
        obtain ⟨w4, hw4⟩ : ∃ W, (wr.alloc (.cells #[.slice x.A x.n x.c, .int .i64 x.v] 37)).alloc (.cells #[.slice x.A x.n x.c, .int .i64 x.v] 37) = W := ⟨_, rfl⟩
        rw [hw4] at HHR HGG ⊢
        clear t0 t1 hw4 a1 a2 a3 a4
        go_wp2_with fail
        go_roundw
        case rel => exact ⟨i, j + 1, S ++ [x], rfl, by go_num, by omega, by omega, by unfold Hid; rw [List.length_append, HS.out]; simp; omega, by unfold Hid; rw [HN1.out]; exact HF.out, by unfold Hid; rw [HN1.out]; have q := HHR.out; simpa [List.append_assoc] using q, HGG⟩
        case measure => simp [intOf]; omega
      · have HT1 := fun W => trim1_any x.A x.n x.c x.v W false (Lib.hid (by simpa using hv))
        have HN1 : Hid (((es.take (j + 1)).filter nzE) = (es.take j).filter nzE ++ [x]) := by unfold Hid; rw [HTK.out, List.filter_append]; simp [nzE, hv]
        obtain ⟨s0, S', hs⟩ : ∃ s0 S', S = s0 :: S' := by
          cases hS : S with
          | nil => have := HS.out; rw [hS] at this; simp at this; omega
          | cons a b => exact ⟨a, b, rfl⟩
        have hset := ent_set HHR.out (j := i) (by have hsl := HS.out; simp only [List.length_append, HF.out]; omega) x
        rw [hs, keep_list HF.out] at hset
        obtain ⟨⟨b1, b2⟩, b3, b4⟩ := blk_ent (x := s0) (j := i) HHR.out (by rw [hs, List.append_assoc, List.getElem?_append_right (by rw [HF.out]; exact Nat.le_refl _), HF.out, Nat.sub_self]; rfl)
        have HSL : Hid ((S' ++ [x]).length = j + 1 - (i + 1)) := by unfold Hid; have := HS.out; rw [hs] at this; simp at this ⊢; omega
        have HST := Lib.hid hset
        have HGS := Lib.hid (grownBy_setE (grownBy_setE HGG.out (i * 2) (.slice x.A x.n x.c)) (i * 2 + 1) (.int .i64 x.v))
        have him : (i : Int) < (m : Int) := by omega
        have hi0 : (0 : Int) ≤ (i : Int) := by omega
        obtain ⟨t0, t1, _, _⟩ := pair_cells hbx.1
        obtain ⟨u0, u1, _, _⟩ := pair_cells hbx.2
        clear hx hdr hR hMk hal hal2 hbx hv hset hs
        go_wp2_with fail
        refine (HT1 _).mono ?_
        rintro e w3 ⟨rfl, rfl⟩
        obtain ⟨w4, hw4⟩ : ∃ W, (wr.alloc (.cells #[.slice x.A x.n x.c, .int .i64 x.v] 37)).alloc (.cells #[.slice x.A x.n x.c, .int .i64 x.v] 37) = W := ⟨_, rfl⟩
        rw [hw4] at b1 b2 b3 b4 HST HGS u0 u1 ⊢
        clear t0 t1 hw4 a1 a2 a3 a4
        go_wp2_with fail
        obtain ⟨w5, hw5⟩ : ∃ W, (w4.setCell ⟨g, i * 2, none⟩ (.slice x.A x.n x.c)).setCell ⟨g, i * 2 + 1, none⟩ (.int .i64 x.v) = W := ⟨_, rfl⟩
        rw [hw5] at HST HGS ⊢
        clear hw5 b1 b2 b3 b4 u0 u1
        go_roundw
        case rel => exact ⟨i + 1, j + 1, S' ++ [x], by go_num, by go_num, by omega, by omega, HSL, by unfold Hid; rw [HN1.out, List.length_append, HF.out]; rfl, by unfold Hid; rw [HN1.out]; exact HST.out, HGS⟩
        case measure => simp [intOf]; omega
    · have hjq : j = m := by omega
      have HFA : Hid ((es.take j).filter nzE = es.filter nzE) := by unfold Hid; rw [List.take_of_length_le (by rw [HL.out]; omega)]
      have hW := HW.out
      rw [HFA.out, List.drop_of_length_le (by rw [HL.out]; omega), List.append_nil] at hW
      have hfl : (es.filter nzE).length = i := by rw [← HFA.out]; exact HF.out
      obtain ⟨w6, hc6, hr6, hg6⟩ := run_clearE wr g i (m - i) (c - i) _ S post hW hfl (by rw [HS.out, hjq]) (by omega)
      have r1 := fun W => run_dropF (w := W) g m c i (by omega) hmc
      have r2 := fun W => run_takeF (w := W) (some ⟨g, 0, none⟩) m c i (by omega) hmc
      have HR6 := Lib.hid hr6
      have HG6 := Lib.hid (grown_trans HG.out hg6)
      have HFL := Lib.hid hfl
      have dj : decide ((j : Int) < (m : Int)) = false := by simp; omega
      have dj2 : decide (j < m) = false := by simp; omega
      clear hW hr6 hg6 hfl hjq hlt
      go_wp2_with fail
      go_ret
      exact ⟨i, _, rfl, HFL, HR6.out, HG6.out⟩

theorem grownBy_of_below {w w' : World} (g : Nat) (hb : Below w.heap.size w w') : w.grownBy w' (some g) := grown_below' (grown_same w g) hb
/-- DeleteFunc on entries of the call's own -/
theorem delete_any (base : Nat) (A : Option Addr) (m c : Nat) (es : List Ent) (w : World) (h : NewEs w base A c es) (hl : es.length = m) (hm : m ≤ 65536) (hn : ∀ x ∈ es, x.n ≤ 9223372036854775807) (hb0 : base ≤ w.heap.size) :
    Calls Try.prog 49 #[.slice A m c, .func (.func 50) #[] #[]] w fun e w' => ∃ k g, e = .returned (.slice A k c) ∧ Hid ((es.filter nzE).length = k) ∧ NewEs w' base A c (es.filter nzE) ∧ w.grownBy w' (some g) ∧ base ≤ g ∧ (∀ cs t fr, w.heap[g]? = some (.cells cs t fr) → t = 37) := by
  have hen := h.ents hn
  rw [hl] at hen
  rcases first_zero es with hz | ⟨p, y, h1, h2, h3⟩
  · refine (delete_none A m c es w hen (by omega) hz).mono ?_
    rintro e w' ⟨rfl, hb⟩
    have hnew : NewEs w' base A c (es.filter nzE) := by
      rw [filter_all hz]
      rcases h with h | ⟨g, post, h1, h2, h3, h4, h5⟩
      · exact .inl h
      · exact .inr ⟨g, post, h1, h2, h3.below hb, fun x hx => (h4 x hx).below hb, h5⟩
    exact ⟨m, w.heap.size, rfl, by unfold Hid; rw [filter_all hz]; exact hl, hnew, grownBy_of_below _ hb, hb0, fun cs t fr e => by rw [Array.getElem?_eq_none (Nat.le_refl _)] at e; cases e⟩
  · rcases h with h | ⟨g, post, rfl, hg, hr, hne, hlc⟩
    · rw [h] at h1; simp at h1
    · refine (delete_some g m c es post w hr hen hm (by omega) p y h1 h2 h3).mono ?_
      rintro e w' ⟨k, post', rfl, hk, hr', hg'⟩
      refine ⟨k, g, rfl, hk, .inr ⟨g, post', rfl, hg, hr', fun x hx => (hne x (List.mem_filter.1 hx).1).grown hg', by have := List.length_filter_le nzE es; omega⟩, hg', hg, fun cs t fr e => ?_⟩
      unfold RowE at hr
      rw [hr] at e
      injection e with e
      injection e with _ e
      exact e.symm

theorem NewEs.skip {w w' : World} {base c q : Nat} {A : Option Addr} {es : List Ent} {cs : Array Value} (h : NewEs w base A c es) (hg : w.grownBy w' (some q)) (hx : ∀ x ∈ es, ∀ b off, x.A = some ⟨b, off, none⟩ → b ≠ q) (hq : w.heap[q]? = some (.cells cs 25 (0, 0))) : NewEs w' base A c es := by
  rcases h with h | ⟨g, post, h1, h2, h3, h4, h5⟩
  · exact .inl h
  · have hgq : g ≠ q := by
      rintro rfl
      unfold RowE at h3
      rw [hq] at h3
      injection h3 with h3
      injection h3 with _ h3
      exact absurd h3 (by decide)
    refine .inr ⟨g, post, h1, h2, (hg.block g h3.lt (by intro e; injection e with e; exact hgq e)).trans h3, fun x hx' => ?_, h5⟩
    have hn := h4 x hx'
    exact ⟨⟨IntsOff.grown ⟨hn.1.1, hx x hx'⟩ hg, hn.1.2⟩, fun b off e => ⟨(hn.2.1 b off e).1, Nat.lt_of_lt_of_le (hn.2.1 b off e).2.1 hg.size, by obtain ⟨cs, t, hc⟩ := (hn.2.1 b off e).2.2; exact ⟨cs, t, (hg.block b (hn.2.1 b off e).2.1 (by intro e2; injection e2 with e2; exact hx x hx' b off e e2)).trans hc⟩⟩, hn.2.2⟩
/-- what is read lies in blocks from base on -/
def FarC (w : World) (base : Nat) (A B : Option Addr) (es : List Ent) : Prop := (∀ b off, A = some ⟨b, off, none⟩ → base ≤ b) ∧ (es ≠ [] → ∀ b off, B = some ⟨b, off, none⟩ → base ≤ b ∧ ∃ cs t, w.heap[b]? = some (.cells cs t (0, 0))) ∧ ∀ x ∈ es, ∀ b off, x.A = some ⟨b, off, none⟩ → base ≤ b ∧ ∃ cs t, w.heap[b]? = some (.cells cs t (0, 0))
theorem ints_skip {w w' : World} {n q : Nat} {A : Option Addr} {xs : List Int} (h : Ints w w.heap.size A n xs) (hg : w.grownBy w' (some q)) (hA : ∀ b off, A = some ⟨b, off, none⟩ → b ≠ q) : Ints w' w'.heap.size A n xs := IntsOff.grown ⟨h, hA⟩ hg
theorem CooV.far {w w' : World} {base q n m : Nat} {A B : Option Addr} {xs : List Int} {es : List Ent} (h : CooV w A n B m xs es) (hf : FarC w base A B es) (hg : w.grownBy w' (some q)) (hq : q < base) : CooV w' A n B m xs es := by
  refine ⟨ints_skip h.1 hg (fun b off e => by have := hf.1 b off e; omega), h.2.1, fun x hx => ⟨ints_skip (h.2.2.1 x hx).1 hg (fun b off e => by have := (hf.2.2 x hx b off e).1; omega), (h.2.2.1 x hx).2⟩, fun h0 => ?_⟩
  obtain ⟨b, off, e, hb, hx⟩ := h.2.2.2 h0
  have hbq := (hf.2.1 (by intro e0; have := h.2.1; rw [e0] at this; simp at this; omega) b off e).1
  have hk : ∀ o, w'.cell? ⟨b, o, none⟩ = w.cell? ⟨b, o, none⟩ := fun o => World.cell?_of_block (a := ⟨b, o, none⟩) (hg.block b hb (by intro e; injection e with e; omega))
  exact ⟨b, off, e, Nat.lt_of_lt_of_le hb hg.size, fun k x hx' => ⟨(hk _).trans (hx k x hx').1, (hk _).trans (hx k x hx').2⟩⟩
theorem OwnI.farA {w : World} {base c : Nat} {e : TypeId} {A : Option Addr} {xs : List Int} (h : OwnI w base e A c xs) : ∀ b off, A = some ⟨b, off, none⟩ → base ≤ b := fun b off e => by
  rcases h.1.2 with ⟨h1, _⟩ | ⟨g, cap, cur, h1, h2, _⟩
  · injection h1 with h1; rw [h1] at e; cases e
  · injection h1 with h1; rw [h1] at e; injection e with e; injection e with e; omega
theorem NewEs.farB {w : World} {base c : Nat} {A : Option Addr} {es : List Ent} (h : NewEs w base A c es) : (es ≠ [] → ∀ b off, A = some ⟨b, off, none⟩ → base ≤ b ∧ ∃ cs t, w.heap[b]? = some (.cells cs t (0, 0))) ∧ ∀ x ∈ es, ∀ b off, x.A = some ⟨b, off, none⟩ → base ≤ b ∧ ∃ cs t, w.heap[b]? = some (.cells cs t (0, 0)) := by
  rcases h with h | ⟨g, post, h1, h2, h3, h4, h5⟩
  · exact ⟨fun h0 => absurd h h0, fun x hx => by rw [h] at hx; cases hx⟩
  · exact ⟨fun _ b off e => by rw [h1] at e; injection e with e; injection e with e; subst e; exact ⟨h2, _, _, h3⟩, fun x hx b off e => ⟨((h4 x hx).2.1 b off e).1, ((h4 x hx).2.1 b off e).2.2⟩⟩
def nzK (t : KeyT) : Bool := !(t.2.1 == 0)
theorem filter_key (es : List Ent) : (es.filter nzE).map keyE = (es.map keyE).filter nzK := by
  rw [List.filter_map]; rfl
set_option maxRecDepth 100000 in
set_option maxHeartbeats 4000000 in
theorem trimV_ok (A B : Option Addr) (n c m e : Nat) (xs : List Int) (es : List Ent) (w : World) (h : CooV w A n B m xs es) (hE : cooF xs es = 0) :
    Calls Try.prog 18 #[.agg #[.slice A n c, .slice B m e]] w fun x w' => ∃ A1 c1 A2 m2 c2 Ts, x = .returned (.tuple #[.agg #[.slice A1 n c1, .slice A2 m2 c2], .int .i64 0]) ∧ CooV w' A1 n A2 m2 xs Ts ∧ Hid (Ts.map keyE = (es.map keyE).filter nzK) ∧ Hid (cooF xs Ts = 0) ∧ m2 ≤ 65536 ∧ FarC w' w.heap.size A1 A2 Ts ∧ Below w.heap.size w w' := by
  have hn4 : n ≤ 4 := by rw [← h.1.1]; exact (cellsF_ok (cooF_parts hE).1).1
  have hm5 : m ≤ 65536 := by rw [← h.2.1]; exact (cooF_parts hE).2.1
  have hok := keyOk_of h hE
  have hyl : ∀ y ∈ es, y.n = n := fun y hy => (hok (keyE y) (List.mem_map_of_mem hy)).2.1
  have z0 := (Below.refl w.heap.size w).alloc (Nat.le_refl _) (.cells #[.slice A n c, .slice B m e] 25)
  have z1 := z0.alloc z0.size (.cells #[.slice none 0 0, .slice none 0 0] 25)
  have b1 := zf_two w (.cells #[.slice A n c, .slice B m e] 25) (.cells #[.slice none 0 0, .slice none 0 0] 25)
  have b2 := zf_snd w (.cells #[.slice none 0 0, .slice none 0 0] 25) (.cells #[.slice A n c, .slice B m e] 25)
  have HCK := fun W (hb : Below w.heap.size w W) => cooCheck_any A B n c m e xs es W (h.below hb).1 (by omega) (h.below hb).2 (by omega)
  rw [hE] at HCK
  have HCL := fun W (hb : Below w.heap.size w W) => cooClone_any A B n c m e xs es W (h.below hb).1 (by omega) (h.below hb).2 hm5 (fun y hy => by have := hyl y hy; omega)
  have HYL := Lib.hid hyl
  have HVL : Hid (es.length = m) := h.2.1
  have HE := Lib.hid hE
  have HXL : Hid (xs.length = n) := h.1.1
  clear h hE z0 hyl hok
  go_enter Try.func18, Try.ntmps18
  go_wp2_with fail
  refine (HCK _ z1).mono ?_
  rintro x w1 ⟨rfl, hb1⟩
  have hsz0 : w.heap.size + 2 ≤ w1.heap.size := by have := hb1.size; simp at this; omega
  have hb := z1.trans (hb1.mono z1.size)
  have q1 := (hb1.block w.heap.size (by simp; omega)).trans b1
  have q2 := (hb1.block (w.heap.size + 1) (by simp)).trans b2
  obtain ⟨k0, k1, _, _⟩ := pair_cells q1
  clear HCK b1 b2 z1 hb1
  go_wp2_with fail
  refine (HCL _ hb).mono ?_
  rintro x w2 ⟨A1, c1, A2, c2, Ds, rfl, HA1, HNE, hkey, hb3⟩
  have hbb := hb.trans (hb3.mono hb.size)
  have hs2 := hb3.size
  replace q2 := (hb3.block (w.heap.size + 1) (by omega)).trans q2
  have hdl : Ds.length = m := by have := congrArg List.length hkey; rw [List.length_map, List.length_map] at this; rw [this]; exact HVL.out
  have HXN : Hid (∀ x ∈ Ds, x.n = n) := fun x hx => by
    obtain ⟨y, hy, e⟩ := keys_mem hkey hx
    have e2 : x.n = y.n := congrArg (fun q => q.2.2) e
    rw [e2]; exact HYL.out y hy
  have HXB : Hid (∀ x ∈ Ds, ∀ b off, x.A = some ⟨b, off, none⟩ → w1.heap.size ≤ b ∧ b < w2.heap.size) := fun x hx b off e => by
    rcases HNE with h | ⟨g, post, h1, h2, h3, h4, h5⟩
    · rw [h] at hx; cases hx
    · exact ⟨((h4 x hx).2.1 b off e).1, ((h4 x hx).2.1 b off e).2.1⟩
  have HKEY := Lib.hid hkey
  have y0 := heap_alloc_new w2 (.cells #[.slice A1 n c1, .slice A2 m c2] 25)
  have yb := (Below.refl w2.heap.size w2).alloc (Nat.le_refl _) (.cells #[.slice A1 n c1, .slice A2 m c2] 25)
  have hbb3 := hbb.alloc hbb.size (.cells #[.slice A1 n c1, .slice A2 m c2] 25)
  have r2 := (yb.block (w.heap.size + 1) (by omega)).trans q2
  have hs3 : (w2.alloc (.cells #[.slice A1 n c1, .slice A2 m c2] 25)).heap.size = w2.heap.size + 1 := World.size_alloc _ _
  obtain ⟨w3, hw3⟩ : ∃ w3, w2.alloc (.cells #[.slice A1 n c1, .slice A2 m c2] 25) = w3 := ⟨_, rfl⟩
  have HA3 : Hid (OwnI w3 w1.heap.size 3 A1 c1 xs) := by unfold Hid; rw [← hw3]; exact HA1.alloc _
  rw [hw3] at y0 yb r2 hbb3 hs3
  have hne3 : NewEs w3 w1.heap.size A2 c2 Ds := by
    rcases HNE with h | ⟨g, post, h1, h2, h3, h4, h5⟩
    · exact .inl h
    · exact .inr ⟨g, post, h1, h2, h3.below yb, fun x hx => (h4 x hx).below yb, h5⟩
  have HD := delete_any w1.heap.size A2 m c2 Ds w3 hne3 hdl hm5 (fun x hx => by have := HXN.out x hx; omega) (by omega)
  have H3 := Lib.hid hw3
  have HY0 := Lib.hid y0
  have HR2 := Lib.hid r2
  have HBB := Lib.hid hbb3
  obtain ⟨j0, j1, _, _⟩ := pair_cells y0
  clear yb hw3 hb q2 q1 k0 k1 hbb HCL hb3 hkey HA1 HNE hne3 hdl y0 r2 hbb3
  go_upto_region 5 with fail
  rw [H3.out]
  go_wp2_with fail
  refine HD.mono ?_
  rintro x w4 ⟨k, g, rfl, HFL, HNT, hg4, hgb, hgt⟩
  have y4 := (hg4.block w2.heap.size (by omega) (by intro e; injection e with e; subst e; exact absurd (hgt _ _ _ HY0.out) (by decide))).trans HY0.out
  have r4 := (hg4.block (w.heap.size + 1) (by omega) (by intro e; injection e with e; omega)).trans HR2.out
  have HA4 : Hid (OwnI w4 w1.heap.size 3 A1 c1 xs) := ⟨HA3.out.1.kept hg4 (by
    rcases HA3.out.1.2 with ⟨h1, _⟩ | ⟨g', cap, cur, h1, _, hh, _⟩
    · left; rw [h1]; rfl
    · right
      rw [h1]
      intro e
      have : g' = g := by simpa [Value.ownBlock] using e
      subst this
      exact absurd (hgt _ _ _ hh) (by decide)), HA3.out.2⟩
  have HB4 : Hid (Below w.heap.size w w4) := HBB.out.grown hg4 (by have := HBB.out.size; omega) (fun k hk => by injection hk with hk; omega)
  have hsz4 := hg4.size
  have HNT2 := Lib.hid HNT
  have sn := set_snd w4 w2.heap.size _ _ (.slice A2 k c2) _ y4
  obtain ⟨k0, k1, kf0, kf1⟩ := pair_cells y4
  clear HD j0 j1 HA3 HNT hg4 hgb hgt
  have HY4 := Lib.hid y4
  have HSN := Lib.hid sn
  have HR4 := Lib.hid r4
  clear y4 sn r4
  obtain ⟨n0, n1, _, _⟩ := pair_cells HSN.out.1
  have r5 := (HSN.out.2.block (w.heap.size + 1) (by omega) (by intro e; injection e with e; omega)).trans HR4.out
  obtain ⟨v0, v1, vf0, vf1⟩ := pair_cells r5
  have HR5 := Lib.hid r5
  clear r5
  go_wp2_with fail
  obtain ⟨w5, hw5⟩ : ∃ w5, w4.setCell ⟨w2.heap.size, 1, none⟩ (.slice A2 k c2) = w5 := ⟨_, rfl⟩
  rw [hw5] at HSN HR5
  have hres := set_two w5 (w.heap.size + 1) _ _ (.slice A1 n c1) (.slice A2 k c2) _ HR5.out
  try rw [hw5]
  obtain ⟨s0, s1, _, _⟩ := pair_cells hres.1
  obtain ⟨wz, hwz'⟩ : ∃ wz, (w5.setCell ⟨w.heap.size + 1, 0, none⟩ (.slice A1 n c1)).setCell ⟨w.heap.size + 1, 1, none⟩ (.slice A2 k c2) = wz := ⟨_, rfl⟩
  rw [hwz'] at hres s0 s1 ⊢
  have hbw2 : w1.heap.size ≤ w2.heap.size := hs2
  refine bodyPost_ret (v := .tuple #[.agg #[.slice A1 n c1, .slice A2 k c2], .int .i64 0]) (by simp [results, Try.results18, go_sem, s0, s1]) rfl ?_
  have n1 : NewEs w5 w1.heap.size A2 c2 (Ds.filter nzE) := HNT2.out.skip HSN.out.2 (fun x hx b off e => by have := HXB.out x (List.mem_filter.1 hx).1 b off e; omega) HY4.out
  have n2 : NewEs wz w1.heap.size A2 c2 (Ds.filter nzE) := n1.skip hres.2 (fun x hx b off e => by have := HXB.out x (List.mem_filter.1 hx).1 b off e; omega) HR5.out
  refine ⟨A1, c1, A2, k, c2, Ds.filter nzE, rfl, ?_, ?_, ?_, ?_, ?_, ?_⟩
  · have q1 : OwnI w5 w1.heap.size 3 A1 c1 xs := ⟨HA4.out.1.kept HSN.out.2 (rows_ne HA4.out.1 HY4.out (by decide)), HA4.out.2⟩
    have q2 : OwnI wz w1.heap.size 3 A1 c1 xs := ⟨q1.1.kept hres.2 (rows_ne q1.1 HR5.out (by decide)), q1.2⟩
    have hi := q2.ints
    rw [HXL.out] at hi
    refine ⟨hi, ?_⟩
    have n1 : NewEs w5 w1.heap.size A2 c2 (Ds.filter nzE) := HNT2.out.skip HSN.out.2 (fun x hx b off e => by have := HXB.out x (List.mem_filter.1 hx).1 b off e; omega) HY4.out
    have n2 : NewEs wz w1.heap.size A2 c2 (Ds.filter nzE) := n1.skip hres.2 (fun x hx b off e => by have := HXB.out x (List.mem_filter.1 hx).1 b off e; omega) HR5.out
    have := n2.ents (fun x hx => by have := HXN.out x (List.mem_filter.1 hx).1; omega)
    rw [HFL.out] at this
    exact this
  · unfold Hid; rw [filter_key, HKEY.out]
  · exact cooF_of HE.out (by have := List.length_filter_le nzE Ds; have h2 := congrArg List.length HKEY.out; rw [List.length_map, List.length_map] at h2; omega) (fun x hx => by
      have hm := (List.mem_filter.1 hx).1
      have : keyE x ∈ es.map keyE := by rw [← HKEY.out]; exact List.mem_map_of_mem hm
      exact map_cs ⟨keyE x, this, rfl⟩)
  · have h1 := List.length_filter_le nzE Ds
    have h2 := congrArg List.length HKEY.out
    rw [List.length_map, List.length_map, HVL.out] at h2
    have h3 := HFL.out
    omega
  · refine ⟨fun b off e => by have := HA4.out.farA b off e; omega, fun h0 b off e => by have h := n2.farB.1 h0 b off e; exact ⟨by have := h.1; omega, h.2⟩, fun x hx b off e => by have h := n2.farB.2 x hx b off e; exact ⟨by have := h.1; omega, h.2⟩⟩
  · have q := HB4.out.grown HSN.out.2 HB4.out.size (fun k hk => by injection hk with hk; omega)
    exact q.grown hres.2 q.size (fun k hk => by injection hk with hk; omega)
end Go.Proofs.Ytpfabbapfmfmmaa
/- coo.Plain, and Trim of a list that may not be. -/
namespace Go.Proofs.Ytpfabbapfmfmmaa
open Go.RowKit

theorem ordOk_nil (n : Nat) : OrdOk n [] := .inl rfl
theorem ordL_nil (n : Nat) : ordL n [] = iotaL n := by unfold ordL; rw [if_pos rfl]
theorem sortE'_nil {xs : List Int} {n : Nat} {es : List Ent} : sortE' xs [] n es = cooF xs es := by
  unfold sortE'
  by_cases h : cooF xs es = 0
  · rw [if_pos h, if_pos (ordOk_nil n), h]
  · rw [if_neg h]
set_option maxRecDepth 100000 in
set_option maxHeartbeats 4000000 in
theorem plainV_ok (A B : Option Addr) (n c m e : Nat) (xs : List Int) (es : List Ent) (w : World) (h : CooV w A n B m xs es) (hE : cooF xs es = 0) :
    Calls Try.prog 20 #[.agg #[.slice A n c, .slice B m e]] w fun x w' => ∃ A1 c1 A2 m2 c2 Ts, x = .returned (.tuple #[.agg #[.slice A1 n c1, .slice A2 m2 c2], .int .i64 0]) ∧ CooV w' A1 n A2 m2 xs Ts ∧ Hid (Ts.map keyE = (joinK (sortK (iotaL n) (es.map keyE))).filter nzK) ∧ Hid (cooF xs Ts = 0) ∧ m2 ≤ 65536 ∧ Below w.heap.size w w' := by
  have z0 := (Below.refl w.heap.size w).alloc (Nat.le_refl _) (.cells #[.slice A n c, .slice B m e] 25)
  have z1 := z0.alloc z0.size (.cells #[.slice none 0 0, .slice none 0 0] 25)
  have b2 := zf_snd w (.cells #[.slice none 0 0, .slice none 0 0] 25) (.cells #[.slice A n c, .slice B m e] 25)
  have HJ := fun W (hb : Below w.heap.size w W) => joinV_ok A B none n c m e 0 0 xs [] es W (h.below hb) (by rw [sortE'_nil]; exact hE) Ints.nil_ (by omega)
  rw [ordL_nil] at HJ
  clear h hE z0
  go_enter Try.func20, Try.ntmps20
  go_wp2_with fail
  refine (HJ _ z1).mono ?_
  rintro x w1 ⟨A1, c1, A2, m2, c2, Js, rfl, VJ, HK, HC, hm2, hb1⟩
  have hsz0 : w.heap.size + 2 ≤ w1.heap.size := by have := hb1.size; simp at this; omega
  have hb := z1.trans (hb1.mono z1.size)
  have q2 := (hb1.block (w.heap.size + 1) (by simp)).trans b2
  have hal := (Below.refl w1.heap.size w1).alloc (Nat.le_refl _) (.cells #[.slice A1 n c1, .slice A2 m2 c2] 25)
  have y0 := heap_alloc_new w1 (.cells #[.slice A1 n c1, .slice A2 m2 c2] 25)
  have VJ2 := VJ.below hal
  have hb2 := hb.trans (hal.mono hb.size)
  replace q2 := (hal.block (w.heap.size + 1) (by omega)).trans q2
  obtain ⟨w2, hw2⟩ : ∃ w2, w1.alloc (.cells #[.slice A1 n c1, .slice A2 m2 c2] 25) = w2 := ⟨_, rfl⟩
  rw [hw2] at y0 VJ2 hb2 q2
  have hs12 : w1.heap.size ≤ w2.heap.size := by rw [← hw2]; simp
  have HW := Lib.hid hw2
  have HT := trimV_ok A1 A2 n c1 m2 c2 xs Js w2 VJ2 HC.out
  obtain ⟨k0, k1, _, _⟩ := pair_cells y0
  clear b2 z1 hb1 hb hal hw2 HJ VJ
  go_upto_region 2 with fail
  rw [HW.out]
  go_wp2_with fail
  refine HT.mono ?_
  rintro x w3 ⟨A3, c3, A4, m4, c4, Ts, rfl, VT, HK2, HC2, hm4, hfar, hb3⟩
  have hb4 := hb2.trans (hb3.mono hb2.size)
  have hsz2 := hb2.size
  have r3 := (hb3.block (w.heap.size + 1) (lt_of_heap q2)).trans q2
  obtain ⟨v0, v1, vf0, vf1⟩ := pair_cells r3
  have HR3 := Lib.hid r3
  clear k0 k1 hb3 hb2 q2 y0 VJ2 HT r3
  go_wp2_with fail
  have hres := set_two w3 (w.heap.size + 1) _ _ (.slice A3 n c3) (.slice A4 m4 c4) _ HR3.out
  obtain ⟨s0, s1, _, _⟩ := pair_cells hres.1
  obtain ⟨wz, hwz⟩ : ∃ wz, (w3.setCell ⟨w.heap.size + 1, 0, none⟩ (.slice A3 n c3)).setCell ⟨w.heap.size + 1, 1, none⟩ (.slice A4 m4 c4) = wz := ⟨_, rfl⟩
  rw [hwz] at hres s0 s1 ⊢
  refine bodyPost_ret (v := .tuple #[.agg #[.slice A3 n c3, .slice A4 m4 c4], .int .i64 0]) (by simp [results, Try.results20, go_sem, s0, s1]) rfl ⟨A3, c3, A4, m4, c4, Ts, rfl, ?_, by unfold Hid; rw [HK2.out, HK.out], HC2, hm4, hb4.grown hres.2 hb4.size (fun k hk => by injection hk with hk; omega)⟩
  exact VT.far hfar hres.2 (by omega)
end Go.Proofs.Ytpfabbapfmfmmaa
/- append of a whole list of entries; a list laid out, by its keys. -/
namespace Go.Proofs.Ytpfabbapfmfmmaa
open Go.RowKit

theorem Ents.cells_ {w : World} {B n : Nat} {ad : Addr} {es : List Ent} (h : Ents w B (some ad) n es) : ∀ (j : Nat) (u : Value), (cellsE es)[j]? = some u → w.cell? (ad.add j) = some u := h.cells
theorem run_appendNilE (w : World) (base : Nat) (ty : TypeId) (v : Value) (n : Nat) (xs : List Value) (hown : w.ownsRow base 37 2 v n xs) (c : Nat) :
    (Builtin.append_ #[23, 23] ty #[v, .slice none 0 c]).run Try.prog w = .ok v w := by
  obtain ⟨i, hi, hz, h1, h2⟩ := info_parts infoEnt
  have ht := Try.underlying23
  rcases hown.2 with ⟨rfl, rfl⟩ | ⟨g, cap, cur, rfl, _, _, hnc, _⟩ <;> simp [Builtin.append_, run_underlying ht, sizeOf, typeInfo, Builtin.lenOf, Builtin.firstCells, *, storeCells]
theorem run_appendEnts (w : World) (base : Nat) (ty : TypeId) (A A2 : Option Addr) (c m c2 B : Nat) (xs ys : List Ent) (ho : OwnE w base A c xs) (hs : Ents w B A2 m ys) (hl : xs.length + m ≤ 1000000) (hb : base ≤ w.heap.size) :
    ∃ A' c' w', (Builtin.append_ #[23, 23] ty #[.slice A xs.length c, .slice A2 m c2]).run Try.prog w = .ok (.slice A' (xs.length + m) c') w' ∧ OwnE w' base A' c' (xs ++ ys) ∧ w.grownBy w' (Value.slice A xs.length c).ownBlock := by
  obtain ⟨i, hi, hz, h1, h2⟩ := info_parts infoEnt
  have hlen := hs.1
  rcases Option.eq_none_or_eq_some A2 with rfl | ⟨ad, rfl⟩
  · obtain rfl : m = 0 := by
      rcases Nat.eq_zero_or_pos m with h0 | h0
      · exact h0
      · obtain ⟨b, off, e', _⟩ := hs.2.2 h0; cases e'
    obtain rfl : ys = [] := List.eq_nil_of_length_eq_zero hlen
    have hrun := run_appendNilE w base ty (.slice A xs.length c) xs.length (cellsE xs) ho c2
    exact ⟨A, c, w, by simpa using hrun, by simpa using ho, World.grownBy.refl w _⟩
  · obtain ⟨v', w', hr, h3, h4, _⟩ := run_append_own (P := Try.prog) w base 23 ty 37 i (.agg #[.slice none 0 0, .int .i64 0]) 2 32 Try.underlying23 hi hz h1 h2 rfl (by decide) (.slice A xs.length c) xs.length (cellsE xs) ho ad m c2 (cellsE ys) (by rw [cellsE_length, hlen]; omega) hs.cells_ (cellsE_one ys) (by unfold maxLen; omega) (by omega) hb
    obtain ⟨A', c', rfl⟩ := rowE_form h3
    refine ⟨A', c', w', hr, ?_, h4⟩
    unfold OwnE
    rw [List.length_append, hlen, cellsE_append]
    exact h3
theorem step_appendEnts {ops : Array Oper} {o : Oper} {a : Act} {w : World} {K : Act → World → Prop} {Q : Exit → Act → World → Prop} {E : Prop}
    (hg : o.guard = none) (s x : Operand) (hop : o.op = Op.call { callee := Callee.builtin Builtin.append, args := #[s, x], argTypes := #[23, 23] })
    (base : Nat) (A A2 : Option Addr) (c m c2 B p r : Nat) (xs ys : List Ent) (hs : a.eval s = .slice A p c) (hx : a.eval x = .slice A2 m c2) (ho : OwnE w base A c xs) (hp : xs.length = p) (hr : p + m = r) (hi2 : Ents w B A2 m ys) (hl : r ≤ 1000000) (hb : base ≤ w.heap.size)
    (hK : ∀ A' c' w', OwnE w' base A' c' (xs ++ ys) → w.grownBy w' (Value.slice A p c).ownBlock → K (a.put o.dst (.slice A' r c')) w') :
    if Region.wanted o (yielded ops a.tmps) = true then Oper.wp Try.prog o a w K Q else E := by
  have hw : Region.wanted o (yielded ops a.tmps) = true := by simp [Region.wanted, hg]
  rw [if_pos hw]
  subst hp
  subst hr
  obtain ⟨A', c', w', hrun, ho', hb'⟩ := run_appendEnts w base o.type A A2 c m c2 B xs ys ho hi2 hl hb
  unfold Oper.wp
  simp [execOp, hop, resolve, invoke, builtin, hs, hx, hrun, Result.andThen]
  exact hK _ _ _ ho' hb'

/-- a list laid out, as its keys tell -/
def denseK (xs : List Int) (K : List KeyT) : List Int := (List.range (laidF xs).1.toNat).map fun j => wrap64 (totP (fun p => decide ((numR xs p).toNat = j)) K)
theorem sumAt_keys (xs : List Int) (j : Nat) (pre es : List Ent) : sumAt (goesE xs (pre ++ es)) j pre.length (es.map (·.v)) = totP (fun p => decide ((numR xs p).toNat = j)) (es.map keyE) := by
  induction es generalizing pre with
  | nil => rfl
  | cons x es ih =>
    have h := ih (pre ++ [x])
    rw [List.append_assoc, List.length_append] at h
    have hg : goesE xs (pre ++ x :: es) pre.length = (numR xs x.cs).toNat := by
      unfold goesE
      rw [List.getElem?_append_right (Nat.le_refl _), Nat.sub_self]
      rfl
    simp only [List.map_cons, sumAt, totP, hg]
    simp only [List.cons_append, List.nil_append, List.length_cons, List.length_nil, Nat.zero_add] at h
    rw [h]
    by_cases hq : (numR xs x.cs).toNat = j <;> simp [keyE, hq]
theorem denseV_keys (xs : List Int) (es : List Ent) : denseV xs es = denseK xs (es.map keyE) := by
  unfold denseV denseK scat
  apply List.map_congr_left
  intro j _
  have := sumAt_keys xs j [] es
  rw [List.nil_append, List.length_nil] at this
  rw [this]
theorem denseK_congr {xs : List Int} {K L : List KeyT} (h : ∀ P, wrap64 (totP P K) = wrap64 (totP P L)) : denseK xs K = denseK xs L := by
  unfold denseK
  exact List.map_congr_left fun j _ => h _
theorem denseK_perm {xs : List Int} {K L : List KeyT} (h : K.Perm L) : denseK xs K = denseK xs L := denseK_congr fun P => by rw [totP_perm P h]
theorem denseK_join (xs : List Int) (K : List KeyT) : denseK xs (joinK K) = denseK xs K := denseK_congr fun P => joinK_tot P K
theorem totP_nz (P : List Int → Bool) (K : List KeyT) : totP P (K.filter nzK) = totP P K := by
  induction K with
  | nil => rfl
  | cons t K ih =>
    rw [List.filter_cons]
    by_cases h : t.2.1 = 0
    · rw [if_neg (by unfold nzK; simp [h])]
      simp only [totP, h, ih]
      split <;> omega
    · rw [if_pos (by unfold nzK; simp [h])]
      simp only [totP, ih]
theorem denseK_nz (xs : List Int) (K : List KeyT) : denseK xs (K.filter nzK) = denseK xs K := denseK_congr fun P => by rw [totP_nz]
theorem denseK_append (xs : List Int) (K L : List KeyT) : denseK xs (K ++ L) = addL (denseK xs K) (denseK xs L) := by
  unfold denseK addL
  rw [List.zipWith_map, List.zipWith_self]
  apply List.map_congr_left
  intro j _
  rw [totP_append, wrap_add_l, wrap_add_r]
theorem denseK_length (xs : List Int) (K : List KeyT) : (denseK xs K).length = (laidF xs).1.toNat := by unfold denseK; simp

/-- a tensor that is laid out, as it is read -/
def DenV (w : World) (A : Option Addr) (n : Nat) (B : Option Addr) (m : Nat) (xs ys : List Int) : Prop := Ints w w.heap.size A n xs ∧ Ints w w.heap.size B m ys
theorem DenV.below {w w' : World} {A B : Option Addr} {n m : Nat} {xs ys : List Int} (h : DenV w A n B m xs ys) (hb : Below w.heap.size w w') : DenV w' A n B m xs ys := ⟨(h.1.below hb).more hb.size, (h.2.below hb).more hb.size⟩
/-- the error of a list that is laid out -/
def denE (xs : List Int) (es : List Ent) : Int := if cooF xs es = 0 then (laidF xs).2 else cooF xs es
theorem denV_ok (A B : Option Addr) (n c m e : Nat) (xs : List Int) (es : List Ent) (w : World) (h : CooV w A n B m xs es) (hm : m ≤ 9223372036854775807) (hE : denE xs es = 0) :
    Calls Try.prog 29 #[.agg #[.slice A n c, .slice B m e]] w fun x w' => ∃ A1 c1 A2 M c2, x = .returned (.tuple #[.agg #[.slice A1 n c1, .slice A2 M c2], .int .i64 0]) ∧ DenV w' A1 n A2 M xs (denseK xs (es.map keyE)) ∧ M ≤ 65536 ∧ checkF xs M = 0 ∧ Below w.heap.size w w' := by
  unfold denE at hE
  by_cases h0 : cooF xs es = 0
  · rw [if_pos h0] at hE
    refine (cooDense_ok A B n c m e xs es w h.1 h.2 hm h0 hE).mono ?_
    rintro x w' ⟨A1, c1, A2, c2, rfl, h1, h2, hb⟩
    have hi1 := h1.ints
    rw [h.1.1] at hi1
    have hi2 := h2.ints
    rw [denseV_keys] at hi2
    have hlen : (denseK xs (es.map keyE)).length = (laidF xs).1.toNat := denseK_length _ _
    have hla := laidF_ok hE
    have hnn := laidF_nonneg (xs := xs)
    refine ⟨A1, c1, A2, _, c2, by rw [denseV_keys], ⟨hi1, hi2⟩, ?_, ?_, hb⟩
    · rw [hlen]; omega
    · unfold checkF
      rw [if_pos hE, if_pos (by rw [hlen]; omega)]
  · rw [if_neg h0] at hE; exact absurd hE h0
theorem denV_bad (A B : Option Addr) (n c m e : Nat) (xs : List Int) (es : List Ent) (w : World) (h : CooV w A n B m xs es) (hn : n ≤ 9223372036854775807) (hm : m ≤ 9223372036854775807) (E : Int) (hE : Hid (denE xs es = E)) (hne : E ≠ 0) :
    Calls Try.prog 29 #[.agg #[.slice A n c, .slice B m e]] w fun x w' => x = .returned (.tuple #[.agg #[.slice none 0 0, .slice none 0 0], .int .i64 E]) ∧ Below w.heap.size w w' := by
  have hE' := hE.out
  unfold denE at hE'
  by_cases h0 : cooF xs es = 0
  · rw [if_pos h0] at hE'
    exact cooDense_large A B n c m e xs es E w h.1 hn h.2 hm h0 hE' hne
  · rw [if_neg h0] at hE'
    exact cooDense_err A B n c m e xs es E w h.1 hn h.2 hm hE' hne
end Go.Proofs.Ytpfabbapfmfmmaa
