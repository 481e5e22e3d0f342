/- The document's registers and places of an instruction. -/
import Derived.Test.YtbmcddolfofmdaaGreatDoorG1
import Derived.Test.YtbmcddolfofmdaaGreatDoorG2
import Derived.Test.YtbmcddolfofmdaaGreatDoorG4
import Derived.Lib.LaidTab
import Derived.OpenShut
import Derived.LaidMore
namespace Go.Proofs.YtbmcddolfofmdaaGreatDoor
open Go.RowKit

theorem bl_strJ (l : List UInt8) : bl (strJ l) = l := by simp [bl, strJ]
theorem strJ_size (l : List UInt8) : (strJ l).size = l.length := by rw [← bl_len, bl_strJ]
/-- a text of these bytes, behind a name -/
theorem strJ_name (l : List UInt8) : ∃ s : ByteArray, strJ l = s ∧ bl s = l ∧ s.size = l.length := ⟨_, rfl, bl_strJ l, strJ_size l⟩
theorem newJ (w : World) (x : Ji) : (w.alloc x.obj).heap[w.heap.size]? = some x.obj := heap_alloc_new w _
/-- three numbers in a new block -/
def FieldsP (x : Ji) (w : World) (e : Ending) (w' : World) : Prop :=
  Below w.heap.size w w' ∧ ∃ g, w.heap.size ≤ g ∧ e = .returned (.slice (some ⟨g, 0, none⟩) 3 3) ∧ w'.heap[g]? = some (.cells #[.int .i64 x.a, .int .i64 x.b, .int .i64 x.c] 3 (0, 0))
set_option maxRecDepth 100000 in
theorem refFields_any (x : Ji) (w : World) : Calls Tryz.prog 31 #[x.val] w (FieldsP x w) := by
  go_enter Tryz.func31, Tryz.ntmps31
  go_wp2_with fail
  go_ret
  refine ⟨((Below.refl _ _).alloc (Nat.le_refl _) _).alloc (by simp) _, w.heap.size + 1, by omega, rfl, ?_⟩
  have := heap_alloc_new (w.alloc x.obj) (.cells #[.int .i64 x.a, .int .i64 x.b, .int .i64 x.c] 3)
  rwa [World.size_alloc] at this
def WritesP (x : Ji) (w : World) (e : Ending) (w' : World) : Prop := e = .returned (.tuple #[.int .i64 (writesJ x), .bool (setsJ x)]) ∧ Below w.heap.size w w'
set_option maxRecDepth 100000 in
theorem refWrites_any (x : Ji) (w : World) : Calls Tryz.prog 11 #[x.val] w (WritesP x w) := by
  have HB0 := Lib.hid ((Below.refl w.heap.size w).alloc (Nat.le_refl _) x.obj)
  have HX0 := Lib.hid (newJ w x)
  obtain ⟨W0, hW0⟩ : ∃ W, w.alloc x.obj = W := ⟨_, rfl⟩
  rw [hW0] at HB0 HX0
  obtain ⟨s, hs, hbl, hsz⟩ := strJ_name (kJ x.op)
  have hsm : s.size ≤ 3 := by have := kJ_len x.op; omega
  have HS := Lib.hid hs
  have HBL := Lib.hid hbl
  have HSZ := Lib.hid hsz
  clear hs hbl hsz
  obtain ⟨k, kf⟩ := box_cellsJ HX0.out
  obtain ⟨k0, k1, k2, k3, k4⟩ := k
  go_enter Tryz.func11, Tryz.ntmps11
  go_wp2_with fail
  try rw [hW0]
  refine (refWord14_any x.op W0).mono ?_
  rintro e w1 ⟨rfl, hb⟩
  rw [HS.out]
  have HB1 := Lib.hid (HB0.out.trans (hb.mono HB0.out.size))
  have HX1 := Lib.hid (keep_b hb HX0.out)
  clear hb hW0 k0 k1 k2 k3 k4 kf
  obtain ⟨k, kf⟩ := box_cellsJ HX1.out
  obtain ⟨k0, k1, k2, k3, k4⟩ := k
  by_cases h0 : s.size = 0
  · have e1 : s = ⟨#[]⟩ := size_zero h0
    have e2 : kJ x.op = [] := by rw [← HBL.out, e1]; rfl
    have HR : Hid (setsJ x = false ∧ writesJ x = 0) := by
      have : setsJ x = false := by unfold setsJ; rw [e2]; rfl
      exact ⟨this, by unfold writesJ; rw [this]; rfl⟩
    clear e2
    subst e1
    go_wp2_with fail
    go_ret2
    exact ⟨by rw [HR.out.1, HR.out.2]; rfl, HB1.out⟩
  · have hlt : 0 < s.size := by omega
    have hne : s.toList.isEmpty = false := not_empty h0
    have hne2 : s.toList ≠ [] := by rw [List.isEmpty_eq_false_iff] at hne; exact hne
    have hg := bl_get s 0 hlt
    rw [HBL.out] at hg
    by_cases hc : (s[0].toNat : Int) = 119
    · have c1 : ((s[0].toNat : Int) == 119) = true := by simpa using hc
      have HR : Hid (setsJ x = true ∧ writesJ x = x.a) := by
        have : setsJ x = true := by
          unfold setsJ
          rw [List.head?_eq_getElem?, hg]
          simp
          exact UInt8.toNat_inj.1 (by simpa using (by omega : s[0].toNat = 119))
        exact ⟨this, by unfold writesJ; rw [this]; rfl⟩
      clear hg hc
      go_wp2_with fail
      go_ret2
      exact ⟨by rw [HR.out.1, HR.out.2]; rfl, HB1.out⟩
    · have c1 : ((s[0].toNat : Int) == 119) = false := by simpa using hc
      have HR : Hid (setsJ x = false ∧ writesJ x = 0) := by
        have : setsJ x = false := by
          unfold setsJ
          rw [List.head?_eq_getElem?, hg]
          simp
          intro e
          apply hc
          rw [e]; rfl
        exact ⟨this, by unfold writesJ; rw [this]; rfl⟩
      clear hg hc
      go_wp2_with fail
      go_ret2
      exact ⟨by rw [HR.out.1, HR.out.2]; rfl, HB1.out⟩
theorem pastJ {w : World} {g : Nat} {v : Obj} (o : Obj) (h : w.heap[g]? = some v) : (w.alloc o).heap[g]? = some v := (Below.heap_alloc w o g (lt_of_heap h)).trans h
/-- a block of another type stays over an append onto numbers -/
theorem past_int {w w' : World} {base c g p : Nat} {A : Option Addr} {xs : List Int} {cs : Array Value} {t : TypeId} (hO : OwnI w base 3 A c xs) (hg : w.heap[g]? = some (.cells cs t (0, 0))) (ht : 3 ≠ t) (hp : xs.length = p) (hG : w.grownBy w' (Value.slice A p c).ownBlock) : w'.heap[g]? = some (.cells cs t (0, 0)) := by
  subst hp
  refine (hG.block g (lt_of_heap hg) ?_).trans hg
  rcases rows_ne hO.1 hg ht with h | h
  · rw [h]; simp
  · exact fun e => h e.symm
def ReadsP (x : Ji) (w : World) (e : Ending) (w' : World) : Prop := ∃ A c, e = .returned (.slice A (readsJ x).length c) ∧ OwnI w' w.heap.size 3 A c (readsJ x) ∧ Below w.heap.size w w'
theorem Ji.f_fits {x : Ji} (h : x.ok) : ∀ (i : Nat) (v : Int), x.f[i]? = some v → -9223372036854775808 ≤ v ∧ v ≤ 9223372036854775807 := by
  intro i v hv
  match i, hv with
  | 0, hv => cases hv; exact h.a
  | 1, hv => cases hv; exact h.b
  | 2, hv => cases hv; exact h.c
  | i + 3, hv => cases hv
set_option maxRecDepth 100000 in
set_option maxHeartbeats 1000000 in
theorem refReads_any (x : Ji) (w : World) (hx : x.ok) : Calls Tryz.prog 15 #[x.val] w (ReadsP x w) := by
  have HB0 := Lib.hid ((Below.refl w.heap.size w).alloc (Nat.le_refl _) x.obj)
  have HX0 := Lib.hid (newJ w x)
  have HOK := Lib.hid hx
  obtain ⟨W0, hW0⟩ : ∃ W, w.alloc x.obj = W := ⟨_, rfl⟩
  rw [hW0] at HB0 HX0
  obtain ⟨s, hs, hbl, hsz⟩ := strJ_name (kJ x.op)
  have hsm : s.size ≤ 3 := by have := kJ_len x.op; omega
  have HS := Lib.hid hs
  have HBL := Lib.hid hbl
  have HSZ := Lib.hid hsz
  clear hs hbl hsz
  obtain ⟨k, kf⟩ := box_cellsJ HX0.out
  obtain ⟨k0, k1, k2, k3, k4⟩ := k
  obtain ⟨i0, hi0, hz0, hz1, hz2⟩ := info_parts infoInt
  go_enter Tryz.func15, Tryz.ntmps15
  go_wp2_with fail
  try rw [hW0]
  refine (refWord14_any x.op W0).mono ?_
  rintro e w1 ⟨rfl, hb⟩
  rw [HS.out]
  have HB1 := Lib.hid (HB0.out.trans (hb.mono HB0.out.size))
  have HX1 := Lib.hid (keep_b hb HX0.out)
  clear hb hW0 k0 k1 k2 k3 k4 kf
  go_wp2_with fail
  go_loopw [5, 15] (fun v i wr => ∃ (k : Nat) (A : Option Addr) (c : Nat), k ≤ s.size ∧ i = .int .i64 k ∧ v = .slice A (readsG ((kJ x.op).take k) x.f).length c ∧ Hid (OwnI wr w.heap.size 3 A c (readsG ((kJ x.op).take k) x.f)) ∧ Hid (Below w.heap.size w wr) ∧ Hid (wr.heap[w.heap.size]? = some x.obj)) (fun _ i _ => s.size - (intOf i).toNat)
  case atStart => exact ⟨0, none, 0, Nat.zero_le _, rfl, by rw [List.take_zero]; rfl, by rw [List.take_zero]; exact OwnI.nil_ _ _ _, HB1.out, HX1.out⟩
  case round =>
    obtain ⟨k, A, c, hk, rfl, rfl, HO, HB, HX⟩ := hrel
    by_cases hlt : k < s.size
    · have hg := bl_get s k hlt
      rw [HBL.out] at hg
      have hv : ∃ v, x.f[k]? = some v := by
        have : k < x.f.length := by show k < 3; omega
        exact ⟨_, List.getElem?_eq_getElem this⟩
      obtain ⟨v, hv⟩ := hv
      have hsn := readsG_snoc (kJ x.op) x.f k s[k] v hg hv
      have hvf := Ji.f_fits HOK.out k v hv
      have hrl := readsG_length ((kJ x.op).take k) x.f
      have hrl2 : (readsG ((kJ x.op).take k) x.f).length ≤ 3 := hrl
      have HSN := Lib.hid hsn
      have HV := Lib.hid hv
      clear hsn hg hv hrl
      by_cases hc : (s[k].toNat : Int) = 114
      · have c1 : ((s[k].toNat : Int) == 114) = true := by simpa using hc
        have hc2 : s[k] = 114 := UInt8.toNat_inj.1 (by simpa using (by omega : s[k].toNat = 114))
        have HST : Hid (readsG ((kJ x.op).take (k + 1)) x.f = readsG ((kJ x.op).take k) x.f ++ [v]) := by unfold Hid; rw [HSN.out, if_pos hc2]
        have hF := refFields_any x wr
        obtain ⟨kk, kf⟩ := box_cellsJ HX.out
        obtain ⟨k0, k1, k2, k3, k4⟩ := kk
        clear hc hc2
        go_wp2_with fail
        refine hF.mono ?_
        rintro e w2 ⟨hb, g, hgg, rfl, hG⟩
        have HO2 : Hid (OwnI w2 w.heap.size 3 A c (readsG ((kJ x.op).take k) x.f)) := HO.out.below hb (Nat.le_refl _)
        have HB2 := Lib.hid (HB.out.trans (hb.mono HB.out.size))
        have HX2 := Lib.hid (keep_b hb HX.out)
        have hcv : w2.cell? ⟨g, k, none⟩ = some (.int .i64 v) := by
          have h3 : x.f.map (Value.int .i64) = [.int .i64 x.a, .int .i64 x.b, .int .i64 x.c] := rfl
          have : (x.f.map (Value.int .i64))[k]? = some (.int .i64 v) := by rw [List.getElem?_map, HV.out]; rfl
          rw [h3] at this
          refine (cell_of_row _ _ _ _ _ _ hG).trans ?_
          simpa using this
        have hk3 : (k : Int) < 3 := by omega
        have hk0 : (0 : Int) ≤ (k : Int) := by omega
        have hsz2 : w.heap.size ≤ w2.heap.size := HB2.out.size
        obtain ⟨m, hm⟩ : ∃ m, (readsG ((kJ x.op).take k) x.f).length = m := ⟨_, rfl⟩
        have HM := Lib.hid hm
        rw [hm] at hrl2
        have hle : m + 1 ≤ 1000000 := by omega
        clear hb hG hF k0 k1 k2 k3 k4 kf
        rw [hm]
        clear hm
        go_wp2_with (at_builtin; refine wpList_appendInts _ rfl (.tmp 22) (.tmp 28) 38 rfl w.heap.size 3 i0 Tryz.underlying38 hi0 hz0 hz1 hz2 A (some ⟨w2.heap.size, 0, none⟩) c 1 1 (w2.heap.size + 1) m (m + 1) (readsG ((kJ x.op).take k) x.f) [v] rfl rfl (HO2.out.alloc _) HM.out rfl (src_new w2 hvf) hle (by simp; omega) ?_; intro A3 c3 w3 hO3 hG3)
        have hb3 := below_app (HB2.out.alloc hsz2 _) hG3 (HO2.out.alloc _) HM.out (by simp; omega)
        have hX3 : w3.heap[w.heap.size]? = some x.obj := past_int (HO2.out.alloc _) (pastJ _ HX2.out) (by decide) HM.out hG3
        have HO3 := Lib.hid hO3
        have HB3 := Lib.hid hb3
        have HX3 := Lib.hid hX3
        clear hO3 hb3 hX3 hG3 hcv
        go_wp2_with fail
        go_roundw
        case rel => exact ⟨k + 1, A3, c3, by omega, by go_num, by rw [HST.out, List.length_append, HM.out]; rfl, by rw [HST.out]; exact HO3.out, HB3.out, HX3.out⟩
        case measure => simp [intOf]; omega
      · have c1 : ((s[k].toNat : Int) == 114) = false := by simpa using hc
        have hc2 : s[k] ≠ 114 := fun e => hc (by rw [e]; rfl)
        have HST : Hid (readsG ((kJ x.op).take (k + 1)) x.f = readsG ((kJ x.op).take k) x.f) := by unfold Hid; rw [HSN.out, if_neg hc2, List.append_nil]
        clear hc hc2
        go_wp2_with fail
        go_roundw
        case rel => exact ⟨k + 1, A, c, by omega, by go_num, by rw [HST.out], by rw [HST.out]; exact HO.out, HB.out, HX.out⟩
        case measure => simp [intOf]; omega
    · have hks : k = s.size := by omega
      have HT : Hid (readsG ((kJ x.op).take k) x.f = readsJ x) := by unfold Hid readsJ; rw [List.take_of_length_le (by rw [← HSZ.out]; omega)]
      rw [HT.out] at HO ⊢
      go_wp2_with fail
      go_ret
      exact ⟨A, c, rfl, HO.out, HB.out⟩
end Go.Proofs.YtbmcddolfofmdaaGreatDoor
/- The program's table of instructions' shapes, as the row lays it, and how it is read; what stands behind a word, as the table's numbers. -/
namespace Go.Proofs.YtbmcddolfofmdaaGreatDoor
open Go.RowKit

/-- what stands behind a word: the table's numbers -/
def kindNs : List (List Int) := [[0, 0, 0, 0], [1, 0, 0, 6], [1, 2, 0, 0], [1, 2, 2, 0], [1, 2, 2, 0], [1, 2, 2, 0], [1, 3, 2, 0], [3, 2, 2, 0], [1, 3, 0, 0], [3, 2, 0, 0], [4, 0, 0, 0], [2, 2, 4, 0], [2, 2, 4, 0]]
def kN (op : Int) : List Int := if 0 ≤ op ∧ op ≤ 12 then kindNs.getD op.toNat [0, 0, 0, 0] else [0, 0, 0, 0]
theorem kN_len (op : Int) : (kN op).length = 4 := by
  unfold kN
  split
  · rename_i h
    rcases op_cases h.1 h.2 with rfl | rfl | rfl | rfl | rfl | rfl | rfl | rfl | rfl | rfl | rfl | rfl | rfl <;> decide
  · decide
theorem kN_bound (op : Int) : ∀ v ∈ kN op, 0 ≤ v ∧ v ≤ 6 := by
  unfold kN
  split
  · rename_i h
    rcases op_cases h.1 h.2 with rfl | rfl | rfl | rfl | rfl | rfl | rfl | rfl | rfl | rfl | rfl | rfl | rfl <;> decide
  · decide
def shRow (l : List UInt8) (ks : List Int) : List Value := .string (strJ l) :: ks.map (Value.int .i64)
def shAll : List (List UInt8) → List (List Int) → List Value
  | w :: ws, k :: ks => shRow w k ++ shAll ws ks
  | _, _ => []
/-- the table's cells -/
def shCells : List Value := shAll wordsJ kindNs
/-- the table's datum -/
def shData : DataW Unit := .agg (wordsJ.zipWith (fun w k => .agg [.lit (.string w), Lib.tabData .i64 k]) kindNs)
/-- the table holds what it was laid with -/
def ShIs (w : World) : Prop := w.var? Tryz.prog "purfle/code.shapes" = some shCells.toArray
/-- so at this world, and whatever is written behind it -/
def ShT (W : World) : Prop := ∀ w, Below W.heap.size W w → ShIs w
theorem ShT.here {W : World} (h : ShT W) : ShIs W := h W (Below.refl _ _)
theorem ShT.on {W w : World} (h : ShT W) (hb : Below W.heap.size W w) : ShT w := fun w' h' => h w' (hb.trans (h'.mono hb.size))
set_option maxRecDepth 100000 in
theorem gSh : Tryz.prog.globalNamed "purfle/code.shapes" = some 0 := by kernel_rfl
theorem shT_of {W : World} (h : ShIs W) : ShT W := fun w hb => by
  unfold ShIs World.var? at *
  rw [gSh] at h ⊢
  simp only [Option.bind_some] at h ⊢
  have hl : 0 < W.heap.size := by
    cases hh : W.heap[(0 : Nat)]? with
    | none => rw [hh] at h; cases h
    | some o => exact (Array.getElem?_eq_some_iff.1 hh).1
  rw [hb.block _ hl]
  exact h
theorem str_of {l : List UInt8} {s : ByteArray} (h : s.data.toList = l) : s = strJ l := by
  subst h
  cases s
  rfl
set_option maxRecDepth 100000 in
theorem row_of_trod {W : World} {base : Nat} {sp : Nat → Bool} {held : Bool} {fuel : Nat} {cs : List Value} {l : List UInt8} {ks : List Int} {p : List MemPlace} {enc : TypeId × Value → Unit}
    (h : DataW.trod enc Tryz.prog W base sp held fuel 58 cs = some (.agg [.lit (.string l), Lib.tabData .i64 ks], p)) : cs = shRow l ks := by
  obtain ⟨y0, y1, n, hx, hl, h0, h1⟩ := Go.ChangeShapes.trod_struct2 Tryz.underlying58 h
  injection hx with hx _
  injection hx with hx
  injection hx with hx0 hx1
  injection hx1 with hx1 _
  obtain ⟨s, hs, hy, _⟩ := DataW.trod_string Tryz.underlying9 h0
  have hc1 := Lib.cells_of_tab (p := y1.2) (zs := ks) Tryz.underlying56 Tryz.underlying3 (by kernel_rfl) (by kernel_rfl) (by rw [h1]; exact congrArg some (Prod.ext hx1.symm rfl))
  have hlen : cs.length = 5 := hl.trans (by kernel_rfl)
  have es : s = strJ l := by
    rw [hy] at hx0
    injection hx0 with hx0
    injection hx0 with hx0
    exact str_of hx0.symm
  subst es
  have e0 : (cs.drop 0).take 1 = [.string (strJ l)] := hs
  have e1 : (cs.drop 1).take 4 = ks.map (Value.int .i64) := hc1
  rw [List.drop_zero] at e0
  rw [List.take_of_length_le (by simp; omega)] at e1
  rw [← List.take_append_drop 1 cs, e0, e1]
  rfl
theorem rows_of_chunks : ∀ (ws : List (List UInt8)) (ks : List (List Int)) (cs : List Value), ws.length = ks.length → cs.length = ws.length * 5 →
    (∀ (i : Nat) (w : List UInt8) (k : List Int), ws[i]? = some w → ks[i]? = some k → (cs.drop (i * 5)).take 5 = shRow w k) → cs = shAll ws ks
  | [], _, cs, _, hl, _ => by
    rw [List.eq_nil_of_length_eq_zero (l := cs) (by simpa using hl)]
    unfold shAll; rfl
  | w :: ws, [], cs, h, _, _ => by simp at h
  | w :: ws, k :: ks, cs, h, hl, hc => by
    have h0 := hc 0 w k rfl rfl
    rw [Nat.zero_mul, List.drop_zero] at h0
    show cs = shRow w k ++ shAll ws ks
    rw [← h0]
    have ih := rows_of_chunks ws ks (cs.drop 5) (by simpa using h) (by simp only [List.length_cons] at hl; rw [List.length_drop]; omega) (fun i w' k' hw hk => by
      have := hc (i + 1) w' k' (by simpa using hw) (by simpa using hk)
      rw [List.drop_drop, show 5 + i * 5 = (i + 1) * 5 by omega]
      exact this)
    rw [← ih, List.take_append_drop]
set_option maxRecDepth 100000 in
theorem sh_of_trod {W : World} {base : Nat} {sp : Nat → Bool} {held : Bool} {fuel : Nat} {cs : List Value} {p : List MemPlace} {enc : TypeId × Value → Unit}
    (h : DataW.trod enc Tryz.prog W base sp held fuel 83 cs = some (shData, p)) : cs = shCells := by
  obtain ⟨xs, m, _, hx, hl, hxl, hch⟩ := DataW.trod_array Tryz.underlying83 h
  injection hx with hx _
  unfold shData at hx
  injection hx with hx
  have hlen : cs.length = 65 := hl.trans (by kernel_rfl)
  have hce : Tryz.prog.cellsOf 58 = 5 := by kernel_rfl
  refine rows_of_chunks wordsJ kindNs cs (by decide) (by rw [hlen]; decide) fun i w k hw hk => ?_
  have hi : i < 13 := (List.getElem?_eq_some_iff.1 hw).1
  have hc := hch i hi
  rw [hce] at hc
  have hxi : i < xs.length := by omega
  rw [List.getElem?_eq_getElem hxi] at hc
  have hz := congrArg (·[i]?) hx
  simp only [List.getElem?_zipWith, hw, hk, List.getElem?_map, List.getElem?_eq_getElem hxi, Option.map_some] at hz
  have hz' := Option.some.inj hz
  exact row_of_trod (p := xs[i].2) (hc.trans (congrArg some (Prod.ext hz'.symm rfl)))
theorem shAll_at : ∀ (ws : List (List UInt8)) (ks : List (List Int)) (k i : Nat) (w : List UInt8) (q : List Int), (∀ q ∈ ks, q.length = 4) → ws[k]? = some w → ks[k]? = some q → i < 5 → (shAll ws ks)[k * 5 + i]? = (shRow w q)[i]?
  | [], _, k, _, _, _, _, h, _, _ => by simp at h
  | _ :: _, [], k, _, _, _, _, _, h, _ => by simp at h
  | w :: ws, q :: ks, 0, i, w', q', hl, hw, hq, hi => by
    simp at hw hq
    subst hw; subst hq
    have h4 := hl q (by simp)
    show (shRow w q ++ shAll ws ks)[0 * 5 + i]? = _
    rw [Nat.zero_mul, Nat.zero_add, List.getElem?_append_left (by simp [shRow]; omega)]
  | w :: ws, q :: ks, k + 1, i, w', q', hl, hw, hq, hi => by
    have h4 := hl q (by simp)
    have hr : (shRow w q).length = 5 := by simp [shRow]; omega
    show (shRow w q ++ shAll ws ks)[(k + 1) * 5 + i]? = _
    rw [List.getElem?_append_right (by omega), hr, show (k + 1) * 5 + i - 5 = k * 5 + i by omega]
    exact shAll_at ws ks k i w' q' (fun z hz => hl z (by simp [hz])) (by simpa using hw) (by simpa using hq) hi
theorem shCells_at {k i : Nat} (hk : k < 13) (hi : i < 5) : shCells[k * 5 + i]? = (shRow (wJ k) (kN k))[i]? := by
  refine shAll_at wordsJ kindNs k i _ _ (by decide) ?_ ?_ hi
  · unfold wJ
    rw [if_pos (by omega), Int.toNat_natCast, List.getD_eq_getElem?_getD, List.getElem?_eq_getElem (show k < wordsJ.length from hk)]; rfl
  · unfold kN
    rw [if_pos (by omega), Int.toNat_natCast, List.getD_eq_getElem?_getD, List.getElem?_eq_getElem (show k < kindNs.length from hk)]; rfl
/-- what stands behind a word, at one place -/
def kA (op : Int) (j : Nat) : Int := (kN op).getD j 0
/-- the cells of one op's row -/
structure ShRow (w : World) (o : Nat) (op : Int) : Prop where
  c0 : w.cell? ⟨0, o, none⟩ = some (.string (strJ (wJ op)))
  c1 : w.cell? ⟨0, o + 1, none⟩ = some (.int .i64 (kA op 0))
  c2 : w.cell? ⟨0, o + 2, none⟩ = some (.int .i64 (kA op 1))
  c3 : w.cell? ⟨0, o + 3, none⟩ = some (.int .i64 (kA op 2))
  c4 : w.cell? ⟨0, o + 4, none⟩ = some (.int .i64 (kA op 3))
theorem ShIs.row {w : World} (h : ShIs w) {k : Nat} (hk : k < 13) : ShRow w (k * 5) (k : Int) := by
  have c : ∀ i, i < 5 → w.cell? ⟨0, k * 5 + i, none⟩ = (shRow (wJ k) (kN k))[i]? := fun i hi => by
    rw [World.var?_cell gSh h (k * 5 + i), List.getElem?_toArray]
    exact shCells_at hk hi
  have e : ∀ j, j < 4 → (shRow (wJ k) (kN k))[j + 1]? = some (.int .i64 (kA (k : Int) j)) := fun j hj => by
    unfold kA
    have hl := kN_len (k : Int)
    show ((kN (k : Int)).map (Value.int .i64))[j]? = _
    rw [List.getD_eq_getElem?_getD, List.getElem?_map, List.getElem?_eq_getElem (by omega)]
    rfl
  exact ⟨c 0 (by omega), (c 1 (by omega)).trans (e 0 (by omega)), (c 2 (by omega)).trans (e 1 (by omega)), (c 3 (by omega)).trans (e 2 (by omega)), (c 4 (by omega)).trans (e 3 (by omega))⟩
/-- a shape, as a value -/
def shV (op : Int) : Value := .agg #[.string (strJ (wJ op)), .int .i64 (kA op 0), .int .i64 (kA op 1), .int .i64 (kA op 2), .int .i64 (kA op 3)]
def isOp (op : Int) : Bool := decide (0 ≤ op ∧ op ≤ 12)
def ShapeP (op : Int) (w : World) (e : Ending) (w' : World) : Prop := e = .returned (.tuple #[shV op, .bool (isOp op)]) ∧ Below w.heap.size w w'
end Go.Proofs.YtbmcddolfofmdaaGreatDoor
/- The document's may: whether an instruction may be, in code. -/
namespace Go.Proofs.YtbmcddolfofmdaaGreatDoor
open Go.RowKit

/-- code, as it is handed in -/
structure Cq where
  R : Int
  A : Int
  I : Int
  P : Option Addr
  n : Nat
  c : Nat
  l : List Ji
abbrev Cq.val (q : Cq) : Value := .agg #[.int .i64 q.R, .int .i64 q.A, .int .i64 q.I, .slice q.P q.n q.c]
abbrev Cq.obj (q : Cq) : Obj := .cells #[.int .i64 q.R, .int .i64 q.A, .int .i64 q.I, .slice q.P q.n q.c] 24
def Cq.cd (q : Cq) : Cd := ⟨q.R, q.A, q.I, q.l⟩
structure Cq.In (q : Cq) (w : World) : Prop where
  ins : Jis w w.heap.size q.P q.n q.l
  r : -9223372036854775808 ≤ q.R ∧ q.R ≤ 9223372036854775807
  a : -9223372036854775808 ≤ q.A ∧ q.A ≤ 9223372036854775807
  i : -9223372036854775808 ≤ q.I ∧ q.I ≤ 9223372036854775807
  n1 : q.n ≤ 9223372036854775807
  nc : q.n ≤ q.c
theorem Cq.In.on {q : Cq} {w w' : World} (h : q.In w) (hb : Below w.heap.size w w') : q.In w' := ⟨h.ins.on hb, h.r, h.a, h.i, h.n1, h.nc⟩
theorem Cq.In.len {q : Cq} {w : World} (h : q.In w) : q.l.length = q.n := h.ins.1
/-- the numbers of a place in an instruction -/
theorem Ji.f_at (x : Ji) {i : Nat} (h : i < 3) : ∃ v, x.f[i]? = some v ∧ x.f.getD i 0 = v := by
  have : i < x.f.length := by show i < 3; omega
  exact ⟨x.f[i], List.getElem?_eq_getElem this, by rw [List.getD_eq_getElem?_getD, List.getElem?_eq_getElem this]; rfl⟩
def InB (R A L : Int) (x : Ji) (i : Nat) : Prop := 0 ≤ x.f.getD i 0 ∧ x.f.getD i 0 < limJ R A L ((kJ x.op).getD i 32)
theorem mayJ_no {R A L : Int} {x : Ji} {i : Nat} (hi : i < 3) (h : ¬ InB R A L x i) : mayJ R A L x = false := by
  unfold mayJ
  have : ((List.range 3).all fun i => decide (0 ≤ x.f.getD i 0 ∧ x.f.getD i 0 < limJ R A L ((kJ x.op).getD i 32))) = false := by
    rw [List.all_eq_false]
    exact ⟨i, List.mem_range.2 hi, by simpa [InB] using h⟩
  rw [this, Bool.and_false, Bool.false_and]
theorem mayJ_out {R A L : Int} {x : Ji} (h : x.op < 0 ∨ 12 < x.op) : mayJ R A L x = false := by
  unfold mayJ
  rw [decide_eq_false (by omega), Bool.false_and, Bool.false_and]
theorem mayJ_yes {R A L : Int} {x : Ji} (h0 : 0 ≤ x.op ∧ x.op ≤ 12) (h : ∀ j, j < 3 → InB R A L x j) :
    mayJ R A L x = if (110 : UInt8) ∈ kJ x.op then decide (-1000000000000000000 < x.n ∧ x.n < 1000000000000000000) else decide (x.n = 0) := by
  unfold mayJ
  have : ((List.range 3).all fun i => decide (0 ≤ x.f.getD i 0 ∧ x.f.getD i 0 < limJ R A L ((kJ x.op).getD i 32))) = true := by
    rw [List.all_eq_true]
    intro i hi
    have := h i (List.mem_range.1 hi)
    simpa [InB] using this
  rw [decide_eq_true h0, this, Bool.true_and, Bool.true_and]
theorem mayJ_parts {R A L : Int} {x : Ji} (h : mayJ R A L x = true) : (0 ≤ x.op ∧ x.op ≤ 12) ∧ (∀ i, i < 3 → InB R A L x i) ∧ ((110 : UInt8) ∈ kJ x.op → -1000000000000000000 < x.n ∧ x.n < 1000000000000000000) ∧ ((110 : UInt8) ∉ kJ x.op → x.n = 0) := by
  unfold mayJ at h
  rw [Bool.and_eq_true, Bool.and_eq_true] at h
  obtain ⟨⟨h1, h2⟩, h3⟩ := h
  refine ⟨of_decide_eq_true h1, fun i hi => ?_, fun hm => ?_, fun hm => ?_⟩
  · have := List.all_eq_true.1 h2 i (List.mem_range.2 hi)
    unfold InB
    exact of_decide_eq_true this
  · rw [if_pos hm] at h3
    exact of_decide_eq_true h3
  · rw [if_neg hm] at h3
    exact of_decide_eq_true h3
theorem Cd.may_parts {c : Cd} (h : c.may = true) : (0 ≤ c.R ∧ c.R ≤ 128 ∧ 0 ≤ c.A ∧ c.A ≤ 128 ∧ 0 ≤ c.I ∧ c.I ≤ c.A ∧ 1 ≤ c.l.length ∧ c.l.length ≤ 4096) ∧ (∀ x ∈ c.l, mayJ c.R c.A c.l.length x = true) ∧ ∃ x, c.l.getLast? = some x ∧ (x.op = 0 ∨ x.op = 10) := by
  unfold Cd.may at h
  rw [Bool.and_eq_true, Bool.and_eq_true] at h
  obtain ⟨⟨h1, h2⟩, h3⟩ := h
  refine ⟨of_decide_eq_true h1, List.all_eq_true.1 h2, ?_⟩
  cases e : c.l.getLast? with
  | none => rw [e] at h3; cases h3
  | some x => rw [e] at h3; exact ⟨x, rfl, of_decide_eq_true h3⟩
theorem u8_of {c : UInt8} {n : Nat} (h : (c.toNat : Int) = (n : Int)) (hn : n < 256) : c = UInt8.ofNat n := UInt8.toNat_inj.1 (by rw [UInt8.toNat_ofNat_of_lt' (by simpa using hn)]; omega)
/-- whether an n is among the first kinds -/
def nIn (K : List UInt8) (i : Nat) : Bool := decide ((110 : UInt8) ∈ K.take i)
theorem nIn_snoc {K : List UInt8} {i : Nat} {c : UInt8} (h : K[i]? = some c) : nIn K (i + 1) = (nIn K i || decide (c = 110)) := by
  unfold nIn
  rw [List.take_add_one, h]
  simp [List.mem_append, eq_comm]
theorem nIn_end {K : List UInt8} {i : Nat} (h : K.length ≤ i) : nIn K (i + 1) = nIn K i := by
  unfold nIn
  rw [List.take_of_length_le h, List.take_of_length_le (by omega)]
theorem nIn_all {K : List UInt8} {i : Nat} (h : K.length ≤ i) : nIn K i = decide ((110 : UInt8) ∈ K) := by unfold nIn; rw [List.take_of_length_le h]
theorem inB_of {R A L : Int} {x : Ji} {i : Nat} {v lim : Int} (hv : x.f.getD i 0 = v) (hl : limJ R A L ((kJ x.op).getD i 32) = lim) : InB R A L x i ↔ (0 ≤ v ∧ v < lim) := by unfold InB; rw [hv, hl]
def MayJP (x : Ji) (q : Cq) (w : World) (e : Ending) (w' : World) : Prop := e = .returned (.bool (mayJ q.R q.A q.n x)) ∧ Below w.heap.size w w'
set_option maxRecDepth 100000 in
set_option maxHeartbeats 4000000 in
theorem refMay_any (x : Ji) (q : Cq) (w : World) (hx : x.ok) (hq : q.In w) : Calls Tryz.prog 37 #[x.val, q.val] w (MayJP x q w) := by
  obtain ⟨W0, hW0⟩ : ∃ W, (w.alloc x.obj).alloc q.obj = W := ⟨_, rfl⟩
  have HB0 : Hid (Below w.heap.size w W0) := by rw [← hW0]; exact ((Below.refl w.heap.size w).alloc (Nat.le_refl _) _).alloc (by simp) _
  have HX0 : Hid (W0.heap[w.heap.size]? = some x.obj) := by rw [← hW0]; exact pastJ _ (newJ w x)
  have HY0 : Hid (W0.heap[w.heap.size + 1]? = some q.obj) := by
    have h := heap_alloc_new (w.alloc x.obj) q.obj
    rw [World.size_alloc, hW0] at h
    exact h
  have HOK := Lib.hid hx
  have HQ := Lib.hid hq
  obtain ⟨s, hs, hbl, hsz⟩ := strJ_name (kJ x.op)
  have hsm : s.size ≤ 3 := by have := kJ_len x.op; omega
  have HS := Lib.hid hs
  have HBL := Lib.hid hbl
  have HSZ := Lib.hid hsz
  have hn1 := hq.n1
  obtain ⟨⟨k0, k1, k2, k3, k4⟩, kf⟩ := box_cellsJ HX0.out
  obtain ⟨m0, m1, m2, m3, _⟩ := lvCells HY0.out
  clear hs hbl hsz hx hq
  by_cases hop : x.op < 0 ∨ 12 < x.op
  · have HM := Lib.hid (mayJ_out (R := q.R) (A := q.A) (L := q.n) hop)
    have HW : Hid (strJ (wJ x.op) = (⟨#[]⟩ : ByteArray)) := by unfold Hid wJ; rw [if_neg (by omega)]; rfl
    clear hop
    go_enter Tryz.func37, Tryz.ntmps37
    go_wp2_with fail
    try rw [hW0]
    refine (refWord14_any x.op W0).mono ?_
    rintro e w1 ⟨rfl, hb⟩
    rw [HW.out]
    have HB1 := Lib.hid (HB0.out.trans (hb.mono HB0.out.size))
    clear hb hW0 k0 k1 k2 k3 k4 kf m0 m1 m2 m3
    go_wp2_with fail
    go_ret
    exact ⟨by rw [HM.out]; rfl, HB1.out⟩
  have hop0 : 0 ≤ x.op ∧ x.op ≤ 12 := by omega
  have HOP := Lib.hid hop0
  obtain ⟨wd, hwd, hwl, hws⟩ := strJ_name (wJ x.op)
  have hwn : wd.size ≠ 0 := by
    rw [hws]
    have : ∀ op : Int, 0 ≤ op → op ≤ 12 → (wJ op).length ≠ 0 := by
      intro op h0 h1
      rcases op_cases h0 h1 with rfl | rfl | rfl | rfl | rfl | rfl | rfl | rfl | rfl | rfl | rfl | rfl | rfl <;> decide
    exact this _ hop0.1 hop0.2
  have hne := not_empty hwn
  have HWD := Lib.hid hwd
  clear hop hop0 hwd hwl hws hwn
  go_enter Tryz.func37, Tryz.ntmps37
  go_wp2_with fail
  try rw [hW0]
  refine (refWord14_any x.op W0).mono ?_
  rintro e w1 ⟨rfl, hb⟩
  rw [HWD.out, HS.out]
  have HB1 := Lib.hid (HB0.out.trans (hb.mono HB0.out.size))
  have HX1 := Lib.hid (keep_b hb HX0.out)
  have HY1 := Lib.hid (keep_b hb HY0.out)
  clear hb hW0 k0 k1 k2 k3 k4 kf m0 m1 m2 m3
  obtain ⟨⟨k0, k1, k2, k3, k4⟩, kf⟩ := box_cellsJ HX1.out
  go_wp2_with fail
  refine (refFields_any x w1).mono ?_
  rintro e w2 ⟨hb, g, hgg, rfl, hG⟩
  have HB2 := Lib.hid (HB1.out.trans (hb.mono HB1.out.size))
  have HX2 := Lib.hid (keep_b hb HX1.out)
  have HY2 := Lib.hid (keep_b hb HY1.out)
  have HG := Lib.hid hG
  clear hb hgg hG k0 k1 k2 k3 k4 kf
  obtain ⟨m0, m1, m2, m3, _⟩ := lvCells HY2.out
  obtain ⟨⟨k0, k1, k2, k3, k4⟩, kf⟩ := box_cellsJ HX2.out
  clear k0 k1 k2 k3 kf hne
  go_wp2_with fail
  go_loop [8, 22] (fun v i => ∃ k : Nat, k ≤ 3 ∧ i = .int .i64 k ∧ v = .bool (nIn (kJ x.op) k) ∧ Hid (∀ j, j < k → InB q.R q.A q.n x j)) (fun _ i => 3 - (intOf i).toNat)
  case atStart => exact ⟨0, by omega, rfl, rfl, fun j hj => absurd hj (by omega)⟩
  case round =>
    obtain ⟨k, hk, rfl, rfl, HA⟩ := hrel
    by_cases hlt : k < 3
    · obtain ⟨v, hv, hvd⟩ := x.f_at hlt
      have hcv : w2.cell? ⟨g, k, none⟩ = some (.int .i64 v) := by
        have h3 : x.f.map (Value.int .i64) = [.int .i64 x.a, .int .i64 x.b, .int .i64 x.c] := rfl
        have : (x.f.map (Value.int .i64))[k]? = some (.int .i64 v) := by rw [List.getElem?_map, hv]; rfl
        rw [h3] at this
        refine (cell_of_row _ _ _ _ _ _ HG.out).trans ?_
        simpa using this
      have hk0 : (0 : Int) ≤ (k : Int) := by omega
      have hk3 : (k : Int) < 3 := by omega
      have HVD := Lib.hid hvd
      obtain ⟨b, hb⟩ : ∃ b, nIn (kJ x.op) k = b := ⟨_, rfl⟩
      have HBN := Lib.hid hb
      rw [hb]
      clear hv hvd hb
      by_cases hks : k < s.size
      · have hg := bl_get s k hks
        rw [HBL.out] at hg
        have hkd : (kJ x.op).getD k 32 = s[k] := by rw [List.getD_eq_getElem?_getD, hg]; rfl
        have HN1 := Lib.hid (nIn_snoc hg)
        have HKD := Lib.hid hkd
        have hks2 : (k : Int) < (s.size : Int) := by omega
        obtain ⟨cc, hcc⟩ : ∃ cc : Int, (s[k].toNat : Int) = cc := ⟨_, rfl⟩
        have HCC := Lib.hid hcc
        clear hg hkd
        by_cases h119 : cc = 119
        · subst h119
          have hck : s[k] = 119 := u8_of (n := 119) HCC.out (by omega)
          have HCK := Lib.hid hck
          clear hck
          have HL : Hid (limJ q.R q.A q.n ((kJ x.op).getD k 32) = q.R) := by unfold Hid; rw [HKD.out, HCK.out]; rfl
          have HNN : Hid (nIn (kJ x.op) (k + 1) = b) := by unfold Hid; rw [HN1.out, HCK.out, HBN.out]; simp
          by_cases hneg : v < 0
          · have HM := Lib.hid (mayJ_no (R := q.R) (A := q.A) (L := q.n) hlt (by rw [inB_of HVD.out HL.out]; omega))
            have d1 : decide (v < 0) = true := decide_eq_true hneg
            go_wp2_with fail
            go_ret
            exact ⟨by rw [HM.out]; rfl, HB2.out⟩
          · have d1 : decide (v < 0) = false := decide_eq_false hneg
            by_cases hge : q.R ≤ v
            · have HM := Lib.hid (mayJ_no (R := q.R) (A := q.A) (L := q.n) hlt (by rw [inB_of HVD.out HL.out]; omega))
              have d2 : decide (q.R ≤ v) = true := decide_eq_true hge
              clear hneg
              go_wp2_with fail
              go_ret
              exact ⟨by rw [HM.out]; rfl, HB2.out⟩
            · have HI : Hid (InB q.R q.A q.n x k) := by unfold Hid; rw [inB_of HVD.out HL.out]; omega
              have d2 : decide (q.R ≤ v) = false := decide_eq_false hge
              go_wp2_with fail
              go_round
              case rel => exact ⟨k + 1, by omega, by go_num, by rw [HNN.out], fun j hj => by
                by_cases e : j = k
                · rw [e]; exact HI.out
                · exact HA.out j (by omega)⟩
              case measure => simp [intOf]; omega
        by_cases h114 : cc = 114
        · subst h114
          have hck : s[k] = 114 := u8_of (n := 114) HCC.out (by omega)
          have HCK := Lib.hid hck
          clear hck
          have HL : Hid (limJ q.R q.A q.n ((kJ x.op).getD k 32) = q.R) := by unfold Hid; rw [HKD.out, HCK.out]; rfl
          have HNN : Hid (nIn (kJ x.op) (k + 1) = b) := by unfold Hid; rw [HN1.out, HCK.out, HBN.out]; simp
          by_cases hneg : v < 0
          · have HM := Lib.hid (mayJ_no (R := q.R) (A := q.A) (L := q.n) hlt (by rw [inB_of HVD.out HL.out]; omega))
            have d1 : decide (v < 0) = true := decide_eq_true hneg
            go_wp2_with fail
            go_ret
            exact ⟨by rw [HM.out]; rfl, HB2.out⟩
          · have d1 : decide (v < 0) = false := decide_eq_false hneg
            by_cases hge : q.R ≤ v
            · have HM := Lib.hid (mayJ_no (R := q.R) (A := q.A) (L := q.n) hlt (by rw [inB_of HVD.out HL.out]; omega))
              have d2 : decide (q.R ≤ v) = true := decide_eq_true hge
              clear hneg
              go_wp2_with fail
              go_ret
              exact ⟨by rw [HM.out]; rfl, HB2.out⟩
            · have HI : Hid (InB q.R q.A q.n x k) := by unfold Hid; rw [inB_of HVD.out HL.out]; omega
              have d2 : decide (q.R ≤ v) = false := decide_eq_false hge
              go_wp2_with fail
              go_round
              case rel => exact ⟨k + 1, by omega, by go_num, by rw [HNN.out], fun j hj => by
                by_cases e : j = k
                · rw [e]; exact HI.out
                · exact HA.out j (by omega)⟩
              case measure => simp [intOf]; omega
        by_cases h97 : cc = 97
        · subst h97
          have hck : s[k] = 97 := u8_of (n := 97) HCC.out (by omega)
          have HCK := Lib.hid hck
          clear hck
          have HL : Hid (limJ q.R q.A q.n ((kJ x.op).getD k 32) = q.A) := by unfold Hid; rw [HKD.out, HCK.out]; rfl
          have HNN : Hid (nIn (kJ x.op) (k + 1) = b) := by unfold Hid; rw [HN1.out, HCK.out, HBN.out]; simp
          by_cases hneg : v < 0
          · have HM := Lib.hid (mayJ_no (R := q.R) (A := q.A) (L := q.n) hlt (by rw [inB_of HVD.out HL.out]; omega))
            have d1 : decide (v < 0) = true := decide_eq_true hneg
            go_wp2_with fail
            go_ret
            exact ⟨by rw [HM.out]; rfl, HB2.out⟩
          · have d1 : decide (v < 0) = false := decide_eq_false hneg
            by_cases hge : q.A ≤ v
            · have HM := Lib.hid (mayJ_no (R := q.R) (A := q.A) (L := q.n) hlt (by rw [inB_of HVD.out HL.out]; omega))
              have d2 : decide (q.A ≤ v) = true := decide_eq_true hge
              clear hneg
              go_wp2_with fail
              go_ret
              exact ⟨by rw [HM.out]; rfl, HB2.out⟩
            · have HI : Hid (InB q.R q.A q.n x k) := by unfold Hid; rw [inB_of HVD.out HL.out]; omega
              have d2 : decide (q.A ≤ v) = false := decide_eq_false hge
              go_wp2_with fail
              go_round
              case rel => exact ⟨k + 1, by omega, by go_num, by rw [HNN.out], fun j hj => by
                by_cases e : j = k
                · rw [e]; exact HI.out
                · exact HA.out j (by omega)⟩
              case measure => simp [intOf]; omega
        by_cases h112 : cc = 112
        · subst h112
          have hck : s[k] = 112 := u8_of (n := 112) HCC.out (by omega)
          have HCK := Lib.hid hck
          clear hck
          have HL : Hid (limJ q.R q.A q.n ((kJ x.op).getD k 32) = (q.n : Int)) := by unfold Hid; rw [HKD.out, HCK.out]; rfl
          have HNN : Hid (nIn (kJ x.op) (k + 1) = b) := by unfold Hid; rw [HN1.out, HCK.out, HBN.out]; simp
          by_cases hneg : v < 0
          · have HM := Lib.hid (mayJ_no (R := q.R) (A := q.A) (L := q.n) hlt (by rw [inB_of HVD.out HL.out]; omega))
            have d1 : decide (v < 0) = true := decide_eq_true hneg
            go_wp2_with fail
            go_ret
            exact ⟨by rw [HM.out]; rfl, HB2.out⟩
          · have d1 : decide (v < 0) = false := decide_eq_false hneg
            by_cases hge : (q.n : Int) ≤ v
            · have HM := Lib.hid (mayJ_no (R := q.R) (A := q.A) (L := q.n) hlt (by rw [inB_of HVD.out HL.out]; omega))
              have d2 : decide ((q.n : Int) ≤ v) = true := decide_eq_true hge
              clear hneg
              go_wp2_with fail
              go_ret
              exact ⟨by rw [HM.out]; rfl, HB2.out⟩
            · have HI : Hid (InB q.R q.A q.n x k) := by unfold Hid; rw [inB_of HVD.out HL.out]; omega
              have d2 : decide ((q.n : Int) ≤ v) = false := decide_eq_false hge
              go_wp2_with fail
              go_round
              case rel => exact ⟨k + 1, by omega, by go_num, by rw [HNN.out], fun j hj => by
                by_cases e : j = k
                · rw [e]; exact HI.out
                · exact HA.out j (by omega)⟩
              case measure => simp [intOf]; omega
        by_cases h110 : cc = 110
        · subst h110
          have hck : s[k] = 110 := u8_of (n := 110) HCC.out (by omega)
          have HCK := Lib.hid hck
          clear hck
          have HL : Hid (limJ q.R q.A q.n ((kJ x.op).getD k 32) = 1) := by unfold Hid; rw [HKD.out, HCK.out]; rfl
          have HNN : Hid (nIn (kJ x.op) (k + 1) = true) := by unfold Hid; rw [HN1.out, HCK.out, HBN.out]; simp
          by_cases hneg : v < 0
          · have HM := Lib.hid (mayJ_no (R := q.R) (A := q.A) (L := q.n) hlt (by rw [inB_of HVD.out HL.out]; omega))
            have d1 : decide (v < 0) = true := decide_eq_true hneg
            go_wp2_with fail
            go_ret
            exact ⟨by rw [HM.out]; rfl, HB2.out⟩
          · have d1 : decide (v < 0) = false := decide_eq_false hneg
            by_cases hge : 1 ≤ v
            · have HM := Lib.hid (mayJ_no (R := q.R) (A := q.A) (L := q.n) hlt (by rw [inB_of HVD.out HL.out]; omega))
              have d2 : decide (1 ≤ v) = true := decide_eq_true hge
              clear hneg
              go_wp2_with fail
              go_ret
              exact ⟨by rw [HM.out]; rfl, HB2.out⟩
            · have HI : Hid (InB q.R q.A q.n x k) := by unfold Hid; rw [inB_of HVD.out HL.out]; omega
              have d2 : decide (1 ≤ v) = false := decide_eq_false hge
              go_wp2_with fail
              go_round
              case rel => exact ⟨k + 1, by omega, by go_num, by rw [HNN.out], fun j hj => by
                by_cases e : j = k
                · rw [e]; exact HI.out
                · exact HA.out j (by omega)⟩
              case measure => simp [intOf]; omega
        have c1 : (cc == 119) = false := by simpa using h119
        have c2 : (cc == 114) = false := by simpa using h114
        have c3 : (cc == 97) = false := by simpa using h97
        have c4 : (cc == 112) = false := by simpa using h112
        have c5 : (cc == 110) = false := by simpa using h110
        have HCK : Hid (s[k] ≠ 119 ∧ s[k] ≠ 114 ∧ s[k] ≠ 97 ∧ s[k] ≠ 112 ∧ s[k] ≠ 110) := by
          refine ⟨fun e => h119 ?_, fun e => h114 ?_, fun e => h97 ?_, fun e => h112 ?_, fun e => h110 ?_⟩ <;> (rw [← HCC.out, e]; rfl)
        clear h119 h114 h97 h112 h110
        have HL : Hid (limJ q.R q.A q.n ((kJ x.op).getD k 32) = (1 : Int)) := by unfold Hid; rw [HKD.out]; unfold limJ; rw [if_neg (by simp [HCK.out.1, HCK.out.2.1]), if_neg HCK.out.2.2.1, if_neg HCK.out.2.2.2.1]
        have HNN : Hid (nIn (kJ x.op) (k + 1) = b) := by unfold Hid; rw [HN1.out, HBN.out, decide_eq_false HCK.out.2.2.2.2, Bool.or_false]
        by_cases hneg : v < 0
        · have HM := Lib.hid (mayJ_no (R := q.R) (A := q.A) (L := q.n) hlt (by rw [inB_of HVD.out HL.out]; omega))
          have d1 : decide (v < 0) = true := decide_eq_true hneg
          go_wp2_with fail
          go_ret
          exact ⟨by rw [HM.out]; rfl, HB2.out⟩
        · have d1 : decide (v < 0) = false := decide_eq_false hneg
          by_cases hge : (1 : Int) ≤ v
          · have HM := Lib.hid (mayJ_no (R := q.R) (A := q.A) (L := q.n) hlt (by rw [inB_of HVD.out HL.out]; omega))
            have d2 : decide ((1 : Int) ≤ v) = true := decide_eq_true hge
            clear hneg
            go_wp2_with fail
            go_ret
            exact ⟨by rw [HM.out]; rfl, HB2.out⟩
          · have HI : Hid (InB q.R q.A q.n x k) := by unfold Hid; rw [inB_of HVD.out HL.out]; omega
            have d2 : decide ((1 : Int) ≤ v) = false := decide_eq_false hge
            go_wp2_with fail
            go_round
            case rel => exact ⟨k + 1, by omega, by go_num, by rw [HNN.out], fun j hj => by
              by_cases e : j = k
              · rw [e]; exact HI.out
              · exact HA.out j (by omega)⟩
            case measure => simp [intOf]; omega
      · have hkd : (kJ x.op).getD k 32 = 32 := by rw [List.getD_eq_getElem?_getD, List.getElem?_eq_none (by rw [← HSZ.out]; omega)]; rfl
        have HKD := Lib.hid hkd
        have HN1 := Lib.hid (nIn_end (K := kJ x.op) (i := k) (by rw [← HSZ.out]; omega))
        have dks : decide (k < s.size) = false := decide_eq_false hks
        clear hkd
        have HL : Hid (limJ q.R q.A q.n ((kJ x.op).getD k 32) = (1 : Int)) := by unfold Hid; rw [HKD.out]; rfl
        have HNN : Hid (nIn (kJ x.op) (k + 1) = b) := by unfold Hid; rw [HN1.out, HBN.out]
        by_cases hneg : v < 0
        · have HM := Lib.hid (mayJ_no (R := q.R) (A := q.A) (L := q.n) hlt (by rw [inB_of HVD.out HL.out]; omega))
          have d1 : decide (v < 0) = true := decide_eq_true hneg
          go_wp2_with fail
          go_ret
          exact ⟨by rw [HM.out]; rfl, HB2.out⟩
        · have d1 : decide (v < 0) = false := decide_eq_false hneg
          by_cases hge : (1 : Int) ≤ v
          · have HM := Lib.hid (mayJ_no (R := q.R) (A := q.A) (L := q.n) hlt (by rw [inB_of HVD.out HL.out]; omega))
            have d2 : decide ((1 : Int) ≤ v) = true := decide_eq_true hge
            clear hneg
            go_wp2_with fail
            go_ret
            exact ⟨by rw [HM.out]; rfl, HB2.out⟩
          · have HI : Hid (InB q.R q.A q.n x k) := by unfold Hid; rw [inB_of HVD.out HL.out]; omega
            have d2 : decide ((1 : Int) ≤ v) = false := decide_eq_false hge
            go_wp2_with fail
            go_round
            case rel => exact ⟨k + 1, by omega, by go_num, by rw [HNN.out], fun j hj => by
              by_cases e : j = k
              · rw [e]; exact HI.out
              · exact HA.out j (by omega)⟩
            case measure => simp [intOf]; omega
    · obtain rfl : k = 3 := by omega
      have HMY := Lib.hid (mayJ_yes (R := q.R) (A := q.A) (L := q.n) HOP.out HA.out)
      have HNA := Lib.hid (nIn_all (K := kJ x.op) (i := 3) (kJ_len _))
      by_cases hn : (110 : UInt8) ∈ kJ x.op
      · have HMZ : Hid (mayJ q.R q.A q.n x = decide (-1000000000000000000 < x.n ∧ x.n < 1000000000000000000)) := by unfold Hid; rw [HMY.out, if_pos hn]
        rw [show nIn (kJ x.op) 3 = true by rw [HNA.out]; exact decide_eq_true hn]
        clear hn
        by_cases h1 : -1000000000000000000 < x.n
        · have d1 : decide (-1000000000000000000 < x.n) = true := decide_eq_true h1
          have HD : Hid (decide (-1000000000000000000 < x.n ∧ x.n < 1000000000000000000) = decide (x.n < 1000000000000000000)) := by unfold Hid; simp [h1]
          clear h1
          go_wp2_with fail
          go_ret
          exact ⟨by rw [HMZ.out, HD.out]; rfl, HB2.out⟩
        · have d1 : decide (-1000000000000000000 < x.n) = false := decide_eq_false h1
          have HD : Hid (decide (-1000000000000000000 < x.n ∧ x.n < 1000000000000000000) = false) := by unfold Hid; simp [h1]
          clear h1
          go_wp2_with fail
          go_ret
          exact ⟨by rw [HMZ.out, HD.out]; rfl, HB2.out⟩
      · have HMZ : Hid (mayJ q.R q.A q.n x = decide (x.n = 0)) := by unfold Hid; rw [HMY.out, if_neg hn]
        rw [show nIn (kJ x.op) 3 = false by rw [HNA.out]; exact decide_eq_false hn]
        clear hn
        go_wp2_with fail
        go_ret
        exact ⟨by rw [HMZ.out]; rfl, HB2.out⟩
end Go.Proofs.YtbmcddolfofmdaaGreatDoor
/- The document's Check: whether code may be. -/
namespace Go.Proofs.YtbmcddolfofmdaaGreatDoor
open Go.RowKit

abbrev Cd.okH (c : Cd) : Prop := 0 ≤ c.R ∧ c.R ≤ 128 ∧ 0 ≤ c.A ∧ c.A ≤ 128 ∧ 0 ≤ c.I ∧ c.I ≤ c.A ∧ 1 ≤ c.l.length ∧ c.l.length ≤ 4096
theorem Cd.may_head {c : Cd} (h : ¬ c.okH) : c.e = 1 := by
  have : c.may = false := by unfold Cd.may; rw [decide_eq_false h, Bool.false_and, Bool.false_and]
  unfold Cd.e; rw [this]; rfl
theorem Cd.may_all {c : Cd} (h : c.l.all (mayJ c.R c.A c.l.length) = false) : c.e = 1 := by
  have : c.may = false := by unfold Cd.may; rw [h, Bool.and_false, Bool.false_and]
  unfold Cd.e; rw [this]; rfl
theorem Cd.may_last {c : Cd} {x : Ji} (h : c.okH) (h2 : c.l.all (mayJ c.R c.A c.l.length) = true) (hx : c.l[c.l.length - 1]? = some x) : c.e = if x.op = 0 ∨ x.op = 10 then 0 else 1 := by
  have h3 : c.l.getLast? = some x := by rw [List.getLast?_eq_getElem?]; exact hx
  have : c.may = decide (x.op = 0 ∨ x.op = 10) := by unfold Cd.may; rw [decide_eq_true h, h2, h3]; rfl
  unfold Cd.e; rw [this]
  by_cases h4 : x.op = 0 ∨ x.op = 10
  · rw [if_pos h4]; simp [h4]
  · rw [if_neg h4]; simp [h4]
theorem all_snoc {l : List Ji} {k : Nat} {x : Ji} (f : Ji → Bool) (h : l[k]? = some x) : (l.take (k + 1)).all f = ((l.take k).all f && f x) := by
  rw [List.take_add_one, h, List.all_append]; simp
def CkP (q : Cq) (w : World) (e : Ending) (w' : World) : Prop := e = .returned (.int .i64 q.cd.e) ∧ Below w.heap.size w w'
set_option maxRecDepth 100000 in
set_option maxHeartbeats 8000000 in
theorem refCheck14_any (q : Cq) (w : World) (hq : q.In w) : Calls Tryz.prog 19 #[q.val] w (CkP q w) := by
  obtain ⟨R, A, I, P, n, c, l⟩ := q
  have HQ := Lib.hid hq
  have hn1 : n ≤ 9223372036854775807 := hq.n1
  have HLN : Hid (l.length = n) := hq.len
  have HB0 := Lib.hid ((Below.refl w.heap.size w).alloc (Nat.le_refl _) (Cq.obj ⟨R, A, I, P, n, c, l⟩))
  have HX0 := Lib.hid (heap_alloc_new w (Cq.obj ⟨R, A, I, P, n, c, l⟩))
  obtain ⟨W0, hW0⟩ : ∃ W, w.alloc (Cq.obj ⟨R, A, I, P, n, c, l⟩) = W := ⟨_, rfl⟩
  rw [hW0] at HB0 HX0
  obtain ⟨m0, m1, m2, m3, _⟩ := lvCells HX0.out
  have hm := hq
  clear hq
  by_cases h0 : 0 ≤ R
  case neg =>
    have HE : Hid ((Cq.cd ⟨R, A, I, P, n, c, l⟩).e = 1) := Cd.may_head (fun h => by
      obtain ⟨g0, g1, g2, g3, g4, g5, g6, g7⟩ := h
      rw [show (Cq.cd ⟨R, A, I, P, n, c, l⟩).l.length = n from HLN.out] at g6 g7
      exact h0 g0)
    have d0 : decide (0 ≤ R) = false := decide_eq_false h0
    clear hm
    go_enter Tryz.func19, Tryz.ntmps19
    go_upto_region 2 with fail
    try rw [hW0]
    clear hW0
    go_wp2_with fail
    clear m0 m1 m2 m3
    go_loopw [3, 52] (fun v i wr => ∃ k : Nat, k ≤ n ∧ i = .int .i64 k ∧ v = .bool false ∧ Hid (Below w.heap.size w wr)) (fun _ i _ => n - (intOf i).toNat)
    case atStart => exact ⟨0, Nat.zero_le _, rfl, rfl, HB0⟩
    case round =>
      obtain ⟨k, hk, rfl, rfl, HB⟩ := hrel
      by_cases hlt : k < n
      · obtain ⟨b, off, y, hA, hb, HY, ⟨y0, y1, y2, y3, y4⟩, hyo⟩ := ((HQ.out.on HB.out).ins).at_ hlt
        subst hA
        have HB2 := Lib.hid (HB.out.alloc HB.out.size y.obj)
        clear hb hyo
        go_wp2_with fail
        go_roundw
        case rel => exact ⟨k + 1, by omega, by go_num, rfl, HB2⟩
        case measure => simp [intOf]; omega
      · go_wp2_with fail
        go_ret
        exact ⟨by rw [HE.out]; rfl, HB.out⟩
  have d0 : decide (0 ≤ R) = true := decide_eq_true h0
  by_cases h1 : R ≤ 128
  case neg =>
    have HE : Hid ((Cq.cd ⟨R, A, I, P, n, c, l⟩).e = 1) := Cd.may_head (fun h => by
      obtain ⟨g0, g1, g2, g3, g4, g5, g6, g7⟩ := h
      rw [show (Cq.cd ⟨R, A, I, P, n, c, l⟩).l.length = n from HLN.out] at g6 g7
      exact h1 g1)
    have d1 : decide (R ≤ 128) = false := decide_eq_false h1
    clear hm
    go_enter Tryz.func19, Tryz.ntmps19
    go_upto_region 2 with fail
    try rw [hW0]
    clear hW0
    go_wp2_with fail
    clear m0 m1 m2 m3
    go_loopw [3, 52] (fun v i wr => ∃ k : Nat, k ≤ n ∧ i = .int .i64 k ∧ v = .bool false ∧ Hid (Below w.heap.size w wr)) (fun _ i _ => n - (intOf i).toNat)
    case atStart => exact ⟨0, Nat.zero_le _, rfl, rfl, HB0⟩
    case round =>
      obtain ⟨k, hk, rfl, rfl, HB⟩ := hrel
      by_cases hlt : k < n
      · obtain ⟨b, off, y, hA, hb, HY, ⟨y0, y1, y2, y3, y4⟩, hyo⟩ := ((HQ.out.on HB.out).ins).at_ hlt
        subst hA
        have HB2 := Lib.hid (HB.out.alloc HB.out.size y.obj)
        clear hb hyo
        go_wp2_with fail
        go_roundw
        case rel => exact ⟨k + 1, by omega, by go_num, rfl, HB2⟩
        case measure => simp [intOf]; omega
      · go_wp2_with fail
        go_ret
        exact ⟨by rw [HE.out]; rfl, HB.out⟩
  have d1 : decide (R ≤ 128) = true := decide_eq_true h1
  by_cases h2 : 0 ≤ A
  case neg =>
    have HE : Hid ((Cq.cd ⟨R, A, I, P, n, c, l⟩).e = 1) := Cd.may_head (fun h => by
      obtain ⟨g0, g1, g2, g3, g4, g5, g6, g7⟩ := h
      rw [show (Cq.cd ⟨R, A, I, P, n, c, l⟩).l.length = n from HLN.out] at g6 g7
      exact h2 g2)
    have d2 : decide (0 ≤ A) = false := decide_eq_false h2
    clear hm
    go_enter Tryz.func19, Tryz.ntmps19
    go_upto_region 2 with fail
    try rw [hW0]
    clear hW0
    go_wp2_with fail
    clear m0 m1 m2 m3
    go_loopw [3, 52] (fun v i wr => ∃ k : Nat, k ≤ n ∧ i = .int .i64 k ∧ v = .bool false ∧ Hid (Below w.heap.size w wr)) (fun _ i _ => n - (intOf i).toNat)
    case atStart => exact ⟨0, Nat.zero_le _, rfl, rfl, HB0⟩
    case round =>
      obtain ⟨k, hk, rfl, rfl, HB⟩ := hrel
      by_cases hlt : k < n
      · obtain ⟨b, off, y, hA, hb, HY, ⟨y0, y1, y2, y3, y4⟩, hyo⟩ := ((HQ.out.on HB.out).ins).at_ hlt
        subst hA
        have HB2 := Lib.hid (HB.out.alloc HB.out.size y.obj)
        clear hb hyo
        go_wp2_with fail
        go_roundw
        case rel => exact ⟨k + 1, by omega, by go_num, rfl, HB2⟩
        case measure => simp [intOf]; omega
      · go_wp2_with fail
        go_ret
        exact ⟨by rw [HE.out]; rfl, HB.out⟩
  have d2 : decide (0 ≤ A) = true := decide_eq_true h2
  by_cases h3 : A ≤ 128
  case neg =>
    have HE : Hid ((Cq.cd ⟨R, A, I, P, n, c, l⟩).e = 1) := Cd.may_head (fun h => by
      obtain ⟨g0, g1, g2, g3, g4, g5, g6, g7⟩ := h
      rw [show (Cq.cd ⟨R, A, I, P, n, c, l⟩).l.length = n from HLN.out] at g6 g7
      exact h3 g3)
    have d3 : decide (A ≤ 128) = false := decide_eq_false h3
    clear hm
    go_enter Tryz.func19, Tryz.ntmps19
    go_upto_region 2 with fail
    try rw [hW0]
    clear hW0
    go_wp2_with fail
    clear m0 m1 m2 m3
    go_loopw [3, 52] (fun v i wr => ∃ k : Nat, k ≤ n ∧ i = .int .i64 k ∧ v = .bool false ∧ Hid (Below w.heap.size w wr)) (fun _ i _ => n - (intOf i).toNat)
    case atStart => exact ⟨0, Nat.zero_le _, rfl, rfl, HB0⟩
    case round =>
      obtain ⟨k, hk, rfl, rfl, HB⟩ := hrel
      by_cases hlt : k < n
      · obtain ⟨b, off, y, hA, hb, HY, ⟨y0, y1, y2, y3, y4⟩, hyo⟩ := ((HQ.out.on HB.out).ins).at_ hlt
        subst hA
        have HB2 := Lib.hid (HB.out.alloc HB.out.size y.obj)
        clear hb hyo
        go_wp2_with fail
        go_roundw
        case rel => exact ⟨k + 1, by omega, by go_num, rfl, HB2⟩
        case measure => simp [intOf]; omega
      · go_wp2_with fail
        go_ret
        exact ⟨by rw [HE.out]; rfl, HB.out⟩
  have d3 : decide (A ≤ 128) = true := decide_eq_true h3
  by_cases h4 : 0 ≤ I
  case neg =>
    have HE : Hid ((Cq.cd ⟨R, A, I, P, n, c, l⟩).e = 1) := Cd.may_head (fun h => by
      obtain ⟨g0, g1, g2, g3, g4, g5, g6, g7⟩ := h
      rw [show (Cq.cd ⟨R, A, I, P, n, c, l⟩).l.length = n from HLN.out] at g6 g7
      exact h4 g4)
    have d4 : decide (0 ≤ I) = false := decide_eq_false h4
    clear hm
    go_enter Tryz.func19, Tryz.ntmps19
    go_upto_region 2 with fail
    try rw [hW0]
    clear hW0
    go_wp2_with fail
    clear m0 m1 m2 m3
    go_loopw [3, 52] (fun v i wr => ∃ k : Nat, k ≤ n ∧ i = .int .i64 k ∧ v = .bool false ∧ Hid (Below w.heap.size w wr)) (fun _ i _ => n - (intOf i).toNat)
    case atStart => exact ⟨0, Nat.zero_le _, rfl, rfl, HB0⟩
    case round =>
      obtain ⟨k, hk, rfl, rfl, HB⟩ := hrel
      by_cases hlt : k < n
      · obtain ⟨b, off, y, hA, hb, HY, ⟨y0, y1, y2, y3, y4⟩, hyo⟩ := ((HQ.out.on HB.out).ins).at_ hlt
        subst hA
        have HB2 := Lib.hid (HB.out.alloc HB.out.size y.obj)
        clear hb hyo
        go_wp2_with fail
        go_roundw
        case rel => exact ⟨k + 1, by omega, by go_num, rfl, HB2⟩
        case measure => simp [intOf]; omega
      · go_wp2_with fail
        go_ret
        exact ⟨by rw [HE.out]; rfl, HB.out⟩
  have d4 : decide (0 ≤ I) = true := decide_eq_true h4
  by_cases h5 : I ≤ A
  case neg =>
    have HE : Hid ((Cq.cd ⟨R, A, I, P, n, c, l⟩).e = 1) := Cd.may_head (fun h => by
      obtain ⟨g0, g1, g2, g3, g4, g5, g6, g7⟩ := h
      rw [show (Cq.cd ⟨R, A, I, P, n, c, l⟩).l.length = n from HLN.out] at g6 g7
      exact h5 g5)
    have d5 : decide (I ≤ A) = false := decide_eq_false h5
    clear hm
    go_enter Tryz.func19, Tryz.ntmps19
    go_upto_region 2 with fail
    try rw [hW0]
    clear hW0
    go_wp2_with fail
    clear m0 m1 m2 m3
    go_loopw [3, 52] (fun v i wr => ∃ k : Nat, k ≤ n ∧ i = .int .i64 k ∧ v = .bool false ∧ Hid (Below w.heap.size w wr)) (fun _ i _ => n - (intOf i).toNat)
    case atStart => exact ⟨0, Nat.zero_le _, rfl, rfl, HB0⟩
    case round =>
      obtain ⟨k, hk, rfl, rfl, HB⟩ := hrel
      by_cases hlt : k < n
      · obtain ⟨b, off, y, hA, hb, HY, ⟨y0, y1, y2, y3, y4⟩, hyo⟩ := ((HQ.out.on HB.out).ins).at_ hlt
        subst hA
        have HB2 := Lib.hid (HB.out.alloc HB.out.size y.obj)
        clear hb hyo
        go_wp2_with fail
        go_roundw
        case rel => exact ⟨k + 1, by omega, by go_num, rfl, HB2⟩
        case measure => simp [intOf]; omega
      · go_wp2_with fail
        go_ret
        exact ⟨by rw [HE.out]; rfl, HB.out⟩
  have d5 : decide (I ≤ A) = true := decide_eq_true h5
  by_cases h6 : 1 ≤ n
  case neg =>
    have HE : Hid ((Cq.cd ⟨R, A, I, P, n, c, l⟩).e = 1) := Cd.may_head (fun h => by
      obtain ⟨g0, g1, g2, g3, g4, g5, g6, g7⟩ := h
      rw [show (Cq.cd ⟨R, A, I, P, n, c, l⟩).l.length = n from HLN.out] at g6 g7
      exact h6 g6)
    have d6 : decide (1 ≤ n) = false := decide_eq_false h6
    have z6 : decide ((1 : Int) ≤ (n : Int)) = false := decide_eq_false (by omega)
    clear hm
    go_enter Tryz.func19, Tryz.ntmps19
    go_upto_region 2 with fail
    try rw [hW0]
    clear hW0
    go_wp2_with fail
    clear m0 m1 m2 m3
    go_loopw [3, 52] (fun v i wr => ∃ k : Nat, k ≤ n ∧ i = .int .i64 k ∧ v = .bool false ∧ Hid (Below w.heap.size w wr)) (fun _ i _ => n - (intOf i).toNat)
    case atStart => exact ⟨0, Nat.zero_le _, rfl, rfl, HB0⟩
    case round =>
      obtain ⟨k, hk, rfl, rfl, HB⟩ := hrel
      by_cases hlt : k < n
      · exfalso; omega
      · go_wp2_with fail
        go_ret
        exact ⟨by rw [HE.out]; rfl, HB.out⟩
  have d6 : decide (1 ≤ n) = true := decide_eq_true h6
  have z6 : decide ((1 : Int) ≤ (n : Int)) = true := decide_eq_true (by omega)
  by_cases h7 : n ≤ 4096
  case neg =>
    have HE : Hid ((Cq.cd ⟨R, A, I, P, n, c, l⟩).e = 1) := Cd.may_head (fun h => by
      obtain ⟨g0, g1, g2, g3, g4, g5, g6, g7⟩ := h
      rw [show (Cq.cd ⟨R, A, I, P, n, c, l⟩).l.length = n from HLN.out] at g6 g7
      exact h7 g7)
    have d7 : decide (n ≤ 4096) = false := decide_eq_false h7
    have z7 : decide ((n : Int) ≤ (4096 : Int)) = false := decide_eq_false (by omega)
    clear hm
    go_enter Tryz.func19, Tryz.ntmps19
    go_upto_region 2 with fail
    try rw [hW0]
    clear hW0
    go_wp2_with fail
    clear m0 m1 m2 m3
    go_loopw [3, 52] (fun v i wr => ∃ k : Nat, k ≤ n ∧ i = .int .i64 k ∧ v = .bool false ∧ Hid (Below w.heap.size w wr)) (fun _ i _ => n - (intOf i).toNat)
    case atStart => exact ⟨0, Nat.zero_le _, rfl, rfl, HB0⟩
    case round =>
      obtain ⟨k, hk, rfl, rfl, HB⟩ := hrel
      by_cases hlt : k < n
      · obtain ⟨b, off, y, hA, hb, HY, ⟨y0, y1, y2, y3, y4⟩, hyo⟩ := ((HQ.out.on HB.out).ins).at_ hlt
        subst hA
        have HB2 := Lib.hid (HB.out.alloc HB.out.size y.obj)
        clear hb hyo
        go_wp2_with fail
        go_roundw
        case rel => exact ⟨k + 1, by omega, by go_num, rfl, HB2⟩
        case measure => simp [intOf]; omega
      · go_wp2_with fail
        go_ret
        exact ⟨by rw [HE.out]; rfl, HB.out⟩
  have d7 : decide (n ≤ 4096) = true := decide_eq_true h7
  have z7 : decide ((n : Int) ≤ (4096 : Int)) = true := decide_eq_true (by omega)
  have HH : Hid (Cd.okH (Cq.cd ⟨R, A, I, P, n, c, l⟩)) := ⟨h0, h1, h2, h3, h4, h5, by rw [show (Cq.cd ⟨R, A, I, P, n, c, l⟩).l.length = n from HLN.out]; exact h6, by rw [show (Cq.cd ⟨R, A, I, P, n, c, l⟩).l.length = n from HLN.out]; exact h7⟩
  clear hm
  go_enter Tryz.func19, Tryz.ntmps19
  go_upto_region 2 with fail
  try rw [hW0]
  clear hW0
  go_wp2_with fail
  clear m0 m1 m2 m3 d0 d1 d2 d3 d4 d5 d6 d7 z6 z7
  go_loopw [3, 52] (fun v i wr => ∃ k : Nat, k ≤ n ∧ i = .int .i64 k ∧ v = .bool ((l.take k).all (mayJ R A n)) ∧ Hid (Below w.heap.size w wr) ∧ Hid (wr.heap[w.heap.size]? = some (Cq.obj ⟨R, A, I, P, n, c, l⟩))) (fun _ i _ => n - (intOf i).toNat)
  case atStart => exact ⟨0, Nat.zero_le _, rfl, by rw [List.take_zero]; rfl, HB0, HX0⟩
  case round =>
    obtain ⟨k, hk, rfl, rfl, HB, HX⟩ := hrel
    obtain ⟨bb, hbb⟩ : ∃ b, (l.take k).all (mayJ R A n) = b := ⟨_, rfl⟩
    have HBB := Lib.hid hbb
    rw [hbb]
    clear hbb
    by_cases hlt : k < n
    · obtain ⟨b, off, y, hA, hb, HY, ⟨y0, y1, y2, y3, y4⟩, hyo⟩ := ((HQ.out.on HB.out).ins).at_ hlt
      subst hA
      have HSN := Lib.hid (all_snoc (mayJ R A n) HY.out)
      have HB2 := Lib.hid (HB.out.alloc HB.out.size y.obj)
      obtain ⟨W2, hW2⟩ : ∃ W, wr.alloc y.obj = W := ⟨_, rfl⟩
      rw [hW2] at HB2
      have HX2 : Hid (W2.heap[w.heap.size]? = some (Cq.obj ⟨R, A, I, some ⟨b, off, none⟩, n, c, l⟩)) := by rw [← hW2]; exact pastJ _ HX.out
      have HY2 : Hid (W2.heap[wr.heap.size]? = some y.obj) := by rw [← hW2]; exact newJ wr y
      cases bb with
      | false =>
        clear hb hyo
        go_wp2_with fail
        try rw [hW2]
        go_roundw
        case rel => exact ⟨k + 1, by omega, by go_num, by rw [HSN.out, HBB.out]; rfl, HB2, HX2⟩
        case measure => simp [intOf]; omega
      | true =>
        have hM := refMay_any y ⟨R, A, I, some ⟨b, off, none⟩, n, c, l⟩ W2 hyo (HQ.out.on HB2.out)
        have HW2 := Lib.hid hW2
        obtain ⟨⟨q0, q1, q2, q3, q4⟩, qf⟩ := box_cellsJ HY2.out
        obtain ⟨m0, m1, m2, m3, _⟩ := lvCells HX2.out
        clear hb hyo hW2
        go_upto_region 5 with fail
        try rw [HW2.out]
        go_wp2_with fail
        refine hM.mono ?_
        rintro e w3 ⟨rfl, hb3⟩
        have HB3 := Lib.hid (HB2.out.trans (hb3.mono HB2.out.size))
        have HX3 := Lib.hid (keep_b hb3 HX2.out)
        clear hb3 hM q0 q1 q2 q3 q4 qf m0 m1 m2 m3
        go_wp2_with fail
        go_roundw
        case rel => exact ⟨k + 1, by omega, by go_num, by rw [HSN.out, HBB.out]; rfl, HB3, HX3⟩
        case measure => simp [intOf]; omega
    · obtain rfl : k = n := by omega
      have HALL : Hid (l.all (mayJ R A k) = bb) := by
        unfold Hid
        rw [← HBB.out, List.take_of_length_le (by rw [HLN.out]; exact Nat.le_refl _)]
      cases bb with
      | false =>
        have HE : Hid ((Cq.cd ⟨R, A, I, P, k, c, l⟩).e = 1) := Cd.may_all (by show l.all (mayJ R A (l.length : Nat)) = false; rw [HLN.out]; exact HALL.out)
        go_wp2_with fail
        go_ret
        exact ⟨by rw [HE.out]; rfl, HB.out⟩
      | true =>
        obtain ⟨b, off, y, hA, hb, HY, ⟨y0, y1, y2, y3, y4⟩, hyo⟩ := ((HQ.out.on HB.out).ins).at_ (k := k - 1) (show k - 1 < k by omega)
        subst hA
        have HE : Hid ((Cq.cd ⟨R, A, I, some ⟨b, off, none⟩, k, c, l⟩).e = if y.op = 0 ∨ y.op = 10 then 0 else 1) := Cd.may_last HH.out (by show l.all (mayJ R A (l.length : Nat)) = true; rw [HLN.out]; exact HALL.out) (by show l[l.length - 1]? = some y; rw [HLN.out]; exact HY.out)
        obtain ⟨m0, m1, m2, m3, _⟩ := lvCells HX.out
        have hk1 : 1 ≤ (k : Int) := by omega
        have hkk : 0 ≤ (k : Int) - 1 := by omega
        have hkt : ((k : Int) - 1).toNat = k - 1 := by omega
        have hkl : (k : Int) - 1 < (k : Int) := by omega
        clear hb hyo
        by_cases e0 : y.op = 0
        · have HE0 : Hid ((Cq.cd ⟨R, A, I, some ⟨b, off, none⟩, k, c, l⟩).e = 0) := by unfold Hid; rw [HE.out, if_pos (Or.inl e0)]
          have c0 : (y.op != 0) = false := by simpa using e0
          clear e0
          go_wp2_with fail
          go_ret
          exact ⟨by rw [HE0.out]; rfl, HB.out.alloc HB.out.size _⟩
        · have c0 : (y.op != 0) = true := by simpa using e0
          by_cases e1 : y.op = 10
          · have HE0 : Hid ((Cq.cd ⟨R, A, I, some ⟨b, off, none⟩, k, c, l⟩).e = 0) := by unfold Hid; rw [HE.out, if_pos (Or.inr e1)]
            have c1 : (y.op != 10) = false := by simpa using e1
            clear e0 e1
            go_wp2_with fail
            go_ret
            exact ⟨by rw [HE0.out]; rfl, HB.out.alloc HB.out.size _⟩
          · have HE0 : Hid ((Cq.cd ⟨R, A, I, some ⟨b, off, none⟩, k, c, l⟩).e = 1) := by unfold Hid; rw [HE.out, if_neg (by omega)]
            have c1 : (y.op != 10) = true := by simpa using e1
            clear e0 e1
            go_wp2_with fail
            go_ret
            exact ⟨by rw [HE0.out]; rfl, HB.out.alloc HB.out.size _⟩
end Go.Proofs.YtbmcddolfofmdaaGreatDoor
/- The document's Shift: code put further on. -/
namespace Go.Proofs.YtbmcddolfofmdaaGreatDoor
open Go.RowKit

/-- what Shift tells -/
def Cd.shiftC (c : Cd) (by_ : Int) : Cd := if c.shiftE by_ = 0 then c.shift by_ else ⟨0, 0, 0, []⟩
def ShP (q : Cq) (by_ : Int) (w : World) (e : Ending) (w' : World) : Prop :=
  ∃ A' c', e = .returned (.tuple #[.agg #[.int .i64 (q.cd.shiftC by_).R, .int .i64 (q.cd.shiftC by_).A, .int .i64 (q.cd.shiftC by_).I, .slice A' (q.cd.shiftC by_).l.length c'], .int .i64 (q.cd.shiftE by_)]) ∧ OwnJ w' w.heap.size A' c' (q.cd.shiftC by_).l ∧ Below w.heap.size w w'
theorem set_j {w : World} {g i : Nat} {cs : List Value} {t : TypeId} (h : w.heap[g]? = some (.cells cs.toArray t (0, 0))) (v : Value) : (w.setCell ⟨g, i, none⟩ v).heap[g]? = some (.cells (cs.set i v).toArray t (0, 0)) := blkE_set h v
theorem jumpsJ_succ (k : Nat) : jumpsJ (k + 1) = jumpsJ k ++ [⟨10, ((k + 1 : Nat) : Int), 0, 0, 0⟩] := by unfold jumpsJ; rw [List.range_succ, List.map_append]; rfl
theorem jumpsJ_length (k : Nat) : (jumpsJ k).length = k := by simp [jumpsJ]
theorem map_snocJ {l : List Ji} {k : Nat} {x : Ji} (f : Ji → Ji) (h : l[k]? = some x) : (l.take (k + 1)).map f = (l.take k).map f ++ [f x] := by rw [List.take_add_one, h, List.map_append]; rfl
/-- instructions of the call's own stay over a write into a block of another type -/
theorem OwnJ.set_other {w : World} {base c g : Nat} {A : Option Addr} {l : List Ji} {cs : Array Value} {t : TypeId} (h : OwnJ w base A c l) (hg : w.heap[g]? = some (.cells cs t (0, 0))) (ht : 26 ≠ t) (i : Nat) (v : Value) : OwnJ (w.setCell ⟨g, i, none⟩ v) base A c l :=
  World.ownsRow.kept h (grownBy_setE (grown_same w g) i v) (rows_ne h hg ht)
/-- instructions of the call's own stay over a write into a block that is not theirs -/
theorem OwnJ.set_off {w : World} {base c g : Nat} {A : Option Addr} {l : List Ji} (h : OwnJ w base A c l) (hA : ∀ b, A = some ⟨b, 0, none⟩ → b ≠ g) (i : Nat) (v : Value) : OwnJ (w.setCell ⟨g, i, none⟩ v) base A c l :=
  World.ownsRow.kept h (grownBy_setE (grown_same w g) i v) (by
    rcases h.heap with h1 | ⟨g', cur, h1, _, _⟩
    · rw [h1]; exact .inl rfl
    · rw [h1]; exact .inr (by simpa [Value.ownBlock] using hA g' h1))
/-- where the variables lie in Shift -/
structure ShI (w : World) (q : Cq) (g : Nat) (wr : World) (A' : Option Addr) (c' : Nat) (L : List Ji) : Prop where
  bel : Below w.heap.size w wr
  bx : wr.heap[w.heap.size]? = some q.obj
  rv : wr.heap[w.heap.size + 1]? = some (.cells #[.int .i64 0, .int .i64 0, .int .i64 0, .slice none 0 0] 24 (0, 0))
  gn : w.heap.size + 1 < g
  box : wr.heap[g]? = some (.cells #[.int .i64 q.R, .int .i64 q.A, .int .i64 q.I, .slice A' L.length c'] 24 (0, 0))
  own : OwnJ wr w.heap.size A' c' L
section
variable {w wr w' : World} {q : Cq} {g c' c2 : Nat} {A' A2 : Option Addr} {L : List Ji} {y : Ji}
theorem ShI.below (h : ShI w q g wr A' c' L) (hb : Below wr.heap.size wr w') : ShI w q g w' A' c' L :=
  ⟨h.bel.trans (hb.mono h.bel.size), keep_b hb h.bx, keep_b hb h.rv, h.gn, keep_b hb h.box, h.own.below hb (Nat.le_refl _)⟩
theorem ShI.add (h : ShI w q g wr A' c' L) (hO : OwnJ w' w.heap.size A2 c2 (L ++ [y])) (hG : wr.grownBy w' (Value.slice A' L.length c').ownBlock) : ShI w q g (w'.setCell ⟨g, 3, none⟩ (.slice A2 (L.length + 1) c2)) A2 c2 (L ++ [y]) := by
  have h1 := box_keptJ h.bx (by decide) hG h.own
  have h2 := box_keptJ h.rv (by decide) hG h.own
  have h3 := box_keptJ h.box (by decide) hG h.own
  have hs := set_j (i := 3) (cs := [.int .i64 q.R, .int .i64 q.A, .int .i64 q.I, .slice A' L.length c']) h3 (.slice A2 (L.length + 1) c2)
  have hn := h.gn
  refine ⟨(below_appJ h.bel hG h.own h.bel.size).setCell (p := ⟨g, 3, none⟩) (by show w.heap.size ≤ g; omega) _, (Below.heap_setCell _ ⟨g, 3, none⟩ _ _ (by show w.heap.size ≠ g; omega)).trans h1, (Below.heap_setCell _ ⟨g, 3, none⟩ _ _ (by show w.heap.size + 1 ≠ g; omega)).trans h2, hn, ?_, hO.set_other h3 (by decide) _ _⟩
  rw [List.length_append]
  exact hs
end
/-- what is returned, stored -/
theorem ShI.done (q : Cq) (by_ : Int) {w wr : World} {g c' : Nat} {A' : Option Addr} {L : List Ji} (h : ShI w q g wr A' c' L) (hE : q.cd.shiftE by_ = 0) (hL : (q.cd.shift by_).l = L) (n : Nat) (hn : L.length = n) :
    ShP q by_ w (.returned (.tuple #[.agg #[.int .i64 q.R, .int .i64 q.A, .int .i64 q.I, .slice A' n c'], .int .i64 0])) ((((wr.setCell ⟨w.heap.size + 1, 0, none⟩ (.int .i64 q.R)).setCell ⟨w.heap.size + 1, 1, none⟩ (.int .i64 q.A)).setCell ⟨w.heap.size + 1, 2, none⟩ (.int .i64 q.I)).setCell ⟨w.heap.size + 1, 3, none⟩ (.slice A' n c')) := by
  have hC : q.cd.shiftC by_ = q.cd.shift by_ := by unfold Cd.shiftC; rw [if_pos hE]
  have hg : wr.grownBy ((((wr.setCell ⟨w.heap.size + 1, 0, none⟩ (.int .i64 q.R)).setCell ⟨w.heap.size + 1, 1, none⟩ (.int .i64 q.A)).setCell ⟨w.heap.size + 1, 2, none⟩ (.int .i64 q.I)).setCell ⟨w.heap.size + 1, 3, none⟩ (.slice A' n c')) (some (w.heap.size + 1)) :=
    grownBy_setE (grownBy_setE (grownBy_setE (grownBy_setE (grown_same wr _) _ _) _ _) _ _) _ _
  refine ⟨A', c', ?_, ?_, h.bel.grown hg h.bel.size (fun k hk => by injection hk with hk; omega)⟩
  · rw [hC, hE, hL, hn]; rfl
  · rw [hC, hL]
    exact World.ownsRow.kept h.own hg (rows_ne h.own h.rv (by decide))
theorem four_cells {w : World} {g : Nat} {a b c d : Value} {t : TypeId} (h : w.heap[g]? = some (.cells #[a, b, c, d] t (0, 0))) (x0 x1 x2 x3 : Value) :
    ((((w.setCell ⟨g, 0, none⟩ x0).setCell ⟨g, 1, none⟩ x1).setCell ⟨g, 2, none⟩ x2).setCell ⟨g, 3, none⟩ x3).heap[g]? = some (.cells #[x0, x1, x2, x3] t (0, 0)) := by
  have h1 := set_j (i := 0) (cs := [a, b, c, d]) h x0
  have h2 := set_j (i := 1) (cs := [x0, b, c, d]) h1 x1
  have h3 := set_j (i := 2) (cs := [x0, x1, c, d]) h2 x2
  exact set_j (i := 3) (cs := [x0, x1, x2, d]) h3 x3
set_option maxRecDepth 100000 in
set_option maxHeartbeats 8000000 in
theorem refShift14_any (q : Cq) (by_ : Int) (w : World) (hq : q.In w) : Calls Tryz.prog 9 #[q.val, .int .i64 by_] w (ShP q by_ w) := by
  obtain ⟨R, A, I, P, n, c, l⟩ := q
  obtain ⟨W0, hW0⟩ : ∃ W, (w.alloc (Cq.obj ⟨R, A, I, P, n, c, l⟩)).alloc (.cells #[.int .i64 0, .int .i64 0, .int .i64 0, .slice none 0 0] 24) = W := ⟨_, rfl⟩
  have HB0 : Hid (Below w.heap.size w W0) := by rw [← hW0]; exact ((Below.refl w.heap.size w).alloc (Nat.le_refl _) _).alloc (by simp) _
  have HX0 : Hid (W0.heap[w.heap.size]? = some (Cq.obj ⟨R, A, I, P, n, c, l⟩)) := by rw [← hW0]; exact pastJ _ (heap_alloc_new w _)
  have HR0 : Hid (W0.heap[w.heap.size + 1]? = some (.cells #[.int .i64 0, .int .i64 0, .int .i64 0, .slice none 0 0] 24 (0, 0))) := by
    have h := heap_alloc_new (w.alloc (Cq.obj ⟨R, A, I, P, n, c, l⟩)) (.cells #[.int .i64 0, .int .i64 0, .int .i64 0, .slice none 0 0] 24)
    rw [World.size_alloc, hW0] at h
    exact h
  have HQ := Lib.hid hq
  have hn1 : n ≤ 9223372036854775807 := hq.n1
  have HLN : Hid (l.length = n) := hq.len
  have hC := refCheck14_any ⟨R, A, I, P, n, c, l⟩ W0 (HQ.out.on HB0.out)
  obtain ⟨k0, k1, k2, k3, _⟩ := lvCells HX0.out
  obtain ⟨E, hE⟩ : ∃ E, (Cq.cd ⟨R, A, I, P, n, c, l⟩).e = E := ⟨_, rfl⟩
  have HE := Lib.hid hE
  unfold CkP at hC
  rw [hE] at hC
  have hME : E = 0 ↔ (Cq.cd ⟨R, A, I, P, n, c, l⟩).may = true := by
    rw [← hE]; unfold Cd.e
    cases h : (Cq.cd ⟨R, A, I, P, n, c, l⟩).may <;> simp
  have HSL : Hid ((Cq.cd ⟨R, A, I, P, n, c, l⟩).l.length = n) := HLN.out
  clear hE hq
  by_cases hbad : E ≠ 0 ∨ by_ < 0 ∨ 4096 < by_
  · have hSE : (Cq.cd ⟨R, A, I, P, n, c, l⟩).shiftE by_ = 1 := by
      unfold Cd.shiftE
      rw [if_pos ?_]
      rcases hbad with h | h
      · left
        cases h2 : (Cq.cd ⟨R, A, I, P, n, c, l⟩).may with
        | false => rfl
        | true => exact absurd (hME.2 h2) h
      · right; exact h
    have HSC : Hid ((Cq.cd ⟨R, A, I, P, n, c, l⟩).shiftC by_ = ⟨0, 0, 0, []⟩) := by unfold Hid Cd.shiftC; rw [hSE]; rfl
    have HSE := Lib.hid hSE
    have hz : Hid (∀ wr : World, Below w.heap.size w wr → wr.heap[w.heap.size + 1]? = some (.cells #[.int .i64 0, .int .i64 0, .int .i64 0, .slice none 0 0] 24 (0, 0)) → ShP ⟨R, A, I, P, n, c, l⟩ by_ w (.returned (.tuple #[.agg #[.int .i64 0, .int .i64 0, .int .i64 0, .slice none 0 0], .int .i64 1])) ((((wr.setCell ⟨w.heap.size + 1, 0, none⟩ (.int .i64 0)).setCell ⟨w.heap.size + 1, 1, none⟩ (.int .i64 0)).setCell ⟨w.heap.size + 1, 2, none⟩ (.int .i64 0)).setCell ⟨w.heap.size + 1, 3, none⟩ (.slice none 0 0))) := fun wr hb _ => ⟨none, 0, by rw [HSC.out, HSE.out]; rfl, by rw [HSC.out]; exact OwnJ.nil_ _ _, (((hb.setCell (p := ⟨w.heap.size + 1, 0, none⟩) (by show w.heap.size ≤ w.heap.size + 1; omega) _).setCell (p := ⟨w.heap.size + 1, 1, none⟩) (by show w.heap.size ≤ w.heap.size + 1; omega) _).setCell (p := ⟨w.heap.size + 1, 2, none⟩) (by show w.heap.size ≤ w.heap.size + 1; omega) _).setCell (p := ⟨w.heap.size + 1, 3, none⟩) (by show w.heap.size ≤ w.heap.size + 1; omega) _⟩
    clear hSE
    by_cases hE0 : E = 0
    · have e0 : (E != 0) = false := by simp [hE0]
      by_cases hb0 : by_ < 0
      · have d0 : decide (by_ < 0) = true := decide_eq_true hb0
        clear hbad hME hE0 hb0
        go_enter Tryz.func9, Tryz.ntmps9
        go_wp2_with fail
        try rw [hW0]
        refine hC.mono ?_
        rintro e w1 ⟨rfl, hb⟩
        have HB1 := Lib.hid (HB0.out.trans (hb.mono HB0.out.size))
        have HX1 := Lib.hid (keep_b hb HX0.out)
        have HR1 := Lib.hid (keep_b hb HR0.out)
        clear hb hW0 hC k0 k1 k2 k3
        obtain ⟨k0, k1, k2, k3, _⟩ := lvCells HX1.out
        obtain ⟨r0, r1, r2, r3, rf0, rf1, rf2, rf3⟩ := lvCells HR1.out
        go_wp2_with fail
        have hfour := four_cells HR1.out (.int .i64 0) (.int .i64 0) (.int .i64 0) (.slice none 0 0)
        obtain ⟨s0, s1, s2, s3, _⟩ := lvCells hfour
        have hd := hz.out w1 HB1.out HR1.out
        obtain ⟨wz, hwz⟩ : ∃ wz, (((w1.setCell ⟨w.heap.size + 1, 0, none⟩ (.int .i64 0)).setCell ⟨w.heap.size + 1, 1, none⟩ (.int .i64 0)).setCell ⟨w.heap.size + 1, 2, none⟩ (.int .i64 0)).setCell ⟨w.heap.size + 1, 3, none⟩ (.slice none 0 0) = wz := ⟨_, rfl⟩
        rw [hwz] at hd s0 s1 s2 s3 ⊢
        exact bodyPost_ret (v := .tuple #[.agg #[.int .i64 0, .int .i64 0, .int .i64 0, .slice none 0 0], .int .i64 1]) (by simp [results, Tryz.results9, go_sem, s0, s1, s2, s3]) rfl hd
      · have d0 : decide (by_ < 0) = false := decide_eq_false hb0
        have d1 : decide (4096 < by_) = true := decide_eq_true (by omega)
        clear hbad hME hE0 hb0
        go_enter Tryz.func9, Tryz.ntmps9
        go_wp2_with fail
        try rw [hW0]
        refine hC.mono ?_
        rintro e w1 ⟨rfl, hb⟩
        have HB1 := Lib.hid (HB0.out.trans (hb.mono HB0.out.size))
        have HX1 := Lib.hid (keep_b hb HX0.out)
        have HR1 := Lib.hid (keep_b hb HR0.out)
        clear hb hW0 hC k0 k1 k2 k3
        obtain ⟨k0, k1, k2, k3, _⟩ := lvCells HX1.out
        obtain ⟨r0, r1, r2, r3, rf0, rf1, rf2, rf3⟩ := lvCells HR1.out
        go_wp2_with fail
        have hfour := four_cells HR1.out (.int .i64 0) (.int .i64 0) (.int .i64 0) (.slice none 0 0)
        obtain ⟨s0, s1, s2, s3, _⟩ := lvCells hfour
        have hd := hz.out w1 HB1.out HR1.out
        obtain ⟨wz, hwz⟩ : ∃ wz, (((w1.setCell ⟨w.heap.size + 1, 0, none⟩ (.int .i64 0)).setCell ⟨w.heap.size + 1, 1, none⟩ (.int .i64 0)).setCell ⟨w.heap.size + 1, 2, none⟩ (.int .i64 0)).setCell ⟨w.heap.size + 1, 3, none⟩ (.slice none 0 0) = wz := ⟨_, rfl⟩
        rw [hwz] at hd s0 s1 s2 s3 ⊢
        exact bodyPost_ret (v := .tuple #[.agg #[.int .i64 0, .int .i64 0, .int .i64 0, .slice none 0 0], .int .i64 1]) (by simp [results, Tryz.results9, go_sem, s0, s1, s2, s3]) rfl hd
    · have e0 : (E != 0) = true := by simpa using hE0
      clear hbad hME hE0
      go_enter Tryz.func9, Tryz.ntmps9
      go_wp2_with fail
      try rw [hW0]
      refine hC.mono ?_
      rintro e w1 ⟨rfl, hb⟩
      have HB1 := Lib.hid (HB0.out.trans (hb.mono HB0.out.size))
      have HX1 := Lib.hid (keep_b hb HX0.out)
      have HR1 := Lib.hid (keep_b hb HR0.out)
      clear hb hW0 hC k0 k1 k2 k3
      obtain ⟨k0, k1, k2, k3, _⟩ := lvCells HX1.out
      obtain ⟨r0, r1, r2, r3, rf0, rf1, rf2, rf3⟩ := lvCells HR1.out
      go_wp2_with fail
      have hfour := four_cells HR1.out (.int .i64 0) (.int .i64 0) (.int .i64 0) (.slice none 0 0)
      obtain ⟨s0, s1, s2, s3, _⟩ := lvCells hfour
      have hd := hz.out w1 HB1.out HR1.out
      obtain ⟨wz, hwz⟩ : ∃ wz, (((w1.setCell ⟨w.heap.size + 1, 0, none⟩ (.int .i64 0)).setCell ⟨w.heap.size + 1, 1, none⟩ (.int .i64 0)).setCell ⟨w.heap.size + 1, 2, none⟩ (.int .i64 0)).setCell ⟨w.heap.size + 1, 3, none⟩ (.slice none 0 0) = wz := ⟨_, rfl⟩
      rw [hwz] at hd s0 s1 s2 s3 ⊢
      exact bodyPost_ret (v := .tuple #[.agg #[.int .i64 0, .int .i64 0, .int .i64 0, .slice none 0 0], .int .i64 1]) (by simp [results, Tryz.results9, go_sem, s0, s1, s2, s3]) rfl hd
  have hE0 : E = 0 := by omega
  have hb0 : 0 ≤ by_ := by omega
  have hb1 : by_ ≤ 4096 := by omega
  have hmay := hME.1 hE0
  subst hE0
  have hnn : n ≤ 4096 := by
    unfold Cd.may at hmay
    rw [Bool.and_eq_true, Bool.and_eq_true] at hmay
    have := of_decide_eq_true hmay.1.1
    have h2 : (Cq.cd ⟨R, A, I, P, n, c, l⟩).l.length = n := HLN.out
    omega
  have d0 : decide (by_ < 0) = false := decide_eq_false (by omega)
  have d1 : decide (4096 < by_) = false := decide_eq_false (by omega)
  have HMAY := Lib.hid hmay
  clear hbad hME hmay
  by_cases hbig : 4096 < (n : Int) + by_
  · have hSE : (Cq.cd ⟨R, A, I, P, n, c, l⟩).shiftE by_ = 2 := by
      unfold Cd.shiftE
      rw [if_neg (by rw [HMAY.out]; simp; omega), if_pos (by rw [HSL.out]; exact hbig)]
    have HSC : Hid ((Cq.cd ⟨R, A, I, P, n, c, l⟩).shiftC by_ = ⟨0, 0, 0, []⟩) := by unfold Hid Cd.shiftC; rw [hSE]; rfl
    have HSE := Lib.hid hSE
    have hz : Hid (∀ wr : World, Below w.heap.size w wr → ShP ⟨R, A, I, P, n, c, l⟩ by_ w (.returned (.tuple #[.agg #[.int .i64 0, .int .i64 0, .int .i64 0, .slice none 0 0], .int .i64 2])) ((((wr.setCell ⟨w.heap.size + 1, 0, none⟩ (.int .i64 0)).setCell ⟨w.heap.size + 1, 1, none⟩ (.int .i64 0)).setCell ⟨w.heap.size + 1, 2, none⟩ (.int .i64 0)).setCell ⟨w.heap.size + 1, 3, none⟩ (.slice none 0 0))) := fun wr hb => ⟨none, 0, by rw [HSC.out, HSE.out]; rfl, by rw [HSC.out]; exact OwnJ.nil_ _ _, (((hb.setCell (p := ⟨w.heap.size + 1, 0, none⟩) (by show w.heap.size ≤ w.heap.size + 1; omega) _).setCell (p := ⟨w.heap.size + 1, 1, none⟩) (by show w.heap.size ≤ w.heap.size + 1; omega) _).setCell (p := ⟨w.heap.size + 1, 2, none⟩) (by show w.heap.size ≤ w.heap.size + 1; omega) _).setCell (p := ⟨w.heap.size + 1, 3, none⟩) (by show w.heap.size ≤ w.heap.size + 1; omega) _⟩
    have d2 : decide (4096 < (n : Int) + by_) = true := decide_eq_true hbig
    clear hSE hbig
    go_enter Tryz.func9, Tryz.ntmps9
    go_wp2_with fail
    try rw [hW0]
    refine hC.mono ?_
    rintro e w1 ⟨rfl, hb⟩
    have HB1 := Lib.hid (HB0.out.trans (hb.mono HB0.out.size))
    have HX1 := Lib.hid (keep_b hb HX0.out)
    have HR1 := Lib.hid (keep_b hb HR0.out)
    clear hb hW0 hC k0 k1 k2 k3
    obtain ⟨k0, k1, k2, k3, _⟩ := lvCells HX1.out
    obtain ⟨r0, r1, r2, r3, rf0, rf1, rf2, rf3⟩ := lvCells HR1.out
    go_wp2_with fail
    have hfour := four_cells HR1.out (.int .i64 0) (.int .i64 0) (.int .i64 0) (.slice none 0 0)
    obtain ⟨s0, s1, s2, s3, _⟩ := lvCells hfour
    have hd := hz.out w1 HB1.out
    obtain ⟨wz, hwz⟩ : ∃ wz, (((w1.setCell ⟨w.heap.size + 1, 0, none⟩ (.int .i64 0)).setCell ⟨w.heap.size + 1, 1, none⟩ (.int .i64 0)).setCell ⟨w.heap.size + 1, 2, none⟩ (.int .i64 0)).setCell ⟨w.heap.size + 1, 3, none⟩ (.slice none 0 0) = wz := ⟨_, rfl⟩
    rw [hwz] at hd s0 s1 s2 s3 ⊢
    exact bodyPost_ret (v := .tuple #[.agg #[.int .i64 0, .int .i64 0, .int .i64 0, .slice none 0 0], .int .i64 2]) (by simp [results, Tryz.results9, go_sem, s0, s1, s2, s3]) rfl hd
  have d2 : decide (4096 < (n : Int) + by_) = false := decide_eq_false hbig
  have hSE : (Cq.cd ⟨R, A, I, P, n, c, l⟩).shiftE by_ = 0 := by
    unfold Cd.shiftE
    rw [if_neg (by rw [HMAY.out]; simp; omega), if_neg (by rw [HSL.out]; exact hbig)]
  have HSE := Lib.hid hSE
  obtain ⟨b, rfl⟩ : ∃ b : Nat, by_ = (b : Int) := ⟨by_.toNat, by omega⟩
  clear hSE hb0
  go_enter Tryz.func9, Tryz.ntmps9
  go_wp2_with fail
  try rw [hW0]
  refine hC.mono ?_
  rintro e w1 ⟨rfl, hb⟩
  have HB1 := Lib.hid (HB0.out.trans (hb.mono HB0.out.size))
  have HX1 := Lib.hid (keep_b hb HX0.out)
  have HR1 := Lib.hid (keep_b hb HR0.out)
  clear hb hW0 hC k0 k1 k2 k3
  obtain ⟨k0, k1, k2, k3, _⟩ := lvCells HX1.out
  go_upto_region 6 with fail
  obtain ⟨W2, hW2⟩ : ∃ W, w1.alloc (.cells #[.int .i64 R, .int .i64 A, .int .i64 I, .slice none 0 0] 24) = W := ⟨_, rfl⟩
  obtain ⟨g, hg⟩ : ∃ g, w1.heap.size = g := ⟨_, rfl⟩
  have HS2 : Hid (ShI w ⟨R, A, I, P, n, c, l⟩ g W2 none 0 []) := by
    have hb : Below w1.heap.size w1 W2 := by rw [← hW2]; exact lvBelow _ _
    exact ⟨HB1.out.trans (hb.mono HB1.out.size), keep_b hb HX1.out, keep_b hb HR1.out, by rw [← hg]; exact lt_of_heap HR1.out, by rw [← hg, ← hW2]; exact heap_alloc_new w1 _, OwnJ.nil_ _ _⟩
  try rw [hW2]
  try rw [hg]
  clear hW2 hg k0 k1 k2 k3 d0 d1 d2
  have hbb : (b : Int) ≤ 4096 := by omega
  have hbn : b ≤ 4096 := by omega
  go_wp2_with fail
  go_loopw [37] (fun i wr => ∃ (k : Nat) (A' : Option Addr) (c' : Nat), k ≤ b ∧ i = .int .i64 k ∧ Hid (ShI w ⟨R, A, I, P, n, c, l⟩ g wr A' c' (jumpsJ k))) (fun i _ => b - (intOf i).toNat)
  case atStart => exact ⟨0, none, 0, Nat.zero_le _, rfl, HS2.out⟩
  case round =>
    obtain ⟨k, A', c', hk, rfl, HS⟩ := hrel
    by_cases hlt : k < b
    · obtain ⟨x0, x1, x2, x3, _, _, _, xf3⟩ := lvCells HS.out.box
      rw [jumpsJ_length] at x3
      have hle : k + 1 ≤ 1000000 := by omega
      have hsz : w.heap.size ≤ wr.heap.size := HS.out.bel.size
      obtain ⟨gz, hgz⟩ : ∃ g, wr.heap.size = g := ⟨_, rfl⟩
      have HGZ := Lib.hid hgz
      clear hgz
      go_wp2_with (at_builtin; refine wpList_appendJ rfl (.tmp 41) (.tmp 45) rfl w.heap.size A' c' k (k + 1) wr.heap.size ⟨10, (k : Int) + 1, 0, 0, 0⟩ (jumpsJ k) rfl rfl rfl HS.out.own (jumpsJ_length k) rfl hle hsz ?_; intro A3 c3 w3 hO3 hG3; have hG3' : wr.grownBy w3 (Value.slice A' (jumpsJ k).length c').ownBlock := (by rw [jumpsJ_length]; exact hG3); have h3 := box_keptJ HS.out.box (by decide) hG3' HS.out.own; obtain ⟨_, _, _, y3, _, _, _, yf3⟩ := lvCells h3)
      have hadd := HS.out.add hO3 hG3'
      rw [jumpsJ_length, show jumpsJ k ++ [⟨10, (k : Int) + 1, 0, 0, 0⟩] = jumpsJ (k + 1) by rw [jumpsJ_succ]; rfl] at hadd
      go_roundw
      case rel => exact ⟨k + 1, A3, c3, by omega, by go_num, hadd⟩
      case measure => simp [intOf]; omega
    · obtain rfl : k = b := by omega
      obtain ⟨k0, k1, k2, k3, _⟩ := lvCells HS.out.bx
      go_wp2_with fail
      clear k0 k1 k2 k3 hlt
      obtain ⟨wo, rfl⟩ : ∃ wo : World, wo = wr := ⟨_, rfl⟩
      go_loopw [52] (fun i wr => ∃ (m : Nat) (A' : Option Addr) (c' : Nat), m ≤ n ∧ i = .int .i64 m ∧ Hid (ShI w ⟨R, A, I, P, n, c, l⟩ g wr A' c' (jumpsJ k ++ (l.take m).map (shiftJ k)))) (fun i _ => n - (intOf i).toNat)
      case atStart => exact ⟨0, A', c', Nat.zero_le _, rfl, by rw [List.take_zero, List.map_nil, List.append_nil]; exact HS.out⟩
      case round =>
        obtain ⟨m, A', c', hm, rfl, HS⟩ := hrel
        have HML : Hid ((jumpsJ k ++ (l.take m).map (shiftJ k)).length = k + m) := by unfold Hid; rw [List.length_append, jumpsJ_length, List.length_map, List.length_take]; have := HLN.out; omega
        by_cases hlt : m < n
        · obtain ⟨ba, off, y, hA, hb, HY, ⟨y0, y1, y2, y3, y4⟩, hyo⟩ := ((HQ.out.on HS.out.bel).ins).at_ hlt
          subst hA
          have HMS := Lib.hid (map_snocJ (shiftJ k) HY.out)
          obtain ⟨W4, hW4⟩ : ∃ W, wr.alloc y.obj = W := ⟨_, rfl⟩
          have hb4 : Below wr.heap.size wr W4 := by rw [← hW4]; exact lvBelow _ _
          have HS4 := Lib.hid (HS.out.below hb4)
          have HY4 : Hid (W4.heap[wr.heap.size]? = some y.obj) := by rw [← hW4]; exact newJ wr y
          have HOF : Hid (∀ b, A' = some ⟨b, 0, none⟩ → b ≠ wr.heap.size) := by
            intro b hbA
            rcases HS.out.own.heap with h1 | ⟨g', cur, h1, _, h3⟩
            · rw [h1] at hbA; cases hbA
            · rw [h1] at hbA; injection hbA with hbA; injection hbA with hbA; subst hbA; have := lt_of_heap h3; omega
          have HGW : Hid (g < wr.heap.size) := lt_of_heap HS.out.box
          obtain ⟨gy, hgy⟩ : ∃ z, wr.heap.size = z := ⟨_, rfl⟩
          have HW4 := Lib.hid hW4
          rw [hgy] at HY4 HOF HGW
          clear hb hyo hb4 hW4
          have hlen := HML.out
          have hle : k + m + 1 ≤ 1000000 := by omega
          have hki : (m : Int) < (n : Int) := by omega
          go_upto_region 14 with fail
          try rw [HW4.out]
          try rw [hgy]
          clear hgy HW4 y0 y1 y2 y3 y4
          obtain ⟨⟨y0, y1, y2, y3, y4⟩, yf⟩ := box_cellsJ HY4.out
          have yf0 := yf 0
          have yf1 := yf 1
          have yf3 := yf 3
          clear yf
          by_cases o10 : y.op = 10
          · have c0 : (y.op == 10) = true := by simpa using o10
            have O10 := Lib.hid o10
            clear o10
            have HS5 : Hid (ShI w ⟨R, A, I, some ⟨ba, off, none⟩, n, c, l⟩ g (W4.setCell ⟨gy, 1, none⟩ (.int .i64 (wrap64 (y.a + (k : Int))))) A' c' (jumpsJ k ++ (l.take m).map (shiftJ k))) := by
              have h := HS4.out
              have hgn := h.gn
              have hgw := HGW.out
              exact ⟨h.bel.setCell (p := ⟨gy, 1, none⟩) (by show w.heap.size ≤ gy; omega) _, (Below.heap_setCell _ ⟨gy, 1, none⟩ _ _ (by show w.heap.size ≠ gy; omega)).trans h.bx, (Below.heap_setCell _ ⟨gy, 1, none⟩ _ _ (by show w.heap.size + 1 ≠ gy; omega)).trans h.rv, hgn, (Below.heap_setCell _ ⟨gy, 1, none⟩ _ _ (by show g ≠ gy; omega)).trans h.box, h.own.set_off HOF.out _ _⟩
            have HY5 : Hid ((W4.setCell ⟨gy, 1, none⟩ (.int .i64 (wrap64 (y.a + (k : Int))))).heap[gy]? = some (Ji.obj ⟨y.op, wrap64 (y.a + (k : Int)), y.b, y.c, y.n⟩)) := set_j (i := 1) (cs := [.int .i64 y.op, .int .i64 y.a, .int .i64 y.b, .int .i64 y.c, .int .i64 y.n]) HY4.out _
            obtain ⟨W5, hW5⟩ : ∃ W, W4.setCell ⟨gy, 1, none⟩ (.int .i64 (wrap64 (y.a + (k : Int)))) = W := ⟨_, rfl⟩
            rw [hW5] at HS5 HY5
            have HW5 := Lib.hid hW5
            clear hW5
            have HZ : Hid (shiftJ k y = ⟨y.op, wrap64 (y.a + (k : Int)), y.b, y.c, y.n⟩) := by unfold Hid shiftJ; rw [if_pos O10.out]
            go_upto_region 20 with fail
            try rw [HW5.out]
            clear y0 y1 y2 y3 y4 yf0 yf1 yf3
            obtain ⟨⟨z0, z1, z2, z3, z4⟩, zf⟩ := box_cellsJ HY5.out
            clear zf
            obtain ⟨x0, x1, x2, x3, _⟩ := lvCells HS5.out.box
            rw [HML.out] at x3
            have hsz : w.heap.size ≤ W5.heap.size := HS5.out.bel.size
            go_wp2_with (at_builtin; refine wpList_appendJ rfl (.tmp 74) (.tmp 76) rfl w.heap.size A' c' (k + m) (k + m + 1) W5.heap.size ⟨y.op, wrap64 (y.a + (k : Int)), y.b, y.c, y.n⟩ (jumpsJ k ++ (l.take m).map (shiftJ k)) rfl rfl rfl HS5.out.own HML.out rfl hle hsz ?_; intro A3 c3 w3 hO3 hG3; have hG3' : W5.grownBy w3 (Value.slice A' (jumpsJ k ++ (l.take m).map (shiftJ k)).length c').ownBlock := (by rw [HML.out]; exact hG3); have h3 := box_keptJ HS5.out.box (by decide) hG3' HS5.out.own; obtain ⟨_, _, _, v3, _, _, _, vf3⟩ := lvCells h3)
            have hadd := HS5.out.add hO3 hG3'
            rw [HML.out] at hadd
            go_roundw
            case rel => exact ⟨m + 1, A3, c3, by omega, by go_num, by rw [HMS.out, HZ.out, ← List.append_assoc]; exact hadd⟩
            case measure => simp [intOf]; omega
          · have c0 : (y.op == 10) = false := by simpa using o10
            by_cases o11 : y.op = 11
            · have c1 : (y.op == 11) = true := by simpa using o11
              have O10 : Hid (¬ y.op = 10 ∧ y.op = 11) := ⟨o10, o11⟩
              clear o10 o11
              have HS5 : Hid (ShI w ⟨R, A, I, some ⟨ba, off, none⟩, n, c, l⟩ g (W4.setCell ⟨gy, 3, none⟩ (.int .i64 (wrap64 (y.c + (k : Int))))) A' c' (jumpsJ k ++ (l.take m).map (shiftJ k))) := by
                have h := HS4.out
                have hgn := h.gn
                have hgw := HGW.out
                exact ⟨h.bel.setCell (p := ⟨gy, 3, none⟩) (by show w.heap.size ≤ gy; omega) _, (Below.heap_setCell _ ⟨gy, 3, none⟩ _ _ (by show w.heap.size ≠ gy; omega)).trans h.bx, (Below.heap_setCell _ ⟨gy, 3, none⟩ _ _ (by show w.heap.size + 1 ≠ gy; omega)).trans h.rv, hgn, (Below.heap_setCell _ ⟨gy, 3, none⟩ _ _ (by show g ≠ gy; omega)).trans h.box, h.own.set_off HOF.out _ _⟩
              have HY5 : Hid ((W4.setCell ⟨gy, 3, none⟩ (.int .i64 (wrap64 (y.c + (k : Int))))).heap[gy]? = some (Ji.obj ⟨y.op, y.a, y.b, wrap64 (y.c + (k : Int)), y.n⟩)) := set_j (i := 3) (cs := [.int .i64 y.op, .int .i64 y.a, .int .i64 y.b, .int .i64 y.c, .int .i64 y.n]) HY4.out _
              obtain ⟨W5, hW5⟩ : ∃ W, W4.setCell ⟨gy, 3, none⟩ (.int .i64 (wrap64 (y.c + (k : Int)))) = W := ⟨_, rfl⟩
              rw [hW5] at HS5 HY5
              have HW5 := Lib.hid hW5
              clear hW5
              have HZ : Hid (shiftJ k y = ⟨y.op, y.a, y.b, wrap64 (y.c + (k : Int)), y.n⟩) := by unfold Hid shiftJ; rw [if_neg O10.out.1, if_pos (Or.inl O10.out.2)]
              go_upto_region 20 with fail
              try rw [HW5.out]
              clear y0 y1 y2 y3 y4 yf0 yf1 yf3
              obtain ⟨⟨z0, z1, z2, z3, z4⟩, zf⟩ := box_cellsJ HY5.out
              clear zf
              obtain ⟨x0, x1, x2, x3, _⟩ := lvCells HS5.out.box
              rw [HML.out] at x3
              have hsz : w.heap.size ≤ W5.heap.size := HS5.out.bel.size
              go_wp2_with (at_builtin; refine wpList_appendJ rfl (.tmp 74) (.tmp 76) rfl w.heap.size A' c' (k + m) (k + m + 1) W5.heap.size ⟨y.op, y.a, y.b, wrap64 (y.c + (k : Int)), y.n⟩ (jumpsJ k ++ (l.take m).map (shiftJ k)) rfl rfl rfl HS5.out.own HML.out rfl hle hsz ?_; intro A3 c3 w3 hO3 hG3; have hG3' : W5.grownBy w3 (Value.slice A' (jumpsJ k ++ (l.take m).map (shiftJ k)).length c').ownBlock := (by rw [HML.out]; exact hG3); have h3 := box_keptJ HS5.out.box (by decide) hG3' HS5.out.own; obtain ⟨_, _, _, v3, _, _, _, vf3⟩ := lvCells h3)
              have hadd := HS5.out.add hO3 hG3'
              rw [HML.out] at hadd
              go_roundw
              case rel => exact ⟨m + 1, A3, c3, by omega, by go_num, by rw [HMS.out, HZ.out, ← List.append_assoc]; exact hadd⟩
              case measure => simp [intOf]; omega
            · have c1 : (y.op == 11) = false := by simpa using o11
              by_cases o12 : y.op = 12
              · have c2 : (y.op == 12) = true := by simpa using o12
                have O10 : Hid (¬ y.op = 10 ∧ y.op = 12) := ⟨o10, o12⟩
                clear o10 o11 o12
                have HS5 : Hid (ShI w ⟨R, A, I, some ⟨ba, off, none⟩, n, c, l⟩ g (W4.setCell ⟨gy, 3, none⟩ (.int .i64 (wrap64 (y.c + (k : Int))))) A' c' (jumpsJ k ++ (l.take m).map (shiftJ k))) := by
                  have h := HS4.out
                  have hgn := h.gn
                  have hgw := HGW.out
                  exact ⟨h.bel.setCell (p := ⟨gy, 3, none⟩) (by show w.heap.size ≤ gy; omega) _, (Below.heap_setCell _ ⟨gy, 3, none⟩ _ _ (by show w.heap.size ≠ gy; omega)).trans h.bx, (Below.heap_setCell _ ⟨gy, 3, none⟩ _ _ (by show w.heap.size + 1 ≠ gy; omega)).trans h.rv, hgn, (Below.heap_setCell _ ⟨gy, 3, none⟩ _ _ (by show g ≠ gy; omega)).trans h.box, h.own.set_off HOF.out _ _⟩
                have HY5 : Hid ((W4.setCell ⟨gy, 3, none⟩ (.int .i64 (wrap64 (y.c + (k : Int))))).heap[gy]? = some (Ji.obj ⟨y.op, y.a, y.b, wrap64 (y.c + (k : Int)), y.n⟩)) := set_j (i := 3) (cs := [.int .i64 y.op, .int .i64 y.a, .int .i64 y.b, .int .i64 y.c, .int .i64 y.n]) HY4.out _
                obtain ⟨W5, hW5⟩ : ∃ W, W4.setCell ⟨gy, 3, none⟩ (.int .i64 (wrap64 (y.c + (k : Int)))) = W := ⟨_, rfl⟩
                rw [hW5] at HS5 HY5
                have HW5 := Lib.hid hW5
                clear hW5
                have HZ : Hid (shiftJ k y = ⟨y.op, y.a, y.b, wrap64 (y.c + (k : Int)), y.n⟩) := by unfold Hid shiftJ; rw [if_neg O10.out.1, if_pos (Or.inr O10.out.2)]
                go_upto_region 20 with fail
                try rw [HW5.out]
                clear y0 y1 y2 y3 y4 yf0 yf1 yf3
                obtain ⟨⟨z0, z1, z2, z3, z4⟩, zf⟩ := box_cellsJ HY5.out
                clear zf
                obtain ⟨x0, x1, x2, x3, _⟩ := lvCells HS5.out.box
                rw [HML.out] at x3
                have hsz : w.heap.size ≤ W5.heap.size := HS5.out.bel.size
                go_wp2_with (at_builtin; refine wpList_appendJ rfl (.tmp 74) (.tmp 76) rfl w.heap.size A' c' (k + m) (k + m + 1) W5.heap.size ⟨y.op, y.a, y.b, wrap64 (y.c + (k : Int)), y.n⟩ (jumpsJ k ++ (l.take m).map (shiftJ k)) rfl rfl rfl HS5.out.own HML.out rfl hle hsz ?_; intro A3 c3 w3 hO3 hG3; have hG3' : W5.grownBy w3 (Value.slice A' (jumpsJ k ++ (l.take m).map (shiftJ k)).length c').ownBlock := (by rw [HML.out]; exact hG3); have h3 := box_keptJ HS5.out.box (by decide) hG3' HS5.out.own; obtain ⟨_, _, _, v3, _, _, _, vf3⟩ := lvCells h3)
                have hadd := HS5.out.add hO3 hG3'
                rw [HML.out] at hadd
                go_roundw
                case rel => exact ⟨m + 1, A3, c3, by omega, by go_num, by rw [HMS.out, HZ.out, ← List.append_assoc]; exact hadd⟩
                case measure => simp [intOf]; omega
              · have c2 : (y.op == 12) = false := by simpa using o12
                have O10 : Hid (¬ y.op = 10 ∧ ¬ (y.op = 11 ∨ y.op = 12)) := ⟨o10, by omega⟩
                clear o10 o11 o12
                have HS5 := HS4
                have HY5 : Hid (W4.heap[gy]? = some (Ji.obj ⟨y.op, y.a, y.b, y.c, y.n⟩)) := HY4
                have HZ : Hid (shiftJ k y = ⟨y.op, y.a, y.b, y.c, y.n⟩) := by unfold Hid shiftJ; rw [if_neg O10.out.1, if_neg O10.out.2]
                go_upto_region 20 with fail
                clear y0 y1 y2 y3 y4 yf0 yf1 yf3
                obtain ⟨⟨z0, z1, z2, z3, z4⟩, zf⟩ := box_cellsJ HY5.out
                clear zf
                obtain ⟨x0, x1, x2, x3, _⟩ := lvCells HS5.out.box
                rw [HML.out] at x3
                have hsz : w.heap.size ≤ W4.heap.size := HS5.out.bel.size
                go_wp2_with (at_builtin; refine wpList_appendJ rfl (.tmp 74) (.tmp 76) rfl w.heap.size A' c' (k + m) (k + m + 1) W4.heap.size ⟨y.op, y.a, y.b, y.c, y.n⟩ (jumpsJ k ++ (l.take m).map (shiftJ k)) rfl rfl rfl HS5.out.own HML.out rfl hle hsz ?_; intro A3 c3 w3 hO3 hG3; have hG3' : W4.grownBy w3 (Value.slice A' (jumpsJ k ++ (l.take m).map (shiftJ k)).length c').ownBlock := (by rw [HML.out]; exact hG3); have h3 := box_keptJ HS5.out.box (by decide) hG3' HS5.out.own; obtain ⟨_, _, _, v3, _, _, _, vf3⟩ := lvCells h3)
                have hadd := HS5.out.add hO3 hG3'
                rw [HML.out] at hadd
                go_roundw
                case rel => exact ⟨m + 1, A3, c3, by omega, by go_num, by rw [HMS.out, HZ.out, ← List.append_assoc]; exact hadd⟩
                case measure => simp [intOf]; omega
        · obtain rfl : m = n := by omega
          have HDN : Hid (l.take m = l) := List.take_of_length_le (by have := HLN.out; omega)
          rw [HDN.out] at HS
          obtain ⟨x0, x1, x2, x3, _⟩ := lvCells HS.out.box
          have HLL : Hid ((jumpsJ k ++ l.map (shiftJ k)).length = k + m) := by unfold Hid; rw [List.length_append, jumpsJ_length, List.length_map, HLN.out]
          rw [HLL.out] at x3
          obtain ⟨r0, r1, r2, r3, rf0, rf1, rf2, rf3⟩ := lvCells HS.out.rv
          have hd := HS.out.done _ (k : Int) HSE.out (by show jumpsJ ((k : Int)).toNat ++ l.map (shiftJ k) = _; rw [Int.toNat_natCast]) (k + m) HLL.out
          have hfour := four_cells HS.out.rv (.int .i64 R) (.int .i64 A) (.int .i64 I) (.slice A' (k + m) c')
          have HD := Lib.hid hd
          have H4 := Lib.hid hfour
          clear hd hfour
          go_wp2_with fail
          obtain ⟨s0, s1, s2, s3, _⟩ := lvCells H4.out
          obtain ⟨wz, hwz⟩ : ∃ wz, (((wr.setCell ⟨w.heap.size + 1, 0, none⟩ (.int .i64 R)).setCell ⟨w.heap.size + 1, 1, none⟩ (.int .i64 A)).setCell ⟨w.heap.size + 1, 2, none⟩ (.int .i64 I)).setCell ⟨w.heap.size + 1, 3, none⟩ (.slice A' (k + m) c') = wz := ⟨_, rfl⟩
          have hd := HD.out
          rw [hwz] at hd s0 s1 s2 s3 ⊢
          exact bodyPost_ret (v := .tuple #[.agg #[.int .i64 R, .int .i64 A, .int .i64 I, .slice A' (k + m) c'], .int .i64 0]) (by simp [results, Tryz.results9, go_sem, s0, s1, s2, s3]) rfl hd
end Go.Proofs.YtbmcddolfofmdaaGreatDoor
/- The program's shapes of instructions, and their parts. -/
namespace Go.Proofs.YtbmcddolfofmdaaGreatDoor
open Go.RowKit

abbrev zeroSh : Obj := .cells #[.string ⟨#[]⟩, .int .i64 0, .int .i64 0, .int .i64 0, .int .i64 0] 58
theorem cells5 {W : World} {g : Nat} {u v x y z : Value} {t : TypeId} (h : W.heap[g]? = some (.cells #[u, v, x, y, z] t (0, 0))) :
    W.cell? ⟨g, 0, none⟩ = some u ∧ W.cell? ⟨g, 1, none⟩ = some v ∧ W.cell? ⟨g, 2, none⟩ = some x ∧ W.cell? ⟨g, 3, none⟩ = some y ∧ W.cell? ⟨g, 4, none⟩ = some z ∧ W.frozen? ⟨g, 0, none⟩ = false ∧ W.frozen? ⟨g, 1, none⟩ = false ∧ W.frozen? ⟨g, 2, none⟩ = false ∧ W.frozen? ⟨g, 3, none⟩ = false ∧ W.frozen? ⟨g, 4, none⟩ = false :=
  ⟨by simpa using cell_of_row _ _ 0 _ t (0, 0) h, by simpa using cell_of_row _ _ 1 _ t (0, 0) h, by simpa using cell_of_row _ _ 2 _ t (0, 0) h, by simpa using cell_of_row _ _ 3 _ t (0, 0) h, by simpa using cell_of_row _ _ 4 _ t (0, 0) h, by simp [World.frozen?, h], by simp [World.frozen?, h], by simp [World.frozen?, h], by simp [World.frozen?, h], by simp [World.frozen?, h]⟩
theorem five_cells {w : World} {g : Nat} {a b c d e : Value} {t : TypeId} (h : w.heap[g]? = some (.cells #[a, b, c, d, e] t (0, 0))) (x0 x1 x2 x3 x4 : Value) :
    (((((w.setCell ⟨g, 0, none⟩ x0).setCell ⟨g, 1, none⟩ x1).setCell ⟨g, 2, none⟩ x2).setCell ⟨g, 3, none⟩ x3).setCell ⟨g, 4, none⟩ x4).heap[g]? = some (.cells #[x0, x1, x2, x3, x4] t (0, 0)) := by
  have h1 := set_j (i := 0) (cs := [a, b, c, d, e]) h x0
  have h2 := set_j (i := 1) (cs := [x0, b, c, d, e]) h1 x1
  have h3 := set_j (i := 2) (cs := [x0, x1, c, d, e]) h2 x2
  have h4 := set_j (i := 3) (cs := [x0, x1, x2, d, e]) h3 x3
  exact set_j (i := 4) (cs := [x0, x1, x2, x3, e]) h4 x4
/-- five cells of a block of the call's own, written -/
def put5 (w : World) (g : Nat) (x0 x1 x2 x3 x4 : Value) : World := ((((w.setCell ⟨g, 0, none⟩ x0).setCell ⟨g, 1, none⟩ x1).setCell ⟨g, 2, none⟩ x2).setCell ⟨g, 3, none⟩ x3).setCell ⟨g, 4, none⟩ x4
theorem put5_below {w0 w : World} {B g : Nat} (h : Below B w0 w) (hg : B ≤ g) (x0 x1 x2 x3 x4 : Value) : Below B w0 (put5 w g x0 x1 x2 x3 x4) :=
  ((((h.setCell (p := ⟨g, 0, none⟩) hg _).setCell (p := ⟨g, 1, none⟩) hg _).setCell (p := ⟨g, 2, none⟩) hg _).setCell (p := ⟨g, 3, none⟩) hg _).setCell (p := ⟨g, 4, none⟩) hg _
theorem put5_heap {w : World} {g : Nat} {a b c d e : Value} {t : TypeId} (h : w.heap[g]? = some (.cells #[a, b, c, d, e] t (0, 0))) (x0 x1 x2 x3 x4 : Value) : (put5 w g x0 x1 x2 x3 x4).heap[g]? = some (.cells #[x0, x1, x2, x3, x4] t (0, 0)) := five_cells h x0 x1 x2 x3 x4
theorem put5_other {w : World} {g j : Nat} (hj : j ≠ g) (x0 x1 x2 x3 x4 : Value) : (put5 w g x0 x1 x2 x3 x4).heap[j]? = w.heap[j]? := by
  unfold put5
  rw [Below.heap_setCell _ ⟨g, 4, none⟩ _ _ hj, Below.heap_setCell _ ⟨g, 3, none⟩ _ _ hj, Below.heap_setCell _ ⟨g, 2, none⟩ _ _ hj, Below.heap_setCell _ ⟨g, 1, none⟩ _ _ hj, Below.heap_setCell _ ⟨g, 0, none⟩ _ _ hj]
theorem shapeOf_end {w W0 : World} (HB0 : Below w.heap.size w W0) (_h : W0.heap[w.heap.size]? = some (.cells #[.string ⟨#[]⟩, .int .i64 0, .int .i64 0, .int .i64 0, .int .i64 0] 58 (0, 0))) {op : Int} {x0 x1 x2 x3 x4 : Value} (b : Bool) (hv : shV op = .agg #[x0, x1, x2, x3, x4]) (hb : isOp op = b) :
    ShapeP op w (.returned (.tuple #[.agg #[x0, x1, x2, x3, x4], .bool b])) (put5 W0 w.heap.size x0 x1 x2 x3 x4) := by
  unfold ShapeP
  rw [hv, hb]
  exact ⟨rfl, put5_below HB0 (Nat.le_refl _) _ _ _ _ _⟩
set_option maxRecDepth 100000 in
set_option maxHeartbeats 2000000 in
theorem shapeOf_any (op : Int) (w : World) (hS : ShT w) : Calls Tryz.prog 32 #[.int .i64 op] w (ShapeP op w) := by
  have hb1 := (Below.refl w.heap.size w).alloc (Nat.le_refl _) zeroSh
  have HS := Lib.hid (hS _ hb1)
  obtain ⟨W0, hW0⟩ : ∃ W, w.alloc zeroSh = W := ⟨_, rfl⟩
  have HB0 : Hid (Below w.heap.size w W0) := by rw [← hW0]; exact hb1
  have HX : Hid (W0.heap[w.heap.size]? = some (.cells #[.string ⟨#[]⟩, .int .i64 0, .int .i64 0, .int .i64 0, .int .i64 0] 58 (0, 0))) := by rw [← hW0]; exact heap_alloc_new w zeroSh
  rw [hW0] at HS
  clear hb1 hS
  obtain ⟨b0, b1, b2, b3, b4, f0, f1, f2, f3, f4⟩ := cells5 HX.out
  by_cases h : op < 0 ∨ 12 < op
  · have e1 : wJ op = [] := by unfold wJ; rw [if_neg (by omega)]
    have e2 : ∀ j, j < 4 → kA op j = 0 := fun j hj => by
      unfold kA kN
      rw [if_neg (by omega)]
      match j, hj with
      | 0, _ => rfl
      | 1, _ => rfl
      | 2, _ => rfl
      | 3, _ => rfl
    have hd := fun b hb => shapeOf_end (op := op) HB0.out HX.out b (show shV op = .agg #[.string ⟨#[]⟩, .int .i64 0, .int .i64 0, .int .i64 0, .int .i64 0] by unfold shV; rw [e1, e2 0 (by omega), e2 1 (by omega), e2 2 (by omega), e2 3 (by omega)]; rfl) hb
    have hd := hd false (decide_eq_false (by omega))
    have hs := five_cells HX.out (.string ⟨#[]⟩) (.int .i64 0) (.int .i64 0) (.int .i64 0) (.int .i64 0)
    obtain ⟨s0, s1, s2, s3, s4, _⟩ := cells5 hs
    have HD := Lib.hid hd
    have HSS := Lib.hid (And.intro s0 (And.intro s1 (And.intro s2 (And.intro s3 s4))))
    have hc : decide (op < 0) = true ∨ (decide (op < 0) = false ∧ decide (13 ≤ op) = true) := by
      by_cases h0 : op < 0
      · exact .inl (decide_eq_true h0)
      · exact .inr ⟨decide_eq_false h0, decide_eq_true (by omega)⟩
    clear h hd e1 e2 hs s0 s1 s2 s3 s4
    rcases hc with hc | ⟨hc, hc2⟩
    all_goals
      go_enter Tryz.func32, Tryz.ntmps32
      go_upto_region 1 with fail
      try rw [hW0]
      go_wp2_with fail
      obtain ⟨s0, s1, s2, s3, s4⟩ := HSS.out
      exact bodyPost_ret (v := .tuple #[.agg #[.string ⟨#[]⟩, .int .i64 0, .int .i64 0, .int .i64 0, .int .i64 0], .bool false]) (by simp [results, Tryz.results32, go_sem, s0, s1, s2, s3, s4]) rfl HD.out
  · obtain ⟨k, rfl⟩ : ∃ k : Nat, op = (k : Int) := ⟨op.toNat, by omega⟩
    have hk : k < 13 := by omega
    obtain ⟨c0, c1, c2, c3, c4⟩ := HS.out.row hk
    have hd := shapeOf_end (op := (k : Int)) HB0.out HX.out true rfl (decide_eq_true (by omega))
    have hs := five_cells HX.out (.string (strJ (wJ (k : Int)))) (.int .i64 (kA (k : Int) 0)) (.int .i64 (kA (k : Int) 1)) (.int .i64 (kA (k : Int) 2)) (.int .i64 (kA (k : Int) 3))
    obtain ⟨s0, s1, s2, s3, s4, _⟩ := cells5 hs
    have HD := Lib.hid hd
    have HSS := Lib.hid (And.intro s0 (And.intro s1 (And.intro s2 (And.intro s3 s4))))
    have d0 : decide ((k : Int) < 0) = false := decide_eq_false (by omega)
    have d1 : decide (13 ≤ (k : Int)) = false := decide_eq_false (by omega)
    have hk2 : (k : Int) < 13 := by omega
    clear h hd hs s0 s1 s2 s3 s4
    go_enter Tryz.func32, Tryz.ntmps32
    go_upto_region 1 with fail
    try rw [hW0]
    go_wp2_with fail
    obtain ⟨s0, s1, s2, s3, s4⟩ := HSS.out
    exact bodyPost_ret (v := .tuple #[shV (k : Int), .bool true]) (by unfold shV; simp [results, Tryz.results32, go_sem, s0, s1, s2, s3, s4]) rfl HD.out
end Go.Proofs.YtbmcddolfofmdaaGreatDoor
