/- coo.Join where no order is named. -/
import Derived.Test.YtpfabbapfmfmmaaG11
import Derived.Lib.QuietBelow
import Derived.Test.YtpfabbapfmfmmaaG12
namespace Go.Proofs.Ytpfabbapfmfmmaa

section
open Go.RowKit
/-- one more behind a joined list -/
def joinStep (acc : List (List Int × Int × Nat)) (t : List Int × Int × Nat) : List (List Int × Int × Nat) :=
  match acc.getLast? with
  | some z => if z.1 = t.1 then acc.dropLast ++ [(z.1, wrap64 (z.2.1 + t.2.1), z.2.2)] else acc ++ [t]
  | none => [t]
def joinK (l : List (List Int × Int × Nat)) : List (List Int × Int × Nat) := l.foldl joinStep []
theorem joinK_snoc (l : List (List Int × Int × Nat)) (t : List Int × Int × Nat) : joinK (l ++ [t]) = joinStep (joinK l) t := by unfold joinK; rw [List.foldl_append]; rfl
theorem joinStep_none (t : List Int × Int × Nat) : joinStep [] t = [t] := rfl
theorem joinStep_same {L : List (List Int × Int × Nat)} {z t : List Int × Int × Nat} (h : z.1 = t.1) : joinStep (L ++ [z]) t = L ++ [(z.1, wrap64 (z.2.1 + t.2.1), z.2.2)] := by
  unfold joinStep; rw [List.getLast?_concat]; simp only [if_pos h, List.dropLast_concat]
theorem joinStep_other {L : List (List Int × Int × Nat)} {z t : List Int × Int × Nat} (h : ¬ z.1 = t.1) : joinStep (L ++ [z]) t = L ++ [z] ++ [t] := by
  unfold joinStep; rw [List.getLast?_concat]; simp only [if_neg h]

theorem wpList_appendEnt {ops : Array Oper} {rest : List Oper} {o : Oper} {a : Act} {w : World} {Q : Exit → Act → World → Prop}
    (hg : o.guard = none) (s x : Operand) (hop : o.op = Op.call { callee := Callee.builtin Builtin.append, args := #[s, x], argTypes := #[23, 23] })
    (base : Nat) (A : Option Addr) (c p r : Nat) (y : Ent) (L : List Ent) (hs : a.eval s = .slice A p c) (hx : a.eval x = .slice (some ⟨w.heap.size, 0, none⟩) 1 1)
    (ho : OwnE w base A c L) (hp : L.length = p) (hr : p + 1 = r) (hl : r ≤ 1000000) (hb : base ≤ w.heap.size)
    (hK : ∀ A' c' w', OwnE w' base A' c' (L ++ [y]) → Below base w w' → wpList Try.prog ops Q rest (a.put o.dst (.slice A' r c')) w') :
    wpList Try.prog ops Q (o :: rest) a (w.alloc (.cells #[.slice y.A y.n y.c, .int .i64 y.v] 37)) := by
  obtain ⟨i, hi, hz, h1, h2⟩ := info_parts infoEnt
  subst hp
  subst hr
  refine wpList_append_own _ hg s x 23 hop base 37 i (.agg #[.slice none 0 0, .int .i64 0]) 2 32 Try.underlying23 hi hz h1 h2 (by rfl) (by decide) _ L.length (cellsE L) hs (World.ownsRow.alloc ho _) ⟨w.heap.size, 0, none⟩ 1 1 [.slice y.A y.n y.c, .int .i64 y.v] hx rfl ?_ (by simp [Value.oneCell']) (by unfold maxLen; omega) (by omega) (by simp; omega) ?_
  · intro j u hj
    match j, hj with
    | 0, hj => simp at hj; subst hj; simp [Addr.add]
    | 1, hj => simp at hj; subst hj; simp [Addr.add]
    | j + 2, hj => simp at hj
  · intro v' w' hown hgr _
    obtain ⟨A', c', rfl⟩ : ∃ A' c', v' = .slice A' (L.length + 1) c' := by
      rcases hown.2 with ⟨rfl, h0⟩ | ⟨g, cap, cur, rfl, _⟩
      · omega
      · exact ⟨_, _, rfl⟩
    have hgr2 : w.grownBy w' (Value.slice A L.length c).ownBlock := (World.grownBy_alloc w _ _).trans hgr
    refine hK A' c' w' ?_ ((Below.refl _ w).grown hgr2 hb (fun k hk => (World.ownsRow.lt ho k hk).1))
    unfold OwnE
    rw [List.length_append, cellsE_append]
    exact hown
theorem OwnE.setV {w : World} {base g k c : Nat} {es : List Ent} (h : OwnE w base (some ⟨g, 0, none⟩) c es) {z : Ent} (hz : es[k]? = some z) (v : Int) :
    OwnE (w.setCell ⟨g, k * 2 + 1, none⟩ (.int .i64 v)) base (some ⟨g, 0, none⟩) c (es.set k ⟨z.A, z.n, z.c, z.cs, v⟩) := by
  have hk := (List.getElem?_eq_some_iff.1 hz).1
  have hl := cellsE_length es
  have e : cellsE (es.set k ⟨z.A, z.n, z.c, z.cs, v⟩) = (cellsE es).set (k * 2 + 1) (.int .i64 v) := by
    rw [← cellsE_set (x := ⟨z.A, z.n, z.c, z.cs, v⟩) hk, Nat.mul_comm k 2]
    congr 1
    obtain ⟨h3, h4⟩ := List.getElem?_eq_some_iff.1 (cellsE_at hz).1
    dsimp only
    conv => lhs; rw [← h4]
    rw [List.set_getElem_self]
  unfold OwnE
  rw [e, List.length_set]
  exact (World.ownsRow.stored h (k * 2 + 1) (.int .i64 v)).1
end

section
open Go.RowKit Go.Sort
theorem equalI_bel (A A2 : Option Addr) (n n2 c c2 : Nat) (xs ys : List Int) (w : World) (h : Ints w w.heap.size A n xs) (h2 : Ints w w.heap.size A2 n2 ys) (hn : n ≤ 100000) (hn2 : n2 ≤ 9223372036854775807) :
    Calls Try.prog 48 #[.slice A n c, .slice A2 n2 c2] w fun e w' => e = .returned (.bool (decide (xs = ys))) ∧ Below w.heap.size w w' :=
  (equalInt_any A A2 n n2 c c2 xs ys w w.heap.size h h2 hn hn2).mono fun e w' ⟨he, m, hm⟩ => ⟨he, by subst hm; exact below_drewN (Below.refl _ _) m⟩
theorem set_snd (w : World) (g : Nat) (u v b : Value) (t : TypeId) (h : w.heap[g]? = some (.cells #[u, v] t (0, 0))) :
    (w.setCell ⟨g, 1, none⟩ b).heap[g]? = some (.cells #[u, b] t (0, 0)) ∧ w.grownBy (w.setCell ⟨g, 1, none⟩ b) (some g) := by
  refine ⟨?_, grownBy_setE (grown_same w g) _ _⟩
  have h1 := blkE_set (i := 1) (cs := [u, v]) h b
  simpa using h1
/-- an entry whose place is one of theirs -/
def OfE (es : List Ent) (x : Ent) : Prop := (∃ y ∈ es, x.A = y.A ∧ x.n = y.n ∧ x.c = y.c ∧ x.cs = y.cs) ∧ -9223372036854775808 ≤ x.v ∧ x.v ≤ 9223372036854775807
theorem OwnE.cell_ {w : World} {base g c k : Nat} {es : List Ent} (h : OwnE w base (some ⟨g, 0, none⟩) c es) {z : Ent} (hz : es[k]? = some z) :
    (w.cell? ⟨g, k * 2, none⟩ = some (.slice z.A z.n z.c) ∧ w.frozen? ⟨g, k * 2, none⟩ = false) ∧ w.cell? ⟨g, k * 2 + 1, none⟩ = some (.int .i64 z.v) ∧ w.frozen? ⟨g, k * 2 + 1, none⟩ = false := by
  obtain ⟨g', post, e, _, hr⟩ := OwnE.row h (by have := (List.getElem?_eq_some_iff.1 hz).1; omega)
  injection e with e; injection e with e; subst e
  exact blk_ent hr hz
theorem OwnE.block_ {w : World} {base c : Nat} {A : Option Addr} {es : List Ent} (h : OwnE w base A c es) (hn : 0 < es.length) : ∃ g, A = some ⟨g, 0, none⟩ ∧ base ≤ g ∧ g < w.heap.size := by
  obtain ⟨g, post, e, hb, hr⟩ := OwnE.row h hn
  exact ⟨g, e, hb, hr.lt⟩

set_option maxRecDepth 100000 in
set_option maxHeartbeats 8000000 in
theorem cooJoin_pos (A B Ao : Option Addr) (n c m e co : Nat) (xs : List Int) (es : List Ent) (w : World) (h : Ints w w.heap.size A n xs) (hv : Ents w w.heap.size B m es) (hE : cooF xs es = 0) (hm0 : 0 < m) :
    Calls Try.prog 16 #[.agg #[.slice A n c, .slice B m e], .slice Ao 0 co] w fun x w' => ∃ A1 c1 A2 c2 Js, x = .returned (.tuple #[.agg #[.slice A1 n c1, .slice A2 Js.length c2], .int .i64 0]) ∧ OwnI w' w.heap.size 3 A1 c1 xs ∧ NewEs w' w.heap.size A2 c2 Js ∧ Js.map keyE = joinK (sortK (iotaL n) (es.map keyE)) ∧ Below w.heap.size w w' := by
  have hn4 : n ≤ 4 := by rw [← h.1]; exact (cellsF_ok (cooF_parts hE).1).1
  have hm5 : m ≤ 65536 := by rw [← hv.1]; exact (cooF_parts hE).2.1
  have hyl : ∀ y ∈ es, y.n = n := fun y hy => by rw [← h.1]; exact key_len hE (fun y hy => (hv.2.1 y hy).1.1) y hy
  have z0 := (Below.refl w.heap.size w).alloc (Nat.le_refl _) (.cells #[.slice A n c, .slice B m e] 25)
  have z1 := z0.alloc z0.size (.cells #[.slice none 0 0, .slice none 0 0] 25)
  have b2 := zf_snd w (.cells #[.slice none 0 0, .slice none 0 0] 25) (.cells #[.slice A n c, .slice B m e] 25)
  have HS := fun W (hb : Below w.heap.size w W) => cooSort_pos A B Ao n c m e co xs es W ((h.below hb).more hb.size) ((hv.below hb).more hb.size) hE hm0
  have HVL : Hid (es.length = m) := hv.1
  have HYL := Lib.hid hyl
  clear h hv hE z0 hyl
  go_enter Try.func16, Try.ntmps16
  go_wp2_with fail
  refine (HS _ z1).mono ?_
  rintro x w1 ⟨A1, c1, A2, c2, Ss, rfl, HA1, HNE, hkey, hb1⟩
  have hsz0 : w.heap.size + 2 ≤ w1.heap.size := by have := hb1.size; simp at this; omega
  have hb := z1.trans (hb1.mono z1.size)
  have q2 := (hb1.block (w.heap.size + 1) (by simp)).trans b2
  have hsl : Ss.length = m := by
    have := congrArg List.length hkey
    rw [← sortE_key, List.length_map, List.length_map, sortE_len] at this
    rw [this]; exact HVL.out
  rcases HNE with hnil | ⟨g, post, rfl, hgb, hrow, hnew, hlc⟩
  · rw [hnil] at hsl; simp at hsl; omega
  have HKEY := Lib.hid hkey
  have hgl := hrow.lt
  have yb := ((Below.refl w1.heap.size w1).alloc (Nat.le_refl _) (.cells #[.slice A1 n c1, .slice (some ⟨g, 0, none⟩) m c2] 25)).alloc (by simp) (.cells #[.slice A1 n c1, .slice none 0 0] 25)
  have y0 := zf_two w1 (.cells #[.slice A1 n c1, .slice (some ⟨g, 0, none⟩) m c2] 25) (.cells #[.slice A1 n c1, .slice none 0 0] 25)
  have y1 := zf_snd w1 (.cells #[.slice A1 n c1, .slice none 0 0] 25) (.cells #[.slice A1 n c1, .slice (some ⟨g, 0, none⟩) m c2] 25)
  have hsB : ((w1.alloc (.cells #[.slice A1 n c1, .slice (some ⟨g, 0, none⟩) m c2] 25)).alloc (.cells #[.slice A1 n c1, .slice none 0 0] 25)).heap.size = w1.heap.size + 2 := by simp
  obtain ⟨wB, hwB⟩ : ∃ wB, (w1.alloc (.cells #[.slice A1 n c1, .slice (some ⟨g, 0, none⟩) m c2] 25)).alloc (.cells #[.slice A1 n c1, .slice none 0 0] 25) = wB := ⟨_, rfl⟩
  rw [hwB] at yb y0 y1 hsB
  have H0 := Lib.hid hwB
  have HXN : Hid (∀ x ∈ Ss, x.n = n) := fun x hx => by
    rw [← sortE_key] at hkey
    obtain ⟨y, hy, e⟩ := keys_mem hkey hx
    have e2 : x.n = y.n := congrArg (fun q => q.2.2) e
    rw [e2]; exact HYL.out y (sortE_sub hy)
  have HROW : Hid (RowE wB g Ss post) := hrow.below yb
  have HNEW : Hid (∀ x ∈ Ss, Ints wB w1.heap.size x.A x.n x.cs ∧ (∀ b off, x.A = some ⟨b, off, none⟩ → w.heap.size + 2 ≤ b ∧ b < w1.heap.size ∧ ∃ cs t, wB.heap[b]? = some (.cells cs t (0, 0))) ∧ x.n ≤ x.c ∧ -9223372036854775808 ≤ x.v ∧ x.v ≤ 9223372036854775807) := fun x hx => by
    refine ⟨(hnew x hx).1.1.below yb, fun b off e => ?_, (hnew x hx).2.2⟩
    have h8 := (hnew x hx).2.1 b off e
    obtain ⟨cs, t, h9⟩ := h8.2.2
    have h10 := h8.1
    have h11 := h8.2.1
    simp only [World.size_alloc] at h10
    exact ⟨by omega, h11, cs, t, (yb.block b h11).trans h9⟩
  have hsBa : w1.heap.size + 2 ≤ wB.heap.size := by omega
  have HB0 := Lib.hid (hb.trans (yb.mono hb.size))
  have HA1W := Lib.hid HA1
  have HYB := Lib.hid yb
  have HQ2 := Lib.hid ((yb.block (w.heap.size + 1) (by omega)).trans q2)
  have HY0 := Lib.hid y0
  have HY1 := Lib.hid y1
  have HSL := Lib.hid hsl
  have hgw : w.heap.size ≤ g := by simp only [World.size_alloc] at hgb; omega
  obtain ⟨k0, k1, _, _⟩ := pair_cells y0
  clear hsB hwB yb hrow hnew HA1 hb hkey b2 z1 hb1 q2 y1 y0 HS hsl hgb
  go_upto_region 5 with fail
  rw [H0.out]
  go_wp2_with fail
  go_loopw [28] (fun v wr => ∃ (i : Nat) (Js : List Ent) (A3 : Option Addr) (c3 : Nat), v = .int .i64 (i : Int) ∧ i ≤ m ∧ Js.length ≤ i ∧ Hid (wr.heap[w1.heap.size + 1]? = some (.cells #[.slice A1 n c1, .slice A3 Js.length c3] 25 (0, 0))) ∧ Hid (OwnE wr wB.heap.size A3 c3 Js) ∧ Hid (Js.map keyE = joinK ((Ss.take i).map keyE)) ∧ Hid (∀ x ∈ Js, OfE Ss x) ∧ Hid (Below (w1.heap.size + 1) wB wr)) (fun v _ => m - (intOf v).toNat)
  case atStart => exact ⟨0, [], none, 0, rfl, Nat.zero_le _, Nat.le_refl _, HY1, Lib.hid (OwnE.nil_ _ _), rfl, (fun x hx => by cases hx), Lib.hid (Below.refl _ _)⟩
  case round =>
    clear k0 k1
    obtain ⟨i, Js, A3, c3, rfl, hi, hji, HBJ, HOJ, HKJ, HOF, HB⟩ := hrel
    have hszr := HB.out.size
    obtain ⟨p0, p1, pf0, pf1⟩ := pair_cells HBJ.out
    by_cases hlt : i < m
    · obtain ⟨t, ht⟩ : ∃ t, Ss[i]? = some t := ⟨_, List.getElem?_eq_getElem (by rw [HSL.out]; exact hlt)⟩
      have HT := Lib.hid ht
      have htm := List.mem_of_getElem? ht
      have hrw : RowE wr g Ss post := (HB.out.block g (by omega)).trans HROW.out
      obtain ⟨⟨a1, a2⟩, a3, a4⟩ := blk_ent hrw ht
      have HNT := Lib.hid (HNEW.out t htm)
      have HTN := Lib.hid (HXN.out t htm)
      have hin : (i : Int) < (m : Int) := by omega
      have hi0 : (0 : Int) ≤ (i : Int) := by omega
      have wt0 := heap_alloc_new wr (.cells #[.slice t.A t.n t.c, .int .i64 t.v] 37)
      have hbt := (Below.refl wr.heap.size wr).alloc (Nat.le_refl _) (.cells #[.slice t.A t.n t.c, .int .i64 t.v] 37)
      have HBT := Lib.hid hbt
      have HWT := Lib.hid wt0
      have HJK : Hid (joinK ((Ss.take (i + 1)).map keyE) = joinStep (Js.map keyE) (keyE t)) := by unfold Hid; rw [take_succ_of ht, List.map_append, HKJ.out]; exact joinK_snoc _ _
      have HOT : Hid (OfE Ss t) := ⟨⟨t, htm, rfl, rfl, rfl, rfl⟩, HNT.out.2.2.2⟩
      clear ht hrw wt0 hbt
      obtain ⟨wt, hwt⟩ : ∃ wt, wr.alloc (.cells #[.slice t.A t.n t.c, .int .i64 t.v] 37) = wt := ⟨_, rfl⟩
      rw [hwt] at HBT HWT
      have HWE := Lib.hid hwt
      have hszt : wr.heap.size < wt.heap.size := lt_of_heap HWT.out
      have hbjt := (HBT.out.block (w1.heap.size + 1) (by omega)).trans HBJ.out
      have HOT2 : Hid (OwnE wt wB.heap.size A3 c3 Js) := by unfold Hid; rw [← hwt]; exact World.ownsRow.alloc HOJ.out _
      obtain ⟨t0, t1, _, _⟩ := pair_cells HWT.out
      obtain ⟨N, hN⟩ : ∃ N, Js.length = N := ⟨_, rfl⟩
      have HLJ := Lib.hid hN
      rw [hN] at p1 hbjt hji
      have HBJT := Lib.hid hbjt
      obtain ⟨u0, u1, uf0, uf1⟩ := pair_cells hbjt
      clear hbjt hN hwt
      rcases Nat.eq_zero_or_pos N with hj0 | hj0
      · subst hj0
        have hjn : Js = [] := List.eq_nil_of_length_eq_zero HLJ.out
        go_upto_region 8 with fail
        rw [HWE.out]
        go_wp2_with fail
        go_quiet (fail)
        go_wp2_with (at_builtin; refine wpList_appendEnt rfl (.tmp 61) (.tmp 63) rfl wB.heap.size A3 c3 0 1 t Js rfl rfl HOT2.out HLJ.out rfl (by omega) (by show wB.heap.size ≤ wt.heap.size; omega) ?_; intro A4 c4 w3 HO4 hb5; have HO5 := Lib.hid HO4; clear HO4; have rbj := (hb5.block (w1.heap.size + 1) (by omega)).trans HBJT.out; obtain ⟨s0, s1, sf0, sf1⟩ := pair_cells rbj; have HRB := Lib.hid rbj; have HB5 := Lib.hid hb5; clear rbj hb5)
        have hsn := set_snd w3 (w1.heap.size + 1) _ _ (.slice A4 1 c4) _ HRB.out
        have HOWN6 : Hid (OwnE (w3.setCell ⟨w1.heap.size + 1, 1, none⟩ (.slice A4 1 c4)) wB.heap.size A4 c4 (Js ++ [t])) := World.ownsRow.kept HO5.out hsn.2 (rows_ne HO5.out HRB.out (by decide))
        have HBF6 : Hid (Below (w1.heap.size + 1) wB (w3.setCell ⟨w1.heap.size + 1, 1, none⟩ (.slice A4 1 c4))) := (((HB.out.trans (HBT.out.mono (by omega))).trans (below_drewN (Below.refl _ wt) _)).trans (HB5.out.mono (by omega))).setCell (p := ⟨w1.heap.size + 1, 1, none⟩) (Nat.le_refl _) _
        have HHP6 : Hid ((w3.setCell ⟨w1.heap.size + 1, 1, none⟩ (.slice A4 1 c4)).heap[w1.heap.size + 1]? = some (.cells #[.slice A1 n c1, .slice A4 (Js ++ [t]).length c4] 25 (0, 0))) := by unfold Hid; rw [List.length_append, HLJ.out]; exact hsn.1
        have HKJ6 : Hid ((Js ++ [t]).map keyE = joinK ((Ss.take (i + 1)).map keyE)) := by unfold Hid; rw [HJK.out]; rw [hjn]; rfl
        have HOF6 : Hid (∀ x ∈ Js ++ [t], OfE Ss x) := fun x hx => by
          rcases List.mem_append.1 hx with h | h
          · exact HOF.out x h
          · rw [List.mem_singleton.1 h]; exact HOT.out
        have hlen6 : (Js ++ [t]).length ≤ i + 1 := by rw [List.length_append, HLJ.out]; first | (show _ + 1 ≤ _; omega) | (simp <;> omega)
        clear hsn
        go_roundw
        case rel => exact ⟨i + 1, Js ++ [t], A4, c4, by go_num, by omega, hlen6, HHP6, HOWN6, HKJ6, HOF6, HBF6⟩
        case measure => simp [intOf]; omega
      · obtain ⟨q, hq⟩ : ∃ q, N = q + 1 := ⟨N - 1, by omega⟩
        obtain ⟨Js0, z, hjz⟩ : ∃ Js0 z, Js = Js0 ++ [z] := ⟨Js.dropLast, Js.getLast (by intro e; have := HLJ.out; rw [e] at this; simp at this; omega), (List.dropLast_concat_getLast _).symm⟩
        have hl0 : Js0.length = q := by have := HLJ.out; rw [hjz] at this; simp at this; omega
        have hz : Js[q]? = some z := by rw [hjz, List.getElem?_append_right (by omega), hl0, Nat.sub_self]; rfl
        have HJZ := Lib.hid hjz
        obtain ⟨g2, rfl, hg2, hg2l⟩ := OwnE.block_ HOT2.out (by rw [HLJ.out]; exact hj0)
        obtain ⟨⟨d1, d2⟩, d3, d4⟩ := OwnE.cell_ HOT2.out hz
        obtain ⟨⟨y, hy, e1, e2, e3, e4⟩, hzv⟩ := HOF.out z (by rw [hjz]; simp)
        have HZV := Lib.hid hzv
        have hIz : Ints wt wt.heap.size z.A z.n z.cs := by rw [e1, e2, e4]; exact (((HNEW.out y hy).1.below (HB.out.mono (by omega))).below (HBT.out.mono (by omega))).more (by omega)
        have hIt : Ints wt wt.heap.size t.A t.n t.cs := ((HNT.out.1.below (HB.out.mono (by omega))).below (HBT.out.mono (by omega))).more (by omega)
        have hzn : z.n ≤ 4 := by rw [e2, HXN.out y hy]; exact hn4
        have hmx : Try.prog.follows .mixedOrders = true := by kernel_rfl
        have cQ := fun d os => Calls.regrown_of (equalI_bel z.A t.A z.n t.n z.c t.c z.cs t.cs (grow (redrawn wt d) os) ((hIz.below (below_regrown wt d os)).more (below_regrown wt d os).size) ((hIt.below (below_regrown wt d os)).more (below_regrown wt d os).size) (by omega) (by have := HTN.out; omega))
        have x1 := cell_regrown u1
        have x2 := cell_regrown d1
        have x3 := cell_regrown t0
        have eq1 : (N : Int) - 1 = (q : Int) := by omega
        have hqN : (q : Int) < (N : Int) := by omega
        have hq0 : (0 : Int) ≤ (q : Int) := by omega
        have hdq : decide ((0 : Int) ≤ (q : Int)) = true := decide_eq_true hq0
        have HZ := Lib.hid hz
        have HL0 := Lib.hid hl0
        have HEQ := Lib.hid hq
        clear hz hl0 hq hy e1 e2 e3 e4 hzv hIz hIt hjz
        by_cases hcs : z.cs = t.cs
        · rw [decide_eq_true hcs] at cQ
          have HCS := Lib.hid hcs
          clear hcs
          go_upto_region 8 with fail
          rw [HWE.out]
          go_wp2_with fail
          refine wp_region_quiet_below hmx (by kernel_rfl) ?_
          repeat (quiet_step (first | (go_at_call 48; with_reducible exact cQ _ _)))
          refine wpQuiet_nil ?_
          intro _ hw'
          obtain ⟨⟨dq, osq⟩, hw''⟩ := hw'
          subst hw''
          have hb5 := below_regrown wt dq osq
          obtain ⟨w5, hw5⟩ : ∃ w5, grow (redrawn wt dq) osq = w5 := ⟨_, rfl⟩
          have HO5 : Hid (OwnE w5 wB.heap.size (some ⟨g2, 0, none⟩) c3 Js) := by unfold Hid; rw [← hw5]; exact OwnE.below HOT2.out hb5 (Nat.le_refl _)
          rw [hw5] at hb5 ⊢
          have HW5 := Lib.hid hb5
          have rb5 := (hb5.block (w1.heap.size + 1) (by omega)).trans HBJT.out
          have rt5 := (hb5.block wr.heap.size hszt).trans HWT.out
          obtain ⟨k0, k1, _, _⟩ := pair_cells rb5
          obtain ⟨m0, m1, _, _⟩ := pair_cells rt5
          obtain ⟨⟨n1, n2⟩, n3, n4⟩ := OwnE.cell_ HO5.out HZ.out
          have HRB := Lib.hid rb5
          clear x1 x2 x3 u0 u1 uf0 uf1 d1 d2 d3 d4 t0 t1 cQ hw5 rb5 rt5
          go_wp2_with fail
          have hset := OwnE.setV HO5.out HZ.out (wrap64 (z.v + t.v))
          have hgs := grownBy_setE (grown_same w5 g2) (q * 2 + 1) (.int .i64 (wrap64 (z.v + t.v)))
          have HBJ6 : Hid ((w5.setCell ⟨g2, q * 2 + 1, none⟩ (.int .i64 (wrap64 (z.v + t.v)))).heap[w1.heap.size + 1]? = some (.cells #[.slice A1 n c1, .slice (some ⟨g2, 0, none⟩) N c3] 25 (0, 0))) := (hgs.block (w1.heap.size + 1) (lt_of_heap HRB.out) (by intro e; injection e with e; omega)).trans HRB.out
          have HOS := Lib.hid hset
          have HB6 : Hid (Below (w1.heap.size + 1) wB (w5.setCell ⟨g2, q * 2 + 1, none⟩ (.int .i64 (wrap64 (z.v + t.v))))) := ((HB.out.trans (HBT.out.mono (by omega))).trans (HW5.out.mono (by omega))).setCell (p := ⟨g2, q * 2 + 1, none⟩) (by show w1.heap.size + 1 ≤ g2; omega) _
          have HKJ6 : Hid ((Js.set q ⟨z.A, z.n, z.c, z.cs, wrap64 (z.v + t.v)⟩).map keyE = joinK ((Ss.take (i + 1)).map keyE)) := by
            unfold Hid
            rw [HJK.out, HJZ.out, List.set_append_right _ _ (by rw [HL0.out]; exact Nat.le_refl _), HL0.out, Nat.sub_self, List.set_cons_zero, List.map_append, List.map_append]
            exact (joinStep_same (L := Js0.map keyE) (z := keyE z) (t := keyE t) HCS.out).symm
          have HOF6 : Hid (∀ x ∈ Js.set q ⟨z.A, z.n, z.c, z.cs, wrap64 (z.v + t.v)⟩, OfE Ss x) := fun x hx => by
            rcases List.mem_or_eq_of_mem_set hx with h | h
            · exact HOF.out x h
            · rw [h]; exact ⟨(HOF.out z (List.mem_of_getElem? HZ.out)).1, wrap64_range _⟩
          have hlen6 : (Js.set q ⟨z.A, z.n, z.c, z.cs, wrap64 (z.v + t.v)⟩).length ≤ i + 1 := by rw [List.length_set, HLJ.out]; omega
          have HHP6 : Hid ((w5.setCell ⟨g2, q * 2 + 1, none⟩ (.int .i64 (wrap64 (z.v + t.v)))).heap[w1.heap.size + 1]? = some (.cells #[.slice A1 n c1, .slice (some ⟨g2, 0, none⟩) (Js.set q ⟨z.A, z.n, z.c, z.cs, wrap64 (z.v + t.v)⟩).length c3] 25 (0, 0))) := by unfold Hid; rw [List.length_set, HLJ.out]; exact HBJ6.out
          clear hset hgs
          go_region
          all_goals
            obtain ⟨w6, hw6⟩ : ∃ w6, w5.setCell ⟨g2, q * 2 + 1, none⟩ (.int .i64 (wrap64 (z.v + t.v))) = w6 := ⟨_, rfl⟩
            rw [hw6] at HOS HB6 HHP6 ⊢
            clear hw6 k0 k1 m0 m1 n1 n2 n3 n4
            go_wp2_with fail
            go_roundw
            case rel => exact ⟨i + 1, _, _, c3, by go_num, by omega, hlen6, HHP6, HOS, HKJ6, HOF6, Lib.hid HB6.out.drew⟩
            case measure => simp [intOf]; omega
        · rw [decide_eq_false hcs] at cQ
          have HCS := Lib.hid hcs
          clear hcs
          go_upto_region 8 with fail
          rw [HWE.out]
          go_wp2_with fail
          refine wp_region_quiet_below hmx (by kernel_rfl) ?_
          repeat (quiet_step (first | (go_at_call 48; with_reducible exact cQ _ _)))
          refine wpQuiet_nil ?_
          intro _ hw'
          obtain ⟨⟨dq, osq⟩, hw''⟩ := hw'
          subst hw''
          have hb5 := below_regrown wt dq osq
          obtain ⟨w5, hw5⟩ : ∃ w5, grow (redrawn wt dq) osq = w5 := ⟨_, rfl⟩
          have HO4' : Hid (OwnE w5 wB.heap.size (some ⟨g2, 0, none⟩) c3 Js) := by unfold Hid; rw [← hw5]; exact OwnE.below HOT2.out hb5 (Nat.le_refl _)
          rw [hw5] at hb5 ⊢
          have HW5 := Lib.hid hb5
          have hs5 : wB.heap.size ≤ w5.heap.size := by have := hb5.size; omega
          have rb5 := (hb5.block (w1.heap.size + 1) (by omega)).trans HBJT.out
          have rt5 := (hb5.block wr.heap.size hszt).trans HWT.out
          obtain ⟨k0, k1, _, _⟩ := pair_cells rb5
          obtain ⟨m0, m1, _, _⟩ := pair_cells rt5
          have HBJ5 := Lib.hid rb5
          have hne : ¬ (keyE z).1 = (keyE t).1 := HCS.out
          clear x1 x2 x3 u0 u1 uf0 uf1 d1 d2 d3 d4 t0 t1 cQ hw5 rb5 rt5
          go_wp2_with (at_builtin; refine wpList_appendEnt rfl (.tmp 61) (.tmp 63) rfl wB.heap.size (some ⟨g2, 0, none⟩) c3 N (N + 1) t Js rfl rfl HO4'.out HLJ.out rfl (by omega) hs5 ?_; intro A4 c4 w3 HO4 hb5; have HO5 := Lib.hid HO4; clear HO4; have rbj := (hb5.block (w1.heap.size + 1) (by omega)).trans HBJ5.out; obtain ⟨s0, s1, sf0, sf1⟩ := pair_cells rbj; have HRB := Lib.hid rbj; have HB5 := Lib.hid hb5; clear rbj hb5)
          have hsn := set_snd w3 (w1.heap.size + 1) _ _ (.slice A4 (N + 1 : Nat) c4) _ HRB.out
          have HOWN6 : Hid (OwnE (w3.setCell ⟨w1.heap.size + 1, 1, none⟩ (.slice A4 (N + 1 : Nat) c4)) wB.heap.size A4 c4 (Js ++ [t])) := World.ownsRow.kept HO5.out hsn.2 (rows_ne HO5.out HRB.out (by decide))
          have HBF6 : Hid (Below (w1.heap.size + 1) wB (w3.setCell ⟨w1.heap.size + 1, 1, none⟩ (.slice A4 (N + 1 : Nat) c4))) := (((HB.out.trans (HBT.out.mono (by omega))).trans (HW5.out.mono (by omega))).trans (HB5.out.mono (by omega))).setCell (p := ⟨w1.heap.size + 1, 1, none⟩) (Nat.le_refl _) _
          have HHP6 : Hid ((w3.setCell ⟨w1.heap.size + 1, 1, none⟩ (.slice A4 (N + 1 : Nat) c4)).heap[w1.heap.size + 1]? = some (.cells #[.slice A1 n c1, .slice A4 (Js ++ [t]).length c4] 25 (0, 0))) := by unfold Hid; rw [List.length_append, HLJ.out]; exact hsn.1
          have HKJ6 : Hid ((Js ++ [t]).map keyE = joinK ((Ss.take (i + 1)).map keyE)) := by unfold Hid; rw [HJK.out]; rw [HJZ.out, List.map_append, List.map_append]; exact (joinStep_other hne).symm
          have HOF6 : Hid (∀ x ∈ Js ++ [t], OfE Ss x) := fun x hx => by
            rcases List.mem_append.1 hx with h | h
            · exact HOF.out x h
            · rw [List.mem_singleton.1 h]; exact HOT.out
          have hlen6 : (Js ++ [t]).length ≤ i + 1 := by rw [List.length_append, HLJ.out]; first | (show _ + 1 ≤ _; omega) | (simp <;> omega)
          clear hsn
          go_roundw
          case rel => exact ⟨i + 1, Js ++ [t], A4, c4, by go_num, by omega, hlen6, HHP6, HOWN6, HKJ6, HOF6, HBF6⟩
          case measure => simp [intOf]; omega
    · obtain rfl : i = m := by omega
      have hrv := (HB.out.block (w.heap.size + 1) (by omega)).trans HQ2.out
      obtain ⟨v0, v1, vf0, vf1⟩ := pair_cells hrv
      have HRV2 := Lib.hid hrv
      obtain ⟨N, hN⟩ : ∃ N, Js.length = N := ⟨_, rfl⟩
      rw [hN] at p1
      have HNN := Lib.hid hN
      clear hrv hN
      go_wp2_with fail
      have hres := set_two wr (w.heap.size + 1) _ _ (.slice A1 n c1) (.slice A3 N c3) _ HRV2.out
      obtain ⟨s0, s1, _, _⟩ := pair_cells hres.1
      obtain ⟨wz, hwz⟩ : ∃ wz, (wr.setCell ⟨w.heap.size + 1, 0, none⟩ (.slice A1 n c1)).setCell ⟨w.heap.size + 1, 1, none⟩ (.slice A3 N c3) = wz := ⟨_, rfl⟩
      rw [hwz] at hres s0 s1 ⊢
      have hb5 := HB0.out.trans (HB.out.mono (by omega))
      refine bodyPost_ret (v := .tuple #[.agg #[.slice A1 n c1, .slice A3 N c3], .int .i64 0]) (by simp [results, Try.results16, go_sem, s0, s1]) rfl ⟨A1, c1, A3, c3, Js, by rw [HNN.out], ?_, ?_, ?_, hb5.grown hres.2 hb5.size (fun k hk => by injection hk with hk; omega)⟩
      · have q1 := HA1W.out.below (HYB.out.trans (HB.out.mono (by omega))) (Nat.le_refl _)
        exact OwnI.mono (w := wz) (base := (w.heap.size + 1 + 1)) ⟨by have q2 := q1.1.kept hres.2 (rows_ne q1.1 HRV2.out (by decide)); simpa using q2, q1.2⟩ (by omega)
      · rcases Nat.eq_zero_or_pos Js.length with hz | hz
        · exact .inl (List.eq_nil_of_length_eq_zero hz)
        · obtain ⟨g2, post2, rfl, hg2, hr2⟩ := OwnE.row HOJ.out hz
          have hlc2 : Js.length ≤ c3 := by
            rcases HOJ.out.2 with ⟨_, h1⟩ | ⟨g', cap, cur, h1, _, _, h4, _⟩
            · omega
            · injection h1 with _ _ h1; omega
          refine .inr ⟨g2, post2, rfl, by omega, (hres.2.block g2 hr2.lt (by intro e; injection e with e; omega)).trans hr2, fun x hx => ?_, hlc2⟩
          obtain ⟨⟨y, hy, e1, e2, e3, e4⟩, hvb⟩ := HOF.out x hx
          obtain ⟨n1, n2, n3, _⟩ := HNEW.out y hy
          have hI : Ints wr wr.heap.size x.A x.n x.cs := by rw [e1, e2, e4]; exact (n1.below (HB.out.mono (by omega))).more (by omega)
          have hne : NewE wr (w.heap.size + 2) g2 x := ⟨⟨hI, fun b off e => by rw [e1] at e; have := (n2 b off e).2.1; omega⟩, fun b off e => by
            rw [e1] at e
            obtain ⟨m1, m2, cs, t, m3⟩ := n2 b off e
            exact ⟨m1, by omega, cs, t, (HB.out.block b (by omega)).trans m3⟩, by rw [e2, e3]; exact n3, hvb⟩
          exact (hne.far hres.2 (by omega)).mono (by omega)
      · rw [HKJ.out, List.take_of_length_le (Nat.le_of_eq HSL.out), HKEY.out]
end
end Go.Proofs.Ytpfabbapfmfmmaa
/- coo.Join by any order, at any number of entries. -/
namespace Go.Proofs.Ytpfabbapfmfmmaa
open Go.RowKit Go.Sort

set_option maxRecDepth 100000 in
set_option maxHeartbeats 8000000 in
theorem cooJoin_ok (A B Ao : Option Addr) (n c m e ro co : Nat) (xs os : List Int) (es : List Ent) (w : World) (h : Ints w w.heap.size A n xs) (hv : Ents w w.heap.size B m es) (hE : cooF xs es = 0) (ho : Ints w w.heap.size Ao ro os) (hro : ro ≤ 100000) (hok : OrdOk n os) :
    Calls Try.prog 16 #[.agg #[.slice A n c, .slice B m e], .slice Ao ro co] w fun x w' => ∃ A1 c1 A2 c2 Js, x = .returned (.tuple #[.agg #[.slice A1 n c1, .slice A2 Js.length c2], .int .i64 0]) ∧ OwnI w' w.heap.size 3 A1 c1 xs ∧ NewEs w' w.heap.size A2 c2 Js ∧ Js.map keyE = joinK (sortK (ordL n os) (es.map keyE)) ∧ Below w.heap.size w w' := by
  have hn4 : n ≤ 4 := by rw [← h.1]; exact (cellsF_ok (cooF_parts hE).1).1
  have hm5 : m ≤ 65536 := by rw [← hv.1]; exact (cooF_parts hE).2.1
  have hyl : ∀ y ∈ es, y.n = n := fun y hy => by rw [← h.1]; exact key_len hE (fun y hy => (hv.2.1 y hy).1.1) y hy
  have z0 := (Below.refl w.heap.size w).alloc (Nat.le_refl _) (.cells #[.slice A n c, .slice B m e] 25)
  have z1 := z0.alloc z0.size (.cells #[.slice none 0 0, .slice none 0 0] 25)
  have b2 := zf_snd w (.cells #[.slice none 0 0, .slice none 0 0] 25) (.cells #[.slice A n c, .slice B m e] 25)
  have HS := fun W (hb : Below w.heap.size w W) => cooSort_ok A B Ao n c m e ro co xs os es W ((h.below hb).more hb.size) ((hv.below hb).more hb.size) hE ((ho.below hb).more hb.size) hro hok
  have HVL : Hid (es.length = m) := hv.1
  have HYL := Lib.hid hyl
  clear h hv hE z0 hyl ho hok
  go_enter Try.func16, Try.ntmps16
  go_wp2_with fail
  refine (HS _ z1).mono ?_
  rintro x w1 ⟨A1, c1, A2, c2, Ss, rfl, HA1, HNE, hkey, hb1⟩
  have hsz0 : w.heap.size + 2 ≤ w1.heap.size := by have := hb1.size; simp at this; omega
  have hb := z1.trans (hb1.mono z1.size)
  have q2 := (hb1.block (w.heap.size + 1) (by simp)).trans b2
  have hsl : Ss.length = m := by
    have := congrArg List.length hkey
    rw [← sortE_key, List.length_map, List.length_map, sortE_len] at this
    rw [this]; exact HVL.out
  rcases HNE with hnil | ⟨g, post, rfl, hgb, hrow, hnew, hlc⟩
  · obtain rfl : m = 0 := by rw [hnil] at hsl; simpa using hsl.symm
    have hes0 : es = [] := List.eq_nil_of_length_eq_zero HVL.out
    have HFK : Hid (([] : List Ent).map keyE = joinK (sortK (ordL n os) (es.map keyE))) := by unfold Hid; rw [hes0]; rfl
    have yb := ((Below.refl w1.heap.size w1).alloc (Nat.le_refl _) (.cells #[.slice A1 n c1, .slice A2 0 c2] 25)).alloc (by simp) (.cells #[.slice A1 n c1, .slice none 0 0] 25)
    have y0 := zf_two w1 (.cells #[.slice A1 n c1, .slice A2 0 c2] 25) (.cells #[.slice A1 n c1, .slice none 0 0] 25)
    have y1 := zf_snd w1 (.cells #[.slice A1 n c1, .slice none 0 0] 25) (.cells #[.slice A1 n c1, .slice A2 0 c2] 25)
    obtain ⟨wB, hwB⟩ : ∃ wB, (w1.alloc (.cells #[.slice A1 n c1, .slice A2 0 c2] 25)).alloc (.cells #[.slice A1 n c1, .slice none 0 0] 25) = wB := ⟨_, rfl⟩
    have HA1W : Hid (OwnI wB (w.heap.size + 1 + 1) 3 A1 c1 xs) := by unfold Hid; rw [← hwB]; have := (HA1.alloc (.cells #[.slice A1 n c1, .slice A2 0 c2] 25)).alloc (.cells #[.slice A1 n c1, .slice none 0 0] 25); simpa using this
    rw [hwB] at yb y0 y1
    have H0 := Lib.hid hwB
    have HB0 := Lib.hid (hb.trans (yb.mono hb.size))
    have HQ2 := Lib.hid ((yb.block (w.heap.size + 1) (by omega)).trans q2)
    obtain ⟨k0, k1, _, _⟩ := pair_cells y0
    obtain ⟨p0, p1, _, _⟩ := pair_cells y1
    obtain ⟨v0, v1, vf0, vf1⟩ := pair_cells HQ2.out
    clear hwB yb HA1 hb hkey b2 z1 hb1 q2 y1 y0 HS hsl hnil hes0
    go_upto_region 5 with fail
    rw [H0.out]
    go_wp2_with fail
    go_loopw [28] (fun v wr => v = .int .i64 0 ∧ wr = wB) (fun _ _ => 0)
    case atStart => exact ⟨rfl, rfl⟩
    case round =>
      obtain ⟨rfl, rfl⟩ := hrel
      go_wp2_with fail
      have hres := set_two wr (w.heap.size + 1) _ _ (.slice A1 n c1) (.slice none 0 0) _ HQ2.out
      obtain ⟨s0, s1, _, _⟩ := pair_cells hres.1
      obtain ⟨wz, hwz⟩ : ∃ wz, (wr.setCell ⟨w.heap.size + 1, 0, none⟩ (.slice A1 n c1)).setCell ⟨w.heap.size + 1, 1, none⟩ (.slice none 0 0) = wz := ⟨_, rfl⟩
      rw [hwz] at hres s0 s1 ⊢
      refine bodyPost_ret (v := .tuple #[.agg #[.slice A1 n c1, .slice none 0 0], .int .i64 0]) (by simp [results, Try.results16, go_sem, s0, s1]) rfl ⟨A1, c1, none, 0, [], rfl, ?_, .inl rfl, HFK.out, HB0.out.grown hres.2 HB0.out.size (fun k hk => by injection hk with hk; omega)⟩
      exact OwnI.mono (w := wz) (base := (w.heap.size + 1 + 1)) ⟨HA1W.out.1.kept hres.2 (rows_ne HA1W.out.1 HQ2.out (by decide)), HA1W.out.2⟩ (by omega)
  have HKEY := Lib.hid hkey
  have hgl := hrow.lt
  have yb := ((Below.refl w1.heap.size w1).alloc (Nat.le_refl _) (.cells #[.slice A1 n c1, .slice (some ⟨g, 0, none⟩) m c2] 25)).alloc (by simp) (.cells #[.slice A1 n c1, .slice none 0 0] 25)
  have y0 := zf_two w1 (.cells #[.slice A1 n c1, .slice (some ⟨g, 0, none⟩) m c2] 25) (.cells #[.slice A1 n c1, .slice none 0 0] 25)
  have y1 := zf_snd w1 (.cells #[.slice A1 n c1, .slice none 0 0] 25) (.cells #[.slice A1 n c1, .slice (some ⟨g, 0, none⟩) m c2] 25)
  have hsB : ((w1.alloc (.cells #[.slice A1 n c1, .slice (some ⟨g, 0, none⟩) m c2] 25)).alloc (.cells #[.slice A1 n c1, .slice none 0 0] 25)).heap.size = w1.heap.size + 2 := by simp
  obtain ⟨wB, hwB⟩ : ∃ wB, (w1.alloc (.cells #[.slice A1 n c1, .slice (some ⟨g, 0, none⟩) m c2] 25)).alloc (.cells #[.slice A1 n c1, .slice none 0 0] 25) = wB := ⟨_, rfl⟩
  rw [hwB] at yb y0 y1 hsB
  have H0 := Lib.hid hwB
  have HXN : Hid (∀ x ∈ Ss, x.n = n) := fun x hx => by
    rw [← sortE_key] at hkey
    obtain ⟨y, hy, e⟩ := keys_mem hkey hx
    have e2 : x.n = y.n := congrArg (fun q => q.2.2) e
    rw [e2]; exact HYL.out y (sortE_sub hy)
  have HROW : Hid (RowE wB g Ss post) := hrow.below yb
  have HNEW : Hid (∀ x ∈ Ss, Ints wB w1.heap.size x.A x.n x.cs ∧ (∀ b off, x.A = some ⟨b, off, none⟩ → w.heap.size + 2 ≤ b ∧ b < w1.heap.size ∧ ∃ cs t, wB.heap[b]? = some (.cells cs t (0, 0))) ∧ x.n ≤ x.c ∧ -9223372036854775808 ≤ x.v ∧ x.v ≤ 9223372036854775807) := fun x hx => by
    refine ⟨(hnew x hx).1.1.below yb, fun b off e => ?_, (hnew x hx).2.2⟩
    have h8 := (hnew x hx).2.1 b off e
    obtain ⟨cs, t, h9⟩ := h8.2.2
    have h10 := h8.1
    have h11 := h8.2.1
    simp only [World.size_alloc] at h10
    exact ⟨by omega, h11, cs, t, (yb.block b h11).trans h9⟩
  have hsBa : w1.heap.size + 2 ≤ wB.heap.size := by omega
  have HB0 := Lib.hid (hb.trans (yb.mono hb.size))
  have HA1W := Lib.hid HA1
  have HYB := Lib.hid yb
  have HQ2 := Lib.hid ((yb.block (w.heap.size + 1) (by omega)).trans q2)
  have HY0 := Lib.hid y0
  have HY1 := Lib.hid y1
  have HSL := Lib.hid hsl
  have hgw : w.heap.size ≤ g := by simp only [World.size_alloc] at hgb; omega
  obtain ⟨k0, k1, _, _⟩ := pair_cells y0
  clear hsB hwB yb hrow hnew HA1 hb hkey b2 z1 hb1 q2 y1 y0 HS hsl hgb
  go_upto_region 5 with fail
  rw [H0.out]
  go_wp2_with fail
  go_loopw [28] (fun v wr => ∃ (i : Nat) (Js : List Ent) (A3 : Option Addr) (c3 : Nat), v = .int .i64 (i : Int) ∧ i ≤ m ∧ Js.length ≤ i ∧ Hid (wr.heap[w1.heap.size + 1]? = some (.cells #[.slice A1 n c1, .slice A3 Js.length c3] 25 (0, 0))) ∧ Hid (OwnE wr wB.heap.size A3 c3 Js) ∧ Hid (Js.map keyE = joinK ((Ss.take i).map keyE)) ∧ Hid (∀ x ∈ Js, OfE Ss x) ∧ Hid (Below (w1.heap.size + 1) wB wr)) (fun v _ => m - (intOf v).toNat)
  case atStart => exact ⟨0, [], none, 0, rfl, Nat.zero_le _, Nat.le_refl _, HY1, Lib.hid (OwnE.nil_ _ _), rfl, (fun x hx => by cases hx), Lib.hid (Below.refl _ _)⟩
  case round =>
    clear k0 k1
    obtain ⟨i, Js, A3, c3, rfl, hi, hji, HBJ, HOJ, HKJ, HOF, HB⟩ := hrel
    have hszr := HB.out.size
    obtain ⟨p0, p1, pf0, pf1⟩ := pair_cells HBJ.out
    by_cases hlt : i < m
    · obtain ⟨t, ht⟩ : ∃ t, Ss[i]? = some t := ⟨_, List.getElem?_eq_getElem (by rw [HSL.out]; exact hlt)⟩
      have HT := Lib.hid ht
      have htm := List.mem_of_getElem? ht
      have hrw : RowE wr g Ss post := (HB.out.block g (by omega)).trans HROW.out
      obtain ⟨⟨a1, a2⟩, a3, a4⟩ := blk_ent hrw ht
      have HNT := Lib.hid (HNEW.out t htm)
      have HTN := Lib.hid (HXN.out t htm)
      have hin : (i : Int) < (m : Int) := by omega
      have hi0 : (0 : Int) ≤ (i : Int) := by omega
      have wt0 := heap_alloc_new wr (.cells #[.slice t.A t.n t.c, .int .i64 t.v] 37)
      have hbt := (Below.refl wr.heap.size wr).alloc (Nat.le_refl _) (.cells #[.slice t.A t.n t.c, .int .i64 t.v] 37)
      have HBT := Lib.hid hbt
      have HWT := Lib.hid wt0
      have HJK : Hid (joinK ((Ss.take (i + 1)).map keyE) = joinStep (Js.map keyE) (keyE t)) := by unfold Hid; rw [take_succ_of ht, List.map_append, HKJ.out]; exact joinK_snoc _ _
      have HOT : Hid (OfE Ss t) := ⟨⟨t, htm, rfl, rfl, rfl, rfl⟩, HNT.out.2.2.2⟩
      clear ht hrw wt0 hbt
      obtain ⟨wt, hwt⟩ : ∃ wt, wr.alloc (.cells #[.slice t.A t.n t.c, .int .i64 t.v] 37) = wt := ⟨_, rfl⟩
      rw [hwt] at HBT HWT
      have HWE := Lib.hid hwt
      have hszt : wr.heap.size < wt.heap.size := lt_of_heap HWT.out
      have hbjt := (HBT.out.block (w1.heap.size + 1) (by omega)).trans HBJ.out
      have HOT2 : Hid (OwnE wt wB.heap.size A3 c3 Js) := by unfold Hid; rw [← hwt]; exact World.ownsRow.alloc HOJ.out _
      obtain ⟨t0, t1, _, _⟩ := pair_cells HWT.out
      obtain ⟨N, hN⟩ : ∃ N, Js.length = N := ⟨_, rfl⟩
      have HLJ := Lib.hid hN
      rw [hN] at p1 hbjt hji
      have HBJT := Lib.hid hbjt
      obtain ⟨u0, u1, uf0, uf1⟩ := pair_cells hbjt
      clear hbjt hN hwt
      rcases Nat.eq_zero_or_pos N with hj0 | hj0
      · subst hj0
        have hjn : Js = [] := List.eq_nil_of_length_eq_zero HLJ.out
        go_upto_region 8 with fail
        rw [HWE.out]
        go_wp2_with fail
        go_quiet (fail)
        go_wp2_with (at_builtin; refine wpList_appendEnt rfl (.tmp 61) (.tmp 63) rfl wB.heap.size A3 c3 0 1 t Js rfl rfl HOT2.out HLJ.out rfl (by omega) (by show wB.heap.size ≤ wt.heap.size; omega) ?_; intro A4 c4 w3 HO4 hb5; have HO5 := Lib.hid HO4; clear HO4; have rbj := (hb5.block (w1.heap.size + 1) (by omega)).trans HBJT.out; obtain ⟨s0, s1, sf0, sf1⟩ := pair_cells rbj; have HRB := Lib.hid rbj; have HB5 := Lib.hid hb5; clear rbj hb5)
        have hsn := set_snd w3 (w1.heap.size + 1) _ _ (.slice A4 1 c4) _ HRB.out
        have HOWN6 : Hid (OwnE (w3.setCell ⟨w1.heap.size + 1, 1, none⟩ (.slice A4 1 c4)) wB.heap.size A4 c4 (Js ++ [t])) := World.ownsRow.kept HO5.out hsn.2 (rows_ne HO5.out HRB.out (by decide))
        have HBF6 : Hid (Below (w1.heap.size + 1) wB (w3.setCell ⟨w1.heap.size + 1, 1, none⟩ (.slice A4 1 c4))) := (((HB.out.trans (HBT.out.mono (by omega))).trans (below_drewN (Below.refl _ wt) _)).trans (HB5.out.mono (by omega))).setCell (p := ⟨w1.heap.size + 1, 1, none⟩) (Nat.le_refl _) _
        have HHP6 : Hid ((w3.setCell ⟨w1.heap.size + 1, 1, none⟩ (.slice A4 1 c4)).heap[w1.heap.size + 1]? = some (.cells #[.slice A1 n c1, .slice A4 (Js ++ [t]).length c4] 25 (0, 0))) := by unfold Hid; rw [List.length_append, HLJ.out]; exact hsn.1
        have HKJ6 : Hid ((Js ++ [t]).map keyE = joinK ((Ss.take (i + 1)).map keyE)) := by unfold Hid; rw [HJK.out]; rw [hjn]; rfl
        have HOF6 : Hid (∀ x ∈ Js ++ [t], OfE Ss x) := fun x hx => by
          rcases List.mem_append.1 hx with h | h
          · exact HOF.out x h
          · rw [List.mem_singleton.1 h]; exact HOT.out
        have hlen6 : (Js ++ [t]).length ≤ i + 1 := by rw [List.length_append, HLJ.out]; first | (show _ + 1 ≤ _; omega) | (simp <;> omega)
        clear hsn
        go_roundw
        case rel => exact ⟨i + 1, Js ++ [t], A4, c4, by go_num, by omega, hlen6, HHP6, HOWN6, HKJ6, HOF6, HBF6⟩
        case measure => simp [intOf]; omega
      · obtain ⟨q, hq⟩ : ∃ q, N = q + 1 := ⟨N - 1, by omega⟩
        obtain ⟨Js0, z, hjz⟩ : ∃ Js0 z, Js = Js0 ++ [z] := ⟨Js.dropLast, Js.getLast (by intro e; have := HLJ.out; rw [e] at this; simp at this; omega), (List.dropLast_concat_getLast _).symm⟩
        have hl0 : Js0.length = q := by have := HLJ.out; rw [hjz] at this; simp at this; omega
        have hz : Js[q]? = some z := by rw [hjz, List.getElem?_append_right (by omega), hl0, Nat.sub_self]; rfl
        have HJZ := Lib.hid hjz
        obtain ⟨g2, rfl, hg2, hg2l⟩ := OwnE.block_ HOT2.out (by rw [HLJ.out]; exact hj0)
        obtain ⟨⟨d1, d2⟩, d3, d4⟩ := OwnE.cell_ HOT2.out hz
        obtain ⟨⟨y, hy, e1, e2, e3, e4⟩, hzv⟩ := HOF.out z (by rw [hjz]; simp)
        have HZV := Lib.hid hzv
        have hIz : Ints wt wt.heap.size z.A z.n z.cs := by rw [e1, e2, e4]; exact (((HNEW.out y hy).1.below (HB.out.mono (by omega))).below (HBT.out.mono (by omega))).more (by omega)
        have hIt : Ints wt wt.heap.size t.A t.n t.cs := ((HNT.out.1.below (HB.out.mono (by omega))).below (HBT.out.mono (by omega))).more (by omega)
        have hzn : z.n ≤ 4 := by rw [e2, HXN.out y hy]; exact hn4
        have hmx : Try.prog.follows .mixedOrders = true := by kernel_rfl
        have cQ := fun d os => Calls.regrown_of (equalI_bel z.A t.A z.n t.n z.c t.c z.cs t.cs (grow (redrawn wt d) os) ((hIz.below (below_regrown wt d os)).more (below_regrown wt d os).size) ((hIt.below (below_regrown wt d os)).more (below_regrown wt d os).size) (by omega) (by have := HTN.out; omega))
        have x1 := cell_regrown u1
        have x2 := cell_regrown d1
        have x3 := cell_regrown t0
        have eq1 : (N : Int) - 1 = (q : Int) := by omega
        have hqN : (q : Int) < (N : Int) := by omega
        have hq0 : (0 : Int) ≤ (q : Int) := by omega
        have hdq : decide ((0 : Int) ≤ (q : Int)) = true := decide_eq_true hq0
        have HZ := Lib.hid hz
        have HL0 := Lib.hid hl0
        have HEQ := Lib.hid hq
        clear hz hl0 hq hy e1 e2 e3 e4 hzv hIz hIt hjz
        by_cases hcs : z.cs = t.cs
        · rw [decide_eq_true hcs] at cQ
          have HCS := Lib.hid hcs
          clear hcs
          go_upto_region 8 with fail
          rw [HWE.out]
          go_wp2_with fail
          refine wp_region_quiet_below hmx (by kernel_rfl) ?_
          repeat (quiet_step (first | (go_at_call 48; with_reducible exact cQ _ _)))
          refine wpQuiet_nil ?_
          intro _ hw'
          obtain ⟨⟨dq, osq⟩, hw''⟩ := hw'
          subst hw''
          have hb5 := below_regrown wt dq osq
          obtain ⟨w5, hw5⟩ : ∃ w5, grow (redrawn wt dq) osq = w5 := ⟨_, rfl⟩
          have HO5 : Hid (OwnE w5 wB.heap.size (some ⟨g2, 0, none⟩) c3 Js) := by unfold Hid; rw [← hw5]; exact OwnE.below HOT2.out hb5 (Nat.le_refl _)
          rw [hw5] at hb5 ⊢
          have HW5 := Lib.hid hb5
          have rb5 := (hb5.block (w1.heap.size + 1) (by omega)).trans HBJT.out
          have rt5 := (hb5.block wr.heap.size hszt).trans HWT.out
          obtain ⟨k0, k1, _, _⟩ := pair_cells rb5
          obtain ⟨m0, m1, _, _⟩ := pair_cells rt5
          obtain ⟨⟨n1, n2⟩, n3, n4⟩ := OwnE.cell_ HO5.out HZ.out
          have HRB := Lib.hid rb5
          clear x1 x2 x3 u0 u1 uf0 uf1 d1 d2 d3 d4 t0 t1 cQ hw5 rb5 rt5
          go_wp2_with fail
          have hset := OwnE.setV HO5.out HZ.out (wrap64 (z.v + t.v))
          have hgs := grownBy_setE (grown_same w5 g2) (q * 2 + 1) (.int .i64 (wrap64 (z.v + t.v)))
          have HBJ6 : Hid ((w5.setCell ⟨g2, q * 2 + 1, none⟩ (.int .i64 (wrap64 (z.v + t.v)))).heap[w1.heap.size + 1]? = some (.cells #[.slice A1 n c1, .slice (some ⟨g2, 0, none⟩) N c3] 25 (0, 0))) := (hgs.block (w1.heap.size + 1) (lt_of_heap HRB.out) (by intro e; injection e with e; omega)).trans HRB.out
          have HOS := Lib.hid hset
          have HB6 : Hid (Below (w1.heap.size + 1) wB (w5.setCell ⟨g2, q * 2 + 1, none⟩ (.int .i64 (wrap64 (z.v + t.v))))) := ((HB.out.trans (HBT.out.mono (by omega))).trans (HW5.out.mono (by omega))).setCell (p := ⟨g2, q * 2 + 1, none⟩) (by show w1.heap.size + 1 ≤ g2; omega) _
          have HKJ6 : Hid ((Js.set q ⟨z.A, z.n, z.c, z.cs, wrap64 (z.v + t.v)⟩).map keyE = joinK ((Ss.take (i + 1)).map keyE)) := by
            unfold Hid
            rw [HJK.out, HJZ.out, List.set_append_right _ _ (by rw [HL0.out]; exact Nat.le_refl _), HL0.out, Nat.sub_self, List.set_cons_zero, List.map_append, List.map_append]
            exact (joinStep_same (L := Js0.map keyE) (z := keyE z) (t := keyE t) HCS.out).symm
          have HOF6 : Hid (∀ x ∈ Js.set q ⟨z.A, z.n, z.c, z.cs, wrap64 (z.v + t.v)⟩, OfE Ss x) := fun x hx => by
            rcases List.mem_or_eq_of_mem_set hx with h | h
            · exact HOF.out x h
            · rw [h]; exact ⟨(HOF.out z (List.mem_of_getElem? HZ.out)).1, wrap64_range _⟩
          have hlen6 : (Js.set q ⟨z.A, z.n, z.c, z.cs, wrap64 (z.v + t.v)⟩).length ≤ i + 1 := by rw [List.length_set, HLJ.out]; omega
          have HHP6 : Hid ((w5.setCell ⟨g2, q * 2 + 1, none⟩ (.int .i64 (wrap64 (z.v + t.v)))).heap[w1.heap.size + 1]? = some (.cells #[.slice A1 n c1, .slice (some ⟨g2, 0, none⟩) (Js.set q ⟨z.A, z.n, z.c, z.cs, wrap64 (z.v + t.v)⟩).length c3] 25 (0, 0))) := by unfold Hid; rw [List.length_set, HLJ.out]; exact HBJ6.out
          clear hset hgs
          go_region
          all_goals
            obtain ⟨w6, hw6⟩ : ∃ w6, w5.setCell ⟨g2, q * 2 + 1, none⟩ (.int .i64 (wrap64 (z.v + t.v))) = w6 := ⟨_, rfl⟩
            rw [hw6] at HOS HB6 HHP6 ⊢
            clear hw6 k0 k1 m0 m1 n1 n2 n3 n4
            go_wp2_with fail
            go_roundw
            case rel => exact ⟨i + 1, _, _, c3, by go_num, by omega, hlen6, HHP6, HOS, HKJ6, HOF6, Lib.hid HB6.out.drew⟩
            case measure => simp [intOf]; omega
        · rw [decide_eq_false hcs] at cQ
          have HCS := Lib.hid hcs
          clear hcs
          go_upto_region 8 with fail
          rw [HWE.out]
          go_wp2_with fail
          refine wp_region_quiet_below hmx (by kernel_rfl) ?_
          repeat (quiet_step (first | (go_at_call 48; with_reducible exact cQ _ _)))
          refine wpQuiet_nil ?_
          intro _ hw'
          obtain ⟨⟨dq, osq⟩, hw''⟩ := hw'
          subst hw''
          have hb5 := below_regrown wt dq osq
          obtain ⟨w5, hw5⟩ : ∃ w5, grow (redrawn wt dq) osq = w5 := ⟨_, rfl⟩
          have HO4' : Hid (OwnE w5 wB.heap.size (some ⟨g2, 0, none⟩) c3 Js) := by unfold Hid; rw [← hw5]; exact OwnE.below HOT2.out hb5 (Nat.le_refl _)
          rw [hw5] at hb5 ⊢
          have HW5 := Lib.hid hb5
          have hs5 : wB.heap.size ≤ w5.heap.size := by have := hb5.size; omega
          have rb5 := (hb5.block (w1.heap.size + 1) (by omega)).trans HBJT.out
          have rt5 := (hb5.block wr.heap.size hszt).trans HWT.out
          obtain ⟨k0, k1, _, _⟩ := pair_cells rb5
          obtain ⟨m0, m1, _, _⟩ := pair_cells rt5
          have HBJ5 := Lib.hid rb5
          have hne : ¬ (keyE z).1 = (keyE t).1 := HCS.out
          clear x1 x2 x3 u0 u1 uf0 uf1 d1 d2 d3 d4 t0 t1 cQ hw5 rb5 rt5
          go_wp2_with (at_builtin; refine wpList_appendEnt rfl (.tmp 61) (.tmp 63) rfl wB.heap.size (some ⟨g2, 0, none⟩) c3 N (N + 1) t Js rfl rfl HO4'.out HLJ.out rfl (by omega) hs5 ?_; intro A4 c4 w3 HO4 hb5; have HO5 := Lib.hid HO4; clear HO4; have rbj := (hb5.block (w1.heap.size + 1) (by omega)).trans HBJ5.out; obtain ⟨s0, s1, sf0, sf1⟩ := pair_cells rbj; have HRB := Lib.hid rbj; have HB5 := Lib.hid hb5; clear rbj hb5)
          have hsn := set_snd w3 (w1.heap.size + 1) _ _ (.slice A4 (N + 1 : Nat) c4) _ HRB.out
          have HOWN6 : Hid (OwnE (w3.setCell ⟨w1.heap.size + 1, 1, none⟩ (.slice A4 (N + 1 : Nat) c4)) wB.heap.size A4 c4 (Js ++ [t])) := World.ownsRow.kept HO5.out hsn.2 (rows_ne HO5.out HRB.out (by decide))
          have HBF6 : Hid (Below (w1.heap.size + 1) wB (w3.setCell ⟨w1.heap.size + 1, 1, none⟩ (.slice A4 (N + 1 : Nat) c4))) := (((HB.out.trans (HBT.out.mono (by omega))).trans (HW5.out.mono (by omega))).trans (HB5.out.mono (by omega))).setCell (p := ⟨w1.heap.size + 1, 1, none⟩) (Nat.le_refl _) _
          have HHP6 : Hid ((w3.setCell ⟨w1.heap.size + 1, 1, none⟩ (.slice A4 (N + 1 : Nat) c4)).heap[w1.heap.size + 1]? = some (.cells #[.slice A1 n c1, .slice A4 (Js ++ [t]).length c4] 25 (0, 0))) := by unfold Hid; rw [List.length_append, HLJ.out]; exact hsn.1
          have HKJ6 : Hid ((Js ++ [t]).map keyE = joinK ((Ss.take (i + 1)).map keyE)) := by unfold Hid; rw [HJK.out]; rw [HJZ.out, List.map_append, List.map_append]; exact (joinStep_other hne).symm
          have HOF6 : Hid (∀ x ∈ Js ++ [t], OfE Ss x) := fun x hx => by
            rcases List.mem_append.1 hx with h | h
            · exact HOF.out x h
            · rw [List.mem_singleton.1 h]; exact HOT.out
          have hlen6 : (Js ++ [t]).length ≤ i + 1 := by rw [List.length_append, HLJ.out]; first | (show _ + 1 ≤ _; omega) | (simp <;> omega)
          clear hsn
          go_roundw
          case rel => exact ⟨i + 1, Js ++ [t], A4, c4, by go_num, by omega, hlen6, HHP6, HOWN6, HKJ6, HOF6, HBF6⟩
          case measure => simp [intOf]; omega
    · obtain rfl : i = m := by omega
      have hrv := (HB.out.block (w.heap.size + 1) (by omega)).trans HQ2.out
      obtain ⟨v0, v1, vf0, vf1⟩ := pair_cells hrv
      have HRV2 := Lib.hid hrv
      obtain ⟨N, hN⟩ : ∃ N, Js.length = N := ⟨_, rfl⟩
      rw [hN] at p1
      have HNN := Lib.hid hN
      clear hrv hN
      go_wp2_with fail
      have hres := set_two wr (w.heap.size + 1) _ _ (.slice A1 n c1) (.slice A3 N c3) _ HRV2.out
      obtain ⟨s0, s1, _, _⟩ := pair_cells hres.1
      obtain ⟨wz, hwz⟩ : ∃ wz, (wr.setCell ⟨w.heap.size + 1, 0, none⟩ (.slice A1 n c1)).setCell ⟨w.heap.size + 1, 1, none⟩ (.slice A3 N c3) = wz := ⟨_, rfl⟩
      rw [hwz] at hres s0 s1 ⊢
      have hb5 := HB0.out.trans (HB.out.mono (by omega))
      refine bodyPost_ret (v := .tuple #[.agg #[.slice A1 n c1, .slice A3 N c3], .int .i64 0]) (by simp [results, Try.results16, go_sem, s0, s1]) rfl ⟨A1, c1, A3, c3, Js, by rw [HNN.out], ?_, ?_, ?_, hb5.grown hres.2 hb5.size (fun k hk => by injection hk with hk; omega)⟩
      · have q1 := HA1W.out.below (HYB.out.trans (HB.out.mono (by omega))) (Nat.le_refl _)
        exact OwnI.mono (w := wz) (base := (w.heap.size + 1 + 1)) ⟨by have q2 := q1.1.kept hres.2 (rows_ne q1.1 HRV2.out (by decide)); simpa using q2, q1.2⟩ (by omega)
      · rcases Nat.eq_zero_or_pos Js.length with hz | hz
        · exact .inl (List.eq_nil_of_length_eq_zero hz)
        · obtain ⟨g2, post2, rfl, hg2, hr2⟩ := OwnE.row HOJ.out hz
          have hlc2 : Js.length ≤ c3 := by
            rcases HOJ.out.2 with ⟨_, h1⟩ | ⟨g', cap, cur, h1, _, _, h4, _⟩
            · omega
            · injection h1 with _ _ h1; omega
          refine .inr ⟨g2, post2, rfl, by omega, (hres.2.block g2 hr2.lt (by intro e; injection e with e; omega)).trans hr2, fun x hx => ?_, hlc2⟩
          obtain ⟨⟨y, hy, e1, e2, e3, e4⟩, hvb⟩ := HOF.out x hx
          obtain ⟨n1, n2, n3, _⟩ := HNEW.out y hy
          have hI : Ints wr wr.heap.size x.A x.n x.cs := by rw [e1, e2, e4]; exact (n1.below (HB.out.mono (by omega))).more (by omega)
          have hne : NewE wr (w.heap.size + 2) g2 x := ⟨⟨hI, fun b off e => by rw [e1] at e; have := (n2 b off e).2.1; omega⟩, fun b off e => by
            rw [e1] at e
            obtain ⟨m1, m2, cs, t, m3⟩ := n2 b off e
            exact ⟨m1, by omega, cs, t, (HB.out.block b (by omega)).trans m3⟩, by rw [e2, e3]; exact n3, hvb⟩
          exact (hne.far hres.2 (by omega)).mono (by omega)
      · rw [HKJ.out, List.take_of_length_le (Nat.le_of_eq HSL.out), HKEY.out]
end Go.Proofs.Ytpfabbapfmfmmaa
