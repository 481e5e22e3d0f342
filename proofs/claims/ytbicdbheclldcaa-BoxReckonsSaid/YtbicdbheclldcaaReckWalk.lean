/- The walk of the law BoxReckons. -/
import Derived.Test.YtbicdbheclldcaaRefSum
namespace Go.Proofs.Ytbicdbheclldcaa
open Go.RowKit

section
variable {S V : List Int} {n m : Nat} {A B A2 B2 : Option Addr} {c e c2 e2 : Nat} {W : World} {E : Int}
def PPost (S V : List Int) (n' m' : Nat) (E : Int) (W : World) (x : Ending) (W' : World) : Prop := ∃ A1 c1 A3 c3, x = .returned (.tuple #[.agg #[.slice A1 n' c1, .slice A3 m' c3], .int .i64 E]) ∧
  Ints W' W'.heap.size A1 n' S ∧ Ints W' W'.heap.size A3 m' V ∧ OwnI W' W.heap.size 2 A3 c3 V ∧ Below W.heap.size W W'
theorem toP {f : FuncId} {args : Array Value} (hn : S.length = n) (hm : V.length = m) (h : Calls Try.prog f args W (SumPost W S V E)) : Calls Try.prog f args W (PPost S V n m E W) := by
  subst hn
  subst hm
  exact h.mono fun x W' ⟨A1, c1, A3, c3, h1, h2, h3, h4⟩ => ⟨A1, c1, A3, c3, h1, h2.ints, h3.ints, h3, h4⟩
def QPost (S V : List Int) (n' m' : Nat) (E : Int) (W : World) (x : Ending) (W' : World) : Prop := ∃ A1 c1 A3 c3 b, x = .returned (.tuple #[.agg #[.slice A1 n' c1, .slice A3 m' c3], .int .i64 E]) ∧
  W.heap.size = b ∧ OwnI W' b 3 A1 c1 S ∧ OwnI W' b 2 A3 c3 V ∧ Below b W W'
theorem toQ {f : FuncId} {args : Array Value} (hn : S.length = n) (hm : V.length = m) (h : Calls Try.prog f args W (SumPost W S V E)) : Calls Try.prog f args W (QPost S V n m E W) := by
  subst hn
  subst hm
  exact h.mono fun x W' ⟨A1, c1, A3, c3, h1, h2, h3, h4⟩ => ⟨A1, c1, A3, c3, _, h1, rfl, h2, h3, h4⟩
theorem eqT (hn : n ≤ 100000) (hm : m ≤ 100000) (i1 : Ints W W.heap.size A n S) (i2 : Ints W W.heap.size B m V) (i3 : Ints W W.heap.size A2 n S) (i4 : Ints W W.heap.size B2 m V) :
    Calls Try.prog 19 #[.agg #[.slice A n c, .slice B m e], .agg #[.slice A2 n c2, .slice B2 m e2]] W fun x W' => x = .returned (.bool true) ∧ Below W.heap.size W W' := by
  have := equals_any A B A2 B2 n c m e n c2 m e2 S V S V W i1 i2 i3 i4 hn hm (by omega) (by omega)
  simpa using this
end
theorem zer_set {V : List Int} {q : Nat} {v : Int} (hv : V[q]? = some v) : (List.replicate q 0 ++ V.drop q).set q 0 = List.replicate (q + 1) 0 ++ V.drop (q + 1) := by
  rw [drop_of hv, List.set_append_right _ _ (by simp), List.length_replicate, Nat.sub_self, List.set_cons_zero, List.replicate_succ', List.append_assoc]; rfl
theorem zer_get {V : List Int} {q : Nat} {v : Int} (hv : V[q]? = some v) : (List.replicate q 0 ++ V.drop q)[q]? = some v := by
  rw [drop_of hv, List.getElem?_append_right (by simp)]; simp
theorem zero_form {w : World} {b c : Nat} {e : TypeId} {A : Option Addr} {V : List Int} (h : OwnI w b e A c V) : OwnI w b e A c (List.replicate 0 0 ++ V.drop 0) := by simpa using h
theorem len_if {E : Int} {l : List Int} (h : l.length ≤ 100000) : (if E = 0 then l else []).length ≤ 100000 := by
  split
  · exact h
  · simp
theorem uPastR {w : World} {g : Nat} {o : Obj} (X : Obj) (hg : w.heap[g]? = some o) : (w.alloc X).heap[g]? = some o := (Below.heap_alloc w X g (Array.getElem?_eq_some_iff.1 hg).1).trans hg
theorem uFarR {w : World} {g g' : Nat} {o : Obj} (a b : Value) (hne : g ≠ g') (hg : w.heap[g]? = some o) : ((w.setCell ⟨g', 0, none⟩ a).setCell ⟨g', 1, none⟩ b).heap[g]? = some o :=
  (Below.heap_setCell _ _ _ g (fun e => hne e)).trans ((Below.heap_setCell _ _ _ g (fun e => hne e)).trans hg)
theorem iFarR {w : World} {n g : Nat} {A : Option Addr} {xs : List Int} {a0 a1 : Option Addr} {n0 n1 c0 c1 : Nat} {t : TypeId} (a b : Value) (hg : w.heap[g]? = some (.cells #[.slice a0 n0 c0, .slice a1 n1 c1] t (0, 0))) (h : Ints w w.heap.size A n xs) :
    Ints ((w.setCell ⟨g, 0, none⟩ a).setCell ⟨g, 1, none⟩ b) ((w.setCell ⟨g, 0, none⟩ a).setCell ⟨g, 1, none⟩ b).heap.size A n xs := by
  have := h.off2 hg a b; simpa using this
set_option maxRecDepth 100000 in
set_option maxHeartbeats 10000000 in
theorem reck_any (w : World) (A : Option Addr) (n c : Nat) (B : Option Addr) (m e : Nat) (xs ys : List Int) (h : Ints w w.heap.size A n xs) (hn : n ≤ 9223372036854775807) (hv : Ints w w.heap.size B m ys) (hm : m ≤ 9223372036854775807) (hnc : n ≤ c) (_ : m ≤ e)
    (A2 : Option Addr) (n2 c2 : Nat) (B2 : Option Addr) (m2 e2 : Nat) (xs2 ys2 : List Int) (h2 : Ints w w.heap.size A2 n2 xs2) (hn2 : n2 ≤ 9223372036854775807) (hv2 : Ints w w.heap.size B2 m2 ys2) (_ : m2 ≤ 9223372036854775807) (_ : n2 ≤ c2) (_ : m2 ≤ e2)
    (z : Int) (_ : -9223372036854775808 ≤ z) (_ : z ≤ 9223372036854775807) (mo : Int) (_ : -9223372036854775808 ≤ mo) (_ : mo ≤ 9223372036854775807) :
    Calls Try.prog 3 #[.agg #[.slice A n c, .slice B m e], .agg #[.slice A2 n2 c2, .slice B2 m2 e2], .int .i64 z, .int .i64 mo] w fun e w' => e = .returned (.bool true) ∧ Below w.heap.size w w' := by
  have hL := fun W => live_any W
  have hW := fun W => few_two ⟨A, n, c, B, m, e⟩ ⟨A2, n2, c2, B2, m2, e2⟩ W
  dsimp only at hW
  have hB0 : Below w.heap.size w ((w.alloc (.cells #[.slice A n c, .slice B m e] 25)).alloc (.cells #[.slice A2 n2 c2, .slice B2 m2 e2] 25)) := below_two w _ _
  have z0 := zf_two w (.cells #[.slice A n c, .slice B m e] 25) (.cells #[.slice A2 n2 c2, .slice B2 m2 e2] 25)
  have z1 := zf_snd w (.cells #[.slice A2 n2 c2, .slice B2 m2 e2] 25) (.cells #[.slice A n c, .slice B m e] 25)
  obtain ⟨fw, hfw⟩ : ∃ fw, fewF [⟨A, n, c, B, m, e⟩, ⟨A2, n2, c2, B2, m2, e2⟩] = fw := ⟨_, rfl⟩
  rw [hfw] at hW
  cases fw with
  | false =>
    clear hfw
    go_enter Try.func3, Try.ntmps3
    go_wp2_with (first | (go_at_call 15; refine (hL _).mono ?_; rintro x w1 ⟨rfl, hb1⟩; have u0 := dKeep hb1 z0; have u1 := dKeep hb1 z1; have hT := hB0.trans (hb1.mono hB0.size); obtain ⟨k0, k1, _, _⟩ := dCells u0; obtain ⟨k2, k3, _, _⟩ := dCells u1) | (go_at_call 16; refine (hW _).mono ?_; rintro x w3 ⟨rfl, hb3⟩; replace u0 := keepFew hb3 u0; replace u1 := keepFew hb3 u1; replace hT := belowFew hT hT.size hb3; clear k0 k1 k2 k3; obtain ⟨k0, k1, _, _⟩ := dCells u0; obtain ⟨k2, k3, _, _⟩ := dCells u1))
    go_ret
    exact ⟨rfl, hT⟩
  | true =>
    have hfw' : (n ≤ 20 ∧ m ≤ 70000) ∧ n2 ≤ 20 ∧ m2 ≤ 70000 := by simpa [fewF] using hfw
    obtain ⟨⟨q1, q2⟩, q3, q4⟩ := hfw'
    have HL := Lib.hid h.1
    have HL2 := Lib.hid hv.1
    have HL3 := Lib.hid hv2.1
    obtain ⟨i0, hi0, hz0, hz1, hz2⟩ := info_parts infoInt64
    obtain ⟨EA, hEA⟩ : ∃ E, twoF xs m xs2 m2 = E := ⟨_, rfl⟩
    obtain ⟨SA, hSA⟩ : ∃ S, (if EA = 0 then xs else []) = S := ⟨_, rfl⟩
    obtain ⟨VA, hVA⟩ : ∃ S, (if EA = 0 then addL ys ys2 else []) = S := ⟨_, rfl⟩
    obtain ⟨nA, hnA⟩ : ∃ k, SA.length = k := ⟨_, rfl⟩
    obtain ⟨mA, hmA⟩ : ∃ k, VA.length = k := ⟨_, rfl⟩
    have bnA : nA ≤ 100000 := by rw [← hnA, ← hSA]; exact len_if (by rw [HL.out]; omega)
    have dmA : mA ≤ 100000 := by rw [← hmA, ← hVA]; exact len_if (by rw [show (addL ys ys2).length = min ys.length ys2.length from by simp [addL], HL2.out, HL3.out]; omega)
    obtain ⟨EM, hEM⟩ : ∃ E, twoF xs m xs2 m2 = E := ⟨_, rfl⟩
    obtain ⟨SM, hSM⟩ : ∃ S, (if EM = 0 then xs else []) = S := ⟨_, rfl⟩
    obtain ⟨VM, hVM⟩ : ∃ S, (if EM = 0 then mulL ys ys2 else []) = S := ⟨_, rfl⟩
    obtain ⟨nM, hnM⟩ : ∃ k, SM.length = k := ⟨_, rfl⟩
    obtain ⟨mM, hmM⟩ : ∃ k, VM.length = k := ⟨_, rfl⟩
    have bnM : nM ≤ 100000 := by rw [← hnM, ← hSM]; exact len_if (by rw [HL.out]; omega)
    have dmM : mM ≤ 100000 := by rw [← hmM, ← hVM]; exact len_if (by rw [show (mulL ys ys2).length = min ys.length ys2.length from by simp [mulL], HL2.out, HL3.out]; omega)
    obtain ⟨EC, hEC⟩ : ∃ E, checkF xs m = E := ⟨_, rfl⟩
    obtain ⟨SC, hSC⟩ : ∃ S, (if EC = 0 then xs else []) = S := ⟨_, rfl⟩
    obtain ⟨VC, hVC⟩ : ∃ S, (if EC = 0 then byL z ys else []) = S := ⟨_, rfl⟩
    obtain ⟨nC, hnC⟩ : ∃ k, SC.length = k := ⟨_, rfl⟩
    obtain ⟨mC, hmC⟩ : ∃ k, VC.length = k := ⟨_, rfl⟩
    have bnC : nC ≤ 100000 := by rw [← hnC, ← hSC]; exact len_if (by rw [HL.out]; omega)
    have dmC : mC ≤ 100000 := by rw [← hmC, ← hVC]; exact len_if (by rw [byL_length, HL2.out]; omega)
    obtain ⟨ES, hES⟩ : ∃ E, sumEF xs m mo = E := ⟨_, rfl⟩
    obtain ⟨SS, hSS⟩ : ∃ S, (if ES = 0 then xs.eraseIdx mo.toNat else []) = S := ⟨_, rfl⟩
    obtain ⟨VS, hVS⟩ : ∃ S, (if ES = 0 then sumV xs mo.toNat ys else []) = S := ⟨_, rfl⟩
    obtain ⟨nS, hnS⟩ : ∃ k, SS.length = k := ⟨_, rfl⟩
    obtain ⟨mS, hmS⟩ : ∃ k, VS.length = k := ⟨_, rfl⟩
    have bnS : nS ≤ 100000 := by rw [← hnS, ← hSS]; exact len_if (by have := List.length_eraseIdx_le xs mo.toNat; rw [HL.out] at this; omega)
    have dmS : mS ≤ 100000 := by rw [← hmS, ← hVS]; exact len_if (by rw [sumV_length]; have := laidF_le (xs.eraseIdx mo.toNat); omega)
    have PA := fun (W : World) (hb : Below w.heap.size w W) => toP hnA hmA (by have := add_any A B A2 B2 n c m e n2 c2 m2 e2 xs xs2 ys ys2 W ((h.below hb).more hb.size) ((hv.below hb).more hb.size) ((h2.below hb).more hb.size) ((hv2.below hb).more hb.size) hn hn2; rwa [hEA, hSA, hVA] at this)
    have PA' := fun (W : World) (hb : Below w.heap.size w W) => toP hnA hmA (by have := refAdd_any A B A2 B2 n c m e n2 c2 m2 e2 xs xs2 ys ys2 W ((h.below hb).more hb.size) ((hv.below hb).more hb.size) ((h2.below hb).more hb.size) ((hv2.below hb).more hb.size) hn hn2; rwa [hEA, hSA, hVA] at this)
    have PM := fun (W : World) (hb : Below w.heap.size w W) => toP hnM hmM (by have := mul_any A B A2 B2 n c m e n2 c2 m2 e2 xs xs2 ys ys2 W ((h.below hb).more hb.size) ((hv.below hb).more hb.size) ((h2.below hb).more hb.size) ((hv2.below hb).more hb.size) hn hn2; rwa [hEM, hSM, hVM] at this)
    have PM' := fun (W : World) (hb : Below w.heap.size w W) => toP hnM hmM (by have := refMul_any A B A2 B2 n c m e n2 c2 m2 e2 xs xs2 ys ys2 W ((h.below hb).more hb.size) ((hv.below hb).more hb.size) ((h2.below hb).more hb.size) ((hv2.below hb).more hb.size) hn hn2; rwa [hEM, hSM, hVM] at this)
    have PC := fun (W : World) (hb : Below w.heap.size w W) => toP hnC hmC (by have := scale_any A B n c m e z xs ys W ((h.below hb).more hb.size) ((hv.below hb).more hb.size) hn; rwa [hEC, hSC, hVC] at this)
    have PC' := fun (W : World) (hb : Below w.heap.size w W) => toP hnC hmC (by have := refScale_any A B n c m e z xs ys W ((h.below hb).more hb.size) ((hv.below hb).more hb.size) hn; rwa [hEC, hSC, hVC] at this)
    have PS := fun (W : World) (hb : Below w.heap.size w W) => toQ hnS hmS (by have := sum_any A B n c m e mo xs ys W ((h.below hb).more hb.size) ((hv.below hb).more hb.size) hn hnc hm; rwa [hES, hSS, hVS] at this)
    have PS' := fun (W : World) (hb : Below w.heap.size w W) => toQ hnS hmS (by have := refSum_any A B n c m e mo xs ys W ((h.below hb).more hb.size) ((hv.below hb).more hb.size) hn hnc hm; rwa [hES, hSS, hVS] at this)
    clear hEA hSA hVA hnA hEM hSM hVM hnM hEC hSC hVC hnC hES hSS hVS hmA hmM hmC hfw
    have HMS := Lib.hid hmS
    have HNS := Lib.hid hnS
    clear hmS hnS
    go_enter Try.func3, Try.ntmps3
    go_wp2_with (first | (go_at_call 15; refine (hL _).mono ?_; rintro x w1 ⟨rfl, hb1⟩; have u0 := dKeep hb1 z0; have u1 := dKeep hb1 z1; have hT := hB0.trans (hb1.mono hB0.size); obtain ⟨k0, k1, _, _⟩ := dCells u0; obtain ⟨k2, k3, _, _⟩ := dCells u1) | (go_at_call 16; refine (hW _).mono ?_; rintro x w3 ⟨rfl, hb3⟩; replace u0 := keepFew hb3 u0; replace u1 := keepFew hb3 u1; replace hT := belowFew hT hT.size hb3; clear k0 k1 k2 k3; obtain ⟨k0, k1, _, _⟩ := dCells u0; obtain ⟨k2, k3, _, _⟩ := dCells u1) | (at_builtin; refine wpList_appendInts _ rfl (.const (.slice none 0 0)) (.tmp 24) 23 rfl w.heap.size 2 i0 Try.underlying23 hi0 hz0 hz1 hz2 none B 0 m e w.heap.size 0 m [] ys rfl rfl (OwnI.nil_ _ _ _) rfl (Nat.zero_add _) (hv.below hT) (by omega) hT.size ?_; intro A10 c10 w10 HO10 HG10; have hb10 := below_of_none HG10; rw [List.nil_append] at HO10; have IW := HO10.ints; rw [HL2.out] at IW; replace u0 := dKeep hb10 u0; replace u1 := dKeep hb10 u1; replace hT := hT.trans (hb10.mono hT.size); clear k0 k1 k2 k3; obtain ⟨k0, k1, _, _⟩ := dCells u0; obtain ⟨k2, k3, _, _⟩ := dCells u1))
    have IA := (h.below hT).more hT.size
    have IB := (hv.below hT).more hT.size
    clear k0 k1 k2 k3 HG10 hb1 hb3 hb10 z0 z1 hB0 hL hW
    refine (PA _ hT).mono ?_
    rintro x w1 ⟨A1, c1, B1, e1, rfl, I1, J1, _, hb1⟩
    replace IA := (IA.below hb1).more hb1.size
    replace IB := (IB.below hb1).more hb1.size
    replace IW := (IW.below hb1).more hb1.size
    replace u0 := dKeep hb1 u0
    replace u1 := dKeep hb1 u1
    replace hT := hT.trans (hb1.mono hT.size)
    clear hb1
    have z1a : w.heap.size < w1.heap.size := (Array.getElem?_eq_some_iff.1 u0).1
    have z1b : w.heap.size + 1 < w1.heap.size := (Array.getElem?_eq_some_iff.1 u1).1
    obtain ⟨xa, ya, fa, ra⟩ := dCells (u0)
    have ma := fun o => cellPast o xa
    have pa := fun o => cellPast o ya
    obtain ⟨xb, yb, fb, rb⟩ := dCells (u1)
    have mb := fun o => cellPast o xb
    have pb := fun o => cellPast o yb
    go_wp2_with fail
    clear xa ya fa ra xb yb fb rb ma pa mb pb
    replace IA := IA.alloc' (.cells #[.slice A1 nA c1, .slice B1 mA e1] 25)
    replace IB := IB.alloc' (.cells #[.slice A1 nA c1, .slice B1 mA e1] 25)
    replace IW := IW.alloc' (.cells #[.slice A1 nA c1, .slice B1 mA e1] 25)
    replace I1 := I1.alloc' (.cells #[.slice A1 nA c1, .slice B1 mA e1] 25)
    replace J1 := J1.alloc' (.cells #[.slice A1 nA c1, .slice B1 mA e1] 25)
    replace u0 := uPastR (.cells #[.slice A1 nA c1, .slice B1 mA e1] 25) u0
    replace u1 := uPastR (.cells #[.slice A1 nA c1, .slice B1 mA e1] 25) u1
    replace hT := hT.alloc hT.size (.cells #[.slice A1 nA c1, .slice B1 mA e1] 25)
    have bx1 := heap_alloc_new w1 (.cells #[.slice A1 nA c1, .slice B1 mA e1] 25)
    refine (PA' _ hT).mono ?_
    rintro x w2 ⟨A2, c2, B2, e2, rfl, I2, J2, _, hb2⟩
    replace IA := (IA.below hb2).more hb2.size
    replace IB := (IB.below hb2).more hb2.size
    replace IW := (IW.below hb2).more hb2.size
    replace I1 := (I1.below hb2).more hb2.size
    replace J1 := (J1.below hb2).more hb2.size
    replace u0 := dKeep hb2 u0
    replace u1 := dKeep hb2 u1
    replace bx1 := dKeep hb2 bx1
    replace hT := hT.trans (hb2.mono hT.size)
    clear hb2
    have z2a : w.heap.size < w2.heap.size := (Array.getElem?_eq_some_iff.1 u0).1
    have z2b : w.heap.size + 1 < w2.heap.size := (Array.getElem?_eq_some_iff.1 u1).1
    have z2x : w1.heap.size < w2.heap.size := (Array.getElem?_eq_some_iff.1 bx1).1
    obtain ⟨xx, yx, fx, rx⟩ := dCells (bx1)
    have mx := fun o => cellPast o xx
    have px := fun o => cellPast o yx
    go_wp2_with fail
    clear xx yx fx rx mx px
    replace IA := IA.alloc' (.cells #[.slice A2 nA c2, .slice B2 mA e2] 25)
    replace IB := IB.alloc' (.cells #[.slice A2 nA c2, .slice B2 mA e2] 25)
    replace IW := IW.alloc' (.cells #[.slice A2 nA c2, .slice B2 mA e2] 25)
    replace I1 := I1.alloc' (.cells #[.slice A2 nA c2, .slice B2 mA e2] 25)
    replace J1 := J1.alloc' (.cells #[.slice A2 nA c2, .slice B2 mA e2] 25)
    replace I2 := I2.alloc' (.cells #[.slice A2 nA c2, .slice B2 mA e2] 25)
    replace J2 := J2.alloc' (.cells #[.slice A2 nA c2, .slice B2 mA e2] 25)
    replace u0 := uPastR (.cells #[.slice A2 nA c2, .slice B2 mA e2] 25) u0
    replace u1 := uPastR (.cells #[.slice A2 nA c2, .slice B2 mA e2] 25) u1
    replace bx1 := uPastR (.cells #[.slice A2 nA c2, .slice B2 mA e2] 25) bx1
    replace hT := hT.alloc hT.size (.cells #[.slice A2 nA c2, .slice B2 mA e2] 25)
    have bx2 := heap_alloc_new w2 (.cells #[.slice A2 nA c2, .slice B2 mA e2] 25)
    refine (eqT bnA dmA I1 J1 I2 J2).mono ?_
    rintro x w20 ⟨rfl, hb20⟩
    replace IA := (IA.below hb20).more hb20.size
    replace IB := (IB.below hb20).more hb20.size
    replace IW := (IW.below hb20).more hb20.size
    replace I1 := (I1.below hb20).more hb20.size
    replace J1 := (J1.below hb20).more hb20.size
    replace I2 := (I2.below hb20).more hb20.size
    replace J2 := (J2.below hb20).more hb20.size
    replace u0 := dKeep hb20 u0
    replace u1 := dKeep hb20 u1
    replace bx1 := dKeep hb20 bx1
    replace bx2 := dKeep hb20 bx2
    replace hT := hT.trans (hb20.mono hT.size)
    clear hb20
    clear I1 J1 I2 J2
    obtain ⟨xa, ya, fa, ra⟩ := dCells u0
    obtain ⟨xb, yb, fb, rb⟩ := dCells u1
    go_wp2_with fail
    clear xa ya fa ra xb yb fb rb
    refine (PM _ hT).mono ?_
    rintro x w3 ⟨A3, c3, B3, e3, rfl, I3, J3, O3, hb3⟩
    replace IA := (IA.below hb3).more hb3.size
    replace IB := (IB.below hb3).more hb3.size
    replace IW := (IW.below hb3).more hb3.size
    replace u0 := dKeep hb3 u0
    replace u1 := dKeep hb3 u1
    replace bx1 := dKeep hb3 bx1
    replace bx2 := dKeep hb3 bx2
    replace hT := hT.trans (hb3.mono hT.size)
    clear hb3
    obtain ⟨xO, yO, fO, rO⟩ := dCells bx1
    obtain ⟨xa, ya, fa, ra⟩ := dCells (uFarR (.slice A3 nM c3) (.slice B3 mM e3) (show w.heap.size ≠ w1.heap.size by omega) u0)
    obtain ⟨xb, yb, fb, rb⟩ := dCells (uFarR (.slice A3 nM c3) (.slice B3 mM e3) (show w.heap.size + 1 ≠ w1.heap.size by omega) u1)
    go_wp2_with fail
    clear xO yO fO rO xa ya fa ra xb yb fb rb
    replace IA := iFarR (.slice A3 nM c3) (.slice B3 mM e3) bx1 IA
    replace IB := iFarR (.slice A3 nM c3) (.slice B3 mM e3) bx1 IB
    replace IW := iFarR (.slice A3 nM c3) (.slice B3 mM e3) bx1 IW
    replace I3 := iFarR (.slice A3 nM c3) (.slice B3 mM e3) bx1 I3
    replace J3 := iFarR (.slice A3 nM c3) (.slice B3 mM e3) bx1 J3
    replace u0 := uFarR (.slice A3 nM c3) (.slice B3 mM e3) (show w.heap.size ≠ w1.heap.size by omega) u0
    replace u1 := uFarR (.slice A3 nM c3) (.slice B3 mM e3) (show w.heap.size + 1 ≠ w1.heap.size by omega) u1
    replace bx2 := uFarR (.slice A3 nM c3) (.slice B3 mM e3) (show w2.heap.size ≠ w1.heap.size by omega) bx2
    replace bx1 := set_both (a := .slice A3 nM c3) (b := .slice B3 mM e3) bx1
    replace hT := (hT.setCell (p := ⟨w1.heap.size, 0, none⟩) (by show w.heap.size ≤ w1.heap.size; omega) (.slice A3 nM c3)).setCell (p := ⟨w1.heap.size, 1, none⟩) (by show w.heap.size ≤ w1.heap.size; omega) (.slice B3 mM e3)
    refine (PM' _ hT).mono ?_
    rintro x w4 ⟨A4, c4, B4, e4, rfl, I4, J4, O4, hb4⟩
    replace IA := (IA.below hb4).more hb4.size
    replace IB := (IB.below hb4).more hb4.size
    replace IW := (IW.below hb4).more hb4.size
    replace I3 := (I3.below hb4).more hb4.size
    replace J3 := (J3.below hb4).more hb4.size
    replace u0 := dKeep hb4 u0
    replace u1 := dKeep hb4 u1
    replace bx1 := dKeep hb4 bx1
    replace bx2 := dKeep hb4 bx2
    replace hT := hT.trans (hb4.mono hT.size)
    clear hb4
    obtain ⟨xO, yO, fO, rO⟩ := dCells bx2
    obtain ⟨xx, yx, fx, rx⟩ := dCells (uFarR (.slice A4 nM c4) (.slice B4 mM e4) (show w1.heap.size ≠ w2.heap.size by omega) bx1)
    obtain ⟨xy, yy, fy, ry⟩ := dCells (set_both (a := .slice A4 nM c4) (b := .slice B4 mM e4) bx2)
    go_wp2_with fail
    clear xO yO fO rO xx yx fx rx xy yy fy ry
    replace IA := iFarR (.slice A4 nM c4) (.slice B4 mM e4) bx2 IA
    replace IB := iFarR (.slice A4 nM c4) (.slice B4 mM e4) bx2 IB
    replace IW := iFarR (.slice A4 nM c4) (.slice B4 mM e4) bx2 IW
    replace I3 := iFarR (.slice A4 nM c4) (.slice B4 mM e4) bx2 I3
    replace J3 := iFarR (.slice A4 nM c4) (.slice B4 mM e4) bx2 J3
    replace I4 := iFarR (.slice A4 nM c4) (.slice B4 mM e4) bx2 I4
    replace J4 := iFarR (.slice A4 nM c4) (.slice B4 mM e4) bx2 J4
    replace u0 := uFarR (.slice A4 nM c4) (.slice B4 mM e4) (show w.heap.size ≠ w2.heap.size by omega) u0
    replace u1 := uFarR (.slice A4 nM c4) (.slice B4 mM e4) (show w.heap.size + 1 ≠ w2.heap.size by omega) u1
    replace bx1 := uFarR (.slice A4 nM c4) (.slice B4 mM e4) (show w1.heap.size ≠ w2.heap.size by omega) bx1
    replace bx2 := set_both (a := .slice A4 nM c4) (b := .slice B4 mM e4) bx2
    replace hT := (hT.setCell (p := ⟨w2.heap.size, 0, none⟩) (by show w.heap.size ≤ w2.heap.size; omega) (.slice A4 nM c4)).setCell (p := ⟨w2.heap.size, 1, none⟩) (by show w.heap.size ≤ w2.heap.size; omega) (.slice B4 mM e4)
    refine (eqT bnM dmM I3 J3 I4 J4).mono ?_
    rintro x w21 ⟨rfl, hb21⟩
    replace IA := (IA.below hb21).more hb21.size
    replace IB := (IB.below hb21).more hb21.size
    replace IW := (IW.below hb21).more hb21.size
    replace I3 := (I3.below hb21).more hb21.size
    replace J3 := (J3.below hb21).more hb21.size
    replace I4 := (I4.below hb21).more hb21.size
    replace J4 := (J4.below hb21).more hb21.size
    replace u0 := dKeep hb21 u0
    replace u1 := dKeep hb21 u1
    replace bx1 := dKeep hb21 bx1
    replace bx2 := dKeep hb21 bx2
    replace hT := hT.trans (hb21.mono hT.size)
    clear hb21
    clear I3 J3 I4 J4
    obtain ⟨xa, ya, fa, ra⟩ := dCells u0
    go_wp2_with fail
    clear xa ya fa ra
    refine (PC _ hT).mono ?_
    rintro x w5 ⟨A5, c5, B5, e5, rfl, I5, J5, O5, hb5⟩
    replace IA := (IA.below hb5).more hb5.size
    replace IB := (IB.below hb5).more hb5.size
    replace IW := (IW.below hb5).more hb5.size
    replace u0 := dKeep hb5 u0
    replace u1 := dKeep hb5 u1
    replace bx1 := dKeep hb5 bx1
    replace bx2 := dKeep hb5 bx2
    replace hT := hT.trans (hb5.mono hT.size)
    clear hb5
    obtain ⟨xO, yO, fO, rO⟩ := dCells bx1
    obtain ⟨xa, ya, fa, ra⟩ := dCells (uFarR (.slice A5 nC c5) (.slice B5 mC e5) (show w.heap.size ≠ w1.heap.size by omega) u0)
    go_wp2_with fail
    clear xO yO fO rO xa ya fa ra
    replace IA := iFarR (.slice A5 nC c5) (.slice B5 mC e5) bx1 IA
    replace IB := iFarR (.slice A5 nC c5) (.slice B5 mC e5) bx1 IB
    replace IW := iFarR (.slice A5 nC c5) (.slice B5 mC e5) bx1 IW
    replace I5 := iFarR (.slice A5 nC c5) (.slice B5 mC e5) bx1 I5
    replace J5 := iFarR (.slice A5 nC c5) (.slice B5 mC e5) bx1 J5
    replace u0 := uFarR (.slice A5 nC c5) (.slice B5 mC e5) (show w.heap.size ≠ w1.heap.size by omega) u0
    replace u1 := uFarR (.slice A5 nC c5) (.slice B5 mC e5) (show w.heap.size + 1 ≠ w1.heap.size by omega) u1
    replace bx2 := uFarR (.slice A5 nC c5) (.slice B5 mC e5) (show w2.heap.size ≠ w1.heap.size by omega) bx2
    replace bx1 := set_both (a := .slice A5 nC c5) (b := .slice B5 mC e5) bx1
    replace hT := (hT.setCell (p := ⟨w1.heap.size, 0, none⟩) (by show w.heap.size ≤ w1.heap.size; omega) (.slice A5 nC c5)).setCell (p := ⟨w1.heap.size, 1, none⟩) (by show w.heap.size ≤ w1.heap.size; omega) (.slice B5 mC e5)
    refine (PC' _ hT).mono ?_
    rintro x w6 ⟨A6, c6, B6, e6, rfl, I6, J6, O6, hb6⟩
    replace IA := (IA.below hb6).more hb6.size
    replace IB := (IB.below hb6).more hb6.size
    replace IW := (IW.below hb6).more hb6.size
    replace I5 := (I5.below hb6).more hb6.size
    replace J5 := (J5.below hb6).more hb6.size
    replace u0 := dKeep hb6 u0
    replace u1 := dKeep hb6 u1
    replace bx1 := dKeep hb6 bx1
    replace bx2 := dKeep hb6 bx2
    replace hT := hT.trans (hb6.mono hT.size)
    clear hb6
    obtain ⟨xO, yO, fO, rO⟩ := dCells bx2
    obtain ⟨xx, yx, fx, rx⟩ := dCells (uFarR (.slice A6 nC c6) (.slice B6 mC e6) (show w1.heap.size ≠ w2.heap.size by omega) bx1)
    obtain ⟨xy, yy, fy, ry⟩ := dCells (set_both (a := .slice A6 nC c6) (b := .slice B6 mC e6) bx2)
    go_wp2_with fail
    clear xO yO fO rO xx yx fx rx xy yy fy ry
    replace IA := iFarR (.slice A6 nC c6) (.slice B6 mC e6) bx2 IA
    replace IB := iFarR (.slice A6 nC c6) (.slice B6 mC e6) bx2 IB
    replace IW := iFarR (.slice A6 nC c6) (.slice B6 mC e6) bx2 IW
    replace I5 := iFarR (.slice A6 nC c6) (.slice B6 mC e6) bx2 I5
    replace J5 := iFarR (.slice A6 nC c6) (.slice B6 mC e6) bx2 J5
    replace I6 := iFarR (.slice A6 nC c6) (.slice B6 mC e6) bx2 I6
    replace J6 := iFarR (.slice A6 nC c6) (.slice B6 mC e6) bx2 J6
    replace u0 := uFarR (.slice A6 nC c6) (.slice B6 mC e6) (show w.heap.size ≠ w2.heap.size by omega) u0
    replace u1 := uFarR (.slice A6 nC c6) (.slice B6 mC e6) (show w.heap.size + 1 ≠ w2.heap.size by omega) u1
    replace bx1 := uFarR (.slice A6 nC c6) (.slice B6 mC e6) (show w1.heap.size ≠ w2.heap.size by omega) bx1
    replace bx2 := set_both (a := .slice A6 nC c6) (b := .slice B6 mC e6) bx2
    replace hT := (hT.setCell (p := ⟨w2.heap.size, 0, none⟩) (by show w.heap.size ≤ w2.heap.size; omega) (.slice A6 nC c6)).setCell (p := ⟨w2.heap.size, 1, none⟩) (by show w.heap.size ≤ w2.heap.size; omega) (.slice B6 mC e6)
    refine (eqT bnC dmC I5 J5 I6 J6).mono ?_
    rintro x w22 ⟨rfl, hb22⟩
    replace IA := (IA.below hb22).more hb22.size
    replace IB := (IB.below hb22).more hb22.size
    replace IW := (IW.below hb22).more hb22.size
    replace I5 := (I5.below hb22).more hb22.size
    replace J5 := (J5.below hb22).more hb22.size
    replace I6 := (I6.below hb22).more hb22.size
    replace J6 := (J6.below hb22).more hb22.size
    replace u0 := dKeep hb22 u0
    replace u1 := dKeep hb22 u1
    replace bx1 := dKeep hb22 bx1
    replace bx2 := dKeep hb22 bx2
    replace hT := hT.trans (hb22.mono hT.size)
    clear hb22
    clear I5 J5 I6 J6
    obtain ⟨xa, ya, fa, ra⟩ := dCells u0
    go_wp2_with fail
    clear xa ya fa ra
    clear IA
    clear IB
    clear u1
    refine (PS _ hT).mono ?_
    rintro x wS1 ⟨AS1, cS1, BS1, eS1, b1, rfl, hs1, P1, Q1, hb1⟩
    have l1a : w.heap.size < b1 := by rw [← hs1]; exact (Array.getElem?_eq_some_iff.1 u0).1
    have l1x : w1.heap.size < b1 := by rw [← hs1]; exact (Array.getElem?_eq_some_iff.1 bx1).1
    have l1y : w2.heap.size < b1 := by rw [← hs1]; exact (Array.getElem?_eq_some_iff.1 bx2).1
    have hw1 := hb1
    rw [← hs1] at hw1
    have KW := IW
    rw [hs1] at KW
    replace KW := KW.below hb1
    clear IW
    have G1 : 0 < mS → ∃ g, BS1 = some ⟨g, 0, none⟩ ∧ b1 ≤ g ∧ g < wS1.heap.size := fun h0 => Q1.some_ (by rw [HMS.out]; exact h0)
    replace u0 := dKeep hw1 u0
    replace bx1 := dKeep hw1 bx1
    replace bx2 := dKeep hw1 bx2
    replace hT := hT.trans (hw1.mono hT.size)
    have hz1 := hw1.size
    clear hw1 hb1
    obtain ⟨xO, yO, fO, rO⟩ := dCells bx1
    obtain ⟨xa, ya, fa, ra⟩ := dCells (uFarR (.slice AS1 nS cS1) (.slice BS1 mS eS1) (show w.heap.size ≠ w1.heap.size by omega) u0)
    go_wp2_with fail
    clear xO yO fO rO xa ya fa ra
    replace KW := KW.off2 bx1 (.slice AS1 nS cS1) (.slice BS1 mS eS1)
    replace P1 := (P1.far l1x 0 (.slice AS1 nS cS1)).far l1x 1 (.slice BS1 mS eS1)
    replace Q1 := (Q1.far l1x 0 (.slice AS1 nS cS1)).far l1x 1 (.slice BS1 mS eS1)
    replace u0 := uFarR (.slice AS1 nS cS1) (.slice BS1 mS eS1) (show w.heap.size ≠ w1.heap.size by omega) u0
    replace bx2 := uFarR (.slice AS1 nS cS1) (.slice BS1 mS eS1) (show w2.heap.size ≠ w1.heap.size by omega) bx2
    replace bx1 := set_both (a := .slice AS1 nS cS1) (b := .slice BS1 mS eS1) bx1
    replace hT := (hT.setCell (p := ⟨w1.heap.size, 0, none⟩) (by show w.heap.size ≤ w1.heap.size; omega) (.slice AS1 nS cS1)).setCell (p := ⟨w1.heap.size, 1, none⟩) (by show w.heap.size ≤ w1.heap.size; omega) (.slice BS1 mS eS1)
    refine (PS' _ hT).mono ?_
    rintro x wS2 ⟨AS2, cS2, BS2, eS2, b2, rfl, hs2, P2, Q2, hb2⟩
    have l2a : w.heap.size < b2 := by rw [← hs2]; exact (Array.getElem?_eq_some_iff.1 u0).1
    have l2x : w1.heap.size < b2 := by rw [← hs2]; exact (Array.getElem?_eq_some_iff.1 bx1).1
    have l2y : w2.heap.size < b2 := by rw [← hs2]; exact (Array.getElem?_eq_some_iff.1 bx2).1
    have hw2 := hb2
    rw [← hs2] at hw2
    have hs2' : wS1.heap.size = b2 := by simpa using hs2
    have h12 : b1 ≤ b2 := by rw [← hs2', ← hs1]; exact hz1
    replace KW := KW.below (hb2.mono h12)
    have hz2s : b2 ≤ wS2.heap.size := by rw [← hs2]; exact hw2.size
    replace P1 := P1.below hw2 (Nat.le_refl _)
    replace Q1 := Q1.below hw2 (Nat.le_refl _)
    replace u0 := dKeep hw2 u0
    replace bx1 := dKeep hw2 bx1
    replace bx2 := dKeep hw2 bx2
    replace hT := hT.trans (hw2.mono hT.size)
    clear hw2 hb2
    clear hs2 hz1 hs1
    obtain ⟨xO, yO, fO, rO⟩ := dCells bx2
    obtain ⟨xx, yx, fx, rx⟩ := dCells (uFarR (.slice AS2 nS cS2) (.slice BS2 mS eS2) (show w1.heap.size ≠ w2.heap.size by omega) bx1)
    obtain ⟨xy, yy, fy, ry⟩ := dCells (set_both (a := .slice AS2 nS cS2) (b := .slice BS2 mS eS2) bx2)
    go_wp2_with fail
    clear xO yO fO rO xx yx fx rx xy yy fy ry
    replace KW := KW.off2 bx2 (.slice AS2 nS cS2) (.slice BS2 mS eS2)
    replace P1 := (P1.far l1y 0 (.slice AS2 nS cS2)).far l1y 1 (.slice BS2 mS eS2)
    replace Q1 := (Q1.far l1y 0 (.slice AS2 nS cS2)).far l1y 1 (.slice BS2 mS eS2)
    replace P2 := (P2.far l2y 0 (.slice AS2 nS cS2)).far l2y 1 (.slice BS2 mS eS2)
    replace Q2 := (Q2.far l2y 0 (.slice AS2 nS cS2)).far l2y 1 (.slice BS2 mS eS2)
    replace u0 := uFarR (.slice AS2 nS cS2) (.slice BS2 mS eS2) (show w.heap.size ≠ w2.heap.size by omega) u0
    replace bx1 := uFarR (.slice AS2 nS cS2) (.slice BS2 mS eS2) (show w1.heap.size ≠ w2.heap.size by omega) bx1
    replace bx2 := set_both (a := .slice AS2 nS cS2) (b := .slice BS2 mS eS2) bx2
    replace hT := (hT.setCell (p := ⟨w2.heap.size, 0, none⟩) (by show w.heap.size ≤ w2.heap.size; omega) (.slice AS2 nS cS2)).setCell (p := ⟨w2.heap.size, 1, none⟩) (by show w.heap.size ≤ w2.heap.size; omega) (.slice BS2 mS eS2)
    have hmx : Try.prog.follows .mixedOrders = true := by kernel_rfl
    have hG : 0 < mS → ∃ g, BS1 = some ⟨g, 0, none⟩ ∧ b1 ≤ g ∧ g < b2 := fun h0 => by obtain ⟨g, e, l, r⟩ := G1 h0; exact ⟨g, e, l, by omega⟩
    have hb1w : w.heap.size ≤ b1 := by omega
    have Q1' := zero_form Q1
    clear Q1 G1 PA PA' PM PM' PC PC' PS PS'
    go_loopw [111] (fun i wr => ∃ q : Nat, q ≤ mS ∧ i = .int .i64 q ∧ OwnI wr b1 2 BS1 eS1 (List.replicate q 0 ++ VS.drop q) ∧ OwnI wr b1 3 AS1 cS1 SS ∧ OwnI wr b2 2 BS2 eS2 VS ∧ OwnI wr b2 3 AS2 cS2 SS ∧ Ints wr b1 A10 m ys ∧
      wr.heap[w.heap.size]? = some (.cells #[.slice A n c, .slice B m e] 25 (0, 0)) ∧ wr.heap[w1.heap.size]? = some (.cells #[.slice AS1 nS cS1, .slice BS1 mS eS1] 25 (0, 0)) ∧ wr.heap[w2.heap.size]? = some (.cells #[.slice AS2 nS cS2, .slice BS2 mS eS2] 25 (0, 0)) ∧ Below w.heap.size w wr ∧ b1 ≤ wr.heap.size) (fun i _ => mS - (intOf i).toNat)
    case atStart => exact ⟨0, Nat.zero_le _, rfl, Q1', P1, Q2, P2, KW, u0, bx1, bx2, hT, by simp; omega⟩
    case round =>
      clear Q1' P1 Q2 P2 KW u0 bx1 bx2 hT
      obtain ⟨q, hq, rfl, HX, HXS, HY, HYS, KW, u0, bx1, bx2, hT, hbs⟩ := hrel
      obtain ⟨k0, k1, _, _⟩ := dCells u0
      obtain ⟨k2, k3, _, _⟩ := dCells bx1
      obtain ⟨k4, k5, _, _⟩ := dCells bx2
      by_cases hlt : q < mS
      · obtain ⟨gv, rfl, hg1, hg2⟩ := hG (by omega)
        obtain ⟨gw, rfl, hg3, _⟩ := HY.some_ (by rw [HMS.out]; omega)
        obtain ⟨v, hv0⟩ : ∃ v, VS[q]? = some v := ⟨_, List.getElem?_eq_getElem (by rw [HMS.out]; exact hlt)⟩
        obtain ⟨hcx, hfx⟩ := HX.cell_ (zer_get hv0)
        obtain ⟨hcy, _⟩ := HY.cell_ hv0
        have n0 := HX.ne u0 (by decide)
        have n1 := HX.ne bx1 (by decide)
        have n2' := HX.ne bx2 (by decide)
        have hset := HX.set_ q 0 (by omega)
        rw [zer_set hv0] at hset
        have s1 := HXS.other_ HX (by decide) q (.int .i64 0)
        have s2 := HY.setBelow (a := ⟨gv, q, none⟩) (by show gv < b2; omega) (.int .i64 0)
        have s3 := HYS.setBelow (a := ⟨gv, q, none⟩) (by show gv < b2; omega) (.int .i64 0)
        have s4 := KW.setCell (p := ⟨gv, q, none⟩) (by show b1 ≤ gv; omega) (.int .i64 0)
        have y0 := (Below.heap_setCell wr ⟨gv, q, none⟩ (.int .i64 0) _ (fun e => n0 (by rw [e]))).trans u0
        have y1 := (Below.heap_setCell wr ⟨gv, q, none⟩ (.int .i64 0) _ (fun e => n1 (by rw [e]))).trans bx1
        have y2 := (Below.heap_setCell wr ⟨gv, q, none⟩ (.int .i64 0) _ (fun e => n2' (by rw [e]))).trans bx2
        have hB2 := hT.setCell (p := ⟨gv, q, none⟩) (by show w.heap.size ≤ gv; omega) (.int .i64 0)
        have c0 : (wr.setCell ⟨gv, q, none⟩ (.int .i64 0)).cell? ⟨gv, q, none⟩ = some (.int .i64 0) := World.cell?_setCell_same' _ _ _ (by rw [hcx]; rfl)
        obtain ⟨j0, j1, _, _⟩ := dCells y1
        have hw1 : IntKind.i64.wrap (v - v) = 0 := by rw [wrap_eq, Int.sub_self]; exact wrap64_zero
        have hw2 : IntKind.i64.wrap 0 = 0 := by rw [wrap_eq]; exact wrap64_zero
        have hq1 : (0 : Int) ≤ q := by omega
        have hq2 : (q : Int) < mS := by omega
        clear hv0 HX HXS HY HYS KW u0 bx1 bx2 n0 n1 n2'
        go_wp2_with fail
        refine wp_region_still_tail 12 hmx (by kernel_rfl) ?_
        simp only [List.take_succ_cons, List.take_zero, List.drop_succ_cons, List.drop_zero]
        repeat still_step
        refine wpStill_nil ?_
        change wpList _ _ _ _ _ wr.drew
        go_wp2_with fail
        go_roundw
        case rel => exact ⟨q + 1, by omega, by go_num, hset, s1, s2, s3, s4, y0, y1, y2, hB2.drew, by simpa using hbs⟩
        case measure => simp [intOf]; omega
      · have IX : Ints wr wr.heap.size AS1 nS SS := by have := HXS.ints; rwa [HNS.out] at this
        have IY : Ints wr wr.heap.size AS2 nS SS := by have := HYS.ints; rwa [HNS.out] at this
        have HQ := eqB AS1 AS2 nS nS cS1 cS2 SS SS wr IX IY (by omega) (by omega)
        simp only [decide_true] at HQ
        have KW2 := (KW.more hbs)
        go_wp2_with (first | (go_at_call 26; refine HQ.mono ?_; rintro x w40 ⟨rfl, hb40⟩; replace u0 := dKeep hb40 u0; replace bx1 := dKeep hb40 bx1; replace bx2 := dKeep hb40 bx2; replace hT := hT.trans (hb40.mono hT.size); replace KW2 := (KW2.below hb40).more hb40.size; clear k0 k1 k2 k3 k4 k5; obtain ⟨k0, k1, _, _⟩ := dCells u0; obtain ⟨k2, k3, _, _⟩ := dCells bx1; obtain ⟨k4, k5, _, _⟩ := dCells bx2) | (go_at_call 19; refine (eqT (by omega) (by omega) ((h.below hT).more hT.size) ((hv.below hT).more hT.size) ((h.below hT).more hT.size) KW2).mono ?_; rintro x w41 ⟨rfl, hb41⟩; replace hT := hT.trans (hb41.mono hT.size)))
        go_ret
        exact ⟨rfl, hT⟩

end Go.Proofs.Ytbicdbheclldcaa
