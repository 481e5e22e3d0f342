/- The program's Parse of code. -/
import Derived.Test.YtgkngimeokhhgaaGreatDoorG27
import Derived.Test.YtgkngimeokhhgaaGreatDoorG22
import Derived.Test.YtgkngimeokhhgaaGreatDoorG15
import Derived.Test.YtgkngimeokhhgaaGreatDoorG16
import Derived.Test.YtgkngimeokhhgaaGreatDoorG19
import Derived.Test.YtgkngimeokhhgaaGreatDoorG20
import Derived.Test.YtgkngimeokhhgaaGreatDoorG3
import Derived.Laws.StructEq
import Derived.BigQuiet
import Derived.Test.YtgkngimeokhhgaaGreatDoorG25
import Derived.Test.YtgkngimeokhhgaaGreatDoorG17
import Derived.Test.YtgkngimeokhhgaaGreatDoorG5
import Derived.Test.YtgkngimeokhhgaaGreatDoorG24
namespace Go.Proofs.YtgkngimeokhhgaaGreatDoor
open Go Go.RowKit

set_option maxRecDepth 100000 in
set_option maxHeartbeats 8000000 in
theorem codeParse_any (s : ByteArray) (w : World) (hs : s.size ≤ maxLen) (hS : ShT w) : Calls Tryz.prog 16 #[.string s] w (ParseP s w) := by
  obtain ⟨W0, hW0⟩ : ∃ W, w.alloc zeroC = W := ⟨_, rfl⟩
  have HB0 : Hid (Below w.heap.size w W0) := by rw [← hW0]; exact lvBelow _ _
  have HR0 : Hid (W0.heap[w.heap.size]? = some zeroC) := by rw [← hW0]; exact heap_alloc_new w zeroC
  have HS := Lib.hid hS
  have hC := cut_any s W0 hs
  have hcl := cutF_len (bl s)
  have hcm := cutF_may (bl s)
  have hco := cutF_ok (bl s)
  have hcz : (cutF (bl s)).2.2 ≠ 0 → parseF (bl s) = (noCd, (cutF (bl s)).2.1, (cutF (bl s)).2.2) := parse_cut
  have hcy : (cutF (bl s)).2.2 = 0 → parseF (bl s) = parseR (linesL (cutF (bl s)).1) := parse_lines
  have hcf : ∀ L N, cutF (bl s) = (L, N, 0) → ∀ R ∈ linesL L, R ≠ [] := fun L N h => rows_full h
  obtain ⟨⟨L, N, E⟩, hcut⟩ : ∃ p, cutF (bl s) = p := ⟨_, rfl⟩
  rw [hcut] at hC hcl hcm hco hcz hcy hcf
  dsimp only at hC hcl hcm hco hcz hcy
  unfold CutP at hC
  clear hcut hs hS
  by_cases hE : E = 0
  case neg =>
    have HP := Lib.hid (hcz hE)
    have e0 : (E != 0) = true := by simpa using hE
    clear hE hcz hcy hcl hcm hco hcf
    go_enter Tryz.func16, Tryz.ntmps16
    go_wp2_with fail
    try rw [hW0]
    refine hC.mono ?_
    rintro e w1 ⟨A, n, c, rfl, _, _, hb⟩
    have HB1 := Lib.hid (HB0.out.trans (hb.mono HB0.out.size))
    have HR1 := Lib.hid (keep_b hb HR0.out)
    clear hb hC
    obtain ⟨r0, r1, r2, r3, rf0, rf1, rf2, rf3⟩ := lvCells HR1.out
    go_wp2_with fail
    obtain ⟨s0, s1, s2, s3⟩ := putC_cells HR1.out 0 0 0 (.slice none 0 0)
    have hd := parse_none HB1.out HP.out
    obtain ⟨wz, hwz⟩ : ∃ wz, putC w1 w.heap.size 0 0 0 (.slice none 0 0) = wz := ⟨_, rfl⟩
    rw [hwz] at hd s0 s1 s2 s3
    unfold putC at hwz
    try rw [hwz]
    exact bodyPost_ret (v := .tuple #[.agg #[.int .i64 0, .int .i64 0, .int .i64 0, .slice none 0 0], .int .i64 N, .int .i64 E]) (by simp [results, Tryz.results16, go_sem, s0, s1, s2, s3]) rfl hd
  subst hE
  have HPL0 := Lib.hid (hcy rfl)
  have HCO := Lib.hid hco
  have hfull := hcf L N rfl
  obtain ⟨RL, hRL⟩ : ∃ RL, linesL L = RL := ⟨_, rfl⟩
  have HLM : Hid (∀ r ∈ RL, ∀ t ∈ r, mayT t) := by rw [← hRL]; exact Lib.hid (fun r hr => linesL_mayAll hcm hr)
  have HLN : Hid (∀ r ∈ RL, r ≠ []) := by rw [← hRL]; exact hfull
  have HLF : Hid (RL.length ≤ 4097) := by rw [← hRL]; exact Lib.hid (Nat.le_trans (linesL_few L) (by omega))
  rw [hRL] at HPL0
  have HRL := Lib.hid hRL
  have HCL := Lib.hid hcl
  clear hcz hcy hcm hco hRL hcl hcf hfull
  go_enter Tryz.func16, Tryz.ntmps16
  go_wp2_with fail
  try rw [hW0]
  refine hC.mono ?_
  rintro e w1 ⟨A1, n1, c1, rfl, hn1, hO1, hb⟩
  have HB1 := Lib.hid (HB0.out.trans (hb.mono HB0.out.size))
  have HR1 := Lib.hid (keep_b hb HR0.out)
  have hT1 := hO1.toks HCO.out
  rw [hn1] at hT1
  have hL := lines_any A1 n1 c1 L w1 hT1 (by have := HCL.out; omega)
  rw [HRL.out] at hL
  clear hb hC hW0 hO1 hT1 hn1
  go_wp2_with fail
  (with_reducible refine hL.mono ?_)
  rintro e w2 ⟨H, n, ch, rs, rfl, hrn, hrm, hRK, hb⟩
  have HB2 := Lib.hid (HB1.out.trans (hb.mono HB1.out.size))
  have HR2 := Lib.hid (keep_b hb HR1.out)
  have hRR : RowsR w2 w2.heap.size H n rs := hRK.reads hrn (fun r hr t ht => (HLM.out r.L (by rw [← hrm]; exact List.mem_map_of_mem hr) t ht).ok)
  have hCC : ∀ r ∈ rs, r.L.length ≤ r.c := fun r hr => (hRK.ins r hr).lenCap
  have hnc : n ≤ ch := hRK.lenCap hrn
  have hnn : n ≤ 4097 := by
    have h1 := HLF.out
    rw [← hrm, List.length_map, hrn] at h1
    exact h1
  have cR := readCode_any H n ch rs w2 hRR hnc hCC (fun r hr => HLM.out r.L (by rw [← hrm]; exact List.mem_map_of_mem hr)) (fun r hr => HLN.out r.L (by rw [← hrm]; exact List.mem_map_of_mem hr)) (by omega) (HS.out.on HB2.out)
  rw [hrm] at cR
  unfold ReadCodeP at cR
  have HPR := Lib.hid (HPL0.out.trans (parse_rc RL))
  have hrl := rc_len RL
  have HRN : Hid (RL.length = n) := by rw [← hrm, List.length_map]; exact hrn
  obtain ⟨⟨C, at_, is⟩, hrc⟩ : ∃ q, rcF RL = q := ⟨_, rfl⟩
  rw [hrc] at cR HPR hrl
  dsimp only at cR HPR hrl
  obtain ⟨R, A, I, l⟩ := C
  dsimp only at cR HPR hrl
  have HRLL := Lib.hid hrl
  clear hb hL hrm hRK hRR hCC hrn hrc hnc hrl
  go_wp2_with fail
  refine cR.mono ?_
  rintro e w3 ⟨A', c', rfl, hO, hfit, hb⟩
  have HB3 := Lib.hid (HB2.out.trans (hb.mono HB2.out.size))
  have HR3 := Lib.hid (keep_b hb HR2.out)
  have hO3 := hO.mono HB2.out.size
  have HFIT := Lib.hid hfit
  clear hb cR hO hfit
  obtain ⟨z0, z1, z2, z3, zf0, zf1, zf2, zf3⟩ := lvCells (heap_alloc_new w3 zeroC)
  go_upto_region 6 with fail
  clear z0 z1 z2 z3 zf0 zf1 zf2 zf3
  obtain ⟨m, hm⟩ : ∃ m, l.length = m := ⟨_, rfl⟩
  have HM := Lib.hid hm
  rw [hm]
  obtain ⟨W4, hW4⟩ : ∃ W, w3.alloc (.cells #[.int .i64 R, .int .i64 A, .int .i64 I, .slice A' m c'] 24) = W := ⟨_, rfl⟩
  have hb4 : Below w3.heap.size w3 W4 := by rw [← hW4]; exact lvBelow _ _
  have HB4 := Lib.hid (HB3.out.trans (hb4.mono HB3.out.size))
  have HR4 := Lib.hid (keep_b hb4 HR3.out)
  have HO4 : Hid (OwnJ W4 w.heap.size A' c' l) := hO3.below hb4 (Nat.le_refl _)
  have HX4 : Hid (W4.heap[w3.heap.size]? = some (.cells #[.int .i64 R, .int .i64 A, .int .i64 I, .slice A' m c'] 24 (0, 0))) := by rw [← hW4]; exact heap_alloc_new w3 _
  obtain ⟨g, hg⟩ : ∃ g, w3.heap.size = g := ⟨_, rfl⟩
  try rw [hW4]
  rw [hg] at HX4
  try rw [hg]
  clear hb4 hW4 hO3 hm hg
  cases is with
  | false =>
    have HP : Hid (parseF (bl s) = (noCd, at_, 6)) := HPR.out
    obtain ⟨r0, r1, r2, r3, rf0, rf1, rf2, rf3⟩ := lvCells HR4.out
    go_wp2_with fail
    obtain ⟨s0, s1, s2, s3⟩ := putC_cells HR4.out 0 0 0 (.slice none 0 0)
    have hd := parse_none HB4.out HP.out
    obtain ⟨wz, hwz⟩ : ∃ wz, putC W4 w.heap.size 0 0 0 (.slice none 0 0) = wz := ⟨_, rfl⟩
    rw [hwz] at hd s0 s1 s2 s3
    unfold putC at hwz
    try rw [hwz]
    exact bodyPost_ret (v := .tuple #[.agg #[.int .i64 0, .int .i64 0, .int .i64 0, .slice none 0 0], .int .i64 at_, .int .i64 6]) (by simp [results, Tryz.results16, go_sem, s0, s1, s2, s3]) rfl hd
  | true =>
    have hml : m ≤ 5000 := by have h1 := HM.out; have h2 := HLF.out; have h3 := HRLL.out; omega
    have hQ : Cq.In ⟨R, A, I, A', m, c', l⟩ W4 := by
      obtain ⟨f1, f2, f3, f4⟩ := HFIT.out
      refine ⟨?_, f1, f2, f3, by show m ≤ _; omega, ?_⟩
      · have := HO4.out.jis f4
        rw [HM.out] at this
        exact this
      · show m ≤ c'
        have := HO4.out.lenCap
        rw [HM.out] at this
        exact this
    have hK := codeCheck_any ⟨R, A, I, A', m, c', l⟩ W4 hQ (HS.out.on HB4.out)
    unfold CkP at hK
    obtain ⟨x0, x1, x2, x3, _⟩ := lvCells HX4.out
    clear hQ
    go_wp2_with fail
    (with_reducible refine hK.mono ?_)
    rintro e w5 ⟨rfl, hb⟩
    have HB5 := Lib.hid (HB4.out.trans (hb.mono HB4.out.size))
    have HR5 := Lib.hid (keep_b hb HR4.out)
    have HX5 := Lib.hid (keep_b hb HX4.out)
    have HO5 : Hid (OwnJ w5 w.heap.size A' c' l) := HO4.out.below hb (Nat.le_refl _)
    clear hb hK x0 x1 x2 x3
    cases hmay : Cd.may ⟨R, A, I, l⟩ with
    | false =>
      have hce : (Cq.cd ⟨R, A, I, A', m, c', l⟩).e = 1 := by show Cd.e ⟨R, A, I, l⟩ = 1; unfold Cd.e; rw [hmay]; rfl
      rw [hce]
      have HP : Hid (parseF (bl s) = (noCd, 0, 1)) := by unfold Hid; rw [HPR.out, if_pos trivial, if_neg (by rw [hmay]; decide)]
      clear hce hmay
      obtain ⟨r0, r1, r2, r3, rf0, rf1, rf2, rf3⟩ := lvCells HR5.out
      go_wp2_with fail
      obtain ⟨s0, s1, s2, s3⟩ := putC_cells HR5.out 0 0 0 (.slice none 0 0)
      have hd := parse_none HB5.out HP.out
      obtain ⟨wz, hwz⟩ : ∃ wz, putC w5 w.heap.size 0 0 0 (.slice none 0 0) = wz := ⟨_, rfl⟩
      rw [hwz] at hd s0 s1 s2 s3
      unfold putC at hwz
      try rw [hwz]
      exact bodyPost_ret (v := .tuple #[.agg #[.int .i64 0, .int .i64 0, .int .i64 0, .slice none 0 0], .int .i64 0, .int .i64 1]) (by simp [results, Tryz.results16, go_sem, s0, s1, s2, s3]) rfl hd
    | true =>
      have hce : (Cq.cd ⟨R, A, I, A', m, c', l⟩).e = 0 := by show Cd.e ⟨R, A, I, l⟩ = 0; unfold Cd.e; rw [hmay]; rfl
      rw [hce]
      have HP : Hid (parseF (bl s) = (⟨R, A, I, l⟩, (n : Int), 0)) := by
        unfold Hid
        rw [HPR.out, if_pos trivial, if_pos hmay, HRN.out]
      clear hce hmay
      obtain ⟨x0, x1, x2, x3, _⟩ := lvCells HX5.out
      obtain ⟨r0, r1, r2, r3, rf0, rf1, rf2, rf3⟩ := lvCells HR5.out
      go_wp2_with fail
      obtain ⟨s0, s1, s2, s3⟩ := putC_cells HR5.out R A I (.slice A' m c')
      have hd : ParseP s w (.returned (.tuple #[.agg #[.int .i64 R, .int .i64 A, .int .i64 I, .slice A' m c'], .int .i64 (n : Int), .int .i64 0])) (putC w5 w.heap.size R A I (.slice A' m c')) := by
        unfold ParseP
        rw [HP.out]
        exact ⟨A', c', by dsimp only; rw [HM.out], putC_own HO5.out HR5.out _ _ _ _, putC_below HB5.out _ _ _ _⟩
      obtain ⟨wz, hwz⟩ : ∃ wz, putC w5 w.heap.size R A I (.slice A' m c') = wz := ⟨_, rfl⟩
      rw [hwz] at hd s0 s1 s2 s3
      unfold putC at hwz
      try rw [hwz]
      exact bodyPost_ret (v := .tuple #[.agg #[.int .i64 R, .int .i64 A, .int .i64 I, .slice A' m c'], .int .i64 (n : Int), .int .i64 0]) (by simp [results, Tryz.results16, go_sem, s0, s1, s2, s3]) rfl hd
end Go.Proofs.YtgkngimeokhhgaaGreatDoor
/- purflelaw14.live and purfleref14.Few. -/
namespace Go.Proofs.YtgkngimeokhhgaaGreatDoor
open Go.RowKit

theorem ret_boolJ {a b : Bool} (h : a = b) : Ending.returned (.bool a) = .returned (.bool b) := by rw [h]
set_option maxRecDepth 100000 in
theorem refFew14_any (q : Cq) (w : World) (_hq : q.In w) : Calls Tryz.prog 17 #[q.val] w fun e w' => e = .returned (.bool (decide (q.n ≤ 300))) ∧ Below w.heap.size w w' := by
  have hX := heap_alloc_new w q.obj
  obtain ⟨k0, k1, k2, k3, _⟩ := lvCells hX
  clear hX
  go_enter Tryz.func17, Tryz.ntmps17
  go_wp2_with fail
  go_ret
  exact ⟨ret_boolJ (by rw [decide_eq_decide]; omega), lvBelow _ _⟩
/-- code of the call's own, as it is handed on -/
theorem OwnJ.cq {w : World} {base c' : Nat} {A' : Option Addr} {c : Cd} (h : OwnJ w base A' c' c.l) (hm : c.may = true) : Cq.In ⟨c.R, c.A, c.I, A', c.l.length, c', c.l⟩ w := by
  obtain ⟨⟨r0, r1, a0, a1, i0, i1, n0, n1⟩, h2, _⟩ := Cd.may_parts hm
  refine ⟨h.jis fun x hx => ?_, ⟨by show _ ≤ c.R; omega, by show c.R ≤ _; omega⟩, ⟨by show _ ≤ c.A; omega, by show c.A ≤ _; omega⟩, ⟨by show _ ≤ c.I; omega, by show c.I ≤ _; omega⟩, by show c.l.length ≤ _; omega, h.lenCap⟩
  obtain ⟨m0, m1, m3, m4⟩ := mayJ_parts (h2 x hx)
  have lim : ∀ k, limJ c.R c.A c.l.length k ≤ 5000 := by intro k; unfold limJ; split; · omega
                                                         split; · omega
                                                         split <;> omega
  have j0 := m1 0 (by omega)
  have j1 := m1 1 (by omega)
  have j2 := m1 2 (by omega)
  have l0 := lim ((kJ x.op).getD 0 32)
  have l1 := lim ((kJ x.op).getD 1 32)
  have l2 := lim ((kJ x.op).getD 2 32)
  unfold InB at j0 j1 j2
  have e0 : x.f.getD 0 0 = x.a := rfl
  have e1 : x.f.getD 1 0 = x.b := rfl
  have e2 : x.f.getD 2 0 = x.c := rfl
  rw [e0] at j0
  rw [e1] at j1
  rw [e2] at j2
  have hn : -1000000000000000000 < x.n ∧ x.n < 1000000000000000000 := by
    by_cases hk : (110 : UInt8) ∈ kJ x.op
    · exact m3 hk
    · rw [m4 hk]; decide
  exact ⟨⟨by omega, by omega⟩, ⟨by omega, by omega⟩, ⟨by omega, by omega⟩, ⟨by omega, by omega⟩, ⟨by omega, by omega⟩⟩
end Go.Proofs.YtgkngimeokhhgaaGreatDoor
/- Whether code and what is handed in are few enough to be played. -/
namespace Go.Proofs.YtgkngimeokhhgaaGreatDoor
open Go.RowKit

/-- how many numbers there are in all -/
def sumLn : List (List Int) → Int
  | [] => 0
  | L :: LL => (L.length : Int) + sumLn LL
theorem sumLn_snoc (LL : List (List Int)) (L : List Int) : sumLn (LL ++ [L]) = sumLn LL + (L.length : Int) := by
  induction LL with
  | nil => simp [sumLn]
  | cons M LL ih => simp only [List.cons_append, sumLn, ih]; omega
theorem sumLn_nonneg (LL : List (List Int)) : 0 ≤ sumLn LL := by
  induction LL with
  | nil => simp [sumLn]
  | cons M LL ih => simp only [sumLn]; omega
theorem sumLn_le {LL : List (List Int)} {M : Nat} (h : ∀ L ∈ LL, L.length ≤ M) : sumLn LL ≤ (LL.length : Int) * (M : Int) := by
  induction LL with
  | nil => simp [sumLn]
  | cons K LL ih =>
    have h1 := ih fun L hL => h L (List.mem_cons_of_mem _ hL)
    have h2 := h K (List.mem_cons_self ..)
    simp only [sumLn, List.length_cons]
    have h3 : ((LL.length + 1 : Nat) : Int) * (M : Int) = (LL.length : Int) * (M : Int) + (M : Int) := by
      rw [Int.natCast_add, Int.add_mul]; simp
    rw [h3]
    omega
theorem sumLn_mem {LL : List (List Int)} {L : List Int} (h : L ∈ LL) : (L.length : Int) ≤ sumLn LL := by
  induction LL with
  | nil => cases h
  | cons K LL ih =>
    have := sumLn_nonneg LL
    simp only [sumLn]
    rcases List.mem_cons.1 h with rfl | h
    · omega
    · have := ih h
      omega
def few16 (q : Cq) (n : Nat) (LL : List (List Int)) : Bool := decide (q.n ≤ 300) && (decide (n ≤ 200) && decide (sumLn LL ≤ 2000))
theorem wrap64_add (x y : Int) : wrap64 (wrap64 x + y) = wrap64 (x + y) := by unfold wrap64; omega
theorem wrap64_small {x : Int} (h0 : 0 ≤ x) (h1 : x ≤ 9223372036854775807) : wrap64 x = x := by unfold wrap64; omega
set_option maxRecDepth 100000 in
set_option maxHeartbeats 4000000 in
theorem few16_any (q : Cq) (A : Option Addr) (n c : Nat) (LL : List (List Int)) (w : World) (hq : q.In w) (h : IntsLL w w.heap.size A n LL) (hn : n ≤ 5864062014805) (hL : ∀ L ∈ LL, L.length ≤ 17592186044416) :
    Calls Tryz.prog 5 #[q.val, .slice A n c] w fun e w' => e = .returned (.bool (few16 q n LL)) ∧ Below w.heap.size w w' := by
  obtain ⟨W0, hW0⟩ : ∃ W, w.alloc q.obj = W := ⟨_, rfl⟩
  obtain ⟨g0, hg0⟩ : ∃ z, w.heap.size = z := ⟨_, rfl⟩
  have hb1 : Below w.heap.size w W0 := by rw [← hW0]; exact lvBelow w _
  have h1 : W0.heap[g0]? = some q.obj := by rw [← hW0, ← hg0]; exact heap_alloc_new w _
  have HB0 := Lib.hid hb1
  have HI0 := Lib.hid (h.below hb1)
  have HX0 := Lib.hid h1
  have hF := refFew14_any q W0 (hq.on hb1)
  have HLN : Hid (LL.length = n) := h.1
  have HLM := Lib.hid hL
  obtain ⟨R, A0, I, P, n0, c0, l⟩ := q
  obtain ⟨k0, k1, k2, k3, _⟩ := lvCells h1
  clear hb1 h1 h hq hL
  go_enter Tryz.func5, Tryz.ntmps5
  go_wp2_with fail
  try rw [hW0]
  try rw [hg0]
  clear hW0 hg0
  go_loopw [5, 10] (fun s x wr => ∃ k : Nat, k ≤ n ∧ x = .int .i64 k ∧ s = .int .i64 (wrap64 (sumLn (LL.take k))) ∧ wr = W0) (fun _ x _ => n - (intOf x).toNat)
  case atStart => exact ⟨0, Nat.zero_le _, rfl, (by rw [List.take_zero]; show _ = Value.int .i64 (wrap64 0); rw [wrap64_small (by omega) (by omega)]), rfl⟩
  case round =>
    obtain ⟨k, hk, rfl, rfl, rfl⟩ := hrel
    by_cases hkn : k < n
    · have hk0 : (0 : Int) ≤ (k : Int) := by omega
      have hk1 : (k : Int) < (n : Int) := by omega
      obtain ⟨b, off, L, a, cL, rfl, _, HX, hc, _, _⟩ := HI0.out.at_ hkn
      obtain ⟨m, hm⟩ : ∃ m, L.length = m := ⟨_, rfl⟩
      rw [hm] at hc
      have hS : Hid (wrap64 (wrap64 (sumLn (LL.take k)) + (m : Int)) = wrap64 (sumLn (LL.take (k + 1)))) := by
        unfold Hid
        rw [wrap64_add, show LL.take (k + 1) = LL.take k ++ [L] from by rw [List.take_add_one, HX.out]; rfl, sumLn_snoc, hm]
      have hw0 := wrap_eq (wrap64 (sumLn (LL.take k)) + (m : Int))
      clear hm
      go_wp2_with fail
      go_roundw
      case rel => exact ⟨k + 1, by omega, by go_num, by rw [← hS.out], by first | trivial | rfl⟩
      case measure => simp [intOf]; omega
    · obtain rfl : n = k := by omega
      rw [List.take_of_length_le (by have := HLN.out; omega)]
      have HN0 : (few16 ⟨R, A0, I, P, n0, c0, l⟩ n LL) = (decide (n0 ≤ 300) && (decide (n ≤ 200) && decide (sumLn LL ≤ 2000))) := rfl
      have HN := Lib.hid HN0
      by_cases hq0 : n0 ≤ 300
      · have d0 : decide (n0 ≤ 300) = true := decide_eq_true hq0
        rw [d0] at hF
        by_cases h2 : n ≤ 200
        · have hsm : wrap64 (sumLn LL) = sumLn LL := by
            have h3 := sumLn_le HLM.out
            have h4 := sumLn_nonneg LL
            rw [HLN.out] at h3
            have h5 : (n : Int) * ((17592186044416 : Nat) : Int) ≤ 200 * ((17592186044416 : Nat) : Int) := Int.mul_le_mul_of_nonneg_right (by omega) (by omega)
            exact wrap64_small h4 (by omega)
          rw [hsm]
          obtain ⟨S, hS⟩ : ∃ S, sumLn LL = S := ⟨_, rfl⟩
          rw [hS] at HN ⊢
          have d1 : decide ((n : Int) ≤ 200) = true := decide_eq_true (by omega)
          clear hsm HN0 hkn
          by_cases h3 : S ≤ 2000
          · have d2 : decide (S ≤ 2000) = true := decide_eq_true h3
            go_wp2_with (go_at_call 17; refine hF.mono ?_; rintro e w6 ⟨rfl, hb6⟩)
            go_ret
            exact ⟨ret_boolJ (by rw [HN.out, decide_eq_true hq0, decide_eq_true h2, d2]; rfl), HB0.out.trans (hb6.mono HB0.out.size)⟩
          · have d2 : decide (S ≤ 2000) = false := decide_eq_false h3
            go_wp2_with (go_at_call 17; refine hF.mono ?_; rintro e w6 ⟨rfl, hb6⟩)
            go_ret
            exact ⟨ret_boolJ (by rw [HN.out, decide_eq_true hq0, decide_eq_true h2, d2]; rfl), HB0.out.trans (hb6.mono HB0.out.size)⟩
        · have d1 : decide ((n : Int) ≤ 200) = false := decide_eq_false (by omega)
          clear HN0 hkn
          go_wp2_with (go_at_call 17; refine hF.mono ?_; rintro e w6 ⟨rfl, hb6⟩)
          go_ret
          exact ⟨ret_boolJ (by rw [HN.out, decide_eq_true hq0, decide_eq_false h2]; rfl), HB0.out.trans (hb6.mono HB0.out.size)⟩
      · have d0 : decide (n0 ≤ 300) = false := decide_eq_false hq0
        rw [d0] at hF
        clear HN0 hkn
        go_wp2_with (go_at_call 17; refine hF.mono ?_; rintro e w6 ⟨rfl, hb6⟩)
        go_ret
        exact ⟨ret_boolJ (by rw [HN.out, decide_eq_false hq0]; rfl), HB0.out.trans (hb6.mono HB0.out.size)⟩
end Go.Proofs.YtgkngimeokhhgaaGreatDoor
/- Code that sets and pushes numbers, one by one, comes to these numbers. -/
namespace Go.Proofs.YtgkngimeokhhgaaGreatDoor
open Go.RowKit

def setI (n : Int) : Ji := ⟨1, 0, 0, 0, n⟩
def pushI : Ji := ⟨9, 0, 0, 0, 0⟩
def haltI : Ji := ⟨0, 0, 0, 0, 0⟩
def strP : List Int → List Ji
  | [] => []
  | n :: l => setI n :: pushI :: strP l
def strC (l : List Int) : Cd := ⟨1, 1, 0, strP l ++ [haltI]⟩
theorem strP_len : ∀ l : List Int, (strP l).length = 2 * l.length
  | [] => rfl
  | n :: l => by simp only [strP, List.length_cons, strP_len l]; omega
theorem strP_append : ∀ a b : List Int, strP (a ++ b) = strP a ++ strP b
  | [], _ => rfl
  | n :: a, b => by simp only [List.cons_append, strP, strP_append a b]
theorem strP_mem : ∀ {l : List Int} {x : Ji}, x ∈ strP l → (∃ n ∈ l, x = setI n) ∨ x = pushI
  | [], _, h => by cases h
  | n :: l, x, h => by
    simp only [strP, List.mem_cons] at h
    rcases h with rfl | rfl | h
    · exact .inl ⟨n, List.mem_cons_self, rfl⟩
    · exact .inr rfl
    · rcases strP_mem h with ⟨m, hm, e⟩ | e
      · exact .inl ⟨m, List.mem_cons_of_mem _ hm, e⟩
      · exact .inr e
theorem strC_mem {l : List Int} {x : Ji} (h : x ∈ (strC l).l) : (∃ n ∈ l, x = setI n) ∨ x = pushI ∨ x = haltI := by
  rcases List.mem_append.1 h with h | h
  · rcases strP_mem h with h | h
    · exact .inl h
    · exact .inr (.inl h)
  · exact .inr (.inr (List.mem_singleton.1 h))
theorem strC_len (l : List Int) : (strC l).l.length = 2 * l.length + 1 := by
  show (strP l ++ [haltI]).length = _
  rw [List.length_append, strP_len]; rfl
theorem mayJ_set {L n : Int} (h : -1000000000000000000 < n ∧ n < 1000000000000000000) : mayJ 1 1 L (setI n) = true := by
  unfold setI mayJ
  simp [kJ, kindsJ, limJ, Ji.f, List.range, List.range.loop]
  omega
theorem mayJ_push {L : Int} : mayJ 1 1 L pushI = true := by
  unfold pushI mayJ
  simp [kJ, kindsJ, limJ, Ji.f, List.range, List.range.loop]
theorem mayJ_halt {L : Int} : mayJ 1 1 L haltI = true := by
  unfold haltI mayJ
  simp [kJ, kindsJ, limJ, Ji.f, List.range, List.range.loop]
theorem strC_may {l : List Int} (hl : l.length ≤ 200) (h : ∀ n ∈ l, -1000000000000000000 < n ∧ n < 1000000000000000000) : (strC l).may = true := by
  unfold Cd.may
  rw [strC_len, Bool.and_eq_true, Bool.and_eq_true]
  refine ⟨⟨decide_eq_true (show (0 : Int) ≤ 1 ∧ (1 : Int) ≤ 128 ∧ (0 : Int) ≤ 1 ∧ (1 : Int) ≤ 128 ∧ (0 : Int) ≤ 0 ∧ (0 : Int) ≤ 1 ∧ 1 ≤ 2 * l.length + 1 ∧ 2 * l.length + 1 ≤ 4096 by omega), List.all_eq_true.2 fun x hx => ?_⟩, ?_⟩
  · rcases strC_mem hx with ⟨n, hn, rfl⟩ | rfl | rfl
    · exact mayJ_set (h n hn)
    · exact mayJ_push
    · exact mayJ_halt
  · show (match (strP l ++ [haltI]).getLast? with | some x => decide (x.op = 0 ∨ x.op = 10) | none => false) = true
    rw [List.getLast?_concat]
    rfl
theorem strC_zero {l : List Int} {k : Nat} (h : Way (strC l).l 0 k) : k = 0 := by
  induction h with
  | start => rfl
  | @step i k x _ hx hs hk ih =>
    subst ih
    cases l with
    | nil =>
      have e : x = haltI := by
        have : ([haltI] : List Ji)[0]? = some x := hx
        simpa using this.symm
      subst e
      rw [show nextJ haltI ((0 : Nat) : Int) = [] from rfl] at hk
      cases hk
    | cons n l =>
      have e : x = setI n := by
        have : (setI n :: (pushI :: strP l ++ [haltI]))[0]? = some x := hx
        simpa using this.symm
      subst e
      exact absurd ⟨rfl, rfl⟩ hs
theorem strC_first {l : List Int} : (strC l).l[0]? ≠ some pushI := by
  intro h
  cases l with
  | nil => exact absurd h (by decide +kernel)
  | cons n l =>
    have : (setI n :: (pushI :: strP l ++ [haltI]))[0]? = some pushI := h
    simp [setI, pushI] at this
theorem strC_unset (l : List Int) : unsetN (strC l) = [] := by
  unfold unsetN
  rw [List.filter_eq_nil_iff]
  intro i _
  simp only [decide_eq_true_eq]
  rintro ⟨hw, x, hx, r, hr, hn⟩
  rcases strC_mem (List.mem_of_getElem? hx) with ⟨n, _, rfl⟩ | rfl | rfl
  · rw [show readsJ (setI n) = [] from rfl] at hr
    cases hr
  · rw [show readsJ pushI = [0] from rfl, List.mem_singleton] at hr
    subst hr
    refine hn (mem_setN.2 ⟨Int.le_refl _, (show (0 : Int) < 1 by decide), hw, fun h0 => ?_⟩)
    have := strC_zero h0
    subst this
    exact strC_first hx
  · rw [show readsJ haltI = [] from rfl] at hr
    cases hr
theorem strC_valid {l : List Int} (hl : l.length ≤ 200) (h : ∀ n ∈ l, -1000000000000000000 < n ∧ n < 1000000000000000000) : validE (strC l) = 0 := by
  refine validE_ok (strC_may hl h) (strC_unset l) ?_
  rw [List.any_eq_false]
  intro x hx
  rcases strC_mem hx with ⟨n, _, rfl⟩ | rfl | rfl
  · simp [badX, setI]
  · simp [badX, pushI, strC]
  · simp [badX, haltI]
theorem strC_at (pre : List Int) (n : Int) (l : List Int) : (strC (pre ++ n :: l)).l.getD (2 * pre.length) zJi = setI n ∧ (strC (pre ++ n :: l)).l.getD (2 * pre.length + 1) zJi = pushI := by
  have e : (strC (pre ++ n :: l)).l = strP pre ++ (setI n :: pushI :: (strP l ++ [haltI])) := by
    show strP (pre ++ n :: l) ++ [haltI] = _
    rw [strP_append]
    simp [strP]
  rw [e, List.getD_eq_getElem?_getD, List.getD_eq_getElem?_getD, List.getElem?_append_right (by rw [strP_len]; omega), List.getElem?_append_right (by rw [strP_len]; omega), strP_len, Nat.sub_self, Nat.add_sub_cancel_left]
  exact ⟨rfl, rfl⟩
theorem strC_end (l : List Int) : (strC l).l.getD (2 * l.length) zJi = haltI := by
  show (strP l ++ [haltI]).getD _ zJi = _
  rw [List.getD_eq_getElem?_getD, List.getElem?_append_right (by rw [strP_len]; omega), strP_len, Nat.sub_self]
  rfl
/-- from where so many of the numbers are pushed -/
theorem goM_straight : ∀ (l pre : List Int) (r : Int) (st : Nat), ∃ z p, goM (strC (pre ++ l)) ((pre ++ l).length : Nat) (2 * l.length + 1) ⟨2 * pre.length, [r], [pre], st, pre.length⟩ = .ok (z, p) ∧ z.A = [pre ++ l] ∧ z.ce = (pre ++ l).length ∧ p.length = 2 * l.length + 1
  | [], pre, r, st => by
    rw [List.append_nil]
    refine ⟨⟨2 * pre.length + 1, [r], [pre], st + 1, pre.length⟩, [2 * pre.length], ?_, rfl, rfl, rfl⟩
    show goM _ _ (0 + 1) _ = _
    rw [goM]
    dsimp only
    rw [strC_end]
    rfl
  | n :: l, pre, r, st => by
    obtain ⟨z, p, h1, h2, h3, h4⟩ := goM_straight l (pre ++ [n]) n (st + 2)
    obtain ⟨e1, e2⟩ := strC_at pre n l
    rw [List.append_assoc, List.singleton_append] at h1 h2 h3
    have el : (pre ++ [n]).length = pre.length + 1 := by simp
    rw [el] at h1
    have hs1 : ∀ cells, stepM ⟨2 * pre.length, [r], [pre], st, pre.length⟩ (setI n) cells = .ok ⟨2 * pre.length + 1, [n], [pre], st + 1, pre.length⟩ := fun _ => rfl
    have hs2 : stepM ⟨2 * pre.length + 1, [n], [pre], st + 1, pre.length⟩ pushI (((pre ++ n :: l).length : Nat) : Int) = .ok ⟨2 * pre.length + 1 + 1, [n], [pre ++ [n]], st + 2, pre.length + 1⟩ := by
      show (if (((pre ++ n :: l).length : Nat) : Int) ≤ ((pre.length : Nat) : Int) then Except.error 10 else _) = _
      rw [if_neg (by rw [List.length_append, List.length_cons]; omega)]
      rfl
    refine ⟨z, 2 * pre.length :: (2 * pre.length + 1) :: p, ?_, h2, h3, by simp only [List.length_cons, h4]; omega⟩
    rw [show 2 * (n :: l).length + 1 = (2 * l.length + 1) + 1 + 1 by rw [List.length_cons]; omega, goM]
    dsimp only
    rw [e1, hs1]
    dsimp only
    rw [if_neg (show ¬ (setI n).op = 0 from (show ¬ (1 : Int) = 0 by decide)), goM]
    dsimp only
    rw [e2, hs2]
    dsimp only
    rw [if_neg (show ¬ pushI.op = 0 from (show ¬ (9 : Int) = 0 by decide)), show 2 * pre.length + 1 + 1 = 2 * (pre.length + 1) by omega, h1]
end Go.Proofs.YtgkngimeokhhgaaGreatDoor
/- purflelaw16.live: the chapter's example. -/
namespace Go.Proofs.YtgkngimeokhhgaaGreatDoor
open Go.RowKit Go.Sort

/-- such code comes to its numbers -/
theorem runM_straight {xs : List Int} {n : Nat} (hn : xs.length = n) (h2 : n ≤ 200) (h : ∀ v ∈ xs, -1000000000000000000 < v ∧ v < 1000000000000000000) : ∃ z p, runM (strC xs) (2 * (n : Int) + 1) (n : Int) [] = .ok (z, p) ∧ z.A = [xs] ∧ z.ce = n ∧ z.st = 2 * n + 1 := by
  subst hn
  obtain ⟨z, p, hg, h3, h4, h5⟩ := goM_straight xs [] 0 0
  have hr : runM (strC xs) (2 * (xs.length : Int) + 1) (xs.length : Int) [] = .ok (z, p) := by
    unfold runM
    rw [if_neg (by rw [strC_valid h2 h]; simp), if_neg (by rintro (h6 | h6 | h6); · omega
                                                           · omega
                                                           · exact h6 rfl), show (2 * (xs.length : Int) + 1).toNat = 2 * xs.length + 1 by omega]
    exact hg
  exact ⟨z, p, hr, h3, h4, by rw [(runM_keeps hr).1, h5]⟩
/-- a list of one list -/
theorem one_list {w : World} {A : Option Addr} {n c g : Nat} {xs : List Int} (hg : w.heap[g]? = some (.cells #[.slice A n c] 28 (0, 0))) (h : Ints w w.heap.size A n xs) (hc : n ≤ c) : IntsLL w w.heap.size (some ⟨g, 0, none⟩) 1 [xs] := by
  refine ⟨rfl, fun _ => ⟨g, 0, rfl, lt_of_heap hg, fun k L hk => ?_⟩⟩
  match k, hk with
  | 0, hk =>
    simp at hk
    subst hk
    have hl : xs.length = n := h.1
    exact ⟨A, c, by rw [hl]; exact (by simpa using cell_of_row w g 0 _ 28 (0, 0) hg), by omega, by rw [hl]; exact h⟩
  | k + 1, hk => simp at hk
def liveS16 : List UInt8 := [99, 111, 100, 101, 32, 49, 32, 49, 32, 48, 10, 115, 101, 116, 32, 114, 48, 32, 55, 10, 112, 117, 115, 104, 32, 97, 48, 32, 114, 48, 10, 104, 97, 108, 116]
theorem live16_parse : parseF liveS16 = (strC [7], 4, 0) := by decide +kernel
theorem bl_live16 : bl (⟨#[99, 111, 100, 101, 32, 49, 32, 49, 32, 48, 10, 115, 101, 116, 32, 114, 48, 32, 55, 10, 112, 117, 115, 104, 32, 97, 48, 32, 114, 48, 10, 104, 97, 108, 116]⟩ : ByteArray) = liveS16 := rfl
theorem live16_may : (strC [7]).may = true := strC_may (by decide) (by intro n hn; rw [List.mem_singleton] at hn; subst hn; omega)
set_option maxRecDepth 100000 in
set_option maxHeartbeats 8000000 in
theorem live16_any (w : World) (hS : ShT w) : Calls Tryz.prog 4 #[] w fun e w' => e = .returned (.bool true) ∧ Below w.heap.size w w' := by
  have hP := codeParse_any ⟨#[99, 111, 100, 101, 32, 49, 32, 49, 32, 48, 10, 115, 101, 116, 32, 114, 48, 32, 55, 10, 112, 117, 115, 104, 32, 97, 48, 32, 114, 48, 10, 104, 97, 108, 116]⟩ w (by show 35 ≤ maxLen; unfold maxLen; omega) hS
  have HSh := Lib.hid hS
  clear hS
  unfold ParseP at hP
  rw [bl_live16, live16_parse] at hP
  have hl : (strC [7]).l.length = 3 := rfl
  replace hP : Calls Tryz.prog 16 #[.string ⟨#[99, 111, 100, 101, 32, 49, 32, 49, 32, 48, 10, 115, 101, 116, 32, 114, 48, 32, 55, 10, 112, 117, 115, 104, 32, 97, 48, 32, 114, 48, 10, 104, 97, 108, 116]⟩] w fun e w' => ∃ A' c', e = .returned (.tuple #[.agg #[.int .i64 1, .int .i64 1, .int .i64 0, .slice A' 3 c'], .int .i64 4, .int .i64 0]) ∧ OwnJ w' w.heap.size A' c' (strC [7]).l ∧ Below w.heap.size w w' := hP
  go_enter Tryz.func4, Tryz.ntmps4
  go_wp2_with fail
  refine hP.mono ?_
  rintro e v1 ⟨A1, c1, rfl, hO, hb⟩
  obtain ⟨w1, hw1⟩ : ∃ W, v1.alloc (.cells #[.int .i64 1, .int .i64 1, .int .i64 0, .slice A1 3 c1] 24) = W := ⟨_, rfl⟩
  obtain ⟨g, hg⟩ : ∃ z, v1.heap.size = z := ⟨_, rfl⟩
  have hb1 : Below v1.heap.size v1 w1 := by rw [← hw1]; exact lvBelow _ _
  have HB1 := Lib.hid (hb.trans (hb1.mono hb.size))
  have HX1 : Hid (w1.heap[g]? = some (.cells #[.int .i64 1, .int .i64 1, .int .i64 0, .slice A1 3 c1] 24 (0, 0))) := by rw [← hw1, ← hg]; exact heap_alloc_new _ _
  have HQ : Hid (Cq.In ⟨1, 1, 0, A1, 3, c1, (strC [7]).l⟩ w1) := OwnJ.cq (c := strC [7]) (hO.below hb1 (Nat.le_refl _)) live16_may
  have HW1 := Lib.hid hw1
  clear hP hO hb hb1 hw1
  go_upto_region 2 with fail
  try rw [HW1.out]
  try rw [hg]
  clear hg HW1
  obtain ⟨k0, k1, k2, k3, _⟩ := lvCells HX1.out
  obtain ⟨z, p, hr, hz1, hz2, hz3⟩ := runM_straight (xs := [7]) (n := 1) rfl (by decide) (by intro v hv; rw [List.mem_singleton] at hv; subst hv; omega)
  have hC := run16_any ⟨1, 1, 0, A1, 3, c1, (strC [7]).l⟩ 3 1 none 0 0 [] 0 w1 ⟨HQ.out, ⟨rfl, fun h0 => absurd h0 (by decide)⟩, (fun L hL => by cases hL), (fun L hL => by cases hL), by omega⟩ (HSh.out.on HB1.out)
  unfold RunO at hC
  rw [show runM (Cq.cd ⟨1, 1, 0, A1, 3, c1, (strC [7]).l⟩) 3 1 [] = .ok (z, p) from hr] at hC
  have HZ := Lib.hid (And.intro hz1 (And.intro hz2 hz3))
  clear hr hz1 hz2 hz3 hl
  go_wp2_with fail
  (with_reducible refine hC.mono ?_)
  rintro e w6 (⟨v, hr, _⟩ | ⟨z', p', i, a, gO, rs, hr, hi, ha, hia, rfl, hM6, hL6, hb6⟩)
  · cases hr
  injection hr with hr; injection hr with e1 e2
  subst e1; subst e2
  have hi : (0 : Int) = (i : Int) := hi
  have HIA : Hid (i = 0 ∧ a = 1) := ⟨by omega, by rw [← ha, HZ.out.1]; rfl⟩
  have HR6 := Lib.hid (rowsU_rq hM6 hL6 ha (by have := HIA.out.2; omega) (fun l hl => (by rw [HZ.out.1, List.mem_singleton] at hl; rw [hl]; decide)))
  obtain ⟨W7, hW7⟩ : ∃ W, w6.alloc (.cells #[.slice (some ⟨gO, 0, none⟩) (a - i) (a - i), .int .i64 (z.st : Int), .int .i64 (z.ce : Int)] 30) = W := ⟨_, rfl⟩
  obtain ⟨g7, hg7⟩ : ∃ z, w6.heap.size = z := ⟨_, rfl⟩
  have hb7 : Below w6.heap.size w6 W7 := by rw [← hW7]; exact lvBelow w6 _
  have HB6 := HB1.out.trans (hb6.mono HB1.out.size)
  have HB7 := Lib.hid (HB6.trans (hb7.mono HB6.size))
  have HY7 : Hid (W7.heap[g7]? = some (.cells #[.slice (some ⟨gO, 0, none⟩) (a - i) (a - i), .int .i64 (z.st : Int), .int .i64 (z.ce : Int)] 30 (0, 0))) := by rw [← hW7, ← hg7]; exact heap_alloc_new w6 _
  have HR7 := Lib.hid (HR6.out.on hb7)
  have HWQ := Lib.hid hW7
  clear hb6 hb7 HB6 hC hW7 hi ha hia hM6 hL6 k0 k1 k2 k3
  go_upto_region 3 with fail
  try rw [HWQ.out]
  try rw [hg7]
  clear HWQ hg7
  obtain ⟨y0, y1, y2⟩ := cells3U HY7.out
  have hb8 := lvBelow W7 (.cells #[.int .i64 7] 2)
  have hb9 := lvBelow (W7.alloc (.cells #[.int .i64 7] 2)) (.cells #[.slice (some ⟨W7.heap.size, 0, none⟩) 1 1] 28)
  have hb89 := hb8.trans (hb9.mono hb8.size)
  have HB9 := Lib.hid (HB7.out.trans (hb89.mono HB7.out.size))
  have h7 : Ints ((W7.alloc (.cells #[.int .i64 7] 2)).alloc (.cells #[.slice (some ⟨W7.heap.size, 0, none⟩) 1 1] 28)) ((W7.alloc (.cells #[.int .i64 7] 2)).alloc (.cells #[.slice (some ⟨W7.heap.size, 0, none⟩) 1 1] 28)).heap.size (some ⟨W7.heap.size, 0, none⟩) 1 [7] :=
    (ints_lit (keep_b hb9 (heap_alloc_new W7 _)) (by unfold I64; omega)).more (by simp only [World.size_alloc]; omega)
  have hL9 := one_list (heap_alloc_new (W7.alloc (.cells #[.int .i64 7] 2)) (.cells #[.slice (some ⟨W7.heap.size, 0, none⟩) 1 1] 28)) h7 (Nat.le_refl _)
  have hR9 := HR7.out.on hb89
  have HD : Hid (z.A.drop i = [[7]]) := by unfold Hid; rw [HIA.out.1, HZ.out.1]; rfl
  have hSm := sameListsU_any (some ⟨gO, 0, none⟩) _ (a - i) 1 (a - i) 1 (z.A.drop i) [[7]] _ _ hR9.out hL9 hR9.few (by omega) hR9.all (fun L hL => by rw [List.mem_singleton] at hL; rw [hL]; decide)
  rw [HD.out, decide_eq_true rfl, World.size_alloc] at hSm
  have e1 : ((z.st : Int) == 3) = true := by have := HZ.out.2.2; simp; omega
  have e2 : ((z.ce : Int) == 1) = true := by have := HZ.out.2.1; simp; omega
  clear hb8 hb9 hb89 h7 hL9 hR9
  go_wp2_with fail
  (with_reducible refine hSm.mono ?_)
  rintro e w9 ⟨rfl, q9, rfl⟩
  go_wp2_with fail
  go_ret
  exact ⟨rfl, below_N HB9.out _⟩
end Go.Proofs.YtgkngimeokhhgaaGreatDoor
/- purflelaw16.RunNeeds returns true. -/
namespace Go.Proofs.YtgkngimeokhhgaaGreatDoor
open Go.RowKit Go.Sort

theorem IntsLL.vals {w : World} {B n : Nat} {A : Option Addr} {LL : List (List Int)} (h : IntsLL w B A n LL) : ∀ L ∈ LL, ∀ v ∈ L, I64 v := fun L hL v hv => by
  obtain ⟨k, hk⟩ := List.getElem?_of_mem hL
  have hlt : k < n := by rw [← h.1]; exact (List.getElem?_eq_some_iff.1 hk).1
  obtain ⟨_, _, L2, _, _, _, _, h2, _, _, hI⟩ := h.at_ hlt
  have : L2 = L := by have := h2.out; rw [hk] at this; injection this with this; exact this.symm
  subst this
  exact hI.2.1 v hv
theorem few16_parts {q : Cq} {n : Nat} {LL : List (List Int)} (h : few16 q n LL = true) : q.n ≤ 300 ∧ n ≤ 200 ∧ ∀ L ∈ LL, L.length ≤ 2000 := by
  unfold few16 at h
  rw [Bool.and_eq_true, Bool.and_eq_true] at h
  obtain ⟨h1, h2, h3⟩ := h
  refine ⟨of_decide_eq_true h1, of_decide_eq_true h2, fun L hL => ?_⟩
  have h4 := sumLn_mem hL
  have h5 := of_decide_eq_true h3
  omega
/-- what is asked of a run of few numbers -/
theorem RunIn.small {q : Cq} {fuel : Int} {A : Option Addr} {n : Nat} {LL : List (List Int)} {w w' : World} (hq : q.In w) (h : IntsLL w w.heap.size A n LL) (hf : few16 q n LL = true) (hb : Below w.heap.size w w') (h1 : fuel ≤ 100000) : RunIn q fuel A n LL 2000 w' :=
  ⟨hq.on hb, (h.below hb).more hb.size, (few16_parts hf).2.2, h.vals, by omega⟩
end Go.Proofs.YtgkngimeokhhgaaGreatDoor
/- A call that hands back what a run came to, and a box for it that may be made ahead of the call or behind it. -/
namespace Go.Proofs.YtgkngimeokhhgaaGreatDoor
open Go.RowKit Go.Sort

/-- what a run hands back -/
structure Res5 where
  X : Option Addr
  n : Nat
  st : Int
  ce : Int
  er : Int
def Res5.agg (r : Res5) : Value := .agg #[.slice r.X r.n r.n, .int .i64 r.st, .int .i64 r.ce]
def Res5.tup (r : Res5) : Value := .tuple #[r.agg, .int .i64 r.er]
def Res5.obj (r : Res5) : Obj := .cells #[.slice r.X r.n r.n, .int .i64 r.st, .int .i64 r.ce] 30 (0, 0)
theorem Res5.inj {r r' : Res5} (h : r.tup = r'.tup) : r = r' := by
  unfold Res5.tup Res5.agg at h
  obtain ⟨X, n, st, ce, er⟩ := r
  obtain ⟨X', n', st', ce', er'⟩ := r'
  simp at h
  obtain ⟨⟨⟨h1, h2⟩, h3, h4⟩, h5⟩ := h
  subst h1; subst h2; subst h3; subst h4; subst h5
  rfl
/-- .. and what that says -/
def Res5.ok (r : Res5) (q : Cq) (fuel cells : Int) (ins : List (List Int)) : Prop :=
  (runM q.cd fuel cells ins = .error r.er ∧ r.n = 0 ∧ r.st = 0) ∨ (∃ z p i a, runM q.cd fuel cells ins = .ok (z, p) ∧ q.I = ((i : Nat) : Int) ∧ z.A.length = a ∧ i ≤ a ∧ r.er = 0 ∧ r.st = (z.st : Int) ∧ r.ce = (z.ce : Int) ∧ r.n = a - i)
def resZ : Obj := .cells #[.slice none 0 0, .int .i64 0, .int .i64 0] 30 (0, 0)
structure JnJ (W : World) (c : Nat) (F : Nat → Value) (Ok : Res5 → Prop) (D : Nat → Bool) (vs : Nat → Value) (w' : World) : Prop where
  bel : Below W.heap.size W w'
  vals : ∀ i, i < c → D i = true → vs i = F i
  call : D c = true → ∃ r : Res5, vs c = r.tup ∧ Ok r
  mv : D (c + 1) = true → D c = true ∧ vs (c + 1) = vs c
  e0 : D (c + 2) = true → D (c + 1) = true ∧ ∀ r : Res5, vs c = r.tup → vs (c + 2) = r.agg
  e1 : D (c + 3) = true → D (c + 1) = true ∧ ∀ r : Res5, vs c = r.tup → vs (c + 3) = .int .i64 r.er
  al : D (c + 4) = true → ∃ g, vs (c + 4) = .pointer (some ⟨g, 0, none⟩) ∧ W.heap.size ≤ g ∧ (D (c + 5) = false → w'.heap[g]? = some resZ) ∧ (D (c + 5) = true → ∀ r : Res5, vs c = r.tup → w'.heap[g]? = some r.obj)
  st : D (c + 5) = true → D (c + 2) = true ∧ D (c + 4) = true
  as_ : D (c + 6) = true → D (c + 3) = true ∧ ∀ r : Res5, vs c = r.tup → vs (c + 6) = .int .i64 r.er
section
variable {W w' w'' : World} {c : Nat} {F : Nat → Value} {Ok : Res5 → Prop} {D D' : Nat → Bool} {vs : Nat → Value}
/-- an operation that turns nothing that lies there -/
theorem JnJ.one (h : JnJ W c F Ok D vs w') {i : Nat} {u : Value} (hi : D i = false) (hD : ∀ j, j ≠ i → D' j = D j) (hDi : D' i = true)
    (h0 : i < c → u = F i) (h1 : i = c → ∃ r : Res5, u = r.tup ∧ Ok r) (h2 : i = c + 1 → D c = true ∧ u = vs c) (h3 : i = c + 2 → D (c + 1) = true ∧ ∀ r : Res5, vs c = r.tup → u = r.agg) (h4 : i = c + 3 → D (c + 1) = true ∧ ∀ r : Res5, vs c = r.tup → u = .int .i64 r.er) (h5 : i ≠ c + 4) (h6 : i ≠ c + 5) (h7 : i = c + 6 → D (c + 3) = true ∧ ∀ r : Res5, vs c = r.tup → u = .int .i64 r.er)
    (hb : Below w'.heap.size w' w'') : JnJ W c F Ok D' (fun j => if j = i then u else vs j) w'' := by
  have up : ∀ j, D j = true → D' j = true := fun j hj => by
    by_cases e : j = i
    · rw [e]; exact hDi
    · rw [hD j e]; exact hj
  have nc : D c = true → c ≠ i := fun h e => by rw [e, hi] at h; cases h
  have dn : i = c → D (c + 1) = false ∧ D (c + 2) = false ∧ D (c + 3) = false ∧ D (c + 5) = false ∧ D (c + 6) = false := fun e => by
    have f : D c = false := by rw [← e]; exact hi
    have f1 : D (c + 1) = false := by
      cases e1 : D (c + 1) with
      | false => rfl
      | true => rw [(h.mv e1).1] at f; cases f
    have f2 : D (c + 2) = false := by
      cases e1 : D (c + 2) with
      | false => rfl
      | true => rw [(h.e0 e1).1] at f1; cases f1
    have f3 : D (c + 3) = false := by
      cases e1 : D (c + 3) with
      | false => rfl
      | true => rw [(h.e1 e1).1] at f1; cases f1
    refine ⟨f1, f2, f3, ?_, ?_⟩
    · cases e1 : D (c + 5) with
      | false => rfl
      | true => rw [(h.st e1).1] at f2; cases f2
    · cases e1 : D (c + 6) with
      | false => rfl
      | true => rw [(h.as_ e1).1] at f3; cases f3
  refine ⟨h.bel.trans (hb.mono h.bel.size), fun j hj hd => ?_, fun hd => ?_, fun hd => ?_, fun hd => ?_, fun hd => ?_, fun hd => ?_, fun hd => ?_, fun hd => ?_⟩
  · by_cases e : j = i
    · show (if j = i then u else vs j) = _
      rw [if_pos e, e]; exact h0 (by omega)
    · show (if j = i then u else vs j) = _
      rw [if_neg e]; exact h.vals j hj (by rw [← hD j e]; exact hd)
  · by_cases e : c = i
    · rw [if_pos e]; exact h1 e.symm
    · rw [if_neg e]; exact h.call (by rw [← hD c e]; exact hd)
  · by_cases e : c + 1 = i
    · obtain ⟨a1, a2⟩ := h2 e.symm
      refine ⟨up c a1, ?_⟩
      rw [if_pos e, if_neg (nc a1)]; exact a2
    · rw [hD _ e] at hd
      obtain ⟨a1, a2⟩ := h.mv hd
      refine ⟨up c a1, ?_⟩
      rw [if_neg e, if_neg (nc a1)]; exact a2
  · by_cases e : c + 2 = i
    · obtain ⟨a1, a2⟩ := h3 e.symm
      have ac := (h.mv a1).1
      refine ⟨up _ a1, ?_⟩
      rw [if_pos e, if_neg (nc ac)]; exact a2
    · rw [hD _ e] at hd
      obtain ⟨a1, a2⟩ := h.e0 hd
      refine ⟨up _ a1, ?_⟩
      rw [if_neg e, if_neg (nc (h.mv a1).1)]; exact a2
  · by_cases e : c + 3 = i
    · obtain ⟨a1, a2⟩ := h4 e.symm
      refine ⟨up _ a1, ?_⟩
      rw [if_pos e, if_neg (nc (h.mv a1).1)]; exact a2
    · rw [hD _ e] at hd
      obtain ⟨a1, a2⟩ := h.e1 hd
      refine ⟨up _ a1, ?_⟩
      rw [if_neg e, if_neg (nc (h.mv a1).1)]; exact a2
  · have e : c + 4 ≠ i := fun e => h5 e.symm
    have e5 : c + 5 ≠ i := fun e => h6 e.symm
    rw [hD _ e] at hd
    obtain ⟨g, a1, a2, a3, a4⟩ := h.al hd
    refine ⟨g, by rw [if_neg e]; exact a1, a2, fun hf => ?_, fun ht => ?_⟩
    · rw [hD _ e5] at hf
      exact keep_b hb (a3 hf)
    · rw [hD _ e5] at ht
      have ac : D c = true := (h.mv (h.e0 (h.st ht).1).1).1
      rw [if_neg (nc ac)]
      exact fun r hr => keep_b hb (a4 ht r hr)
  · have e5 : c + 5 ≠ i := fun e => h6 e.symm
    rw [hD _ e5] at hd
    exact ⟨up _ (h.st hd).1, up _ (h.st hd).2⟩
  · by_cases e : c + 6 = i
    · obtain ⟨a1, a2⟩ := h7 e.symm
      refine ⟨up _ a1, ?_⟩
      rw [if_pos e, if_neg (nc (h.mv (h.e1 a1).1).1)]; exact a2
    · rw [hD _ e] at hd
      obtain ⟨a1, a2⟩ := h.as_ hd
      refine ⟨up _ a1, ?_⟩
      rw [if_neg e, if_neg (nc (h.mv (h.e1 a1).1).1)]; exact a2
theorem JnJ.box (h : JnJ W c F Ok D vs w') (hi : D (c + 4) = false) (hD : ∀ j, j ≠ c + 4 → D' j = D j) : JnJ W c F Ok D' (fun j => if j = c + 4 then .pointer (some ⟨w'.heap.size, 0, none⟩) else vs j) (w'.alloc resZ) := by
  have hb : Below w'.heap.size w' (w'.alloc resZ) := lvBelow w' resZ
  have f5 : D (c + 5) = false := by
    cases e1 : D (c + 5) with
    | false => rfl
    | true => rw [(h.st e1).2] at hi; cases hi
  have n : ∀ k, k ≠ 4 → c + k ≠ c + 4 := fun k hk => by omega
  have n0 : c ≠ c + 4 := by omega
  refine ⟨h.bel.trans (hb.mono h.bel.size), fun j hj hd => ?_, ?_, ?_, ?_, ?_, fun _ => ⟨_, if_pos rfl, h.bel.size, fun _ => heap_alloc_new w' _, fun ht => ?_⟩, fun hd => ?_, ?_⟩
  · have e : j ≠ c + 4 := by omega
    show (if j = c + 4 then _ else vs j) = _
    rw [if_neg e]; exact h.vals j hj (by rw [← hD j e]; exact hd)
  · rw [hD _ n0, if_neg n0]; exact h.call
  · rw [hD _ n0, hD _ (n 1 (by decide)), if_neg n0, if_neg (n 1 (by decide))]; exact h.mv
  · rw [hD _ (n 1 (by decide)), hD _ (n 2 (by decide)), if_neg n0, if_neg (n 2 (by decide))]; exact h.e0
  · rw [hD _ (n 1 (by decide)), hD _ (n 3 (by decide)), if_neg n0, if_neg (n 3 (by decide))]; exact h.e1
  · rw [hD _ (n 5 (by decide)), f5] at ht; cases ht
  · rw [hD _ (n 5 (by decide)), f5] at hd; cases hd
  · rw [hD _ (n 6 (by decide)), hD _ (n 3 (by decide)), if_neg n0, if_neg (n 6 (by decide))]; exact h.as_
theorem JnJ.store (h : JnJ W c F Ok D vs w') (hi : D (c + 5) = false) (h2 : D (c + 2) = true) (h4 : D (c + 4) = true) (hD : ∀ j, j ≠ c + 5 → D' j = D j) (hDs : D' (c + 5) = true) :
    ∃ (r : Res5) (g : Nat), vs (c + 2) = r.agg ∧ vs (c + 4) = .pointer (some ⟨g, 0, none⟩) ∧ w'.heap[g]? = some resZ ∧ ∀ (u : Value), JnJ W c F Ok D' (fun j => if j = c + 5 then u else vs j) (((w'.setCell ⟨g, 0, none⟩ (.slice r.X r.n r.n)).setCell ⟨g, 1, none⟩ (.int .i64 r.st)).setCell ⟨g, 2, none⟩ (.int .i64 r.ce)) := by
  have n : ∀ k, k ≠ 5 → c + k ≠ c + 5 := fun k hk => by omega
  have n0 : c ≠ c + 5 := by omega
  obtain ⟨g, a1, a2, a3, _⟩ := h.al h4
  obtain ⟨b1, b2⟩ := h.e0 h2
  obtain ⟨r, r1, r2⟩ := h.call (h.mv b1).1
  refine ⟨r, g, b2 r r1, a1, a3 hi, fun u => ⟨below_put3 h.bel a2 _ _ _, fun j hj hd => ?_, ?_, ?_, ?_, ?_, fun _ => ⟨g, by rw [if_neg (n 4 (by decide))]; exact a1, a2, fun hf => ?_, fun _ r' hr' => ?_⟩, fun _ => ?_, ?_⟩⟩
  · have e : j ≠ c + 5 := by omega
    show (if j = c + 5 then _ else vs j) = _
    rw [if_neg e]; exact h.vals j hj (by rw [← hD j e]; exact hd)
  · rw [hD _ n0, if_neg n0]; exact h.call
  · rw [hD _ n0, hD _ (n 1 (by decide)), if_neg n0, if_neg (n 1 (by decide))]; exact h.mv
  · rw [hD _ (n 1 (by decide)), hD _ (n 2 (by decide)), if_neg n0, if_neg (n 2 (by decide))]; exact h.e0
  · rw [hD _ (n 1 (by decide)), hD _ (n 3 (by decide)), if_neg n0, if_neg (n 3 (by decide))]; exact h.e1
  · rw [hDs] at hf; cases hf
  · rw [if_neg n0] at hr'
    obtain rfl := Res5.inj (r1.symm.trans hr')
    exact three_cellsV (a3 hi) _ _ _
  · rw [hD _ (n 2 (by decide)), hD _ (n 4 (by decide))]; exact ⟨h2, h4⟩
  · rw [hD _ (n 6 (by decide)), hD _ (n 3 (by decide)), if_neg n0, if_neg (n 6 (by decide))]; exact h.as_
theorem JnJ.same (h : JnJ W c F Ok D vs w') (hD : ∀ i, i < c + 7 → D i = D' i) : JnJ W c F Ok D' vs w' := by
  have ec := hD c (by omega); have e1 := hD (c + 1) (by omega); have e2 := hD (c + 2) (by omega); have e3 := hD (c + 3) (by omega); have e4 := hD (c + 4) (by omega); have e5 := hD (c + 5) (by omega); have e6 := hD (c + 6) (by omega)
  refine ⟨h.bel, fun j hj hd => h.vals j hj (by rw [hD j (by omega)]; exact hd), ?_, ?_, ?_, ?_, ?_, ?_, ?_⟩
  · rw [← ec]; exact h.call
  · rw [← e1, ← ec]; exact h.mv
  · rw [← e2, ← e1]; exact h.e0
  · rw [← e3, ← e1]; exact h.e1
  · rw [← e4, ← e5]; exact h.al
  · rw [← e5, ← e2, ← e4]; exact h.st
  · rw [← e6, ← e3]; exact h.as_
/-- at the end -/
theorem JnJ.done (h : JnJ W c F Ok D vs w') (hall : ∀ i, i < c + 7 → D i = true) : ∃ (r : Res5) (g : Nat), Ok r ∧ vs c = r.tup ∧ vs (c + 1) = r.tup ∧ vs (c + 2) = r.agg ∧ vs (c + 3) = .int .i64 r.er ∧ vs (c + 4) = .pointer (some ⟨g, 0, none⟩) ∧ vs (c + 6) = .int .i64 r.er ∧ w'.heap[g]? = some r.obj := by
  obtain ⟨r, r1, r2⟩ := h.call (hall c (by omega))
  obtain ⟨g, a1, _, _, a4⟩ := h.al (hall _ (by omega))
  exact ⟨r, g, r2, r1, (h.mv (hall _ (by omega))).2.trans r1, (h.e0 (hall _ (by omega))).2 r r1, (h.e1 (hall _ (by omega))).2 r r1, a1, (h.as_ (hall _ (by omega))).2 r r1, a4 (hall _ (by omega)) r r1⟩
end
end Go.Proofs.YtgkngimeokhhgaaGreatDoor
/- What runs hand on: lists of their own, that stay as the one of another is written to. -/
namespace Go.Proofs.YtgkngimeokhhgaaGreatDoor
open Go.RowKit Go.Sort

/-- lists laid behind T and ahead of U -/
structure OutB (w : World) (T U : Nat) (X : Option Addr) (n : Nat) (LL : List (List Int)) : Prop where
  len : LL.length = n
  few : n ≤ 128
  all : ∀ l ∈ LL, l.length ≤ 100000
  rows : 0 < n → ∃ (g i : Nat) (rs : List RowU), X = some ⟨g, i, none⟩ ∧ RowsU w T g rs ∧ (rs.map (·.L)).drop i = LL ∧ i + n = rs.length ∧ g < U ∧ ∀ r ∈ rs, ∀ b, r.A = some ⟨b, 0, none⟩ → b < U
section
variable {w w' : World} {T U n : Nat} {X : Option Addr} {LL : List (List Int)}
theorem OutB.rq (h : OutB w T U X n LL) (st ce : Int) : Rq.In ⟨X, n, n, LL, st, ce⟩ w := by
  refine ⟨?_, by have := h.few; show n ≤ 100000; omega, h.all⟩
  show IntsLL w w.heap.size X n LL
  by_cases h0 : 0 < n
  · obtain ⟨g, i, rs, hX, hr, hd, hi, _⟩ := h.rows h0
    have h1 := hr.reads.dropU (k := i) (by omega)
    rw [hd, Nat.zero_add, show rs.length - i = n by omega, ← hX] at h1
    exact h1
  · exact ⟨h.len, fun h1 => absurd h1 h0⟩
theorem OutB.below (h : OutB w T U X n LL) (hb : Below w.heap.size w w') : OutB w' T U X n LL := by
  refine ⟨h.len, h.few, h.all, fun h0 => ?_⟩
  obtain ⟨g, i, rs, hX, hr, hd, hi, hg, hu⟩ := h.rows h0
  exact ⟨g, i, rs, hX, hr.below hb (Nat.le_refl _), hd, hi, hg, hu⟩
theorem grown_setCell {b : Nat} (k : Nat) (v : Value) : w.grownBy (w.setCell ⟨b, k, none⟩ v) (some b) := ⟨rfl, rfl, rfl, by rw [World.size_setCell]; exact Nat.le_refl _, fun j _ hj => heap_setCell_other w _ j _ (fun e => hj (by rw [e]))⟩
theorem RowsU.far {g b : Nat} {rs : List RowU} (h : RowsU w T g rs) (hb : b < T) (k : Nat) (v : Value) : RowsU (w.setCell ⟨b, k, none⟩ v) T g rs := by
  have hG := grown_setCell (w := w) (b := b) k v
  have hg := h.heap.1
  refine ⟨World.ownsRow.kept h.rows hG (.inr (by simp only [Value.ownBlock, ne_eq, Option.some.injEq]; omega)), fun r hr => (h.ins r hr).grownL hG fun q hq e => ?_, h.apart⟩
  injection e with e
  subst e
  have hO := h.ins r hr
  rcases hO.1.2 with ⟨h1, _⟩ | ⟨g', cap, cur, h1, h2, _⟩
  · injection h1 with h1; rw [hq] at h1; cases h1
  · injection h1 with h1
    rw [hq] at h1
    injection h1 with h1; injection h1 with h1
    subst h1
    omega
theorem OutB.far {b : Nat} (h : OutB w T U X n LL) (hb : b < T) (k : Nat) (v : Value) : OutB (w.setCell ⟨b, k, none⟩ v) T U X n LL := by
  refine ⟨h.len, h.few, h.all, fun h0 => ?_⟩
  obtain ⟨g, i, rs, hX, hr, hd, hi, hg, hu⟩ := h.rows h0
  exact ⟨g, i, rs, hX, hr.far hb k v, hd, hi, hg, hu⟩
/-- the k-th list -/
theorem OutB.at_ {k : Nat} (h : OutB w T U X n LL) (hk : k < n) : ∃ (b o : Nat) (A : Option Addr) (c : Nat) (L : List Int), X = some ⟨b, o, none⟩ ∧ Hid (LL[k]? = some L) ∧ w.cell? ⟨b, o + k, none⟩ = some (.slice A L.length c) ∧ L.length ≤ c ∧ L.length ≤ 100000 := by
  obtain ⟨b, o, L, a, c, hX, _, hL, hc, hlc, _⟩ := (h.rq 0 0).out.at_ hk
  exact ⟨b, o, a, c, L, hX, hL, hc, hlc, h.all _ (List.mem_of_getElem? hL.out)⟩
/-- one number of the k-th list is another -/
theorem OutB.cell {k j : Nat} {L : List Int} (h : OutB w T U X n LL) (hk : Hid (LL[k]? = some L)) (hj : j < L.length) :
    ∃ (g i b c : Nat) (x : Int), X = some ⟨g, i, none⟩ ∧ w.cell? ⟨g, i + k, none⟩ = some (.slice (some ⟨b, 0, none⟩) L.length c) ∧ w.cell? ⟨b, j, none⟩ = some (.int .i64 x) ∧ w.frozen? ⟨b, j, none⟩ = false ∧ L.length ≤ c ∧ T ≤ b ∧ b < U ∧ ∀ v, -9223372036854775808 ≤ v ∧ v ≤ 9223372036854775807 → OutB (w.setCell ⟨b, j, none⟩ (.int .i64 v)) T U X n (LL.set k (L.set j v)) := by
  have hk := hk.out
  have hkn := (List.getElem?_eq_some_iff.1 hk).1
  obtain ⟨g, i, rs, hX, hr, hd, hi, hg, hu⟩ := h.rows (by have := h.len; omega)
  have hrl : i + k < rs.length := by have := h.len; omega
  have hrk : rs[i + k]? = some rs[i + k] := List.getElem?_eq_getElem hrl
  obtain ⟨r, hre⟩ : ∃ r, rs[i + k] = r := ⟨_, rfl⟩
  rw [hre] at hrk
  have hL : r.L = L := by
    have h1 := hk
    rw [← hd, List.getElem?_drop, List.getElem?_map, hrk] at h1
    injection h1
  subst hL
  have hrm := List.mem_of_getElem? hrk
  obtain ⟨b, hA, hTb, _, hfz, _⟩ := hr.cell (v := 0) hrk hj ⟨by decide, by decide⟩
  have hO := hr.ins r hrm
  have hcap := OwnI.len_cap hO
  have hO2 : OwnI w T 2 (some ⟨b, 0, none⟩) r.c r.L := by rw [← hA]; exact hO
  obtain ⟨c0, _⟩ := hO2.cell_ (List.getElem?_eq_getElem hj)
  obtain ⟨h0, _⟩ := hr.at_ hrk
  have h0 : w.cell? ⟨g, i + k, none⟩ = some (.slice r.A r.L.length r.c) := h0
  rw [hA] at h0
  refine ⟨g, i, b, r.c, _, hX, h0, c0, hfz, hcap, hTb, hu r hrm b hA, fun v hv => ?_⟩
  obtain ⟨b2, hA2, _, _, _, hR⟩ := hr.cell (v := v) hrk hj hv
  rw [hA] at hA2
  injection hA2 with hA2; injection hA2 with hA2
  subst hA2
  refine ⟨by rw [List.length_set]; exact h.len, h.few, fun l hl => ?_, fun _ => ⟨g, i, _, hX, hR, ?_, by rw [List.length_set]; exact hi, hg, fun s hs b3 hb3 => ?_⟩⟩
  · rcases List.mem_or_eq_of_mem_set hl with h1 | h1
    · exact h.all l h1
    · rw [h1, List.length_set]; exact h.all _ (List.mem_of_getElem? hk)
  · rw [← hd, List.map_set, List.drop_set, if_neg (by omega), Nat.add_sub_cancel_left]
  · rcases List.mem_or_eq_of_mem_set hs with h1 | h1
    · exact hu s h1 b3 hb3
    · subst h1; exact hu r hrm b3 hb3
end
end Go.Proofs.YtgkngimeokhhgaaGreatDoor
