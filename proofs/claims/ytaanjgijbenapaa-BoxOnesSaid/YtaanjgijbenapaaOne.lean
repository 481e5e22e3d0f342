/- purflelaw01.BoxOne returns true at every input, and nothing that lay there has turned: the place of a number has that number; the next number's place is the next one. -/
import Derived.Test.YtaanjgijbenapaaPlaces
namespace Go.Proofs.Ytaanjgijbenapaa
open Go.RowKit

/-- the next place, the last mode first; whether it went around -/
def inc : List Int → List Int → List Int × Bool
  | s :: l, c :: d => if (inc l d).2 = true then (if c + 1 < s then ((c + 1) :: (inc l d).1, false) else (0 :: (inc l d).1, true)) else (c :: (inc l d).1, false)
  | _, _ => ([], true)
theorem inc_spec {xs cs : List Int} (h : Inn xs cs) : Inn xs (inc xs cs).1 ∧ ((inc xs cs).2 = false → numR xs (inc xs cs).1 = numR xs cs + 1) ∧ ((inc xs cs).2 = true → numR xs (inc xs cs).1 = 0 ∧ numR xs cs = prodI xs - 1) := by
  induction xs generalizing cs with
  | nil => cases cs with
    | nil => simp [inc, Inn, numR, prodI]
    | cons _ _ => exact h.elim
  | cons s l ih => cases cs with
    | nil => exact h.elim
    | cons c d =>
      obtain ⟨i1, i2, i3⟩ := ih h.2.2
      have h0 := h.1
      have h1 := h.2.1
      by_cases hc : (inc l d).2 = true
      · obtain ⟨j1, j2⟩ := i3 hc
        by_cases hs : c + 1 < s
        · simp only [inc, hc, hs, if_true]
          refine ⟨⟨by omega, hs, i1⟩, fun _ => ?_, fun hh => (by cases hh)⟩
          simp only [numR]
          rw [j1, j2, Int.add_mul]
          omega
        · simp only [inc, hc, hs, if_true, if_false]
          refine ⟨⟨by omega, by omega, i1⟩, fun hh => (by cases hh), fun _ => ?_⟩
          simp only [numR, prodI]
          rw [j1, j2]
          obtain rfl : c = s - 1 := by omega
          rw [Int.sub_mul]
          omega
      · simp only [inc, hc, if_false, Bool.false_eq_true]
        refine ⟨⟨h0, h1, i1⟩, fun _ => ?_, fun hh => (by cases hh)⟩
        simp only [numR]
        rw [i2 (by simpa using hc)]
        omega
theorem placeR_numR {xs cs : List Int} (h : Inn xs cs) : placeR xs (numR xs cs) = cs := by
  suffices hh : ∀ q : Int, placeR xs (q * prodI xs + numR xs cs) = cs by simpa using hh 0
  induction xs generalizing cs with
  | nil => cases cs with
    | nil => simp [placeR]
    | cons _ _ => exact h.elim
  | cons s l ih => cases cs with
    | nil => exact h.elim
    | cons c d =>
      intro q
      have hb := h.2.2.bound
      have hp : 1 ≤ prodI l := by omega
      have h0 := h.1
      have h1 := h.2.1
      have e : q * (s * prodI l) + (c * prodI l + numR l d) = (q * s + c) * prodI l + numR l d := by rw [Int.add_mul, Int.mul_assoc]; omega
      simp only [placeR, numR, prodI]
      rw [e, ih h.2.2 (q * s + c)]
      congr 1
      rw [Int.add_comm, Int.add_mul_ediv_right _ _ (by omega), Int.ediv_eq_zero_of_lt hb.1 hb.2, Int.zero_add, Int.add_comm, Int.add_mul_emod_self_right]
      exact Int.emod_eq_of_lt h0 h1
theorem inc_drop {xs cs : List Int} {k : Nat} {x y : Int} (hx : xs[k]? = some x) (hy : cs[k]? = some y) (hc : (inc (xs.drop (k + 1)) (cs.drop (k + 1))).2 = true) :
    inc (xs.drop k) (cs.drop k) = if y + 1 < x then ((y + 1) :: (inc (xs.drop (k + 1)) (cs.drop (k + 1))).1, false) else (0 :: (inc (xs.drop (k + 1)) (cs.drop (k + 1))).1, true) := by
  rw [drop_of hx, drop_of hy, inc, if_pos hc]
theorem inc_out {xs cs e : List Int} (hl : xs.length = cs.length) (k : Nat) (hk : k ≤ xs.length) (h : inc (xs.drop k) (cs.drop k) = (e, false)) : inc xs cs = (cs.take k ++ e, false) := by
  induction k generalizing xs cs with
  | zero => simpa using h
  | succ k ih => cases xs with
    | nil => simp at hk
    | cons s l => cases cs with
      | nil => simp at hl
      | cons c d =>
        have := ih (xs := l) (cs := d) (by simpa using hl) (by simpa using hk) (by simpa using h)
        rw [inc, this]
        simp
/-- the list when the last k places have gone around -/
def gone (cs : List Int) (k : Nat) : List Int := cs.take (cs.length - k) ++ List.replicate k 0
theorem gone_length {cs : List Int} {k : Nat} (hk : k ≤ cs.length) : (gone cs k).length = cs.length := by simp [gone]; omega
theorem gone_at {cs : List Int} {k i : Nat} (hi : i < cs.length - k) : (gone cs k)[i]? = cs[i]? := by
  unfold gone
  rw [List.getElem?_append_left (by rw [List.length_take]; omega), List.getElem?_take, if_pos hi]
theorem gone_set {cs : List Int} {k : Nat} (hk : k < cs.length) (v : Int) : (gone cs k).set (cs.length - 1 - k) v = cs.take (cs.length - 1 - k) ++ v :: List.replicate k 0 := by
  unfold gone
  have e : cs.length - k = cs.length - 1 - k + 1 := by omega
  have hx : cs[cs.length - 1 - k]? = some (cs[cs.length - 1 - k]'(by omega)) := List.getElem?_eq_getElem (by omega)
  rw [e, take_succ_of hx, List.append_assoc, List.set_append_right _ _ (by rw [List.length_take]; omega)]
  congr 1
  rw [List.length_take, Nat.min_eq_left (by omega), Nat.sub_self]
  rfl
theorem gone_succ {cs : List Int} {k : Nat} (hk : k < cs.length) : (gone cs k).set (cs.length - 1 - k) 0 = gone cs (k + 1) := by
  rw [gone_set hk]
  unfold gone
  have e : cs.length - (k + 1) = cs.length - 1 - k := by omega
  rw [e, List.replicate_succ]

theorem insideF_of_inn {xs cs : List Int} (h : Inn xs cs) : insideF xs cs = true := by
  induction xs generalizing cs with
  | nil => cases cs with
    | nil => rfl
    | cons _ _ => exact h.elim
  | cons s l ih => cases cs with
    | nil => exact h.elim
    | cons c d =>
      have := ih h.2.2
      have h0 := h.1
      have h1 := h.2.1
      simp [insideF, badAt] at this ⊢
      exact ⟨this.1, ⟨by omega, by omega⟩, this.2⟩
theorem cellsF_err {xs : List Int} (h : (cellsF xs).2 ≠ 0) : (cellsF xs).1 = 0 := by
  unfold cellsF at h ⊢
  split
  · rfl
  · rename_i h1
    rw [if_neg h1] at h
    split
    · rfl
    · rename_i h2
      rw [if_neg h2] at h
      have key : ∀ (l : List Int) (q : Int), (cellsGo l q).2 ≠ 0 → (cellsGo l q).1 = 0 := by
        intro l
        induction l with
        | nil => intro q hq; simp [cellsGo] at hq
        | cons s l ih =>
          intro q hq
          unfold cellsGo at hq ⊢
          split
          · rfl
          · rename_i hb; rw [if_neg hb] at hq; exact ih _ hq
      exact key _ _ h
theorem lt_of_cell' {w : World} {a : Addr} {v : Value} (h : w.cell? a = some v) : a.block < w.heap.size := by
  rcases Nat.lt_or_ge a.block w.heap.size with hlt | hge
  · exact hlt
  · have : w.heap[a.block]? = none := Array.getElem?_eq_none hge
    simp [World.cell?, this] at h
theorem OwnI.some_ {w : World} {base : Nat} {e : TypeId} {A : Option Addr} {c : Nat} {xs : List Int} (h : OwnI w base e A c xs) (hp : 0 < xs.length) : ∃ g, A = some ⟨g, 0, none⟩ ∧ base ≤ g ∧ g < w.heap.size := by
  rcases h.1.2 with ⟨_, h0⟩ | ⟨g, cap, cur, hv, hb, _⟩
  · omega
  · have hA : A = some ⟨g, 0, none⟩ := by injection hv
    subst hA
    exact ⟨g, rfl, hb, (h.1.lt g rfl).2⟩
theorem OwnI.set_ {w : World} {base g : Nat} {e : TypeId} {c : Nat} {xs : List Int} (h : OwnI w base e (some ⟨g, 0, none⟩) c xs) (j : Nat) (v : Int) (hv : -9223372036854775808 ≤ v ∧ v ≤ 9223372036854775807) :
    OwnI (w.setCell ⟨g, j, none⟩ (.int .i64 v)) base e (some ⟨g, 0, none⟩) c (xs.set j v) := by
  refine ⟨?_, fun x hx => ?_⟩
  · have := (h.1.stored j (.int .i64 v)).1
    rw [← List.map_set] at this
    rw [List.length_set]
    exact this
  · rcases List.mem_or_eq_of_mem_set hx with hx | rfl
    · exact h.2 x hx
    · exact hv
theorem OwnI.far {w : World} {base g : Nat} {e : TypeId} {A : Option Addr} {c : Nat} {xs : List Int} (h : OwnI w base e A c xs) (hg : g < base) (j : Nat) (u : Value) : OwnI (w.setCell ⟨g, j, none⟩ u) base e A c xs :=
  ⟨ownsRow_setCell_below h.1 (a := ⟨g, j, none⟩) hg u, h.2⟩
theorem OwnI.cell_ {w : World} {base g k : Nat} {e : TypeId} {c : Nat} {xs : List Int} {x : Int} (h : OwnI w base e (some ⟨g, 0, none⟩) c xs) (hx : xs[k]? = some x) : w.cell? ⟨g, k, none⟩ = some (.int .i64 x) ∧ w.frozen? ⟨g, k, none⟩ = false := by
  have hk := (List.getElem?_eq_some_iff.1 hx).1
  exact ⟨(h.1.cellAt k (by omega)).trans (by simp [hx]), h.1.frozenAt k⟩

set_option maxRecDepth 100000 in
set_option maxHeartbeats 1000000 in
theorem boxOne_small (A : Option Addr) (n c : Nat) (xs : List Int) (v : Int) (w : World) (h : Ints w w.heap.size A n xs) (hn : n ≤ 9223372036854775807) (hN : (cellsF xs).1 = 0) :
    Calls Try.prog 6 #[.slice A n c, .int .i64 v] w fun e w' => e = .returned (.bool true) ∧ Below w.heap.size w w' := by
  have hL := fun W => live_any W
  have hC := fun W (hb : Below w.heap.size w W) => cells_any A n c xs W w.heap.size (h.below hb) hn
  rw [hN] at hC
  obtain ⟨E, hE⟩ : ∃ E, (cellsF xs).2 = E := ⟨_, rfl⟩
  rw [hE] at hC
  clear hE hN
  by_cases he : E = 0
  · subst he
    go_enter Try.func6, Try.ntmps6
    go_wp2_with (first | (go_at_call 11; refine (hL _).mono ?_; rintro e w1 ⟨rfl, hb1⟩) | (go_at_call 12; refine (hC _ hb1).mono ?_; rintro e w' ⟨rfl, rfl⟩))
    go_ret
    exact ⟨rfl, hb1⟩
  · have he1 : (E == 0) = false := by simpa using he
    have he2 : (E != 0) = true := by simpa using he
    clear he
    go_enter Try.func6, Try.ntmps6
    go_wp2_with (first | (go_at_call 11; refine (hL _).mono ?_; rintro e w1 ⟨rfl, hb1⟩) | (go_at_call 12; refine (hC _ hb1).mono ?_; rintro e w' ⟨rfl, rfl⟩))
    go_ret
    exact ⟨rfl, hb1⟩

set_option maxRecDepth 100000 in
set_option maxHeartbeats 2000000 in
theorem boxOne_big (A : Option Addr) (n c : Nat) (xs : List Int) (v N t u : Int) (w : World) (h : Ints w w.heap.size A n xs) (hn : n ≤ 9223372036854775807) (hcf : (cellsF xs).2 = 0) (hN : (cellsF xs).1 = N) (hN1 : 1 ≤ N) (hN2 : N ≤ 4611686018427387903)
    (ht : v.tmod N = t) (ht1 : -N < t) (ht2 : t < N) (hu : (t + N) % N = u) (hu0 : 0 ≤ u) (huN : u < N) :
    Calls Try.prog 6 #[.slice A n c, .int .i64 v] w fun e w' => e = .returned (.bool true) ∧ Below w.heap.size w w' := by
  have hp : ∀ x ∈ xs, 1 ≤ x := cellsF_nz hcf (by rw [hN]; omega)
  have hpr := cellsF_ok_pos hcf hp
  rw [hN] at hpr
  have hn4 : n ≤ 4 := by have := (cellsF_ok hcf).1; rw [h.1] at this; exact this
  have hL := fun W => live_any W
  have hC := fun W (hb : Below w.heap.size w W) => cells_any A n c xs W w.heap.size (h.below hb) hn
  rw [hcf, hN] at hC
  have hF1 : coordF xs u = (placeR xs u, 0) := by unfold coordF; rw [if_pos hcf, hN, if_pos ⟨hu0, by omega⟩]
  have hF2 : u + 1 = N → coordF xs (u + 1) = ([], 3) := fun hh => by unfold coordF; rw [if_pos hcf, hN, if_neg (by omega)]
  have hF3 : u + 1 < N → coordF xs (u + 1) = (placeR xs (u + 1), 0) := fun hh => by unfold coordF; rw [if_pos hcf, hN, if_pos ⟨by omega, hh⟩]
  have hK := fun W (hb : Below w.heap.size w W) => coord_any A n c xs u W ((h.below hb).more hb.size) hn
  have hK2 := fun W (hb : Below w.heap.size w W) => coord_any A n c xs (u + 1) W ((h.below hb).more hb.size) hn
  rw [hF1] at hK
  have hl : (placeR xs u).length = n := by rw [placeR_length]; exact h.1
  obtain ⟨P, hP⟩ : ∃ P, placeR xs u = P := ⟨_, rfl⟩
  have hI := placeR_inn hp u
  have hnum := numR_placeR hp u
  have hFA : atF xs (placeR xs u) = (u, 0) := by unfold atF; rw [if_pos hcf, if_pos (insideF_of_inn hI), hnum, ← hpr.1, Int.emod_eq_of_lt hu0 (by omega)]
  rw [hP] at hK hl hFA hI
  have hA := fun W A2 c2 (hb : Below w.heap.size w W) (h2 : Ints W W.heap.size A2 P.length P) => at_any A A2 n P.length c c2 xs P W ((h.below hb).more hb.size) h2 hn (by omega)
  rw [hFA] at hA
  have HI := Lib.hid hI
  rw [hl] at hK hA
  have hI1 : ∀ {W : World} {base : Nat} {e : TypeId} {A' : Option Addr} {c' : Nat}, OwnI W base e A' c' P → Ints W W.heap.size A' n P := fun ho => by have := ho.ints; rwa [hl] at this
  have HLn := Lib.hid hl
  have HP := Lib.hid hP
  have HNM := Lib.hid hnum
  have HPR := Lib.hid hpr.1
  clear hF1 hcf hN hpr hP hnum hFA hI hl
  have hp0 : Below w.heap.size w w := Below.refl _ _
  go_enter Try.func6, Try.ntmps6
  go_wp2_with (first | (go_at_call 11; refine (hL _).mono ?_; rintro e w1 ⟨rfl, hb1⟩) | (go_at_call 12; refine (hC _ hb1).mono ?_; rintro e w' ⟨rfl, rfl⟩) | (go_at_call 16; refine (hK _ hb1).mono ?_; rintro e w2 ⟨A2, c2, rfl, HO2, hb2⟩; have hb3 := hb1.trans (hb2.mono hb1.size)) | (go_at_call 14; refine (hA _ A2 c2 hb3 (hI1 HO2)).mono ?_; rintro e w4 ⟨rfl, hb4⟩; have hb5 := hb3.trans (hb4.mono hb3.size)))
  have hI4 := (hI1 HO2).below hb4
  have hS4 := h.below hb5
  have HH2 := Lib.hid (And.intro hF2 hF3)
  clear hF2 hF3 hK hA hC hL
  go_loop [75] (fun i => ∃ k : Nat, k ≤ n ∧ i = .int .i64 k) (fun i => n - (intOf i).toNat)
  case atStart => exact ⟨0, Nat.zero_le _, rfl⟩
  case round =>
    obtain ⟨k, hk, rfl⟩ := hrel
    by_cases hlt : k < n
    · obtain ⟨b, off, x, rfl, _, HX, hc, hx1, hx2⟩ := hS4.at_ hlt
      obtain ⟨b2, off2, y, rfl, _, HY, hc2, hy1, hy2⟩ := hI4.at_ hlt
      have hxy := HI.out.at_ HX.out HY.out
      have hy3 := hxy.1
      have hy4 := hxy.2
      clear hxy
      go_wp2
      go_round
      case rel => exact ⟨k + 1, by omega, by go_num⟩
      case measure => simp [intOf]; omega
    · by_cases hun : u + 1 = N
      · have hF := HH2.out.1 hun
        rw [hF] at hK2
        simp only [List.length_nil] at hK2
        clear hF
        have hmod : (u + 1 == N) = true := by simpa using hun
        clear hun
        go_wp2_with (go_at_call 16; refine (hK2 _ hb5).mono ?_; rintro e w6 ⟨A6, c6, rfl, HO6, hb6⟩; have hb7 := hb5.trans (hb6.mono hb5.size))
        go_ret
        exact ⟨rfl, hb7⟩
      · have hF := HH2.out.2 (by omega)
        have hQl : (placeR xs (u + 1)).length = n := by rw [placeR_length]; exact h.1
        obtain ⟨Q, hQ⟩ : ∃ Q, placeR xs (u + 1) = Q := ⟨_, rfl⟩
        rw [hF, hQ] at hK2
        rw [hQ] at hQl
        dsimp only at hK2
        rw [hQl] at hK2
        have HQL := Lib.hid hQl
        have HQ := Lib.hid hQ
        clear hF hQl hQ
        have hmod : (u + 1 == N) = false := by simpa using hun
        have hn0 : 0 < n := by
          rcases Nat.eq_zero_or_pos n with h0 | h0
          · exfalso
            have hx0 : xs = [] := List.eq_nil_of_length_eq_zero (h.1.trans h0)
            have := HPR.out
            rw [hx0] at this
            simp [prodI] at this
            omega
          · exact h0
        have HUN := Lib.hid hun
        clear hun
        go_wp2_with (go_at_call 16; refine (hK2 _ hb5).mono ?_; rintro e w6 ⟨A6, c6, rfl, HO6, hb6⟩; have hb7 := hb5.trans (hb6.mono hb5.size))
        obtain ⟨g, rfl, hgb, hgl⟩ := HO2.some_ (by rw [HLn.out]; exact hn0)
        have hO4 := HO2.below hb4 (Nat.le_refl _)
        have hs24 := hb4.size
        have hO6 := hO4.below hb6 (Nat.le_refl _)
        have hgB : w.heap.size ≤ g := Nat.le_trans hb1.size hgb
        clear hS4 hI4 hI1 hK2 hO4 hlt hk hmod
        have hXn := Lib.hid h.1
        go_loopw [18] (fun m wr => ∃ (k : Nat) (j : Int), k ≤ n ∧ j = (n : Int) - 1 - k ∧ m = .int .i64 j ∧ Hid (inc (xs.drop (n - k)) (P.drop (n - k)) = (List.replicate k 0, true)) ∧ OwnI wr w1.heap.size 3 (some ⟨g, 0, none⟩) c2 (gone P k) ∧ OwnI wr w4.heap.size 3 A6 c6 Q ∧ Below w.heap.size w wr) (fun m _ => (intOf m + 1).toNat)
        case atStart => exact ⟨0, (n : Int) - 1, Nat.zero_le _, by omega, rfl, by unfold Hid; rw [Nat.sub_zero, List.drop_of_length_le (by rw [hXn.out]; omega), List.drop_of_length_le (by rw [HLn.out]; omega)]; rfl, by simpa [gone] using hO6, HO6, hb7⟩
        case round =>
          obtain ⟨k, j, hk, hj, rfl, HC, hOc, hOq, hB⟩ := hrel
          by_cases hlt : k < n
          · have hS := h.below hB
            obtain ⟨b, off, x, rfl, hbb, HX, hcx, hx1, hx2⟩ := hS.at_ (k := n - 1 - k) (by omega)
            obtain ⟨y, hy⟩ : ∃ y, P[n - 1 - k]? = some y := ⟨_, List.getElem?_eq_getElem (by rw [HLn.out]; omega)⟩
            have hxy := HI.out.at_ HX.out hy
            have hy3 := hxy.1
            have hy4 := hxy.2
            have hgo : (gone P k)[n - 1 - k]? = some y := by rw [gone_at (by rw [HLn.out]; omega)]; exact hy
            obtain ⟨hcy, hfy⟩ := hOc.cell_ hgo
            have hj0 : 0 ≤ j := by omega
            have hj1 : j < n := by omega
            have hjt : j.toNat = n - 1 - k := by omega
            have hcx' : wr.cell? ⟨b, off + j.toNat, none⟩ = some (.int .i64 x) := by rw [hjt]; exact hcx
            rw [← hjt] at hcy hfy
            have hstep := inc_drop HX.out hy (by rw [show n - 1 - k + 1 = n - k by omega, HC.out])
            rw [show n - 1 - k + 1 = n - k by omega, HC.out] at hstep
            have hw : IntKind.i64.wrap (y + 1) = y + 1 := by rw [wrap_eq]; exact IntWalk.wrap64_in _ ⟨by omega, by omega⟩
            have hgw : g < wr.heap.size := by have := hB.size; have := lt_of_cell' hcy; exact this
            by_cases hlt2 : y + 1 < x
            · rw [if_pos hlt2] at hstep
              have hout := inc_out (xs := xs) (cs := P) (by rw [hXn.out, HLn.out]) (n - 1 - k) (by rw [hXn.out]; omega) hstep
              have hsp := inc_spec HI.out
              rw [hout] at hsp
              dsimp only at hsp
              have hQ2 : Q = P.take (n - 1 - k) ++ (y + 1) :: List.replicate k 0 := by
                rw [← HQ.out]
                have e1 := hsp.2.1 rfl
                rw [← placeR_numR hsp.1, e1]
                congr 1
                rw [← HP.out, HNM.out, ← HPR.out, Int.emod_eq_of_lt hu0 huN]
              have hset : OwnI (wr.setCell ⟨g, j.toNat, none⟩ (.int .i64 (y + 1))) w1.heap.size 3 (some ⟨g, 0, none⟩) c2 Q := by
                have := hOc.set_ j.toNat (y + 1) ⟨by omega, by omega⟩
                rw [hjt, show n - 1 - k = P.length - 1 - k by rw [HLn.out], gone_set (by rw [HLn.out]; omega)] at this
                rw [hQ2, hjt, show n - 1 - k = P.length - 1 - k by rw [HLn.out]]
                exact this
              have hoq2 := hOq.far (g := g) (by omega) j.toNat (.int .i64 (y + 1))
              have hQE := fun W (h1 : Ints W W.heap.size (some ⟨g, 0, none⟩) n Q) (h2 : Ints W W.heap.size A6 n Q) => refEqual_any (some ⟨g, 0, none⟩) A6 n n c2 c6 Q Q W W.heap.size h1 h2 (by omega) (by omega)
              simp only [decide_true] at hQE
              have hi1 := hset.ints
              have hi2 := hoq2.ints
              rw [HQL.out] at hi1 hi2
              have hd : decide (y + 1 < x) = true := by simpa using hlt2
              clear hsp hout hstep hgo hy hjt hcx hS hQ2 hj hOc hOq hxy
              go_wp2
              go_quiet (fail)
              go_wp2_with (go_at_call 18; refine (hQE _ (by exact hi1) (by exact hi2)).mono ?_; rintro e w9 ⟨rfl, m9, rfl⟩)
              go_ret
              exact ⟨rfl, below_drewN ((below_drewN hB _).setCell (p := ⟨g, j.toNat, none⟩) hgB _) _⟩
            · have hlt3 : x ≤ y + 1 := by omega
              rw [if_neg hlt2] at hstep
              have hset : OwnI (wr.setCell ⟨g, j.toNat, none⟩ (.int .i64 0)) w1.heap.size 3 (some ⟨g, 0, none⟩) c2 (gone P (k + 1)) := by
                have := hOc.set_ j.toNat 0 ⟨by omega, by omega⟩
                rw [hjt, show n - 1 - k = P.length - 1 - k by rw [HLn.out], gone_succ (by rw [HLn.out]; omega)] at this
                rw [hjt, show n - 1 - k = P.length - 1 - k by rw [HLn.out]]
                exact this
              have hoq2 := hOq.far (g := g) (by omega) j.toNat (.int .i64 0)
              have hB2 := hB.setCell (p := ⟨g, j.toNat, none⟩) hgB (.int .i64 0)
              have hd : decide (y + 1 < x) = false := by simpa using hlt3
              have HC' : Hid (inc (xs.drop (n - (k + 1))) (P.drop (n - (k + 1))) = (List.replicate (k + 1) 0, true)) := by
                unfold Hid
                rw [show n - (k + 1) = n - 1 - k by omega, hstep, List.replicate_succ]
              have HJ := Lib.hid hj
              clear hlt2 hstep hgo hy hjt hcx hS hj hB hOc hOq hxy HC
              go_wp2
              go_quiet (fail)
              go_wp2
              go_roundw
              case rel => exact ⟨k + 1, j - 1, by omega, by have := HJ.out; omega, rfl, HC', by exact hset, by exact hoq2, below_drewN (by exact hB2) _⟩
              case measure => simp [intOf]; omega
          · exfalso
            have hkn : k = n := by omega
            have hc := HC.out
            rw [hkn, Nat.sub_self, List.drop_zero, List.drop_zero] at hc
            have hsp := inc_spec HI.out
            rw [hc] at hsp
            dsimp only at hsp
            have h2 := (hsp.2.2 rfl).2
            rw [← HP.out, HNM.out, ← HPR.out, Int.emod_eq_of_lt hu0 huN] at h2
            exact HUN.out (by omega)

theorem boxOne_any (A : Option Addr) (n c : Nat) (xs : List Int) (v : Int) (w : World) (h : Ints w w.heap.size A n xs) (hn : n ≤ 9223372036854775807) :
    Calls Try.prog 6 #[.slice A n c, .int .i64 v] w fun e w' => e = .returned (.bool true) ∧ Below w.heap.size w w' := by
  by_cases hN : (cellsF xs).1 = 0
  · exact boxOne_small A n c xs v w h hn hN
  · have hcf : (cellsF xs).2 = 0 := by
      rcases Classical.em ((cellsF xs).2 = 0) with h0 | h0
      · exact h0
      · exact absurd (cellsF_err h0) hN
    have hp := cellsF_nz hcf hN
    have hpr := cellsF_ok_pos hcf hp
    have h1 : 1 ≤ (cellsF xs).1 := by rw [hpr.1]; exact prodI_pos hp
    have h2 : (cellsF xs).1 ≤ 4611686018427387903 := by rw [hpr.1]; exact hpr.2
    have h3 := Int.tmod_lt_of_pos v (b := (cellsF xs).1) (by omega)
    have h4 : -(cellsF xs).1 < v.tmod (cellsF xs).1 := by have := Int.tmod_lt_of_pos (-v) (b := (cellsF xs).1) (by omega); rw [Int.neg_tmod] at this; omega
    have h5 := Int.emod_nonneg (v.tmod (cellsF xs).1 + (cellsF xs).1) (b := (cellsF xs).1) (by omega)
    have h6 := Int.emod_lt_of_pos (v.tmod (cellsF xs).1 + (cellsF xs).1) (b := (cellsF xs).1) (by omega)
    exact boxOne_big A n c xs v _ _ _ w h hn hcf rfl h1 h2 rfl h4 h3 rfl h5 h6

theorem boxOne_w (w : World) (A : Option Addr) (n c : Nat) (xs : List Int) (h : Ints w w.heap.size A n xs) (hn : n ≤ 9223372036854775807) (v : Int) (_h1 : -9223372036854775808 ≤ v) (_h2 : v ≤ 9223372036854775807) :
    Calls Try.prog 6 #[.slice A n c, .int .i64 v] w fun e w' => e = .returned (.bool true) ∧ Below w.heap.size w w' := boxOne_any A n c xs v w h hn
end Go.Proofs.Ytaanjgijbenapaa
