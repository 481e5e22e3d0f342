/- What is joined is cut as it was: plain mathematics. -/
import Derived.Test.YtbmcddolfofmdaaGreatDoorG9
import Derived.Test.YtbmcddolfofmdaaGreatDoorG8
import Derived.Test.YtbmcddolfofmdaaGreatDoorG5
import Derived.Test.YtbmcddolfofmdaaGreatDoorG7
import Derived.Test.YtbmcddolfofmdaaGreatDoorG1
namespace Go.Proofs.YtbmcddolfofmdaaGreatDoor
open Go.RowKit

/-- the text of tokens, one by one (b: there is one ahead on this line) -/
def jt : Bool → List Tk → List UInt8
  | _, [] => []
  | b, t :: l => if t.k = 4 then 10 :: jt false l else (if b then 32 :: bl t.s else bl t.s) ++ jt true l
theorem join_two (x y : List UInt8) (r : List (List UInt8)) (sep : List UInt8) : Lib.join (x :: y :: r) sep = x ++ (sep ++ Lib.join (y :: r) sep) := by
  rw [Lib.join_cons, Lib.join_cons]
  simp [Lib.joinTail]
theorem blkL_snoc (cur : List Tk) (t : Tk) : blkL (cur ++ [t]) = blkL cur ++ (if cur = [] then bl t.s else 32 :: bl t.s) := by
  unfold blkL
  match cur with
  | [] => simp [Lib.join_one, Lib.join_nil]
  | c :: cur =>
    simp only [List.cons_append, List.map_cons, List.map_append, List.map_nil]
    rw [Lib.join_cons, Lib.join_cons]
    simp [Lib.joinTail]
theorem linesK_ne (cur : List Tk) (l : List Tk) : linesK [] cur l ≠ [] := by
  induction l generalizing cur with
  | nil => simp [linesK]
  | cons t l ih =>
    by_cases h : t.k = 4
    · rw [linesK_line h, linesK_all]; simp
    · rw [linesK_on h]; exact ih _
theorem join_jt : ∀ (l cur : List Tk), Lib.join ((linesK [] cur l).map blkL) [10] = blkL cur ++ jt (decide (cur ≠ [])) l
  | [], cur => by simp [linesK, Lib.join_one, jt]
  | t :: l, cur => by
    by_cases h : t.k = 4
    · have ih := join_jt l []
      rw [linesK_line h, linesK_all, List.nil_append, jt, if_pos h]
      obtain ⟨y, r, e⟩ : ∃ y r, linesK [] [] l = y :: r := by
        cases e : linesK [] [] l with
        | nil => exact absurd e (linesK_ne _ _)
        | cons y r => exact ⟨y, r, rfl⟩
      rw [e] at ih ⊢
      simp only [List.map_cons] at ih
      simp only [List.singleton_append, List.map_cons]
      rw [join_two, ih]
      simp [blkL, Lib.join_nil]
    · have ih := join_jt l (cur ++ [t])
      rw [linesK_on h, ih, blkL_snoc, jt, if_neg h, List.append_assoc]
      by_cases hc : cur = []
      · simp [hc]
      · simp [hc]
theorem joinT_jt {L : List Tk} (h : L ≠ []) : joinT L = jt false L := by
  unfold joinT linesL
  rw [if_neg h, join_jt]
  simp [blkL, Lib.join_nil]
/-- tokens as they are cut one by one -/
def runT : Bool → List Tk → List Tk → List Tk
  | _, K, [] => K
  | e, K, t :: l => if t.k = 4 then runT true K l else runT false (withLine e K t) l
theorem mayT_line {t : Tk} (h : mayT t) (h4 : t.k = 4) : t = lineTk := by
  unfold mayT at h
  by_cases h0 : t.s.size = 0
  · rw [size_zero h0] at h
    have : tokF ⟨#[]⟩ = some lineTk := rfl
    rw [this] at h
    injection h with h
    exact h.symm
  · unfold tokF at h
    rw [if_neg h0] at h
    repeat' split at h
    all_goals first | (injection h with h; rw [← h] at h4; simp at h4) | cases h
theorem ld32 : isLD 32 = false := by decide
theorem jt_off (l : List Tk) : offL (jt true l) := by
  match l with
  | [] => exact .inl rfl
  | t :: l =>
    right
    rw [jt]
    split
    · exact ⟨10, _, rfl, ld10⟩
    · exact ⟨32, bl t.s ++ jt true l, rfl, ld32⟩
theorem cut_jt : ∀ (l : List Tk) (b e : Bool) (K : List Tk), (∀ t ∈ l, mayT t) → cutQ e (jt b l) K = .ok (runT e K l)
  | [], b, e, K, _ => by
    unfold cutQ
    rw [jt, List.drop_nil, cutE_nil]
    rfl
  | t :: l, b, e, K, h => by
    have ht := h t (by simp)
    have hl : ∀ t ∈ l, mayT t := fun x hx => h x (by simp [hx])
    rw [jt, runT]
    by_cases h4 : t.k = 4
    · rw [if_pos h4, if_pos h4]
      have := cutQ_line [] (jt false l) e K
      rw [List.nil_append] at this
      rw [this]
      have h0 : cutQ e [] K = .ok K := by unfold cutQ; rw [List.drop_nil, cutE_nil]
      rw [h0]
      exact cut_jt l false true K hl
    · rw [if_neg h4, if_neg h4]
      have key : cutQ e (bl t.s ++ jt true l) K = .ok (runT false (withLine e K t) l) := by
        rw [cutQ_token ht h4 (jt_off l)]
        exact cut_jt l true false _ hl
      cases b
      · exact key
      · rw [if_pos rfl]
        have := cutQ_blank 0 (bl t.s ++ jt true l) e K
        rw [show bl (blankB 0) = [32] from rfl, show blankE 0 = false from rfl, Bool.or_false] at this
        exact this.trans key
/-- no line is empty -/
def fullL (cur l : List Tk) : Prop := ∀ R ∈ linesK [] cur l, R ≠ []
theorem run_back : ∀ (l cur : List Tk), (∀ t ∈ l, mayT t) → fullL cur l → (cur ≠ [] → ∀ K, K ≠ [] → runT false K l = K ++ l) ∧ (cur = [] → (∀ K, K ≠ [] → runT true K l = K ++ [lineTk] ++ l) ∧ ∀ e, runT e [] l = l)
  | [], cur, _, hf => by
    refine ⟨fun _ K _ => by simp [runT], fun hc => ?_⟩
    exact absurd hc (hf cur (by simp [linesK]))
  | t :: l, cur, h, hf => by
    have ht := h t (by simp)
    have hl : ∀ t ∈ l, mayT t := fun x hx => h x (by simp [hx])
    by_cases h4 : t.k = 4
    · have e := mayT_line ht h4
      unfold fullL at hf
      rw [linesK_line h4, linesK_all] at hf
      have hc : cur ≠ [] := hf cur (by simp)
      have ih := run_back l [] hl (fun R hR => hf R (by simp [hR]))
      refine ⟨fun _ K hK => ?_, fun hc' => absurd hc' hc⟩
      rw [runT, if_pos h4, (ih.2 rfl).1 K hK, e]
      simp
    · unfold fullL at hf
      rw [linesK_on h4] at hf
      have ih := run_back l (cur ++ [t]) hl hf
      have ih1 := ih.1 (by simp)
      refine ⟨fun _ K hK => ?_, fun hc => ⟨fun K hK => ?_, fun e => ?_⟩⟩
      · rw [runT, if_neg h4, ih1 _ (withLine_ne _ _ _)]
        unfold withLine
        rw [if_neg (by simp)]
        simp
      · rw [runT, if_neg h4, ih1 _ (withLine_ne _ _ _)]
        unfold withLine
        rw [if_pos ⟨rfl, hK⟩]
        simp
      · rw [runT, if_neg h4, ih1 _ (withLine_ne _ _ _)]
        unfold withLine
        rw [if_neg (fun h => h.2 rfl)]
        rfl
theorem joinT_cut {L : List Tk} (h : ∀ t ∈ L, mayT t) (hf : ¬ ∃ R ∈ linesL L, R = []) : cutG (joinT L) = .ok L := by
  by_cases h0 : L = []
  · subst h0
    rw [show joinT [] = [] from rfl, cutG_eq]
    unfold cutQ
    rw [List.drop_nil, cutE_nil]
  · rw [joinT_jt h0, cutG_eq, cut_jt L false false [] h]
    have hf' : fullL [] L := fun R hR e => hf ⟨R, by unfold linesL; rw [if_neg h0]; exact hR, e⟩
    rw [((run_back L [] h hf').2 rfl).2 false]
/-- what Join gives is cut as it was -/
theorem joinF_cut {L : List Tk} {T : ByteArray} (h : joinF L = (T, 0)) : cutG (bl T) = .ok L ∧ L.length ≤ 4096 := by
  unfold joinF at h
  split at h
  · injection h with _ h; cases h
  · rename_i ha
    split at h
    · injection h with _ h; cases h
    · rename_i hf
      split at h
      · injection h with _ h; cases h
      · rename_i h4
        injection h with h _
        subst h
        rw [bl_ofL]
        refine ⟨joinT_cut (fun t ht => (mayB_iff t).1 ?_) hf, by omega⟩
        have : L.all mayB = true := by simpa using ha
        exact List.all_eq_true.1 this t ht
/-- what is cut may be joined -/
def goodL (K : List Tk) : Prop := K = [] ∨ fullL [] K
theorem full_snoc {t : Tk} (h4 : t.k ≠ 4) : ∀ (l cur : List Tk), fullL cur l → fullL cur (l ++ [t])
  | [], cur, _ => by
    unfold fullL
    rw [List.nil_append, linesK_on h4, linesK]
    simp
  | x :: l, cur, h => by
    unfold fullL at h ⊢
    rw [List.cons_append]
    by_cases hx : x.k = 4
    · rw [linesK_line hx, linesK_all] at h ⊢
      have ih := full_snoc h4 l [] (fun R hR => h R (by simp [hR]))
      intro R hR
      simp only [List.nil_append, List.singleton_append, List.mem_cons] at hR
      rcases hR with rfl | hR
      · exact h R (by simp)
      · exact ih R hR
    · rw [linesK_on hx] at h ⊢
      exact full_snoc h4 l (cur ++ [x]) h
theorem good_line {t : Tk} (h4 : t.k ≠ 4) {K : List Tk} (h : goodL K) (e : Bool) : goodL (withLine e K t) := by
  have one : fullL [] [t] := by
    unfold fullL
    rw [linesK_on h4, linesK]
    simp
  unfold withLine
  right
  split
  · rename_i he
    rcases h with h | h
    · exact absurd h he.2
    · unfold fullL
      rw [List.append_assoc, List.singleton_append, linesK_cat rfl]
      intro R hR
      rcases List.mem_append.1 hR with hR | hR
      · exact h R hR
      · exact one R hR
  · rcases h with rfl | h
    · exact one
    · exact full_snoc h4 K [] h
theorem tok_k {s : ByteArray} {t : Tk} (h0 : s.size ≠ 0) (h : tokF s = some t) : t.k ≠ 4 := by
  unfold tokF at h
  rw [if_neg h0] at h
  repeat' split at h
  all_goals first | (injection h with h; rw [← h]; simp) | cases h
def totT (L : List Tk) : Nat := (L.map (·.s.size)).sum
theorem cutE_good (n : Nat) : ∀ (r : List UInt8), r.length ≤ n → ∀ (e : Bool) (L M : List Tk), goodL L → cutE r e L = .ok M → goodL M ∧ totT M ≤ totT L + r.length := by
  induction n with
  | zero =>
    intro r hr e L M hL h
    obtain rfl : r = [] := List.eq_nil_of_length_eq_zero (by omega)
    rw [cutE_nil] at h; injection h with h; subst h; exact ⟨hL, by omega⟩
  | succ n ih =>
    intro r hr e L M hL h
    by_cases h0 : r = []
    · subst h0; rw [cutE_nil] at h; injection h with h; subst h; exact ⟨hL, by omega⟩
    · have hm := mF_le h0
      have hm1 := mF_pos r
      cases hk : tokF (ofL (r.take (mF r))) with
      | none => rw [cutE_bad h0 hk] at h; cases h
      | some t =>
        rw [cutE_next h0 hk] at h
        have hts := tokF_text (ofL_ne h0) hk
        obtain ⟨h1, h2⟩ := ih _ (by rw [List.length_drop, List.length_drop]; omega) _ _ _ (good_line (tok_k (ofL_ne h0) hk) hL e) h
        refine ⟨h1, Nat.le_trans h2 ?_⟩
        have : totT (withLine e L t) = totT L + mF r := by
          have hsz : t.s.size = mF r := by rw [hts, ofL_size, List.length_take]; omega
          unfold withLine totT
          split
          · have hz : lineTk.s.size = 0 := rfl
            simp [hsz, hz]
          · simp [hsz]
        rw [this, List.length_drop, List.length_drop]
        omega
theorem jt_len : ∀ (l : List Tk) (b : Bool), (jt b l).length ≤ totT l + l.length
  | [], b => by simp [jt]
  | t :: l, b => by
    have h1 := jt_len l false
    have h2 := jt_len l true
    rw [jt]
    unfold totT at h1 h2 ⊢
    simp only [List.map_cons, List.sum_cons, List.length_cons]
    split
    · simp only [List.length_cons]; omega
    · cases b
      · simp only [Bool.false_eq_true, if_false, List.length_append, bl_len]; omega
      · simp only [if_true, List.length_append, List.length_cons, bl_len]; omega
/-- what is cut may be joined, and that is cut as it was -/
theorem cut_join {l : List UInt8} {L : List Tk} {N : Int} (h : cutF l = (L, N, 0)) (hl : l.length ≤ 20000) : ∃ T, joinF L = (T, 0) ∧ T.size ≤ 65536 ∧ cutG (bl T) = .ok L := by
  have hg := (cutF_good (l := l) (by rw [h])).1
  have hmay := cutF_may l
  have hlen := cutF_len l
  rw [h] at hg hmay hlen
  dsimp only at hg hmay hlen
  obtain ⟨hgd, htot⟩ := cutE_good _ _ (Nat.le_refl _) _ _ _ (.inl rfl) hg
  have hne : ¬ ∃ R ∈ linesL L, R = [] := by
    rintro ⟨R, hR, e⟩
    unfold linesL at hR
    split at hR
    · cases hR
    · rename_i h0
      rcases hgd with hgd | hgd
      · exact h0 hgd
      · exact hgd R hR e
  have ha : L.all mayB = true := List.all_eq_true.2 fun t ht => (mayB_iff t).2 (hmay t ht)
  have hj : joinF L = (ofL (joinT L), 0) := by
    unfold joinF
    rw [if_neg (by rw [ha]; decide), if_neg hne, if_neg (by omega)]
  refine ⟨_, hj, ?_, (joinF_cut hj).1⟩
  rw [ofL_size]
  by_cases h0 : L = []
  · subst h0
    rw [show joinT [] = [] from rfl]
    simp
  · rw [joinT_jt h0]
    have := jt_len L false
    have h2 : totT ([] : List Tk) = 0 := rfl
    rw [h2, List.length_drop] at htot
    omega
theorem cutF_none {l : List UInt8} (h : (cutF l).2.2 ≠ 0) : (cutF l).1 = [] := by
  unfold cutF at h ⊢
  split
  · rfl
  · rename_i h1
    rw [if_neg h1] at h
    unfold cutH at h ⊢
    split
    · rfl
    · rename_i L hL
      rw [hL] at h
      simp only at h
      split
      · rfl
      · rename_i h4
        rw [if_neg h4] at h
        exact absurd rfl h
end Go.Proofs.YtbmcddolfofmdaaGreatDoor
/- Code's text, and what it is read as: plain mathematics. Nothing is claimed of the program here. -/
namespace Go.Proofs.YtbmcddolfofmdaaGreatDoor
open Go.RowKit

/-- a word's token -/
def tokW (l : List UInt8) : Tk := ⟨1, ofL l, 0⟩
/-- the token of a number that is not below 0 -/
def tokN (v : Int) : Tk := ⟨2, ofL (Lib.decDigits v.toNat), v⟩
/-- a register's, an array's -/
def regT (c : UInt8) (v : Int) : Tk := tokW (c :: Lib.decDigits v.toNat)
def numT (v : Int) : List Tk := if v < 0 then [minusTk, tokN (-v)] else [tokN v]
def argT (k : UInt8) (v N : Int) : List Tk := if k = 119 ∨ k = 114 then [regT 114 v] else if k = 97 then [regT 97 v] else if k = 112 then numT v else if k = 110 then numT N else []
def argsT : List UInt8 → List Int → Int → List Tk
  | k :: ks, v :: vs, N => argT k v N ++ argsT ks vs N
  | _, _, _ => []
/-- an instruction's tokens -/
def lineT (x : Ji) : List Tk := tokW (wJ x.op) :: argsT (kJ x.op) x.f x.n
def codeW : List UInt8 := [99, 111, 100, 101]
def headT (R A I : Int) : List Tk := [tokW codeW] ++ numT R ++ numT A ++ numT I
def restT : List Ji → List Tk
  | [] => []
  | x :: l => lineTk :: (lineT x ++ restT l)
/-- code's tokens -/
def progT (c : Cd) : List Tk := headT c.R c.A c.I ++ restT c.l
/-- the number behind a letter -/
def behindF (t : Tk) (c : UInt8) : Int × Bool := if t.k = 1 ∧ (bl t.s).head? = some c ∧ isNumL ((bl t.s).drop 1) = true then (numL ((bl t.s).drop 1), true) else (0, false)
/-- the op of a word; below 0: none -/
def opW (l : List UInt8) : Int := match wordsJ.findIdx? (· == l) with | some i => (i : Int) | none => -1
/-- what stands behind a word, as numbers -/
def insG : List UInt8 → List Tk → Int → Option (List Int × Int)
  | [], l, N => if l = [] then some ([], N) else none
  | _ :: _, [], _ => none
  | k :: ks, t :: r, N =>
    if k = 119 ∨ k = 114 then (if (behindF t 114).2 then (insG ks r N).map (fun p => ((behindF t 114).1 :: p.1, p.2)) else none)
    else if k = 97 then (if (behindF t 97).2 then (insG ks r N).map (fun p => ((behindF t 97).1 :: p.1, p.2)) else none)
    else if k = 112 then (if t.k = 2 then (insG ks r N).map (fun p => (t.n :: p.1, p.2)) else none)
    else if t.k = 3 ∧ bl t.s = [45] ∧ r.length = 1 then
      (if (r.getD 0 ⟨0, ⟨#[]⟩, 0⟩).k = 2 ∧ (r.getD 0 ⟨0, ⟨#[]⟩, 0⟩).n ≠ 0 then (insG ks (r.drop 1) (-(r.getD 0 ⟨0, ⟨#[]⟩, 0⟩).n)).map (fun p => (0 :: p.1, p.2)) else none)
    else if t.k = 2 then (insG ks r t.n).map (fun p => (0 :: p.1, p.2)) else none
/-- the instruction of a line's tokens -/
def insF : List Tk → Option Ji
  | [] => none
  | t :: r => if t.k = 1 ∧ 0 ≤ opW (bl t.s) then (insG (kJ (opW (bl t.s))) r 0).map fun p => ⟨opW (bl t.s), p.1.getD 0 0, p.1.getD 1 0, p.1.getD 2 0, p.2⟩ else none
theorem bl_tokW (l : List UInt8) : bl (tokW l).s = l := bl_ofL l
theorem dd_small {v : Int} (h0 : 0 ≤ v) (h1 : v < 1000000000000000000) : isNumL (Lib.decDigits v.toNat) = true ∧ numL (Lib.decDigits v.toNat) = v := by
  rw [dd_isNum, dd_num]
  exact ⟨decide_eq_true (by omega), by omega⟩
theorem behind_reg (c : UInt8) {v : Int} (h0 : 0 ≤ v) (h1 : v < 1000000000000000000) : behindF (regT c v) c = (v, true) := by
  obtain ⟨a, b⟩ := dd_small h0 h1
  unfold behindF regT
  rw [bl_tokW, if_pos ⟨rfl, rfl, a⟩]
  exact Prod.ext b rfl
theorem opW_wJ {op : Int} (h0 : 0 ≤ op) (h1 : op ≤ 12) : opW (wJ op) = op := by
  rcases op_cases h0 h1 with rfl | rfl | rfl | rfl | rfl | rfl | rfl | rfl | rfl | rfl | rfl | rfl | rfl <;> decide
theorem numT_pos {v : Int} (h : 0 ≤ v) : numT v = [tokN v] := by unfold numT; rw [if_neg (by omega)]
theorem numT_neg {v : Int} (h : v < 0) : numT v = [minusTk, tokN (-v)] := by unfold numT; rw [if_pos h]
theorem insF_of {op a b c n : Int} {r : List Tk} {f : List Int} (h0 : 0 ≤ op) (h1 : op ≤ 12) (hr : insG (kJ op) r 0 = some (f, n)) (ha : f.getD 0 0 = a) (hb : f.getD 1 0 = b) (hc : f.getD 2 0 = c) : insF (tokW (wJ op) :: r) = some ⟨op, a, b, c, n⟩ := by
  show (if (tokW (wJ op)).k = 1 ∧ 0 ≤ opW (bl (tokW (wJ op)).s) then _ else _) = _
  rw [bl_tokW, opW_wJ h0 h1, if_pos ⟨rfl, h0⟩, hr]
  simp only [Option.map_some, ha, hb, hc]
theorem insG_nil (N : Int) : insG [] [] N = some ([], N) := rfl
theorem insG_reg {k : UInt8} (hk : k = 119 ∨ k = 114) {v N M : Int} (h0 : 0 ≤ v) (h1 : v < 1000000000000000000) {ks : List UInt8} {r : List Tk} {f : List Int} (h : insG ks r N = some (f, M)) : insG (k :: ks) (regT 114 v :: r) N = some (v :: f, M) := by
  unfold insG
  rw [if_pos hk, behind_reg 114 h0 h1, if_pos rfl, h]; rfl
theorem insG_arr {v N M : Int} (h0 : 0 ≤ v) (h1 : v < 1000000000000000000) {ks : List UInt8} {r : List Tk} {f : List Int} (h : insG ks r N = some (f, M)) : insG (97 :: ks) (regT 97 v :: r) N = some (v :: f, M) := by
  unfold insG
  rw [if_neg (by decide), if_pos rfl, behind_reg 97 h0 h1, if_pos rfl, h]; rfl
theorem insG_place {v N M : Int} (h0 : 0 ≤ v) {ks : List UInt8} {r : List Tk} {f : List Int} (h : insG ks r N = some (f, M)) : insG (112 :: ks) (numT v ++ r) N = some (v :: f, M) := by
  rw [numT_pos h0]
  show insG (112 :: ks) (tokN v :: r) N = _
  unfold insG
  rw [if_neg (by decide), if_neg (by decide), if_pos rfl, if_pos (show (tokN v).k = 2 from rfl), h]; rfl
theorem insG_num {v N : Int} : insG [110] (numT v) N = some ([0], v) := by
  by_cases h : v < 0
  · rw [numT_neg h]
    unfold insG
    rw [if_neg (by decide), if_neg (by decide), if_neg (by decide), if_pos ⟨rfl, rfl, rfl⟩]
    show (if (tokN (-v)).k = 2 ∧ (tokN (-v)).n ≠ 0 then _ else _) = _
    rw [if_pos ⟨rfl, by show -v ≠ 0; omega⟩]
    show (insG [] [] (- -v)).map _ = _
    rw [insG_nil, Int.neg_neg]; rfl
  · rw [numT_pos (by omega)]
    unfold insG
    rw [if_neg (by decide), if_neg (by decide), if_neg (by decide), if_neg (by rintro ⟨h, _⟩; cases h), if_pos (show (tokN v).k = 2 from rfl)]
    show (insG [] [] v).map _ = _
    rw [insG_nil]; rfl
theorem insG_num' {v N : Int} : insG [110] (numT v ++ []) N = some ([0], v) := by rw [List.append_nil]; exact insG_num
theorem kind_mem {op : Int} (h : op ≠ 1) (h0 : 0 ≤ op) (h1 : op ≤ 12) : (110 : UInt8) ∉ kJ op := by
  rcases op_cases h0 h1 with rfl | rfl | rfl | rfl | rfl | rfl | rfl | rfl | rfl | rfl | rfl | rfl | rfl
  case inr.inl => exact absurd rfl h
  all_goals decide
/-- what was written is read as it was -/
theorem ins_line {R A L : Int} {x : Ji} (hR : R ≤ 1000) (hA : A ≤ 1000) (_hL : L ≤ 100000) (h : mayJ R A L x = true) : insF (lineT x) = some x := by
  obtain ⟨⟨h0, h1⟩, h2, h3, h4⟩ := mayJ_parts h
  have i0 := h2 0 (by omega)
  have i1 := h2 1 (by omega)
  have i2 := h2 2 (by omega)
  obtain ⟨op, a, b, c, n⟩ := x
  dsimp only at h0 h1 h3 h4
  unfold InB at i0 i1 i2
  have e4 : op ≠ 1 → n = 0 := fun e => h4 (kind_mem e h0 h1)
  rcases op_cases h0 h1 with rfl | rfl | rfl | rfl | rfl | rfl | rfl | rfl | rfl | rfl | rfl | rfl | rfl
  all_goals
    simp [kJ, kindsJ, limJ, Ji.f] at i0 i1 i2
    try (have hn := e4 (by decide); subst hn)
  · exact insF_of h0 h1 (insG_nil 0) (by show (0 : Int) = a; omega) (by show (0 : Int) = b; omega) (by show (0 : Int) = c; omega)
  · exact insF_of h0 h1 (insG_reg (v := a) (.inl rfl) (by omega) (by omega) (insG_num' (v := n))) rfl (by show (0 : Int) = b; omega) (by show (0 : Int) = c; omega)
  · exact insF_of h0 h1 (insG_reg (v := a) (.inl rfl) (by omega) (by omega) (insG_reg (v := b) (.inr rfl) (by omega) (by omega) (insG_nil 0))) rfl rfl (by show (0 : Int) = c; omega)
  · exact insF_of h0 h1 (insG_reg (v := a) (.inl rfl) (by omega) (by omega) (insG_reg (v := b) (.inr rfl) (by omega) (by omega) (insG_reg (v := c) (.inr rfl) (by omega) (by omega) (insG_nil 0)))) rfl rfl rfl
  · exact insF_of h0 h1 (insG_reg (v := a) (.inl rfl) (by omega) (by omega) (insG_reg (v := b) (.inr rfl) (by omega) (by omega) (insG_reg (v := c) (.inr rfl) (by omega) (by omega) (insG_nil 0)))) rfl rfl rfl
  · exact insF_of h0 h1 (insG_reg (v := a) (.inl rfl) (by omega) (by omega) (insG_reg (v := b) (.inr rfl) (by omega) (by omega) (insG_reg (v := c) (.inr rfl) (by omega) (by omega) (insG_nil 0)))) rfl rfl rfl
  · exact insF_of h0 h1 (insG_reg (v := a) (.inl rfl) (by omega) (by omega) (insG_arr (v := b) (by omega) (by omega) (insG_reg (v := c) (.inr rfl) (by omega) (by omega) (insG_nil 0)))) rfl rfl rfl
  · exact insF_of h0 h1 (insG_arr (v := a) (by omega) (by omega) (insG_reg (v := b) (.inr rfl) (by omega) (by omega) (insG_reg (v := c) (.inr rfl) (by omega) (by omega) (insG_nil 0)))) rfl rfl rfl
  · exact insF_of h0 h1 (insG_reg (v := a) (.inl rfl) (by omega) (by omega) (insG_arr (v := b) (by omega) (by omega) (insG_nil 0))) rfl rfl (by show (0 : Int) = c; omega)
  · exact insF_of h0 h1 (insG_arr (v := a) (by omega) (by omega) (insG_reg (v := b) (.inr rfl) (by omega) (by omega) (insG_nil 0))) rfl rfl (by show (0 : Int) = c; omega)
  · exact insF_of h0 h1 (insG_place (v := a) (r := []) (by omega) (insG_nil 0)) rfl (by show (0 : Int) = b; omega) (by show (0 : Int) = c; omega)
  · exact insF_of h0 h1 (insG_reg (v := a) (.inr rfl) (by omega) (by omega) (insG_reg (v := b) (.inr rfl) (by omega) (by omega) (insG_place (v := c) (r := []) (by omega) (insG_nil 0)))) rfl rfl rfl
  · exact insF_of h0 h1 (insG_reg (v := a) (.inr rfl) (by omega) (by omega) (insG_reg (v := b) (.inr rfl) (by omega) (by omega) (insG_place (v := c) (r := []) (by omega) (insG_nil 0)))) rfl rfl rfl
end Go.Proofs.YtbmcddolfofmdaaGreatDoor
/- The document's letter, digit, sign, Word, Number and token. -/
namespace Go.Proofs.YtbmcddolfofmdaaGreatDoor
open Go.RowKit

set_option maxRecDepth 100000 in
theorem refLetter_any (c : Nat) (h : c < 256) (w : World) : Calls Tryz.prog 83 #[.int .u8 c] w fun e w' => e = .returned (.bool (decide (kindI c = 4))) ∧ w = w' := by
  have hk : Hid (kindI c = 4 ↔ (97 ≤ c ∧ c ≤ 122) ∨ (65 ≤ c ∧ c ≤ 90)) := by
    unfold Hid kindI
    repeat' split
    all_goals constructor
    all_goals intro h
    all_goals omega
  go_enter Tryz.func83, Tryz.ntmps83
  go_wp2
  all_goals
    go_ret
    refine ⟨congrArg (fun b => Ending.returned (.bool b)) ?_, rfl⟩
    rw [Bool.eq_iff_iff]
    simp [hk.out]
    try omega
set_option maxRecDepth 100000 in
theorem refDigit_any (c : Nat) (h : c < 256) (w : World) : Calls Tryz.prog 82 #[.int .u8 c] w fun e w' => e = .returned (.bool (decide (kindI c = 5))) ∧ w = w' := by
  have hk : Hid (kindI c = 5 ↔ 48 ≤ c ∧ c ≤ 57) := by
    unfold Hid kindI
    repeat' split
    all_goals constructor
    all_goals intro h
    all_goals omega
  go_enter Tryz.func82, Tryz.ntmps82
  go_wp2
  all_goals
    go_ret
    refine ⟨congrArg (fun b => Ending.returned (.bool b)) ?_, rfl⟩
    rw [Bool.eq_iff_iff]
    simp [hk.out]
    try omega
end Go.Proofs.YtbmcddolfofmdaaGreatDoor
/- The document's Number. -/
namespace Go.Proofs.YtbmcddolfofmdaaGreatDoor
open Go.RowKit

set_option maxRecDepth 100000 in
set_option maxHeartbeats 8000000 in
theorem refNumber_any (s : ByteArray) (w : World) (hs : s.size ≤ maxLen) : Calls Tryz.prog 67 #[.string s] w fun e w' => e = .returned (numRes (bl s)) ∧ w = w' := by
  unfold maxLen at hs
  by_cases h0 : s.size = 0
  · have hE : Hid (numRes (bl s) = .tuple #[.int .i64 0, .bool false]) := numRes_no (by
      unfold isNumL
      rw [bl_len]
      simp [h0])
    have h0' : (s.size : Int) < 1 := by omega
    clear h0
    go_enter Tryz.func67, Tryz.ntmps67
    go_wp2
    exact bodyPost_ret (v := .tuple #[.int .i64 0, .bool false]) (by simp [results, Tryz.results67, go_sem]) rfl ⟨by rw [hE.out], rfl⟩
  · by_cases h18 : 18 < s.size
    · have hE : Hid (numRes (bl s) = .tuple #[.int .i64 0, .bool false]) := numRes_no (by
        unfold isNumL
        rw [bl_len]
        simp only [decide_eq_false_iff_not, not_and]
        omega)
      have h0' : 1 ≤ (s.size : Int) := by omega
      go_enter Tryz.func67, Tryz.ntmps67
      go_wp2
      exact bodyPost_ret (v := .tuple #[.int .i64 0, .bool false]) (by simp [results, Tryz.results67, go_sem]) rfl ⟨by rw [hE.out], rfl⟩
    · have hp : 0 < s.size := by omega
      have h0' : 1 ≤ (s.size : Int) := by omega
      have hg := bl_get s 0 hp
      have HG0 : Hid ((bl s)[0]? = some s[0]) := hg
      clear hg
      by_cases h1 : 1 < s.size ∧ s[0] = 48
      · have hE : Hid (numRes (bl s) = .tuple #[.int .i64 0, .bool false]) := numRes_no (by
          unfold isNumL
          rw [bl_len, HG0.out]
          simp [h1.1, h1.2])
        have e48 : ((s[0].toNat : Int) == 48) = true := by rw [h1.2]; rfl
        have h1' := h1.1
        clear h1
        go_enter Tryz.func67, Tryz.ntmps67
        go_wp2
        exact bodyPost_ret (v := .tuple #[.int .i64 0, .bool false]) (by simp [results, Tryz.results67, go_sem]) rfl ⟨by rw [hE.out], rfl⟩
      · have HN : Hid (¬(1 < (bl s).length ∧ (bl s)[0]? = some 48)) := by
          unfold Hid
          rw [bl_len, HG0.out]
          simpa using h1
        have hc : (1 < s.size ∧ ((s[0].toNat : Int) == 48) = false) ∨ ¬ 1 < s.size := by
          by_cases a : 1 < s.size
          · refine Or.inl ⟨a, ?_⟩
            rw [beq_eq_false_iff_ne]
            intro e
            exact h1 ⟨a, UInt8.toNat_inj.1 (by rw [show (48 : UInt8).toNat = 48 from rfl]; omega)⟩
          · exact Or.inr a
        clear h1
        rcases hc with ⟨h1, e48⟩ | h1
        all_goals
          go_enter Tryz.func67, Tryz.ntmps67
          go_wp2
          go_loop [4, 26] (fun n i => ∃ (k : Nat) (v : Int), k ≤ s.size ∧ i = .int .i64 k ∧ n = .int .i64 v ∧ Hid (numL ((bl s).take k) = v) ∧ 0 ≤ v ∧ Hid (v < 10 ^ k) ∧ Hid (∀ j < k, ∃ c, (bl s)[j]? = some c ∧ kb c = 5)) (fun _ i => s.size - (intOf i).toNat)
          case atStart => exact ⟨0, 0, Nat.zero_le _, rfl, rfl, rfl, Int.le_refl _, Lib.hid (by decide), fun j hj => absurd hj (by omega)⟩
          case round =>
            obtain ⟨k, v, hk, rfl, rfl, HV, hv, HV2, HA⟩ := hrel
            by_cases hlt : k < s.size
            · have HG : Hid ((bl s)[k]? = some s[k]) := bl_get s k hlt
              have cK := fun w => refDigit_any s[k].toNat (u8_lt _) w
              by_cases h5 : kb s[k] = 5
              · obtain ⟨hlo, hhi⟩ := dig_in h5
                have HB : Hid (kb s[k] = 5) := h5
                rw [show decide (kindI (s[k].toNat : Int) = 5) = true from decide_eq_true h5] at cK
                have hv3 : v < 100000000000000000 := by have := ten_le k (by omega); have := HV2.out; omega
                clear h5
                go_wp2_with (go_at_call 82; refine (cK _).mono ?_; rintro e w1 ⟨rfl, rfl⟩)
                refine ⟨⟨k + 1, v * 10 + ((s[k].toNat : Int) - 48), by omega, by go_num, congrArg (Value.int .i64) (by omega), ?_, by omega, ten_step HV2.out (by omega), fun j hj => ?_⟩, by simp [intOf]; omega⟩
                · unfold Hid
                  rw [take_snoc _ _ _ HG.out, numL_snoc, HV.out]
                · by_cases e : j = k
                  · subst e; exact ⟨_, HG.out, HB.out⟩
                  · exact HA.out j (by omega)
              · rw [show decide (kindI (s[k].toNat : Int) = 5) = false from decide_eq_false h5] at cK
                have hE : Hid (numRes (bl s) = .tuple #[.int .i64 0, .bool false]) := numRes_no (by
                  unfold isNumL
                  rw [decide_eq_false_iff_not]
                  rintro ⟨_, _, _, h⟩
                  obtain ⟨c, e1, e2⟩ := h k (by rw [bl_len]; omega)
                  rw [HG.out] at e1
                  injection e1 with e1
                  subst e1
                  exact h5 e2)
                clear h5
                go_wp2_with (go_at_call 82; refine (cK _).mono ?_; rintro e w1 ⟨rfl, rfl⟩)
                exact bodyPost_ret (v := .tuple #[.int .i64 0, .bool false]) (by simp [results, Tryz.results67, go_sem]) rfl ⟨by rw [hE.out], rfl⟩
            · obtain rfl : s.size = k := by omega
              have hE : Hid (numRes (bl s) = .tuple #[.int .i64 v, .bool true]) := by
                unfold Hid
                rw [numRes_yes, ← HV.out, List.take_of_length_le (by rw [bl_len]; omega)]
                unfold isNumL
                rw [decide_eq_true_iff, bl_len]
                refine ⟨by omega, by omega, ?_, HA.out⟩
                have := HN.out
                rwa [bl_len] at this
              go_wp2
              exact bodyPost_ret (v := .tuple #[.int .i64 v, .bool true]) (by simp [results, Tryz.results67, go_sem]) rfl ⟨by rw [hE.out], rfl⟩
end Go.Proofs.YtbmcddolfofmdaaGreatDoor
/- The document's Word and sign. -/
namespace Go.Proofs.YtbmcddolfofmdaaGreatDoor
open Go.RowKit

theorem isWordL_no {l : List UInt8} (k : Nat) {c : UInt8} (h : l[k]? = some c) (hc : isLD c = false) : isWordL l = false := by
  unfold isWordL
  rw [decide_eq_false_iff_not]
  rintro ⟨_, _, h3⟩
  have hk := (List.getElem?_eq_some_iff.1 h).1
  have : ∀ (l : List UInt8) (k : Nat), l[k]? = some c → alongL l ≤ k := by
    intro l
    induction l with
    | nil => intro k h; simp at h
    | cons b l ih =>
      intro k h
      unfold alongL
      rw [List.takeWhile_cons]
      split
      · cases k with
        | zero => simp at h; subst h; rename_i a; rw [hc] at a; cases a
        | succ k => have := ih k (by simpa using h); unfold alongL at this; simp only [List.length_cons]; omega
      · simp
  have := this l k h
  omega
set_option maxRecDepth 100000 in
set_option maxHeartbeats 8000000 in
theorem refWord_any (s : ByteArray) (w : World) (hs : s.size ≤ maxLen) : Calls Tryz.prog 68 #[.string s] w fun e w' => e = .returned (.bool (isWordL (bl s))) ∧ w = w' := by
  unfold maxLen at hs
  by_cases h0 : s.size = 0
  · have hE : Hid (isWordL (bl s) = false) := by
      unfold Hid isWordL
      rw [decide_eq_false_iff_not, List.getElem?_eq_none (by rw [bl_len]; omega)]
      rintro ⟨_, ⟨c, h, _⟩, _⟩
      cases h
    have h0' : (s.size : Int) < 1 := by omega
    go_enter Tryz.func68, Tryz.ntmps68
    go_wp2
    go_ret
    exact ⟨by rw [hE.out]; rfl, rfl⟩
  · by_cases h16 : 16 < s.size
    · have hE : Hid (isWordL (bl s) = false) := by
        unfold Hid isWordL
        rw [decide_eq_false_iff_not, bl_len]
        rintro ⟨h, _⟩
        omega
      have h0' : 1 ≤ (s.size : Int) := by omega
      go_enter Tryz.func68, Tryz.ntmps68
      go_wp2
      go_ret
      exact ⟨by rw [hE.out]; rfl, rfl⟩
    · have hp : 0 < s.size := by omega
      have h0' : 1 ≤ (s.size : Int) := by omega
      have HG0 : Hid ((bl s)[0]? = some (s[0]'hp)) := bl_get s 0 hp
      have cL0 := fun w => refLetter_any (s[0]'hp).toNat (u8_lt _) w
      by_cases h4 : kb (s[0]'hp) = 4
      · rw [show decide (kindI ((s[0]'hp).toNat : Int) = 4) = true from decide_eq_true h4] at cL0
        have H4 := Lib.hid h4
        clear h4
        go_enter Tryz.func68, Tryz.ntmps68
        go_wp2_with (go_at_call 83; refine (cL0 _).mono ?_; rintro e w1 ⟨rfl, rfl⟩)
        go_loop [20] (fun i => ∃ (k : Nat), k ≤ s.size ∧ i = .int .i64 k ∧ Hid (∀ j < k, ∃ c, (bl s)[j]? = some c ∧ isLD c = true)) (fun i => s.size - (intOf i).toNat)
        case atStart => exact ⟨0, Nat.zero_le _, rfl, fun j hj => absurd hj (by omega)⟩
        case round =>
          obtain ⟨k, hk, rfl, HA⟩ := hrel
          by_cases hlt : k < s.size
          · have HG : Hid ((bl s)[k]? = some s[k]) := bl_get s k hlt
            have cL := fun w => refLetter_any s[k].toNat (u8_lt _) w
            have cD := fun w => refDigit_any s[k].toNat (u8_lt _) w
            clear cL0
            by_cases a4 : kb s[k] = 4
            · have HB : Hid (isLD s[k] = true) := by unfold Hid isLD; simp [a4]
              rw [show decide (kindI (s[k].toNat : Int) = 4) = true from decide_eq_true a4] at cL
              clear a4 cD
              go_wp2_with (go_at_call 83; refine (cL _).mono ?_; rintro e w1 ⟨rfl, rfl⟩)
              refine ⟨⟨k + 1, by omega, by go_num, fun j hj => ?_⟩, by simp [intOf]; omega⟩
              by_cases e : j = k
              · subst e; exact ⟨_, HG.out, HB.out⟩
              · exact HA.out j (by omega)
            · rw [show decide (kindI (s[k].toNat : Int) = 4) = false from decide_eq_false a4] at cL
              by_cases a5 : kb s[k] = 5
              · have HB : Hid (isLD s[k] = true) := by unfold Hid isLD; simp [a5]
                rw [show decide (kindI (s[k].toNat : Int) = 5) = true from decide_eq_true a5] at cD
                clear a4 a5
                go_wp2_with (first | (go_at_call 83; refine (cL _).mono ?_; rintro e w1 ⟨rfl, rfl⟩) | (go_at_call 82; refine (cD _).mono ?_; rintro e w1 ⟨rfl, rfl⟩))
                refine ⟨⟨k + 1, by omega, by go_num, fun j hj => ?_⟩, by simp [intOf]; omega⟩
                by_cases e : j = k
                · subst e; exact ⟨_, HG.out, HB.out⟩
                · exact HA.out j (by omega)
              · have hE : Hid (isWordL (bl s) = false) := isWordL_no k HG.out (by unfold isLD; simp [a4, a5])
                rw [show decide (kindI (s[k].toNat : Int) = 5) = false from decide_eq_false a5] at cD
                clear a4 a5
                go_wp2_with (first | (go_at_call 83; refine (cL _).mono ?_; rintro e w1 ⟨rfl, rfl⟩) | (go_at_call 82; refine (cD _).mono ?_; rintro e w1 ⟨rfl, rfl⟩))
                go_ret
                exact ⟨by rw [hE.out]; rfl, rfl⟩
          · have hE : Hid (isWordL (bl s) = true) := by
              unfold Hid isWordL
              rw [decide_eq_true_iff, bl_len]
              exact ⟨by omega, ⟨_, HG0.out, H4.out⟩, along_eq (bl s) s.size (fun j hj => HA.out j (by omega)) (Or.inl (bl_len s).symm)⟩
            go_wp2
            go_ret
            exact ⟨by rw [hE.out]; rfl, rfl⟩
      · rw [show decide (kindI ((s[0]'hp).toNat : Int) = 4) = false from decide_eq_false h4] at cL0
        have hE : Hid (isWordL (bl s) = false) := by
          unfold Hid isWordL
          rw [decide_eq_false_iff_not, HG0.out]
          rintro ⟨_, ⟨c, e1, e2⟩, _⟩
          injection e1 with e1
          subst e1
          exact h4 e2
        clear h4
        go_enter Tryz.func68, Tryz.ntmps68
        go_wp2_with (go_at_call 83; refine (cL0 _).mono ?_; rintro e w1 ⟨rfl, rfl⟩)
        go_ret
        exact ⟨by rw [hE.out]; rfl, rfl⟩
theorem u8_eq (c : UInt8) (n : Nat) (hn : n < 256) : c = n.toUInt8 ↔ c.toNat = n := by
  constructor
  · intro h
    rw [h]
    simp
    omega
  · intro h
    apply UInt8.toNat_inj.1
    rw [h]
    simp
    omega
theorem sign_one (c : UInt8) : kb c = 6 ↔ c = 43 ∨ c = 45 ∨ c = 42 ∨ c = 40 ∨ c = 41 ∨ c = 91 ∨ c = 93 ∨ c = 44 ∨ c = 61 ∨ c = 58 := by
  have e43 := u8_eq c 43 (by omega)
  have e45 := u8_eq c 45 (by omega)
  have e42 := u8_eq c 42 (by omega)
  have e40 := u8_eq c 40 (by omega)
  have e41 := u8_eq c 41 (by omega)
  have e91 := u8_eq c 91 (by omega)
  have e93 := u8_eq c 93 (by omega)
  have e44 := u8_eq c 44 (by omega)
  have e61 := u8_eq c 61 (by omega)
  have e58 := u8_eq c 58 (by omega)
  have hc := u8_lt c
  have hk : kb c = 6 ↔ c.toNat = 43 ∨ c.toNat = 45 ∨ c.toNat = 42 ∨ c.toNat = 40 ∨ c.toNat = 41 ∨ c.toNat = 91 ∨ c.toNat = 93 ∨ c.toNat = 44 ∨ c.toNat = 61 ∨ c.toNat = 58 := by
    unfold kb kindI
    repeat' split
    all_goals constructor
    all_goals intro h
    all_goals omega
  rw [hk, ← e43, ← e45, ← e42, ← e40, ← e41, ← e91, ← e93, ← e44, ← e61, ← e58]
  rfl
theorem sign_iff (l : List UInt8) : isSignL l = decide (l = [43] ∨ l = [45] ∨ l = [42] ∨ l = [40] ∨ l = [41] ∨ l = [91] ∨ l = [93] ∨ l = [44] ∨ l = [61] ∨ l = [58]) := by
  unfold isSignL
  rw [decide_eq_decide]
  match l with
  | [] => simp
  | [c] => simp [sign_one]
  | a :: b :: l => simp
set_option maxRecDepth 100000 in
set_option maxHeartbeats 8000000 in
theorem refSign_any (s : ByteArray) (w : World) : Calls Tryz.prog 69 #[.string s] w fun e w' => e = .returned (.bool (isSignL (bl s))) ∧ w = w' := by
  go_enter Tryz.func69, Tryz.ntmps69
  go_wp2
  all_goals
    go_ret
    refine ⟨congrArg (fun b => Ending.returned (.bool b)) ?_, rfl⟩
    rw [sign_iff, show bl s = s.toList from (Lib.toList_data s).symm]
    simp_all
end Go.Proofs.YtbmcddolfofmdaaGreatDoor
/- The document's token: what lexer.token gives of a text that has bytes. -/
namespace Go.Proofs.YtbmcddolfofmdaaGreatDoor
open Go.RowKit

/-- no text is a word and a number -/
theorem num_no_word {l : List UInt8} (h : isNumL l = true) : isWordL l = false := by
  unfold isNumL at h
  rw [decide_eq_true_iff] at h
  unfold isWordL
  rw [decide_eq_false_iff_not]
  rintro ⟨_, ⟨c, e1, e2⟩, _⟩
  obtain ⟨d, d1, d2⟩ := h.2.2.2 0 h.1
  rw [e1] at d1
  injection d1 with d1
  subst d1
  omega
end Go.Proofs.YtbmcddolfofmdaaGreatDoor
/- The document's Check: it gives what lexer.Check does. -/
namespace Go.Proofs.YtbmcddolfofmdaaGreatDoor
open Go.RowKit

theorem word_size {s : ByteArray} (h : isWordL (bl s) = true) : s.size ≠ 0 := by
  unfold isWordL at h
  rw [decide_eq_true_iff] at h
  obtain ⟨_, ⟨c, e, _⟩, _⟩ := h
  intro h0
  have := (List.getElem?_eq_some_iff.1 e).1
  rw [bl_len] at this
  omega
theorem num_size {s : ByteArray} (h : isNumL (bl s) = true) : s.size ≠ 0 := by
  unfold isNumL at h
  rw [decide_eq_true_iff, bl_len] at h
  omega
theorem sign_size {s : ByteArray} (h : isSignL (bl s) = true) : s.size ≠ 0 ∧ isWordL (bl s) = false ∧ isNumL (bl s) = false := by
  unfold isSignL at h
  rw [decide_eq_true_iff] at h
  obtain ⟨h1, c, e1, e2⟩ := h
  refine ⟨by rw [bl_len] at h1; omega, ?_, ?_⟩
  · unfold isWordL
    rw [decide_eq_false_iff_not]
    rintro ⟨_, ⟨d, e3, e4⟩, _⟩
    rw [e1] at e3
    injection e3 with e3
    subst e3
    omega
  · unfold isNumL
    rw [decide_eq_false_iff_not]
    rintro ⟨h5, _, _, h6⟩
    obtain ⟨d, e3, e4⟩ := h6 0 h5
    rw [e1] at e3
    injection e3 with e3
    subst e3
    omega
theorem may_word (s : ByteArray) (n : Int) : mayB ⟨1, s, n⟩ = (isWordL (bl s) && (n == 0)) := by
  rw [Bool.eq_iff_iff, mayB_iff, Bool.and_eq_true, beq_iff_eq]
  unfold mayT tokF
  simp only
  constructor
  · intro h
    repeat' split at h
    all_goals first | (injection h with h; injection h with h1 h2 h3; first | (exact ⟨by assumption, h3.symm⟩) | (exact absurd h1 (by decide))) | cases h
  · rintro ⟨h, rfl⟩
    rw [if_neg (word_size h), if_pos h]
theorem may_num (s : ByteArray) (n : Int) : mayB ⟨2, s, n⟩ = (isNumL (bl s) && (n == numL (bl s))) := by
  rw [Bool.eq_iff_iff, mayB_iff, Bool.and_eq_true, beq_iff_eq]
  unfold mayT tokF
  simp only
  constructor
  · intro h
    repeat' split at h
    all_goals first | (injection h with h; injection h with h1 h2 h3; first | (exact ⟨by assumption, h3.symm⟩) | (exact absurd h1 (by decide))) | cases h
  · rintro ⟨h, rfl⟩
    rw [if_neg (num_size h), if_neg (by rw [num_no_word h]; decide), if_pos h]
theorem may_sign (s : ByteArray) (n : Int) : mayB ⟨3, s, n⟩ = (isSignL (bl s) && (n == 0)) := by
  rw [Bool.eq_iff_iff, mayB_iff, Bool.and_eq_true, beq_iff_eq]
  unfold mayT tokF
  simp only
  constructor
  · intro h
    repeat' split at h
    all_goals first | (injection h with h; injection h with h1 h2 h3; first | (exact ⟨by assumption, h3.symm⟩) | (exact absurd h1 (by decide))) | cases h
  · rintro ⟨h, rfl⟩
    obtain ⟨h1, h2, h3⟩ := sign_size h
    rw [if_neg h1, if_neg (by rw [h2]; decide), if_neg (by rw [h3]; decide), if_pos h]
theorem may_line (s : ByteArray) (n : Int) : mayB ⟨4, s, n⟩ = (decide (s.size = 0) && (n == 0)) := by
  rw [Bool.eq_iff_iff, mayB_iff, Bool.and_eq_true, beq_iff_eq, decide_eq_true_iff]
  unfold mayT tokF
  simp only
  constructor
  · intro h
    repeat' split at h
    all_goals first | (injection h with h; injection h with h1 h2 h3; first | (exact ⟨by assumption, h3.symm⟩) | (exact absurd h1 (by decide))) | cases h
  · rintro ⟨h, rfl⟩
    rw [if_pos h, size_zero h]
theorem may_other (k : Int) (s : ByteArray) (n : Int) (h1 : k ≠ 1) (h2 : k ≠ 2) (h3 : k ≠ 3) (h4 : k ≠ 4) : mayB ⟨k, s, n⟩ = false := by
  cases e : mayB ⟨k, s, n⟩ with
  | false => rfl
  | true =>
    rw [mayB_iff] at e
    unfold mayT tokF at e
    simp only at e
    repeat' split at e
    all_goals first | (injection e with e; injection e with e1 e2 e3; omega) | cases e
theorem numRes_two (l : List UInt8) : ∃ (v : Int) (b : Bool), numRes l = .tuple #[.int .i64 v, .bool b] ∧ isNumL l = b ∧ (b = true → v = numL l) := by
  cases e : isNumL l
  · exact ⟨0, false, numRes_no e, rfl, fun h => by cases h⟩
  · exact ⟨numL l, true, numRes_yes e, rfl, fun _ => rfl⟩
set_option maxRecDepth 100000 in
set_option maxHeartbeats 8000000 in
theorem refCheck_any (t : Tk) (w : World) (ht : t.s.size ≤ maxLen) : Calls Tryz.prog 51 #[.agg #[.int .i64 t.k, .string t.s, .int .i64 t.n]] w fun e w' => e = .returned (.int .i64 (chkE (mayB t))) ∧ Below w.heap.size w w' := by
  obtain ⟨k, s, n⟩ := t
  dsimp only at ht ⊢
  have cW := fun w => refWord_any s w ht
  have cN := fun w => refNumber_any s w ht
  have cS := fun w => refSign_any s w
  obtain ⟨v, nb, hnr, hnb, hnv⟩ := numRes_two (bl s)
  rw [hnr] at cN
  have HB0 : Hid (Below w.heap.size w (w.alloc (.cells #[.int .i64 k, .string s, .int .i64 n] 49))) := (Below.refl _ _).alloc (Nat.le_refl _) _
  obtain ⟨M, HM⟩ : ∃ M, Hid (mayB ⟨k, s, n⟩ = M) := ⟨_, Lib.hid rfl⟩
  rw [HM.out]
  clear hnr
  by_cases k1 : k = 1
  · subst k1
    have he := may_word s n
    rw [HM.out] at he
    obtain ⟨q, hq⟩ : ∃ q, isWordL (bl s) = q := ⟨_, rfl⟩
    rw [hq] at he cW
    clear HM hnb hnv
    cases q with
    | false =>
      have HV : Hid (M = false) := he
      clear he hq
      go_enter Tryz.func51, Tryz.ntmps51
      go_wp2_with (first | (go_at_call 67; (with_reducible refine (cN _).mono ?_); rintro e w2 ⟨rfl, rfl⟩) | (go_at_call 68; (with_reducible refine (cW _).mono ?_); rintro e w2 ⟨rfl, rfl⟩) | (go_at_call 69; (with_reducible refine (cS _).mono ?_); rintro e w2 ⟨rfl, rfl⟩))
      go_ret
      exact ⟨by rw [HV.out]; rfl, HB0.out⟩
    | true =>
      by_cases hn : n = 0
      · subst hn
        have HV : Hid (M = true) := he.trans (by simp)
        clear he hq
        go_enter Tryz.func51, Tryz.ntmps51
        go_wp2_with (first | (go_at_call 67; (with_reducible refine (cN _).mono ?_); rintro e w2 ⟨rfl, rfl⟩) | (go_at_call 68; (with_reducible refine (cW _).mono ?_); rintro e w2 ⟨rfl, rfl⟩) | (go_at_call 69; (with_reducible refine (cS _).mono ?_); rintro e w2 ⟨rfl, rfl⟩))
        go_ret
        exact ⟨by rw [HV.out]; rfl, HB0.out⟩
      · have bn : (n == 0) = false := by rw [beq_eq_false_iff_ne]; exact hn
        have HV : Hid (M = false) := he.trans (by rw [bn]; rfl)
        clear he hn hq
        go_enter Tryz.func51, Tryz.ntmps51
        go_wp2_with (first | (go_at_call 67; (with_reducible refine (cN _).mono ?_); rintro e w2 ⟨rfl, rfl⟩) | (go_at_call 68; (with_reducible refine (cW _).mono ?_); rintro e w2 ⟨rfl, rfl⟩) | (go_at_call 69; (with_reducible refine (cS _).mono ?_); rintro e w2 ⟨rfl, rfl⟩))
        go_ret
        exact ⟨by rw [HV.out]; rfl, HB0.out⟩
  · by_cases k2 : k = 2
    · subst k2
      have he := may_num s n
      rw [HM.out] at he
      obtain ⟨q, hq⟩ : ∃ q, isNumL (bl s) = q := ⟨_, rfl⟩
      rw [hq] at he
      obtain rfl : nb = q := hnb.symm.trans hq
      clear HM
      cases nb with
      | false =>
        have HV : Hid (M = false) := he
        clear he hq hnb hnv
        go_enter Tryz.func51, Tryz.ntmps51
        go_wp2_with (first | (go_at_call 67; (with_reducible refine (cN _).mono ?_); rintro e w2 ⟨rfl, rfl⟩) | (go_at_call 68; (with_reducible refine (cW _).mono ?_); rintro e w2 ⟨rfl, rfl⟩) | (go_at_call 69; (with_reducible refine (cS _).mono ?_); rintro e w2 ⟨rfl, rfl⟩))
        go_ret
        exact ⟨by rw [HV.out]; rfl, HB0.out⟩
      | true =>
        obtain rfl : v = numL (bl s) := hnv rfl
        generalize numL (bl s) = v at *
        by_cases hn : n = v
        · subst hn
          have HV : Hid (M = true) := he.trans (by simp)
          clear he hq hnb hnv
          go_enter Tryz.func51, Tryz.ntmps51
          go_wp2_with (first | (go_at_call 67; (with_reducible refine (cN _).mono ?_); rintro e w2 ⟨rfl, rfl⟩) | (go_at_call 68; (with_reducible refine (cW _).mono ?_); rintro e w2 ⟨rfl, rfl⟩) | (go_at_call 69; (with_reducible refine (cS _).mono ?_); rintro e w2 ⟨rfl, rfl⟩))
          go_ret
          exact ⟨by rw [HV.out]; rfl, HB0.out⟩
        · have bn : (n == v) = false := by rw [beq_eq_false_iff_ne]; exact hn
          have HV : Hid (M = false) := he.trans (by rw [bn]; rfl)
          clear he hn hq hnb hnv
          go_enter Tryz.func51, Tryz.ntmps51
          go_wp2_with (first | (go_at_call 67; (with_reducible refine (cN _).mono ?_); rintro e w2 ⟨rfl, rfl⟩) | (go_at_call 68; (with_reducible refine (cW _).mono ?_); rintro e w2 ⟨rfl, rfl⟩) | (go_at_call 69; (with_reducible refine (cS _).mono ?_); rintro e w2 ⟨rfl, rfl⟩))
          go_ret
          exact ⟨by rw [HV.out]; rfl, HB0.out⟩
    · by_cases k3 : k = 3
      · subst k3
        have he := may_sign s n
        rw [HM.out] at he
        obtain ⟨q, hq⟩ : ∃ q, isSignL (bl s) = q := ⟨_, rfl⟩
        rw [hq] at he cS
        clear HM hnb hnv
        cases q with
        | false =>
          have HV : Hid (M = false) := he
          clear he hq
          go_enter Tryz.func51, Tryz.ntmps51
          go_wp2_with (first | (go_at_call 67; (with_reducible refine (cN _).mono ?_); rintro e w2 ⟨rfl, rfl⟩) | (go_at_call 68; (with_reducible refine (cW _).mono ?_); rintro e w2 ⟨rfl, rfl⟩) | (go_at_call 69; (with_reducible refine (cS _).mono ?_); rintro e w2 ⟨rfl, rfl⟩))
          go_ret
          exact ⟨by rw [HV.out]; rfl, HB0.out⟩
        | true =>
          by_cases hn : n = 0
          · subst hn
            have HV : Hid (M = true) := he.trans (by simp)
            clear he hq
            go_enter Tryz.func51, Tryz.ntmps51
            go_wp2_with (first | (go_at_call 67; (with_reducible refine (cN _).mono ?_); rintro e w2 ⟨rfl, rfl⟩) | (go_at_call 68; (with_reducible refine (cW _).mono ?_); rintro e w2 ⟨rfl, rfl⟩) | (go_at_call 69; (with_reducible refine (cS _).mono ?_); rintro e w2 ⟨rfl, rfl⟩))
            go_ret
            exact ⟨by rw [HV.out]; rfl, HB0.out⟩
          · have bn : (n == 0) = false := by rw [beq_eq_false_iff_ne]; exact hn
            have HV : Hid (M = false) := he.trans (by rw [bn]; rfl)
            clear he hn hq
            go_enter Tryz.func51, Tryz.ntmps51
            go_wp2_with (first | (go_at_call 67; (with_reducible refine (cN _).mono ?_); rintro e w2 ⟨rfl, rfl⟩) | (go_at_call 68; (with_reducible refine (cW _).mono ?_); rintro e w2 ⟨rfl, rfl⟩) | (go_at_call 69; (with_reducible refine (cS _).mono ?_); rintro e w2 ⟨rfl, rfl⟩))
            go_ret
            exact ⟨by rw [HV.out]; rfl, HB0.out⟩
      · by_cases k4 : k = 4
        · subst k4
          have he := may_line s n
          rw [HM.out] at he
          clear HM hnb hnv
          by_cases h0 : s.size = 0
          · obtain rfl := size_zero h0
            by_cases hn : n = 0
            · subst hn
              have HV : Hid (M = true) := he.trans (by decide)
              clear he h0
              go_enter Tryz.func51, Tryz.ntmps51
              go_wp2_with (first | (go_at_call 67; (with_reducible refine (cN _).mono ?_); rintro e w2 ⟨rfl, rfl⟩) | (go_at_call 68; (with_reducible refine (cW _).mono ?_); rintro e w2 ⟨rfl, rfl⟩) | (go_at_call 69; (with_reducible refine (cS _).mono ?_); rintro e w2 ⟨rfl, rfl⟩))
              go_ret
              exact ⟨by rw [HV.out]; rfl, HB0.out⟩
            · have bn : (n == 0) = false := by rw [beq_eq_false_iff_ne]; exact hn
              have HV : Hid (M = false) := he.trans (by rw [bn]; simp)
              clear he h0 hn
              go_enter Tryz.func51, Tryz.ntmps51
              go_wp2_with (first | (go_at_call 67; (with_reducible refine (cN _).mono ?_); rintro e w2 ⟨rfl, rfl⟩) | (go_at_call 68; (with_reducible refine (cW _).mono ?_); rintro e w2 ⟨rfl, rfl⟩) | (go_at_call 69; (with_reducible refine (cS _).mono ?_); rintro e w2 ⟨rfl, rfl⟩))
              go_ret
              exact ⟨by rw [HV.out]; rfl, HB0.out⟩
          · have hz := not_empty h0
            have HV : Hid (M = false) := he.trans (by rw [decide_eq_false h0]; rfl)
            clear he h0
            go_enter Tryz.func51, Tryz.ntmps51
            go_wp2_with (first | (go_at_call 67; (with_reducible refine (cN _).mono ?_); rintro e w2 ⟨rfl, rfl⟩) | (go_at_call 68; (with_reducible refine (cW _).mono ?_); rintro e w2 ⟨rfl, rfl⟩) | (go_at_call 69; (with_reducible refine (cS _).mono ?_); rintro e w2 ⟨rfl, rfl⟩))
            go_ret
            exact ⟨by rw [HV.out]; rfl, HB0.out⟩
        · have HV : Hid (M = false) := HM.out.symm.trans (may_other k s n k1 k2 k3 k4)
          have c1 : (k == 1) = false := by rw [beq_eq_false_iff_ne]; exact k1
          have c2 : (k == 2) = false := by rw [beq_eq_false_iff_ne]; exact k2
          have c3 : (k == 3) = false := by rw [beq_eq_false_iff_ne]; exact k3
          have c4 : (k == 4) = false := by rw [beq_eq_false_iff_ne]; exact k4
          clear HM hnb hnv k1 k2 k3 k4
          go_enter Tryz.func51, Tryz.ntmps51
          go_wp2_with (first | (go_at_call 67; (with_reducible refine (cN _).mono ?_); rintro e w2 ⟨rfl, rfl⟩) | (go_at_call 68; (with_reducible refine (cW _).mono ?_); rintro e w2 ⟨rfl, rfl⟩) | (go_at_call 69; (with_reducible refine (cS _).mono ?_); rintro e w2 ⟨rfl, rfl⟩))
          go_ret
          exact ⟨by rw [HV.out]; rfl, HB0.out⟩
end Go.Proofs.YtbmcddolfofmdaaGreatDoor
