/- slices.symMergeCmpFunc at entries, at any two runs that stand in order. -/
import Derived.Test.YtpjelcghlnmoeaaESymB
import Derived.Test.YtpjelcghlnmoeaaESymC
namespace Go.Proofs.Ytpjelcghlnmoeaa
open Go.RowKit

theorem one_of {α : Type} {L : List α} (h : L.length = 1) : ∃ x, L = [x] := by
  match L, h with
  | [x], _ => exact ⟨x, rfl⟩
theorem symMerge_ok (g n c bo : Nat) (post : List Value) (Ao : Option Addr) (ro co : Nat) (os : List Int) (hnb : n ≤ 4000000000000000000) (K : Nat) : ∀ (a m b : Nat) (P L R S : List Ent) (w : World), b - a ≤ K → RowE w g (P ++ L ++ R ++ S) post → P.length = a → a + L.length = m → m + R.length = b → b + S.length = n → a < m → m < b → InOrd os L → InOrd os R → CtxE w g bo Ao ro co os (L ++ R) →
    Calls Try.prog 88 #[.slice (some ⟨g, 0, none⟩) n c, .int .i64 (a : Int), .int .i64 (m : Int), .int .i64 (b : Int), .func (.func 72) #[] #[.pointer (some ⟨bo, 0, none⟩)]] w
      fun e w' => e = .returned (.tuple #[]) ∧ RowE w' g (P ++ mergeE os L R ++ S) post ∧ w.grownBy w' (some g) := by
  induction K with
  | zero => intro a m b P L R S w h0 _ _ _ _ _ h1 h2; omega
  | succ K ih =>
    intro a m b P L R S w h0 hr hP hL hR hn h1 h2 hOL hOR hC
    by_cases hl : L.length = 1
    · obtain ⟨x, rfl⟩ := one_of hl
      exact symOneL_ok g n c a m b bo P R S x post Ao ro co os w hr hP (by simpa using hL) hR hn hnb hOR hC
    · by_cases hr1 : R.length = 1
      · obtain ⟨x, rfl⟩ := one_of hr1
        exact symOneR_ok g n c a m b bo P L S x post Ao ro co os w hr hP hL (by simpa using hR) (by omega) hn hnb hOL hC
      · by_cases hs : (a + b) / 2 < m
        · exact symRest1_ok g n c a m b ((a + b) / 2) bo P L R S post Ao ro co os w hr hP hL hR (by omega) (by omega) hn hnb hOL hOR hC rfl hs (fun a2 m2 b2 P2 L2 R2 S2 w2 hlt => ih a2 m2 b2 P2 L2 R2 S2 w2 (by omega))
        · exact symRest2_ok g n c a m b ((a + b) / 2) bo P L R S post Ao ro co os w hr hP hL hR (by omega) (by omega) hn hnb hOL hOR hC rfl (by omega) (fun a2 m2 b2 P2 L2 R2 S2 w2 hlt => ih a2 m2 b2 P2 L2 R2 S2 w2 (by omega))
theorem merge_any (g n c a m b bo : Nat) (P L R S : List Ent) (post : List Value) (Ao : Option Addr) (ro co : Nat) (os : List Int) (w : World)
    (hblk : RowE w g (P ++ L ++ R ++ S) post) (hP : P.length = a) (hm : a + L.length = m) (hb : m + R.length = b) (hn : b + S.length = n) (hnb : n ≤ 4000000000000000000) (h1 : a < m) (h2 : m < b) (hOL : InOrd os L) (hOR : InOrd os R) (hC : CtxE w g bo Ao ro co os (L ++ R)) :
    Calls Try.prog 88 #[.slice (some ⟨g, 0, none⟩) n c, .int .i64 (a : Int), .int .i64 (m : Int), .int .i64 (b : Int), .func (.func 72) #[] #[.pointer (some ⟨bo, 0, none⟩)]] w
      fun e w' => e = .returned (.tuple #[]) ∧ RowE w' g (P ++ mergeE os L R ++ S) post ∧ w.grownBy w' (some g) :=
  symMerge_ok g n c bo post Ao ro co os hnb (b - a) a m b P L R S w (Nat.le_refl _) hblk hP hm hb hn h1 h2 hOL hOR hC
end Go.Proofs.Ytpjelcghlnmoeaa
