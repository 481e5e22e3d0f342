/- Code that is trimmed, or put further on, runs as it did. -/
import Derived.Test.YtgkngimeokhhgaaDoorG6
import Derived.Test.YtgkngimeokhhgaaDoorG5
namespace Go.Proofs.YtgkngimeokhhgaaDoor
open Go.RowKit

/-- the same but for the place, and the steps -/
structure EqS (a b : Ms) : Prop where
  regs : b.R = a.R
  arrs : b.A = a.A
  cells : b.ce = a.ce
theorem EqS.is {a b : Ms} (h : EqS a b) : b = ⟨b.at_, a.R, a.A, b.st, a.ce⟩ := by
  obtain ⟨b0, b1, b2, b3, b4⟩ := b
  obtain ⟨h1, h2, h3⟩ := h
  dsimp only at h1 h2 h3 ⊢
  rw [h1, h2, h3]
/-- an instruction, but for where it jumps to -/
structure Alike (x y : Ji) : Prop where
  op : y.op = x.op
  n : y.n = x.n
  b : y.b = x.b
  a : x.op ≠ 10 → y.a = x.a
  c : x.op ≠ 11 → x.op ≠ 12 → y.c = x.c
theorem doM_sim {s : Ms} {x y : Ji} {cells : Int} {k st : Nat} (hy : Alike x y) :
    (∃ e, doM s x cells = .error e ∧ doM ⟨k, s.R, s.A, st, s.ce⟩ y cells = .error e) ∨ (∃ z u, doM s x cells = .ok z ∧ doM ⟨k, s.R, s.A, st, s.ce⟩ y cells = .ok u ∧ EqS z u ∧
      ((z.at_ = s.at_ ∧ u.at_ = k) ∨ (x.op = 10 ∧ z.at_ = x.a.toNat ∧ u.at_ = y.a.toNat) ∨ ((x.op = 11 ∨ x.op = 12) ∧ z.at_ = x.c.toNat ∧ u.at_ = y.c.toNat))) := by
  obtain ⟨yop, ya, yb, yc, yn⟩ := y
  obtain ⟨h1, h2, h3, ha, hc⟩ := hy
  dsimp only at h1 h2 h3 ha hc ⊢
  subst h1; subst h2; subst h3
  by_cases e1 : x.op = 1
  · obtain rfl : ya = x.a := ha (by omega)
    obtain rfl : yc = x.c := hc (by omega) (by omega)
    exact .inr ⟨s.put x.a x.n, (⟨k, s.R, s.A, st, s.ce⟩ : Ms).put x.a x.n, (by unfold doM; (try dsimp only); rw [if_pos e1]), (by unfold doM; (try dsimp only); rw [if_pos e1]), ⟨rfl, rfl, rfl⟩, .inl ⟨rfl, rfl⟩⟩
  by_cases e2 : x.op = 2
  · obtain rfl : ya = x.a := ha (by omega)
    obtain rfl : yc = x.c := hc (by omega) (by omega)
    exact .inr ⟨s.put x.a (s.r x.b), (⟨k, s.R, s.A, st, s.ce⟩ : Ms).put x.a ((⟨k, s.R, s.A, st, s.ce⟩ : Ms).r x.b), (by unfold doM; (try dsimp only); rw [if_neg e1, if_pos e2]), (by unfold doM; (try dsimp only); rw [if_neg e1, if_pos e2]), ⟨rfl, rfl, rfl⟩, .inl ⟨rfl, rfl⟩⟩
  by_cases e3 : x.op = 3
  · obtain rfl : ya = x.a := ha (by omega)
    obtain rfl : yc = x.c := hc (by omega) (by omega)
    exact .inr ⟨s.put x.a (wrap64 (s.r x.b + s.r x.c)), (⟨k, s.R, s.A, st, s.ce⟩ : Ms).put x.a (wrap64 ((⟨k, s.R, s.A, st, s.ce⟩ : Ms).r x.b + (⟨k, s.R, s.A, st, s.ce⟩ : Ms).r x.c)), (by unfold doM; (try dsimp only); rw [if_neg e1, if_neg e2, if_pos e3]), (by unfold doM; (try dsimp only); rw [if_neg e1, if_neg e2, if_pos e3]), ⟨rfl, rfl, rfl⟩, .inl ⟨rfl, rfl⟩⟩
  by_cases e4 : x.op = 4
  · obtain rfl : ya = x.a := ha (by omega)
    obtain rfl : yc = x.c := hc (by omega) (by omega)
    exact .inr ⟨s.put x.a (wrap64 (s.r x.b - s.r x.c)), (⟨k, s.R, s.A, st, s.ce⟩ : Ms).put x.a (wrap64 ((⟨k, s.R, s.A, st, s.ce⟩ : Ms).r x.b - (⟨k, s.R, s.A, st, s.ce⟩ : Ms).r x.c)), (by unfold doM; (try dsimp only); rw [if_neg e1, if_neg e2, if_neg e3, if_pos e4]), (by unfold doM; (try dsimp only); rw [if_neg e1, if_neg e2, if_neg e3, if_pos e4]), ⟨rfl, rfl, rfl⟩, .inl ⟨rfl, rfl⟩⟩
  by_cases e5 : x.op = 5
  · obtain rfl : ya = x.a := ha (by omega)
    obtain rfl : yc = x.c := hc (by omega) (by omega)
    exact .inr ⟨s.put x.a (wrap64 (s.r x.b * s.r x.c)), (⟨k, s.R, s.A, st, s.ce⟩ : Ms).put x.a (wrap64 ((⟨k, s.R, s.A, st, s.ce⟩ : Ms).r x.b * (⟨k, s.R, s.A, st, s.ce⟩ : Ms).r x.c)), (by unfold doM; (try dsimp only); rw [if_neg e1, if_neg e2, if_neg e3, if_neg e4, if_pos e5]), (by unfold doM; (try dsimp only); rw [if_neg e1, if_neg e2, if_neg e3, if_neg e4, if_pos e5]), ⟨rfl, rfl, rfl⟩, .inl ⟨rfl, rfl⟩⟩
  by_cases e6 : x.op = 6
  · obtain rfl : ya = x.a := ha (by omega)
    obtain rfl : yc = x.c := hc (by omega) (by omega)
    by_cases e : s.r x.c < 0 ∨ ((s.a x.b).length : Int) ≤ s.r x.c
    · have g2 : (⟨k, s.R, s.A, st, s.ce⟩ : Ms).r x.c < 0 ∨ (((⟨k, s.R, s.A, st, s.ce⟩ : Ms).a x.b).length : Int) ≤ (⟨k, s.R, s.A, st, s.ce⟩ : Ms).r x.c := e
      exact .inl ⟨3, (by unfold doM; (try dsimp only); rw [if_neg e1, if_neg e2, if_neg e3, if_neg e4, if_neg e5, if_pos e6, if_pos e]), (by unfold doM; (try dsimp only); rw [if_neg e1, if_neg e2, if_neg e3, if_neg e4, if_neg e5, if_pos e6, if_pos g2])⟩
    · have g2 : ¬ ((⟨k, s.R, s.A, st, s.ce⟩ : Ms).r x.c < 0 ∨ (((⟨k, s.R, s.A, st, s.ce⟩ : Ms).a x.b).length : Int) ≤ (⟨k, s.R, s.A, st, s.ce⟩ : Ms).r x.c) := e
      exact .inr ⟨s.put x.a ((s.a x.b).getD (s.r x.c).toNat 0), (⟨k, s.R, s.A, st, s.ce⟩ : Ms).put x.a (((⟨k, s.R, s.A, st, s.ce⟩ : Ms).a x.b).getD ((⟨k, s.R, s.A, st, s.ce⟩ : Ms).r x.c).toNat 0), (by unfold doM; (try dsimp only); rw [if_neg e1, if_neg e2, if_neg e3, if_neg e4, if_neg e5, if_pos e6, if_neg e]), (by unfold doM; (try dsimp only); rw [if_neg e1, if_neg e2, if_neg e3, if_neg e4, if_neg e5, if_pos e6, if_neg g2]), ⟨rfl, rfl, rfl⟩, .inl ⟨rfl, rfl⟩⟩
  by_cases e7 : x.op = 7
  · obtain rfl : ya = x.a := ha (by omega)
    obtain rfl : yc = x.c := hc (by omega) (by omega)
    by_cases e : s.r x.b < 0 ∨ ((s.a x.a).length : Int) ≤ s.r x.b
    · have g2 : (⟨k, s.R, s.A, st, s.ce⟩ : Ms).r x.b < 0 ∨ (((⟨k, s.R, s.A, st, s.ce⟩ : Ms).a x.a).length : Int) ≤ (⟨k, s.R, s.A, st, s.ce⟩ : Ms).r x.b := e
      exact .inl ⟨3, (by unfold doM; (try dsimp only); rw [if_neg e1, if_neg e2, if_neg e3, if_neg e4, if_neg e5, if_neg e6, if_pos e7, if_pos e]), (by unfold doM; (try dsimp only); rw [if_neg e1, if_neg e2, if_neg e3, if_neg e4, if_neg e5, if_neg e6, if_pos e7, if_pos g2])⟩
    · have g2 : ¬ ((⟨k, s.R, s.A, st, s.ce⟩ : Ms).r x.b < 0 ∨ (((⟨k, s.R, s.A, st, s.ce⟩ : Ms).a x.a).length : Int) ≤ (⟨k, s.R, s.A, st, s.ce⟩ : Ms).r x.b) := e
      exact .inr ⟨s.arr x.a ((s.a x.a).set (s.r x.b).toNat (s.r x.c)), (⟨k, s.R, s.A, st, s.ce⟩ : Ms).arr x.a (((⟨k, s.R, s.A, st, s.ce⟩ : Ms).a x.a).set ((⟨k, s.R, s.A, st, s.ce⟩ : Ms).r x.b).toNat ((⟨k, s.R, s.A, st, s.ce⟩ : Ms).r x.c)), (by unfold doM; (try dsimp only); rw [if_neg e1, if_neg e2, if_neg e3, if_neg e4, if_neg e5, if_neg e6, if_pos e7, if_neg e]), (by unfold doM; (try dsimp only); rw [if_neg e1, if_neg e2, if_neg e3, if_neg e4, if_neg e5, if_neg e6, if_pos e7, if_neg g2]), ⟨rfl, rfl, rfl⟩, .inl ⟨rfl, rfl⟩⟩
  by_cases e8 : x.op = 8
  · obtain rfl : ya = x.a := ha (by omega)
    obtain rfl : yc = x.c := hc (by omega) (by omega)
    exact .inr ⟨s.put x.a ((s.a x.b).length : Int), (⟨k, s.R, s.A, st, s.ce⟩ : Ms).put x.a (((⟨k, s.R, s.A, st, s.ce⟩ : Ms).a x.b).length : Int), (by unfold doM; (try dsimp only); rw [if_neg e1, if_neg e2, if_neg e3, if_neg e4, if_neg e5, if_neg e6, if_neg e7, if_pos e8]), (by unfold doM; (try dsimp only); rw [if_neg e1, if_neg e2, if_neg e3, if_neg e4, if_neg e5, if_neg e6, if_neg e7, if_pos e8]), ⟨rfl, rfl, rfl⟩, .inl ⟨rfl, rfl⟩⟩
  by_cases e9 : x.op = 9
  · obtain rfl : ya = x.a := ha (by omega)
    obtain rfl : yc = x.c := hc (by omega) (by omega)
    by_cases e : cells ≤ (s.ce : Int)
    · have g2 : cells ≤ ((⟨k, s.R, s.A, st, s.ce⟩ : Ms).ce : Int) := e
      exact .inl ⟨10, (by unfold doM; (try dsimp only); rw [if_neg e1, if_neg e2, if_neg e3, if_neg e4, if_neg e5, if_neg e6, if_neg e7, if_neg e8, if_pos e9, if_pos e]), (by unfold doM; (try dsimp only); rw [if_neg e1, if_neg e2, if_neg e3, if_neg e4, if_neg e5, if_neg e6, if_neg e7, if_neg e8, if_pos e9, if_pos g2])⟩
    · have g2 : ¬ (cells ≤ ((⟨k, s.R, s.A, st, s.ce⟩ : Ms).ce : Int)) := e
      exact .inr ⟨{ s.arr x.a (s.a x.a ++ [s.r x.b]) with ce := s.ce + 1 }, { (⟨k, s.R, s.A, st, s.ce⟩ : Ms).arr x.a ((⟨k, s.R, s.A, st, s.ce⟩ : Ms).a x.a ++ [(⟨k, s.R, s.A, st, s.ce⟩ : Ms).r x.b]) with ce := (⟨k, s.R, s.A, st, s.ce⟩ : Ms).ce + 1 }, (by unfold doM; (try dsimp only); rw [if_neg e1, if_neg e2, if_neg e3, if_neg e4, if_neg e5, if_neg e6, if_neg e7, if_neg e8, if_pos e9, if_neg e]), (by unfold doM; (try dsimp only); rw [if_neg e1, if_neg e2, if_neg e3, if_neg e4, if_neg e5, if_neg e6, if_neg e7, if_neg e8, if_pos e9, if_neg g2]), ⟨rfl, rfl, rfl⟩, .inl ⟨rfl, rfl⟩⟩
  by_cases e10 : x.op = 10
  · obtain rfl : yc = x.c := hc (by omega) (by omega)
    exact .inr ⟨s.goto_ x.a, (⟨k, s.R, s.A, st, s.ce⟩ : Ms).goto_ ya, (by unfold doM; (try dsimp only); rw [if_neg e1, if_neg e2, if_neg e3, if_neg e4, if_neg e5, if_neg e6, if_neg e7, if_neg e8, if_neg e9, if_pos e10]), (by unfold doM; (try dsimp only); rw [if_neg e1, if_neg e2, if_neg e3, if_neg e4, if_neg e5, if_neg e6, if_neg e7, if_neg e8, if_neg e9, if_pos e10]), ⟨rfl, rfl, rfl⟩, .inr (.inl ⟨e10, rfl, rfl⟩)⟩
  by_cases e11 : x.op = 11
  · obtain rfl : ya = x.a := ha (by omega)
    by_cases e : s.r x.a < s.r x.b
    · have g2 : (⟨k, s.R, s.A, st, s.ce⟩ : Ms).r x.a < (⟨k, s.R, s.A, st, s.ce⟩ : Ms).r x.b := e
      exact .inr ⟨s.goto_ x.c, (⟨k, s.R, s.A, st, s.ce⟩ : Ms).goto_ yc, (by unfold doM; (try dsimp only); rw [if_neg e1, if_neg e2, if_neg e3, if_neg e4, if_neg e5, if_neg e6, if_neg e7, if_neg e8, if_neg e9, if_neg e10, if_pos e11, if_pos e]), (by unfold doM; (try dsimp only); rw [if_neg e1, if_neg e2, if_neg e3, if_neg e4, if_neg e5, if_neg e6, if_neg e7, if_neg e8, if_neg e9, if_neg e10, if_pos e11, if_pos g2]), ⟨rfl, rfl, rfl⟩, .inr (.inr ⟨.inl e11, rfl, rfl⟩)⟩
    · have g2 : ¬ ((⟨k, s.R, s.A, st, s.ce⟩ : Ms).r x.a < (⟨k, s.R, s.A, st, s.ce⟩ : Ms).r x.b) := e
      exact .inr ⟨s, (⟨k, s.R, s.A, st, s.ce⟩ : Ms), (by unfold doM; (try dsimp only); rw [if_neg e1, if_neg e2, if_neg e3, if_neg e4, if_neg e5, if_neg e6, if_neg e7, if_neg e8, if_neg e9, if_neg e10, if_pos e11, if_neg e]), (by unfold doM; (try dsimp only); rw [if_neg e1, if_neg e2, if_neg e3, if_neg e4, if_neg e5, if_neg e6, if_neg e7, if_neg e8, if_neg e9, if_neg e10, if_pos e11, if_neg g2]), ⟨rfl, rfl, rfl⟩, .inl ⟨rfl, rfl⟩⟩
  by_cases e12 : x.op = 12
  · obtain rfl : ya = x.a := ha (by omega)
    by_cases e : s.r x.a = s.r x.b
    · have g2 : (⟨k, s.R, s.A, st, s.ce⟩ : Ms).r x.a = (⟨k, s.R, s.A, st, s.ce⟩ : Ms).r x.b := e
      exact .inr ⟨s.goto_ x.c, (⟨k, s.R, s.A, st, s.ce⟩ : Ms).goto_ yc, (by unfold doM; (try dsimp only); rw [if_neg e1, if_neg e2, if_neg e3, if_neg e4, if_neg e5, if_neg e6, if_neg e7, if_neg e8, if_neg e9, if_neg e10, if_neg e11, if_pos e12, if_pos e]), (by unfold doM; (try dsimp only); rw [if_neg e1, if_neg e2, if_neg e3, if_neg e4, if_neg e5, if_neg e6, if_neg e7, if_neg e8, if_neg e9, if_neg e10, if_neg e11, if_pos e12, if_pos g2]), ⟨rfl, rfl, rfl⟩, .inr (.inr ⟨.inr e12, rfl, rfl⟩)⟩
    · have g2 : ¬ ((⟨k, s.R, s.A, st, s.ce⟩ : Ms).r x.a = (⟨k, s.R, s.A, st, s.ce⟩ : Ms).r x.b) := e
      exact .inr ⟨s, (⟨k, s.R, s.A, st, s.ce⟩ : Ms), (by unfold doM; (try dsimp only); rw [if_neg e1, if_neg e2, if_neg e3, if_neg e4, if_neg e5, if_neg e6, if_neg e7, if_neg e8, if_neg e9, if_neg e10, if_neg e11, if_pos e12, if_neg e]), (by unfold doM; (try dsimp only); rw [if_neg e1, if_neg e2, if_neg e3, if_neg e4, if_neg e5, if_neg e6, if_neg e7, if_neg e8, if_neg e9, if_neg e10, if_neg e11, if_pos e12, if_neg g2]), ⟨rfl, rfl, rfl⟩, .inl ⟨rfl, rfl⟩⟩
  obtain rfl : ya = x.a := ha (by omega)
  obtain rfl : yc = x.c := hc (by omega) (by omega)
  exact .inr ⟨s, (⟨k, s.R, s.A, st, s.ce⟩ : Ms), (by unfold doM; (try dsimp only); rw [if_neg e1, if_neg e2, if_neg e3, if_neg e4, if_neg e5, if_neg e6, if_neg e7, if_neg e8, if_neg e9, if_neg e10, if_neg e11, if_neg e12]), (by unfold doM; (try dsimp only); rw [if_neg e1, if_neg e2, if_neg e3, if_neg e4, if_neg e5, if_neg e6, if_neg e7, if_neg e8, if_neg e9, if_neg e10, if_neg e11, if_neg e12]), ⟨rfl, rfl, rfl⟩, .inl ⟨rfl, rfl⟩⟩
theorem renum_alike (f : Nat → Nat) (x : Ji) : Alike x (renum f x) ∧ (x.op = 10 → (renum f x).a.toNat = f x.a.toNat) ∧ (x.op = 11 ∨ x.op = 12 → (renum f x).c.toNat = f x.c.toNat) := by
  unfold renum
  by_cases h1 : x.op = 10
  · rw [if_pos h1]
    exact ⟨⟨rfl, rfl, rfl, fun h => absurd h1 h, fun _ _ => rfl⟩, fun _ => Int.toNat_natCast _, fun h => by omega⟩
  · rw [if_neg h1]
    by_cases h2 : x.op = 11 ∨ x.op = 12
    · rw [if_pos h2]
      exact ⟨⟨rfl, rfl, rfl, fun _ => rfl, fun h3 h4 => by omega⟩, fun h => absurd h h1, fun _ => Int.toNat_natCast _⟩
    · rw [if_neg h2]
      exact ⟨⟨rfl, rfl, rfl, fun _ => rfl, fun _ _ => rfl⟩, fun h => absurd h h1, fun h => absurd h h2⟩
section
variable {c : Cd} {cells : Int} (hm : c.may = true)
include hm
/-- code that is laid out elsewhere: instruction i at f i -/
theorem goM_sim (S : Cd) (f : Nat → Nat) (hf : ∀ i x, Way c.l (-1) i → c.l[i]? = some x → ∃ y, S.l[f i]? = some y ∧ Alike x y ∧ (x.op = 10 → y.a.toNat = f x.a.toNat) ∧ (x.op = 11 ∨ x.op = 12 → y.c.toNat = f x.c.toNat) ∧ f (i + 1) = f i + 1) :
    ∀ {k : Nat} {s : Ms} {st : Nat}, Way c.l (-1) s.at_ → (∃ e, goM c cells k s = .error e ∧ goM S cells k ⟨f s.at_, s.R, s.A, st, s.ce⟩ = .error e) ∨ (∃ z u p q, goM c cells k s = .ok (z, p) ∧ goM S cells k ⟨f s.at_, s.R, s.A, st, s.ce⟩ = .ok (u, q) ∧ EqS z u ∧ q.length = p.length)
  | 0, _, _, _ => .inl ⟨9, rfl, rfl⟩
  | k + 1, s, st, hw => by
    obtain ⟨hlt, hs4⟩ := small_at hm hw
    obtain ⟨hmx, hxl⟩ := may_get hm hlt
    obtain ⟨y, hy, hal, hj1, hj2, hf1⟩ := hf _ _ hw hxl
    have hyd : S.l.getD (f s.at_) zJi = y := by rw [List.getD_eq_getElem?_getD, hy]; rfl
    unfold goM
    dsimp only
    rw [hyd]
    generalize hx : c.l.getD s.at_ zJi = x at *
    rcases doM_sim (s := s.tick) (x := x) (y := y) (cells := cells) (k := f s.at_ + 1) (st := st + 1) hal with ⟨e, h1, h2⟩ | ⟨z, u, h1, h2, h3, h4⟩
    · have h1 : stepM s x cells = .error e := h1
      have h2 : stepM ⟨f s.at_, s.R, s.A, st, s.ce⟩ y cells = .error e := h2
      rw [h1, h2]
      exact .inl ⟨e, rfl, rfl⟩
    · have h1 : stepM s x cells = .ok z := h1
      have h2 : stepM ⟨f s.at_, s.R, s.A, st, s.ce⟩ y cells = .ok u := h2
      rw [h1, h2]
      dsimp only
      rw [hal.op]
      by_cases h0 : x.op = 0
      · rw [if_pos h0, if_pos h0]
        exact .inr ⟨z, u, _, _, rfl, rfl, h3, rfl⟩
      · rw [if_neg h0, if_neg h0]
        have hn := stepM_next hmx hs4 h1 h0
        have hw2 : Way c.l (-1) z.at_ := Way.on hm hw hxl hn
        have hu : u.at_ = f z.at_ := by
          rcases h4 with ⟨a1, a2⟩ | ⟨a0, a1, a2⟩ | ⟨a0, a1, a2⟩
          · have a1 : z.at_ = s.at_ + 1 := a1
            rw [a2, a1, hf1]
          · rw [a2, a1, hj1 a0]
          · rw [a2, a1, hj2 a0]
        have hus := h3.is
        rw [hu] at hus
        rw [hus]
        rcases goM_sim S f hf (k := k) (s := z) (st := u.st) hw2 with ⟨e, g1, g2⟩ | ⟨z2, u2, p, q, g1, g2, g3, g4⟩
        · rw [g1, g2]
          exact .inl ⟨e, rfl, rfl⟩
        · rw [g1, g2]
          exact .inr ⟨z2, u2, _, _, rfl, rfl, g3, by simp [g4]⟩
/-- trimmed, it comes to the same, in as many steps -/
theorem goM_trim {k : Nat} {s : Ms} {st : Nat} (hw : Way c.l (-1) s.at_) : (∃ e, goM c cells k s = .error e ∧ goM c.trim cells k ⟨rk c s.at_, s.R, s.A, st, s.ce⟩ = .error e) ∨ (∃ z u p q, goM c cells k s = .ok (z, p) ∧ goM c.trim cells k ⟨rk c s.at_, s.R, s.A, st, s.ce⟩ = .ok (u, q) ∧ EqS z u ∧ q.length = p.length) :=
  goM_sim hm c.trim (rk c) (fun i x hwi hx => by
    have hb := wayB_iff.2 hwi
    obtain ⟨h1, h2, h3⟩ := renum_alike (rk c) x
    exact ⟨_, trim_at hx hb, h1, h2, h3, rk_succ hb⟩) hw
end
end Go.Proofs.YtgkngimeokhhgaaDoor
