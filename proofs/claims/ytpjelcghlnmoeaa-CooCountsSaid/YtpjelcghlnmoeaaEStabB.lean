/- slices.stableCmpFunc and slices.SortStableFunc at entries, at any length: what the insertion sort of all of them makes. -/
import Derived.Test.YtpjelcghlnmoeaaEStabM
namespace Go.Proofs.Ytpjelcghlnmoeaa
open Go.RowKit

set_option maxRecDepth 100000 in
set_option maxHeartbeats 8000000 in
theorem stable_any (g n c bo : Nat) (es : List Ent) (post : List Value) (Ao : Option Addr) (ro co : Nat) (os : List Int) (w : World)
    (hblk : RowE w g es post) (hl : es.length = n) (hnb : n ≤ 1000000000) (hC : CtxE w g bo Ao ro co os es) :
    Calls Try.prog 71 #[.slice (some ⟨g, 0, none⟩) n c, .int .i64 (n : Int), .func (.func 72) #[] #[.pointer (some ⟨bo, 0, none⟩)]] w
      fun e w' => e = .returned (.tuple #[]) ∧ RowE w' g (sortE os es) post ∧ w.grownBy w' (some g) := by
  have HB := Lib.hid hblk
  have HL := Lib.hid hl
  have HC := Lib.hid hC
  clear hblk hl hC
  go_enter Try.func71, Try.ntmps71
  go_wp2
  go_loopw [7, 8] (fun v u wr => ∃ (t a b : Nat), v = .int .i64 (a : Int) ∧ u = .int .i64 (b : Int) ∧ Hid (a = t * 20) ∧ Hid (b = a + 20) ∧ a ≤ n ∧ Hid (RowE wr g (chunkP os 20 es t ++ es.drop a) post) ∧ Hid (w.grownBy wr (some g))) (fun v _ _ => n + 20 - (intOf v).toNat)
  case atStart => exact ⟨0, 0, 20, rfl, rfl, rfl, rfl, Nat.zero_le _, by unfold Hid; simpa [chunkP] using HB.out, Lib.hid (grown_same w g)⟩
  case round =>
    obtain ⟨t, a, b, rfl, rfl, HA, HAB, han, HW, HG⟩ := hrel
    have hab1 : b ≤ n + 20 := by have := HAB.out; omega
    have hab2 : a < b := by have := HAB.out; omega
    by_cases hlt : b ≤ n
    · have hlc : (chunkP os 20 es t).length = a := by rw [chunkP_len os 20 es t (by rw [HL.out, ← HA.out]; exact han)]; exact HA.out.symm
      have hI := insertion_ok g n c a b bo (chunkP os 20 es t) (es.drop a) post Ao ro co os wr HW.out hlc (by rw [List.length_drop, HL.out]; omega) (by omega) (by have := HAB.out; omega) hlt
        (fun x hx => (HC.out.grown HG.out (fun y hy => hy)).ents x (List.mem_of_mem_drop hx)) (HC.out.grown HG.out (fun y hy => hy)).ord (HC.out.grown HG.out (fun y hy => hy)).cell HC.out.off HC.out.few
      have HN : Hid (chunkP os 20 es (t + 1) ++ es.drop (a + 20) = chunkP os 20 es t ++ (sortE os ((es.drop a).take (b - a)) ++ (es.drop a).drop (b - a))) := by
        unfold Hid
        rw [show b - a = 20 by have := HAB.out; omega, List.drop_drop]
        conv => lhs; unfold chunkP
        rw [← HA.out, List.append_assoc]
      clear hlc
      go_wp2_with (fail)
      refine hI.mono ?_
      rintro _ w2 ⟨rfl, hr2, hg2⟩
      have HR2 : Hid (RowE w2 g (chunkP os 20 es (t + 1) ++ es.drop b) post) := by unfold Hid; rw [HAB.out, HN.out]; exact hr2
      have HG2 := Lib.hid (grown_trans HG.out hg2)
      clear hI hr2 hg2
      go_wp2
      go_roundw
      case rel => exact ⟨t + 1, b, b + 20, rfl, by go_num, by unfold Hid; have := HA.out; have := HAB.out; omega, rfl, hlt, HR2, HG2⟩
      case measure => simp [intOf]; omega
    · have hlc : (chunkP os 20 es t).length = a := by rw [chunkP_len os 20 es t (by rw [HL.out, ← HA.out]; exact han)]; exact HA.out.symm
      have hI := insertion_ok g n c a n bo (chunkP os 20 es t) (es.drop a) post Ao ro co os wr HW.out hlc (by rw [List.length_drop, HL.out]; omega) (by omega) han (Nat.le_refl _)
        (fun x hx => (HC.out.grown HG.out (fun y hy => hy)).ents x (List.mem_of_mem_drop hx)) (HC.out.grown HG.out (fun y hy => hy)).ord (HC.out.grown HG.out (fun y hy => hy)).cell HC.out.off HC.out.few
      have HN : Hid (chunkP os 20 es t ++ (sortE os ((es.drop a).take (n - a)) ++ (es.drop a).drop (n - a)) = allP os 20 es) := by
        unfold Hid
        have hdl : (es.drop a).length = n - a := by rw [List.length_drop, HL.out]
        have q1 : (es.drop a).take (n - a) = es.drop a := List.take_of_length_le (by omega)
        have q2 : (es.drop a).drop (n - a) = [] := List.drop_of_length_le (by omega)
        rw [q1, q2, List.append_nil, ← allP_few os (s := 20) (l := es.drop a) (by omega) (by have := HAB.out; omega), HA.out]
        exact chunkP_all os (by omega) es t
      clear hlc
      go_wp2_with (fail)
      refine hI.mono ?_
      rintro _ w2 ⟨rfl, hr2, hg2⟩
      have HR2 : Hid (RowE w2 g (allP os 20 es) post) := by unfold Hid; rw [← HN.out]; exact hr2
      have HG2 := Lib.hid (grown_trans HG.out hg2)
      clear hI hr2 hg2 HW HG HN HA HAB hab1 hab2 han
      go_wp2
      go_loopw [6] (fun v wx => ∃ s : Nat, v = .int .i64 (s : Int) ∧ 1 ≤ s ∧ s ≤ 2 * n + 20 ∧ Hid (RowE wx g (allP os s es) post) ∧ Hid (w.grownBy wx (some g))) (fun v _ => 2 * n + 20 - (intOf v).toNat)
      case atStart => exact ⟨20, rfl, by omega, by omega, HR2, HG2⟩
      case round =>
        clear HR2 HG2
        obtain ⟨s, rfl, hs1, hsn, HW, HG⟩ := hrel
        by_cases hsl : s < n
        · obtain ⟨s2, hs2⟩ : ∃ s2 : Nat, 2 * s = s2 := ⟨_, rfl⟩
          have e1 : (2 : Int) * (s : Int) = (s2 : Int) := by omega
          have e2 : (s : Int) * 2 = (s2 : Int) := by omega
          have HS2 := Lib.hid hs2
          have hs2n : s2 ≤ 2 * n := by omega
          have hs21 : s < s2 := by omega
          have hs22 : 1 ≤ s2 := by omega
          have HWZ : Hid (RowE wr g (chunkP os s2 es 0 ++ allP os s (es.drop 0)) post) := by unfold Hid; simpa [chunkP] using HW.out
          clear hs2 HW
          go_wp2
          obtain ⟨wo, rfl⟩ : ∃ wo : World, wo = wr := ⟨_, rfl⟩
          go_loopw [7, 8] (fun v u wx => ∃ (t a b : Nat), v = .int .i64 (a : Int) ∧ u = .int .i64 (b : Int) ∧ Hid (a = t * s2) ∧ Hid (b = a + s2) ∧ a ≤ n ∧ Hid (RowE wx g (chunkP os s2 es t ++ allP os s (es.drop a)) post) ∧ Hid (w.grownBy wx (some g))) (fun v _ _ => n + s2 - (intOf v).toNat)
          case atStart => exact ⟨0, 0, s2, rfl, rfl, by unfold Hid; omega, by unfold Hid; omega, Nat.zero_le _, HWZ, HG⟩
          case round =>
            clear HWZ HG
            obtain ⟨t, a, b, rfl, rfl, HA, HAB, han, HW, HG⟩ := hrel
            have hab1 : b ≤ n + s2 := by have := HAB.out; omega
            have hab2 : a < b := by have := HAB.out; omega
            have hlc : (chunkP os s2 es t).length = a := by rw [chunkP_len os s2 es t (by rw [HL.out, ← HA.out]; exact han)]; exact HA.out.symm
            have hdl : (es.drop a).length = n - a := by rw [List.length_drop, HL.out]
            obtain ⟨m, hm⟩ : ∃ m : Nat, a + s = m := ⟨_, rfl⟩
            have eA : (a : Int) + (s : Int) = (m : Int) := by omega
            by_cases hlt : b ≤ n
            · have hx := allP_two os hs1 (es.drop a)
              have hR := HW.out
              rw [hx] at hR
              have hI := merge_any g n c a m b bo (chunkP os s2 es t) (sortE os ((es.drop a).take s)) (sortE os (((es.drop a).drop s).take s)) (allP os s ((es.drop a).drop (2 * s))) post Ao ro co os wr
                (by rw [List.append_assoc, List.append_assoc, ← List.append_assoc (sortE os ((es.drop a).take s))]; exact hR) hlc (by rw [sortE_len, List.length_take]; have := HS2.out; have := HAB.out; omega) (by rw [sortE_len, List.length_take, List.length_drop]; have := HS2.out; have := HAB.out; omega)
                (by rw [allP_len os hs1, List.length_drop, List.length_drop, HL.out]; have := HS2.out; have := HAB.out; omega) (by omega) (by omega) (by have := HS2.out; have := HAB.out; omega) (sortE_ord _ _) (sortE_ord _ _)
                (HC.out.grown HG.out (fun x hx => by
                  rcases List.mem_append.1 hx with h | h
                  · exact List.mem_of_mem_drop (List.mem_of_mem_take (sortE_sub h))
                  · exact List.mem_of_mem_drop (List.mem_of_mem_drop (List.mem_of_mem_take (sortE_sub h)))))
              rw [merge_two] at hI
              have HN : Hid (chunkP os s2 es (t + 1) ++ allP os s (es.drop (a + s2)) = chunkP os s2 es t ++ sortE os ((es.drop a).take (2 * s)) ++ allP os s ((es.drop a).drop (2 * s))) := by
                unfold Hid
                rw [List.drop_drop, HS2.out]
                conv => lhs; unfold chunkP
                rw [← HA.out]
              clear hlc hdl hx hR hm
              go_wp2_with (fail)
              refine hI.mono ?_
              rintro _ w3 ⟨rfl, hr3, hg3⟩
              have HR3 : Hid (RowE w3 g (chunkP os s2 es (t + 1) ++ allP os s (es.drop b)) post) := by unfold Hid; rw [HAB.out, HN.out]; exact hr3
              have HG3 := Lib.hid (grown_trans HG.out hg3)
              obtain ⟨b2, hb2⟩ : ∃ b2 : Nat, b + s2 = b2 := ⟨_, rfl⟩
              have eB : (b : Int) + (s2 : Int) = (b2 : Int) := by omega
              have hbn2 : b2 ≤ 5 * n := by omega
              have HB2 : Hid (b2 = b + s2) := hb2.symm
              clear hI hr3 hg3 hb2
              go_wp2
              go_roundw
              case rel => exact ⟨t + 1, b, b2, rfl, rfl, by unfold Hid; have := HA.out; rw [HAB.out, Nat.add_mul, Nat.one_mul, ← this], HB2, hlt, HR3, HG3⟩
              case measure => simp [intOf]; omega
            · by_cases hmn : m < n
              · have hx := allP_step os hs1 (es.drop a)
                rw [allP_few os hs1 (l := (es.drop a).drop s) (by rw [List.length_drop]; have := HS2.out; have := HAB.out; omega)] at hx
                have hR := HW.out
                rw [hx] at hR
                have hI := merge_any g n c a m n bo (chunkP os s2 es t) (sortE os ((es.drop a).take s)) (sortE os ((es.drop a).drop s)) [] post Ao ro co os wr
                  (by rw [List.append_nil, List.append_assoc]; exact hR) hlc (by rw [sortE_len, List.length_take]; omega) (by rw [sortE_len, List.length_drop]; omega) (by simp) (by omega) (by omega) hmn (sortE_ord _ _) (sortE_ord _ _)
                  (HC.out.grown HG.out (fun x hx => by
                    rcases List.mem_append.1 hx with h | h
                    · exact List.mem_of_mem_drop (List.mem_of_mem_take (sortE_sub h))
                    · exact List.mem_of_mem_drop (List.mem_of_mem_drop (sortE_sub h))))
                rw [merge_rest] at hI
                have HN : Hid (chunkP os s2 es t ++ sortE os (es.drop a) ++ [] = allP os s2 es) := by
                  unfold Hid
                  rw [List.append_nil, ← allP_few os hs22 (l := es.drop a) (by have := HAB.out; omega), HA.out]
                  exact chunkP_all os hs22 es t
                clear hlc hdl hx hR hm
                go_wp2_with (fail)
                refine hI.mono ?_
                rintro _ w3 ⟨rfl, hr3, hg3⟩
                have HR3 : Hid (RowE w3 g (allP os s2 es) post) := by unfold Hid; rw [← HN.out]; exact hr3
                have HG3 := Lib.hid (grown_trans HG.out hg3)
                clear hI hr3 hg3
                go_wp2
                go_roundw
                case rel => exact ⟨s2, rfl, hs22, by omega, HR3, HG3⟩
                case measure => simp [intOf]; omega
              · have HR3 : Hid (RowE wr g (allP os s2 es) post) := by
                  unfold Hid
                  have hR := HW.out
                  rw [allP_few os hs1 (l := es.drop a) (by omega), ← allP_few os hs22 (l := es.drop a) (by have := HAB.out; omega), HA.out, chunkP_all os hs22 es t] at hR
                  exact hR
                clear hlc hdl hm HW
                go_wp2
                go_roundw
                case rel => exact ⟨s2, rfl, hs22, by omega, HR3, HG⟩
                case measure => simp [intOf]; omega
        · have HF : Hid (allP os s es = sortE os es) := by unfold Hid; exact allP_few os hs1 (by rw [HL.out]; omega)
          go_wp2
          go_end0
          exact ⟨rfl, by rw [← HF.out]; exact HW.out, HG.out⟩

set_option maxRecDepth 100000 in
theorem sort_any (g n c bo : Nat) (es : List Ent) (post : List Value) (Ao : Option Addr) (ro co : Nat) (os : List Int) (w : World)
    (hblk : RowE w g es post) (hl : es.length = n) (hnb : n ≤ 1000000000) (hC : CtxE w g bo Ao ro co os es) :
    Calls Try.prog 45 #[.slice (some ⟨g, 0, none⟩) n c, .func (.func 72) #[] #[.pointer (some ⟨bo, 0, none⟩)]] w
      fun e w' => e = .returned (.tuple #[]) ∧ RowE w' g (sortE os es) post ∧ w.grownBy w' (some g) := by
  have hI := stable_any g n c bo es post Ao ro co os w hblk hl hnb hC
  clear hblk hC hl
  go_enter Try.func45, Try.ntmps45
  go_wp2_with (fail)
  refine hI.mono ?_
  rintro e w2 ⟨rfl, hb2, hg2⟩
  go_wp2
  go_end0
  exact ⟨rfl, hb2, hg2⟩
end Go.Proofs.Ytpjelcghlnmoeaa
