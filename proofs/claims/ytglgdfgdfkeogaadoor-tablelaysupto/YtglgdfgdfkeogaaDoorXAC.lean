import Derived.Test.YtglgdfgdfkeogaaDoorXAB
import Derived.Deep.RegionHeld3
namespace Go.Proofs.YtglgdfgdfkeogaaDoor
open Go.RowKit
set_option linter.unusedVariables false
set_option linter.unusedSimpArgs false

theorem belowT_drewN {B : Nat} {a w : World} (h : Below B a w) (n : Nat) : Below B a (w.drewN n) := h.trans ⟨rfl, rfl, rfl, Nat.le_refl _, fun _ _ => rfl⟩
set_option maxRecDepth 100000 in
set_option maxHeartbeats 4000000 in
theorem rValid_any (an ar : Option Addr) (ln cn lr cr : Nat) (ss : List ByteArray) (rs : List Rw) (w : World) (h : NL w an ln ss) (k : RL w ar lr rs) :
    Calls Tryd.prog 40 #[.agg #[.slice an ln cn, .slice ar lr cr]] w fun e w' => e = .returned (.int .i64 (validE ss (rs.map (·.cs)))) ∧ Below w.heap.size w w' := by
  have b0 : (w.alloc (.cells #[.slice an ln cn, .slice ar lr cr] 25)).cell? ⟨w.heap.size, 0, none⟩ = some (.slice an ln cn) := by go_simp
  have b1 : (w.alloc (.cells #[.slice an ln cn, .slice ar lr cr] 25)).cell? ⟨w.heap.size, 1, none⟩ = some (.slice ar lr cr) := by go_simp
  have hB0 : Below w.heap.size w (w.alloc (.cells #[.slice an ln cn, .slice ar lr cr] 25)) := (Below.refl _ w).alloc (Nat.le_refl _) _
  obtain ⟨w0, hw0⟩ : ∃ w0, w.alloc (.cells #[.slice an ln cn, .slice ar lr cr] 25) = w0 := ⟨_, rfl⟩
  rw [hw0] at b0 b1 hB0
  have hln := h.2.1
  have hlr := k.2.1
  have sl := h.1
  have rl := k.1
  obtain ⟨R, hR⟩ : ∃ R, validE ss (rs.map (·.cs)) = R := ⟨_, rfl⟩
  have GET := Lib.hid (p := ∀ k, k < lr → rs.getD k default ∈ rs) (fun k hk => by
    have hk' : k < rs.length := by omega
    rw [show rs.getD k default = rs[k] by simp [List.getD, hk']]; exact List.getElem_mem hk')
  have V3 := Lib.hid (p := ∀ i, i < lr → (rs.getD i default).n ≠ ln → 3 = R) (fun i hi g => by
    rw [← hR, eq_comm]
    exact val3 (List.mem_map.2 ⟨_, GET.out i hi, rfl⟩) (by rw [(k.2.2.1 _ (GET.out i hi)).1.1, sl]; exact g))
  have ALL := Lib.hid (p := (∀ i, i < lr → (rs.getD i default).n = ln) → ∀ r ∈ rs.map (·.cs), r.length = ss.length) (fun g => by
    rw [sl]; exact rows_len k.2.2.1 (by rw [rl]; exact g))
  have N := Lib.hid (h.later hB0)
  have K := Lib.hid (k.later hB0)
  have BB := Lib.hid hB0
  have HR := Lib.hid hR
  rw [hR]
  have HW := Lib.hid hw0
  clear h k hR hB0
  go_enter Tryd.func40, Tryd.ntmps40
  go_wp2
  clear hw0
  go_loopw [3] (fun t wr => ∃ k : Nat, k ≤ lr ∧ t = .int .i64 k ∧ RowKit.Hid (∀ j, j < k → (rs.getD j default).n = ln) ∧ ∃ q, wr = w0.drewN q) (fun t _ => lr - (intOf t).toNat)
  case atStart => exact ⟨0, by omega, rfl, fun j hj => absurd hj (by omega), 0, rfl⟩
  case round =>
    rename World => wr
    obtain ⟨k, hk, rfl, hN, q, hq⟩ := hrel
    have d0 : wr.cell? ⟨w.heap.size, 0, none⟩ = some (.slice an ln cn) := by rw [hq]; exact b0
    have d1 : wr.cell? ⟨w.heap.size, 1, none⟩ = some (.slice ar lr cr) := by rw [hq]; exact b1
    have HQ := Lib.hid hq
    by_cases hlt : k < lr
    · obtain ⟨x, o, rfl, hx, hcs⟩ : ∃ x o, ar = some ⟨x, o, none⟩ ∧ x < w0.heap.size ∧ ∀ i, i < lr → w0.cell? ⟨x, o + i, none⟩ = some (.slice (rs.getD i default).a (rs.getD i default).n (rs.getD i default).cap) := by
        rcases K.out.2.2.2 with h0 | h0
        · omega
        · exact h0
      have c0 := hcs k hlt
      rw [← World.cell?_drewN (n := q), ← hq] at c0
      have kc : (k : Int) < (lr : Int) := by omega
      have Y3 := Lib.hid (V3.out k hlt)
      have NX := Lib.hid (p := (rs.getD k default).n = ln → ∀ j, j < k + 1 → (rs.getD j default).n = ln) (fun g j hj => by
        rcases (show j < k ∨ j = k by omega) with q | q
        · exact hN.out j q
        · rw [q]; exact g)
      clear hcs hq b0 b1
      generalize rs.getD k default = r at *
      obtain ⟨ra, rn, rcap, rcs⟩ := r
      simp only at c0 NX Y3
      by_cases e : rn = ln
      · have Y := Lib.hid (NX.out e)
        subst e
        go_wp2
        go_quiet (fail)
        go_wp2
        go_roundw
        case rel => exact ⟨k + 1, by omega, by go_num, Y.out, _, by rw [HQ.out]; exact World.drewN_drewN _ _ _⟩
        case measure => simp [intOf]; omega
      · have Y := Lib.hid (Y3.out e)
        have e2 : ¬ (rn : Int) = (ln : Int) := by omega
        go_wp2
        go_quiet (fail)
        go_wp2
        go_ret
        exact ⟨retT_int Y.out, belowT_drewN (by rw [HQ.out]; exact belowT_drewN BB.out _) _⟩
    · obtain rfl : k = lr := by omega
      have AL := Lib.hid (ALL.out hN.out)
      have rml : (rs.map (·.cs)).length = k := by rw [List.length_map]; exact rl
      have BW := Lib.hid (p := Below w.heap.size w wr) (by rw [hq]; exact belowT_drewN BB.out _)
      have NW := Lib.hid (p := NL wr an ln ss) (by rw [hq]; exact N.out.drewN _)
      have KW := Lib.hid (p := RL wr ar k rs) (by rw [hq]; exact K.out.drewN _)
      clear hq b0 b1 N K BB HW HQ
      by_cases h6 : 64 < ln ∨ 4096 < k
      · have Y := Lib.hid (p := 6 = R) (by rw [← HR.out, val6 AL.out (by rw [sl, rml]; exact h6)])
        by_cases h64 : 64 < ln
        · have q1 : (64 : Int) < (ln : Int) := by omega
          clear rml sl rl
          go_wp2
          go_ret
          exact ⟨retT_int Y.out, BW.out⟩
        · have q1 : ¬ (64 : Int) < (ln : Int) := by omega
          have q2 : (4096 : Int) < (k : Int) := by omega
          clear rml sl rl
          go_wp2
          go_ret
          exact ⟨retT_int Y.out, BW.out⟩
      · have q1 : ¬ (64 : Int) < (ln : Int) := by omega
        have q2 : ¬ (4096 : Int) < (k : Int) := by omega
        have H6 := Lib.hid (p := ¬ (64 < ss.length ∨ 4096 < (rs.map (·.cs)).length)) (by rw [sl, rml]; exact h6)
        have GN := Lib.hid (p := ∀ i, i < ln → ss.getD i default ∈ ss) (fun i hi => by
          have hi' : i < ss.length := by omega
          rw [show ss.getD i default = ss[i] by simp [List.getD, hi']]; exact List.getElem_mem hi')
        have V52 := Lib.hid (p := ∀ i, i < ln → (nameB (ss.getD i default) = false ∨ colF ss (ss.getD i default) 0 ≠ i) → 52 = R) (fun i hi g => by
          rw [← HR.out, eq_comm]
          refine val52 AL.out H6.out ?_
          rcases g with g | g
          · have : ss.all nameB = false := by rw [List.all_eq_false]; exact ⟨_, GN.out i hi, by rw [g]; simp⟩
            rw [this]; rfl
          · rw [dup_yes (by rw [sl]; exact hi) g]; simp)
        have VN := Lib.hid (p := (∀ i, i < ln → nameB (ss.getD i default) = true ∧ colF ss (ss.getD i default) 0 = i) → (!(ss.all nameB) || dupB ss) = false) (fun g => by
          have e1 : ss.all nameB = true := by
            rw [List.all_eq_true]
            intro x hx
            obtain ⟨i, hi, rfl⟩ := List.getElem_of_mem hx
            have := (g i (by omega)).1
            rwa [show ss.getD i default = ss[i] by simp [List.getD, hi]] at this
          rw [e1, dup_no (fun i hi => (g i (by omega)).2)]; rfl)
        clear rml
        go_wp2
        go_loopw [4] (fun t ws => ∃ j : Nat, j ≤ ln ∧ t = .int .i64 j ∧ RowKit.Hid (∀ i, i < j → nameB (ss.getD i default) = true ∧ colF ss (ss.getD i default) 0 = i) ∧ ∃ q, ws = wr.drewN q) (fun t _ => ln - (intOf t).toNat)
        case atStart => exact ⟨0, by omega, rfl, fun j hj => absurd hj (by omega), 0, rfl⟩
        case round =>
          rename World => ws
          obtain ⟨j, hj, rfl, hM, q, hq⟩ := hrel
          have HQ := Lib.hid hq
          have f0 : ws.cell? ⟨w.heap.size, 0, none⟩ = some (.slice an ln cn) := by rw [hq]; exact d0
          have f1 : ws.cell? ⟨w.heap.size, 1, none⟩ = some (.slice ar k cr) := by rw [hq]; exact d1
          have NS := Lib.hid (p := NL ws an ln ss) (by rw [hq]; exact NW.out.drewN _)
          have KS := Lib.hid (p := RL ws ar k rs) (by rw [hq]; exact KW.out.drewN _)
          have BS := Lib.hid (p := Below w.heap.size w ws) (by rw [hq]; exact belowT_drewN BW.out _)
          clear hq
          by_cases hjn : j < ln
          · obtain ⟨x, o, rfl, hx, hcs⟩ : ∃ x o, an = some ⟨x, o, none⟩ ∧ x < ws.heap.size ∧ ∀ i, i < ln → ws.cell? ⟨x, o + i, none⟩ = some (.string (ss.getD i default)) := by
              rcases NS.out.2.2.2 with h0 | h0
              · omega
              · exact h0
            have c0 := hcs j hjn
            have jc : (j : Int) < (ln : Int) := by omega
            have V := Lib.hid (V52.out j hjn)
            have KC := Lib.hid (rCapital_any (ss.getD j default) ws (NS.out.2.2.1 _ (GN.out j hjn)))
            have KO := Lib.hid (fun W (h : NL W (some ⟨x, o, none⟩) ln ss) => column_any (some ⟨x, o, none⟩) ln cn ss (ss.getD j default) W h)
            have NX := Lib.hid (p := nameB (ss.getD j default) = true → colF ss (ss.getD j default) 0 = j → ∀ i, i < j + 1 → nameB (ss.getD i default) = true ∧ colF ss (ss.getD i default) 0 = i) (fun g g' i hi => by
              rcases (show i < j ∨ i = j by omega) with q | q
              · exact hM.out i q
              · rw [q]; exact ⟨g, g'⟩)
            clear hcs
            generalize ss.getD j default = f at *
            generalize colF ss f 0 = z at *
            cases hc : nameB f with
            | false =>
              have Y := Lib.hid (V.out (.inl hc))
              rw [hc] at KC
              go_wp2_with (go_at_call 53; refine KC.out.mono ?_; rintro e w1 ⟨rfl, rfl⟩)
              go_quiet (fail)
              go_wp2
              go_ret
              exact ⟨retT_int Y.out, belowT_drewN BS.out _⟩
            | true =>
              rw [hc] at KC
              by_cases hz : z = j
              · have Y := Lib.hid (NX.out hc hz)
                subst hz
                go_wp2_with (go_at_call 53; refine KC.out.mono ?_; rintro e w1 ⟨rfl, rfl⟩)
                go_quiet (first | (go_at_call 47; exact Calls.quiet_of_same (KO.out _ (NS.out.drewN _))))
                go_wp2
                go_roundw
                case rel => exact ⟨j + 1, by omega, by go_num, Y.out, _, by rw [HQ.out]; exact World.drewN_drewN _ _ _⟩
                case measure => simp [intOf]; omega
              · have Y := Lib.hid (V.out (.inr hz))
                go_wp2_with (go_at_call 53; refine KC.out.mono ?_; rintro e w1 ⟨rfl, rfl⟩)
                go_quiet (first | (go_at_call 47; exact Calls.quiet_of_same (KO.out _ (NS.out.drewN _))))
                go_wp2
                go_ret
                exact ⟨retT_int Y.out, belowT_drewN BS.out _⟩
          · obtain rfl : j = ln := by omega
            have EN := Lib.hid (VN.out hM.out)
            have V51 := Lib.hid (p := ∀ i, i < k → (rs.getD i default).cs.any stB = true → 51 = R) (fun i hi g => by
              rw [← HR.out, eq_comm]
              exact val51 AL.out H6.out EN.out (List.mem_map.2 ⟨_, GET.out i hi, rfl⟩) g)
            have V0 := Lib.hid (p := (∀ i, i < k → (rs.getD i default).cs.any stB = false) → 0 = R) (fun g => by
              rw [← HR.out, eq_comm]
              refine val0 AL.out H6.out EN.out (fun r hm => ?_)
              obtain ⟨q, hq, rfl⟩ := List.mem_map.1 hm
              obtain ⟨i, hi, rfl⟩ := List.getElem_of_mem hq
              have := g i (by omega)
              rwa [show rs.getD i default = rs[i] by simp [List.getD, hi]] at this)
            clear d0 d1
            go_wp2
            clear f0
            go_loop [6] (fun t => ∃ i : Nat, i ≤ k ∧ t = .int .i64 i ∧ RowKit.Hid (∀ p, p < i → (rs.getD p default).cs.any stB = false)) (fun t => k - (intOf t).toNat)
            case atStart => exact ⟨0, by omega, rfl, fun j hj => absurd hj (by omega)⟩
            case round =>
              obtain ⟨i, hi, rfl, hP⟩ := hrel
              by_cases hik : i < k
              · obtain ⟨x, o, rfl, hx, hcs⟩ : ∃ x o, ar = some ⟨x, o, none⟩ ∧ x < ws.heap.size ∧ ∀ i, i < k → ws.cell? ⟨x, o + i, none⟩ = some (.slice (rs.getD i default).a (rs.getD i default).n (rs.getD i default).cap) := by
                  rcases KS.out.2.2.2 with h0 | h0
                  · omega
                  · exact h0
                have c0 := hcs i hik
                have ic : (i : Int) < (k : Int) := by omega
                have Y51 := Lib.hid (V51.out i hik)
                obtain ⟨g1, g2, g3, g4⟩ := (KS.out.2.2.1 _ (GET.out i hik)).1
                have NX := Lib.hid (p := (rs.getD i default).cs.any stB = false → ∀ p, p < i + 1 → (rs.getD p default).cs.any stB = false) (fun g p hp => by
                  rcases (show p < i ∨ p = i by omega) with q | q
                  · exact hP.out p q
                  · rw [q]; exact g)
                clear hcs
                generalize rs.getD i default = r at *
                obtain ⟨ra, rn, rcap, rcs⟩ := r
                simp only at c0 NX Y51 g1 g2 g3 g4
                have G1 := Lib.hid g1
                have G4 := Lib.hid g4
                clear g1 g3 g4
                go_wp2
                go_loop [7] (fun t => ∃ p : Nat, p ≤ rn ∧ t = .int .i64 p ∧ RowKit.Hid (∀ u, u < p → stB (rcs.getD u default) = false)) (fun t => rn - (intOf t).toNat)
                case atStart => exact ⟨0, by omega, rfl, fun j hj => absurd hj (by omega)⟩
                case round =>
                  obtain ⟨p, hp, rfl, hU⟩ := hrel
                  by_cases hpn : p < rn
                  · obtain ⟨y, oy, rfl, hy, hcc⟩ : ∃ y oy, ra = some ⟨y, oy, none⟩ ∧ y < ws.heap.size ∧ ∀ i, i < rn → CC ws y (oy + i * 2) (rcs.getD i default) := by
                      rcases G4.out with h0 | h0
                      · omega
                      · exact h0
                    obtain ⟨e0, e1⟩ := hcc p hpn
                    have pc : (p : Int) < (rn : Int) := by omega
                    have MEM := Lib.hid (p := rcs.getD p default ∈ rcs) (by
                      have hp' : p < rcs.length := by rw [G1.out]; exact hpn
                      rw [show rcs.getD p default = rcs[p] by simp [List.getD, hp']]; exact List.getElem_mem hp')
                    have NU := Lib.hid (p := stB (rcs.getD p default) = false → ∀ u, u < p + 1 → stB (rcs.getD u default) = false) (fun g u hu => by
                      rcases (show u < p ∨ u = p by omega) with q | q
                      · exact hU.out u q
                      · rw [q]; exact g)
                    clear hcc
                    generalize rcs.getD p default = c at *
                    obtain ⟨ch, cv⟩ := c
                    simp only at e0 e1
                    cases ch with
                    | true =>
                      have Z := Lib.hid (NU.out rfl)
                      go_wp2
                      go_round
                      case rel => exact ⟨p + 1, by omega, by go_num, Z.out⟩
                      case measure => simp [intOf]; omega
                    | false =>
                      by_cases cz : cv = 0
                      · subst cz
                        have Z := Lib.hid (NU.out rfl)
                        go_wp2
                        go_round
                        case rel => exact ⟨p + 1, by omega, by go_num, Z.out⟩
                        case measure => simp [intOf]; omega
                      · have Z := Lib.hid (Y51.out (by rw [List.any_eq_true]; exact ⟨_, MEM.out, by simp [stB, cz]⟩))
                        go_wp2
                        go_ret
                        exact ⟨retT_int Z.out, BS.out⟩
                  · obtain rfl : p = rn := by omega
                    have Z := Lib.hid (NX.out (by
                      rw [List.any_eq_false]
                      intro c hc
                      obtain ⟨u, hu, rfl⟩ := List.getElem_of_mem hc
                      have := hU.out u (by rw [← G1.out]; exact hu)
                      rw [show rcs.getD u default = rcs[u] by simp [List.getD, hu]] at this
                      rw [this]; simp))
                    go_wp2
                    go_round
                    case rel => exact ⟨i + 1, by omega, by go_num, Z.out⟩
                    case measure => simp [intOf]; omega
              · obtain rfl : i = k := by omega
                have Z := Lib.hid (V0.out hP.out)
                go_wp2
                go_ret
                exact ⟨retT_int Z.out, BS.out⟩
end Go.Proofs.YtglgdfgdfkeogaaDoor
