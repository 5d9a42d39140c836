/-
  WALKS: anyTwice, Valid (the program's).
-/
import Derived.Test.YthkeoeobpdminaaDoorWTCols
namespace Go.Proofs.YthkeoeobpdminaaDoor
open Go.RowKit
set_option linter.unusedVariables false
set_option linter.unusedSimpArgs false

/-- One of the names stands there twice. -/
def dupB (ss : List ByteArray) : Bool := (List.range ss.length).any fun i => decide (colF ss (ss.getD i default) 0 ≠ i)
theorem dup_yes {ss : List ByteArray} {k : Nat} (hk : k < ss.length) (h : colF ss (ss.getD k default) 0 ≠ k) : dupB ss = true := by
  unfold dupB; rw [List.any_eq_true]; exact ⟨k, List.mem_range.2 hk, decide_eq_true h⟩
theorem dup_no {ss : List ByteArray} (h : ∀ k, k < ss.length → colF ss (ss.getD k default) 0 = k) : dupB ss = false := by
  unfold dupB; rw [List.any_eq_false]; intro k hk; rw [h k (List.mem_range.1 hk)]; simp

set_option maxHeartbeats 2000000 in
theorem anyTwice_any (a : Option Addr) (n cap : Nat) (ss : List ByteArray) (w : World) (h : NL w a n ss) :
    Calls Tryd.prog 21 #[.slice a n cap] w fun e w' => e = .returned (.bool (dupB ss)) ∧ Below w.heap.size w w' := by
  have hl := h.1
  have hn := h.2.1
  have K := Lib.hid (columnsOf_any a a n cap n cap ss ss w h h)
  have YES := Lib.hid (p := ∀ k, k < n → colF ss (ss.getD k default) 0 ≠ k → true = dupB ss) (fun k hk g => (dup_yes (by omega) g).symm)
  have NO := Lib.hid (p := (∀ k, k < n → colF ss (ss.getD k default) 0 = k) → false = dupB ss) (fun g => (dup_no (by rw [hl]; exact g)).symm)
  generalize dupB ss = B at *
  obtain ⟨F, hF⟩ : ∃ F : Nat → Int, (fun i => colF ss (ss.getD i default) 0) = F := ⟨_, rfl⟩
  have hF' : ∀ i, colF ss (ss.getD i default) 0 = F i := fun i => congrFun hF i
  simp only [hF'] at K YES NO
  clear h hl hF hF'
  go_enter Tryd.func21, Tryd.ntmps21
  go_wp2_with (go_at_call 42; refine K.out.mono ?_; rintro e w1 ⟨g, rfl, h1, h2, h3⟩; have I1 := Lib.hid h1; have B1 := Lib.hid h3; clear h1 h2 h3)
  go_loop [9] (fun t => ∃ k : Nat, k ≤ n ∧ t = .int .i64 k ∧ RowKit.Hid (∀ j, j < k → F j = j)) (fun t => n - (intOf t).toNat)
  case atStart => exact ⟨0, by omega, rfl, fun j hj => absurd hj (by omega)⟩
  case round =>
    obtain ⟨k, hk, rfl, hN⟩ := hrel
    by_cases hlt : k < n
    · have c0 : w1.cell? ⟨g, k, none⟩ = some (.int .i64 (F k)) := I1.out.2 k hlt
      have kc : (k : Int) < (n : Int) := by omega
      have YK := Lib.hid (YES.out k hlt)
      by_cases e : F k = k
      · rw [e] at c0
        have NX := Lib.hid (p := ∀ j, j < k + 1 → F j = j) (fun j hj => by
          rcases (show j < k ∨ j = k by omega) with q | q
          · exact hN.out j q
          · rw [q]; exact e)
        clear e
        go_wp2
        go_round
        case rel => exact ⟨k + 1, by omega, by go_num, NX.out⟩
        case measure => simp [intOf]; omega
      · have Y := Lib.hid (YK.out e)
        generalize F k = z at *
        go_wp2
        go_ret
        exact ⟨retT_bool Y.out, B1.out⟩
    · obtain rfl : k = n := by omega
      have Y := Lib.hid (NO.out hN.out)
      go_wp2
      go_ret
      exact ⟨retT_bool Y.out, B1.out⟩

/-- What Valid tells. -/
def validE (ss : List ByteArray) (rs : List (List Cl)) : Int :=
  if rs.any (fun r => decide (r.length ≠ ss.length)) then 3 else
  if 64 < ss.length ∨ 4096 < rs.length then 6 else
  if !(ss.all nameB) || dupB ss then 52 else
  if rs.any (fun r => r.any stB) then 51 else 0
theorem val3 {ss : List ByteArray} {rs : List (List Cl)} {r : List Cl} (h : r ∈ rs) (hr : r.length ≠ ss.length) : validE ss rs = 3 := by
  unfold validE
  rw [if_pos]
  rw [List.any_eq_true]; exact ⟨r, h, decide_eq_true hr⟩
theorem val_pass {ss : List ByteArray} {rs : List (List Cl)} (h : ∀ r ∈ rs, r.length = ss.length) : rs.any (fun r => decide (r.length ≠ ss.length)) = false := by
  rw [List.any_eq_false]; intro r hr; simp [h r hr]
theorem val6 {ss : List ByteArray} {rs : List (List Cl)} (h : ∀ r ∈ rs, r.length = ss.length) (h6 : 64 < ss.length ∨ 4096 < rs.length) : validE ss rs = 6 := by
  unfold validE; rw [val_pass h, if_neg (by simp), if_pos h6]
theorem val52 {ss : List ByteArray} {rs : List (List Cl)} (h : ∀ r ∈ rs, r.length = ss.length) (h6 : ¬ (64 < ss.length ∨ 4096 < rs.length)) (hn : (!(ss.all nameB) || dupB ss) = true) : validE ss rs = 52 := by
  unfold validE; rw [val_pass h, if_neg (by simp), if_neg h6, if_pos hn]
theorem val51 {ss : List ByteArray} {rs : List (List Cl)} (h : ∀ r ∈ rs, r.length = ss.length) (h6 : ¬ (64 < ss.length ∨ 4096 < rs.length)) (hn : (!(ss.all nameB) || dupB ss) = false) {r : List Cl} (hr : r ∈ rs) (hs : r.any stB = true) : validE ss rs = 51 := by
  unfold validE; rw [val_pass h, if_neg (by simp), if_neg h6, if_neg (by rw [hn]; simp), if_pos]
  rw [List.any_eq_true]; exact ⟨r, hr, hs⟩
theorem val0 {ss : List ByteArray} {rs : List (List Cl)} (h : ∀ r ∈ rs, r.length = ss.length) (h6 : ¬ (64 < ss.length ∨ 4096 < rs.length)) (hn : (!(ss.all nameB) || dupB ss) = false) (hs : ∀ r ∈ rs, r.any stB = false) : validE ss rs = 0 := by
  unfold validE; rw [val_pass h, if_neg (by simp), if_neg h6, if_neg (by rw [hn]; simp), if_neg]
  rw [Bool.not_eq_true, List.any_eq_false]; intro r hr; simp [hs r hr]
theorem rows_len {w : World} {rs : List Rw} (hr : ∀ r ∈ rs, RC w r.a r.n r.cs ∧ (r.a = none → r.n = 0 ∧ r.cap = 0) ∧ r.n ≤ r.cap ∧ r.cap ≤ maxLen) {n : Nat} (h : ∀ k, k < rs.length → (rs.getD k default).n = n) : ∀ r ∈ rs.map (·.cs), r.length = n := by
  intro r hm
  obtain ⟨q, hq, rfl⟩ := List.mem_map.1 hm
  obtain ⟨k, hk, rfl⟩ := List.getElem_of_mem hq
  have := h k hk
  rw [show rs.getD k default = rs[k] by simp [List.getD, hk]] at this
  rw [(hr _ hq).1.1, this]

set_option maxRecDepth 100000 in
set_option maxHeartbeats 4000000 in
theorem validT_any (an ar : Option Addr) (ln cn lr cr : Nat) (ss : List ByteArray) (rs : List Rw) (w : World) (h : NL w an ln ss) (k : RL w ar lr rs) :
    Calls Tryd.prog 8 #[.agg #[.slice an ln cn, .slice ar lr cr]] w fun e w' => e = .returned (.int .i64 (validE ss (rs.map (·.cs)))) ∧ Below w.heap.size w w' := by
  have hB0 : Below w.heap.size w (w.alloc (.cells #[.slice an ln cn, .slice ar lr cr] 25)) := (Below.refl _ w).alloc (Nat.le_refl _) _
  have hln := h.2.1
  have hlr := k.2.1
  have sl := h.1
  have rl := k.1
  obtain ⟨R, hR⟩ : ∃ R, validE ss (rs.map (·.cs)) = R := ⟨_, rfl⟩
  have GET := Lib.hid (p := ∀ k, k < lr → rs.getD k default ∈ rs) (fun k hk => by
    have hk' : k < rs.length := by omega
    rw [show rs.getD k default = rs[k] by simp [List.getD, hk']]; exact List.getElem_mem hk')
  have V3 := Lib.hid (p := ∀ i, i < lr → (rs.getD i default).n ≠ ln → 3 = R) (fun i hi g => by
    rw [← hR, eq_comm]
    exact val3 (List.mem_map.2 ⟨_, GET.out i hi, rfl⟩) (by rw [(k.2.2.1 _ (GET.out i hi)).1.1, sl]; exact g))
  have ALL := Lib.hid (p := (∀ i, i < lr → (rs.getD i default).n = ln) → ∀ r ∈ rs.map (·.cs), r.length = ss.length) (fun g => by
    rw [sl]; exact rows_len k.2.2.1 (by rw [rl]; exact g))
  have N := Lib.hid h
  have K := Lib.hid k
  rw [hR]
  have HR := Lib.hid hR
  clear h k hR
  go_enter Tryd.func8, Tryd.ntmps8
  go_wp2
  go_loop [10] (fun t => ∃ k : Nat, k ≤ lr ∧ t = .int .i64 k ∧ RowKit.Hid (∀ j, j < k → (rs.getD j default).n = ln)) (fun t => lr - (intOf t).toNat)
  case atStart => exact ⟨0, by omega, rfl, fun j hj => absurd hj (by omega)⟩
  case round =>
    obtain ⟨k, hk, rfl, hN⟩ := hrel
    by_cases hlt : k < lr
    · obtain ⟨x, o, rfl, hx, hcs⟩ : ∃ x o, ar = some ⟨x, o, none⟩ ∧ x < w.heap.size ∧ ∀ i, i < lr → w.cell? ⟨x, o + i, none⟩ = some (.slice (rs.getD i default).a (rs.getD i default).n (rs.getD i default).cap) := by
        rcases K.out.2.2.2 with h0 | h0
        · omega
        · exact h0
      have c0 := (hB0.cell (p := ⟨x, o + k, none⟩) hx).trans (hcs k hlt)
      have kc : (k : Int) < (lr : Int) := by omega
      have Y3 := Lib.hid (V3.out k hlt)
      have NX := Lib.hid (p := (rs.getD k default).n = ln → ∀ j, j < k + 1 → (rs.getD j default).n = ln) (fun g j hj => by
        rcases (show j < k ∨ j = k by omega) with q | q
        · exact hN.out j q
        · rw [q]; exact g)
      clear hcs hB0
      generalize rs.getD k default = r at *
      obtain ⟨ra, rn, rcap, rcs⟩ := r
      simp only at c0 NX Y3
      by_cases e : rn = ln
      · have Y := Lib.hid (NX.out e)
        subst e
        go_wp2
        go_round
        case rel => exact ⟨k + 1, by omega, by go_num, Y.out⟩
        case measure => simp [intOf]; omega
      · have Y := Lib.hid (Y3.out e)
        have e2 : ¬ (rn : Int) = (ln : Int) := by omega
        go_wp2
        go_ret
        exact ⟨retT_int Y.out, (Below.refl _ w).alloc (Nat.le_refl _) _⟩
    · obtain rfl : k = lr := by omega
      have AL := Lib.hid (ALL.out hN.out)
      have rml : (rs.map (·.cs)).length = k := by rw [List.length_map]; exact rl
      by_cases h6 : 64 < ln ∨ 4096 < k
      · have Y := Lib.hid (p := 6 = R) (by rw [← HR.out, val6 AL.out (by rw [sl, rml]; exact h6)])
        by_cases h64 : 64 < ln
        · have q1 : (64 : Int) < (ln : Int) := by omega
          clear rml sl rl
          go_wp2
          go_ret
          exact ⟨retT_int Y.out, hB0⟩
        · have q1 : ¬ (64 : Int) < (ln : Int) := by omega
          have q2 : (4096 : Int) < (k : Int) := by omega
          clear rml sl rl
          go_wp2
          go_ret
          exact ⟨retT_int Y.out, hB0⟩
      · have q1 : ¬ (64 : Int) < (ln : Int) := by omega
        have q2 : ¬ (4096 : Int) < (k : Int) := by omega
        have H6 := Lib.hid (p := ¬ (64 < ss.length ∨ 4096 < (rs.map (·.cs)).length)) (by rw [sl, rml]; exact h6)
        have KC := Lib.hid (fun W (h : NL W an ln ss) => areCap_any an ln cn ss W h)
        have KT := Lib.hid (fun W (h : NL W an ln ss) => anyTwice_any an ln cn ss W h)
        have N0 := Lib.hid (N.out.later hB0)
        have BB := Lib.hid hB0
        clear hB0 rml
        cases hc : ss.all nameB with
        | false =>
          have Y := Lib.hid (p := 52 = R) (by rw [← HR.out, val52 AL.out H6.out (by rw [hc]; rfl)])
          go_wp2_with (go_at_call 20; refine (KC.out _ N0.out).mono ?_; rintro e w1 ⟨rfl, rfl⟩; rw [hc])
          go_ret
          exact ⟨retT_int Y.out, BB.out⟩
        | true =>
          cases hd : dupB ss with
          | true =>
            have Y := Lib.hid (p := 52 = R) (by rw [← HR.out, val52 AL.out H6.out (by rw [hc, hd]; rfl)])
            go_wp2_with (first
              | (go_at_call 20; refine (KC.out _ N0.out).mono ?_; rintro e w1 ⟨rfl, rfl⟩; rw [hc])
              | (go_at_call 21; refine (KT.out _ N0.out).mono ?_; rintro e w2 ⟨rfl, h1⟩; rw [hd]; have B2 := Lib.hid (BB.out.trans (h1.mono BB.out.size)); clear h1))
            go_ret
            exact ⟨retT_int Y.out, B2.out⟩
          | false =>
            have V51 := Lib.hid (p := ∀ i, i < k → (rs.getD i default).cs.any stB = true → 51 = R) (fun i hi g => by
              rw [← HR.out, eq_comm]
              exact val51 AL.out H6.out (by rw [hc, hd]; rfl) (List.mem_map.2 ⟨_, GET.out i hi, rfl⟩) g)
            have V0 := Lib.hid (p := (∀ i, i < k → (rs.getD i default).cs.any stB = false) → 0 = R) (fun g => by
              rw [← HR.out, eq_comm]
              refine val0 AL.out H6.out (by rw [hc, hd]; rfl) (fun r hm => ?_)
              obtain ⟨q, hq, rfl⟩ := List.mem_map.1 hm
              obtain ⟨i, hi, rfl⟩ := List.getElem_of_mem hq
              have := g i (by omega)
              rwa [show rs.getD i default = rs[i] by simp [List.getD, hi]] at this)
            go_wp2_with (first
              | (go_at_call 20; refine (KC.out _ N0.out).mono ?_; rintro e w1 ⟨rfl, rfl⟩; rw [hc])
              | (go_at_call 21; refine (KT.out _ N0.out).mono ?_; rintro e w2 ⟨rfl, h1⟩; rw [hd]; have B2 := Lib.hid (BB.out.trans (h1.mono BB.out.size)); have c1 : w2.cell? ⟨w.heap.size, 1, none⟩ = some (.slice ar k cr) := (by rw [h1.cell (p := ⟨w.heap.size, 1, none⟩) (by simp)]; go_simp); clear h1))
            go_loopw [43] (fun t wr => ∃ j : Nat, j ≤ k ∧ t = .int .i64 j ∧ RowKit.Hid (∀ i, i < j → (rs.getD i default).cs.any stB = false) ∧ Below w.heap.size w wr) (fun t _ => k - (intOf t).toNat)
            case atStart => exact ⟨0, by omega, rfl, fun j hj => absurd hj (by omega), B2.out⟩
            case round =>
              rename World => wr
              obtain ⟨j, hj, rfl, hM, hB⟩ := hrel
              have CB := Lib.hid hB
              by_cases hjk : j < k
              · obtain ⟨x, o, rfl, hx, hcs⟩ : ∃ x o, ar = some ⟨x, o, none⟩ ∧ x < w.heap.size ∧ ∀ i, i < k → w.cell? ⟨x, o + i, none⟩ = some (.slice (rs.getD i default).a (rs.getD i default).n (rs.getD i default).cap) := by
                  rcases K.out.2.2.2 with h0 | h0
                  · omega
                  · exact h0
                have c0 := (hB.cell (p := ⟨x, o + j, none⟩) hx).trans (hcs j hjk)
                have jc : (j : Int) < (k : Int) := by omega
                have Y51 := Lib.hid (V51.out j hjk)
                have RR := Lib.hid ((K.out.2.2.1 _ (GET.out j hjk)).1.later hB)
                have NX := Lib.hid (p := (rs.getD j default).cs.any stB = false → ∀ i, i < j + 1 → (rs.getD i default).cs.any stB = false) (fun g i hi => by
                  rcases (show i < j ∨ i = j by omega) with q | q
                  · exact hM.out i q
                  · rw [q]; exact g)
                clear hcs hB
                generalize rs.getD j default = r at *
                obtain ⟨ra, rn, rcap, rcs⟩ := r
                simp only at c0 NX Y51 RR
                have KF := Lib.hid (containsFunc_any ra rn rcap rcs wr RR.out)
                cases hs : rcs.any stB with
                | true =>
                  have Y := Lib.hid (Y51.out hs)
                  rw [hs] at KF
                  go_wp2_with (go_at_call 22; refine KF.out.mono ?_; rintro e w3 ⟨rfl, h1⟩; have B3 := Lib.hid (CB.out.trans (h1.mono CB.out.size)); clear h1)
                  go_ret
                  exact ⟨retT_int Y.out, B3.out⟩
                | false =>
                  have Y := Lib.hid (NX.out hs)
                  rw [hs] at KF
                  go_wp2_with (go_at_call 22; refine KF.out.mono ?_; rintro e w3 ⟨rfl, h1⟩; have B3 := Lib.hid (CB.out.trans (h1.mono CB.out.size)); clear h1)
                  go_roundw
                  case rel => exact ⟨j + 1, by omega, by go_num, Y.out, B3.out⟩
                  case measure => simp [intOf]; omega
              · obtain rfl : j = k := by omega
                have Y := Lib.hid (V0.out hM.out)
                clear hB
                go_wp2
                go_ret
                exact ⟨retT_int Y.out, CB.out⟩
end Go.Proofs.YthkeoeobpdminaaDoor
