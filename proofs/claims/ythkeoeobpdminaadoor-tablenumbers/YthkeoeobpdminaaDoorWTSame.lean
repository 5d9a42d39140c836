/-
  WALKS: sameNames, sameRow, sameRows (lists with the same contents).
-/
import Derived.Test.YthkeoeobpdminaaDoorRows
import Derived.Test.YthkeoeobpdminaaDoorOpenTab
import Derived.WalkKit
import Derived.WalkSpells
import Derived.BigCall
import Derived.BigGuard
import Derived.BigQuiet
import Derived.Deep.QuietTactic
import Derived.Lib.Hide
namespace Go.Proofs.YthkeoeobpdminaaDoor
open Go.RowKit
set_option linter.unusedVariables false
set_option linter.unusedSimpArgs false

theorem RC.drewN {w : World} {a n cs} (h : RC w a n cs) (q : Nat) : RC (w.drewN q) a n cs := h
theorem NL.drewN {w : World} {a n cs} (h : NL w a n cs) (q : Nat) : NL (w.drewN q) a n cs := h
theorem RL.drewN {w : World} {a n cs} (h : RL w a n cs) (q : Nat) : RL (w.drewN q) a n cs := h

set_option maxHeartbeats 2000000 in
theorem sameNames_any (a b : Option Addr) (n c1 c2 : Nat) (ss : List ByteArray) (w : World) (h : NL w a n ss) (h' : NL w b n ss) :
    Calls Tryd.prog 44 #[.slice a n c1, .slice b n c2] w fun e w' => e = .returned (.bool true) ∧ ∃ q, w' = w.drewN q := by
  obtain ⟨hl, hn, _, h3⟩ := h
  obtain ⟨_, _, _, h3'⟩ := h'
  have HA := Lib.hid (p := 0 < n → ∃ x o y p, a = some ⟨x, o, none⟩ ∧ b = some ⟨y, p, none⟩ ∧ ∀ i, i < n → w.cell? ⟨x, o + i, none⟩ = some (.string (ss.getD i default)) ∧ w.cell? ⟨y, p + i, none⟩ = some (.string (ss.getD i default))) (fun h0 => by
    rcases h3 with h3 | ⟨x, o, e1, _, h3⟩
    · omega
    · rcases h3' with h3' | ⟨y, p, e2, _, h3'⟩
      · omega
      · exact ⟨x, o, y, p, e1, e2, fun i hi => ⟨h3 i hi, h3' i hi⟩⟩)
  clear h3 h3' hl
  go_enter Tryd.func44, Tryd.ntmps44
  go_wp2
  go_loopw [5] (fun t wr => ∃ k : Nat, k ≤ n ∧ t = .int .i64 k ∧ ∃ q, wr = w.drewN q) (fun t _ => n - (intOf t).toNat)
  case atStart => exact ⟨0, by omega, rfl, 0, rfl⟩
  case round =>
    obtain ⟨k, hk, rfl, q, rfl⟩ := hrel
    by_cases hlt : k < n
    · obtain ⟨x, o, y, p, rfl, rfl, hc⟩ := HA.out (by omega)
      obtain ⟨c0, d0⟩ := hc k hlt
      have kc : (k : Int) < (n : Int) := by omega
      generalize ss.getD k default = f at *
      clear hc
      go_wp2
      go_region
      all_goals
        go_wp2
        go_roundw
        case rel => exact ⟨k + 1, by omega, by go_num, _, rfl⟩
        case measure => simp [intOf]; omega
    · obtain rfl : k = n := by omega
      go_wp2
      go_ret
      exact ⟨rfl, _, rfl⟩

set_option maxHeartbeats 2000000 in
theorem sameRow_any (a b : Option Addr) (n c1 c2 : Nat) (ss : List Cl) (w : World) (h : RC w a n ss) (h' : RC w b n ss) :
    Calls Tryd.prog 45 #[.slice a n c1, .slice b n c2] w fun e w' => e = .returned (.bool true) ∧ ∃ q, w' = w.drewN q := by
  obtain ⟨hl, hn, _, h3⟩ := h
  obtain ⟨_, _, _, h3'⟩ := h'
  have HA := Lib.hid (p := 0 < n → ∃ x o y p, a = some ⟨x, o, none⟩ ∧ b = some ⟨y, p, none⟩ ∧ ∀ i, i < n → CC w x (o + i * 2) (ss.getD i default) ∧ CC w y (p + i * 2) (ss.getD i default)) (fun h0 => by
    rcases h3 with h3 | ⟨x, o, e1, _, h3⟩
    · omega
    · rcases h3' with h3' | ⟨y, p, e2, _, h3'⟩
      · omega
      · exact ⟨x, o, y, p, e1, e2, fun i hi => ⟨h3 i hi, h3' i hi⟩⟩)
  clear h3 h3' hl
  go_enter Tryd.func45, Tryd.ntmps45
  go_wp2
  go_loopw [5] (fun t wr => ∃ k : Nat, k ≤ n ∧ t = .int .i64 k ∧ ∃ q, wr = w.drewN q) (fun t _ => n - (intOf t).toNat)
  case atStart => exact ⟨0, by omega, rfl, 0, rfl⟩
  case round =>
    obtain ⟨k, hk, rfl, q, rfl⟩ := hrel
    by_cases hlt : k < n
    · obtain ⟨x, o, y, p, rfl, rfl, hc⟩ := HA.out (by omega)
      obtain ⟨⟨c0, c1⟩, d0, d1⟩ := hc k hlt
      have kc : (k : Int) < (n : Int) := by omega
      generalize ss.getD k default = f at *
      obtain ⟨fh, fv⟩ := f
      simp only at c0 c1 d0 d1
      clear hc
      go_wp2
      go_region
      all_goals
        go_wp2
        go_roundw
        case rel => exact ⟨k + 1, by omega, by go_num, _, rfl⟩
        case measure => simp [intOf]; omega
    · obtain rfl : k = n := by omega
      go_wp2
      go_ret
      exact ⟨rfl, _, rfl⟩

set_option maxHeartbeats 2000000 in
theorem sameRows_any (a b : Option Addr) (n c1 c2 : Nat) (rs qs : List Rw) (w : World) (h : RL w a n rs) (h' : RL w b n qs) (he : rs.map (·.cs) = qs.map (·.cs)) :
    Calls Tryd.prog 27 #[.slice a n c1, .slice b n c2] w fun e w' => e = .returned (.bool true) ∧ ∃ q, w' = w.drewN q := by
  obtain ⟨hl, hn, hr, h3⟩ := h
  obtain ⟨hl', _, hr', h3'⟩ := h'
  have HA := Lib.hid (p := 0 < n → ∃ x o y p, a = some ⟨x, o, none⟩ ∧ b = some ⟨y, p, none⟩ ∧ ∀ i, i < n → ∃ a1 a2 m d1 d2, w.cell? ⟨x, o + i, none⟩ = some (.slice a1 m d1) ∧ w.cell? ⟨y, p + i, none⟩ = some (.slice a2 m d2) ∧ ∃ cs, RC w a1 m cs ∧ RC w a2 m cs) (fun h0 => by
    rcases h3 with h3 | ⟨x, o, e1, _, h3⟩
    · omega
    · rcases h3' with h3' | ⟨y, p, e2, _, h3'⟩
      · omega
      · refine ⟨x, o, y, p, e1, e2, fun i hi => ?_⟩
        have k1 := h3 i hi
        have k2 := h3' i hi
        have i1 : i < rs.length := by omega
        have i2 : i < qs.length := by omega
        have g1 : rs.getD i default = rs[i] := by simp [List.getD, i1]
        have g2 : qs.getD i default = qs[i] := by simp [List.getD, i2]
        rw [g1] at k1
        rw [g2] at k2
        have q1 := (hr _ (List.getElem_mem i1)).1
        have q2 := (hr' _ (List.getElem_mem i2)).1
        have ec : rs[i].cs = qs[i].cs := by
          have := congrArg (fun l => l[i]?) he
          simpa [i1, i2] using this
        have en : rs[i].n = qs[i].n := by rw [← q1.1, ← q2.1, ec]
        rw [← en] at k2 q2
        rw [← ec] at q2
        exact ⟨_, _, _, _, _, k1, k2, _, q1, q2⟩)
  clear h3 h3' hl hl' hr hr' he
  go_enter Tryd.func27, Tryd.ntmps27
  go_wp2
  go_loopw [5] (fun t wr => ∃ k : Nat, k ≤ n ∧ t = .int .i64 k ∧ ∃ q, wr = w.drewN q) (fun t _ => n - (intOf t).toNat)
  case atStart => exact ⟨0, by omega, rfl, 0, rfl⟩
  case round =>
    obtain ⟨k, hk, rfl, q, hq⟩ := hrel
    have HQ := Lib.hid hq
    by_cases hlt : k < n
    · obtain ⟨x, o, y, p, rfl, rfl, hc⟩ := HA.out (by omega)
      obtain ⟨a1, a2, m, d1, d2, c0, c1, cs, r1, r2⟩ := hc k hlt
      rw [← World.cell?_drewN (n := q), ← hq] at c0 c1
      have r1 := r1.drewN q
      have r2 := r2.drewN q
      rw [← hq] at r1 r2
      have KS := Lib.hid (fun C D W (h : RC W a1 m cs) (h' : RC W a2 m cs) => sameRow_any a1 a2 m C D cs W h h')
      have R1 := Lib.hid r1
      have R2 := Lib.hid r2
      have kc : (k : Int) < (n : Int) := by omega
      clear hc r1 r2 hq
      go_wp2
      go_quiet (first | (go_at_call 45; exact Calls.quiet_of (KS.out _ _ _ (R1.out.drewN _) (R2.out.drewN _))))
      go_wp2
      go_roundw
      case rel => exact ⟨k + 1, by omega, by go_num, _, by rw [HQ.out]; exact World.drewN_drewN _ _ _⟩
      case measure => simp [intOf]; omega
    · obtain rfl : k = n := by omega
      clear hq
      go_wp2
      go_ret
      exact ⟨rfl, _, HQ.out⟩
end Go.Proofs.YthkeoeobpdminaaDoor
