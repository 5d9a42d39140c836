/-
  WALK: kept: all lists of a book that is not late hold their marks.
-/
import Derived.Test.YtnoimmjijkgjaaaWPutE
namespace Go.Proofs.Ytnoimmjijkgjaaa
open Go.RowKit
set_option linter.unusedVariables false
set_option linter.unusedSimpArgs false

/-- The mark of the j-th list. -/
def mk (j : Nat) : Int := ((1 + j % 120 : Nat) : Int)
theorem mk_byte (j : Nat) : 1 ≤ mk j ∧ mk j ≤ 120 := by unfold mk; omega
/-- The j-th list, and what was grown from it. -/
def Ent (w : World) (ws : List Value) (j : Nat) : Prop :=
  ∃ a m cp a4 c4, ws[2 * j]? = some (.slice a m cp) ∧ ws[2 * j + 1]? = some (.slice a4 (m + 90) c4) ∧ m ≤ 140737488354000 ∧ BT w a m (List.replicate m (mk j)) ∧ BT w a4 (m + 90) (List.replicate m (mk j) ++ List.replicate 90 (mk j + 121))
/-- One list of them: n is the length of the first of the two. -/
theorem ent_one {w : World} {ws : List Value} {i : Nat} (h : Ent w ws (i / 2)) : ∃ a n cp a0 n0 cp0 xs, ws[i]? = some (.slice a n cp) ∧ ws[i - i % 2]? = some (.slice a0 n0 cp0) ∧ n ≤ 140737488354090 ∧ n0 ≤ 140737488354090 ∧ BT w a n xs ∧ ∀ j, j < n → xs.getD j 0 = if j < n0 then mk (i / 2) else mk (i / 2) + 121 := by
  obtain ⟨a, m, cp, a4, c4, h1, h2, h3, h4, h5⟩ := h
  rcases (show i % 2 = 0 ∨ i % 2 = 1 by omega) with e | e
  · have e1 : 2 * (i / 2) = i := by omega
    rw [e1] at h1
    refine ⟨a, m, cp, a, m, cp, _, h1, by rw [e]; exact h1, by omega, by omega, h4, fun j hj => ?_⟩
    rw [if_pos hj]
    simp [List.getD, hj]
  · have e1 : 2 * (i / 2) + 1 = i := by omega
    have e2 : 2 * (i / 2) = i - i % 2 := by omega
    rw [e1] at h2
    rw [e2] at h1
    refine ⟨a4, m + 90, c4, a, m, cp, _, h2, h1, by omega, by omega, h5, fun j hj => ?_⟩
    by_cases hjm : j < m
    · rw [if_pos hjm]
      simp [List.getD, hjm, List.getElem?_append]
    · rw [if_neg hjm]
      rw [List.getD_eq_getElem?_getD, List.getElem?_append_right (by simp; omega), List.getElem?_replicate, if_pos (by simp; omega)]
      rfl

set_option maxRecDepth 100000 in
set_option maxHeartbeats 4000000 in
theorem kept_any (B q c : Nat) (ws : List Value) (L : Value) (w : World) (hl : w.cell? ⟨q, 2, none⟩ = some L) (ho : w.ownsRow B 22 1 L (2 * c) ws) (he : ∀ j, j < c → Ent w ws j) (hc : c ≤ 500000000) :
    Calls Try.prog 10 #[.pointer (some ⟨q, 2, none⟩)] w fun e w' => e = .returned (.bool true) ∧ ∃ r, w' = w.drewN r := by
  have c2 := hl
  have HO := Lib.hid ho
  have HE := Lib.hid (p := ∀ i, i < 2 * c → _) (fun i hi => ent_one (he (i / 2) (by omega)))
  obtain ⟨aL, cL, rfl⟩ := rowL_form ho
  clear hl ho he
  go_enter Try.func10, Try.ntmps10
  go_wp2
  go_loopw [3] (fun t wr => ∃ i : Nat, i ≤ 2 * c ∧ t = .int .i64 (i : Int) ∧ ∃ r, wr = w.drewN r) (fun t _ => 2 * c - (intOf t).toNat)
  case atStart => exact ⟨0, by omega, rfl, 0, rfl⟩
  case round =>
    obtain ⟨i, hi, rfl, r, rfl⟩ := hrel
    by_cases hlt : i < 2 * c
    · obtain ⟨a, n, cp, a0, n0, cp0, xs, h1, h2, h3, h4, hT, hx⟩ := HE.out i hlt
      obtain ⟨gL, rfl⟩ : ∃ g, aL = some ⟨g, 0, none⟩ := by
        rcases HO.out.2 with ⟨e, h0⟩ | ⟨g, cc, cur, e, _⟩
        · omega
        · injection e with e; exact ⟨g, e⟩
      have d1 : w.cell? ⟨gL, i, none⟩ = some (.slice a n cp) := by rw [HO.out.cellAt i (by omega)]; exact h1
      have d2 : w.cell? ⟨gL, i - i % 2, none⟩ = some (.slice a0 n0 cp0) := by rw [HO.out.cellAt (i - i % 2) (by omega)]; exact h2
      have HX := Lib.hid hx
      have BTX := Lib.hid hT
      clear hx hT h1 h2
      obtain ⟨μ, hμ⟩ : ∃ μ : Nat, 1 + i / 2 % 120 = μ := ⟨_, rfl⟩
      have HM := Lib.hid (p := mk (i / 2) = (μ : Int)) (by unfold mk; rw [hμ])
      have ic : (i : Int) < ((2 * c : Nat) : Int) := by omega
      have t1 : Int.tdiv (i : Int) 2 = ((i / 2 : Nat) : Int) := by rw [Int.tdiv_eq_ediv_of_nonneg (by omega)]; omega
      have t2 : Int.tmod ((i / 2 : Nat) : Int) 120 = ((i / 2 % 120 : Nat) : Int) := by rw [Int.tmod_eq_emod_of_nonneg (by omega)]; omega
      have t1' : (i : Int) / 2 = ((i / 2 : Nat) : Int) := by omega
      have t2' : ((i / 2 : Nat) : Int) % 120 = ((i / 2 % 120 : Nat) : Int) := by omega
      have t3 : IntKind.i64.wrap (1 + ((i / 2 % 120 : Nat) : Int)) = (μ : Int) := by simp [IntKind.wrap, IntKind.bits, IntKind.signed]; omega
      have t4 : IntKind.u8.wrap (μ : Int) = (μ : Int) := by simp [IntKind.wrap, IntKind.bits, IntKind.signed]; omega
      have t5 : IntKind.u8.wrap ((μ : Int) + 121) = (μ : Int) + 121 := by simp [IntKind.wrap, IntKind.bits, IntKind.signed]; omega
      have μ0 : μ ≤ 120 := by omega
      have w1 : IntKind.i64.wrap ((i / 2 : Nat) : Int) = ((i / 2 : Nat) : Int) := by simp [IntKind.wrap, IntKind.bits, IntKind.signed]; omega
      have w2 : IntKind.i64.wrap ((i / 2 % 120 : Nat) : Int) = ((i / 2 % 120 : Nat) : Int) := by simp [IntKind.wrap, IntKind.bits, IntKind.signed]; omega
      have t6 : Int.tmod (i : Int) 2 = ((i % 2 : Nat) : Int) := by rw [Int.tmod_eq_emod_of_nonneg (by omega)]; omega
      have t6' : (i : Int) % 2 = ((i % 2 : Nat) : Int) := by omega
      have w3 : IntKind.i64.wrap ((i % 2 : Nat) : Int) = ((i % 2 : Nat) : Int) := by simp [IntKind.wrap, IntKind.bits, IntKind.signed]; omega
      have t7 : IntKind.i64.wrap ((i : Int) - ((i % 2 : Nat) : Int)) = ((i - i % 2 : Nat) : Int) := by simp [IntKind.wrap, IntKind.bits, IntKind.signed]; omega
      have t7' : (i : Int) - ((i % 2 : Nat) : Int) = ((i - i % 2 : Nat) : Int) := by omega
      have uL : i - i % 2 < 2 * c := by omega
      generalize i - i % 2 = u at *
      generalize i % 2 = σ at *
      generalize i / 2 % 120 = ν at *
      have HX2 := Lib.hid (p := ∀ j, j < n → xs.getD j 0 = if j < n0 then (μ : Int) else (μ : Int) + 121) (fun j hj => by rw [← HM.out]; exact HX.out j hj)
      clear HX HM hμ
      generalize i / 2 = κ at *
      go_wp2
      clear t1 t2 t1' t2' t3 t4 w1 w2 t6 t6' w3 t7 t7' d2
      have e13 : decide ((i : Int) < 2 * (c : Int)) = true := by simp; omega
      rw [e13]
      clear e13
      go_loopw [6] (fun t wr => ∃ j : Nat, j ≤ n ∧ t = .int .i64 (j : Int) ∧ ∃ r, wr = w.drewN r) (fun t _ => n - (intOf t).toNat)
      case atStart => exact ⟨0, by omega, rfl, r, rfl⟩
      case round =>
        obtain ⟨j, hj, rfl, r', rfl⟩ := hrel
        by_cases hjn : j < n
        · obtain ⟨b, o, rfl, _, hcell⟩ := BTX.out.1.2.2.2.resolve_left (by omega)
          have d3 : w.cell? ⟨b, o + j, none⟩ = some (.int .u8 (xs.getD j 0)) := hcell j hjn
          have jc : (j : Int) < (n : Int) := by omega
          rw [HX2.out j hjn] at d3
          clear hcell
          by_cases hj0 : j < n0
          · rw [if_pos hj0] at d3
            have j0 : (j : Int) < (n0 : Int) := by omega
            go_wp2
            go_roundw
            case rel => exact ⟨j + 1, by omega, by go_num, _, rfl⟩
            case measure => simp [intOf]; omega
          · rw [if_neg hj0] at d3
            have j0 : ¬ (j : Int) < (n0 : Int) := by omega
            have j1 : (n0 : Int) ≤ (j : Int) := by omega
            go_wp2
            go_roundw
            case rel => exact ⟨j + 1, by omega, by go_num, _, rfl⟩
            case measure => simp [intOf]; omega
        · obtain rfl : j = n := by omega
          go_wp2
          go_roundw
          case rel => exact ⟨i + 1, by omega, by go_num, _, rfl⟩
          case measure => simp [intOf]; omega
    · obtain rfl : i = 2 * c := by omega
      go_wp2
      go_ret
      exact ⟨rfl, _, rfl⟩
end Go.Proofs.Ytnoimmjijkgjaaa
