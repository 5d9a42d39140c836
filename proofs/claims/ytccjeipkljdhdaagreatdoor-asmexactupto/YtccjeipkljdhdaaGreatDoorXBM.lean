import Derived.Test.YtccjeipkljdhdaaGreatDoorXBL
import Derived.Test.YtccjeipkljdhdaaGreatDoorXBE
namespace Go.Proofs.YtccjeipkljdhdaaGreatDoor
open Go.RowKit
set_option linter.unusedVariables false
set_option linter.unusedSimpArgs false

theorem lst_at {t : ByteArray} {j : Nat} (h : j < t.size) : t.data.toList[j]? = some t[j] := by
  rw [Array.getElem?_toList]
  exact Array.getElem?_eq_getElem h
theorem lst_size (t : ByteArray) : t.data.toList.length = t.size := rfl
/-- What stands of a row of digits. -/
theorem rvD_facts (t : ByteArray) : (t.size = 0 → rvD t.data.toList = none) ∧ (19 < t.size → rvD t.data.toList = none) ∧ (∀ h : 1 < t.size, t[0].toNat = 48 → rvD t.data.toList = none) ∧
    (∀ j (h : j < t.size), ¬ (48 ≤ t[j].toNat ∧ t[j].toNat ≤ 57) → rvD t.data.toList = none) ∧
    (0 < t.size → t.size ≤ 19 → (∀ h : 1 < t.size, t[0].toNat ≠ 48) → (∀ j (h : j < t.size), 48 ≤ t[j].toNat ∧ t[j].toNat ≤ 57) → rvD t.data.toList = some (nvQ 0 t.data.toList)) := by
  refine ⟨fun h => ?_, fun h => ?_, fun h e => ?_, fun j h e => ?_, fun h0 h1 h2 h3 => ?_⟩
  · unfold rvD; rw [if_neg]; intro q; exact q.1 (List.length_eq_zero_iff.1 h)
  · unfold rvD; rw [if_neg]; intro q; have := q.2.1; rw [lst_size] at this; omega
  · unfold rvD
    rw [if_neg]
    intro q
    refine q.2.2.1 ⟨h, ?_⟩
    have := lst_at (t := t) (j := 0) (by omega)
    rw [List.head?_eq_getElem?, this]
    congr 1
    exact UInt8.toNat_inj.1 (by rw [e]; rfl)
  · unfold rvD
    rw [if_neg]
    intro q
    have m := List.mem_of_getElem? (lst_at h)
    have z := q.2.2.2 _ m
    unfold isD at z
    exact e z
  · unfold rvD
    rw [if_pos]
    refine ⟨fun e => ?_, by rw [lst_size]; exact h1, fun q => ?_, fun c hc => ?_⟩
    · have := congrArg List.length e
      rw [lst_size, List.length_nil] at this
      omega
    · have z := lst_at (t := t) (j := 0) h0
      rw [List.head?_eq_getElem?, z] at q
      have q2 := q.2
      injection q2 with q2
      exact h2 q.1 (by rw [q2]; rfl)
    · obtain ⟨j, hj, rfl⟩ := List.getElem_of_mem hc
      have hj' : j < t.size := hj
      have := h3 j hj'
      unfold isD
      exact this
theorem nvQ_take {t : ByteArray} {j : Nat} (h : j < t.size) : nvQ 0 (t.data.toList.take (j + 1)) = 10 * nvQ 0 (t.data.toList.take j) + (t[j].toNat - 48) := by
  rw [List.take_succ_eq_append_getElem (by rw [lst_size]; exact h), nvQ_snoc]
  congr 2
theorem nvQ_takeB {t : ByteArray} {j : Nat} (hj : j ≤ t.size) (h : ∀ i (q : i < t.size), i < j → 48 ≤ t[i].toNat ∧ t[i].toNat ≤ 57) : nvQ 0 (t.data.toList.take j) < 10 ^ j := by
  refine nvQ_lt j _ (by rw [List.length_take, lst_size]; omega) (fun c hc => ?_)
  obtain ⟨i, hi, rfl⟩ := List.getElem_of_mem hc
  rw [List.length_take, lst_size] at hi
  rw [List.getElem_take]
  exact h i (by omega) (by omega)
/-- What Value answers. -/
def VlE (o : Option Int) (e : Ending) : Prop := ∃ i : Int, e = .returned (.tuple #[.int .i64 i, .bool o.isSome]) ∧ ∀ v, o = some v → i = v
set_option maxRecDepth 100000 in
set_option maxHeartbeats 4000000 in
theorem valueB_any (sg : Bool) (t : ByteArray) (ht : t.size ≤ 16777216) (hh : sg = false ∨ ∀ h : 0 < t.size, t[0].toNat ≠ 45) (w : World) :
    Calls Tryz.prog 29 #[.string t, .bool sg] w fun e w' => VlE (rvV sg t.data.toList) e ∧ w' = w := by
  obtain ⟨RV, hRV⟩ : ∃ R, rvV sg t.data.toList = R := ⟨_, rfl⟩
  have e0 : rvV sg t.data.toList = (rvD t.data.toList).bind fun n => if 9223372036854775807 < n then none else some (n : Int) := by
    unfold rvV
    rw [if_neg]
    rintro ⟨q1, q2⟩
    rcases hh with q | q
    · rw [q] at q1; cases q1
    · by_cases h : 0 < t.size
      · have z := lst_at (t := t) (j := 0) h
        rw [List.head?_eq_getElem?, z] at q2
        injection q2 with q2
        exact q h (by rw [q2]; rfl)
      · rw [List.length_eq_zero_iff.1 (show t.data.toList.length = 0 by rw [lst_size]; omega)] at q2
        cases q2
  rw [hRV] at e0 ⊢
  have FD := Lib.hid (p := rvD t.data.toList = none → RV = none) (fun q => by rw [e0, q]; rfl)
  have FN := Lib.hid (p := ∀ n, rvD t.data.toList = some n → RV = if 9223372036854775807 < n then none else some (n : Int)) (fun n q => by rw [e0, q]; rfl)
  clear e0 hRV
  cases sg
  · clear hh
    obtain ⟨d0, d1, d2, d3, d4⟩ := rvD_facts t
    by_cases z0 : t.size = 0
    · have NN := Lib.hid (FD.out (d0 z0))
      clear d0 d1 d2 d3 d4 FD FN
      have zc : (t.size : Int) = 0 := by omega
      go_enter Tryz.func29, Tryz.ntmps29
      go_wp2
      go_ret2
      have e := NN.out
      subst e
      exact ⟨⟨0, rfl, fun v q => by cases q⟩, rfl⟩
    by_cases z1 : 19 < t.size
    · have NN := Lib.hid (FD.out (d1 z1))
      clear d0 d1 d2 d3 d4 FD FN
      have zc : (19 : Int) < (t.size : Int) := by omega
      have zn : ¬ (t.size : Int) = 0 := by omega
      go_enter Tryz.func29, Tryz.ntmps29
      go_wp2
      go_ret2
      have e := NN.out
      subst e
      exact ⟨⟨0, rfl, fun v q => by cases q⟩, rfl⟩
    by_cases z2 : ∃ h : 1 < t.size, t[0].toNat = 48
    · obtain ⟨z3, z4⟩ := z2
      have NN := Lib.hid (FD.out (d2 z3 z4))
      clear d0 d1 d2 d3 d4 FD FN
      have zc : (1 : Int) < (t.size : Int) := by omega
      have zn : ¬ (t.size : Int) = 0 := by omega
      have zm : ¬ (19 : Int) < (t.size : Int) := by omega
      have zp : (0 : Int) < (t.size : Int) := by omega
      go_enter Tryz.func29, Tryz.ntmps29
      go_wp2
      go_ret2
      have e := NN.out
      subst e
      exact ⟨⟨0, rfl, fun v q => by cases q⟩, rfl⟩
    have ZZ : ∀ h : 1 < t.size, t[0].toNat ≠ 48 := fun h q => z2 ⟨h, q⟩
    have D3 := Lib.hid d3
    have D4 := Lib.hid (d4 (by omega) (by omega) ZZ)
    have zn : ¬ (t.size : Int) = 0 := by omega
    have zm : ¬ (19 : Int) < (t.size : Int) := by omega
    have zp : (0 : Int) < (t.size : Int) := by omega
    clear d0 d1 d2 d3 d4
    have zq : ((t.size : Int) == 0) = false := by rw [beq_eq_false_iff_ne]; omega
    have bad : ∀ RVx : Option Int, RVx = none → VlE RVx (.returned (.tuple #[.int .i64 0, .bool false])) := fun RVx q => by subst q; exact ⟨0, rfl, fun v q => by cases q⟩
    have BD := Lib.hid bad
    have z9 : (1 < t.size ∧ RowKit.Hid (∀ h : 0 < t.size, t[0].toNat ≠ 48)) ∨ (¬ 1 < t.size ∧ RowKit.Hid True) := by
      by_cases q : 1 < t.size
      · exact .inl ⟨q, fun _ => ZZ q⟩
      · exact .inr ⟨q, trivial⟩
    clear bad ZZ z2
    rcases z9 with ⟨z6, z7⟩ | ⟨z6, z7⟩
    · have z8 : (1 : Int) < (t.size : Int) := by omega
      have zr : (((t[0]'(by omega)).toNat : Int) == 48) = false := by have := z7.out (by omega); simp; omega
      go_enter Tryz.func29, Tryz.ntmps29
      go_wp2
      go_loop [7, 8] (fun nv jv => ∃ j : Nat, nv = .int .u64 ((nvQ 0 (t.data.toList.take j) : Nat) : Int) ∧ jv = .int .i64 (j : Int) ∧ j ≤ t.size ∧ RowKit.Hid (∀ i (q : i < t.size), i < j → 48 ≤ t[i].toNat ∧ t[i].toNat ≤ 57)) (fun _ jv => t.size - (intOf jv).toNat)
      case atStart => exact ⟨0, by rw [List.take_zero, nvQ_nil]; rfl, rfl, Nat.zero_le _, fun i q h => absurd h (by omega)⟩
      case round =>
        obtain ⟨j, rfl, rfl, hj, HA⟩ := hrel
        have NB := Lib.hid (nvQ_takeB hj HA.out)
        have NE := Lib.hid (p := j = t.size → nvQ 0 (t.data.toList.take j) = nvQ 0 t.data.toList) (fun e => by rw [List.take_of_length_le (by rw [lst_size]; omega)])
        have TK := Lib.hid (fun h : j < t.size => nvQ_take (j := j) h)
        generalize nvQ 0 (t.data.toList.take j) = N at *
        by_cases hlt : j < t.size
        · have jc : (j : Int) < (t.size : Int) := by omega
          have n18 : N < 1000000000000000000 := by
            have h1 := NB.out
            have h2 : (10 : Nat) ^ j ≤ 10 ^ 18 := Nat.pow_le_pow_right (by omega) (by omega)
            have h3 : (10 : Nat) ^ 18 = 1000000000000000000 := by decide
            omega
          by_cases hd : 48 ≤ t[j].toNat ∧ t[j].toNat ≤ 57
          · have p1 : ¬ (t[j].toNat : Int) < 48 := by omega
            have p2 : ¬ (57 : Int) < (t[j].toNat : Int) := by omega
            have TK1 := Lib.hid (TK.out hlt)
            have HA1 := Lib.hid (p := ∀ i (q : i < t.size), i < j + 1 → 48 ≤ t[i].toNat ∧ t[i].toNat ≤ 57) (fun i q h => by
              by_cases e : i = j
              · subst e; exact hd
              · exact HA.out i q (by omega))
            clear TK
            go_wp2
            go_roundw
            case rel => exact ⟨j + 1, by rw [TK1.out]; go_num, by go_num, by omega, HA1⟩
            case measure => simp [intOf]; omega
          · have NN := Lib.hid (BD.out RV (FD.out (D3.out j hlt hd)))
            clear FD D3 D4 FN TK
            rcases (show t[j].toNat < 48 ∨ 57 < t[j].toNat by omega) with p | p
            · have p1 : (t[j].toNat : Int) < 48 := by omega
              go_wp2
              go_ret2
              exact ⟨NN.out, rfl⟩
            · have p1 : ¬ (t[j].toNat : Int) < 48 := by omega
              have p2 : (57 : Int) < (t[j].toNat : Int) := by omega
              go_wp2
              go_ret2
              exact ⟨NN.out, rfl⟩
        · obtain rfl : j = t.size := by omega
          have EN := NE.out rfl
          have FN1 := Lib.hid (FN.out N (by rw [EN]; exact D4.out (fun i q => HA.out i q q)))
          have n19 : N < 10000000000000000000 := by
            have h1 := NB.out
            have h2 : (10 : Nat) ^ t.size ≤ 10 ^ 19 := Nat.pow_le_pow_right (by omega) (by omega)
            have h3 : (10 : Nat) ^ 19 = 10000000000000000000 := by decide
            omega
          clear EN NE TK FD D3 D4 FN NB
          by_cases hN : 9223372036854775807 < N
          · have NN := Lib.hid (BD.out RV (by rw [FN1.out, if_pos hN]))
            have p1 : (9223372036854775807 : Int) < (N : Int) := by omega
            go_wp2
            go_ret2
            exact ⟨NN.out, rfl⟩
          · have p1 : ¬ (9223372036854775807 : Int) < (N : Int) := by omega
            have FX := Lib.hid (p := RV = some (N : Int)) (by rw [FN1.out, if_neg hN])
            go_wp2
            go_ret2
            have e := FX.out
            subst e
            exact ⟨⟨_, rfl, fun v q => by injection q⟩, rfl⟩
    · have z8 : ¬ (1 : Int) < (t.size : Int) := by omega
      go_enter Tryz.func29, Tryz.ntmps29
      go_wp2
      go_loop [7, 8] (fun nv jv => ∃ j : Nat, nv = .int .u64 ((nvQ 0 (t.data.toList.take j) : Nat) : Int) ∧ jv = .int .i64 (j : Int) ∧ j ≤ t.size ∧ RowKit.Hid (∀ i (q : i < t.size), i < j → 48 ≤ t[i].toNat ∧ t[i].toNat ≤ 57)) (fun _ jv => t.size - (intOf jv).toNat)
      case atStart => exact ⟨0, by rw [List.take_zero, nvQ_nil]; rfl, rfl, Nat.zero_le _, fun i q h => absurd h (by omega)⟩
      case round =>
        obtain ⟨j, rfl, rfl, hj, HA⟩ := hrel
        have NB := Lib.hid (nvQ_takeB hj HA.out)
        have NE := Lib.hid (p := j = t.size → nvQ 0 (t.data.toList.take j) = nvQ 0 t.data.toList) (fun e => by rw [List.take_of_length_le (by rw [lst_size]; omega)])
        have TK := Lib.hid (fun h : j < t.size => nvQ_take (j := j) h)
        generalize nvQ 0 (t.data.toList.take j) = N at *
        by_cases hlt : j < t.size
        · have jc : (j : Int) < (t.size : Int) := by omega
          have n18 : N < 1000000000000000000 := by
            have h1 := NB.out
            have h2 : (10 : Nat) ^ j ≤ 10 ^ 18 := Nat.pow_le_pow_right (by omega) (by omega)
            have h3 : (10 : Nat) ^ 18 = 1000000000000000000 := by decide
            omega
          by_cases hd : 48 ≤ t[j].toNat ∧ t[j].toNat ≤ 57
          · have p1 : ¬ (t[j].toNat : Int) < 48 := by omega
            have p2 : ¬ (57 : Int) < (t[j].toNat : Int) := by omega
            have TK1 := Lib.hid (TK.out hlt)
            have HA1 := Lib.hid (p := ∀ i (q : i < t.size), i < j + 1 → 48 ≤ t[i].toNat ∧ t[i].toNat ≤ 57) (fun i q h => by
              by_cases e : i = j
              · subst e; exact hd
              · exact HA.out i q (by omega))
            clear TK
            go_wp2
            go_roundw
            case rel => exact ⟨j + 1, by rw [TK1.out]; go_num, by go_num, by omega, HA1⟩
            case measure => simp [intOf]; omega
          · have NN := Lib.hid (BD.out RV (FD.out (D3.out j hlt hd)))
            clear FD D3 D4 FN TK
            rcases (show t[j].toNat < 48 ∨ 57 < t[j].toNat by omega) with p | p
            · have p1 : (t[j].toNat : Int) < 48 := by omega
              go_wp2
              go_ret2
              exact ⟨NN.out, rfl⟩
            · have p1 : ¬ (t[j].toNat : Int) < 48 := by omega
              have p2 : (57 : Int) < (t[j].toNat : Int) := by omega
              go_wp2
              go_ret2
              exact ⟨NN.out, rfl⟩
        · obtain rfl : j = t.size := by omega
          have EN := NE.out rfl
          have FN1 := Lib.hid (FN.out N (by rw [EN]; exact D4.out (fun i q => HA.out i q q)))
          have n19 : N < 10000000000000000000 := by
            have h1 := NB.out
            have h2 : (10 : Nat) ^ t.size ≤ 10 ^ 19 := Nat.pow_le_pow_right (by omega) (by omega)
            have h3 : (10 : Nat) ^ 19 = 10000000000000000000 := by decide
            omega
          clear EN NE TK FD D3 D4 FN NB
          by_cases hN : 9223372036854775807 < N
          · have NN := Lib.hid (BD.out RV (by rw [FN1.out, if_pos hN]))
            have p1 : (9223372036854775807 : Int) < (N : Int) := by omega
            go_wp2
            go_ret2
            exact ⟨NN.out, rfl⟩
          · have p1 : ¬ (9223372036854775807 : Int) < (N : Int) := by omega
            have FX := Lib.hid (p := RV = some (N : Int)) (by rw [FN1.out, if_neg hN])
            go_wp2
            go_ret2
            have e := FX.out
            subst e
            exact ⟨⟨_, rfl, fun v q => by injection q⟩, rfl⟩
  · have hb : ∀ h : 0 < t.size, ¬ t[0].toNat = 45 := hh.resolve_left (by decide)
    clear hh
    obtain ⟨d0, d1, d2, d3, d4⟩ := rvD_facts t
    by_cases z0 : t.size = 0
    · have NN := Lib.hid (FD.out (d0 z0))
      clear d0 d1 d2 d3 d4 FD FN
      have zc : (t.size : Int) = 0 := by omega
      go_enter Tryz.func29, Tryz.ntmps29
      go_wp2
      go_ret2
      have e := NN.out
      subst e
      exact ⟨⟨0, rfl, fun v q => by cases q⟩, rfl⟩
    by_cases z1 : 19 < t.size
    · have NN := Lib.hid (FD.out (d1 z1))
      clear d0 d1 d2 d3 d4 FD FN
      have n45 := hb (by omega)
      have zp : (0 : Int) < (t.size : Int) := by omega
      have zc : (19 : Int) < (t.size : Int) := by omega
      have zn : ¬ (t.size : Int) = 0 := by omega
      go_enter Tryz.func29, Tryz.ntmps29
      go_wp2
      go_ret2
      have e := NN.out
      subst e
      exact ⟨⟨0, rfl, fun v q => by cases q⟩, rfl⟩
    have n45 := hb (by omega)
    by_cases z2 : ∃ h : 1 < t.size, t[0].toNat = 48
    · obtain ⟨z3, z4⟩ := z2
      have NN := Lib.hid (FD.out (d2 z3 z4))
      clear d0 d1 d2 d3 d4 FD FN
      have zc : (1 : Int) < (t.size : Int) := by omega
      have zn : ¬ (t.size : Int) = 0 := by omega
      have zm : ¬ (19 : Int) < (t.size : Int) := by omega
      have zp : (0 : Int) < (t.size : Int) := by omega
      have n45 := hb (by omega)
      go_enter Tryz.func29, Tryz.ntmps29
      go_wp2
      go_ret2
      have e := NN.out
      subst e
      exact ⟨⟨0, rfl, fun v q => by cases q⟩, rfl⟩
    have ZZ : ∀ h : 1 < t.size, t[0].toNat ≠ 48 := fun h q => z2 ⟨h, q⟩
    have D3 := Lib.hid d3
    have D4 := Lib.hid (d4 (by omega) (by omega) ZZ)
    have zn : ¬ (t.size : Int) = 0 := by omega
    have zm : ¬ (19 : Int) < (t.size : Int) := by omega
    have zp : (0 : Int) < (t.size : Int) := by omega
    clear d0 d1 d2 d3 d4
    have n45 := hb (by omega)
    have zq : ((t.size : Int) == 0) = false := by rw [beq_eq_false_iff_ne]; omega
    have bad : ∀ RVx : Option Int, RVx = none → VlE RVx (.returned (.tuple #[.int .i64 0, .bool false])) := fun RVx q => by subst q; exact ⟨0, rfl, fun v q => by cases q⟩
    have BD := Lib.hid bad
    have z9 : (1 < t.size ∧ RowKit.Hid (∀ h : 0 < t.size, t[0].toNat ≠ 48)) ∨ (¬ 1 < t.size ∧ RowKit.Hid True) := by
      by_cases q : 1 < t.size
      · exact .inl ⟨q, fun _ => ZZ q⟩
      · exact .inr ⟨q, trivial⟩
    clear bad ZZ z2
    rcases z9 with ⟨z6, z7⟩ | ⟨z6, z7⟩
    · have z8 : (1 : Int) < (t.size : Int) := by omega
      have zr : (((t[0]'(by omega)).toNat : Int) == 48) = false := by have := z7.out (by omega); simp; omega
      go_enter Tryz.func29, Tryz.ntmps29
      go_wp2
      go_loop [7, 8] (fun nv jv => ∃ j : Nat, nv = .int .u64 ((nvQ 0 (t.data.toList.take j) : Nat) : Int) ∧ jv = .int .i64 (j : Int) ∧ j ≤ t.size ∧ RowKit.Hid (∀ i (q : i < t.size), i < j → 48 ≤ t[i].toNat ∧ t[i].toNat ≤ 57)) (fun _ jv => t.size - (intOf jv).toNat)
      case atStart => exact ⟨0, by rw [List.take_zero, nvQ_nil]; rfl, rfl, Nat.zero_le _, fun i q h => absurd h (by omega)⟩
      case round =>
        obtain ⟨j, rfl, rfl, hj, HA⟩ := hrel
        have NB := Lib.hid (nvQ_takeB hj HA.out)
        have NE := Lib.hid (p := j = t.size → nvQ 0 (t.data.toList.take j) = nvQ 0 t.data.toList) (fun e => by rw [List.take_of_length_le (by rw [lst_size]; omega)])
        have TK := Lib.hid (fun h : j < t.size => nvQ_take (j := j) h)
        generalize nvQ 0 (t.data.toList.take j) = N at *
        by_cases hlt : j < t.size
        · have jc : (j : Int) < (t.size : Int) := by omega
          have n18 : N < 1000000000000000000 := by
            have h1 := NB.out
            have h2 : (10 : Nat) ^ j ≤ 10 ^ 18 := Nat.pow_le_pow_right (by omega) (by omega)
            have h3 : (10 : Nat) ^ 18 = 1000000000000000000 := by decide
            omega
          by_cases hd : 48 ≤ t[j].toNat ∧ t[j].toNat ≤ 57
          · have p1 : ¬ (t[j].toNat : Int) < 48 := by omega
            have p2 : ¬ (57 : Int) < (t[j].toNat : Int) := by omega
            have TK1 := Lib.hid (TK.out hlt)
            have HA1 := Lib.hid (p := ∀ i (q : i < t.size), i < j + 1 → 48 ≤ t[i].toNat ∧ t[i].toNat ≤ 57) (fun i q h => by
              by_cases e : i = j
              · subst e; exact hd
              · exact HA.out i q (by omega))
            clear TK
            go_wp2
            go_roundw
            case rel => exact ⟨j + 1, by rw [TK1.out]; go_num, by go_num, by omega, HA1⟩
            case measure => simp [intOf]; omega
          · have NN := Lib.hid (BD.out RV (FD.out (D3.out j hlt hd)))
            clear FD D3 D4 FN TK
            rcases (show t[j].toNat < 48 ∨ 57 < t[j].toNat by omega) with p | p
            · have p1 : (t[j].toNat : Int) < 48 := by omega
              go_wp2
              go_ret2
              exact ⟨NN.out, rfl⟩
            · have p1 : ¬ (t[j].toNat : Int) < 48 := by omega
              have p2 : (57 : Int) < (t[j].toNat : Int) := by omega
              go_wp2
              go_ret2
              exact ⟨NN.out, rfl⟩
        · obtain rfl : j = t.size := by omega
          have EN := NE.out rfl
          have FN1 := Lib.hid (FN.out N (by rw [EN]; exact D4.out (fun i q => HA.out i q q)))
          have n19 : N < 10000000000000000000 := by
            have h1 := NB.out
            have h2 : (10 : Nat) ^ t.size ≤ 10 ^ 19 := Nat.pow_le_pow_right (by omega) (by omega)
            have h3 : (10 : Nat) ^ 19 = 10000000000000000000 := by decide
            omega
          clear EN NE TK FD D3 D4 FN NB
          by_cases hN : 9223372036854775807 < N
          · have NN := Lib.hid (BD.out RV (by rw [FN1.out, if_pos hN]))
            have p1 : (9223372036854775807 : Int) < (N : Int) := by omega
            go_wp2
            go_ret2
            exact ⟨NN.out, rfl⟩
          · have p1 : ¬ (9223372036854775807 : Int) < (N : Int) := by omega
            have FX := Lib.hid (p := RV = some (N : Int)) (by rw [FN1.out, if_neg hN])
            go_wp2
            go_ret2
            have e := FX.out
            subst e
            exact ⟨⟨_, rfl, fun v q => by injection q⟩, rfl⟩
    · have z8 : ¬ (1 : Int) < (t.size : Int) := by omega
      go_enter Tryz.func29, Tryz.ntmps29
      go_wp2
      go_loop [7, 8] (fun nv jv => ∃ j : Nat, nv = .int .u64 ((nvQ 0 (t.data.toList.take j) : Nat) : Int) ∧ jv = .int .i64 (j : Int) ∧ j ≤ t.size ∧ RowKit.Hid (∀ i (q : i < t.size), i < j → 48 ≤ t[i].toNat ∧ t[i].toNat ≤ 57)) (fun _ jv => t.size - (intOf jv).toNat)
      case atStart => exact ⟨0, by rw [List.take_zero, nvQ_nil]; rfl, rfl, Nat.zero_le _, fun i q h => absurd h (by omega)⟩
      case round =>
        obtain ⟨j, rfl, rfl, hj, HA⟩ := hrel
        have NB := Lib.hid (nvQ_takeB hj HA.out)
        have NE := Lib.hid (p := j = t.size → nvQ 0 (t.data.toList.take j) = nvQ 0 t.data.toList) (fun e => by rw [List.take_of_length_le (by rw [lst_size]; omega)])
        have TK := Lib.hid (fun h : j < t.size => nvQ_take (j := j) h)
        generalize nvQ 0 (t.data.toList.take j) = N at *
        by_cases hlt : j < t.size
        · have jc : (j : Int) < (t.size : Int) := by omega
          have n18 : N < 1000000000000000000 := by
            have h1 := NB.out
            have h2 : (10 : Nat) ^ j ≤ 10 ^ 18 := Nat.pow_le_pow_right (by omega) (by omega)
            have h3 : (10 : Nat) ^ 18 = 1000000000000000000 := by decide
            omega
          by_cases hd : 48 ≤ t[j].toNat ∧ t[j].toNat ≤ 57
          · have p1 : ¬ (t[j].toNat : Int) < 48 := by omega
            have p2 : ¬ (57 : Int) < (t[j].toNat : Int) := by omega
            have TK1 := Lib.hid (TK.out hlt)
            have HA1 := Lib.hid (p := ∀ i (q : i < t.size), i < j + 1 → 48 ≤ t[i].toNat ∧ t[i].toNat ≤ 57) (fun i q h => by
              by_cases e : i = j
              · subst e; exact hd
              · exact HA.out i q (by omega))
            clear TK
            go_wp2
            go_roundw
            case rel => exact ⟨j + 1, by rw [TK1.out]; go_num, by go_num, by omega, HA1⟩
            case measure => simp [intOf]; omega
          · have NN := Lib.hid (BD.out RV (FD.out (D3.out j hlt hd)))
            clear FD D3 D4 FN TK
            rcases (show t[j].toNat < 48 ∨ 57 < t[j].toNat by omega) with p | p
            · have p1 : (t[j].toNat : Int) < 48 := by omega
              go_wp2
              go_ret2
              exact ⟨NN.out, rfl⟩
            · have p1 : ¬ (t[j].toNat : Int) < 48 := by omega
              have p2 : (57 : Int) < (t[j].toNat : Int) := by omega
              go_wp2
              go_ret2
              exact ⟨NN.out, rfl⟩
        · obtain rfl : j = t.size := by omega
          have EN := NE.out rfl
          have FN1 := Lib.hid (FN.out N (by rw [EN]; exact D4.out (fun i q => HA.out i q q)))
          have n19 : N < 10000000000000000000 := by
            have h1 := NB.out
            have h2 : (10 : Nat) ^ t.size ≤ 10 ^ 19 := Nat.pow_le_pow_right (by omega) (by omega)
            have h3 : (10 : Nat) ^ 19 = 10000000000000000000 := by decide
            omega
          clear EN NE TK FD D3 D4 FN NB
          by_cases hN : 9223372036854775807 < N
          · have NN := Lib.hid (BD.out RV (by rw [FN1.out, if_pos hN]))
            have p1 : (9223372036854775807 : Int) < (N : Int) := by omega
            go_wp2
            go_ret2
            exact ⟨NN.out, rfl⟩
          · have p1 : ¬ (9223372036854775807 : Int) < (N : Int) := by omega
            have FX := Lib.hid (p := RV = some (N : Int)) (by rw [FN1.out, if_neg hN])
            go_wp2
            go_ret2
            have e := FX.out
            subst e
            exact ⟨⟨_, rfl, fun v q => by injection q⟩, rfl⟩
set_option maxRecDepth 100000 in
set_option maxHeartbeats 4000000 in
theorem valueA_any (s : ByteArray) (hs : s.size ≤ 16777216) (h0 : 0 < s.size) (h45 : s[0].toNat = 45) (w : World) :
    Calls Tryz.prog 29 #[.string s, .bool true] w fun e w' => VlE (rvV true s.data.toList) e ∧ w' = w := by
  obtain ⟨RV, hRV⟩ : ∃ R, rvV true s.data.toList = R := ⟨_, rfl⟩
  obtain ⟨t, et⟩ : ∃ x, s.extract 1 s.size = x := ⟨_, rfl⟩
  have sz : t.size + 1 = s.size := by rw [← et, ByteArray.size_extract]; omega
  have tl : s.data.toList.tail = t.data.toList := by
    rw [← et, ByteArray.data_extract, Array.toList_extract]
    simp
    exact (List.take_of_length_le (by rw [List.length_tail, lst_size]; exact Nat.le_refl _)).symm
  have hd : s.data.toList.head? = some 45 := by
    rw [List.head?_eq_getElem?, lst_at h0]
    congr 1
    exact UInt8.toNat_inj.1 (by rw [h45]; rfl)
  have e0 : rvV true s.data.toList = if t.data.toList = [48] then none else (rvD t.data.toList).bind fun n => if 9223372036854775808 < n then none else some (-(n : Int)) := by
    unfold rvV
    rw [if_pos ⟨rfl, hd⟩, tl]
  rw [hRV] at e0 ⊢
  have s0 : (0 : Int) < (s.size : Int) := by omega
  have s1 : (1 : Int) ≤ (s.size : Int) := by omega
  have hmax : s.size ≤ maxLen := by unfold maxLen; omega
  clear hd tl hRV
  by_cases t0 : t = ⟨#[48]⟩
  · have NN : RV = none := by rw [e0, t0]; rfl
    subst NN t0
    clear e0
    go_enter Tryz.func29, Tryz.ntmps29
    go_wp2
    go_ret2
    exact ⟨⟨0, rfl, fun v q => by cases q⟩, rfl⟩
  have tn : (t.toList == [48]) = false := by
    rw [beq_eq_false_iff_ne]
    intro q
    exact t0 (bytes_eq (by rw [q, ByteArray.toList_mk]))
  have t1 : ¬ t.data.toList = [48] := fun q => t0 (ByteArray.ext (Array.toList_inj.1 q))
  rw [if_neg t1] at e0
  have FD := Lib.hid (p := rvD t.data.toList = none → RV = none) (fun q => by rw [e0, q]; rfl)
  have FN := Lib.hid (p := ∀ n, rvD t.data.toList = some n → RV = if 9223372036854775808 < n then none else some (-(n : Int))) (fun n q => by rw [e0, q]; rfl)
  have nsz : ((t.size : Int) == (s.size : Int)) = false := by rw [beq_eq_false_iff_ne]; omega
  clear e0 t0 t1
  obtain ⟨d0, d1, d2, d3, d4⟩ := rvD_facts t
  by_cases z0 : t.size = 0
  · have NN := Lib.hid (FD.out (d0 z0))
    clear d0 d1 d2 d3 d4 FD FN
    have zc : (t.size : Int) = 0 := by omega
    go_enter Tryz.func29, Tryz.ntmps29
    go_wp2
    go_ret2
    have e := NN.out
    subst e
    exact ⟨⟨0, rfl, fun v q => by cases q⟩, rfl⟩
  by_cases z1 : 19 < t.size
  · have NN := Lib.hid (FD.out (d1 z1))
    clear d0 d1 d2 d3 d4 FD FN
    have zc : (19 : Int) < (t.size : Int) := by omega
    have zn : ¬ (t.size : Int) = 0 := by omega
    go_enter Tryz.func29, Tryz.ntmps29
    go_wp2
    go_ret2
    have e := NN.out
    subst e
    exact ⟨⟨0, rfl, fun v q => by cases q⟩, rfl⟩
  by_cases z2 : ∃ h : 1 < t.size, t[0].toNat = 48
  · obtain ⟨z3, z4⟩ := z2
    have NN := Lib.hid (FD.out (d2 z3 z4))
    clear d0 d1 d2 d3 d4 FD FN
    have zc : (1 : Int) < (t.size : Int) := by omega
    have zn : ¬ (t.size : Int) = 0 := by omega
    have zm : ¬ (19 : Int) < (t.size : Int) := by omega
    have zp : (0 : Int) < (t.size : Int) := by omega
    go_enter Tryz.func29, Tryz.ntmps29
    go_wp2
    go_ret2
    have e := NN.out
    subst e
    exact ⟨⟨0, rfl, fun v q => by cases q⟩, rfl⟩
  have ZZ : ∀ h : 1 < t.size, t[0].toNat ≠ 48 := fun h q => z2 ⟨h, q⟩
  have D3 := Lib.hid d3
  have D4 := Lib.hid (d4 (by omega) (by omega) ZZ)
  have zn : ¬ (t.size : Int) = 0 := by omega
  have zm : ¬ (19 : Int) < (t.size : Int) := by omega
  have zp : (0 : Int) < (t.size : Int) := by omega
  clear d0 d1 d2 d3 d4
  have zq : ((t.size : Int) == 0) = false := by rw [beq_eq_false_iff_ne]; omega
  have bad : ∀ RVx : Option Int, RVx = none → VlE RVx (.returned (.tuple #[.int .i64 0, .bool false])) := fun RVx q => by subst q; exact ⟨0, rfl, fun v q => by cases q⟩
  have BD := Lib.hid bad
  have z9 : (1 < t.size ∧ RowKit.Hid (∀ h : 0 < t.size, t[0].toNat ≠ 48)) ∨ (¬ 1 < t.size ∧ RowKit.Hid True) := by
    by_cases q : 1 < t.size
    · exact .inl ⟨q, fun _ => ZZ q⟩
    · exact .inr ⟨q, trivial⟩
  clear bad ZZ z2
  rcases z9 with ⟨z6, z7⟩ | ⟨z6, z7⟩
  · have z8 : (1 : Int) < (t.size : Int) := by omega
    have zr : (((t[0]'(by omega)).toNat : Int) == 48) = false := by have := z7.out (by omega); simp; omega
    go_enter Tryz.func29, Tryz.ntmps29
    go_wp2
    go_loop [7, 8] (fun nv jv => ∃ j : Nat, nv = .int .u64 ((nvQ 0 (t.data.toList.take j) : Nat) : Int) ∧ jv = .int .i64 (j : Int) ∧ j ≤ t.size ∧ RowKit.Hid (∀ i (q : i < t.size), i < j → 48 ≤ t[i].toNat ∧ t[i].toNat ≤ 57)) (fun _ jv => t.size - (intOf jv).toNat)
    case atStart => exact ⟨0, by rw [List.take_zero, nvQ_nil]; rfl, rfl, Nat.zero_le _, fun i q h => absurd h (by omega)⟩
    case round =>
      obtain ⟨j, rfl, rfl, hj, HA⟩ := hrel
      have NB := Lib.hid (nvQ_takeB hj HA.out)
      have NE := Lib.hid (p := j = t.size → nvQ 0 (t.data.toList.take j) = nvQ 0 t.data.toList) (fun e => by rw [List.take_of_length_le (by rw [lst_size]; omega)])
      have TK := Lib.hid (fun h : j < t.size => nvQ_take (j := j) h)
      generalize nvQ 0 (t.data.toList.take j) = N at *
      by_cases hlt : j < t.size
      · have jc : (j : Int) < (t.size : Int) := by omega
        have n18 : N < 1000000000000000000 := by
          have h1 := NB.out
          have h2 : (10 : Nat) ^ j ≤ 10 ^ 18 := Nat.pow_le_pow_right (by omega) (by omega)
          have h3 : (10 : Nat) ^ 18 = 1000000000000000000 := by decide
          omega
        by_cases hd : 48 ≤ t[j].toNat ∧ t[j].toNat ≤ 57
        · have p1 : ¬ (t[j].toNat : Int) < 48 := by omega
          have p2 : ¬ (57 : Int) < (t[j].toNat : Int) := by omega
          have TK1 := Lib.hid (TK.out hlt)
          have HA1 := Lib.hid (p := ∀ i (q : i < t.size), i < j + 1 → 48 ≤ t[i].toNat ∧ t[i].toNat ≤ 57) (fun i q h => by
            by_cases e : i = j
            · subst e; exact hd
            · exact HA.out i q (by omega))
          clear TK
          go_wp2
          go_roundw
          case rel => exact ⟨j + 1, by rw [TK1.out]; go_num, by go_num, by omega, HA1⟩
          case measure => simp [intOf]; omega
        · have NN := Lib.hid (BD.out RV (FD.out (D3.out j hlt hd)))
          clear FD D3 D4 FN TK
          rcases (show t[j].toNat < 48 ∨ 57 < t[j].toNat by omega) with p | p
          · have p1 : (t[j].toNat : Int) < 48 := by omega
            go_wp2
            go_ret2
            exact ⟨NN.out, rfl⟩
          · have p1 : ¬ (t[j].toNat : Int) < 48 := by omega
            have p2 : (57 : Int) < (t[j].toNat : Int) := by omega
            go_wp2
            go_ret2
            exact ⟨NN.out, rfl⟩
      · obtain rfl : j = t.size := by omega
        have EN := NE.out rfl
        have FN1 := Lib.hid (FN.out N (by rw [EN]; exact D4.out (fun i q => HA.out i q q)))
        have n19 : N < 10000000000000000000 := by
          have h1 := NB.out
          have h2 : (10 : Nat) ^ t.size ≤ 10 ^ 19 := Nat.pow_le_pow_right (by omega) (by omega)
          have h3 : (10 : Nat) ^ 19 = 10000000000000000000 := by decide
          omega
        clear EN NE TK FD D3 D4 FN NB
        by_cases hN : 9223372036854775808 < N
        · have NN := Lib.hid (BD.out RV (by rw [FN1.out, if_pos hN]))
          have p1 : (9223372036854775808 : Int) < (N : Int) := by omega
          go_wp2
          go_ret2
          exact ⟨NN.out, rfl⟩
        · have p1 : ¬ (9223372036854775808 : Int) < (N : Int) := by omega
          have FX := Lib.hid (p := RV = some (-(N : Int))) (by rw [FN1.out, if_neg hN])
          go_wp2
          go_ret2
          have e := FX.out
          subst e
          refine ⟨⟨_, rfl, fun v q => ?_⟩, rfl⟩
          injection q with q
          rw [← q]
          simp [wrap64, IntKind.wrap, IntKind.bits, IntKind.signed]
          omega
  · have z8 : ¬ (1 : Int) < (t.size : Int) := by omega
    go_enter Tryz.func29, Tryz.ntmps29
    go_wp2
    go_loop [7, 8] (fun nv jv => ∃ j : Nat, nv = .int .u64 ((nvQ 0 (t.data.toList.take j) : Nat) : Int) ∧ jv = .int .i64 (j : Int) ∧ j ≤ t.size ∧ RowKit.Hid (∀ i (q : i < t.size), i < j → 48 ≤ t[i].toNat ∧ t[i].toNat ≤ 57)) (fun _ jv => t.size - (intOf jv).toNat)
    case atStart => exact ⟨0, by rw [List.take_zero, nvQ_nil]; rfl, rfl, Nat.zero_le _, fun i q h => absurd h (by omega)⟩
    case round =>
      obtain ⟨j, rfl, rfl, hj, HA⟩ := hrel
      have NB := Lib.hid (nvQ_takeB hj HA.out)
      have NE := Lib.hid (p := j = t.size → nvQ 0 (t.data.toList.take j) = nvQ 0 t.data.toList) (fun e => by rw [List.take_of_length_le (by rw [lst_size]; omega)])
      have TK := Lib.hid (fun h : j < t.size => nvQ_take (j := j) h)
      generalize nvQ 0 (t.data.toList.take j) = N at *
      by_cases hlt : j < t.size
      · have jc : (j : Int) < (t.size : Int) := by omega
        have n18 : N < 1000000000000000000 := by
          have h1 := NB.out
          have h2 : (10 : Nat) ^ j ≤ 10 ^ 18 := Nat.pow_le_pow_right (by omega) (by omega)
          have h3 : (10 : Nat) ^ 18 = 1000000000000000000 := by decide
          omega
        by_cases hd : 48 ≤ t[j].toNat ∧ t[j].toNat ≤ 57
        · have p1 : ¬ (t[j].toNat : Int) < 48 := by omega
          have p2 : ¬ (57 : Int) < (t[j].toNat : Int) := by omega
          have TK1 := Lib.hid (TK.out hlt)
          have HA1 := Lib.hid (p := ∀ i (q : i < t.size), i < j + 1 → 48 ≤ t[i].toNat ∧ t[i].toNat ≤ 57) (fun i q h => by
            by_cases e : i = j
            · subst e; exact hd
            · exact HA.out i q (by omega))
          clear TK
          go_wp2
          go_roundw
          case rel => exact ⟨j + 1, by rw [TK1.out]; go_num, by go_num, by omega, HA1⟩
          case measure => simp [intOf]; omega
        · have NN := Lib.hid (BD.out RV (FD.out (D3.out j hlt hd)))
          clear FD D3 D4 FN TK
          rcases (show t[j].toNat < 48 ∨ 57 < t[j].toNat by omega) with p | p
          · have p1 : (t[j].toNat : Int) < 48 := by omega
            go_wp2
            go_ret2
            exact ⟨NN.out, rfl⟩
          · have p1 : ¬ (t[j].toNat : Int) < 48 := by omega
            have p2 : (57 : Int) < (t[j].toNat : Int) := by omega
            go_wp2
            go_ret2
            exact ⟨NN.out, rfl⟩
      · obtain rfl : j = t.size := by omega
        have EN := NE.out rfl
        have FN1 := Lib.hid (FN.out N (by rw [EN]; exact D4.out (fun i q => HA.out i q q)))
        have n19 : N < 10000000000000000000 := by
          have h1 := NB.out
          have h2 : (10 : Nat) ^ t.size ≤ 10 ^ 19 := Nat.pow_le_pow_right (by omega) (by omega)
          have h3 : (10 : Nat) ^ 19 = 10000000000000000000 := by decide
          omega
        clear EN NE TK FD D3 D4 FN NB
        by_cases hN : 9223372036854775808 < N
        · have NN := Lib.hid (BD.out RV (by rw [FN1.out, if_pos hN]))
          have p1 : (9223372036854775808 : Int) < (N : Int) := by omega
          go_wp2
          go_ret2
          exact ⟨NN.out, rfl⟩
        · have p1 : ¬ (9223372036854775808 : Int) < (N : Int) := by omega
          have FX := Lib.hid (p := RV = some (-(N : Int))) (by rw [FN1.out, if_neg hN])
          go_wp2
          go_ret2
          have e := FX.out
          subst e
          refine ⟨⟨_, rfl, fun v q => ?_⟩, rfl⟩
          injection q with q
          rw [← q]
          simp [wrap64, IntKind.wrap, IntKind.bits, IntKind.signed]
          omega
end Go.Proofs.YtccjeipkljdhdaaGreatDoor
