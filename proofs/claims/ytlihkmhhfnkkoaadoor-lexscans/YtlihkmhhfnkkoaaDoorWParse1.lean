/-
  WALKS: shapedAsDate, digits (the program's), number (the document's).
-/
import Derived.Test.YtlihkmhhfnkkoaaDoorWText1
import Derived.Test.YtlihkmhhfnkkoaaDoorWCal4
namespace Go.Proofs.YtlihkmhhfnkkoaaDoor
open Go.RowKit
open Cal
set_option linter.unusedVariables false
set_option linter.unusedSimpArgs false

/-- May this byte stand there? -/
def okB (i : Nat) (c : Int) : Bool := if i = 4 ∨ i = 7 then decide (c = 45) else decide (48 ≤ c ∧ c ≤ 57)
def at8 (s : ByteArray) (i : Nat) : Int := if h : i < s.size then (s[i].toNat : Int) else 0
theorem at8_lt {s : ByteArray} {i : Nat} (h : i < s.size) : at8 s i = (s[i].toNat : Int) := by unfold at8; rw [dif_pos h]
def shB (s : ByteArray) : Bool := decide (s.size = 10) && (List.range 10).all fun i => okB i (at8 s i)
theorem sh_true {s : ByteArray} (h : s.size = 10) (k : ∀ i, i < 10 → okB i (at8 s i) = true) : shB s = true := by
  unfold shB; rw [decide_eq_true h, Bool.true_and, List.all_eq_true]; exact fun i hi => k i (List.mem_range.1 hi)
theorem sh_false {s : ByteArray} {i : Nat} (hi : i < 10) (k : okB i (at8 s i) = false) : shB s = false := by
  unfold shB
  rw [Bool.and_eq_false_iff]; right
  rw [List.all_eq_false]
  exact ⟨i, List.mem_range.2 hi, by rw [k]; simp⟩
theorem sh_out {s : ByteArray} (h : shB s = true) : s.size = 10 ∧ ∀ i, i < 10 → okB i (at8 s i) = true := by
  unfold shB at h
  rw [Bool.and_eq_true, List.all_eq_true] at h
  exact ⟨of_decide_eq_true h.1, fun i hi => h.2 i (List.mem_range.2 hi)⟩

set_option maxHeartbeats 1000000 in
theorem shaped_any (s : ByteArray) (w : World) (hs : s.size ≤ 9223372036854775807) :
    Calls Tryd.prog 39 #[.string s] w fun e w' => e = .returned (.bool (shB s)) ∧ w' = w := by
  by_cases h : s.size = 10
  · have h2 : (s.size : Int) = 10 := by omega
    obtain ⟨B, hB⟩ : ∃ B, shB s = B := ⟨_, rfl⟩
    have HB := Lib.hid hB
    rw [hB]; clear hB
    go_enter Tryd.func39, Tryd.ntmps39
    go_wp2
    go_loop [9] (fun t => ∃ k : Nat, k ≤ 10 ∧ t = .int .i64 k ∧ RowKit.Hid (∀ i, i < k → okB i (at8 s i) = true)) (fun t => 10 - (intOf t).toNat)
    case atStart => exact ⟨0, by omega, rfl, fun i hi => absurd hi (by omega)⟩
    case round =>
      obtain ⟨k, hk, rfl, hN⟩ := hrel
      by_cases hlt : k < 10
      · have hks : k < s.size := by omega
        have E := Lib.hid (at8_lt hks)
        have nx : okB k (at8 s k) = true → ∀ i, i < k + 1 → okB i (at8 s i) = true := fun g i hi => by
          rcases (show i < k ∨ i = k by omega) with q | q
          · exact hN.out i q
          · rw [q]; exact g
        have NX := Lib.hid nx
        have NO := Lib.hid (p := okB k (at8 s k) = false → false = B) (fun g => by rw [← HB.out, sh_false hlt g])
        clear nx
        by_cases k4 : k = 4
        · subst k4
          by_cases c : (s[4].toNat : Int) = 45
          · have OK := Lib.hid (p := okB 4 (at8 s 4) = true) (by rw [E.out, okB, if_pos (by omega)]; exact decide_eq_true c)
            go_wp2
            go_round
            case rel => exact ⟨5, by omega, rfl, NX.out OK.out⟩
            case measure => simp [intOf]
          · have OK := Lib.hid (p := okB 4 (at8 s 4) = false) (by rw [E.out, okB, if_pos (by omega)]; exact decide_eq_false c)
            go_wp2
            go_ret
            exact ⟨ret_bool (NO.out OK.out), rfl⟩
        · by_cases k7 : k = 7
          · subst k7
            by_cases c : (s[7].toNat : Int) = 45
            · have OK := Lib.hid (p := okB 7 (at8 s 7) = true) (by rw [E.out, okB, if_pos (by omega)]; exact decide_eq_true c)
              go_wp2
              go_round
              case rel => exact ⟨8, by omega, rfl, NX.out OK.out⟩
              case measure => simp [intOf]
            · have OK := Lib.hid (p := okB 7 (at8 s 7) = false) (by rw [E.out, okB, if_pos (by omega)]; exact decide_eq_false c)
              go_wp2
              go_ret
              exact ⟨ret_bool (NO.out OK.out), rfl⟩
          · have n4 : ¬ (k : Int) = 4 := by omega
            have n7 : ¬ (k : Int) = 7 := by omega
            by_cases c1 : 48 ≤ (s[k].toNat : Int)
            · by_cases c2 : (s[k].toNat : Int) ≤ 57
              · have OK := Lib.hid (p := okB k (at8 s k) = true) (by rw [E.out, okB, if_neg (by omega)]; exact decide_eq_true ⟨c1, c2⟩)
                go_wp2
                go_round
                case rel => exact ⟨k + 1, by omega, by go_num, NX.out OK.out⟩
                case measure => simp [intOf]; omega
              · have OK := Lib.hid (p := okB k (at8 s k) = false) (by rw [E.out, okB, if_neg (by omega)]; exact decide_eq_false (fun q => c2 q.2))
                go_wp2
                go_ret
                exact ⟨ret_bool (NO.out OK.out), rfl⟩
            · have OK := Lib.hid (p := okB k (at8 s k) = false) (by rw [E.out, okB, if_neg (by omega)]; exact decide_eq_false (fun q => c1 q.1))
              go_wp2
              go_ret
              exact ⟨ret_bool (NO.out OK.out), rfl⟩
      · have YES := Lib.hid (p := true = B) (by rw [← HB.out, sh_true h (fun i hi => hN.out i (by omega))])
        have k10 : k = 10 := by omega
        subst k10
        go_wp2
        go_ret
        exact ⟨ret_bool YES.out, rfl⟩
  · have h' : ¬ (s.size : Int) = 10 := by omega
    have e : shB s = false := by unfold shB; rw [decide_eq_false h]; rfl
    rw [e]; clear e
    go_enter Tryd.func39, Tryd.ntmps39
    go_wp2
    go_ret
    exact ⟨rfl, rfl⟩

/-- The number that a row of digits says. -/
def dv (l : List UInt8) : Int := l.foldl (fun a c => 10 * a + ((c.toNat : Int) - 48)) 0
theorem dv_snoc (l : List UInt8) (c : UInt8) : dv (l ++ [c]) = 10 * dv l + ((c.toNat : Int) - 48) := by simp [dv]
def digs (l : List UInt8) : Prop := ∀ c ∈ l, 48 ≤ (c.toNat : Int) ∧ (c.toNat : Int) ≤ 57
theorem dvA_bd : ∀ (l : List UInt8) (a : Int), digs l → 0 ≤ a → 0 ≤ l.foldl (fun a c => 10 * a + ((c.toNat : Int) - 48)) a ∧ l.foldl (fun a c => 10 * a + ((c.toNat : Int) - 48)) a + 1 ≤ (a + 1) * 10 ^ l.length
  | [], a, _, h => by simp; omega
  | c :: l, a, hd, h => by
    have hc := hd c (by simp)
    have i := dvA_bd l (10 * a + ((c.toNat : Int) - 48)) (fun x hx => hd x (by simp [hx])) (by omega)
    refine ⟨i.1, Int.le_trans i.2 ?_⟩
    have e : (a + 1) * 10 ^ (c :: l).length = (10 * (a + 1)) * 10 ^ l.length := by
      rw [List.length_cons, Int.pow_succ, ← Int.mul_assoc, Int.mul_comm ((a + 1) * 10 ^ l.length) 10, ← Int.mul_assoc]
    rw [e]
    exact Int.mul_le_mul_of_nonneg_right (by omega) (Int.pow_nonneg (by omega))
theorem dv_bd (l : List UInt8) (hd : digs l) (hl : l.length ≤ 4) : 0 ≤ dv l ∧ dv l ≤ 9999 := by
  have := dvA_bd l 0 hd (by omega)
  unfold dv
  have p : (10 : Int) ^ l.length ≤ 10000 := by
    rcases (show l.length = 0 ∨ l.length = 1 ∨ l.length = 2 ∨ l.length = 3 ∨ l.length = 4 by omega) with h | h | h | h | h <;> rw [h] <;> decide
  omega
theorem takeSnoc (s : ByteArray) (k : Nat) (h : k < s.size) : s.data.toList.take (k + 1) = s.data.toList.take k ++ [s[k]] := by
  rw [List.take_succ_eq_append_getElem (by simpa using h)]; rfl
theorem digs_take {l : List UInt8} (h : digs l) (k : Nat) : digs (l.take k) := fun c hc => h c (List.mem_of_mem_take hc)

set_option maxHeartbeats 1000000 in
theorem digits_any (s : ByteArray) (w : World) (hs : s.size ≤ 4) (hd : digs s.data.toList) :
    Calls Tryd.prog 40 #[.string s] w fun e w' => e = .returned (.int .i64 (dv s.data.toList)) ∧ w' = w := by
  have HD := Lib.hid hd
  clear hd
  go_enter Tryd.func40, Tryd.ntmps40
  go_wp2
  go_loop [3, 7] (fun n i => ∃ k : Nat, k ≤ s.size ∧ i = .int .i64 k ∧ n = .int .i64 (dv (s.data.toList.take k))) (fun _ i => s.size - (intOf i).toNat)
  case atStart => exact ⟨0, Nat.zero_le _, rfl, rfl⟩
  case round =>
    obtain ⟨k, hk, rfl, rfl⟩ := hrel
    have bd := dv_bd (s.data.toList.take k) (digs_take HD.out k) (by have := List.length_take_le k s.data.toList; omega)
    obtain ⟨bd1, bd2⟩ := bd
    by_cases hlt : k < s.size
    · have HS := Lib.hid (p := dv (s.data.toList.take (k + 1)) = 10 * dv (s.data.toList.take k) + ((s[k].toNat : Int) - 48)) (by rw [takeSnoc s k hlt, dv_snoc])
      have cd := HD.out s[k] (by rw [← Array.mem_def]; exact Array.getElem_mem _)
      obtain ⟨cd1, cd2⟩ := cd
      go_wp2
      go_round
      case rel => exact ⟨k + 1, by omega, by go_num, by rw [HS.out]⟩
      case measure => simp [intOf]; omega
    · go_wp2
      go_ret
      exact ⟨ret_int (by rw [List.take_of_length_le (by simp; omega)]), rfl⟩

/-- What the document's number answers. -/
def nv (l : List UInt8) : Int := if l.all (fun c => decide (48 ≤ (c.toNat : Int) ∧ (c.toNat : Int) ≤ 57)) = true then dv l else -1
theorem nv_yes {l : List UInt8} (h : digs l) : nv l = dv l := by
  unfold nv; rw [if_pos]; rw [List.all_eq_true]; exact fun c hc => decide_eq_true (h c hc)
theorem nv_no {l : List UInt8} {c : UInt8} (hc : c ∈ l) (h : ¬ (48 ≤ (c.toNat : Int) ∧ (c.toNat : Int) ≤ 57)) : nv l = -1 := by
  unfold nv; rw [if_neg]; rw [List.all_eq_true]; intro g; exact h (of_decide_eq_true (g c hc))

end Go.Proofs.YtlihkmhhfnkkoaaDoor
