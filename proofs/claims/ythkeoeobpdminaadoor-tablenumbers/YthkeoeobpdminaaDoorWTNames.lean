/-
  WALKS: areCapitalNames; column (the document's).
-/
import Derived.Test.YthkeoeobpdminaaDoorWTCap
import Derived.Test.YthkeoeobpdminaaDoorWTSame
namespace Go.Proofs.YthkeoeobpdminaaDoor
open Go.RowKit
set_option linter.unusedVariables false
set_option linter.unusedSimpArgs false

/-- The place of the first of a list's names that is this one; -1: there is none. -/
def colF : List ByteArray → ByteArray → Nat → Int
  | [], _, _ => -1
  | x :: l, s, k => if x = s then (k : Int) else colF l s (k + 1)
def Col (ss : List ByteArray) (s : ByteArray) (r : Int) : Prop :=
  (r = -1 ∧ ∀ i, i < ss.length → ss.getD i default ≠ s) ∨ ∃ i : Nat, r = i ∧ i < ss.length ∧ ss.getD i default = s ∧ ∀ j, j < i → ss.getD j default ≠ s
theorem colF_is : ∀ (ss : List ByteArray) (s : ByteArray) (k : Nat), (colF ss s k = -1 ∧ ∀ i, i < ss.length → ss.getD i default ≠ s) ∨ ∃ i : Nat, colF ss s k = ((k + i : Nat) : Int) ∧ i < ss.length ∧ ss.getD i default = s ∧ ∀ j, j < i → ss.getD j default ≠ s
  | [], s, k => .inl ⟨rfl, fun i hi => absurd hi (by simp)⟩
  | x :: l, s, k => by
    by_cases h : x = s
    · exact .inr ⟨0, by simp [colF, h], by simp, by simp [h], fun j hj => absurd hj (by omega)⟩
    · rcases colF_is l s (k + 1) with ⟨h1, h2⟩ | ⟨i, h1, h2, h3, h4⟩
      · refine .inl ⟨by simp [colF, h, h1], fun i hi => ?_⟩
        match i, hi with
        | 0, _ => simpa using h
        | i + 1, hi => have := h2 i (by simpa using hi); simpa using this
      · refine .inr ⟨i + 1, by simp only [colF, h, if_false, h1]; omega, by simpa using h2, by simpa using h3, fun j hj => ?_⟩
        match j, hj with
        | 0, _ => simpa using h
        | j + 1, hj => have := h4 j (by omega); simpa using this
theorem colF_col (ss : List ByteArray) (s : ByteArray) : Col ss s (colF ss s 0) := by
  rcases colF_is ss s 0 with h | ⟨i, h, r⟩
  · exact .inl h
  · exact .inr ⟨i, by rw [h]; simp, r⟩
theorem Col.only {ss : List ByteArray} {s : ByteArray} {r q : Int} (h : Col ss s r) (k : Col ss s q) : r = q := by
  rcases h with ⟨rfl, h⟩ | ⟨i, rfl, h1, h2, h3⟩ <;> rcases k with ⟨rfl, k⟩ | ⟨j, rfl, k1, k2, k3⟩
  · rfl
  · exact absurd k2 (h j k1)
  · exact absurd h2 (k i h1)
  · rcases Nat.lt_trichotomy i j with q | q | q
    · exact absurd h2 (k3 i q)
    · rw [q]
    · exact absurd k2 (h3 j q)
theorem col_lo (ss : List ByteArray) (s : ByteArray) : -1 ≤ colF ss s 0 ∧ colF ss s 0 < ss.length + 1 := by
  rcases colF_col ss s with ⟨h, _⟩ | ⟨i, h, hi, _⟩ <;> rw [h] <;> omega
theorem toList_ne {a b : ByteArray} (h : a ≠ b) : ¬ a.toList = b.toList := by
  rw [Go.ByteArray.toList_eq, Go.ByteArray.toList_eq]
  intro e
  apply h
  obtain ⟨⟨l⟩⟩ := a
  obtain ⟨⟨m⟩⟩ := b
  simp at e
  rw [e]

set_option maxHeartbeats 2000000 in
theorem column_any (a : Option Addr) (n cap : Nat) (ss : List ByteArray) (s : ByteArray) (w : World) (h : NL w a n ss) :
    Calls Tryd.prog 25 #[.slice a n cap, .string s] w fun e w' => e = .returned (.int .i64 (colF ss s 0)) ∧ w' = w := by
  obtain ⟨hl, hn, _, h3⟩ := h
  have HR := Lib.hid (fun r (k : Col ss s r) => k.only (colF_col ss s))
  have HA := Lib.hid (p := 0 < n → ∃ x o, a = some ⟨x, o, none⟩ ∧ ∀ i, i < n → w.cell? ⟨x, o + i, none⟩ = some (.string (ss.getD i default))) (fun h0 => by
    rcases h3 with h3 | ⟨x, o, e1, _, h3⟩
    · omega
    · exact ⟨x, o, e1, h3⟩)
  generalize colF ss s 0 = R at *
  have HL := Lib.hid hl
  clear h3 hl
  go_enter Tryd.func25, Tryd.ntmps25
  go_wp2
  go_loop [5] (fun t => ∃ k : Nat, k ≤ n ∧ t = .int .i64 k ∧ RowKit.Hid (∀ j, j < k → ss.getD j default ≠ s)) (fun t => n - (intOf t).toNat)
  case atStart => exact ⟨0, by omega, rfl, fun j hj => absurd hj (by omega)⟩
  case round =>
    obtain ⟨k, hk, rfl, hN⟩ := hrel
    by_cases hlt : k < n
    · obtain ⟨x, o, rfl, hc⟩ := HA.out (by omega)
      have c0 := hc k hlt
      have kc : (k : Int) < (n : Int) := by omega
      obtain ⟨f, hf⟩ : ∃ f, ss.getD k default = f := ⟨_, rfl⟩
      rw [hf] at c0
      clear hc
      by_cases hx : f = s
      · subst hx
        have RR := Lib.hid (HR.out k (.inr ⟨k, rfl, by rw [HL.out]; exact hlt, hf, hN.out⟩))
        clear hf
        go_wp2
        go_ret
        exact ⟨retT_int RR.out, rfl⟩
      · have NX := Lib.hid (p := ∀ j, j < k + 1 → ss.getD j default ≠ s) (fun j hj => by
          rcases (show j < k ∨ j = k by omega) with g | g
          · exact hN.out j g
          · rw [g, hf]; exact hx)
        have t1 := toList_ne hx
        have t2 : (f.toList == s.toList) = false := by simpa using t1
        clear hf hx
        go_wp2
        go_round
        case rel => exact ⟨k + 1, by omega, by go_num, NX.out⟩
        case measure => simp [intOf]; omega
    · obtain rfl : k = n := by omega
      have RR := Lib.hid (HR.out (-1) (.inl ⟨rfl, by rw [HL.out]; exact hN.out⟩))
      go_wp2
      go_ret
      exact ⟨retT_int RR.out, rfl⟩

set_option maxHeartbeats 2000000 in
theorem areCap_any (a : Option Addr) (n cap : Nat) (ss : List ByteArray) (w : World) (h : NL w a n ss) :
    Calls Tryd.prog 20 #[.slice a n cap] w fun e w' => e = .returned (.bool (ss.all nameB)) ∧ w' = w := by
  obtain ⟨hl, hn, hw, h3⟩ := h
  have HW := Lib.hid (p := ∀ i, i < n → (ss.getD i default).size ≤ 140737488351232) (fun i hi => by
    have hi' : i < ss.length := by omega
    rw [show ss.getD i default = ss[i] by simp [List.getD, hi']]
    exact hw _ (List.getElem_mem hi'))
  have HA := Lib.hid (p := 0 < n → ∃ x o, a = some ⟨x, o, none⟩ ∧ ∀ i, i < n → w.cell? ⟨x, o + i, none⟩ = some (.string (ss.getD i default))) (fun h0 => by
    rcases h3 with h3 | ⟨x, o, e1, _, h3⟩
    · omega
    · exact ⟨x, o, e1, h3⟩)
  obtain ⟨B, hB⟩ : ∃ B, ss.all nameB = B := ⟨_, rfl⟩
  have NO := Lib.hid (p := ∀ k, k < n → nameB (ss.getD k default) = false → false = B) (fun k hk g => by
    have hk' : k < ss.length := by omega
    rw [show ss.getD k default = ss[k] by simp [List.getD, hk']] at g
    rw [← hB, eq_comm, List.all_eq_false]
    exact ⟨_, List.getElem_mem hk', by rw [g]; simp⟩)
  have YES := Lib.hid (p := (∀ k, k < n → nameB (ss.getD k default) = true) → true = B) (fun g => by
    rw [← hB, eq_comm, List.all_eq_true]
    intro x hx
    obtain ⟨k, hk', rfl⟩ := List.getElem_of_mem hx
    have := g k (by omega)
    rwa [show ss.getD k default = ss[k] by simp [List.getD, hk']] at this)
  rw [hB]
  clear h3 hl hw hB
  go_enter Tryd.func20, Tryd.ntmps20
  go_wp2
  go_loop [7] (fun t => ∃ k : Nat, k ≤ n ∧ t = .int .i64 k ∧ RowKit.Hid (∀ j, j < k → nameB (ss.getD j default) = true)) (fun t => n - (intOf t).toNat)
  case atStart => exact ⟨0, by omega, rfl, fun j hj => absurd hj (by omega)⟩
  case round =>
    obtain ⟨k, hk, rfl, hN⟩ := hrel
    by_cases hlt : k < n
    · obtain ⟨x, o, rfl, hc⟩ := HA.out (by omega)
      have c0 := hc k hlt
      have kc : (k : Int) < (n : Int) := by omega
      have K := Lib.hid (isCapName_any (ss.getD k default) w (HW.out k hlt))
      have NK := Lib.hid (NO.out k hlt)
      have NX := Lib.hid (p := nameB (ss.getD k default) = true → ∀ j, j < k + 1 → nameB (ss.getD j default) = true) (fun g j hj => by
        rcases (show j < k ∨ j = k by omega) with q | q
        · exact hN.out j q
        · rw [q]; exact g)
      clear hc
      generalize ss.getD k default = f at *
      cases c : nameB f with
      | true =>
        have Y := Lib.hid (NX.out c)
        go_wp2_with (go_at_call 41; refine K.out.mono ?_; rintro e w' ⟨rfl, rfl⟩; rw [c])
        go_round
        case rel => exact ⟨k + 1, by omega, by go_num, Y.out⟩
        case measure => simp [intOf]; omega
      | false =>
        have Y := Lib.hid (NK.out c)
        go_wp2_with (go_at_call 41; refine K.out.mono ?_; rintro e w' ⟨rfl, rfl⟩; rw [c])
        go_ret
        exact ⟨retT_bool Y.out, rfl⟩
    · obtain rfl : k = n := by omega
      have Y := Lib.hid (YES.out hN.out)
      go_wp2
      go_ret
      exact ⟨retT_bool Y.out, rfl⟩
end Go.Proofs.YthkeoeobpdminaaDoor
