/-
  WALKS: each: a test of all texts of a list, by a function that is handed in (made by gen_wcan1.py).
-/
import Derived.Test.YteedkcmjhdabeaaDoorWImg8
import Derived.Test.YteedkcmjhdabeaaDoorWRefWords
namespace Go.Proofs.YteedkcmjhdabeaaDoor
open Go.RowKit
set_option linter.unusedVariables false
set_option linter.unusedSimpArgs false
theorem Row.oneP {w : World} {a : Option Addr} {n k : Nat} {V : Nat → List Value} (h : Row w a n k V) : 0 < n → ∃ x o, a = some ⟨x, o, none⟩ ∧ x < w.heap.size ∧ ∀ i, i < n → ∀ j, j < k → w.cell? ⟨x, o + i * k + j, none⟩ = some ((V i).getD j default) := by
  intro h0
  rcases h with h | h
  · omega
  · exact h
def capP (s : ByteArray) : Bool := Lx.nameB Lx.cpN (lst s)
def curP (s : ByteArray) : Bool := Lx.curB (lst s)
theorem all_of {α : Type} [Inhabited α] {P : α → Bool} {l : List α} (h : ∀ i, i < l.length → P (l.getD i default) = true) : l.all P = true := by
  rw [List.all_eq_true]
  intro x hx
  obtain ⟨i, hi, rfl⟩ := List.getElem_of_mem hx
  have := h i hi
  simpa [List.getD, hi] using this
theorem not_all {α : Type} [Inhabited α] {P : α → Bool} {l : List α} {i : Nat} (hi : i < l.length) (h : P (l.getD i default) = false) : l.all P = false := by
  rw [List.all_eq_false]
  refine ⟨l[i], List.getElem_mem hi, ?_⟩
  have e : l.getD i default = l[i] := by simp [List.getD, hi]
  rw [e] at h
  simp [h]
theorem tx_mem {l : List ByteArray} {i : Nat} (h : i < l.length) : l.getD i default ∈ l := by
  rw [List.getD_eq_getElem?_getD, List.getElem?_eq_getElem h, Option.getD_some]; exact List.getElem_mem h
theorem cap_c (s : ByteArray) (h : s.size ≤ 140737488351232) (W : World) : Calls Tryd.prog 37 #[.string s] W fun e w' => e = .returned (.bool (capP s)) ∧ w' = W := capital_any s W (by omega)
theorem cur_c (s : ByteArray) (h : s.size ≤ 140737488351232) (W : World) : Calls Tryd.prog 39 #[.string s] W fun e w' => e = .returned (.bool (curP s)) ∧ w' = W := currency_any s W
theorem litC_any (s : ByteArray) (hs : s.size ≤ 140737488351232) (pb : Nat) (w : World) (hp : w.cell? ⟨pb, 0, none⟩ = some (.func (.func 37) #[] #[])) :
    Calls Tryd.prog 47 #[.string s, .pointer (some ⟨pb, 0, none⟩)] w fun e w' => e = .returned (.bool (!(capP s))) ∧ w' = w := by
  have KC := Lib.hid (cap_c s hs w)
  go_enter Tryd.func47, Tryd.ntmps47
  go_wp2_with (go_at_call 37; refine KC.out.mono ?_; rintro e w1 ⟨rfl, h2⟩; subst h2)
  go_ret
  exact ⟨rfl, rfl⟩
set_option maxRecDepth 100000 in
set_option maxHeartbeats 1000000 in
theorem indexC_any {w : World} {a : Option Addr} {n c : Nat} {ss : List ByteArray} (pb : Nat) (h : SR w a n c ss) (hp : w.cell? ⟨pb, 0, none⟩ = some (.func (.func 37) #[] #[])) :
    Calls Tryd.prog 54 #[.slice a n c, .func (.func 47) #[] #[.pointer (some ⟨pb, 0, none⟩)]] w fun e w' => (∃ i : Int, e = .returned (.int .i64 i) ∧ (ss.all capP = true → i = -1) ∧ (ss.all capP = false → 0 ≤ i)) ∧ w' = w := by
  obtain ⟨_, l1, b1, s1, r1⟩ := h
  have R1 := Lib.hid r1
  have L1 := Lib.hid l1
  have S1 := Lib.hid s1
  clear l1 r1 s1
  go_enter Tryd.func54, Tryd.ntmps54
  go_wp2
  go_loopw [8] (fun t wr => ∃ k : Nat, k ≤ n ∧ t = .int .i64 k ∧ RowKit.Hid (∀ i, i < k → capP (ss.getD i default) = true) ∧ w = wr) (fun t _ => n - (intOf t).toNat)
  case atStart => exact ⟨0, by omega, rfl, fun i hi => absurd hi (by omega), rfl⟩
  case round =>
    obtain ⟨k, hk, rfl, hE, rfl⟩ := hrel
    by_cases hlt : k < n
    · obtain ⟨x, o, rfl, _, hc⟩ := R1.out.oneP (by omega)
      have c0 := hc k hlt 0 (by omega)
      simp only [Nat.mul_one, Nat.add_zero, List.getD_cons_zero] at c0
      have kc : (k : Int) < (n : Int) := by omega
      have KC := Lib.hid (litC_any (ss.getD k default) (S1.out _ (tx_mem (by rw [L1.out]; exact hlt))) pb w hp)
      have NX := Lib.hid (p := capP (ss.getD k default) = true → ∀ i, i < k + 1 → capP (ss.getD i default) = true) (fun e i hi => by
        rcases (show i < k ∨ i = k by omega) with r | r
        · exact hE.out i r
        · rw [r]; exact e)
      have NA := Lib.hid (p := capP (ss.getD k default) = false → ss.all capP = false) (fun e => not_all (by rw [L1.out]; exact hlt) e)
      clear hc hE
      generalize ss.getD k default = z at *
      cases hb : capP z with
      | true =>
        rw [hb] at KC NX
        go_wp2_with (go_at_call 47; refine KC.out.mono ?_; rintro e w1 ⟨rfl, h2⟩; subst h2)
        go_roundw
        case rel => exact ⟨k + 1, by omega, by go_num, NX.out (by first | rfl | trivial), by first | rfl | trivial⟩
        case measure => simp [intOf]; omega
      | false =>
        rw [hb] at KC NA
        go_wp2_with (go_at_call 47; refine KC.out.mono ?_; rintro e w1 ⟨rfl, h2⟩; subst h2)
        go_ret
        exact ⟨⟨_, rfl, (fun e => by rw [NA.out (by first | rfl | trivial)] at e; cases e), (fun _ => by omega)⟩, rfl⟩
    · obtain rfl : k = n := by omega
      have AA := Lib.hid (p := ss.all capP = true) (all_of (fun i hi => hE.out i (by rw [L1.out] at hi; exact hi)))
      clear hE
      go_wp2
      go_ret
      exact ⟨⟨_, rfl, (fun _ => rfl), (fun e => by rw [AA.out] at e; cases e)⟩, rfl⟩
set_option maxRecDepth 100000 in
theorem containsC_any {w : World} {a : Option Addr} {n c : Nat} {ss : List ByteArray} (pb : Nat) (h : SR w a n c ss) (hp : w.cell? ⟨pb, 0, none⟩ = some (.func (.func 37) #[] #[])) :
    Calls Tryd.prog 46 #[.slice a n c, .func (.func 47) #[] #[.pointer (some ⟨pb, 0, none⟩)]] w fun e w' => e = .returned (.bool (!(ss.all capP))) ∧ w' = w := by
  have KI := Lib.hid (indexC_any pb h hp)
  clear h hp
  cases hb : ss.all capP with
  | true =>
    rw [hb] at KI
    go_enter Tryd.func46, Tryd.ntmps46
    go_wp2_with (go_at_call 54; refine KI.out.mono ?_; rintro e w1 ⟨⟨i, rfl, h1, _⟩, h2⟩; subst h2; obtain rfl := h1 rfl)
    go_ret
    exact ⟨rfl, rfl⟩
  | false =>
    rw [hb] at KI
    go_enter Tryd.func46, Tryd.ntmps46
    go_wp2_with (go_at_call 54; refine KI.out.mono ?_; rintro e w1 ⟨⟨i, rfl, _, h1⟩, h2⟩; subst h2; have i0 := h1 rfl; have i1 : decide (0 ≤ i) = true := decide_eq_true i0; clear h1)
    go_ret
    exact ⟨by first | rfl | simp [i1], rfl⟩
set_option maxRecDepth 100000 in
theorem eachC_any {w : World} {a : Option Addr} {n c : Nat} {ss : List ByteArray} (h : SR w a n c ss) :
    Calls Tryd.prog 36 #[.slice a n c, .func (.func 37) #[] #[]] w fun e w' => e = .returned (.bool (ss.all capP)) ∧ Below w.heap.size w w' := by
  have KC := Lib.hid (containsC_any w.heap.size (h.later (allocBP w (.cells #[.func (.func 37) #[] #[]] 97))) (by simp))
  clear h
  go_enter Tryd.func36, Tryd.ntmps36
  go_wp2_with (go_at_call 46; refine KC.out.mono ?_; rintro e w1 ⟨rfl, h2⟩; subst h2)
  go_ret
  exact ⟨by simp, allocBP w _⟩
theorem litU_any (s : ByteArray) (hs : s.size ≤ 140737488351232) (pb : Nat) (w : World) (hp : w.cell? ⟨pb, 0, none⟩ = some (.func (.func 39) #[] #[])) :
    Calls Tryd.prog 47 #[.string s, .pointer (some ⟨pb, 0, none⟩)] w fun e w' => e = .returned (.bool (!(curP s))) ∧ w' = w := by
  have KC := Lib.hid (cur_c s hs w)
  go_enter Tryd.func47, Tryd.ntmps47
  go_wp2_with (go_at_call 39; refine KC.out.mono ?_; rintro e w1 ⟨rfl, h2⟩; subst h2)
  go_ret
  exact ⟨rfl, rfl⟩
set_option maxRecDepth 100000 in
set_option maxHeartbeats 1000000 in
theorem indexU_any {w : World} {a : Option Addr} {n c : Nat} {ss : List ByteArray} (pb : Nat) (h : SR w a n c ss) (hp : w.cell? ⟨pb, 0, none⟩ = some (.func (.func 39) #[] #[])) :
    Calls Tryd.prog 54 #[.slice a n c, .func (.func 47) #[] #[.pointer (some ⟨pb, 0, none⟩)]] w fun e w' => (∃ i : Int, e = .returned (.int .i64 i) ∧ (ss.all curP = true → i = -1) ∧ (ss.all curP = false → 0 ≤ i)) ∧ w' = w := by
  obtain ⟨_, l1, b1, s1, r1⟩ := h
  have R1 := Lib.hid r1
  have L1 := Lib.hid l1
  have S1 := Lib.hid s1
  clear l1 r1 s1
  go_enter Tryd.func54, Tryd.ntmps54
  go_wp2
  go_loopw [8] (fun t wr => ∃ k : Nat, k ≤ n ∧ t = .int .i64 k ∧ RowKit.Hid (∀ i, i < k → curP (ss.getD i default) = true) ∧ w = wr) (fun t _ => n - (intOf t).toNat)
  case atStart => exact ⟨0, by omega, rfl, fun i hi => absurd hi (by omega), rfl⟩
  case round =>
    obtain ⟨k, hk, rfl, hE, rfl⟩ := hrel
    by_cases hlt : k < n
    · obtain ⟨x, o, rfl, _, hc⟩ := R1.out.oneP (by omega)
      have c0 := hc k hlt 0 (by omega)
      simp only [Nat.mul_one, Nat.add_zero, List.getD_cons_zero] at c0
      have kc : (k : Int) < (n : Int) := by omega
      have KC := Lib.hid (litU_any (ss.getD k default) (S1.out _ (tx_mem (by rw [L1.out]; exact hlt))) pb w hp)
      have NX := Lib.hid (p := curP (ss.getD k default) = true → ∀ i, i < k + 1 → curP (ss.getD i default) = true) (fun e i hi => by
        rcases (show i < k ∨ i = k by omega) with r | r
        · exact hE.out i r
        · rw [r]; exact e)
      have NA := Lib.hid (p := curP (ss.getD k default) = false → ss.all curP = false) (fun e => not_all (by rw [L1.out]; exact hlt) e)
      clear hc hE
      generalize ss.getD k default = z at *
      cases hb : curP z with
      | true =>
        rw [hb] at KC NX
        go_wp2_with (go_at_call 47; refine KC.out.mono ?_; rintro e w1 ⟨rfl, h2⟩; subst h2)
        go_roundw
        case rel => exact ⟨k + 1, by omega, by go_num, NX.out (by first | rfl | trivial), by first | rfl | trivial⟩
        case measure => simp [intOf]; omega
      | false =>
        rw [hb] at KC NA
        go_wp2_with (go_at_call 47; refine KC.out.mono ?_; rintro e w1 ⟨rfl, h2⟩; subst h2)
        go_ret
        exact ⟨⟨_, rfl, (fun e => by rw [NA.out (by first | rfl | trivial)] at e; cases e), (fun _ => by omega)⟩, rfl⟩
    · obtain rfl : k = n := by omega
      have AA := Lib.hid (p := ss.all curP = true) (all_of (fun i hi => hE.out i (by rw [L1.out] at hi; exact hi)))
      clear hE
      go_wp2
      go_ret
      exact ⟨⟨_, rfl, (fun _ => rfl), (fun e => by rw [AA.out] at e; cases e)⟩, rfl⟩
set_option maxRecDepth 100000 in
theorem containsU_any {w : World} {a : Option Addr} {n c : Nat} {ss : List ByteArray} (pb : Nat) (h : SR w a n c ss) (hp : w.cell? ⟨pb, 0, none⟩ = some (.func (.func 39) #[] #[])) :
    Calls Tryd.prog 46 #[.slice a n c, .func (.func 47) #[] #[.pointer (some ⟨pb, 0, none⟩)]] w fun e w' => e = .returned (.bool (!(ss.all curP))) ∧ w' = w := by
  have KI := Lib.hid (indexU_any pb h hp)
  clear h hp
  cases hb : ss.all curP with
  | true =>
    rw [hb] at KI
    go_enter Tryd.func46, Tryd.ntmps46
    go_wp2_with (go_at_call 54; refine KI.out.mono ?_; rintro e w1 ⟨⟨i, rfl, h1, _⟩, h2⟩; subst h2; obtain rfl := h1 rfl)
    go_ret
    exact ⟨rfl, rfl⟩
  | false =>
    rw [hb] at KI
    go_enter Tryd.func46, Tryd.ntmps46
    go_wp2_with (go_at_call 54; refine KI.out.mono ?_; rintro e w1 ⟨⟨i, rfl, _, h1⟩, h2⟩; subst h2; have i0 := h1 rfl; have i1 : decide (0 ≤ i) = true := decide_eq_true i0; clear h1)
    go_ret
    exact ⟨by first | rfl | simp [i1], rfl⟩
set_option maxRecDepth 100000 in
theorem eachU_any {w : World} {a : Option Addr} {n c : Nat} {ss : List ByteArray} (h : SR w a n c ss) :
    Calls Tryd.prog 36 #[.slice a n c, .func (.func 39) #[] #[]] w fun e w' => e = .returned (.bool (ss.all curP)) ∧ Below w.heap.size w w' := by
  have KC := Lib.hid (containsU_any w.heap.size (h.later (allocBP w (.cells #[.func (.func 39) #[] #[]] 97))) (by simp))
  clear h
  go_enter Tryd.func36, Tryd.ntmps36
  go_wp2_with (go_at_call 46; refine KC.out.mono ?_; rintro e w1 ⟨rfl, h2⟩; subst h2)
  go_ret
  exact ⟨by simp, allocBP w _⟩
end Go.Proofs.YteedkcmjhdabeaaDoor
