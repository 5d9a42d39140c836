/-
  WALKS: marks: note, slices.Contains of marks.
-/
import Derived.Test.YteedkcmjhdabeaaDoorWCan5
namespace Go.Proofs.YteedkcmjhdabeaaDoor
open Go.RowKit
set_option linter.unusedVariables false
set_option linter.unusedSimpArgs false
def bsV (bs : List Bool) : List Value := bs.map Value.bool
/-- A row of marks that fills its block. -/
def RBo (W : World) (B g : Nat) (bs : List Bool) : Prop := W.ownsRow B 4 1 (.slice (some ⟨g, 0, none⟩) bs.length bs.length) bs.length (bsV bs)
theorem RBo.at {W : World} {B g : Nat} {bs : List Bool} (h : RBo W B g bs) (i : Nat) (hi : i < bs.length) : W.cell? ⟨g, i, none⟩ = some (.bool (bs.getD i false)) ∧ W.frozen? ⟨g, i, none⟩ = false := by
  refine ⟨own_cellsP h i _ ?_, World.ownsRow.frozenAt h i⟩
  simp [bsV, List.getD, hi]
theorem RBo.set {W : World} {B g : Nat} {bs : List Bool} (h : RBo W B g bs) (i : Nat) : RBo (W.setCell ⟨g, i, none⟩ (.bool true)) B g (bs.set i true) := by
  have := (World.ownsRow.stored h i (.bool true)).1
  unfold RBo
  rw [List.length_set, show bsV (bs.set i true) = (bsV bs).set i (.bool true) by simp [bsV, List.map_set]]
  exact this
theorem RBo.far {W W' : World} {B g : Nat} {bs : List Bool} (h : RBo W B g bs) {x : Nat} (k : W.grownBy W' (some x)) (hx : x ≠ g) : RBo W' B g bs := row_farP h k (fun a q e e2 => by injection e with e; have e3 : g = q := Option.some.inj e2; omega)
theorem RBo.later {W W' : World} {B g : Nat} {bs : List Bool} (h : RBo W B g bs) (k : Below W.heap.size W W') : RBo W' B g bs := row_farP h (gr_below k none) (fun a q e => by cases e)
theorem note_any {w : World} {B g : Nat} {bs : List Bool} (x : Nat) (h : RBo w B g bs) (hx : x ≤ 9223372036854775807) :
    Calls Tryd.prog 57 #[.slice (some ⟨g, 0, none⟩) bs.length bs.length, .int .i64 (x : Int)] w fun e w' => (x < bs.length ∧ e = .returned (.bool true) ∧ w' = w.setCell ⟨g, x, none⟩ (.bool true)) ∨ (¬ x < bs.length ∧ e = .returned (.bool false) ∧ w' = w) := by
  by_cases hlt : x < bs.length
  · obtain ⟨c0, c1⟩ := h.at x hlt
    have kc : (x : Int) < (bs.length : Int) := by omega
    have k1 : ¬ (bs.length : Int) ≤ (x : Int) := by omega
    have k2 : decide ((bs.length : Int) ≤ (x : Int)) = false := decide_eq_false k1
    clear h
    generalize bs.length = n at *
    go_enter Tryd.func57, Tryd.ntmps57
    go_wp2
    go_ret
    first | exact .inl ⟨hlt, rfl, rfl⟩ | exact ⟨rfl, rfl⟩
  · have k1 : (bs.length : Int) ≤ (x : Int) := by omega
    have k2 : decide ((bs.length : Int) ≤ (x : Int)) = true := decide_eq_true k1
    clear h
    generalize bs.length = n at *
    go_enter Tryd.func57, Tryd.ntmps57
    go_wp2
    go_ret
    first | exact .inr ⟨hlt, rfl, rfl⟩ | exact ⟨rfl, rfl⟩
set_option maxRecDepth 100000 in
theorem indexB_any {w : World} {B g : Nat} {bs : List Bool} (h : RBo w B g bs) (hn : bs.length ≤ 17592186043904) :
    Calls Tryd.prog 58 #[.slice (some ⟨g, 0, none⟩) bs.length bs.length, .bool false] w fun e w' => (∃ i : Int, e = .returned (.int .i64 i) ∧ (bs.all id = true → i = -1) ∧ (bs.all id = false → 0 ≤ i)) ∧ w' = w := by
  have H := Lib.hid (fun i hi => (h.at i hi).1)
  obtain ⟨n, hn'⟩ : ∃ n, bs.length = n := ⟨_, rfl⟩
  have LN := Lib.hid hn'
  rw [hn'] at H hn ⊢
  clear h hn'
  go_enter Tryd.func58, Tryd.ntmps58
  go_wp2
  go_loopw [8] (fun t wr => ∃ k : Nat, k ≤ n ∧ t = .int .i64 (k : Int) ∧ RowKit.Hid (∀ i, i < k → bs.getD i false = true) ∧ w = wr) (fun t _ => n - (intOf t).toNat)
  case atStart => exact ⟨0, by omega, rfl, (fun i hi => absurd hi (by omega)), rfl⟩
  case round =>
    obtain ⟨k, hk, rfl, hE, rfl⟩ := hrel
    by_cases hlt : k < n
    · have c0 := H.out k hlt
      have kc : (k : Int) < (n : Int) := by omega
      cases hb : bs.getD k false with
      | true =>
        rw [hb] at c0
        have NX := Lib.hid (p := ∀ i, i < k + 1 → bs.getD i false = true) (fun i hi => by
          rcases (show i < k ∨ i = k by omega) with r | r
          · exact hE.out i r
          · rw [r]; exact hb)
        clear hE hb
        go_wp2
        go_roundw
        case rel => exact ⟨k + 1, by omega, by go_num, NX.out, by first | rfl | trivial⟩
        case measure => simp [intOf]; omega
      | false =>
        rw [hb] at c0
        have NA := Lib.hid (p := bs.all id = false) (by
          rw [List.all_eq_false]
          refine ⟨bs[k]'(by rw [LN.out]; exact hlt), List.getElem_mem _, ?_⟩
          have : bs.getD k false = bs[k]'(by rw [LN.out]; exact hlt) := by simp [List.getD, show k < bs.length by rw [LN.out]; exact hlt]
          rw [← this, hb]; simp)
        clear hE hb
        go_wp2
        go_ret
        exact ⟨⟨_, rfl, (fun e => by rw [NA.out] at e; cases e), (fun _ => by omega)⟩, rfl⟩
    · obtain rfl : k = n := by omega
      have AA := Lib.hid (p := bs.all id = true) (by
        rw [List.all_eq_true]
        intro b hb
        obtain ⟨i, hi, rfl⟩ := List.getElem_of_mem hb
        have := hE.out i (by rw [LN.out] at hi; exact hi)
        simpa [List.getD, hi] using this)
      clear hE
      go_wp2
      go_ret
      exact ⟨⟨_, rfl, (fun _ => rfl), (fun e => by rw [AA.out] at e; cases e)⟩, rfl⟩
theorem containsB_any {w : World} {B g : Nat} {bs : List Bool} (h : RBo w B g bs) (hn : bs.length ≤ 17592186043904) :
    Calls Tryd.prog 52 #[.slice (some ⟨g, 0, none⟩) bs.length bs.length, .bool false] w fun e w' => e = .returned (.bool (!(bs.all id))) ∧ w' = w := by
  have KI := Lib.hid (indexB_any h hn)
  clear h
  cases hb : bs.all id with
  | true =>
    rw [hb] at KI
    go_enter Tryd.func52, Tryd.ntmps52
    go_wp2_with (go_at_call 58; refine KI.out.mono ?_; rintro e w1 ⟨⟨i, rfl, h1, _⟩, h2⟩; subst h2; obtain rfl := h1 rfl)
    go_ret
    exact ⟨rfl, rfl⟩
  | false =>
    rw [hb] at KI
    go_enter Tryd.func52, Tryd.ntmps52
    go_wp2_with (go_at_call 58; refine KI.out.mono ?_; rintro e w1 ⟨⟨i, rfl, _, h1⟩, h2⟩; subst h2; have i0 := h1 rfl; have i1 : decide (0 ≤ i) = true := decide_eq_true i0; clear h1)
    go_ret
    exact ⟨by first | rfl | simp [i1], rfl⟩
end Go.Proofs.YteedkcmjhdabeaaDoor
