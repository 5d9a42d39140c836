/-
  WALKS: the document's Text, Take (made by wip/gen/gen_refrd2.py).
-/
import Derived.Test.YtdbjdieegocdfaaDoorWRefRd
namespace Go.Proofs.YtdbjdieegocdfaaDoor
open Go.RowKit
set_option linter.unusedVariables false
set_option linter.unusedSimpArgs false

/-- A store into a block ahead of a row leaves the row. -/
theorem own_far {w : World} {B p : Nat} {v : Value} {n : Nat} {xs : List Int} (h : Own w B v n xs) (hp : p < B) (o : Nat) (u : Value) : Own (w.setCell ⟨p, o, none⟩ u) B v n xs :=
  h.kept (gr_set (gr_refl (some p) w) o u) (by
    rcases hv : v.ownBlock with _ | g
    · exact .inl rfl
    · right
      intro e
      injection e with e
      have := (h.lt g hv).1
      omega)
set_option maxRecDepth 100000 in
theorem takeR_neg (p : Nat) (m : Int) (w : World) (hm : m < 0) :
    Calls Tryd.prog 20 #[.pointer (some ⟨p, 0, none⟩), .int .i64 m] w fun e w' => e = .returned (.tuple #[.slice none 0 0, .int .i64 1]) ∧ w' = w := by
  go_enter Tryd.func20, Tryd.ntmps20
  go_wp2
  go_ret2
  exact ⟨rfl, rfl⟩
set_option maxRecDepth 100000 in
theorem takeR_short (B p : Nat) (a : Option Addr) (n cap : Nat) (xs : List Int) (k : Nat) (m : Int) (w : World) (h : RE w B p a n cap xs k) (hm : ((n - k : Nat) : Int) < m) :
    Calls Tryd.prog 20 #[.pointer (some ⟨p, 0, none⟩), .int .i64 m] w fun e w' => e = .returned (.tuple #[.slice none 0 0, .int .i64 41]) ∧ ∃ q, w' = w.drewN q := by
  have K := Lib.hid (leftR_q B p a n cap xs k w h)
  have m0 : ¬ m < 0 := by omega
  clear h
  generalize ((n - k : Nat) : Int) = r at *
  go_enter Tryd.func20, Tryd.ntmps20
  go_wp2_with (go_at_call 18; refine K.out.mono ?_; rintro e w1 ⟨rfl, q1, rfl⟩)
  go_ret2
  exact ⟨rfl, _, rfl⟩

end Go.Proofs.YtdbjdieegocdfaaDoor
