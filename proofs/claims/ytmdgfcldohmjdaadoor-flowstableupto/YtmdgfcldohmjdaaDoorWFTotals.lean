/-
  WALK: Totals, the program's.
-/
import Derived.Test.YtmdgfcldohmjdaaDoorWAddUpT3
namespace Go.Proofs.YtmdgfcldohmjdaaDoor
open Go.RowKit Go.Maps
set_option linter.unusedVariables false
set_option linter.unusedSimpArgs false

/-- What Totals answers: the sums, ordered, or that one does not fit. -/
def TotA (fs : List Fl) (B : Nat) (v : Value) (q : Int) (w : World) : Prop :=
  (tots fs = none ∧ v = .slice none 0 0 ∧ q = 1) ∨ ∃ A ts, tots fs = some A ∧ q = 0 ∧ ts.Perm A ∧ ts.Pairwise (fun x y => sLt y.1 x.1 = false) ∧ w.ownsRow B 67 2 v ts.length (tcs ts)

theorem addUpT_any (a : Option Addr) (n cap : Nat) (fs : List Fl) (w : World) (h : FL w a n fs) (hw : ∀ i, i < n → inR (fs.getD i default).a ∧ (fs.getD i default).c.size ≤ maxLen) (hsort : SortsT) :
    Calls Tryd.prog 33 #[.slice a n cap, .func (.func 31) #[] #[], .func (.func 32) #[] #[], .func (.func 34) #[] #[]] w fun e w' => ∃ v q, e = .returned (.tuple #[v, .int .i64 q]) ∧ Below w.heap.size w w' ∧ TotA fs w.heap.size v q w' := by
  obtain ⟨h1, h2, h3⟩ := h
  rcases h3 with h3 | ⟨b, o, rfl, hb, hc⟩
  · subst h3
    have hz : fs = [] := List.length_eq_zero_iff.1 h1
    subst hz
    refine (addUpT_none a cap w hsort).mono ?_
    rintro e w' ⟨v, ts, rfl, hB, hp, hs, ho⟩
    exact ⟨v, 0, rfl, hB, .inr ⟨[], ts, rfl, rfl, hp, hs, ho⟩⟩
  · cases ht : tots fs with
    | none =>
      refine (addUpT_out b o n cap fs w h1 h2 hb hc hw ht).mono ?_
      rintro e w' ⟨rfl, hB⟩
      exact ⟨_, 1, rfl, hB, .inl ⟨ht, rfl, rfl⟩⟩
    | some A =>
      refine (addUpT_fits b o n cap fs w h1 h2 hb hc hw A ht hsort).mono ?_
      rintro e w' ⟨v, ts, rfl, hB, hp, hs, ho⟩
      exact ⟨v, 0, rfl, hB, .inr ⟨A, ts, ht, rfl, hp, hs, ho⟩⟩

theorem totals_any (a : Option Addr) (n cap : Nat) (fs : List Fl) (w : World) (h : FL w a n fs) (hw : ∀ i, i < n → inR (fs.getD i default).a ∧ (fs.getD i default).c.size ≤ maxLen) (hsort : SortsT) :
    Calls Tryd.prog 17 #[.slice a n cap] w fun e w' => ∃ v q, e = .returned (.tuple #[v, .int .i64 q]) ∧ Below w.heap.size w w' ∧ TotA fs w.heap.size v q w' := by
  have K := addUpT_any a n cap fs w h hw hsort
  clear h hw
  go_enter Tryd.func17, Tryd.ntmps17
  go_wp2_with (go_at_call 33; refine K.mono ?_; rintro e w' ⟨v, q, rfl, hB, hT⟩)
  go_ret2
  exact ⟨_, _, rfl, hB, hT⟩
end Go.Proofs.YtmdgfcldohmjdaaDoor
