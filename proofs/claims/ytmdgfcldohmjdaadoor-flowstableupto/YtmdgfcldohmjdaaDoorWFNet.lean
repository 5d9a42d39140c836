/-
  WALK: Net, the program's.
-/
import Derived.Test.YtmdgfcldohmjdaaDoorWAddUpN3
namespace Go.Proofs.YtmdgfcldohmjdaaDoor
open Go.RowKit Go.Maps
set_option linter.unusedVariables false
set_option linter.unusedSimpArgs false

/-- What Net answers: the sums, ordered, or that one does not fit. -/
def NetA (fs : List Fl) (B : Nat) (v : Value) (q : Int) (w : World) : Prop :=
  (nets fs = none ∧ v = .slice none 0 0 ∧ q = 1) ∨ ∃ A ts, nets fs = some A ∧ q = 0 ∧ ts.Perm (A.map fzN) ∧ ts.Pairwise (fun x y => fLt y x = false) ∧ w.ownsRow B 32 3 v ts.length (fcs ts)
theorem addUpN_any (a : Option Addr) (n cap : Nat) (fs : List Fl) (w : World) (h : FL w a n fs) (hw : ∀ i, i < n → inR (fs.getD i default).a ∧ (fs.getD i default).c.size ≤ maxLen ∧ inR (fs.getD i default).d) (hsort : SortsN) :
    Calls Tryd.prog 26 #[.slice a n cap, .func (.func 24) #[] #[], .func (.func 25) #[] #[], .func (.func 16) #[] #[]] w fun e w' => ∃ v q, e = .returned (.tuple #[v, .int .i64 q]) ∧ Below w.heap.size w w' ∧ NetA fs w.heap.size v q w' := by
  obtain ⟨h1, h2, h3⟩ := h
  rcases h3 with h3 | ⟨b, o, rfl, hb, hc⟩
  · subst h3
    have hz : fs = [] := List.length_eq_zero_iff.1 h1
    subst hz
    refine (addUpN_none a cap w hsort).mono ?_
    rintro e w' ⟨v, ts, rfl, hB, hp, hs, ho⟩
    exact ⟨v, 0, rfl, hB, .inr ⟨[], ts, rfl, rfl, hp, hs, ho⟩⟩
  · cases ht : nets fs with
    | none =>
      refine (addUpN_out b o n cap fs w h1 h2 hb hc hw ht).mono ?_
      rintro e w' ⟨rfl, hB⟩
      exact ⟨_, 1, rfl, hB, .inl ⟨ht, rfl, rfl⟩⟩
    | some A =>
      refine (addUpN_fits b o n cap fs w h1 h2 hb hc hw A ht hsort).mono ?_
      rintro e w' ⟨v, ts, rfl, hB, hp, hs, ho⟩
      exact ⟨v, 0, rfl, hB, .inr ⟨A, ts, ht, rfl, hp, hs, ho⟩⟩
theorem net_any (a : Option Addr) (n cap : Nat) (fs : List Fl) (w : World) (h : FL w a n fs) (hw : ∀ i, i < n → inR (fs.getD i default).a ∧ (fs.getD i default).c.size ≤ maxLen ∧ inR (fs.getD i default).d) (hsort : SortsN) :
    Calls Tryd.prog 15 #[.slice a n cap] w fun e w' => ∃ v q, e = .returned (.tuple #[v, .int .i64 q]) ∧ Below w.heap.size w w' ∧ NetA fs w.heap.size v q w' := by
  have K := addUpN_any a n cap fs w h hw hsort
  clear h hw
  go_enter Tryd.func15, Tryd.ntmps15
  go_wp2_with (go_at_call 26; refine K.mono ?_; rintro e w' ⟨v, q, rfl, hB, hT⟩)
  go_ret2
  exact ⟨_, _, rfl, hB, hT⟩
end Go.Proofs.YtmdgfcldohmjdaaDoor
