/-
  WALK: FlowParses.
-/
import Derived.Test.YtmbnbediedpgmaaWRParse
import Derived.Test.YtmbnbediedpgmaaWUntil
namespace Go.Proofs.Ytmbnbediedpgmaa
open Go.RowKit
set_option linter.unusedVariables false
set_option linter.unusedSimpArgs false

/-- What Parse answers, apart. -/
def ParS (s : ByteArray) (gs : List Fl) (p : Nat) (er : Int) : Prop := (1048576 < s.size ∧ gs = [] ∧ p = 0 ∧ er = 6) ∨ (s.size ≤ 1048576 ∧ Run s 0 [] gs p er)
theorem par_one {s : ByteArray} {gs gs' : List Fl} {p p' : Nat} {er er' : Int} (h : ParS s gs p er) (h' : ParS s gs' p' er') : gs = gs' ∧ p = p' ∧ er = er' := by
  rcases h with ⟨a, b, c, d⟩ | ⟨a, b⟩ <;> rcases h' with ⟨a', b', c', d'⟩ | ⟨a', b'⟩
  · exact ⟨by rw [b, b'], by omega, by omega⟩
  · omega
  · omega
  · exact run_one b b'
theorem par_out {s : ByteArray} {B : Nat} {w : World} {e : Ending} (h : ParE s B w e) : ∃ (a : Option Addr) (cap : Nat) (gs : List Fl) (p : Nat) (er : Int), e = .returned (.tuple #[.slice a gs.length cap, .int .i64 (p : Int), .int .i64 er]) ∧ RowKit.Hid (FL w a gs.length gs ∧ ParS s gs p er) := by
  obtain ⟨v, gs, p, er, rfl, h1, h2, h3⟩ := h
  obtain ⟨a, cap, rfl, hf⟩ := fl_of_own h2 (by omega)
  exact ⟨a, cap, gs, p, er, rfl, hf, h3⟩

set_option maxHeartbeats 2000000 in
theorem flowParses_walk (s : ByteArray) (w : World) (hs : s.size ≤ maxLen) :
    Calls Try.prog 5 #[.string s] w fun e w' => e = .returned (.bool true) ∧ Below w.heap.size w w' := by
  have K1 := Lib.hid (parse_any s w hs)
  have K2 := Lib.hid (fun W => rParse_any s W hs)
  have KS := Lib.hid (fun A B n C D fs W (h : FL W A n fs) (h' : FL W B n fs) => same_fl A B n C D fs W h h')
  go_enter Try.func5, Try.ntmps5
  go_wp2_with (first
    | (go_at_call 16; refine K1.out.mono ?_; rintro e w1 ⟨h1, h2⟩; obtain ⟨A, C, gs, p, er, rfl, HF⟩ := par_out h1; have B1 := Lib.hid h2; clear h1 h2)
    | (go_at_call 17; refine (K2.out _).mono ?_; rintro e w2 ⟨h1, h2⟩; obtain ⟨A', C', gs', p', er', rfl, HF'⟩ := par_out h1; have B2 := Lib.hid h2; clear h1 h2; obtain ⟨rfl, rfl, rfl⟩ := par_one HF.out.2 HF'.out.2)
    | (go_at_call 8; refine (KS.out _ _ _ _ _ gs _ (HF.out.1.later B2.out) HF'.out.1).mono ?_; rintro e w3 ⟨rfl, h1⟩; have B3 := Lib.hid h1; clear h1))
  all_goals go_ret
  all_goals exact ⟨by first | rfl | simp, (B1.out.trans (B2.out.mono B1.out.size)).trans (B3.out.mono (Nat.le_trans B1.out.size B2.out.size))⟩
end Go.Proofs.Ytmbnbediedpgmaa
