/-
  OCTETREADS.
-/
import Derived.Test.YtnoimmjijkgjaaaWRead2
namespace Go.Proofs.Ytnoimmjijkgjaaa
open Go.RowKit
set_option linter.unusedVariables false
set_option linter.unusedSimpArgs false

theorem OL.later {w w' : World} {a : Option Addr} {n : Nat} {fs : List Op3} (h : OL w a n fs) (b : Below w.heap.size w w') : OL w' a n fs := by
  obtain ⟨f1, f2, f3, f4⟩ := h
  refine ⟨f1, f2, f3, ?_⟩
  rcases f4 with f4 | ⟨x, o, e, hx, hc⟩
  · exact .inl f4
  · refine .inr ⟨x, o, e, Nat.lt_of_lt_of_le hx b.size, fun i hi => ?_⟩
    obtain ⟨c0, c1, c2⟩ := hc i hi
    exact ⟨(b.cell (p := ⟨x, o + i * 3, none⟩) hx).trans c0, (b.cell (p := ⟨x, o + i * 3 + 1, none⟩) hx).trans c1, (b.cell (p := ⟨x, o + i * 3 + 2, none⟩) hx).trans c2⟩
set_option maxRecDepth 100000 in
set_option maxHeartbeats 400000 in
theorem octetReads_any (a0 : Option Addr) (n cap0 : Nat) (xs : List Int) (a2 : Option Addr) (n2 cap2 : Nat) (fs : List Op3) (w : World) (h0 : Sl w a0 n cap0 xs) (hf : OL w a2 n2 fs) (hn : n ≤ 1048576) (hn2 : n2 ≤ 1048576) :
    Calls Try.prog 3 #[.slice a0 n cap0, .slice a2 n2 cap2] w fun e w' => e = .returned (.bool true) ∧ Below w.heap.size w w' := by
  have H0 := Lib.hid h0
  have HF := Lib.hid hf
  have K := Lib.hid (fun lt W (b : Below w.heap.size w W) => read_any lt a0 n cap0 xs a2 n2 cap2 fs W (H0.out.later b) (HF.out.later b) hn hn2)
  clear h0 hf
  go_enter Try.func3, Try.ntmps3
  have C := Lib.hid (Below.refl w.heap.size w)
  go_wp2_with (go_at_call 4; refine (K.out _ _ C.out).mono ?_; rintro e w1 ⟨rfl, h1⟩; replace C := Lib.hid (C.out.trans (h1.mono C.out.size)); clear h1)
  go_ret
  exact ⟨rfl, C.out⟩
theorem octetReads_walk (a0 : Option Addr) (n0 cap0 : Nat) (xs : List Int) (a2 : Option Addr) (n2 cap2 : Nat) (fs : List Op3) (w : World)
    (h0 : BL w a0 n0 xs ∧ (a0 = none → n0 = 0) ∧ n0 ≤ cap0) (z0 : a0 = none → n0 = 0 ∧ cap0 = 0) (hf : OL w a2 n2 fs) (hn0 : n0 ≤ 1048576) (hn2 : n2 ≤ 1048576) :
    Calls Try.prog 3 #[.slice a0 n0 cap0, .slice a2 n2 cap2] w fun e w' => e = .returned (.bool true) ∧ Below w.heap.size w w' :=
  octetReads_any a0 n0 cap0 xs a2 n2 cap2 fs w ⟨h0.1, z0, h0.2.2⟩ hf hn0 hn2
end Go.Proofs.Ytnoimmjijkgjaaa
