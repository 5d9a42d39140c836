/-
  WALK: heads.
-/
import Derived.Test.YtmdgfcldohmjdaaDoorPlainFlowBack
import Derived.Test.YtmdgfcldohmjdaaDoorWFNet
import Derived.Test.YtmdgfcldohmjdaaDoorWUntil
namespace Go.Proofs.YtmdgfcldohmjdaaDoor
open Go.RowKit
set_option linter.unusedVariables false
set_option linter.unusedSimpArgs false

def bEUR : ByteArray := ⟨#[69, 85, 82]⟩
def bUSD : ByteArray := ⟨#[85, 83, 68]⟩
theorem eur_usd : bEUR ≠ bUSD := by
  intro h
  have : bEUR.data.toList = bUSD.data.toList := by rw [h]
  exact absurd this (by decide)
def hf1 : Fl := ⟨1, bUSD, 2⟩
def hf2 : Fl := ⟨3, bEUR, 0⟩
def hl3 : List Fl := [⟨3, bEUR, 5⟩, ⟨1, bUSD, 2⟩, ⟨3, bEUR, -5⟩]
theorem nets_hl : nets hl3 = some [((3, bEUR), 0), ((1, bUSD), 2)] := by
  have n1 : ¬ ((3 : Int), bEUR) = (1, bUSD) := by intro h; injection h with h _; cases h
  simp [nets, hl3, tally, sumAt, setAt, fitB, n1]
theorem heads_net {ts : List Fl} (hp : ts.Perm ([((3, bEUR), (0 : Int)), ((1, bUSD), 2)].map fzN)) (hs : ts.Pairwise (fun x y => fLt y x = false)) : ts = [hf1, hf2] := by
  have e1 := exsort_only fLt (fun a b c h1 h2 => fLt_ntrans h2 h1) (fun a b h => fLt_asymm h) hp hs (fun a b _ _ h1 h2 => fLt_anti h1 h2)
  have e2 : [hf1, hf2] = exsort fLt ([((3, bEUR), (0 : Int)), ((1, bUSD), 2)].map fzN) := exsort_only fLt (fun a b c h1 h2 => fLt_ntrans h2 h1) (fun a b h => fLt_asymm h) (List.Perm.swap _ _ _) (by
    refine List.Pairwise.cons (fun y hy => ?_) (List.Pairwise.cons (fun y hy => by cases hy) List.Pairwise.nil)
    simp at hy; subst hy
    refine decide_eq_false ?_
    rw [cmpF_lt]
    simp [hf1, hf2]) (fun a b _ _ h1 h2 => fLt_anti h1 h2)
  rw [e1, e2]
def hTxt : ByteArray := ⟨#[49, 32, 85, 83, 68, 32, 50, 10, 51, 32, 69, 85, 82, 32, 48, 10]⟩
theorem wf_bd {f : Fl} (h : f.wf) : -9223372036854775808 ≤ f.a ∧ f.a ≤ 9223372036854775807 := by have := wf_inR h.2.2; unfold inR at this; omega
theorem itoa_one {k : Nat} (h : k < 10) : Lib.itoa (k : Int) = [UInt8.ofNat (48 + k)] := by rw [Lib.itoa_nonneg, Lib.decDigits_one h]
theorem text_hl : textL [hf1, hf2] = hTxt.data.toList := by
  have a1 : Lib.itoa 1 = [49] := itoa_one (k := 1) (by omega)
  have a2 : Lib.itoa 2 = [50] := itoa_one (k := 2) (by omega)
  have a3 : Lib.itoa 3 = [51] := itoa_one (k := 3) (by omega)
  have a0 : Lib.itoa 0 = [48] := itoa_one (k := 0) (by omega)
  simp [textL, lineL, hf1, hf2, a0, a1, a2, a3, bUSD, bEUR, hTxt]
theorem val_h1 : valI hf1 = 0 := by decide
theorem val_h2 : valI hf2 = 0 := by decide
theorem run_hl : Run hTxt 0 [] [hf1, hf2] 0 0 := by
  have := run_back (s := hTxt) [hf1, hf2] [] [] (fun f hf => by
    simp at hf
    rcases hf with rfl | rfl
    · exact ⟨val_h1, by decide⟩
    · exact ⟨val_h2, by decide⟩) (by rw [text_hl]; rfl)
  exact this
theorem inR_small {x : Int} (h : -100 ≤ x ∧ x ≤ 100) : inR x := by unfold inR; omega
theorem net_hl (hsort : SortsN) (a : Option Addr) (cap : Nat) (w : World) (h : FL w a 3 hl3) :
    Calls Tryd.prog 15 #[.slice a 3 cap] w fun e w' => ∃ x c, e = .returned (.tuple #[.slice x 2 c, .int .i64 0]) ∧ Below w.heap.size w w' ∧ FL w' x 2 [hf1, hf2] := by
  refine (net_any a 3 cap hl3 w h (fun i hi => ?_) hsort).mono ?_
  · rcases (show i = 0 ∨ i = 1 ∨ i = 2 by omega) with rfl | rfl | rfl
    · exact ⟨inR_small (by decide), by decide, inR_small (by decide)⟩
    · exact ⟨inR_small (by decide), by decide, inR_small (by decide)⟩
    · exact ⟨inR_small (by decide), by decide, inR_small (by decide)⟩
  · rintro e w' ⟨v, q, rfl, h1, h2⟩
    rcases h2 with ⟨h3, _⟩ | ⟨A, ts, h3, rfl, hp, hs, ho⟩
    · rw [nets_hl] at h3; cases h3
    · rw [nets_hl] at h3
      injection h3 with h3
      subst h3
      obtain rfl := heads_net hp hs
      obtain ⟨x, c, rfl, hf⟩ := fl_of_own ho (by decide)
      exact ⟨x, c, rfl, h1, hf⟩
theorem print_hl (a : Option Addr) (cap : Nat) (w : World) (h : FL w a 2 [hf1, hf2]) (hP : Pw w.heap.size w) :
    Calls Tryd.prog 10 #[.slice a 2 cap] w fun e w' => e = .returned (.tuple #[.string hTxt, .int .i64 0]) ∧ Below w.heap.size w w' := by
  refine (print_any a 2 cap [hf1, hf2] w h (fun f hf => ?_) hP).mono ?_
  · simp at hf
    rcases hf with rfl | rfl
    · exact ⟨by decide, by decide, by decide⟩
    · exact ⟨by decide, by decide, by decide⟩
  · rintro e w' ⟨⟨t, er, rfl, hS⟩, hb⟩
    refine ⟨?_, hb⟩
    have b0 : badI [hf1, hf2] = 0 := by
      refine bad_none _ (fun i hi => ?_)
      rcases (show i = 0 ∨ i = 1 by simp at hi; omega) with rfl | rfl
      · exact val_h1
      · exact val_h2
    rcases hS with ⟨h1, _⟩ | ⟨_, h1, _⟩ | ⟨_, _, rfl, rfl⟩
    · exact absurd b0 h1
    · rw [text_hl] at h1; exact absurd h1 (by decide)
    · rw [text_hl]
theorem parse_hl (w : World) :
    Calls Tryd.prog 9 #[.string hTxt] w fun e w' => ∃ x c, e = .returned (.tuple #[.slice x 2 c, .int .i64 0, .int .i64 0]) ∧ Below w.heap.size w w' ∧ FL w' x 2 [hf1, hf2] := by
  refine (parse_any hTxt w (by decide)).mono ?_
  rintro e w' ⟨⟨v, gs, p, er, rfl, hl, ho, hR⟩, hb⟩
  rcases hR with ⟨h1, _⟩ | ⟨_, hR⟩
  · exact absurd h1 (by decide)
  · obtain ⟨rfl, rfl, rfl⟩ := run_one hR run_hl
    obtain ⟨x, c, rfl, hf⟩ := fl_of_own ho (by decide)
    exact ⟨x, c, rfl, hb, hf⟩
end Go.Proofs.YtmdgfcldohmjdaaDoor
