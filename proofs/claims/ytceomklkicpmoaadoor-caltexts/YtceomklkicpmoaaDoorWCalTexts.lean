/-
  WALK: the law CalTexts.
-/
import Derived.Test.YtceomklkicpmoaaDoorWText2
import Derived.Test.YtceomklkicpmoaaDoorWParse4
namespace Go.Proofs.YtceomklkicpmoaaDoor
open Go.RowKit
open Cal
set_option linter.unusedVariables false
set_option linter.unusedSimpArgs false

abbrev txEnd (y m d : Int) : Ending := .returned (.tuple #[.string ⟨(txtV y m d).toArray⟩, .int .i64 (dayE y m d)])
theorem text_any (y m d : Int) (w : World) (hM : Mon w) (hp : Pw w) :
    Calls Tryd.prog 17 #[.agg #[.int .i64 y, .int .i64 m, .int .i64 d]] w fun e w' => e = txEnd y m d ∧ Below w.heap.size w w' := by
  cases h : exB y m d with
  | false => unfold txEnd txtV; rw [(day_f h).2, h]; exact text_no y m d w hM h
  | true => unfold txEnd txtV; rw [(day_t h).2, if_pos h]; exact text_yes y m d w hM hp h
theorem rtext_any (y m d : Int) (w : World) :
    Calls Tryd.prog 19 #[.agg #[.int .i64 y, .int .i64 m, .int .i64 d]] w fun e w' => e = txEnd y m d ∧ Below w.heap.size w w' := by
  cases h : exB y m d with
  | false => unfold txEnd txtV; rw [(day_f h).2, h]; exact rtext_no y m d w h
  | true => unfold txEnd txtV; rw [(day_t h).2, if_pos h]; exact rtext_yes y m d w h

set_option maxHeartbeats 2000000 in
theorem calTexts_walk (y m d : Int) (s : ByteArray) (w : World) (hM : Mon w) (hp : Pw w) (hs : s.size ≤ 9223372036854775807) :
    Calls Tryd.prog 8 #[.agg #[.int .i64 y, .int .i64 m, .int .i64 d], .string s] w fun e w' => e = .returned (.bool true) ∧ Below w.heap.size w w' := by
  have T1 := Lib.hid (fun w hM hp => text_any y m d w hM hp)
  have T2 := Lib.hid (fun w => rtext_any y m d w)
  have Q1 := Lib.hid (fun w hM => parse_any s w hM hs)
  have Q2 := Lib.hid (fun w => rparse_any s w hs)
  unfold txEnd at T1 T2
  unfold prEnd at Q1 Q2
  generalize (⟨(txtV y m d).toArray⟩ : ByteArray) = T at *
  generalize dayE y m d = E at *
  generalize prV s (dv (fA s)) = a at *
  generalize prV s (dv (fB s)) = b at *
  generalize prV s (dv (fC s)) = c at *
  generalize (if prB s = true then (0 : Int) else 21) = F at *
  have PH := Lib.hid (pw_below hp ((Below.refl _ _).alloc (Nat.le_refl _) (.cells #[.int .i64 y, .int .i64 m, .int .i64 d] 23)))
  go_enter Tryd.func8, Tryd.ntmps8
  go_wp2_with (first
    | (go_at_call 17; refine (T1.out _ (mon_alloc hM) PH.out).mono ?_; rintro e w1 ⟨rfl, b1⟩; have m1 := mon_below (Nat.le_refl _) b1 (mon_alloc hM); obtain ⟨k0, k1, k2⟩ := boxOne b1)
    | (go_at_call 19; refine (T2.out _).mono ?_; rintro e w2 ⟨rfl, h2⟩; have b2 := b1.trans (h2.mono b1.size); have m2 := mon_below (Nat.le_refl _) h2 m1)
    | (go_at_call 18; refine (Q1.out _ m2).mono ?_; rintro e w3 ⟨rfl, h3⟩; have b3 := b2.trans (h3.mono b2.size))
    | (go_at_call 20; refine (Q2.out _).mono ?_; rintro e w4 ⟨rfl, h4⟩; obtain ⟨j0, j1, j2⟩ := boxOne h4; have hz : w3.heap.size < w4.heap.size := (by have := h4.size; simp at this; omega)))
  go_ret
  refine ⟨rfl, ?_⟩
  have s1 := b3.size
  simp at s1
  exact ((((Below.refl _ _).alloc (Nat.le_refl _) _).trans (b3.mono (by simp))).alloc (by omega) _ |>.trans (h4.mono (by simp; omega))).alloc (by omega) _
end Go.Proofs.YtceomklkicpmoaaDoor
