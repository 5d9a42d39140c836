/-
  WALKS: sameMonth.
-/
import Derived.Test.YtpeglcnenagkbaaDoorWRefAdj2
namespace Go.Proofs.YtpeglcnenagkbaaDoor
open Go.RowKit
open Cal
set_option linter.unusedVariables false
set_option linter.unusedSimpArgs false

def SameE (a b : Int) (e : Ending) : Prop := (e = .returned (.bool true) ∧ SameMon a b) ∨ (e = .returned (.bool false) ∧ ¬ SameMon a b)
theorem same_ends {a b y m d y' m' d' : Int} (a0 : 0 ≤ a) (x : exB y m d = true) (n : num y m d = a) (x' : exB y' m' d' = true) (n' : num y' m' d' = b) (t : Bool) (h : t = decide (y = y' ∧ m = m')) :
    SameE a b (.returned (.bool t)) := by
  obtain ⟨p1, p2, p3, p4, p5, p6⟩ := ex_out x
  obtain ⟨q1, q2, q3, q4, q5, q6⟩ := ex_out x'
  by_cases e : y = y' ∧ m = m'
  · rw [decide_eq_true e] at h; subst h
    exact .inl ⟨rfl, a0, fun r s hr hs => by
      rw [mon_one hr ⟨y, m, d, x, n, rfl⟩, mon_one hs ⟨y', m', d', x', n', rfl⟩]; omega⟩
  · rw [decide_eq_false e] at h; subst h
    refine .inr ⟨rfl, fun ⟨_, hh⟩ => e ?_⟩
    have := hh _ _ ⟨y, m, d, x, n, rfl⟩ ⟨y', m', d', x', n', rfl⟩
    omega

set_option maxHeartbeats 1000000 in
theorem same_any (a b : Int) (w : World) (hM : Mon w) (a0 : 0 ≤ a) (a1 : a < 109573) (b0 : 0 ≤ b) (b1 : b < 109573) :
    Calls Tryd.prog 54 #[.int .i64 a, .int .i64 b] w fun e w' => SameE a b e ∧ Below w.heap.size w w' := by
  go_enter Tryd.func54, Tryd.ntmps54
  go_wp2_with (first
    | (go_at_call 39; have qq := h1; refine (date_yes _ _ (mon_alloc m1) b0 b1).mono ?_; rintro e w2 ⟨y2, mo2, d2, rfl, hx2, hn2, h2⟩; have X2 := Lib.hid hx2; have N2 := Lib.hid hn2; clear hx2 hn2; have hz : w1.heap.size < w2.heap.size := (by have := h2.size; simp at this; omega); obtain ⟨k0, k1, k2⟩ := boxOne h2; have kf : w2.frozen? ⟨w1.heap.size, 2, none⟩ = false := (by rw [(bcell h2).2 _ _ (by simp)]; go_simp); have ne1 : ¬ w1.heap.size = w2.heap.size := (by omega); have ne2 : ¬ w2.heap.size = w1.heap.size := (by omega))
    | (go_at_call 39; refine (date_yes _ _ hM a0 a1).mono ?_; rintro e w1 ⟨y1, mo1, d1, rfl, hx1, hn1, h1⟩; have X1 := Lib.hid hx1; have N1 := Lib.hid hn1; clear hx1 hn1; have m1 := mon_below (Nat.le_refl _) h1 hM))
  all_goals go_ret
  all_goals refine ⟨same_ends a0 X1.out N1.out X2.out N2.out _ ?_, ?_⟩
  all_goals first
    | (simp only [*, and_self, and_false, false_and, decide_true, decide_false])
    | (have s1 := h1.size
       exact (((h1.alloc s1 _).trans (h2.mono (by simp; omega))).setCell s1 _).alloc (by simp; omega) _)
end Go.Proofs.YtpeglcnenagkbaaDoor
