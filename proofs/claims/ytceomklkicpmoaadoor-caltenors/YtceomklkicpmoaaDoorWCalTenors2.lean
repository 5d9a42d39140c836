/-
  THE LAW CalTenors, out of its cases.
-/
import Derived.Test.YtceomklkicpmoaaDoorWCalTenors
namespace Go.Proofs.YtceomklkicpmoaaDoor
open Go.RowKit
open Cal
set_option linter.unusedVariables false

theorem calTenors_walk (y m d N u n : Int) (w : World) (hM : Mon w) : tenCall y m d N u n w := by
  cases h : exB y m d with
  | false => exact ten_0 _ _ _ _ _ _ w hM h
  | true =>
    have h' : ¬ exB y m d = false := by rw [h]; simp
    cases t : tenB N u with
    | false => exact ten_err _ _ _ _ _ _ 1 w hM h (by omega) (Lib.hid fun Y M D E i => by unfold AddIs at i; rw [if_pos t] at i; exact i)
    | true =>
      have t' : ¬ tenB N u = false := by rw [t]; simp
      by_cases f : 109573 < n ∨ n < -109573
      · exact ten_err _ _ _ _ _ _ 2 w hM h (by omega) (Lib.hid fun Y M D E i => by unfold AddIs at i; rw [if_neg t', if_neg h', if_pos f] at i; exact i)
      · have f1 : n ≤ 109573 := by omega
        have f2 : -109573 ≤ n := by omega
        obtain ⟨t1, t2, t3, t4⟩ := ten_out t
        have hu : u = 1 ∨ u = 2 ∨ u = 3 ∨ u = 4 := by omega
        clear t1 t2 t3 t4
        rcases hu with rfl | rfl | rfl | rfl
        · rcases in_or (num y m d + N * n) 0 109573 with k | k
          · exact ten_u1 _ _ _ _ _ w hM t h f1 f2 (Lib.hid fun Y M D E i => by unfold AddIs dayOr at i; rw [if_neg t', if_neg h', if_neg f, if_pos rfl, if_pos k] at i; exact i)
          · exact ten_err _ _ _ _ _ _ 2 w hM h (by omega) (Lib.hid fun Y M D E i => by unfold AddIs dayOr at i; rw [if_neg t', if_neg h', if_neg f, if_pos rfl, if_neg (by omega)] at i; exact i)
        · rcases in_or (num y m d + 7 * N * n) 0 109573 with k | k
          · exact ten_u2 _ _ _ _ _ w hM t h f1 f2 (Lib.hid fun Y M D E i => by unfold AddIs dayOr at i; rw [if_neg t', if_neg h', if_neg f, if_neg (by omega), if_pos rfl, if_pos k] at i; exact i)
          · exact ten_err _ _ _ _ _ _ 2 w hM h (by omega) (Lib.hid fun Y M D E i => by unfold AddIs dayOr at i; rw [if_neg t', if_neg h', if_neg f, if_neg (by omega), if_pos rfl, if_neg (by omega)] at i; exact i)
        · rcases in_or (12 * (y - 1900) + m - 1 + N * n) 0 3600 with k | k
          · have F : ∀ Y M D E, AddIs y m d N 3 n Y M D E → Y = 1900 + (12 * (y - 1900) + m - 1 + N * n) / 12 ∧ M = (12 * (y - 1900) + m - 1 + N * n) % 12 + 1 ∧ D = cutD (1900 + (12 * (y - 1900) + m - 1 + N * n) / 12) ((12 * (y - 1900) + m - 1 + N * n) % 12 + 1) d ∧ E = 0 := fun Y M D E i => by
              unfold AddIs monOr at i; rw [if_neg t', if_neg h', if_neg f, if_neg (by omega), if_neg (by omega), if_pos rfl, if_pos k] at i; exact i
            by_cases c : d ≤ len (1900 + (12 * (y - 1900) + m - 1 + N * n) / 12) ((12 * (y - 1900) + m - 1 + N * n) % 12 + 1)
            · exact ten_u3_same _ _ _ _ _ _ w hM t h f1 f2 rfl k.1 k.2 (Lib.hid F) c
            · exact ten_u3_cut _ _ _ _ _ _ w hM t h f1 f2 rfl k.1 k.2 (Lib.hid F) c
          · exact ten_err _ _ _ _ _ _ 2 w hM h (by omega) (Lib.hid fun Y M D E i => by unfold AddIs monOr at i; rw [if_neg t', if_neg h', if_neg f, if_neg (by omega), if_neg (by omega), if_pos rfl, if_neg (by omega)] at i; exact i)
        · have pk : 12 * N * n = 12 * (N * n) := prod_k 12
          rcases in_or (12 * (y - 1900) + m - 1 + 12 * (N * n)) 0 3600 with k | k
          · have F : ∀ Y M D E, AddIs y m d N 4 n Y M D E → Y = 1900 + (12 * (y - 1900) + m - 1 + 12 * (N * n)) / 12 ∧ M = (12 * (y - 1900) + m - 1 + 12 * (N * n)) % 12 + 1 ∧ D = cutD (1900 + (12 * (y - 1900) + m - 1 + 12 * (N * n)) / 12) ((12 * (y - 1900) + m - 1 + 12 * (N * n)) % 12 + 1) d ∧ E = 0 := fun Y M D E i => by
              unfold AddIs monOr at i; rw [pk, if_neg t', if_neg h', if_neg f, if_neg (by omega), if_neg (by omega), if_neg (by omega), if_pos k] at i; exact i
            by_cases c : d ≤ len (1900 + (12 * (y - 1900) + m - 1 + 12 * (N * n)) / 12) ((12 * (y - 1900) + m - 1 + 12 * (N * n)) % 12 + 1)
            · exact ten_u4_same _ _ _ _ _ _ w hM t h f1 f2 rfl k.1 k.2 (Lib.hid F) c
            · exact ten_u4_cut _ _ _ _ _ _ w hM t h f1 f2 rfl k.1 k.2 (Lib.hid F) c
          · exact ten_err _ _ _ _ _ _ 2 w hM h (by omega) (Lib.hid fun Y M D E i => by unfold AddIs monOr at i; rw [pk, if_neg t', if_neg h', if_neg f, if_neg (by omega), if_neg (by omega), if_neg (by omega), if_neg (by omega)] at i; exact i)
end Go.Proofs.YtceomklkicpmoaaDoor
