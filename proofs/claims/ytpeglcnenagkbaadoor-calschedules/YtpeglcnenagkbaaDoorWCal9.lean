/-
  ADD, AS ONE RELATION; THE LAW CalAdds.
-/
import Derived.Test.YtpeglcnenagkbaaDoorWCal7d
import Derived.Test.YtpeglcnenagkbaaDoorWCal7e
import Derived.Test.YtpeglcnenagkbaaDoorWCal7m
import Derived.Test.YtpeglcnenagkbaaDoorWCal8m
namespace Go.Proofs.YtpeglcnenagkbaaDoor
open Go.RowKit
open Cal
set_option linter.unusedVariables false
set_option linter.unusedSimpArgs false

def dayOr (k Y M D E : Int) : Prop := if 0 ≤ k ∧ k < 109573 then exB Y M D = true ∧ num Y M D = k ∧ E = 0 else Y = 0 ∧ M = 0 ∧ D = 0 ∧ E = 2
def monOr (q d Y M D E : Int) : Prop := if 0 ≤ q ∧ q < 3600 then Y = 1900 + q / 12 ∧ M = q % 12 + 1 ∧ D = cutD (1900 + q / 12) (q % 12 + 1) d ∧ E = 0 else Y = 0 ∧ M = 0 ∧ D = 0 ∧ E = 2
/-- What Add answers. -/
def AddIs (y m d N u n Y M D E : Int) : Prop :=
  if tenB N u = false then Y = 0 ∧ M = 0 ∧ D = 0 ∧ E = 1
  else if exB y m d = false then Y = 0 ∧ M = 0 ∧ D = 0 ∧ E = 21
  else if 109573 < n ∨ n < -109573 then Y = 0 ∧ M = 0 ∧ D = 0 ∧ E = 2
  else if u = 1 then dayOr (num y m d + N * n) Y M D E
  else if u = 2 then dayOr (num y m d + 7 * N * n) Y M D E
  else if u = 3 then monOr (12 * (y - 1900) + m - 1 + N * n) d Y M D E
  else monOr (12 * (y - 1900) + m - 1 + 12 * N * n) d Y M D E

theorem dayOr_fun {k Y M D E Y' M' D' E' : Int} (h : dayOr k Y M D E) (h' : dayOr k Y' M' D' E') : Y = Y' ∧ M = M' ∧ D = D' ∧ E = E' := by
  unfold dayOr at h h'
  by_cases a : 0 ≤ k ∧ k < 109573
  · rw [if_pos a] at h h'
    obtain ⟨h1, h2, h3⟩ := h
    obtain ⟨g1, g2, g3⟩ := h'
    obtain ⟨a, b, c⟩ := num_inj h1 g1 (h2.trans g2.symm)
    exact ⟨a, b, c, h3.trans g3.symm⟩
  · rw [if_neg a] at h h'; omega
theorem monOr_fun {q d Y M D E Y' M' D' E' : Int} (h : monOr q d Y M D E) (h' : monOr q d Y' M' D' E') : Y = Y' ∧ M = M' ∧ D = D' ∧ E = E' := by
  unfold monOr at h h'
  by_cases a : 0 ≤ q ∧ q < 3600
  · rw [if_pos a] at h h'; omega
  · rw [if_neg a] at h h'; omega
theorem add_fun {y m d N u n Y M D E Y' M' D' E' : Int} (h : AddIs y m d N u n Y M D E) (h' : AddIs y m d N u n Y' M' D' E') : Y = Y' ∧ M = M' ∧ D = D' ∧ E = E' := by
  unfold AddIs at h h'
  by_cases a1 : tenB N u = false
  · rw [if_pos a1] at h h'; omega
  rw [if_neg a1] at h h'
  by_cases a2 : exB y m d = false
  · rw [if_pos a2] at h h'; omega
  rw [if_neg a2] at h h'
  by_cases a3 : 109573 < n ∨ n < -109573
  · rw [if_pos a3] at h h'; omega
  rw [if_neg a3] at h h'
  by_cases a4 : u = 1
  · rw [if_pos a4] at h h'; exact dayOr_fun h h'
  rw [if_neg a4] at h h'
  by_cases a5 : u = 2
  · rw [if_pos a5] at h h'; exact dayOr_fun h h'
  rw [if_neg a5] at h h'
  by_cases a6 : u = 3
  · rw [if_pos a6] at h h'; exact monOr_fun h h'
  rw [if_neg a6] at h h'; exact monOr_fun h h'

theorem in_or (k a b : Int) : (a ≤ k ∧ k < b) ∨ (k < a ∨ b ≤ k) := by omega

theorem add_any (y m d N u n : Int) (w : World) (hM : Mon w) :
    addCall y m d N u n w fun e w' => ∃ Y M D E : Int, e = .returned (.tuple #[.agg #[.int .i64 Y, .int .i64 M, .int .i64 D], .int .i64 E]) ∧ AddIs y m d N u n Y M D E ∧ Below w.heap.size w w' := by
  cases t : tenB N u with
  | false => exact (add_arg _ _ _ _ _ n w hM t).mono fun e w' ⟨he, hb⟩ => ⟨_, _, _, _, he, by unfold AddIs; rw [if_pos t]; exact ⟨rfl, rfl, rfl, rfl⟩, hb⟩
  | true =>
    have t' : ¬ tenB N u = false := by rw [t]; simp
    cases h : exB y m d with
    | false => exact (add_date _ _ _ _ _ n w hM t h).mono fun e w' ⟨he, hb⟩ => ⟨_, _, _, _, he, by unfold AddIs; rw [if_neg t', if_pos h]; exact ⟨rfl, rfl, rfl, rfl⟩, hb⟩
    | true =>
      have h' : ¬ exB y m d = false := by rw [h]; simp
      by_cases f : 109573 < n ∨ n < -109573
      · exact (add_far _ _ _ _ _ n w hM t h f).mono fun e w' ⟨he, hb⟩ => ⟨_, _, _, _, he, by unfold AddIs; rw [if_neg t', if_neg h', if_pos f]; exact ⟨rfl, rfl, rfl, rfl⟩, hb⟩
      · have f1 : n ≤ 109573 := by omega
        have f2 : -109573 ≤ n := by omega
        obtain ⟨t1, t2, t3, t4⟩ := ten_out t
        have hu : u = 1 ∨ u = 2 ∨ u = 3 ∨ u = 4 := by omega
        clear t1 t2 t3 t4
        rcases hu with rfl | rfl | rfl | rfl
        · rcases in_or (num y m d + N * n) 0 109573 with ⟨k1, k2⟩ | k
          · exact (add_u1_yes _ _ _ _ n w hM t h f1 f2 k1 k2).mono fun e w' ⟨Y, M, D, he, hx, hn, hb⟩ => ⟨Y, M, D, 0, he, by unfold AddIs dayOr; rw [if_neg t', if_neg h', if_neg f, if_pos rfl, if_pos ⟨k1, k2⟩]; exact ⟨hx, hn, rfl⟩, hb⟩
          · exact (add_u1_no _ _ _ _ n w hM t h f1 f2 k).mono fun e w' ⟨he, hb⟩ => ⟨_, _, _, _, he, by unfold AddIs dayOr; rw [if_neg t', if_neg h', if_neg f, if_pos rfl, if_neg (by omega)]; exact ⟨rfl, rfl, rfl, rfl⟩, hb⟩
        · rcases in_or (num y m d + 7 * N * n) 0 109573 with ⟨k1, k2⟩ | k
          · exact (add_u2_yes _ _ _ _ n w hM t h f1 f2 k1 k2).mono fun e w' ⟨Y, M, D, he, hx, hn, hb⟩ => ⟨Y, M, D, 0, he, by unfold AddIs dayOr; rw [if_neg t', if_neg h', if_neg f, if_neg (by omega), if_pos rfl, if_pos ⟨k1, k2⟩]; exact ⟨hx, hn, rfl⟩, hb⟩
          · exact (add_u2_no _ _ _ _ n w hM t h f1 f2 k).mono fun e w' ⟨he, hb⟩ => ⟨_, _, _, _, he, by unfold AddIs dayOr; rw [if_neg t', if_neg h', if_neg f, if_neg (by omega), if_pos rfl, if_neg (by omega)]; exact ⟨rfl, rfl, rfl, rfl⟩, hb⟩
        · rcases in_or (12 * (y - 1900) + m - 1 + N * n) 0 3600 with ⟨k1, k2⟩ | k
          · exact (add_u3_yes _ _ _ _ n w hM t h f1 f2 _ rfl k1 k2).mono fun e w' ⟨he, hb⟩ => ⟨_, _, _, _, he, by unfold AddIs monOr; rw [if_neg t', if_neg h', if_neg f, if_neg (by omega), if_neg (by omega), if_pos rfl, if_pos ⟨k1, k2⟩]; exact ⟨rfl, rfl, rfl, rfl⟩, hb⟩
          · exact (add_u3_no _ _ _ _ n w hM t h f1 f2 k).mono fun e w' ⟨he, hb⟩ => ⟨_, _, _, _, he, by unfold AddIs monOr; rw [if_neg t', if_neg h', if_neg f, if_neg (by omega), if_neg (by omega), if_pos rfl, if_neg (by omega)]; exact ⟨rfl, rfl, rfl, rfl⟩, hb⟩
        · rcases in_or (12 * (y - 1900) + m - 1 + 12 * N * n) 0 3600 with ⟨k1, k2⟩ | k
          · exact (add_u4_yes _ _ _ _ n w hM t h f1 f2 _ rfl k1 k2).mono fun e w' ⟨he, hb⟩ => ⟨_, _, _, _, he, by unfold AddIs monOr; rw [if_neg t', if_neg h', if_neg f, if_neg (by omega), if_neg (by omega), if_neg (by omega), if_pos ⟨k1, k2⟩]; exact ⟨rfl, rfl, rfl, rfl⟩, hb⟩
          · exact (add_u4_no _ _ _ _ n w hM t h f1 f2 k).mono fun e w' ⟨he, hb⟩ => ⟨_, _, _, _, he, by unfold AddIs monOr; rw [if_neg t', if_neg h', if_neg f, if_neg (by omega), if_neg (by omega), if_neg (by omega), if_neg (by omega)]; exact ⟨rfl, rfl, rfl, rfl⟩, hb⟩

theorem rAdd_any (y m d N u n : Int) (w : World) :
    rAddCall y m d N u n w fun e w' => ∃ Y M D E : Int, e = .returned (.tuple #[.agg #[.int .i64 Y, .int .i64 M, .int .i64 D], .int .i64 E]) ∧ AddIs y m d N u n Y M D E ∧ Below w.heap.size w w' := by
  cases t : tenB N u with
  | false => exact (rAdd_arg _ _ _ _ _ n w t).mono fun e w' ⟨he, hb⟩ => ⟨_, _, _, _, he, by unfold AddIs; rw [if_pos t]; exact ⟨rfl, rfl, rfl, rfl⟩, hb⟩
  | true =>
    have t' : ¬ tenB N u = false := by rw [t]; simp
    cases h : exB y m d with
    | false => exact (rAdd_date _ _ _ _ _ n w t h).mono fun e w' ⟨he, hb⟩ => ⟨_, _, _, _, he, by unfold AddIs; rw [if_neg t', if_pos h]; exact ⟨rfl, rfl, rfl, rfl⟩, hb⟩
    | true =>
      have h' : ¬ exB y m d = false := by rw [h]; simp
      by_cases f : 109573 < n ∨ n < -109573
      · exact (rAdd_far _ _ _ _ _ n w t h f).mono fun e w' ⟨he, hb⟩ => ⟨_, _, _, _, he, by unfold AddIs; rw [if_neg t', if_neg h', if_pos f]; exact ⟨rfl, rfl, rfl, rfl⟩, hb⟩
      · have f1 : n ≤ 109573 := by omega
        have f2 : -109573 ≤ n := by omega
        obtain ⟨t1, t2, t3, t4⟩ := ten_out t
        have hu : u = 1 ∨ u = 2 ∨ u = 3 ∨ u = 4 := by omega
        clear t1 t2 t3 t4
        rcases hu with rfl | rfl | rfl | rfl
        · rcases in_or (num y m d + N * n) 0 109573 with ⟨k1, k2⟩ | k
          · exact (rAdd_u1_yes _ _ _ _ n w t h f1 f2 k1 k2).mono fun e w' ⟨Y, M, D, he, hx, hn, hb⟩ => ⟨Y, M, D, 0, he, by unfold AddIs dayOr; rw [if_neg t', if_neg h', if_neg f, if_pos rfl, if_pos ⟨k1, k2⟩]; exact ⟨hx, hn, rfl⟩, hb⟩
          · exact (rAdd_u1_no _ _ _ _ n w t h f1 f2 k).mono fun e w' ⟨he, hb⟩ => ⟨_, _, _, _, he, by unfold AddIs dayOr; rw [if_neg t', if_neg h', if_neg f, if_pos rfl, if_neg (by omega)]; exact ⟨rfl, rfl, rfl, rfl⟩, hb⟩
        · rcases in_or (num y m d + 7 * N * n) 0 109573 with ⟨k1, k2⟩ | k
          · exact (rAdd_u2_yes _ _ _ _ n w t h f1 f2 k1 k2).mono fun e w' ⟨Y, M, D, he, hx, hn, hb⟩ => ⟨Y, M, D, 0, he, by unfold AddIs dayOr; rw [if_neg t', if_neg h', if_neg f, if_neg (by omega), if_pos rfl, if_pos ⟨k1, k2⟩]; exact ⟨hx, hn, rfl⟩, hb⟩
          · exact (rAdd_u2_no _ _ _ _ n w t h f1 f2 k).mono fun e w' ⟨he, hb⟩ => ⟨_, _, _, _, he, by unfold AddIs dayOr; rw [if_neg t', if_neg h', if_neg f, if_neg (by omega), if_pos rfl, if_neg (by omega)]; exact ⟨rfl, rfl, rfl, rfl⟩, hb⟩
        · rcases in_or (12 * (y - 1900) + m - 1 + N * n) 0 3600 with ⟨k1, k2⟩ | k
          · exact (rAdd_u3_yes _ _ _ _ n w t h f1 f2 _ rfl k1 k2).mono fun e w' ⟨he, hb⟩ => ⟨_, _, _, _, he, by unfold AddIs monOr; rw [if_neg t', if_neg h', if_neg f, if_neg (by omega), if_neg (by omega), if_pos rfl, if_pos ⟨k1, k2⟩]; exact ⟨rfl, rfl, rfl, rfl⟩, hb⟩
          · exact (rAdd_u3_no _ _ _ _ n w t h f1 f2 k).mono fun e w' ⟨he, hb⟩ => ⟨_, _, _, _, he, by unfold AddIs monOr; rw [if_neg t', if_neg h', if_neg f, if_neg (by omega), if_neg (by omega), if_pos rfl, if_neg (by omega)]; exact ⟨rfl, rfl, rfl, rfl⟩, hb⟩
        · rcases in_or (12 * (y - 1900) + m - 1 + 12 * N * n) 0 3600 with ⟨k1, k2⟩ | k
          · exact (rAdd_u4_yes _ _ _ _ n w t h f1 f2 _ rfl k1 k2).mono fun e w' ⟨he, hb⟩ => ⟨_, _, _, _, he, by unfold AddIs monOr; rw [if_neg t', if_neg h', if_neg f, if_neg (by omega), if_neg (by omega), if_neg (by omega), if_pos ⟨k1, k2⟩]; exact ⟨rfl, rfl, rfl, rfl⟩, hb⟩
          · exact (rAdd_u4_no _ _ _ _ n w t h f1 f2 k).mono fun e w' ⟨he, hb⟩ => ⟨_, _, _, _, he, by unfold AddIs monOr; rw [if_neg t', if_neg h', if_neg f, if_neg (by omega), if_neg (by omega), if_neg (by omega), if_neg (by omega)]; exact ⟨rfl, rfl, rfl, rfl⟩, hb⟩

theorem boxesB {w w2 : World} {t t' : TypeId} {y m d N u : Int}
    (hb : Below ((w.alloc (.cells #[.int .i64 y, .int .i64 m, .int .i64 d] t)).alloc (.cells #[.int .i64 N, .int .i64 u] t')).heap.size ((w.alloc (.cells #[.int .i64 y, .int .i64 m, .int .i64 d] t)).alloc (.cells #[.int .i64 N, .int .i64 u] t')) w2) :
    w2.cell? ⟨w.heap.size, 0, none⟩ = some (.int .i64 y) ∧ w2.cell? ⟨w.heap.size, 1, none⟩ = some (.int .i64 m) ∧ w2.cell? ⟨w.heap.size, 2, none⟩ = some (.int .i64 d) ∧
    w2.cell? ⟨w.heap.size + 1, 0, none⟩ = some (.int .i64 N) ∧ w2.cell? ⟨w.heap.size + 1, 1, none⟩ = some (.int .i64 u) ∧ w.heap.size + 1 < w2.heap.size := by
  obtain ⟨hc, _⟩ := bcell hb
  refine ⟨?_, ?_, ?_, ?_, ?_, ?_⟩
  all_goals first
    | (rw [hc _ _ (by simp <;> omega)]; go_simp; done)
    | (have := hb.size; simp at this; omega)

end Go.Proofs.YtpeglcnenagkbaaDoor
