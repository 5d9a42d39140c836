/-
  WHAT A SCHEDULE IS, AS ONE RELATION WITH ONE ANSWER.
-/
import Derived.Test.YtpeglcnenagkbaaDoorWSch4
namespace Go.Proofs.YtpeglcnenagkbaaDoor
open Go.RowKit
open Cal
set_option linter.unusedVariables false
set_option linter.unusedSimpArgs false

theorem Reg.one {y m d N u last : Int} {L M : List Int} (h : Reg y m d N u last L) (k : Reg y m d N u last M) : L = M := by
  have ge : ∀ {L M : List Int}, Reg y m d N u last L → Reg y m d N u last M → L.length ≤ M.length := fun {L M} h k => by
    by_cases q : M.length < L.length
    · exfalso
      obtain ⟨Y, M', D, a, b, c⟩ := h.1 M.length q
      obtain ⟨_, Y2, M2, D2, E2, a2, b2⟩ := k
      obtain ⟨rfl, rfl, rfl, rfl⟩ := add_fun a a2
      rcases b2 with b2 | b2
      · exact b2 rfl
      · omega
    · omega
  have hl : L.length = M.length := Nat.le_antisymm (ge h k) (ge k h)
  apply List.ext_getElem hl
  intro i h1 h2
  obtain ⟨Y, M', D, a, b, _⟩ := h.1 i h1
  obtain ⟨Y2, M2, D2, a2, b2, _⟩ := k.1 i h2
  obtain ⟨rfl, rfl, rfl, _⟩ := add_fun a a2
  simp only [List.getD, List.getElem?_eq_getElem h1, List.getElem?_eq_getElem h2, Option.getD_some] at b b2
  rw [← b, ← b2]
theorem AdjL.one {conv : Int} {zs L rs ss : List Int} (h : AdjL conv zs L rs) (k : AdjL conv zs L ss) : rs = ss := by
  apply List.ext_getElem (h.1.trans k.1.symm)
  intro i h1 h2
  have l := h.1
  have e := (adj_one (h.2 i (by omega)) (k.2 i (by omega))).1
  simpa only [List.getD, List.getElem?_eq_getElem h1, List.getElem?_eq_getElem h2, Option.getD_some] using e
/-- A day that can't be adjusted. -/
def AdjNo (conv : Int) (zs L : List Int) : Prop := ∃ i r e, i < L.length ∧ AdjIs (L.getD i 0) conv zs r e ∧ e ≠ 0
theorem AdjNo.not {conv : Int} {zs L rs : List Int} (h : AdjNo conv zs L) (k : AdjL conv zs L rs) : False := by
  obtain ⟨i, r, e, hi, ha, he⟩ := h
  exact he (adj_one ha (k.2 i hi)).2
theorem adj_err {day conv r e : Int} {zs : List Int} (h : AdjIs day conv zs r e) (he : e ≠ 0) : e = 2 := by
  unfold AdjIs EndIs at h
  rcases h with ⟨_, _, c⟩ | ⟨_, u, _, b | b⟩ | ⟨_, u, _, b | b⟩ | ⟨_, u, _, ⟨_, _, b⟩ | ⟨_, v, _, b | b⟩⟩ <;> omega
/-- What Schedule answers: its error and its list. -/
def SchA (y m d y2 m2 d2 N u conv : Int) (ds : List Dt) (x : Int) (cl : List Int) : Prop :=
  (¬ (tenB N u = true ∧ 0 ≤ conv ∧ conv ≤ 3) ∧ x = 1 ∧ cl = []) ∨
  ((tenB N u = true ∧ 0 ≤ conv ∧ conv ≤ 3) ∧ (exB y m d = false ∨ exB y2 m2 d2 = false ∨ NumsNo ds) ∧ x = 21 ∧ cl = []) ∨
  ((tenB N u = true ∧ 0 ≤ conv ∧ conv ≤ 3) ∧ (exB y m d = true ∧ exB y2 m2 d2 = true ∧ ∃ zs, NumsOk ds zs) ∧ num y2 m2 d2 < num y m d ∧ x = 2 ∧ cl = []) ∨
  ((tenB N u = true ∧ 0 ≤ conv ∧ conv ≤ 3) ∧ exB y m d = true ∧ exB y2 m2 d2 = true ∧ num y m d ≤ num y2 m2 d2 ∧ ∃ zs L, NumsOk ds zs ∧ Reg y m d N u (num y2 m2 d2) L ∧
    ((AdjNo conv zs L ∧ x = 2 ∧ cl = []) ∨ ∃ rs, AdjL conv zs L rs ∧ x = 0 ∧ cl = Lib.compact rs))
theorem SchA.one {y m d y2 m2 d2 N u conv : Int} {ds : List Dt} {x x' : Int} {cl cl' : List Int} (h : SchA y m d y2 m2 d2 N u conv ds x cl) (k : SchA y m d y2 m2 d2 N u conv ds x' cl') : x = x' ∧ cl = cl' := by
  rcases h with ⟨a, rfl, rfl⟩ | ⟨a, b, rfl, rfl⟩ | ⟨a, ⟨b1, b2, zs, b3⟩, c, rfl, rfl⟩ | ⟨a, b1, b2, c, zs, L, b3, e, f⟩ <;>
    rcases k with ⟨a', rfl, rfl⟩ | ⟨a', b', rfl, rfl⟩ | ⟨a', ⟨b1', b2', zs', b3'⟩, c', rfl, rfl⟩ | ⟨a', b1', b2', c', zs', L', b3', e', f'⟩
  · exact ⟨rfl, rfl⟩
  · exact absurd a' a
  · exact absurd a' a
  · exact absurd a' a
  · exact absurd a a'
  · exact ⟨rfl, rfl⟩
  · exfalso
    rcases b with q | q | q
    · rw [b1'] at q; cases q
    · rw [b2'] at q; cases q
    · exact b3'.not q
  · exfalso
    rcases b with q | q | q
    · rw [b1'] at q; cases q
    · rw [b2'] at q; cases q
    · exact b3'.not q
  · exact absurd a a'
  · exfalso
    rcases b' with q | q | q
    · rw [b1] at q; cases q
    · rw [b2] at q; cases q
    · exact b3.not q
  · exact ⟨rfl, rfl⟩
  · omega
  · exact absurd a a'
  · exfalso
    rcases b' with q | q | q
    · rw [b1] at q; cases q
    · rw [b2] at q; cases q
    · exact b3.not q
  · omega
  · obtain rfl := b3.one b3'
    obtain rfl := e.one e'
    rcases f with ⟨f, rfl, rfl⟩ | ⟨rs, f, rfl, rfl⟩ <;> rcases f' with ⟨f', rfl, rfl⟩ | ⟨rs', f', rfl, rfl⟩
    · exact ⟨rfl, rfl⟩
    · exact (f.not f').elim
    · exact (f'.not f).elim
    · rw [f.one f']; exact ⟨rfl, rfl⟩
theorem SchA.len {y m d y2 m2 d2 N u conv : Int} {ds : List Dt} {x : Int} {cl : List Int} (h : SchA y m d y2 m2 d2 N u conv ds x cl) : cl.length ≤ 109574 := by
  rcases h with ⟨_, _, rfl⟩ | ⟨_, _, _, rfl⟩ | ⟨_, _, _, _, rfl⟩ | ⟨_, _, _, _, zs, L, _, hR, ⟨_, _, rfl⟩ | ⟨rs, hA, _, rfl⟩⟩
  · simp
  · simp
  · simp
  · simp
  · have h1 : (Lib.compact rs).length ≤ rs.length := by
      unfold Lib.compact Lib.compactUpTo
      simp only [List.length_map]
      exact Nat.le_trans (List.length_filter_le _ _) (by simp)
    have := hA.1; have := hR.len; omega
end Go.Proofs.YtpeglcnenagkbaaDoor

namespace Go.Proofs.YtpeglcnenagkbaaDoor
open Go.RowKit
open Cal
set_option linter.unusedVariables false
set_option linter.unusedSimpArgs false

theorem add_ex (y m d N u n : Int) (w : World) : ∃ Y M D E, AddIs y m d N u n Y M D E := by
  obtain ⟨e, w', fr, ⟨Y, M, D, E, _, h, _⟩, _⟩ := (rAdd_any y m d N u n w) []
  exact ⟨Y, M, D, E, h⟩
/-- The first dates, all of them up to last. -/
def RegP (y m d N u last : Int) (L : List Int) : Prop := ∀ i : Nat, i < L.length → ∃ Y M D, AddIs y m d N u i Y M D 0 ∧ num Y M D = L.getD i 0 ∧ L.getD i 0 ≤ last
theorem RegP.snoc {y m d N u last Y M D : Int} {L : List Int} (h : RegP y m d N u last L) (a : AddIs y m d N u (L.length : Int) Y M D 0) (hl : num Y M D ≤ last) : RegP y m d N u last (L ++ [num Y M D]) := by
  intro i hi
  by_cases e : i < L.length
  · have g : (L ++ [num Y M D]).getD i 0 = L.getD i 0 := by simp only [List.getD]; rw [List.getElem?_append_left e]
    rw [g]; exact h i e
  · have ei : i = L.length := by simp at hi; omega
    subst ei
    have g : (L ++ [num Y M D]).getD L.length 0 = num Y M D := by simp [List.getD]
    exact ⟨Y, M, D, a, g.symm, by rw [g]; exact hl⟩
theorem reg_ex (w : World) {y m d N u last : Int} : ∀ (k : Nat) {L : List Int}, RegP y m d N u last L → L.length + k = 109575 → ∃ M, Reg y m d N u last (L ++ M)
  | 0, L, h, hl => by
    exfalso
    obtain ⟨Y, M, D, a, _⟩ := h 109574 (by omega)
    have := (add_ok a).2.2.1
    omega
  | k + 1, L, h, hl => by
    obtain ⟨Y, M, D, E, a⟩ := add_ex y m d N u (L.length : Int) w
    by_cases q : E = 0 ∧ num Y M D ≤ last
    · obtain ⟨rfl, q⟩ := q
      obtain ⟨M', hM⟩ := reg_ex w k (h.snoc a q) (by simp; omega)
      exact ⟨num Y M D :: M', by rw [List.append_assoc] at hM; exact hM⟩
    · exact ⟨[], by rw [List.append_nil]; exact ⟨h, Y, M, D, E, a, by omega⟩⟩
theorem cn_app {rs : List Int} {r : Int} : ∀ i, i ≤ rs.length → Cn (rs ++ [r]) i = Cn rs i
  | 0, _ => rfl
  | i + 1, h => by
    have g : ∀ j, j < rs.length → (rs ++ [r]).getD j 0 = rs.getD j 0 := fun j hj => by simp only [List.getD]; rw [List.getElem?_append_left hj]
    rw [cn_succ, cn_succ, cn_app i (by omega), g i (by omega), g (i - 1) (by omega)]
/-- One more day. -/
theorem compact_snoc (rs : List Int) (r : Int) : Lib.compact (rs ++ [r]) = if (Lib.compact rs).length = 0 ∨ (Lib.compact rs).getD ((Lib.compact rs).length - 1) 0 ≠ r then Lib.compact rs ++ [r] else Lib.compact rs := by
  have e : Lib.compact (rs ++ [r]) = Cn (rs ++ [r]) (rs.length + 1) := by rw [← cn_all]; simp
  have gl : (rs ++ [r]).getD rs.length 0 = r := by simp [List.getD]
  rw [e, cn_succ, cn_app _ (Nat.le_refl _), cn_all, gl]
  by_cases h0 : rs.length = 0
  · have : rs = [] := List.length_eq_zero_iff.1 h0
    subst this
    rfl
  · have gp : (rs ++ [r]).getD (rs.length - 1) 0 = rs.getD (rs.length - 1) 0 := by simp only [List.getD]; rw [List.getElem?_append_left (by omega)]
    rw [gp]
    have l := cn_last rs (rs.length - 1)
    rw [show rs.length - 1 + 1 = rs.length by omega, cn_all] at l
    rw [l.2]
    by_cases q : r = rs.getD (rs.length - 1) 0
    · rw [if_neg (by rintro (p | p); exact h0 p; exact p q), if_neg (by rintro (p | p); omega; exact p q.symm), List.append_nil]
    · rw [if_pos (.inr q), if_pos (.inr (fun p => q p.symm))]
end Go.Proofs.YtpeglcnenagkbaaDoor
