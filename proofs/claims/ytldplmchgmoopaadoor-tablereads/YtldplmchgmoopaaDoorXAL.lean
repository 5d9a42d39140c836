import Derived.Test.YtldplmchgmoopaaDoorXAG
namespace Go.Proofs.YtldplmchgmoopaaDoor
open Go.RowKit
set_option linter.unusedVariables false
set_option linter.unusedSimpArgs false

theorem ro_rl {w : World} {B : Nat} {b : Option Addr} {m c n : Nat} {rs : List Rw} (h : RO w B (.slice b m c) n rs) (hr : ∀ r ∈ rs, (∀ c ∈ r.cs, (Lit.int .i64 c.v).wf = true) ∧ r.cs.length ≤ 8796093021952) (hl : rs.length = n) (hn : n ≤ 5864062014635) : m = n ∧ ∃ qs, RL w b n qs ∧ qs.map (·.cs) = rs.map (·.cs) := by
  rcases h with ⟨h, rfl⟩ | ⟨g, c', qs, h1, h2, h3, h4, h5, h6⟩
  · injection h with e1 e2 e3
    subst e1 e2
    have : rs = [] := List.length_eq_zero_iff.1 hl
    subst this
    exact ⟨rfl, [], ⟨rfl, by omega, (fun r hr => by cases hr), .inl rfl⟩, rfl⟩
  · injection h1 with e1 e2 e3
    subst e1 e2 e3
    have mem : ∀ i (hi : i < m), rs.getD i default ∈ rs := fun i hi => by
      have hi' : i < rs.length := by omega
      rw [show rs.getD i default = rs[i] by simp [List.getD, hi']]; exact List.getElem_mem hi'
    -- the rows with what they hold
    refine ⟨rfl, (List.range m).map (fun i => { qs.getD i default with cs := (rs.getD i default).cs }), ⟨by simp, hn, fun r hr' => ?_, .inr ⟨g, 0, rfl, h3.2, fun i hi => ?_⟩⟩, ?_⟩
    · obtain ⟨i, hi, rfl⟩ := List.mem_map.1 hr'
      have hi' := List.mem_range.1 hi
      have R := h6 i hi'
      obtain ⟨r1, g0, r2, _⟩ := rowN_rc R (hr _ (mem i hi')).1 (hr _ (mem i hi')).2
      exact ⟨r1, (fun e => by rw [r2] at e; cases e), Nat.le_trans (Nat.le_add_right _ 2) R.2.1, R.2.2.1⟩
    · rw [Nat.zero_add, h5 i hi]
      simp [List.getD, hi]
    · apply List.ext_getElem
      · simp [hl]
      · intro i h7 h8
        have hi : i < m := by simpa using h7
        have hi' : i < rs.length := by omega
        simp [List.getD, hi']

end Go.Proofs.YtldplmchgmoopaaDoor
