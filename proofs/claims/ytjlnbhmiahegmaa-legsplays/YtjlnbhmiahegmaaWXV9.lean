/-
  WALK: the document's Seen.
-/
import Derived.Test.YtjlnbhmiahegmaaWXV5
namespace Go.Proofs.Ytjlnbhmiahegmaa
open Go.RowKit
set_option linter.unusedVariables false
set_option linter.unusedSimpArgs false

set_option maxHeartbeats 1000000 in
theorem rseen_any {w : World} {ra : Option Addr} {rn rc : Nat} {rs : List Rw} (h : RL w ra rn rs) (day name : Int) :
    Calls Try.prog 29 #[.slice ra rn rc, .int .i64 name, .int .i64 day] w fun e w' => e = .returned (.tuple #[.int .i64 (seenR (Rws rs) name day).1, .int .i64 (seenR (Rws rs) name day).2]) ∧ Below w.heap.size w w' := by
  have hl : rs.length = rn := h.1
  have hlen : (Rws rs).length = rn := by simp [Rws, hl]
  have bad : (¬ (0 ≤ day ∧ day < (Rws rs).length ∧ 0 ≤ name ∧ name < ((Rws rs).getD day.toNat []).length ∧ (((Rws rs).getD day.toNat []).getD name.toNat default).h = true)) → seenR (Rws rs) name day = (0, 3) := fun h => by unfold seenR; rw [if_neg h]
  by_cases d0 : day < 0
  · rw [bad (by omega)]
    go_enter Try.func29, Try.ntmps29
    go_wp2
    go_ret2
    exact ⟨rfl, Below.refl _ _⟩
  have d0' : decide (day < 0) = false := decide_eq_false d0
  by_cases d1 : day < (rn : Int)
  case neg =>
    rw [bad (by omega)]
    have d2 : (rn : Int) ≤ day := by omega
    have d2' : decide ((rn : Int) ≤ day) = true := decide_eq_true d2
    go_enter Try.func29, Try.ntmps29
    go_wp2
    go_ret2
    exact ⟨rfl, Below.refl _ _⟩
  have d1' : decide ((rn : Int) ≤ day) = false := decide_eq_false (by omega)
  by_cases n0 : name < 0
  · rw [bad (by omega)]
    have n0' : decide (name < 0) = true := decide_eq_true n0
    go_enter Try.func29, Try.ntmps29
    go_wp2
    go_ret2
    exact ⟨rfl, Below.refl _ _⟩
  have n0' : decide (name < 0) = false := decide_eq_false n0
  obtain ⟨k, rfl⟩ : ∃ k : Nat, day = k := ⟨day.toNat, by omega⟩
  obtain ⟨j, rfl⟩ : ∃ j : Nat, name = j := ⟨name.toNat, by omega⟩
  have hk : k < rn := by omega
  obtain ⟨g, o, x, m, cp, rfl, hg, hcell, hmc, hRC, hm⟩ := h.row k hk
  have hrw := rws_at rs k (by omega)
  rw [show ((k : Int)).toNat = k from rfl, show ((j : Int)).toNat = j from rfl, hrw] at bad
  have kk : (k : Int) < (rn : Int) := d1
  by_cases j0 : j < m
  case neg =>
    rw [bad (by omega)]
    have j1 : decide ((m : Int) ≤ (j : Int)) = true := decide_eq_true (by omega)
    have j2 : (m : Int) ≤ (j : Int) := by omega
    have j3 : m ≤ j := by omega
    clear bad hrw hRC hm
    go_enter Try.func29, Try.ntmps29
    go_wp2
    go_ret2
    exact ⟨rfl, Below.refl _ _⟩
  obtain ⟨r1, r2, r3, r4⟩ := hRC
  obtain ⟨g', o', rfl, hg', hc'⟩ : ∃ b o, x = some ⟨b, o, none⟩ ∧ b < w.heap.size ∧ ∀ i, i < m → CC w b (o + i * 2) ((rs.getD k default).cs.getD i default) := by
    rcases r4 with r | r
    · omega
    · exact r
  obtain ⟨e1, e2⟩ := hc' j j0
  have j1 : decide ((m : Int) ≤ (j : Int)) = false := decide_eq_false (by omega)
  have j2 : (j : Int) < (m : Int) := by omega
  have SV : ((rs.getD k default).cs.getD j default).h = true → seenR (Rws rs) (j : Int) (k : Int) = (((rs.getD k default).cs.getD j default).v, 0) := fun hh => by
    unfold seenR
    rw [show ((k : Int)).toNat = k from rfl, show ((j : Int)).toNat = j from rfl, hrw, if_pos ⟨by omega, by omega, by omega, by omega, hh⟩]
  have SN : ¬ ((rs.getD k default).cs.getD j default).h = true → seenR (Rws rs) (j : Int) (k : Int) = (0, 3) := fun hh => bad (fun q => hh q.2.2.2.2)
  generalize (rs.getD k default).cs.getD j default = c at *
  obtain ⟨ch, cv⟩ := c
  simp only at e1 e2 SV SN
  clear bad hrw hc' r1 r2 r3 r4 hm hl hlen
  cases ch with
  | true =>
    rw [SV rfl]
    clear SV SN
    go_enter Try.func29, Try.ntmps29
    go_wp2
    go_ret2
    exact ⟨rfl, Below.refl _ _⟩
  | false =>
    rw [SN (by simp)]
    clear SV SN
    go_enter Try.func29, Try.ntmps29
    go_wp2
    go_ret2
    exact ⟨rfl, Below.refl _ _⟩
end Go.Proofs.Ytjlnbhmiahegmaa
