/-
  WALK: legs: an observation.
-/
import Derived.Test.YtjlnbhmiahegmaaWXV34
namespace Go.Proofs.Ytjlnbhmiahegmaa
open Go.RowKit
set_option linter.unusedVariables false
set_option linter.unusedSimpArgs false

/-- A day's row. -/
theorem RL.row {w : World} {a : Option Addr} {n : Nat} {rs : List Rw} (h : RL w a n rs) (i : Nat) (hi : i < n) : ∃ g o x m cp, a = some ⟨g, o, none⟩ ∧ g < w.heap.size ∧ w.cell? ⟨g, o + i, none⟩ = some (.slice x m cp) ∧ m ≤ cp ∧ RC w x m (rs.getD i default).cs ∧ m = (rs.getD i default).cs.length := by
  obtain ⟨h1, h2, h3, h4⟩ := h
  rcases h4 with h4 | ⟨g, o, rfl, hg, hc⟩
  · omega
  · have hm : rs.getD i default ∈ rs := by rw [List.getD_eq_getElem?_getD, List.getElem?_eq_getElem (by omega)]; exact List.getElem_mem _
    obtain ⟨k1, k2, k3, k4⟩ := h3 _ hm
    exact ⟨g, o, _, _, _, rfl, hg, hc i hi, k3, k1, k1.1.symm⟩
def Rws (rs : List Rw) : List (List Cl) := rs.map (·.cs)
theorem rws_at (rs : List Rw) (i : Nat) (h : i < rs.length) : (Rws rs).getD i [] = (rs.getD i default).cs := by
  simp [Rws, List.getD, h]
set_option maxHeartbeats 1000000 in
theorem observation_any {w : World} {wp : Nat} {ra ca : Option Addr} {rn rc cn cc : Nat} {rs : List Rw} {C : List Int} (h : WS w wp ra ca rn rc cn cc rs C) (day name : Int) :
    Calls Try.prog 52 #[.pointer (some ⟨wp, 0, none⟩), .int .i64 day, .int .i64 name] w fun e w' => EvE (seenR (Rws rs) name day) e ∧ Below w.heap.size w w' := by
  have hl : rs.length = rn := h.rl.1
  have hlen : (Rws rs).length = rn := by simp [Rws, hl]
  have h1 := h.r
  have bad : (¬ (0 ≤ day ∧ day < (Rws rs).length ∧ 0 ≤ name ∧ name < ((Rws rs).getD day.toNat []).length ∧ (((Rws rs).getD day.toNat []).getD name.toNat default).h = true)) → seenR (Rws rs) name day = (0, 3) := fun h => by unfold seenR; rw [if_neg h]
  by_cases d0 : day < 0
  · rw [bad (by omega)]
    go_enter Try.func52, Try.ntmps52
    go_wp2
    exact ⟨rfl, .inr ⟨by decide, rfl, rfl⟩, Below.refl _ _⟩
  have d0' : decide (day < 0) = false := decide_eq_false d0
  by_cases d1 : day < (rn : Int)
  case neg =>
    rw [bad (by omega)]
    have d2 : (rn : Int) ≤ day := by omega
    have d2' : decide ((rn : Int) ≤ day) = true := decide_eq_true d2
    go_enter Try.func52, Try.ntmps52
    go_wp2
    exact ⟨rfl, .inr ⟨by decide, rfl, rfl⟩, Below.refl _ _⟩
  have d1' : decide ((rn : Int) ≤ day) = false := decide_eq_false (by omega)
  by_cases n0 : name < 0
  · rw [bad (by omega)]
    have n0' : decide (name < 0) = true := decide_eq_true n0
    go_enter Try.func52, Try.ntmps52
    go_wp2
    exact ⟨rfl, .inr ⟨by decide, rfl, rfl⟩, Below.refl _ _⟩
  have n0' : decide (name < 0) = false := decide_eq_false n0
  obtain ⟨k, rfl⟩ : ∃ k : Nat, day = k := ⟨day.toNat, by omega⟩
  obtain ⟨j, rfl⟩ : ∃ j : Nat, name = j := ⟨name.toNat, by omega⟩
  have hk : k < rn := by omega
  obtain ⟨g, o, x, m, cp, rfl, hg, hcell, hmc, hRC, hm⟩ := h.rl.row k hk
  have hrw := rws_at rs k (by omega)
  rw [show ((k : Int)).toNat = k from rfl, show ((j : Int)).toNat = j from rfl, hrw] at bad
  have kk : (k : Int) < (rn : Int) := d1
  by_cases j0 : j < m
  case neg =>
    rw [bad (by omega)]
    have j1 : decide ((m : Int) ≤ (j : Int)) = true := decide_eq_true (by omega)
    have j2 : (m : Int) ≤ (j : Int) := by omega
    have j3 : m ≤ j := by omega
    clear bad hrw hRC hm
    go_enter Try.func52, Try.ntmps52
    go_wp2
    exact ⟨rfl, .inr ⟨by decide, rfl, rfl⟩, Below.refl _ _⟩
  obtain ⟨r1, r2, r3, r4⟩ := hRC
  obtain ⟨g', o', rfl, hg', hc'⟩ : ∃ b o, x = some ⟨b, o, none⟩ ∧ b < w.heap.size ∧ ∀ i, i < m → CC w b (o + i * 2) ((rs.getD k default).cs.getD i default) := by
    rcases r4 with r | r
    · omega
    · exact r
  obtain ⟨e1, e2⟩ := hc' j j0
  have j1 : decide ((m : Int) ≤ (j : Int)) = false := decide_eq_false (by omega)
  have j2 : (j : Int) < (m : Int) := by omega
  have SV : ((rs.getD k default).cs.getD j default).h = true → seenR (Rws rs) (j : Int) (k : Int) = (((rs.getD k default).cs.getD j default).v, 0) := fun hh => by
    unfold seenR
    rw [show ((k : Int)).toNat = k from rfl, show ((j : Int)).toNat = j from rfl, hrw, if_pos ⟨by omega, by omega, by omega, by omega, hh⟩]
  have SN : ¬ ((rs.getD k default).cs.getD j default).h = true → seenR (Rws rs) (j : Int) (k : Int) = (0, 3) := fun hh => bad (fun q => hh q.2.2.2.2)
  generalize (rs.getD k default).cs.getD j default = c at *
  obtain ⟨ch, cv⟩ := c
  simp only at e1 e2 SV SN
  clear bad hrw hc' r1 r2 r3 r4 hm hl hlen
  cases ch with
  | true =>
    rw [SV rfl]
    clear SV SN
    go_enter Try.func52, Try.ntmps52
    go_wp2
    go_ret
    exact ⟨.inl ⟨rfl, rfl⟩, Below.refl _ _⟩
  | false =>
    rw [SN (by simp)]
    clear SV SN
    go_enter Try.func52, Try.ntmps52
    go_wp2
    exact ⟨rfl, .inr ⟨by decide, rfl, rfl⟩, Below.refl _ _⟩
end Go.Proofs.Ytjlnbhmiahegmaa
