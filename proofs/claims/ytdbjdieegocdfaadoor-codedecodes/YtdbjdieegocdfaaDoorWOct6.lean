/-
  WALKS: the reader's pass, Take, Text.
-/
import Derived.Test.YtdbjdieegocdfaaDoorWSameB
import Derived.Laws.IdiomStrings
namespace Go.Proofs.YtdbjdieegocdfaaDoor
open Go.RowKit
set_option linter.unusedVariables false
set_option linter.unusedSimpArgs false

/-- Some of the bytes of an own row, from k on. -/
theorem own_part {w : World} {B : Nat} {a : Option Addr} {n cap : Nat} {xs : List Int} (h : Own w B (.slice a n cap) n xs) (hb : ∀ c ∈ xs, 0 ≤ c ∧ c ≤ 255) (hn : n ≤ 140737488355328) (k m : Nat) (hm : k + m ≤ n) :
    BL w (if cap = k then a else Option.map (fun x => x.add k) a) m ((xs.drop k).take m) ∧ ((if cap = k then a else Option.map (fun x => x.add k) a) = none → m = 0) := by
  have hl : xs.length = n := by have := h.1; rw [bcs_len] at this; omega
  refine ⟨⟨by simp; omega, by omega, fun c hc => hb c (List.mem_of_mem_drop (List.mem_of_mem_take hc)), ?_⟩, ?_⟩
  · rcases Nat.eq_zero_or_pos m with q | q
    · exact .inl q
    · right
      rcases h.2 with ⟨e, h0⟩ | ⟨g, c, cur, e, _, hg, hnc, hmx, hs, ht⟩
      · omega
      · injection e with e1 e2 e3
        subst e1 e3
        rw [if_neg (by omega)]
        refine ⟨g, k, by simp [Addr.add]; omega, (Array.getElem?_eq_some_iff.1 hg).1, fun i hi => ?_⟩
        rw [h.cellAt (k + i) (by omega)]
        have : k + i < xs.length := by omega
        simp [bcs, List.getD, this, hi]
  · intro e
    rcases h.2 with ⟨_, h0⟩ | ⟨g, c, cur, e', _⟩
    · omega
    · injection e' with e1 e2 e3
      subst e1
      split at e <;> cases e
set_option maxRecDepth 100000 in
set_option maxHeartbeats 2000000 in
/-- What pass answers: where the bytes lie. -/
theorem pass_any (B p : Nat) (a : Option Addr) (n cap : Nat) (xs : List Int) (k m : Nat) (w : World) (h : RB w B p a n cap xs k) (hm : k + m ≤ n) :
    Calls Tryd.prog 38 #[.pointer (some ⟨p, 0, none⟩), .int .i64 (m : Int)] w fun e w' => ∃ a', (∃ c', e = .returned (.slice a' m c')) ∧ (BL w' a' m ((xs.drop k).take m) ∧ (a' = none → m = 0)) ∧ RB w' B p a n cap xs (k + m) ∧ Gr p w w' := by
  have HH := Lib.hid h
  have h1 := h.t
  have h2 := h.ac
  have h3 := h.f
  have h4 := h.le
  have h5 := h.bnd
  have h6 := h.cap
  have kw : IntKind.i64.wrap ((k : Int) + m) = (k : Int) + m := by simp [IntKind.wrap, IntKind.bits, IntKind.signed]; omega
  have c1 : ¬ (k : Int) < 0 := by omega
  have c2 : ((k : Int) + m).toNat = k + m := by omega
  have c3 : k + m ≤ cap := by omega
  have c4 : ¬ (k : Int) + m < 0 := by omega
  have c5 : k ≤ k + m := by omega
  have c6 : k + m - k = m := by omega
  clear h
  go_enter Tryd.func38, Tryd.ntmps38
  go_wp2
  go_quiet (fail)
  all_goals go_wp2
  all_goals
    have RS := Lib.hid ((HH.out.drewN nq).set (k + m) (by omega))
    go_ret
    refine ⟨_, ⟨_, rfl⟩, ?_, ?_, gr_set (gr_drewN (gr_refl _ _) _) 1 _⟩
    · have q := own_part RS.out.own RS.out.byte RS.out.bnd k m (by omega)
      first
        | (rw [if_neg (by assumption)] at q; exact q)
        | (have hck : cap = k := by assumption
           rw [if_pos hck] at q; exact q)
    · first
        | exact RS.out
        | (have hck : cap = k := by assumption
           have q := RS.out
           rw [hck] at q; exact q)

set_option maxRecDepth 100000 in
theorem take_neg (B p : Nat) (m : Int) (w : World) (hm : m < 0) :
    Calls Tryd.prog 34 #[.pointer (some ⟨p, 0, none⟩), .int .i64 m] w fun e w' => e = .returned (.tuple #[.slice none 0 0, .int .i64 1]) ∧ w' = w := by
  go_enter Tryd.func34, Tryd.ntmps34
  go_wp2
  go_ret2
  exact ⟨rfl, rfl⟩
set_option maxRecDepth 100000 in
theorem take_short (B p : Nat) (a : Option Addr) (n cap : Nat) (xs : List Int) (k : Nat) (m : Int) (w : World) (h : RB w B p a n cap xs k) (hm : ((n - k : Nat) : Int) < m) :
    Calls Tryd.prog 34 #[.pointer (some ⟨p, 0, none⟩), .int .i64 m] w fun e w' => e = .returned (.tuple #[.slice none 0 0, .int .i64 41]) ∧ w.grownBy w' none := by
  have K := Lib.hid (left_any B p a n cap xs k w h)
  have m0 : ¬ m < 0 := by omega
  clear h
  generalize ((n - k : Nat) : Int) = r at *
  go_enter Tryd.func34, Tryd.ntmps34
  go_wp2_with (go_at_call 29; refine K.out.mono ?_; rintro e w1 ⟨rfl, h1⟩; have G1 := Lib.hid h1; clear h1)
  go_ret2
  exact ⟨rfl, G1.out⟩
theorem ret_v {v v' : Value} {n : Int} (h : v = v') : Ending.returned (.tuple #[v, .int .i64 n]) = .returned (.tuple #[v', .int .i64 n]) := by rw [h]
set_option maxRecDepth 100000 in
set_option maxHeartbeats 1000000 in
theorem take_ok (B p : Nat) (a : Option Addr) (n cap : Nat) (xs : List Int) (k m : Nat) (w : World) (h : RB w B p a n cap xs k) (hm : k + m ≤ n) :
    Calls Tryd.prog 34 #[.pointer (some ⟨p, 0, none⟩), .int .i64 (m : Int)] w fun e w' => ∃ v', e = .returned (.tuple #[v', .int .i64 0]) ∧ Own w' w.heap.size v' m ((xs.drop k).take m) ∧ RB w' B p a n cap xs (k + m) ∧ Gr p w w' := by
  have K := Lib.hid (left_any B p a n cap xs k w h)
  have KP := Lib.hid (fun W (q : RB W B p a n cap xs k) => pass_any B p a n cap xs k m W q hm)
  have KC := Lib.hid (fun a' c' W (q : BL W a' m ((xs.drop k).take m)) (q0 : a' = none → m = 0) => clone_any a' m c' ((xs.drop k).take m) W q q0)
  have HH := Lib.hid h
  have m0 : ¬ (m : Int) < 0 := by omega
  have m1 : ¬ ((n - k : Nat) : Int) < (m : Int) := by omega
  clear h
  generalize ((n - k : Nat) : Int) = r at *
  go_enter Tryd.func34, Tryd.ntmps34
  go_wp2_with (first
    | (go_at_call 29; refine K.out.mono ?_; rintro e w1 ⟨rfl, h1⟩; have G1 := Lib.hid h1; clear h1)
    | (go_at_call 38; refine (KP.out _ (HH.out.later G1.out)).mono ?_; rintro e w2 ⟨a2, ⟨c2, rfl⟩, ⟨h1, h2⟩, h3, h4⟩; have L2 := Lib.hid h1; have N2 := Lib.hid h2; have R2 := Lib.hid h3; have G2 := Lib.hid (gr_trans (gr_below (r := none) G1.out (some p)) h4); clear h1 h2 h3 h4)
    | (go_at_call 33; refine (KC.out _ _ _ L2.out N2.out).mono ?_; rintro e w3 ⟨v3, rfl, h1, h2⟩; have O3 := Lib.hid h1; have B3 := Lib.hid h2; clear h1 h2))
  go_ret2
  refine ⟨v3, rfl, ?_, R2.out.later (below_gr B3.out none), gr_trans G2.out (below_gr B3.out _)⟩
  obtain ⟨o1, o2⟩ := O3.out
  refine ⟨o1, ?_⟩
  rcases o2 with o2 | ⟨g, c, cur, q1, q2, q3⟩
  · exact .inl o2
  · exact .inr ⟨g, c, cur, q1, Nat.le_trans G2.out.size q2, q3⟩
end Go.Proofs.YtdbjdieegocdfaaDoor
