/-
  WALK: TableWrites.
-/
import Derived.Test.YthkeoeobpdminaaDoorWTableValid
import Derived.Test.YthkeoeobpdminaaDoorWTRPrint
namespace Go.Proofs.YthkeoeobpdminaaDoor
open Go.RowKit
set_option linter.unusedVariables false
set_option linter.unusedSimpArgs false

theorem prT_form {ss : List ByteArray} {rs : List (List Cl)} {e : Ending} (h : PrT ss rs e) : ∃ s k, e = .returned (.tuple #[.string s, .int .i64 k]) := by
  rcases h with ⟨_, h⟩ | ⟨_, _, h⟩ | ⟨_, _, h⟩ <;> exact ⟨_, _, h⟩

set_option maxRecDepth 100000 in
set_option maxHeartbeats 4000000 in
theorem tableWrites_walk (an ar : Option Addr) (ln cn lr cr : Nat) (ss : List ByteArray) (rs : List Rw) (w : World) (h : NL w an ln ss) (k : RL w ar lr rs) (hn : an = none → ln = 0 ∧ cn = 0) (hr : ar = none → lr = 0 ∧ cr = 0) (hb : Bh w) (ht : Pows w) :
    Calls Tryd.prog 5 #[.agg #[.slice an ln cn, .slice ar lr cr]] w fun e w' => e = .returned (.bool true) ∧ Below w.heap.size w w' := by
  have d0 : Below w.heap.size w (w.alloc (.cells #[.slice an ln cn, .slice ar lr cr] 25)) := (Below.refl _ w).alloc (Nat.le_refl _) _
  have KO := Lib.hid (own_any an ar ln cn lr cr ss rs _ (h.later d0) (k.later d0) hn hr (hb.later d0))
  have ST := Lib.hid (fun w1 b m c b2 m2 c2 h1 h2 h3 => TW.start (w1 := w1) (cn := cn) (cr := cr) (b := b) (m := m) (c := c) (b2 := b2) (m2 := m2) (c2 := c2) h k hb h1 h2 h3)
  have V1 := Lib.hid (fun b m c b2 m2 c2 qs W (h : NL W b m ss) (k : RL W b2 m2 qs) (p : Pows W) => printT_any b b2 m c m2 c2 ss qs W h k p)
  have TB := Lib.hid (Lib.tabBelow_of_tabIs ht)
  have FO := Lib.hid (fun e (h : PrT ss (rs.map (·.cs)) e) => prT_form h)
  have ON := Lib.hid (fun e e' (h : PrT ss (rs.map (·.cs)) e) (h' : PrT ss (rs.map (·.cs)) e') => prT_one h h')
  have V2 := Lib.hid (fun W (h : NL W an ln ss) (k : RL W ar lr rs) => rPrintT_any an ar ln cn lr cr ss rs W h k)
  have KI := Lib.hid (fun B b b2 m c m2 c2 W h k hb N R => intact_any B an ar b b2 ln cn lr cr m c m2 c2 ss rs W h k hn hb N R)
  have RW : ∀ r ∈ rs, (∀ c ∈ r.cs, (Lit.int .i64 c.v).wf = true) ∧ r.cs.length ≤ 8796093021952 := fun r hr => ⟨(k.2.2.1 r hr).1.2.2.1, by rw [(k.2.2.1 r hr).1.1]; exact (k.2.2.1 r hr).1.2.1⟩
  have NLF := Lib.hid (p := ∀ W B b m c, NO W B an (.slice b m c) ln ss → NL W b m ss) (fun W B b m c N => by
    obtain ⟨e, q⟩ := N.nl h.1 h.2.1 h.2.2.1; rw [e]; exact q)
  have RLF := Lib.hid (p := ∀ W B b m c, RO W B (.slice b m c) lr rs → ∃ qs, RL W b m qs ∧ PrT ss (qs.map (·.cs)) = PrT ss (rs.map (·.cs))) (fun W B b m c N => by
    obtain ⟨e, qs, q, q2⟩ := ro_rl N RW k.1 k.2.1; rw [e]; exact ⟨qs, q, by rw [q2]⟩)
  have RF := Lib.hid (fun W B v (h : RO W B v lr rs) => ro_form h)
  generalize PrT ss (rs.map (·.cs)) = E at *
  clear h k hb d0 RW ht
  go_enter Tryd.func5, Tryd.ntmps5
  go_wp2_with (first
    | (go_at_call 7; refine KO.out.mono ?_; rintro e w1 ⟨b, m, c, v2, rfl, h1, h2, h3⟩; obtain ⟨b2, m2, c2, rfl⟩ := RF.out _ _ _ h2; have T0 := Lib.hid (ST.out _ _ _ _ _ _ _ h1 h2 h3); clear h1 h2 h3; have x0 := T0.out.x0; have x1 := T0.out.x1)
    | (go_at_call 13; obtain ⟨qs, Q1, Q2⟩ := RLF.out _ _ _ _ _ T0.out.ro; refine (V1.out b m c b2 m2 c2 qs _ (NLF.out _ _ _ _ _ T0.out.no) Q1 (TB.out _ T0.out.bel)).mono ?_; clear x0 x1; rintro e w2 ⟨hP, h1⟩; rw [Q2] at hP; obtain ⟨sz, kz, rfl⟩ := FO.out _ hP; have T2 := Lib.hid (T0.out.later h1); clear h1 Q1 Q2; have P1 := Lib.hid hP; clear hP; have t0 := T2.out.t0; have t1 := T2.out.t1)
    | (go_at_call 14; refine (V2.out _ T2.out.nl T2.out.rl).mono ?_; clear t0 t1; rintro e w3 ⟨hP, h1⟩; obtain rfl := ON.out _ _ hP P1.out; have T3 := Lib.hid (T2.out.later h1); clear h1 hP; have t0 := T3.out.t0; have t1 := T3.out.t1; have x0 := T3.out.x0; have x1 := T3.out.x1)
    | (go_at_call 10; refine (KI.out _ _ _ _ _ _ _ _ T3.out.nl T3.out.rl T3.out.bh T3.out.no T3.out.ro).mono ?_; rintro e w4 ⟨rfl, h4⟩; have T4 := Lib.hid (T3.out.later h4); clear h4))
  go_ret
  exact ⟨rfl, T4.out.bel⟩
end Go.Proofs.YthkeoeobpdminaaDoor
