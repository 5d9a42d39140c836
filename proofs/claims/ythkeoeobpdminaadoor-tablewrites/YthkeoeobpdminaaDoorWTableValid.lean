/-
  WALK: TableValid.
-/
import Derived.Test.YthkeoeobpdminaaDoorWTIntact
import Derived.Test.YthkeoeobpdminaaDoorWTLaid
namespace Go.Proofs.YthkeoeobpdminaaDoor
open Go.RowKit
set_option linter.unusedVariables false
set_option linter.unusedSimpArgs false

theorem ro_form {w : World} {B : Nat} {v : Value} {n : Nat} {rs : List Rw} (h : RO w B v n rs) : ∃ b m c, v = .slice b m c := by
  rcases h with ⟨rfl, _⟩ | ⟨g, c, qs, rfl, _⟩
  · exact ⟨_, _, _, rfl⟩
  · exact ⟨_, _, _, rfl⟩
/-- The two boxes of a table and of its copy, and what both lead to. -/
structure TW (w W : World) (B X : Nat) (an ar b b2 : Option Addr) (ln cn lr cr m c m2 c2 : Nat) (ss : List ByteArray) (rs : List Rw) : Prop where
  t0 : W.cell? ⟨w.heap.size, 0, none⟩ = some (.slice an ln cn)
  t1 : W.cell? ⟨w.heap.size, 1, none⟩ = some (.slice ar lr cr)
  x0 : W.cell? ⟨X, 0, none⟩ = some (.slice b m c)
  x1 : W.cell? ⟨X, 1, none⟩ = some (.slice b2 m2 c2)
  nl : NL W an ln ss
  rl : RL W ar lr rs
  no : NO W B an (.slice b m c) ln ss
  ro : RO W B (.slice b2 m2 c2) lr rs
  bh : Bh W
  bel : Below w.heap.size w W
  sz : w.heap.size < W.heap.size ∧ X < W.heap.size
theorem TW.later {w W W' : World} {B X : Nat} {an ar b b2 : Option Addr} {ln cn lr cr m c m2 c2 : Nat} {ss : List ByteArray} {rs : List Rw} (h : TW w W B X an ar b b2 ln cn lr cr m c m2 c2 ss rs) (d : Below W.heap.size W W') : TW w W' B X an ar b b2 ln cn lr cr m c m2 c2 ss rs :=
  ⟨(d.cell (p := ⟨w.heap.size, 0, none⟩) h.sz.1).trans h.t0, (d.cell (p := ⟨w.heap.size, 1, none⟩) h.sz.1).trans h.t1, (d.cell (p := ⟨X, 0, none⟩) h.sz.2).trans h.x0, (d.cell (p := ⟨X, 1, none⟩) h.sz.2).trans h.x1, h.nl.later d, h.rl.later d, h.no.later d, h.ro.later d, h.bh.later d, h.bel.trans (d.mono (Nat.le_of_lt h.sz.1)), Nat.lt_of_lt_of_le h.sz.1 d.size, Nat.lt_of_lt_of_le h.sz.2 d.size⟩
theorem TW.start {w w1 : World} {an ar b b2 : Option Addr} {ln cn lr cr m c m2 c2 : Nat} {ss : List ByteArray} {rs : List Rw} (h : NL w an ln ss) (k : RL w ar lr rs) (hb : Bh w)
    (h1 : NO w1 (w.alloc (.cells #[.slice an ln cn, .slice ar lr cr] 25)).heap.size an (.slice b m c) ln ss) (h2 : RO w1 (w.alloc (.cells #[.slice an ln cn, .slice ar lr cr] 25)).heap.size (.slice b2 m2 c2) lr rs) (h3 : Below (w.alloc (.cells #[.slice an ln cn, .slice ar lr cr] 25)).heap.size (w.alloc (.cells #[.slice an ln cn, .slice ar lr cr] 25)) w1) :
    TW w (w1.alloc (.cells #[.slice b m c, .slice b2 m2 c2] 25)) (w.heap.size + 1) w1.heap.size an ar b b2 ln cn lr cr m c m2 c2 ss rs := by
  have d0 : Below w.heap.size w (w.alloc (.cells #[.slice an ln cn, .slice ar lr cr] 25)) := (Below.refl _ w).alloc (Nat.le_refl _) _
  have d1 : Below w.heap.size w w1 := d0.trans (h3.mono d0.size)
  have d2 : Below w1.heap.size w1 (w1.alloc (.cells #[.slice b m c, .slice b2 m2 c2] 25)) := (Below.refl _ w1).alloc (Nat.le_refl _) _
  have z : w.heap.size + 1 ≤ w1.heap.size := by have := h3.size; simpa using this
  rw [World.size_alloc] at h1 h2
  have c : ∀ j, (w1.alloc (.cells #[.slice b m c, .slice b2 m2 c2] 25)).cell? ⟨w.heap.size, j, none⟩ = (w.alloc (.cells #[.slice an ln cn, .slice ar lr cr] 25)).cell? ⟨w.heap.size, j, none⟩ := fun j => (d2.cell (p := ⟨w.heap.size, j, none⟩) (show w.heap.size < _ by omega)).trans (h3.cell (p := ⟨w.heap.size, j, none⟩) (by simp))
  refine ⟨by rw [c]; go_simp, by rw [c]; go_simp, by go_simp, by go_simp, (h.later d1).later d2, (k.later d1).later d2, h1.later d2, h2.later d2, (hb.later d1).later d2, d1.trans (d2.mono (by omega)), by simp; omega, by simp⟩

set_option maxRecDepth 100000 in
set_option maxHeartbeats 4000000 in
theorem tableValid_walk (an ar : Option Addr) (ln cn lr cr : Nat) (ss : List ByteArray) (rs : List Rw) (w : World) (h : NL w an ln ss) (k : RL w ar lr rs) (hn : an = none → ln = 0 ∧ cn = 0) (hr : ar = none → lr = 0 ∧ cr = 0) (hb : Bh w) :
    Calls Tryd.prog 3 #[.agg #[.slice an ln cn, .slice ar lr cr]] w fun e w' => e = .returned (.bool true) ∧ Below w.heap.size w w' := by
  have d0 : Below w.heap.size w (w.alloc (.cells #[.slice an ln cn, .slice ar lr cr] 25)) := (Below.refl _ w).alloc (Nat.le_refl _) _
  have KO := Lib.hid (own_any an ar ln cn lr cr ss rs _ (h.later d0) (k.later d0) hn hr (hb.later d0))
  have ST := Lib.hid (fun w1 b m c b2 m2 c2 h1 h2 h3 => TW.start (w1 := w1) (cn := cn) (cr := cr) (b := b) (m := m) (c := c) (b2 := b2) (m2 := m2) (c2 := c2) h k hb h1 h2 h3)
  have V1 := Lib.hid (fun b m c b2 m2 c2 qs W (h : NL W b m ss) (k : RL W b2 m2 qs) => validT_any b b2 m c m2 c2 ss qs W h k)
  have V2 := Lib.hid (fun W (h : NL W an ln ss) (k : RL W ar lr rs) => rValid_any an ar ln cn lr cr ss rs W h k)
  have KI := Lib.hid (fun B b b2 m c m2 c2 W h k hb N R => intact_any B an ar b b2 ln cn lr cr m c m2 c2 ss rs W h k hn hb N R)
  have RW : ∀ r ∈ rs, (∀ c ∈ r.cs, (Lit.int .i64 c.v).wf = true) ∧ r.cs.length ≤ 8796093021952 := fun r hr => ⟨(k.2.2.1 r hr).1.2.2.1, by rw [(k.2.2.1 r hr).1.1]; exact (k.2.2.1 r hr).1.2.1⟩
  have NLF := Lib.hid (p := ∀ W B b m c, NO W B an (.slice b m c) ln ss → NL W b m ss) (fun W B b m c N => by
    obtain ⟨e, q⟩ := N.nl h.1 h.2.1 h.2.2.1; rw [e]; exact q)
  have RLF := Lib.hid (p := ∀ W B b m c, RO W B (.slice b m c) lr rs → ∃ qs, RL W b m qs ∧ validE ss (qs.map (·.cs)) = validE ss (rs.map (·.cs))) (fun W B b m c N => by
    obtain ⟨e, qs, q, q2⟩ := ro_rl N RW k.1 k.2.1; rw [e]; exact ⟨qs, q, by rw [q2]⟩)
  have RF := Lib.hid (fun W B v (h : RO W B v lr rs) => ro_form h)
  generalize validE ss (rs.map (·.cs)) = E at *
  clear h k hb d0 RW
  go_enter Tryd.func3, Tryd.ntmps3
  go_wp2_with (go_at_call 7; refine KO.out.mono ?_; rintro e w1 ⟨b, m, c, v2, rfl, h1, h2, h3⟩; obtain ⟨b2, m2, c2, rfl⟩ := RF.out _ _ _ h2; have T0 := Lib.hid (ST.out _ _ _ _ _ _ _ h1 h2 h3); clear h1 h2 h3)
  have KV := Lib.hid (p := ∀ W, TW w W (w.heap.size + 1) w1.heap.size an ar b b2 ln cn lr cr m c m2 c2 ss rs → Calls Tryd.prog 8 #[.agg #[.slice b m c, .slice b2 m2 c2]] W fun e w' => e = .returned (.int .i64 E) ∧ Below W.heap.size W w') (fun W T => by
    obtain ⟨qs, Q1, Q2⟩ := RLF.out _ _ _ _ _ T.ro
    refine (V1.out b m c b2 m2 c2 qs _ (NLF.out _ _ _ _ _ T.no) Q1).mono ?_
    rintro e w2 ⟨rfl, h1⟩
    exact ⟨by rw [Q2], h1⟩)
  have TD := Lib.hid (T0.out.later (Below.refl _ _).drew)
  have t0 := T0.out.t0
  have t1 := T0.out.t1
  have x0 := T0.out.x0
  have x1 := T0.out.x1
  go_region_held3 (fun w' => w'.cell? ⟨w.heap.size, 0, none⟩ = some (.slice an ln cn) ∧ w'.cell? ⟨w.heap.size, 1, none⟩ = some (.slice ar lr cr) ∧ w'.cell? ⟨w1.heap.size, 0, none⟩ = some (.slice b m c) ∧ w'.cell? ⟨w1.heap.size, 1, none⟩ = some (.slice b2 m2 c2))
    (refine ⟨?_, ?_, ?_, ?_⟩ <;> first | assumption | (go_simp; done))
    (first
    | (go_at_call 8; refine (KV.out _ TD.out).mono ?_; rintro e w2 ⟨rfl, h1⟩; have X := TD.out.later h1; obtain ⟨p0, p1, p2, p3, p4, p5, p6, p7, p8, p9, p10⟩ := id X)
    | (go_at_call 9; refine (V2.out _ X.nl X.rl).mono ?_; rintro e w3 ⟨rfl, h2⟩; have Y := X.later h2; obtain ⟨q0, q1, q2, q3, q4, q5, q6, q7, q8, q9, q10⟩ := id Y)
    | (go_at_call 10; refine (KI.out _ _ _ _ _ _ _ _ Y.nl Y.rl Y.bh Y.no Y.ro).mono ?_; rintro e w4 ⟨rfl, h4⟩; have V := Y.later h4; obtain ⟨s0, s1, s2, s3, s4, s5, s6, s7, s8, s9, s10⟩ := id V))
  all_goals go_wp2
  all_goals go_ret
  all_goals exact ⟨rfl, V.bel⟩
end Go.Proofs.YthkeoeobpdminaaDoor
