/-
  WALK: TableAgrees.
-/
import Derived.Test.YthkeoeobpdminaaDoorWTableValid
import Derived.Test.YthkeoeobpdminaaDoorWTAgree3
namespace Go.Proofs.YthkeoeobpdminaaDoor
open Go.RowKit
set_option linter.unusedVariables false
set_option linter.unusedSimpArgs false

/-- The boxes of two tables and of their copies, and what they lead to. -/
structure TA (w W : World) (B X Y : Nat) (t u : Tb) (b b2 d d2 : Option Addr) (m c m2 c2 n e n2 e2 : Nat) : Prop where
  a0 : W.cell? ⟨w.heap.size, 0, none⟩ = some (.slice t.an t.ln t.cn)
  a1 : W.cell? ⟨w.heap.size, 1, none⟩ = some (.slice t.ar t.lr t.cr)
  b0 : W.cell? ⟨w.heap.size + 1, 0, none⟩ = some (.slice u.an u.ln u.cn)
  b1 : W.cell? ⟨w.heap.size + 1, 1, none⟩ = some (.slice u.ar u.lr u.cr)
  x0 : W.cell? ⟨X, 0, none⟩ = some (.slice b m c)
  x1 : W.cell? ⟨X, 1, none⟩ = some (.slice b2 m2 c2)
  y0 : W.cell? ⟨Y, 0, none⟩ = some (.slice d n e)
  y1 : W.cell? ⟨Y, 1, none⟩ = some (.slice d2 n2 e2)
  tb : TbOk W t
  ub : TbOk W u
  no : NO W B t.an (.slice b m c) t.ln t.ss
  ro : RO W B (.slice b2 m2 c2) t.lr t.rs
  no' : NO W B u.an (.slice d n e) u.ln u.ss
  ro' : RO W B (.slice d2 n2 e2) u.lr u.rs
  bh : Bh W
  bel : Below w.heap.size w W
  sz : w.heap.size + 1 < W.heap.size ∧ X < W.heap.size ∧ Y < W.heap.size
theorem TA.later {w W W' : World} {B X Y : Nat} {t u : Tb} {b b2 d d2 : Option Addr} {m c m2 c2 n e n2 e2 : Nat} (h : TA w W B X Y t u b b2 d d2 m c m2 c2 n e n2 e2) (k : Below W.heap.size W W') : TA w W' B X Y t u b b2 d d2 m c m2 c2 n e n2 e2 := by
  obtain ⟨s1, s2, s3⟩ := h.sz
  exact ⟨(k.cell (p := ⟨w.heap.size, 0, none⟩) (show w.heap.size < _ by omega)).trans h.a0, (k.cell (p := ⟨w.heap.size, 1, none⟩) (show w.heap.size < _ by omega)).trans h.a1, (k.cell (p := ⟨w.heap.size + 1, 0, none⟩) s1).trans h.b0, (k.cell (p := ⟨w.heap.size + 1, 1, none⟩) s1).trans h.b1, (k.cell (p := ⟨X, 0, none⟩) s2).trans h.x0, (k.cell (p := ⟨X, 1, none⟩) s2).trans h.x1, (k.cell (p := ⟨Y, 0, none⟩) s3).trans h.y0, (k.cell (p := ⟨Y, 1, none⟩) s3).trans h.y1,
    h.tb.later k, h.ub.later k, h.no.later k, h.ro.later k, h.no'.later k, h.ro'.later k, h.bh.later k, h.bel.trans (k.mono (by omega)), Nat.lt_of_lt_of_le s1 k.size, Nat.lt_of_lt_of_le s2 k.size, Nat.lt_of_lt_of_le s3 k.size⟩
/-- The first copy lies in its box. -/
structure TA1 (w W : World) (B X : Nat) (t u : Tb) (b b2 : Option Addr) (m c m2 c2 : Nat) : Prop where
  a0 : W.cell? ⟨w.heap.size, 0, none⟩ = some (.slice t.an t.ln t.cn)
  a1 : W.cell? ⟨w.heap.size, 1, none⟩ = some (.slice t.ar t.lr t.cr)
  b0 : W.cell? ⟨w.heap.size + 1, 0, none⟩ = some (.slice u.an u.ln u.cn)
  b1 : W.cell? ⟨w.heap.size + 1, 1, none⟩ = some (.slice u.ar u.lr u.cr)
  x0 : W.cell? ⟨X, 0, none⟩ = some (.slice b m c)
  x1 : W.cell? ⟨X, 1, none⟩ = some (.slice b2 m2 c2)
  tb : TbOk W t
  ub : TbOk W u
  no : NO W B t.an (.slice b m c) t.ln t.ss
  ro : RO W B (.slice b2 m2 c2) t.lr t.rs
  bh : Bh W
  bel : Below w.heap.size w W
  sz : w.heap.size + 1 < W.heap.size ∧ X < W.heap.size ∧ B ≤ W.heap.size
theorem TA1.start {w w1 : World} {t u : Tb} {b b2 : Option Addr} {m c m2 c2 : Nat} (h : TbOk w t) (k : TbOk w u) (hb : Bh w)
    (h1 : NO w1 ((w.alloc (.cells #[.slice t.an t.ln t.cn, .slice t.ar t.lr t.cr] 25)).alloc (.cells #[.slice u.an u.ln u.cn, .slice u.ar u.lr u.cr] 25)).heap.size t.an (.slice b m c) t.ln t.ss)
    (h2 : RO w1 ((w.alloc (.cells #[.slice t.an t.ln t.cn, .slice t.ar t.lr t.cr] 25)).alloc (.cells #[.slice u.an u.ln u.cn, .slice u.ar u.lr u.cr] 25)).heap.size (.slice b2 m2 c2) t.lr t.rs)
    (h3 : Below ((w.alloc (.cells #[.slice t.an t.ln t.cn, .slice t.ar t.lr t.cr] 25)).alloc (.cells #[.slice u.an u.ln u.cn, .slice u.ar u.lr u.cr] 25)).heap.size ((w.alloc (.cells #[.slice t.an t.ln t.cn, .slice t.ar t.lr t.cr] 25)).alloc (.cells #[.slice u.an u.ln u.cn, .slice u.ar u.lr u.cr] 25)) w1) :
    TA1 w (w1.alloc (.cells #[.slice b m c, .slice b2 m2 c2] 25)) (w.heap.size + 1 + 1) w1.heap.size t u b b2 m c m2 c2 := by
  have d0 : Below w.heap.size w ((w.alloc (.cells #[.slice t.an t.ln t.cn, .slice t.ar t.lr t.cr] 25)).alloc (.cells #[.slice u.an u.ln u.cn, .slice u.ar u.lr u.cr] 25)) := ((Below.refl _ w).alloc (Nat.le_refl _) _).alloc (by simp) _
  have d1 : Below w.heap.size w w1 := d0.trans (h3.mono d0.size)
  have d2 : Below w1.heap.size w1 (w1.alloc (.cells #[.slice b m c, .slice b2 m2 c2] 25)) := (Below.refl _ w1).alloc (Nat.le_refl _) _
  have z : w.heap.size + 1 + 1 ≤ w1.heap.size := by have := h3.size; simpa using this
  rw [World.size_alloc, World.size_alloc] at h1 h2
  have cc : ∀ p j, p < w.heap.size + 1 + 1 → (w1.alloc (.cells #[.slice b m c, .slice b2 m2 c2] 25)).cell? ⟨p, j, none⟩ = ((w.alloc (.cells #[.slice t.an t.ln t.cn, .slice t.ar t.lr t.cr] 25)).alloc (.cells #[.slice u.an u.ln u.cn, .slice u.ar u.lr u.cr] 25)).cell? ⟨p, j, none⟩ := fun p j hp => (d2.cell (p := ⟨p, j, none⟩) (show p < _ by omega)).trans (h3.cell (p := ⟨p, j, none⟩) (by simp; omega))
  refine ⟨by rw [cc _ _ (by omega)]; go_simp, by rw [cc _ _ (by omega)]; go_simp, by rw [cc _ _ (by omega)]; go_simp, by rw [cc _ _ (by omega)]; go_simp, by go_simp, by go_simp, (h.later d1).later d2, (k.later d1).later d2, h1.later d2, h2.later d2, (hb.later d1).later d2, d1.trans (d2.mono (by omega)), by simp; omega, by simp, by simp; omega⟩
theorem TA1.next {w W w1 : World} {B X : Nat} {t u : Tb} {b b2 d d2 : Option Addr} {m c m2 c2 n e n2 e2 : Nat} (h : TA1 w W B X t u b b2 m c m2 c2) (h1 : NO w1 W.heap.size u.an (.slice d n e) u.ln u.ss) (h2 : RO w1 W.heap.size (.slice d2 n2 e2) u.lr u.rs) (h3 : Below W.heap.size W w1) :
    TA w (w1.alloc (.cells #[.slice d n e, .slice d2 n2 e2] 25)) B X w1.heap.size t u b b2 d d2 m c m2 c2 n e n2 e2 := by
  obtain ⟨s1, s2, s3⟩ := h.sz
  have k2 : Below w1.heap.size w1 (w1.alloc (.cells #[.slice d n e, .slice d2 n2 e2] 25)) := (Below.refl _ w1).alloc (Nat.le_refl _) _
  have k : Below W.heap.size W (w1.alloc (.cells #[.slice d n e, .slice d2 n2 e2] 25)) := h3.trans (k2.mono h3.size)
  have z := k.size
  exact ⟨(k.cell (p := ⟨w.heap.size, 0, none⟩) (show w.heap.size < _ by omega)).trans h.a0, (k.cell (p := ⟨w.heap.size, 1, none⟩) (show w.heap.size < _ by omega)).trans h.a1, (k.cell (p := ⟨w.heap.size + 1, 0, none⟩) s1).trans h.b0, (k.cell (p := ⟨w.heap.size + 1, 1, none⟩) s1).trans h.b1, (k.cell (p := ⟨X, 0, none⟩) s2).trans h.x0, (k.cell (p := ⟨X, 1, none⟩) s2).trans h.x1, by go_simp, by go_simp,
    h.tb.later k, h.ub.later k, h.no.later k, h.ro.later k, (h1.later k2).mono s3, (h2.later k2).mono s3, h.bh.later k, h.bel.trans (k.mono (by omega)), Nat.lt_of_lt_of_le s1 z, Nat.lt_of_lt_of_le s2 z, by simp⟩
theorem tb_rw {w : World} {t : Tb} (h : TbOk w t) : ∀ r ∈ t.rs, (∀ c ∈ r.cs, (Lit.int .i64 c.v).wf = true) ∧ r.cs.length ≤ 8796093021952 := fun r hr => ⟨(h.rl.2.2.1 r hr).1.2.2.1, by rw [(h.rl.2.2.1 r hr).1.1]; exact (h.rl.2.2.1 r hr).1.2.1⟩
/-- The copy of a table, as a table in memory. -/
theorem copy_nl {W : World} {B : Nat} {t : Tb} {b : Option Addr} {m c : Nat} (h : TbOk W t) (N : NO W B t.an (.slice b m c) t.ln t.ss) : NL W b m t.ss := by
  obtain ⟨e, q⟩ := N.nl h.nl.1 h.nl.2.1 h.nl.2.2.1; rw [e]; exact q
theorem copy_rl {W : World} {B : Nat} {t : Tb} {b : Option Addr} {m c : Nat} (h : TbOk W t) (R : RO W B (.slice b m c) t.lr t.rs) : ∃ qs, RL W b m qs ∧ qs.map (·.cs) = t.rs.map (·.cs) := by
  obtain ⟨e, qs, q, q2⟩ := ro_rl R (tb_rw h) h.rl.1 h.rl.2.1; rw [e]; exact ⟨qs, q, q2⟩

set_option maxRecDepth 100000 in
set_option maxHeartbeats 8000000 in
theorem tableAgrees_walk (t u : Tb) (last : Int) (w : World) (h : TbOk w t) (k : TbOk w u) (hb : Bh w) (hsum : t.ln + u.ln ≤ 8796093022000) :
    Calls Tryd.prog 4 #[.agg #[.slice t.an t.ln t.cn, .slice t.ar t.lr t.cr], .agg #[.slice u.an u.ln u.cn, .slice u.ar u.lr u.cr], .int .i64 last] w fun e w' => e = .returned (.bool true) ∧ Below w.heap.size w w' := by
  have d0 : Below w.heap.size w ((w.alloc (.cells #[.slice t.an t.ln t.cn, .slice t.ar t.lr t.cr] 25)).alloc (.cells #[.slice u.an u.ln u.cn, .slice u.ar u.lr u.cr] 25)) := ((Below.refl _ w).alloc (Nat.le_refl _) _).alloc (by simp) _
  have KO := Lib.hid (own_any t.an t.ar t.ln t.cn t.lr t.cr t.ss t.rs _ (h.later d0).nl (h.later d0).rl h.nn h.rn (hb.later d0))
  have ST := Lib.hid (fun w1 b m c b2 m2 c2 h1 h2 h3 => TA1.start (w1 := w1) (b := b) (m := m) (c := c) (b2 := b2) (m2 := m2) (c2 := c2) h k hb h1 h2 h3)
  have KP := Lib.hid (fun W B X b b2 m c m2 c2 (T : TA1 w W B X t u b b2 m c m2 c2) => own_any u.an u.ar u.ln u.cn u.lr u.cr u.ss u.rs W T.ub.nl T.ub.rl k.nn k.rn T.bh)
  obtain ⟨V, hV⟩ : ∃ V : Bool, (V = true ↔ AgreeP t.ss (t.rs.map (·.cs)) u.ss (u.rs.map (·.cs)) last) := by
    by_cases q : AgreeP t.ss (t.rs.map (·.cs)) u.ss (u.rs.map (·.cs)) last
    · exact ⟨true, fun _ => q, fun _ => rfl⟩
    · exact ⟨false, (fun e => by cases e), fun e => absurd e q⟩
  have AE := Lib.hid (p := ∀ e, AgE t.ss (t.rs.map (·.cs)) u.ss (u.rs.map (·.cs)) last e → e = .returned (.bool V)) (fun e he => by
    obtain ⟨v, rfl, hv⟩ := he
    have : v = V := by rw [Bool.eq_iff_iff]; exact hv.trans hV.symm
    rw [this])
  have K1 := Lib.hid (p := ∀ W B X Y b b2 d d2 m c m2 c2 n e n2 e2, TA w W B X Y t u b b2 d d2 m c m2 c2 n e n2 e2 → Calls Tryd.prog 11 #[.agg #[.slice b m c, .slice b2 m2 c2], .agg #[.slice d n e, .slice d2 n2 e2], .int .i64 last] W fun e w' => e = .returned (.bool V) ∧ Below W.heap.size W w') (fun W B X Y b b2 d d2 m c m2 c2 n e n2 e2 T => by
    obtain ⟨qs, q1, q2⟩ := copy_rl T.tb T.ro
    obtain ⟨ps, p1, p2⟩ := copy_rl T.ub T.ro'
    refine (agreeT_any b b2 d d2 m c m2 c2 n e n2 e2 t.ss u.ss qs ps last W (copy_nl T.tb T.no) q1 (copy_nl T.ub T.no') p1).mono ?_
    rintro e w' ⟨h1, h2⟩
    rw [q2, p2] at h1
    exact ⟨AE.out e h1, h2⟩)
  have K2 := Lib.hid (p := ∀ W B X Y b b2 d d2 m c m2 c2 n e n2 e2, TA w W B X Y t u b b2 d d2 m c m2 c2 n e n2 e2 → Calls Tryd.prog 12 #[.agg #[.slice t.an t.ln t.cn, .slice t.ar t.lr t.cr], .agg #[.slice u.an u.ln u.cn, .slice u.ar u.lr u.cr], .int .i64 last] W fun e w' => e = .returned (.bool V) ∧ Below W.heap.size W w') (fun W B X Y b b2 d d2 m c m2 c2 n e n2 e2 T => by
    refine (rAgree_any t.an t.ar u.an u.ar t.ln t.cn t.lr t.cr u.ln u.cn u.lr u.cr t.ss u.ss t.rs u.rs last W T.tb.nl T.tb.rl T.ub.nl T.ub.rl h.nn k.nn hsum).mono ?_
    rintro e w' ⟨h1, h2⟩
    exact ⟨AE.out e h1, h2⟩)
  have K3 := Lib.hid (fun W B X Y b b2 d d2 m c m2 c2 n e n2 e2 (T : TA w W B X Y t u b b2 d d2 m c m2 c2 n e n2 e2) => intact_any B t.an t.ar b b2 t.ln t.cn t.lr t.cr m c m2 c2 t.ss t.rs W T.tb.nl T.tb.rl h.nn T.bh T.no T.ro)
  have K4 := Lib.hid (fun W B X Y b b2 d d2 m c m2 c2 n e n2 e2 (T : TA w W B X Y t u b b2 d d2 m c m2 c2 n e n2 e2) => intact_any B u.an u.ar d d2 u.ln u.cn u.lr u.cr n e n2 e2 u.ss u.rs W T.ub.nl T.ub.rl k.nn T.bh T.no' T.ro')
  have RF := Lib.hid (fun W B v (h : RO W B v t.lr t.rs) => ro_form h)
  have RF' := Lib.hid (fun W B v (h : RO W B v u.lr u.rs) => ro_form h)
  have PM := Lib.hid True.intro
  clear h k hb d0 hV AE hsum
  obtain ⟨an, ln, cn, ss, ar, lr, cr, rs⟩ := t
  obtain ⟨an', ln', cn', ss', ar', lr', cr', rs'⟩ := u
  simp only at *
  go_enter Tryd.func4, Tryd.ntmps4
  go_wp2_with (first
    | (have qq := PM; go_at_call 7; refine KO.out.mono ?_; rintro e w1 ⟨b, m, c, v2, rfl, h1, h2, h3⟩; obtain ⟨b2, m2, c2, rfl⟩ := RF.out _ _ _ h2; have T1 := Lib.hid (ST.out _ _ _ _ _ _ _ h1 h2 h3); clear h1 h2 h3 PM qq; have r0 := T1.out.b0; have r1 := T1.out.b1)
    | (go_at_call 7; refine (KP.out _ _ _ _ _ _ _ _ _ T1.out).mono ?_; rintro e w2 ⟨d, n, e0, v2, rfl, h1, h2, h3⟩; obtain ⟨d2, n2, e2, rfl⟩ := RF'.out _ _ _ h2; have T2 := Lib.hid (T1.out.next h1 h2 h3); clear h1 h2 h3))
  have TD := Lib.hid (T2.out.later (Below.refl _ _).drew)
  obtain ⟨a0, a1, b0, b1, x0, x1, y0, y1, _⟩ := id T2.out
  go_region_held3 (fun w' => w'.cell? ⟨w.heap.size, 0, none⟩ = some (.slice an ln cn) ∧ w'.cell? ⟨w.heap.size, 1, none⟩ = some (.slice ar lr cr) ∧ w'.cell? ⟨w.heap.size + 1, 0, none⟩ = some (.slice an' ln' cn') ∧ w'.cell? ⟨w.heap.size + 1, 1, none⟩ = some (.slice ar' lr' cr') ∧ w'.cell? ⟨w1.heap.size, 0, none⟩ = some (.slice b m c) ∧ w'.cell? ⟨w1.heap.size, 1, none⟩ = some (.slice b2 m2 c2) ∧ w'.cell? ⟨w2.heap.size, 0, none⟩ = some (.slice d n e0) ∧ w'.cell? ⟨w2.heap.size, 1, none⟩ = some (.slice d2 n2 e2))
    (refine ⟨?_, ?_, ?_, ?_, ?_, ?_, ?_, ?_⟩ <;> first | assumption | (go_simp; done))
    (first
    | (go_at_call 11; refine (K1.out _ _ _ _ _ _ _ _ _ _ _ _ _ _ _ _ TD.out).mono ?_; rintro e w3 ⟨rfl, h1⟩; have TE := Lib.hid (TD.out.later h1); clear h1 TD a0 a1 b0 b1 x0 x1 y0 y1; have TD := TE; clear TE; obtain ⟨a0, a1, b0, b1, x0, x1, y0, y1, _⟩ := id TD.out)
    | (go_at_call 12; refine (K2.out _ _ _ _ _ _ _ _ _ _ _ _ _ _ _ _ TD.out).mono ?_; rintro e w3 ⟨rfl, h1⟩; have TE := Lib.hid (TD.out.later h1); clear h1 TD a0 a1 b0 b1 x0 x1 y0 y1; have TD := TE; clear TE; obtain ⟨a0, a1, b0, b1, x0, x1, y0, y1, _⟩ := id TD.out)
    | (go_at_call 10; with_reducible show Calls _ _ #[.agg #[.slice b m c, .slice b2 m2 c2], _] _ _; refine (K3.out _ _ _ _ _ _ _ _ _ _ _ _ _ _ _ _ TD.out).mono ?_; rintro e w3 ⟨rfl, h1⟩; have TE := Lib.hid (TD.out.later h1); clear h1 TD a0 a1 b0 b1 x0 x1 y0 y1; have TD := TE; clear TE; obtain ⟨a0, a1, b0, b1, x0, x1, y0, y1, _⟩ := id TD.out)
    | (go_at_call 10; with_reducible show Calls _ _ #[.agg #[.slice d n e0, .slice d2 n2 e2], _] _ _; refine (K4.out _ _ _ _ _ _ _ _ _ _ _ _ _ _ _ _ TD.out).mono ?_; rintro e w3 ⟨rfl, h1⟩; have TE := Lib.hid (TD.out.later h1); clear h1 TD a0 a1 b0 b1 x0 x1 y0 y1; have TD := TE; clear TE; obtain ⟨a0, a1, b0, b1, x0, x1, y0, y1, _⟩ := id TD.out))
  all_goals go_wp2
  all_goals go_ret
  all_goals exact ⟨rfl, TD.out.bel⟩
end Go.Proofs.YthkeoeobpdminaaDoor
