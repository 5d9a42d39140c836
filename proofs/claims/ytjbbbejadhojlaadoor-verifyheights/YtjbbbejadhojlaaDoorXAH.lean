import Derived.Test.YtjbbbejadhojlaaDoorXAG
import Derived.ProofKit
import Derived.Lib.AtoiAll
import Derived.Test.YtjbbbejadhojlaaDoorRows
import Derived.Below
import Derived.BigCall
import Derived.BigGuard
import Derived.BigQuiet
import Derived.Deep.QuietTactic
import Derived.WalkKit
import Derived.WalkSpells
import Derived.Lib.Hide
namespace Go.Proofs.YtjbbbejadhojlaaDoor
open Go.RowKit
set_option linter.unusedVariables false
set_option linter.unusedSimpArgs false
theorem bel_drV {W V : World} (b : Below W.heap.size W V) (q : Nat) : Below W.heap.size W (V.drewN q) := ⟨b.os, b.tape, b.output, b.size, b.block⟩
abbrev hOb (tb h : Nat) (ps : Nat → Option Nat) : Obj := .cells (stA tb h ps) 61
theorem hand_new {W : World} {B wb ab : Nat} {day : Int} {ca : Option Addr} {cc n : Nat} {G : Tg} {A : Nat → Option Nat} {l : Nat → Option Vs} {t tb : Nat} {s : Vs} {ps : Nat → Option Nat} (h : WkR W B wb ab day ca cc n G A l) (hB : B ≤ W.heap.size) (ht : t < n) (hl : l t = none) (hA : A t = none) (hs : s.ok) (hg : G s.st = some tb) (hp : SlR W B ps s.sl) :
    HdE W B wb ab day ca cc n G A l t s (.returned (.int .i64 0)) ((W.alloc (hOb tb s.st.length ps)).setCell ⟨ab, t, none⟩ (.pointer (some ⟨W.heap.size, 0, none⟩))) := by
  have b := allocBP W (hOb tb s.st.length ps)
  have h1 := h.later b
  have g := setCell_gr (W.alloc (hOb tb s.st.length ps)) ab t (.pointer (some ⟨W.heap.size, 0, none⟩))
  have c := Chg.ofGrown h1.tri g h1.ah (by decide) h.low.2
  have nb : BkP (W.alloc (hOb tb s.st.length ps)) W.heap.size (stA tb s.st.length ps) 61 := heapN _ _
  have na : W.heap.size ≠ ab := fun e => by have := h.ah.lt; omega
  have ev : vHand (l t) s = (0, some s) := by rw [hl]; rfl
  have fr : ∀ j x, j < n → A j = some x → x < W.heap.size := fun j x hj e => by obtain ⟨y, k⟩ := h.stt hj e; exact k.lt
  have nsh : ∀ z y, BkP (W.alloc (hOb tb s.st.length ps)) z y 132 → ¬ z = ab := fun z y k e => bk_ne k h1.ah (by decide) e
  refine ⟨by rw [ev], ⟨fun i => if i = t then some W.heap.size else A i, ?_, ?_⟩, ?_⟩
  · rw [ev]
    refine ⟨c.tri, c.stay _ _ _ h1.wk (fun e => bk_ne h1.wk h1.ah (by decide) e) (by decide), ?_, ?_, ?_, h.low, vSet_ok h.ok (fun u e => by injection e with e; subst e; exact hs)⟩
    · have := h1.ah.set2 t (.pointer (some ⟨W.heap.size, 0, none⟩)) (by rw [ahA_size]; exact ht)
      rw [ahA_set _ _ _ _ ht] at this
      exact this
    · intro j hj
      by_cases e : j = t
      · subst e
        refine .inr ⟨W.heap.size, s, tb, ps, by unfold vSet; rw [if_pos rfl], by rw [if_pos rfl], hg, ?_, (hp.later b).chg c nsh, hB⟩
        exact c.stay _ _ _ nb na (by decide)
      · rcases h1.st j hj with ⟨q1, q2⟩ | ⟨x, u, tb', ps', q1, q2, q3⟩
        · exact .inl ⟨by unfold vSet; rw [if_neg e]; exact q1, by rw [if_neg e]; exact q2⟩
        · exact .inr ⟨x, u, tb', ps', by unfold vSet; rw [if_neg e]; exact q1, by rw [if_neg e]; exact q2, q3.chg c nsh (fun e => bk_ne q3.box h1.ah (by decide) e)⟩
    · intro i j x hi hj e1 e2
      by_cases f1 : i = t <;> by_cases f2 : j = t
      · rw [f1, f2]
      · rw [if_pos f1] at e1
        rw [if_neg f2] at e2
        have := fr j x hj e2
        injection e1 with e1
        omega
      · rw [if_neg f1] at e1
        rw [if_pos f2] at e2
        have := fr i x hi e1
        injection e2 with e2
        omega
      · rw [if_neg f1] at e1
        rw [if_neg f2] at e2
        exact h.inj i j x hi hj e1 e2
  · intro j x e
    by_cases f : j = t
    · simp only [if_pos f] at e
      injection e with e
      exact .inr (by omega)
    · simp only [if_neg f] at e
      exact .inl e
  · exact ((Chg.refl h.tri).later hB b).trans (c.mono (fun z e => .inl e))
set_option maxRecDepth 100000 in
set_option maxHeartbeats 800000 in
theorem hand_nil {W : World} {B wb ab : Nat} {day : Int} {ca : Option Addr} {cc n : Nat} {G : Tg} {A : Nat → Option Nat} {l : Nat → Option Vs} {t tb : Nat} {s : Vs} {ps : Nat → Option Nat} (h : WkR W B wb ab day ca cc n G A l) (hB : B ≤ W.heap.size) (ht : t < n) (hl : l t = none) (hs : s.ok) (hg : G s.st = some tb) (hp : SlR W B ps s.sl) :
    Calls Tryd.prog 45 #[.pointer (some ⟨wb, 0, none⟩), .int .i64 (t : Int), .agg (stA tb s.st.length ps)] W fun e w' => HdE W B wb ab day ca cc n G A l t s e w' := by
  have hA : A t = none := by
    rcases h.st t ht with ⟨_, q⟩ | ⟨x, u, tb', ps', q1, _⟩
    · exact q
    · rw [hl] at q1; cases q1
  have E := Lib.hid (hand_new h hB ht hl hA hs hg hp)
  have h1 := h.later (allocBP W (hOb tb s.st.length ps))
  have c2 := h1.wk.cell 2
  have d := h1.ah.cell t
  have f := h1.ah.frozen t
  rw [ahA_at _ _ _ ht, hA] at d
  simp [ptN] at c2 d
  have k0 : ¬ (t : Int) < 0 := by omega
  have k1 : (t : Int) < (n : Int) := by omega
  clear h h1 hl hA hs hg hp ht
  unfold hOb at *
  generalize s.st.length = len at *
  go_enter Tryd.func45, Tryd.ntmps45
  go_wp2
  go_ret
  exact E.out
set_option maxRecDepth 100000 in
set_option maxHeartbeats 800000 in
theorem hand_high {W : World} {B wb ab : Nat} {day : Int} {ca : Option Addr} {cc n : Nat} {G : Tg} {A : Nat → Option Nat} {l : Nat → Option Vs} {t tb : Nat} {s u : Vs} {ps : Nat → Option Nat} (h : WkR W B wb ab day ca cc n G A l) (hB : B ≤ W.heap.size) (ht : t < n) (hl : l t = some u) (hn : u.st.length ≠ s.st.length) :
    Calls Tryd.prog 45 #[.pointer (some ⟨wb, 0, none⟩), .int .i64 (t : Int), .agg (stA tb s.st.length ps)] W fun e w' => HdE W B wb ab day ca cc n G A l t s e w' := by
  obtain ⟨x, tx, px, hA, hx⟩ : ∃ x tx px, A t = some x ∧ SvR W B G x tx px u := by
    rcases h.st t ht with ⟨q, _⟩ | ⟨x, u', tb', ps', q1, q2, q3⟩
    · rw [hl] at q; cases q
    · rw [hl] at q1
      injection q1 with q1
      subst q1
      exact ⟨x, tb', ps', q2, q3⟩
  have ev : vHand (l t) s = (142, some u) := by rw [hl]; unfold vHand; simp only; rw [if_pos hn]
  have E := Lib.hid (fun V b => hand_same (V := V) h hB hl ev b)
  have h1 := h.later (allocBP W (hOb tb s.st.length ps))
  have c2 := h1.wk.cell 2
  have d := h1.ah.cell t
  rw [ahA_at _ _ _ ht, hA] at d
  simp [ptN] at c2 d
  have x1 := (hx.later (allocBP W (hOb tb s.st.length ps))).box.cell 1
  rw [stA_ht] at x1
  have y1 := BkP.cell (heapN W (hOb tb s.st.length ps)) 1
  rw [stA_ht] at y1
  have k0 : ¬ (t : Int) < 0 := by omega
  have k1 : (t : Int) < (n : Int) := by omega
  have ne : ((u.st.length : Int) != (s.st.length : Int)) = true := by simp; omega
  clear h h1 hl hA ht hn ev hx
  unfold hOb at *
  generalize s.st.length = len at *
  generalize u.st.length = ulen at *
  go_enter Tryd.func45, Tryd.ntmps45
  go_wp2
  go_quiet (fail)
  go_wp2
  go_ret
  exact E.out _ (bel_drV (allocBP _ _) _)
theorem top_eq {W : World} {B : Nat} {G : Tg} (hT : Tri W B G) {s t : List Nat} {a b : Nat} (h : G s = some a) (k : G t = some b) : (a = b ↔ s = t) := by
  constructor
  · intro e; subst e; exact hT.inj _ _ _ h k
  · intro e; subst e; rw [h] at k; injection k
set_option maxRecDepth 100000 in
set_option maxHeartbeats 800000 in
theorem hand_unlike {W : World} {B wb ab : Nat} {day : Int} {ca : Option Addr} {cc n : Nat} {G : Tg} {A : Nat → Option Nat} {l : Nat → Option Vs} {t tb : Nat} {s u : Vs} {ps : Nat → Option Nat} (h : WkR W B wb ab day ca cc n G A l) (hB : B ≤ W.heap.size) (ht : t < n) (hl : l t = some u) (hn : u.st.length = s.st.length) (hne : u.st ≠ s.st) (hg : G s.st = some tb) :
    Calls Tryd.prog 45 #[.pointer (some ⟨wb, 0, none⟩), .int .i64 (t : Int), .agg (stA tb s.st.length ps)] W fun e w' => HdE W B wb ab day ca cc n G A l t s e w' := by
  obtain ⟨x, tx, px, hA, hx⟩ : ∃ x tx px, A t = some x ∧ SvR W B G x tx px u := by
    rcases h.st t ht with ⟨q, _⟩ | ⟨x, u', tb', ps', q1, q2, q3⟩
    · rw [hl] at q; cases q
    · rw [hl] at q1
      injection q1 with q1
      subst q1
      exact ⟨x, tb', ps', q2, q3⟩
  have ev : vHand (l t) s = (143, some u) := by rw [hl]; unfold vHand; simp only; rw [if_neg (by omega), if_pos hne]
  have E := Lib.hid (fun V b => hand_same (V := V) h hB hl ev b)
  have h1 := h.later (allocBP W (hOb tb s.st.length ps))
  have c2 := h1.wk.cell 2
  have d := h1.ah.cell t
  rw [ahA_at _ _ _ ht, hA] at d
  simp [ptN] at c2 d
  have hx1 := hx.later (allocBP W (hOb tb s.st.length ps))
  have x1 := hx1.box.cell 1
  have x0 := hx1.box.cell 0
  rw [stA_ht] at x1
  rw [stA_top] at x0
  have y1 := BkP.cell (heapN W (hOb tb s.st.length ps)) 1
  have y0 := BkP.cell (heapN W (hOb tb s.st.length ps)) 0
  rw [stA_ht] at y1
  rw [stA_top] at y0
  have tn : decide (tx = tb) = false := decide_eq_false (fun e => hne ((top_eq h.tri hx.top hg).1 e))
  have Q : ∀ V, Below (W.alloc (hOb tb s.st.length ps)).heap.size (W.alloc (hOb tb s.st.length ps)) V → (Op.equalIn 9999 54 (.pointer (some ⟨tx, 0, none⟩)) (.pointer (some ⟨tb, 0, none⟩))).run Tryd.prog V = .ok false V := fun V bV => by
    have := eq_top V tx tb ⟨_, _, ((h1.tri.box _ _ hx.top).2).lat bV⟩ ⟨_, _, ((h1.tri.box _ _ hg).2).lat bV⟩
    rw [tn] at this
    exact this
  have k0 : ¬ (t : Int) < 0 := by omega
  have k1 : (t : Int) < (n : Int) := by omega
  rw [hn] at x1
  have ne : ((s.st.length : Int) != (s.st.length : Int)) = false := by simp
  clear h h1 hl hA ht hn ev hx hx1 tn hne hg
  unfold hOb at *
  generalize s.st.length = len at *
  go_enter Tryd.func45, Tryd.ntmps45
  go_wp2
  go_quiet (fail)
  go_wp2
  refine wp_region_held_drew (S := fun V => V.cell? ⟨x, 0, none⟩ = some (.pointer (some ⟨tx, 0, none⟩)) ∧ V.cell? ⟨x, 1, none⟩ = some (.int .i64 (len : Int)) ∧ V.cell? ⟨W.heap.size, 0, none⟩ = some (.pointer (some ⟨tb, 0, none⟩)) ∧ V.cell? ⟨W.heap.size, 1, none⟩ = some (.int .i64 (len : Int)) ∧ Below (W.alloc (.cells (stA tb len ps) 61)).heap.size (W.alloc (.cells (stA tb len ps) 61)) V) (by kernel_rfl) ?_ (fun hHeld => ?_)
  · exact ⟨x0, x1, y0, y1, (bel_drV (Below.refl _ _) _).drew⟩
  refine wpAnyH_take (i := 0) (oi := { dst := some 41, op := Op.move (Operand.tmp 7), type := 62, pos := "walk.go:96", after := #[], guard := none }) (v := ?_) rfl (by kernel_rfl) (by kernel_rfl) (by kernel_rfl) (fun _ _ _ h => h) (Or.inl ⟨by rfl, ?_⟩) (by assumption) ?_
  rotate_left 1
  · intro w' hSw; go_simp; try with_reducible rfl
  (try simp only [Act.put, List.setIfInBounds_toArray, List.set_cons_zero, List.set_cons_succ])
  refine wpAnyH_take (i := 1) (oi := { dst := some 42, op := Op.nilCheck (Operand.tmp 41), type := 0, pos := "walk.go:96", after := #[{ on := 0, ground := Ground.data }], guard := none }) (v := ?_) rfl (by kernel_rfl) (by kernel_rfl) (by kernel_rfl) (fun _ _ _ h => h) (Or.inl ⟨by rfl, ?_⟩) (by assumption) ?_
  rotate_left 1
  · intro w' hSw; go_simp; try with_reducible rfl
  (try simp only [Act.put, List.setIfInBounds_toArray, List.set_cons_zero, List.set_cons_succ])
  refine wpAnyH_take (i := 2) (oi := { dst := some 43, op := Op.fieldAddr 61 (Operand.tmp 42) 0, type := 0, pos := "walk.go:96", after := #[{ on := 1, ground := Ground.data }], guard := none }) (v := ?_) rfl (by kernel_rfl) (by kernel_rfl) (by kernel_rfl) (fun _ _ _ h => h) (Or.inl ⟨by rfl, ?_⟩) (by assumption) ?_
  rotate_left 1
  · intro w' hSw; go_simp; try with_reducible rfl
  (try simp only [Act.put, List.setIfInBounds_toArray, List.set_cons_zero, List.set_cons_succ])
  refine wpAnyH_take (i := 3) (oi := { dst := some 44, op := Op.load 56 (Operand.tmp 43), type := 56, pos := "walk.go:96", after := #[{ on := 2, ground := Ground.data }], guard := none }) (v := ?_) rfl (by kernel_rfl) (by kernel_rfl) (by kernel_rfl) (fun _ _ _ h => h) (Or.inl ⟨by rfl, ?_⟩) (by assumption) ?_
  rotate_left 1
  · intro w' hSw; obtain ⟨s0, s1, s2, s3, _⟩ := hSw; go_simp; try with_reducible rfl
  (try simp only [Act.put, List.setIfInBounds_toArray, List.set_cons_zero, List.set_cons_succ])
  refine wpAnyH_take (i := 4) (oi := { dst := some 45, op := Op.fieldAddr 61 (Operand.tmp 5) 0, type := 0, pos := "walk.go:96", after := #[], guard := none }) (v := ?_) rfl (by kernel_rfl) (by kernel_rfl) (by kernel_rfl) (fun _ _ _ h => h) (Or.inl ⟨by rfl, ?_⟩) (by assumption) ?_
  rotate_left 1
  · intro w' hSw; go_simp; try with_reducible rfl
  (try simp only [Act.put, List.setIfInBounds_toArray, List.set_cons_zero, List.set_cons_succ])
  refine wpAnyH_take (i := 5) (oi := { dst := some 46, op := Op.load 56 (Operand.tmp 45), type := 56, pos := "walk.go:96", after := #[{ on := 4, ground := Ground.data }], guard := none }) (v := ?_) rfl (by kernel_rfl) (by kernel_rfl) (by kernel_rfl) (fun _ _ _ h => h) (Or.inl ⟨by rfl, ?_⟩) (by assumption) ?_
  rotate_left 1
  · intro w' hSw; obtain ⟨s0, s1, s2, s3, _⟩ := hSw; go_simp; try with_reducible rfl
  (try simp only [Act.put, List.setIfInBounds_toArray, List.set_cons_zero, List.set_cons_succ])
  refine wpAnyH_take (i := 6) (oi := { dst := some 47, op := Op.binOp BinOp.neq 56 (Operand.tmp 44) (Operand.tmp 46) 56, type := 4, pos := "walk.go:96", after := #[{ on := 3, ground := Ground.data }, { on := 5, ground := Ground.data }], guard := none }) (v := ?_) rfl (by kernel_rfl) (by kernel_rfl) (by kernel_rfl) (fun _ _ _ h => h) (Or.inl ⟨by rfl, ?_⟩) (by assumption) ?_
  rotate_left 1
  · intro w' hSw; have qq := Q w' hSw.2.2.2.2; go_simp; try with_reducible rfl
  (try simp only [Act.put, List.setIfInBounds_toArray, List.set_cons_zero, List.set_cons_succ])
  refine wpAnyH_take (i := 7) (oi := { dst := some 40, op := Op.assign (Operand.tmp 47), type := 4, pos := "walk.go:96", after := #[{ on := 6, ground := Ground.data }], guard := none }) (v := ?_) rfl (by kernel_rfl) (by kernel_rfl) (by kernel_rfl) (fun _ _ _ h => h) (Or.inl ⟨by rfl, ?_⟩) (by assumption) ?_
  rotate_left 1
  · intro w' hSw; go_simp; try with_reducible rfl
  (try simp only [Act.put, List.setIfInBounds_toArray, List.set_cons_zero, List.set_cons_succ])
  refine wpAnyH_done (by kernel_rfl) ?_ _
  clear hHeld
  go_wp2
  go_ret
  exact E.out _ (bel_drV (allocBP _ _) _).drew
theorem hand_met {W V V' : World} {B wb ab : Nat} {day : Int} {ca : Option Addr} {cc n : Nat} {G : Tg} {A : Nat → Option Nat} {l : Nat → Option Vs} {t x tx : Nat} {s u : Vs} {px ps' : Nat → Option Nat} (h : WkR W B wb ab day ca cc n G A l) (hB : B ≤ W.heap.size) (ht : t < n) (hl : l t = some u) (hA : A t = some x) (hx : SvR W B G x tx px u) (hn : u.st = s.st) (b : Below W.heap.size W V) (g : V.grownBy V' (some x)) (hm : SvR V' B G x tx ps' ⟨u.st, vMeet u.sl s.sl⟩) (hs : s.ok) :
    HdE W B wb ab day ca cc n G A l t s (.returned (.int .i64 0)) V' := by
  have ev : vHand (l t) s = (0, some ⟨u.st, vMeet u.sl s.sl⟩) := by rw [hl]; unfold vHand; simp only; rw [if_neg (by rw [hn]; simp), if_neg (by rw [hn]; simp)]
  have h1 := h.later b
  have c := Chg.ofGrown h1.tri g (hx.later b).box (by decide) hx.low
  have nsh : ∀ z y, BkP V z y 132 → ¬ z = x := fun z y k e => bk_ne k (hx.later b).box (by decide) e
  refine ⟨by rw [ev], ⟨A, ?_, fun j x q => .inl q⟩, ((Chg.refl h.tri).later hB b).trans (c.mono (fun z e => .inr ⟨t, ht, by rw [e]; exact hA⟩))⟩
  rw [ev]
  refine ⟨c.tri, c.stay _ _ _ h1.wk (fun e => bk_ne h1.wk (hx.later b).box (by decide) e) (by decide), c.stay _ _ _ h1.ah (fun e => bk_ne h1.ah (hx.later b).box (by decide) e) (by decide), ?_, h.inj, h.low, ?_⟩
  · intro j hj
    by_cases e : j = t
    · subst e
      exact .inr ⟨x, _, tx, ps', by unfold vSet; rw [if_pos rfl], hA, hm⟩
    · rcases h1.st j hj with ⟨q1, q2⟩ | ⟨y, u', tb', ps'', q1, q2, q3⟩
      · exact .inl ⟨by unfold vSet; rw [if_neg e]; exact q1, q2⟩
      · refine .inr ⟨y, u', tb', ps'', by unfold vSet; rw [if_neg e]; exact q1, q2, q3.chg c nsh (fun z => e (h.inj j t x hj ht (by rw [← z]; exact q2) hA))⟩
  · exact vSet_ok h.ok (fun v e => by
      have := vHand_ok (t := l t) (s := s) (fun v e => h.ok t v e) hs v (by rw [ev]; exact e)
      exact this)
set_option maxRecDepth 100000 in
set_option maxHeartbeats 800000 in
theorem hand_meet {W : World} {B wb ab : Nat} {day : Int} {ca : Option Addr} {cc n : Nat} {G : Tg} {A : Nat → Option Nat} {l : Nat → Option Vs} {t tb : Nat} {s u : Vs} {ps : Nat → Option Nat} (h : WkR W B wb ab day ca cc n G A l) (hB : B ≤ W.heap.size) (ht : t < n) (hl : l t = some u) (hn : u.st = s.st) (hs : s.ok) (hg : G s.st = some tb) (hp : SlR W B ps s.sl) :
    Calls Tryd.prog 45 #[.pointer (some ⟨wb, 0, none⟩), .int .i64 (t : Int), .agg (stA tb s.st.length ps)] W fun e w' => HdE W B wb ab day ca cc n G A l t s e w' := by
  obtain ⟨x, tx, px, hA, hx⟩ : ∃ x tx px, A t = some x ∧ SvR W B G x tx px u := by
    rcases h.st t ht with ⟨q, _⟩ | ⟨x, u', tb', ps', q1, q2, q3⟩
    · rw [hl] at q; cases q
    · rw [hl] at q1
      injection q1 with q1
      subst q1
      exact ⟨x, tb', ps', q2, q3⟩
  have KM := Lib.hid (p := ∀ V, Below W.heap.size W V → Calls Tryd.prog 66 #[.pointer (some ⟨x, 2, none⟩), .agg (psL2 ps).toArray] V fun e w' => e = .returned (.tuple #[]) ∧ V.grownBy w' (some x) ∧ ∀ V'', Below w'.heap.size w' V'' → HdE W B wb ab day ca cc n G A l t s (.returned (.int .i64 0)) V'') (fun V b => by
    refine (meet_any (hx.later b) (hp.later b) (Nat.le_trans hB b.size)).mono ?_
    rintro e w' ⟨p1, p2, ps', p3⟩
    exact ⟨p1, p2, fun V'' b2 => hand_met h hB ht hl hA hx hn b (gx_bel p2 b2) (p3.later b2) hs⟩)
  have YR := Lib.hid (p := ∀ V, Below (W.alloc (hOb tb s.st.length ps)).heap.size (W.alloc (hOb tb s.st.length ps)) V → ∀ V', V.grownBy V' (some x) → V'.rangeAt W.heap.size 2 (psL2 ps)) (fun V b V' g => range_st ((BkP.lat (heapN W (hOb tb s.st.length ps)) b).grown g (by intro e; injection e with e; have := hx.box.lt; omega)))
  have h1 := h.later (allocBP W (hOb tb s.st.length ps))
  have c2 := h1.wk.cell 2
  have d := h1.ah.cell t
  rw [ahA_at _ _ _ ht, hA] at d
  simp [ptN] at c2 d
  have hx1 := hx.later (allocBP W (hOb tb s.st.length ps))
  have x1 := hx1.box.cell 1
  have x0 := hx1.box.cell 0
  rw [stA_ht] at x1
  rw [stA_top] at x0
  have y1 := BkP.cell (heapN W (hOb tb s.st.length ps)) 1
  have y0 := BkP.cell (heapN W (hOb tb s.st.length ps)) 0
  rw [stA_ht] at y1
  rw [stA_top] at y0
  have tt : tx = tb := (top_eq h.tri hx.top hg).2 hn
  subst tt
  have Q : ∀ V, Below (W.alloc (hOb tx s.st.length ps)).heap.size (W.alloc (hOb tx s.st.length ps)) V → (Op.equalIn 9999 54 (.pointer (some ⟨tx, 0, none⟩)) (.pointer (some ⟨tx, 0, none⟩))).run Tryd.prog V = .ok true V := fun V bV => by
    have := eq_top V tx tx ⟨_, _, ((h1.tri.box _ _ hx.top).2).lat bV⟩ ⟨_, _, ((h1.tri.box _ _ hg).2).lat bV⟩
    rw [decide_eq_true rfl] at this
    exact this
  have k0 : ¬ (t : Int) < 0 := by omega
  have k1 : (t : Int) < (n : Int) := by omega
  rw [hn] at x1
  have ne : ((s.st.length : Int) != (s.st.length : Int)) = false := by simp
  have hu : Tryd.prog.underlying 59 = some (.array 16 57) := by kernel_rfl
  have i1 : (Tryd.prog.info? 59).map (·.size) = some (psL2 ps).length := by rw [slots_info]; simp [psL2]
  clear h h1 hl hA ht hn hx hx1 hg hp hs
  unfold hOb at *
  generalize s.st.length = len at *
  go_enter Tryd.func45, Tryd.ntmps45
  go_wp2
  go_quiet (fail)
  go_wp2
  refine wp_region_held_drew (S := fun V => V.cell? ⟨x, 0, none⟩ = some (.pointer (some ⟨tx, 0, none⟩)) ∧ V.cell? ⟨x, 1, none⟩ = some (.int .i64 (len : Int)) ∧ V.cell? ⟨W.heap.size, 0, none⟩ = some (.pointer (some ⟨tx, 0, none⟩)) ∧ V.cell? ⟨W.heap.size, 1, none⟩ = some (.int .i64 (len : Int)) ∧ Below (W.alloc (.cells (stA tx len ps) 61)).heap.size (W.alloc (.cells (stA tx len ps) 61)) V) (by kernel_rfl) ?_ (fun hHeld => ?_)
  · exact ⟨x0, x1, y0, y1, (bel_drV (Below.refl _ _) _).drew⟩
  refine wpAnyH_take (i := 0) (oi := { dst := some 41, op := Op.move (Operand.tmp 7), type := 62, pos := "walk.go:96", after := #[], guard := none }) (v := ?_) rfl (by kernel_rfl) (by kernel_rfl) (by kernel_rfl) (fun _ _ _ h => h) (Or.inl ⟨by rfl, ?_⟩) (by assumption) ?_
  rotate_left 1
  · intro w' hSw; go_simp; try with_reducible rfl
  (try simp only [Act.put, List.setIfInBounds_toArray, List.set_cons_zero, List.set_cons_succ])
  refine wpAnyH_take (i := 1) (oi := { dst := some 42, op := Op.nilCheck (Operand.tmp 41), type := 0, pos := "walk.go:96", after := #[{ on := 0, ground := Ground.data }], guard := none }) (v := ?_) rfl (by kernel_rfl) (by kernel_rfl) (by kernel_rfl) (fun _ _ _ h => h) (Or.inl ⟨by rfl, ?_⟩) (by assumption) ?_
  rotate_left 1
  · intro w' hSw; go_simp; try with_reducible rfl
  (try simp only [Act.put, List.setIfInBounds_toArray, List.set_cons_zero, List.set_cons_succ])
  refine wpAnyH_take (i := 2) (oi := { dst := some 43, op := Op.fieldAddr 61 (Operand.tmp 42) 0, type := 0, pos := "walk.go:96", after := #[{ on := 1, ground := Ground.data }], guard := none }) (v := ?_) rfl (by kernel_rfl) (by kernel_rfl) (by kernel_rfl) (fun _ _ _ h => h) (Or.inl ⟨by rfl, ?_⟩) (by assumption) ?_
  rotate_left 1
  · intro w' hSw; go_simp; try with_reducible rfl
  (try simp only [Act.put, List.setIfInBounds_toArray, List.set_cons_zero, List.set_cons_succ])
  refine wpAnyH_take (i := 3) (oi := { dst := some 44, op := Op.load 56 (Operand.tmp 43), type := 56, pos := "walk.go:96", after := #[{ on := 2, ground := Ground.data }], guard := none }) (v := ?_) rfl (by kernel_rfl) (by kernel_rfl) (by kernel_rfl) (fun _ _ _ h => h) (Or.inl ⟨by rfl, ?_⟩) (by assumption) ?_
  rotate_left 1
  · intro w' hSw; obtain ⟨s0, s1, s2, s3, _⟩ := hSw; go_simp; try with_reducible rfl
  (try simp only [Act.put, List.setIfInBounds_toArray, List.set_cons_zero, List.set_cons_succ])
  refine wpAnyH_take (i := 4) (oi := { dst := some 45, op := Op.fieldAddr 61 (Operand.tmp 5) 0, type := 0, pos := "walk.go:96", after := #[], guard := none }) (v := ?_) rfl (by kernel_rfl) (by kernel_rfl) (by kernel_rfl) (fun _ _ _ h => h) (Or.inl ⟨by rfl, ?_⟩) (by assumption) ?_
  rotate_left 1
  · intro w' hSw; go_simp; try with_reducible rfl
  (try simp only [Act.put, List.setIfInBounds_toArray, List.set_cons_zero, List.set_cons_succ])
  refine wpAnyH_take (i := 5) (oi := { dst := some 46, op := Op.load 56 (Operand.tmp 45), type := 56, pos := "walk.go:96", after := #[{ on := 4, ground := Ground.data }], guard := none }) (v := ?_) rfl (by kernel_rfl) (by kernel_rfl) (by kernel_rfl) (fun _ _ _ h => h) (Or.inl ⟨by rfl, ?_⟩) (by assumption) ?_
  rotate_left 1
  · intro w' hSw; obtain ⟨s0, s1, s2, s3, _⟩ := hSw; go_simp; try with_reducible rfl
  (try simp only [Act.put, List.setIfInBounds_toArray, List.set_cons_zero, List.set_cons_succ])
  refine wpAnyH_take (i := 6) (oi := { dst := some 47, op := Op.binOp BinOp.neq 56 (Operand.tmp 44) (Operand.tmp 46) 56, type := 4, pos := "walk.go:96", after := #[{ on := 3, ground := Ground.data }, { on := 5, ground := Ground.data }], guard := none }) (v := ?_) rfl (by kernel_rfl) (by kernel_rfl) (by kernel_rfl) (fun _ _ _ h => h) (Or.inl ⟨by rfl, ?_⟩) (by assumption) ?_
  rotate_left 1
  · intro w' hSw; have qq := Q w' hSw.2.2.2.2; go_simp; try with_reducible rfl
  (try simp only [Act.put, List.setIfInBounds_toArray, List.set_cons_zero, List.set_cons_succ])
  refine wpAnyH_take (i := 7) (oi := { dst := some 40, op := Op.assign (Operand.tmp 47), type := 4, pos := "walk.go:96", after := #[{ on := 6, ground := Ground.data }], guard := none }) (v := ?_) rfl (by kernel_rfl) (by kernel_rfl) (by kernel_rfl) (fun _ _ _ h => h) (Or.inl ⟨by rfl, ?_⟩) (by assumption) ?_
  rotate_left 1
  · intro w' hSw; go_simp; try with_reducible rfl
  (try simp only [Act.put, List.setIfInBounds_toArray, List.set_cons_zero, List.set_cons_succ])
  refine wpAnyH_done (by kernel_rfl) ?_ _
  clear hHeld
  go_wp2
  clear x0 x1 y0 y1 Q ne c2 d k0 k1
  go_region_held3 (fun V => V.rangeAt W.heap.size 2 (psL2 ps))
    (first | exact YR.out _ ((bel_drV (Below.refl _ _) _).drew) _ (gx_refl _ _) | exact YR.out _ ((bel_drV (Below.refl _ _) _).drew.drew) _ (gx_refl _ _) | exact SB.out)
    (first | (go_at_call 66; refine (KM.out _ (by first | exact (bel_drV (allocBP _ _) _).drew | exact (bel_drV (allocBP _ _) _).drew.drew)).mono ?_; rintro e w4 ⟨rfl, g4, m4⟩; have SB := Lib.hid (p := w4.rangeAt W.heap.size 2 (psL2 ps)) (YR.out _ (by first | exact (bel_drV (Below.refl _ _) _).drew | exact (bel_drV (Below.refl _ _) _).drew.drew) w4 g4); have M4 := Lib.hid m4; clear g4 m4))
  go_wp2
  go_ret
  first
    | exact M4.out _ (Below.refl _ _)
    | exact M4.out _ (drew1B _)
theorem hand_any {W : World} {B wb ab : Nat} {day : Int} {ca : Option Addr} {cc n : Nat} {G : Tg} {A : Nat → Option Nat} {l : Nat → Option Vs} {t tb : Nat} {s : Vs} {ps : Nat → Option Nat} (h : WkR W B wb ab day ca cc n G A l) (hB : B ≤ W.heap.size) (ht : t < n) (hs : s.ok) (hg : G s.st = some tb) (hp : SlR W B ps s.sl) :
    Calls Tryd.prog 45 #[.pointer (some ⟨wb, 0, none⟩), .int .i64 (t : Int), .agg (stA tb s.st.length ps)] W fun e w' => HdE W B wb ab day ca cc n G A l t s e w' := by
  cases hl : l t with
  | none => exact hand_nil h hB ht hl hs hg hp
  | some u =>
    by_cases e1 : u.st.length = s.st.length
    · by_cases e2 : u.st = s.st
      · exact hand_meet h hB ht hl e2 hs hg hp
      · exact hand_unlike h hB ht hl e1 e2 hg
    · exact hand_high h hB ht hl e1
end Go.Proofs.YtjbbbejadhojlaaDoor

namespace Go.Proofs.YtjbbbejadhojlaaDoor.Cal

/-- 1 in a leap year, else 0. -/
def lp (y : Int) : Int := if y % 4 = 0 ∧ (¬ y % 100 = 0 ∨ y % 400 = 0) then 1 else 0
/-- A month's length (1 to 12). -/
def len (y m : Int) : Int := if m = 2 then 28 + lp y else if m = 4 ∨ m = 6 ∨ m = 9 ∨ m = 11 then 30 else 31
def exB (y m d : Int) : Bool := decide (1900 ≤ y ∧ y ≤ 2199 ∧ 1 ≤ m ∧ m ≤ 12 ∧ 1 ≤ d ∧ d ≤ len y m)
/-- The number of a year's first day. -/
def ys (y : Int) : Int := 365 * (y - 1900) + ((y - 1) / 4 - (y - 1) / 100 + (y - 1) / 400) - 460
/-- The days of a year ahead of a month. -/
def cum (y m : Int) : Int :=
  if m ≤ 1 then 0 else if m = 2 then 31 else (if m = 3 then 59 else if m = 4 then 90 else if m = 5 then 120 else if m = 6 then 151 else if m = 7 then 181 else if m = 8 then 212
    else if m = 9 then 243 else if m = 10 then 273 else if m = 11 then 304 else if m = 12 then 334 else 365) + lp y
def num (y m d : Int) : Int := ys y + cum y m + d - 1

end Go.Proofs.YtjbbbejadhojlaaDoor.Cal

namespace Go.Proofs.YtjbbbejadhojlaaDoor
namespace Lx
set_option linter.unusedVariables false
set_option linter.unusedSimpArgs false

abbrev L := List UInt8
def smN (c : Nat) : Bool := decide (97 ≤ c) && decide (c ≤ 122)
def cpN (c : Nat) : Bool := decide (65 ≤ c) && decide (c ≤ 90)
def dgN (c : Nat) : Bool := decide (48 ≤ c) && decide (c ≤ 57)
def rnN (c : Nat) : Bool := smN c || cpN c || dgN c || decide (c = 95)
def blN (c : Nat) : Bool := decide (c = 32) || decide (c = 9) || decide (c = 10) || decide (c = 13)
def mkL : List Nat := [40, 41, 123, 125, 91, 93, 44, 59, 61, 43, 45, 42, 47, 37, 60, 62, 33, 63, 58]
def mkN (c : Nat) : Bool := decide (c ∈ mkL)
def unN (c : Nat) : Int := if c = 100 then 1 else if c = 119 then 2 else if c = 109 then 3 else if c = 121 then 4 else 0
def fitN (c f : Nat) : Bool := if f = 48 then dgN c else decide (c = f)
def form : List Nat := [48, 48, 48, 48, 45, 48, 48, 45, 48, 48]
/-- Begins with the form, and then no byte of a run. -/
def fits : List Nat → L → Bool
  | [], [] => true
  | [], c :: _ => !rnN c.toNat
  | _ :: _, [] => false
  | f :: fs, c :: r => fitN c.toNat f && fits fs r
def run (r : L) : L := r.takeWhile (fun c => rnN c.toNat)
def com (r : L) : Nat := (r.takeWhile (fun c => !decide (c.toNat = 10))).length
def prL : List (Nat × Nat) := [(46, 46), (60, 61), (62, 61), (61, 61), (33, 61), (38, 38), (124, 124)]
def pairN (a b : Nat) : Bool := decide ((a, b) ∈ prL)
def isPair : L → Bool
  | a :: b :: _ => pairN a.toNat b.toNat
  | _ => false
structure Tok where
  k : Int
  t : L
  a : Int
  num : Int
  y : Int
  m : Int
  d : Int
  n : Int
  u : Int
  deriving DecidableEq
inductive St where
  | skip (n : Nat)
  | tok (t : Tok)
  | err (s : Nat) (e : Int)
/-- A name's byte. -/
def nmN (p : Nat → Bool) (c : Nat) : Bool := p c || dgN c || decide (c = 95)
def nameI (p : Nat → Bool) (r : L) : Nat := (r.takeWhile (fun c => nmN p c.toNat)).length
def nameE (p : Nat → Bool) (r : L) : Nat × Int := if nameI p r < r.length then (nameI p r, 61) else if 31 < r.length then (0, 6) else (0, 0)
def allD (r : L) : Bool := r.all fun c => dgN c.toNat
def numO (d : L) : Option Int :=
  if (d.headD 0).toNat = 48 ∧ 1 < d.length then none
  else if allD d = true then (match Lib.atoiAll d with | .ok v => some v | _ => none) else none
def lastN (d : L) : Nat := (d.getLast?.getD 0).toNat
def digT (d : L) : St :=
  match numO (if unN (lastN d) = 0 then d else d.dropLast) with
  | none => .err 0 62
  | some n => if unN (lastN d) = 0 then .tok ⟨3, d, 0, n, 0, 0, 0, 0, 0⟩ else if n < 1 ∨ 999 < n then .err 0 62 else .tok ⟨5, d, 0, 0, 0, 0, 0, n, unN (lastN d)⟩
def dvL (l : L) : Int := l.foldl (fun a c => 10 * a + ((c.toNat : Int) - 48)) 0
def dY (r : L) : Int := dvL (r.take 4)
def dM (r : L) : Int := dvL ((r.drop 5).take 2)
def dD (r : L) : Int := dvL ((r.drop 8).take 2)
def datT (r : L) : St := if Cal.exB (dY r) (dM r) (dD r) = true then .tok ⟨4, r.take 10, 0, 0, dY r, dM r, dD r, 0, 0⟩ else .err 0 62
def namT (p : Nat → Bool) (k : Int) (d : L) : St := if (nameE p d).2 = 0 then .tok ⟨k, d, 0, 0, 0, 0, 0, 0, 0⟩ else .err (nameE p d).1 (nameE p d).2
def marT (r : L) : St := if isPair r = true then .tok ⟨6, r.take 2, 0, 0, 0, 0, 0, 0, 0⟩ else if mkN (r.headD 0).toNat = true then .tok ⟨6, r.take 1, 0, 0, 0, 0, 0, 0, 0⟩ else .err 0 61
def step (r : L) : St :=
  if blN (r.headD 0).toNat = true then .skip 1
  else if (r.headD 0).toNat = 35 then .skip (com r)
  else if fits form r = true then datT (r.take 10)
  else if dgN (r.headD 0).toNat = true then digT (run r)
  else if smN (r.headD 0).toNat = true then namT smN 1 (run r)
  else if cpN (r.headD 0).toNat = true then namT cpN 2 (run r)
  else marT r
/-- What a text from a place on is cut into. -/
inductive Sc : L → Nat → List Tok → Nat → Int → Prop
  | done (at_ : Nat) : Sc [] at_ [] 0 0
  | skip {r : L} {at_ n : Nat} {ts : List Tok} {p : Nat} {e : Int} (hr : r ≠ []) (h : step r = .skip n) (k : Sc (r.drop n) (at_ + n) ts p e) : Sc r at_ ts p e
  | tok {r : L} {at_ : Nat} {t : Tok} {ts : List Tok} {p : Nat} {e : Int} (hr : r ≠ []) (h : step r = .tok t) (k : Sc (r.drop t.t.length) (at_ + t.t.length) ts p e) : Sc r at_ ({ t with a := at_ } :: ts) p e
  | err {r : L} {at_ s : Nat} {e : Int} (hr : r ≠ []) (h : step r = .err s e) : Sc r at_ [] (at_ + s) e
theorem Sc.only {r : L} {at_ : Nat} {ts : List Tok} {p : Nat} {e : Int} (h : Sc r at_ ts p e) : ∀ {ts' : List Tok} {p' : Nat} {e' : Int}, Sc r at_ ts' p' e' → ts' = ts ∧ p' = p ∧ e' = e := by
  induction h with
  | done a => intro ts' p' e' h'; cases h' <;> first | exact ⟨rfl, rfl, rfl⟩ | (rename_i g _ _; exact absurd rfl g) | (rename_i g _; exact absurd rfl g) | simp_all
  | skip hr h k ih =>
    intro ts' p' e' h'
    cases h' with
    | done a => exact absurd rfl hr
    | skip hr' h' k' => rw [h] at h'; injection h' with h'; subst h'; exact ih k'
    | tok hr' h' k' => rw [h] at h'; cases h'
    | err hr' h' => rw [h] at h'; cases h'
  | tok hr h k ih =>
    intro ts' p' e' h'
    cases h' with
    | done a => exact absurd rfl hr
    | skip hr' h' k' => rw [h] at h'; cases h'
    | tok hr' h' k' => rw [h] at h'; injection h' with h'; subst h'; obtain ⟨rfl, rfl, rfl⟩ := ih k'; exact ⟨rfl, rfl, rfl⟩
    | err hr' h' => rw [h] at h'; cases h'
  | err hr h =>
    intro ts' p' e' h'
    cases h' with
    | done a => exact absurd rfl hr
    | skip hr' h' k' => rw [h] at h'; cases h'
    | tok hr' h' k' => rw [h] at h'; cases h'
    | err hr' h' => rw [h] at h'; injection h' with h1 h2; subst h1; subst h2; exact ⟨rfl, rfl, rfl⟩

theorem take_len (p : UInt8 → Bool) (r : L) : (r.takeWhile p).length ≤ r.length := (List.takeWhile_prefix p).length_le
theorem run_len (r : L) : (run r).length ≤ r.length := take_len _ r
theorem run_pos {r : L} (hr : r ≠ []) (h : rnN (r.headD 0).toNat = true) : 0 < (run r).length := by
  cases r with
  | nil => exact absurd rfl hr
  | cons c r => simp only [List.headD_cons] at h; simp [run, h]
theorem rn_dg {c : Nat} (h : dgN c = true) : rnN c = true := by unfold rnN; rw [h]; simp
theorem rn_sm {c : Nat} (h : smN c = true) : rnN c = true := by unfold rnN; rw [h]; simp
theorem rn_cp {c : Nat} (h : cpN c = true) : rnN c = true := by unfold rnN; rw [h]; simp
theorem fits_len : ∀ {fs : List Nat} {r : L}, fits fs r = true → fs.length ≤ r.length
  | [], r, h => Nat.zero_le _
  | f :: fs, [], h => by simp [fits] at h
  | f :: fs, c :: r, h => by simp only [fits, Bool.and_eq_true] at h; simp only [List.length_cons]; have := fits_len h.2; omega
/-- A token is what it stands on: its text is the text's beginning, not empty. -/
def Good (r : L) : St → Prop
  | .skip n => 0 < n ∧ n ≤ r.length
  | .tok t => 0 < t.t.length ∧ t.t = r.take t.t.length ∧ t.a = 0
  | .err s e => s < r.length ∧ e ≠ 0 ∧ (e = 6 ∨ e = 61 ∨ e = 62)
theorem take_eq (p : UInt8 → Bool) (r : L) : r.takeWhile p = r.take (r.takeWhile p).length := (List.prefix_iff_eq_take.1 (List.takeWhile_prefix p))
theorem run_eq (r : L) : run r = r.take (run r).length := take_eq _ r
theorem digT_good {r : L} (h0 : 0 < (run r).length) (hl : (run r).length ≤ r.length) : Good r (digT (run r)) := by
  unfold digT
  split
  · exact ⟨by omega, by omega, .inr (.inr rfl)⟩
  · split
    · exact ⟨h0, run_eq r, rfl⟩
    · split
      · exact ⟨by omega, by omega, .inr (.inr rfl)⟩
      · exact ⟨h0, run_eq r, rfl⟩
theorem namT_good {r : L} (p : Nat → Bool) (k : Int) (h0 : 0 < (run r).length) (hl : (run r).length ≤ r.length) : Good r (namT p k (run r)) := by
  unfold namT
  split
  · exact ⟨h0, run_eq r, rfl⟩
  · rename_i h
    unfold nameE at h ⊢
    split
    · exact ⟨by simp only; omega, by simp, .inr (.inl rfl)⟩
    · split
      · exact ⟨by simp only; omega, by simp, .inl rfl⟩
      · rename_i h1 h2; rw [if_neg h1, if_neg h2] at h; exact absurd rfl h
theorem marT_good {r : L} (hr : r ≠ []) : Good r (marT r) := by
  have : 0 < r.length := by cases r <;> simp_all
  unfold marT
  split
  · rename_i h
    have : 2 ≤ r.length := by
      match r, h with
      | a :: b :: q, h => simp
    exact ⟨by rw [List.length_take]; omega, by rw [List.length_take, Nat.min_eq_left this], rfl⟩
  · split
    · exact ⟨by rw [List.length_take]; omega, by rw [List.length_take, Nat.min_eq_left (by omega)], rfl⟩
    · exact ⟨by omega, by omega, .inr (.inl rfl)⟩
theorem datT_good {r : L} (h : fits form r = true) : Good r (datT (r.take 10)) := by
  have hl := fits_len h
  simp only [form, List.length_cons, List.length_nil] at hl
  unfold datT
  split
  · rename_i hx
    show 0 < ((r.take 10).take 10).length ∧ (r.take 10).take 10 = r.take ((r.take 10).take 10).length ∧ _
    rw [List.take_take, Nat.min_self, List.length_take, Nat.min_eq_left hl]
    exact ⟨by omega, rfl, rfl⟩
  · exact ⟨by omega, by omega, .inr (.inr rfl)⟩
theorem step_good {r : L} (hr : r ≠ []) : Good r (step r) := by
  have h0 : 0 < r.length := by cases r <;> simp_all
  unfold step
  split
  · exact ⟨by omega, by omega⟩
  · split
    · rename_i h
      refine ⟨?_, take_len _ r⟩
      cases r with
      | nil => exact absurd rfl hr
      | cons c q => simp only [List.headD_cons] at h; simp [com, h]
    · split
      · rename_i h; exact datT_good h
      · split
        · rename_i h; exact digT_good (run_pos hr (rn_dg h)) (run_len r)
        · split
          · rename_i h; exact namT_good _ _ (run_pos hr (rn_sm h)) (run_len r)
          · split
            · rename_i h; exact namT_good _ _ (run_pos hr (rn_cp h)) (run_len r)
            · exact marT_good hr

/-! With a blank behind. -/
theorem fitN_bl {c f : Nat} (hc : blN c = true) (hf : f = 48 ∨ f = 45) : fitN c f = false := by
  simp only [blN, Bool.or_eq_true, decide_eq_true_eq] at hc
  rcases hf with rfl | rfl <;> simp only [fitN, dgN] <;> rcases hc with ((rfl | rfl) | rfl) | rfl <;> rfl
theorem rnN_bl {c : Nat} (hc : blN c = true) : rnN c = false := by
  simp only [blN, Bool.or_eq_true, decide_eq_true_eq] at hc
  rcases hc with ((rfl | rfl) | rfl) | rfl <;> rfl
theorem fits_sep (b : UInt8) (q : L) (hb : blN b.toNat = true) : ∀ (fs : List Nat) (r : L), (∀ f ∈ fs, f = 48 ∨ f = 45) → fits fs (r ++ b :: q) = fits fs r
  | [], [], _ => by simp [fits, rnN_bl hb]
  | [], c :: r, _ => rfl
  | f :: fs, [], h => by simp [fits, fitN_bl hb (h f List.mem_cons_self)]
  | f :: fs, c :: r, h => by
    simp only [List.cons_append, fits]
    rw [fits_sep b q hb fs r (fun g hg => h g (List.mem_cons_of_mem _ hg))]
theorem takeW_sep (p : UInt8 → Bool) (b : UInt8) (q : L) (hb : p b = false) : ∀ r : L, (r ++ b :: q).takeWhile p = r.takeWhile p
  | [] => by simp [hb]
  | c :: r => by
    simp only [List.cons_append, List.takeWhile_cons]
    rw [takeW_sep p b q hb r]
theorem pair_bl {a b : Nat} (hb : blN b = true) : pairN a b = false := by
  simp only [blN, Bool.or_eq_true, decide_eq_true_eq] at hb
  unfold pairN prL
  rcases hb with ((rfl | rfl) | rfl) | rfl <;> simp
theorem isPair_sep (b : UInt8) (q : L) (hb : blN b.toNat = true) : ∀ r : L, r ≠ [] → isPair (r ++ b :: q) = isPair r
  | [], h => absurd rfl h
  | [c], _ => pair_bl hb
  | c :: d :: r, _ => rfl
theorem head_app {r q : L} (hr : r ≠ []) : (r ++ q).headD 0 = r.headD 0 := by cases r <;> simp_all
theorem form_ok : ∀ f ∈ form, f = 48 ∨ f = 45 := by decide
theorem marT_sep (b : UInt8) (q : L) (hb : blN b.toNat = true) {r : L} (hr : r ≠ []) : marT (r ++ b :: q) = marT r := by
  unfold marT
  rw [isPair_sep b q hb r hr, head_app hr]
  have h1 : (r ++ b :: q).take 1 = r.take 1 := by cases r <;> simp_all
  have h2 : isPair r = true → (r ++ b :: q).take 2 = r.take 2 := fun h => by
    match r, h with
    | x :: y :: z, h => simp
  split
  · rename_i h; rw [h2 h]
  · rw [h1]
theorem step_sep (b : UInt8) (q : L) (hb : blN b.toNat = true) {r : L} (hr : r ≠ []) (hc : b.toNat = 10 ∨ ∀ n, step r ≠ .skip n) : step (r ++ b :: q) = step r := by
  have hrun : run (r ++ b :: q) = run r := takeW_sep _ b q (rnN_bl hb) r
  have hcom : b.toNat = 10 → com (r ++ b :: q) = com r := fun h => by unfold com; rw [takeW_sep _ b q (by simp [h]) r]
  have hdat : fits form r = true → (r ++ b :: q).take 10 = r.take 10 := fun h => by
    have hl := fits_len h
    simp only [form, List.length_cons, List.length_nil] at hl
    rw [List.take_append_of_le_length (by omega)]
  unfold step
  rw [head_app hr, fits_sep b q hb form r form_ok, hrun, marT_sep b q hb hr]
  split
  · rfl
  · rename_i h1
    split
    · rename_i h2
      rcases hc with hc | hc
      · rw [hcom hc]
      · exact absurd (show step r = .skip (com r) by unfold step; rw [if_neg h1, if_pos h2]) (hc _)
    · split
      · rename_i h; rw [hdat h]
      · rfl
/-- With a line's end behind: what goes wrong goes wrong alike, what goes well goes on. -/
theorem Sc.more (q : L) {r : L} {at_ : Nat} {ts : List Tok} {p : Nat} {e : Int} (h : Sc r at_ ts p e) :
    (e ≠ 0 → Sc (r ++ 10 :: q) at_ ts p e) ∧ (e = 0 → ∀ ts' p' e', Sc q (at_ + r.length + 1) ts' p' e' → Sc (r ++ 10 :: q) at_ (ts ++ ts') p' e') := by
  induction h with
  | done a => exact ⟨fun h => absurd rfl h, fun _ ts' p' e' h => .skip (n := 1) (by simp) (by rfl) (by simpa using h)⟩
  | @skip r at_ n ts p e hr h k ih =>
    have g := step_good hr
    rw [h] at g
    have hs := step_sep 10 q rfl hr (.inl rfl)
    rw [h] at hs
    have hd : (r ++ 10 :: q).drop n = r.drop n ++ 10 :: q := by rw [List.drop_append_of_le_length g.2]
    refine ⟨fun he => .skip (by simp) hs (by rw [hd]; exact ih.1 he), fun he ts' p' e' k' => .skip (by simp) hs (by rw [hd]; refine ih.2 he _ _ _ ?_; rw [List.length_drop]; rw [show at_ + n + (r.length - n) + 1 = at_ + r.length + 1 by have := g.2; omega]; exact k')⟩
  | @tok r at_ t ts p e hr h k ih =>
    have g := step_good hr
    rw [h] at g
    have hl : t.t.length ≤ r.length := by have := congrArg List.length g.2.1; simp at this; omega
    have hs := step_sep 10 q rfl hr (.inl rfl)
    rw [h] at hs
    have hd : (r ++ 10 :: q).drop t.t.length = r.drop t.t.length ++ 10 :: q := by rw [List.drop_append_of_le_length hl]
    refine ⟨fun he => .tok (by simp) hs (by rw [hd]; exact ih.1 he), fun he ts' p' e' k' => .tok (by simp) hs (by rw [hd]; refine ih.2 he _ _ _ ?_; rw [List.length_drop]; rw [show at_ + t.t.length + (r.length - t.t.length) + 1 = at_ + r.length + 1 by omega]; exact k')⟩
  | @err r at_ s e hr h =>
    have g := step_good hr
    rw [h] at g
    have hs := step_sep 10 q rfl hr (.inl rfl)
    rw [h] at hs
    exact ⟨fun _ => .err (by simp) hs, fun he => absurd he g.2.1⟩
end Lx
end Go.Proofs.YtjbbbejadhojlaaDoor

namespace Go.Proofs.YtjbbbejadhojlaaDoor
open Go.RowKit Lx
set_option linter.unusedVariables false
set_option linter.unusedSimpArgs false

theorem smN_no1 {c : Nat} (h : ¬ 97 ≤ c) : smN c = false := by unfold smN; rw [decide_eq_false h]; rfl
theorem smN_at {c : Nat} (h : 97 ≤ c) : smN c = decide (c ≤ 122) := by unfold smN; rw [decide_eq_true h]; rfl
theorem cpN_no1 {c : Nat} (h : ¬ 65 ≤ c) : cpN c = false := by unfold cpN; rw [decide_eq_false h]; rfl
theorem cpN_at {c : Nat} (h : 65 ≤ c) : cpN c = decide (c ≤ 90) := by unfold cpN; rw [decide_eq_true h]; rfl
theorem isCapital_any (c : Nat) (w : World) : Calls Tryd.prog 75 #[.int .u8 (c : Int)] w fun e w' => e = .returned (.bool (cpN c)) ∧ w' = w := by
  by_cases h1 : 65 ≤ c
  · have h1' : (65 : Int) ≤ (c : Int) := by omega
    by_cases h2 : c ≤ 90
    · have h2' : (c : Int) ≤ 90 := by omega
      rw [cpN_at h1, decide_eq_true h2]
      clear h1 h2
      go_enter Tryd.func75, Tryd.ntmps75
      go_wp2
      go_ret
      exact ⟨rfl, rfl⟩
    · have h2' : ¬ (c : Int) ≤ 90 := by omega
      rw [cpN_at h1, decide_eq_false h2]
      clear h1 h2
      go_enter Tryd.func75, Tryd.ntmps75
      go_wp2
      go_ret
      exact ⟨rfl, rfl⟩
  · have h1' : decide ((65 : Int) ≤ (c : Int)) = false := decide_eq_false (by omega)
    rw [cpN_no1 h1]
    clear h1
    go_enter Tryd.func75, Tryd.ntmps75
    go_wp2
    go_ret
    exact ⟨rfl, rfl⟩
theorem dgN_no1 {c : Nat} (h : ¬ 48 ≤ c) : dgN c = false := by unfold dgN; rw [decide_eq_false h]; rfl
theorem dgN_at {c : Nat} (h : 48 ≤ c) : dgN c = decide (c ≤ 57) := by unfold dgN; rw [decide_eq_true h]; rfl
theorem isDigit_any (c : Nat) (w : World) : Calls Tryd.prog 89 #[.int .u8 (c : Int)] w fun e w' => e = .returned (.bool (dgN c)) ∧ w' = w := by
  by_cases h1 : 48 ≤ c
  · have h1' : (48 : Int) ≤ (c : Int) := by omega
    by_cases h2 : c ≤ 57
    · have h2' : (c : Int) ≤ 57 := by omega
      rw [dgN_at h1, decide_eq_true h2]
      clear h1 h2
      go_enter Tryd.func89, Tryd.ntmps89
      go_wp2
      go_ret
      exact ⟨rfl, rfl⟩
    · have h2' : ¬ (c : Int) ≤ 57 := by omega
      rw [dgN_at h1, decide_eq_false h2]
      clear h1 h2
      go_enter Tryd.func89, Tryd.ntmps89
      go_wp2
      go_ret
      exact ⟨rfl, rfl⟩
  · have h1' : decide ((48 : Int) ≤ (c : Int)) = false := decide_eq_false (by omega)
    rw [dgN_no1 h1]
    clear h1
    go_enter Tryd.func89, Tryd.ntmps89
    go_wp2
    go_ret
    exact ⟨rfl, rfl⟩
theorem castI {c k : Nat} (h : ¬ c = k) : ¬ (c : Int) = (k : Int) := by omega
end Go.Proofs.YtjbbbejadhojlaaDoor
