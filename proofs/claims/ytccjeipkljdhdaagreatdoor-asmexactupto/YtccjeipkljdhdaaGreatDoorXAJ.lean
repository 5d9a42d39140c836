import Derived.Test.YtccjeipkljdhdaaGreatDoorXAI
import Derived.Deep.MidRow
import Derived.OpenShut
import Derived.Lib.LaidTab
import Derived.Stop.LaidErr
namespace Go.Proofs.YtccjeipkljdhdaaGreatDoor
open Go.RowKit
set_option linter.unusedVariables false
set_option linter.unusedSimpArgs false

def al (a b ra rb : Int) : Bool := decide (0 ≤ a ∧ a ≤ ra ∧ 0 ≤ b ∧ b ≤ rb)
set_option maxHeartbeats 1000000 in
theorem allows_any (n : ByteArray) (o t p ra rb a b : Int) (h1 : 0 ≤ ra ∧ ra ≤ 262143) (h2 : 0 ≤ rb ∧ rb ≤ 3660) (w : World) :
    Calls Tryz.prog 49 #[rowV n o t p ra rb, .int .i64 a, .int .i64 b] w fun e w' => e = .returned (.bool (al a b ra rb)) ∧ Below w.heap.size w w' := by
  have q1 : IntKind.i64.wrap ra = ra := wrap_id (by omega)
  have q2 : IntKind.i64.wrap rb = rb := wrap_id (by omega)
  clear h1 h2
  have R := Lib.hid (p := al a b ra rb = decide (0 ≤ a ∧ a ≤ ra ∧ 0 ≤ b ∧ b ≤ rb)) rfl
  by_cases c0 : 0 ≤ a
  · by_cases c1 : a ≤ ra
    · by_cases c2 : 0 ≤ b
      · by_cases c3 : b ≤ rb
        · have R := Lib.hid (p := al a b ra rb = true) (by rw [R.out]; exact decide_eq_true ⟨c0, c1, c2, c3⟩)
          go_enter Tryz.func49, Tryz.ntmps49
          go_wp2
          go_ret
          exact ⟨by rw [R.out]; rfl, (Below.refl w.heap.size w).alloc (Nat.le_refl _) _⟩
        · have R := Lib.hid (p := al a b ra rb = false) (by rw [R.out]; exact decide_eq_false (fun q => c3 q.2.2.2))
          have c3' : decide (b ≤ rb) = false := decide_eq_false c3
          go_enter Tryz.func49, Tryz.ntmps49
          go_wp2
          go_ret
          exact ⟨by rw [R.out]; rfl, (Below.refl w.heap.size w).alloc (Nat.le_refl _) _⟩
      · have R := Lib.hid (p := al a b ra rb = false) (by rw [R.out]; exact decide_eq_false (fun q => c2 q.2.2.1))
        have c2' : decide (0 ≤ b) = false := decide_eq_false c2
        go_enter Tryz.func49, Tryz.ntmps49
        go_wp2
        go_ret
        exact ⟨by rw [R.out]; rfl, (Below.refl w.heap.size w).alloc (Nat.le_refl _) _⟩
    · have R := Lib.hid (p := al a b ra rb = false) (by rw [R.out]; exact decide_eq_false (fun q => c1 q.2.1))
      have c1' : decide (a ≤ ra) = false := decide_eq_false c1
      go_enter Tryz.func49, Tryz.ntmps49
      go_wp2
      go_ret
      exact ⟨by rw [R.out]; rfl, (Below.refl w.heap.size w).alloc (Nat.le_refl _) _⟩
  · have R := Lib.hid (p := al a b ra rb = false) (by rw [R.out]; exact decide_eq_false (fun q => c0 q.1))
    have c0' : decide (0 ≤ a) = false := decide_eq_false c0
    go_enter Tryz.func49, Tryz.ntmps49
    go_wp2
    go_ret
    exact ⟨by rw [R.out]; rfl, (Below.refl w.heap.size w).alloc (Nat.le_refl _) _⟩

/-- What Valid answers. -/
def okV (i : In) : Int := if i.okP then 0 else 111
theorem okV_pos {i : In} (h : i.okP) : okV i = 0 := if_pos h
theorem okV_neg {i : In} (h : ¬ i.okP) : okV i = 111 := if_neg h
theorem okV_in {k : Nat} (hk : k < 29) (a b : Int) : okV ⟨k, a, b⟩ = if al a b (baA k) (bbA k) = true then 0 else 111 := by
  by_cases h : 0 ≤ a ∧ a ≤ (baA k : Int) ∧ 0 ≤ b ∧ b ≤ (bbA k : Int)
  · rw [if_pos (show al a b (baA k) (bbA k) = true from decide_eq_true h)]
    exact okV_pos ⟨by simp, by simp; omega, h.1, by simpa using h.2.1, h.2.2.1, by simpa using h.2.2.2⟩
  · rw [if_neg (show ¬ al a b (baA k) (bbA k) = true from fun q => h (of_decide_eq_true q))]
    exact okV_neg (fun q => h ⟨q.2.2.1, by simpa using q.2.2.2.1, q.2.2.2.2.1, by simpa using q.2.2.2.2.2⟩)
theorem okV_out {o : Int} (h : o < 0 ∨ 29 ≤ o) (a b : Int) : okV ⟨o, a, b⟩ = 111 :=
  okV_neg (fun q => by have h1 : 0 ≤ o := q.1; have h2 : o < 29 := q.2.1; omega)
set_option maxHeartbeats 1000000 in
theorem valid_any (o a b : Int) (w : World) (hR : Rws w) :
    Calls Tryz.prog 23 #[.agg #[.int .i64 o, .int .i64 a, .int .i64 b]] w fun e w' => e = .returned (.int .i64 (okV ⟨o, a, b⟩)) ∧ Below w.heap.size w w' := by
  obtain ⟨n, on, t, p, ra, rb, er, hE⟩ := row_ex o
  have sm := hE.small
  have KR := Lib.hid (rowOf_any hE (w.alloc (.cells #[.int .i64 o, .int .i64 a, .int .i64 b] 42)) (hR.alloc _))
  have A := Lib.hid ((Below.refl w.heap.size w).alloc (Nat.le_refl _) (.cells #[.int .i64 o, .int .i64 a, .int .i64 b] 42))
  have KA := Lib.hid (fun W => allows_any n on t p ra rb a b sm.2.2.2.1 sm.2.2.2.2.1 W)
  have CB := Lib.hid (p := ∀ w1, Below (w.alloc (.cells #[.int .i64 o, .int .i64 a, .int .i64 b] 42)).heap.size (w.alloc (.cells #[.int .i64 o, .int .i64 a, .int .i64 b] 42)) w1 → (∀ o, (w1.alloc o).cell? ⟨w.heap.size, 1, none⟩ = some (.int .i64 a)) ∧ (∀ o, (w1.alloc o).cell? ⟨w.heap.size, 2, none⟩ = some (.int .i64 b))) (fun w1 h => ⟨fun o => (((Below.refl w1.heap.size w1).alloc (Nat.le_refl _) o).cell (p := ⟨w.heap.size, 1, none⟩) (Nat.lt_of_lt_of_le (by simp) h.size)).trans ((h.cell (p := ⟨w.heap.size, 1, none⟩) (by simp)).trans (by simp)), fun o => (((Below.refl w1.heap.size w1).alloc (Nat.le_refl _) o).cell (p := ⟨w.heap.size, 2, none⟩) (Nat.lt_of_lt_of_le (by simp) h.size)).trans ((h.cell (p := ⟨w.heap.size, 2, none⟩) (by simp)).trans (by simp))⟩)
  have SZ := Lib.hid (p := ∀ w1, Below (w.alloc (.cells #[.int .i64 o, .int .i64 a, .int .i64 b] 42)).heap.size (w.alloc (.cells #[.int .i64 o, .int .i64 a, .int .i64 b] 42)) w1 → ¬ w.heap.size = w1.heap.size ∧ ¬ w1.heap.size = w.heap.size) (fun w1 h => by have := h.size; simp at this; omega)
  rcases hE.say with ⟨k, hk, rfl, e1, e2, e3, e4, rfl, rfl, rfl⟩ | ⟨hr, e1, e2, e3, e4, e5, e6, rfl⟩
  · rw [okV_in hk]
    clear hR hE sm e1 e2 e3 e4
    generalize ((baA k : Nat) : Int) = ra at *
    generalize ((bbA k : Nat) : Int) = rb at *
    cases hv : al a b ra rb with
    | true =>
      rw [hv] at KA
      go_enter Tryz.func23, Tryz.ntmps23
      go_wp2_with (first
        | (go_at_call 48; refine KR.out.mono ?_; rintro e w1 ⟨rfl, h1⟩; have B1 := Lib.hid (A.out.trans (h1.mono A.out.size)); obtain ⟨d1, d2⟩ := CB.out w1 h1; obtain ⟨n1, n2⟩ := SZ.out w1 h1; clear h1)
        | (go_at_call 49; refine (KA.out _).mono ?_; rintro e w2 ⟨rfl, h2⟩; have B2 := Lib.hid ((B1.out.alloc B1.out.size _).trans (h2.mono (by have := B1.out.size; simp; omega))); clear h2))
      go_ret
      exact ⟨rfl, B2.out⟩
    | false =>
      rw [hv] at KA
      go_enter Tryz.func23, Tryz.ntmps23
      go_wp2_with (first
        | (go_at_call 48; refine KR.out.mono ?_; rintro e w1 ⟨rfl, h1⟩; have B1 := Lib.hid (A.out.trans (h1.mono A.out.size)); obtain ⟨d1, d2⟩ := CB.out w1 h1; obtain ⟨n1, n2⟩ := SZ.out w1 h1; clear h1)
        | (go_at_call 49; refine (KA.out _).mono ?_; rintro e w2 ⟨rfl, h2⟩; have B2 := Lib.hid ((B1.out.alloc B1.out.size _).trans (h2.mono (by have := B1.out.size; simp; omega))); clear h2))
      go_ret
      exact ⟨rfl, B2.out⟩
  · rw [okV_out hr]
    clear hR hE sm hr e1 e2 e3 e4 e5 e6
    go_enter Tryz.func23, Tryz.ntmps23
    go_wp2_with (first
      | (go_at_call 48; refine KR.out.mono ?_; rintro e w1 ⟨rfl, h1⟩; have B1 := Lib.hid (A.out.trans (h1.mono A.out.size)); obtain ⟨d1, d2⟩ := CB.out w1 h1; obtain ⟨n1, n2⟩ := SZ.out w1 h1; clear h1))
    go_ret
    exact ⟨rfl, B1.out.alloc B1.out.size _⟩
theorem wi_al {k : Nat} (hk : k < 29) (a b : Int) : (wi a (rfs k).a && wi b (rfs k).b) = al a b (baA k) (bbA k) := by
  obtain ⟨t1, t2, t3, t4, t5, t6, t7⟩ := tab_facts k hk
  unfold wi al rfs
  rw [Bool.eq_iff_iff]
  simp only [Bool.and_eq_true, decide_eq_true_eq]
  by_cases h1 : 1 ≤ onA k
  · by_cases h2 : 2 ≤ onA k
    · simp only [h1, h2, if_true]
      rw [if_neg (by omega), if_neg (by omega)]
      omega
    · have := t7 (by omega)
      simp only [h1, h2, if_true, if_false]
      rw [if_neg (by omega), if_pos (by omega)]
      omega
  · have := t6 (by omega)
    have := t7 (by omega)
    simp only [h1, show ¬ 2 ≤ onA k by omega, if_false]
    rw [if_pos (by omega), if_pos (by omega)]
    omega
set_option maxHeartbeats 1000000 in
theorem refValid_any (o a b : Int) (w : World) :
    Calls Tryz.prog 60 #[.agg #[.int .i64 o, .int .i64 a, .int .i64 b]] w fun e w' => e = .returned (.int .i64 (okV ⟨o, a, b⟩)) ∧ Below w.heap.size w w' := by
  obtain ⟨n, ra, rb, t, p, er, hE⟩ := ref_ex o
  have KR := Lib.hid (refRow_any hE (w.alloc (.cells #[.int .i64 o, .int .i64 a, .int .i64 b] 42)))
  have A := Lib.hid ((Below.refl w.heap.size w).alloc (Nat.le_refl _) (.cells #[.int .i64 o, .int .i64 a, .int .i64 b] 42))
  have CB := Lib.hid (p := ∀ w1, Below (w.alloc (.cells #[.int .i64 o, .int .i64 a, .int .i64 b] 42)).heap.size (w.alloc (.cells #[.int .i64 o, .int .i64 a, .int .i64 b] 42)) w1 → (∀ o, (w1.alloc o).cell? ⟨w.heap.size, 1, none⟩ = some (.int .i64 a)) ∧ (∀ o, (w1.alloc o).cell? ⟨w.heap.size, 2, none⟩ = some (.int .i64 b))) (fun w1 h => ⟨fun o => (((Below.refl w1.heap.size w1).alloc (Nat.le_refl _) o).cell (p := ⟨w.heap.size, 1, none⟩) (Nat.lt_of_lt_of_le (by simp) h.size)).trans ((h.cell (p := ⟨w.heap.size, 1, none⟩) (by simp)).trans (by simp)), fun o => (((Below.refl w1.heap.size w1).alloc (Nat.le_refl _) o).cell (p := ⟨w.heap.size, 2, none⟩) (Nat.lt_of_lt_of_le (by simp) h.size)).trans ((h.cell (p := ⟨w.heap.size, 2, none⟩) (by simp)).trans (by simp))⟩)
  have SZ := Lib.hid (p := ∀ w1, Below (w.alloc (.cells #[.int .i64 o, .int .i64 a, .int .i64 b] 42)).heap.size (w.alloc (.cells #[.int .i64 o, .int .i64 a, .int .i64 b] 42)) w1 → ¬ w.heap.size = w1.heap.size ∧ ¬ w1.heap.size = w.heap.size) (fun w1 h => by have := h.size; simp at this; omega)
  rcases hE.say with ⟨k, hk, rfl, e1, rfl, rfl, e2, e3, rfl⟩ | ⟨hr, e1, e2, e3, e4, e5, rfl⟩
  · rw [okV_in hk, ← wi_al hk]
    have KA := Lib.hid (fun W => within_any a (rfs k).a W)
    have KB := Lib.hid (fun W => within_any b (rfs k).b W)
    clear hE e1 e2 e3
    generalize (rfs k).a = ra at *
    generalize (rfs k).b = rb at *
    cases hv : wi a ra <;> cases hu : wi b rb
    all_goals
      rw [hv] at KA
      rw [hu] at KB
      have P0 : True := trivial
      go_enter Tryz.func60, Tryz.ntmps60
      go_wp2_with (first
        | (go_at_call 90; refine KR.out.mono ?_; rintro e w1 ⟨rfl, h1⟩; have B1 := Lib.hid (A.out.trans (h1.mono A.out.size)); obtain ⟨d1, d2⟩ := CB.out w1 h1; obtain ⟨n1, n2⟩ := SZ.out w1 h1; clear h1)
        | (go_at_call 91; have qq := P0; refine (KA.out _).mono ?_; rintro e w2 ⟨rfl, h2⟩; subst h2; clear P0)
        | (go_at_call 91; refine (KB.out _).mono ?_; rintro e w2 ⟨rfl, h2⟩; subst h2))
      go_ret
      exact ⟨rfl, B1.out.alloc B1.out.size _⟩
  · rw [okV_out hr]
    clear hE hr e1 e2 e3 e4 e5
    go_enter Tryz.func60, Tryz.ntmps60
    go_wp2_with (first
      | (go_at_call 90; refine KR.out.mono ?_; rintro e w1 ⟨rfl, h1⟩; have B1 := Lib.hid (A.out.trans (h1.mono A.out.size)); obtain ⟨d1, d2⟩ := CB.out w1 h1; obtain ⟨n1, n2⟩ := SZ.out w1 h1; clear h1))
    go_ret
    exact ⟨rfl, B1.out.alloc B1.out.size _⟩
end Go.Proofs.YtccjeipkljdhdaaGreatDoor

namespace Go.Proofs.YtccjeipkljdhdaaGreatDoor
open Go.ChangeShapes Go.WideShapes Go.ChangeAt Go.RowKit
set_option linter.unusedVariables false
set_option linter.unusedSimpArgs false

theorem trod_row6 {H : Type} {enc : TypeId × Value → H} {P : Program} {W : World} {base : Nat} {sp : Nat → Bool} {held : Bool} {t s u i : TypeId} {fs : Array Field} {fuel : Nat} {n : List UInt8} {v1 v2 v3 v4 v5 : Int} {x : DataW H × List MemPlace} {cs : List Value}
    (ht : P.underlying t = some (.struct fs)) (hfs : fs.toList.map (fun f => (f.type, f.offset)) = [(s, 0), (u, 1), (u, 2), (u, 3), (i, 4), (i, 5)]) (hs : P.underlying s = some .string) (hu : P.underlying u = some (.int .u8)) (hi : P.underlying i = some (.int .i32)) (hcs : P.cellsOf s = 1) (hcu : P.cellsOf u = 1) (hci : P.cellsOf i = 1) (hct : P.cellsOf t = 6)
    (h : DataW.trod enc P W base sp held fuel t cs = some x) (hx1 : x.1 = .agg [.lit (.string n), .lit (.int .u8 v1), .lit (.int .u8 v2), .lit (.int .u8 v3), .lit (.int .i32 v4), .lit (.int .i32 v5)]) : cs = [.string ⟨n.toArray⟩, .int .u8 v1, .int .u8 v2, .int .u8 v3, .int .i32 v4, .int .i32 v5] := by
  obtain ⟨xs, m, _, hx, hl, hlen, hfld⟩ := DataW.trod_struct ht h
  rw [hct] at hl
  obtain ⟨c0, c1, c2, c3, c4, c5, rfl⟩ : ∃ a b c d e f, cs = [a, b, c, d, e, f] := by
    match cs, hl with
    | [a, b, c, d, e, f], _ => exact ⟨a, b, c, d, e, f, rfl⟩
  have h3 : fs.size = 6 := by have := congrArg List.length hfs; simpa using this
  have fat : ∀ j (hj : j < 6), ∃ f, fs[j]? = some f ∧ (f.type, f.offset) = [(s, 0), (u, 1), (u, 2), (u, 3), (i, 4), (i, 5)][j] := fun j hj => by
    refine ⟨fs[j]'(by omega), by simp [show j < fs.size by omega], ?_⟩
    have : (fs.toList.map (fun f => (f.type, f.offset)))[j]? = [(s, 0), (u, 1), (u, 2), (u, 3), (i, 4), (i, 5)][j]? := by rw [hfs]
    simpa [show j < fs.size by omega, hj] using this
  obtain ⟨f0, g0, e0⟩ := fat 0 (by omega)
  obtain ⟨f1, g1, e1⟩ := fat 1 (by omega)
  obtain ⟨f2, g2, e2⟩ := fat 2 (by omega)
  obtain ⟨f3, g3, e3⟩ := fat 3 (by omega)
  obtain ⟨f4, g4, e4⟩ := fat 4 (by omega)
  obtain ⟨f5, g5, e5⟩ := fat 5 (by omega)
  obtain ⟨y0, y1, y2, y3, y4, y5, rfl⟩ : ∃ a b c d e f, xs = [a, b, c, d, e, f] := by
    have : xs.length = 6 := by omega
    match xs, this with
    | [a, b, c, d, e, f], _ => exact ⟨a, b, c, d, e, f, rfl⟩
  have k0 := hfld 0 f0 g0
  have k1 := hfld 1 f1 g1
  have k2 := hfld 2 f2 g2
  have k3 := hfld 3 f3 g3
  have k4 := hfld 4 f4 g4
  have k5 := hfld 5 f5 g5
  simp at e0 e1 e2 e3 e4 e5
  simp only [List.getElem?_cons_zero, List.getElem?_cons_succ] at k0 k1 k2 k3 k4 k5
  rw [e0.1, e0.2, hcs] at k0
  rw [e1.1, e1.2, hcu] at k1
  rw [e2.1, e2.2, hcu] at k2
  rw [e3.1, e3.2, hcu] at k3
  rw [e4.1, e4.2, hci] at k4
  rw [e5.1, e5.2, hci] at k5
  obtain ⟨z0, r0, q0, _⟩ := DataW.trod_string hs k0
  obtain ⟨z1, r1, q1, _⟩ := DataW.trod_int hu k1
  obtain ⟨z2, r2, q2, _⟩ := DataW.trod_int hu k2
  obtain ⟨z3, r3, q3, _⟩ := DataW.trod_int hu k3
  obtain ⟨z4, r4, q4, _⟩ := DataW.trod_int hi k4
  obtain ⟨z5, r5, q5, _⟩ := DataW.trod_int hi k5
  simp at r0 r1 r2 r3 r4 r5
  subst r0 r1 r2 r3 r4 r5
  rw [hx] at hx1
  simp only [List.map_cons, List.map_nil, DataW.agg.injEq, List.cons.injEq, and_true] at hx1
  rw [q0, q1, q2, q3, q4, q5] at hx1
  simp at hx1
  obtain ⟨e0, e1, e2, e3, e4, e5⟩ := hx1
  subst e0 e1 e2 e3 e4 e5
  simp
/-- A row, as the list says it. -/
def rowD {H : Type} (k : Nat) : DataW H := .agg [.lit (.string (nmA k).data.toList), .lit (.int .u8 (onA k : Int)), .lit (.int .u8 (tkA k : Int)), .lit (.int .u8 (ptA k : Int)), .lit (.int .i32 (baA k : Int)), .lit (.int .i32 (bbA k : Int))]
theorem laid_rows {H : Type} : (Rows.laid_payoff_code_rows : DataW H) = .agg ((List.range 29).map rowD) := rfl
theorem rws_of_laid {w : World} {rest : List (String × DataW Unit)} (h : laidMet Tryz.prog (("payoff/code.rows", Rows.laid_payoff_code_rows) :: rest) w) : Rws w := by
  have hg : Tryz.prog.globalNamed "payoff/code.rows" = some 3 := by kernel_rfl
  have hty : (Tryz.prog.globals[3]?).map (·.type) = some 128 := by kernel_rfl
  obtain ⟨ps, ⟨g', t', cs, fuel, p, q, hg', ht', hvar, hd, _, _⟩, _⟩ := h
  obtain rfl := Option.some.inj (hg.symm.trans hg')
  obtain rfl := Option.some.inj (hty.symm.trans ht')
  rw [laid_rows] at hd
  obtain ⟨xs, m, _, hx, hl, hlen, hel⟩ := DataW.trod_array Tryz.underlying128 hd
  rw [show Tryz.prog.cellsOf 128 = 174 by kernel_rfl] at hl
  rw [show Tryz.prog.cellsOf 90 = 6 by kernel_rfl] at hel
  have hx1 : xs.map (·.1) = (List.range 29).map rowD := by
    have := congrArg Prod.fst hx
    simp only [DataW.agg.injEq] at this
    exact this.symm
  have key : ∀ k, k < 29 → (cs.toList.drop (k * 6)).take 6 = [.string (nmA k), .int .u8 (onA k : Int), .int .u8 (tkA k : Int), .int .u8 (ptA k : Int), .int .i32 (baA k : Int), .int .i32 (bbA k : Int)] := by
    intro k hk
    have h1 := hel k hk
    have hk' : k < xs.length := by omega
    rw [List.getElem?_eq_getElem hk'] at h1
    have h2 : (xs[k]).1 = rowD k := by
      have : (xs.map (·.1))[k]? = ((List.range 29).map rowD)[k]? := by rw [hx1]
      simpa [hk', hk] using this
    have h3 := trod_row6 (t := 90) (s := 9) (u := 5) (i := 21) Tryz.underlying90 rfl Tryz.underlying9 Tryz.underlying5 Tryz.underlying21 (by kernel_rfl) (by kernel_rfl) (by kernel_rfl) (by kernel_rfl) h1 h2
    rw [h3]
  have cell : ∀ k, k < 29 → ∀ j, j < 6 → w.cell? ⟨3, k * 6 + j, none⟩ = [Value.string (nmA k), .int .u8 (onA k : Int), .int .u8 (tkA k : Int), .int .u8 (ptA k : Int), .int .i32 (baA k : Int), .int .i32 (bbA k : Int)][j]? := by
    intro k hk j hj
    rw [World.var?_cell hg hvar (k * 6 + j), ← key k hk, List.getElem?_take_of_lt hj, List.getElem?_drop]
    simp
  have lt : 3 < w.heap.size := by
    have c0 := cell 0 (by omega) 0 (by omega)
    unfold World.cell? at c0
    by_cases g : 3 < w.heap.size
    · exact g
    · rw [Array.getElem?_eq_none (by show w.heap.size ≤ 3; omega)] at c0
      simp at c0
  exact ⟨lt, fun k hk => ⟨cell k hk 0 (by omega), cell k hk 1 (by omega), cell k hk 2 (by omega), cell k hk 3 (by omega), cell k hk 4 (by omega), cell k hk 5 (by omega)⟩⟩

/-- The instruction that was handed over, in its box. -/
structure Bx3 (w W : World) (x0 x1 x2 : Int) : Prop where
  a0 : W.cell? ⟨w.heap.size, 0, none⟩ = some (.int .i64 x0)
  a1 : W.cell? ⟨w.heap.size, 1, none⟩ = some (.int .i64 x1)
  a2 : W.cell? ⟨w.heap.size, 2, none⟩ = some (.int .i64 x2)
  bel : Below w.heap.size w W
  sz : w.heap.size + 1 ≤ W.heap.size
theorem Bx3.later {w W W' : World} {x0 x1 x2 : Int} (h : Bx3 w W x0 x1 x2) (b : Below W.heap.size W W') : Bx3 w W' x0 x1 x2 :=
  have z := h.sz
  have k := fun (o : Nat) (v : Value) (e : W.cell? ⟨w.heap.size, o, none⟩ = some v) => (b.cell (p := ⟨w.heap.size, o, none⟩) (by show w.heap.size < _; omega)).trans e
  ⟨k 0 _ h.a0, k 1 _ h.a1, k 2 _ h.a2, h.bel.trans (b.mono (by omega)), by have := b.size; omega⟩
theorem Bx3.first (w : World) (x0 x1 x2 : Int) : Bx3 w (w.alloc (.cells #[.int .i64 x0, .int .i64 x1, .int .i64 x2] 42)) x0 x1 x2 :=
  ⟨by go_simp, by go_simp, by go_simp, (Below.refl _ _).alloc (Nat.le_refl _) _, by simp⟩
theorem same_in {op : Int} {n n' : ByteArray} {o t p a b er ra rb t' p' er' : Int} (h : RowE op n o t p a b er) (k : RefE op n' ra rb t' p' er') : n' = n ∧ t' = t ∧ p' = p ∧ er' = er ∧ opsR ra rb er' = o := by
  rcases h.say with ⟨j, hj, rfl, rfl, rfl, rfl, rfl, rfl, rfl, rfl⟩ | ⟨hr, rfl, rfl, rfl, rfl, rfl, rfl, rfl⟩
  · rcases k.say with ⟨i, hi, e, rfl, rfl, rfl, rfl, rfl, rfl⟩ | ⟨hr, _⟩
    · obtain rfl : j = i := by omega
      refine ⟨rfl, rfl, rfl, rfl, ?_⟩
      obtain ⟨t1, t2, t3, _⟩ := tab_facts j hj
      unfold opsR rfs
      simp only [ne_eq, not_true_eq_false, if_false]
      by_cases h1 : 1 ≤ onA j <;> by_cases h2 : 2 ≤ onA j
      all_goals simp only [h1, h2, if_true, if_false]
      all_goals repeat first | rw [if_pos (by omega)] | rw [if_neg (by omega)]
      all_goals omega
    · omega
  · rcases k.say with ⟨i, hi, e, _⟩ | ⟨_, rfl, rfl, rfl, rfl, rfl, rfl⟩
    · omega
    · exact ⟨rfl, rfl, rfl, rfl, rfl⟩
end Go.Proofs.YtccjeipkljdhdaaGreatDoor

namespace Go.Proofs.YtccjeipkljdhdaaGreatDoor
open Go.RowKit
set_option linter.unusedVariables false
set_option linter.unusedSimpArgs false

/-- What Find answers. -/
def FnE (s : ByteArray) (i er : Int) : Prop := (∃ k : Nat, k < 29 ∧ nmA k = s ∧ i = (k : Int) ∧ er = 0) ∨ ((∀ k : Nat, k < 29 → nmA k ≠ s) ∧ i = 0 ∧ er = 111)
theorem nm_one {k j : Nat} (hk : k < 29) (hj : j < 29) (h : nmA k = nmA j) : k = j := by
  by_cases e : k = j
  · exact e
  · exact absurd (by rw [h]) (nm_ne k hk j hj e)
theorem FnE.one {s : ByteArray} {i er i' er' : Int} (h : FnE s i er) (k : FnE s i' er') : i = i' ∧ er = er' := by
  rcases h with ⟨a, ha, e, rfl, rfl⟩ | ⟨hn, rfl, rfl⟩
  · rcases k with ⟨b, hb, e', rfl, rfl⟩ | ⟨hn, _⟩
    · rw [nm_one ha hb (e.trans e'.symm)]; exact ⟨rfl, rfl⟩
    · exact absurd e (hn a ha)
  · rcases k with ⟨b, hb, e', _⟩ | ⟨_, rfl, rfl⟩
    · exact absurd e' (hn b hb)
    · exact ⟨rfl, rfl⟩
theorem bytes_eq {a b : ByteArray} (h : a.toList = b.toList) : a = b := by
  obtain ⟨⟨l⟩⟩ := a
  obtain ⟨⟨m⟩⟩ := b
  rw [ByteArray.toList_mk, ByteArray.toList_mk] at h
  subst h
  rfl
/-- The whole table, as a value. -/
def tabC : List Value := (List.range 29).flatMap fun k => [Value.string (nmA k), .int .u8 (onA k : Int), .int .u8 (tkA k : Int), .int .u8 (ptA k : Int), .int .i32 (baA k : Int), .int .i32 (bbA k : Int)]
theorem tabC_part : ∀ k, k < 29 → List.take 6 (List.drop (k * 6) tabC) = [Value.string (nmA k), .int .u8 (onA k : Int), .int .u8 (tkA k : Int), .int .u8 (ptA k : Int), .int .i32 (baA k : Int), .int .i32 (bbA k : Int)]
  | 0, _ => by kernel_rfl
  | 1, _ => by kernel_rfl
  | 2, _ => by kernel_rfl
  | 3, _ => by kernel_rfl
  | 4, _ => by kernel_rfl
  | 5, _ => by kernel_rfl
  | 6, _ => by kernel_rfl
  | 7, _ => by kernel_rfl
  | 8, _ => by kernel_rfl
  | 9, _ => by kernel_rfl
  | 10, _ => by kernel_rfl
  | 11, _ => by kernel_rfl
  | 12, _ => by kernel_rfl
  | 13, _ => by kernel_rfl
  | 14, _ => by kernel_rfl
  | 15, _ => by kernel_rfl
  | 16, _ => by kernel_rfl
  | 17, _ => by kernel_rfl
  | 18, _ => by kernel_rfl
  | 19, _ => by kernel_rfl
  | 20, _ => by kernel_rfl
  | 21, _ => by kernel_rfl
  | 22, _ => by kernel_rfl
  | 23, _ => by kernel_rfl
  | 24, _ => by kernel_rfl
  | 25, _ => by kernel_rfl
  | 26, _ => by kernel_rfl
  | 27, _ => by kernel_rfl
  | 28, _ => by kernel_rfl
  | n + 29, h => absurd h (by omega)
theorem tabC_len : tabC.length = 174 := by kernel_rfl
theorem tabC_at (k : Nat) (hk : k < 29) (j : Nat) (hj : j < 6) : tabC[k * 6 + j]? = [Value.string (nmA k), .int .u8 (onA k : Int), .int .u8 (tkA k : Int), .int .u8 (ptA k : Int), .int .i32 (baA k : Int), .int .i32 (bbA k : Int)][j]? := by
  rw [← tabC_part k hk, List.getElem?_take_of_lt hj, List.getElem?_drop]
theorem Rws.range {w : World} (h : Rws w) : w.rangeAt 3 0 tabC := by
  intro j v hv
  have hj : j < 174 := by have := (List.getElem?_eq_some_iff.1 hv).1; rw [tabC_len] at this; exact this
  obtain ⟨k, m, hk, hm, rfl⟩ : ∃ k m, k < 29 ∧ m < 6 ∧ j = k * 6 + m := ⟨j / 6, j % 6, by omega, by omega, by omega⟩
  rw [tabC_at k hk m hm] at hv
  rw [Nat.zero_add, ← hv]
  obtain ⟨c0, c1, c2, c3, c4, c5⟩ := h.2 k hk
  have hh : m = 0 ∨ m = 1 ∨ m = 2 ∨ m = 3 ∨ m = 4 ∨ m = 5 := by omega
  rcases hh with rfl | rfl | rfl | rfl | rfl | rfl
  · exact c0
  · exact c1
  · exact c2
  · exact c3
  · exact c4
  · exact c5
theorem load_tab {ops : Array Oper} {rest : List Oper} {op : Oper} {a : Act} {w : World} {Q : Exit → Act → World → Prop} (hgd : op.guard = none) (x : Operand) (ho : op.op = .load 128 x) (hx : a.eval x = .pointer (some ⟨3, 0, none⟩)) (hR : Rws w) (h : wpList Tryz.prog ops Q rest (a.put op.dst (.agg tabC.toArray)) w) : wpList Tryz.prog ops Q (op :: rest) a w :=
  wpList_load_mid hgd 128 x ho 3 0 hx tabC _ hR.range Tryz.underlying128 rfl (by rw [tabC_len]; kernel_rfl) h
theorem index_tab {k : Nat} (hk : k < 29) (W : World) : (Instr.index 128 (.agg tabC.toArray) (.int .i64 (k : Int))).run Tryz.prog W = .ok (rowV (nmA k) (onA k : Int) (tkA k : Int) (ptA k : Int) (baA k : Int) (bbA k : Int)) W := by
  have h1 : (0 : Int) ≤ (k : Int) ∧ (k : Int) < ((29 : Nat) : Int) := by omega
  obtain ⟨i, hi, hs⟩ : ∃ i, Tryz.prog.info? 90 = some i ∧ i.size = 6 := by
    have : (Tryz.prog.info? 90).map (·.size) = some 6 := by kernel_rfl
    cases hq : Tryz.prog.info? 90 with
    | none => rw [hq] at this; cases this
    | some i => rw [hq] at this; exact ⟨i, rfl, by simpa using this⟩
  have hagg : (isAgg 90).run Tryz.prog W = .ok true W := by
    unfold isAgg
    rw [Sem.run_bind, run_underlying Tryz.underlying90 W]
    simp
  simp [Instr.index, run_underlying Tryz.underlying128, asIntOf, h1, sizeOf, typeInfo, hi, hs, part, Sem.run_bind, hagg, hk, tabC_part k hk]
set_option maxRecDepth 100000 in
set_option maxHeartbeats 2000000 in
theorem find_any (s : ByteArray) (i er : Int) (hF : FnE s i er) (w : World) (hR : Rws w) :
    Calls Tryz.prog 115 #[.string s] w fun e w' => e = .returned (.tuple #[.int .i64 i, .int .i64 er]) ∧ Below w.heap.size w w' := by
  have RR := Lib.hid hR
  have IX := Lib.hid (fun (k : Nat) (hk : k < 29) W => index_tab hk W)
  have HT := Lib.hid (p := ∀ k : Nat, k < 29 → nmA k = s → i = (k : Int) ∧ er = 0) (fun k hk e => (FnE.one (.inl ⟨k, hk, e, rfl, rfl⟩) hF).imp Eq.symm Eq.symm)
  have HM := Lib.hid (p := (∀ k : Nat, k < 29 → nmA k ≠ s) → i = 0 ∧ er = 111) (fun hn => (FnE.one (.inr ⟨hn, rfl, rfl⟩) hF).imp Eq.symm Eq.symm)
  have LT := Lib.hid (fun (ops : Array Oper) (rest : List Oper) (op : Oper) (a : Act) (Q : Exit → Act → World → Prop) => @load_tab ops rest op a w Q)
  clear hF hR
  generalize hA : tabC.toArray = A at *
  clear hA
  go_enter Tryz.func115, Tryz.ntmps115
  go_wp2_with (first | (with_reducible show wpList _ _ _ (Oper.mk _ (Op.load 128 _) _ _ _ _ :: _) _ _; refine LT.out _ _ _ _ _ rfl _ rfl rfl RR.out ?_))
  go_loopw [7] (fun t wr => ∃ k : Nat, k ≤ 29 ∧ t = .int .i64 (k : Int) ∧ RowKit.Hid (∀ j : Nat, j < k → nmA j ≠ s) ∧ Below w.heap.size w wr) (fun t _ => 29 - (intOf t).toNat)
  case atStart => exact ⟨0, by omega, rfl, fun j hj => absurd hj (by omega), Below.refl _ _⟩
  case round =>
    obtain ⟨k, hk, rfl, hN, hB⟩ := hrel
    rename World => wr
    have BB := Lib.hid hB
    clear hB
    by_cases hlt : k < 29
    · have kc : (k : Int) < 29 := by omega
      have ix := IX.out k hlt
      have HTk := Lib.hid (HT.out k hlt)
      have NX := Lib.hid (p := nmA k ≠ s → ∀ j : Nat, j < k + 1 → nmA j ≠ s) (fun g j hj => by
        rcases (show j < k ∨ j = k by omega) with q | q
        · exact hN.out j q
        · rw [q]; exact g)
      generalize nmA k = b at *
      generalize ((onA k : Nat) : Int) = x1 at *
      generalize ((tkA k : Nat) : Int) = x2 at *
      generalize ((ptA k : Nat) : Int) = x3 at *
      generalize ((baA k : Nat) : Int) = x4 at *
      generalize ((bbA k : Nat) : Int) = x5 at *
      by_cases hs : b = s
      · obtain ⟨rfl, rfl⟩ := HTk.out hs
        subst hs
        go_wp2
        go_ret2
        exact ⟨rfl, BB.out.alloc BB.out.size _⟩
      · have hs' : (b.toList == s.toList) = false := by
          rw [beq_eq_false_iff_ne]; exact fun q => hs (bytes_eq q)
        have NS := Lib.hid (NX.out hs)
        clear hs
        go_wp2
        go_roundw
        case rel => exact ⟨k + 1, by omega, by go_num, NS.out, BB.out.alloc BB.out.size _⟩
        case measure => simp [intOf]; omega
    · obtain rfl : k = 29 := by omega
      obtain ⟨rfl, rfl⟩ := HM.out hN.out
      go_wp2
      go_ret2
      exact ⟨rfl, BB.out⟩
set_option maxRecDepth 100000 in
set_option maxHeartbeats 2000000 in
theorem refFind_any (s : ByteArray) (i er : Int) (hF : FnE s i er) (w : World) :
    Calls Tryz.prog 56 #[.string s] w fun e w' => e = .returned (.tuple #[.int .i64 i, .int .i64 er]) ∧ Below w.heap.size w w' := by
  have KT := Lib.hid (table_any w)
  have HT := Lib.hid (p := ∀ k : Nat, k < 29 → nmA k = s → i = (k : Int) ∧ er = 0) (fun k hk e => (FnE.one (.inl ⟨k, hk, e, rfl, rfl⟩) hF).imp Eq.symm Eq.symm)
  have HM := Lib.hid (p := (∀ k : Nat, k < 29 → nmA k ≠ s) → i = 0 ∧ er = 111) (fun hn => (FnE.one (.inr ⟨hn, rfl, rfl⟩) hF).imp Eq.symm Eq.symm)
  clear hF
  go_enter Tryz.func56, Tryz.ntmps56
  go_wp2_with (go_at_call 89; refine KT.out.mono ?_; rintro e w1 ⟨g, cap, rfl, hT, h1⟩; have TT := Lib.hid hT; have B1 := Lib.hid h1; clear h1 hT)
  go_loop [5] (fun t => ∃ k : Nat, k ≤ 29 ∧ t = .int .i64 (k : Int) ∧ RowKit.Hid (∀ j : Nat, j < k → nmA j ≠ s)) (fun t => 29 - (intOf t).toNat)
  case atStart => exact ⟨0, by omega, rfl, fun j hj => absurd hj (by omega)⟩
  case round =>
    obtain ⟨k, hk, rfl, hN⟩ := hrel
    by_cases hlt : k < 29
    · have kc : (k : Int) < 29 := by omega
      have c0 := (TT.out.2 k hlt).1
      have HTk := Lib.hid (HT.out k hlt)
      have NX := Lib.hid (p := nmA k ≠ s → ∀ j : Nat, j < k + 1 → nmA j ≠ s) (fun g j hj => by
        rcases (show j < k ∨ j = k by omega) with q | q
        · exact hN.out j q
        · rw [q]; exact g)
      generalize nmA k = b at *
      by_cases hs : b = s
      · obtain ⟨rfl, rfl⟩ := HTk.out hs
        subst hs
        go_wp2
        go_ret2
        exact ⟨rfl, B1.out⟩
      · have hs' : (b.toList == s.toList) = false := by
          rw [beq_eq_false_iff_ne]; exact fun q => hs (bytes_eq q)
        have NS := Lib.hid (NX.out hs)
        clear hs
        go_wp2
        go_round
        case rel => exact ⟨k + 1, by omega, by go_num, NS.out⟩
        case measure => simp [intOf]; omega
    · obtain rfl : k = 29 := by omega
      obtain ⟨rfl, rfl⟩ := HM.out hN.out
      go_wp2
      go_ret2
      exact ⟨rfl, B1.out⟩
end Go.Proofs.YtccjeipkljdhdaaGreatDoor
