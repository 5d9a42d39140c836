/-
  WALKS: Valid of both; Find of both.
-/
import Derived.Test.YteedkcmjhdabeaaDoorWCode3
import Derived.Deep.MidRow
namespace Go.Proofs.YteedkcmjhdabeaaDoor
open Go.RowKit
set_option linter.unusedVariables false
set_option linter.unusedSimpArgs false

def al (a b ra rb : Int) : Bool := decide (0 ≤ a ∧ a ≤ ra ∧ 0 ≤ b ∧ b ≤ rb)
set_option maxHeartbeats 1000000 in
theorem allows_any (n : ByteArray) (o t p ra rb a b : Int) (h1 : 0 ≤ ra ∧ ra ≤ 262143) (h2 : 0 ≤ rb ∧ rb ≤ 3660) (w : World) :
    Calls Tryd.prog 56 #[rowV n o t p ra rb, .int .i64 a, .int .i64 b] w fun e w' => e = .returned (.bool (al a b ra rb)) ∧ Below w.heap.size w w' := by
  have q1 : IntKind.i64.wrap ra = ra := wrap_id (by omega)
  have q2 : IntKind.i64.wrap rb = rb := wrap_id (by omega)
  clear h1 h2
  have R := Lib.hid (p := al a b ra rb = decide (0 ≤ a ∧ a ≤ ra ∧ 0 ≤ b ∧ b ≤ rb)) rfl
  by_cases c0 : 0 ≤ a
  · by_cases c1 : a ≤ ra
    · by_cases c2 : 0 ≤ b
      · by_cases c3 : b ≤ rb
        · have R := Lib.hid (p := al a b ra rb = true) (by rw [R.out]; exact decide_eq_true ⟨c0, c1, c2, c3⟩)
          go_enter Tryd.func56, Tryd.ntmps56
          go_wp2
          go_ret
          exact ⟨by rw [R.out]; rfl, (Below.refl w.heap.size w).alloc (Nat.le_refl _) _⟩
        · have R := Lib.hid (p := al a b ra rb = false) (by rw [R.out]; exact decide_eq_false (fun q => c3 q.2.2.2))
          have c3' : decide (b ≤ rb) = false := decide_eq_false c3
          go_enter Tryd.func56, Tryd.ntmps56
          go_wp2
          go_ret
          exact ⟨by rw [R.out]; rfl, (Below.refl w.heap.size w).alloc (Nat.le_refl _) _⟩
      · have R := Lib.hid (p := al a b ra rb = false) (by rw [R.out]; exact decide_eq_false (fun q => c2 q.2.2.1))
        have c2' : decide (0 ≤ b) = false := decide_eq_false c2
        go_enter Tryd.func56, Tryd.ntmps56
        go_wp2
        go_ret
        exact ⟨by rw [R.out]; rfl, (Below.refl w.heap.size w).alloc (Nat.le_refl _) _⟩
    · have R := Lib.hid (p := al a b ra rb = false) (by rw [R.out]; exact decide_eq_false (fun q => c1 q.2.1))
      have c1' : decide (a ≤ ra) = false := decide_eq_false c1
      go_enter Tryd.func56, Tryd.ntmps56
      go_wp2
      go_ret
      exact ⟨by rw [R.out]; rfl, (Below.refl w.heap.size w).alloc (Nat.le_refl _) _⟩
  · have R := Lib.hid (p := al a b ra rb = false) (by rw [R.out]; exact decide_eq_false (fun q => c0 q.1))
    have c0' : decide (0 ≤ a) = false := decide_eq_false c0
    go_enter Tryd.func56, Tryd.ntmps56
    go_wp2
    go_ret
    exact ⟨by rw [R.out]; rfl, (Below.refl w.heap.size w).alloc (Nat.le_refl _) _⟩

/-- What Valid answers. -/
def okV (i : In) : Int := if i.okP then 0 else 111
theorem okV_pos {i : In} (h : i.okP) : okV i = 0 := if_pos h
theorem okV_neg {i : In} (h : ¬ i.okP) : okV i = 111 := if_neg h
theorem okV_in {k : Nat} (hk : k < 29) (a b : Int) : okV ⟨k, a, b⟩ = if al a b (baA k) (bbA k) = true then 0 else 111 := by
  by_cases h : 0 ≤ a ∧ a ≤ (baA k : Int) ∧ 0 ≤ b ∧ b ≤ (bbA k : Int)
  · rw [if_pos (show al a b (baA k) (bbA k) = true from decide_eq_true h)]
    exact okV_pos ⟨by simp, by simp; omega, h.1, by simpa using h.2.1, h.2.2.1, by simpa using h.2.2.2⟩
  · rw [if_neg (show ¬ al a b (baA k) (bbA k) = true from fun q => h (of_decide_eq_true q))]
    exact okV_neg (fun q => h ⟨q.2.2.1, by simpa using q.2.2.2.1, q.2.2.2.2.1, by simpa using q.2.2.2.2.2⟩)
theorem okV_out {o : Int} (h : o < 0 ∨ 29 ≤ o) (a b : Int) : okV ⟨o, a, b⟩ = 111 :=
  okV_neg (fun q => by have h1 : 0 ≤ o := q.1; have h2 : o < 29 := q.2.1; omega)
abbrev inV (i : In) : Value := .agg #[.int .i64 i.o, .int .i64 i.a, .int .i64 i.b]
set_option maxHeartbeats 1000000 in
theorem valid_any (o a b : Int) (w : World) (hR : Rws w) :
    Calls Tryd.prog 50 #[.agg #[.int .i64 o, .int .i64 a, .int .i64 b]] w fun e w' => e = .returned (.int .i64 (okV ⟨o, a, b⟩)) ∧ Below w.heap.size w w' := by
  obtain ⟨n, on, t, p, ra, rb, er, hE⟩ := row_ex o
  have sm := hE.small
  have KR := Lib.hid (rowOf_any hE (w.alloc (.cells #[.int .i64 o, .int .i64 a, .int .i64 b] 38)) (hR.alloc _))
  have A := Lib.hid ((Below.refl w.heap.size w).alloc (Nat.le_refl _) (.cells #[.int .i64 o, .int .i64 a, .int .i64 b] 38))
  have KA := Lib.hid (fun W => allows_any n on t p ra rb a b sm.2.2.2.1 sm.2.2.2.2.1 W)
  have CB := Lib.hid (p := ∀ w1, Below (w.alloc (.cells #[.int .i64 o, .int .i64 a, .int .i64 b] 38)).heap.size (w.alloc (.cells #[.int .i64 o, .int .i64 a, .int .i64 b] 38)) w1 → (∀ o, (w1.alloc o).cell? ⟨w.heap.size, 1, none⟩ = some (.int .i64 a)) ∧ (∀ o, (w1.alloc o).cell? ⟨w.heap.size, 2, none⟩ = some (.int .i64 b))) (fun w1 h => ⟨fun o => (((Below.refl w1.heap.size w1).alloc (Nat.le_refl _) o).cell (p := ⟨w.heap.size, 1, none⟩) (Nat.lt_of_lt_of_le (by simp) h.size)).trans ((h.cell (p := ⟨w.heap.size, 1, none⟩) (by simp)).trans (by simp)), fun o => (((Below.refl w1.heap.size w1).alloc (Nat.le_refl _) o).cell (p := ⟨w.heap.size, 2, none⟩) (Nat.lt_of_lt_of_le (by simp) h.size)).trans ((h.cell (p := ⟨w.heap.size, 2, none⟩) (by simp)).trans (by simp))⟩)
  have SZ := Lib.hid (p := ∀ w1, Below (w.alloc (.cells #[.int .i64 o, .int .i64 a, .int .i64 b] 38)).heap.size (w.alloc (.cells #[.int .i64 o, .int .i64 a, .int .i64 b] 38)) w1 → ¬ w.heap.size = w1.heap.size ∧ ¬ w1.heap.size = w.heap.size) (fun w1 h => by have := h.size; simp at this; omega)
  rcases hE.say with ⟨k, hk, rfl, e1, e2, e3, e4, rfl, rfl, rfl⟩ | ⟨hr, e1, e2, e3, e4, e5, e6, rfl⟩
  · rw [okV_in hk]
    clear hR hE sm e1 e2 e3 e4
    generalize ((baA k : Nat) : Int) = ra at *
    generalize ((bbA k : Nat) : Int) = rb at *
    cases hv : al a b ra rb with
    | true =>
      rw [hv] at KA
      go_enter Tryd.func50, Tryd.ntmps50
      go_wp2_with (first
        | (go_at_call 28; refine KR.out.mono ?_; rintro e w1 ⟨rfl, h1⟩; have B1 := Lib.hid (A.out.trans (h1.mono A.out.size)); obtain ⟨d1, d2⟩ := CB.out w1 h1; obtain ⟨n1, n2⟩ := SZ.out w1 h1; clear h1)
        | (go_at_call 56; refine (KA.out _).mono ?_; rintro e w2 ⟨rfl, h2⟩; have B2 := Lib.hid ((B1.out.alloc B1.out.size _).trans (h2.mono (by have := B1.out.size; simp; omega))); clear h2))
      go_ret
      exact ⟨rfl, B2.out⟩
    | false =>
      rw [hv] at KA
      go_enter Tryd.func50, Tryd.ntmps50
      go_wp2_with (first
        | (go_at_call 28; refine KR.out.mono ?_; rintro e w1 ⟨rfl, h1⟩; have B1 := Lib.hid (A.out.trans (h1.mono A.out.size)); obtain ⟨d1, d2⟩ := CB.out w1 h1; obtain ⟨n1, n2⟩ := SZ.out w1 h1; clear h1)
        | (go_at_call 56; refine (KA.out _).mono ?_; rintro e w2 ⟨rfl, h2⟩; have B2 := Lib.hid ((B1.out.alloc B1.out.size _).trans (h2.mono (by have := B1.out.size; simp; omega))); clear h2))
      go_ret
      exact ⟨rfl, B2.out⟩
  · rw [okV_out hr]
    clear hR hE sm hr e1 e2 e3 e4 e5 e6
    go_enter Tryd.func50, Tryd.ntmps50
    go_wp2_with (first
      | (go_at_call 28; refine KR.out.mono ?_; rintro e w1 ⟨rfl, h1⟩; have B1 := Lib.hid (A.out.trans (h1.mono A.out.size)); obtain ⟨d1, d2⟩ := CB.out w1 h1; obtain ⟨n1, n2⟩ := SZ.out w1 h1; clear h1))
    go_ret
    exact ⟨rfl, B1.out.alloc B1.out.size _⟩
theorem wi_al {k : Nat} (hk : k < 29) (a b : Int) : (wi a (rfs k).a && wi b (rfs k).b) = al a b (baA k) (bbA k) := by
  obtain ⟨t1, t2, t3, t4, t5, t6, t7⟩ := tab_facts k hk
  unfold wi al rfs
  rw [Bool.eq_iff_iff]
  simp only [Bool.and_eq_true, decide_eq_true_eq]
  by_cases h1 : 1 ≤ onA k
  · by_cases h2 : 2 ≤ onA k
    · simp only [h1, h2, if_true]
      rw [if_neg (by omega), if_neg (by omega)]
      omega
    · have := t7 (by omega)
      simp only [h1, h2, if_true, if_false]
      rw [if_neg (by omega), if_pos (by omega)]
      omega
  · have := t6 (by omega)
    have := t7 (by omega)
    simp only [h1, show ¬ 2 ≤ onA k by omega, if_false]
    rw [if_pos (by omega), if_pos (by omega)]
    omega
end Go.Proofs.YteedkcmjhdabeaaDoor
