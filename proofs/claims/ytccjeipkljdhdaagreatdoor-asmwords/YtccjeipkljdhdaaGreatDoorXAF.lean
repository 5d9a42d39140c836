import Derived.Test.YtccjeipkljdhdaaGreatDoorXAA
import Derived.Test.YtccjeipkljdhdaaGreatDoorRows
import Derived.WalkKit
import Derived.WalkSpells
import Derived.Below
import Derived.BigCall
import Derived.BigGuard
import Derived.BigQuiet
import Derived.Deep.QuietTactic
import Derived.Deep.RegionHeld3
import Derived.Lib.LaidTab
import Derived.Lib.Hide
import Derived.Lib.SmallJoins
import Derived.Laws.AppendOwn
import Derived.Laws.AppendOwnNone
import Derived.Laws.OwnMore
import Derived.Maps.AppendAt
import Derived.Deep.MidRow
import Derived.OpenShut
import Derived.Stop.LaidErr
import Derived.Laws.BitsAllLaws
import Derived.Lib.Mul64
namespace Go.Proofs.YtccjeipkljdhdaaGreatDoor
set_option linter.unusedVariables false
set_option linter.unusedSimpArgs false

end Go.Proofs.YtccjeipkljdhdaaGreatDoor

namespace Go.Proofs.YtccjeipkljdhdaaGreatDoor
open Go.RowKit
set_option linter.unusedVariables false
set_option linter.unusedSimpArgs false

/-- The table, where the world holds it. -/
def Rws (w : World) : Prop := 3 < w.heap.size ∧ ∀ k : Nat, k < 29 → w.cell? ⟨3, k * 6, none⟩ = some (.string (nmA k)) ∧ w.cell? ⟨3, k * 6 + 1, none⟩ = some (.int .u8 (onA k : Int)) ∧ w.cell? ⟨3, k * 6 + 2, none⟩ = some (.int .u8 (tkA k : Int)) ∧ w.cell? ⟨3, k * 6 + 3, none⟩ = some (.int .u8 (ptA k : Int)) ∧ w.cell? ⟨3, k * 6 + 4, none⟩ = some (.int .i32 (baA k : Int)) ∧ w.cell? ⟨3, k * 6 + 5, none⟩ = some (.int .i32 (bbA k : Int))
theorem Rws.later {w w' : World} {n : Nat} (h : Rws w) (b : Below n w w') (hn : w.heap.size ≤ n) : Rws w' := by
  refine ⟨Nat.lt_of_lt_of_le h.1 b.size, fun k hk => ?_⟩
  have g : ∀ o, w'.cell? ⟨3, o, none⟩ = w.cell? ⟨3, o, none⟩ := fun o => b.cell (p := ⟨3, o, none⟩) (Nat.lt_of_lt_of_le h.1 hn)
  rw [g, g, g, g, g, g]
  exact h.2 k hk
theorem Rws.alloc {w : World} (h : Rws w) (c : Obj) : Rws (w.alloc c) := h.later ((Below.refl _ _).alloc (Nat.le_refl _) _) (Nat.le_refl _)
theorem Rws.below {w w' : World} (h : Rws w) (b : Below w.heap.size w w') : Rws w' := h.later b (Nat.le_refl _)

theorem heap_new (w : World) (o : Obj) : (w.alloc o).heap[w.heap.size]? = some o := by show (w.heap.push o)[w.heap.size]? = _; simp
theorem box_all6 {w : World} {x : Nat} {a b c d e f : Value} {t : TypeId} (h : w.heap[x]? = some (.cells #[a, b, c, d, e, f] t)) : w.cell? ⟨x, 0, none⟩ = some a ∧ w.cell? ⟨x, 1, none⟩ = some b ∧ w.cell? ⟨x, 2, none⟩ = some c ∧ w.cell? ⟨x, 3, none⟩ = some d ∧ w.cell? ⟨x, 4, none⟩ = some e ∧ w.cell? ⟨x, 5, none⟩ = some f := by
  refine ⟨?_, ?_, ?_, ?_, ?_, ?_⟩ <;> simp [World.cell?, h]
/-- A row, as a value. -/
abbrev rowV (n : ByteArray) (o t p a b : Int) : Value := .agg #[.string n, .int .u8 o, .int .u8 t, .int .u8 p, .int .i32 a, .int .i32 b]
def zr : Obj := .cells #[.string ⟨#[]⟩, .int .u8 0, .int .u8 0, .int .u8 0, .int .i32 0, .int .i32 0] 90
set_option maxHeartbeats 1000000 in
theorem rowOf_in (k : Nat) (hk : k < 29) (w : World) (h : Rws w) :
    Calls Tryz.prog 48 #[.int .i64 (k : Int)] w fun e w' => e = .returned (.tuple #[rowV (nmA k) (onA k : Int) (tkA k : Int) (ptA k : Int) (baA k : Int) (bbA k : Int), .int .i64 0]) ∧ Below w.heap.size w w' := by
  obtain ⟨c0, c1, c2, c3, c4, c5⟩ := (h.alloc zr).2 k hk
  unfold zr at c0 c1 c2 c3 c4 c5
  generalize nmA k = n at *
  generalize ((onA k : Nat) : Int) = o at *
  generalize ((tkA k : Nat) : Int) = t at *
  generalize ((ptA k : Nat) : Int) = p at *
  generalize ((baA k : Nat) : Int) = a at *
  generalize ((bbA k : Nat) : Int) = b at *
  clear h
  have k0 : ¬ (k : Int) < 0 := by omega
  have k1 : decide (29 ≤ k) = false := by simp; omega
  have k2 : decide ((29 : Int) ≤ (k : Int)) = false := by simp; omega
  go_enter Tryz.func48, Tryz.ntmps48
  go_wp2
  obtain ⟨r0, r1, r2, r3, r4, r5⟩ := box_all6 (heap_new w (.cells #[.string n, .int .u8 o, .int .u8 t, .int .u8 p, .int .i32 a, .int .i32 b] 90))
  exact bodyPost_ret (v := .tuple #[rowV n o t p a b, .int .i64 0]) (by simp [results, Tryz.results48, go_sem, r0, r1, r2, r3, r4, r5]) rfl ⟨rfl, (Below.refl w.heap.size w).alloc (Nat.le_refl _) _⟩
set_option maxHeartbeats 1000000 in
theorem rowOf_out (op : Int) (w : World) (h : op < 0 ∨ 29 ≤ op) :
    Calls Tryz.prog 48 #[.int .i64 op] w fun e w' => e = .returned (.tuple #[rowV ⟨#[]⟩ 0 0 0 0 0, .int .i64 111]) ∧ Below w.heap.size w w' := by
  have R := Lib.hid (box_all6 (heap_new w (.cells #[.string ⟨#[]⟩, .int .u8 0, .int .u8 0, .int .u8 0, .int .i32 0, .int .i32 0] 90)))
  by_cases k0 : op < 0
  · clear h
    go_enter Tryz.func48, Tryz.ntmps48
    go_wp2
    obtain ⟨r0, r1, r2, r3, r4, r5⟩ := R.out
    exact bodyPost_ret (v := .tuple #[rowV ⟨#[]⟩ 0 0 0 0 0, .int .i64 111]) (by simp [results, Tryz.results48, go_sem, r0, r1, r2, r3, r4, r5]) rfl ⟨rfl, (Below.refl w.heap.size w).alloc (Nat.le_refl _) _⟩
  · have k1 : (29 : Int) ≤ op := by omega
    clear h
    go_enter Tryz.func48, Tryz.ntmps48
    go_wp2
    obtain ⟨r0, r1, r2, r3, r4, r5⟩ := R.out
    exact bodyPost_ret (v := .tuple #[rowV ⟨#[]⟩ 0 0 0 0 0, .int .i64 111]) (by simp [results, Tryz.results48, go_sem, r0, r1, r2, r3, r4, r5]) rfl ⟨rfl, (Below.refl w.heap.size w).alloc (Nat.le_refl _) _⟩

/-- What the table says of a number. -/
structure RowE (op : Int) (n : ByteArray) (o t p a b er : Int) : Prop where
  say : (∃ k : Nat, k < 29 ∧ op = (k : Int) ∧ n = nmA k ∧ o = (onA k : Int) ∧ t = (tkA k : Int) ∧ p = (ptA k : Int) ∧ a = (baA k : Int) ∧ b = (bbA k : Int) ∧ er = 0) ∨ ((op < 0 ∨ 29 ≤ op) ∧ n = ⟨#[]⟩ ∧ o = 0 ∧ t = 0 ∧ p = 0 ∧ a = 0 ∧ b = 0 ∧ er = 111)
theorem row_ex (op : Int) : ∃ n o t p a b er, RowE op n o t p a b er := by
  by_cases h : op < 0 ∨ 29 ≤ op
  · exact ⟨_, _, _, _, _, _, _, ⟨.inr ⟨h, rfl, rfl, rfl, rfl, rfl, rfl, rfl⟩⟩⟩
  · exact ⟨_, _, _, _, _, _, _, ⟨.inl ⟨op.toNat, by omega, by omega, rfl, rfl, rfl, rfl, rfl, rfl, rfl⟩⟩⟩
theorem RowE.small {op : Int} {n : ByteArray} {o t p a b er : Int} (h : RowE op n o t p a b er) : (0 ≤ o ∧ o ≤ 2) ∧ (0 ≤ t ∧ t ≤ 3) ∧ (0 ≤ p ∧ p ≤ 1) ∧ (0 ≤ a ∧ a ≤ 262143) ∧ (0 ≤ b ∧ b ≤ 3660) ∧ (er = 0 ∨ er = 111) := by
  rcases h.say with ⟨k, hk, rfl, rfl, rfl, rfl, rfl, rfl, rfl, rfl⟩ | ⟨_, rfl, rfl, rfl, rfl, rfl, rfl, rfl⟩
  · obtain ⟨t1, t2, t3, t4, t5, _⟩ := tab_facts k hk
    omega
  · omega
theorem rowOf_any {op : Int} {n : ByteArray} {o t p a b er : Int} (h : RowE op n o t p a b er) (w : World) (hR : Rws w) :
    Calls Tryz.prog 48 #[.int .i64 op] w fun e w' => e = .returned (.tuple #[rowV n o t p a b, .int .i64 er]) ∧ Below w.heap.size w w' := by
  rcases h.say with ⟨k, hk, rfl, rfl, rfl, rfl, rfl, rfl, rfl, rfl⟩ | ⟨hr, rfl, rfl, rfl, rfl, rfl, rfl, rfl⟩
  · exact rowOf_in k hk w hR
  · exact rowOf_out op w hr
theorem wrap_id {x : Int} (h : -1000000 ≤ x ∧ x ≤ 1000000) : IntKind.i64.wrap x = x := by
  simp [IntKind.wrap, IntKind.bits, IntKind.signed]; omega
theorem name_any {op : Int} {n : ByteArray} {o t p a b er : Int} (h : RowE op n o t p a b er) (w : World) (hR : Rws w) :
    Calls Tryz.prog 50 #[.int .i64 op] w fun e w' => e = .returned (.tuple #[.string n, .int .i64 er]) ∧ Below w.heap.size w w' := by
  have K := Lib.hid (rowOf_any h w hR)
  clear h hR
  go_enter Tryz.func50, Tryz.ntmps50
  go_wp2_with (go_at_call 48; refine K.out.mono ?_; rintro e w1 ⟨rfl, h1⟩; have B1 := Lib.hid h1; clear h1)
  go_ret2
  exact ⟨rfl, B1.out.alloc B1.out.size _⟩
theorem operands_any {op : Int} {n : ByteArray} {o t p a b er : Int} (h : RowE op n o t p a b er) (w : World) (hR : Rws w) :
    Calls Tryz.prog 51 #[.int .i64 op] w fun e w' => e = .returned (.tuple #[.int .i64 o, .int .i64 er]) ∧ Below w.heap.size w w' := by
  have K := Lib.hid (rowOf_any h w hR)
  have q1 : IntKind.i64.wrap o = o := wrap_id (by have := h.small; omega)
  clear h hR
  go_enter Tryz.func51, Tryz.ntmps51
  go_wp2_with (go_at_call 48; refine K.out.mono ?_; rintro e w1 ⟨rfl, h1⟩; have B1 := Lib.hid h1; clear h1)
  go_ret2
  exact ⟨rfl, B1.out.alloc B1.out.size _⟩
end Go.Proofs.YtccjeipkljdhdaaGreatDoor

namespace Go.Proofs.YtccjeipkljdhdaaGreatDoor
open Go.RowKit
set_option linter.unusedVariables false
set_option linter.unusedSimpArgs false

/-- A row of the document's table. -/
structure Rf where
  n : ByteArray
  a : Int
  b : Int
  t : Int
  p : Int
  deriving Inhabited
def Rf.cells (r : Rf) : List Value := [.string r.n, .int .i64 r.a, .int .i64 r.b, .int .i64 r.t, .int .i64 r.p]
end Go.Proofs.YtccjeipkljdhdaaGreatDoor

namespace Go.Proofs.YtccjeipkljdhdaaGreatDoor
open Go.RowKit
set_option linter.unusedVariables false
set_option linter.unusedSimpArgs false

def wi (v b : Int) : Bool := decide (if b < 0 then v = 0 else 0 ≤ v ∧ v ≤ b)
end Go.Proofs.YtccjeipkljdhdaaGreatDoor

namespace Go.Proofs.YtccjeipkljdhdaaGreatDoor
open Go.RowKit
set_option linter.unusedVariables false
set_option linter.unusedSimpArgs false

def al (a b ra rb : Int) : Bool := decide (0 ≤ a ∧ a ≤ ra ∧ 0 ≤ b ∧ b ≤ rb)
set_option maxHeartbeats 1000000 in
theorem allows_any (n : ByteArray) (o t p ra rb a b : Int) (h1 : 0 ≤ ra ∧ ra ≤ 262143) (h2 : 0 ≤ rb ∧ rb ≤ 3660) (w : World) :
    Calls Tryz.prog 49 #[rowV n o t p ra rb, .int .i64 a, .int .i64 b] w fun e w' => e = .returned (.bool (al a b ra rb)) ∧ Below w.heap.size w w' := by
  have q1 : IntKind.i64.wrap ra = ra := wrap_id (by omega)
  have q2 : IntKind.i64.wrap rb = rb := wrap_id (by omega)
  clear h1 h2
  have R := Lib.hid (p := al a b ra rb = decide (0 ≤ a ∧ a ≤ ra ∧ 0 ≤ b ∧ b ≤ rb)) rfl
  by_cases c0 : 0 ≤ a
  · by_cases c1 : a ≤ ra
    · by_cases c2 : 0 ≤ b
      · by_cases c3 : b ≤ rb
        · have R := Lib.hid (p := al a b ra rb = true) (by rw [R.out]; exact decide_eq_true ⟨c0, c1, c2, c3⟩)
          go_enter Tryz.func49, Tryz.ntmps49
          go_wp2
          go_ret
          exact ⟨by rw [R.out]; rfl, (Below.refl w.heap.size w).alloc (Nat.le_refl _) _⟩
        · have R := Lib.hid (p := al a b ra rb = false) (by rw [R.out]; exact decide_eq_false (fun q => c3 q.2.2.2))
          have c3' : decide (b ≤ rb) = false := decide_eq_false c3
          go_enter Tryz.func49, Tryz.ntmps49
          go_wp2
          go_ret
          exact ⟨by rw [R.out]; rfl, (Below.refl w.heap.size w).alloc (Nat.le_refl _) _⟩
      · have R := Lib.hid (p := al a b ra rb = false) (by rw [R.out]; exact decide_eq_false (fun q => c2 q.2.2.1))
        have c2' : decide (0 ≤ b) = false := decide_eq_false c2
        go_enter Tryz.func49, Tryz.ntmps49
        go_wp2
        go_ret
        exact ⟨by rw [R.out]; rfl, (Below.refl w.heap.size w).alloc (Nat.le_refl _) _⟩
    · have R := Lib.hid (p := al a b ra rb = false) (by rw [R.out]; exact decide_eq_false (fun q => c1 q.2.1))
      have c1' : decide (a ≤ ra) = false := decide_eq_false c1
      go_enter Tryz.func49, Tryz.ntmps49
      go_wp2
      go_ret
      exact ⟨by rw [R.out]; rfl, (Below.refl w.heap.size w).alloc (Nat.le_refl _) _⟩
  · have R := Lib.hid (p := al a b ra rb = false) (by rw [R.out]; exact decide_eq_false (fun q => c0 q.1))
    have c0' : decide (0 ≤ a) = false := decide_eq_false c0
    go_enter Tryz.func49, Tryz.ntmps49
    go_wp2
    go_ret
    exact ⟨by rw [R.out]; rfl, (Below.refl w.heap.size w).alloc (Nat.le_refl _) _⟩

/-- What Valid answers. -/
def okV (i : In) : Int := if i.okP then 0 else 111
theorem okV_pos {i : In} (h : i.okP) : okV i = 0 := if_pos h
theorem okV_neg {i : In} (h : ¬ i.okP) : okV i = 111 := if_neg h
theorem okV_in {k : Nat} (hk : k < 29) (a b : Int) : okV ⟨k, a, b⟩ = if al a b (baA k) (bbA k) = true then 0 else 111 := by
  by_cases h : 0 ≤ a ∧ a ≤ (baA k : Int) ∧ 0 ≤ b ∧ b ≤ (bbA k : Int)
  · rw [if_pos (show al a b (baA k) (bbA k) = true from decide_eq_true h)]
    exact okV_pos ⟨by simp, by simp; omega, h.1, by simpa using h.2.1, h.2.2.1, by simpa using h.2.2.2⟩
  · rw [if_neg (show ¬ al a b (baA k) (bbA k) = true from fun q => h (of_decide_eq_true q))]
    exact okV_neg (fun q => h ⟨q.2.2.1, by simpa using q.2.2.2.1, q.2.2.2.2.1, by simpa using q.2.2.2.2.2⟩)
theorem okV_out {o : Int} (h : o < 0 ∨ 29 ≤ o) (a b : Int) : okV ⟨o, a, b⟩ = 111 :=
  okV_neg (fun q => by have h1 : 0 ≤ o := q.1; have h2 : o < 29 := q.2.1; omega)
set_option maxHeartbeats 1000000 in
theorem valid_any (o a b : Int) (w : World) (hR : Rws w) :
    Calls Tryz.prog 23 #[.agg #[.int .i64 o, .int .i64 a, .int .i64 b]] w fun e w' => e = .returned (.int .i64 (okV ⟨o, a, b⟩)) ∧ Below w.heap.size w w' := by
  obtain ⟨n, on, t, p, ra, rb, er, hE⟩ := row_ex o
  have sm := hE.small
  have KR := Lib.hid (rowOf_any hE (w.alloc (.cells #[.int .i64 o, .int .i64 a, .int .i64 b] 42)) (hR.alloc _))
  have A := Lib.hid ((Below.refl w.heap.size w).alloc (Nat.le_refl _) (.cells #[.int .i64 o, .int .i64 a, .int .i64 b] 42))
  have KA := Lib.hid (fun W => allows_any n on t p ra rb a b sm.2.2.2.1 sm.2.2.2.2.1 W)
  have CB := Lib.hid (p := ∀ w1, Below (w.alloc (.cells #[.int .i64 o, .int .i64 a, .int .i64 b] 42)).heap.size (w.alloc (.cells #[.int .i64 o, .int .i64 a, .int .i64 b] 42)) w1 → (∀ o, (w1.alloc o).cell? ⟨w.heap.size, 1, none⟩ = some (.int .i64 a)) ∧ (∀ o, (w1.alloc o).cell? ⟨w.heap.size, 2, none⟩ = some (.int .i64 b))) (fun w1 h => ⟨fun o => (((Below.refl w1.heap.size w1).alloc (Nat.le_refl _) o).cell (p := ⟨w.heap.size, 1, none⟩) (Nat.lt_of_lt_of_le (by simp) h.size)).trans ((h.cell (p := ⟨w.heap.size, 1, none⟩) (by simp)).trans (by simp)), fun o => (((Below.refl w1.heap.size w1).alloc (Nat.le_refl _) o).cell (p := ⟨w.heap.size, 2, none⟩) (Nat.lt_of_lt_of_le (by simp) h.size)).trans ((h.cell (p := ⟨w.heap.size, 2, none⟩) (by simp)).trans (by simp))⟩)
  have SZ := Lib.hid (p := ∀ w1, Below (w.alloc (.cells #[.int .i64 o, .int .i64 a, .int .i64 b] 42)).heap.size (w.alloc (.cells #[.int .i64 o, .int .i64 a, .int .i64 b] 42)) w1 → ¬ w.heap.size = w1.heap.size ∧ ¬ w1.heap.size = w.heap.size) (fun w1 h => by have := h.size; simp at this; omega)
  rcases hE.say with ⟨k, hk, rfl, e1, e2, e3, e4, rfl, rfl, rfl⟩ | ⟨hr, e1, e2, e3, e4, e5, e6, rfl⟩
  · rw [okV_in hk]
    clear hR hE sm e1 e2 e3 e4
    generalize ((baA k : Nat) : Int) = ra at *
    generalize ((bbA k : Nat) : Int) = rb at *
    cases hv : al a b ra rb with
    | true =>
      rw [hv] at KA
      go_enter Tryz.func23, Tryz.ntmps23
      go_wp2_with (first
        | (go_at_call 48; refine KR.out.mono ?_; rintro e w1 ⟨rfl, h1⟩; have B1 := Lib.hid (A.out.trans (h1.mono A.out.size)); obtain ⟨d1, d2⟩ := CB.out w1 h1; obtain ⟨n1, n2⟩ := SZ.out w1 h1; clear h1)
        | (go_at_call 49; refine (KA.out _).mono ?_; rintro e w2 ⟨rfl, h2⟩; have B2 := Lib.hid ((B1.out.alloc B1.out.size _).trans (h2.mono (by have := B1.out.size; simp; omega))); clear h2))
      go_ret
      exact ⟨rfl, B2.out⟩
    | false =>
      rw [hv] at KA
      go_enter Tryz.func23, Tryz.ntmps23
      go_wp2_with (first
        | (go_at_call 48; refine KR.out.mono ?_; rintro e w1 ⟨rfl, h1⟩; have B1 := Lib.hid (A.out.trans (h1.mono A.out.size)); obtain ⟨d1, d2⟩ := CB.out w1 h1; obtain ⟨n1, n2⟩ := SZ.out w1 h1; clear h1)
        | (go_at_call 49; refine (KA.out _).mono ?_; rintro e w2 ⟨rfl, h2⟩; have B2 := Lib.hid ((B1.out.alloc B1.out.size _).trans (h2.mono (by have := B1.out.size; simp; omega))); clear h2))
      go_ret
      exact ⟨rfl, B2.out⟩
  · rw [okV_out hr]
    clear hR hE sm hr e1 e2 e3 e4 e5 e6
    go_enter Tryz.func23, Tryz.ntmps23
    go_wp2_with (first
      | (go_at_call 48; refine KR.out.mono ?_; rintro e w1 ⟨rfl, h1⟩; have B1 := Lib.hid (A.out.trans (h1.mono A.out.size)); obtain ⟨d1, d2⟩ := CB.out w1 h1; obtain ⟨n1, n2⟩ := SZ.out w1 h1; clear h1))
    go_ret
    exact ⟨rfl, B1.out.alloc B1.out.size _⟩
end Go.Proofs.YtccjeipkljdhdaaGreatDoor

namespace Go.Proofs.YtccjeipkljdhdaaGreatDoor
open Go.ChangeShapes Go.WideShapes Go.ChangeAt Go.RowKit
set_option linter.unusedVariables false
set_option linter.unusedSimpArgs false

theorem trod_row6 {H : Type} {enc : TypeId × Value → H} {P : Program} {W : World} {base : Nat} {sp : Nat → Bool} {held : Bool} {t s u i : TypeId} {fs : Array Field} {fuel : Nat} {n : List UInt8} {v1 v2 v3 v4 v5 : Int} {x : DataW H × List MemPlace} {cs : List Value}
    (ht : P.underlying t = some (.struct fs)) (hfs : fs.toList.map (fun f => (f.type, f.offset)) = [(s, 0), (u, 1), (u, 2), (u, 3), (i, 4), (i, 5)]) (hs : P.underlying s = some .string) (hu : P.underlying u = some (.int .u8)) (hi : P.underlying i = some (.int .i32)) (hcs : P.cellsOf s = 1) (hcu : P.cellsOf u = 1) (hci : P.cellsOf i = 1) (hct : P.cellsOf t = 6)
    (h : DataW.trod enc P W base sp held fuel t cs = some x) (hx1 : x.1 = .agg [.lit (.string n), .lit (.int .u8 v1), .lit (.int .u8 v2), .lit (.int .u8 v3), .lit (.int .i32 v4), .lit (.int .i32 v5)]) : cs = [.string ⟨n.toArray⟩, .int .u8 v1, .int .u8 v2, .int .u8 v3, .int .i32 v4, .int .i32 v5] := by
  obtain ⟨xs, m, _, hx, hl, hlen, hfld⟩ := DataW.trod_struct ht h
  rw [hct] at hl
  obtain ⟨c0, c1, c2, c3, c4, c5, rfl⟩ : ∃ a b c d e f, cs = [a, b, c, d, e, f] := by
    match cs, hl with
    | [a, b, c, d, e, f], _ => exact ⟨a, b, c, d, e, f, rfl⟩
  have h3 : fs.size = 6 := by have := congrArg List.length hfs; simpa using this
  have fat : ∀ j (hj : j < 6), ∃ f, fs[j]? = some f ∧ (f.type, f.offset) = [(s, 0), (u, 1), (u, 2), (u, 3), (i, 4), (i, 5)][j] := fun j hj => by
    refine ⟨fs[j]'(by omega), by simp [show j < fs.size by omega], ?_⟩
    have : (fs.toList.map (fun f => (f.type, f.offset)))[j]? = [(s, 0), (u, 1), (u, 2), (u, 3), (i, 4), (i, 5)][j]? := by rw [hfs]
    simpa [show j < fs.size by omega, hj] using this
  obtain ⟨f0, g0, e0⟩ := fat 0 (by omega)
  obtain ⟨f1, g1, e1⟩ := fat 1 (by omega)
  obtain ⟨f2, g2, e2⟩ := fat 2 (by omega)
  obtain ⟨f3, g3, e3⟩ := fat 3 (by omega)
  obtain ⟨f4, g4, e4⟩ := fat 4 (by omega)
  obtain ⟨f5, g5, e5⟩ := fat 5 (by omega)
  obtain ⟨y0, y1, y2, y3, y4, y5, rfl⟩ : ∃ a b c d e f, xs = [a, b, c, d, e, f] := by
    have : xs.length = 6 := by omega
    match xs, this with
    | [a, b, c, d, e, f], _ => exact ⟨a, b, c, d, e, f, rfl⟩
  have k0 := hfld 0 f0 g0
  have k1 := hfld 1 f1 g1
  have k2 := hfld 2 f2 g2
  have k3 := hfld 3 f3 g3
  have k4 := hfld 4 f4 g4
  have k5 := hfld 5 f5 g5
  simp at e0 e1 e2 e3 e4 e5
  simp only [List.getElem?_cons_zero, List.getElem?_cons_succ] at k0 k1 k2 k3 k4 k5
  rw [e0.1, e0.2, hcs] at k0
  rw [e1.1, e1.2, hcu] at k1
  rw [e2.1, e2.2, hcu] at k2
  rw [e3.1, e3.2, hcu] at k3
  rw [e4.1, e4.2, hci] at k4
  rw [e5.1, e5.2, hci] at k5
  obtain ⟨z0, r0, q0, _⟩ := DataW.trod_string hs k0
  obtain ⟨z1, r1, q1, _⟩ := DataW.trod_int hu k1
  obtain ⟨z2, r2, q2, _⟩ := DataW.trod_int hu k2
  obtain ⟨z3, r3, q3, _⟩ := DataW.trod_int hu k3
  obtain ⟨z4, r4, q4, _⟩ := DataW.trod_int hi k4
  obtain ⟨z5, r5, q5, _⟩ := DataW.trod_int hi k5
  simp at r0 r1 r2 r3 r4 r5
  subst r0 r1 r2 r3 r4 r5
  rw [hx] at hx1
  simp only [List.map_cons, List.map_nil, DataW.agg.injEq, List.cons.injEq, and_true] at hx1
  rw [q0, q1, q2, q3, q4, q5] at hx1
  simp at hx1
  obtain ⟨e0, e1, e2, e3, e4, e5⟩ := hx1
  subst e0 e1 e2 e3 e4 e5
  simp
/-- A row, as the list says it. -/
def rowD {H : Type} (k : Nat) : DataW H := .agg [.lit (.string (nmA k).data.toList), .lit (.int .u8 (onA k : Int)), .lit (.int .u8 (tkA k : Int)), .lit (.int .u8 (ptA k : Int)), .lit (.int .i32 (baA k : Int)), .lit (.int .i32 (bbA k : Int))]
theorem laid_rows {H : Type} : (Rows.laid_payoff_code_rows : DataW H) = .agg ((List.range 29).map rowD) := rfl
theorem rws_of_laid {w : World} {rest : List (String × DataW Unit)} (h : laidMet Tryz.prog (("payoff/code.rows", Rows.laid_payoff_code_rows) :: rest) w) : Rws w := by
  have hg : Tryz.prog.globalNamed "payoff/code.rows" = some 3 := by kernel_rfl
  have hty : (Tryz.prog.globals[3]?).map (·.type) = some 128 := by kernel_rfl
  obtain ⟨ps, ⟨g', t', cs, fuel, p, q, hg', ht', hvar, hd, _, _⟩, _⟩ := h
  obtain rfl := Option.some.inj (hg.symm.trans hg')
  obtain rfl := Option.some.inj (hty.symm.trans ht')
  rw [laid_rows] at hd
  obtain ⟨xs, m, _, hx, hl, hlen, hel⟩ := DataW.trod_array Tryz.underlying128 hd
  rw [show Tryz.prog.cellsOf 128 = 174 by kernel_rfl] at hl
  rw [show Tryz.prog.cellsOf 90 = 6 by kernel_rfl] at hel
  have hx1 : xs.map (·.1) = (List.range 29).map rowD := by
    have := congrArg Prod.fst hx
    simp only [DataW.agg.injEq] at this
    exact this.symm
  have key : ∀ k, k < 29 → (cs.toList.drop (k * 6)).take 6 = [.string (nmA k), .int .u8 (onA k : Int), .int .u8 (tkA k : Int), .int .u8 (ptA k : Int), .int .i32 (baA k : Int), .int .i32 (bbA k : Int)] := by
    intro k hk
    have h1 := hel k hk
    have hk' : k < xs.length := by omega
    rw [List.getElem?_eq_getElem hk'] at h1
    have h2 : (xs[k]).1 = rowD k := by
      have : (xs.map (·.1))[k]? = ((List.range 29).map rowD)[k]? := by rw [hx1]
      simpa [hk', hk] using this
    have h3 := trod_row6 (t := 90) (s := 9) (u := 5) (i := 21) Tryz.underlying90 rfl Tryz.underlying9 Tryz.underlying5 Tryz.underlying21 (by kernel_rfl) (by kernel_rfl) (by kernel_rfl) (by kernel_rfl) h1 h2
    rw [h3]
  have cell : ∀ k, k < 29 → ∀ j, j < 6 → w.cell? ⟨3, k * 6 + j, none⟩ = [Value.string (nmA k), .int .u8 (onA k : Int), .int .u8 (tkA k : Int), .int .u8 (ptA k : Int), .int .i32 (baA k : Int), .int .i32 (bbA k : Int)][j]? := by
    intro k hk j hj
    rw [World.var?_cell hg hvar (k * 6 + j), ← key k hk, List.getElem?_take_of_lt hj, List.getElem?_drop]
    simp
  have lt : 3 < w.heap.size := by
    have c0 := cell 0 (by omega) 0 (by omega)
    unfold World.cell? at c0
    by_cases g : 3 < w.heap.size
    · exact g
    · rw [Array.getElem?_eq_none (by show w.heap.size ≤ 3; omega)] at c0
      simp at c0
  exact ⟨lt, fun k hk => ⟨cell k hk 0 (by omega), cell k hk 1 (by omega), cell k hk 2 (by omega), cell k hk 3 (by omega), cell k hk 4 (by omega), cell k hk 5 (by omega)⟩⟩

/-- The instruction that was handed over, in its box. -/
structure Bx3 (w W : World) (x0 x1 x2 : Int) : Prop where
  a0 : W.cell? ⟨w.heap.size, 0, none⟩ = some (.int .i64 x0)
  a1 : W.cell? ⟨w.heap.size, 1, none⟩ = some (.int .i64 x1)
  a2 : W.cell? ⟨w.heap.size, 2, none⟩ = some (.int .i64 x2)
  bel : Below w.heap.size w W
  sz : w.heap.size + 1 ≤ W.heap.size
theorem Bx3.later {w W W' : World} {x0 x1 x2 : Int} (h : Bx3 w W x0 x1 x2) (b : Below W.heap.size W W') : Bx3 w W' x0 x1 x2 :=
  have z := h.sz
  have k := fun (o : Nat) (v : Value) (e : W.cell? ⟨w.heap.size, o, none⟩ = some v) => (b.cell (p := ⟨w.heap.size, o, none⟩) (by show w.heap.size < _; omega)).trans e
  ⟨k 0 _ h.a0, k 1 _ h.a1, k 2 _ h.a2, h.bel.trans (b.mono (by omega)), by have := b.size; omega⟩
theorem Bx3.first (w : World) (x0 x1 x2 : Int) : Bx3 w (w.alloc (.cells #[.int .i64 x0, .int .i64 x1, .int .i64 x2] 42)) x0 x1 x2 :=
  ⟨by go_simp, by go_simp, by go_simp, (Below.refl _ _).alloc (Nat.le_refl _) _, by simp⟩
end Go.Proofs.YtccjeipkljdhdaaGreatDoor

namespace Go.Proofs.YtccjeipkljdhdaaGreatDoor
open Go.RowKit

/-- A fact, kept out of the walk's sight. -/
theorem veil {p : Prop} (h : p) : Hid p := h
theorem unveil {p : Prop} (h : Hid p) : p := h

/-- A number of 64 bits. -/
def inR (n : Int) : Prop := -9223372036854775808 ≤ n ∧ n ≤ 9223372036854775807
theorem wf_inR {n : Int} (h : (Lit.int .i64 n).wf = true) : inR n := by
  simp [Lit.wf, IntKind.min, IntKind.max, IntKind.bits, IntKind.signed] at h
  unfold inR; omega

end Go.Proofs.YtccjeipkljdhdaaGreatDoor

namespace Go.Proofs.YtccjeipkljdhdaaGreatDoor
open Go.RowKit

/-- A number without its sign. -/
def absI (a : Int) : Int := if a < 0 then -a else a
theorem absI_neg {a : Int} (h : a < 0) : absI a = -a := by unfold absI; rw [if_pos h]
theorem absI_pos {a : Int} (h : ¬ a < 0) : absI a = a := by unfold absI; rw [if_neg h]
theorem absI_bd (a : Int) (h : inR a) : 0 ≤ absI a ∧ absI a ≤ 9223372036854775808 := by
  unfold inR at h; unfold absI; split <;> omega
theorem absI_nonneg (a : Int) : 0 ≤ absI a := by unfold absI; split <;> omega
end Go.Proofs.YtccjeipkljdhdaaGreatDoor

namespace Go.Proofs.YtccjeipkljdhdaaGreatDoor
open Go.RowKit

end Go.Proofs.YtccjeipkljdhdaaGreatDoor

namespace Go.Proofs.YtccjeipkljdhdaaGreatDoor
open Go.RowKit

theorem ret_i {k : IntKind} {a b : Int} (h : a = b) : Ending.returned (.int k a) = .returned (.int k b) := by rw [h]
theorem neg_u64 (a : Int) (h : a < 0) (h1 : -9223372036854775808 ≤ a) : IntKind.u64.wrap (-IntKind.u64.wrap a) = -a := by
  rw [IntKind.wrap_u64, IntKind.wrap_u64]; omega
theorem sizeOf_any (a : Int) (ha : inR a) (w : World) :
    Calls Tryz.prog 125 #[.int .i64 a] w fun e w' => e = .returned (.int .u64 (absI a)) ∧ w' = w := by
  unfold inR at ha
  obtain ⟨h1, h2⟩ := ha
  by_cases h : a < 0
  · rw [absI_neg h]
    go_enter Tryz.func125, Tryz.ntmps125
    go_wp2
    go_ret
    exact ⟨ret_i (neg_u64 a h h1), rfl⟩
  · rw [absI_pos h]
    go_enter Tryz.func125, Tryz.ntmps125
    go_wp2
    go_ret
    exact ⟨rfl, rfl⟩

end Go.Proofs.YtccjeipkljdhdaaGreatDoor
