/-
  WALKS: step, kind by kind (made by wip/gen/gen_step.py).
-/
import Derived.Test.YtnoimmjijkgjaaaWPX1
import Derived.Test.YtnoimmjijkgjaaaWBack1
namespace Go.Proofs.Ytnoimmjijkgjaaa
open Go.RowKit
set_option linter.unusedVariables false
set_option linter.unusedSimpArgs false

theorem box_two {w w1 w2 : World} {p p' : Nat} {o : Obj} (g : Gr p (w.alloc o) w1) (g2 : Gr p' w1 w2) (hp : p' < w.heap.size) (j : Nat) : w2.cell? ⟨w.heap.size, j, none⟩ = w1.cell? ⟨w.heap.size, j, none⟩ :=
  World.cell?_of_block (a := ⟨w.heap.size, j, none⟩) (g2.block w.heap.size (Nat.lt_of_lt_of_le (by simp) g.size) (fun e => by injection e with e; omega))
theorem place_same0 (B p : Nat) (a : Option Addr) (n cap : Nat) (xs : List Int) (k : Nat) (w : World) (h : RB w B p a n cap xs k) :
    Calls Try.prog 24 #[.pointer (some ⟨p, 0, none⟩)] w fun e w' => e = .returned (.int .i64 (k : Int)) ∧ w' = w := by
  have h2 := h.ac
  clear h
  go_enter Try.func24, Try.ntmps24
  go_wp2
  go_ret
  exact ⟨rfl, rfl⟩

set_option maxRecDepth 100000 in
set_option maxHeartbeats 1500000 in
theorem step_uint (B q p : Nat) (a : Option Addr) (n cap : Nat) (xs : List Int) (k p' : Nat) (a' : Option Addr) (cap' : Nat) (X : World → Prop) (lim : Nat) (nn : Int) (w : World) (h : PO w B q p a n cap xs k p' a' cap' X)  :
    Calls Try.prog 9 #[.pointer (some ⟨q, 0, none⟩), .agg #[.int .i64 1, .int .u64 (lim : Int), .int .i64 nn]] w fun e w' => e = .returned (.bool true) ∧ StepP w w' B q p a n cap xs p' a' cap' X := by
  have HA := Lib.hid (h.alloc (.cells #[.int .i64 1, .int .u64 (lim : Int), .int .i64 nn] 41))
  have HH := Lib.hid h
  have hp := h.rp.lt
  have hp' := h.rr.lt
  have q0 : (w.alloc (.cells #[.int .i64 1, .int .u64 (lim : Int), .int .i64 nn] 41)).cell? ⟨q, 0, none⟩ = some (.pointer (some ⟨p, 0, none⟩)) := HA.out.c0
  have q1 : (w.alloc (.cells #[.int .i64 1, .int .u64 (lim : Int), .int .i64 nn] 41)).cell? ⟨q, 1, none⟩ = some (.pointer (some ⟨p', 0, none⟩)) := HA.out.c1
  have KU := Lib.hid (fun W (g : RB W B p a n cap xs k) => uint_any B p a n cap xs k lim W g)
  have KR := Lib.hid (fun W (g : RE W B p' a' n cap' xs k) => uintR_any B p' a' n cap' xs k lim W g)
  rcases hR : uR (xs.drop k) lim with ⟨x, er, m⟩
  rw [hR] at KU KR
  simp only at KU KR
  clear hR
  clear h
  go_enter Try.func9, Try.ntmps9
  go_wp2
  go_region_held3 (fun w' => w'.cell? ⟨q, 0, none⟩ = some (.pointer (some ⟨p, 0, none⟩)) ∧ w'.cell? ⟨w.heap.size, 1, none⟩ = some (.int .u64 (lim : Int)))
    (refine ⟨?_, ?_⟩ <;> first | assumption | (go_simp; done))
    (first
    | (go_at_call 16; refine (KU.out _ HA.out.rp.drew).mono ?_; rintro e w1 ⟨rfl, h1, h2⟩; have G1 := Lib.hid (gr_drew0 h2); have R1 := Lib.hid h1; obtain ⟨y0, y1, y2, y3⟩ := HA.out.afterP G1.out; have Y3 := Lib.hid y3; have b1 := box_gr G1.out hp 1; have b2 := box_gr G1.out hp 2; simp at b1 b2; clear h1 h2 y2 y3))
  go_wp2
  go_region_held3 (fun w' => w'.cell? ⟨q, 1, none⟩ = some (.pointer (some ⟨p', 0, none⟩)) ∧ w'.cell? ⟨w.heap.size, 1, none⟩ = some (.int .u64 (lim : Int)))
    (refine ⟨?_, ?_⟩ <;> first | assumption | (go_simp; done))
    (first
    | (go_at_call 17; refine (KR.out _ Y3.out.drew).mono ?_; rintro e w2 ⟨rfl, h1, h2⟩; have G2 := Lib.hid (gr_drew0 h2); have R2 := Lib.hid h1; have z1 := (HA.out.afterR G1.out R1.out G2.out R2.out).c1; have z2 := (box_two G1.out G2.out hp' 1).trans b1; have z3 := (box_two G1.out G2.out hp' 2).trans b2; clear h1 h2))
  go_wp2
  go_ret
  exact ⟨by first | rfl | simp, stepP_of HA.out G1.out R1.out G2.out R2.out⟩


set_option maxRecDepth 100000 in
set_option maxHeartbeats 1500000 in
theorem step_int (B q p : Nat) (a : Option Addr) (n cap : Nat) (xs : List Int) (k p' : Nat) (a' : Option Addr) (cap' : Nat) (X : World → Prop) (lim : Int) (nn : Int) (w : World) (h : PO w B q p a n cap xs k p' a' cap' X)  :
    Calls Try.prog 9 #[.pointer (some ⟨q, 0, none⟩), .agg #[.int .i64 2, .int .u64 lim, .int .i64 nn]] w fun e w' => e = .returned (.bool true) ∧ StepP w w' B q p a n cap xs p' a' cap' X := by
  have HA := Lib.hid (h.alloc (.cells #[.int .i64 2, .int .u64 lim, .int .i64 nn] 41))
  have HH := Lib.hid h
  have hp := h.rp.lt
  have hp' := h.rr.lt
  have q0 : (w.alloc (.cells #[.int .i64 2, .int .u64 lim, .int .i64 nn] 41)).cell? ⟨q, 0, none⟩ = some (.pointer (some ⟨p, 0, none⟩)) := HA.out.c0
  have q1 : (w.alloc (.cells #[.int .i64 2, .int .u64 lim, .int .i64 nn] 41)).cell? ⟨q, 1, none⟩ = some (.pointer (some ⟨p', 0, none⟩)) := HA.out.c1
  have KU := Lib.hid (fun W (g : RB W B p a n cap xs k) => int_any B p a n cap xs k W g)
  have KR := Lib.hid (fun W (g : RE W B p' a' n cap' xs k) => intR_any B p' a' n cap' xs k W g)
  rcases hR : uR (xs.drop k) 18446744073709551615 with ⟨x, er, m⟩
  rw [hR] at KU KR
  simp only at KU KR
  generalize uz x = ux at *
  clear hR
  clear h
  go_enter Try.func9, Try.ntmps9
  go_wp2_with (first
    | (go_at_call 18; refine (KU.out _ HA.out.rp).mono ?_; rintro e w1 ⟨rfl, h1, h2⟩; have G1 := Lib.hid h2; have R1 := Lib.hid h1; obtain ⟨y0, y1, y2, y3⟩ := HA.out.afterP G1.out; have Y3 := Lib.hid y3; clear h1 h2 y2 y3)
    | (go_at_call 19; refine (KR.out _ Y3.out).mono ?_; rintro e w2 ⟨rfl, h1, h2⟩; have G2 := Lib.hid h2; have R2 := Lib.hid h1; clear h1 h2))
  go_ret
  exact ⟨by first | rfl | simp, stepP_of HA.out G1.out R1.out G2.out R2.out⟩


set_option maxRecDepth 100000 in
set_option maxHeartbeats 1500000 in
theorem step_place (B q p : Nat) (a : Option Addr) (n cap : Nat) (xs : List Int) (k p' : Nat) (a' : Option Addr) (cap' : Nat) (X : World → Prop) (lim : Int) (nn : Int) (w : World) (h : PO w B q p a n cap xs k p' a' cap' X)  :
    Calls Try.prog 9 #[.pointer (some ⟨q, 0, none⟩), .agg #[.int .i64 5, .int .u64 lim, .int .i64 nn]] w fun e w' => e = .returned (.bool true) ∧ StepP w w' B q p a n cap xs p' a' cap' X := by
  have HA := Lib.hid (h.alloc (.cells #[.int .i64 5, .int .u64 lim, .int .i64 nn] 41))
  have HH := Lib.hid h
  have hp := h.rp.lt
  have hp' := h.rr.lt
  have q0 : (w.alloc (.cells #[.int .i64 5, .int .u64 lim, .int .i64 nn] 41)).cell? ⟨q, 0, none⟩ = some (.pointer (some ⟨p, 0, none⟩)) := HA.out.c0
  have q1 : (w.alloc (.cells #[.int .i64 5, .int .u64 lim, .int .i64 nn] 41)).cell? ⟨q, 1, none⟩ = some (.pointer (some ⟨p', 0, none⟩)) := HA.out.c1
  have KU := Lib.hid (fun W (g : RB W B p a n cap xs k) => place_same0 B p a n cap xs k W g)
  have KR := Lib.hid (fun W (g : RE W B p' a' n cap' xs k) => placeR_same B p' a' n cap' xs k W g)
  clear h
  go_enter Try.func9, Try.ntmps9
  go_wp2_with (first
    | (go_at_call 24; refine (KU.out _ HA.out.rp).mono ?_; rintro e w1 ⟨rfl, h1⟩; subst h1)
    | (go_at_call 25; refine (KR.out _ HA.out.rr).mono ?_; rintro e w2 ⟨rfl, h1⟩; subst h1))
  go_ret
  exact ⟨by first | rfl | simp, stepP_none HH.out (gr_refl _ _)⟩


set_option maxRecDepth 100000 in
set_option maxHeartbeats 1500000 in
theorem step_left (B q p : Nat) (a : Option Addr) (n cap : Nat) (xs : List Int) (k p' : Nat) (a' : Option Addr) (cap' : Nat) (X : World → Prop) (lim : Int) (nn : Int) (w : World) (h : PO w B q p a n cap xs k p' a' cap' X)  :
    Calls Try.prog 9 #[.pointer (some ⟨q, 0, none⟩), .agg #[.int .i64 6, .int .u64 lim, .int .i64 nn]] w fun e w' => e = .returned (.bool true) ∧ StepP w w' B q p a n cap xs p' a' cap' X := by
  have HA := Lib.hid (h.alloc (.cells #[.int .i64 6, .int .u64 lim, .int .i64 nn] 41))
  have HH := Lib.hid h
  have hp := h.rp.lt
  have hp' := h.rr.lt
  have q0 : (w.alloc (.cells #[.int .i64 6, .int .u64 lim, .int .i64 nn] 41)).cell? ⟨q, 0, none⟩ = some (.pointer (some ⟨p, 0, none⟩)) := HA.out.c0
  have q1 : (w.alloc (.cells #[.int .i64 6, .int .u64 lim, .int .i64 nn] 41)).cell? ⟨q, 1, none⟩ = some (.pointer (some ⟨p', 0, none⟩)) := HA.out.c1
  have KU := Lib.hid (fun W (g : RB W B p a n cap xs k) => left_q B p a n cap xs k W g)
  have KR := Lib.hid (fun W (g : RE W B p' a' n cap' xs k) => leftR_q B p' a' n cap' xs k W g)
  generalize ((n - k : Nat) : Int) = r at *
  clear h
  go_enter Try.func9, Try.ntmps9
  go_wp2_with (first
    | (go_at_call 26; refine (KU.out _ HA.out.rp).mono ?_; rintro e w1 ⟨rfl, i1, rfl⟩)
    | (go_at_call 27; refine (KR.out _ (HA.out.rr.drewN i1)).mono ?_; rintro e w2 ⟨rfl, i2, rfl⟩))
  go_ret
  exact ⟨by first | rfl | simp, stepP_none HH.out (gr_drewN (gr_refl _ _) _)⟩


set_option maxRecDepth 100000 in
set_option maxHeartbeats 1500000 in
theorem step_other (B q p : Nat) (a : Option Addr) (n cap : Nat) (xs : List Int) (k p' : Nat) (a' : Option Addr) (cap' : Nat) (X : World → Prop) (kd : Int) (lim : Int) (nn : Int) (w : World) (h : PO w B q p a n cap xs k p' a' cap' X) (k1 : kd ≠ 1) (k2 : kd ≠ 2) (k3 : kd ≠ 3) (k4 : kd ≠ 4) (k5 : kd ≠ 5) (k6 : kd ≠ 6) :
    Calls Try.prog 9 #[.pointer (some ⟨q, 0, none⟩), .agg #[.int .i64 kd, .int .u64 lim, .int .i64 nn]] w fun e w' => e = .returned (.bool true) ∧ StepP w w' B q p a n cap xs p' a' cap' X := by
  have HA := Lib.hid (h.alloc (.cells #[.int .i64 kd, .int .u64 lim, .int .i64 nn] 41))
  have HH := Lib.hid h
  have hp := h.rp.lt
  have hp' := h.rr.lt
  have q0 : (w.alloc (.cells #[.int .i64 kd, .int .u64 lim, .int .i64 nn] 41)).cell? ⟨q, 0, none⟩ = some (.pointer (some ⟨p, 0, none⟩)) := HA.out.c0
  have q1 : (w.alloc (.cells #[.int .i64 kd, .int .u64 lim, .int .i64 nn] 41)).cell? ⟨q, 1, none⟩ = some (.pointer (some ⟨p', 0, none⟩)) := HA.out.c1
  have e1 : (kd == 1) = false := by simpa using k1
  have e2 : (kd == 2) = false := by simpa using k2
  have e3 : (kd == 3) = false := by simpa using k3
  have e4 : (kd == 4) = false := by simpa using k4
  have e5 : (kd == 5) = false := by simpa using k5
  have e6 : (kd == 6) = false := by simpa using k6
  clear h
  go_enter Try.func9, Try.ntmps9
  go_wp2
  go_ret
  exact ⟨by first | rfl | simp, stepP_none HH.out (gr_refl _ _)⟩

end Go.Proofs.Ytnoimmjijkgjaaa
