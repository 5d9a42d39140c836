/-
  WALKS: step, kind by kind (made by wip/gen/gen_step.py).
-/
import Derived.Test.YtnoimmjijkgjaaaWPX2
namespace Go.Proofs.Ytnoimmjijkgjaaa
open Go.RowKit
set_option linter.unusedVariables false
set_option linter.unusedSimpArgs false

set_option maxRecDepth 100000 in
set_option maxHeartbeats 1500000 in
theorem step_text_bad (B q p : Nat) (a : Option Addr) (n cap : Nat) (xs : List Int) (k p' : Nat) (a' : Option Addr) (cap' : Nat) (X : World → Prop) (lim : Int) (m : Nat) (er : Int) (w : World) (h : PO w B q p a n cap xs k p' a' cap' X) (hm : m ≤ 9223372036854775807) (hu : uR (xs.drop k) m = (0, er, 0)) (he : er ≠ 0) :
    Calls Try.prog 9 #[.pointer (some ⟨q, 0, none⟩), .agg #[.int .i64 3, .int .u64 lim, .int .i64 (m : Int)]] w fun e w' => e = .returned (.bool true) ∧ StepP w w' B q p a n cap xs p' a' cap' X := by
  have HA := Lib.hid (h.alloc (.cells #[.int .i64 3, .int .u64 lim, .int .i64 (m : Int)] 41))
  have HH := Lib.hid h
  have hp := h.rp.lt
  have hp' := h.rr.lt
  have q0 : (w.alloc (.cells #[.int .i64 3, .int .u64 lim, .int .i64 (m : Int)] 41)).cell? ⟨q, 0, none⟩ = some (.pointer (some ⟨p, 0, none⟩)) := HA.out.c0
  have q1 : (w.alloc (.cells #[.int .i64 3, .int .u64 lim, .int .i64 (m : Int)] 41)).cell? ⟨q, 1, none⟩ = some (.pointer (some ⟨p', 0, none⟩)) := HA.out.c1
  have KU := Lib.hid (fun W (g : RB W B p a n cap xs k) => text_bad B p a n cap xs k m er W g hm hu he)
  have KR := Lib.hid (fun W (g : RE W B p' a' n cap' xs k) => textR_bad B p' a' n cap' xs k m er W g hm hu he)
  clear hu
  clear h
  go_enter Try.func9, Try.ntmps9
  go_wp2
  go_region_held3 (fun w' => w'.cell? ⟨q, 0, none⟩ = some (.pointer (some ⟨p, 0, none⟩)) ∧ w'.cell? ⟨w.heap.size, 2, none⟩ = some (.int .i64 (m : Int)))
    (refine ⟨?_, ?_⟩ <;> first | assumption | (go_simp; done))
    (first
    | (go_at_call 20; refine (KU.out _ HA.out.rp.drew).mono ?_; rintro e w1 ⟨rfl, h1, h2⟩; have G1 := Lib.hid (gr_drew0 h2); have R1 := Lib.hid h1; obtain ⟨y0, y1, y2, y3⟩ := HA.out.afterP G1.out; have Y3 := Lib.hid y3; have b1 := box_gr G1.out hp 1; have b2 := box_gr G1.out hp 2; simp at b1 b2; clear h1 h2 y2 y3))
  go_wp2
  go_region_held3 (fun w' => w'.cell? ⟨q, 1, none⟩ = some (.pointer (some ⟨p', 0, none⟩)) ∧ w'.cell? ⟨w.heap.size, 2, none⟩ = some (.int .i64 (m : Int)))
    (refine ⟨?_, ?_⟩ <;> first | assumption | (go_simp; done))
    (first
    | (go_at_call 21; refine (KR.out _ Y3.out.drew).mono ?_; rintro e w2 ⟨rfl, h1, h2⟩; have G2 := Lib.hid (gr_drew0 h2); have R2 := Lib.hid h1; have z1 := (HA.out.afterR G1.out R1.out G2.out R2.out).c1; have z2 := (box_two G1.out G2.out hp' 1).trans b1; have z3 := (box_two G1.out G2.out hp' 2).trans b2; clear h1 h2))
  go_wp2
  go_ret
  exact ⟨by first | rfl | simp, stepP_of HA.out G1.out R1.out G2.out R2.out⟩


set_option maxRecDepth 100000 in
set_option maxHeartbeats 1500000 in
theorem step_text_short (B q p : Nat) (a : Option Addr) (n cap : Nat) (xs : List Int) (k p' : Nat) (a' : Option Addr) (cap' : Nat) (X : World → Prop) (lim : Int) (m z j : Nat) (w : World) (h : PO w B q p a n cap xs k p' a' cap' X) (hm : m ≤ 9223372036854775807) (hu : uR (xs.drop k) m = (z, 0, j)) (hj : 1 ≤ j) (hj2 : k + j ≤ n) (hz : n - (k + j) < z) (hz2 : z ≤ 9223372036854775807) :
    Calls Try.prog 9 #[.pointer (some ⟨q, 0, none⟩), .agg #[.int .i64 3, .int .u64 lim, .int .i64 (m : Int)]] w fun e w' => e = .returned (.bool true) ∧ StepP w w' B q p a n cap xs p' a' cap' X := by
  have HA := Lib.hid (h.alloc (.cells #[.int .i64 3, .int .u64 lim, .int .i64 (m : Int)] 41))
  have HH := Lib.hid h
  have hp := h.rp.lt
  have hp' := h.rr.lt
  have q0 : (w.alloc (.cells #[.int .i64 3, .int .u64 lim, .int .i64 (m : Int)] 41)).cell? ⟨q, 0, none⟩ = some (.pointer (some ⟨p, 0, none⟩)) := HA.out.c0
  have q1 : (w.alloc (.cells #[.int .i64 3, .int .u64 lim, .int .i64 (m : Int)] 41)).cell? ⟨q, 1, none⟩ = some (.pointer (some ⟨p', 0, none⟩)) := HA.out.c1
  have KU := Lib.hid (fun W (g : RB W B p a n cap xs k) => text_short B p a n cap xs k m z j W g hm hu hz hz2)
  have KR := Lib.hid (fun W (g : RE W B p' a' n cap' xs k) => textR_short B p' a' n cap' xs k m z j W g hm hu hj hj2 hz)
  clear hu
  clear h
  go_enter Try.func9, Try.ntmps9
  go_wp2
  go_region_held3 (fun w' => w'.cell? ⟨q, 0, none⟩ = some (.pointer (some ⟨p, 0, none⟩)) ∧ w'.cell? ⟨w.heap.size, 2, none⟩ = some (.int .i64 (m : Int)))
    (refine ⟨?_, ?_⟩ <;> first | assumption | (go_simp; done))
    (first
    | (go_at_call 20; refine (KU.out _ HA.out.rp.drew).mono ?_; rintro e w1 ⟨rfl, h1, h2⟩; have G1 := Lib.hid (gr_drew0 h2); have R1 := Lib.hid h1; obtain ⟨y0, y1, y2, y3⟩ := HA.out.afterP G1.out; have Y3 := Lib.hid y3; have b1 := box_gr G1.out hp 1; have b2 := box_gr G1.out hp 2; simp at b1 b2; clear h1 h2 y2 y3))
  go_wp2
  go_region_held3 (fun w' => w'.cell? ⟨q, 1, none⟩ = some (.pointer (some ⟨p', 0, none⟩)) ∧ w'.cell? ⟨w.heap.size, 2, none⟩ = some (.int .i64 (m : Int)))
    (refine ⟨?_, ?_⟩ <;> first | assumption | (go_simp; done))
    (first
    | (go_at_call 21; refine (KR.out _ Y3.out.drew).mono ?_; rintro e w2 ⟨rfl, h1, h2⟩; have G2 := Lib.hid (gr_drew0 h2); have R2 := Lib.hid h1; have z1 := (HA.out.afterR G1.out R1.out G2.out R2.out).c1; have z2 := (box_two G1.out G2.out hp' 1).trans b1; have z3 := (box_two G1.out G2.out hp' 2).trans b2; clear h1 h2))
  go_wp2
  go_ret
  exact ⟨by first | rfl | simp, stepP_of HA.out G1.out R1.out G2.out R2.out⟩


set_option maxRecDepth 100000 in
set_option maxHeartbeats 1500000 in
theorem step_text_ok (B q p : Nat) (a : Option Addr) (n cap : Nat) (xs : List Int) (k p' : Nat) (a' : Option Addr) (cap' : Nat) (X : World → Prop) (lim : Int) (m j : Nat) (t : ByteArray) (w : World) (h : PO w B q p a n cap xs k p' a' cap' X) (hm : m ≤ 9223372036854775807) (hu : uR (xs.drop k) m = (t.size, 0, j)) (hj : 1 ≤ j) (hz : k + j + t.size ≤ n) (ht : (xs.drop (k + j)).take t.size = sb t) :
    Calls Try.prog 9 #[.pointer (some ⟨q, 0, none⟩), .agg #[.int .i64 3, .int .u64 lim, .int .i64 (m : Int)]] w fun e w' => e = .returned (.bool true) ∧ StepP w w' B q p a n cap xs p' a' cap' X := by
  have HA := Lib.hid (h.alloc (.cells #[.int .i64 3, .int .u64 lim, .int .i64 (m : Int)] 41))
  have HH := Lib.hid h
  have hp := h.rp.lt
  have hp' := h.rr.lt
  have q0 : (w.alloc (.cells #[.int .i64 3, .int .u64 lim, .int .i64 (m : Int)] 41)).cell? ⟨q, 0, none⟩ = some (.pointer (some ⟨p, 0, none⟩)) := HA.out.c0
  have q1 : (w.alloc (.cells #[.int .i64 3, .int .u64 lim, .int .i64 (m : Int)] 41)).cell? ⟨q, 1, none⟩ = some (.pointer (some ⟨p', 0, none⟩)) := HA.out.c1
  have KU := Lib.hid (fun W (g : RB W B p a n cap xs k) => text_ok B p a n cap xs k m j t W g hm hu hz ht)
  have KR := Lib.hid (fun W (g : RE W B p' a' n cap' xs k) => textR_ok B p' a' n cap' xs k m j t W g hm hu hj hz ht)
  have ss := str_self t
  clear hu ht
  clear h
  go_enter Try.func9, Try.ntmps9
  go_wp2
  go_region_held3 (fun w' => w'.cell? ⟨q, 0, none⟩ = some (.pointer (some ⟨p, 0, none⟩)) ∧ w'.cell? ⟨w.heap.size, 2, none⟩ = some (.int .i64 (m : Int)))
    (refine ⟨?_, ?_⟩ <;> first | assumption | (go_simp; done))
    (first
    | (go_at_call 20; refine (KU.out _ HA.out.rp.drew).mono ?_; rintro e w1 ⟨rfl, h1, h2⟩; have G1 := Lib.hid (gr_drew0 h2); have R1 := Lib.hid h1; obtain ⟨y0, y1, y2, y3⟩ := HA.out.afterP G1.out; have Y3 := Lib.hid y3; have b1 := box_gr G1.out hp 1; have b2 := box_gr G1.out hp 2; simp at b1 b2; clear h1 h2 y2 y3))
  go_wp2
  go_region_held3 (fun w' => w'.cell? ⟨q, 1, none⟩ = some (.pointer (some ⟨p', 0, none⟩)) ∧ w'.cell? ⟨w.heap.size, 2, none⟩ = some (.int .i64 (m : Int)))
    (refine ⟨?_, ?_⟩ <;> first | assumption | (go_simp; done))
    (first
    | (go_at_call 21; refine (KR.out _ Y3.out.drew).mono ?_; rintro e w2 ⟨rfl, h1, h2⟩; have G2 := Lib.hid (gr_drew0 h2); have R2 := Lib.hid h1; have z1 := (HA.out.afterR G1.out R1.out G2.out R2.out).c1; have z2 := (box_two G1.out G2.out hp' 1).trans b1; have z3 := (box_two G1.out G2.out hp' 2).trans b2; clear h1 h2))
  go_wp2
  go_ret
  exact ⟨by first | rfl | simp, stepP_of HA.out G1.out R1.out G2.out R2.out⟩


set_option maxRecDepth 100000 in
set_option maxHeartbeats 1500000 in
theorem step_text_neg (B q p : Nat) (a : Option Addr) (n cap : Nat) (xs : List Int) (k p' : Nat) (a' : Option Addr) (cap' : Nat) (X : World → Prop) (lim : Int) (nn : Int) (w : World) (h : PO w B q p a n cap xs k p' a' cap' X) (hm : nn < 0) :
    Calls Try.prog 9 #[.pointer (some ⟨q, 0, none⟩), .agg #[.int .i64 3, .int .u64 lim, .int .i64 nn]] w fun e w' => e = .returned (.bool true) ∧ StepP w w' B q p a n cap xs p' a' cap' X := by
  have HA := Lib.hid (h.alloc (.cells #[.int .i64 3, .int .u64 lim, .int .i64 nn] 41))
  have HH := Lib.hid h
  have hp := h.rp.lt
  have hp' := h.rr.lt
  have q0 : (w.alloc (.cells #[.int .i64 3, .int .u64 lim, .int .i64 nn] 41)).cell? ⟨q, 0, none⟩ = some (.pointer (some ⟨p, 0, none⟩)) := HA.out.c0
  have q1 : (w.alloc (.cells #[.int .i64 3, .int .u64 lim, .int .i64 nn] 41)).cell? ⟨q, 1, none⟩ = some (.pointer (some ⟨p', 0, none⟩)) := HA.out.c1
  have KU := Lib.hid (fun W => text_neg B p nn W hm)
  have KR := Lib.hid (fun W => textR_neg p' nn W hm)
  clear h
  go_enter Try.func9, Try.ntmps9
  go_wp2
  go_region_held3 (fun w' => w'.cell? ⟨q, 0, none⟩ = some (.pointer (some ⟨p, 0, none⟩)) ∧ w'.cell? ⟨w.heap.size, 2, none⟩ = some (.int .i64 nn))
    (refine ⟨?_, ?_⟩ <;> first | assumption | (go_simp; done))
    (first
    | (go_at_call 20; refine (KU.out _).mono ?_; rintro e w1 ⟨rfl, h1⟩; subst h1))
  go_wp2
  go_region_held3 (fun w' => w'.cell? ⟨q, 1, none⟩ = some (.pointer (some ⟨p', 0, none⟩)) ∧ w'.cell? ⟨w.heap.size, 2, none⟩ = some (.int .i64 nn))
    (refine ⟨?_, ?_⟩ <;> first | assumption | (go_simp; done))
    (first
    | (go_at_call 21; refine (KR.out _).mono ?_; rintro e w2 ⟨rfl, h1⟩; subst h1))
  go_wp2
  go_ret
  exact ⟨by first | rfl | simp, stepP_none HH.out ⟨rfl, rfl, rfl, Nat.le_refl _, fun _ _ _ => rfl⟩⟩

end Go.Proofs.Ytnoimmjijkgjaaa
