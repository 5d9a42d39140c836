/-
  WALK: heads.
-/
import Derived.Test.YtmdgfcldohmjdaaDoorWHeads
namespace Go.Proofs.YtmdgfcldohmjdaaDoor
open Go.RowKit
set_option linter.unusedVariables false
set_option linter.unusedSimpArgs false

set_option maxRecDepth 100000 in
set_option maxHeartbeats 2000000 in
theorem heads_any (hsort : SortsN) (w : World) (hP : Pw w.heap.size w) :
    Calls Tryd.prog 8 #[] w fun e w' => e = .returned (.bool true) ∧ Below w.heap.size w w' := by
  obtain ⟨w1, hw1⟩ : ∃ w1, w.alloc (.cells #[.int .i64 3, .string ⟨#[69, 85, 82]⟩, .int .i64 5, .int .i64 1, .string ⟨#[85, 83, 68]⟩, .int .i64 2, .int .i64 3, .string ⟨#[69, 85, 82]⟩, .int .i64 (-5)] 32) = w1 := ⟨_, rfl⟩
  have C := Lib.hid (p := ∀ j (v : Value), (#[.int .i64 3, .string ⟨#[69, 85, 82]⟩, .int .i64 5, .int .i64 1, .string ⟨#[85, 83, 68]⟩, .int .i64 2, .int .i64 3, .string ⟨#[69, 85, 82]⟩, .int .i64 (-5)] : Array Value)[j]? = some v → w1.cell? ⟨w.heap.size, j, none⟩ = some v) (fun j v h => by rw [← hw1, World.cell?_alloc_at _ _ _ _ rfl]; exact h)
  have SZ := Lib.hid (p := w.heap.size < w1.heap.size) (by rw [← hw1]; simp)
  have F1 := Lib.hid (p := FL w1 (some ⟨w.heap.size, 0, none⟩) 3 hl3) ⟨rfl, by omega, .inr ⟨_, 0, rfl, SZ.out, fun i hi => by
    rcases (show i = 0 ∨ i = 1 ∨ i = 2 by omega) with rfl | rfl | rfl
    · exact ⟨C.out 0 _ rfl, C.out 1 _ rfl, C.out 2 _ rfl⟩
    · exact ⟨C.out 3 _ rfl, C.out 4 _ rfl, C.out 5 _ rfl⟩
    · exact ⟨C.out 6 _ rfl, C.out 7 _ rfl, C.out 8 _ rfl⟩⟩⟩
  have B1 := Lib.hid (p := Below w.heap.size w w1) (by rw [← hw1]; exact (Below.refl _ _).alloc (Nat.le_refl _) _)
  have KN := Lib.hid (net_hl hsort _ 3 w1 F1.out)
  have HW := Lib.hid hw1
  have PP := Lib.hid hP
  clear hw1 hP
  go_enter Tryd.func8, Tryd.ntmps8
  go_wp2_with fail
  rw [HW.out]
  go_at_call 15
  refine KN.out.mono ?_
  rintro e w2 ⟨x, c, rfl, b2, f2⟩
  have B2 := Lib.hid b2
  have F2 := Lib.hid f2
  have BW2 := Lib.hid (B1.out.trans (b2.mono B1.out.size))
  obtain ⟨b, o, rfl, hb, hc⟩ : ∃ b o, x = some ⟨b, o, none⟩ ∧ b < w2.heap.size ∧ ∀ i, i < 2 → FC w2 b (o + i * 3) ([hf1, hf2].getD i default) := by
    rcases f2.2.2 with h | h
    · cases h
    · exact h
  obtain ⟨n0, n1, n2⟩ := hc 0 (by omega)
  obtain ⟨n3, n4, n5⟩ := hc 1 (by omega)
  have l3 := (b2.cell (p := ⟨w.heap.size, 3, none⟩) SZ.out).trans (C.out 3 _ rfl)
  have l4 := (b2.cell (p := ⟨w.heap.size, 4, none⟩) SZ.out).trans (C.out 4 _ rfl)
  have l5 := (b2.cell (p := ⟨w.heap.size, 5, none⟩) SZ.out).trans (C.out 5 _ rfl)
  simp [hf1, hf2, bEUR, bUSD] at n0 n1 n2 n3 n4 n5
  clear b2 f2 hc
  go_wp2
  go_quiet (fail)
  obtain ⟨w3, hw3⟩ : ∃ w3, w2.drewN nq = w3 := ⟨_, rfl⟩
  have B3 := Lib.hid (p := Below w2.heap.size w2 w3) (by rw [← hw3]; exact ⟨rfl, rfl, rfl, Nat.le_refl _, fun _ _ => rfl⟩)
  rw [hw3]
  have BW3 := Lib.hid (BW2.out.trans (B3.out.mono BW2.out.size))
  have F3 := Lib.hid (F2.out.later B3.out)
  have KP := Lib.hid (fun C => print_hl _ C w3 F3.out (fun W b => PP.out W (BW3.out.trans (b.mono BW3.out.size))))
  clear hw3 n0 n1 n2 n3 n4 n5 l3 l4 l5 F2 KN F1
  go_wp2_with fail
  go_at_call 10
  refine (KP.out _).mono ?_
  rintro e w4 ⟨rfl, b4⟩
  have BW4 := Lib.hid (BW3.out.trans (b4.mono BW3.out.size))
  have F4 := Lib.hid (F3.out.later b4)
  clear b4
  go_wp2_with fail
  go_at_call 9
  refine (parse_hl _).mono ?_
  rintro e w5 ⟨y, cy, rfl, b5, f5⟩
  have BW5 := Lib.hid (BW4.out.trans (b5.mono BW4.out.size))
  have F5 := Lib.hid (F4.out.later b5)
  have G5 := Lib.hid f5
  clear b5 f5
  have ss : (hTxt.toList == [49, 32, 85, 83, 68, 32, 50, 10, 51, 32, 69, 85, 82, 32, 48, 10]) = true := by rw [beq_iff_eq, Lib.toList_data]; rfl
  go_wp2_with fail
  go_at_call 12
  refine (same_fl _ _ 2 _ _ [hf1, hf2] _ G5.out F5.out).mono ?_
  rintro e w6 ⟨rfl, b6⟩
  have BW6 := Lib.hid (BW5.out.trans (b6.mono BW5.out.size))
  clear b6
  go_wp2
  go_ret
  exact ⟨rfl, BW6.out⟩
end Go.Proofs.YtmdgfcldohmjdaaDoor
