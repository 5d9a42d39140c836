/-
  WALKS: Digits at any number, Line (the document's).
-/
import Derived.Test.YtmbnbediedpgmaaDoorWDigits
import Derived.Test.YtmbnbediedpgmaaDoorWPrint
import Derived.Deep.RegionHeld3
namespace Go.Proofs.YtmbnbediedpgmaaDoor
open Go.RowKit
set_option linter.unusedVariables false
set_option linter.unusedSimpArgs false

theorem digits_zero (w : World) : Calls Tryd.prog 15 #[.int .i64 0] w fun e w' => e = .returned (.string ⟨(Lib.itoa 0).toArray⟩) ∧ Below w.heap.size w w' := by
  have IT := Lib.hid (p := Lib.itoa 0 = [48]) (by rw [show (0 : Int) = ((0 : Nat) : Int) from rfl, Lib.itoa_nonneg, Lib.decDigits_one (by omega)]; rfl)
  go_enter Tryd.func15, Tryd.ntmps15
  go_wp2
  go_ret
  exact ⟨by rw [IT.out]; rfl, Below.refl _ _⟩
theorem digits_doc (n : Int) (h0 : -9223372036854775808 ≤ n) (h1 : n ≤ 9223372036854775807) (w : World) :
    Calls Tryd.prog 15 #[.int .i64 n] w fun e w' => e = .returned (.string ⟨(Lib.itoa n).toArray⟩) ∧ Below w.heap.size w w' := by
  rcases Int.lt_trichotomy n 0 with h | rfl | h
  · obtain ⟨u, rfl⟩ : ∃ u : Nat, n = -(u : Int) := ⟨n.natAbs, by omega⟩
    exact digits_neg u (by omega) (by omega) w
  · exact digits_zero w
  · obtain ⟨u, rfl⟩ : ∃ u : Nat, n = (u : Int) := ⟨n.toNat, by omega⟩
    exact digits_pos u (by omega) (by omega) w

set_option maxRecDepth 100000 in
set_option maxHeartbeats 4000000 in
theorem line_doc (d a : Int) (c : ByteArray) (w : World) (hc : c.size = 3) (hd : (Lit.int .i64 d).wf = true) (ha : (Lit.int .i64 a).wf = true) :
    Calls Tryd.prog 11 #[.agg #[.int .i64 d, .string c, .int .i64 a]] w fun e w' => e = .returned (.string ⟨(lineL ⟨d, c, a⟩).toArray⟩) ∧ Below w.heap.size w w' := by
  have d0 : -9223372036854775808 ≤ d ∧ d ≤ 9223372036854775807 := by simpa [Lit.wf, IntKind.min, IntKind.max, IntKind.bits, IntKind.signed] using hd
  have a0 : -9223372036854775808 ≤ a ∧ a ≤ 9223372036854775807 := by simpa [Lit.wf, IntKind.min, IntKind.max, IntKind.bits, IntKind.signed] using ha
  have ld := Lib.itoa_length_le d d0.1 d0.2
  have la := Lib.itoa_length_le a a0.1 a0.2
  obtain ⟨cl, rfl⟩ : ∃ cl : List UInt8, c = ⟨cl.toArray⟩ := ⟨c.data.toList, by cases c; simp⟩
  have lc : cl.length = 3 := by simpa [ByteArray.size] using hc
  have K1 := Lib.hid (fun W => digits_doc d d0.1 d0.2 W)
  have K2 := Lib.hid (fun W => digits_doc a a0.1 a0.2 W)
  have LL := Lib.hid (p := lineL ⟨d, ⟨cl.toArray⟩, a⟩ = Lib.itoa d ++ [32] ++ cl ++ [32] ++ Lib.itoa a ++ [10]) (by simp [lineL])
  generalize Lib.itoa d = xd at *
  generalize Lib.itoa a = xa at *
  have e1 := catT xd [32] (by simp; omega)
  have e2 := catT (xd ++ [32]) cl (by simp; omega)
  have e3 := catT (xd ++ [32] ++ cl) [32] (by simp; omega)
  have e4 := catT (xd ++ [32] ++ cl ++ [32]) xa (by simp; omega)
  have e5 := catT (xd ++ [32] ++ cl ++ [32] ++ xa) [10] (by simp; omega)
  simp only [List.append_assoc, List.cons_append, List.nil_append] at e1 e2 e3 e4 e5
  rw [LL.out]
  simp only [List.append_assoc, List.cons_append, List.nil_append]
  clear hd ha d0 a0 ld la hc LL
  go_enter Tryd.func11, Tryd.ntmps11
  go_wp2
  have X0 := Lib.hid (boxL_new w d ⟨cl.toArray⟩ a)
  go_region_held3 (fun w' => w'.cell? ⟨w.heap.size, 0, none⟩ = some (.int .i64 d) ∧ w'.cell? ⟨w.heap.size, 1, none⟩ = some (.string ⟨cl.toArray⟩) ∧ w'.cell? ⟨w.heap.size, 2, none⟩ = some (.int .i64 a))
    (refine ⟨?_, ?_, ?_⟩ <;> first | assumption | (go_simp; done))
    (first
    | (go_at_call 15; have qq := B1; refine (K2.out _).mono ?_; rintro e w2 ⟨rfl, h1⟩; have B2 := Lib.hid (B1.out.trans (h1.mono B1.out.size)); have zz := (by have := B1.out.size; simp at this; omega : w.heap.size < w1.heap.size); have y0 := (h1.cell (p := ⟨w.heap.size, 0, none⟩) zz).trans x0; have y1 := (h1.cell (p := ⟨w.heap.size, 1, none⟩) zz).trans x1; have y2 := (h1.cell (p := ⟨w.heap.size, 2, none⟩) zz).trans x2; clear h1)
    | (go_at_call 15; refine (K1.out _).mono ?_; rintro e w1 ⟨rfl, h1⟩; have B1 := Lib.hid (show Below (w.alloc (.cells #[.int .i64 d, .string ⟨cl.toArray⟩, .int .i64 a] 30)).heap.size (w.alloc (.cells #[.int .i64 d, .string ⟨cl.toArray⟩, .int .i64 a] 30)) w1 from (((Below.refl _ _).drew).trans h1)); obtain ⟨x0, x1, x2⟩ := boxL_cells (show BoxL w w1 d ⟨cl.toArray⟩ a from (B1.out.block _ (by simp)).trans X0.out); clear h1))
  all_goals go_wp2
  all_goals go_ret
  all_goals exact ⟨rfl, ((Below.refl _ _).alloc (Nat.le_refl _) _).trans (B2.out.mono (by simp))⟩
end Go.Proofs.YtmbnbediedpgmaaDoor
