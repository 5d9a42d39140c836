/-
  WALKS: CalNearest, case by case (made by wip/gen/gen_nearest.py).
-/
import Derived.Test.YtfmpkcnmdoddnaaDoorWNear
namespace Go.Proofs.YtfmpkcnmdoddnaaDoor
open Go.RowKit
open Cal
set_option linter.unusedVariables false
set_option linter.unusedSimpArgs false


set_option maxRecDepth 100000 in
set_option maxHeartbeats 4000000 in
theorem near_2dn2 (day r : Int) (a : Option Addr) (c cap : Nat) (zs : List Int) (w : World) (hH : Hol w a c cap zs) (hT : Tz w) (hM : Mon w) (d0 : 0 ≤ day) (d1 : day < 109573) (r0 : 0 ≤ r) (r1 : r < 109573) (hrd : r < day) (hA : AA day 2 zs r 0) (hR : AA r 2 zs r 0) (hbr : busB r zs = true)
    (hbt : ∀ k, r < k → k ≤ day → busB k zs = false) (h1 : AA day 1 zs 0 2) :
    Calls Tryd.prog 5 #[.int .i64 day, .int .i64 2, .slice a c cap] w fun e w' => e = .returned (.bool true) ∧ Below w.heap.size w w' := by
  have d2 : ¬ day < 0 := by omega
  have d3 : ¬ 109572 < day := by omega
  have f2 : ¬ day < r := by omega
  have H1 := Lib.hid h1
  have N0 := Lib.hid (show (0 : Int) ≤ 0 by omega)
  have N1 := Lib.hid (show (0 : Int) < 109573 by omega)
  clear h1
  have KO := Lib.hid (own_st w a c cap zs hH)
  have KA := Lib.hid (adj_st w hT hM c zs)
  have KB := Lib.hid (fun n A C W (h : Ls W A c zs) => business_any A c C zs n W h)
  have KD := Lib.hid (date_st w hM)
  have HA := Lib.hid hA
  have HR := Lib.hid hR
  have BR := Lib.hid hbr
  have BT := Lib.hid hbt
  have R0 := Lib.hid r0
  have R1 := Lib.hid r1
  have D0 := Lib.hid d0
  have D1 := Lib.hid d1
  have S := Lib.hid (Below.refl w.heap.size w)
  clear hA hR hbr hbt hH hT hM r0 r1 d0 d1
  go_enter Tryd.func5, Tryd.ntmps5
  go_wp2_with (first
    | (go_at_call 10; refine (KO.out _ S.out).mono ?_; rintro e wx ⟨A, C, rfl, h1, h2, _⟩; have S := Lib.hid h1; have L := Lib.hid h2; clear h1 h2)
    | (go_at_call 16; refine (KA.out _ _ _ _ _ S.out L.out).mono ?_; rintro e wx ⟨⟨rr, x, rfl, h1⟩, h2, _⟩; (first | (obtain ⟨rfl, rfl⟩ := aa_two HA.out h1) | (obtain ⟨rfl, rfl⟩ := aa_two HR.out h1)); have S := Lib.hid h2; clear h1 h2)
    | (go_at_call 17; refine (num_any _ _).mono ?_; rintro e wy ⟨rfl, rfl⟩)
    | (go_at_call 11; refine (KB.out _ _ _ _ L.out).mono ?_; rintro e wy ⟨rfl, rfl⟩; rw [BR.out]))
  go_loopw [12] (fun i wr => ∃ k : Int, i = .int .i64 k ∧ r ≤ k ∧ k ≤ day ∧ Below w.heap.size w wr) (fun i _ => (intOf i - r).toNat)
  case atStart => exact ⟨day, rfl, by omega, by omega, S.out⟩
  case round =>
    obtain ⟨k, rfl, k0, k1, hS⟩ := hrel
    have S := Lib.hid hS
    clear hS
    by_cases hk : k = r
    · subst hk
      go_wp2_with (first
        | (go_at_call 18; have qq := T4; refine (KD.out _ _ S4.out N0.out N1.out).mono ?_; rintro e w5 ⟨Y3, M3, D3', rfl, h1, h2, h3, h4⟩; have S5 := Lib.hid (h3.alloc h3.size (.cells #[.int .i64 Y3, .int .i64 M3, .int .i64 D3'] 39)); have T5 := T4.out.trans (h4.mono T4.out.size); obtain ⟨q0, q1, q2⟩ := boxOne T5; have hz : w2.heap.size < w5.heap.size := (by have := T5.size; simp at this; omega); have ne1 : ¬ w2.heap.size = w5.heap.size := (by omega); have ne2 : ¬ w5.heap.size = w2.heap.size := (by omega); clear h1 h2 h3 h4 T5)
        | (go_at_call 18; have qq := EX1; refine (KD.out _ _ S1.out D0.out D1.out).mono ?_; rintro e w2 ⟨Y2, M2, D2', rfl, h1, h2, h3, h4⟩; have EX2 := Lib.hid h1; have EN2 := Lib.hid h2; have S2 := Lib.hid (h3.alloc h3.size (.cells #[.int .i64 Y2, .int .i64 M2, .int .i64 D2'] 39)); clear h1 h2 h3 h4)
        | (go_at_call 18; refine (KD.out _ _ S.out R0.out R1.out).mono ?_; rintro e w1 ⟨Y1, M1, D1', rfl, h1, h2, h3, h4⟩; have EX1 := Lib.hid h1; have EN1 := Lib.hid h2; have S1 := Lib.hid (h3.alloc h3.size (.cells #[.int .i64 Y1, .int .i64 M1, .int .i64 D1'] 39)); clear h1 h2 h3 h4)
        | (go_at_call 10; refine (KO.out _ S2.out).mono ?_; rintro e w3 ⟨A3, C3, rfl, h1, h2, h3⟩; have S3 := Lib.hid h1; have L3 := Lib.hid h2; have T3 := Lib.hid h3; clear h1 h2 h3)
        | (go_at_call 16; refine (KA.out _ _ _ _ _ S3.out L3.out).mono ?_; rintro e w4 ⟨⟨rr, x, rfl, h1⟩, h2, h3⟩; obtain ⟨rfl, rfl⟩ := aa_two H1.out h1; have S4 := Lib.hid h2; have T4 := Lib.hid (T3.out.trans (h3.mono T3.out.size)); clear h1 h2 h3)
        | (go_at_call 17; refine (num_any _ _).mono ?_; rintro e wy ⟨rfl, rfl⟩))
      all_goals go_ret
      all_goals exact ⟨by first | rfl | simp, S5.out⟩
    · have bk := BT.out k (by omega) (by omega)
      have wk : IntKind.i64.wrap (k + -1) = k + -1 := by have := D0.out; have := D1.out; have := R0.out; have := R1.out; simp [IntKind.wrap, IntKind.bits, IntKind.signed]; omega
      go_wp2_with (first
        | (go_at_call 10; refine (KO.out _ S.out).mono ?_; rintro e wx ⟨A, C, rfl, h1, h2, _⟩; have S := Lib.hid h1; have L := Lib.hid h2; clear h1 h2)
        | (go_at_call 11; refine (KB.out _ _ _ _ L.out).mono ?_; rintro e wy ⟨rfl, rfl⟩; rw [bk]))
      go_roundw
      case rel => exact ⟨k + -1, by first | rfl | rw [wk], by omega, by omega, S.out⟩
      case measure => simp [intOf, wk]; omega
end Go.Proofs.YtfmpkcnmdoddnaaDoor
