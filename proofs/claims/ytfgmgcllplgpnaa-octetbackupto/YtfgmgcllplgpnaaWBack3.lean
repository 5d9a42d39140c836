/-
  WALK: OctetBack (made by wip/gen/gen_octback.py).
-/
import Derived.Test.YtfgmgcllplgpnaaWBack2
namespace Go.Proofs.Ytfgmgcllplgpnaa
open Go.RowKit
set_option linter.unusedVariables false
set_option linter.unusedSimpArgs false

theorem place_same (B p : Nat) (a : Option Addr) (n cap : Nat) (xs : List Int) (k : Nat) (w : World) (h : RB w B p a n cap xs k) :
    Calls Try.prog 12 #[.pointer (some ⟨p, 0, none⟩)] w fun e w' => e = .returned (.int .i64 (k : Int)) ∧ w' = w := by
  have h2 := h.ac
  clear h
  go_enter Try.func12, Try.ntmps12
  go_wp2
  go_ret
  exact ⟨rfl, rfl⟩
theorem left_z (B p : Nat) (a : Option Addr) (n cap : Nat) (xs : List Int) (k : Nat) (w : World) (h : RB w B p a n cap xs k) :
    Calls Try.prog 17 #[.pointer (some ⟨p, 0, none⟩)] w fun e w' => e = .returned (.int .i64 ((n : Int) - (k : Int))) ∧ ∃ q, w' = w.drewN q := by
  have hl := h.le
  have := left_q B p a n cap xs k w h
  rw [show ((n - k : Nat) : Int) = (n : Int) - (k : Int) by omega] at this
  exact this
theorem endsL_at {fs : List It4} {n k : Nat} (hk : k < n) : (endsL fs n)[k]? = some (pos fs (k + 1) : Int) := by simp [endsL, hk]
theorem ownI_cell {w : World} {B g n cap : Nat} {xs : List Int} {j : Nat} {c : Int} (h : OwnI w B (.slice (some ⟨g, 0, none⟩) n cap) n xs) (hj : j < n) (hc : xs[j]? = some c) : w.cell? ⟨g, j, none⟩ = some (.int .i64 c) := by
  rw [World.ownsRow.cellAt h j (by omega)]
  simp [ics, hc]
theorem ownI_form {w : World} {B : Nat} {v : Value} {n : Nat} {xs : List Int} (h : OwnI w B v n xs) : (v = .slice none 0 0 ∧ n = 0) ∨ ∃ g cap, v = .slice (some ⟨g, 0, none⟩) n cap := by
  rcases h.2 with q | ⟨g, c, cur, q, _⟩
  · exact .inl q
  · exact .inr ⟨g, c, q⟩
theorem own_form0 {w : World} {B : Nat} {v : Value} {n : Nat} {xs : List Int} (h : Own w B v n xs) : (v = .slice none 0 0 ∧ n = 0) ∨ ∃ g cap, v = .slice (some ⟨g, 0, none⟩) n cap := by
  rcases h.2 with q | ⟨g, c, cur, q, _⟩
  · exact .inl q
  · exact .inr ⟨g, c, q⟩
/-- An item, whole, in the bytes that are left. -/
theorem cut_in {fs : List It4} {k c : Nat} (hk : k < fs.length) (hc : pos fs (k + 1) ≤ c) : ∃ t, ((allB fs).take c).drop (pos fs k) = itB (fs.getD k default) ++ t := by
  have e := at_item hk
  have pn := pos_next hk
  refine ⟨(allB (fs.drop (k + 1))).take (c - pos fs (k + 1)), ?_⟩
  rw [List.drop_take, e, List.take_append]
  rw [List.take_of_length_le (by omega), show c - pos fs k - (itB (fs.getD k default)).length = c - pos fs (k + 1) by omega]
theorem cut_out {fs : List It4} {k c : Nat} (hk : k < fs.length) (h0 : pos fs k ≤ c) (hc : ¬ pos fs (k + 1) ≤ c) : ((allB fs).take c).drop (pos fs k) = (itB (fs.getD k default)).take (c - pos fs k) ∧ c - pos fs k < (itB (fs.getD k default)).length := by
  have e := at_item hk
  have pn := pos_next hk
  refine ⟨?_, by omega⟩
  rw [List.drop_take, e, List.take_append_of_le_length (by omega)]

set_option maxRecDepth 100000 in
set_option maxHeartbeats 6000000 in
theorem octetBack_any (a : Option Addr) (n cap : Nat) (fs : List It4) (cut : Int) (w : World) (h : IL w a n fs) (hcut : -9223372036854775808 ≤ cut ∧ cut ≤ 9223372036854775807) :
    Calls Try.prog 7 #[.slice a n cap, .int .i64 cut] w fun e w' => e = .returned (.bool true) ∧ Below w.heap.size w w' := by
  have KW := Lib.hid (written_any a n cap fs w h)
  obtain ⟨h1, h2, h3, h4⟩ := h
  have H1 := Lib.hid h1
  have H3 := Lib.hid h3
  have HA := Lib.hid (p := 0 < n → ∃ b o, a = some ⟨b, o, none⟩ ∧ b < w.heap.size ∧ ∀ i, i < n → ItC w b (o + i * 4) (fs.getD i default)) (fun h0 => by
    rcases h4 with h4 | h4
    · omega
    · exact h4)
  have LN := Lib.hid (p := (allB fs).length ≤ 1099522113536) (by
    have := allB_len fs h3
    rw [h1] at this
    have : n * 1048586 ≤ 1048576 * 1048586 := Nat.mul_le_mul_right _ h2
    omega)
  have PL := Lib.hid (p := ∀ k, pos fs k ≤ (allB fs).length) (pos_le fs)
  have PNX := Lib.hid (p := ∀ k, k < n → pos fs (k + 1) = pos fs k + (itB (fs.getD k default)).length) (fun k hk => pos_next (by omega))
  have P0 := Lib.hid (p := pos fs 0 = 0) (by simp [pos, allB])
  have PE := Lib.hid (p := pos fs n = (allB fs).length) (by unfold pos; rw [List.take_of_length_le (by omega)])
  have AT := Lib.hid (p := ∀ k, k < n → (allB fs).drop (pos fs k) = itB (fs.getD k default) ++ allB (fs.drop (k + 1))) (fun k hk => at_item (by omega))
  have CI := Lib.hid (p := ∀ k c, k < n → pos fs (k + 1) ≤ c → ∃ t, ((allB fs).take c).drop (pos fs k) = itB (fs.getD k default) ++ t) (fun k c hk hc => cut_in (by omega) hc)
  have CO := Lib.hid (p := ∀ k c, k < n → pos fs k ≤ c → ¬ pos fs (k + 1) ≤ c → ((allB fs).take c).drop (pos fs k) = (itB (fs.getD k default)).take (c - pos fs k) ∧ c - pos fs k < (itB (fs.getD k default)).length) (fun k c hk h0 hc => cut_out (by omega) h0 hc)
  have BY := Lib.hid (allB_byte fs)
  clear h1 h3 h4
  go_enter Try.func7, Try.ntmps7
  go_wp2_with (first
    | (go_at_call 25; refine KW.out.mono ?_; rintro e w1 ⟨⟨v1, ve, rfl, o1, i1⟩, b1⟩; obtain ⟨a1, cap1, rfl⟩ := own_form o1; have O1 := Lib.hid o1; have I1 := Lib.hid i1; have B1 := Lib.hid b1; clear o1 i1 b1)
    | (go_at_call 10; refine (newReader_any _ _ _ (allB fs) _ (own_bl O1.out BY.out (by have := LN.out; omega)).1 (own_bl O1.out BY.out (by have := LN.out; omega)).2.1).mono ?_; rintro e w2 ⟨p, a2, cap2, rfl, h3, h4⟩; have R2 := Lib.hid h3; have B2 := Lib.hid h4; clear h3 h4)
    | (go_at_call 17; refine (left_z _ _ _ _ _ _ _ _ R2.out).mono ?_; rintro e w3 ⟨rfl, q3, rfl⟩))
  go_loopw [8] (fun t wr => ∃ k : Nat, k ≤ n ∧ t = .int .i64 (k : Int) ∧ RB wr w1.heap.size p a2 (allB fs).length cap2 (allB fs) (pos fs k) ∧ Below w1.heap.size w1 wr) (fun t _ => n - (intOf t).toNat)
  case atStart => exact ⟨0, by omega, rfl, by rw [P0.out]; exact R2.out.drewN q3, below_drewN B2.out q3⟩
  case round =>
    rename World => wr
    obtain ⟨k, hk, rfl, hR, hB⟩ := hrel
    have RR := Lib.hid hR
    have BB := Lib.hid hB
    have BW := Lib.hid (B1.out.trans (hB.mono B1.out.size))
    have HP := Lib.hid hR.base
    by_cases hlt : k < n
    · obtain ⟨b, o, rfl, hb, hc⟩ := HA.out (by omega)
      have IC := Lib.hid (hc k hlt)
      obtain ⟨c0, c1, c2, c3⟩ := (hc k hlt).later BW.out hb
      have kc : (k : Int) < (n : Int) := by omega
      have WK := Lib.hid (H3.out (fs.getD k default) (by simp [List.getD, show k < fs.length by rw [H1.out]; omega]))
      have AK := Lib.hid (AT.out k hlt)
      have PK := Lib.hid (PNX.out k hlt)
      have P1L := PL.out (k + 1)
      have LNN := LN.out
      obtain ⟨ge, cape, rfl⟩ : ∃ g c, ve = .slice (some ⟨g, 0, none⟩) n c := by
        rcases ownI_form I1.out with q | q
        · omega
        · exact q
      have ED := Lib.hid (p := ∀ W, Below w1.heap.size w1 W → W.cell? ⟨ge, k, none⟩ = some (.int .i64 (pos fs (k + 1) : Int))) (fun W bW => ownI_cell (I1.out.kept (below_gr bW none) (by simp [Value.ownBlock])) hlt (endsL_at hlt))
      generalize fs.getD k default = f at *
      have KR := Lib.hid (fun W (g : RB W w1.heap.size p a2 (allB fs).length cap2 (allB fs) (pos fs k)) => reads_ok w1.heap.size p a2 (allB fs).length cap2 (allB fs) (pos fs k) f _ W g WK.out.1 WK.out.2 AK.out)
      rw [← PK.out] at KR
      have KP := Lib.hid (fun W k' (g : RB W w1.heap.size p a2 (allB fs).length cap2 (allB fs) k') => place_same w1.heap.size p a2 (allB fs).length cap2 (allB fs) k' W g)
      have KL := Lib.hid (fun W k' (g : RB W w1.heap.size p a2 (allB fs).length cap2 (allB fs) k') => left_z w1.heap.size p a2 (allB fs).length cap2 (allB fs) k' W g)
      have KU := Lib.hid (p := kd f.k = 0 → ∀ x : Nat, f.x = (x : Int) → 0 < x → x < 18446744073709551616 → ∀ W, RB W w1.heap.size p a2 (allB fs).length cap2 (allB fs) (pos fs k) → Calls Try.prog 11 #[.pointer (some ⟨p, 0, none⟩), .int .u64 ((x : Int) - 1)] W fun e w' => e = .returned (.tuple #[.int .u64 0, .int .i64 42]) ∧ RB w' w1.heap.size p a2 (allB fs).length cap2 (allB fs) (pos fs k) ∧ Gr p W w') (fun q x ex hx0 hx W g => by
        have K := uint_any w1.heap.size p a2 (allB fs).length cap2 (allB fs) (pos fs k) (x - 1) W g
        have eB : itB f = vl x := by unfold itB; rw [if_pos q, ex]; simp
        rw [AK.out, eB, uR_low x hx _ (x - 1) (by omega)] at K
        simp only [Nat.add_zero] at K
        rw [show ((x - 1 : Nat) : Int) = (x : Int) - 1 by omega] at K
        exact K)
      have pw : IntKind.i64.wrap (((allB fs).length : Int) - (pos fs (k + 1) : Int)) = ((allB fs).length : Int) - (pos fs (k + 1) : Int) := by simp [IntKind.wrap, IntKind.bits, IntKind.signed]; omega
      have p47 : pos fs (k + 1) ≤ 1099522113536 := by omega
      generalize hN : (allB fs).length = N at *
      generalize hq0 : pos fs k = q0 at *
      generalize hq1 : pos fs (k + 1) = q1 at *
      have Q1 := Lib.hid hq1
      clear hR hB hc hN hq0 hq1
      have PM := Lib.hid kc
      obtain ⟨x, ex, hxl⟩ := it_x WK.out.1
      rcases (show (kd f.k = 0 ∧ 0 < x) ∨ (kd f.k = 0 ∧ x = 0) ∨ ¬ kd f.k = 0 by omega) with ⟨q, x0⟩ | ⟨q, x0⟩ | q
      · have e0 := kd0 q
        have KU' := Lib.hid (KU.out q x ex x0 hxl)
        have xg : (0 : Int) < (x : Int) := by omega
        have xw : IntKind.u64.wrap ((x : Int) - 1) = (x : Int) - 1 := by simp [IntKind.wrap, IntKind.bits, IntKind.signed]; omega
        rw [ex] at c1
        obtain ⟨fk, fx, fy, fz⟩ := f
        simp only at ex c0 c1 c2 c3 e0 KR
        subst ex
        go_wp2_with (first
          | (go_at_call 26; refine (KR.out _ R5.out).mono ?_; rintro e w6 ⟨rfl, h5, h6⟩; have R6 := Lib.hid h5; have B6 := Lib.hid (B5.out.trans (gr_out h6 HP.out B5.out.size)); have d6 := ED.out _ B6.out; clear h5 h6)
          | (go_at_call 11; refine (KU'.out _ RR.out).mono ?_; rintro e w5 ⟨rfl, h5, h6⟩; have R5 := Lib.hid h5; have B5 := Lib.hid (BB.out.trans (gr_out h6 HP.out BB.out.size)); have dd := (IC.out.later (B1.out.trans (B5.out.mono B1.out.size)) hb); obtain ⟨y0, y1, y2, y3⟩ := dd; simp only at y0 y1 y2 y3; have PN := Lib.hid kc; clear h5 h6)
          | (go_at_call 12; have qq := PN; refine (KP.out _ _ R5.out).mono ?_; rintro e w5' ⟨rfl, h5⟩; subst h5; clear qq PN)
          | (go_at_call 12; have qq := PM; refine (KP.out _ _ RR.out).mono ?_; rintro e w4 ⟨rfl, h5⟩; subst h5; clear qq PM))
        go_quiet (first | (go_at_call 12; exact Calls.quiet_of_same (KP.out _ _ (R6.out.drewN _))) | (go_at_call 17; exact Calls.quiet_of (KL.out _ _ (R6.out.drewN _))))
        go_wp2
        go_roundw
        case rel => exact ⟨k + 1, by omega, by go_num, by rw [Q1.out]; exact R6.out.drewN _, below_drewN B6.out _⟩
        case measure => simp [intOf]; omega
      · have e0 := kd0 q
        have e9 : f.x = 0 := by rw [ex, x0]; rfl
        clear ex x0 hxl
        obtain ⟨fk, fx, fy, fz⟩ := f
        simp only at e9 c0 c1 c2 c3 e0 KR
        subst e9
        go_wp2_with (first
          | (go_at_call 26; refine (KR.out _ RR.out).mono ?_; rintro e w6 ⟨rfl, h5, h6⟩; have R6 := Lib.hid h5; have B6 := Lib.hid (BB.out.trans (gr_out h6 HP.out BB.out.size)); have d6 := ED.out _ B6.out; clear h5 h6)
          | (go_at_call 12; have qq := PM; refine (KP.out _ _ RR.out).mono ?_; rintro e w4 ⟨rfl, h5⟩; subst h5; clear qq PM))
        go_quiet (first | (go_at_call 12; exact Calls.quiet_of_same (KP.out _ _ (R6.out.drewN _))) | (go_at_call 17; exact Calls.quiet_of (KL.out _ _ (R6.out.drewN _))))
        go_wp2
        go_roundw
        case rel => exact ⟨k + 1, by omega, by go_num, by rw [Q1.out]; exact R6.out.drewN _, below_drewN B6.out _⟩
        case measure => simp [intOf]; omega
      · clear ex hxl
        obtain ⟨fk, fx, fy, fz⟩ := f
        simp only at c0 c1 c2 c3 q KR
        have e0 : (bits .and .i64 fk 3 == 0) = false := by
          rcases kd_or fk with r | r | r
          · exact absurd r q
          · rw [kd1 r]; rfl
          · exact (kd2 r).1
        go_wp2_with (first
          | (go_at_call 26; refine (KR.out _ RR.out).mono ?_; rintro e w6 ⟨rfl, h5, h6⟩; have R6 := Lib.hid h5; have B6 := Lib.hid (BB.out.trans (gr_out h6 HP.out BB.out.size)); have d6 := ED.out _ B6.out; clear h5 h6)
          | (go_at_call 12; have qq := PM; refine (KP.out _ _ RR.out).mono ?_; rintro e w4 ⟨rfl, h5⟩; subst h5; clear qq PM))
        go_quiet (first | (go_at_call 12; exact Calls.quiet_of_same (KP.out _ _ (R6.out.drewN _))) | (go_at_call 17; exact Calls.quiet_of (KL.out _ _ (R6.out.drewN _))))
        go_wp2
        go_roundw
        case rel => exact ⟨k + 1, by omega, by go_num, by rw [Q1.out]; exact R6.out.drewN _, below_drewN B6.out _⟩
        case measure => simp [intOf]; omega
    · obtain rfl : k = n := by omega
      have LNN := LN.out
      have C9 := Lib.hid (own_bl O1.out BY.out (by omega)).2.2
      have O9 := Lib.hid (own_later O1.out (below_gr BB.out none))
      have KT := Lib.hid (p := ∀ c : Nat, c ≤ (allB fs).length → ∀ A W, Below w1.heap.size w1 W → BL W A c ((allB fs).take c) → (A = none → c = 0) → ∀ cp, Calls Try.prog 10 #[.slice A c cp] W fun e w' => ∃ p a' cap', e = .returned (.pointer (some ⟨p, 0, none⟩)) ∧ RB w' W.heap.size p a' c cap' ((allB fs).take c) 0 ∧ Below W.heap.size W w') (fun c hc A W bW g g0 cp => newReader_any A c cp ((allB fs).take c) W g g0)
      have capN := C9.out
      generalize hN : (allB fs).length = N at *
      have HN := Lib.hid hN
      clear hR hB hN
      by_cases cneg : cut < 0
      · have cn' : decide (cut < 0) = true := decide_eq_true cneg
        go_wp2
        go_ret
        exact ⟨rfl, BW.out⟩
      · have cn' : decide (cut < 0) = false := decide_eq_false cneg
        by_cases cbig : (N : Int) < cut
        · have cb' : decide ((N : Int) < cut) = true := decide_eq_true cbig
          go_wp2
          go_ret
          exact ⟨rfl, BW.out⟩
        · have cb' : decide ((N : Int) < cut) = false := decide_eq_false cbig
          obtain ⟨c, rfl⟩ : ∃ c : Nat, cut = (c : Int) := ⟨cut.toNat, by omega⟩
          have cN : c ≤ N := by omega
          have cC : c ≤ cap1 := by omega
          have A0 := Lib.hid (own_bl O9.out BY.out (by omega))
          have HC := Lib.hid cN
          go_wp2_with (go_at_call 10; refine (KT.out c (by have := HC.out; omega) _ _ BB.out (A0.out.1.upTo c (by have := HC.out; omega)) (fun e => by have := A0.out.2.1 e; have := HC.out; omega) _).mono ?_; rintro e w4 ⟨p4, a4, cap4, rfl, h5, h6⟩; have R4 := Lib.hid h5; have B4 := Lib.hid h6; clear h5 h6)
          go_loopw [13] (fun t wq => ∃ i : Nat, i ≤ k ∧ t = .int .i64 (i : Int) ∧ RowKit.Hid (pos fs i ≤ c) ∧ RB wq wr.heap.size p4 a4 c cap4 ((allB fs).take c) (pos fs i) ∧ Below wr.heap.size wr wq) (fun t _ => k - (intOf t).toNat)
          case atStart => exact ⟨0, by omega, rfl, (by show pos fs 0 ≤ c; rw [P0.out]; omega), by rw [P0.out]; exact R4.out, B4.out⟩
          case round =>
            rename World => wq
            obtain ⟨i, hi, rfl, hPc, hR, hB⟩ := hrel
            have RQ := Lib.hid hR
            have BQ := Lib.hid hB
            have BV := Lib.hid (BB.out.trans (hB.mono BB.out.size))
            have BU := Lib.hid (BW.out.trans (hB.mono BW.out.size))
            have HQ := Lib.hid hR.base
            clear hR hB
            by_cases hlt : i < k
            · obtain ⟨b, o, rfl, hb, hc⟩ := HA.out (by omega)
              obtain ⟨c0, c1, c2, c3⟩ := (hc i hlt).later BU.out hb
              have kc : (i : Int) < (k : Int) := by omega
              have WK := Lib.hid (H3.out (fs.getD i default) (by simp [List.getD, show i < fs.length by rw [H1.out]; omega]))
              have PK := Lib.hid (PNX.out i hlt)
              have P1L := PL.out (i + 1)
              obtain ⟨ge, cape, rfl⟩ : ∃ g c, ve = .slice (some ⟨g, 0, none⟩) k c := by
                rcases ownI_form I1.out with q | q
                · omega
                · exact q
              have ED := Lib.hid (p := ∀ W, Below w1.heap.size w1 W → W.cell? ⟨ge, i, none⟩ = some (.int .i64 (pos fs (i + 1) : Int))) (fun W bW => ownI_cell (I1.out.kept (below_gr bW none) (by simp [Value.ownBlock])) hlt (endsL_at hlt))
              have CIk := Lib.hid (CI.out i c hlt)
              have COk := Lib.hid (CO.out i c hlt hPc.out)
              have HPc := hPc.out
              generalize fs.getD i default = f at *
              by_cases hin : pos fs (i + 1) ≤ c
              · obtain ⟨t, ht⟩ := CIk.out hin
                have KR := Lib.hid (fun W (g : RB W wr.heap.size p4 a4 c cap4 ((allB fs).take c) (pos fs i)) => reads_ok wr.heap.size p4 a4 c cap4 ((allB fs).take c) (pos fs i) f t W g WK.out.1 WK.out.2 ht)
                rw [← PK.out] at KR
                have l1 : (pos fs (i + 1) : Int) ≤ (c : Int) := by omega
                have l2 : decide ((pos fs (i + 1) : Int) ≤ (c : Int)) = true := decide_eq_true l1
                have HIN := Lib.hid hin
                clear ht hc hin
                generalize hq0 : pos fs i = q0 at *
                generalize hq1 : pos fs (i + 1) = q1 at *
                have Q1 := Lib.hid hq1
                clear hq0 hq1
                obtain ⟨fk, fx, fy, fz⟩ := f
                simp only at c0 c1 c2 c3 KR
                go_wp2_with (go_at_call 26; refine (KR.out _ RQ.out).mono ?_; rintro e w6 ⟨rfl, h5, h6⟩; have R6 := Lib.hid h5; have B6 := Lib.hid (BQ.out.trans (gr_out h6 HQ.out BQ.out.size)); have d6 := ED.out _ (BB.out.trans (B6.out.mono BB.out.size)); clear h5 h6)
                go_roundw
                case rel => exact ⟨i + 1, by omega, by go_num, by first | exact (by rw [Q1.out]; exact HIN.out) | (show pos fs (i + 1) ≤ c; rw [Q1.out]; exact HIN.out), by rw [Q1.out]; exact R6.out, B6.out⟩
                case measure => simp [intOf]; omega
              · obtain ⟨hx1, hx2⟩ := COk.out hin
                have KR := Lib.hid (fun W (g : RB W wr.heap.size p4 a4 c cap4 ((allB fs).take c) (pos fs i)) => reads_cut wr.heap.size p4 a4 c cap4 ((allB fs).take c) (pos fs i) f _ W g WK.out.1 WK.out.2 hx1 hx2)
                have KP := Lib.hid (fun W (g : RB W wr.heap.size p4 a4 c cap4 ((allB fs).take c) (pos fs i)) => place_same wr.heap.size p4 a4 c cap4 ((allB fs).take c) (pos fs i) W g)
                have KS := Lib.hid (fun W r (g : RB W wr.heap.size p4 a4 c cap4 ((allB fs).take c) (pos fs i)) (gr : ((c - pos fs i : Nat) : Int) < r) => take_shortq wr.heap.size p4 a4 c cap4 ((allB fs).take c) (pos fs i) r W g gr)
                have l1 : ¬ (pos fs (i + 1) : Int) ≤ (c : Int) := by omega
                have l2 : decide ((pos fs (i + 1) : Int) ≤ (c : Int)) = false := decide_eq_false l1
                clear hx1 hx2 hc
                generalize hq0 : pos fs i = q0 at *
                generalize hq1 : pos fs (i + 1) = q1 at *
                clear hq0 hq1
                have sw : IntKind.i64.wrap ((q1 : Int) - (q0 : Int)) = (q1 : Int) - (q0 : Int) := by simp [IntKind.wrap, IntKind.bits, IntKind.signed]; omega
                have KS' := Lib.hid (fun W (g : RB W wr.heap.size p4 a4 c cap4 ((allB fs).take c) q0) => KS.out W ((q1 : Int) - (q0 : Int)) g (by omega))
                obtain ⟨fk, fx, fy, fz⟩ := f
                simp only at c0 c1 c2 c3 KR
                go_wp2_with (go_at_call 26; refine (KR.out _ RQ.out).mono ?_; rintro e w6 ⟨rfl, h5, h6⟩; have R6 := Lib.hid h5; have B6 := Lib.hid (BQ.out.trans (gr_out h6 HQ.out BQ.out.size)); have d6 := ED.out _ (BB.out.trans (B6.out.mono BB.out.size)); clear h5 h6)
                go_quiet (first | (go_at_call 12; exact Calls.quiet_of_same (KP.out _ (R6.out.drewN _))) | (go_at_call 18; exact Calls.quiet_of (KS'.out _ (R6.out.drewN _))))
                go_wp2
                go_ret
                exact ⟨by first | rfl | simp, below_drewN (BW.out.trans (B6.out.mono BW.out.size)) _⟩
            · go_wp2
              go_ret
              exact ⟨rfl, BU.out⟩
theorem octetBack_walk (a : Option Addr) (n cap : Nat) (fs : List It4) (cut : Int) (w : World) (h : IsIts w a n cap fs) (hn : n ≤ 1048576) (hs : ∀ f ∈ fs, f.s.size ≤ 1048576) (hcut : (Lit.int .i64 cut).wf = true) :
    Calls Try.prog 7 #[.slice a n cap, .int .i64 cut] w fun e w' => e = .returned (.bool true) ∧ Below w.heap.size w w' :=
  octetBack_any a n cap fs cut w (il_of hn hs h) (by simpa [Lit.wf, IntKind.min, IntKind.max, IntKind.bits, IntKind.signed] using hcut)
end Go.Proofs.Ytfgmgcllplgpnaa
