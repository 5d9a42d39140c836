/-
  WALK: OctetWrites (made by wip/gen/gen_writes.py).
-/
import Derived.Test.YtfgmgcllplgpnaaWRefOct2
namespace Go.Proofs.Ytfgmgcllplgpnaa
open Go.RowKit
set_option linter.unusedVariables false
set_option linter.unusedSimpArgs false

theorem tx_byte (s : ByteArray) : ∀ c ∈ tx s, 0 ≤ c ∧ c ≤ 255 := by
  intro c hc
  rcases List.mem_append.1 hc with q | q
  · exact vl_byte _ c q
  · exact sb_byte s c q
theorem tx_len (s : ByteArray) (h : s.size < 18446744073709551616) : (tx s).length ≤ s.size + 10 := by
  have := vl_len10 h
  simp [tx, sb_len]; omega
theorem app_byte {xs ys : List Int} (h : ∀ c ∈ xs, 0 ≤ c ∧ c ≤ 255) (k : ∀ c ∈ ys, 0 ≤ c ∧ c ≤ 255) : ∀ c ∈ xs ++ ys, 0 ≤ c ∧ c ≤ 255 := by
  intro c hc
  rcases List.mem_append.1 hc with q | q
  · exact h c q
  · exact k c q

theorem Sl.drewN {w : World} {a : Option Addr} {n cap : Nat} {xs : List Int} (h : Sl w a n cap xs) (q : Nat) : Sl (w.drewN q) a n cap xs := h
set_option maxRecDepth 100000 in
set_option maxHeartbeats 4000000 in
theorem octetWrites_any (a : Option Addr) (n cap : Nat) (xs : List Int) (x : Nat) (y : Int) (s : ByteArray) (room : Bool) (w : World) (h : Sl w a n cap xs) (hx : x < 18446744073709551616) (hy : -9223372036854775808 ≤ y ∧ y ≤ 9223372036854775807) (hn : n + s.size ≤ 140737488353000) :
    Calls Try.prog 6 #[.slice a n cap, .int .u64 (x : Int), .int .i64 y, .string s, .bool room] w fun e w' => e = .returned (.bool true) ∧ Below w.heap.size w w' := by
  have HL := Lib.hid h
  have XB := Lib.hid h.1.2.2.1
  have N1 : n ≤ 140737488353000 := by omega
  have KH := Lib.hid (fun W (q : Sl W a n cap xs) => hand_any a n cap xs W q.1 (fun e => (q.2.1 e).1))
  have L0 := Lib.hid (p := 0 + n = n ∧ [] ++ xs = xs) ⟨by omega, rfl⟩
  have KB := Lib.hid (fun b d W (q : Sl W b n d xs) (q' : Sl W a n cap xs) => same_any b a n n d cap xs xs W q.1 q'.1)
  rw [decide_eq_true rfl] at KB
  have P0 := Lib.hid (fun v B W (q : Own W B v n xs) (qB : B ≤ W.heap.size) => appendUint_any v B n xs x W q (by omega) qB hx)
  have P1 := Lib.hid (fun v B W (q : Own W B v n xs) (qB : B ≤ W.heap.size) => appendInt_any v B n xs y W q (by omega) qB hy)
  have P2 := Lib.hid (fun v B W (q : Own W B v n xs) (qB : B ≤ W.heap.size) => appendText_any v B n xs s W q (by omega) qB)
  have R0 := Lib.hid (fun W (q : Sl W a n cap xs) => appendUintR_any a n cap xs x W q (by omega) hx)
  have R1 := Lib.hid (fun W (q : Sl W a n cap xs) => appendIntR_any a n cap xs y W q (by omega) hy)
  have R2 := Lib.hid (fun W (q : Sl W a n cap xs) => appendTextR_any a n cap xs s W q (by omega))
  have l0 := vl_len10 hx
  have l1 := vl_len10 (zz_lt hy)
  have l2 := tx_len s (by omega)
  have Z0 := Lib.hid (app_byte h.1.2.2.1 (vl_byte x))
  have Z1 := Lib.hid (app_byte h.1.2.2.1 (vl_byte (zz y)))
  have Z2 := Lib.hid (app_byte h.1.2.2.1 (tx_byte s))
  have M0 := Lib.hid (p := n + (vl x).length ≤ 140737488355328) (by omega)
  have M1 := Lib.hid (p := n + (vl (zz y)).length ≤ 140737488355328) (by omega)
  have M2 := Lib.hid (p := n + (tx s).length ≤ 140737488355328) (by omega)
  generalize hm0 : n + (vl x).length = m0 at *
  generalize hm1 : n + (vl (zz y)).length = m1 at *
  generalize hm2 : n + (tx s).length = m2 at *
  generalize hz0 : xs ++ vl x = z0 at *
  generalize hz1 : xs ++ vl (zz y) = z1 at *
  generalize hz2 : xs ++ tx s = z2 at *
  have K0 := Lib.hid (fun b c b' c' W (q : Sl W b m0 c z0) (q' : Sl W b' m0 c' z0) => same_any b b' m0 m0 c c' z0 z0 W q.1 q'.1)
  have K1 := Lib.hid (fun b c b' c' W (q : Sl W b m1 c z1) (q' : Sl W b' m1 c' z1) => same_any b b' m1 m1 c c' z1 z1 W q.1 q'.1)
  have K2 := Lib.hid (fun b c b' c' W (q : Sl W b m2 c z2) (q' : Sl W b' m2 c' z2) => same_any b b' m2 m2 c c' z2 z2 W q.1 q'.1)
  rw [decide_eq_true rfl] at K0 K1 K2
  clear h hx hy hm0 hm1 hm2 hz0 hz1 hz2 l0 l1 l2 hn
  go_enter Try.func6, Try.ntmps6
  go_wp2
  go_loopw [11] (fun t wr => ∃ k : Nat, k ≤ 3 ∧ t = .int .i64 (k : Int) ∧ Below w.heap.size w wr) (fun t _ => 3 - (intOf t).toNat)
  case atStart => exact ⟨0, by omega, rfl, Below.refl _ _⟩
  case round =>
    rename World => wr
    obtain ⟨k, hk, rfl, hB⟩ := hrel
    have BB := Lib.hid hB
    have SB := Lib.hid (HL.out.later hB)
    clear hB
    rcases (show k = 0 ∨ k = 1 ∨ k = 2 ∨ k = 3 by omega) with rfl | rfl | rfl | rfl
    · cases room
      · go_wp2_with (first
          | (go_at_call 14; have qq := B4; refine (KB.out _ _ _ (OW.out.2.drewN q4) (HL.out.later B4.out)).mono ?_; rintro e w5 ⟨rfl, q5, rfl⟩; have B5 := Lib.hid (below_drewN B4.out q5))
          | (go_at_call 14; refine (K0.out _ _ _ _ _ SG.out SW.out).mono ?_; rintro e w4 ⟨rfl, q4, rfl⟩; have B4 := Lib.hid (below_drewN B3.out q4); clear SG SW)
          | (go_at_call 21; refine (R0.out _ (HL.out.later BG.out)).mono ?_; rintro e w3 ⟨v3, rfl, h1, h2⟩; obtain ⟨a3, c3, rfl, s3⟩ := own_sl h1 Z0.out M0.out; have SW := Lib.hid s3; have SG := Lib.hid (SG0.out.later h2); have OW := Lib.hid (p := True ∧ Sl w3 _ n _ xs) ⟨trivial, (OA0.out.later h2)⟩; have B3 := Lib.hid (BG.out.trans (h2.mono BG.out.size)); clear h1 h2 s3)
          | (go_at_call 13; refine (P0.out _ _ _ OA.out BA.out.size).mono ?_; rintro e wg ⟨vg, rfl, h1⟩; obtain ⟨ag, cg, rfl, sg⟩ := own_sl h1.own Z0.out M0.out; have SG0 := Lib.hid sg; obtain ⟨a9, c9, q9, s9⟩ := own_sl h1.old XB.out (by omega); injection q9 with q9a _ q9b; subst q9a q9b; have OA0 := Lib.hid s9; have BG := Lib.hid (BA.out.trans (h1.below BA.out.size)); clear h1 sg s9)
          | (at_builtin; refine wp_joinB _ rfl _ _ rfl w.heap.size _ _ _ rfl _ _ _ _ rfl (show Own (w1.alloc (.cells #[] 5)) w.heap.size (.slice (some ⟨w1.heap.size, 0, none⟩) 0 0) 0 [] from World.ownsRow_made w1 #[] 0 B1.out.size (Nat.zero_le _) rfl) (HL.out.later (B1.out.alloc B1.out.size _)).1 HL.out.2.1 (by omega) (Nat.le_trans B1.out.size (by simp)) ?_; intro v2 w2 h1; have B2 := Lib.hid ((B1.out.alloc B1.out.size _).trans (h1.below (Nat.le_trans B1.out.size (by simp)))); have O2' := h1.own; rw [L0.out.1, L0.out.2] at O2'; obtain ⟨aA, cA, rfl, _⟩ := own_sl O2' XB.out (by omega); have OA := Lib.hid O2'; have BA := Lib.hid B2.out; clear h1 O2' B2)
          | (go_at_call 20; refine (KH.out _ SB.out).mono ?_; rintro e w1 ⟨g, rfl, _, h2⟩; have B1 := Lib.hid (BB.out.trans (h2.mono BB.out.size)); clear h2))
        go_roundw
        case rel => exact ⟨0 + 1, by omega, by first | rfl | go_num, below_drewN B3.out _⟩
        case measure => simp [intOf]
      · go_wp2_with (first
          | (go_at_call 14; have qq := B4; refine (KB.out _ _ _ (OW.out.2.drewN q4) (HL.out.later B4.out)).mono ?_; rintro e w5 ⟨rfl, q5, rfl⟩; have B5 := Lib.hid (below_drewN B4.out q5))
          | (go_at_call 14; refine (K0.out _ _ _ _ _ SG.out SW.out).mono ?_; rintro e w4 ⟨rfl, q4, rfl⟩; have B4 := Lib.hid (below_drewN B3.out q4); clear SG SW)
          | (go_at_call 21; refine (R0.out _ (HL.out.later BG.out)).mono ?_; rintro e w3 ⟨v3, rfl, h1, h2⟩; obtain ⟨a3, c3, rfl, s3⟩ := own_sl h1 Z0.out M0.out; have SW := Lib.hid s3; have SG := Lib.hid (SG0.out.later h2); have OW := Lib.hid (p := True ∧ Sl w3 _ n _ xs) ⟨trivial, (OA0.out.later h2)⟩; have B3 := Lib.hid (BG.out.trans (h2.mono BG.out.size)); clear h1 h2 s3)
          | (go_at_call 13; refine (P0.out _ _ _ OA.out BA.out.size).mono ?_; rintro e wg ⟨vg, rfl, h1⟩; obtain ⟨ag, cg, rfl, sg⟩ := own_sl h1.own Z0.out M0.out; have SG0 := Lib.hid sg; obtain ⟨a9, c9, q9, s9⟩ := own_sl h1.old XB.out (by omega); injection q9 with q9a _ q9b; subst q9a q9b; have OA0 := Lib.hid s9; have BG := Lib.hid (BA.out.trans (h1.below BA.out.size)); clear h1 sg s9)
          | (go_at_call 20; refine (KH.out _ SB.out).mono ?_; rintro e w1 ⟨g, rfl, ⟨ys, h1, h3, _⟩, h2⟩; have BA := Lib.hid (BB.out.trans (h2.mono BB.out.size)); have h1' := own_low h1 BB.out.size; rw [← List.take_append_drop n ys, h3] at h1'; have OA := Lib.hid (own_shrink h1' HL.out.1.1); clear h1 h2 h3 h1'))
        go_roundw
        case rel => exact ⟨0 + 1, by omega, by first | rfl | go_num, below_drewN B3.out _⟩
        case measure => simp [intOf]
    · cases room
      · go_wp2_with (first
          | (go_at_call 14; have qq := B4; refine (KB.out _ _ _ (OW.out.2.drewN q4) (HL.out.later B4.out)).mono ?_; rintro e w5 ⟨rfl, q5, rfl⟩; have B5 := Lib.hid (below_drewN B4.out q5))
          | (go_at_call 14; refine (K1.out _ _ _ _ _ SG.out SW.out).mono ?_; rintro e w4 ⟨rfl, q4, rfl⟩; have B4 := Lib.hid (below_drewN B3.out q4); clear SG SW)
          | (go_at_call 22; refine (R1.out _ (HL.out.later BG.out)).mono ?_; rintro e w3 ⟨v3, rfl, h1, h2⟩; obtain ⟨a3, c3, rfl, s3⟩ := own_sl h1 Z1.out M1.out; have SW := Lib.hid s3; have SG := Lib.hid (SG0.out.later h2); have OW := Lib.hid (p := True ∧ Sl w3 _ n _ xs) ⟨trivial, (OA0.out.later h2)⟩; have B3 := Lib.hid (BG.out.trans (h2.mono BG.out.size)); clear h1 h2 s3)
          | (go_at_call 15; refine (P1.out _ _ _ OA.out BA.out.size).mono ?_; rintro e wg ⟨vg, rfl, h1⟩; obtain ⟨ag, cg, rfl, sg⟩ := own_sl h1.own Z1.out M1.out; have SG0 := Lib.hid sg; obtain ⟨a9, c9, q9, s9⟩ := own_sl h1.old XB.out (by omega); injection q9 with q9a _ q9b; subst q9a q9b; have OA0 := Lib.hid s9; have BG := Lib.hid (BA.out.trans (h1.below BA.out.size)); clear h1 sg s9)
          | (at_builtin; refine wp_joinB _ rfl _ _ rfl w.heap.size _ _ _ rfl _ _ _ _ rfl (show Own (w1.alloc (.cells #[] 5)) w.heap.size (.slice (some ⟨w1.heap.size, 0, none⟩) 0 0) 0 [] from World.ownsRow_made w1 #[] 0 B1.out.size (Nat.zero_le _) rfl) (HL.out.later (B1.out.alloc B1.out.size _)).1 HL.out.2.1 (by omega) (Nat.le_trans B1.out.size (by simp)) ?_; intro v2 w2 h1; have B2 := Lib.hid ((B1.out.alloc B1.out.size _).trans (h1.below (Nat.le_trans B1.out.size (by simp)))); have O2' := h1.own; rw [L0.out.1, L0.out.2] at O2'; obtain ⟨aA, cA, rfl, _⟩ := own_sl O2' XB.out (by omega); have OA := Lib.hid O2'; have BA := Lib.hid B2.out; clear h1 O2' B2)
          | (go_at_call 20; refine (KH.out _ SB.out).mono ?_; rintro e w1 ⟨g, rfl, _, h2⟩; have B1 := Lib.hid (BB.out.trans (h2.mono BB.out.size)); clear h2))
        go_roundw
        case rel => exact ⟨1 + 1, by omega, by first | rfl | go_num, below_drewN B3.out _⟩
        case measure => simp [intOf]
      · go_wp2_with (first
          | (go_at_call 14; have qq := B4; refine (KB.out _ _ _ (OW.out.2.drewN q4) (HL.out.later B4.out)).mono ?_; rintro e w5 ⟨rfl, q5, rfl⟩; have B5 := Lib.hid (below_drewN B4.out q5))
          | (go_at_call 14; refine (K1.out _ _ _ _ _ SG.out SW.out).mono ?_; rintro e w4 ⟨rfl, q4, rfl⟩; have B4 := Lib.hid (below_drewN B3.out q4); clear SG SW)
          | (go_at_call 22; refine (R1.out _ (HL.out.later BG.out)).mono ?_; rintro e w3 ⟨v3, rfl, h1, h2⟩; obtain ⟨a3, c3, rfl, s3⟩ := own_sl h1 Z1.out M1.out; have SW := Lib.hid s3; have SG := Lib.hid (SG0.out.later h2); have OW := Lib.hid (p := True ∧ Sl w3 _ n _ xs) ⟨trivial, (OA0.out.later h2)⟩; have B3 := Lib.hid (BG.out.trans (h2.mono BG.out.size)); clear h1 h2 s3)
          | (go_at_call 15; refine (P1.out _ _ _ OA.out BA.out.size).mono ?_; rintro e wg ⟨vg, rfl, h1⟩; obtain ⟨ag, cg, rfl, sg⟩ := own_sl h1.own Z1.out M1.out; have SG0 := Lib.hid sg; obtain ⟨a9, c9, q9, s9⟩ := own_sl h1.old XB.out (by omega); injection q9 with q9a _ q9b; subst q9a q9b; have OA0 := Lib.hid s9; have BG := Lib.hid (BA.out.trans (h1.below BA.out.size)); clear h1 sg s9)
          | (go_at_call 20; refine (KH.out _ SB.out).mono ?_; rintro e w1 ⟨g, rfl, ⟨ys, h1, h3, _⟩, h2⟩; have BA := Lib.hid (BB.out.trans (h2.mono BB.out.size)); have h1' := own_low h1 BB.out.size; rw [← List.take_append_drop n ys, h3] at h1'; have OA := Lib.hid (own_shrink h1' HL.out.1.1); clear h1 h2 h3 h1'))
        go_roundw
        case rel => exact ⟨1 + 1, by omega, by first | rfl | go_num, below_drewN B3.out _⟩
        case measure => simp [intOf]
    · cases room
      · go_wp2_with (first
          | (go_at_call 14; have qq := B4; refine (KB.out _ _ _ (OW.out.2.drewN q4) (HL.out.later B4.out)).mono ?_; rintro e w5 ⟨rfl, q5, rfl⟩; have B5 := Lib.hid (below_drewN B4.out q5))
          | (go_at_call 14; refine (K2.out _ _ _ _ _ SG.out SW.out).mono ?_; rintro e w4 ⟨rfl, q4, rfl⟩; have B4 := Lib.hid (below_drewN B3.out q4); clear SG SW)
          | (go_at_call 24; refine (R2.out _ (HL.out.later BG.out)).mono ?_; rintro e w3 ⟨v3, rfl, h1, h2⟩; obtain ⟨a3, c3, rfl, s3⟩ := own_sl h1 Z2.out M2.out; have SW := Lib.hid s3; have SG := Lib.hid (SG0.out.later h2); have OW := Lib.hid (p := True ∧ Sl w3 _ n _ xs) ⟨trivial, (OA0.out.later h2)⟩; have B3 := Lib.hid (BG.out.trans (h2.mono BG.out.size)); clear h1 h2 s3)
          | (go_at_call 23; refine (P2.out _ _ _ OA.out BA.out.size).mono ?_; rintro e wg ⟨vg, rfl, h1⟩; obtain ⟨ag, cg, rfl, sg⟩ := own_sl h1.own Z2.out M2.out; have SG0 := Lib.hid sg; obtain ⟨a9, c9, q9, s9⟩ := own_sl h1.old XB.out (by omega); injection q9 with q9a _ q9b; subst q9a q9b; have OA0 := Lib.hid s9; have BG := Lib.hid (BA.out.trans (h1.below BA.out.size)); clear h1 sg s9)
          | (at_builtin; refine wp_joinB _ rfl _ _ rfl w.heap.size _ _ _ rfl _ _ _ _ rfl (show Own (w1.alloc (.cells #[] 5)) w.heap.size (.slice (some ⟨w1.heap.size, 0, none⟩) 0 0) 0 [] from World.ownsRow_made w1 #[] 0 B1.out.size (Nat.zero_le _) rfl) (HL.out.later (B1.out.alloc B1.out.size _)).1 HL.out.2.1 (by omega) (Nat.le_trans B1.out.size (by simp)) ?_; intro v2 w2 h1; have B2 := Lib.hid ((B1.out.alloc B1.out.size _).trans (h1.below (Nat.le_trans B1.out.size (by simp)))); have O2' := h1.own; rw [L0.out.1, L0.out.2] at O2'; obtain ⟨aA, cA, rfl, _⟩ := own_sl O2' XB.out (by omega); have OA := Lib.hid O2'; have BA := Lib.hid B2.out; clear h1 O2' B2)
          | (go_at_call 20; refine (KH.out _ SB.out).mono ?_; rintro e w1 ⟨g, rfl, _, h2⟩; have B1 := Lib.hid (BB.out.trans (h2.mono BB.out.size)); clear h2))
        go_roundw
        case rel => exact ⟨2 + 1, by omega, by first | rfl | go_num, below_drewN B3.out _⟩
        case measure => simp [intOf]
      · go_wp2_with (first
          | (go_at_call 14; have qq := B4; refine (KB.out _ _ _ (OW.out.2.drewN q4) (HL.out.later B4.out)).mono ?_; rintro e w5 ⟨rfl, q5, rfl⟩; have B5 := Lib.hid (below_drewN B4.out q5))
          | (go_at_call 14; refine (K2.out _ _ _ _ _ SG.out SW.out).mono ?_; rintro e w4 ⟨rfl, q4, rfl⟩; have B4 := Lib.hid (below_drewN B3.out q4); clear SG SW)
          | (go_at_call 24; refine (R2.out _ (HL.out.later BG.out)).mono ?_; rintro e w3 ⟨v3, rfl, h1, h2⟩; obtain ⟨a3, c3, rfl, s3⟩ := own_sl h1 Z2.out M2.out; have SW := Lib.hid s3; have SG := Lib.hid (SG0.out.later h2); have OW := Lib.hid (p := True ∧ Sl w3 _ n _ xs) ⟨trivial, (OA0.out.later h2)⟩; have B3 := Lib.hid (BG.out.trans (h2.mono BG.out.size)); clear h1 h2 s3)
          | (go_at_call 23; refine (P2.out _ _ _ OA.out BA.out.size).mono ?_; rintro e wg ⟨vg, rfl, h1⟩; obtain ⟨ag, cg, rfl, sg⟩ := own_sl h1.own Z2.out M2.out; have SG0 := Lib.hid sg; obtain ⟨a9, c9, q9, s9⟩ := own_sl h1.old XB.out (by omega); injection q9 with q9a _ q9b; subst q9a q9b; have OA0 := Lib.hid s9; have BG := Lib.hid (BA.out.trans (h1.below BA.out.size)); clear h1 sg s9)
          | (go_at_call 20; refine (KH.out _ SB.out).mono ?_; rintro e w1 ⟨g, rfl, ⟨ys, h1, h3, _⟩, h2⟩; have BA := Lib.hid (BB.out.trans (h2.mono BB.out.size)); have h1' := own_low h1 BB.out.size; rw [← List.take_append_drop n ys, h3] at h1'; have OA := Lib.hid (own_shrink h1' HL.out.1.1); clear h1 h2 h3 h1'))
        go_roundw
        case rel => exact ⟨2 + 1, by omega, by first | rfl | go_num, below_drewN B3.out _⟩
        case measure => simp [intOf]
    · go_wp2
      go_ret
      exact ⟨rfl, BB.out⟩
theorem octetWrites_walk (a : Option Addr) (n cap : Nat) (xs : List Int) (x : Int) (y : Int) (s : ByteArray) (room : Bool) (w : World) (h : BL w a n xs ∧ (a = none → n = 0) ∧ n ≤ cap) (h0 : a = none → n = 0 ∧ cap = 0) (hx : (Lit.int .u64 x).wf = true) (hy : (Lit.int .i64 y).wf = true) (hn : n ≤ 1048576) (hs : s.size ≤ 1048576) :
    Calls Try.prog 6 #[.slice a n cap, .int .u64 x, .int .i64 y, .string s, .bool room] w fun e w' => e = .returned (.bool true) ∧ Below w.heap.size w w' := by
  obtain ⟨z, rfl, hz⟩ := u64_nat' hx
  exact octetWrites_any a n cap xs z y s room w ⟨h.1, h0, h.2.2⟩ hz (by simpa [Lit.wf, IntKind.min, IntKind.max, IntKind.bits, IntKind.signed] using hy) (by omega)
end Go.Proofs.Ytfgmgcllplgpnaa
