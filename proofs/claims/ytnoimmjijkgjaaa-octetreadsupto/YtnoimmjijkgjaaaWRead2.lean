/-
  WALK: read.
-/
import Derived.Test.YtnoimmjijkgjaaaWRead1
namespace Go.Proofs.Ytnoimmjijkgjaaa
open Go.RowKit
set_option linter.unusedVariables false
set_option linter.unusedSimpArgs false

/-- The block of a new pair. -/
abbrev pairO (p p' : Nat) (lt : Bool) : Obj := .cells #[.pointer (some ⟨p, 0, none⟩), .pointer (some ⟨p', 0, none⟩), .slice none 0 0, .bool lt, .slice none 0 0, .slice none 0 0] 36
theorem rs_new {w w3 : World} {g p1 : Nat} {s2 : Option Addr} {c2 p1' : Nat} {s3 : Option Addr} {c3 n : Nat} {xs ys : List Int} {lt : Bool} {N N' : Nat} (b : Below w.heap.size w w3) (o : Own w3 w.heap.size (.slice (some ⟨g, 0, none⟩) (n + 90) (n + 90)) (n + 90) ys) (r : RB w3 N p1 s2 n c2 xs 0) (e : RE w3 N' p1' s3 n c3 xs 0) (h1 : w.heap.size ≤ N) (h2 : w.heap.size ≤ N') (g1 : g < N) (g2 : g < N') :
    RS w (w3.alloc (pairO p1 p1' lt)) w3.heap.size g p1 s2 c2 p1' s3 c3 n xs ys lt := by
  have bb : Below w3.heap.size w3 (w3.alloc (pairO p1 p1' lt)) := (Below.refl _ w3).alloc (Nat.le_refl _) (pairO p1 p1' lt)
  refine ⟨b.trans (bb.mono b.size), own_blk o (fun x hx => bb.block x (o.lt x hx).2), heap_new w3 _, b.size, (RB.blk ⟨r.t, r.ac, r.f, r.ty, Nat.le_trans h1 r.base, own_low r.own h1, r.bnd, r.le, r.byte⟩ (bb.block p1 r.lt) (fun x hx => bb.block x (r.own.lt x hx).2)), (RE.blk ⟨e.t, e.ac, e.f, e.ty, Nat.le_trans h2 e.base, own_low e.own h2, e.bnd, e.le, e.byte⟩ (bb.block p1' e.lt) (fun x hx => bb.block x (e.own.lt x hx).2)), fun e' => ?_, fun e' => ?_⟩
  · have := (r.own.lt g e').1; omega
  · have := (e.own.lt g e').1; omega
theorem in_row {w w' : World} {B p p' n gi ci p2 : Nat} {a2 : Option Addr} {c2 : Nat} (h : Out w B p p' n gi ci p2 a2 c2) (G : w.grownBy w' (some p2)) (hn : n ≤ 1048576) : BL w' (some ⟨gi, 0, none⟩) n (List.replicate n 238) := by
  obtain ⟨cs, fz, tp⟩ := h.rd.ty
  have o : Own w' B (.slice (some ⟨gi, 0, none⟩) (n + 90) ci) (n + 90) (List.replicate (n + 90) 238) := own_blk h.row (fun x hx => G.block x (h.row.lt x hx).2 (fun e => by injection e with e; exact row_ne h.row tp (by decide) (by rw [hx, e])))
  have := ((own_bl o (rep_byte (by omega)) (by omega)).1).upTo n (by omega)
  rwa [List.take_replicate, Nat.min_eq_left (by omega)] at this
set_option maxRecDepth 100000 in
set_option maxHeartbeats 4000000 in
theorem read_any (lt : Bool) (a0 : Option Addr) (n cap0 : Nat) (xs : List Int) (a2 : Option Addr) (n2 cap2 : Nat) (fs : List Op3) (w : World) (h0 : Sl w a0 n cap0 xs) (hf : OL w a2 n2 fs) (hn : n ≤ 1048576) (hn2 : n2 ≤ 1048576) :
    Calls Try.prog 4 #[.slice a0 n cap0, .slice a2 n2 cap2, .bool lt] w fun e w' => e = .returned (.bool true) ∧ Below w.heap.size w w' := by
  have H0 := Lib.hid h0
  have X0 := Lib.hid h0.1.2.2.1
  have Z0 := Lib.hid (p := a0 = none → n = 0) (fun e => (h0.2.1 e).1)
  obtain ⟨f1, f2, f3, f4⟩ := hf
  have F1 := Lib.hid f1
  have F3 := Lib.hid f3
  have FA := Lib.hid (p := 0 < n2 → ∃ b o, a2 = some ⟨b, o, none⟩ ∧ b < w.heap.size ∧ ∀ i, i < n2 → w.cell? ⟨b, o + i * 3, none⟩ = some (.int .i64 (fs.getD i default).k) ∧ w.cell? ⟨b, o + i * 3 + 1, none⟩ = some (.int .u64 (fs.getD i default).l) ∧ w.cell? ⟨b, o + i * 3 + 2, none⟩ = some (.int .i64 (fs.getD i default).n)) (fun q => by
    rcases f4 with f4 | f4
    · omega
    · exact f4)
  clear h0 f1 f3 f4
  go_enter Try.func4, Try.ntmps4
  go_wp2_with (first
    | (go_at_call 5; refine (hand_any a0 n cap0 xs w H0.out.1 Z0.out).mono ?_; rintro e w1 ⟨g, rfl, ⟨ys, h5, h6, h7⟩, h8⟩; have YB := Lib.hid (marked_byte (by have := h5.1; rw [bcs_len] at this; omega) h6 X0.out h7); have O1 := Lib.hid h5; have T1 := Lib.hid h6; have M1 := Lib.hid h7; have B1 := Lib.hid h8; have L1 := Lib.hid (p := BL w1 (some ⟨g, 0, none⟩) n xs) (by have := ((own_bl h5 YB.out (by omega)).1).upTo n (by omega); rwa [h6] at this); have G1 := Lib.hid (h5.lt g rfl).2; clear h5 h6 h7 h8)
    | (go_at_call 6; refine (newReader_any (some ⟨g, 0, none⟩) n (n + 90) xs w1 L1.out (fun e => by cases e)).mono ?_; rintro e w2 ⟨p1, s2, c2, rfl, h5, h6⟩; have R2 := Lib.hid h5; have B2 := Lib.hid h6; clear h5 h6)
    | (go_at_call 7; refine (newReaderR_any a0 n cap0 xs w2 (H0.out.later (B1.out.trans (B2.out.mono B1.out.size)))).mono ?_; rintro e w3 ⟨p1', s3, c3, rfl, h5, h6⟩; have RS4 := Lib.hid (rs_new (lt := lt) ((B1.out.trans (B2.out.mono B1.out.size)).trans (h6.mono (Nat.le_trans B1.out.size B2.out.size))) (own_blk (own_blk O1.out (fun x hx => B2.out.block x (O1.out.lt x hx).2)) (fun x hx => h6.block x (Nat.lt_of_lt_of_le (O1.out.lt x hx).2 B2.out.size))) (R2.out.blk (h6.block p1 R2.out.lt) (fun x hx => h6.block x (R2.out.own.lt x hx).2)) h5 B1.out.size (Nat.le_trans B1.out.size B2.out.size) G1.out (Nat.lt_of_lt_of_le G1.out B2.out.size)); clear h5 h6)
    | (go_at_call 8; refine (untouched_any g n (n + 90) w.heap.size ys xs a0 cap0 _ (by exact RS4.out.row) YB.out T1.out M1.out (by exact BL.heap (by rfl) (H0.out.1.later RS4.out.bel)) (by omega)).mono ?_; rintro e w5 ⟨rfl, r5, rfl⟩; have RS5 := Lib.hid (RS4.out.drewN r5); have x0 := RS5.out.cell 0; have x0' := RS4.out.cell 0; simp only [List.getElem?_toArray, List.getElem?_cons_zero] at x0 x0'))
  clear x0 x0'
  generalize w3.heap.size = q at *
  generalize (w3.alloc (pairO p1 p1' lt)).drewN r5 = W5 at *
  clear RS4
  have YL := Lib.hid (p := ys.length = n + 90) (by have := O1.out.1; rw [bcs_len] at this; omega)
  go_loopw [10] (fun t wr => ∃ i : Nat, i ≤ n + 90 ∧ t = .int .i64 (i : Int) ∧ RS w wr q g p1 s2 c2 p1' s3 c3 n xs (List.replicate i (238 : Int) ++ ys.drop i) lt) (fun t _ => n + 90 - (intOf t).toNat)
  case atStart => exact ⟨0, by omega, rfl, RS5.out⟩
  case round =>
    rename World => wr
    obtain ⟨i, hi, rfl, hR⟩ := hrel
    have RR := Lib.hid hR
    by_cases hlt : i < n + 90
    · have ic : (i : Int) < ((n + 90 : Nat) : Int) := by omega
      obtain ⟨d1, d2⟩ := own_cell hR.row i hlt
      generalize (List.replicate i (238 : Int) ++ ys.drop i).getD i 0 = old at d1
      clear hR
      go_wp2
      go_roundw
      case rel => exact ⟨i + 1, by omega, by go_num, by rw [← rep_set YL.out hlt]; exact RR.out.set i 238⟩
      case measure => simp [intOf]; omega
    · obtain rfl : i = n + 90 := by omega
      rw [rep_end YL.out] at RR
      have L6 := Lib.hid (p := BL wr (some ⟨g, 0, none⟩) n (List.replicate n 238)) (by have := ((own_bl RR.out.row (rep_byte (by omega)) (by omega)).1).upTo n (by omega); rwa [List.take_replicate, Nat.min_eq_left (by omega)] at this)
      clear hR hlt hi
      go_wp2_with (go_at_call 6; refine (newReader_any (some ⟨g, 0, none⟩) n (n + 90) (List.replicate n 238) wr L6.out (fun e => by cases e)).mono ?_; rintro e w6 ⟨p2, a9, c9, rfl, h5, h6⟩; have PO6 := Lib.hid ((RR.out.later h6).po h5 RR.out.bel.size RR.out.rp.lt RR.out.rr.lt); have B6 := Lib.hid (RR.out.later h6).bel; clear h5 h6)
      go_loopw [12] (fun t wt => ∃ i : Nat, i ≤ n2 ∧ t = .int .i64 (i : Int) ∧ (∃ k, PO wt w.heap.size q p1 s2 n c2 xs k p1' s3 c3 (XX lt w.heap.size q p1 p1' n g (n + 90) p2 a9 c9 i)) ∧ Below w.heap.size w wt) (fun t _ => n2 - (intOf t).toNat)
      case atStart => exact ⟨0, by omega, rfl, ⟨0, PO6.out⟩, B6.out⟩
      case round =>
        rename World => wt
        obtain ⟨i, hi, rfl, ⟨k, hP⟩, hB⟩ := hrel
        have BB := Lib.hid hB
        have PP := Lib.hid hP
        by_cases hlt : i < n2
        · obtain ⟨b, o, rfl, hb, hc⟩ := FA.out (by omega)
          obtain ⟨c0', c1', c2'⟩ := hc i hlt
          have d0 := (hB.cell (p := ⟨b, o + i * 3, none⟩) hb).trans c0'
          have d1 := (hB.cell (p := ⟨b, o + i * 3 + 1, none⟩) hb).trans c1'
          have d2 := (hB.cell (p := ⟨b, o + i * 3 + 2, none⟩) hb).trans c2'
          have WK := Lib.hid (F3.out (fs.getD i default) (by simp [List.getD, show i < fs.length by rw [F1.out]; omega]))
          have ic : (i : Int) < (n2 : Int) := by omega
          generalize fs.getD i default = f at *
          obtain ⟨fk, fl, fn⟩ := f
          simp only at d0 d1 d2
          have KS := Lib.hid (step_any w.heap.size q p1 s2 n c2 xs k p1' s3 c3 _ (XX lt w.heap.size q p1 p1' n g (n + 90) p2 a9 c9 (i + 1)) ⟨fk, fl, fn⟩ wt hP WK.out (by omega) (putC_x s2 c2 xs s3 c3 (by omega) (by omega)) hB.size (fun _ => XX.up) XX.st)
          clear hP hB hc c0' c1' c2'
          go_wp2_with (first
            | (go_at_call 9; refine KS.out.mono ?_; rintro e w7 ⟨rfl, k7, h5, h6⟩; have P7 := Lib.hid h5; have B7 := Lib.hid (BB.out.trans h6); clear h5 h6)
            | (go_at_call 10; refine (kept_x P7.out.bk (by omega)).mono ?_; rintro e w8 ⟨rfl, r8, rfl⟩))
          go_roundw
          case rel => exact ⟨i + 1, by omega, by go_num, ⟨k7, P7.out.later ⟨rfl, rfl, rfl, Nat.le_refl _, fun _ _ _ => rfl⟩⟩, B7.out.os, B7.out.tape, B7.out.output, B7.out.size, B7.out.block⟩
          case measure => simp [intOf]; omega
        · obtain rfl : i = n2 := by omega
          have OO := Lib.hid hP.bk.out
          clear hP hB hlt hi
          go_wp2
          go_loopw [15] (fun t wv => ∃ j : Nat, j ≤ n + 90 ∧ t = .int .i64 (j : Int) ∧ ∃ r, wv = wt.drewN r) (fun t _ => n + 90 - (intOf t).toNat)
          case atStart => exact ⟨0, by omega, rfl, 0, rfl⟩
          case round =>
            obtain ⟨j, hj, rfl, r, rfl⟩ := hrel
            by_cases hlt : j < n + 90
            · have jc : (j : Int) < ((n + 90 : Nat) : Int) := by omega
              have d1 := (own_cell OO.out.row j hlt).1
              rw [show (List.replicate (n + 90) (238 : Int)).getD j 0 = 238 by simp [List.getD, hlt]] at d1
              go_wp2
              go_roundw
              case rel => exact ⟨j + 1, by omega, by go_num, _, rfl⟩
              case measure => simp [intOf]; omega
            · obtain rfl : j = n + 90 := by omega
              clear hlt hj
              have BE := Lib.hid (p := ∀ W, Keep wt W (fun x => x = p2) → Below w.heap.size w W) (fun W K => BB.out.trans (K.below (fun x hx => by rw [hx]; exact OO.out.rd.base) BB.out.size))
              cases lt
              · go_wp2_with (first
                  | (go_at_call 11; refine (take_ok w.heap.size p2 a9 n c9 (List.replicate n 238) 0 n _ (by exact OO.out.rd.blk rfl (fun _ _ => rfl)) (by omega)).mono ?_; rintro e w7 ⟨v7, rfl, h5, _, h6⟩; have G7 : wt.grownBy w7 (some p2) := ⟨h6.os, h6.tape, h6.output, h6.size, h6.block⟩; have K7 := Lib.hid (Keep.of G7 (S := fun x => x = p2) (fun x _ e => by injection e with e; exact e.symm)); rw [List.drop_zero, List.take_replicate, Nat.min_self] at h5; obtain ⟨s7, d7, rfl⟩ := own_form h5; have T7 := Lib.hid (own_bl h5 (rep_byte (by omega)) (by omega)).1; have U7 := Lib.hid (in_row OO.out G7 (by omega)); clear h5 h6 G7)
                  | (go_at_call 12; refine (same_any s7 (some ⟨g, 0, none⟩) n n d7 (n + 90) _ _ _ (by exact BL.heap (by rfl) T7.out) (by exact BL.heap (by rfl) U7.out)).mono ?_; rw [decide_eq_true rfl]; rintro e w8 ⟨rfl, r8, rfl⟩))
                go_ret
                exact ⟨rfl, (BE.out _ K7.out).os, (BE.out _ K7.out).tape, (BE.out _ K7.out).output, (BE.out _ K7.out).size, (BE.out _ K7.out).block⟩
              · go_wp2_with (first
                  | (go_at_call 11; refine (take_ok w.heap.size p2 a9 n c9 (List.replicate n 238) 0 n _ (by exact OO.out.rd.blk rfl (fun _ _ => rfl)) (by omega)).mono ?_; rintro e w7 ⟨v7, rfl, h5, _, h6⟩; have G7 : wt.grownBy w7 (some p2) := ⟨h6.os, h6.tape, h6.output, h6.size, h6.block⟩; have K7 := Lib.hid (Keep.of G7 (S := fun x => x = p2) (fun x _ e => by injection e with e; exact e.symm)); rw [List.drop_zero, List.take_replicate, Nat.min_self] at h5; obtain ⟨s7, d7, rfl⟩ := own_form h5; have T7 := Lib.hid (own_bl h5 (rep_byte (by omega)) (by omega)).1; have U7 := Lib.hid (in_row OO.out G7 (by omega)); clear h5 h6 G7)
                  | (go_at_call 12; refine (same_any s7 (some ⟨g, 0, none⟩) n n d7 (n + 90) _ _ _ (by exact BL.heap (by rfl) T7.out) (by exact BL.heap (by rfl) U7.out)).mono ?_; rw [decide_eq_true rfl]; rintro e w8 ⟨rfl, r8, rfl⟩)
                  | (go_at_call 13; refine (late_x (w := wt) (w' := _) PP.out.bk (by exact ⟨K7.out.os, K7.out.tape, K7.out.output, K7.out.size, K7.out.block⟩) (by omega) BB.out.size).mono ?_; rintro e w9 ⟨rfl, h9⟩; have B9 := Lib.hid h9; clear h9))
                go_ret
                exact ⟨rfl, (BE.out _ K7.out).trans ⟨B9.out.os, B9.out.tape, B9.out.output, B9.out.size, B9.out.block⟩⟩
end Go.Proofs.Ytnoimmjijkgjaaa
