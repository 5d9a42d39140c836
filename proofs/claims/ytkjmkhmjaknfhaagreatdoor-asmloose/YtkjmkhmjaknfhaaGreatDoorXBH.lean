import Derived.Test.YtkjmkhmjaknfhaaGreatDoorXBG
import Derived.Test.YtkjmkhmjaknfhaaGreatDoorXBC
import Derived.Test.YtkjmkhmjaknfhaaGreatDoorXBD
import Derived.Test.YtkjmkhmjaknfhaaGreatDoorXBE
namespace Go.Proofs.YtkjmkhmjaknfhaaGreatDoor
open Go.RowKit
set_option linter.unusedVariables false
set_option linter.unusedSimpArgs false

theorem GlA.laterH {w W : World} (h : GlA w) (b : Below w.heap.size w W) : GlA W := ⟨pows_below h.pw b, ev_below h.ev b, h.rw_.below b, h.md.later b, h.ln.later b⟩
theorem lnG_of {w : World} (h : LnR w) : LnG w := ⟨h.1, fun k hk => by
  have := (h.2 k hk).1
  rwa [show hdA k = lnA k from rfl] at this⟩
theorem six_blk (w : World) (o1 o2 o3 o4 o5 o6 : Obj) : ((((((w.alloc o1).alloc o2).alloc o3).alloc o4).alloc o5).alloc o6).heap[w.heap.size]? = some o1 ∧ ((((((w.alloc o1).alloc o2).alloc o3).alloc o4).alloc o5).alloc o6).heap[w.heap.size + 1]? = some o2 ∧ ((((((w.alloc o1).alloc o2).alloc o3).alloc o4).alloc o5).alloc o6).heap[w.heap.size + 1 + 1]? = some o3 ∧ ((((((w.alloc o1).alloc o2).alloc o3).alloc o4).alloc o5).alloc o6).heap[w.heap.size + 1 + 1 + 1]? = some o4 ∧ ((((((w.alloc o1).alloc o2).alloc o3).alloc o4).alloc o5).alloc o6).heap[w.heap.size + 1 + 1 + 1 + 1]? = some o5 ∧ ((((((w.alloc o1).alloc o2).alloc o3).alloc o4).alloc o5).alloc o6).heap[w.heap.size + 1 + 1 + 1 + 1 + 1]? = some o6 := by
  have e : ((((((w.alloc o1).alloc o2).alloc o3).alloc o4).alloc o5).alloc o6).heap = (((((w.heap.push o1).push o2).push o3).push o4).push o5).push o6 := rfl
  rw [e]
  refine ⟨?_, ?_, ?_, ?_, ?_, ?_⟩
  all_goals
    simp only [Array.getElem?_push, Array.size_push]
    repeat (first | rw [if_pos (by omega)] | rw [if_neg (by omega)])
    try (rw [if_pos trivial])
theorem sr_one {W : World} {b : Nat} {s : ByteArray} {t : TypeId} (h : BkP W b #[.string s] t) (hs : s.size ≤ 16777216) : SR W (some ⟨b, 0, none⟩) 1 1 [s] :=
  ⟨⟨(fun e => by cases e), Nat.le_refl _, by unfold maxLen; omega⟩, rfl, by omega, (fun x hx => by rw [List.mem_singleton.1 hx]; omega), .inr ⟨b, 0, rfl, h.lt, fun i hi j hj => by
    obtain rfl : i = 0 := by omega
    obtain rfl : j = 0 := by omega
    exact h.cell 0⟩⟩
theorem nr_one {W : World} {b : Nat} {n : Int} {t : TypeId} (h : BkP W b #[.int .i64 n] t) (hs : inR n) : NR W (some ⟨b, 0, none⟩) 1 1 [n] :=
  ⟨⟨(fun e => by cases e), Nat.le_refl _, by unfold maxLen; omega⟩, rfl, by omega, (fun x hx => by rw [List.mem_singleton.1 hx]; exact inR_i64Q hs), .inr ⟨b, 0, rfl, h.lt, fun i hi j hj => by
    obtain rfl : i = 0 := by omega
    obtain rfl : j = 0 := by omega
    exact h.cell 0⟩⟩
def exC : List In := [⟨3, 0, 1⟩, ⟨1, 0, 0⟩, ⟨11, 0, 0⟩, ⟨28, 0, 0⟩, ⟨0, 0, 0⟩]
theorem ir_ex {W : World} {b : Nat} {t : TypeId} (h : BkP W b #[.int .i64 3, .int .i64 0, .int .i64 1, .int .i64 1, .int .i64 0, .int .i64 0, .int .i64 11, .int .i64 0, .int .i64 0, .int .i64 28, .int .i64 0, .int .i64 0, .int .i64 0, .int .i64 0, .int .i64 0] t) : IR W (some ⟨b, 0, none⟩) 5 5 exC :=
  ⟨⟨(fun e => by cases e), Nat.le_refl _, by unfold maxLen; omega⟩, rfl, by omega, (fun x hx => okP_i64Q (by
    have : ∀ x ∈ exC, x.okP := by decide
    exact this x hx)), .inr ⟨b, 0, rfl, h.lt, fun i hi j hj => by
    rw [Nat.zero_add]
    rw [h.cell]
    have hi' : i = 0 ∨ i = 1 ∨ i = 2 ∨ i = 3 ∨ i = 4 := by omega
    have hj' : j = 0 ∨ j = 1 ∨ j = 2 := by omega
    rcases hi' with rfl | rfl | rfl | rfl | rfl <;> rcases hj' with rfl | rfl | rfl <;> rfl⟩⟩
/-- The example in memory. -/
def exP (b : Nat) : Pg := ⟨some ⟨b, 0, none⟩, 1, [⟨#[65]⟩], some ⟨b + 1, 0, none⟩, 1, [⟨#[69, 85, 82]⟩], some ⟨b + 1 + 1, 0, none⟩, 1, [5], 1, 0, 0, 2, some ⟨b + 1 + 1 + 1 + 1 + 1, 0, none⟩, 1, [⟨1, some ⟨b + 1 + 1 + 1 + 1, 0, none⟩, 5, exC⟩]⟩
theorem exP_key (b : Nat) : (exP b).key = exA.pg.key := rfl
theorem exP_txt (b : Nat) : (⟨(txtP (exP b)).toArray⟩ : ByteArray) = exT := by kernel_rfl
theorem exP_can (b : Nat) : canP (exP b) := can_key1Q (exP_key b).symm exCan
theorem exP_pv {W : World} {b : Nat} {t1 t2 t3 t4 t5 : TypeId} (h1 : BkP W b #[.string ⟨#[65]⟩] t1) (h2 : BkP W (b + 1) #[.string ⟨#[69, 85, 82]⟩] t2) (h3 : BkP W (b + 1 + 1) #[.int .i64 5] t3)
    (h5 : BkP W (b + 1 + 1 + 1 + 1) #[.int .i64 3, .int .i64 0, .int .i64 1, .int .i64 1, .int .i64 0, .int .i64 0, .int .i64 11, .int .i64 0, .int .i64 0, .int .i64 28, .int .i64 0, .int .i64 0, .int .i64 0, .int .i64 0, .int .i64 0] t4) (h6 : BkP W (b + 1 + 1 + 1 + 1 + 1) #[.int .i64 1, .slice (some ⟨b + 1 + 1 + 1 + 1, 0, none⟩) 5 5] t5) : PV W (exP b) :=
  ⟨sr_one h1 (by decide), sr_one h2 (by decide), nr_one h3 (by unfold inR; omega), inR_i64Q (by unfold inR exP; simp), inR_i64Q (by unfold inR exP; simp), inR_i64Q (by unfold inR exP; simp), inR_i64Q (by unfold inR exP; simp),
    ⟨⟨(fun e => by cases e), Nat.le_refl _, by show 1 ≤ maxLen; unfold maxLen; omega⟩, rfl, by show 1 ≤ _; omega, (fun s hs => by
      have : s = ⟨1, some ⟨b + 1 + 1 + 1 + 1, 0, none⟩, 5, exC⟩ := List.mem_singleton.1 hs
      subst this
      exact ⟨inR_i64Q (by unfold inR; simp), ir_ex h5⟩), .inr ⟨_, 0, rfl, h6.lt, fun i hi j hj => by
      have hi1 : i < 1 := hi
      obtain rfl : i = 0 := by omega
      rw [Nat.zero_add]
      rw [h6.cell]
      have hj' : j = 0 ∨ j = 1 := by omega
      rcases hj' with rfl | rfl <;> rfl⟩⟩⟩
set_option maxRecDepth 100000 in
set_option maxHeartbeats 4000000 in
theorem heads_any {w : World} (hG : GlA w) : Calls Tryz.prog 9 #[] w fun e w' => e = .returned (.bool true) ∧ Below w.heap.size w w' := by
  obtain ⟨W6, hW6⟩ : ∃ y, ((((((w.alloc (.cells #[.string ⟨#[65]⟩] 9)).alloc (.cells #[.string ⟨#[69, 85, 82]⟩] 9)).alloc (.cells #[.int .i64 5] 3)).alloc (.cells #[.slice (some ⟨w.heap.size, 0, none⟩) 1 1, .slice (some ⟨w.heap.size + 1, 0, none⟩) 1 1, .slice (some ⟨w.heap.size + 1 + 1, 0, none⟩) 1 1, .int .i64 1, .int .i64 0, .int .i64 0, .int .i64 2, .slice (some ⟨w.heap.size + 1 + 1 + 1 + 1 + 1, 0, none⟩) 1 1] 27)).alloc (.cells #[.int .i64 3, .int .i64 0, .int .i64 1, .int .i64 1, .int .i64 0, .int .i64 0, .int .i64 11, .int .i64 0, .int .i64 0, .int .i64 28, .int .i64 0, .int .i64 0, .int .i64 0, .int .i64 0, .int .i64 0] 44)).alloc (.cells #[.int .i64 1, .slice (some ⟨w.heap.size + 1 + 1 + 1 + 1, 0, none⟩) 5 5] 41)) = y := ⟨_, rfl⟩
  obtain ⟨b1, b2, b3, b4, b5, b6⟩ := six_blk w (.cells #[.string ⟨#[65]⟩] 9) (.cells #[.string ⟨#[69, 85, 82]⟩] 9) (.cells #[.int .i64 5] 3) (.cells #[.slice (some ⟨w.heap.size, 0, none⟩) 1 1, .slice (some ⟨w.heap.size + 1, 0, none⟩) 1 1, .slice (some ⟨w.heap.size + 1 + 1, 0, none⟩) 1 1, .int .i64 1, .int .i64 0, .int .i64 0, .int .i64 2, .slice (some ⟨w.heap.size + 1 + 1 + 1 + 1 + 1, 0, none⟩) 1 1] 27) (.cells #[.int .i64 3, .int .i64 0, .int .i64 1, .int .i64 1, .int .i64 0, .int .i64 0, .int .i64 11, .int .i64 0, .int .i64 0, .int .i64 28, .int .i64 0, .int .i64 0, .int .i64 0, .int .i64 0, .int .i64 0] 44) (.cells #[.int .i64 1, .slice (some ⟨w.heap.size + 1 + 1 + 1 + 1, 0, none⟩) 5 5] 41)
  rw [hW6] at b1 b2 b3 b4 b5 b6
  have A6 := Lib.hid (p := Below w.heap.size w W6) (by
    rw [← hW6]
    exact ((((((Below.refl w.heap.size w).alloc (Nat.le_refl _) _).alloc (by simp) _).alloc (by simp; omega) _).alloc (by simp; omega) _).alloc (by simp; omega) _).alloc (by simp; omega) _)
  have Z6 := Lib.hid (p := W6.heap.size = w.heap.size + 6) (by rw [← hW6]; simp)
  have HW6 := Lib.hid hW6
  clear hW6
  have K46 : BkP W6 (w.heap.size + 1 + 1 + 1) _ _ := b4
  have PV6 := Lib.hid (exP_pv b1 b2 b3 b5 b6)
  have HG := Lib.hid hG
  clear b1 b2 b3 b4 b5 b6 hG
  have K46h := Lib.hid K46
  have KP := Lib.hid (p := Calls Tryz.prog 12 #[(exP w.heap.size).agg] W6 fun e w' => e = .returned (.tuple #[.string exT, .int .i64 0]) ∧ Below W6.heap.size W6 w') ((print_any PV6.out (HG.out.laterH A6.out).rw_ (HG.out.laterH A6.out).pw (HG.out.laterH A6.out).md (lnG_of (HG.out.laterH A6.out).ln)).mono (fun e w' ⟨h1, h2⟩ => ⟨by rw [h1, if_pos (exP_can _), if_pos (exP_can _), exP_txt], h2⟩))
  have KR := Lib.hid (p := ∀ W, Below w.heap.size w W → ∀ s, Calls Tryz.prog 10 #[.string s] W fun e w' => PaE s W e w') (fun W b s => parse_any s (fun W' b' => HG.out.laterH (b.trans (b'.mono b.size))))
  have k0 := K46.cell 0
  have k1 := K46.cell 1
  have k2 := K46.cell 2
  have k3 := K46.cell 3
  have k4 := K46.cell 4
  have k5 := K46.cell 5
  have k6 := K46.cell 6
  have k7 := K46.cell 7
  simp at k0 k1 k2 k3 k4 k5 k6 k7
  clear K46
  go_enter Tryz.func9, Tryz.ntmps9
  go_upto_region 3 with (fail)
  rw [HW6.out]
  go_upto_region 5 with (first
    | (go_at_call 12; refine KP.out.mono ?_; rintro e w1 ⟨rfl, h1⟩; have B1 := Lib.hid (A6.out.trans (h1.mono A6.out.size)); have Y1 := Lib.hid h1; clear h1)
    | (go_at_call 10; refine (KR.out w1 B1.out exT).mono ?_; rintro e w2 ⟨⟨a0, b0, c0, a1, b1, c1, a2, b2, c2, n0, n1, n2, n3, a3, b3, c3⟩, rfl, hpv, hkey, hb⟩; rw [exOut] at hkey ⊢; simp only [Pg.agg]; have P2 := Lib.hid hpv; have Q2 := Lib.hid hkey; have B2 := Lib.hid (B1.out.trans (hb.mono B1.out.size)); have Y2 := Lib.hid (Y1.out.trans (hb.mono Y1.out.size)); have A2 := Lib.hid (B2.out.trans ((allocBP w2 (.cells #[.slice a0 c0.length b0, .slice a1 c1.length b1, .slice a2 c2.length b2, .int .i64 n0, .int .i64 n1, .int .i64 n2, .int .i64 n3, .slice a3 c3.length b3] 27)).mono B2.out.size)); clear hpv hkey hb))
  clear k0 k1 k2 k3 k4 k5 k6 k7
  have KR2 := Lib.hid (p := ∀ W, Below w.heap.size w W → Calls Tryz.prog 10 #[.string (exT.extract 0 103 ++ ⟨#[101, 110, 100, 115, 10]⟩)] W fun e w' => PaE exT2 W e w') (fun W b => by rw [exE]; exact KR.out W b exT2)
  go_upto_region 6 with (go_at_call 10; refine (KR2.out _ A2.out).mono ?_; rintro e w3 ⟨⟨d0, e0, f0, d1, e1, f1, d2, e2, f2, m0, m1, m2, m3, d3, e3, f3⟩, rfl, _, _, hb⟩; rw [exOut2]; simp only [Pg.agg]; have B3 := Lib.hid (A2.out.trans (hb.mono A2.out.size)); have H3 := Lib.hid hb; clear hb)
  have AP := Lib.hid (allocBP w2 (.cells #[.slice a0 c0.length b0, .slice a1 c1.length b1, .slice a2 c2.length b2, .int .i64 n0, .int .i64 n1, .int .i64 n2, .int .i64 n3, .slice a3 c3.length b3] 27))
  have AQ := Lib.hid (allocBP w3 (.cells #[.slice d0 f0.length e0, .slice d1 f1.length e1, .slice d2 f2.length e2, .int .i64 m0, .int .i64 m1, .int .i64 m2, .int .i64 m3, .slice d3 f3.length e3] 27))
  have X2 := Lib.hid (p := Below w2.heap.size w2 (w3.alloc (.cells #[.slice d0 f0.length e0, .slice d1 f1.length e1, .slice d2 f2.length e2, .int .i64 m0, .int .i64 m1, .int .i64 m2, .int .i64 m3, .slice d3 f3.length e3] 27))) (AP.out.trans ((H3.out.trans (AQ.out.mono H3.out.size)).mono AP.out.size))
  have X6 := Lib.hid (p := Below W6.heap.size W6 (w3.alloc (.cells #[.slice d0 f0.length e0, .slice d1 f1.length e1, .slice d2 f2.length e2, .int .i64 m0, .int .i64 m1, .int .i64 m2, .int .i64 m3, .slice d3 f3.length e3] 27))) (Y2.out.trans (X2.out.mono Y2.out.size))
  have BW := Lib.hid (A6.out.trans (X6.out.mono A6.out.size))
  have bp := (H3.out.trans (AQ.out.mono H3.out.size)).block w2.heap.size (by simp) |>.trans (heapN w2 (.cells #[.slice a0 c0.length b0, .slice a1 c1.length b1, .slice a2 c2.length b2, .int .i64 n0, .int .i64 n1, .int .i64 n2, .int .i64 n3, .slice a3 c3.length b3] 27))
  obtain ⟨x0, x1, x2, x3, x4, x5, x6, x7⟩ := box_8Q bp
  obtain ⟨y0, y1, y2, y3, y4, y5, y6, y7⟩ := box_8Q ((X6.out.block (w.heap.size + 1 + 1 + 1) (by have := Z6.out; omega)).trans K46h.out)
  have KS := Lib.hid (same13_any (w := w3.alloc (.cells #[.slice d0 f0.length e0, .slice d1 f1.length e1, .slice d2 f2.length e2, .int .i64 m0, .int .i64 m1, .int .i64 m2, .int .i64 m3, .slice d3 f3.length e3] 27)) (PV6.out.later X6.out) (P2.out.later X2.out) (Q2.out.trans (exP_key _).symm))
  obtain ⟨w4, hw4⟩ : ∃ y, w3.alloc (.cells #[.slice d0 f0.length e0, .slice d1 f1.length e1, .slice d2 f2.length e2, .int .i64 m0, .int .i64 m1, .int .i64 m2, .int .i64 m3, .slice d3 f3.length e3] 27) = y := ⟨_, rfl⟩
  rw [hw4] at KS BW x0 x1 x2 x3 x4 x5 x6 x7 y0 y1 y2 y3 y4 y5 y6 y7
  rw [hw4]
  clear hw4 bp
  have es : exT.toList = [110, 97, 109, 101, 115, 32, 65, 10, 99, 117, 114, 115, 32, 69, 85, 82, 10, 112, 111, 111, 108, 32, 53, 10, 104, 111, 114, 105, 122, 111, 110, 32, 49, 10, 99, 101, 108, 108, 115, 32, 48, 10, 115, 108, 111, 116, 115, 32, 48, 10, 115, 116, 97, 99, 107, 32, 50, 10, 100, 97, 121, 32, 49, 10, 32, 32, 111, 98, 115, 32, 65, 32, 49, 10, 32, 32, 99, 111, 110, 115, 116, 32, 53, 10, 32, 32, 109, 117, 108, 10, 32, 32, 102, 108, 111, 119, 32, 69, 85, 82, 10, 32, 32, 101, 110, 100, 10] := by rw [Lib.toList_data]; rfl
  go_wp2_with (go_at_call 11; refine KS.out.mono ?_; rintro e w5 ⟨rfl, h5⟩; have B5 := Lib.hid h5; clear h5)
  go_ret
  exact ⟨by simp, BW.out.trans (B5.out.mono BW.out.size)⟩
end Go.Proofs.YtkjmkhmjaknfhaaGreatDoor
