import Derived.Test.YtkjmkhmjaknfhaaGreatDoorXAP
import Derived.Test.YtkjmkhmjaknfhaaGreatDoorXBD
import Derived.Test.YtkjmkhmjaknfhaaGreatDoorXBE
import Derived.Test.YtkjmkhmjaknfhaaGreatDoorXBF
import Derived.Test.YtkjmkhmjaknfhaaGreatDoorXAG
import Derived.Lib.AppendStr
import Derived.Lib.AppendIntMem
import Derived.Lib.OthersKept
import Derived.Lib.ItoaLen
import Derived.Lib.ConvBytes
import Derived.Laws.AppendOwn
import Derived.Laws.IdiomStrings
import Derived.Test.YtkjmkhmjaknfhaaGreatDoorXAH
namespace Go.Proofs.YtkjmkhmjaknfhaaGreatDoor
open Go.RowKit
set_option linter.unusedVariables false
set_option linter.unusedSimpArgs false

theorem GlA.laterH {w W : World} (h : GlA w) (b : Below w.heap.size w W) : GlA W := ⟨pows_below h.pw b, ev_below h.ev b, h.rw_.below b, h.md.later b, h.ln.later b⟩
theorem lnG_of {w : World} (h : LnR w) : LnG w := ⟨h.1, fun k hk => by
  have := (h.2 k hk).1
  rwa [show hdA k = lnA k from rfl] at this⟩
theorem six_blk (w : World) (o1 o2 o3 o4 o5 o6 : Obj) : ((((((w.alloc o1).alloc o2).alloc o3).alloc o4).alloc o5).alloc o6).heap[w.heap.size]? = some o1 ∧ ((((((w.alloc o1).alloc o2).alloc o3).alloc o4).alloc o5).alloc o6).heap[w.heap.size + 1]? = some o2 ∧ ((((((w.alloc o1).alloc o2).alloc o3).alloc o4).alloc o5).alloc o6).heap[w.heap.size + 1 + 1]? = some o3 ∧ ((((((w.alloc o1).alloc o2).alloc o3).alloc o4).alloc o5).alloc o6).heap[w.heap.size + 1 + 1 + 1]? = some o4 ∧ ((((((w.alloc o1).alloc o2).alloc o3).alloc o4).alloc o5).alloc o6).heap[w.heap.size + 1 + 1 + 1 + 1]? = some o5 ∧ ((((((w.alloc o1).alloc o2).alloc o3).alloc o4).alloc o5).alloc o6).heap[w.heap.size + 1 + 1 + 1 + 1 + 1]? = some o6 := by
  have e : ((((((w.alloc o1).alloc o2).alloc o3).alloc o4).alloc o5).alloc o6).heap = (((((w.heap.push o1).push o2).push o3).push o4).push o5).push o6 := rfl
  rw [e]
  refine ⟨?_, ?_, ?_, ?_, ?_, ?_⟩
  all_goals
    simp only [Array.getElem?_push, Array.size_push]
    repeat (first | rw [if_pos (by omega)] | rw [if_neg (by omega)])
    try (rw [if_pos trivial])
theorem sr_one {W : World} {b : Nat} {s : ByteArray} {t : TypeId} (h : BkP W b #[.string s] t) (hs : s.size ≤ 16777216) : SR W (some ⟨b, 0, none⟩) 1 1 [s] :=
  ⟨⟨(fun e => by cases e), Nat.le_refl _, by unfold maxLen; omega⟩, rfl, by omega, (fun x hx => by rw [List.mem_singleton.1 hx]; omega), .inr ⟨b, 0, rfl, h.lt, fun i hi j hj => by
    obtain rfl : i = 0 := by omega
    obtain rfl : j = 0 := by omega
    exact h.cell 0⟩⟩
theorem nr_one {W : World} {b : Nat} {n : Int} {t : TypeId} (h : BkP W b #[.int .i64 n] t) (hs : inR n) : NR W (some ⟨b, 0, none⟩) 1 1 [n] :=
  ⟨⟨(fun e => by cases e), Nat.le_refl _, by unfold maxLen; omega⟩, rfl, by omega, (fun x hx => by rw [List.mem_singleton.1 hx]; exact inR_i64Q hs), .inr ⟨b, 0, rfl, h.lt, fun i hi j hj => by
    obtain rfl : i = 0 := by omega
    obtain rfl : j = 0 := by omega
    exact h.cell 0⟩⟩
def exC : List In := [⟨3, 0, 1⟩, ⟨1, 0, 0⟩, ⟨11, 0, 0⟩, ⟨28, 0, 0⟩, ⟨0, 0, 0⟩]
theorem ir_ex {W : World} {b : Nat} {t : TypeId} (h : BkP W b #[.int .i64 3, .int .i64 0, .int .i64 1, .int .i64 1, .int .i64 0, .int .i64 0, .int .i64 11, .int .i64 0, .int .i64 0, .int .i64 28, .int .i64 0, .int .i64 0, .int .i64 0, .int .i64 0, .int .i64 0] t) : IR W (some ⟨b, 0, none⟩) 5 5 exC :=
  ⟨⟨(fun e => by cases e), Nat.le_refl _, by unfold maxLen; omega⟩, rfl, by omega, (fun x hx => okP_i64Q (by
    have : ∀ x ∈ exC, x.okP := by decide
    exact this x hx)), .inr ⟨b, 0, rfl, h.lt, fun i hi j hj => by
    rw [Nat.zero_add]
    rw [h.cell]
    have hi' : i = 0 ∨ i = 1 ∨ i = 2 ∨ i = 3 ∨ i = 4 := by omega
    have hj' : j = 0 ∨ j = 1 ∨ j = 2 := by omega
    rcases hi' with rfl | rfl | rfl | rfl | rfl <;> rcases hj' with rfl | rfl | rfl <;> rfl⟩⟩
/-- The example in memory. -/
def exP (b : Nat) : Pg := ⟨some ⟨b, 0, none⟩, 1, [⟨#[65]⟩], some ⟨b + 1, 0, none⟩, 1, [⟨#[69, 85, 82]⟩], some ⟨b + 1 + 1, 0, none⟩, 1, [5], 1, 0, 0, 2, some ⟨b + 1 + 1 + 1 + 1 + 1, 0, none⟩, 1, [⟨1, some ⟨b + 1 + 1 + 1 + 1, 0, none⟩, 5, exC⟩]⟩
theorem exP_key (b : Nat) : (exP b).key = exA.pg.key := rfl
theorem exP_txt (b : Nat) : (⟨(txtP (exP b)).toArray⟩ : ByteArray) = exT := by kernel_rfl
theorem exP_can (b : Nat) : canP (exP b) := can_key1Q (exP_key b).symm exCan
theorem exP_pv {W : World} {b : Nat} {t1 t2 t3 t4 t5 : TypeId} (h1 : BkP W b #[.string ⟨#[65]⟩] t1) (h2 : BkP W (b + 1) #[.string ⟨#[69, 85, 82]⟩] t2) (h3 : BkP W (b + 1 + 1) #[.int .i64 5] t3)
    (h5 : BkP W (b + 1 + 1 + 1 + 1) #[.int .i64 3, .int .i64 0, .int .i64 1, .int .i64 1, .int .i64 0, .int .i64 0, .int .i64 11, .int .i64 0, .int .i64 0, .int .i64 28, .int .i64 0, .int .i64 0, .int .i64 0, .int .i64 0, .int .i64 0] t4) (h6 : BkP W (b + 1 + 1 + 1 + 1 + 1) #[.int .i64 1, .slice (some ⟨b + 1 + 1 + 1 + 1, 0, none⟩) 5 5] t5) : PV W (exP b) :=
  ⟨sr_one h1 (by decide), sr_one h2 (by decide), nr_one h3 (by unfold inR; omega), inR_i64Q (by unfold inR exP; simp), inR_i64Q (by unfold inR exP; simp), inR_i64Q (by unfold inR exP; simp), inR_i64Q (by unfold inR exP; simp),
    ⟨⟨(fun e => by cases e), Nat.le_refl _, by show 1 ≤ maxLen; unfold maxLen; omega⟩, rfl, by show 1 ≤ _; omega, (fun s hs => by
      have : s = ⟨1, some ⟨b + 1 + 1 + 1 + 1, 0, none⟩, 5, exC⟩ := List.mem_singleton.1 hs
      subst this
      exact ⟨inR_i64Q (by unfold inR; simp), ir_ex h5⟩), .inr ⟨_, 0, rfl, h6.lt, fun i hi j hj => by
      have hi1 : i < 1 := hi
      obtain rfl : i = 0 := by omega
      rw [Nat.zero_add]
      rw [h6.cell]
      have hj' : j = 0 ∨ j = 1 := by omega
      rcases hj' with rfl | rfl <;> rfl⟩⟩⟩
set_option maxRecDepth 100000 in
set_option maxHeartbeats 4000000 in
theorem heads_any {w : World} (hG : GlA w) : Calls Tryz.prog 9 #[] w fun e w' => e = .returned (.bool true) ∧ Below w.heap.size w w' := by
  obtain ⟨W6, hW6⟩ : ∃ y, ((((((w.alloc (.cells #[.string ⟨#[65]⟩] 9)).alloc (.cells #[.string ⟨#[69, 85, 82]⟩] 9)).alloc (.cells #[.int .i64 5] 3)).alloc (.cells #[.slice (some ⟨w.heap.size, 0, none⟩) 1 1, .slice (some ⟨w.heap.size + 1, 0, none⟩) 1 1, .slice (some ⟨w.heap.size + 1 + 1, 0, none⟩) 1 1, .int .i64 1, .int .i64 0, .int .i64 0, .int .i64 2, .slice (some ⟨w.heap.size + 1 + 1 + 1 + 1 + 1, 0, none⟩) 1 1] 27)).alloc (.cells #[.int .i64 3, .int .i64 0, .int .i64 1, .int .i64 1, .int .i64 0, .int .i64 0, .int .i64 11, .int .i64 0, .int .i64 0, .int .i64 28, .int .i64 0, .int .i64 0, .int .i64 0, .int .i64 0, .int .i64 0] 44)).alloc (.cells #[.int .i64 1, .slice (some ⟨w.heap.size + 1 + 1 + 1 + 1, 0, none⟩) 5 5] 41)) = y := ⟨_, rfl⟩
  obtain ⟨b1, b2, b3, b4, b5, b6⟩ := six_blk w (.cells #[.string ⟨#[65]⟩] 9) (.cells #[.string ⟨#[69, 85, 82]⟩] 9) (.cells #[.int .i64 5] 3) (.cells #[.slice (some ⟨w.heap.size, 0, none⟩) 1 1, .slice (some ⟨w.heap.size + 1, 0, none⟩) 1 1, .slice (some ⟨w.heap.size + 1 + 1, 0, none⟩) 1 1, .int .i64 1, .int .i64 0, .int .i64 0, .int .i64 2, .slice (some ⟨w.heap.size + 1 + 1 + 1 + 1 + 1, 0, none⟩) 1 1] 27) (.cells #[.int .i64 3, .int .i64 0, .int .i64 1, .int .i64 1, .int .i64 0, .int .i64 0, .int .i64 11, .int .i64 0, .int .i64 0, .int .i64 28, .int .i64 0, .int .i64 0, .int .i64 0, .int .i64 0, .int .i64 0] 44) (.cells #[.int .i64 1, .slice (some ⟨w.heap.size + 1 + 1 + 1 + 1, 0, none⟩) 5 5] 41)
  rw [hW6] at b1 b2 b3 b4 b5 b6
  have A6 := Lib.hid (p := Below w.heap.size w W6) (by
    rw [← hW6]
    exact ((((((Below.refl w.heap.size w).alloc (Nat.le_refl _) _).alloc (by simp) _).alloc (by simp; omega) _).alloc (by simp; omega) _).alloc (by simp; omega) _).alloc (by simp; omega) _)
  have Z6 := Lib.hid (p := W6.heap.size = w.heap.size + 6) (by rw [← hW6]; simp)
  have HW6 := Lib.hid hW6
  clear hW6
  have K46 : BkP W6 (w.heap.size + 1 + 1 + 1) _ _ := b4
  have PV6 := Lib.hid (exP_pv b1 b2 b3 b5 b6)
  have HG := Lib.hid hG
  clear b1 b2 b3 b4 b5 b6 hG
  have K46h := Lib.hid K46
  have KP := Lib.hid (p := Calls Tryz.prog 12 #[(exP w.heap.size).agg] W6 fun e w' => e = .returned (.tuple #[.string exT, .int .i64 0]) ∧ Below W6.heap.size W6 w') ((print_any PV6.out (HG.out.laterH A6.out).rw_ (HG.out.laterH A6.out).pw (HG.out.laterH A6.out).md (lnG_of (HG.out.laterH A6.out).ln)).mono (fun e w' ⟨h1, h2⟩ => ⟨by rw [h1, if_pos (exP_can _), if_pos (exP_can _), exP_txt], h2⟩))
  have KR := Lib.hid (p := ∀ W, Below w.heap.size w W → ∀ s, Calls Tryz.prog 10 #[.string s] W fun e w' => PaE s W e w') (fun W b s => parse_any s (fun W' b' => HG.out.laterH (b.trans (b'.mono b.size))))
  have k0 := K46.cell 0
  have k1 := K46.cell 1
  have k2 := K46.cell 2
  have k3 := K46.cell 3
  have k4 := K46.cell 4
  have k5 := K46.cell 5
  have k6 := K46.cell 6
  have k7 := K46.cell 7
  simp at k0 k1 k2 k3 k4 k5 k6 k7
  clear K46
  go_enter Tryz.func9, Tryz.ntmps9
  go_upto_region 3 with (fail)
  rw [HW6.out]
  go_upto_region 5 with (first
    | (go_at_call 12; refine KP.out.mono ?_; rintro e w1 ⟨rfl, h1⟩; have B1 := Lib.hid (A6.out.trans (h1.mono A6.out.size)); have Y1 := Lib.hid h1; clear h1)
    | (go_at_call 10; refine (KR.out w1 B1.out exT).mono ?_; rintro e w2 ⟨⟨a0, b0, c0, a1, b1, c1, a2, b2, c2, n0, n1, n2, n3, a3, b3, c3⟩, rfl, hpv, hkey, hb⟩; rw [exOut] at hkey ⊢; simp only [Pg.agg]; have P2 := Lib.hid hpv; have Q2 := Lib.hid hkey; have B2 := Lib.hid (B1.out.trans (hb.mono B1.out.size)); have Y2 := Lib.hid (Y1.out.trans (hb.mono Y1.out.size)); have A2 := Lib.hid (B2.out.trans ((allocBP w2 (.cells #[.slice a0 c0.length b0, .slice a1 c1.length b1, .slice a2 c2.length b2, .int .i64 n0, .int .i64 n1, .int .i64 n2, .int .i64 n3, .slice a3 c3.length b3] 27)).mono B2.out.size)); clear hpv hkey hb))
  clear k0 k1 k2 k3 k4 k5 k6 k7
  have KR2 := Lib.hid (p := ∀ W, Below w.heap.size w W → Calls Tryz.prog 10 #[.string (exT.extract 0 103 ++ ⟨#[101, 110, 100, 115, 10]⟩)] W fun e w' => PaE exT2 W e w') (fun W b => by rw [exE]; exact KR.out W b exT2)
  go_upto_region 6 with (go_at_call 10; refine (KR2.out _ A2.out).mono ?_; rintro e w3 ⟨⟨d0, e0, f0, d1, e1, f1, d2, e2, f2, m0, m1, m2, m3, d3, e3, f3⟩, rfl, _, _, hb⟩; rw [exOut2]; simp only [Pg.agg]; have B3 := Lib.hid (A2.out.trans (hb.mono A2.out.size)); have H3 := Lib.hid hb; clear hb)
  have AP := Lib.hid (allocBP w2 (.cells #[.slice a0 c0.length b0, .slice a1 c1.length b1, .slice a2 c2.length b2, .int .i64 n0, .int .i64 n1, .int .i64 n2, .int .i64 n3, .slice a3 c3.length b3] 27))
  have AQ := Lib.hid (allocBP w3 (.cells #[.slice d0 f0.length e0, .slice d1 f1.length e1, .slice d2 f2.length e2, .int .i64 m0, .int .i64 m1, .int .i64 m2, .int .i64 m3, .slice d3 f3.length e3] 27))
  have X2 := Lib.hid (p := Below w2.heap.size w2 (w3.alloc (.cells #[.slice d0 f0.length e0, .slice d1 f1.length e1, .slice d2 f2.length e2, .int .i64 m0, .int .i64 m1, .int .i64 m2, .int .i64 m3, .slice d3 f3.length e3] 27))) (AP.out.trans ((H3.out.trans (AQ.out.mono H3.out.size)).mono AP.out.size))
  have X6 := Lib.hid (p := Below W6.heap.size W6 (w3.alloc (.cells #[.slice d0 f0.length e0, .slice d1 f1.length e1, .slice d2 f2.length e2, .int .i64 m0, .int .i64 m1, .int .i64 m2, .int .i64 m3, .slice d3 f3.length e3] 27))) (Y2.out.trans (X2.out.mono Y2.out.size))
  have BW := Lib.hid (A6.out.trans (X6.out.mono A6.out.size))
  have bp := (H3.out.trans (AQ.out.mono H3.out.size)).block w2.heap.size (by simp) |>.trans (heapN w2 (.cells #[.slice a0 c0.length b0, .slice a1 c1.length b1, .slice a2 c2.length b2, .int .i64 n0, .int .i64 n1, .int .i64 n2, .int .i64 n3, .slice a3 c3.length b3] 27))
  obtain ⟨x0, x1, x2, x3, x4, x5, x6, x7⟩ := box_8Q bp
  obtain ⟨y0, y1, y2, y3, y4, y5, y6, y7⟩ := box_8Q ((X6.out.block (w.heap.size + 1 + 1 + 1) (by have := Z6.out; omega)).trans K46h.out)
  have KS := Lib.hid (same13_any (w := w3.alloc (.cells #[.slice d0 f0.length e0, .slice d1 f1.length e1, .slice d2 f2.length e2, .int .i64 m0, .int .i64 m1, .int .i64 m2, .int .i64 m3, .slice d3 f3.length e3] 27)) (PV6.out.later X6.out) (P2.out.later X2.out) (Q2.out.trans (exP_key _).symm))
  obtain ⟨w4, hw4⟩ : ∃ y, w3.alloc (.cells #[.slice d0 f0.length e0, .slice d1 f1.length e1, .slice d2 f2.length e2, .int .i64 m0, .int .i64 m1, .int .i64 m2, .int .i64 m3, .slice d3 f3.length e3] 27) = y := ⟨_, rfl⟩
  rw [hw4] at KS BW x0 x1 x2 x3 x4 x5 x6 x7 y0 y1 y2 y3 y4 y5 y6 y7
  rw [hw4]
  clear hw4 bp
  have es : exT.toList = [110, 97, 109, 101, 115, 32, 65, 10, 99, 117, 114, 115, 32, 69, 85, 82, 10, 112, 111, 111, 108, 32, 53, 10, 104, 111, 114, 105, 122, 111, 110, 32, 49, 10, 99, 101, 108, 108, 115, 32, 48, 10, 115, 108, 111, 116, 115, 32, 48, 10, 115, 116, 97, 99, 107, 32, 50, 10, 100, 97, 121, 32, 49, 10, 32, 32, 111, 98, 115, 32, 65, 32, 49, 10, 32, 32, 99, 111, 110, 115, 116, 32, 53, 10, 32, 32, 109, 117, 108, 10, 32, 32, 102, 108, 111, 119, 32, 69, 85, 82, 10, 32, 32, 101, 110, 100, 10] := by rw [Lib.toList_data]; rfl
  go_wp2_with (go_at_call 11; refine KS.out.mono ?_; rintro e w5 ⟨rfl, h5⟩; have B5 := Lib.hid h5; clear h5)
  go_ret
  exact ⟨by simp, BW.out.trans (B5.out.mono BW.out.size)⟩
end Go.Proofs.YtkjmkhmjaknfhaaGreatDoor

namespace Go.Proofs.YtkjmkhmjaknfhaaGreatDoor
open Go.RowKit
set_option linter.unusedVariables false
set_option linter.unusedSimpArgs false

end Go.Proofs.YtkjmkhmjaknfhaaGreatDoor

namespace Go.Proofs.YtkjmkhmjaknfhaaGreatDoor
open Go.RowKit
set_option linter.unusedVariables false
set_option linter.unusedSimpArgs false
theorem info8a : (Tryz.prog.info? 5).map (fun i => (i.zero, i.size, i.bytes)) = some (some (.int .u8 0), 1, 1) := by kernel_rfl
theorem conv_bytes13 {w : World} {B : Nat} {v : Value} {bs : List UInt8} (h : w.ownsRow B 5 1 v bs.length (Lib.byteCells bs)) (h0 : bs ≠ []) : ∃ g cap, v = .slice (some ⟨g, 0, none⟩) bs.length cap ∧ (convert 37 9 v).run Tryz.prog w = .ok (.string ⟨bs.toArray⟩) w := by
  have hh := h
  obtain ⟨h1, h2⟩ := h
  rcases h2 with ⟨h3, h2⟩ | ⟨g, cap, cur, rfl, hB, hg, hn, hm, hs, ht⟩
  · exact absurd (List.length_eq_zero_iff.1 h2) h0
  · refine ⟨g, cap, rfl, run_convert_bytes_back (P := Tryz.prog) w 37 9 5 ⟨g, 0, none⟩ cap bs (by kernel_rfl) (by kernel_rfl) (by kernel_rfl) (fun j hj => ?_)⟩
    rw [Lib.add_plain, Nat.zero_add, hh.cellAt j (by omega)]
    simp [Lib.byteCells, hj]
theorem strCells_bytes (s : ByteArray) : Lib.strCells s = Lib.byteCells s.data.toList := by
  unfold Lib.strCells Lib.byteCells
  first | rfl | simp
end Go.Proofs.YtkjmkhmjaknfhaaGreatDoor

namespace Go.Proofs.YtkjmkhmjaknfhaaGreatDoor
open Go.RowKit
set_option linter.unusedVariables false
set_option linter.unusedSimpArgs false

theorem GlA.laterF {w W : World} (h : GlA w) (b : Below w.heap.size w W) : GlA W := ⟨pows_below h.pw b, ev_below h.ev b, h.rw_.below b, h.md.later b, h.ln.later b⟩
theorem out131 {s : ByteArray} (h : (outA s).2.2 = 131) : ∃ n : Nat, (outA s).2.1 = (n : Int) ∧ n ≤ (lnsR s).length + 1 ∧ (n ≤ (lnsR s).length → apAll (lnsR s) 0 (0, Ap.zero) = .error n ∧ 0 < n) := by
  unfold outA at h ⊢
  by_cases hs : 16777216 < s.size
  · rw [if_pos hs] at h
    exact absurd h (by decide)
  · rw [if_neg hs] at h ⊢
    cases hA : apAll (lnsR s) 0 (0, Ap.zero) with
    | error n =>
      have z := apAll_first _ _ _ hA
      exact ⟨n, rfl, by have := z.2.1; omega, fun _ => ⟨rfl, z.1⟩⟩
    | ok r =>
      obtain ⟨n, st⟩ := r
      rw [hA] at h
      simp only at h ⊢
      have c := apAll_cnt _ _ _ hA
      by_cases hm : mayC st.1 8 = true
      · rw [if_pos hm] at h
        split at h
        · exact absurd (show (0 : Int) = 131 from h) (by decide)
        · exact absurd (show (121 : Int) = 131 from h) (by decide)
      · rw [if_neg hm]
        exact ⟨n + 1, rfl, by omega, fun q => by omega⟩
/-- The first lines, each with its feed. -/
def txF (ls : List ByteArray) (k : Nat) : List UInt8 := (ls.take k).flatMap fun a => a.data.toList ++ [10]
theorem txF_step {ls : List ByteArray} {k : Nat} (h : k < ls.length) : txF ls (k + 1) = txF ls k ++ ls[k].data.toList ++ [10] := by
  unfold txF
  rw [List.take_succ_eq_append_getElem h, List.flatMap_append]
  simp
theorem txF_len : ∀ (ls : List ByteArray) (k : Nat), (txF ls k).length ≤ (txF ls ls.length).length := by
  intro ls k
  unfold txF
  rw [List.take_length]
  conv => rhs; rw [← List.take_append_drop k ls]
  rw [List.flatMap_append, List.length_append]
  exact Nat.le_add_right _ _
theorem lnsR_tot : ∀ (n : Nat) (t : ByteArray), t.size = n → (txF (lnsR t) (lnsR t).length).length ≤ t.size + 1 := by
  intro n
  induction n using Nat.strongRecOn with
  | _ n ih =>
    intro t hn
    unfold txF at ih ⊢
    rw [List.take_length]
    by_cases h : 0 < t.size
    · have e : (t.extract (fy lfA t 0 + 1) t.size).size = t.size - (fy lfA t 0 + 1) := by rw [ByteArray.size_extract]; omega
      have z := ih _ (by omega) (t.extract (fy lfA t 0 + 1) t.size) rfl
      rw [List.take_length, e] at z
      rw [lnsR_cons h, List.flatMap_cons, List.length_append, List.length_append]
      have l0 : (t.extract 0 (fy lfA t 0)).data.toList.length = (t.extract 0 (fy lfA t 0)).size := Array.length_toList
      have l1 : (t.extract 0 (fy lfA t 0)).size = fy lfA t 0 := by
        rw [ByteArray.size_extract]
        have := fy_le (p := lfA) (s := t) (i := 0) (Nat.zero_le _)
        omega
      rw [l0, l1]
      have hle := fy_le (p := lfA) (s := t) (i := 0) (Nat.zero_le _)
      simp only [List.length_cons, List.length_nil]
      by_cases q : fy lfA t 0 + 1 ≤ t.size
      · omega
      · have e0 : (t.extract (fy lfA t 0 + 1) t.size).size = 0 := by omega
        rw [lnsR_nil (by omega)] at z ⊢
        simp
        omega
    · rw [lnsR_nil (by omega)]; simp
/-- The lines up to the first that can't stand, then whatever. -/
theorem first_out {s tail : ByteArray} {n : Nat} (h : apAll (lnsR s) 0 (0, Ap.zero) = .error n) (hz : s.size + tail.size ≤ 1048576) : outA (⟨(txF (lnsR s) n).toArray⟩ ++ tail) = (Ap.zero, (n : Int), 131) := by
  have e : (⟨(txF (lnsR s) n).toArray⟩ ++ tail : ByteArray) = lfJ ((lnsR s).take n) tail := by
    apply bytes_list
    rw [lfJ_list, ByteArray.data_append]
    simp [txF]
  have z := apAll_first _ _ _ h
  have sz : (⟨(txF (lnsR s) n).toArray⟩ ++ tail : ByteArray).size ≤ 16777216 := by
    rw [ByteArray.size_append]
    have e1 : (ByteArray.mk (txF (lnsR s) n).toArray).size = (txF (lnsR s) n).length := by show (txF (lnsR s) n).toArray.size = _; simp
    have := txF_len (lnsR s) n
    have := lnsR_tot _ s rfl
    omega
  unfold outA
  rw [if_neg (by omega), e, lnsR_lfJ _ _ (fun a ha => lnsR_noLf _ s rfl a (List.mem_of_mem_take ha))]
  have q := z.2.2 (lnsR tail)
  rw [Nat.sub_zero] at q
  rw [q]
set_option maxRecDepth 100000 in
set_option maxHeartbeats 4000000 in
theorem asmFirst_any {w : World} (text tail : ByteArray) (hG : GlA w) (ht : text.size ≤ 140737488351232) (htl : tail.size ≤ 140737488351232) (hH : ∀ W, Below w.heap.size w W → Calls Tryz.prog 9 #[] W fun e w' => e = .returned (.bool true) ∧ Below W.heap.size W w') :
    Calls Tryz.prog 4 #[.string text, .string tail] w fun e w' => e = .returned (.bool true) ∧ Below w.heap.size w w' := by
  have wsum : IntKind.i64.wrap ((text.size : Int) + (tail.size : Int)) = (text.size : Int) + (tail.size : Int) := by simp [IntKind.wrap, IntKind.bits, IntKind.signed]; omega
  have KH := Lib.hid hH
  clear hH
  by_cases hz : text.size + tail.size ≤ 1048576
  · have z1 : ¬ (1048576 : Int) < (text.size : Int) + (tail.size : Int) := by omega
    have zb : decide ((1048576 : Int) < (text.size : Int) + (tail.size : Int)) = false := by simp; omega
    have KP := Lib.hid (p := ∀ W, Below w.heap.size w W → ∀ s, Calls Tryz.prog 10 #[.string s] W fun e w' => PaE s W e w') (fun W b s => parse_any s (fun W' b' => hG.laterF (b.trans (b'.mono b.size))))
    have KL := Lib.hid (fun W => linesL_any text (by omega) W)
    have O131 := Lib.hid (out131 (s := text))
    have FO := Lib.hid (fun n h => first_out (s := text) (tail := tail) (n := n) h hz)
    have TL := Lib.hid (p := ∀ k, (txF (lnsR text) k).length ≤ 1048577) (fun k => by have := txF_len (lnsR text) k; have := lnsR_tot _ text rfl; omega)
    have TS := Lib.hid (p := ∀ k (h : k < (lnsR text).length), txF (lnsR text) (k + 1) = txF (lnsR text) k ++ (lnsR text)[k].data.toList ++ [10]) (fun k h => txF_step h)
    have T0 := Lib.hid (p := txF (lnsR text) 0 = []) (by simp [txF])
    have LB := Lib.hid (p := ∀ k (h : k < (lnsR text).length), (lnsR text)[k].size ≤ 1048576) (fun k h => by have := lnsR_bd _ text rfl _ (List.getElem_mem h); omega)
    have LLen := Lib.hid (p := (lnsR text).length ≤ 1048576) (by have := lnsR_len _ text rfl; omega)
    have KL1 := Lib.hid (p := ∀ W, Calls Tryz.prog 14 #[.string text] W fun e w' => ∃ a c, e = .returned (.slice a (lnsR text).length c) ∧ OwQ w' W.heap.size (.slice a (lnsR text).length c) (lnsR text) ∧ Below W.heap.size W w') (fun W => (KL.out W).mono (fun e w' ⟨v, h1, h2, h3⟩ => by
      rw [← lns_all] at h2
      obtain ⟨a, c, rfl⟩ := own_slQ h2
      exact ⟨a, c, h1, h2, h3⟩))
    clear KL hG
    generalize lnsR text = ls at *
    obtain ⟨L, hL⟩ : ∃ L, ls.length = L := ⟨_, rfl⟩
    have NL := Lib.hid hL
    rw [hL] at KL1 LLen
    obtain ⟨o, ho⟩ : ∃ o, outA text = o := ⟨_, rfl⟩
    rw [ho] at O131
    have HO := Lib.hid ho
    obtain ⟨oa, N, E⟩ := o
    simp only at O131
    clear hL ho
    have B0 := Lib.hid (Below.refl w.heap.size w)
    by_cases hE : E = 131
    · subst hE
      obtain ⟨n, rfl, hle, hr⟩ := O131.out rfl
      by_cases hn : n ≤ L
      · obtain ⟨hA, np0⟩ := hr (by rw [NL.out]; exact hn)
        have FO1 := Lib.hid (FO.out n hA)
        have c1 : ¬ (L : Int) < (n : Int) := by omega
        have cb : decide ((L : Int) < (n : Int)) = false := by simp; omega
        have cb' : decide (L < n) = false := by simp; omega
        have NP := Lib.hid np0
        have n20 : n ≤ 1048576 := by have := LLen.out; omega
        obtain ⟨i0, hi, hz0, hz1, hz2⟩ := info_parts info8a
        clear hA hr hle O131 FO np0
        go_enter Tryz.func4, Tryz.ntmps4
        go_wp2_with (first
    | (go_at_call 9; refine (KH.out _ B0.out).mono ?_; rintro e w1 ⟨rfl, h1⟩; have B1 := Lib.hid h1; clear h1)
    | (go_at_call 10; refine (KP.out w1 B1.out text).mono ?_; rintro e w2 ⟨⟨a0, b0, c0, a1, b1, c1, a2, b2, c2, n0, n1, n2, n3, a3, b3, c3⟩, rfl, _, _, hb⟩; rw [HO.out]; simp only [Pg.agg]; have B2 := Lib.hid (B1.out.trans (hb.mono B1.out.size)); have A2 := Lib.hid (B2.out.trans ((allocBP w2 (.cells #[.slice a0 c0.length b0, .slice a1 c1.length b1, .slice a2 c2.length b2, .int .i64 n0, .int .i64 n1, .int .i64 n2, .int .i64 n3, .slice a3 c3.length b3] 27)).mono B2.out.size)); clear hb)
    | (go_at_call 14; refine (KL1.out (w2.alloc (.cells #[.slice a0 c0.length b0, .slice a1 c1.length b1, .slice a2 c2.length b2, .int .i64 n0, .int .i64 n1, .int .i64 n2, .int .i64 n3, .slice a3 c3.length b3] 27))).mono ?_; rintro e w3 ⟨al, cl, rfl, h2, h3⟩; have O3 := Lib.hid h2; have B3 := Lib.hid (A2.out.trans (h3.mono A2.out.size)); clear h2 h3))
        have CL := Lib.hid (p := ∀ k (h : k < ls.length), ∃ g o, al = some ⟨g, o, none⟩ ∧ ∀ W, Below w3.heap.size w3 W → W.cell? ⟨g, o + k, none⟩ = some (.string ls[k])) (fun k h => by
          obtain ⟨g, cap, e⟩ := own_formQ O3.out (by omega)
          injection e with e1 _ e3
          subst e1
          refine ⟨g, 0, rfl, fun W b => ?_⟩
          rcases wrs_of (by have := O3.out; rw [← NL.out] at this; exact this) with q | ⟨g', e, _, q⟩
          · subst q; simp at h
          · injection e with e
            injection e with e e'
            subst e
            have lt := (O3.out.lt g rfl).2
            rw [Nat.zero_add]
            exact (b.cell (p := ⟨g, k, none⟩) lt).trans (q k h).1)
        clear O3
        go_loopw [9, 10] (fun v t W => ∃ (k : Nat) (u : Value), k ≤ n ∧ u = v ∧ t = .int .i64 (k : Int) ∧ RowKit.Hid (W.ownsRow w3.heap.size 5 1 u (txF ls k).length (Lib.byteCells (txF ls k))) ∧ RowKit.Hid (Below w3.heap.size w3 W)) (fun _ t _ => n - (intOf t).toNat)
        case atStart => exact ⟨0, _, Nat.zero_le _, rfl, rfl, by rw [T0.out]; exact World.ownsRow_nil _ _ _ _, Below.refl _ _⟩
        case round =>
          rename World => W
          obtain ⟨k, v, kn, rfl, rfl, HO1, HB⟩ := hrel
          by_cases hlt : k < n
          · have kc : (k : Int) < (n : Int) := by omega
            have kl : k < ls.length := by rw [NL.out]; omega
            have kc2 : (k : Int) < (L : Int) := by omega
            obtain ⟨xl, xo, rfl, hcl⟩ := CL.out k kl
            have cl1 := hcl W HB.out
            have ST := Lib.hid (TS.out k kl)
            have LT := Lib.hid (TL.out (k + 1))
            have LZ := Lib.hid (LB.out k kl)
            generalize ls[k] = s at *
            have Z2 := Lib.hid (p := (txF ls k).length + s.size + 1 ≤ maxLen ∧ (txF ls k).length + s.size ≤ maxLen ∧ (txF ls k).length + s.size + 1 ≤ 140737488355328 ∧ (txF ls k).length + s.size ≤ 140737488355328) (by
              have l0 : s.data.toList.length = s.size := Array.length_toList
              have := LT.out
              rw [ST.out] at this
              simp only [List.length_append, List.length_cons, List.length_nil, l0] at this
              unfold maxLen
              omega)
            clear hcl
            have A9 : True := trivial
            go_wp2_with (first
              | (at_builtin; have qq := A9; refine Lib.wpList_append_own_string _ rfl _ _ 37 9 rfl w3.heap.size 5 i0 Tryz.underlying37 Tryz.underlying9 hi hz0 hz1 hz2 _ _ _ rfl HO1.out s rfl Z2.out.2.1 Z2.out.2.2.2 HB.out.size ?_; intro v2 w5 k1 k2 _; have O5 := Lib.hid k1; have B5 := Lib.hid (HB.out.grown k2 HB.out.size (fun k e => (HO1.out.lt k e).1)); clear k1 k2 A9)
              | (at_builtin; have qq := O5; refine wpList_append_own_at _ rfl _ _ 37 rfl w3.heap.size 5 i0 _ 1 1 Tryz.underlying37 hi hz0 hz1 hz2 rfl (by decide) v2 _ _ rfl (O5.out.alloc _) ⟨w5.heap.size, 0, none⟩ 1 1 [.int .u8 10] rfl rfl (cell_one_new w5 _ _) (by intro u hu; simp at hu; subst hu; rfl) (by have := Z2.out; omega) (by have := Z2.out; omega) (Nat.le_trans B5.out.size (by simp)) ?_; intro v1 w6 k1 k2 k3 k4; have O6 := Lib.hid k1; have B6 := Lib.hid ((B5.out.alloc B5.out.size _).grown k2 (Nat.le_trans B5.out.size (by simp)) (fun k e => (O5.out.lt k e).1)); clear k1 k2 k3 k4))
            go_roundw
            case rel =>
              refine ⟨k + 1, _, by omega, rfl, by go_num, ?_, B6.out⟩
              have := O6.out
              rw [strCells_bytes] at this
              rw [ST.out]
              have e : s.data.toList.length = s.size := Array.length_toList
              have e2 : Lib.byteCells (txF ls k ++ s.data.toList ++ [10]) = Lib.byteCells (txF ls k) ++ Lib.byteCells s.data.toList ++ [.int .u8 10] := by simp [Lib.byteCells]
              rw [e2, List.length_append, List.length_append, e]
              exact this
            case measure => simp [intOf]; omega
          · obtain rfl : k = n := by omega
            have ne : txF ls k ≠ [] := by
              have np := NP.out
              have := TS.out (k - 1) (by rw [NL.out]; omega)
              rw [show k - 1 + 1 = k by omega] at this
              rw [this]
              simp
            obtain ⟨g', cap, rfl, CV⟩ := conv_bytes13 HO1.out ne
            have BW := Lib.hid (B3.out.trans (HB.out.mono B3.out.size))
            have cc : ¬ 9223372036854775807 < (txF ls k).length + tail.size := by have := TL.out k; omega
            clear HO1 ne CL
            go_wp2_with (first
              | (go_at_call 10; refine (KP.out W BW.out _).mono ?_; rintro e w7 ⟨⟨d0, e0, f0, d1, e1, f1, d2, e2, f2, m0, m1, m2, m3, d3, e3, f3⟩, rfl, hpv, hkey, hb⟩; rw [FO1.out] at hkey ⊢; simp only [Pg.agg]; have P7 := Lib.hid hpv; have Q7 := Lib.hid hkey; have B7 := Lib.hid (BW.out.trans (hb.mono BW.out.size)); have A7 := Lib.hid (B7.out.trans ((allocBP w7 (.cells #[.slice d0 f0.length e0, .slice d1 f1.length e1, .slice d2 f2.length e2, .int .i64 m0, .int .i64 m1, .int .i64 m2, .int .i64 m3, .slice d3 f3.length e3] 27)).mono B7.out.size)); obtain ⟨y0, y1, y2, y3, y4, y5, y6, y7⟩ := box_8Q (heapN w7 (.cells #[.slice d0 f0.length e0, .slice d1 f1.length e1, .slice d2 f2.length e2, .int .i64 m0, .int .i64 m1, .int .i64 m2, .int .i64 m3, .slice d3 f3.length e3] 27)); have KS := Lib.hid (same13_any (w := w7.alloc (.cells #[.slice d0 f0.length e0, .slice d1 f1.length e1, .slice d2 f2.length e2, .int .i64 m0, .int .i64 m1, .int .i64 m2, .int .i64 m3, .slice d3 f3.length e3] 27)) (P7.out.later (allocBP w7 _)) (zero_pv _) Q7.out.symm); clear hpv hkey hb)
              | (go_at_call 11; refine KS.out.mono ?_; rintro e w8 ⟨rfl, h8⟩; have B8 := Lib.hid (A7.out.trans (h8.mono A7.out.size)); clear h8))
            go_ret
            exact ⟨by simp, B8.out⟩
      · have c1 : (L : Int) < (n : Int) := by omega
        clear O131 FO hr hle
        go_enter Tryz.func4, Tryz.ntmps4
        go_wp2_with (first
    | (go_at_call 9; refine (KH.out _ B0.out).mono ?_; rintro e w1 ⟨rfl, h1⟩; have B1 := Lib.hid h1; clear h1)
    | (go_at_call 10; refine (KP.out w1 B1.out text).mono ?_; rintro e w2 ⟨⟨a0, b0, c0, a1, b1, c1, a2, b2, c2, n0, n1, n2, n3, a3, b3, c3⟩, rfl, _, _, hb⟩; rw [HO.out]; simp only [Pg.agg]; have B2 := Lib.hid (B1.out.trans (hb.mono B1.out.size)); have A2 := Lib.hid (B2.out.trans ((allocBP w2 (.cells #[.slice a0 c0.length b0, .slice a1 c1.length b1, .slice a2 c2.length b2, .int .i64 n0, .int .i64 n1, .int .i64 n2, .int .i64 n3, .slice a3 c3.length b3] 27)).mono B2.out.size)); clear hb)
    | (go_at_call 14; refine (KL1.out (w2.alloc (.cells #[.slice a0 c0.length b0, .slice a1 c1.length b1, .slice a2 c2.length b2, .int .i64 n0, .int .i64 n1, .int .i64 n2, .int .i64 n3, .slice a3 c3.length b3] 27))).mono ?_; rintro e w3 ⟨al, cl, rfl, h2, h3⟩; have O3 := Lib.hid h2; have B3 := Lib.hid (A2.out.trans (h3.mono A2.out.size)); clear h2 h3))
        go_ret
        exact ⟨rfl, B3.out⟩
    · have e1 : (E == 131) = false := by simp; exact hE
      have e2 : (E != 131) = true := by simp; exact hE
      clear O131 FO
      go_enter Tryz.func4, Tryz.ntmps4
      go_wp2_with (first
    | (go_at_call 9; refine (KH.out _ B0.out).mono ?_; rintro e w1 ⟨rfl, h1⟩; have B1 := Lib.hid h1; clear h1)
    | (go_at_call 10; refine (KP.out w1 B1.out text).mono ?_; rintro e w2 ⟨⟨a0, b0, c0, a1, b1, c1, a2, b2, c2, n0, n1, n2, n3, a3, b3, c3⟩, rfl, _, _, hb⟩; rw [HO.out]; simp only [Pg.agg]; have B2 := Lib.hid (B1.out.trans (hb.mono B1.out.size)); have A2 := Lib.hid (B2.out.trans ((allocBP w2 (.cells #[.slice a0 c0.length b0, .slice a1 c1.length b1, .slice a2 c2.length b2, .int .i64 n0, .int .i64 n1, .int .i64 n2, .int .i64 n3, .slice a3 c3.length b3] 27)).mono B2.out.size)); clear hb)
    | (go_at_call 14; refine (KL1.out (w2.alloc (.cells #[.slice a0 c0.length b0, .slice a1 c1.length b1, .slice a2 c2.length b2, .int .i64 n0, .int .i64 n1, .int .i64 n2, .int .i64 n3, .slice a3 c3.length b3] 27))).mono ?_; rintro e w3 ⟨al, cl, rfl, h2, h3⟩; have O3 := Lib.hid h2; have B3 := Lib.hid (A2.out.trans (h3.mono A2.out.size)); clear h2 h3))
      go_ret
      exact ⟨rfl, B3.out⟩
  · have z1 : (1048576 : Int) < (text.size : Int) + (tail.size : Int) := by omega
    have B0 := Lib.hid (Below.refl w.heap.size w)
    go_enter Tryz.func4, Tryz.ntmps4
    go_upto_region 2 with (go_at_call 9; refine (KH.out _ B0.out).mono ?_; rintro e w1 ⟨rfl, h1⟩; have B1 := Lib.hid h1; clear h1)
    go_wp2_with (go_at_call 9; refine (KH.out _ B1.out).mono ?_; rintro e w2 ⟨rfl, h2⟩; have B2 := Lib.hid (B1.out.trans (h2.mono B1.out.size)); clear h2)
    go_ret
    exact ⟨rfl, B2.out⟩
end Go.Proofs.YtkjmkhmjaknfhaaGreatDoor

namespace Go.Proofs.YtkjmkhmjaknfhaaGreatDoor
open Go.RowKit

theorem asmFirst_law {w : World} (text tail : ByteArray) (hG : GlA w) (ht : text.size ≤ 140737488351232) (htl : tail.size ≤ 140737488351232) :
    Calls Tryz.prog 4 #[.string text, .string tail] w fun e w' => e = .returned (.bool true) ∧ Below w.heap.size w w' :=
  asmFirst_any text tail hG ht htl (fun _ b => heads_any (hG.laterH b))
end Go.Proofs.YtkjmkhmjaknfhaaGreatDoor
