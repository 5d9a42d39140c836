import Derived.Test.YtccjeipkljdhdaaGreatDoorXAP
import Derived.Test.YtccjeipkljdhdaaGreatDoorXBD
import Derived.Test.YtccjeipkljdhdaaGreatDoorXBE
import Derived.Test.YtccjeipkljdhdaaGreatDoorXBF
import Derived.Sort.Walk0
import Derived.Test.YtccjeipkljdhdaaGreatDoorXAR
namespace Go.Proofs.YtccjeipkljdhdaaGreatDoor
open Go.RowKit
set_option linter.unusedVariables false
set_option linter.unusedSimpArgs false

theorem GlA.laterH {w W : World} (h : GlA w) (b : Below w.heap.size w W) : GlA W := ⟨pows_below h.pw b, ev_below h.ev b, h.rw_.below b, h.md.later b, h.ln.later b⟩
theorem lnG_of {w : World} (h : LnR w) : LnG w := ⟨h.1, fun k hk => by
  have := (h.2 k hk).1
  rwa [show hdA k = lnA k from rfl] at this⟩
theorem six_blk (w : World) (o1 o2 o3 o4 o5 o6 : Obj) : ((((((w.alloc o1).alloc o2).alloc o3).alloc o4).alloc o5).alloc o6).heap[w.heap.size]? = some o1 ∧ ((((((w.alloc o1).alloc o2).alloc o3).alloc o4).alloc o5).alloc o6).heap[w.heap.size + 1]? = some o2 ∧ ((((((w.alloc o1).alloc o2).alloc o3).alloc o4).alloc o5).alloc o6).heap[w.heap.size + 1 + 1]? = some o3 ∧ ((((((w.alloc o1).alloc o2).alloc o3).alloc o4).alloc o5).alloc o6).heap[w.heap.size + 1 + 1 + 1]? = some o4 ∧ ((((((w.alloc o1).alloc o2).alloc o3).alloc o4).alloc o5).alloc o6).heap[w.heap.size + 1 + 1 + 1 + 1]? = some o5 ∧ ((((((w.alloc o1).alloc o2).alloc o3).alloc o4).alloc o5).alloc o6).heap[w.heap.size + 1 + 1 + 1 + 1 + 1]? = some o6 := by
  have e : ((((((w.alloc o1).alloc o2).alloc o3).alloc o4).alloc o5).alloc o6).heap = (((((w.heap.push o1).push o2).push o3).push o4).push o5).push o6 := rfl
  rw [e]
  refine ⟨?_, ?_, ?_, ?_, ?_, ?_⟩
  all_goals
    simp only [Array.getElem?_push, Array.size_push]
    repeat (first | rw [if_pos (by omega)] | rw [if_neg (by omega)])
    try (rw [if_pos trivial])
theorem sr_one {W : World} {b : Nat} {s : ByteArray} {t : TypeId} (h : BkP W b #[.string s] t) (hs : s.size ≤ 16777216) : SR W (some ⟨b, 0, none⟩) 1 1 [s] :=
  ⟨⟨(fun e => by cases e), Nat.le_refl _, by unfold maxLen; omega⟩, rfl, by omega, (fun x hx => by rw [List.mem_singleton.1 hx]; omega), .inr ⟨b, 0, rfl, h.lt, fun i hi j hj => by
    obtain rfl : i = 0 := by omega
    obtain rfl : j = 0 := by omega
    exact h.cell 0⟩⟩
theorem nr_one {W : World} {b : Nat} {n : Int} {t : TypeId} (h : BkP W b #[.int .i64 n] t) (hs : inR n) : NR W (some ⟨b, 0, none⟩) 1 1 [n] :=
  ⟨⟨(fun e => by cases e), Nat.le_refl _, by unfold maxLen; omega⟩, rfl, by omega, (fun x hx => by rw [List.mem_singleton.1 hx]; exact inR_i64Q hs), .inr ⟨b, 0, rfl, h.lt, fun i hi j hj => by
    obtain rfl : i = 0 := by omega
    obtain rfl : j = 0 := by omega
    exact h.cell 0⟩⟩
def exC : List In := [⟨3, 0, 1⟩, ⟨1, 0, 0⟩, ⟨11, 0, 0⟩, ⟨28, 0, 0⟩, ⟨0, 0, 0⟩]
theorem ir_ex {W : World} {b : Nat} {t : TypeId} (h : BkP W b #[.int .i64 3, .int .i64 0, .int .i64 1, .int .i64 1, .int .i64 0, .int .i64 0, .int .i64 11, .int .i64 0, .int .i64 0, .int .i64 28, .int .i64 0, .int .i64 0, .int .i64 0, .int .i64 0, .int .i64 0] t) : IR W (some ⟨b, 0, none⟩) 5 5 exC :=
  ⟨⟨(fun e => by cases e), Nat.le_refl _, by unfold maxLen; omega⟩, rfl, by omega, (fun x hx => okP_i64Q (by
    have : ∀ x ∈ exC, x.okP := by decide
    exact this x hx)), .inr ⟨b, 0, rfl, h.lt, fun i hi j hj => by
    rw [Nat.zero_add]
    rw [h.cell]
    have hi' : i = 0 ∨ i = 1 ∨ i = 2 ∨ i = 3 ∨ i = 4 := by omega
    have hj' : j = 0 ∨ j = 1 ∨ j = 2 := by omega
    rcases hi' with rfl | rfl | rfl | rfl | rfl <;> rcases hj' with rfl | rfl | rfl <;> rfl⟩⟩
/-- The example in memory. -/
def exP (b : Nat) : Pg := ⟨some ⟨b, 0, none⟩, 1, [⟨#[65]⟩], some ⟨b + 1, 0, none⟩, 1, [⟨#[69, 85, 82]⟩], some ⟨b + 1 + 1, 0, none⟩, 1, [5], 1, 0, 0, 2, some ⟨b + 1 + 1 + 1 + 1 + 1, 0, none⟩, 1, [⟨1, some ⟨b + 1 + 1 + 1 + 1, 0, none⟩, 5, exC⟩]⟩
theorem exP_key (b : Nat) : (exP b).key = exA.pg.key := rfl
theorem exP_txt (b : Nat) : (⟨(txtP (exP b)).toArray⟩ : ByteArray) = exT := by kernel_rfl
theorem exP_can (b : Nat) : canP (exP b) := can_key1Q (exP_key b).symm exCan
theorem exP_pv {W : World} {b : Nat} {t1 t2 t3 t4 t5 : TypeId} (h1 : BkP W b #[.string ⟨#[65]⟩] t1) (h2 : BkP W (b + 1) #[.string ⟨#[69, 85, 82]⟩] t2) (h3 : BkP W (b + 1 + 1) #[.int .i64 5] t3)
    (h5 : BkP W (b + 1 + 1 + 1 + 1) #[.int .i64 3, .int .i64 0, .int .i64 1, .int .i64 1, .int .i64 0, .int .i64 0, .int .i64 11, .int .i64 0, .int .i64 0, .int .i64 28, .int .i64 0, .int .i64 0, .int .i64 0, .int .i64 0, .int .i64 0] t4) (h6 : BkP W (b + 1 + 1 + 1 + 1 + 1) #[.int .i64 1, .slice (some ⟨b + 1 + 1 + 1 + 1, 0, none⟩) 5 5] t5) : PV W (exP b) :=
  ⟨sr_one h1 (by decide), sr_one h2 (by decide), nr_one h3 (by unfold inR; omega), inR_i64Q (by unfold inR exP; simp), inR_i64Q (by unfold inR exP; simp), inR_i64Q (by unfold inR exP; simp), inR_i64Q (by unfold inR exP; simp),
    ⟨⟨(fun e => by cases e), Nat.le_refl _, by show 1 ≤ maxLen; unfold maxLen; omega⟩, rfl, by show 1 ≤ _; omega, (fun s hs => by
      have : s = ⟨1, some ⟨b + 1 + 1 + 1 + 1, 0, none⟩, 5, exC⟩ := List.mem_singleton.1 hs
      subst this
      exact ⟨inR_i64Q (by unfold inR; simp), ir_ex h5⟩), .inr ⟨_, 0, rfl, h6.lt, fun i hi j hj => by
      have hi1 : i < 1 := hi
      obtain rfl : i = 0 := by omega
      rw [Nat.zero_add]
      rw [h6.cell]
      have hj' : j = 0 ∨ j = 1 := by omega
      rcases hj' with rfl | rfl <;> rfl⟩⟩⟩
set_option maxRecDepth 100000 in
set_option maxHeartbeats 4000000 in
theorem heads_any {w : World} (hG : GlA w) : Calls Tryz.prog 6 #[] w fun e w' => e = .returned (.bool true) ∧ Below w.heap.size w w' := by
  obtain ⟨W6, hW6⟩ : ∃ y, ((((((w.alloc (.cells #[.string ⟨#[65]⟩] 9)).alloc (.cells #[.string ⟨#[69, 85, 82]⟩] 9)).alloc (.cells #[.int .i64 5] 3)).alloc (.cells #[.slice (some ⟨w.heap.size, 0, none⟩) 1 1, .slice (some ⟨w.heap.size + 1, 0, none⟩) 1 1, .slice (some ⟨w.heap.size + 1 + 1, 0, none⟩) 1 1, .int .i64 1, .int .i64 0, .int .i64 0, .int .i64 2, .slice (some ⟨w.heap.size + 1 + 1 + 1 + 1 + 1, 0, none⟩) 1 1] 27)).alloc (.cells #[.int .i64 3, .int .i64 0, .int .i64 1, .int .i64 1, .int .i64 0, .int .i64 0, .int .i64 11, .int .i64 0, .int .i64 0, .int .i64 28, .int .i64 0, .int .i64 0, .int .i64 0, .int .i64 0, .int .i64 0] 42)).alloc (.cells #[.int .i64 1, .slice (some ⟨w.heap.size + 1 + 1 + 1 + 1, 0, none⟩) 5 5] 39)) = y := ⟨_, rfl⟩
  obtain ⟨b1, b2, b3, b4, b5, b6⟩ := six_blk w (.cells #[.string ⟨#[65]⟩] 9) (.cells #[.string ⟨#[69, 85, 82]⟩] 9) (.cells #[.int .i64 5] 3) (.cells #[.slice (some ⟨w.heap.size, 0, none⟩) 1 1, .slice (some ⟨w.heap.size + 1, 0, none⟩) 1 1, .slice (some ⟨w.heap.size + 1 + 1, 0, none⟩) 1 1, .int .i64 1, .int .i64 0, .int .i64 0, .int .i64 2, .slice (some ⟨w.heap.size + 1 + 1 + 1 + 1 + 1, 0, none⟩) 1 1] 27) (.cells #[.int .i64 3, .int .i64 0, .int .i64 1, .int .i64 1, .int .i64 0, .int .i64 0, .int .i64 11, .int .i64 0, .int .i64 0, .int .i64 28, .int .i64 0, .int .i64 0, .int .i64 0, .int .i64 0, .int .i64 0] 42) (.cells #[.int .i64 1, .slice (some ⟨w.heap.size + 1 + 1 + 1 + 1, 0, none⟩) 5 5] 39)
  rw [hW6] at b1 b2 b3 b4 b5 b6
  have A6 := Lib.hid (p := Below w.heap.size w W6) (by
    rw [← hW6]
    exact ((((((Below.refl w.heap.size w).alloc (Nat.le_refl _) _).alloc (by simp) _).alloc (by simp; omega) _).alloc (by simp; omega) _).alloc (by simp; omega) _).alloc (by simp; omega) _)
  have Z6 := Lib.hid (p := W6.heap.size = w.heap.size + 6) (by rw [← hW6]; simp)
  have HW6 := Lib.hid hW6
  clear hW6
  have K46 : BkP W6 (w.heap.size + 1 + 1 + 1) _ _ := b4
  have PV6 := Lib.hid (exP_pv b1 b2 b3 b5 b6)
  have HG := Lib.hid hG
  clear b1 b2 b3 b4 b5 b6 hG
  have K46h := Lib.hid K46
  have KP := Lib.hid (p := Calls Tryz.prog 9 #[(exP w.heap.size).agg] W6 fun e w' => e = .returned (.tuple #[.string exT, .int .i64 0]) ∧ Below W6.heap.size W6 w') ((print_any PV6.out (HG.out.laterH A6.out).rw_ (HG.out.laterH A6.out).pw (HG.out.laterH A6.out).md (lnG_of (HG.out.laterH A6.out).ln)).mono (fun e w' ⟨h1, h2⟩ => ⟨by rw [h1, if_pos (exP_can _), if_pos (exP_can _), exP_txt], h2⟩))
  have KR := Lib.hid (p := ∀ W, Below w.heap.size w W → ∀ s, Calls Tryz.prog 7 #[.string s] W fun e w' => PaE s W e w') (fun W b s => parse_any s (fun W' b' => HG.out.laterH (b.trans (b'.mono b.size))))
  have k0 := K46.cell 0
  have k1 := K46.cell 1
  have k2 := K46.cell 2
  have k3 := K46.cell 3
  have k4 := K46.cell 4
  have k5 := K46.cell 5
  have k6 := K46.cell 6
  have k7 := K46.cell 7
  simp at k0 k1 k2 k3 k4 k5 k6 k7
  clear K46
  go_enter Tryz.func6, Tryz.ntmps6
  go_upto_region 3 with (fail)
  rw [HW6.out]
  go_upto_region 5 with (first
    | (go_at_call 9; refine KP.out.mono ?_; rintro e w1 ⟨rfl, h1⟩; have B1 := Lib.hid (A6.out.trans (h1.mono A6.out.size)); have Y1 := Lib.hid h1; clear h1)
    | (go_at_call 7; refine (KR.out w1 B1.out exT).mono ?_; rintro e w2 ⟨⟨a0, b0, c0, a1, b1, c1, a2, b2, c2, n0, n1, n2, n3, a3, b3, c3⟩, rfl, hpv, hkey, hb⟩; rw [exOut] at hkey ⊢; simp only [Pg.agg]; have P2 := Lib.hid hpv; have Q2 := Lib.hid hkey; have B2 := Lib.hid (B1.out.trans (hb.mono B1.out.size)); have Y2 := Lib.hid (Y1.out.trans (hb.mono Y1.out.size)); have A2 := Lib.hid (B2.out.trans ((allocBP w2 (.cells #[.slice a0 c0.length b0, .slice a1 c1.length b1, .slice a2 c2.length b2, .int .i64 n0, .int .i64 n1, .int .i64 n2, .int .i64 n3, .slice a3 c3.length b3] 27)).mono B2.out.size)); clear hpv hkey hb))
  clear k0 k1 k2 k3 k4 k5 k6 k7
  have KR2 := Lib.hid (p := ∀ W, Below w.heap.size w W → Calls Tryz.prog 7 #[.string (exT.extract 0 103 ++ ⟨#[101, 110, 100, 115, 10]⟩)] W fun e w' => PaE exT2 W e w') (fun W b => by rw [exE]; exact KR.out W b exT2)
  go_upto_region 6 with (go_at_call 7; refine (KR2.out _ A2.out).mono ?_; rintro e w3 ⟨⟨d0, e0, f0, d1, e1, f1, d2, e2, f2, m0, m1, m2, m3, d3, e3, f3⟩, rfl, _, _, hb⟩; rw [exOut2]; simp only [Pg.agg]; have B3 := Lib.hid (A2.out.trans (hb.mono A2.out.size)); have H3 := Lib.hid hb; clear hb)
  have AP := Lib.hid (allocBP w2 (.cells #[.slice a0 c0.length b0, .slice a1 c1.length b1, .slice a2 c2.length b2, .int .i64 n0, .int .i64 n1, .int .i64 n2, .int .i64 n3, .slice a3 c3.length b3] 27))
  have AQ := Lib.hid (allocBP w3 (.cells #[.slice d0 f0.length e0, .slice d1 f1.length e1, .slice d2 f2.length e2, .int .i64 m0, .int .i64 m1, .int .i64 m2, .int .i64 m3, .slice d3 f3.length e3] 27))
  have X2 := Lib.hid (p := Below w2.heap.size w2 (w3.alloc (.cells #[.slice d0 f0.length e0, .slice d1 f1.length e1, .slice d2 f2.length e2, .int .i64 m0, .int .i64 m1, .int .i64 m2, .int .i64 m3, .slice d3 f3.length e3] 27))) (AP.out.trans ((H3.out.trans (AQ.out.mono H3.out.size)).mono AP.out.size))
  have X6 := Lib.hid (p := Below W6.heap.size W6 (w3.alloc (.cells #[.slice d0 f0.length e0, .slice d1 f1.length e1, .slice d2 f2.length e2, .int .i64 m0, .int .i64 m1, .int .i64 m2, .int .i64 m3, .slice d3 f3.length e3] 27))) (Y2.out.trans (X2.out.mono Y2.out.size))
  have BW := Lib.hid (A6.out.trans (X6.out.mono A6.out.size))
  have bp := (H3.out.trans (AQ.out.mono H3.out.size)).block w2.heap.size (by simp) |>.trans (heapN w2 (.cells #[.slice a0 c0.length b0, .slice a1 c1.length b1, .slice a2 c2.length b2, .int .i64 n0, .int .i64 n1, .int .i64 n2, .int .i64 n3, .slice a3 c3.length b3] 27))
  obtain ⟨x0, x1, x2, x3, x4, x5, x6, x7⟩ := box_8Q bp
  obtain ⟨y0, y1, y2, y3, y4, y5, y6, y7⟩ := box_8Q ((X6.out.block (w.heap.size + 1 + 1 + 1) (by have := Z6.out; omega)).trans K46h.out)
  have KS := Lib.hid (same13_any (w := w3.alloc (.cells #[.slice d0 f0.length e0, .slice d1 f1.length e1, .slice d2 f2.length e2, .int .i64 m0, .int .i64 m1, .int .i64 m2, .int .i64 m3, .slice d3 f3.length e3] 27)) (PV6.out.later X6.out) (P2.out.later X2.out) (Q2.out.trans (exP_key _).symm))
  obtain ⟨w4, hw4⟩ : ∃ y, w3.alloc (.cells #[.slice d0 f0.length e0, .slice d1 f1.length e1, .slice d2 f2.length e2, .int .i64 m0, .int .i64 m1, .int .i64 m2, .int .i64 m3, .slice d3 f3.length e3] 27) = y := ⟨_, rfl⟩
  rw [hw4] at KS BW x0 x1 x2 x3 x4 x5 x6 x7 y0 y1 y2 y3 y4 y5 y6 y7
  rw [hw4]
  clear hw4 bp
  have es : exT.toList = [110, 97, 109, 101, 115, 32, 65, 10, 99, 117, 114, 115, 32, 69, 85, 82, 10, 112, 111, 111, 108, 32, 53, 10, 104, 111, 114, 105, 122, 111, 110, 32, 49, 10, 99, 101, 108, 108, 115, 32, 48, 10, 115, 108, 111, 116, 115, 32, 48, 10, 115, 116, 97, 99, 107, 32, 50, 10, 100, 97, 121, 32, 49, 10, 32, 32, 111, 98, 115, 32, 65, 32, 49, 10, 32, 32, 99, 111, 110, 115, 116, 32, 53, 10, 32, 32, 109, 117, 108, 10, 32, 32, 102, 108, 111, 119, 32, 69, 85, 82, 10, 32, 32, 101, 110, 100, 10] := by rw [Lib.toList_data]; rfl
  go_wp2_with (go_at_call 8; refine KS.out.mono ?_; rintro e w5 ⟨rfl, h5⟩; have B5 := Lib.hid h5; clear h5)
  go_ret
  exact ⟨by simp, BW.out.trans (B5.out.mono BW.out.size)⟩
end Go.Proofs.YtccjeipkljdhdaaGreatDoor

namespace Go.Proofs.YtccjeipkljdhdaaGreatDoor
open Go.RowKit
set_option linter.unusedVariables false
set_option linter.unusedSimpArgs false

/-- A byte that may stand in a word. -/
def gB (c : UInt8) : Prop := ¬ c.toNat = 32 ∧ ¬ c.toNat = 9 ∧ ¬ c.toNat = 13 ∧ ¬ c.toNat = 59 ∧ ¬ c.toNat = 10
instance (c : UInt8) : Decidable (gB c) := by unfold gB; exact inferInstance
/-- A word. -/
def gW (s : ByteArray) : Prop := s.data.toList ≠ [] ∧ ∀ c ∈ s.data.toList, gB c
instance (s : ByteArray) : Decidable (gW s) := by unfold gW; exact inferInstance
theorem jn_consT (x y : ByteArray) (ws : List ByteArray) : jnL (x :: y :: ws) = x.data.toList ++ [32] ++ jnL (y :: ws) := by
  unfold jnL; simp only [List.map_cons]; rw [Lib.join_cons, Lib.join_cons]; simp [Lib.joinTail]
theorem jn_oneT (x : ByteArray) : jnL [x] = x.data.toList := by
  unfold jnL; simp only [List.map_cons, List.map_nil]; rw [Lib.join_cons]; simp [Lib.joinTail]
/-- A line of words; an instruction's stands behind two blanks. -/
def lnB (d : Bool) (ws : List ByteArray) : ByteArray := ⟨((if d then [32, 32] else []) ++ jnL ws).toArray⟩
theorem lnB_list (d : Bool) (ws : List ByteArray) : (lnB d ws).data.toList = (if d then [32, 32] else []) ++ jnL ws := by simp [lnB]
theorem jn_bytes : ∀ (ws : List ByteArray), (∀ w ∈ ws, gW w) → ∀ c ∈ jnL ws, c ≠ 10
  | [], _, c, hc => by simp [jnL, Lib.join_nil] at hc
  | [x], h, c, hc => by
    rw [jn_oneT] at hc
    intro e
    subst e
    exact ((h x (by simp)).2 10 hc).2.2.2.2 rfl
  | x :: y :: ws, h, c, hc => by
    rw [jn_consT] at hc
    simp only [List.mem_append, List.mem_singleton] at hc
    rcases hc with (hc | hc) | hc
    · intro e
      subst e
      exact ((h x (by simp)).2 10 hc).2.2.2.2 rfl
    · subst hc; decide
    · exact jn_bytes (y :: ws) (fun w hw => h w (List.mem_cons_of_mem _ hw)) c hc
theorem noLf_lnB (d : Bool) {ws : List ByteArray} (h : ∀ w ∈ ws, gW w) : NoLf (lnB d ws) := by
  apply noLf_of
  intro c hc
  rw [lnB_list] at hc
  rcases List.mem_append.1 hc with hc | hc
  · cases d with
    | true =>
      rw [if_pos rfl] at hc
      have : c = 32 := by simpa using hc
      subst this; decide
    | false => cases hc
  · exact jn_bytes ws h c hc
/-- A program's lines: whether an instruction's, and its words. -/
def hwL (k : Nat) (ws : List ByteArray) : List (Bool × List ByteArray) := if ws = [] then [] else [(false, lnA k :: ws)]
def dwL (p : Pg) (s : Sg) : List (Bool × List ByteArray) := (false, [lnA 7, txA s.day]) :: s.code.map (fun i => (true, wdsA p.names p.curs p.pool i))
def hdwL (p : Pg) : List (Bool × List ByteArray) := hwL 0 p.names ++ (hwL 1 p.curs ++ (hwL 2 (p.pool.map txA) ++ [(false, [lnA 3, txA p.hor]), (false, [lnA 4, txA p.cells]), (false, [lnA 5, txA p.slots]), (false, [lnA 6, txA p.stack])]))
def lwP (p : Pg) : List (Bool × List ByteArray) := hdwL p ++ p.days.flatMap (dwL p)
def lnX (x : Bool × List ByteArray) : ByteArray := lnB x.1 x.2
def lnP (p : Pg) : List ByteArray := (lwP p).map lnX
theorem fx_hwL (k : Nat) (ws : List ByteArray) : (hwL k ws).flatMap (fun x => (lnX x).data.toList ++ [10]) = lnL k ws := by
  unfold hwL lnL
  by_cases h : ws = []
  · rw [if_pos h, if_pos h]; rfl
  · rw [if_neg h, if_neg h]
    simp only [List.flatMap_cons, List.flatMap_nil, List.append_nil]
    rw [show lnX (false, lnA k :: ws) = lnB false (lnA k :: ws) from rfl, lnB_list]
    cases ws with
    | nil => exact absurd rfl h
    | cons y r => rw [jn_consT]; simp
theorem fx_nm (k : Nat) (v : Int) : (lnX (false, [lnA k, txA v])).data.toList ++ [10] = nmLn k v := by
  rw [show lnX (false, [lnA k, txA v]) = lnB false [lnA k, txA v] from rfl, lnB_list]
  unfold nmLn
  simp
theorem fx_in (p : Pg) (i : In) : (lnX (true, wdsA p.names p.curs p.pool i)).data.toList ++ [10] = inLn p i := by
  rw [show lnX (true, wdsA p.names p.curs p.pool i) = lnB true (wdsA p.names p.curs p.pool i) from rfl, lnB_list]
  unfold inLn
  simp
theorem fx_dw (p : Pg) (s : Sg) : (dwL p s).flatMap (fun x => (lnX x).data.toList ++ [10]) = dyLn p s := by
  unfold dwL dyLn
  rw [List.flatMap_cons, fx_nm, List.flatMap_map]
  exact congrArg (fun f => nmLn 7 s.day ++ s.code.flatMap f) (funext (fun i => fx_in p i))
theorem fx_all (p : Pg) : (lwP p).flatMap (fun x => (lnX x).data.toList ++ [10]) = txtP p := by
  unfold lwP hdwL txtP hdT
  simp only [List.flatMap_append, List.flatMap_cons, List.flatMap_nil, List.append_nil]
  rw [fx_hwL, fx_hwL, fx_hwL, fx_nm, fx_nm, fx_nm, fx_nm, List.flatMap_assoc, show (fun s => (dwL p s).flatMap (fun x => (lnX x).data.toList ++ [10])) = dyLn p from funext (fun s => fx_dw p s)]
  simp only [List.append_assoc]
theorem txt_lfJ (p : Pg) : (⟨(txtP p).toArray⟩ : ByteArray) = lfJ (lnP p) ⟨#[]⟩ := by
  apply bytes_list
  rw [lfJ_list]
  unfold lnP
  rw [List.flatMap_map, fx_all]
  simp
theorem gW_tx (v : Int) : gW (txA v) := by
  have e : (txA v).data.toList = sg v ++ Lib.decDigits (absI v).toNat := by
    have h : absI v = ((absI v).toNat : Int) := by
      by_cases q : v < 0
      · rw [absI_neg q]; omega
      · rw [absI_pos q]; omega
    unfold txA Lib.itoa sg
    by_cases q : v < 0
    · rw [absI_neg q] at h ⊢
      rw [if_pos q, if_pos q, show v.natAbs = (-v).toNat by omega]; simp
    · rw [absI_pos q] at h ⊢
      rw [if_neg q, if_neg q]; simp
  unfold gW
  rw [e]
  have hd : ∀ c ∈ Lib.decDigits (absI v).toNat, gB c := fun c hc => by
    have := dec_d _ c hc
    unfold isD at this
    unfold gB
    omega
  refine ⟨fun q => ?_, fun c hc => ?_⟩
  · have := dec_neB (absI v).toNat
    rw [List.append_eq_nil_iff] at q
    exact this q.2
  · rcases List.mem_append.1 hc with hc | hc
    · unfold sg at hc
      split at hc
      · have : c = 45 := by simpa using hc
        subst this; decide
      · cases hc
    · exact hd c hc
theorem cap_gB {c : UInt8} (h : Lx.nmN Lx.cpN c.toNat = true) : gB c := by
  unfold Lx.nmN Lx.cpN Lx.dgN at h
  simp only [Bool.or_eq_true, Bool.and_eq_true, decide_eq_true_eq] at h
  unfold gB
  omega
theorem tw_allT {p : UInt8 → Bool} : ∀ (l : List UInt8), ¬ (l.takeWhile p).length < l.length → ∀ c ∈ l, p c = true
  | [], _, c, hc => by cases hc
  | d :: l, h, c, hc => by
    rw [List.takeWhile_cons] at h
    by_cases q : p d = true
    · rw [if_pos q, List.length_cons, List.length_cons] at h
      rcases List.mem_cons.1 hc with rfl | hc
      · exact q
      · exact tw_allT l (by omega) c hc
    · rw [if_neg q, List.length_nil, List.length_cons] at h
      omega
theorem gW_cap {s : ByteArray} (h : capP s = true) : gW s := by
  unfold capP Lx.nameB at h
  simp only [Bool.and_eq_true, decide_eq_true_eq, Bool.not_eq_true', List.isEmpty_eq_false_iff] at h
  obtain ⟨⟨h1, h2⟩, h3⟩ := h
  have e : lst s = s.data.toList := by first | rfl | simp [lst]
  rw [e] at h1 h3
  unfold Lx.nameE at h3
  split at h3
  · cases h3
  · rename_i hn
    exact ⟨h1, fun c hc => cap_gB (tw_allT _ hn c hc)⟩
theorem gW_cur {s : ByteArray} (h : curP s = true) : gW s := by
  unfold curP at h
  have e : lst s = s.data.toList := by first | rfl | simp [lst]
  rw [e] at h
  unfold gW
  match hl : s.data.toList, h with
  | [a, b, c], h =>
    simp only [Lx.curB, Bool.and_eq_true] at h
    refine ⟨by simp, fun x hx => ?_⟩
    have g : ∀ y : UInt8, Lx.cpN y.toNat = true → gB y := fun y hy => cap_gB (by unfold Lx.nmN; rw [hy]; simp)
    simp only [List.mem_cons, List.not_mem_nil, or_false] at hx
    rcases hx with rfl | rfl | rfl
    · exact g _ h.1.1
    · exact g _ h.1.2
    · exact g _ h.2
theorem gW_ln : ∀ k, k < 8 → gW (lnA k) := by
  intro k hk
  match k, hk with
  | 0, _ => decide
  | 1, _ => decide
  | 2, _ => decide
  | 3, _ => decide
  | 4, _ => decide
  | 5, _ => decide
  | 6, _ => decide
  | 7, _ => decide
theorem gW_md : ∀ k, k < 5 → gW (mdA k) := by
  intro k hk
  match k, hk with
  | 0, _ => decide
  | 1, _ => decide
  | 2, _ => decide
  | 3, _ => decide
  | 4, _ => decide
theorem gW_nm : ∀ k, k < 29 → gW (nmA k) := all29 (by decide)
end Go.Proofs.YtccjeipkljdhdaaGreatDoor

namespace Go.Proofs.YtccjeipkljdhdaaGreatDoor
open Go.RowKit
set_option linter.unusedVariables false
set_option linter.unusedSimpArgs false

/-- What a program keeps to, for its text to be read. -/
structure RdP (p : Pg) : Prop where
  hv : ∀ v ∈ p.pool, i64 v
  rn : riseS p.names
  rc : riseS p.curs
  rp : riseN p.pool
  gn : ∀ s ∈ p.names, gW s
  gc : ∀ s ∈ p.curs, gW s
theorem wdsA_cons (ns cs : List ByteArray) (pl : List Int) (i : In) : wdsA ns cs pl i = nmA i.o.toNat :: [fstW ns cs pl i, txA i.b].take (onA i.o.toNat) := by
  unfold wdsA
  rw [Nat.add_comm, List.take_succ_cons]
theorem gW_wds {p : Pg} (h : RdP p) {i : In} (hi : i.okP) (hb : inB p i) : ∀ w ∈ wdsA p.names p.curs p.pool i, gW w := by
  obtain ⟨h1, h2, h3, h4, h5, h6⟩ := hi
  obtain ⟨b1, b3, b28, _, _⟩ := hb
  intro w hw
  have hw := List.mem_of_mem_take hw
  simp at hw
  rcases hw with rfl | rfl | rfl
  · exact gW_nm _ (by omega)
  · unfold fstW
    by_cases c1 : i.o = 1
    · rw [if_pos c1]; exact gW_tx _
    rw [if_neg c1]
    by_cases c3 : i.o = 3
    · have hk : i.a.toNat < p.names.length := by have := b3 c3; omega
      rw [if_pos c3, show p.names.getD i.a.toNat ⟨#[]⟩ = p.names[i.a.toNat] by simp [List.getD, hk]]
      exact h.gn _ (List.getElem_mem hk)
    rw [if_neg c3]
    by_cases c28 : i.o = 28
    · have hk : i.a.toNat < p.curs.length := by have := b28 c28; omega
      rw [if_pos c28, show p.curs.getD i.a.toNat ⟨#[]⟩ = p.curs[i.a.toNat] by simp [List.getD, hk]]
      exact h.gc _ (List.getElem_mem hk)
    rw [if_neg c28]
    by_cases c18 : i.o = 18
    · rw [if_pos c18]
      exact gW_md _ (by
        rw [c18] at h4
        have : baA (18 : Int).toNat = 4 := rfl
        omega)
    rw [if_neg c18]
    exact gW_tx _
  · exact gW_tx _
end Go.Proofs.YtccjeipkljdhdaaGreatDoor

namespace Go.Proofs.YtccjeipkljdhdaaGreatDoor
open Go.RowKit
set_option linter.unusedVariables false
set_option linter.unusedSimpArgs false

theorem RdP.of {w : World} {p : Pg} (h : PV w p) (hc : canP p) : RdP p := by
  obtain ⟨c1, ⟨l1, l2, l3, l4, l5, l6, l7, l8⟩, _, _⟩ := hc
  exact ⟨h.pool.2.2.2.1, l3, l6, l8, fun s hs => gW_cap (List.all_eq_true.1 l2 s hs), fun s hs => gW_cur (List.all_eq_true.1 l5 s hs)⟩
theorem days_can {p : Pg} (hc : canP p) : ∀ s ∈ p.days, i64 s.day ∧ 0 ≤ s.day ∧ ∀ i ∈ s.code, i.okP ∧ inB p i := by
  obtain ⟨c1, _, ⟨d1, d2⟩, ⟨u1, u2⟩⟩ := hc
  have hor := numP_hor c1
  intro s hs
  obtain ⟨k, hk, rfl⟩ := List.getElem_of_mem hs
  have a := preD_le (k := k) (fun i hi => d1 i (by omega)) hor.1
  have b := d1 k hk
  unfold dayI at b
  have e : p.days.getD k default = p.days[k] := by simp [List.getD, hk]
  rw [e] at b
  have d0 : 0 ≤ p.days[k].day := by omega
  refine ⟨?_, d0, fun i hi => ?_⟩
  · rw [show p.days[k].day = (p.days[k].day.toNat : Int) by omega]; exact i64_nat (by omega)
  · have := u1 k hk
    rw [e] at this
    obtain ⟨m, hm, rfl⟩ := List.getElem_of_mem hi
    have := this.2 m hm
    unfold insI at this
    rw [show (p.days[k]).code.getD m default = (p.days[k]).code[m] by simp [List.getD, hm]] at this
    exact ⟨this.2.1, this.2.2⟩
theorem gW_hw {k : Nat} (hk : k < 8) {ws : List ByteArray} (h : ∀ w ∈ ws, gW w) : ∀ x ∈ hwL k ws, ∀ w ∈ x.2, gW w := by
  intro x hx w hw
  unfold hwL at hx
  split at hx
  · cases hx
  · rw [List.mem_singleton.1 hx] at hw
    rcases List.mem_cons.1 hw with rfl | hw
    · exact gW_ln k hk
    · exact h w hw
theorem gW_num {k : Nat} (hk : k < 8) (v : Int) : ∀ w ∈ [lnA k, txA v], gW w := by
  intro w hw
  rcases List.mem_cons.1 hw with rfl | hw
  · exact gW_ln k hk
  · rw [List.mem_singleton.1 hw]; exact gW_tx v
theorem gW_pool (l : List Int) : ∀ w ∈ l.map txA, gW w := by
  intro w hw
  obtain ⟨v, _, rfl⟩ := List.mem_map.1 hw
  exact gW_tx v
theorem gW_lw {p : Pg} (h : RdP p) (hd : ∀ s ∈ p.days, i64 s.day ∧ 0 ≤ s.day ∧ ∀ i ∈ s.code, i.okP ∧ inB p i) : ∀ x ∈ lwP p, ∀ w ∈ x.2, gW w := by
  intro x hx
  unfold lwP hdwL at hx
  simp only [List.mem_append, List.mem_cons, List.not_mem_nil, or_false] at hx
  rcases hx with (hx | hx | hx | rfl | rfl | rfl | rfl) | hx
  · exact gW_hw (by omega) h.gn x hx
  · exact gW_hw (by omega) h.gc x hx
  · exact gW_hw (by omega) (gW_pool _) x hx
  · exact gW_num (by omega) _
  · exact gW_num (by omega) _
  · exact gW_num (by omega) _
  · exact gW_num (by omega) _
  · obtain ⟨s, hs, hx⟩ := List.mem_flatMap.1 hx
    unfold dwL at hx
    rcases List.mem_cons.1 hx with rfl | hx
    · exact gW_num (by omega) _
    · obtain ⟨i, hi, rfl⟩ := List.mem_map.1 hx
      have := (hd s hs).2.2 i hi
      exact gW_wds h this.1 this.2
/-- The text's lines. -/
theorem lns_txt {p : Pg} (h : RdP p) (hd : ∀ s ∈ p.days, i64 s.day ∧ 0 ≤ s.day ∧ ∀ i ∈ s.code, i.okP ∧ inB p i) : lnsR ⟨(txtP p).toArray⟩ = lnP p := by
  rw [txt_lfJ, lnsR_lfJ _ _ ?_, lnsR_nil (by decide), List.append_nil]
  intro a ha
  obtain ⟨x, hx, rfl⟩ := List.mem_map.1 ha
  exact noLf_lnB x.1 (gW_lw h hd x hx)
theorem inLn_le61 {p : Pg} (hN : ∀ s ∈ p.names, s.size ≤ 31) (hU : ∀ s ∈ p.curs, s.size ≤ 31) (hP : ∀ v ∈ p.pool, i64 v) (i : In) (hi : i.okP) : (inLn p i).length ≤ 61 := by
  obtain ⟨h1, h2, h3, h4, h5, h6⟩ := hi
  have tf := tab_facts i.o.toNat (by omega)
  have gs : ∀ (l : List ByteArray) (k : Nat), (∀ s ∈ l, s.size ≤ 31) → (l.getD k ⟨#[]⟩).size ≤ 31 := fun l k hl => by
    by_cases hk : k < l.length
    · exact hl _ (by simp [List.getD, hk])
    · rw [show l.getD k ⟨#[]⟩ = ⟨#[]⟩ by simp [List.getD, List.getElem?_eq_none (show l.length ≤ k by omega)]]; decide
  have n1 : i64 i.a := by rw [show i.a = (i.a.toNat : Int) by omega]; exact i64_nat (by omega)
  have n2 : i64 i.b := by rw [show i.b = (i.b.toNat : Int) by omega]; exact i64_nat (by omega)
  have f : (fstW p.names p.curs p.pool i).size ≤ 31 := by
    unfold fstW
    split
    · have : i64 (p.pool.getD i.a.toNat 0) := by
        by_cases hk : i.a.toNat < p.pool.length
        · exact hP _ (by simp [List.getD, hk])
        · rw [show p.pool.getD i.a.toNat 0 = 0 by simp [List.getD, List.getElem?_eq_none (show p.pool.length ≤ i.a.toNat by omega)]]
          exact i64_nat (k := 0) (by omega)
      have := txA_len this; omega
    split
    · exact gs _ _ hN
    split
    · exact gs _ _ hU
    split
    · rename_i e
      rw [e] at h4
      have : baA (18 : Int).toNat = 4 := rfl
      have := md_some i.a.toNat (by omega)
      omega
    · have := txA_len n1; omega
  have t : (txA i.b).size ≤ 4 := by
    have d := dec_len 3 i.b.toNat (by omega)
    unfold txA Lib.itoa
    rw [if_neg (by omega)]
    show (Lib.decDigits i.b.toNat).toArray.size ≤ 4
    rw [List.size_toArray]
    exact d
  have nm := nm_size i.o.toNat (by omega)
  have sz : ∀ s : ByteArray, s.data.toList.length = s.size := fun s => Array.length_toList
  unfold inLn
  have on := tf.1
  rw [wdsA_cons]
  simp only [List.length_append, List.length_cons, List.length_nil]
  have j : (jnL (nmA i.o.toNat :: [fstW p.names p.curs p.pool i, txA i.b].take (onA i.o.toNat))).length ≤ 58 := by
    match onA i.o.toNat, on with
    | 0, _ => rw [List.take_zero, jn_oneT, sz]; omega
    | 1, _ => rw [show [fstW p.names p.curs p.pool i, txA i.b].take 1 = [fstW p.names p.curs p.pool i] from rfl, jn_consT, jn_oneT]; simp only [List.length_append, sz, List.length_cons, List.length_nil]; omega
    | 2, _ => rw [show [fstW p.names p.curs p.pool i, txA i.b].take 2 = [fstW p.names p.curs p.pool i, txA i.b] from rfl, jn_consT, jn_consT, jn_oneT]; simp only [List.length_append, sz, List.length_cons, List.length_nil]; omega
  omega
theorem days_le61 {p : Pg} (hS : ∀ s ∈ p.days, i64 s.day) (hI : ∀ s ∈ p.days, ∀ i ∈ s.code, (inLn p i).length ≤ 61) : ∀ k, k ≤ p.days.length → ((p.days.take k).flatMap (dyLn p)).length ≤ k * 50 + totN p.days k * 61
  | 0, _ => by simp
  | k + 1, h => by
    have ih := days_le61 hS hI k (by omega)
    have hk : k < p.days.length := by omega
    rw [flat_next _ _ _ hk, List.length_append, totN_next hk]
    have hm := sg_mem hk
    have d : (dyLn p (p.days.getD k default)).length ≤ 50 + (p.days.getD k default).code.length * 61 := by
      unfold dyLn
      rw [List.length_append]
      have := nmLn_le 7 (by omega) _ (hS _ hm)
      have := flat_le (inLn p) 61 (p.days.getD k default).code (hI _ hm)
      omega
    rw [Nat.add_mul, Nat.add_mul]
    omega
theorem txt_small {w : World} {p : Pg} (h : PV w p) (hc : canP p) : (txtP p).length ≤ 16777216 := by
  have hd := days_can hc
  obtain ⟨c1, ⟨l1, l2, l3, l4, l5, l6, l7, l8⟩, ⟨d1, d2⟩, ⟨u1, u2⟩⟩ := hc
  have hN : ∀ s ∈ p.names, s.size ≤ 31 := fun s hs => cap_size (List.all_eq_true.1 l2 s hs)
  have hU : ∀ s ∈ p.curs, s.size ≤ 31 := fun s hs => cur_size (List.all_eq_true.1 l5 s hs)
  have hor := numP_hor c1
  have dl := preD_le (k := p.days.length) d1 hor.1
  have t := days_le61 (p := p) (fun s hs => (h.days.2.2.2.1 s hs).1) (fun s hs i hi => inLn_le61 hN hU h.pool.2.2.2.1 i ((hd s hs).2.2 i hi).1) p.days.length (Nat.le_refl _)
  rw [List.take_length] at t
  have a0 := lnL_le 0 31 (by omega) p.names hN
  have a1 := lnL_le 1 31 (by omega) p.curs hU
  have a2 := lnL_le 2 21 (by omega) (p.pool.map txA) (by
    intro s hs
    obtain ⟨v, hv, rfl⟩ := List.mem_map.1 hs
    exact txA_len (h.pool.2.2.2.1 v hv))
  have a3 := nmLn_le 3 (by omega) _ h.hor
  have a4 := nmLn_le 4 (by omega) _ h.cells
  have a5 := nmLn_le 5 (by omega) _ h.slots
  have a6 := nmLn_le 6 (by omega) _ h.stack
  rw [List.length_map] at a2
  rw [len_txt]
  have dl' : p.days.length ≤ 3661 := by omega
  omega
end Go.Proofs.YtccjeipkljdhdaaGreatDoor

namespace Go.Proofs.YtccjeipkljdhdaaGreatDoor
open Go.RowKit
set_option linter.unusedVariables false
set_option linter.unusedSimpArgs false

theorem flat_nextT {α β : Type} [Inhabited α] (f : α → List β) (l : List α) (k : Nat) (hk : k < l.length) : (l.take (k + 1)).flatMap f = (l.take k).flatMap f ++ f (l.getD k default) := by
  rw [List.take_succ_eq_append_getElem hk, List.flatMap_append]
  simp [List.getD, hk]
theorem getD_atT {α : Type} (l : List α) (d : α) {k : Nat} (h : k < l.length) : l.getD k d = l[k] := by simp [List.getD, h]
/-- The lines ahead of the i-th day. -/
def cntD (p : Pg) (i : Nat) : Nat := (hdwL p).length + ((p.days.take i).flatMap (dwL p)).length
theorem dw_len (p : Pg) (s : Sg) : (dwL p s).length = 1 + s.code.length := by
  unfold dwL
  rw [List.length_cons, List.length_map]; omega
theorem cntD_next (p : Pg) {i : Nat} (h : i < p.days.length) : cntD p (i + 1) = cntD p i + 1 + (p.days.getD i default).code.length := by
  unfold cntD
  rw [flat_nextT _ _ _ h, List.length_append, dw_len]
  omega
theorem cntD_all (p : Pg) : cntD p p.days.length = (lnP p).length := by
  unfold cntD lnP lwP
  rw [List.take_length, List.length_map, List.length_append]
theorem ln_at (p : Pg) {i : Nat} (h : i < p.days.length) {m : Nat} {x : Bool × List ByteArray} (hm : (dwL p (p.days.getD i default))[m]? = some x) : (lnP p)[cntD p i + m]? = some (lnX x) := by
  have e : lwP p = (hdwL p ++ (p.days.take i).flatMap (dwL p)) ++ (dwL p (p.days.getD i default) ++ (p.days.drop (i + 1)).flatMap (dwL p)) := by
    unfold lwP
    conv => lhs; rw [← List.take_append_drop (i + 1) p.days]
    rw [List.flatMap_append, flat_nextT _ _ _ h]
    simp only [List.append_assoc]
  have l : (hdwL p ++ (p.days.take i).flatMap (dwL p)).length = cntD p i := by rw [List.length_append]; rfl
  have hm2 : m < (dwL p (p.days.getD i default)).length := (List.getElem?_eq_some_iff.1 hm).1
  unfold lnP
  rw [List.getElem?_map, e, List.getElem?_append_right (by omega), l, show cntD p i + m - cntD p i = m by omega, List.getElem?_append_left hm2, hm]
  rfl
theorem ln_day (p : Pg) {i : Nat} (h : i < p.days.length) : (lnP p)[cntD p i]? = some (lnB false [lnA 7, txA (p.days.getD i default).day]) := ln_at p h (m := 0) rfl
theorem ln_ins (p : Pg) {i k : Nat} (h : i < p.days.length) (hk : k < (p.days.getD i default).code.length) : (lnP p)[cntD p i + 1 + k]? = some (lnB true (wdsA p.names p.curs p.pool ((p.days.getD i default).code.getD k default))) := by
  rw [show cntD p i + 1 + k = cntD p i + (k + 1) by omega]
  refine ln_at p h (m := k + 1) (x := (true, wdsA p.names p.curs p.pool ((p.days.getD i default).code.getD k default))) ?_
  unfold dwL
  rw [List.getElem?_cons_succ, List.getElem?_map, List.getElem?_eq_getElem hk, getD_atT _ _ hk]
  rfl
theorem sumB (ws : List ByteArray) : lnB true ws = ⟨#[32, 32]⟩ ++ jnA ws := by
  apply bytes_list
  rw [lnB_list, ByteArray.data_append]
  unfold jnA jnL
  simp
theorem day_size (v : Int) : 5 ≤ (lnB false [lnA 7, txA v]).size := by
  have h : (lnB false [lnA 7, txA v]).data.toList.length = (lnB false [lnA 7, txA v]).size := Array.length_toList
  have n := (gW_tx v).1
  have n1 : 0 < (txA v).data.toList.length := List.length_pos_iff.2 n
  rw [lnB_list, jn_consT, jn_oneT] at h
  have e : (lnA 7).data.toList.length = 3 := rfl
  simp only [List.length_append, List.length_cons, List.length_nil, e] at h
  have : (if false = true then [(32 : UInt8), 32] else []).length = 0 := rfl
  omega
theorem day_cut (v : Int) : (lnB false [lnA 7, txA v]).extract 0 4 = ⟨#[100, 97, 121, 32]⟩ := by
  apply bytes_list
  rw [ByteArray.data_extract, Array.toList_extract, List.extract_eq_take_drop, lnB_list, jn_consT, jn_oneT]
  rfl
theorem can_prT {p : Pg} (hc : canP p) {i k : Nat} (h : i < p.days.length) (hk : k < (p.days.getD i default).code.length) :
    prT p.names p.curs p.pool ((p.days.getD i default).code.getD k default) = jnA (wdsA p.names p.curs p.pool ((p.days.getD i default).code.getD k default)) ∧ prE p.names p.curs p.pool ((p.days.getD i default).code.getD k default) = 0 := by
  have hs : p.days.getD i default ∈ p.days := sg_mem h
  have hi : (p.days.getD i default).code.getD k default ∈ (p.days.getD i default).code := by
    rw [getD_atT _ _ hk]
    exact List.getElem_mem hk
  obtain ⟨ok, b1, b3, b28, _, _⟩ := (days_can hc _ hs).2.2 _ hi
  generalize (p.days.getD i default).code.getD k default = j at *
  have fb : fstB p.names p.curs p.pool j = true := by
    unfold fstB
    split
    · rename_i e; exact decide_eq_true (b1 e)
    split
    · rename_i e; exact decide_eq_true (b3 e)
    split
    · rename_i e; exact decide_eq_true (b28 e)
    · rfl
  unfold prT prE
  rw [if_pos ok, if_pos fb, if_pos ok, if_pos fb]
  exact ⟨rfl, rfl⟩
end Go.Proofs.YtccjeipkljdhdaaGreatDoor
