import Derived.Test.YthhacbelbkkcmaaXAA
import Derived.Deep.RegionHeld3
import Derived.Test.YthhacbelbkkcmaaRows
import Derived.WalkKit
import Derived.Laws.BitsAllLaws
import Derived.Sort.Walk0
namespace Go.Proofs.Ythhacbelbkkcmaa
open Go.RowKit
set_option linter.unusedVariables false
set_option linter.unusedSimpArgs false

/-- A slice's value and the flows that it has. -/
def SV (w : World) (v : Value) (fs : List Fl) : Prop := ∃ x c, v = .slice x fs.length c ∧ FL w x fs.length fs ∧ (x = none → c = 0) ∧ fs.length ≤ c
theorem SV.later {w w' : World} {v : Value} {fs : List Fl} (h : SV w v fs) (b : Below w.heap.size w w') : SV w' v fs := by
  obtain ⟨x, c, h1, h2, h3, h4⟩ := h
  exact ⟨x, c, h1, h2.later b, h3, h4⟩
/-- A list of lists of flows in memory. -/
def LL (w : World) (a : Option Addr) (n : Nat) (Ls : List (List Fl)) : Prop :=
  Ls.length = n ∧ n ≤ 1048576 ∧ (n = 0 ∨ ∃ b o, a = some ⟨b, o, none⟩ ∧ b < w.heap.size ∧ ∀ i, i < n → ∃ v, w.cell? ⟨b, o + i, none⟩ = some v ∧ SV w v (Ls.getD i []))
theorem LL.later {w w' : World} {a : Option Addr} {n : Nat} {Ls : List (List Fl)} (h : LL w a n Ls) (b : Below w.heap.size w w') : LL w' a n Ls := by
  obtain ⟨h1, h2, h3⟩ := h
  refine ⟨h1, h2, ?_⟩
  rcases h3 with h3 | ⟨x, o, rfl, hx, hc⟩
  · exact .inl h3
  · refine .inr ⟨x, o, rfl, Nat.lt_of_lt_of_le hx b.size, fun i hi => ?_⟩
    obtain ⟨v, q, f⟩ := hc i hi
    exact ⟨v, (b.cell (p := ⟨x, o + i, none⟩) hx).trans q, f.later b⟩
theorem LL.row {w : World} {a : Option Addr} {n : Nat} {Ls : List (List Fl)} (h : LL w a n Ls) (h0 : 0 < n) : ∃ b o, a = some ⟨b, o, none⟩ ∧ b < w.heap.size ∧ ∀ i, i < n → ∃ v, w.cell? ⟨b, o + i, none⟩ = some v ∧ SV w v (Ls.getD i []) := by
  rcases h.2.2 with q | q
  · omega
  · exact q
theorem byDay_q (d a d' a' : Int) (c c' : ByteArray) (w : World) :
    Calls Try.prog 35 #[.agg #[.int .i64 d, .string c, .int .i64 a], .agg #[.int .i64 d', .string c', .int .i64 a']] w fun e w' => e = .returned (.int .i64 (cmpI d d')) ∧ Below w.heap.size w w' := by
  refine (byDay_any d a d' a' c c' w).mono ?_
  rintro e w' ⟨rfl, rfl⟩
  exact ⟨rfl, ((Below.refl _ _).alloc (Nat.le_refl _) _).alloc (by simp) _⟩
def srtB (fs : List Fl) : Bool := decide (∀ i, i < fs.length → i + 1 < fs.length → (fs.getD i default).d ≤ (fs.getD (i + 1) default).d)
theorem fl_rowM {w : World} {a : Option Addr} {n : Nat} {fs : List Fl} (h : FL w a n fs) (h0 : 0 < n) : ∃ b o, a = some ⟨b, o, none⟩ ∧ b < w.heap.size ∧ ∀ i, i < n → FC w b (o + i * 3) (fs.getD i default) := by
  rcases h.2.2 with h | h
  · omega
  · exact h
set_option maxHeartbeats 2000000 in
theorem sorted_any (a : Option Addr) (n cap : Nat) (fs : List Fl) (w : World) (h : FL w a n fs) :
    Calls Try.prog 34 #[.slice a n cap, .func (.func 35) #[] #[]] w fun e w' => e = .returned (.bool (srtB fs)) ∧ Below w.heap.size w w' := by
  have hn := h.2.1
  have H := Lib.hid h
  have SB := Lib.hid (p := (∀ i, 0 < i → i < n → (fs.getD (i - 1) default).d ≤ (fs.getD i default).d) → srtB fs = true) (fun q => decide_eq_true (fun i h1 h2 => by
    have := q (i + 1) (by omega) (by rw [← h.1]; exact h2)
    rw [show i + 1 - 1 = i by omega] at this
    omega))
  have SN := Lib.hid (p := ∀ i, 0 < i → i < n → (fs.getD i default).d < (fs.getD (i - 1) default).d → srtB fs = false) (fun i h0 h1 q => decide_eq_false (fun r => by
    have := r (i - 1) (by rw [h.1]; omega) (by rw [h.1]; omega)
    rw [show i - 1 + 1 = i by omega] at this
    omega))
  generalize srtB fs = R at *
  clear h
  go_enter Try.func34, Try.ntmps34
  go_wp2
  go_loopw [5] (fun t wr => ∃ i : Int, t = .int .i64 i ∧ -1 ≤ i ∧ i < (n : Int) ∧ (∀ j : Nat, i < (j : Int) → 0 < j → j < n → (fs.getD (j - 1) default).d ≤ (fs.getD j default).d) ∧ Below w.heap.size w wr) (fun t _ => (intOf t + 1).toNat)
  case atStart => exact ⟨(n : Int) - 1, by simp, by omega, by omega, fun j h1 h2 h3 => by omega, Below.refl _ _⟩
  case round =>
    obtain ⟨i, rfl, h0, h1, hj, hB⟩ := hrel
    rename World => wr
    have BB := Lib.hid hB
    have HJ := Lib.hid hj
    by_cases hp : 0 < i
    · obtain ⟨b, o, rfl, hb, hc⟩ := fl_rowM H.out (by omega)
      obtain ⟨k, rfl⟩ : ∃ k : Nat, i = (k : Int) + 1 := ⟨(i - 1).toNat, by omega⟩
      have CY := Lib.hid (p := ∀ W, Below w.heap.size w W → FC W b (o + (k + 1) * 3) (fs.getD (k + 1) default)) (fun W bb => (hc (k + 1) (by omega)).later bb hb)
      have CX := Lib.hid (p := ∀ W, Below w.heap.size w W → FC W b (o + k * 3) (fs.getD k default)) (fun W bb => (hc k (by omega)).later bb hb)
      obtain ⟨x0, x1, x2⟩ := CX.out wr hB
      obtain ⟨y0, y1, y2⟩ := CY.out wr hB
      have NF := Lib.hid (SN.out (k + 1) (by omega) (by omega))
      have NT := Lib.hid (p := (fs.getD k default).d ≤ (fs.getD (k + 1) default).d → ∀ j : Nat, (k : Int) < (j : Int) → 0 < j → j < n → (fs.getD (j - 1) default).d ≤ (fs.getD j default).d) (fun q j h1 h2 h3 => by
        by_cases e : j = k + 1
        · subst e; exact q
        · exact HJ.out j (by omega) h2 h3)
      rw [show k + 1 - 1 = k by omega] at NF
      generalize fs.getD k default = fx at *
      generalize fs.getD (k + 1) default = fy at *
      obtain ⟨xd, xc, xa⟩ := fx
      obtain ⟨yd, yc, ya⟩ := fy
      simp only at x0 x1 x2 y0 y1 y2 NF NT
      have kt : ((k : Int) + 1).toNat = k + 1 := by omega
      have kn : (k : Int) + 1 < (n : Int) := h1
      have kn2 : (k : Int) < (n : Int) := by omega
      have kz : (0 : Int) ≤ (k : Int) + 1 := by omega
      have kw : IntKind.i64.wrap ((k : Int) + 1 - 1) = (k : Int) := by simp [IntKind.wrap, IntKind.bits, IntKind.signed]; omega
      have kw2 : IntKind.i64.wrap (k : Int) = (k : Int) := by simp [IntKind.wrap, IntKind.bits, IntKind.signed]; omega
      have kc2 : (k : Int) + 1 ≤ (n : Int) := by omega
      have KD := Lib.hid (fun W => byDay_q yd ya xd xa yc xc W)
      clear hc hB hj
      have hbr : b < wr.heap.size := Nat.lt_of_lt_of_le hb BB.out.size
      by_cases hd : yd < xd
      · have E := Lib.hid (NF.out hd)
        rw [show cmpI yd xd = -1 by unfold cmpI; rw [if_pos hd]] at KD
        clear hd
        go_wp2_with fail
        go_region_held3 (fun w' => w'.cell? ⟨b, o + k * 3, none⟩ = some (.int .i64 xd) ∧ w'.cell? ⟨b, o + k * 3 + 1, none⟩ = some (.string xc) ∧ w'.cell? ⟨b, o + k * 3 + 2, none⟩ = some (.int .i64 xa) ∧ w'.cell? ⟨b, o + (k + 1) * 3, none⟩ = some (.int .i64 yd) ∧ w'.cell? ⟨b, o + (k + 1) * 3 + 1, none⟩ = some (.string yc) ∧ w'.cell? ⟨b, o + (k + 1) * 3 + 2, none⟩ = some (.int .i64 ya))
          (refine ⟨?_, ?_, ?_, ?_, ?_, ?_⟩ <;> first | assumption | (go_simp; done))
          (first
          | (go_at_call 35; refine (KD.out _).mono ?_; rintro e w4 ⟨rfl, b4⟩; have C4 := Lib.hid (show Below wr.heap.size wr w4 from ((Below.refl wr.heap.size wr).drew).trans b4); have v0 := (C4.out.cell (p := ⟨b, o + k * 3, none⟩) hbr).trans x0; have v1 := (C4.out.cell (p := ⟨b, o + k * 3 + 1, none⟩) hbr).trans x1; have v2 := (C4.out.cell (p := ⟨b, o + k * 3 + 2, none⟩) hbr).trans x2; have u0 := (C4.out.cell (p := ⟨b, o + (k + 1) * 3, none⟩) hbr).trans y0; have u1 := (C4.out.cell (p := ⟨b, o + (k + 1) * 3 + 1, none⟩) hbr).trans y1; have u2 := (C4.out.cell (p := ⟨b, o + (k + 1) * 3 + 2, none⟩) hbr).trans y2; clear b4))
        have B4 := Lib.hid (BB.out.trans (C4.out.mono BB.out.size))
        clear x0 x1 x2 y0 y1 y2 v0 v1 v2 u0 u1 u2
        go_wp2
        go_ret
        exact ⟨by rw [E.out]; rfl, B4.out⟩
      · have NT' := Lib.hid (NT.out (by omega))
        have hc0 : 0 ≤ cmpI yd xd := by unfold cmpI; rw [if_neg hd]; split <;> omega
        generalize cmpI yd xd = C at *
        have hc1 : ¬ C < 0 := by omega
        clear hd
        go_wp2_with fail
        go_region_held3 (fun w' => w'.cell? ⟨b, o + k * 3, none⟩ = some (.int .i64 xd) ∧ w'.cell? ⟨b, o + k * 3 + 1, none⟩ = some (.string xc) ∧ w'.cell? ⟨b, o + k * 3 + 2, none⟩ = some (.int .i64 xa) ∧ w'.cell? ⟨b, o + (k + 1) * 3, none⟩ = some (.int .i64 yd) ∧ w'.cell? ⟨b, o + (k + 1) * 3 + 1, none⟩ = some (.string yc) ∧ w'.cell? ⟨b, o + (k + 1) * 3 + 2, none⟩ = some (.int .i64 ya))
          (refine ⟨?_, ?_, ?_, ?_, ?_, ?_⟩ <;> first | assumption | (go_simp; done))
          (first
          | (go_at_call 35; refine (KD.out _).mono ?_; rintro e w4 ⟨rfl, b4⟩; have C4 := Lib.hid (show Below wr.heap.size wr w4 from ((Below.refl wr.heap.size wr).drew).trans b4); have v0 := (C4.out.cell (p := ⟨b, o + k * 3, none⟩) hbr).trans x0; have v1 := (C4.out.cell (p := ⟨b, o + k * 3 + 1, none⟩) hbr).trans x1; have v2 := (C4.out.cell (p := ⟨b, o + k * 3 + 2, none⟩) hbr).trans x2; have u0 := (C4.out.cell (p := ⟨b, o + (k + 1) * 3, none⟩) hbr).trans y0; have u1 := (C4.out.cell (p := ⟨b, o + (k + 1) * 3 + 1, none⟩) hbr).trans y1; have u2 := (C4.out.cell (p := ⟨b, o + (k + 1) * 3 + 2, none⟩) hbr).trans y2; clear b4))
        have B4 := Lib.hid (BB.out.trans (C4.out.mono BB.out.size))
        clear x0 x1 x2 y0 y1 y2 v0 v1 v2 u0 u1 u2
        go_wp2
        go_roundw
        case rel => exact ⟨(k : Int), rfl, by omega, by omega, NT'.out, B4.out⟩
        case measure => simp [intOf]; omega
    · have E := Lib.hid (SB.out (fun j h2 h3 => HJ.out j (by omega) h2 h3))
      clear hj hB
      go_wp2
      go_ret
      exact ⟨by rw [E.out]; rfl, BB.out⟩
end Go.Proofs.Ythhacbelbkkcmaa

namespace Go.Proofs.Ythhacbelbkkcmaa
open Go.ChangeShapes Go.WideShapes Go.ChangeAt Go.RowKit Go.Deep
set_option linter.unusedVariables false

theorem fl_of_isL {w : World} {a : Option Addr} {len cap : Nat} {fs : List Fl} (hb : len * 32 ≤ 140737488351232) (h : IsFls w a len cap fs) : FL w a len fs := by
  rcases h with ⟨rfl, rfl, rfl, rfl⟩ | ⟨x, rfl, h1, h2, h3, h4, h5⟩
  · exact ⟨rfl, by omega, .inl rfl⟩
  · refine ⟨h3, by omega, ?_⟩
    by_cases h0 : len = 0
    · exact .inl h0
    · obtain ⟨b, o, s⟩ := x
      have hc := (h5 0 (by omega)).1
      have hs : s = none := by simpa [Addr.add] using World.cell?_spot hc
      subst hs
      refine .inr ⟨b, o, rfl, ?_, fun i hi => ?_⟩
      · have e : (⟨b, o, none⟩ : Addr).add (0 * 3) = ⟨b, o, none⟩ := by simp [Addr.add]
        rw [e] at hc
        by_cases hlt : b < w.heap.size
        · exact hlt
        · exfalso
          have hn : w.heap[b]? = none := by simp; omega
          simp [World.cell?, hn] at hc
      · have := h5 i hi
        rw [Go.Addr.add_lit, Go.Addr.add_lit, Go.Addr.add_lit] at this
        exact this
theorem IsFls.len {w : World} {a : Option Addr} {len cap : Nat} {fs : List Fl} (h : IsFls w a len cap fs) : fs.length = len := by
  rcases h with ⟨_, rfl, _, rfl⟩ | ⟨x, _, _, _, h, _⟩
  · rfl
  · exact h
end Go.Proofs.Ythhacbelbkkcmaa

namespace Go.Proofs.Ythhacbelbkkcmaa
open Go.RowKit

/-- A number of 64 bits. -/
def inR (n : Int) : Prop := -9223372036854775808 ≤ n ∧ n ≤ 9223372036854775807
/-- The number that a checked call tells, and its fault. -/
def fitV (n : Int) : Int := if -9223372036854775808 ≤ n ∧ n ≤ 9223372036854775807 then n else 0
def fitF (n : Int) : Int := if -9223372036854775808 ≤ n ∧ n ≤ 9223372036854775807 then 0 else 1

theorem fitV_in {n : Int} (h : inR n) : fitV n = n := by unfold inR at h; unfold fitV; rw [if_pos h]
theorem fitF_in {n : Int} (h : inR n) : fitF n = 0 := by unfold inR at h; unfold fitF; rw [if_pos h]
theorem fitV_out {n : Int} (h : ¬ inR n) : fitV n = 0 := by unfold inR at h; unfold fitV; rw [if_neg h]
theorem fitF_out {n : Int} (h : ¬ inR n) : fitF n = 1 := by unfold inR at h; unfold fitF; rw [if_neg h]
theorem wf_inR {n : Int} (h : (Lit.int .i64 n).wf = true) : inR n := by
  simp [Lit.wf, IntKind.min, IntKind.max, IntKind.bits, IntKind.signed] at h
  unfold inR; omega

/-! ### the sign, by bits -/
theorem msb_ofInt (n : Int) (h : inR n) : (BitVec.ofInt 64 n).msb = decide (n < 0) := by
  unfold inR at h
  rw [BitVec.msb_eq_decide, BitVec.toNat_ofInt]
  by_cases hn : n < 0
  · rw [decide_eq_true hn, decide_eq_true]; omega
  · rw [decide_eq_false hn, decide_eq_false]; omega
theorem wrap_neg (x : BitVec 64) : (IntKind.i64.wrap (x.toNat : Int) < 0) ↔ x.msb = true := by
  have hx := x.isLt
  rw [IntKind.wrap_i64, BitVec.msb_eq_decide]
  simp only [decide_eq_true_eq]
  omega
theorem wrap_inR (n : Int) : inR (IntKind.i64.wrap n) := by
  rw [IntKind.wrap_i64]; unfold inR; omega
theorem wrap64_inR (n : Int) : inR (wrap64 n) := by unfold wrap64 inR; omega
theorem wrap64_id {n : Int} (h : inR n) : wrap64 n = n := by unfold wrap64; unfold inR at h; omega
theorem xor_inR (a b : Int) : inR (bits .xor .i64 a b) := wrap_inR _
theorem xor_neg (a b : Int) (ha : inR a) (hb : inR b) : (bits .xor .i64 a b < 0) ↔ (a < 0 ∧ 0 ≤ b ∨ 0 ≤ a ∧ b < 0) := by
  refine (wrap_neg (BitVec.ofInt 64 a ^^^ BitVec.ofInt 64 b)).trans ?_
  rw [BitVec.msb_xor, msb_ofInt a ha, msb_ofInt b hb]
  by_cases h1 : a < 0 <;> by_cases h2 : b < 0 <;> simp [h1, h2] <;> omega
theorem and_neg (a b : Int) (ha : inR a) (hb : inR b) : (bits .and .i64 a b < 0) ↔ (a < 0 ∧ b < 0) := by
  refine (wrap_neg (BitVec.ofInt 64 a &&& BitVec.ofInt 64 b)).trans ?_
  rw [BitVec.msb_and, msb_ofInt a ha, msb_ofInt b hb]
  by_cases h1 : a < 0 <;> by_cases h2 : b < 0 <;> simp [h1, h2]

/-- Add's test. -/
theorem add_test (a b : Int) (ha : inR a) (hb : inR b) :
    (bits .and .i64 (bits .xor .i64 a (wrap64 (a + b))) (bits .xor .i64 b (wrap64 (a + b))) < 0) ↔ ¬ inR (a + b) := by
  rw [and_neg _ _ (xor_inR _ _) (xor_inR _ _), xor_neg a _ ha (wrap64_inR _), xor_neg b _ hb (wrap64_inR _)]
  unfold inR at *; unfold wrap64; omega
end Go.Proofs.Ythhacbelbkkcmaa

namespace Go.Proofs.Ythhacbelbkkcmaa
open Go.RowKit

end Go.Proofs.Ythhacbelbkkcmaa

namespace Go.Proofs.Ythhacbelbkkcmaa
open Go.RowKit
set_option linter.unusedVariables false
set_option linter.unusedSimpArgs false

theorem totKey_any (d a : Int) (c : ByteArray) (w : World) :
    Calls Try.prog 29 #[.agg #[.int .i64 d, .string c, .int .i64 a]] w fun e w' => e = .returned (.string c) ∧ w' = w.alloc (.cells #[.int .i64 d, .string c, .int .i64 a] 40) := by
  go_enter Try.func29, Try.ntmps29
  go_wp2
  go_ret
  exact ⟨rfl, rfl⟩
theorem totTold_any (c : ByteArray) (s : Int) (w : World) :
    Calls Try.prog 30 #[.string c, .int .i64 s] w fun e w' => e = .returned (.agg #[.string c, .int .i64 s]) ∧ w' = w.alloc (.cells #[.string c, .int .i64 s] 57) := by
  go_enter Try.func30, Try.ntmps30
  go_wp2
  exact bodyPost_ret (v := .agg #[.string c, .int .i64 s]) (by simp [results, Try.results30, go_sem]) rfl ⟨rfl, rfl⟩
theorem totOrder_any (a a' : Int) (c c' : ByteArray) (w : World) :
    Calls Try.prog 32 #[.agg #[.string c, .int .i64 a], .agg #[.string c', .int .i64 a']] w fun e w' => e = .returned (.int .i64 (cmpS c c')) ∧ w' = (w.alloc (.cells #[.string c, .int .i64 a] 57)).alloc (.cells #[.string c', .int .i64 a'] 57) := by
  have K1 := fun W => compare_str c c' W
  generalize cmpS c c' = y at *
  go_enter Try.func32, Try.ntmps32
  go_wp2_with (go_at_call 33; refine (K1 _).mono ?_; rintro e w2 ⟨rfl, rfl⟩)
  all_goals go_ret
  all_goals exact ⟨rfl, rfl⟩

/-- The document's add: the sum, or that it does not fit. -/
theorem wrap_up {n : Int} (h : 9223372036854775807 < n) (h2 : n ≤ 18446744073709551614) : wrap64 n = n - 18446744073709551616 := by unfold wrap64; omega
theorem wrap_down {n : Int} (h : n < -9223372036854775808) (h2 : -18446744073709551616 ≤ n) : wrap64 n = n + 18446744073709551616 := by unfold wrap64; omega
set_option maxHeartbeats 1000000 in
theorem rAdd_fits (a b : Int) (ha : inR a) (hb : inR b) (h : inR (a + b)) (w : World) :
    Calls Try.prog 45 #[.int .i64 a, .int .i64 b] w fun e w' => e = .returned (.tuple #[.int .i64 (a + b), .bool true]) ∧ w' = w := by
  unfold inR at *
  obtain ⟨h2, h3⟩ := h
  go_enter Try.func45, Try.ntmps45
  go_wp2
  all_goals first | (go_ret2; exact ⟨rfl, rfl⟩) | (exfalso; omega)
set_option maxHeartbeats 1000000 in
theorem rAdd_out (a b : Int) (ha : inR a) (hb : inR b) (h : ¬ inR (a + b)) (w : World) :
    Calls Try.prog 45 #[.int .i64 a, .int .i64 b] w fun e w' => e = .returned (.tuple #[.int .i64 0, .bool false]) ∧ w' = w := by
  unfold inR at *
  rcases (show 9223372036854775807 < a + b ∨ a + b < -9223372036854775808 by omega) with g | g
  · have hw := wrap_up g (by omega)
    go_enter Try.func45, Try.ntmps45
    go_wp2
    all_goals first | (go_ret2; exact ⟨rfl, rfl⟩) | (exfalso; omega)
  · have hw := wrap_down g (by omega)
    go_enter Try.func45, Try.ntmps45
    go_wp2
    all_goals first | (go_ret2; exact ⟨rfl, rfl⟩) | (exfalso; omega)
end Go.Proofs.Ythhacbelbkkcmaa

namespace Go.Proofs.Ythhacbelbkkcmaa
open Go.RowKit
set_option linter.unusedVariables false
set_option linter.unusedSimpArgs false

theorem sLt_iff {x y : ByteArray} : sLt x y = true ↔ x.toList < y.toList := by unfold sLt; rw [bytesLess_eq]; simp
theorem sLt_no {x y : ByteArray} : sLt x y = false ↔ ¬ x.toList < y.toList := by unfold sLt; rw [bytesLess_eq]; simp
theorem toList_one {x y : ByteArray} (h : x.toList = y.toList) : x = y := by
  rw [Lib.toList_data, Lib.toList_data] at h
  obtain ⟨⟨x⟩⟩ := x; obtain ⟨⟨y⟩⟩ := y
  simp at h; rw [h]
theorem sLt_irrefl (x : ByteArray) : sLt x x = false := sLt_no.2 (List.lt_irrefl _)
theorem sLt_trans {x y z : ByteArray} (h1 : sLt x y = true) (h2 : sLt y z = true) : sLt x z = true := sLt_iff.2 (List.lt_trans (sLt_iff.1 h1) (sLt_iff.1 h2))
theorem sLt_ntrans {x y z : ByteArray} (h1 : sLt x y = false) (h2 : sLt y z = false) : sLt x z = false := by
  rw [sLt_no, List.not_lt] at *
  exact List.le_trans h2 h1
theorem sLt_anti {x y : ByteArray} (h1 : sLt x y = false) (h2 : sLt y x = false) : x = y := by
  rw [sLt_no, List.not_lt] at *
  exact toList_one (List.le_antisymm h2 h1)

theorem cmpS_lt {x y : ByteArray} : cmpS x y < 0 ↔ sLt x y = true := by
  unfold cmpS
  cases sLt x y <;> cases sEq x y <;> simp
theorem cmpS_zero {x y : ByteArray} : cmpS x y = 0 ↔ x = y := by
  unfold cmpS
  constructor
  · intro h
    cases h1 : sLt x y <;> cases h2 : sEq x y <;> simp [h1, h2] at h
    exact toList_one (by unfold sEq at h2; exact eq_of_beq h2)
  · rintro rfl
    rw [sLt_irrefl]; simp [sEq]
theorem cmpI_lt {x y : Int} : cmpI x y < 0 ↔ x < y := by unfold cmpI; split <;> (try split) <;> simp <;> omega
theorem cmpI_zero {x y : Int} : cmpI x y = 0 ↔ x = y := by unfold cmpI; split <;> (try split) <;> simp <;> omega

/-- A flow comes before another. -/
theorem cmpF_lt {f g : Fl} : cmpF f g < 0 ↔ f.d < g.d ∨ (f.d = g.d ∧ (sLt f.c g.c = true ∨ (f.c = g.c ∧ f.a < g.a))) := by
  unfold cmpF orI
  by_cases h1 : cmpI f.d g.d = 0
  · have e1 := cmpI_zero.1 h1
    rw [if_neg (by simpa using h1)]
    by_cases h2 : cmpS f.c g.c = 0
    · have e2 := cmpS_zero.1 h2
      rw [if_neg (by simpa using h2), cmpI_lt, e2, sLt_irrefl]
      simp [e1]
    · rw [if_pos (by simpa using h2), cmpS_lt]
      have n2 : f.c ≠ g.c := fun e => h2 (cmpS_zero.2 e)
      simp [e1, n2]
  · rw [if_pos (by simpa using h1), cmpI_lt]
    have n1 : f.d ≠ g.d := fun e => h1 (cmpI_zero.2 e)
    simp [n1]

def fLt (f g : Fl) : Bool := decide (cmpF f g < 0)
theorem fLt_irrefl (f : Fl) : fLt f f = false := decide_eq_false (by rw [cmpF_lt, sLt_irrefl]; simp)
theorem fLt_trans {f g h : Fl} (h1 : fLt f g = true) (h2 : fLt g h = true) : fLt f h = true := by
  have h1 := cmpF_lt.1 (of_decide_eq_true h1)
  have h2 := cmpF_lt.1 (of_decide_eq_true h2)
  refine decide_eq_true (cmpF_lt.2 ?_)
  rcases h1 with h1 | ⟨e1, h1 | ⟨c1, h1⟩⟩ <;> rcases h2 with h2 | ⟨e2, h2 | ⟨c2, h2⟩⟩
  · exact .inl (by omega)
  · exact .inl (by omega)
  · exact .inl (by omega)
  · exact .inl (by omega)
  · exact .inr ⟨by omega, .inl (sLt_trans h1 h2)⟩
  · exact .inr ⟨by omega, .inl (c2 ▸ h1)⟩
  · exact .inl (by omega)
  · exact .inr ⟨by omega, .inl (c1 ▸ h2)⟩
  · exact .inr ⟨by omega, .inr ⟨c1.trans c2, by omega⟩⟩
/-- Of two flows one comes first, or they are one. -/
theorem fLt_whole (f g : Fl) : fLt f g = true ∨ fLt g f = true ∨ f = g := by
  rcases (show f.d < g.d ∨ g.d < f.d ∨ f.d = g.d by omega) with h | h | h
  · exact .inl (decide_eq_true (cmpF_lt.2 (.inl h)))
  · exact .inr (.inl (decide_eq_true (cmpF_lt.2 (.inl h))))
  · cases h1 : sLt f.c g.c with
    | true => exact .inl (decide_eq_true (cmpF_lt.2 (.inr ⟨h, .inl h1⟩)))
    | false =>
      cases h2 : sLt g.c f.c with
      | true => exact .inr (.inl (decide_eq_true (cmpF_lt.2 (.inr ⟨h.symm, .inl h2⟩))))
      | false =>
        have ec := sLt_anti h1 h2
        rcases (show f.a < g.a ∨ g.a < f.a ∨ f.a = g.a by omega) with k | k | k
        · exact .inl (decide_eq_true (cmpF_lt.2 (.inr ⟨h, .inr ⟨ec, k⟩⟩)))
        · exact .inr (.inl (decide_eq_true (cmpF_lt.2 (.inr ⟨h.symm, .inr ⟨ec.symm, k⟩⟩))))
        · refine .inr (.inr ?_)
          obtain ⟨a, b, c⟩ := f; obtain ⟨a', b', c'⟩ := g
          simp at h ec k; rw [h, ec, k]
theorem fLt_asymm {f g : Fl} (h : fLt f g = true) : fLt g f = false := by
  cases h2 : fLt g f with
  | false => rfl
  | true => have := fLt_trans h h2; rw [fLt_irrefl] at this; cases this
theorem fLt_anti {f g : Fl} (h1 : fLt f g = false) (h2 : fLt g f = false) : f = g := by
  rcases fLt_whole f g with h | h | h
  · rw [h1] at h; cases h
  · rw [h2] at h; cases h
  · exact h
theorem fLt_ntrans {f g h : Fl} (h1 : fLt f g = false) (h2 : fLt g h = false) : fLt f h = false := by
  cases k : fLt f h with
  | false => rfl
  | true =>
    rcases fLt_whole g f with q | q | q
    · have := fLt_trans q k; rw [h2] at this; cases this
    · rw [h1] at q; cases q
    · rw [q] at h2; rw [h2] at k; cases k
end Go.Proofs.Ythhacbelbkkcmaa
