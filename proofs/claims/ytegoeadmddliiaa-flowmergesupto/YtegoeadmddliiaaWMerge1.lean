/-
  WALKS: slices.IsSortedFunc of flows by day; a list of lists in memory.
-/
import Derived.Test.YtegoeadmddliiaaPlainMerge
import Derived.Test.YtegoeadmddliiaaWFlow2
import Derived.Test.YtegoeadmddliiaaWFlows
import Derived.Deep.RegionHeld3
namespace Go.Proofs.Ytegoeadmddliiaa
open Go.RowKit
set_option linter.unusedVariables false
set_option linter.unusedSimpArgs false

/-- A slice's value and the flows that it has. -/
def SV (w : World) (v : Value) (fs : List Fl) : Prop := ∃ x c, v = .slice x fs.length c ∧ FL w x fs.length fs ∧ (x = none → c = 0) ∧ fs.length ≤ c
theorem SV.later {w w' : World} {v : Value} {fs : List Fl} (h : SV w v fs) (b : Below w.heap.size w w') : SV w' v fs := by
  obtain ⟨x, c, h1, h2, h3, h4⟩ := h
  exact ⟨x, c, h1, h2.later b, h3, h4⟩
/-- A list of lists of flows in memory. -/
def LL (w : World) (a : Option Addr) (n : Nat) (Ls : List (List Fl)) : Prop :=
  Ls.length = n ∧ n ≤ 1048576 ∧ (n = 0 ∨ ∃ b o, a = some ⟨b, o, none⟩ ∧ b < w.heap.size ∧ ∀ i, i < n → ∃ v, w.cell? ⟨b, o + i, none⟩ = some v ∧ SV w v (Ls.getD i []))
theorem LL.later {w w' : World} {a : Option Addr} {n : Nat} {Ls : List (List Fl)} (h : LL w a n Ls) (b : Below w.heap.size w w') : LL w' a n Ls := by
  obtain ⟨h1, h2, h3⟩ := h
  refine ⟨h1, h2, ?_⟩
  rcases h3 with h3 | ⟨x, o, rfl, hx, hc⟩
  · exact .inl h3
  · refine .inr ⟨x, o, rfl, Nat.lt_of_lt_of_le hx b.size, fun i hi => ?_⟩
    obtain ⟨v, q, f⟩ := hc i hi
    exact ⟨v, (b.cell (p := ⟨x, o + i, none⟩) hx).trans q, f.later b⟩
theorem LL.row {w : World} {a : Option Addr} {n : Nat} {Ls : List (List Fl)} (h : LL w a n Ls) (h0 : 0 < n) : ∃ b o, a = some ⟨b, o, none⟩ ∧ b < w.heap.size ∧ ∀ i, i < n → ∃ v, w.cell? ⟨b, o + i, none⟩ = some v ∧ SV w v (Ls.getD i []) := by
  rcases h.2.2 with q | q
  · omega
  · exact q
theorem byDay_q (d a d' a' : Int) (c c' : ByteArray) (w : World) :
    Calls Try.prog 11 #[.agg #[.int .i64 d, .string c, .int .i64 a], .agg #[.int .i64 d', .string c', .int .i64 a']] w fun e w' => e = .returned (.int .i64 (cmpI d d')) ∧ Below w.heap.size w w' := by
  refine (byDay_any d a d' a' c c' w).mono ?_
  rintro e w' ⟨rfl, rfl⟩
  exact ⟨rfl, ((Below.refl _ _).alloc (Nat.le_refl _) _).alloc (by simp) _⟩
def srtB (fs : List Fl) : Bool := decide (∀ i, i < fs.length → i + 1 < fs.length → (fs.getD i default).d ≤ (fs.getD (i + 1) default).d)
theorem fl_rowM {w : World} {a : Option Addr} {n : Nat} {fs : List Fl} (h : FL w a n fs) (h0 : 0 < n) : ∃ b o, a = some ⟨b, o, none⟩ ∧ b < w.heap.size ∧ ∀ i, i < n → FC w b (o + i * 3) (fs.getD i default) := by
  rcases h.2.2 with h | h
  · omega
  · exact h
set_option maxHeartbeats 2000000 in
theorem sorted_any (a : Option Addr) (n cap : Nat) (fs : List Fl) (w : World) (h : FL w a n fs) :
    Calls Try.prog 10 #[.slice a n cap, .func (.func 11) #[] #[]] w fun e w' => e = .returned (.bool (srtB fs)) ∧ Below w.heap.size w w' := by
  have hn := h.2.1
  have H := Lib.hid h
  have SB := Lib.hid (p := (∀ i, 0 < i → i < n → (fs.getD (i - 1) default).d ≤ (fs.getD i default).d) → srtB fs = true) (fun q => decide_eq_true (fun i h1 h2 => by
    have := q (i + 1) (by omega) (by rw [← h.1]; exact h2)
    rw [show i + 1 - 1 = i by omega] at this
    omega))
  have SN := Lib.hid (p := ∀ i, 0 < i → i < n → (fs.getD i default).d < (fs.getD (i - 1) default).d → srtB fs = false) (fun i h0 h1 q => decide_eq_false (fun r => by
    have := r (i - 1) (by rw [h.1]; omega) (by rw [h.1]; omega)
    rw [show i - 1 + 1 = i by omega] at this
    omega))
  generalize srtB fs = R at *
  clear h
  go_enter Try.func10, Try.ntmps10
  go_wp2
  go_loopw [5] (fun t wr => ∃ i : Int, t = .int .i64 i ∧ -1 ≤ i ∧ i < (n : Int) ∧ (∀ j : Nat, i < (j : Int) → 0 < j → j < n → (fs.getD (j - 1) default).d ≤ (fs.getD j default).d) ∧ Below w.heap.size w wr) (fun t _ => (intOf t + 1).toNat)
  case atStart => exact ⟨(n : Int) - 1, by simp, by omega, by omega, fun j h1 h2 h3 => by omega, Below.refl _ _⟩
  case round =>
    obtain ⟨i, rfl, h0, h1, hj, hB⟩ := hrel
    rename World => wr
    have BB := Lib.hid hB
    have HJ := Lib.hid hj
    by_cases hp : 0 < i
    · obtain ⟨b, o, rfl, hb, hc⟩ := fl_rowM H.out (by omega)
      obtain ⟨k, rfl⟩ : ∃ k : Nat, i = (k : Int) + 1 := ⟨(i - 1).toNat, by omega⟩
      have CY := Lib.hid (p := ∀ W, Below w.heap.size w W → FC W b (o + (k + 1) * 3) (fs.getD (k + 1) default)) (fun W bb => (hc (k + 1) (by omega)).later bb hb)
      have CX := Lib.hid (p := ∀ W, Below w.heap.size w W → FC W b (o + k * 3) (fs.getD k default)) (fun W bb => (hc k (by omega)).later bb hb)
      obtain ⟨x0, x1, x2⟩ := CX.out wr hB
      obtain ⟨y0, y1, y2⟩ := CY.out wr hB
      have NF := Lib.hid (SN.out (k + 1) (by omega) (by omega))
      have NT := Lib.hid (p := (fs.getD k default).d ≤ (fs.getD (k + 1) default).d → ∀ j : Nat, (k : Int) < (j : Int) → 0 < j → j < n → (fs.getD (j - 1) default).d ≤ (fs.getD j default).d) (fun q j h1 h2 h3 => by
        by_cases e : j = k + 1
        · subst e; exact q
        · exact HJ.out j (by omega) h2 h3)
      rw [show k + 1 - 1 = k by omega] at NF
      generalize fs.getD k default = fx at *
      generalize fs.getD (k + 1) default = fy at *
      obtain ⟨xd, xc, xa⟩ := fx
      obtain ⟨yd, yc, ya⟩ := fy
      simp only at x0 x1 x2 y0 y1 y2 NF NT
      have kt : ((k : Int) + 1).toNat = k + 1 := by omega
      have kn : (k : Int) + 1 < (n : Int) := h1
      have kn2 : (k : Int) < (n : Int) := by omega
      have kz : (0 : Int) ≤ (k : Int) + 1 := by omega
      have kw : IntKind.i64.wrap ((k : Int) + 1 - 1) = (k : Int) := by simp [IntKind.wrap, IntKind.bits, IntKind.signed]; omega
      have kw2 : IntKind.i64.wrap (k : Int) = (k : Int) := by simp [IntKind.wrap, IntKind.bits, IntKind.signed]; omega
      have kc2 : (k : Int) + 1 ≤ (n : Int) := by omega
      have KD := Lib.hid (fun W => byDay_q yd ya xd xa yc xc W)
      clear hc hB hj
      have hbr : b < wr.heap.size := Nat.lt_of_lt_of_le hb BB.out.size
      by_cases hd : yd < xd
      · have E := Lib.hid (NF.out hd)
        rw [show cmpI yd xd = -1 by unfold cmpI; rw [if_pos hd]] at KD
        clear hd
        go_wp2_with fail
        go_region_held3 (fun w' => w'.cell? ⟨b, o + k * 3, none⟩ = some (.int .i64 xd) ∧ w'.cell? ⟨b, o + k * 3 + 1, none⟩ = some (.string xc) ∧ w'.cell? ⟨b, o + k * 3 + 2, none⟩ = some (.int .i64 xa) ∧ w'.cell? ⟨b, o + (k + 1) * 3, none⟩ = some (.int .i64 yd) ∧ w'.cell? ⟨b, o + (k + 1) * 3 + 1, none⟩ = some (.string yc) ∧ w'.cell? ⟨b, o + (k + 1) * 3 + 2, none⟩ = some (.int .i64 ya))
          (refine ⟨?_, ?_, ?_, ?_, ?_, ?_⟩ <;> first | assumption | (go_simp; done))
          (first
          | (go_at_call 11; refine (KD.out _).mono ?_; rintro e w4 ⟨rfl, b4⟩; have C4 := Lib.hid (show Below wr.heap.size wr w4 from ((Below.refl wr.heap.size wr).drew).trans b4); have v0 := (C4.out.cell (p := ⟨b, o + k * 3, none⟩) hbr).trans x0; have v1 := (C4.out.cell (p := ⟨b, o + k * 3 + 1, none⟩) hbr).trans x1; have v2 := (C4.out.cell (p := ⟨b, o + k * 3 + 2, none⟩) hbr).trans x2; have u0 := (C4.out.cell (p := ⟨b, o + (k + 1) * 3, none⟩) hbr).trans y0; have u1 := (C4.out.cell (p := ⟨b, o + (k + 1) * 3 + 1, none⟩) hbr).trans y1; have u2 := (C4.out.cell (p := ⟨b, o + (k + 1) * 3 + 2, none⟩) hbr).trans y2; clear b4))
        have B4 := Lib.hid (BB.out.trans (C4.out.mono BB.out.size))
        clear x0 x1 x2 y0 y1 y2 v0 v1 v2 u0 u1 u2
        go_wp2
        go_ret
        exact ⟨by rw [E.out]; rfl, B4.out⟩
      · have NT' := Lib.hid (NT.out (by omega))
        have hc0 : 0 ≤ cmpI yd xd := by unfold cmpI; rw [if_neg hd]; split <;> omega
        generalize cmpI yd xd = C at *
        have hc1 : ¬ C < 0 := by omega
        clear hd
        go_wp2_with fail
        go_region_held3 (fun w' => w'.cell? ⟨b, o + k * 3, none⟩ = some (.int .i64 xd) ∧ w'.cell? ⟨b, o + k * 3 + 1, none⟩ = some (.string xc) ∧ w'.cell? ⟨b, o + k * 3 + 2, none⟩ = some (.int .i64 xa) ∧ w'.cell? ⟨b, o + (k + 1) * 3, none⟩ = some (.int .i64 yd) ∧ w'.cell? ⟨b, o + (k + 1) * 3 + 1, none⟩ = some (.string yc) ∧ w'.cell? ⟨b, o + (k + 1) * 3 + 2, none⟩ = some (.int .i64 ya))
          (refine ⟨?_, ?_, ?_, ?_, ?_, ?_⟩ <;> first | assumption | (go_simp; done))
          (first
          | (go_at_call 11; refine (KD.out _).mono ?_; rintro e w4 ⟨rfl, b4⟩; have C4 := Lib.hid (show Below wr.heap.size wr w4 from ((Below.refl wr.heap.size wr).drew).trans b4); have v0 := (C4.out.cell (p := ⟨b, o + k * 3, none⟩) hbr).trans x0; have v1 := (C4.out.cell (p := ⟨b, o + k * 3 + 1, none⟩) hbr).trans x1; have v2 := (C4.out.cell (p := ⟨b, o + k * 3 + 2, none⟩) hbr).trans x2; have u0 := (C4.out.cell (p := ⟨b, o + (k + 1) * 3, none⟩) hbr).trans y0; have u1 := (C4.out.cell (p := ⟨b, o + (k + 1) * 3 + 1, none⟩) hbr).trans y1; have u2 := (C4.out.cell (p := ⟨b, o + (k + 1) * 3 + 2, none⟩) hbr).trans y2; clear b4))
        have B4 := Lib.hid (BB.out.trans (C4.out.mono BB.out.size))
        clear x0 x1 x2 y0 y1 y2 v0 v1 v2 u0 u1 u2
        go_wp2
        go_roundw
        case rel => exact ⟨(k : Int), rfl, by omega, by omega, NT'.out, B4.out⟩
        case measure => simp [intOf]; omega
    · have E := Lib.hid (SB.out (fun j h2 h3 => HJ.out j (by omega) h2 h3))
      clear hj hB
      go_wp2
      go_ret
      exact ⟨by rw [E.out]; rfl, BB.out⟩
end Go.Proofs.Ytegoeadmddliiaa
