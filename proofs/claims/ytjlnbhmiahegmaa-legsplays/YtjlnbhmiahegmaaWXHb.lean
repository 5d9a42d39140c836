/-
  WALK: the law's handInts.
-/
import Derived.Test.YtjlnbhmiahegmaaWXHa
import Derived.Test.YtjlnbhmiahegmaaPlainXV
import Derived.Deep.QuietTactic
namespace Go.Proofs.Ytjlnbhmiahegmaa
open Go.RowKit
set_option linter.unusedVariables false
set_option linter.unusedSimpArgs false

/-- Numbers that are handed in: in a block of their own from lo on, with three marks behind them. -/
def IO (w : World) (lo b : Nat) (C : List Int) : Prop := lo ≤ b ∧ ∃ cur, Bk w b cur 3 ∧ cur.size = C.length + 3 ∧ (∀ i, i < C.length → cur[i]? = some (.int .i64 (C.getD i 0))) ∧ ∀ k, C.length ≤ k → k < C.length + 3 → cur[k]? = some (.int .i64 (-77))
theorem IO.keep {w w' : World} {lo b : Nat} {C : List Int} (h : IO w lo b C) (hw : w'.heap[b]? = w.heap[b]?) : IO w' lo b C := by
  obtain ⟨h1, cur, h2, h3⟩ := h; exact ⟨h1, cur, hw.trans h2, h3⟩
theorem IO.lt {w : World} {lo b : Nat} {C : List Int} (h : IO w lo b C) : b < w.heap.size := by obtain ⟨_, cur, h2, _⟩ := h; exact h2.lt
theorem IO.later {w w' : World} {lo b : Nat} {C : List Int} (h : IO w lo b C) (g : Below w.heap.size w w') : IO w' lo b C := h.keep (g.block b h.lt)
theorem IO.il {w : World} {lo b : Nat} {C : List Int} (h : IO w lo b C) (hn : C.length ≤ 17592186043904) (hC : ∀ x ∈ C, inR x) : IL w (some ⟨b, 0, none⟩) C.length C := by
  have hl := h.lt
  obtain ⟨_, cur, h2, h3, h4, h5⟩ := h
  refine ⟨rfl, hn, hC, .inr ⟨b, 0, rfl, hl, fun i hi => ?_⟩⟩
  rw [Nat.zero_add, h2.cell]; exact h4 i hi
theorem infoI : (Try.prog.info? 3).map (fun i => (i.zero, i.size, i.bytes)) = some (some (.int .i64 0), 1, 8) := by kernel_rfl
theorem make_is3 (W : World) (n : Nat) (hn : n ≤ 17592186043904) : (Instr.makeSlice 26 (.int .i64 ((n : Int) + 3)) (.int .i64 ((n : Int) + 3))).run Try.prog W = .ok (.slice (some ⟨W.heap.size, 0, none⟩) (n + 3) (n + 3)) (W.alloc (.cells (madeCells #[.int .i64 0] (n + 3)) 3)) := by
  obtain ⟨i0, hi, hz0, hz1, hz2⟩ := info_parts infoI
  have := run_make (P := Try.prog) W 26 3 i0 _ Try.underlying26 hi hz0 .i64 .i64 ((n : Int) + 3) ((n : Int) + 3) (by omega) (by omega) (by rw [hz2]; omega) (by omega)
  rw [hz1] at this
  have e2 : ((n : Int) + 3).toNat = n + 3 := by omega
  simpa [Value.cells, e2] using this
/-- While they are copied. -/
structure IM (w wr : World) (C : List Int) (i : Nat) (cur : Array Value) : Prop where
  bel : Below w.heap.size w wr
  b : Bk wr w.heap.size cur 3
  sz : cur.size = C.length + 3
  done : ∀ j, j < i → j < C.length → cur[j]? = some (.int .i64 (C.getD j 0))
  mks : ∀ j, j < i → C.length ≤ j → cur[j]? = some (.int .i64 (-77))
theorem IM.one {w wr : World} {C : List Int} {i : Nat} {cur : Array Value} (h : IM w wr C i cur) (hi : i < C.length) : ∃ cur', IM w ((wr.setCell ⟨w.heap.size, i, none⟩ (.int .i64 (-77))).setCell ⟨w.heap.size, i, none⟩ (.int .i64 (C.getD i 0))) C (i + 1) cur' := by
  have s1 : i < cur.size := by have := h.sz; omega
  refine ⟨(cur.set i (.int .i64 (-77)) s1).set i (.int .i64 (C.getD i 0)) (by simpa using s1), (h.bel.setCell (p := ⟨w.heap.size, i, none⟩) (Nat.le_refl _) _).setCell (p := ⟨w.heap.size, i, none⟩) (Nat.le_refl _) _, (h.b.set i _ s1).set i _ (by simpa using s1), by simpa using h.sz, fun j hj hjn => ?_, fun j hj hjn => ?_⟩
  · by_cases e : j = i
    · subst e; simp [s1]
    · rw [Array.getElem?_set_ne _ (by omega), Array.getElem?_set_ne _ (by omega)]; exact h.done j (by omega) hjn
  · omega
theorem IM.mark {w wr : World} {C : List Int} {i : Nat} {cur : Array Value} (h : IM w wr C i cur) (h0 : C.length ≤ i) (hi : i < C.length + 3) : ∃ cur', IM w (wr.setCell ⟨w.heap.size, i, none⟩ (.int .i64 (-77))) C (i + 1) cur' := by
  have s1 : i < cur.size := by have := h.sz; omega
  refine ⟨cur.set i (.int .i64 (-77)) s1, h.bel.setCell (p := ⟨w.heap.size, i, none⟩) (Nat.le_refl _) _, h.b.set i _ s1, by simpa using h.sz, fun j hj hjn => ?_, fun j hj hjn => ?_⟩
  · rw [Array.getElem?_set_ne _ (by omega)]; exact h.done j (by omega) hjn
  · by_cases e : j = i
    · subst e; simp [s1]
    · rw [Array.getElem?_set_ne _ (by omega)]; exact h.mks j (by omega) hjn
set_option maxHeartbeats 1000000 in
theorem handInts_any {w : World} {a : Option Addr} {n k : Nat} {C : List Int} (hI : IL w a n C) :
    Calls Try.prog 8 #[.slice a n k] w fun e' w' => ∃ b, e' = .returned (.slice (some ⟨b, 0, none⟩) n (n + 3)) ∧ IO w' w.heap.size b C ∧ Below w.heap.size w w' := by
  obtain ⟨rfl, hn, hC, hr⟩ := hI
  have MK := fun W => make_is3 W C.length hn
  obtain ⟨w3, hw3⟩ : ∃ w3, w.alloc (.cells (madeCells #[.int .i64 0] (C.length + 3)) 3) = w3 := ⟨_, rfl⟩
  have S3 := Lib.hid (show IM w w3 C 0 (madeCells #[.int .i64 0] (C.length + 3)) by
    subst hw3
    exact ⟨(Below.refl _ _).alloc (Nat.le_refl _) _, Bk.new w _ _, by simp [madeCells], fun j hj => absurd hj (by omega), fun j hj => absurd hj (by omega)⟩)
  have HW3 := Lib.hid hw3
  have HR := Lib.hid hr
  clear hw3 hr hC
  go_enter Try.func8, Try.ntmps8
  go_wp2
  rw [HW3.out]
  clear HW3 MK
  go_loopw [4] (fun t wr => ∃ (i : Nat), i ≤ C.length + 3 ∧ t = .int .i64 i ∧ ∃ cur, IM w wr C i cur) (fun t _ => C.length + 3 - (intOf t).toNat)
  case atStart => exact ⟨0, by omega, rfl, _, S3.out⟩
  case round =>
    clear S3
    obtain ⟨i, hi, rfl, cur, hS⟩ := hrel
    have SS := Lib.hid hS
    by_cases il : i < C.length + 3
    · have ic : (i : Int) < (C.length : Int) + 3 := by omega
      have s1 : i < cur.size := by have := hS.sz; omega
      have f0 := hS.b.frozen i
      have d0 := hS.b.cell i
      rw [Array.getElem?_eq_getElem s1] at d0
      by_cases jl : i < C.length
      · have jc : (i : Int) < (C.length : Int) := by omega
        rcases HR.out with h0 | ⟨g, o, rfl, hg, hc⟩
        · omega
        have c0 := (hS.bel.cell (p := ⟨g, o + i, none⟩) hg).trans (hc i jl)
        have hne : ¬ g = w.heap.size := by omega
        have hne' : ¬ w.heap.size = g := by omega
        clear hc hS
        go_wp2
        go_roundw
        case rel => exact ⟨i + 1, by omega, by go_num, by have q := SS.out.one jl; rw [show C.getD i 0 = C[i] by simp [jl]] at q; exact q⟩
        case measure => simp [intOf]; omega
      · have jc : ¬ (i : Int) < (C.length : Int) := by omega
        clear hS
        go_wp2
        go_roundw
        case rel => exact ⟨i + 1, by omega, by go_num, SS.out.mark (by omega) il⟩
        case measure => simp [intOf]; omega
    · obtain rfl : i = C.length + 3 := by omega
      clear hS
      go_wp2
      refine bodyPost_ret (v := .slice (some ⟨w.heap.size, 0, none⟩) C.length (C.length + 3)) (by simp [results, Try.results8, go_sem]) rfl ?_
      exact ⟨_, rfl, ⟨Nat.le_refl _, cur, SS.out.b, SS.out.sz, fun j hj => SS.out.done j (by omega) hj, fun j h1 h2 => SS.out.mks j h2 h1⟩, SS.out.bel⟩
end Go.Proofs.Ytjlnbhmiahegmaa

namespace Go.Proofs.Ytjlnbhmiahegmaa
open Go.RowKit
set_option linter.unusedVariables false
set_option linter.unusedSimpArgs false

theorem xbelow_drewN {B : Nat} {a w : World} (h : Below B a w) (n : Nat) : Below B a (w.drewN n) := ⟨h.os, h.tape, h.output, h.size, h.block⟩
set_option maxHeartbeats 1000000 in
theorem keptInts_any {w : World} {a : Option Addr} {n k lo b : Nat} {C : List Int} (hI : IL w a n C) (hO : IO w lo b C) :
    Calls Try.prog 13 #[.slice (some ⟨b, 0, none⟩) n (n + 3), .slice a n k] w fun e' w' => e' = .returned (.bool true) ∧ Below w.heap.size w w' := by
  have hbl : b < w.heap.size := hO.lt
  obtain ⟨rfl, hn, hC, hr⟩ := hI
  obtain ⟨_, cur, hb, hs, hd, hm⟩ := hO
  have HR := Lib.hid hr
  have HD := Lib.hid hd
  have HM' := Lib.hid hm
  have HB := Lib.hid hb
  clear hr hC hd hm hb
  go_enter Try.func13, Try.ntmps13
  go_wp2
  go_loopw [6] (fun t wr => ∃ (i : Nat), i ≤ C.length + 3 ∧ t = .int .i64 i ∧ Below w.heap.size w wr) (fun t _ => C.length + 3 - (intOf t).toNat)
  case atStart => exact ⟨0, by omega, rfl, Below.refl _ _⟩
  case round =>
    obtain ⟨i, hi, rfl, hW⟩ := hrel
    have WB := Lib.hid hW
    by_cases il : i < C.length + 3
    · have ic : (i : Int) < (C.length : Int) + 3 := by omega
      by_cases jl : i < C.length
      · have jc : (i : Int) < (C.length : Int) := by omega
        have jd : ¬ (C.length : Int) ≤ (i : Int) := by omega
        have jn : decide (C.length ≤ i) = false := by simpa using jl
        have jm : decide ((C.length : Int) ≤ (i : Int)) = false := by simpa using jl
        rcases HR.out with h0 | ⟨g, o, rfl, hg, hc⟩
        · omega
        have c0 := (hW.cell (p := ⟨g, o + i, none⟩) hg).trans (hc i jl)
        have d0 := (hW.cell (p := ⟨b, i, none⟩) hbl).trans ((HB.out.cell i).trans (HD.out i jl))
        generalize C.getD i 0 = ci at c0 d0
        clear hc hW
        go_wp2
        go_quiet (fail)
        all_goals go_wp2
        all_goals
          go_roundw
          case rel => exact ⟨i + 1, by omega, by go_num, xbelow_drewN WB.out _⟩
          case measure => simp [intOf]; omega
      · have jc : ¬ (i : Int) < (C.length : Int) := by omega
        have jd : (C.length : Int) ≤ (i : Int) := by omega
        have jn : decide (C.length ≤ i) = true := by simpa using jl
        have jm : decide ((C.length : Int) ≤ (i : Int)) = true := by simpa using jl
        have d0 := (hW.cell (p := ⟨b, i, none⟩) hbl).trans ((HB.out.cell i).trans (HM'.out i (by omega) il))
        clear hW
        go_wp2
        go_quiet (fail)
        all_goals go_wp2
        all_goals
          go_roundw
          case rel => exact ⟨i + 1, by omega, by go_num, xbelow_drewN WB.out _⟩
          case measure => simp [intOf]; omega
    · obtain rfl : i = C.length + 3 := by omega
      clear hW
      go_wp2
      exact bodyPost_ret (v := .bool true) (by simp [results, Try.results13, go_sem]) rfl ⟨rfl, WB.out⟩
end Go.Proofs.Ytjlnbhmiahegmaa

namespace Go.Proofs.Ytjlnbhmiahegmaa
open Go.RowKit
set_option linter.unusedVariables false
set_option linter.unusedSimpArgs false

theorem Bk.set2 {w : World} {b : Nat} {cur : Array Value} {t : TypeId} (h : Bk w b cur t) (k : Nat) (a0 a1 : Value) (hk : k + 1 < cur.size) :
    ∃ cur', Bk ((w.setCell ⟨b, k, none⟩ a0).setCell ⟨b, k + 1, none⟩ a1) b cur' t ∧ cur'.size = cur.size ∧ (∀ j, j < k ∨ k + 1 < j → cur'[j]? = cur[j]?) ∧ cur'[k]? = some a0 ∧ cur'[k + 1]? = some a1 := by
  refine ⟨_, (h.set k a0 (by omega)).set (k + 1) a1 (by simp; omega), by simp, fun j hj => ?_, ?_, ?_⟩
  · simp only [Array.getElem?_set]
    rw [if_neg (by omega), if_neg (by omega)]
  · simp only [Array.getElem?_set]
    rw [if_neg (by omega)]; simp
  · simp only [Array.getElem?_set]
    simp
theorem Bk.some1 {w : World} {b : Nat} {cur : Array Value} {t : TypeId} (h : Bk w b cur t) (k : Nat) (hk : k < cur.size) : ∃ v, w.cell? ⟨b, k, none⟩ = some v := by
  rw [h.cell]; exact ⟨cur[k], by simp [hk]⟩
/-- A row's cell, or the mark behind it. -/
def dk (D : List Cl) (k : Nat) : Cl := if k < D.length then D.getD k default else ⟨true, -77⟩
/-- A row that is handed in: in a block of its own. -/
def HRw (w : World) (b : Nat) (D : List Cl) : Prop := ∃ cur, Bk w b cur 58 ∧ cur.size = (D.length + 3) * 2 ∧ ∀ j, j < D.length + 3 → cur[j * 2]? = some (.bool (dk D j).h) ∧ cur[j * 2 + 1]? = some (.int .i64 (dk D j).v)
theorem HRw.lt {w : World} {b : Nat} {D : List Cl} (h : HRw w b D) : b < w.heap.size := by obtain ⟨_, h, _⟩ := h; exact h.lt
theorem HRw.keep {w w' : World} {b : Nat} {D : List Cl} (h : HRw w b D) (hw : w'.heap[b]? = w.heap[b]?) : HRw w' b D := by
  obtain ⟨cur, h2, h3⟩ := h; exact ⟨cur, hw.trans h2, h3⟩
/-- Rows that are handed in. -/
def RO (w : World) (lo b : Nat) (R : List (List Cl)) : Prop := lo ≤ b ∧ ∃ (Cur : Array Value) (bs : Nat → Nat), Bk w b Cur 56 ∧ Cur.size = R.length + 3 ∧
  ∀ j, j < R.length + 3 → b < bs j ∧ (∀ i, i < j → bs i < bs j) ∧ Cur[j]? = some (.slice (some ⟨bs j, 0, none⟩) (R.getD j []).length ((R.getD j []).length + 3)) ∧ HRw w (bs j) (R.getD j [])
theorem RO.keep {w w' : World} {lo b : Nat} {R : List (List Cl)} (h : RO w lo b R) (hw : ∀ c, lo ≤ c → c < w.heap.size → w'.heap[c]? = w.heap[c]?) : RO w' lo b R := by
  obtain ⟨h1, Cur, bs, h2, h3, h4⟩ := h
  exact ⟨h1, Cur, bs, (hw b h1 h2.lt).trans h2, h3, fun j hj => ⟨(h4 j hj).1, (h4 j hj).2.1, (h4 j hj).2.2.1, (h4 j hj).2.2.2.keep (hw _ (Nat.le_trans h1 (Nat.le_of_lt (h4 j hj).1)) (h4 j hj).2.2.2.lt)⟩⟩
theorem RO.later {w w' : World} {lo b : Nat} {R : List (List Cl)} (h : RO w lo b R) (g : Below w.heap.size w w') : RO w' lo b R := h.keep (fun c _ hc => g.block c hc)

/-- While a row is copied. -/
structure IR (w wr : World) (D : List Cl) (k : Nat) (cur : Array Value) : Prop where
  bel : Below w.heap.size w wr
  b : Bk wr w.heap.size cur 58
  sz : cur.size = (D.length + 3) * 2
  done : ∀ j, j < k → cur[j * 2]? = some (.bool (dk D j).h) ∧ cur[j * 2 + 1]? = some (.int .i64 (dk D j).v)
theorem IR.later {w wr w' : World} {D : List Cl} {k : Nat} {cur : Array Value} (h : IR w wr D k cur) (b : Below wr.heap.size wr w') : IR w w' D k cur :=
  ⟨h.bel.trans (b.mono h.bel.size), h.b.below b h.b.lt, h.sz, h.done⟩
theorem IR.any {w wr : World} {D : List Cl} {k : Nat} {cur : Array Value} (h : IR w wr D k cur) (hk : k < D.length + 3) (v0 v1 : Value) :
    ∃ cur', IR w ((wr.setCell ⟨w.heap.size, k * 2, none⟩ v0).setCell ⟨w.heap.size, k * 2 + 1, none⟩ v1) D k cur' := by
  obtain ⟨cur', q1, q2, q3, q4, q5⟩ := h.b.set2 (k * 2) v0 v1 (by have := h.sz; omega)
  refine ⟨cur', (h.bel.setCell (p := ⟨w.heap.size, k * 2, none⟩) (Nat.le_refl _) _).setCell (p := ⟨w.heap.size, k * 2 + 1, none⟩) (Nat.le_refl _) _, q1, q2.trans h.sz, fun j hj => ?_⟩
  rw [q3 _ (by omega), q3 _ (by omega)]
  exact h.done j hj
theorem IR.one {w wr : World} {D : List Cl} {k : Nat} {cur : Array Value} (h : IR w wr D k cur) (hk : k < D.length + 3) (x : Bool) (y : Int) (hx : dk D k = ⟨x, y⟩) :
    ∃ cur', IR w ((wr.setCell ⟨w.heap.size, k * 2, none⟩ (.bool x)).setCell ⟨w.heap.size, k * 2 + 1, none⟩ (.int .i64 y)) D (k + 1) cur' := by
  obtain ⟨cur', q1, q2, q3, q4, q5⟩ := h.b.set2 (k * 2) (.bool x) (.int .i64 y) (by have := h.sz; omega)
  refine ⟨cur', (h.bel.setCell (p := ⟨w.heap.size, k * 2, none⟩) (Nat.le_refl _) _).setCell (p := ⟨w.heap.size, k * 2 + 1, none⟩) (Nat.le_refl _) _, q1, q2.trans h.sz, fun j hj => ?_⟩
  by_cases e : j = k
  · subst e; rw [hx]; exact ⟨q4, q5⟩
  · rw [q3 _ (by omega), q3 _ (by omega)]
    exact h.done j (by omega)
theorem IR.two {w wr : World} {D : List Cl} {k : Nat} {cur : Array Value} (h : IR w wr D k cur) (hk : k < D.length + 3) (v0 v1 : Value) (x : Bool) (y : Int) (hx : dk D k = ⟨x, y⟩) :
    ∃ cur', IR w ((((wr.setCell ⟨w.heap.size, k * 2, none⟩ v0).setCell ⟨w.heap.size, k * 2 + 1, none⟩ v1).setCell ⟨w.heap.size, k * 2, none⟩ (.bool x)).setCell ⟨w.heap.size, k * 2 + 1, none⟩ (.int .i64 y)) D (k + 1) cur' := by
  obtain ⟨c1, h1⟩ := h.any hk v0 v1
  exact h1.one hk x y hx
/-- While the rows are copied. -/
structure OM (w wr : World) (R : List (List Cl)) (i : Nat) (Cur : Array Value) (bs : Nat → Nat) : Prop where
  bel : Below w.heap.size w wr
  b : Bk wr w.heap.size Cur 56
  sz : Cur.size = R.length + 3
  done : ∀ j, j < i → w.heap.size < bs j ∧ (∀ i', i' < j → bs i' < bs j) ∧ Cur[j]? = some (.slice (some ⟨bs j, 0, none⟩) (R.getD j []).length ((R.getD j []).length + 3)) ∧ HRw wr (bs j) (R.getD j [])
theorem OM.later {w wr w' : World} {R : List (List Cl)} {i : Nat} {Cur : Array Value} {bs : Nat → Nat} (h : OM w wr R i Cur bs) (b : Below wr.heap.size wr w') : OM w w' R i Cur bs :=
  ⟨h.bel.trans (b.mono h.bel.size), h.b.below b h.b.lt, h.sz, fun j hj => ⟨(h.done j hj).1, (h.done j hj).2.1, (h.done j hj).2.2.1, (h.done j hj).2.2.2.keep (b.block _ (h.done j hj).2.2.2.lt)⟩⟩
theorem OM.next {w wr w5 : World} {R : List (List Cl)} {i : Nat} {Cur : Array Value} {bs : Nat → Nat} (h : OM w wr R i Cur bs) (hi : i < R.length + 3) {m : Nat} (hm : (R.getD i []).length = m) {cur : Array Value} (g : IR wr w5 (R.getD i []) (m + 3) cur) :
    ∃ Cur' bs', OM w (w5.setCell ⟨w.heap.size, i, none⟩ (.slice (some ⟨wr.heap.size, 0, none⟩) m (m + 3))) R (i + 1) Cur' bs' := by
  have h5 := h.later g.bel
  have hlt := h.b.lt
  have s1 : i < Cur.size := by have := h.sz; omega
  refine ⟨Cur.set i (.slice (some ⟨wr.heap.size, 0, none⟩) m (m + 3)) s1, fun j => if j = i then wr.heap.size else bs j, h5.bel.setCell (p := ⟨w.heap.size, i, none⟩) (Nat.le_refl _) _, h5.b.set i _ s1, by simpa using h.sz, fun j hj => ?_⟩
  by_cases e : j = i
  · subst e
    refine ⟨by simpa using hlt, fun i' hi' => ?_, ?_, ?_⟩
    · simp only [if_neg (show ¬ i' = j by omega), if_true]
      exact (h.done i' hi').2.2.2.lt
    · simp only [if_true]; rw [hm]; simp [s1]
    · simp only [if_true]
      exact HRw.keep ⟨cur, g.b, g.sz, fun j' hj' => g.done j' (by omega)⟩ (heap_set_other _ _ _ _ _ (by omega))
  · simp only [if_neg e]
    refine ⟨(h.done j (by omega)).1, fun i' hi' => ?_, ?_, ?_⟩
    · rw [if_neg (by omega)]; exact (h.done j (by omega)).2.1 i' hi'
    · rw [Array.getElem?_set_ne _ (by omega)]; exact (h.done j (by omega)).2.2.1
    · exact (h5.done j (by omega)).2.2.2.keep (heap_set_other _ _ _ _ _ (by have := (h.done j (by omega)).1; omega))
theorem infoC : (Try.prog.info? 58).map (fun i => (i.zero, i.size, i.bytes)) = some (some (.agg #[.bool false, .int .i64 0]), 2, 16) := by kernel_rfl
theorem infoR : (Try.prog.info? 56).map (fun i => (i.zero, i.size, i.bytes)) = some (some (.slice none 0 0), 1, 24) := by kernel_rfl
theorem make_cs3 (W : World) (n : Nat) (hn : n ≤ 8796093021952) : (Instr.makeSlice 56 (.int .i64 ((n : Int) + 3)) (.int .i64 ((n : Int) + 3))).run Try.prog W = .ok (.slice (some ⟨W.heap.size, 0, none⟩) (n + 3) (n + 3)) (W.alloc (.cells (madeCells #[.bool false, .int .i64 0] ((n + 3) * 2)) 58)) := by
  obtain ⟨i0, hi, hz0, hz1, hz2⟩ := info_parts infoC
  have := run_make (P := Try.prog) W 56 58 i0 _ Try.underlying56 hi hz0 .i64 .i64 ((n : Int) + 3) ((n : Int) + 3) (by omega) (by omega) (by rw [hz2]; omega) (by omega)
  rw [hz1] at this
  have e2 : ((n : Int) + 3).toNat = n + 3 := by omega
  simpa [Value.cells, e2] using this
theorem make_rs3 (W : World) (n : Nat) (hn : n ≤ 5864062014635) : (Instr.makeSlice 25 (.int .i64 ((n : Int) + 3)) (.int .i64 ((n : Int) + 3))).run Try.prog W = .ok (.slice (some ⟨W.heap.size, 0, none⟩) (n + 3) (n + 3)) (W.alloc (.cells (madeCells #[.slice none 0 0] (n + 3)) 56)) := by
  obtain ⟨i0, hi, hz0, hz1, hz2⟩ := info_parts infoR
  have := run_make (P := Try.prog) W 25 56 i0 _ Try.underlying25 hi hz0 .i64 .i64 ((n : Int) + 3) ((n : Int) + 3) (by omega) (by omega) (by rw [hz2]; omega) (by omega)
  rw [hz1] at this
  have e2 : ((n : Int) + 3).toNat = n + 3 := by omega
  simpa [Value.cells, e2] using this
theorem oddCell_any (w : World) : Calls Try.prog 24 #[] w fun e w' => e = .returned (.agg #[.bool true, .int .i64 (-77)]) ∧ Below w.heap.size w w' := by
  go_enter Try.func24, Try.ntmps24
  go_wp2
  refine bodyPost_ret (v := .agg #[.bool true, .int .i64 (-77)]) (by simp [results, Try.results24, go_sem]) rfl ?_
  refine ⟨rfl, ?_⟩
  repeat (first | exact Below.refl _ _ | refine Below.setCell ?_ (by simp) _ | refine Below.alloc ?_ (by simp; try omega) _)
theorem IR.new (wr w3 : World) (D : List Cl) (m : Nat) (hD : D.length = m) (h3 : wr.alloc (.cells (madeCells #[.bool false, .int .i64 0] ((m + 3) * 2)) 58) = w3) : ∃ cur, IR wr w3 D 0 cur := by
  subst h3 hD
  exact ⟨_, (Below.refl _ _).alloc (Nat.le_refl _) _, Bk.new wr _ _, by simp [madeCells], fun j hj => absurd hj (by omega)⟩
theorem OM.new (w w3 : World) (R : List (List Cl)) (n : Nat) (hn : R.length = n) (h3 : w.alloc (.cells (madeCells #[.slice none 0 0] (n + 3)) 56) = w3) : ∃ Cur bs, OM w w3 R 0 Cur bs := by
  subst h3 hn
  exact ⟨_, fun _ => 0, (Below.refl _ _).alloc (Nat.le_refl _) _, Bk.new w _ _, by simp [madeCells], fun j hj => absurd hj (by omega)⟩
end Go.Proofs.Ytjlnbhmiahegmaa
