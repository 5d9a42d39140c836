/-
  WALKS: lists of dates, and their numbers (cal's and the law's).
-/
import Derived.Test.YtpeglcnenagkbaaDoorPlainSched
import Derived.Test.YtpeglcnenagkbaaDoorWRBetw
import Derived.Test.YtpeglcnenagkbaaDoorWOwnAny
namespace Go.Proofs.YtpeglcnenagkbaaDoor
open Go.RowKit
open Cal
set_option linter.unusedVariables false
set_option linter.unusedSimpArgs false

abbrev Dt := Int × Int × Int
/-- A date in three cells. -/
def DC (w : World) (b o : Nat) (f : Dt) : Prop := w.cell? ⟨b, o, none⟩ = some (.int .i64 f.1) ∧ w.cell? ⟨b, o + 1, none⟩ = some (.int .i64 f.2.1) ∧ w.cell? ⟨b, o + 2, none⟩ = some (.int .i64 f.2.2)
/-- A list of dates, where the world holds it. -/
def DL (w : World) (a : Option Addr) (n : Nat) (ds : List Dt) : Prop :=
  ds.length = n ∧ n ≤ 5864062014800 ∧ (n = 0 ∨ ∃ b o, a = some ⟨b, o, none⟩ ∧ b < w.heap.size ∧ ∀ i, i < n → DC w b (o + i * 3) (ds.getD i (0, 0, 0)))
theorem DC.later {w w' : World} {B b o : Nat} {f : Dt} (h : DC w b o f) (hb : Below B w w') (hB : b < B) : DC w' b o f :=
  ⟨(hb.cell (p := ⟨b, o, none⟩) hB).trans h.1, (hb.cell (p := ⟨b, o + 1, none⟩) hB).trans h.2.1, (hb.cell (p := ⟨b, o + 2, none⟩) hB).trans h.2.2⟩
theorem DL.later {w w' : World} {a n ds} (h : DL w a n ds) (b : Below w.heap.size w w') : DL w' a n ds := by
  obtain ⟨h1, h2, h3⟩ := h
  refine ⟨h1, h2, ?_⟩
  rcases h3 with h3 | ⟨x, o, rfl, hx, hc⟩
  · exact .inl h3
  · exact .inr ⟨x, o, rfl, Nat.lt_of_lt_of_le hx b.size, fun i hi => (hc i hi).later b hx⟩
/-- The numbers of dates that are all there. -/
def NumsOk (ds : List Dt) (zs : List Int) : Prop := zs.length = ds.length ∧ ∀ i, i < ds.length → exB (ds.getD i (0, 0, 0)).1 (ds.getD i (0, 0, 0)).2.1 (ds.getD i (0, 0, 0)).2.2 = true ∧ zs.getD i 0 = num (ds.getD i (0, 0, 0)).1 (ds.getD i (0, 0, 0)).2.1 (ds.getD i (0, 0, 0)).2.2
def NumsNo (ds : List Dt) : Prop := ∃ i, i < ds.length ∧ exB (ds.getD i (0, 0, 0)).1 (ds.getD i (0, 0, 0)).2.1 (ds.getD i (0, 0, 0)).2.2 = false
theorem NumsOk.one {ds : List Dt} {zs ys : List Int} (h : NumsOk ds zs) (k : NumsOk ds ys) : zs = ys := by
  apply List.ext_getElem (h.1.trans k.1.symm)
  intro i h1 h2
  have a := (h.2 i (by have := h.1; omega)).2
  have b := (k.2 i (by have := h.1; omega)).2
  simp only [List.getD, List.getElem?_eq_getElem h1, List.getElem?_eq_getElem h2, Option.getD_some] at a b
  rw [a]; exact b.symm
theorem NumsOk.not {ds : List Dt} {zs : List Int} (h : NumsOk ds zs) (k : NumsNo ds) : False := by
  obtain ⟨i, hi, e⟩ := k
  have := (h.2 i hi).1
  rw [e] at this; cases this
/-- How numbers ends. -/
def NumE (w : World) (n : Nat) (ds : List Dt) (e : Ending) (w' : World) : Prop :=
  (∃ zs, e = .returned (.tuple #[.slice (some ⟨w.heap.size, 0, none⟩) n n, .int .i64 0]) ∧ NumsOk ds zs ∧ Ls w' (some ⟨w.heap.size, 0, none⟩) n zs) ∨ (e = .returned (.tuple #[.slice none 0 0, .int .i64 21]) ∧ NumsNo ds)
theorem wi_ls {w : World} {g n : Nat} {xs : List Int} (h : Wi w g xs) (hn : xs.length = n) (hb : n ≤ 140737488355328) : Ls w (some ⟨g, 0, none⟩) n xs :=
  ⟨hn, hb, .inr ⟨g, 0, rfl, h.1, fun i hi => by rw [Nat.zero_add]; exact (h.2 i (by omega)).1⟩⟩

theorem date_box (w : World) (y m d : Int) : (w.alloc (.cells #[.int .i64 y, .int .i64 m, .int .i64 d] 35)).cell? ⟨w.heap.size, 0, none⟩ = some (.int .i64 y) ∧ (w.alloc (.cells #[.int .i64 y, .int .i64 m, .int .i64 d] 35)).cell? ⟨w.heap.size, 1, none⟩ = some (.int .i64 m) ∧ (w.alloc (.cells #[.int .i64 y, .int .i64 m, .int .i64 d] 35)).cell? ⟨w.heap.size, 2, none⟩ = some (.int .i64 d) := ⟨by go_simp, by go_simp, by go_simp⟩
set_option maxHeartbeats 2000000 in
theorem numbers_any (a : Option Addr) (n cap : Nat) (ds : List Dt) (w : World) (hM : Mon w) (h : DL w a n ds) :
    Calls Tryd.prog 34 #[.slice a n cap] w fun e w' => NumE w n ds e w' ∧ Below w.heap.size w w' := by
  obtain ⟨h1, h2, h3⟩ := h
  have mk := make_ints n (by omega)
  have WM := Lib.hid (Wi.made w n)
  have BM := Lib.hid ((Below.refl w.heap.size w).alloc (Nat.le_refl _) (.cells (madeCells #[.int .i64 0] n) 3))
  have HM := Lib.hid (p := ∀ W, Below w.heap.size w W → Mon W) (fun W b => mon_below (Nat.le_refl _) b hM)
  have H3 := Lib.hid h3
  clear h3 hM
  go_enter Tryd.func34, Tryd.ntmps34
  go_wp2
  clear mk
  go_loopw [14] (fun t wr => ∃ (k : Nat) (xs : List Int), k ≤ n ∧ t = .int .i64 (k : Int) ∧ xs.length = n ∧ RowKit.Hid (Wi wr w.heap.size xs ∧ (∀ i, i < k → exB (ds.getD i (0, 0, 0)).1 (ds.getD i (0, 0, 0)).2.1 (ds.getD i (0, 0, 0)).2.2 = true ∧ xs.getD i 0 = num (ds.getD i (0, 0, 0)).1 (ds.getD i (0, 0, 0)).2.1 (ds.getD i (0, 0, 0)).2.2)) ∧ Below w.heap.size w wr) (fun t _ => n - (intOf t).toNat)
  case atStart => exact ⟨0, List.replicate n 0, by omega, rfl, by simp, ⟨WM.out, fun i hi => absurd hi (by omega)⟩, BM.out⟩
  case round =>
    obtain ⟨k, xs, hk, rfl, hx, hW, hB⟩ := hrel
    rename World => wr
    have BB := Lib.hid hB
    by_cases hlt : k < n
    · obtain ⟨b, o, rfl, hb, hc⟩ : ∃ b o, a = some ⟨b, o, none⟩ ∧ b < w.heap.size ∧ ∀ i, i < n → DC w b (o + i * 3) (ds.getD i (0, 0, 0)) := by
        rcases H3.out with q | q
        · omega
        · exact q
      obtain ⟨c0, c1, c2⟩ := (hc k hlt).later hB hb
      obtain ⟨f, hf⟩ : ∃ f, ds.getD k (0, 0, 0) = f := ⟨_, rfl⟩
      rw [hf] at c0 c1 c2
      obtain ⟨y, m, d⟩ := f
      simp only at c0 c1 c2
      have HF := Lib.hid hf
      have kc : (k : Int) < (n : Int) := by omega
      have kwk : IntKind.i64.wrap ((k : Int) + 1) = (k : Int) + 1 := by simp [IntKind.wrap, IntKind.bits, IntKind.signed]; omega
      obtain ⟨wa, hwa⟩ : ∃ wa, wr.alloc (.cells #[.int .i64 y, .int .i64 m, .int .i64 d] 35) = wa := ⟨_, rfl⟩
      have B1 := Lib.hid (p := Below wr.heap.size wr wa) (by rw [← hwa]; exact (Below.refl _ _).alloc (Nat.le_refl _) _)
      obtain ⟨x0, x1, x2⟩ : wa.cell? ⟨wr.heap.size, 0, none⟩ = some (.int .i64 y) ∧ wa.cell? ⟨wr.heap.size, 1, none⟩ = some (.int .i64 m) ∧ wa.cell? ⟨wr.heap.size, 2, none⟩ = some (.int .i64 d) := by rw [← hwa]; exact date_box wr y m d
      have BW := Lib.hid (hB.trans (B1.out.mono hB.size))
      have KD := Lib.hid (day_any y m d wa (HM.out _ BW.out))
      have WI := Lib.hid (hW.out.1.later B1.out)
      have HX := Lib.hid hW.out.2
      clear hc hf hW hB
      go_wp2_with fail
      try simp only [hwa]
      clear hwa
      go_at_call 17
      refine KD.out.mono ?_
      rintro e w2 ⟨rfl, b2⟩
      have B2 := Lib.hid (BW.out.trans (b2.mono BW.out.size))
      have WI2 := Lib.hid (WI.out.later b2)
      clear b2 c0 c1 c2 x0 x1 x2
      cases hx2 : exB y m d with
      | true =>
        rw [(day_t hx2).1, (day_t hx2).2]
        have s1 := (WI2.out.2 k (by omega)).1
        have s2 := (WI2.out.2 k (by omega)).2
        have HX2 := Lib.hid hx2
        clear hx2
        go_wp2
        go_roundw
        case rel => exact ⟨k + 1, xs.set k (num y m d), by omega, by first | rfl | simp, by simpa using hx, ⟨WI2.out.set k _ (by omega), fun i hi => by
          by_cases e : i = k
          · subst e
            rw [HF.out]
            exact ⟨HX2.out, by rw [getD_set' _ _ _ _ (by omega), if_pos rfl]⟩
          · have := HX.out i (by omega)
            exact ⟨this.1, by rw [getD_set' _ _ _ _ (by omega), if_neg (by omega)]; exact this.2⟩⟩, B2.out.setCell (p := ⟨w.heap.size, k, none⟩) (Nat.le_refl _) _⟩
        case measure => simp [intOf]; omega
      | false =>
        rw [(day_f hx2).1, (day_f hx2).2]
        have HX2 := Lib.hid hx2
        clear hx2
        go_wp2
        go_ret2
        exact ⟨.inr ⟨rfl, k, by omega, by rw [HF.out]; exact HX2.out⟩, B2.out⟩
    · obtain rfl : k = n := by omega
      have kc : ¬ (k : Int) < (k : Int) := by omega
      clear hB
      go_wp2
      go_ret2
      exact ⟨.inl ⟨xs, rfl, ⟨by omega, fun i hi => hW.out.2 i (by omega)⟩, wi_ls hW.out.1 hx (by omega)⟩, BB.out⟩

/-- How the law's numbers ends. -/
def NumV (w : World) (ds : List Dt) (e : Ending) (w' : World) : Prop :=
  (∃ v zs, e = .returned (.tuple #[v, .bool true]) ∧ NumsOk ds zs ∧ OwnD w' w.heap.size v zs) ∨ (e = .returned (.tuple #[.slice none 0 0, .bool false]) ∧ NumsNo ds)
theorem lnum_any (x : Int) (w : World) : Calls Tryd.prog 18 #[.int .i64 x] w fun e w' => e = .returned (.int .i64 x) ∧ w' = w := by
  go_enter Tryd.func18, Tryd.ntmps18
  go_wp2
  go_ret
  exact ⟨rfl, rfl⟩
set_option maxHeartbeats 2000000 in
theorem lnumbers_any (a : Option Addr) (n cap : Nat) (ds : List Dt) (w : World) (hM : Mon w) (h : DL w a n ds) :
    Calls Tryd.prog 16 #[.slice a n cap] w fun e w' => NumV w ds e w' ∧ Below w.heap.size w w' := by
  obtain ⟨h1, h2, h3⟩ := h
  have HM := Lib.hid (p := ∀ W, Below w.heap.size w W → Mon W) (fun W b => mon_below (Nat.le_refl _) b hM)
  have H3 := Lib.hid h3
  clear h3 hM
  go_enter Tryd.func16, Tryd.ntmps16
  go_wp2
  go_loopw [4, 5] (fun v t wr => ∃ (k : Nat) (xs : List Int), k ≤ n ∧ t = .int .i64 (k : Int) ∧ xs.length = k ∧ RowKit.Hid (OwnD wr w.heap.size v xs ∧ (∀ i, i < k → exB (ds.getD i (0, 0, 0)).1 (ds.getD i (0, 0, 0)).2.1 (ds.getD i (0, 0, 0)).2.2 = true ∧ xs.getD i 0 = num (ds.getD i (0, 0, 0)).1 (ds.getD i (0, 0, 0)).2.1 (ds.getD i (0, 0, 0)).2.2)) ∧ Below w.heap.size w wr) (fun _ t _ => n - (intOf t).toNat)
  case atStart => exact ⟨0, [], by omega, rfl, rfl, ⟨World.ownsRow_nil _ _ _ _, fun i hi => absurd hi (by omega)⟩, Below.refl _ _⟩
  case round =>
    obtain ⟨k, xs, hk, rfl, hx, hW, hB⟩ := hrel
    rename World => wr
    have BB := Lib.hid hB
    by_cases hlt : k < n
    · obtain ⟨b, o, rfl, hb, hc⟩ : ∃ b o, a = some ⟨b, o, none⟩ ∧ b < w.heap.size ∧ ∀ i, i < n → DC w b (o + i * 3) (ds.getD i (0, 0, 0)) := by
        rcases H3.out with q | q
        · omega
        · exact q
      obtain ⟨c0, c1, c2⟩ := (hc k hlt).later hB hb
      obtain ⟨f, hf⟩ : ∃ f, ds.getD k (0, 0, 0) = f := ⟨_, rfl⟩
      rw [hf] at c0 c1 c2
      obtain ⟨y, m, d⟩ := f
      simp only at c0 c1 c2
      have HF := Lib.hid hf
      have kc : (k : Int) < (n : Int) := by omega
      have kwk : IntKind.i64.wrap ((k : Int) + 1) = (k : Int) + 1 := by simp [IntKind.wrap, IntKind.bits, IntKind.signed]; omega
      have KD := Lib.hid (day_any y m d wr (HM.out _ hB))
      have HX := Lib.hid hW.out.2
      have HO := Lib.hid hW.out.1
      have LX := Lib.hid hx
      clear hc hf hW hB hx
      go_wp2_with fail
      go_at_call 17
      refine KD.out.mono ?_
      rintro e w2 ⟨rfl, b2⟩
      have B2 := Lib.hid (BB.out.trans (b2.mono BB.out.size))
      have O2 := Lib.hid (p := OwnD w2 w.heap.size _ xs) (World.ownsRow.kept HO.out (row := none) ⟨b2.os, b2.tape, b2.output, b2.size, fun k hk _ => b2.block k hk⟩ (Classical.em _))
      clear b2 c0 c1 c2
      cases hx2 : exB y m d with
      | true =>
        rw [(day_t hx2).1, (day_t hx2).2]
        have HX2 := Lib.hid hx2
        clear hx2
        go_wp2_with fail
        go_at_call 18
        refine (lnum_any _ _).mono ?_
        rintro e w3 ⟨rfl, rfl⟩
        go_wp2_with (at_builtin; refine wp_day _ _ rfl _ _ rfl w.heap.size _ xs rfl rfl O2.out (by have := LX.out; omega) B2.out.size ?_; intro v4 w4 o4 g4; have O4 := Lib.hid o4; have B4 := Lib.hid (B2.out.grown g4 B2.out.size (fun k e => (O2.out.lt k e).1)); clear o4 g4)
        go_roundw
        case rel => exact ⟨k + 1, xs ++ [num y m d], by omega, by first | rfl | simp, by simp [LX.out], ⟨O4.out, fun i hi => by
          by_cases e : i = k
          · subst e
            rw [HF.out]
            exact ⟨HX2.out, by simp only [List.getD]; rw [List.getElem?_append_right (by have := LX.out; omega), LX.out]; simp⟩
          · have := HX.out i (by omega)
            exact ⟨this.1, by rw [← this.2]; simp only [List.getD]; rw [List.getElem?_append_left (by have := LX.out; omega)]⟩⟩, B4.out⟩
        case measure => simp [intOf]; omega
      | false =>
        rw [(day_f hx2).1, (day_f hx2).2]
        have HX2 := Lib.hid hx2
        clear hx2
        go_wp2
        go_ret2
        exact ⟨.inr ⟨rfl, k, by omega, by rw [HF.out]; exact HX2.out⟩, B2.out⟩
    · obtain rfl : k = n := by omega
      have kc : ¬ (k : Int) < (k : Int) := by omega
      clear hB
      go_wp2
      go_ret2
      exact ⟨.inl ⟨_, xs, rfl, ⟨by omega, fun i hi => hW.out.2 i (by omega)⟩, hW.out.1⟩, BB.out⟩
end Go.Proofs.YtpeglcnenagkbaaDoor

namespace Go.Proofs.YtpeglcnenagkbaaDoor
open Go.RowKit
open Cal
set_option linter.unusedVariables false
set_option linter.unusedSimpArgs false

theorem row_base {W : World} {base base' : Nat} {e : TypeId} {size : Nat} {v : Value} {k : Nat} {xs : List Value} (h : W.ownsRow base e size v k xs) (hb : base' ≤ base) : W.ownsRow base' e size v k xs :=
  ⟨h.1, h.2.imp id (fun ⟨g, cap, cur, a, b, c⟩ => ⟨g, cap, cur, a, Nat.le_trans hb b, c⟩)⟩
/-- The days of from, from and a tenor, .. up to last. -/
def Reg (y m d N u last : Int) (L : List Int) : Prop :=
  (∀ i : Nat, i < L.length → ∃ Y M D, AddIs y m d N u i Y M D 0 ∧ num Y M D = L.getD i 0 ∧ L.getD i 0 ≤ last) ∧ ∃ Y M D E, AddIs y m d N u (L.length : Int) Y M D E ∧ (E ≠ 0 ∨ last < num Y M D)
set_option maxHeartbeats 2000000 in
theorem regular_any (y m d N u last : Int) (w : World) (hM : Mon w) :
    Calls Tryd.prog 36 #[.agg #[.int .i64 y, .int .i64 m, .int .i64 d], .int .i64 last, .agg #[.int .i64 N, .int .i64 u]] w fun e w' => ∃ v, e = .returned v ∧ Below w.heap.size w w' ∧ ∃ L, Reg y m d N u last L ∧ OwnD w' w.heap.size v L := by
  obtain ⟨w0, hw0⟩ : ∃ w0, (w.alloc (.cells #[.int .i64 y, .int .i64 m, .int .i64 d] 35)).alloc (.cells #[.int .i64 N, .int .i64 u] 37) = w0 := ⟨_, rfl⟩
  have B0 := Lib.hid (p := Below w.heap.size w w0) (by rw [← hw0]; exact ((Below.refl _ _).alloc (Nat.le_refl _) _).alloc (by simp) _)
  have X0 := Lib.hid (p := (w0.cell? ⟨w.heap.size, 0, none⟩ = some (.int .i64 y) ∧ w0.cell? ⟨w.heap.size, 1, none⟩ = some (.int .i64 m) ∧ w0.cell? ⟨w.heap.size, 2, none⟩ = some (.int .i64 d)) ∧ w0.cell? ⟨w.heap.size + 1, 0, none⟩ = some (.int .i64 N) ∧ w0.cell? ⟨w.heap.size + 1, 1, none⟩ = some (.int .i64 u) ∧ w0.heap.size = w.heap.size + 2) (by subst hw0; exact ⟨⟨by go_simp, by go_simp, by go_simp⟩, by go_simp, by go_simp, by simp⟩)
  have HM := Lib.hid (p := ∀ W, Below w.heap.size w W → Mon W) (fun W b => mon_below (Nat.le_refl _) b hM)
  have KA := Lib.hid (fun (i : Nat) W (q : Mon W) => add_any y m d N u (i : Int) W q)
  have KN := Lib.hid (fun Y M D W (q : Mon W) (h : exB Y M D = true) => number_any Y M D W q h)
  clear hM
  go_enter Tryd.func36, Tryd.ntmps36
  go_wp2
  try simp only [hw0]
  clear hw0
  go_loopw [7, 8] (fun v t wr => ∃ (L : List Int), L.length ≤ 109574 ∧ t = .int .i64 (L.length : Int) ∧ RowKit.Hid (∀ i : Nat, i < L.length → ∃ Y M D, AddIs y m d N u i Y M D 0 ∧ num Y M D = L.getD i 0 ∧ L.getD i 0 ≤ last) ∧ RowKit.Hid (OwnD wr w0.heap.size v L) ∧ Below w0.heap.size w0 wr) (fun _ t _ => 200000 - (intOf t).toNat)
  case atStart => exact ⟨[], by simp, rfl, fun i hi => absurd hi (by simp), World.ownsRow_nil _ _ _ _, Below.refl _ _⟩
  case round =>
    obtain ⟨L, hl, rfl, hR, hO, hB⟩ := hrel
    rename World => wr
    have s0 := X0.out.2.2.2
    have bc : ∀ b i v, b < w0.heap.size → w0.cell? ⟨b, i, none⟩ = some v → wr.cell? ⟨b, i, none⟩ = some v := fun b i v hb hv => (hB.cell (p := ⟨b, i, none⟩) hb).trans hv
    have c0 := bc _ _ _ (by omega) X0.out.1.1
    have c1 := bc _ _ _ (by omega) X0.out.1.2.1
    have c2 := bc _ _ _ (by omega) X0.out.1.2.2
    have c3 := bc _ _ _ (by omega) X0.out.2.1
    have c4 := bc _ _ _ (by omega) X0.out.2.2.1
    have BB := Lib.hid hB
    have BW := Lib.hid (p := Below w.heap.size w wr) (B0.out.trans (hB.mono B0.out.size))
    have KAW := Lib.hid (KA.out L.length wr (HM.out _ BW.out))
    obtain ⟨i, hi⟩ : ∃ i, L.length = i := ⟨_, rfl⟩
    rw [hi] at KAW hl
    have HI := Lib.hid hi
    have S0 := Lib.hid s0
    rw [hi]
    clear hB bc hi s0
    have kwi : IntKind.i64.wrap ((i : Int) + 1) = (i : Int) + 1 := by simp [IntKind.wrap, IntKind.bits, IntKind.signed]; omega
    go_wp2_with fail
    go_at_call 19
    refine KAW.out.mono ?_
    rintro e w2 ⟨Y, M, D, E, rfl, hA, b2⟩
    have B2 := Lib.hid (BB.out.trans (b2.mono BB.out.size))
    have O2 := Lib.hid (p := OwnD w2 w0.heap.size _ L) (World.ownsRow.kept hO.out (row := none) ⟨b2.os, b2.tape, b2.output, b2.size, fun k hk _ => b2.block k hk⟩ (Classical.em _))
    clear b2 c0 c1 c2 c3 c4 hO
    obtain ⟨wa, hwa⟩ : ∃ wa, w2.alloc (.cells #[.int .i64 Y, .int .i64 M, .int .i64 D] 35) = wa := ⟨_, rfl⟩
    have BA := Lib.hid (p := Below w2.heap.size w2 wa) (by rw [← hwa]; exact (Below.refl _ _).alloc (Nat.le_refl _) _)
    have XA := Lib.hid (p := wa.cell? ⟨w2.heap.size, 0, none⟩ = some (.int .i64 Y) ∧ wa.cell? ⟨w2.heap.size, 1, none⟩ = some (.int .i64 M) ∧ wa.cell? ⟨w2.heap.size, 2, none⟩ = some (.int .i64 D) ∧ wa.heap.size = w2.heap.size + 1) (by rw [← hwa]; exact ⟨(date_box _ _ _ _).1, (date_box _ _ _ _).2.1, (date_box _ _ _ _).2.2, by simp⟩)
    have B3 := Lib.hid (p := Below w0.heap.size w0 wa) (B2.out.trans (BA.out.mono B2.out.size))
    have O3 := Lib.hid (p := OwnD wa w0.heap.size _ L) (World.ownsRow.kept O2.out (row := none) ⟨BA.out.os, BA.out.tape, BA.out.output, BA.out.size, fun k hk _ => BA.out.block k hk⟩ (Classical.em _))
    have HA := Lib.hid hA
    have HMA := Lib.hid (HM.out wa (B0.out.trans (B3.out.mono B0.out.size)))
    have d0 := XA.out.1
    have d1 := XA.out.2.1
    have d2 := XA.out.2.2.1
    clear hA
    by_cases hE : E = 0
    · subst hE
      obtain ⟨_, _, q3, q4, _⟩ := add_ok HA.out
      have Q4 := Lib.hid q4
      have KN1 := Lib.hid (KN.out Y M D wa HMA.out q4)
      clear q4
      go_wp2_with fail
      try simp only [hwa]
      clear hwa
      go_at_call 38
      refine KN1.out.mono ?_
      rintro e w3 ⟨rfl, b3⟩
      have B4 := Lib.hid (B3.out.trans (b3.mono B3.out.size))
      have O4 := Lib.hid (p := OwnD w3 w0.heap.size _ L) (World.ownsRow.kept O3.out (row := none) ⟨b3.os, b3.tape, b3.output, b3.size, fun k hk _ => b3.block k hk⟩ (Classical.em _))
      have e0 := (b3.cell (p := ⟨w2.heap.size, 0, none⟩) (by show w2.heap.size < _; have := XA.out.2.2.2; omega)).trans d0
      have e1 := (b3.cell (p := ⟨w2.heap.size, 1, none⟩) (by show w2.heap.size < _; have := XA.out.2.2.2; omega)).trans d1
      have e2 := (b3.cell (p := ⟨w2.heap.size, 2, none⟩) (by show w2.heap.size < _; have := XA.out.2.2.2; omega)).trans d2
      clear b3 d0 d1 d2
      have KN2 := Lib.hid (KN.out Y M D w3 (HM.out w3 (B0.out.trans (B4.out.mono B0.out.size))) Q4.out)
      obtain ⟨n, hn⟩ : ∃ n, num Y M D = n := ⟨_, rfl⟩
      have HN := Lib.hid hn
      rw [hn] at KN2
      rw [hn]
      clear hn
      by_cases hgt : last < n
      · have g1 : decide (last < n) = true := decide_eq_true hgt
        go_wp2
        go_ret
        exact ⟨_, rfl, B0.out.trans (B4.out.mono B0.out.size), L, ⟨hR.out, Y, M, D, 0, by rw [HI.out]; exact HA.out, .inr (by rw [HN.out]; exact hgt)⟩, row_base O4.out B0.out.size⟩
      · have g1 : decide (last < n) = false := decide_eq_false hgt
        go_wp2_with fail
        go_at_call 38
        refine KN2.out.mono ?_
        rintro e w5 ⟨rfl, b5⟩
        have B5 := Lib.hid (B4.out.trans (b5.mono B4.out.size))
        have O5 := Lib.hid (p := OwnD w5 w0.heap.size _ L) (World.ownsRow.kept O4.out (row := none) ⟨b5.os, b5.tape, b5.output, b5.size, fun k hk _ => b5.block k hk⟩ (Classical.em _))
        clear b5 e0 e1 e2
        go_wp2_with (at_builtin; refine wp_day _ _ rfl _ _ rfl w0.heap.size _ L rfl rfl O5.out (by have := HI.out; omega) B5.out.size ?_; intro v6 w6 o6 g6; have O6 := Lib.hid o6; have B6 := Lib.hid (B5.out.grown g6 B5.out.size (fun k e => (O5.out.lt k e).1)); clear o6 g6)
        go_roundw
        case rel => exact ⟨L ++ [n], by have := HI.out; simp; omega, by simp [HI.out], fun j hj => by
          by_cases e : j = i
          · subst e
            have g : (L ++ [n]).getD j 0 = n := by simp only [List.getD]; rw [List.getElem?_append_right (by have := HI.out; omega), HI.out]; simp
            exact ⟨Y, M, D, HA.out, by rw [g]; exact HN.out, by rw [g]; omega⟩
          · have hj' : j < L.length := by have := HI.out; simp at hj; omega
            have g : (L ++ [n]).getD j 0 = L.getD j 0 := by simp only [List.getD]; rw [List.getElem?_append_left hj']
            rw [g]; exact hR.out j hj', O6.out, B6.out⟩
        case measure => simp [intOf]; omega
    · have g1 : (E != 0) = true := by simpa using hE
      go_wp2
      go_ret
      refine ⟨_, rfl, ?_, L, ⟨hR.out, Y, M, D, E, by rw [HI.out]; exact HA.out, .inl hE⟩, ?_⟩
      all_goals first
        | exact B0.out.trans (B3.out.mono B0.out.size)
        | exact row_base O3.out B0.out.size
        | (try rw [hwa]; exact B0.out.trans (B3.out.mono B0.out.size))
        | (try rw [hwa]; exact row_base O3.out B0.out.size)
end Go.Proofs.YtpeglcnenagkbaaDoor
