/-
  WALK: regularDays.
-/
import Derived.Test.YtpeglcnenagkbaaDoorWSch1
namespace Go.Proofs.YtpeglcnenagkbaaDoor
open Go.RowKit
open Cal
set_option linter.unusedVariables false
set_option linter.unusedSimpArgs false

theorem row_base {W : World} {base base' : Nat} {e : TypeId} {size : Nat} {v : Value} {k : Nat} {xs : List Value} (h : W.ownsRow base e size v k xs) (hb : base' ≤ base) : W.ownsRow base' e size v k xs :=
  ⟨h.1, h.2.imp id (fun ⟨g, cap, cur, a, b, c⟩ => ⟨g, cap, cur, a, Nat.le_trans hb b, c⟩)⟩
/-- The days of from, from and a tenor, .. up to last. -/
def Reg (y m d N u last : Int) (L : List Int) : Prop :=
  (∀ i : Nat, i < L.length → ∃ Y M D, AddIs y m d N u i Y M D 0 ∧ num Y M D = L.getD i 0 ∧ L.getD i 0 ≤ last) ∧ ∃ Y M D E, AddIs y m d N u (L.length : Int) Y M D E ∧ (E ≠ 0 ∨ last < num Y M D)
set_option maxHeartbeats 2000000 in
theorem regular_any (y m d N u last : Int) (w : World) (hM : Mon w) :
    Calls Tryd.prog 36 #[.agg #[.int .i64 y, .int .i64 m, .int .i64 d], .int .i64 last, .agg #[.int .i64 N, .int .i64 u]] w fun e w' => ∃ v, e = .returned v ∧ Below w.heap.size w w' ∧ ∃ L, Reg y m d N u last L ∧ OwnD w' w.heap.size v L := by
  obtain ⟨w0, hw0⟩ : ∃ w0, (w.alloc (.cells #[.int .i64 y, .int .i64 m, .int .i64 d] 35)).alloc (.cells #[.int .i64 N, .int .i64 u] 37) = w0 := ⟨_, rfl⟩
  have B0 := Lib.hid (p := Below w.heap.size w w0) (by rw [← hw0]; exact ((Below.refl _ _).alloc (Nat.le_refl _) _).alloc (by simp) _)
  have X0 := Lib.hid (p := (w0.cell? ⟨w.heap.size, 0, none⟩ = some (.int .i64 y) ∧ w0.cell? ⟨w.heap.size, 1, none⟩ = some (.int .i64 m) ∧ w0.cell? ⟨w.heap.size, 2, none⟩ = some (.int .i64 d)) ∧ w0.cell? ⟨w.heap.size + 1, 0, none⟩ = some (.int .i64 N) ∧ w0.cell? ⟨w.heap.size + 1, 1, none⟩ = some (.int .i64 u) ∧ w0.heap.size = w.heap.size + 2) (by subst hw0; exact ⟨⟨by go_simp, by go_simp, by go_simp⟩, by go_simp, by go_simp, by simp⟩)
  have HM := Lib.hid (p := ∀ W, Below w.heap.size w W → Mon W) (fun W b => mon_below (Nat.le_refl _) b hM)
  have KA := Lib.hid (fun (i : Nat) W (q : Mon W) => add_any y m d N u (i : Int) W q)
  have KN := Lib.hid (fun Y M D W (q : Mon W) (h : exB Y M D = true) => number_any Y M D W q h)
  clear hM
  go_enter Tryd.func36, Tryd.ntmps36
  go_wp2
  try simp only [hw0]
  clear hw0
  go_loopw [7, 8] (fun v t wr => ∃ (L : List Int), L.length ≤ 109574 ∧ t = .int .i64 (L.length : Int) ∧ RowKit.Hid (∀ i : Nat, i < L.length → ∃ Y M D, AddIs y m d N u i Y M D 0 ∧ num Y M D = L.getD i 0 ∧ L.getD i 0 ≤ last) ∧ RowKit.Hid (OwnD wr w0.heap.size v L) ∧ Below w0.heap.size w0 wr) (fun _ t _ => 200000 - (intOf t).toNat)
  case atStart => exact ⟨[], by simp, rfl, fun i hi => absurd hi (by simp), World.ownsRow_nil _ _ _ _, Below.refl _ _⟩
  case round =>
    obtain ⟨L, hl, rfl, hR, hO, hB⟩ := hrel
    rename World => wr
    have s0 := X0.out.2.2.2
    have bc : ∀ b i v, b < w0.heap.size → w0.cell? ⟨b, i, none⟩ = some v → wr.cell? ⟨b, i, none⟩ = some v := fun b i v hb hv => (hB.cell (p := ⟨b, i, none⟩) hb).trans hv
    have c0 := bc _ _ _ (by omega) X0.out.1.1
    have c1 := bc _ _ _ (by omega) X0.out.1.2.1
    have c2 := bc _ _ _ (by omega) X0.out.1.2.2
    have c3 := bc _ _ _ (by omega) X0.out.2.1
    have c4 := bc _ _ _ (by omega) X0.out.2.2.1
    have BB := Lib.hid hB
    have BW := Lib.hid (p := Below w.heap.size w wr) (B0.out.trans (hB.mono B0.out.size))
    have KAW := Lib.hid (KA.out L.length wr (HM.out _ BW.out))
    obtain ⟨i, hi⟩ : ∃ i, L.length = i := ⟨_, rfl⟩
    rw [hi] at KAW hl
    have HI := Lib.hid hi
    have S0 := Lib.hid s0
    rw [hi]
    clear hB bc hi s0
    have kwi : IntKind.i64.wrap ((i : Int) + 1) = (i : Int) + 1 := by simp [IntKind.wrap, IntKind.bits, IntKind.signed]; omega
    go_wp2_with fail
    go_at_call 19
    refine KAW.out.mono ?_
    rintro e w2 ⟨Y, M, D, E, rfl, hA, b2⟩
    have B2 := Lib.hid (BB.out.trans (b2.mono BB.out.size))
    have O2 := Lib.hid (p := OwnD w2 w0.heap.size _ L) (World.ownsRow.kept hO.out (row := none) ⟨b2.os, b2.tape, b2.output, b2.size, fun k hk _ => b2.block k hk⟩ (Classical.em _))
    clear b2 c0 c1 c2 c3 c4 hO
    obtain ⟨wa, hwa⟩ : ∃ wa, w2.alloc (.cells #[.int .i64 Y, .int .i64 M, .int .i64 D] 35) = wa := ⟨_, rfl⟩
    have BA := Lib.hid (p := Below w2.heap.size w2 wa) (by rw [← hwa]; exact (Below.refl _ _).alloc (Nat.le_refl _) _)
    have XA := Lib.hid (p := wa.cell? ⟨w2.heap.size, 0, none⟩ = some (.int .i64 Y) ∧ wa.cell? ⟨w2.heap.size, 1, none⟩ = some (.int .i64 M) ∧ wa.cell? ⟨w2.heap.size, 2, none⟩ = some (.int .i64 D) ∧ wa.heap.size = w2.heap.size + 1) (by rw [← hwa]; exact ⟨(date_box _ _ _ _).1, (date_box _ _ _ _).2.1, (date_box _ _ _ _).2.2, by simp⟩)
    have B3 := Lib.hid (p := Below w0.heap.size w0 wa) (B2.out.trans (BA.out.mono B2.out.size))
    have O3 := Lib.hid (p := OwnD wa w0.heap.size _ L) (World.ownsRow.kept O2.out (row := none) ⟨BA.out.os, BA.out.tape, BA.out.output, BA.out.size, fun k hk _ => BA.out.block k hk⟩ (Classical.em _))
    have HA := Lib.hid hA
    have HMA := Lib.hid (HM.out wa (B0.out.trans (B3.out.mono B0.out.size)))
    have d0 := XA.out.1
    have d1 := XA.out.2.1
    have d2 := XA.out.2.2.1
    clear hA
    by_cases hE : E = 0
    · subst hE
      obtain ⟨_, _, q3, q4, _⟩ := add_ok HA.out
      have Q4 := Lib.hid q4
      have KN1 := Lib.hid (KN.out Y M D wa HMA.out q4)
      clear q4
      go_wp2_with fail
      try simp only [hwa]
      clear hwa
      go_at_call 38
      refine KN1.out.mono ?_
      rintro e w3 ⟨rfl, b3⟩
      have B4 := Lib.hid (B3.out.trans (b3.mono B3.out.size))
      have O4 := Lib.hid (p := OwnD w3 w0.heap.size _ L) (World.ownsRow.kept O3.out (row := none) ⟨b3.os, b3.tape, b3.output, b3.size, fun k hk _ => b3.block k hk⟩ (Classical.em _))
      have e0 := (b3.cell (p := ⟨w2.heap.size, 0, none⟩) (by show w2.heap.size < _; have := XA.out.2.2.2; omega)).trans d0
      have e1 := (b3.cell (p := ⟨w2.heap.size, 1, none⟩) (by show w2.heap.size < _; have := XA.out.2.2.2; omega)).trans d1
      have e2 := (b3.cell (p := ⟨w2.heap.size, 2, none⟩) (by show w2.heap.size < _; have := XA.out.2.2.2; omega)).trans d2
      clear b3 d0 d1 d2
      have KN2 := Lib.hid (KN.out Y M D w3 (HM.out w3 (B0.out.trans (B4.out.mono B0.out.size))) Q4.out)
      obtain ⟨n, hn⟩ : ∃ n, num Y M D = n := ⟨_, rfl⟩
      have HN := Lib.hid hn
      rw [hn] at KN2
      rw [hn]
      clear hn
      by_cases hgt : last < n
      · have g1 : decide (last < n) = true := decide_eq_true hgt
        go_wp2
        go_ret
        exact ⟨_, rfl, B0.out.trans (B4.out.mono B0.out.size), L, ⟨hR.out, Y, M, D, 0, by rw [HI.out]; exact HA.out, .inr (by rw [HN.out]; exact hgt)⟩, row_base O4.out B0.out.size⟩
      · have g1 : decide (last < n) = false := decide_eq_false hgt
        go_wp2_with fail
        go_at_call 38
        refine KN2.out.mono ?_
        rintro e w5 ⟨rfl, b5⟩
        have B5 := Lib.hid (B4.out.trans (b5.mono B4.out.size))
        have O5 := Lib.hid (p := OwnD w5 w0.heap.size _ L) (World.ownsRow.kept O4.out (row := none) ⟨b5.os, b5.tape, b5.output, b5.size, fun k hk _ => b5.block k hk⟩ (Classical.em _))
        clear b5 e0 e1 e2
        go_wp2_with (at_builtin; refine wp_day _ _ rfl _ _ rfl w0.heap.size _ L rfl rfl O5.out (by have := HI.out; omega) B5.out.size ?_; intro v6 w6 o6 g6; have O6 := Lib.hid o6; have B6 := Lib.hid (B5.out.grown g6 B5.out.size (fun k e => (O5.out.lt k e).1)); clear o6 g6)
        go_roundw
        case rel => exact ⟨L ++ [n], by have := HI.out; simp; omega, by simp [HI.out], fun j hj => by
          by_cases e : j = i
          · subst e
            have g : (L ++ [n]).getD j 0 = n := by simp only [List.getD]; rw [List.getElem?_append_right (by have := HI.out; omega), HI.out]; simp
            exact ⟨Y, M, D, HA.out, by rw [g]; exact HN.out, by rw [g]; omega⟩
          · have hj' : j < L.length := by have := HI.out; simp at hj; omega
            have g : (L ++ [n]).getD j 0 = L.getD j 0 := by simp only [List.getD]; rw [List.getElem?_append_left hj']
            rw [g]; exact hR.out j hj', O6.out, B6.out⟩
        case measure => simp [intOf]; omega
    · have g1 : (E != 0) = true := by simpa using hE
      go_wp2
      go_ret
      refine ⟨_, rfl, ?_, L, ⟨hR.out, Y, M, D, E, by rw [HI.out]; exact HA.out, .inl hE⟩, ?_⟩
      all_goals first
        | exact B0.out.trans (B3.out.mono B0.out.size)
        | exact row_base O3.out B0.out.size
        | (try rw [hwa]; exact B0.out.trans (B3.out.mono B0.out.size))
        | (try rw [hwa]; exact row_base O3.out B0.out.size)
end Go.Proofs.YtpeglcnenagkbaaDoor
