/-
  WALKS: sameInts of two lists that are the same; intactDates.
-/
import Derived.Test.YtpeglcnenagkbaaDoorWSch5
import Derived.Deep.RegionHeld3
namespace Go.Proofs.YtpeglcnenagkbaaDoor
open Go.RowKit
open Cal
set_option linter.unusedVariables false
set_option linter.unusedSimpArgs false

theorem same_empty (a b : Option Addr) (c1 c2 : Nat) (w : World) : Calls Tryd.prog 24 #[.slice a 0 c1, .slice b 0 c2] w fun e w' => e = .returned (.bool true) ∧ Below w.heap.size w w' := by
  go_enter Tryd.func24, Tryd.ntmps24
  go_wp2
  go_loopw [5] (fun i wr => i = .int .i64 0 ∧ wr = w) (fun i _ => 0)
  case atStart => exact ⟨rfl, rfl⟩
  case round =>
    obtain ⟨rfl, rfl⟩ := hrel
    go_wp2
    go_ret
    exact ⟨rfl, Below.refl _ _⟩
theorem same_ls (a b : Option Addr) (n c1 c2 : Nat) (zs : List Int) (w : World) (hn : n ≤ 20000000000000) (h1 : Ls w a n zs) (h2 : Ls w b n zs) :
    Calls Tryd.prog 24 #[.slice a n c1, .slice b n c2] w fun e w' => e = .returned (.bool true) ∧ Below w.heap.size w w' := by
  by_cases h0 : n = 0
  · subst h0; exact same_empty a b c1 c2 w
  · rcases h1.2.2 with q | ⟨g, p, rfl, hg, hc⟩
    · exact absurd q h0
    · rcases h2.2.2 with q | ⟨g', p', rfl, hg', hc'⟩
      · exact absurd q h0
      · exact same_some g p g' p' n c1 c2 zs w hn hg hg' hc hc'
theorem intactDates_nil (w : World) : Calls Tryd.prog 25 #[.slice none 0 0, .slice none 0 0] w fun e w' => e = .returned (.bool true) ∧ Below w.heap.size w w' := by
  have en := eql_nilD none 0 0
  go_enter Tryd.func25, Tryd.ntmps25
  go_wp2
  go_loopw [5] (fun i wr => i = .int .i64 0 ∧ wr = w) (fun i _ => 0)
  case atStart => exact ⟨rfl, rfl⟩
  case round =>
    obtain ⟨rfl, rfl⟩ := hrel
    go_wp2
    go_ret
    exact ⟨rfl, Below.refl _ _⟩
theorem neq_date (y m d : Int) (W : World) : (binOp .neq 35 (.agg #[.int .i64 y, .int .i64 m, .int .i64 d]) (.agg #[.int .i64 y, .int .i64 m, .int .i64 d])).run Tryd.prog W = .ok (.bool false) W := by
  go_simp
theorem eql_date (y m d : Int) (W : World) : (binOp .eql 35 (.agg #[.int .i64 y, .int .i64 m, .int .i64 d]) (.agg #[.int .i64 y, .int .i64 m, .int .i64 d])).run Tryd.prog W = .ok (.bool true) W := by
  go_simp
set_option maxHeartbeats 2000000 in
theorem intactDates_some (g n cap : Nat) (x : Addr) (xs : List Int) (ds : List Dt) (w : World) (hn : n ≤ 5864062014800) (hW : Wi w g xs) (hO : OwnDs xs n ds) (hK : Mks xs n) (h : n = 0 ∨ ∃ b o, x = ⟨b, o, none⟩ ∧ b < w.heap.size ∧ ∀ i, i < n → DC w b (o + i * 3) (ds.getD i (0, 0, 0))) :
    Calls Tryd.prog 25 #[.slice (some ⟨g, 0, none⟩) n (n + 2), .slice (some x) n cap] w fun e w' => e = .returned (.bool true) ∧ Below w.heap.size w w' := by
  have en := eql_nilD (some x) n cap
  have HW := Lib.hid hW
  have HO := Lib.hid hO
  have HK := Lib.hid hK
  have HH := Lib.hid h
  have nd := neq_date
  have ed := eql_date
  clear hW hO hK h
  go_enter Tryd.func25, Tryd.ntmps25
  go_wp2
  go_loopw [5] (fun i wr => ∃ k : Nat, k ≤ n ∧ i = .int .i64 (k : Int) ∧ Below w.heap.size w wr) (fun i _ => n - (intOf i).toNat)
  case atStart => exact ⟨0, by omega, rfl, Below.refl _ _⟩
  case round =>
    obtain ⟨k, hk, rfl, hB⟩ := hrel
    rename World => wr
    have BB := Lib.hid hB
    have lx := HO.out.1
    have wc : ∀ j, j < (n + 2) * 3 → wr.cell? ⟨g, j, none⟩ = some (.int .i64 (xs.getD j 0)) := fun j hj => (hB.cell (p := ⟨g, j, none⟩) HW.out.1).trans (HW.out.2 j (by omega)).1
    by_cases hlt : k < n
    · obtain ⟨b, o, rfl, hb, hc⟩ : ∃ b o, x = ⟨b, o, none⟩ ∧ b < w.heap.size ∧ ∀ i, i < n → DC w b (o + i * 3) (ds.getD i (0, 0, 0)) := by
        rcases HH.out with q | q
        · omega
        · exact q
      obtain ⟨c0, c1, c2⟩ := (hc k hlt).later hB hb
      obtain ⟨q0, q1, q2⟩ := HO.out.2 k hlt
      have d0 := wc (k * 3) (by omega)
      have d1 := wc (k * 3 + 1) (by omega)
      have d2 := wc (k * 3 + 2) (by omega)
      rw [q0] at d0
      rw [q1] at d1
      rw [q2] at d2
      obtain ⟨f, hf⟩ : ∃ f, ds.getD k (0, 0, 0) = f := ⟨_, rfl⟩
      rw [hf] at c0 c1 c2 d0 d1 d2
      obtain ⟨y, m, d⟩ := f
      simp only at c0 c1 c2 d0 d1 d2
      have kc : (k : Int) < (n : Int) := by omega
      have kwk : IntKind.i64.wrap ((k : Int) + 1) = (k : Int) + 1 := by simp [IntKind.wrap, IntKind.bits, IntKind.signed]; omega
      clear hc hf hB wc q0 q1 q2
      go_wp2_with fail
      go_region_held3 (fun w' => (w'.cell? ⟨g, k * 3, none⟩ = some (.int .i64 y) ∧ w'.cell? ⟨g, k * 3 + 1, none⟩ = some (.int .i64 m) ∧ w'.cell? ⟨g, k * 3 + 2, none⟩ = some (.int .i64 d)) ∧ w'.cell? ⟨b, o + k * 3, none⟩ = some (.int .i64 y) ∧ w'.cell? ⟨b, o + k * 3 + 1, none⟩ = some (.int .i64 m) ∧ w'.cell? ⟨b, o + k * 3 + 2, none⟩ = some (.int .i64 d))
        (refine ⟨⟨?_, ?_, ?_⟩, ?_, ?_, ?_⟩ <;> first | assumption | (go_simp; done))
        (fail)
      go_wp2
      go_roundw
      case rel => exact ⟨k + 1, by omega, by first | rfl | simp, below_drI BB.out⟩
      case measure => simp [intOf]; omega
    · obtain rfl : k = n := by omega
      have kc : ¬ (k : Int) < (k : Int) := by omega
      obtain ⟨m0, m1, m2, m3, m4, m5⟩ := HK.out
      have d0 := wc (k * 3) (by omega)
      have d1 := wc (k * 3 + 1) (by omega)
      have d2 := wc (k * 3 + 2) (by omega)
      have d3 := wc ((k + 1) * 3) (by omega)
      have d4 := wc ((k + 1) * 3 + 1) (by omega)
      have d5 := wc ((k + 1) * 3 + 2) (by omega)
      rw [m0] at d0
      rw [m1] at d1
      rw [m2] at d2
      rw [m3] at d3
      rw [m4] at d4
      rw [m5] at d5
      have k1 : (k : Int) < (k : Int) + 2 := by omega
      have k2 : (k : Int) + 1 < (k : Int) + 2 := by omega
      have kw1 : IntKind.i64.wrap ((k : Int) + 1) = (k : Int) + 1 := by simp [IntKind.wrap, IntKind.bits, IntKind.signed]; omega
      have kw2 : IntKind.i64.wrap ((k : Int) + 2) = (k : Int) + 2 := by simp [IntKind.wrap, IntKind.bits, IntKind.signed]; omega
      clear hB wc
      go_wp2
      go_ret
      exact ⟨rfl, BB.out⟩
end Go.Proofs.YtpeglcnenagkbaaDoor

namespace Go.Proofs.YtpeglcnenagkbaaDoor
open Go.RowKit
open Cal
set_option linter.unusedVariables false
set_option linter.unusedSimpArgs false

/-- The plan's box. -/
structure PB (w W : World) (y m d y2 m2 d2 N u conv : Int) (a : Option Addr) (n cap : Nat) : Prop where
  c0 : W.cell? ⟨w.heap.size, 0, none⟩ = some (.int .i64 y)
  c1 : W.cell? ⟨w.heap.size, 1, none⟩ = some (.int .i64 m)
  c2 : W.cell? ⟨w.heap.size, 2, none⟩ = some (.int .i64 d)
  c3 : W.cell? ⟨w.heap.size, 3, none⟩ = some (.int .i64 y2)
  c4 : W.cell? ⟨w.heap.size, 4, none⟩ = some (.int .i64 m2)
  c5 : W.cell? ⟨w.heap.size, 5, none⟩ = some (.int .i64 d2)
  c6 : W.cell? ⟨w.heap.size, 6, none⟩ = some (.int .i64 N)
  c7 : W.cell? ⟨w.heap.size, 7, none⟩ = some (.int .i64 u)
  c8 : W.cell? ⟨w.heap.size, 8, none⟩ = some (.int .i64 conv)
  c9 : W.cell? ⟨w.heap.size, 9, none⟩ = some (.slice a n cap)
  sz : w.heap.size < W.heap.size
  bel : Below w.heap.size w W
theorem PB.later {w W W' : World} {y m d y2 m2 d2 N u conv : Int} {a : Option Addr} {n cap : Nat} (h : PB w W y m d y2 m2 d2 N u conv a n cap) (k : Below W.heap.size W W') : PB w W' y m d y2 m2 d2 N u conv a n cap := by
  have q : ∀ i v, W.cell? ⟨w.heap.size, i, none⟩ = some v → W'.cell? ⟨w.heap.size, i, none⟩ = some v := fun i v hv => (k.cell (p := ⟨w.heap.size, i, none⟩) h.sz).trans hv
  exact ⟨q _ _ h.c0, q _ _ h.c1, q _ _ h.c2, q _ _ h.c3, q _ _ h.c4, q _ _ h.c5, q _ _ h.c6, q _ _ h.c7, q _ _ h.c8, q _ _ h.c9, Nat.lt_of_lt_of_le h.sz k.size, h.bel.trans (k.mono (Nat.le_of_lt h.sz))⟩
theorem PB.drew {w W : World} {y m d y2 m2 d2 N u conv : Int} {a : Option Addr} {n cap : Nat} (h : PB w W y m d y2 m2 d2 N u conv a n cap) : PB w W.drew y m d y2 m2 d2 N u conv a n cap := h.later ⟨rfl, rfl, rfl, Nat.le_refl _, fun _ _ => rfl⟩
theorem pb_new (w : World) (y m d y2 m2 d2 N u conv : Int) (a : Option Addr) (n cap : Nat) : PB w (w.alloc (.cells #[.int .i64 y, .int .i64 m, .int .i64 d, .int .i64 y2, .int .i64 m2, .int .i64 d2, .int .i64 N, .int .i64 u, .int .i64 conv, .slice a n cap] 40)) y m d y2 m2 d2 N u conv a n cap :=
  ⟨by go_simp, by go_simp, by go_simp, by go_simp, by go_simp, by go_simp, by go_simp, by go_simp, by go_simp, by go_simp, by simp, (Below.refl _ _).alloc (Nat.le_refl _) _⟩

end Go.Proofs.YtpeglcnenagkbaaDoor
