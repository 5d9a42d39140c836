/-
  WALK: CalTiles: the boxes; spans that go back.
-/
import Derived.Test.YtpeglcnenagkbaaDoorWMissing
namespace Go.Proofs.YtpeglcnenagkbaaDoor
open Go.RowKit Go.Shelf
attribute [local go_sem] Oper.semAt_some
set_option linter.unusedVariables false
set_option linter.unusedSimpArgs false

/-- The boxes of the law: its four parameters and its answer. -/
structure TB (w W : World) (a b c : Int) (ha : Option Addr) (hc hcap : Nat) : Prop where
  a : W.cell? ⟨w.heap.size, 0, none⟩ = some (.int .i64 a)
  b : W.cell? ⟨w.heap.size + 1, 0, none⟩ = some (.int .i64 b)
  c : W.cell? ⟨w.heap.size + 1 + 1, 0, none⟩ = some (.int .i64 c)
  h : W.cell? ⟨w.heap.size + 1 + 1 + 1, 0, none⟩ = some (.slice ha hc hcap)
  r : W.cell? ⟨w.heap.size + 1 + 1 + 1 + 1, 0, none⟩ = some (.bool false)
  fr : W.frozen? ⟨w.heap.size + 1 + 1 + 1 + 1, 0, none⟩ = false
  bel : Below w.heap.size w W
  sz : w.heap.size + 5 ≤ W.heap.size
theorem TB.later {w W W' : World} {a b c : Int} {ha : Option Addr} {hc hcap : Nat} (h : TB w W a b c ha hc hcap) (k : Below W.heap.size W W') : TB w W' a b c ha hc hcap := by
  have z := h.sz
  have q : ∀ k' i v, k' < W.heap.size → W.cell? ⟨k', i, none⟩ = some v → W'.cell? ⟨k', i, none⟩ = some v := fun k' i v hk hv => (k.cell (p := ⟨k', i, none⟩) hk).trans hv
  exact ⟨q _ _ _ (by omega) h.a, q _ _ _ (by omega) h.b, q _ _ _ (by omega) h.c, q _ _ _ (by omega) h.h, q _ _ _ (by omega) h.r, (k.frozen (p := ⟨w.heap.size + 1 + 1 + 1 + 1, 0, none⟩) (by show w.heap.size + 1 + 1 + 1 + 1 < W.heap.size; omega)).trans h.fr, h.bel.trans (k.mono (by omega)), by have := k.size; omega⟩
def tbw (w : World) (a b c : Int) (ha : Option Addr) (hc hcap : Nat) : World := ((((w.alloc (.cells #[.int .i64 a] 3)).alloc (.cells #[.int .i64 b] 3)).alloc (.cells #[.int .i64 c] 3)).alloc (.cells #[.slice ha hc hcap] 22)).alloc (.cells #[.bool false] 4)
theorem tbw_tb (w : World) (a b c : Int) (ha : Option Addr) (hc hcap : Nat) : TB w (tbw w a b c ha hc hcap) a b c ha hc hcap := by
  unfold tbw
  exact ⟨by go_simp, by go_simp, by go_simp, by go_simp, by go_simp, by go_simp, (((((Below.refl _ _).alloc (Nat.le_refl _) _).alloc (by simp) _).alloc (by simp; omega) _).alloc (by simp; omega) _).alloc (by simp; omega) _, by simp⟩

theorem eql_fn (f : Fn) (x y : Array Value) (W : World) : (binOp .eql 24 (.func f x y) Value.nilFunc).run Tryd.prog W = .ok (.bool false) W := rfl
theorem neq_fn (f : Fn) (x y : Array Value) (W : World) : (binOp .neq 24 (.func f x y) Value.nilFunc).run Tryd.prog W = .ok (.bool true) W := rfl
set_option maxHeartbeats 2000000 in
theorem calTiles_back (a b c : Int) (ha : Option Addr) (hc hcap : Nat) (zs : List Int) (w : World) (hT : Tz w) (h : b < a ∨ (a ≤ b ∧ c < b)) :
    Calls Tryd.prog 3 #[.int .i64 a, .int .i64 b, .int .i64 c, .slice ha hc hcap] w fun e w' => e = .returned (.bool true) ∧ Below w.heap.size w w' := by
  have T0 := Lib.hid (tbw_tb w a b c ha hc hcap)
  have KP := Lib.hid (fun W (q : Tz W) => between_any 0 7 none 0 0 [] W (by omega) (by omega) ⟨rfl, by omega, .inl rfl⟩ q)
  have HT := Lib.hid (tz_below (Nat.le_refl _) T0.out.bel hT)
  obtain ⟨w0, hw0⟩ : ∃ w0, tbw w a b c ha hc hcap = w0 := ⟨_, rfl⟩
  rw [hw0] at T0 HT
  unfold tbw at hw0
  clear hT
  refine (callsIn_wide (n := 5)).1 ?_
  refine callsIn_of_wp_marks Tryd.func3 rfl trivial ?_ rfl
  simp only [Tryd.ntmps3, List.size_toArray, List.length_cons, List.length_nil, Nat.reduceAdd, Nat.reduceSub, Array.replicate_succ, Array.replicate_zero, List.push_toArray, List.append_toArray, List.nil_append, List.cons_append]
  gi_wp2_with fail
  try simp only [hw0]
  clear hw0
  refine ⟨trivial, ?_⟩
  gi_at_call 7
  refine (callsIn_wide.2 (KP.out _ HT.out)).mono ?_
  rintro e w1 ⟨st, sb, L, rfl, b1, _, _⟩
  have T1 := Lib.hid (T0.out.later b1)
  obtain ⟨ca, cb, cc, chh, cr, fr, bel, sz⟩ := T1.out
  have e1 := World.cell?_setCell_same' w1 ⟨w.heap.size + 1 + 1 + 1 + 1, 0, none⟩ (.bool true) (by rw [cr]; rfl)
  have E1 := Lib.hid (And.intro e1 (bel.setCell (p := ⟨w.heap.size + 1 + 1 + 1 + 1, 0, none⟩) (by simp; omega) (.bool true)))
  clear b1 bel e1
  have ef := eql_fn
  have nf := neq_fn
  rcases h with h | ⟨h, h'⟩
  · gi_wp2
    exact ⟨.bool true, by simp [results, Tryd.f3, go_sem, E1.out.1], rfl, E1.out.2⟩
  · have kh : ¬ a > b := by omega
    gi_wp2
    exact ⟨.bool true, by simp [results, Tryd.f3, go_sem, E1.out.1], rfl, E1.out.2⟩
end Go.Proofs.YtpeglcnenagkbaaDoor
