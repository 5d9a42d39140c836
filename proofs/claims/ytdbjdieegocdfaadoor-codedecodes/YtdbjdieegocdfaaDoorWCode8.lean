/-
  WALKS: appendInstr.
-/
import Derived.Test.YtdbjdieegocdfaaDoorWCode6
import Derived.Test.YtdbjdieegocdfaaDoorWRefRd3
namespace Go.Proofs.YtdbjdieegocdfaaDoor
open Go.RowKit
set_option linter.unusedVariables false
set_option linter.unusedSimpArgs false

theorem own_ne {w : World} {B : Nat} {v : Value} {n : Nat} {xs : List Int} (h : Own w B v n xs) {p : Nat} {cs : Array Value} {T : TypeId} {fz : Nat × Nat} (hp : w.heap[p]? = some (.cells cs T fz)) (hT : T ≠ 5) : v.ownBlock ≠ some p := by
  intro e
  rcases h.2 with ⟨rfl, h0⟩ | ⟨g, c, cur, rfl, _, hg, _⟩
  · cases e
  · simp [Value.ownBlock] at e
    subst e
    rw [hg] at hp
    injection hp with hp
    injection hp with _ hp _
    exact hT hp.symm
theorem grown_block {w w' : World} {r : Option Nat} (g : w.grownBy w' r) {p : Nat} {o : Obj} (hp : w.heap[p]? = some o) (hne : r ≠ some p) : w'.heap[p]? = some o :=
  (g.block p (Array.getElem?_eq_some_iff.1 hp).1 (fun e => hne e.symm)).trans hp
theorem box3 {w : World} {q : Nat} {a b c : Value} {T : TypeId} (h : w.heap[q]? = some (.cells #[a, b, c] T)) : w.cell? ⟨q, 0, none⟩ = some a ∧ w.cell? ⟨q, 1, none⟩ = some b ∧ w.cell? ⟨q, 2, none⟩ = some c := by
  refine ⟨?_, ?_, ?_⟩ <;> simp [World.cell?, h]
theorem box2 {w : World} {q : Nat} {a b : Value} {T : TypeId} (h : w.heap[q]? = some (.cells #[a, b] T)) : w.cell? ⟨q, 0, none⟩ = some a ∧ w.cell? ⟨q, 1, none⟩ = some b := by
  refine ⟨?_, ?_⟩ <;> simp [World.cell?, h]
/-- The operands' bytes, of the first j. -/
def preB (x y j : Nat) : List Int := (if 1 ≤ j then vl x else []) ++ (if 2 ≤ j then vl y else [])
theorem enc_pre (k x y : Nat) : In.enc ⟨k, x, y⟩ = (k : Int) :: preB x y (onA k) := by simp [In.enc, preB]
theorem pre_len {x y : Nat} (hx : x ≤ 262143) (hy : y ≤ 3660) (j : Nat) : (preB x y j).length ≤ 5 := by
  have a := vl_short hx
  have b := vl_short2 hy
  unfold preB
  by_cases h1 : 1 ≤ j <;> by_cases h2 : 2 ≤ j <;> simp [h1, h2] <;> omega
/-- What stands while the operands are written. -/
structure AI (w wr : World) (B : Nat) (v' : Value) (n' : Nat) (zs : List Int) (k x y q : Nat) : Prop where
  own : Own wr B v' n' zs
  bel : Below B w wr
  box : wr.heap[q]? = some (.cells #[.int .i64 (k : Int), .int .i64 (x : Int), .int .i64 (y : Int)] 24)
  arr : wr.heap[q + 1]? = some (.cells #[.int .i64 (x : Int), .int .i64 (y : Int)] 54)
theorem AI.ext {w wr w' : World} {B : Nat} {v v' : Value} {n n' : Nat} {zs zs' : List Int} {k x y q : Nat} (h : AI w wr B v n zs k x y q) (E : Ext B wr v n zs w' v' n' zs') (hB : B ≤ w.heap.size) : AI w w' B v' n' zs' k x y q :=
  ⟨E.own, h.bel.trans (E.below (Nat.le_trans hB h.bel.size)), grown_block E.grown h.box (own_ne h.own h.box (by decide)), grown_block E.grown h.arr (own_ne h.own h.arr (by decide))⟩
theorem AI.cast {w wr : World} {B : Nat} {v : Value} {n n' : Nat} {zs zs' : List Int} {k x y q : Nat} (h : AI w wr B v n zs k x y q) (hn : n = n') (hz : zs = zs') : AI w wr B v n' zs' k x y q := by subst hn hz; exact h
set_option maxRecDepth 100000 in
set_option maxHeartbeats 2000000 in
theorem appendInstr_any (v : Value) (B n : Nat) (xs : List Int) (k x y : Nat) (hk : k < 29) (hx : x ≤ baA k) (hy : y ≤ bbA k) (w : World) (ho : Own w B v n xs) (hn : n ≤ 140737488353000) (hB : B ≤ w.heap.size) (hG : 0 < B) (hR : Rws w) :
    Calls Tryd.prog 12 #[v, .agg #[.int .i64 (k : Int), .int .i64 (x : Int), .int .i64 (y : Int)]] w fun e w' => ∃ v', e = .returned v' ∧ Own w' B v' (n + (In.enc ⟨k, x, y⟩).length) (xs ++ In.enc ⟨k, x, y⟩) ∧ Below B w w' := by
  obtain ⟨t1, t2, t3, _⟩ := tab_facts k hk
  obtain ⟨w1, hw1⟩ : ∃ w1, (w.alloc (.cells #[.int .i64 (k : Int), .int .i64 (x : Int), .int .i64 (y : Int)] 24)).alloc (.cells #[.int .i64 (x : Int), .int .i64 (y : Int)] 54) = w1 := ⟨_, rfl⟩
  have A0 : AI w w1 B v n xs k x y w.heap.size := by
    rw [← hw1]
    refine ⟨(ho.alloc _).alloc _, ((Below.refl B w).alloc hB _).alloc (by simp; omega) _, ?_, ?_⟩
    · exact (Below.heap_alloc _ _ _ (by simp)).trans (heap_new w _)
    · have := heap_new (w.alloc (.cells #[.int .i64 (k : Int), .int .i64 (x : Int), .int .i64 (y : Int)] 24)) (.cells #[.int .i64 (x : Int), .int .i64 (y : Int)] 54)
      simpa using this
  have AA := Lib.hid A0
  obtain ⟨a0, a1, a2⟩ := box3 A0.box
  have RX := Lib.hid (p := ∀ W, Below B w W → W.cell? ⟨0, k * 6 + 1, none⟩ = some (.int .u8 (onA k : Int))) (fun W b => (b.cell (p := ⟨0, k * 6 + 1, none⟩) hG).trans ((hR.2 k hk).2.1))
  have PL := Lib.hid (pre_len (x := x) (y := y) (by omega) (by omega))
  have EP := Lib.hid (enc_pre k x y)
  rw [EP.out]
  have kw : IntKind.u8.wrap (k : Int) = (k : Int) := by simp [IntKind.wrap, IntKind.bits, IntKind.signed]; omega
  have xw : IntKind.u64.wrap (x : Int) = (x : Int) := by simp [IntKind.wrap, IntKind.bits, IntKind.signed]; omega
  have yw : IntKind.u64.wrap (y : Int) = (y : Int) := by simp [IntKind.wrap, IntKind.bits, IntKind.signed]; omega
  have k0 : ¬ (k : Int) < 0 := by omega
  have k29 : (k : Int) < 29 := by omega
  have KU := Lib.hid (fun (u : Value) (m : Nat) (zs : List Int) (z : Nat) (hz : z ≤ 262143) (W : World) (q : Own W B u m zs) (hm : m ≤ 140737488354000) (hB : B ≤ W.heap.size) => appendUint_any u B m zs z W q hm hB (by omega))
  have XB := Lib.hid (show x ≤ 262143 by omega)
  have YB := Lib.hid (show y ≤ 262143 by omega)
  clear hR A0 ho t2 t3 hx hy EP
  obtain ⟨on, hon⟩ : ∃ on, onA k = on := ⟨_, rfl⟩
  rw [hon] at RX t1
  rw [hon]
  clear hon
  have on2 : ¬ (2 : Int) < (on : Int) := by omega
  have on0 : ¬ (on : Int) < 0 := by omega
  go_enter Tryd.func12, Tryd.ntmps12
  go_wp2_with (first
    | (at_builtin; refine wp_byteK _ _ rfl _ _ rfl B _ _ _ rfl rfl AA.out.own (by omega) (Nat.le_trans hB AA.out.bel.size) ?_; intro v1 w2 h1; have A1 := Lib.hid (AA.out.ext h1 hB); clear h1; obtain ⟨b0, b1, b2⟩ := box3 A1.out.box; have c1 := RX.out w2 A1.out.bel))
  go_loopw [0, 26] (fun b t wr => ∃ j : Nat, j ≤ on ∧ t = .int .i64 (j : Int) ∧ AI w wr B b (n + 1 + (preB x y j).length) (xs ++ ((k : Int) :: preB x y j)) k x y w.heap.size) (fun _ t _ => on - (intOf t).toNat)
  case atStart => exact ⟨0, by omega, rfl, A1.out.cast (by simp [preB]) (by simp [preB])⟩
  case round =>
    rename World => wr
    obtain ⟨j, hj, rfl, hA⟩ := hrel
    have A2 := Lib.hid hA
    have PJ := Lib.hid (PL.out j)
    clear hA
    by_cases hlt : j < on
    · have jc : (j : Int) < (on : Int) := by omega
      have hj2 : j = 0 ∨ j = 1 := by omega
      obtain ⟨d0, d1⟩ := box2 A2.out.arr
      rcases hj2 with rfl | rfl
      · have PN := Lib.hid (p := preB x y (0 + 1) = preB x y 0 ++ vl x) (by simp [preB])
        go_wp2_with (go_at_call 24; refine (KU.out _ _ _ x XB.out _ A2.out.own (by have := PJ.out; omega) (Nat.le_trans hB A2.out.bel.size)).mono ?_; rintro e w3 ⟨v3, rfl, h1⟩; have A3 := Lib.hid (A2.out.ext h1 hB); clear h1)
        go_roundw
        case rel => exact ⟨0 + 1, by omega, by go_num, A3.out.cast (by rw [PN.out]; simp; omega) (by rw [PN.out]; simp)⟩
        case measure => simp [intOf]; omega
      · have PN := Lib.hid (p := preB x y (1 + 1) = preB x y 1 ++ vl y) (by simp [preB])
        go_wp2_with (go_at_call 24; refine (KU.out _ _ _ y YB.out _ A2.out.own (by have := PJ.out; omega) (Nat.le_trans hB A2.out.bel.size)).mono ?_; rintro e w3 ⟨v3, rfl, h1⟩; have A3 := Lib.hid (A2.out.ext h1 hB); clear h1)
        go_roundw
        case rel => exact ⟨1 + 1, by omega, by go_num, A3.out.cast (by rw [PN.out]; simp; omega) (by rw [PN.out]; simp)⟩
        case measure => simp [intOf]; omega
    · obtain rfl : j = on := by omega
      go_wp2
      go_ret
      exact ⟨_, rfl, (A2.out.cast (by omega) rfl).own, A2.out.bel⟩
end Go.Proofs.YtdbjdieegocdfaaDoor
