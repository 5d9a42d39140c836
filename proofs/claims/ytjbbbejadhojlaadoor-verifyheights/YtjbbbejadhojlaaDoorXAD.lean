import Derived.Test.YtjbbbejadhojlaaDoorXAC
import Derived.Deep.MidRow
import Derived.Deep.WholeRow
namespace Go.Proofs.YtjbbbejadhojlaaDoor
open Go.RowKit
set_option linter.unusedVariables false
set_option linter.unusedSimpArgs false
theorem orV (v k : Nat) (hv : v < 18446744073709551616) (hk : k < 64) : ∃ u : Nat, bits .or .u64 (v : Int) ((2 ^ k : Nat) : Int) = (u : Int) ∧ u < 18446744073709551616 ∧ ∀ i, i < 64 → u.testBit i = (v.testBit i || decide (i = k)) := by
  rw [u64_or_nat v (2 ^ k) hv (pow_lt64V hk)]
  refine ⟨_, rfl, ?_, fun i _ => ?_⟩
  · have := Nat.or_lt_two_pow (n := 64) (x := v) (y := 2 ^ k) (by simpa using hv) (by simpa using pow_lt64V hk)
    simpa using this
  · rw [Nat.testBit_or, Nat.testBit_two_pow]; congr 1; simp [eq_comm]
theorem andNotV (v k : Nat) (hv : v < 18446744073709551616) (hk : k < 64) : ∃ u : Nat, bits .andNot .u64 (v : Int) ((2 ^ k : Nat) : Int) = (u : Int) ∧ u < 18446744073709551616 ∧ ∀ i, i < 64 → u.testBit i = (v.testBit i && !decide (i = k)) := by
  rw [u64_andNot_nat v (2 ^ k) hv (pow_lt64V hk)]
  refine ⟨_, rfl, Nat.lt_of_le_of_lt Nat.and_le_left hv, fun i hi => ?_⟩
  rw [Nat.testBit_and]
  congr 1
  have := Nat.testBit_two_pow_sub_succ (n := 64) (x := 2 ^ k) (by simpa using pow_lt64V hk) i
  rw [show (18446744073709551615 : Nat) - 2 ^ k = 2 ^ 64 - (2 ^ k + 1) by omega, this, decide_eq_true hi, Nat.testBit_two_pow]
  simp [eq_comm]
def shU (sh : Nat → Nat) (y u v : Nat) : Nat → Nat := fun k => if k = y * 2 then u else if k = y * 2 + 1 then v else sh k
/-- A sheet's words: what is asked of them. -/
def shOk (sh : Nat → Nat) : Prop := (∀ k, sh k < 18446744073709551616) ∧ ∀ g, g < 16 → ∀ i, i < 64 → ¬ ((sh (g * 2)).testBit i = true ∧ (sh (g * 2 + 1)).testBit i = true)
theorem sheet_upd {sh : Nat → Nat} (h : shOk sh) {n0 u v t : Nat} (hn : n0 < 1024) (hu : u < 18446744073709551616) (hv : v < 18446744073709551616) (ht : t = 1 ∨ t = 2)
    (bu : ∀ i, i < 64 → u.testBit i = if t = 1 then ((sh (n0 / 64 * 2)).testBit i || decide (i = n0 % 64)) else ((sh (n0 / 64 * 2)).testBit i && !decide (i = n0 % 64)))
    (bv : ∀ i, i < 64 → v.testBit i = if t = 2 then ((sh (n0 / 64 * 2 + 1)).testBit i || decide (i = n0 % 64)) else ((sh (n0 / 64 * 2 + 1)).testBit i && !decide (i = n0 % 64))) :
    shOk (shU sh (n0 / 64) u v) ∧ ∀ m, m < 1024 → bitS (shU sh (n0 / 64) u v) m = if m = n0 then t else bitS sh m := by
  have e0 : ∀ g, shU sh (n0 / 64) u v (g * 2) = if g = n0 / 64 then u else sh (g * 2) := fun g => by
    unfold shU
    by_cases e : g = n0 / 64
    · rw [if_pos (by omega), if_pos e]
    · rw [if_neg (by omega), if_neg (by omega), if_neg e]
  have e1 : ∀ g, shU sh (n0 / 64) u v (g * 2 + 1) = if g = n0 / 64 then v else sh (g * 2 + 1) := fun g => by
    unfold shU
    by_cases e : g = n0 / 64
    · rw [if_neg (by omega), if_pos (by omega), if_pos e]
    · rw [if_neg (by omega), if_neg (by omega), if_neg e]
  refine ⟨⟨fun k => ?_, fun g hg i hi => ?_⟩, fun m hm => ?_⟩
  · unfold shU
    split
    · exact hu
    split
    · exact hv
    · exact h.1 k
  · rw [e0, e1]
    by_cases e : g = n0 / 64
    · rw [if_pos e, if_pos e, bu i hi, bv i hi]
      have := h.2 g hg i hi
      rw [e] at this
      rcases ht with rfl | rfl
      · rw [if_pos rfl, if_neg (by decide)]
        generalize (sh (n0 / 64 * 2)).testBit i = a at *
        generalize (sh (n0 / 64 * 2 + 1)).testBit i = b at *
        cases a <;> cases b <;> simp at this ⊢
      · rw [if_neg (by decide), if_pos rfl]
        generalize (sh (n0 / 64 * 2)).testBit i = a at *
        generalize (sh (n0 / 64 * 2 + 1)).testBit i = b at *
        cases a <;> cases b <;> simp at this ⊢
    · rw [if_neg e, if_neg e]
      exact h.2 g hg i hi
  · unfold bitS
    rw [e0, e1]
    have hi : m % 64 < 64 := by omega
    have ap := h.2 (m / 64) (by omega) (m % 64) hi
    by_cases e : m / 64 = n0 / 64
    · rw [if_pos e, if_pos e, bu _ hi, bv _ hi, ← e]
      by_cases e2 : m % 64 = n0 % 64
      · have : m = n0 := by omega
        rw [if_pos this]
        rcases ht with rfl | rfl <;> simp [e2]
      · have : m ≠ n0 := by intro q; rw [q] at e2; exact e2 rfl
        rw [if_neg this]
        rcases ht with rfl | rfl <;> simp [e2]
    · have : m ≠ n0 := by intro q; rw [q] at e; exact e rfl
      rw [if_neg e, if_neg e, if_neg this]
theorem shA_upd (sh : Nat → Nat) (y u v : Nat) (hy : y < 16) : ((shA sh).set! (y * 2) (.int .u64 (u : Int))).set! (y * 2 + 1) (.int .u64 (v : Int)) = shA (shU sh y u v) := by
  apply Array.ext
  · simp [shA]
  · intro k h1 h2
    have hk : k < 32 := by simpa [shA] using h2
    simp only [Array.set!_eq_setIfInBounds, Array.getElem_setIfInBounds, shA, shU]
    by_cases e1 : k = y * 2 + 1
    · subst e1; simp
    · by_cases e0 : k = y * 2
      · subst e0; simp
      · simp [e0, e1, Ne.symm e0, Ne.symm e1]
theorem zero_sh : (#[.int .u64 0, .int .u64 0, .int .u64 0, .int .u64 0, .int .u64 0, .int .u64 0, .int .u64 0, .int .u64 0, .int .u64 0, .int .u64 0, .int .u64 0, .int .u64 0, .int .u64 0, .int .u64 0, .int .u64 0, .int .u64 0, .int .u64 0, .int .u64 0, .int .u64 0, .int .u64 0, .int .u64 0, .int .u64 0, .int .u64 0, .int .u64 0, .int .u64 0, .int .u64 0, .int .u64 0, .int .u64 0, .int .u64 0, .int .u64 0, .int .u64 0, .int .u64 0] : Array Value) = shA (fun _ => 0) := rfl
theorem sh_info : (Tryd.prog.info? 132).map (·.size) = some 32 := by kernel_rfl
theorem load_sh {ops : Array Oper} {rest : List Oper} {op : Oper} {a : Act} {w : World} {Q : Exit → Act → World → Prop} (hgd : op.guard = none) (x : Operand) (ho : op.op = .load 132 x) (b : Nat) (hx : a.eval x = .pointer (some ⟨b, 0, none⟩)) (sh : Nat → Nat) (hb : BkP w b (shA sh) 132) (h : wpList Tryd.prog ops Q rest (a.put op.dst (.agg (shA sh))) w) : wpList Tryd.prog ops Q (op :: rest) a w := by
  have hr := World.rangeAt_of_block hb 0 32
  have he : (shA sh).extract 0 (0 + 32) = shA sh := by
    have := shA_size sh
    simp only [Nat.zero_add]
    rw [← this, Array.extract_size]
  rw [he] at hr
  refine wpList_load_mid hgd 132 x ho b 0 hx (shA sh).toList (.array 16 130) hr (by kernel_rfl) rfl (by rw [sh_info]; simp [shA]) ?_
  simpa using h
theorem one_sh (sh : Nat → Nat) : (shA sh).all (·.oneCell') = true := by
  unfold shA
  apply all_oneCell_toArray
  intro v hv
  obtain ⟨k, _, rfl⟩ := List.mem_map.1 hv
  rfl
theorem store_sh {ops : Array Oper} {rest : List Oper} {op : Oper} {a : Act} {w : World} {Q : Exit → Act → World → Prop} (hgd : op.guard = none) (x y : Operand) (ho : op.op = .store 132 x y) (c : Array Value) (hc : c.size = 32) (sh : Nat → Nat) (hx : a.eval x = .pointer (some ⟨w.heap.size, 0, none⟩)) (hy : a.eval y = .agg (shA sh)) (h : wpList Tryd.prog ops Q rest (a.put op.dst undef) (w.alloc (.cells (shA sh) 132))) : wpList Tryd.prog ops Q (op :: rest) a (w.alloc (.cells c 132)) := by
  refine wpList_plain hgd fun _ hK => ?_
  have hK := hK _ _ h
  unfold Oper.wp execOp
  simp only [ho, hx, hy, Instr.storeAt, Instr.sureAddr, Sem.run_bind, Sem.run_pure, Result.andThen_ok, run_storeVar_new w 132 c (shA sh) (by rw [sh_info, shA_size]) (by rw [hc, shA_size]) (one_sh sh)]
  exact hK
end Go.Proofs.YtjbbbejadhojlaaDoor

namespace Go.Proofs.YtjbbbejadhojlaaDoor
open Go.RowKit
set_option linter.unusedVariables false
set_option linter.unusedSimpArgs false
def V0 (w : World) (sh : Nat → Nat) : World := w.alloc (.cells (shA sh) 132)
def V1 (w : World) (sh : Nat → Nat) (y : Nat) : World := (V0 w sh).alloc (.cells #[.int .u64 ((sh (y * 2) : Nat) : Int), .int .u64 ((sh (y * 2 + 1) : Nat) : Int)] 130)
def V2 (w : World) (sh : Nat → Nat) (y u : Nat) : World := (V1 w sh y).setCell ⟨w.heap.size, y * 2, none⟩ (.int .u64 (u : Int))
def V3 (w : World) (sh : Nat → Nat) (y u v : Nat) : World := (V2 w sh y u).setCell ⟨w.heap.size, y * 2 + 1, none⟩ (.int .u64 (v : Int))
def V4 (w : World) (sh : Nat → Nat) (y u v x j : Nat) : World := (V3 w sh y u v).setCell ⟨x, 2 + j, none⟩ (.pointer (some ⟨w.heap.size, 0, none⟩))
structure KeepF (w : World) (sh : Nat → Nat) (y u v x j : Nat) (p : Option Nat) : Prop where
  a0 : (V0 w sh).cell? ⟨x, 2 + j, none⟩ = some (ptN p)
  a1 : (V0 w sh).cell? ⟨w.heap.size, y * 2, none⟩ = some (.int .u64 ((sh (y * 2) : Nat) : Int))
  a2 : (V0 w sh).cell? ⟨w.heap.size, y * 2 + 1, none⟩ = some (.int .u64 ((sh (y * 2 + 1) : Nat) : Int))
  b0 : ∃ z, (V1 w sh y).cell? ⟨w.heap.size, y * 2, none⟩ = some z
  b1 : (V1 w sh y).frozen? ⟨w.heap.size, y * 2, none⟩ = false
  c0 : ∃ z, (V2 w sh y u).cell? ⟨w.heap.size, y * 2 + 1, none⟩ = some z
  c1 : (V2 w sh y u).frozen? ⟨w.heap.size, y * 2 + 1, none⟩ = false
  d0 : ∃ z, (V3 w sh y u v).cell? ⟨x, 2 + j, none⟩ = some z
  d1 : (V3 w sh y u v).frozen? ⟨x, 2 + j, none⟩ = false
  d2 : BkP (V3 w sh y u v) w.heap.size (shA (shU sh y u v)) 132
theorem keep_facts {w : World} {B : Nat} {G : Tg} {x tb : Nat} {ps : Nat → Option Nat} {s : Vs} (h : SvR w B G x tb ps s) {j y : Nat} (hj : j < 16) (hy : y < 16) (sh : Nat → Nat) (u v : Nat) : KeepF w sh y u v x j (ps j) := by
  have X0 : BkP (V0 w sh) x _ _ := h.box.lat (allocBP _ _)
  have X1 : BkP (V1 w sh y) x _ _ := X0.lat (allocBP _ _)
  have nx : w.heap.size ≠ x := fun e => by have := h.box.lt; omega
  have X2 : BkP (V2 w sh y u) x _ _ := X1.other w.heap.size _ _ nx
  have X3 : BkP (V3 w sh y u v) x _ _ := X2.other w.heap.size _ _ nx
  have C0 : BkP (V0 w sh) w.heap.size (shA sh) 132 := heapN _ _
  have C1 : BkP (V1 w sh y) w.heap.size (shA sh) 132 := C0.lat (allocBP _ _)
  have C2 : BkP (V2 w sh y u) w.heap.size _ _ := C1.set2 (y * 2) (.int .u64 (u : Int)) (by rw [shA_size]; omega)
  have C3 : BkP (V3 w sh y u v) w.heap.size _ _ := C2.set2 (y * 2 + 1) (.int .u64 (v : Int)) (by simp [shA]; omega)
  refine ⟨?_, ?_, ?_, ?_, C1.frozen _, ?_, C2.frozen _, ?_, X3.frozen _, ?_⟩
  · rw [X0.cell, stA_sh _ _ _ _ hj]
  · rw [C0.cell, shA_at _ _ (by omega)]
  · rw [C0.cell, shA_at _ _ (by omega)]
  · exact ⟨_, by rw [C1.cell, shA_at _ _ (by omega)]⟩
  · rw [C2.cell]
    exact ⟨_, Array.getElem?_eq_getElem (by simp [shA]; omega)⟩
  · exact ⟨_, by rw [X3.cell, stA_sh _ _ _ _ hj]⟩
  · rw [shA_upd sh y u v hy] at C3
    exact C3
theorem V3_eq (w : World) (sh : Nat → Nat) (y u v : Nat) : V3 w sh y u v = (w.alloc (.cells (((shA sh).setIfInBounds (y * 2) (.int .u64 (u : Int))).setIfInBounds (y * 2 + 1) (.int .u64 (v : Int))) 132)).alloc (.cells #[.int .u64 ((sh (y * 2) : Nat) : Int), .int .u64 ((sh (y * 2 + 1) : Nat) : Int)] 130) := by
  unfold V3 V2 V1 V0
  go_simp
theorem V2_eq (w : World) (sh : Nat → Nat) (y u : Nat) : V2 w sh y u = (w.alloc (.cells ((shA sh).setIfInBounds (y * 2) (.int .u64 (u : Int))) 132)).alloc (.cells #[.int .u64 ((sh (y * 2) : Nat) : Int), .int .u64 ((sh (y * 2 + 1) : Nat) : Int)] 130) := by
  unfold V2 V1 V0
  go_simp
theorem alloc_sh {ops : Array Oper} {rest : List Oper} {op : Oper} {a : Act} {w : World} {Q : Exit → Act → World → Prop} (hgd : op.guard = none) (ho : op.op = .alloc 132) (h : wpList Tryd.prog ops Q rest (a.put op.dst (.pointer (some ⟨w.heap.size, 0, none⟩))) (w.alloc (.cells (shA (fun _ => 0)) 132))) : wpList Tryd.prog ops Q (op :: rest) a w := by
  rw [← zero_sh] at h
  refine wpList_plain hgd fun _ hK => ?_
  have hK := hK _ _ h
  unfold Oper.wp execOp
  simp only [ho]
  go_simp
  exact hK
structure KeepE (w : World) (B : Nat) (G : Tg) (x : Nat) (s : Vs) (n v : Nat) (e : Ending) (w' : World) : Prop where
  ret : e = .returned (.tuple #[])
  chg : Chg w w' B G G (fun z => z = x)
  sta : ∃ tb ps, SvR w' B G x tb ps ⟨s.st, vKeep s.sl n v⟩
theorem stA_setS (tb h : Nat) (ps : Nat → Option Nat) (j c : Nat) (hj : j < 16) : (stA tb h ps).set! (2 + j) (.pointer (some ⟨c, 0, none⟩)) = stA tb h (fun i => if i = j then some c else ps i) := by
  apply Array.ext_getElem?
  intro k
  rw [Array.set!_eq_setIfInBounds, Array.getElem?_setIfInBounds]
  by_cases hk : k < 18
  · match k with
    | 0 => rw [if_neg (by omega), stA_top, stA_top]
    | 1 => rw [if_neg (by omega), stA_ht, stA_ht]
    | k + 2 =>
      rw [show k + 2 = 2 + k by omega, stA_sh _ _ _ k (by omega), stA_sh _ _ _ k (by omega), stA_size]
      by_cases e : k = j
      · subst e
        rw [if_pos rfl, if_pos (by omega), if_pos rfl]
        rfl
      · rw [if_neg (by omega), if_neg e]
  · rw [if_neg (by omega), Array.getElem?_eq_none (by rw [stA_size]; omega), Array.getElem?_eq_none (by rw [stA_size]; omega)]
theorem keep_mk {w w2 : World} {B : Nat} {G : Tg} {x tb : Nat} {ps : Nat → Option Nat} {s : Vs} (hT : Tri w B G) (h : SvR w B G x tb ps s) (b : Below w.heap.size w w2) (hB : B ≤ w.heap.size) {n : Nat} (hn : n < 16384) (sh : Nat → Nat) (hs : shOk sh) (hf : ∀ m, m < 1024 → s.sl (n / 1024 * 1024 + m) = bitS sh m) {u v t : Nat} (ht : t = 1 ∨ t = 2) (hu : u < 18446744073709551616) (hv : v < 18446744073709551616)
    (bu : ∀ i, i < 64 → u.testBit i = if t = 1 then ((sh (n % 1024 / 64 * 2)).testBit i || decide (i = n % 1024 % 64)) else ((sh (n % 1024 / 64 * 2)).testBit i && !decide (i = n % 1024 % 64)))
    (bv : ∀ i, i < 64 → v.testBit i = if t = 2 then ((sh (n % 1024 / 64 * 2 + 1)).testBit i || decide (i = n % 1024 % 64)) else ((sh (n % 1024 / 64 * 2 + 1)).testBit i && !decide (i = n % 1024 % 64))) :
    KeepE w B G x s n t (.returned (.tuple #[])) (V4 w2 sh (n % 1024 / 64) u v x (n / 1024)) := by
  have hj : n / 1024 < 16 := by omega
  have hy : n % 1024 / 64 < 16 := by omega
  have h2 := h.later b
  have F := keep_facts h2 hj hy sh u v
  obtain ⟨ok, ub⟩ := sheet_upd hs (n0 := n % 1024) (by omega) hu hv ht bu bv
  have nx : w2.heap.size ≠ x := fun e => by have := h2.box.lt; omega
  have X3 : BkP (V3 w2 sh (n % 1024 / 64) u v) x (stA tb s.st.length ps) 61 := ((h2.box.lat (allocBP _ _)).lat (allocBP _ _)).other _ _ _ nx |>.other _ _ _ nx
  have g3 : w2.grownBy (V3 w2 sh (n % 1024 / 64) u v) (some x) := gx_new (gx_new (gx_alloc (gx_alloc (gx_refl _ _) _) _) (Nat.le_refl _) _ _) (Nat.le_refl _) _ _
  have g4 : w2.grownBy (V4 w2 sh (n % 1024 / 64) u v x (n / 1024)) (some x) := gx_at g3 _ _
  have g : w.grownBy (V4 w2 sh (n % 1024 / 64) u v x (n / 1024)) (some x) := gx_trans (gr_below b _) g4
  have C := Chg.ofGrown hT g h.box (by decide) h.low
  have X4 : BkP (V4 w2 sh (n % 1024 / 64) u v x (n / 1024)) x _ _ := X3.set2 (2 + n / 1024) (.pointer (some ⟨w2.heap.size, 0, none⟩)) (by rw [stA_size]; omega)
  rw [stA_setS _ _ _ _ _ hj] at X4
  have D4 : BkP (V4 w2 sh (n % 1024 / 64) u v x (n / 1024)) w2.heap.size _ _ := F.d2.other x _ _ (Ne.symm nx)
  refine ⟨rfl, C, tb, _, ⟨h.top, X4, ?_, h.low⟩⟩
  intro j hj2
  by_cases e : j = n / 1024
  · subst e
    simp only [if_pos]
    refine .inr ⟨w2.heap.size, shU sh (n % 1024 / 64) u v, rfl, Nat.le_trans hB b.size, ⟨D4, ok.1, ok.2⟩, fun m hm => ?_⟩
    rw [ub m hm]
    show vKeep s.sl n t (n / 1024 * 1024 + m) = _
    unfold vKeep
    by_cases e2 : m = n % 1024
    · rw [if_pos e2, if_pos (by omega)]
    · rw [if_neg e2, if_neg (by omega)]
      exact hf m hm
  · have k := (h.slt j hj2).other g h.box (by decide)
    simp only [if_neg e]
    rcases k with ⟨k1, k2⟩ | ⟨b0, s0, k1, k2, k3, k4⟩
    · refine .inl ⟨k1, fun m hm => ?_⟩
      show vKeep s.sl n t (j * 1024 + m) = 0
      unfold vKeep
      rw [if_neg (by omega)]
      exact k2 m hm
    · refine .inr ⟨b0, s0, k1, k2, k3, fun m hm => ?_⟩
      show vKeep s.sl n t (j * 1024 + m) = bitS s0 m
      unfold vKeep
      rw [if_neg (by omega)]
      exact k4 m hm
theorem zero_ok : shOk (fun _ => 0) := ⟨fun _ => (show 0 < 18446744073709551616 by decide), fun g hg i hi => by simp⟩
theorem zero_bit (m : Nat) : bitS (fun _ => 0) m = 0 := by simp [bitS]
theorem vKeep_same {f : Nat → Nat} {n v : Nat} (h : f n = v) : vKeep f n v = f := by
  funext k
  unfold vKeep
  split
  · rename_i e; rw [e]; exact h.symm
  · rfl
set_option maxRecDepth 100000 in
set_option maxHeartbeats 2000000 in
theorem keep_any {w : World} {B : Nat} {G : Tg} {x tb : Nat} {ps : Nat → Option Nat} {s : Vs} (hT : Tri w B G) (h : SvR w B G x tb ps s) (n : Nat) (hn : n < 16384) (t : Nat) (ht : t = 1 ∨ t = 2) (hB : B ≤ w.heap.size) :
    Calls Tryd.prog 42 #[.pointer (some ⟨x, 2, none⟩), .int .i64 (n : Int), .int .u8 (t : Int)] w fun e w' => KeepE w B G x s n t e w' := by
  have K := Lib.hid (kept_any h n hn)
  by_cases e : s.sl n = t
  · have E := Lib.hid (fun W (b : Below w.heap.size w W) => (⟨rfl, (Chg.refl hT).later hB b, tb, ps, by rw [vKeep_same e]; exact h.later b⟩ : KeepE w B G x s n t (.returned (.tuple #[])) W))
    rw [e] at K
    clear h hT hB e
    rcases ht with rfl | rfl
    all_goals
      go_enter Tryd.func42, Tryd.ntmps42
      go_wp2_with (go_at_call 43; refine K.out.mono ?_; rintro e w1 ⟨rfl, h1⟩; have B1 := Lib.hid h1; clear h1)
      refine bodyPost_ret (results_none rfl _ _ _) rfl ?_
      exact E.out _ B1.out
  · have hj : n / 1024 < 16 := by omega
    have hy : n % 1024 / 64 < 16 := by omega
    have ne : ((s.sl n : Int) == (t : Int)) = false := by simp; omega
    have FF := Lib.hid (fun W => find_any W n hn)
    have HH := Lib.hid (fun W (b : Below w.heap.size w W) => h.later b)
    have MK := Lib.hid (fun w2 (b : Below w.heap.size w w2) sh hs hf u v hu hv bu bv => keep_mk hT h b hB hn sh hs hf (u := u) (v := v) ht hu hv bu bv)
    have P := h.slt (n / 1024) hj
    have em : n % 1024 % 64 = n % 64 := by omega
    have hz : n % 64 < 64 := by omega
    rw [em] at MK
    rcases P with ⟨p0, pz⟩ | ⟨b, sh, p0, _, hS, pf⟩
    · rcases ht with rfl | rfl
      · obtain ⟨u, u1, u2, u3⟩ := orV ((fun _ => 0) (n % 1024 / 64 * 2)) (n % 64) (show 0 < 18446744073709551616 by decide) hz
        obtain ⟨v, v1, v2, v3⟩ := andNotV ((fun _ => 0) (n % 1024 / 64 * 2 + 1)) (n % 64) (show 0 < 18446744073709551616 by decide) hz
        have E := Lib.hid (fun w2 (b : Below w.heap.size w w2) => MK.out w2 b (fun _ => 0) zero_ok (fun m hm => by rw [zero_bit]; exact pz m hm) u v u2 v2 (fun i hi => by rw [if_pos rfl]; exact u3 i hi) (fun i hi => by rw [if_neg (by decide)]; exact v3 i hi))
        have KF := Lib.hid (fun w2 (b : Below w.heap.size w w2) => keep_facts (HH.out w2 b) hj hy (fun _ => 0) u v)
        rw [p0] at KF
        clear h hT hB MK HH p0 e u2 u3 v2 v3 em pz
        generalize n / 1024 = j at *
        generalize n % 1024 / 64 = y at *
        generalize n % 64 = z at *
        generalize 2 ^ z = m at *
        clear hz
        simp only [show ((1 : Nat) : Int) = 1 from rfl, show ((2 : Nat) : Int) = 2 from rfl] at ne ⊢
        have k0 : ¬ (j : Int) < 0 := by omega
        have k1 : (j : Int) < 16 := by omega
        have k2 : ¬ (y : Int) < 0 := by omega
        have k3 : (y : Int) < 16 := by omega
        simp only [show ((0 : Nat) : Int) = 0 from rfl] at u1 v1
        go_enter Tryd.func42, Tryd.ntmps42
        go_wp2_with (first | (go_at_call 43; refine K.out.mono ?_; rintro e w1 ⟨rfl, h1⟩; have B1 := Lib.hid h1; clear h1) | (go_at_call 65; refine (FF.out w1).mono ?_; rintro e w2 ⟨rfl, h1⟩; have B2 := Lib.hid (B1.out.trans (h1.mono B1.out.size)); clear h1; obtain ⟨a0, a1, a2, ⟨zb, b0⟩, b1, ⟨zc, c0⟩, c1, ⟨zd, d0⟩, d1, _⟩ := KF.out w2 B2.out; rw [V3_eq] at d0 d1; rw [V2_eq] at c0 c1; simp only [V0, V1, V2, show ((0 : Nat) : Int) = 0 from rfl, ptN, Option.map_none] at a0 a1 a2 b0 b1 c0 c1 d0 d1) | (with_reducible show wpList _ _ _ (Oper.mk _ (Op.alloc 132) _ _ _ _ :: _) _ _; refine alloc_sh rfl rfl ?_))
        go_end0
        have EE := E.out w2 B2.out
        unfold V4 at EE
        rw [V3_eq] at EE
        simp only [show ((0 : Nat) : Int) = 0 from rfl] at EE
        exact EE
      · obtain ⟨u, u1, u2, u3⟩ := andNotV ((fun _ => 0) (n % 1024 / 64 * 2)) (n % 64) (show 0 < 18446744073709551616 by decide) hz
        obtain ⟨v, v1, v2, v3⟩ := orV ((fun _ => 0) (n % 1024 / 64 * 2 + 1)) (n % 64) (show 0 < 18446744073709551616 by decide) hz
        have E := Lib.hid (fun w2 (b : Below w.heap.size w w2) => MK.out w2 b (fun _ => 0) zero_ok (fun m hm => by rw [zero_bit]; exact pz m hm) u v u2 v2 (fun i hi => by rw [if_neg (by decide)]; exact u3 i hi) (fun i hi => by rw [if_pos rfl]; exact v3 i hi))
        have KF := Lib.hid (fun w2 (b : Below w.heap.size w w2) => keep_facts (HH.out w2 b) hj hy (fun _ => 0) u v)
        rw [p0] at KF
        clear h hT hB MK HH p0 e u2 u3 v2 v3 em pz
        generalize n / 1024 = j at *
        generalize n % 1024 / 64 = y at *
        generalize n % 64 = z at *
        generalize 2 ^ z = m at *
        clear hz
        simp only [show ((1 : Nat) : Int) = 1 from rfl, show ((2 : Nat) : Int) = 2 from rfl] at ne ⊢
        have k0 : ¬ (j : Int) < 0 := by omega
        have k1 : (j : Int) < 16 := by omega
        have k2 : ¬ (y : Int) < 0 := by omega
        have k3 : (y : Int) < 16 := by omega
        simp only [show ((0 : Nat) : Int) = 0 from rfl] at u1 v1
        go_enter Tryd.func42, Tryd.ntmps42
        go_wp2_with (first | (go_at_call 43; refine K.out.mono ?_; rintro e w1 ⟨rfl, h1⟩; have B1 := Lib.hid h1; clear h1) | (go_at_call 65; refine (FF.out w1).mono ?_; rintro e w2 ⟨rfl, h1⟩; have B2 := Lib.hid (B1.out.trans (h1.mono B1.out.size)); clear h1; obtain ⟨a0, a1, a2, ⟨zb, b0⟩, b1, ⟨zc, c0⟩, c1, ⟨zd, d0⟩, d1, _⟩ := KF.out w2 B2.out; rw [V3_eq] at d0 d1; rw [V2_eq] at c0 c1; simp only [V0, V1, V2, show ((0 : Nat) : Int) = 0 from rfl, ptN, Option.map_none] at a0 a1 a2 b0 b1 c0 c1 d0 d1) | (with_reducible show wpList _ _ _ (Oper.mk _ (Op.alloc 132) _ _ _ _ :: _) _ _; refine alloc_sh rfl rfl ?_))
        go_end0
        have EE := E.out w2 B2.out
        unfold V4 at EE
        rw [V3_eq] at EE
        simp only [show ((0 : Nat) : Int) = 0 from rfl] at EE
        exact EE
    · rcases ht with rfl | rfl
      · obtain ⟨u, u1, u2, u3⟩ := orV (sh (n % 1024 / 64 * 2)) (n % 64) (hS.sz _) hz
        obtain ⟨v, v1, v2, v3⟩ := andNotV (sh (n % 1024 / 64 * 2 + 1)) (n % 64) (hS.sz _) hz
        have E := Lib.hid (fun w2 (b : Below w.heap.size w w2) => MK.out w2 b sh ⟨hS.sz, hS.ap⟩ pf u v u2 v2 (fun i hi => by rw [if_pos rfl]; exact u3 i hi) (fun i hi => by rw [if_neg (by decide)]; exact v3 i hi))
        have KF := Lib.hid (fun w2 (b : Below w.heap.size w w2) => keep_facts (HH.out w2 b) hj hy sh u v)
        have KZ := Lib.hid (fun w2 (b : Below w.heap.size w w2) => (keep_facts (HH.out w2 b) hj hy (fun _ => 0) u v).a0)
        have SB := Lib.hid (fun w2 (bb : Below w.heap.size w w2) => ((hS.later bb).box.lat (allocBP w2 (.cells (shA (fun _ => 0)) 132))))
        simp only [V0] at KZ
        rw [p0] at KF KZ
        clear h hT hB MK HH p0 e u2 u3 v2 v3 em pf hS
        generalize n / 1024 = j at *
        generalize n % 1024 / 64 = y at *
        generalize n % 64 = z at *
        generalize 2 ^ z = m at *
        clear hz
        simp only [show ((1 : Nat) : Int) = 1 from rfl, show ((2 : Nat) : Int) = 2 from rfl] at ne ⊢
        have k0 : ¬ (j : Int) < 0 := by omega
        have k1 : (j : Int) < 16 := by omega
        have k2 : ¬ (y : Int) < 0 := by omega
        have k3 : (y : Int) < 16 := by omega
        go_enter Tryd.func42, Tryd.ntmps42
        go_wp2_with (first | (go_at_call 43; refine K.out.mono ?_; rintro e w1 ⟨rfl, h1⟩; have B1 := Lib.hid h1; clear h1) | (go_at_call 65; refine (FF.out w1).mono ?_; rintro e w2 ⟨rfl, h1⟩; have B2 := Lib.hid (B1.out.trans (h1.mono B1.out.size)); clear h1; obtain ⟨a0, a1, a2, ⟨zb, b0⟩, b1, ⟨zc, c0⟩, c1, ⟨zd, d0⟩, d1, _⟩ := KF.out w2 B2.out; have q0 := KZ.out w2 B2.out; have SB2 := Lib.hid (SB.out w2 B2.out); rw [V3_eq] at d0 d1; rw [V2_eq] at c0 c1; simp only [V0, V1, V2, ptN, Option.map_some] at a0 a1 a2 b0 b1 c0 c1 d0 d1 q0) | (with_reducible show wpList _ _ _ (Oper.mk _ (Op.alloc 132) _ _ _ _ :: _) _ _; refine alloc_sh rfl rfl ?_) | (with_reducible show wpList _ _ _ (Oper.mk _ (Op.load 132 _) _ _ _ _ :: _) _ _; refine load_sh rfl _ rfl b rfl sh SB2.out ?_) | (with_reducible show wpList _ _ _ (Oper.mk _ (Op.store 132 _ _) _ _ _ _ :: _) _ _; refine store_sh rfl _ _ rfl _ rfl sh rfl rfl ?_))
        go_end0
        have EE := E.out w2 B2.out
        unfold V4 at EE
        rw [V3_eq] at EE
        exact EE
      · obtain ⟨u, u1, u2, u3⟩ := andNotV (sh (n % 1024 / 64 * 2)) (n % 64) (hS.sz _) hz
        obtain ⟨v, v1, v2, v3⟩ := orV (sh (n % 1024 / 64 * 2 + 1)) (n % 64) (hS.sz _) hz
        have E := Lib.hid (fun w2 (b : Below w.heap.size w w2) => MK.out w2 b sh ⟨hS.sz, hS.ap⟩ pf u v u2 v2 (fun i hi => by rw [if_neg (by decide)]; exact u3 i hi) (fun i hi => by rw [if_pos rfl]; exact v3 i hi))
        have KF := Lib.hid (fun w2 (b : Below w.heap.size w w2) => keep_facts (HH.out w2 b) hj hy sh u v)
        have KZ := Lib.hid (fun w2 (b : Below w.heap.size w w2) => (keep_facts (HH.out w2 b) hj hy (fun _ => 0) u v).a0)
        have SB := Lib.hid (fun w2 (bb : Below w.heap.size w w2) => ((hS.later bb).box.lat (allocBP w2 (.cells (shA (fun _ => 0)) 132))))
        simp only [V0] at KZ
        rw [p0] at KF KZ
        clear h hT hB MK HH p0 e u2 u3 v2 v3 em pf hS
        generalize n / 1024 = j at *
        generalize n % 1024 / 64 = y at *
        generalize n % 64 = z at *
        generalize 2 ^ z = m at *
        clear hz
        simp only [show ((1 : Nat) : Int) = 1 from rfl, show ((2 : Nat) : Int) = 2 from rfl] at ne ⊢
        have k0 : ¬ (j : Int) < 0 := by omega
        have k1 : (j : Int) < 16 := by omega
        have k2 : ¬ (y : Int) < 0 := by omega
        have k3 : (y : Int) < 16 := by omega
        go_enter Tryd.func42, Tryd.ntmps42
        go_wp2_with (first | (go_at_call 43; refine K.out.mono ?_; rintro e w1 ⟨rfl, h1⟩; have B1 := Lib.hid h1; clear h1) | (go_at_call 65; refine (FF.out w1).mono ?_; rintro e w2 ⟨rfl, h1⟩; have B2 := Lib.hid (B1.out.trans (h1.mono B1.out.size)); clear h1; obtain ⟨a0, a1, a2, ⟨zb, b0⟩, b1, ⟨zc, c0⟩, c1, ⟨zd, d0⟩, d1, _⟩ := KF.out w2 B2.out; have q0 := KZ.out w2 B2.out; have SB2 := Lib.hid (SB.out w2 B2.out); rw [V3_eq] at d0 d1; rw [V2_eq] at c0 c1; simp only [V0, V1, V2, ptN, Option.map_some] at a0 a1 a2 b0 b1 c0 c1 d0 d1 q0) | (with_reducible show wpList _ _ _ (Oper.mk _ (Op.alloc 132) _ _ _ _ :: _) _ _; refine alloc_sh rfl rfl ?_) | (with_reducible show wpList _ _ _ (Oper.mk _ (Op.load 132 _) _ _ _ _ :: _) _ _; refine load_sh rfl _ rfl b rfl sh SB2.out ?_) | (with_reducible show wpList _ _ _ (Oper.mk _ (Op.store 132 _ _) _ _ _ _ :: _) _ _; refine store_sh rfl _ _ rfl _ rfl sh rfl rfl ?_))
        go_end0
        have EE := E.out w2 B2.out
        unfold V4 at EE
        rw [V3_eq] at EE
        exact EE
end Go.Proofs.YtjbbbejadhojlaaDoor

namespace Go.Proofs.YtjbbbejadhojlaaDoor
open Go.RowKit
set_option linter.unusedVariables false
set_option linter.unusedSimpArgs false
def shI (a b : Nat → Nat) : Nat → Nat := fun k => a k &&& b k
def shK (a b : Nat → Nat) (k : Nat) : Nat → Nat := fun i => if i < 2 * k then a i &&& b i else 0
theorem shK_next (a b : Nat → Nat) (k : Nat) (hk : k < 16) : ((shA (shK a b k)).set! (k * 2) (.int .u64 ((a (k * 2) &&& b (k * 2) : Nat) : Int))).set! (k * 2 + 1) (.int .u64 ((a (k * 2 + 1) &&& b (k * 2 + 1) : Nat) : Int)) = shA (shK a b (k + 1)) := by
  rw [shA_upd _ _ _ _ hk]
  apply congrArg shA
  funext i
  unfold shU shK
  by_cases e0 : i = k * 2
  · subst e0; rw [if_pos rfl, if_pos (by omega)]
  · by_cases e1 : i = k * 2 + 1
    · subst e1; rw [if_neg (by omega), if_pos rfl, if_pos (by omega)]
    · rw [if_neg e0, if_neg e1]
      by_cases l : i < 2 * k
      · rw [if_pos l, if_pos (by omega)]
      · rw [if_neg l, if_neg (by omega)]
theorem shK_end (a b : Nat → Nat) : shA (shK a b 16) = shA (shI a b) := by
  unfold shA shK shI
  refine congrArg List.toArray ?_
  apply List.map_congr_left
  intro i hi
  have := List.mem_range.1 hi
  rw [if_pos (by omega)]
theorem shI_ok {a b : Nat → Nat} (ha : shOk a) (hb : shOk b) : shOk (shI a b) := by
  refine ⟨fun k => Nat.lt_of_le_of_lt Nat.and_le_left (ha.1 k), fun g hg i hi h => ?_⟩
  unfold shI at h
  rw [Nat.testBit_and, Nat.testBit_and] at h
  simp only [Bool.and_eq_true] at h
  exact ha.2 g hg i hi ⟨h.1.1, h.2.1⟩
/-- What two sheets share. -/
theorem bitS_and {a b : Nat → Nat} (ha : shOk a) (hb : shOk b) (m : Nat) (hm : m < 1024) : bitS (shI a b) m = if bitS a m = bitS b m then bitS a m else 0 := by
  have p := ha.2 (m / 64) (by omega) (m % 64) (by omega)
  have q := hb.2 (m / 64) (by omega) (m % 64) (by omega)
  unfold bitS shI
  rw [Nat.testBit_and, Nat.testBit_and]
  generalize (a (m / 64 * 2)).testBit (m % 64) = a0 at *
  generalize (a (m / 64 * 2 + 1)).testBit (m % 64) = a1 at *
  generalize (b (m / 64 * 2)).testBit (m % 64) = b0 at *
  generalize (b (m / 64 * 2 + 1)).testBit (m % 64) = b1 at *
  cases a0 <;> cases a1 <;> cases b0 <;> cases b1 <;> simp at p q ⊢
theorem bitS_congr {a b : Nat → Nat} (h : ∀ k, k < 32 → a k = b k) (m : Nat) (hm : m < 1024) : bitS a m = bitS b m := by
  unfold bitS
  rw [h _ (by omega), h _ (by omega)]
theorem shA_inj {a b : Nat → Nat} (h : shA a = shA b) (k : Nat) (hk : k < 32) : a k = b k := by
  have := congrArg (fun x : Array Value => x[k]?) h
  simp only [shA_at _ _ hk] at this
  injection this with e
  injection e with _ e
  omega
/-- What common answers. -/
structure ComE (w : World) (B : Nat) (f g : Nat → Nat) (e : Ending) (w' : World) : Prop where
  ret : ∃ r, e = .returned (ptN r) ∧ PaR w' B r (fun m => if f m = g m then f m else 0)
  bel : Below w.heap.size w w'
theorem PaR.congr {w : World} {B : Nat} {p : Option Nat} {f g : Nat → Nat} (h : PaR w B p f) (e : ∀ m, m < 1024 → g m = f m) : PaR w B p g := by
  rcases h with ⟨h1, h2⟩ | ⟨b, sh, h1, h2, h3, h4⟩
  · exact .inl ⟨h1, fun m hm => by rw [e m hm]; exact h2 m hm⟩
  · exact .inr ⟨b, sh, h1, h2, h3, fun m hm => by rw [e m hm]; exact h4 m hm⟩
theorem PaR.same {w : World} {B : Nat} {p : Option Nat} {f g : Nat → Nat} (h : PaR w B p f) (k : PaR w B p g) (m : Nat) (hm : m < 1024) : f m = g m := by
  rcases h with ⟨h1, h2⟩ | ⟨b, sh, h1, h2, h3, h4⟩
  · rcases k with ⟨k1, k2⟩ | ⟨b', sh', k1, k2, k3, k4⟩
    · rw [h2 m hm, k2 m hm]
    · rw [h1] at k1; cases k1
  · rcases k with ⟨k1, k2⟩ | ⟨b', sh', k1, k2, k3, k4⟩
    · rw [h1] at k1; cases k1
    · rw [h1] at k1
      injection k1 with k1
      subst k1
      have e := h3.box.symm.trans k3.box
      injection e with e
      injection e with e _
      rw [h4 m hm, k4 m hm]
      exact bitS_congr (shA_inj e) m hm
theorem PaR.blk {w : World} {B : Nat} {p : Option Nat} {f : Nat → Nat} (h : PaR w B p f) : ∀ b, p = some b → ∃ c u, BkP w b c u := by
  intro b e
  rcases h with ⟨h1, _⟩ | ⟨b', sh, h1, h2, h3, h4⟩
  · rw [h1] at e; cases e
  · rw [h1] at e
    injection e with e
    subst e
    exact ⟨_, _, h3.box⟩
theorem and_bits (u v : Nat) (hu : u < 18446744073709551616) (hv : v < 18446744073709551616) : bits .and .u64 (u : Int) (v : Int) = ((u &&& v : Nat) : Int) := u64_and_nat u v hu hv
theorem sheet_info2 : ∃ i, Tryd.prog.info? 132 = some i := info_of_underlying (P := Tryd.prog) (d := .array 16 130) (by kernel_rfl)
set_option maxRecDepth 100000 in
set_option maxHeartbeats 2000000 in
theorem common_easy {w : World} {B : Nat} {p q : Option Nat} {f g : Nat → Nat} (hp : PaR w B p f) (hq : PaR w B q g) (he : p = q ∨ p = none ∨ q = none) :
    Calls Tryd.prog 79 #[ptN p, ptN q] w fun e w' => ComE w B f g e w' := by
  obtain ⟨i, hi⟩ := sheet_info2
  have E0 := eq_ptr (P := Tryd.prog) (w := w) (d := 9999) (t := 57) (te := 132) (i := i) (by kernel_rfl) hi (by rw [show Tryd.prog.cellsOf 132 = 32 by kernel_rfl]; decide) p q hp.blk hq.blk
  simp only [Nat.reduceAdd] at E0
  have E1 := bin_ptr E0
  by_cases e : p = q
  · subst e
    have E := Lib.hid (⟨⟨p, rfl, hp.congr (fun m hm => by rw [if_pos (hp.same hq m hm)])⟩, Below.refl _ _⟩ : ComE w B f g (.returned (ptN p)) w)
    simp only [decide_true] at E0 E1
    clear hp hq he hi
    cases p with
    | none =>
      simp only [ptN, Option.map_none] at *
      go_enter Tryd.func79, Tryd.ntmps79
      go_wp2
      go_ret
      exact E.out
    | some b =>
      simp only [ptN, Option.map_some] at *
      go_enter Tryd.func79, Tryd.ntmps79
      go_wp2
      go_ret
      exact E.out
  · have h0 : ∀ m, m < 1024 → (if f m = g m then f m else 0) = 0 := by
      intro m hm
      rcases he with he | he | he
      · exact absurd he e
      · rcases hp with ⟨_, h2⟩ | ⟨b, sh, h1, _⟩
        · rw [h2 m hm]; simp
        · rw [he] at h1; cases h1
      · rcases hq with ⟨_, h2⟩ | ⟨b, sh, h1, _⟩
        · rw [h2 m hm]; split <;> simp_all
        · rw [he] at h1; cases h1
    have E := Lib.hid (⟨⟨none, rfl, .inl ⟨rfl, h0⟩⟩, Below.refl _ _⟩ : ComE w B f g (.returned (ptN none)) w)
    simp only [decide_eq_false e] at E0 E1
    clear hp hq hi h0
    cases p with
    | none =>
      cases q with
      | none => exact absurd rfl e
      | some b =>
        clear e he
        simp only [ptN, Option.map_none, Option.map_some] at *
        go_enter Tryd.func79, Tryd.ntmps79
        go_wp2
        go_ret
        exact E.out
    | some b =>
      cases q with
      | none =>
        clear e he
        simp only [ptN, Option.map_none, Option.map_some] at *
        go_enter Tryd.func79, Tryd.ntmps79
        go_wp2
        go_ret
        exact E.out
      | some c => exact absurd he (by simpa using e)
end Go.Proofs.YtjbbbejadhojlaaDoor
