import Derived.Test.YtjbbbejadhojlaaDoorXAO
import Derived.WalkMore
namespace Go.Proofs.YtjbbbejadhojlaaDoor
open Go.RowKit
set_option linter.unusedVariables false
set_option linter.unusedSimpArgs false
theorem infoPtV : (Tryd.prog.info? 62).map (fun i => (i.zero, i.size, i.bytes)) = some (some (.pointer none), 1, 8) := by kernel_rfl
theorem make_ptrs (n : Nat) (hn : n ≤ 262144) (W : World) : (Instr.makeSlice 63 (.int .i64 (n : Int)) (.int .i64 (n : Int))).run Tryd.prog W = .ok (.slice (some ⟨W.heap.size, 0, none⟩) n n) (W.alloc (.cells (madeCells #[.pointer none] n) 62)) := by
  obtain ⟨i0, hi, hz0, hz1, hz2⟩ := info_parts infoPtV
  have := run_make (P := Tryd.prog) W 63 62 i0 _ Tryd.underlying63 hi hz0 .i64 .i64 n n (by omega) (by omega) (by rw [hz2]; omega) (by omega)
  rw [hz1] at this
  simpa [Value.cells] using this
theorem made_ptrs (n : Nat) : madeCells #[.pointer none] n = ahA (fun _ => none) n := by
  apply Array.ext_getElem?
  intro k
  by_cases hk : k < n
  · rw [ahA_at _ _ _ hk]
    unfold madeCells
    simp [hk, ptN, Nat.mod_one]
  · rw [Array.getElem?_eq_none (by simp [madeCells]; omega), Array.getElem?_eq_none (by rw [ahA_size]; omega)]
abbrev rootO : Obj := .cells #[.int .u8 0, .pointer none, .pointer none, .pointer none, .pointer none] 78
abbrev st0O (r : Nat) : Obj := .cells #[.pointer (some ⟨r, 0, none⟩), .int .i64 0, .pointer none, .pointer none, .pointer none, .pointer none, .pointer none, .pointer none, .pointer none, .pointer none, .pointer none, .pointer none, .pointer none, .pointer none, .pointer none, .pointer none, .pointer none, .pointer none] 61
theorem enter_mk {V : World} {B wb ab : Nat} {day : Int} {ca : Option Addr} {cc n : Nat} (h1 : BkP V wb #[.int .i64 day, .slice ca n cc, .slice (some ⟨ab, 0, none⟩) n n] 65) (h2 : BkP V ab (ahA (fun _ => none) n) 62) (b1 : B ≤ wb) (b2 : B ≤ ab) (b3 : B ≤ V.heap.size) (hn : 0 < n) :
    ∃ G A, WkR (((V.alloc rootO).alloc (st0O V.heap.size)).setCell ⟨ab, 0, none⟩ (.pointer (some ⟨V.heap.size + 1, 0, none⟩))) B wb ab day ca cc n G A vStart := by
  have s1 : (V.alloc rootO).heap.size = V.heap.size + 1 := by simp
  have r0 : BkP (V.alloc rootO) V.heap.size #[.int .u8 0, .pointer none, .pointer none, .pointer none, .pointer none] 78 := heapN _ _
  have r1 := r0.lat (allocBP _ (st0O V.heap.size))
  have t1 : BkP ((V.alloc rootO).alloc (st0O V.heap.size)) (V.heap.size + 1) (stA V.heap.size 0 (fun _ => none)) 61 := by
    have := heapN (V.alloc rootO) (st0O V.heap.size)
    rw [s1] at this
    exact this
  have w1 := (h1.lat (allocBP _ rootO)).lat (allocBP _ (st0O V.heap.size))
  have a1 := (h2.lat (allocBP _ rootO)).lat (allocBP _ (st0O V.heap.size))
  have na : ab < V.heap.size := h2.lt
  have nw : wb ≠ ab := bk_ne h1 h2 (by decide)
  refine ⟨fun s => if s = [] then some V.heap.size else none, fun j => if j = 0 then some (V.heap.size + 1) else none, ?_, w1.other ab _ _ (Ne.symm nw), ?_, ?_, ?_, ⟨b1, b2⟩, vStart_ok⟩
  · refine ⟨⟨V.heap.size, by simp⟩, ?_, ?_, ?_⟩
    · intro s b e
      by_cases hs : s = []
      · subst hs
        simp at e
        subst e
        refine ⟨b3, ?_⟩
        have := r1.other ab 0 (.pointer (some ⟨V.heap.size + 1, 0, none⟩)) (by omega)
        simpa [cellA, blwN, ptN] using this
      · simp [hs] at e
    · intro s t b e1 e2
      by_cases hs : s = [] <;> by_cases ht : t = []
      · rw [hs, ht]
      · simp [ht] at e2
      · simp [hs] at e1
      · simp [hs] at e1
    · intro x s b e
      simp at e
  · have := a1.set2 0 (.pointer (some ⟨V.heap.size + 1, 0, none⟩)) (by rw [ahA_size]; exact hn)
    rw [ahA_set _ _ _ _ hn] at this
    have e : (fun i => if i = 0 then some (V.heap.size + 1) else (fun _ => none) i) = (fun j => if j = 0 then some (V.heap.size + 1) else (none : Option Nat)) := rfl
    rw [e] at this
    exact this
  · intro j hj
    by_cases e : j = 0
    · subst e
      refine .inr ⟨V.heap.size + 1, ⟨[], fun _ => 0⟩, V.heap.size, fun _ => none, by simp [vStart], by simp, by simp, t1.other ab _ _ (by omega), ?_, by omega⟩
      intro j hj
      exact .inl ⟨rfl, fun m hm => rfl⟩
    · exact .inl ⟨by simp [vStart, e], by simp [e]⟩
  · intro i j x hi hj e1 e2
    by_cases h1 : i = 0 <;> by_cases h2 : j = 0
    · rw [h1, h2]
    · simp [h2] at e2
    · simp [h1] at e1
    · simp [h1] at e1
structure EnE (w : World) (B : Nat) (day : Int) (ca : Option Addr) (cc n : Nat) (e : Ending) (w' : World) : Prop where
  ret : ∃ wb ab G A, e = .returned (.pointer (some ⟨wb, 0, none⟩)) ∧ WkR w' B wb ab day ca cc n G A vStart
  bel : Below w.heap.size w w'
theorem enter_world (w : World) (day : Int) (ca : Option Addr) (cc n : Nat) :
    BkP ((((w.alloc (.cells #[.int .i64 day, .slice ca n cc] 43)).alloc (.cells (madeCells #[.pointer none] n) 62)).alloc (.cells #[.int .i64 day, .slice ca n cc, .slice (some ⟨w.heap.size + 1, 0, none⟩) n n] 65)).drew) (w.heap.size + 1 + 1) #[.int .i64 day, .slice ca n cc, .slice (some ⟨w.heap.size + 1, 0, none⟩) n n] 65 ∧
    BkP ((((w.alloc (.cells #[.int .i64 day, .slice ca n cc] 43)).alloc (.cells (madeCells #[.pointer none] n) 62)).alloc (.cells #[.int .i64 day, .slice ca n cc, .slice (some ⟨w.heap.size + 1, 0, none⟩) n n] 65)).drew) (w.heap.size + 1) (ahA (fun _ => none) n) 62 ∧
    ((((w.alloc (.cells #[.int .i64 day, .slice ca n cc] 43)).alloc (.cells (madeCells #[.pointer none] n) 62)).alloc (.cells #[.int .i64 day, .slice ca n cc, .slice (some ⟨w.heap.size + 1, 0, none⟩) n n] 65)).drew).heap.size = w.heap.size + 3 ∧
    Below w.heap.size w ((((w.alloc (.cells #[.int .i64 day, .slice ca n cc] 43)).alloc (.cells (madeCells #[.pointer none] n) 62)).alloc (.cells #[.int .i64 day, .slice ca n cc, .slice (some ⟨w.heap.size + 1, 0, none⟩) n n] 65)).drew) := by
  have e1 : (w.alloc (.cells #[.int .i64 day, .slice ca n cc] 43)).heap.size = w.heap.size + 1 := by simp
  have e2 : ((w.alloc (.cells #[.int .i64 day, .slice ca n cc] 43)).alloc (.cells (madeCells #[.pointer none] n) 62)).heap.size = w.heap.size + 1 + 1 := by simp
  have k1 := heapN (w.alloc (.cells #[.int .i64 day, .slice ca n cc] 43)) (.cells (madeCells #[.pointer none] n) 62)
  have k2 := heapN ((w.alloc (.cells #[.int .i64 day, .slice ca n cc] 43)).alloc (.cells (madeCells #[.pointer none] n) 62)) (.cells #[.int .i64 day, .slice ca n cc, .slice (some ⟨w.heap.size + 1, 0, none⟩) n n] 65)
  rw [e1, made_ptrs] at k1
  rw [e2] at k2
  refine ⟨k2, ?_, by simp, ?_⟩
  · have k3 : BkP ((w.alloc (.cells #[.int .i64 day, .slice ca n cc] 43)).alloc (.cells (madeCells #[.pointer none] n) 62)) (w.heap.size + 1) (ahA (fun _ => none) n) 62 := by rw [made_ptrs]; exact k1
    exact (k3.lat (allocBP _ _)).lat (drew1B _)
  · exact ((((Below.refl _ w).alloc (Nat.le_refl _) _).alloc (by simp) _).alloc (by simp; omega) _).drew
set_option maxRecDepth 100000 in
set_option maxHeartbeats 800000 in
theorem enter_any {w : World} {B : Nat} {day : Int} {ca : Option Addr} {cc n : Nat} (hB : B ≤ w.heap.size) (hn : 0 < n) (h2 : n ≤ 262144) :
    Calls Tryd.prog 16 #[.agg #[.int .i64 day, .slice ca n cc]] w fun e w' => EnE w B day ca cc n e w' := by
  have M0 := make_ptrs n h2
  have k1 : (0 : Int) < (n : Int) := by omega
  have HB := Lib.hid hB
  have HN := Lib.hid hn
  clear hB hn h2
  go_enter Tryd.func16, Tryd.ntmps16
  go_wp2
  go_region
  have VF := enter_world w day ca cc n
  generalize hV : (((w.alloc (.cells #[.int .i64 day, .slice ca n cc] 43)).alloc (.cells (madeCells #[.pointer none] n) 62)).alloc (.cells #[.int .i64 day, .slice ca n cc, .slice (some ⟨w.heap.size + 1, 0, none⟩) n n] 65)).drew = V at *
  clear hV
  obtain ⟨f1, f2, f3, f4⟩ := VF
  have E := Lib.hid (enter_mk f1 f2 (B := B) (by have := HB.out; omega) (by have := HB.out; omega) (by have := HB.out; omega) HN.out)
  have BB := Lib.hid f4
  have c2 := f1.cell 2
  simp at c2
  have a1 := (f2.lat (allocBP _ rootO)).lat (allocBP _ (st0O V.heap.size))
  have d := a1.cell 0
  have f := a1.frozen 0
  rw [ahA_at _ _ _ HN.out] at d
  simp only [ptN, Option.map_none] at d
  unfold rootO st0O at *
  clear f1 f2 f3 f4 a1
  go_wp2
  go_ret
  obtain ⟨G, A, e⟩ := E.out
  exact ⟨⟨_, _, G, A, rfl, e⟩, ((BB.out.alloc BB.out.size _).alloc (Nat.le_trans BB.out.size (allocBP V _).size) _).setCell (p := ⟨w.heap.size + 1, 0, none⟩) (Nat.le_succ _) _⟩
end Go.Proofs.YtjbbbejadhojlaaDoor

namespace Go.Proofs.YtjbbbejadhojlaaDoor
open Go.RowKit
set_option linter.unusedVariables false
set_option linter.unusedSimpArgs false
def ndA (n : Nds) : Array Value := #[.int .i64 n.stack, .int .i64 n.fuel, .int .i64 n.back, .int .i64 n.slots, .int .i64 n.cells]
theorem boxV5 {w : World} {x : Nat} {a b c d e : Value} {t : TypeId} (k : BkP w x #[a, b, c, d, e] t) : w.cell? ⟨x, 0, none⟩ = some a ∧ w.cell? ⟨x, 1, none⟩ = some b ∧ w.cell? ⟨x, 2, none⟩ = some c ∧ w.cell? ⟨x, 3, none⟩ = some d ∧ w.cell? ⟨x, 4, none⟩ = some e := by
  refine ⟨?_, ?_, ?_, ?_, ?_⟩ <;> simp [k.cell]
theorem frzV5 {w : World} {x : Nat} {cs : Array Value} {t : TypeId} (k : BkP w x cs t) : w.frozen? ⟨x, 0, none⟩ = false ∧ w.frozen? ⟨x, 1, none⟩ = false ∧ w.frozen? ⟨x, 2, none⟩ = false ∧ w.frozen? ⟨x, 3, none⟩ = false ∧ w.frozen? ⟨x, 4, none⟩ = false := ⟨k.frozen 0, k.frozen 1, k.frozen 2, k.frozen 3, k.frozen 4⟩
structure SeeE (w : World) (nb : Nat) (nd : Nds) (i : In) (h : Nat) (e : Ending) (w' : World) : Prop where
  ret : e = .returned (.tuple #[])
  box : BkP w' nb (ndA (vSee nd i h)) 47
  gro : w.grownBy w' (some nb)
/-- The boxes while see goes on. -/
theorem see_box {w : World} {nb : Nat} {st fu ba sl ce m : Int} {k a b : Nat} (hb : BkP w nb #[.int .i64 st, .int .i64 fu, .int .i64 ba, .int .i64 sl, .int .i64 ce] 47) :
    BkP (w.alloc (ibx k a b)) nb #[.int .i64 st, .int .i64 fu, .int .i64 ba, .int .i64 sl, .int .i64 ce] 47 ∧
    BkP ((w.alloc (ibx k a b)).setCell ⟨nb, 1, none⟩ (.int .i64 (fu + 1))) nb #[.int .i64 st, .int .i64 (fu + 1), .int .i64 ba, .int .i64 sl, .int .i64 ce] 47 ∧
    BkP (((w.alloc (ibx k a b)).setCell ⟨nb, 1, none⟩ (.int .i64 (fu + 1))).setCell ⟨nb, 0, none⟩ (.int .i64 m)) nb #[.int .i64 m, .int .i64 (fu + 1), .int .i64 ba, .int .i64 sl, .int .i64 ce] 47 ∧
    BkP (((w.alloc (ibx k a b)).setCell ⟨nb, 1, none⟩ (.int .i64 (fu + 1))).setCell ⟨nb, 0, none⟩ (.int .i64 m)) w.heap.size #[.int .i64 (k : Int), .int .i64 (a : Int), .int .i64 (b : Int)] 51 ∧
    w.grownBy (((w.alloc (ibx k a b)).setCell ⟨nb, 1, none⟩ (.int .i64 (fu + 1))).setCell ⟨nb, 0, none⟩ (.int .i64 m)) (some nb) := by
  have n1 : nb ≠ w.heap.size := fun e => by have := hb.lt; omega
  have b0 := hb.lat (allocBP w (ibx k a b))
  have b1 := b0.set2 1 (.int .i64 (fu + 1)) (by simp)
  have b2 := b1.set2 0 (.int .i64 m) (by simp)
  have i0 : BkP (w.alloc (ibx k a b)) w.heap.size #[.int .i64 (k : Int), .int .i64 (a : Int), .int .i64 (b : Int)] 51 := heapN _ _
  refine ⟨b0, by simpa using b1, by simpa using b2, (i0.other nb _ _ n1).other nb _ _ n1, gx_at (gx_at (gx_alloc (gx_refl _ _) _) _ _) _ _⟩
theorem see_f2 {W : World} {x : Nat} {a b c d e : Value} {t : TypeId} (h : BkP W x #[a, b, c, d, e] t) (v : Value) : BkP (W.setCell ⟨x, 2, none⟩ v) x #[a, b, v, d, e] t := by
  have := h.set2 2 v (by simp)
  simpa using this
theorem see_f3 {W : World} {x : Nat} {a b c d e : Value} {t : TypeId} (h : BkP W x #[a, b, c, d, e] t) (v : Value) : BkP (W.setCell ⟨x, 3, none⟩ v) x #[a, b, c, v, e] t := by
  have := h.set2 3 v (by simp)
  simpa using this
theorem see_f4 {W : World} {x : Nat} {a b c d e : Value} {t : TypeId} (h : BkP W x #[a, b, c, d, e] t) (v : Value) : BkP (W.setCell ⟨x, 4, none⟩ v) x #[a, b, c, d, v] t := by
  have := h.set2 4 v (by simp)
  simpa using this
set_option maxRecDepth 100000 in
set_option maxHeartbeats 800000 in
theorem see_else {w : World} {nb : Nat} {nd : Nds} (k a b : Nat) (h : Nat) (hb : BkP w nb (ndA nd) 47) (f0 : 0 ≤ nd.fuel) (f1 : nd.fuel ≤ 262144) (ha : a < 262144) (h3 : k ≠ 3) (h4 : k ≠ 4) (h5 : k ≠ 5) (h6 : k ≠ 6) (h7 : k ≠ 7) :
    Calls Tryd.prog 18 #[.pointer (some ⟨nb, 0, none⟩), .agg #[.int .i64 (k : Int), .int .i64 (a : Int), .int .i64 (b : Int)], .int .i64 (h : Int)] w fun e w' => SeeE w nb nd ⟨k, a, b⟩ h e w' := by
  have V : vSee nd ⟨k, a, b⟩ h = { nd with stack := max nd.stack h, fuel := nd.fuel + 1 } := by unfold vSee; simp only; rw [if_neg (by omega), if_neg (by omega), if_neg (by omega)]
  obtain ⟨st, fu, ba, sl, ce⟩ := nd
  simp only at f0 f1 V
  obtain ⟨m, hm⟩ : ∃ m : Int, m = max st (h : Int) := ⟨_, rfl⟩
  rw [← hm] at V
  have hm2 : (st < (h : Int) ∧ m = (h : Int)) ∨ (¬ st < (h : Int) ∧ m = st) := by omega
  have VV := Lib.hid V
  clear hm V
  have ks : IntKind.i64.wrap (fu + 1) = fu + 1 := by simp [IntKind.wrap, IntKind.bits, IntKind.signed]; omega
  have asx : IntKind.i64.wrap ((a : Int) + 1) = (a : Int) + 1 := by simp [IntKind.wrap, IntKind.bits, IntKind.signed]; omega
  have e3 : ((k : Int) == 3) = false := by simp; omega
  have e4 : ((k : Int) == 4) = false := by simp; omega
  have e5 : ((k : Int) == 5) = false := by simp; omega
  have e6 : ((k : Int) == 6) = false := by simp; omega
  have e7 : ((k : Int) == 7) = false := by simp; omega
  obtain ⟨b0, b1, b2, i2, g2⟩ := see_box (m := m) (k := k) (a := a) (b := b) hb
  obtain ⟨c0, c1, c2, c3, c4⟩ := boxV5 b0
  obtain ⟨p0, p1, p2, p3, p4⟩ := frzV5 b0
  obtain ⟨d0, d1, d2, d3, d4⟩ := boxV5 b1
  obtain ⟨q0, q1, q2, q3, q4⟩ := frzV5 b1
  obtain ⟨r0, r1, r2, r3, r4⟩ := boxV5 b2
  obtain ⟨s0, s1, s2, s3, s4⟩ := frzV5 b2
  obtain ⟨t0, t1, t2⟩ := boxV3 i2
  have B2 := Lib.hid b2
  have G2 := Lib.hid g2
  unfold ibx at *
  clear hb h3 h4 h5 h6 h7 b0 b1 b2 i2 g2 f0 f1
  rcases hm2 with ⟨l1, rfl⟩ | ⟨l1, rfl⟩
  all_goals
    go_enter Tryd.func18, Tryd.ntmps18
    go_wp2
    go_end0
    exact ⟨rfl, by rw [VV.out]; exact B2.out, G2.out⟩
set_option maxRecDepth 100000 in
set_option maxHeartbeats 800000 in
theorem see_keep {w : World} {nb : Nat} {nd : Nds} (k a b : Nat) (h : Nat) (hb : BkP w nb (ndA nd) 47) (f0 : 0 ≤ nd.fuel) (f1 : nd.fuel ≤ 262144) (ha : a < 262144) (hk : k = 6) :
    Calls Tryd.prog 18 #[.pointer (some ⟨nb, 0, none⟩), .agg #[.int .i64 (k : Int), .int .i64 (a : Int), .int .i64 (b : Int)], .int .i64 (h : Int)] w fun e w' => SeeE w nb nd ⟨k, a, b⟩ h e w' := by
  have V : vSee nd ⟨k, a, b⟩ h = { nd with stack := max nd.stack h, fuel := nd.fuel + 1, slots := max nd.slots ((a : Int) + 1) } := by unfold vSee; simp only; rw [if_pos (by omega)]
  obtain ⟨st, fu, ba, sl, ce⟩ := nd
  simp only at f0 f1 V
  obtain ⟨m, hm⟩ : ∃ m : Int, m = max st (h : Int) := ⟨_, rfl⟩
  rw [← hm] at V
  have hm2 : (st < (h : Int) ∧ m = (h : Int)) ∨ (¬ st < (h : Int) ∧ m = st) := by omega
  obtain ⟨m2, hn⟩ : ∃ m2 : Int, m2 = max sl ((a : Int) + 1) := ⟨_, rfl⟩
  rw [← hn] at V
  have hn2 : (sl < ((a : Int) + 1) ∧ m2 = ((a : Int) + 1)) ∨ (¬ sl < ((a : Int) + 1) ∧ m2 = sl) := by omega
  have VV := Lib.hid V
  clear hm V
  have ks : IntKind.i64.wrap (fu + 1) = fu + 1 := by simp [IntKind.wrap, IntKind.bits, IntKind.signed]; omega
  have asx : IntKind.i64.wrap ((a : Int) + 1) = (a : Int) + 1 := by simp [IntKind.wrap, IntKind.bits, IntKind.signed]; omega
  have e3 : ((k : Int) == 3) = false := by simp; omega
  have e4 : ((k : Int) == 4) = false := by simp; omega
  have e5 : ((k : Int) == 5) = false := by simp; omega
  have e6 : ((k : Int) == 6) = true := by simp; omega
  have e7 : ((k : Int) == 7) = false := by simp; omega
  obtain ⟨b0, b1, b2, i2, g2⟩ := see_box (m := m) (k := k) (a := a) (b := b) hb
  obtain ⟨c0, c1, c2, c3, c4⟩ := boxV5 b0
  obtain ⟨p0, p1, p2, p3, p4⟩ := frzV5 b0
  obtain ⟨d0, d1, d2, d3, d4⟩ := boxV5 b1
  obtain ⟨q0, q1, q2, q3, q4⟩ := frzV5 b1
  obtain ⟨r0, r1, r2, r3, r4⟩ := boxV5 b2
  obtain ⟨s0, s1, s2, s3, s4⟩ := frzV5 b2
  obtain ⟨t0, t1, t2⟩ := boxV3 i2
  have B2 := Lib.hid b2
  have G2 := Lib.hid g2
  unfold ibx at *
  clear hb hk b0 b1 b2 i2 g2 f0 f1 hn
  rcases hm2 with ⟨l1, rfl⟩ | ⟨l1, rfl⟩ <;> rcases hn2 with ⟨l2, rfl⟩ | ⟨l2, rfl⟩
  all_goals
    go_enter Tryd.func18, Tryd.ntmps18
    go_wp2
    go_region
    all_goals
      go_wp2
      go_end0
      first
        | exact ⟨rfl, by rw [VV.out]; exact see_f3 (B2.out.lat (drew1B _)) _, gx_at (gx_drew G2.out) _ _⟩
        | exact ⟨rfl, by rw [VV.out]; exact (see_f3 B2.out _).lat (drew1B _), gx_drew (gx_at G2.out _ _)⟩
set_option maxRecDepth 100000 in
set_option maxHeartbeats 800000 in
theorem see_get {w : World} {nb : Nat} {nd : Nds} (k a b : Nat) (h : Nat) (hb : BkP w nb (ndA nd) 47) (f0 : 0 ≤ nd.fuel) (f1 : nd.fuel ≤ 262144) (ha : a < 262144) (hk : k = 7) :
    Calls Tryd.prog 18 #[.pointer (some ⟨nb, 0, none⟩), .agg #[.int .i64 (k : Int), .int .i64 (a : Int), .int .i64 (b : Int)], .int .i64 (h : Int)] w fun e w' => SeeE w nb nd ⟨k, a, b⟩ h e w' := by
  have V : vSee nd ⟨k, a, b⟩ h = { nd with stack := max nd.stack h, fuel := nd.fuel + 1, slots := max nd.slots ((a : Int) + 1) } := by unfold vSee; simp only; rw [if_pos (by omega)]
  obtain ⟨st, fu, ba, sl, ce⟩ := nd
  simp only at f0 f1 V
  obtain ⟨m, hm⟩ : ∃ m : Int, m = max st (h : Int) := ⟨_, rfl⟩
  rw [← hm] at V
  have hm2 : (st < (h : Int) ∧ m = (h : Int)) ∨ (¬ st < (h : Int) ∧ m = st) := by omega
  obtain ⟨m2, hn⟩ : ∃ m2 : Int, m2 = max sl ((a : Int) + 1) := ⟨_, rfl⟩
  rw [← hn] at V
  have hn2 : (sl < ((a : Int) + 1) ∧ m2 = ((a : Int) + 1)) ∨ (¬ sl < ((a : Int) + 1) ∧ m2 = sl) := by omega
  have VV := Lib.hid V
  clear hm V
  have ks : IntKind.i64.wrap (fu + 1) = fu + 1 := by simp [IntKind.wrap, IntKind.bits, IntKind.signed]; omega
  have asx : IntKind.i64.wrap ((a : Int) + 1) = (a : Int) + 1 := by simp [IntKind.wrap, IntKind.bits, IntKind.signed]; omega
  have e3 : ((k : Int) == 3) = false := by simp; omega
  have e4 : ((k : Int) == 4) = false := by simp; omega
  have e5 : ((k : Int) == 5) = false := by simp; omega
  have e6 : ((k : Int) == 6) = false := by simp; omega
  have e7 : ((k : Int) == 7) = true := by simp; omega
  obtain ⟨b0, b1, b2, i2, g2⟩ := see_box (m := m) (k := k) (a := a) (b := b) hb
  obtain ⟨c0, c1, c2, c3, c4⟩ := boxV5 b0
  obtain ⟨p0, p1, p2, p3, p4⟩ := frzV5 b0
  obtain ⟨d0, d1, d2, d3, d4⟩ := boxV5 b1
  obtain ⟨q0, q1, q2, q3, q4⟩ := frzV5 b1
  obtain ⟨r0, r1, r2, r3, r4⟩ := boxV5 b2
  obtain ⟨s0, s1, s2, s3, s4⟩ := frzV5 b2
  obtain ⟨t0, t1, t2⟩ := boxV3 i2
  have B2 := Lib.hid b2
  have G2 := Lib.hid g2
  unfold ibx at *
  clear hb hk b0 b1 b2 i2 g2 f0 f1 hn
  rcases hm2 with ⟨l1, rfl⟩ | ⟨l1, rfl⟩ <;> rcases hn2 with ⟨l2, rfl⟩ | ⟨l2, rfl⟩
  all_goals
    go_enter Tryd.func18, Tryd.ntmps18
    go_wp2
    go_region
    all_goals
      go_wp2
      go_end0
      first
        | exact ⟨rfl, by rw [VV.out]; exact see_f3 (B2.out.lat (drew1B _)) _, gx_at (gx_drew G2.out) _ _⟩
        | exact ⟨rfl, by rw [VV.out]; exact (see_f3 B2.out _).lat (drew1B _), gx_drew (gx_at G2.out _ _)⟩
set_option maxRecDepth 100000 in
set_option maxHeartbeats 800000 in
theorem see_load {w : World} {nb : Nat} {nd : Nds} (k a b : Nat) (h : Nat) (hb : BkP w nb (ndA nd) 47) (f0 : 0 ≤ nd.fuel) (f1 : nd.fuel ≤ 262144) (ha : a < 262144) (hk : k = 4) :
    Calls Tryd.prog 18 #[.pointer (some ⟨nb, 0, none⟩), .agg #[.int .i64 (k : Int), .int .i64 (a : Int), .int .i64 (b : Int)], .int .i64 (h : Int)] w fun e w' => SeeE w nb nd ⟨k, a, b⟩ h e w' := by
  have V : vSee nd ⟨k, a, b⟩ h = { nd with stack := max nd.stack h, fuel := nd.fuel + 1, cells := max nd.cells ((a : Int) + 1) } := by unfold vSee; simp only; rw [if_neg (by omega), if_pos (by omega)]
  obtain ⟨st, fu, ba, sl, ce⟩ := nd
  simp only at f0 f1 V
  obtain ⟨m, hm⟩ : ∃ m : Int, m = max st (h : Int) := ⟨_, rfl⟩
  rw [← hm] at V
  have hm2 : (st < (h : Int) ∧ m = (h : Int)) ∨ (¬ st < (h : Int) ∧ m = st) := by omega
  obtain ⟨m2, hn⟩ : ∃ m2 : Int, m2 = max ce ((a : Int) + 1) := ⟨_, rfl⟩
  rw [← hn] at V
  have hn2 : (ce < ((a : Int) + 1) ∧ m2 = ((a : Int) + 1)) ∨ (¬ ce < ((a : Int) + 1) ∧ m2 = ce) := by omega
  have VV := Lib.hid V
  clear hm V
  have ks : IntKind.i64.wrap (fu + 1) = fu + 1 := by simp [IntKind.wrap, IntKind.bits, IntKind.signed]; omega
  have asx : IntKind.i64.wrap ((a : Int) + 1) = (a : Int) + 1 := by simp [IntKind.wrap, IntKind.bits, IntKind.signed]; omega
  have e3 : ((k : Int) == 3) = false := by simp; omega
  have e4 : ((k : Int) == 4) = true := by simp; omega
  have e5 : ((k : Int) == 5) = false := by simp; omega
  have e6 : ((k : Int) == 6) = false := by simp; omega
  have e7 : ((k : Int) == 7) = false := by simp; omega
  obtain ⟨b0, b1, b2, i2, g2⟩ := see_box (m := m) (k := k) (a := a) (b := b) hb
  obtain ⟨c0, c1, c2, c3, c4⟩ := boxV5 b0
  obtain ⟨p0, p1, p2, p3, p4⟩ := frzV5 b0
  obtain ⟨d0, d1, d2, d3, d4⟩ := boxV5 b1
  obtain ⟨q0, q1, q2, q3, q4⟩ := frzV5 b1
  obtain ⟨r0, r1, r2, r3, r4⟩ := boxV5 b2
  obtain ⟨s0, s1, s2, s3, s4⟩ := frzV5 b2
  obtain ⟨t0, t1, t2⟩ := boxV3 i2
  have B2 := Lib.hid b2
  have G2 := Lib.hid g2
  unfold ibx at *
  clear hb hk b0 b1 b2 i2 g2 f0 f1 hn
  rcases hm2 with ⟨l1, rfl⟩ | ⟨l1, rfl⟩ <;> rcases hn2 with ⟨l2, rfl⟩ | ⟨l2, rfl⟩
  all_goals
    go_enter Tryd.func18, Tryd.ntmps18
    go_wp2
    go_region
    all_goals
      go_wp2
      go_end0
      first
        | exact ⟨rfl, by rw [VV.out]; exact see_f4 (B2.out.lat (drew1B _)) _, gx_at (gx_drew G2.out) _ _⟩
        | exact ⟨rfl, by rw [VV.out]; exact (see_f4 B2.out _).lat (drew1B _), gx_drew (gx_at G2.out _ _)⟩
set_option maxRecDepth 100000 in
set_option maxHeartbeats 800000 in
theorem see_store {w : World} {nb : Nat} {nd : Nds} (k a b : Nat) (h : Nat) (hb : BkP w nb (ndA nd) 47) (f0 : 0 ≤ nd.fuel) (f1 : nd.fuel ≤ 262144) (ha : a < 262144) (hk : k = 5) :
    Calls Tryd.prog 18 #[.pointer (some ⟨nb, 0, none⟩), .agg #[.int .i64 (k : Int), .int .i64 (a : Int), .int .i64 (b : Int)], .int .i64 (h : Int)] w fun e w' => SeeE w nb nd ⟨k, a, b⟩ h e w' := by
  have V : vSee nd ⟨k, a, b⟩ h = { nd with stack := max nd.stack h, fuel := nd.fuel + 1, cells := max nd.cells ((a : Int) + 1) } := by unfold vSee; simp only; rw [if_neg (by omega), if_pos (by omega)]
  obtain ⟨st, fu, ba, sl, ce⟩ := nd
  simp only at f0 f1 V
  obtain ⟨m, hm⟩ : ∃ m : Int, m = max st (h : Int) := ⟨_, rfl⟩
  rw [← hm] at V
  have hm2 : (st < (h : Int) ∧ m = (h : Int)) ∨ (¬ st < (h : Int) ∧ m = st) := by omega
  obtain ⟨m2, hn⟩ : ∃ m2 : Int, m2 = max ce ((a : Int) + 1) := ⟨_, rfl⟩
  rw [← hn] at V
  have hn2 : (ce < ((a : Int) + 1) ∧ m2 = ((a : Int) + 1)) ∨ (¬ ce < ((a : Int) + 1) ∧ m2 = ce) := by omega
  have VV := Lib.hid V
  clear hm V
  have ks : IntKind.i64.wrap (fu + 1) = fu + 1 := by simp [IntKind.wrap, IntKind.bits, IntKind.signed]; omega
  have asx : IntKind.i64.wrap ((a : Int) + 1) = (a : Int) + 1 := by simp [IntKind.wrap, IntKind.bits, IntKind.signed]; omega
  have e3 : ((k : Int) == 3) = false := by simp; omega
  have e4 : ((k : Int) == 4) = false := by simp; omega
  have e5 : ((k : Int) == 5) = true := by simp; omega
  have e6 : ((k : Int) == 6) = false := by simp; omega
  have e7 : ((k : Int) == 7) = false := by simp; omega
  obtain ⟨b0, b1, b2, i2, g2⟩ := see_box (m := m) (k := k) (a := a) (b := b) hb
  obtain ⟨c0, c1, c2, c3, c4⟩ := boxV5 b0
  obtain ⟨p0, p1, p2, p3, p4⟩ := frzV5 b0
  obtain ⟨d0, d1, d2, d3, d4⟩ := boxV5 b1
  obtain ⟨q0, q1, q2, q3, q4⟩ := frzV5 b1
  obtain ⟨r0, r1, r2, r3, r4⟩ := boxV5 b2
  obtain ⟨s0, s1, s2, s3, s4⟩ := frzV5 b2
  obtain ⟨t0, t1, t2⟩ := boxV3 i2
  have B2 := Lib.hid b2
  have G2 := Lib.hid g2
  unfold ibx at *
  clear hb hk b0 b1 b2 i2 g2 f0 f1 hn
  rcases hm2 with ⟨l1, rfl⟩ | ⟨l1, rfl⟩ <;> rcases hn2 with ⟨l2, rfl⟩ | ⟨l2, rfl⟩
  all_goals
    go_enter Tryd.func18, Tryd.ntmps18
    go_wp2
    go_region
    all_goals
      go_wp2
      go_end0
      first
        | exact ⟨rfl, by rw [VV.out]; exact see_f4 (B2.out.lat (drew1B _)) _, gx_at (gx_drew G2.out) _ _⟩
        | exact ⟨rfl, by rw [VV.out]; exact (see_f4 B2.out _).lat (drew1B _), gx_drew (gx_at G2.out _ _)⟩
set_option maxRecDepth 100000 in
set_option maxHeartbeats 800000 in
theorem see_obs {w : World} {nb : Nat} {nd : Nds} (k a b : Nat) (h : Nat) (hb : BkP w nb (ndA nd) 47) (f0 : 0 ≤ nd.fuel) (f1 : nd.fuel ≤ 262144) (ha : a < 262144) (hk : k = 3) :
    Calls Tryd.prog 18 #[.pointer (some ⟨nb, 0, none⟩), .agg #[.int .i64 (k : Int), .int .i64 (a : Int), .int .i64 (b : Int)], .int .i64 (h : Int)] w fun e w' => SeeE w nb nd ⟨k, a, b⟩ h e w' := by
  have V : vSee nd ⟨k, a, b⟩ h = { nd with stack := max nd.stack h, fuel := nd.fuel + 1, back := max nd.back (b : Int) } := by unfold vSee; simp only; rw [if_neg (by omega), if_neg (by omega), if_pos (by omega)]
  obtain ⟨st, fu, ba, sl, ce⟩ := nd
  simp only at f0 f1 V
  obtain ⟨m, hm⟩ : ∃ m : Int, m = max st (h : Int) := ⟨_, rfl⟩
  rw [← hm] at V
  have hm2 : (st < (h : Int) ∧ m = (h : Int)) ∨ (¬ st < (h : Int) ∧ m = st) := by omega
  obtain ⟨m2, hn⟩ : ∃ m2 : Int, m2 = max ba (b : Int) := ⟨_, rfl⟩
  rw [← hn] at V
  have hn2 : (ba < (b : Int) ∧ m2 = (b : Int)) ∨ (¬ ba < (b : Int) ∧ m2 = ba) := by omega
  have VV := Lib.hid V
  clear hm V
  have ks : IntKind.i64.wrap (fu + 1) = fu + 1 := by simp [IntKind.wrap, IntKind.bits, IntKind.signed]; omega
  have asx : IntKind.i64.wrap ((a : Int) + 1) = (a : Int) + 1 := by simp [IntKind.wrap, IntKind.bits, IntKind.signed]; omega
  have e3 : ((k : Int) == 3) = true := by simp; omega
  have e4 : ((k : Int) == 4) = false := by simp; omega
  have e5 : ((k : Int) == 5) = false := by simp; omega
  have e6 : ((k : Int) == 6) = false := by simp; omega
  have e7 : ((k : Int) == 7) = false := by simp; omega
  obtain ⟨b0, b1, b2, i2, g2⟩ := see_box (m := m) (k := k) (a := a) (b := b) hb
  obtain ⟨c0, c1, c2, c3, c4⟩ := boxV5 b0
  obtain ⟨p0, p1, p2, p3, p4⟩ := frzV5 b0
  obtain ⟨d0, d1, d2, d3, d4⟩ := boxV5 b1
  obtain ⟨q0, q1, q2, q3, q4⟩ := frzV5 b1
  obtain ⟨r0, r1, r2, r3, r4⟩ := boxV5 b2
  obtain ⟨s0, s1, s2, s3, s4⟩ := frzV5 b2
  obtain ⟨t0, t1, t2⟩ := boxV3 i2
  have B2 := Lib.hid b2
  have G2 := Lib.hid g2
  unfold ibx at *
  clear hb hk b0 b1 b2 i2 g2 f0 f1 hn
  rcases hm2 with ⟨l1, rfl⟩ | ⟨l1, rfl⟩ <;> rcases hn2 with ⟨l2, rfl⟩ | ⟨l2, rfl⟩
  all_goals
    go_enter Tryd.func18, Tryd.ntmps18
    go_wp2
    go_region
    all_goals
      go_wp2
      go_end0
      first
        | exact ⟨rfl, by rw [VV.out]; exact see_f2 (B2.out.lat (drew1B _)) _, gx_at (gx_drew G2.out) _ _⟩
        | exact ⟨rfl, by rw [VV.out]; exact (see_f2 B2.out _).lat (drew1B _), gx_drew (gx_at G2.out _ _)⟩
theorem see_any {w : World} {nb : Nat} {nd : Nds} (i : In) (hi : i.okP) (h : Nat) (hb : BkP w nb (ndA nd) 47) (f0 : 0 ≤ nd.fuel) (f1 : nd.fuel ≤ 262144) :
    Calls Tryd.prog 18 #[.pointer (some ⟨nb, 0, none⟩), .agg #[.int .i64 i.o, .int .i64 i.a, .int .i64 i.b], .int .i64 (h : Int)] w fun e w' => SeeE w nb nd i h e w' := by
  obtain ⟨o, a, b⟩ := i
  have ho := hi.1
  have ho2 := hi.2.1
  have ha := hi.2.2.1
  have ha2 := hi.2.2.2.1
  have hb2 := hi.2.2.2.2.1
  have hm := tab_facts o.toNat (by simp at ho ho2 ⊢; omega)
  simp only at ho ho2 ha hb2 ha2 hm
  obtain ⟨k, rfl⟩ : ∃ k : Nat, o = (k : Int) := ⟨o.toNat, by omega⟩
  obtain ⟨a, rfl⟩ : ∃ x : Nat, a = (x : Int) := ⟨a.toNat, by omega⟩
  obtain ⟨b, rfl⟩ : ∃ y : Nat, b = (y : Int) := ⟨b.toNat, by omega⟩
  simp only [Int.toNat_natCast] at hm ha2
  have a1 : a < 262144 := by omega
  by_cases e3 : k = 3
  · exact see_obs k a b h hb f0 f1 a1 e3
  by_cases e4 : k = 4
  · exact see_load k a b h hb f0 f1 a1 e4
  by_cases e5 : k = 5
  · exact see_store k a b h hb f0 f1 a1 e5
  by_cases e6 : k = 6
  · exact see_keep k a b h hb f0 f1 a1 e6
  by_cases e7 : k = 7
  · exact see_get k a b h hb f0 f1 a1 e7
  exact see_else k a b h hb f0 f1 a1 e3 e4 e5 e6 e7
set_option maxRecDepth 100000 in
set_option maxHeartbeats 800000 in
theorem fit_any {w : World} {nb : Nat} {nd : Nds} {p : Pg} (hb : BkP w nb (ndA nd) 47) :
    Calls Tryd.prog 19 #[.pointer (some ⟨nb, 0, none⟩), p.agg] w fun e w' => e = .returned (.bool (decide (vFit nd p))) ∧ Below w.heap.size w w' := by
  have b0 := hb.lat (allocBP w p.box)
  have TB := Lib.hid (p := BkP (w.alloc p.box) w.heap.size p.arr 26) (heapN _ _)
  have dv : decide (vFit nd p) = ((p.stack == nd.stack) && ((p.slots == nd.slots) && (p.cells == nd.cells))) := by
    rw [Bool.eq_iff_iff, decide_eq_true_iff]
    unfold vFit
    simp
  rw [dv]
  unfold Pg.agg
  unfold Pg.box at *
  unfold Pg.arr at TB
  obtain ⟨na, nc, names, ua, uc, curs, pa, pc, pool, hor, cells, slots, stack, da, dc, days⟩ := p
  obtain ⟨st, fu, ba, sl, ce⟩ := nd
  simp only at TB b0 ⊢
  obtain ⟨c0, c1, c2, c3, c4⟩ := boxV5 b0
  obtain ⟨_, _, _, _, t4, t5, t6, _⟩ := box_all8 TB.out
  clear hb b0 TB dv
  cases z0 : (stack == st) <;> cases z1 : (slots == sl) <;> cases z2 : (cells == ce)
  all_goals
    go_enter Tryd.func19, Tryd.ntmps19
    go_wp2
    go_quiet (fail)
    go_wp2
    go_ret
    exact ⟨rfl, bel_drV (allocBP _ _) _⟩
end Go.Proofs.YtjbbbejadhojlaaDoor

namespace Go.Proofs.YtjbbbejadhojlaaDoor
open Go.RowKit
set_option linter.unusedVariables false
set_option linter.unusedSimpArgs false
theorem WkR.grown {W V : World} {B wb ab : Nat} {day : Int} {ca : Option Addr} {cc n : Nat} {G : Tg} {A : Nat → Option Nat} {l : Nat → Option Vs} (h : WkR W B wb ab day ca cc n G A l) {x : Nat} {y : Array Value} (g : W.grownBy V (some x)) (hx : BkP W x y 47) : WkR V B wb ab day ca cc n G A l := by
  have no : ∀ {b z t}, BkP W b z t → t ≠ 47 → some b ≠ some x := fun k ht e => by injection e with e; exact bk_ne k hx ht e
  refine ⟨h.tri.other g hx (by decide), h.wk.grown g (no h.wk (by decide)), h.ah.grown g (no h.ah (by decide)), fun j hj => ?_, h.inj, h.low, h.ok⟩
  rcases h.st j hj with q | ⟨z, s, tb, ps, h1, h2, h3⟩
  · exact .inl q
  · exact .inr ⟨z, s, tb, ps, h1, h2, ⟨h3.top, h3.box.grown g (no h3.box (by decide)), h3.slt.other g hx (by decide), h3.low⟩⟩
/-- What Verify answers. -/
noncomputable def vfyA (p : Pg) : Int × Nat × Nat × Nds := if canP p then vfy p else (121, 0, 0, ⟨0, 0, 0, 0, 0⟩)
def vfV (r : Int × Nat × Nat × Nds) : Value := .tuple #[.agg #[.int .i64 r.2.2.2.stack, .int .i64 r.2.2.2.fuel, .int .i64 r.2.2.2.back], .int .i64 (r.2.1 : Int), .int .i64 (r.2.2.1 : Int), .int .i64 r.1]
/-- What a canonical program's segment is known to be. -/
structure SgOk (s : Sg) : Prop where
  two : 2 ≤ s.code.length
  len : s.code.length ≤ 262144
  ok : ∀ k, k < s.code.length → (s.code.getD k default).okP ∧ ((s.code.getD k default).o = 0 ↔ k + 1 = s.code.length)
theorem le_sum {x : Nat} : ∀ {l : List Nat}, x ∈ l → x ≤ l.sum
  | [], h => by cases h
  | y :: l, h => by
    rcases List.mem_cons.1 h with e | e
    · subst e; simp
    · have := le_sum e
      simp
      omega
theorem sg_ok {p : Pg} (h : canP p) {d : Nat} (hd : d < p.days.length) : SgOk (p.days.getD d default) := by
  have c := h.2.2.2.1 d hd
  refine ⟨c.1, ?_, fun k hk => ⟨(c.2 k hk).2.1, (c.2 k hk).1⟩⟩
  have t := h.2.2.1.2
  have : (p.days.getD d default).code.length ≤ totN p.days p.days.length := by
    unfold totN
    rw [List.take_length]
    exact le_sum (List.mem_map.2 ⟨p.days.getD d default, by simp [List.getD, hd], rfl⟩)
  omega
theorem need_fuel {nd : Nds} {day : Int} {code : List In} : ∀ k, (vNeed nd day code k).fuel = nd.fuel + k
  | 0 => by simp [vNeed]
  | k + 1 => by
    have ih := need_fuel (nd := nd) (day := day) (code := code) k
    simp only [vNeed, vSee]
    split
    · simp only; omega
    split
    · simp only; omega
    split
    · simp only; omega
    · simp only; omega
theorem all_fuel {days : List Sg} : ∀ d, d ≤ days.length → (vAll days d).1 = 0 → (vAll days d).2.2.2.fuel = (totN days d : Int)
  | 0, _, _ => by simp [vAll, totN]
  | d + 1, hd, h => by
    have h0 := vAll_before h (Nat.le_succ d)
    have ih := all_fuel d (by omega) h0
    rw [vAll_succ h0]
    simp only
    rw [need_fuel, ih]
    unfold totN
    rw [List.take_succ_eq_append_getElem (by omega), List.map_append, List.sum_append]
    simp [List.getD, show d < days.length by omega]
theorem tot_le {days : List Sg} {d : Nat} (hd : d ≤ days.length) : totN days d ≤ totN days days.length := by
  unfold totN
  rw [List.take_length]
  have e := List.take_append_drop d days
  have s : ((days.take d).map (fun s => s.code.length)).sum + ((days.drop d).map (fun s => s.code.length)).sum = (days.map (fun s => s.code.length)).sum := by rw [← List.sum_append, ← List.map_append, e]
  omega
/-- The boxes while Verify goes on. -/
structure VbR (w wr : World) (p : Pg) (nb : Nat) (nd : Nds) : Prop where
  pb : BkP wr w.heap.size p.arr 26
  pr : BkP wr (w.heap.size + 1) #[.int .i64 0, .int .i64 0, .int .i64 0] 29
  ne : BkP wr nb (ndA nd) 47
  be : Below w.heap.size w wr
theorem VbR.later {w wr V : World} {p : Pg} {nb : Nat} {nd : Nds} (h : VbR w wr p nb nd) (b : Below wr.heap.size wr V) : VbR w V p nb nd := ⟨h.pb.lat b, h.pr.lat b, h.ne.lat b, h.be.trans (b.mono h.be.size)⟩
theorem VbR.pass {w wr V : World} {p : Pg} {nb : Nat} {nd : Nds} (h : VbR w wr p nb nd) (s : ∀ z y u, BkP wr z y u → u ≠ 78 → u ≠ 61 → u ≠ 62 → BkP V z y u) (b : Below w.heap.size wr V) : VbR w V p nb nd :=
  ⟨s _ _ _ h.pb (by decide) (by decide) (by decide), s _ _ _ h.pr (by decide) (by decide) (by decide), s _ _ _ h.ne (by decide) (by decide) (by decide), h.be.trans b⟩
theorem VbR.see {w wr V : World} {p : Pg} {nb : Nat} {nd nd' : Nds} (h : VbR w wr p nb nd) (hn : w.heap.size ≤ nb) (g : wr.grownBy V (some nb)) (b : BkP V nb (ndA nd') 47) : VbR w V p nb nd' :=
  ⟨h.pb.grown g (by intro e; injection e with e; exact bk_ne h.pb h.ne (by decide) e), h.pr.grown g (by intro e; injection e with e; exact bk_ne h.pr h.ne (by decide) e), b, h.be.trans (gx_out g hn h.be.size)⟩
set_option maxRecDepth 100000 in
set_option maxHeartbeats 800000 in
theorem verify_odd {w : World} {p : Pg} (h : PV w p) (hR : Rws w) (hc : ¬ canP p) :
    Calls Tryd.prog 6 #[p.agg] w fun e w' => e = .returned (vfV (vfyA p)) ∧ Below w.heap.size w w' := by
  have W0 := Lib.hid (p := Below w.heap.size w ((w.alloc p.box).alloc (.cells #[.int .i64 0, .int .i64 0, .int .i64 0] 29))) (((Below.refl _ w).alloc (Nat.le_refl _) _).alloc (by simp) _)
  have KC := Lib.hid (canon_any (h.later W0.out) (hR.below W0.out))
  rw [if_neg hc] at KC
  have TB := (BkP.lat (heapN w p.box) (allocBP _ (.cells #[.int .i64 0, .int .i64 0, .int .i64 0] 29)))
  have PB := Lib.hid (p := BkP ((w.alloc p.box).alloc (.cells #[.int .i64 0, .int .i64 0, .int .i64 0] 29)) (w.heap.size + 1) #[.int .i64 0, .int .i64 0, .int .i64 0] 29) (by
    have e : (w.alloc p.box).heap.size = w.heap.size + 1 := by simp
    have := heapN (w.alloc p.box) (.cells #[.int .i64 0, .int .i64 0, .int .i64 0] 29)
    rw [e] at this
    exact this)
  have VA : vfyA p = (121, 0, 0, ⟨0, 0, 0, 0, 0⟩) := by unfold vfyA; rw [if_neg hc]
  rw [VA]
  clear h hR hc VA
  unfold Pg.agg at *
  unfold Pg.box at *
  obtain ⟨na, nc, names, ua, uc, curs, pa, pc, pool, hor, cells, slots, stack, da, dc, days⟩ := p
  simp only at *
  go_enter Tryd.func6, Tryd.ntmps6
  go_wp2
  go_step3
  go_wp2_with (go_at_call 15; refine KC.out.mono ?_; rintro e w1 ⟨rfl, h1⟩; have B1 := Lib.hid (W0.out.trans (h1.mono W0.out.size)); have p1 := PB.out.lat h1; obtain ⟨c0, c1, c2⟩ := boxV3 p1; have f0 := p1.frozen 0; have f1 := p1.frozen 1; have f2 := p1.frozen 2; have P1 := Lib.hid p1; clear h1 p1)
  rw [Exit.noGoto_ret]
  have p2 := ((P1.out.set2 0 (.int .i64 0) (by simp)).set2 1 (.int .i64 0) (by simp)).set2 2 (.int .i64 0) (by simp)
  simp at p2
  obtain ⟨q0, q1, q2⟩ := boxV3 p2
  refine bodyPost_ret (v := vfV (121, 0, 0, ⟨0, 0, 0, 0, 0⟩)) ?r rfl ?s
  case r => simp [results, Tryd.results6, go_sem, q0, q1, q2, vfV]
  case s => exact ⟨rfl, ((B1.out.setCell (p := ⟨w.heap.size + 1, 0, none⟩) (Nat.le_succ _) _).setCell (p := ⟨w.heap.size + 1, 1, none⟩) (Nat.le_succ _) _).setCell (p := ⟨w.heap.size + 1, 2, none⟩) (Nat.le_succ _) _⟩
end Go.Proofs.YtjbbbejadhojlaaDoor

namespace Go.Proofs.YtjbbbejadhojlaaDoor
open Go.RowKit
set_option linter.unusedVariables false
set_option linter.unusedSimpArgs false
theorem vb_start {w w1 : World} {p : Pg} (b : Below ((w.alloc p.box).alloc (.cells #[.int .i64 0, .int .i64 0, .int .i64 0] 29)).heap.size ((w.alloc p.box).alloc (.cells #[.int .i64 0, .int .i64 0, .int .i64 0] 29)) w1) : VbR w (w1.alloc (.cells #[.int .i64 0, .int .i64 0, .int .i64 0, .int .i64 0, .int .i64 0] 47)) p w1.heap.size ⟨0, 0, 0, 0, 0⟩ := by
  have e : (w.alloc p.box).heap.size = w.heap.size + 1 := by simp
  have k1 := heapN (w.alloc p.box) (.cells #[.int .i64 0, .int .i64 0, .int .i64 0] 29)
  rw [e] at k1
  have k0 : BkP (w.alloc p.box) w.heap.size p.arr 26 := heapN _ _
  refine ⟨((k0.lat (allocBP _ _)).lat b).lat (allocBP _ _), (BkP.lat k1 b).lat (allocBP _ _), heapN _ _, ?_⟩
  exact (((((Below.refl _ w).alloc (Nat.le_refl _) p.box).alloc (by simp) _).trans (b.mono (by simp; omega)))).trans ((allocBP _ _).mono (by have := b.size; simp at this ⊢; omega))
/-- A walk's round: what is known ahead of instruction k. -/
structure InR (w wr : World) (p : Pg) (nb db wb ab : Nat) (sg : Sg) (nd : Nds) (k : Nat) : Prop where
  vb : VbR w wr p nb (vNeed nd sg.day sg.code k)
  ds : BkP wr db #[.int .i64 sg.day, .slice sg.ca sg.code.length sg.cc] 43
  wk : ∃ G A, WkR wr w.heap.size wb ab sg.day sg.ca sg.cc sg.code.length G A (vRun sg.day sg.code k).2.2
theorem InR.later {w wr V : World} {p : Pg} {nb db wb ab : Nat} {sg : Sg} {nd : Nds} {k : Nat} (h : InR w wr p nb db wb ab sg nd k) (b : Below wr.heap.size wr V) : InR w V p nb db wb ab sg nd k := ⟨h.vb.later b, h.ds.lat b, by obtain ⟨G, A, q⟩ := h.wk; exact ⟨G, A, q.later b⟩⟩
/-- A pass, as Verify sees it. -/
structure RpE (w wr : World) (p : Pg) (nb db wb ab : Nat) (sg : Sg) (nd : Nds) (k : Nat) (i : In) (ib : Nat) (e : Ending) (V : World) : Prop where
  ret : e = .returned (.int .i64 (vPass sg.day sg.code.length (sg.code.getD k default) k (vRun sg.day sg.code k).2.2).1)
  vb : VbR w V p nb (vNeed nd sg.day sg.code k)
  ds : BkP V db #[.int .i64 sg.day, .slice sg.ca sg.code.length sg.cc] 43
  wk : ∃ G A, WkR V w.heap.size wb ab sg.day sg.ca sg.cc sg.code.length G A (vPass sg.day sg.code.length (sg.code.getD k default) k (vRun sg.day sg.code k).2.2).2
  ibx : BkP V ib #[.int .i64 i.o, .int .i64 i.a, .int .i64 i.b] 51
theorem round_pass {w wr : World} {p : Pg} {nb db wb ab : Nat} {sg : Sg} {nd : Nds} {k : Nat} (h : InR w wr p nb db wb ab sg nd k) (hk : k < sg.code.length) (hs : SgOk sg) (hI : IR w sg.ca sg.code.length sg.cc sg.code) (hR : Rws w) (hU : Rul w) {ib : Nat} {i : In} (hb : BkP wr ib #[.int .i64 i.o, .int .i64 i.a, .int .i64 i.b] 51) :
    Calls Tryd.prog 17 #[.pointer (some ⟨wb, 0, none⟩), .int .i64 (k : Int)] wr fun e V => RpE w wr p nb db wb ab sg nd k i ib e V := by
  obtain ⟨G, A, hw⟩ := h.wk
  refine (pass_any hw h.vb.be.size hk hs.len (fun u hu => ?_) ⟨hI, hR, hU, Nat.le_refl _⟩ h.vb.be (hs.ok k hk).1 (hs.ok k hk).2).mono ?_
  · have := vRun_high k k u hu
    have := hs.len
    omega
  · rintro e V ⟨p1, p2, p3, p4⟩
    exact ⟨p1, h.vb.pass p4 p3, p4 _ _ _ h.ds (by decide) (by decide) (by decide), p2, p4 _ _ _ hb (by decide) (by decide) (by decide)⟩
/-- Where the height of an instruction lies. -/
theorem high_of {W : World} {B wb ab : Nat} {day : Int} {ca : Option Addr} {cc n : Nat} {G : Tg} {A : Nat → Option Nat} {l : Nat → Option Vs} (h : WkR W B wb ab day ca cc n G A l) {k : Nat} (hk : k < n) {u : Vs} (hu : l k = some u) : ∃ x, W.cell? ⟨ab, k, none⟩ = some (.pointer (some ⟨x, 0, none⟩)) ∧ W.cell? ⟨x, 1, none⟩ = some (.int .i64 (vHt l k : Int)) := by
  rcases h.st k hk with ⟨q, _⟩ | ⟨x, u', tb', ps', q1, q2, q3⟩
  · rw [hu] at q; cases q
  · refine ⟨x, ?_, ?_⟩
    · rw [h.ah.cell, ahA_at _ _ _ hk, q2]; rfl
    · rw [q3.box.cell, stA_ht]
      unfold vHt
      rw [q1]
theorem pass_has {day : Int} {n k : Nat} {i : In} {l : Nat → Option Vs} (h : (vPass day n i k l).1 = 0) : ∃ u, (vPass day n i k l).2 k = some u := by
  rw [vPass_old (Nat.le_refl k)]
  unfold vPass at h
  cases hk : l k with
  | none => rw [hk] at h; simp at h
  | some s => exact ⟨s, rfl⟩
structure RsE (w : World) (p : Pg) (nb db wb ab : Nat) (sg : Sg) (nd : Nds) (k : Nat) (e : Ending) (V : World) : Prop where
  ret : e = .returned (.tuple #[])
  sta : InR w V p nb db wb ab sg nd (k + 1)
theorem round_see {w wr : World} {p : Pg} {nb db wb ab : Nat} {sg : Sg} {nd : Nds} {k ib : Nat} (h : RpE w wr p nb db wb ab sg nd k (sg.code.getD k default) ib (.returned (.int .i64 0)) wr) (hk : k < sg.code.length) (hs : SgOk sg) (h0 : (vRun sg.day sg.code k).1 = 0) (he : (vPass sg.day sg.code.length (sg.code.getD k default) k (vRun sg.day sg.code k).2.2).1 = 0) (f0 : 0 ≤ nd.fuel) (f1 : nd.fuel + sg.code.length ≤ 262144) (hn : w.heap.size ≤ nb) {V : World} (b : Below wr.heap.size wr V) :
    Calls Tryd.prog 18 #[.pointer (some ⟨nb, 0, none⟩), .agg #[.int .i64 (sg.code.getD k default).o, .int .i64 (sg.code.getD k default).a, .int .i64 (sg.code.getD k default).b], .int .i64 (vHt (vPass sg.day sg.code.length (sg.code.getD k default) k (vRun sg.day sg.code k).2.2).2 k : Int)] V fun e V' => RsE w p nb db wb ab sg nd k e V' := by
  have nf := need_fuel (nd := nd) (day := sg.day) (code := sg.code) k
  have e1 := vRun_succ h0
  have hv := h.vb.later b
  refine (see_any _ (hs.ok k hk).1 _ hv.ne (by rw [nf]; omega) (by rw [nf]; omega)).mono ?_
  rintro e V' ⟨p1, p2, p3⟩
  refine ⟨p1, ⟨?_, (h.ds.lat b).grown p3 (by intro q; injection q with q; exact bk_ne (h.ds.lat b) hv.ne (by decide) q), ?_⟩⟩
  · have ev : vNeed nd sg.day sg.code (k + 1) = vSee (vNeed nd sg.day sg.code k) (sg.code.getD k default) (vHt (vPass sg.day sg.code.length (sg.code.getD k default) k (vRun sg.day sg.code k).2.2).2 k) := by
      simp only [vNeed]
      rw [e1]
    rw [ev]
    exact hv.see hn p3 p2
  · obtain ⟨G, A, q⟩ := h.wk
    rw [e1]
    exact ⟨G, A, (q.later b).grown p3 hv.ne⟩
end Go.Proofs.YtjbbbejadhojlaaDoor
