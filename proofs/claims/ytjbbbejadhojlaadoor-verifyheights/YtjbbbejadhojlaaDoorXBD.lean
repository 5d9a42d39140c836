import Derived.Test.YtjbbbejadhojlaaDoorXAY
import Derived.Test.YtjbbbejadhojlaaDoorXAZ
import Derived.Test.YtjbbbejadhojlaaDoorXBC
namespace Go.Proofs.YtjbbbejadhojlaaDoor
open Go.RowKit
set_option linter.unusedVariables false
set_option linter.unusedSimpArgs false
theorem most14_any (w : World) (a b : Int) : Calls Tryd.prog 22 #[.int .i64 a, .int .i64 b] w fun e w' => e = .returned (.int .i64 (max a b)) ∧ w' = w := by
  by_cases z : b < a
  · have e : max a b = a := by omega
    rw [e]
    clear e
    have z1 : decide (b < a) = true := decide_eq_true z
    go_enter Tryd.func22, Tryd.ntmps22
    go_wp2
    go_ret
    exact ⟨rfl, rfl⟩
  · have e : max a b = b := by omega
    rw [e]
    clear e
    have z1 : decide (b < a) = false := decide_eq_false z
    go_enter Tryd.func22, Tryd.ntmps22
    go_wp2
    go_ret
    exact ⟨rfl, rfl⟩
theorem dHt_w : ∀ {l : Option Ds} {m : Option Vs}, RlO l m → dHtO l = (match m with | none => 0 | some s => s.st.length)
  | none, none, _ => rfl
  | some d, some v, h => by
    have h : Rl d v := h
    show d.st.length = v.st.length
    rw [h.st, List.length_reverse]
/-- What States answers, by what the program's run says. -/
def SsV (w : World) (s : Sg) (e : Ending) (w' : World) : Prop := Below w.heap.size w w' ∧ (((vRun s.day s.code s.code.length).1 ≠ 0 ∧ e = .returned (.tuple #[.slice none 0 0, .int .i64 ((vRun s.day s.code s.code.length).2.1 : Int), .int .i64 (vRun s.day s.code s.code.length).1])) ∨ ((vRun s.day s.code s.code.length).1 = 0 ∧ ∃ lb, e = .returned (.tuple #[.slice (some ⟨lb, 0, none⟩) s.code.length s.code.length, .int .i64 0, .int .i64 0]) ∧ w.heap.size < lb ∧ lb < w'.heap.size ∧ ∀ j, j < s.code.length → ∃ a c, w'.cell? ⟨lb, j * 3 + 1, none⟩ = some (.slice a (htF s j) c)))
theorem states14_v {w : World} {s : Sg} (hg : GV w s) (ok : SgOk s) : Calls Tryd.prog 21 #[.agg #[.int .i64 s.day, .slice s.ca s.code.length s.cc]] w fun e w' => SsV w s e w' := by
  refine (states14_any hg ok).mono (fun e w' z => ?_)
  have hc : ∀ k, (s.code.getD k default).o.toNat < 29 := by
    intro k
    by_cases hk : k < s.code.length
    · have := inst_bounds (ok.ok k hk).1
      omega
    · have : s.code.getD k default = default := by simp [List.getD, List.getElem?_eq_none (Nat.le_of_not_lt hk)]
      rw [this]
      decide
  obtain ⟨e1, e2, e3⟩ := dRun_v (day := s.day) hc s.code.length
  obtain ⟨b, z⟩ := z
  rw [e1, e2] at z
  refine ⟨b, ?_⟩
  rcases z with z | ⟨z0, lb, z1, zl, z2, z3⟩
  · exact .inl z
  · refine .inr ⟨z0, lb, z1, zl, z2, fun j hj => ?_⟩
    obtain ⟨a, c, q⟩ := z3 j hj
    have : dHtO ((dRun s.day s.code s.code.length).2.2 j) = htF s j := by
      have r := e3 j
      unfold htF vHt
      exact dHt_w r
    rw [this] at q
    exact ⟨a, c, q⟩
/-- Verify is at work: its boxes. -/
structure VfI (w : World) (p : Pg) (nb : Nat) (nd : Nds) (W : World) : Prop where
  be : Below w.heap.size w W
  pb : BkP W w.heap.size p.arr 26
  pr : BkP W (w.heap.size + 1) #[.int .i64 0, .int .i64 0, .int .i64 0] 29
  ng : w.heap.size + 1 < nb
  ne : BkP W nb #[.int .i64 nd.stack, .int .i64 nd.fuel, .int .i64 nd.back] 29
section
variable {w : World} {p : Pg} {nb : Nat} {nd : Nds} {W : World}
theorem VfI.lat {W' : World} (h : VfI w p nb nd W) (b : Below W.heap.size W W') : VfI w p nb nd W' := ⟨h.be.trans (b.mono h.be.size), h.pb.lat b, h.pr.lat b, h.ng, h.ne.lat b⟩
theorem VfI.same {nd' : Nds} (h : VfI w p nb nd W) (e1 : nd'.stack = nd.stack) (e2 : nd'.fuel = nd.fuel) (e3 : nd'.back = nd.back) : VfI w p nb nd' W := ⟨h.be, h.pb, h.pr, h.ng, by rw [e1, e2, e3]; exact h.ne⟩
theorem VfI.set (h : VfI w p nb nd W) (i : Nat) (x : Int) {nd' : Nds} (e : #[Value.int .i64 nd.stack, .int .i64 nd.fuel, .int .i64 nd.back].set! i (.int .i64 x) = #[.int .i64 nd'.stack, .int .i64 nd'.fuel, .int .i64 nd'.back]) (hi : i < 3) : VfI w p nb nd' (W.setCell ⟨nb, i, none⟩ (.int .i64 x)) := by
  have ng := h.ng
  refine ⟨h.be.setCell (by exact (by omega : w.heap.size ≤ nb)) _, h.pb.other _ _ _ (by omega), h.pr.other _ _ _ (by omega), ng, ?_⟩
  have := h.ne.set2 i (.int .i64 x) (by simpa using hi)
  rw [e] at this
  exact this
theorem VfI.far {b : Nat} {cs : Array Value} {t : TypeId} (h : VfI w p nb nd W) (hb : BkP W b cs t) (ht : t ≠ 29) (i : Nat) (v : Value) : BkP (W.setCell ⟨nb, i, none⟩ v) b cs t := hb.other _ _ _ (fun z => bk_ne h.ne hb (fun q => ht q.symm) z)
end
theorem proof_setD {w V : World} {nb : Nat} {a0 b0 c0 : Int} (be : Below w.heap.size w V) (pr : BkP V (w.heap.size + 1) #[.int .i64 a0, .int .i64 b0, .int .i64 c0] 29) (a b c : Int) : (V.frozen? ⟨w.heap.size + 1, 0, none⟩ = false ∧ V.frozen? ⟨w.heap.size + 1, 1, none⟩ = false ∧ V.frozen? ⟨w.heap.size + 1, 2, none⟩ = false) ∧ (V.cell? ⟨w.heap.size + 1, 0, none⟩ = some (.int .i64 a0) ∧ V.cell? ⟨w.heap.size + 1, 1, none⟩ = some (.int .i64 b0) ∧ V.cell? ⟨w.heap.size + 1, 2, none⟩ = some (.int .i64 c0)) ∧ BkP (set3 V (w.heap.size + 1) 0 (.int .i64 a) (.int .i64 b) (.int .i64 c)) (w.heap.size + 1) #[.int .i64 a, .int .i64 b, .int .i64 c] 29 ∧ Below w.heap.size w (set3 V (w.heap.size + 1) 0 (.int .i64 a) (.int .i64 b) (.int .i64 c)) := by
  refine ⟨⟨pr.frozen 0, pr.frozen 1, pr.frozen 2⟩, box_3R pr, ?_, ?_⟩
  · have := set3_blk (o := 0) (d0 := .int .i64 a) (d1 := .int .i64 b) (d2 := .int .i64 c) pr (by simp)
    simpa using this
  · unfold set3
    exact ((be.setCell (by exact Nat.le_succ _) _).setCell (by exact Nat.le_succ _) _).setCell (by exact Nat.le_succ _) _
theorem vf_start {w w1 : World} {p : Pg} (b : Below ((w.alloc p.box).alloc (.cells #[.int .i64 0, .int .i64 0, .int .i64 0] 29)).heap.size ((w.alloc p.box).alloc (.cells #[.int .i64 0, .int .i64 0, .int .i64 0] 29)) w1) : VfI w p w1.heap.size ⟨0, 0, 0, 0, 0⟩ (w1.alloc (.cells #[.int .i64 0, .int .i64 0, .int .i64 0] 29)) := by
  have e : (w.alloc p.box).heap.size = w.heap.size + 1 := by simp
  have e2 : ((w.alloc p.box).alloc (.cells #[.int .i64 0, .int .i64 0, .int .i64 0] 29)).heap.size = w.heap.size + 2 := by simp
  have W0 : Below w.heap.size w ((w.alloc p.box).alloc (.cells #[.int .i64 0, .int .i64 0, .int .i64 0] 29)) := ((Below.refl _ w).alloc (Nat.le_refl _) _).alloc (by simp) _
  have al := allocBP w1 (.cells #[.int .i64 0, .int .i64 0, .int .i64 0] 29)
  have t1 : BkP (w.alloc p.box) w.heap.size p.arr 26 := heapN _ _
  have t2 := heapN (w.alloc p.box) (.cells #[.int .i64 0, .int .i64 0, .int .i64 0] 29)
  rw [e] at t2
  have bw := W0.trans (b.mono W0.size)
  exact ⟨bw.trans (al.mono bw.size), ((t1.lat (allocBP _ _)).lat b).lat al, (BkP.lat t2 b).lat al, by have := b.size; omega, heapN _ _⟩
end Go.Proofs.YtjbbbejadhojlaaDoor
