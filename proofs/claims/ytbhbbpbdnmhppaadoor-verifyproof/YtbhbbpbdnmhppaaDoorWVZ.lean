/-
  VerifyProof: its parts.
-/
import Derived.Test.YtbhbbpbdnmhppaaDoorME
namespace Go.Proofs.YtbhbbpbdnmhppaaDoor
open Go.RowKit
set_option linter.unusedVariables false
set_option linter.unusedSimpArgs false
theorem most_any (a b : Int) (w : World) : Calls Tryd.prog 12 #[.int .i64 a, .int .i64 b] w fun e w' => e = .returned (.int .i64 (max a b)) ∧ w' = w := by
  by_cases h : b < a
  · have m : max a b = a := by omega
    rw [m]
    clear m
    go_enter Tryd.func12, Tryd.ntmps12
    go_wp2
    go_ret
    exact ⟨rfl, rfl⟩
  · have m : max a b = b := by omega
    rw [m]
    clear m
    go_enter Tryd.func12, Tryd.ntmps12
    go_wp2
    go_ret
    exact ⟨rfl, rfl⟩
/-- The boxes while VerifyProof goes on. -/
structure PxR (w wr : World) (p : Pg) (prb xb : Nat) (r nd : Nds) : Prop where
  pb : BkP wr w.heap.size p.arr 26
  pr : BkP wr prb #[.int .i64 r.stack, .int .i64 r.fuel, .int .i64 r.back] 29
  xx : BkP wr xb #[.int .i64 nd.stack, .int .i64 nd.fuel, .int .i64 nd.back] 29
  be : Below w.heap.size w wr
  lo : w.heap.size ≤ xb ∧ prb ≠ xb
theorem PxR.later {w wr V : World} {p : Pg} {prb xb : Nat} {r nd : Nds} (h : PxR w wr p prb xb r nd) (b : Below wr.heap.size wr V) : PxR w V p prb xb r nd := ⟨h.pb.lat b, h.pr.lat b, h.xx.lat b, h.be.trans (b.mono h.be.size), h.lo⟩
theorem px_set {w wr : World} {p : Pg} {prb xb : Nat} {r nd nd' : Nds} (h : PxR w wr p prb xb r nd) (k : Nat) (v : Value) (hk : k < 3) (e : (#[.int .i64 nd.stack, .int .i64 nd.fuel, .int .i64 nd.back] : Array Value).set! k v = #[.int .i64 nd'.stack, .int .i64 nd'.fuel, .int .i64 nd'.back]) : PxR w (wr.setCell ⟨xb, k, none⟩ v) p prb xb r nd' := by
  have x1 := h.xx.set2 k v (by simpa using hk)
  rw [e] at x1
  exact ⟨h.pb.other xb k v (fun q => bk_ne h.pb h.xx (by decide) q.symm), h.pr.other xb k v (Ne.symm h.lo.2), x1, h.be.setCell (p := ⟨xb, k, none⟩) h.lo.1 v, h.lo⟩
/-- The three numbers that are told of an instruction. -/
theorem see_three (nd : Nds) (i : In) (h : Nat) : (vSee nd i h).stack = max nd.stack h ∧ (vSee nd i h).fuel = nd.fuel + 1 ∧ (vSee nd i h).back = if i.o = 3 then max nd.back i.b else nd.back := by
  unfold vSee
  simp only
  by_cases a : i.o = 6 ∨ i.o = 7
  · rw [if_pos a]
    exact ⟨rfl, rfl, by rw [if_neg (by omega)]⟩
  · rw [if_neg a]
    by_cases b : i.o = 4 ∨ i.o = 5
    · rw [if_pos b]
      exact ⟨rfl, rfl, by rw [if_neg (by omega)]⟩
    · rw [if_neg b]
      by_cases c : i.o = 3
      · rw [if_pos c, if_pos c]
        exact ⟨rfl, rfl, rfl⟩
      · rw [if_neg c, if_neg c]
        exact ⟨rfl, rfl, rfl⟩
theorem need_next {nd : Nds} {sg : Sg} {k : Nat} (hk : k < sg.code.length) : (vNeed nd sg.day sg.code (k + 1)).stack = max (vNeed nd sg.day sg.code k).stack (htF sg k) ∧ (vNeed nd sg.day sg.code (k + 1)).fuel = (vNeed nd sg.day sg.code k).fuel + 1 ∧ (vNeed nd sg.day sg.code (k + 1)).back = if (sg.code.getD k default).o = 3 then max (vNeed nd sg.day sg.code k).back (sg.code.getD k default).b else (vNeed nd sg.day sg.code k).back := by
  have e := see_three (vNeed nd sg.day sg.code k) (sg.code.getD k default) (htF sg k)
  have e2 : vNeed nd sg.day sg.code (k + 1) = vSee (vNeed nd sg.day sg.code k) (sg.code.getD k default) (htF sg k) := by
    simp only [vNeed]
    rw [htF_at hk]
  rw [e2]
  exact e
/-- Verify of a program whose numbers alone are others. -/
theorem vfy_other {p q : Pg} (hd : q.days = p.days) (h : (vfy p).1 = 0) (hq : canP q) : vfyA q = if q.stack = p.stack ∧ q.slots = p.slots ∧ q.cells = p.cells then (0, 0, 0, (vAll p.days p.days.length).2.2.2) else (147, p.days.length, 0, ⟨0, 0, 0, 0, 0⟩) := by
  obtain ⟨h1, h2, h3⟩ := vfy_ok h
  have e : vfyA q = vfy q := by unfold vfyA; rw [if_pos hq]
  rw [e]
  unfold vfy
  rw [hd, if_neg (by simpa using h1)]
  by_cases c : q.stack = p.stack ∧ q.slots = p.slots ∧ q.cells = p.cells
  · rw [if_pos c, if_pos ⟨c.1.trans h2.1, c.2.1.trans h2.2.1, c.2.2.trans h2.2.2⟩]
  · rw [if_neg c, if_neg (fun z => c ⟨z.1.trans h2.1.symm, z.2.1.trans h2.2.1.symm, z.2.2.trans h2.2.2.symm⟩)]
end Go.Proofs.YtbhbbpbdnmhppaaDoor
