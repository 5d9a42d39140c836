import Derived.Test.YtjbbbejadhojlaaDoorXBJ
import Derived.Test.YtjbbbejadhojlaaDoorXBK
namespace Go.Proofs.YtjbbbejadhojlaaDoor
open Go.RowKit
set_option linter.unusedVariables false
set_option linter.unusedSimpArgs false
theorem hdP_key (p : Pg) (gn gc gp gd : Nat) (cg : Nat → Nat) : (hdP p gn gc gp gd cg (fun d => (p.days.getD d default).code)).key = p.key := by
  refine key_eq rfl rfl rfl rfl rfl rfl rfl ?_
  have l2 : (hdP p gn gc gp gd cg (fun d => (p.days.getD d default).code)).days.length = p.days.length := by show ((List.range p.days.length).map _).length = _; simp
  refine keys_eq l2 (fun e he => ?_)
  have he : e < p.days.length := by rw [← l2]; exact he
  have : (hdP p gn gc gp gd cg (fun d => (p.days.getD d default).code)).days.getD e default = ⟨(p.days.getD e default).day, some ⟨cg e, 0, none⟩, (p.days.getD e default).code.length + 3, (p.days.getD e default).code⟩ := by
    show ((List.range p.days.length).map _).getD e default = _
    simp [he]
  rw [this]
  rfl
/-- The law is at work: its boxes, what was handed over. -/
structure ExI (w W0 : World) (p : Pg) (gn gc gp gd : Nat) (cg : Nat → Nat) (cd : Nat → List In) (x3 : Nat) (W : World) : Prop where
  bw : Below W0.heap.size W0 W
  pb : BkP W w.heap.size p.arr 26
  ib : BkP W x3 (hdA p gn gc gp gd) 26
  xg : W0.heap.size ≤ x3
  hn : HnP W W0.heap.size p gn gc gp gd cg cd
section
variable {w W0 : World} {p : Pg} {gn gc gp gd : Nat} {cg : Nat → Nat} {cd : Nat → List In} {x3 : Nat} {W : World}
theorem ExI.lat {W' : World} (h : ExI w W0 p gn gc gp gd cg cd x3 W) (b : Below W.heap.size W W') : ExI w W0 p gn gc gp gd cg cd x3 W' := ⟨h.bw.trans (b.mono h.bw.size), h.pb.lat b, h.ib.lat b, h.xg, h.hn.lat b⟩
/-- A box of another kind is written. -/
theorem ExI.far (h : ExI w W0 p gn gc gp gd cg cd x3 W) {x : Nat} {cs : Array Value} (hx : BkP W x cs 29) (hg : W0.heap.size ≤ x) (d0 d1 d2 : Value) : ExI w W0 p gn gc gp gd cg cd x3 (set3 W x 0 d0 d1 d2) := by
  have ne : ∀ {u : Nat} {cs : Array Value} {t : TypeId}, BkP W u cs t → t ≠ 29 → u ≠ x := fun {u cs t} bk ht z => bk_ne hx bk (fun q => ht q.symm) z.symm
  have kk : ∀ {u : Nat} {cs : Array Value} {t : TypeId}, BkP W u cs t → t ≠ 29 → BkP (set3 W x 0 d0 d1 d2) u cs t := fun {u cs t} bk ht => (set3_far (ne bk ht)).trans bk
  refine ⟨?_, kk h.pb (by decide), kk h.ib (by decide), h.xg, ⟨kk h.hn.bn (by decide), kk h.hn.bc (by decide), kk h.hn.bp (by decide), kk h.hn.bd (by decide), fun d hd => ⟨kk (h.hn.bi d hd).1 (by decide), (h.hn.bi d hd).2⟩, h.hn.lo, h.hn.inj⟩⟩
  unfold set3
  exact ((h.bw.setCell (by exact hg) _).setCell (by exact hg) _).setCell (by exact hg) _
end
theorem code_i64 {w : World} {p : Pg} (hp : PV w p) : ∀ d, d < p.days.length → ∀ i ∈ (p.days.getD d default).code, i64 i.o ∧ i64 i.a ∧ i64 i.b := fun d hd => (hp.days.2.2.2.1 _ (sg_mem hd)).2.2.2.2.1
theorem cdR_i64 {w : World} {p : Pg} (hp : PV w p) : ∀ d, d < p.days.length → ∀ i ∈ cdR p p.days.length d, i64 i.o ∧ i64 i.a ∧ i64 i.b := fun d hd i hi => by
  unfold cdR at hi
  rw [if_pos hd] at hi
  exact code_i64 hp d hd i (List.mem_reverse.1 hi)
end Go.Proofs.YtjbbbejadhojlaaDoor
