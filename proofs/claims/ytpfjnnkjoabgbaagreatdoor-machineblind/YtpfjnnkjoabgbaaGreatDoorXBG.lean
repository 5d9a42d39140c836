import Derived.Test.YtpfjnnkjoabgbaaGreatDoorXBF
import Derived.Test.YtpfjnnkjoabgbaaGreatDoorXAM
import Derived.Test.YtpfjnnkjoabgbaaGreatDoorXAI
import Derived.Laws.EntriesVeiled
import Derived.Laws.Rows
import Derived.Deep.AppendSrc
import Derived.Shelf.Abstract
import Derived.WalkMore
namespace Go.Proofs.YtpfjnnkjoabgbaaGreatDoor
set_option linter.unusedVariables false
set_option linter.unusedSimpArgs false
theorem fitF_in3 (n : Int) : 0 ≤ fitF n ∧ fitF n ≤ 3 := by unfold fitF; split <;> omega
theorem mOp_f (k : Nat) (m x y z : Int) : 0 ≤ (mOp k m x y z).2 ∧ (mOp k m x y z).2 ≤ 3 := by
  unfold mOp
  split <;> first | exact fitF_in3 _ | (simp only; omega) | skip
  · simp only; unfold divF; split
    · omega
    · exact fitF_in3 _
  · simp only; unfold modF; split <;> omega
  · split
    · simp
    · exact fitF_in3 _
theorem mDo_f (E : EvM) (i : In) (r : Rn) : 0 ≤ (mDo E i r).1 ∧ (mDo E i r).1 ≤ 3 := by
  unfold mDo
  split <;> try (simp; done)
  · split <;> simp
  · split
    · simp
    · exact mOp_f _ _ _ _ _
theorem mDo_ce (E : EvM) (i : In) (r : Rn) : (mDo E i r).2.ce.length = r.ce.length := by
  unfold mDo
  split <;> try (simp [Rn.put, Rn.cut]; done)
  · split <;> simp [Rn.put]
  · split <;> simp [Rn.cut]
  · split <;> simp [Rn.cut, Rn.put]
theorem mGo_all (E : EvM) (code : List In) : ∀ (n : Nat) (r : Rn), 0 ≤ (mGo E code n r).1 ∧ (mGo E code n r).1 ≤ 3 ∧ (mGo E code n r).2.1 ≤ n ∧ (mGo E code n r).2.2.ce.length = r.ce.length
  | 0, r => by simp [mGo]
  | n + 1, r => by
    simp only [mGo]
    have f := mDo_f E (code.getD r.nx default) { r with nx := r.nx + 1 }
    have c := mDo_ce E (code.getD r.nx default) { r with nx := r.nx + 1 }
    split
    · exact ⟨f.1, f.2, Nat.succ_le_succ (Nat.zero_le _), c⟩
    · obtain ⟨a, b, d, e⟩ := mGo_all E code n (mAt E code r).2
      exact ⟨a, b, by simp only; omega, e.trans c⟩
/-- Every flow has its day. -/
theorem mDo_fl (E : EvM) (i : In) (r : Rn) (h : ∀ f ∈ r.fl, f.d = E.t) : ∀ f ∈ (mDo E i r).2.fl, f.d = E.t := by
  unfold mDo
  split <;> try (simp only [Rn.put, Rn.cut]; exact h)
  · split <;> exact h
  · split <;> exact h
  · intro f hf
    simp only [List.mem_append, List.mem_singleton] at hf
    rcases hf with hf | rfl
    · exact h f hf
    · rfl
  · split <;> exact h
theorem mGo_fl (E : EvM) (code : List In) : ∀ (n : Nat) (r : Rn), (∀ f ∈ r.fl, f.d = E.t) → ∀ f ∈ (mGo E code n r).2.2.fl, f.d = E.t
  | 0, r, h => by simpa [mGo] using h
  | n + 1, r, h => by
    simp only [mGo]
    have q := mDo_fl E (code.getD r.nx default) { r with nx := r.nx + 1 } h
    split
    · exact q
    · exact mGo_fl E code n (mAt E code r).2 q
theorem dayFl_d (p : Pg) (s : Ms) (row : List Cl) : ∀ f ∈ dayFl p s row, f.d = s.today := mGo_fl (p.env s row) _ _ _ (by simp [Ms.begun])
theorem vAll_back {days : List Sg} : ∀ D, D ≤ days.length → (vAll days D).1 = 0 → 0 ≤ (vAll days D).2.2.2.back
  | 0, _, _ => by simp [vAll]
  | D + 1, hD, h => by
    have h0 := vAll_before h (Nat.le_succ D)
    rw [vAll_succ h0]
    have := vAll_back D (by omega) h0
    have := (need_upM (nd := (vAll days D).2.2.2) (sg := days.getD D default) (days.getD D default).code.length (Nat.le_refl _)).2.1
    simp only
    omega
/-- What is known of the proof of a program that was taken. -/
theorem nds_of {p : Pg} (h : (vfyA p).1 = 0) : 0 ≤ (vfyA p).2.2.2.back ∧ 0 ≤ (vfyA p).2.2.2.stack ∧ (vfyA p).2.2.2.stack ≤ 16384 ∧ 0 ≤ p.hor ∧ p.hor ≤ 3660 ∧ 0 ≤ p.cells ∧ p.cells ≤ 32768 ∧ p.names.length ≤ 64 ∧ canP p := by
  obtain ⟨c, e⟩ := vfyA_canM h
  rw [e] at h ⊢
  obtain ⟨v1, v2, v3⟩ := vfy_ok h
  rw [v3]
  have hp := numP_hor c.1
  have hn := c.1
  unfold numP wB at hn
  simp only [Bool.and_eq_true, decide_eq_true_eq] at hn
  have := v2.1
  exact ⟨vAll_back _ (Nat.le_refl _) v1, by simp only; omega, by simp only; omega, hp.1, hp.2, by omega, by omega, c.2.1.1, c⟩
theorem born_ok {p : Pg} {n : Nds} (hh : 0 ≤ p.hor) (hc : 0 ≤ p.cells) (hb : 0 ≤ n.back) : MsOk p n p.born := by
  refine ⟨by simp [Pg.born], by simp [Pg.born]; omega, by simp [Pg.born], by simp [Pg.born], by simp [Pg.born], ?_, by simp [Pg.born]; omega, by simp [Pg.born], fun _ => rfl, by simp [Pg.born, inR]⟩
  intro x hx
  simp only [Pg.born, List.mem_replicate] at hx
  rw [hx.2]
  simp [inR]
theorem pastOn_len {back : Int} {past : List (List Cl)} {row : List Cl} {t : Int} (h : (past.length : Int) = min t back) (hb : 0 ≤ back) (ht : 0 ≤ t) : ((pastOn back past row).length : Int) = min (t + 1) back := by
  unfold pastOn
  split
  · simp only [List.length_drop, List.length_append, List.length_cons, List.length_nil]; omega
  · simp only [List.length_append, List.length_cons, List.length_nil]; omega
theorem pastOn_mem {back : Int} {past : List (List Cl)} {row l : List Cl} (h : l ∈ pastOn back past row) : l ∈ past ∨ l = row := by
  unfold pastOn at h
  split at h
  · have := List.mem_of_mem_drop h
    simpa using this
  · simpa using h
/-- A day keeps a state well. -/
theorem dayMs_ok {p : Pg} {n : Nds} {s : Ms} {row : List Cl} (ms : MsOk p n s) (hb : 0 ≤ n.back) (hh : p.hor ≤ 3660) (no : ¬ s.over p.hor) (hr : ∀ c ∈ row, inR c.v) (hl : (dayCode p.days s.today).length ≤ 262144) (hi : ∀ x ∈ (dayGo p s row).2.2.ce, inR x) : MsOk p n (dayMs p n.back s row) := by
  obtain ⟨g1, g2, g3, g4⟩ := mGo_all (p.env s row) (dayCode p.days s.today) (dayCode p.days s.today).length s.begun
  have e : mGo (p.env s row) (dayCode p.days s.today) (dayCode p.days s.today).length s.begun = dayGo p s row := rfl
  rw [e] at g1 g2 g3 g4
  unfold Ms.over at no
  have t0 := ms.t0
  have t1 := ms.t1
  have s0 := ms.s0
  have s1 := ms.s1
  unfold dayMs
  refine ⟨by simp only; omega, by simp only; omega, by simp only; omega, by simp only; omega, by simp only; rw [g4]; exact ms.ce, hi, pastOn_len ms.pl hb t0, ?_, ?_, ?_⟩
  · intro l h
    rcases pastOn_mem h with q | rfl
    · exact ms.pr l q
    · exact ⟨fitR_len _ _, fitR_in hr⟩
  · simp only
    intro q
    split at q
    · rename_i z; rw [if_pos z]; exact ms.f0 q
    · rename_i z; exact absurd q z
  · simp only
    have f1 := ms.f1
    split
    · exact f1
    · unfold inR; omega
/-- Rows that look alike when they are fitted. -/
theorem dayMs_fit {p : Pg} {back : Int} {s : Ms} {a b : List Cl} (h : fitR p.names.length a = fitR p.names.length b) : dayMs p back s a = dayMs p back s b ∧ dayFl p s a = dayFl p s b := by
  have e : dayGo p s a = dayGo p s b := by unfold dayGo Pg.env; rw [h]
  unfold dayMs dayFl
  rw [e, h]
  exact ⟨rfl, rfl⟩
theorem runMs_fit {p : Pg} {back : Int} {a b : Nat → List Cl} : ∀ (n : Nat) (s : Ms), (∀ d, d < n → fitR p.names.length (a d) = fitR p.names.length (b d)) → runMs p back a n s = runMs p back b n s
  | 0, s, h => rfl
  | n + 1, s, h => by
    simp only [runMs]
    rw [runMs_fit n s (fun d hd => h d (by omega))]
    rw [(dayMs_fit (back := back) (h n (by omega))).1, (dayMs_fit (back := back) (h n (by omega))).2]
/-- How far a run has come. -/
theorem runMs_today {p : Pg} {back : Int} {a : Nat → List Cl} : ∀ (n : Nat), ((runMs p back a n p.born).1.today : Int) ≤ n ∧ (¬ (runMs p back a n p.born).1.over p.hor → (runMs p back a n p.born).1.today = n)
  | 0 => ⟨by simp [runMs, Pg.born], fun _ => by simp [runMs, Pg.born]⟩
  | n + 1 => by
    obtain ⟨i1, i2⟩ := runMs_today (a := a) (p := p) (back := back) n
    simp only [runMs]
    split
    · rename_i z; exact ⟨by omega, fun q => absurd z q⟩
    · rename_i z
      have := i2 z
      exact ⟨by simp only [dayMs]; omega, fun _ => by simp only [dayMs]; omega⟩
theorem runMs_over {p : Pg} {back : Int} {a : Nat → List Cl} {n : Nat} (h : (runMs p back a n p.born).1.over p.hor) : ∀ m, runMs p back a (n + m) p.born = runMs p back a n p.born
  | 0 => rfl
  | m + 1 => by
    show runMs p back a ((n + m) + 1) p.born = _
    simp only [runMs]
    rw [runMs_over h m, if_pos h]
theorem runMs_end {p : Pg} {back : Int} {a : Nat → List Cl} : (runMs p back a (p.hor + 1).toNat p.born).1.over p.hor := by
  apply Classical.byContradiction
  intro z
  have q := (runMs_today (a := a) (p := p) (back := back) (p.hor + 1).toNat).2 z
  unfold Ms.over at z
  omega
/-- The end of a run. -/
theorem runMs_last {p : Pg} {back : Int} {a : Nat → List Cl} {n : Nat} (h : (runMs p back a n p.born).1.over p.hor) (hn : n ≤ (p.hor + 1).toNat) : runMs p back a (p.hor + 1).toNat p.born = runMs p back a n p.born := by
  have := runMs_over h ((p.hor + 1).toNat - n)
  rw [show n + ((p.hor + 1).toNat - n) = (p.hor + 1).toNat by omega] at this
  exact this
/-- What a run has come to up to a day. -/
def shF (day : Int) (l : List Fl) : List Fl := l.filter (fun f => decide (f.d ≤ day))
def shE (day : Int) (s : Ms) : Int × Int := if s.fault ≠ 0 ∧ s.day ≤ day then (s.fault, s.day) else (0, 0)
theorem shown_step {p : Pg} {back : Int} {a : Nat → List Cl} {n : Nat} {day : Int} (h : day < (n : Int)) : shF day (runMs p back a (n + 1) p.born).2 = shF day (runMs p back a n p.born).2 ∧ shE day (runMs p back a (n + 1) p.born).1 = shE day (runMs p back a n p.born).1 := by
  simp only [runMs]
  split
  · exact ⟨rfl, rfl⟩
  · rename_i z
    have t := (runMs_today (a := a) (p := p) (back := back) n).2 z
    have z' := z
    unfold Ms.over at z'
    generalize hs : (runMs p back a n p.born).1 = s at *
    constructor
    · unfold shF
      rw [List.filter_append]
      have : (dayFl p s (a n)).filter (fun f => decide (f.d ≤ day)) = [] := by
        apply List.filter_eq_nil_iff.2
        intro f hf
        have := dayFl_d p s (a n) f hf
        simp only [decide_eq_true_eq]
        omega
      rw [this, List.append_nil]
    · unfold shE
      have s0 : ¬ (s.fault ≠ 0 ∧ s.day ≤ day) := fun q => z' (.inl q.1)
      rw [if_neg s0]
      apply if_neg
      simp only [dayMs]
      intro q
      split at q
      · exact s0 q
      · omega
theorem shown_to {p : Pg} {back : Int} {a : Nat → List Cl} {day : Int} {n : Nat} (h : day < (n : Int)) : ∀ m, shF day (runMs p back a (n + m) p.born).2 = shF day (runMs p back a n p.born).2 ∧ shE day (runMs p back a (n + m) p.born).1 = shE day (runMs p back a n p.born).1
  | 0 => ⟨rfl, rfl⟩
  | m + 1 => by
    obtain ⟨i1, i2⟩ := shown_to h m (a := a) (p := p) (back := back)
    obtain ⟨j1, j2⟩ := shown_step (a := a) (p := p) (back := back) (n := n + m) (day := day) (by omega)
    exact ⟨j1.trans i1, j2.trans i2⟩
/-- No day looks ahead. -/
theorem shown_same {p : Pg} {back : Int} {a b : Nat → List Cl} {day : Int} (h : ∀ d : Nat, (d : Int) ≤ day → a d = b d) (N : Nat) : shF day (runMs p back a N p.born).2 = shF day (runMs p back b N p.born).2 ∧ shE day (runMs p back a N p.born).1 = shE day (runMs p back b N p.born).1 := by
  have pre : ∀ n : Nat, (n : Int) ≤ day + 1 → runMs p back a n p.born = runMs p back b n p.born := fun n hn => runMs_fit n _ (fun d hd => by rw [h d (by omega)])
  by_cases c : (N : Int) ≤ day + 1
  · rw [pre N c]; exact ⟨rfl, rfl⟩
  · have k : ∃ n : Nat, day < (n : Int) ∧ n ≤ N ∧ ((n : Int) ≤ day + 1 ∨ n = 0) := by
      by_cases z : 0 ≤ day
      · exact ⟨(day + 1).toNat, by omega, by omega, by omega⟩
      · exact ⟨0, by omega, by omega, by omega⟩
    obtain ⟨n, n1, n2, n3⟩ := k
    have e : runMs p back a n p.born = runMs p back b n p.born := by
      rcases n3 with q | q
      · exact pre n q
      · subst q; rfl
    obtain ⟨x1, x2⟩ := shown_to (a := a) (p := p) (back := back) n1 (N - n)
    obtain ⟨y1, y2⟩ := shown_to (a := b) (p := p) (back := back) n1 (N - n)
    rw [show n + (N - n) = N by omega] at x1 x2 y1 y2
    rw [x1, x2, y1, y2, e]
    exact ⟨rfl, rfl⟩
end Go.Proofs.YtpfjnnkjoabgbaaGreatDoor

namespace Go.Proofs.YtpfjnnkjoabgbaaGreatDoor
open Go.RowKit
set_option linter.unusedVariables false
set_option linter.unusedSimpArgs false
def fnD : List Nat := [61, 62, 63, 64, 65, 66, 67, 68, 69, 70, 71, 72, 73, 74, 75, 76, 77, 78, 79, 80, 81, 82, 83, 84, 85, 86, 87, 88, 89]
def fnV : Array Value := (fnD.map (fun k => Value.func (.func k) #[] #[])).toArray
theorem heap_newD (w : World) (o : Obj) : (w.alloc o).heap[w.heap.size]? = some o := by unfold World.alloc; simp [-World.alloc_eq]
theorem dd_info : (Tryz.prog.info? 114).map (·.size) = some 29 := by kernel_rfl
theorem fnV_size : fnV.size = 29 := by kernel_rfl
theorem fnV_one : fnV.all (·.oneCell') = true := by kernel_rfl
set_option maxRecDepth 100000 in
theorem alloc_dd {ops : Array Oper} {rest : List Oper} {op : Oper} {a : Act} {w : World} {Q : Exit → Act → World → Prop} (hgd : op.guard = none) (ho : op.op = .alloc 114) (h : ∀ c : Array Value, c.size = 29 → wpList Tryz.prog ops Q rest (a.put op.dst (.pointer (some ⟨w.heap.size, 0, none⟩))) (w.alloc (.cells c 114))) : wpList Tryz.prog ops Q (op :: rest) a w := by
  refine wpList_plain hgd fun _ hK => ?_
  have hK := fun c e => hK _ _ (h c e)
  unfold Oper.wp execOp
  simp only [ho]
  go_simp
  exact hK _ rfl
theorem store_dd {ops : Array Oper} {rest : List Oper} {op : Oper} {a : Act} {w : World} {Q : Exit → Act → World → Prop} (hgd : op.guard = none) (x y : Operand) (ho : op.op = .store 114 x y) (c : Array Value) (hc : c.size = 29) (hx : a.eval x = .pointer (some ⟨w.heap.size, 0, none⟩)) (hy : a.eval y = .agg fnV) (h : wpList Tryz.prog ops Q rest (a.put op.dst undef) (w.alloc (.cells fnV 114))) : wpList Tryz.prog ops Q (op :: rest) a (w.alloc (.cells c 114)) := by
  refine wpList_plain hgd fun _ hK => ?_
  have hK := hK _ _ h
  unfold Oper.wp execOp
  simp only [ho, hx, hy, Instr.storeAt, Instr.sureAddr, Sem.run_bind, Sem.run_pure, Result.andThen_ok, run_storeVar_new w 114 c fnV (by rw [dd_info, fnV_size]) (by rw [hc, fnV_size]) fnV_one]
  exact hK
set_option maxRecDepth 100000 in
set_option maxHeartbeats 1600000 in
theorem deeds_any (w : World) : Calls Tryz.prog 46 #[] w fun e w' => e = .returned (.agg fnV) ∧ Below w.heap.size w w' := by
  go_enter Tryz.func46, Tryz.ntmps46
  go_wp2_with (first | (with_reducible show wpList _ _ _ (Oper.mk _ (Op.alloc 114) _ _ _ _ :: _) _ _; refine alloc_dd rfl rfl ?_; intro c hc) | (with_reducible show wpList _ _ _ (Oper.mk _ (Op.store 114 _ _) _ _ _ _ :: _) _ _; refine store_dd rfl _ _ rfl c hc rfl rfl ?_))
  refine bodyPost_ret (v := .agg fnV) (results_cell_row rfl _ _ w.heap.size 114 fnV (0, 0) (.array 29 113) rfl (heap_newD w _) (by kernel_rfl) rfl (by rw [dd_info, fnV_size])) rfl ⟨rfl, (Below.refl _ _).alloc (Nat.le_refl _) _⟩
end Go.Proofs.YtpfjnnkjoabgbaaGreatDoor

namespace Go.Proofs.YtpfjnnkjoabgbaaGreatDoor
open Go.RowKit
set_option linter.unusedVariables false
set_option linter.unusedSimpArgs false
/-- At most the blocks of S have turned. -/
structure Kp (w w' : World) (S : Nat → Prop) : Prop where
  os : w'.os = w.os
  tape : w'.tape = w.tape
  out : w'.output = w.output
  size : w.heap.size ≤ w'.heap.size
  blk : ∀ k, k < w.heap.size → ¬ S k → w'.heap[k]? = w.heap[k]?
theorem Kp.refl (w : World) (S : Nat → Prop) : Kp w w S := ⟨rfl, rfl, rfl, Nat.le_refl _, fun _ _ _ => rfl⟩
theorem Kp.below {w w' : World} (b : Below w.heap.size w w') (S : Nat → Prop) : Kp w w' S := ⟨b.os, b.tape, b.output, b.size, fun k hk _ => b.block k hk⟩
theorem Kp.trans {a b c : World} {S T : Nat → Prop} (h : Kp a b S) (k : Kp b c T) (hT : ∀ x, x < a.heap.size → T x → S x) : Kp a c S := ⟨k.os.trans h.os, k.tape.trans h.tape, k.out.trans h.out, Nat.le_trans h.size k.size, fun x hx hs => (k.blk x (Nat.lt_of_lt_of_le hx h.size) (fun z => hs (hT x hx z))).trans (h.blk x hx hs)⟩
theorem Kp.bel {w w' : World} {S : Nat → Prop} {B : Nat} (h : Kp w w' S) (hB : ∀ k, S k → B ≤ k) (hw : B ≤ w.heap.size) : Below B w w' := ⟨h.os, h.tape, h.out, h.size, fun k hk => h.blk k (by omega) (fun z => by have := hB k z; omega)⟩
theorem Kp.mono {a b : World} {S T : Nat → Prop} (h : Kp a b S) (hT : ∀ k, S k → T k) : Kp a b T := ⟨h.os, h.tape, h.out, h.size, fun k hk n => h.blk k hk (fun z => n (hT k z))⟩
/-- A row of cells, in a block of cells. -/
def RwV (w : World) (v : Value) (l : List Cl) : Prop := ∃ a z, v = .slice a l.length z ∧ (l = [] ∨ ∃ y u cur fr, a = some ⟨y, u, none⟩ ∧ w.heap[y]? = some (.cells cur 73 fr) ∧ ∀ i, i < l.length → CC w y (u + i * 2) (l.getD i default))
theorem CC.blk {w w' : World} {b o : Nat} {c : Cl} (h : CC w b o c) (e : w'.heap[b]? = w.heap[b]?) : CC w' b o c := ⟨(World.cell?_of_block (a := ⟨b, o, none⟩) e).trans h.1, (World.cell?_of_block (a := ⟨b, o + 1, none⟩) e).trans h.2⟩
theorem RwV.keep {w w' : World} {v : Value} {l : List Cl} {S : Nat → Prop} (h : RwV w v l) (k : Kp w w' S) (ht : ∀ y cur fr, S y → w.heap[y]? ≠ some (.cells cur 73 fr)) : RwV w' v l := by
  obtain ⟨a, z, rfl, h⟩ := h
  refine ⟨a, z, rfl, ?_⟩
  rcases h with h | ⟨y, u, cur, fr, rfl, e, c⟩
  · exact .inl h
  · have hy : y < w.heap.size := (Array.getElem?_eq_some_iff.1 e).1
    have q := k.blk y hy (fun z => ht y cur fr z e)
    exact .inr ⟨y, u, cur, fr, rfl, q.trans e, fun i hi => (c i hi).blk q⟩
theorem RwV.lat {w w' : World} {v : Value} {l : List Cl} (h : RwV w v l) (b : Below w.heap.size w w') : RwV w' v l := h.keep (Kp.below b (fun _ => False)) (fun _ _ _ z => z.elim)
/-- The rows of the days that have been, where they lie: in a block of rows, from a place on. -/
structure PaV (w : World) (v : Value) (l : List (List Cl)) (vs : List Value) : Prop where
  len : vs.length = l.length
  rows : ∀ i, i < l.length → RwV w (vs.getD i default) (l.getD i [])
  one : ∀ u ∈ vs, u.oneCell' = true
  form : (v = .slice none 0 0 ∧ l = []) ∨ ∃ g o cap cur, v = .slice (some ⟨g, o, none⟩) l.length cap ∧ w.heap[g]? = some (.cells cur 47 (0, 0)) ∧ o + cap ≤ cur.size ∧ l.length ≤ cap ∧ cap ≤ maxLen ∧ ∀ i, i < l.length → cur[o + i]? = some (vs.getD i default)
theorem PaV.keep {w w' : World} {v : Value} {l : List (List Cl)} {vs : List Value} {S : Nat → Prop} (h : PaV w v l vs) (k : Kp w w' S) (ht : ∀ y cur fr, S y → w.heap[y]? ≠ some (.cells cur 73 fr)) (hg : ∀ g, v.ownBlock = some g → ¬ S g) : PaV w' v l vs := by
  refine ⟨h.len, fun i hi => (h.rows i hi).keep k ht, h.one, ?_⟩
  rcases h.form with q | ⟨g, o, cap, cur, rfl, e, r⟩
  · exact .inl q
  · exact .inr ⟨g, o, cap, cur, rfl, (k.blk g (Array.getElem?_eq_some_iff.1 e).1 (hg g rfl)).trans e, r⟩
theorem PaV.lat {w w' : World} {v : Value} {l : List (List Cl)} {vs : List Value} (h : PaV w v l vs) (b : Below w.heap.size w w') : PaV w' v l vs := h.keep (Kp.below b (fun _ => False)) (fun _ _ _ z => z.elim) (fun _ _ z => z.elim)
theorem PaV.lt {w : World} {v : Value} {l : List (List Cl)} {vs : List Value} (h : PaV w v l vs) : ∀ g, v.ownBlock = some g → ∃ cur, w.heap[g]? = some (.cells cur 47 (0, 0)) := by
  intro g hg
  rcases h.form with ⟨rfl, _⟩ | ⟨g', o, cap, cur, rfl, e, _⟩
  · cases hg
  · simp only [Value.ownBlock, Option.some.injEq] at hg
    subst hg
    exact ⟨cur, e⟩
end Go.Proofs.YtpfjnnkjoabgbaaGreatDoor

namespace Go.Proofs.YtpfjnnkjoabgbaaGreatDoor
open Go.RowKit
set_option linter.unusedVariables false
set_option linter.unusedSimpArgs false
/-- A machine (D: the blocks that its program's lists lie in). -/
structure McV (D : Nat → Prop) (w : World) (mb : Nat) (p : Pg) (n : Nds) (cev pav : Value) (s : Ms) : Prop where
  box : BkP w mb (mArr p n s.today s.steps cev pav s.fault s.day) 75
  dl : ∀ k, D k → k < w.heap.size
  pv : ∀ V, (∀ k, D k → V.heap[k]? = w.heap[k]?) → PV V p
  ce : CeR w cev s.cells
  pa : ∃ vs, PaV w pav s.past vs
  dm : ¬ D mb
  dc : ∀ g, cev.ownBlock = some g → ¬ D g
  dp : ∀ g, pav.ownBlock = some g → ¬ D g
  ok : MsOk p n s
/-- The blocks that a day may turn. -/
def turnS (mb : Nat) (cev pav : Value) (k : Nat) : Prop := k = mb ∨ cev.ownBlock = some k ∨ pav.ownBlock = some k
theorem CeR.blk {w w' : World} {v : Value} {l : List Int} (h : CeR w v l) (hb : ∀ g, v.ownBlock = some g → w'.heap[g]? = w.heap[g]?) : CeR w' v l := by
  rcases h with q | q
  · exact .inl q
  · exact .inr (q.blk hb)
theorem CeR.lt {w : World} {v : Value} {l : List Int} (h : CeR w v l) : ∀ g, v.ownBlock = some g → ∃ cur fr, w.heap[g]? = some (.cells cur 3 fr) := by
  intro g hg
  rcases h with ⟨_, a, c, rfl, q⟩ | q
  · rw [q] at hg; cases hg
  · rcases q.2 with ⟨rfl, _⟩ | ⟨g', cap, cur, rfl, _, e, _⟩
    · cases hg
    · simp only [Value.ownBlock, Option.some.injEq] at hg
      subst hg
      exact ⟨cur, _, e⟩
/-- A machine stays while other blocks turn. -/
theorem McV.keep {D : Nat → Prop} {w w' : World} {mb : Nat} {p : Pg} {n : Nds} {cev pav : Value} {s : Ms} {S : Nat → Prop} (h : McV D w mb p n cev pav s) (k : Kp w w' S) (hS : ∀ x, S x → ¬ D x ∧ ¬ turnS mb cev pav x ∧ ∀ cur fr, w.heap[x]? ≠ some (.cells cur 73 fr)) : McV D w' mb p n cev pav s := by
  obtain ⟨vs, pa⟩ := h.pa
  have lt : ∀ {x : Nat} {o : Obj}, w.heap[x]? = some o → x < w.heap.size := fun e => (Array.getElem?_eq_some_iff.1 e).1
  refine ⟨(k.blk mb (lt h.box) (fun z => (hS mb z).2.1 (.inl rfl))).trans h.box, fun x hx => Nat.lt_of_lt_of_le (h.dl x hx) k.size, fun V a => h.pv V (fun x hx => (a x hx).trans (k.blk x (h.dl x hx) (fun z => (hS x z).1 hx))), h.ce.blk (fun g hg => ?_), ⟨vs, pa.keep k (fun y cur fr z => (hS y z).2.2 cur fr) (fun g hg z => (hS g z).2.1 (.inr (.inr hg)))⟩, h.dm, h.dc, h.dp, h.ok⟩
  obtain ⟨cur, fr, e⟩ := h.ce.lt g hg
  exact k.blk g (lt e) (fun z => (hS g z).2.1 (.inr (.inl hg)))
theorem McV.lat {D : Nat → Prop} {w w' : World} {mb : Nat} {p : Pg} {n : Nds} {cev pav : Value} {s : Ms} (h : McV D w mb p n cev pav s) (b : Below w.heap.size w w') : McV D w' mb p n cev pav s := h.keep (Kp.below b (fun _ => False)) (fun _ z => z.elim)
theorem McV.prog {D : Nat → Prop} {w : World} {mb : Nat} {p : Pg} {n : Nds} {cev pav : Value} {s : Ms} (h : McV D w mb p n cev pav s) : PV w p := h.pv w (fun _ _ => rfl)
/-- The blocks that a day may turn are there, and none is of cells or of flows. -/
theorem McV.turn {D : Nat → Prop} {w : World} {mb : Nat} {p : Pg} {n : Nds} {cev pav : Value} {s : Ms} (h : McV D w mb p n cev pav s) {x : Nat} (hx : turnS mb cev pav x) : ∃ cur t fr, w.heap[x]? = some (.cells cur t fr) ∧ (t = 75 ∨ t = 3 ∨ t = 47) := by
  rcases hx with rfl | hx | hx
  · exact ⟨_, _, _, h.box, .inl rfl⟩
  · obtain ⟨cur, fr, e⟩ := h.ce.lt x hx; exact ⟨_, _, _, e, .inr (.inl rfl)⟩
  · obtain ⟨vs, pa⟩ := h.pa
    obtain ⟨cur, e⟩ := pa.lt x hx; exact ⟨_, _, _, e, .inr (.inr rfl)⟩
end Go.Proofs.YtpfjnnkjoabgbaaGreatDoor

namespace Go.Proofs.YtpfjnnkjoabgbaaGreatDoor
open Go.RowKit
set_option linter.unusedVariables false
set_option linter.unusedSimpArgs false
set_option maxRecDepth 100000 in
theorem deed_any {K : Kx} {E : EvM} (hE : KE K E) {w : World} {steps : Int} {r : Rn} (h : RoE K w steps r) (i : In) (d : DPre E i r) : Calls Tryz.prog (fnD.getD i.o.toNat 0) #[.pointer (some ⟨K.rb, 0, none⟩), iAgg i] w fun e w' => e = .returned (.int .i64 (mDo E i r).1) ∧ RoE K w' steps (mDo E i r).2 := by
  have k29 : i.o.toNat < 29 := by have := d.ok.1; have := d.ok.2.1; omega
  have all : i.o.toNat = 0 ∨ i.o.toNat = 1 ∨ i.o.toNat = 2 ∨ i.o.toNat = 3 ∨ i.o.toNat = 4 ∨ i.o.toNat = 5 ∨ i.o.toNat = 6 ∨ i.o.toNat = 7 ∨ i.o.toNat = 8 ∨ i.o.toNat = 9 ∨ i.o.toNat = 10 ∨ i.o.toNat = 11 ∨ i.o.toNat = 12 ∨ i.o.toNat = 13 ∨ i.o.toNat = 14 ∨ i.o.toNat = 15 ∨ i.o.toNat = 16 ∨ i.o.toNat = 17 ∨ i.o.toNat = 18 ∨ i.o.toNat = 19 ∨ i.o.toNat = 20 ∨ i.o.toNat = 21 ∨ i.o.toNat = 22 ∨ i.o.toNat = 23 ∨ i.o.toNat = 24 ∨ i.o.toNat = 25 ∨ i.o.toNat = 26 ∨ i.o.toNat = 27 ∨ i.o.toNat = 28 := by omega
  rcases all with e | e | e | e | e | e | e | e | e | e | e | e | e | e | e | e | e | e | e | e | e | e | e | e | e | e | e | e | e
  · rw [show fnD.getD i.o.toNat 0 = 61 by rw [e]; rfl]; exact end_is hE h i d e
  · rw [show fnD.getD i.o.toNat 0 = 62 by rw [e]; rfl]; exact constant_is hE h i d e
  · rw [show fnD.getD i.o.toNat 0 = 63 by rw [e]; rfl]; exact truth_is hE h i d e
  · rw [show fnD.getD i.o.toNat 0 = 64 by rw [e]; rfl]; exact observe_is hE h i d e
  · rw [show fnD.getD i.o.toNat 0 = 65 by rw [e]; rfl]; exact load_is hE h i d e
  · rw [show fnD.getD i.o.toNat 0 = 66 by rw [e]; rfl]; exact store_is hE h i d e
  · rw [show fnD.getD i.o.toNat 0 = 67 by rw [e]; rfl]; exact keep_is hE h i d e
  · rw [show fnD.getD i.o.toNat 0 = 68 by rw [e]; rfl]; exact get_is hE h i d e
  · rw [show fnD.getD i.o.toNat 0 = 69 by rw [e]; rfl]; exact drop_is hE h i d e
  · rw [show fnD.getD i.o.toNat 0 = 70 by rw [e]; rfl]; exact add_is hE h i d e
  · rw [show fnD.getD i.o.toNat 0 = 71 by rw [e]; rfl]; exact sub_is hE h i d e
  · rw [show fnD.getD i.o.toNat 0 = 72 by rw [e]; rfl]; exact mul_is hE h i d e
  · rw [show fnD.getD i.o.toNat 0 = 73 by rw [e]; rfl]; exact neg_is hE h i d e
  · rw [show fnD.getD i.o.toNat 0 = 74 by rw [e]; rfl]; exact div_is hE h i d e
  · rw [show fnD.getD i.o.toNat 0 = 75 by rw [e]; rfl]; exact mod_is hE h i d e
  · rw [show fnD.getD i.o.toNat 0 = 76 by rw [e]; rfl]; exact abs_is hE h i d e
  · rw [show fnD.getD i.o.toNat 0 = 77 by rw [e]; rfl]; exact lesser_is hE h i d e
  · rw [show fnD.getD i.o.toNat 0 = 78 by rw [e]; rfl]; exact greater_is hE h i d e
  · rw [show fnD.getD i.o.toNat 0 = 79 by rw [e]; rfl]; exact ratio_is hE h i d e
  · rw [show fnD.getD i.o.toNat 0 = 80 by rw [e]; rfl]; exact lt_is hE h i d e
  · rw [show fnD.getD i.o.toNat 0 = 81 by rw [e]; rfl]; exact le_is hE h i d e
  · rw [show fnD.getD i.o.toNat 0 = 82 by rw [e]; rfl]; exact gt_is hE h i d e
  · rw [show fnD.getD i.o.toNat 0 = 83 by rw [e]; rfl]; exact ge_is hE h i d e
  · rw [show fnD.getD i.o.toNat 0 = 84 by rw [e]; rfl]; exact eq_is hE h i d e
  · rw [show fnD.getD i.o.toNat 0 = 85 by rw [e]; rfl]; exact ne_is hE h i d e
  · rw [show fnD.getD i.o.toNat 0 = 86 by rw [e]; rfl]; exact not_is hE h i d e
  · rw [show fnD.getD i.o.toNat 0 = 87 by rw [e]; rfl]; exact jump_is hE h i d e
  · rw [show fnD.getD i.o.toNat 0 = 88 by rw [e]; rfl]; exact zero_is hE h i d e
  · rw [show fnD.getD i.o.toNat 0 = 89 by rw [e]; rfl]; exact flow_is hE h i d e
set_option maxRecDepth 100000 in
theorem enters29 {k : Nat} (h : k < 29) : Enters Tryz.prog (fnD.getD k 0) := by
  have all : k = 0 ∨ k = 1 ∨ k = 2 ∨ k = 3 ∨ k = 4 ∨ k = 5 ∨ k = 6 ∨ k = 7 ∨ k = 8 ∨ k = 9 ∨ k = 10 ∨ k = 11 ∨ k = 12 ∨ k = 13 ∨ k = 14 ∨ k = 15 ∨ k = 16 ∨ k = 17 ∨ k = 18 ∨ k = 19 ∨ k = 20 ∨ k = 21 ∨ k = 22 ∨ k = 23 ∨ k = 24 ∨ k = 25 ∨ k = 26 ∨ k = 27 ∨ k = 28 := by omega
  rcases all with rfl | rfl | rfl | rfl | rfl | rfl | rfl | rfl | rfl | rfl | rfl | rfl | rfl | rfl | rfl | rfl | rfl | rfl | rfl | rfl | rfl | rfl | rfl | rfl | rfl | rfl | rfl | rfl | rfl
  · exact enters_of Tryz.func61 (by kernel_rfl) rfl
  · exact enters_of Tryz.func62 (by kernel_rfl) rfl
  · exact enters_of Tryz.func63 (by kernel_rfl) rfl
  · exact enters_of Tryz.func64 (by kernel_rfl) rfl
  · exact enters_of Tryz.func65 (by kernel_rfl) rfl
  · exact enters_of Tryz.func66 (by kernel_rfl) rfl
  · exact enters_of Tryz.func67 (by kernel_rfl) rfl
  · exact enters_of Tryz.func68 (by kernel_rfl) rfl
  · exact enters_of Tryz.func69 (by kernel_rfl) rfl
  · exact enters_of Tryz.func70 (by kernel_rfl) rfl
  · exact enters_of Tryz.func71 (by kernel_rfl) rfl
  · exact enters_of Tryz.func72 (by kernel_rfl) rfl
  · exact enters_of Tryz.func73 (by kernel_rfl) rfl
  · exact enters_of Tryz.func74 (by kernel_rfl) rfl
  · exact enters_of Tryz.func75 (by kernel_rfl) rfl
  · exact enters_of Tryz.func76 (by kernel_rfl) rfl
  · exact enters_of Tryz.func77 (by kernel_rfl) rfl
  · exact enters_of Tryz.func78 (by kernel_rfl) rfl
  · exact enters_of Tryz.func79 (by kernel_rfl) rfl
  · exact enters_of Tryz.func80 (by kernel_rfl) rfl
  · exact enters_of Tryz.func81 (by kernel_rfl) rfl
  · exact enters_of Tryz.func82 (by kernel_rfl) rfl
  · exact enters_of Tryz.func83 (by kernel_rfl) rfl
  · exact enters_of Tryz.func84 (by kernel_rfl) rfl
  · exact enters_of Tryz.func85 (by kernel_rfl) rfl
  · exact enters_of Tryz.func86 (by kernel_rfl) rfl
  · exact enters_of Tryz.func87 (by kernel_rfl) rfl
  · exact enters_of Tryz.func88 (by kernel_rfl) rfl
  · exact enters_of Tryz.func89 (by kernel_rfl) rfl
/-- The count of steps is another one. -/
theorem RO.steps {K : Kx} {w : World} {stv slv flv : Value} {steps : Int} {r : Rn} (h : RO K w stv slv flv steps r) (s' : Int) : RO K (w.setCell ⟨K.mb, 12, none⟩ (.int .i64 s')) stv slv flv s' r := by
  have x1 := h.mb.set2 12 (.int .i64 s') (by simp [mArr])
  have rw_ : ∀ {t : TypeId} {k : Nat} {u : Value} {n : Nat} {xs : List Value} {C : Nat}, w.ownsRow C t k u n xs → t ≠ 75 → (w.setCell ⟨K.mb, 12, none⟩ (.int .i64 s')).ownsRow C t k u n xs := fun q ht => own_blkG q (fun g hg => bk_block (fun z => own_neB q h.mb ht (by rw [hg, z])))
  refine ⟨h.os, h.tape, h.out, by rw [set_size]; exact h.sz, fun k hk => (bk_block (fun z => h.dm (by rw [← z]; exact hk))).trans (h.fr k hk), h.rb.other _ _ _ (by have := h.mB; have := h.rB; omega), h.rB, by simpa [mArr] using x1, h.mB, rw_ h.st (by decide), rw_ h.sl (by decide), rw_ h.fl (by decide), h.ap, ?_, h.cB, h.r1, h.r2, h.r3, h.dl, h.dr, h.dm, h.dc, h.d1, h.d2, h.d3⟩
  rcases h.ce with q | q
  · exact .inl q
  · exact .inr (rw_ q (by decide))
/-- The same, with one block more that stays. -/
def Kx.and (K : Kx) (W : World) (b : Nat) : Kx := { K with w0 := W, D := fun k => K.D k ∨ k = b }
theorem RO.rebase {K : Kx} {w : World} {stv slv flv : Value} {steps : Int} {r : Rn} (h : RO K w stv slv flv steps r) {b : Nat} {cs : Array Value} {t : TypeId} (hb : BkP w b cs t) (ht : t ≠ 75 ∧ t ≠ 83 ∧ t ≠ 3 ∧ t ≠ 54) : RO (K.and w b) w stv slv flv steps r := by
  refine ⟨rfl, rfl, rfl, Nat.le_refl _, fun _ _ => rfl, h.rb, h.rB, h.mb, h.mB, h.st, h.sl, h.fl, h.ap, h.ce, h.cB, h.r1, h.r2, h.r3, ?_, ?_, ?_, ?_, ?_, ?_, ?_⟩
  · rintro k (hk | rfl)
    · exact Nat.lt_of_lt_of_le (h.dl k hk) h.sz
    · exact hb.lt
  · rintro (hk | hk)
    · exact h.dr hk
    · exact bk_ne h.rb hb (Ne.symm ht.2.1) hk
  · rintro (hk | hk)
    · exact h.dm hk
    · exact bk_ne h.mb hb (Ne.symm ht.1) hk
  · rintro g hg (hk | hk)
    · exact h.dc g hg hk
    · subst hk
      rcases h.ce with ⟨_, a, c, e, q⟩ | q
      · have hg' : K.cev.ownBlock = some g := hg
        rw [q] at hg'; cases hg'
      · exact own_neB q hb (Ne.symm ht.2.2.1) hg
  · rintro g hg (hk | hk)
    · exact h.d1 g hg hk
    · subst hk; exact own_neB h.st hb (Ne.symm ht.2.2.1) hg
  · rintro g hg (hk | hk)
    · exact h.d2 g hg hk
    · subst hk; exact own_neB h.sl hb (Ne.symm ht.2.2.1) hg
  · rintro g hg (hk | hk)
    · exact h.d3 g hg hk
    · subst hk; exact own_neB h.fl hb (Ne.symm ht.2.2.2) hg
theorem RO.unbase {K : Kx} {W w : World} {b : Nat} {stv slv flv : Value} {steps : Int} {r : Rn} (h : RO (K.and W b) w stv slv flv steps r) {stv0 slv0 flv0 : Value} {steps0 : Int} {r0 : Rn} (h0 : RO K W stv0 slv0 flv0 steps0 r0) : RO K w stv slv flv steps r :=
  ⟨h.os.trans h0.os, h.tape.trans h0.tape, h.out.trans h0.out, Nat.le_trans h0.sz h.sz, fun k hk => (h.fr k (.inl hk)).trans (h0.fr k hk), h.rb, h.rB, h.mb, h.mB, h.st, h.sl, h.fl, h.ap, h.ce, h.cB, h.r1, h.r2, h.r3, h0.dl, fun z => h.dr (.inl z), fun z => h.dm (.inl z), fun g hg z => h.dc g hg (.inl z), fun g hg z => h.d1 g hg (.inl z), fun g hg z => h.d2 g hg (.inl z), fun g hg z => h.d3 g hg (.inl z)⟩
theorem KE.rebase {K : Kx} {E : EvM} (h : KE K E) {W : World} {b : Nat} {stv slv flv : Value} {steps : Int} {r : Rn} (h0 : RO K W stv slv flv steps r) : KE (K.and W b) E := by
  have on : ∀ V, (K.and W b).On V → K.On V := fun V q k hk => (q k (.inl hk)).trans (h0.fr k hk)
  exact ⟨h.t, h.plen, fun V q => h.pool V (on V q), h.clen, fun V q => h.curs V (on V q), fun V q => h.row V (on V q), fun V q => h.past V (on V q), h.ip, h.ir, h.ia⟩
/-- A day's code lies in memory. -/
def CdV (K : Kx) (code : List In) : Prop := ∃ x o c, K.codev = .slice (some ⟨x, o, none⟩) code.length c ∧ ∀ V, K.On V → ∀ i, i < code.length → V.cell? ⟨x, o + i * 3, none⟩ = some (.int .i64 (code.getD i default).o) ∧ V.cell? ⟨x, o + i * 3 + 1, none⟩ = some (.int .i64 (code.getD i default).a) ∧ V.cell? ⟨x, o + i * 3 + 2, none⟩ = some (.int .i64 (code.getD i default).b)
theorem RO.mach {K : Kx} {w : World} {stv slv flv : Value} {steps : Int} {r : Rn} (h : RO K w stv slv flv steps r) : w.cell? ⟨K.mb, 12, none⟩ = some (.int .i64 steps) ∧ w.frozen? ⟨K.mb, 12, none⟩ = false ∧ w.frozen? ⟨K.rb, 2, none⟩ = false := ⟨by rw [h.mb.cell]; rfl, h.mb.frozen 12, h.rb.frozen 2⟩
end Go.Proofs.YtpfjnnkjoabgbaaGreatDoor
