import Derived.Test.YtpfjnnkjoabgbaaGreatDoorXBK
import Derived.Test.YtpfjnnkjoabgbaaGreatDoorXBI
import Derived.Test.YtpfjnnkjoabgbaaGreatDoorXAA
namespace Go.Proofs.YtpfjnnkjoabgbaaGreatDoor
open Go.RowKit
set_option linter.unusedVariables false
set_option linter.unusedSimpArgs false
def dayK (w w1 : World) (mb : Nat) (p : Pg) (n : Nds) (s : Ms) (cev pav codev : Value) (rb gr sb : Nat) : Kx := ⟨w1, w.heap.size, rb, mb, p, n, s.today, cev, pav, codev, .slice (some ⟨gr, 0, none⟩) p.names.length p.names.length, fun k => k < w1.heap.size ∧ k ≠ rb ∧ k ≠ mb ∧ cev.ownBlock ≠ some k ∧ k ≠ sb⟩
theorem i64_inRM {n : Int} (h : i64 n) : inR n := wf_inR h
section
variable {D : Nat → Prop} {w w1 : World} {mb : Nat} {p : Pg} {n : Nds} {cev pav : Value} {s : Ms} {row : List Cl} {rb gr sb cap : Nat} {codev : Value}
/-- What a day's begin gives. -/
theorem day_ro (m : McV D w mb p n cev pav s) (no : ¬ s.over p.hor) (b : Below w.heap.size w w1) (g1 : w.heap.size ≤ rb) (g2 : w.heap.size ≤ gr) (g3 : w.heap.size ≤ sb) (hb : BkP w1 rb #[.pointer (some ⟨mb, 0, none⟩), codev, .int .i64 0, .bool false, .slice (some ⟨gr, 0, none⟩) p.names.length p.names.length, .slice (some ⟨sb, 0, none⟩) 0 cap, .slice none 0 0, .slice none 0 0] 83) (hs : OwZ w1 w.heap.size (.slice (some ⟨sb, 0, none⟩) 0 cap) []) : RoE (dayK w w1 mb p n s cev pav codev rb gr sb) w1 s.steps s.begun := by
  have m1 := m.lat b
  have f0 : s.fault = 0 := Classical.byContradiction fun z => no (.inl z)
  have d0 := m.ok.f0 f0
  have bx := m1.box
  rw [f0, d0] at bx
  have lt : ∀ {x : Nat} {o : Obj}, w.heap[x]? = some o → x < w.heap.size := fun e => (Array.getElem?_eq_some_iff.1 e).1
  have cB : ∀ g, cev.ownBlock = some g → g < w.heap.size := fun g hg => by obtain ⟨c, fr, e⟩ := m.ce.lt g hg; exact lt e
  refine ⟨.slice (some ⟨sb, 0, none⟩) 0 cap, .slice none 0 0, .slice none 0 0, rfl, rfl, rfl, Nat.le_refl _, fun _ _ => rfl, by simpa [rArr, Ms.begun, dayK] using hb, g1, bx, lt m.box, hs, OwZ.nil _ _, World.ownsRow_nil _ _ _ _, .inr (by simp [Value.ownBlock]), m1.ce, cB, by simp [Ms.begun], by simp [Ms.begun], m.ok.ci, fun k hk => hk.1, fun z => z.2.1 rfl, fun z => z.2.2.1 rfl, fun g hg z => z.2.2.2.1 hg, ?_, ?_, ?_⟩
  · intro g hg z
    simp only [Value.ownBlock, Option.some.injEq] at hg
    exact z.2.2.2.2 hg.symm
  · intro g hg; cases hg
  · intro g hg; cases hg
/-- All that the program's lists lie in stays. -/
theorem day_pv (m : McV D w mb p n cev pav s) (b : Below w.heap.size w w1) (g1 : w.heap.size ≤ rb) (g3 : w.heap.size ≤ sb) {V : World} (on : (dayK w w1 mb p n s cev pav codev rb gr sb).On V) : PV V p := by
  refine m.pv V (fun k hk => ?_)
  have l := m.dl k hk
  have := b.size
  refine (on k ⟨by omega, by omega, fun z => m.dm (by rw [← z]; exact hk), fun z => m.dc k z hk, by omega⟩).trans (b.block k l)
theorem day_ke (m : McV D w mb p n cev pav s) (b : Below w.heap.size w w1) (g1 : w.heap.size ≤ rb) (g2 : w.heap.size ≤ gr) (g3 : w.heap.size ≤ sb) {arr : Array Value} (hb : BkP w1 rb arr 83) (hs : OwZ w1 w.heap.size (.slice (some ⟨sb, 0, none⟩) 0 cap) []) (hr : Rc w1 gr (fitR p.names.length row)) (hi : ∀ c ∈ row, inR c.v) (hn : p.names.length ≤ 64) : KE (dayK w w1 mb p n s cev pav codev rb gr sb) (p.env s row) := by
  have m1 := m.lat b
  obtain ⟨vs, pa⟩ := m1.pa
  obtain ⟨sbc, sbk⟩ : ∃ c, w1.heap[sb]? = some (.cells c 3 (0, 0)) := by
    rcases hs.2 with ⟨e, _⟩ | ⟨g', cap', cur, e, _, e3, _⟩
    · cases e
    · injection e with e
      injection e with e
      injection e with e
      subst e
      exact ⟨cur, e3⟩
  -- a block of another type than those that turn stays
  have stay : ∀ {V : World}, (dayK w w1 mb p n s cev pav codev rb gr sb).On V → ∀ {y : Nat} {cur : Array Value} {t : TypeId} {fr : Nat × Nat}, w1.heap[y]? = some (.cells cur t fr) → t ≠ 83 → t ≠ 75 → t ≠ 3 → V.heap[y]? = some (.cells cur t fr) := by
    intro V on y cur t fr e t1 t2 t3
    have tt : ∀ {z : Nat} {c : Array Value} {u : TypeId} {f2 : Nat × Nat}, w1.heap[z]? = some (.cells c u f2) → y = z → t = u := by
      rintro z c u f2 e2 rfl
      have := e.symm.trans e2
      injection this with this
      injection this
    refine (on y ⟨(Array.getElem?_eq_some_iff.1 e).1, fun z => t1 (tt hb z), fun z => t2 (tt m1.box z), fun z => ?_, fun z => t3 (tt sbk z)⟩).trans e
    obtain ⟨c, f2, e2⟩ := m1.ce.lt y z
    exact t3 (tt e2 rfl)
  have pv0 := m1.prog
  refine ⟨rfl, rfl, ?_, rfl, ?_, ?_, ?_, ?_, fitR_in hi, fun l hl c hc => (m.ok.pr l hl).2 c hc⟩
  · intro V on i h
    obtain ⟨x, o, e, _, c⟩ := (day_pv m b g1 g3 on).pool.2.2.2.2.oneP (Nat.lt_of_le_of_lt (Nat.zero_le _) h)
    have := c i h 0 (by omega)
    simp only [Nat.mul_one, Nat.add_zero, List.getD_cons_zero] at this
    exact ⟨x, o, e, this⟩
  · intro V on i h
    obtain ⟨x, o, e, _, c⟩ := (day_pv m b g1 g3 on).curs.2.2.2.2.oneP (Nat.lt_of_le_of_lt (Nat.zero_le _) h)
    have := c i h 0 (by omega)
    simp only [Nat.mul_one, Nat.add_zero, List.getD_cons_zero] at this
    exact ⟨x, o, e, this⟩
  · intro V on i h
    have h' : i < p.names.length := by simpa [Pg.env, fitR] using h
    have bk : BkP V gr (clv (fitR p.names.length row)).toArray 73 := stay on hr.block (by decide) (by decide) (by decide)
    have rr : Rc V gr (fitR p.names.length row) := rc_block bk (by rw [fitR_len]; omega)
    obtain ⟨q0, q1⟩ := rr.fc i h
    refine ⟨gr, 0, p.names.length, ?_, by rw [Nat.zero_add]; exact q0, by rw [Nat.zero_add]; exact q1⟩
    show Value.slice (some ⟨gr, 0, none⟩) p.names.length p.names.length = .slice (some ⟨gr, 0, none⟩) (fitR p.names.length row).length p.names.length
    rw [fitR_len]
  · intro V on d hd i h
    have hd' : d < s.past.length := hd
    rcases pa.form with ⟨_, e⟩ | ⟨g, o, cp, cur, e, hg, f1, f2, f3, f4⟩
    · rw [e] at hd'; simp at hd'
    · obtain ⟨a, z, ev, q⟩ := pa.rows d hd'
      have h2 : i < (s.past.getD d []).length := h
      rcases q with q | ⟨y, u, c2, fr, rfl, hy, cc⟩
      · rw [q] at h2; simp at h2
      · have vg : V.heap[g]? = _ := stay on hg (by decide) (by decide) (by decide)
        have vy : V.heap[y]? = _ := stay on hy (by decide) (by decide) (by decide)
        obtain ⟨c0, c1⟩ := (cc i h2).blk (w' := V) (vy.trans hy.symm)
        refine ⟨g, o, cp, y, u, z, e, ?_, c0, c1⟩
        have : V.cell? ⟨g, o + d, none⟩ = cur[o + d]? := by simp [World.cell?, vg]
        rw [this, f4 d hd', ev]
        rfl
  · intro x hx
    exact i64_inRM (pv0.pool.2.2.2.1 x hx)
/-- A day's code in memory. -/
theorem day_cd (m : McV D w mb p n cev pav s) (b : Below w.heap.size w w1) (g1 : w.heap.size ≤ rb) (g3 : w.heap.size ≤ sb) (hc : CdE p.days s.today codev) (hn : dayCode p.days s.today ≠ []) : CdV (dayK w w1 mb p n s cev pav codev rb gr sb) (dayCode p.days s.today) := by
  rcases hc with ⟨q, _⟩ | ⟨i, hi, hd, q, rfl⟩
  · exact absurd q hn
  have l0 : 0 < (p.days.getD i default).code.length := by
    rw [← q]
    exact List.length_pos_iff.2 hn
  have on1 : (dayK w w1 mb p n s cev pav (.slice (p.days.getD i default).ca (p.days.getD i default).code.length (p.days.getD i default).cc) rb gr sb).On w1 := fun _ _ => rfl
  obtain ⟨x, o, e, _, _⟩ := ((day_pv m b g1 g3 on1).days.2.2.2.1 _ (sg_mem hi)).2.2.2.2.2.oneP l0
  refine ⟨x, o, (p.days.getD i default).cc, by rw [q, ← e]; rfl, fun V on k hk => ?_⟩
  obtain ⟨x', o', e', _, c⟩ := ((day_pv m b g1 g3 on).days.2.2.2.1 _ (sg_mem hi)).2.2.2.2.2.oneP l0
  rw [e] at e'
  injection e' with e'
  injection e' with e1 e2
  subst e1 e2
  rw [q] at hk ⊢
  have c0 := c k hk 0 (by omega)
  have c1 := c k hk 1 (by omega)
  have c2 := c k hk 2 (by omega)
  simp only [icell, Nat.add_zero, List.getD_cons_zero, List.getD_cons_succ] at c0 c1 c2
  exact ⟨c0, c1, c2⟩
end
end Go.Proofs.YtpfjnnkjoabgbaaGreatDoor

namespace Go.Proofs.YtpfjnnkjoabgbaaGreatDoor
open Go.RowKit
set_option linter.unusedVariables false
set_option linter.unusedSimpArgs false
/-- What a day leaves. -/
structure DyE (D : Nat → Prop) (w : World) (mb : Nat) (p : Pg) (n : Nds) (cev pav : Value) (s : Ms) (row : List Cl) (e : Ending) (w' : World) : Prop where
  kp : Kp w w' (turnS mb cev pav)
  new : ∃ flv pav', e = .returned (.tuple #[flv, .int .i64 (dayGo p s row).1, .int .i64 0]) ∧ McV D w' mb p n cev pav' (dayMs p n.back s row) ∧ OwF w' w.heap.size flv (dayFl p s row) ∧ (∀ g, pav'.ownBlock = some g → pav.ownBlock = some g ∨ w.heap.size ≤ g)
theorem ownsRow_base {w : World} {B C : Nat} {t : TypeId} {k : Nat} {v : Value} {n : Nat} {xs : List Value} (h : w.ownsRow B t k v n xs) (hc : C ≤ B) : w.ownsRow C t k v n xs := by
  refine ⟨h.1, ?_⟩
  rcases h.2 with q | ⟨g, cap, cur, rfl, hB, r⟩
  · exact .inl q
  · exact .inr ⟨g, cap, cur, rfl, by omega, r⟩
section
variable {D : Nat → Prop} {w w1 w2 w3 : World} {mb : Nat} {p : Pg} {n : Nds} {cev pav : Value} {s : Ms} {row : List Cl} {rb gr sb cap : Nat} {codev : Value}
/-- The rows that have been, behind the day's code. -/
theorem day_pa (m : McV D w mb p n cev pav s) (b : Below w.heap.size w w1) (g1 : w.heap.size ≤ rb) (g3 : w.heap.size ≤ sb) {steps : Int} {r : Rn} (hr : RoE (dayK w w1 mb p n s cev pav codev rb gr sb) w2 steps r) {vs : List Value} (pa : PaV w1 pav s.past vs) (hs : OwZ w1 w.heap.size (.slice (some ⟨sb, 0, none⟩) 0 cap) []) {arr : Array Value} (hb : BkP w1 rb arr 83) {rv : Value} {rl : List Cl} (rw0 : RwV w1 rv rl) : PaV w2 pav s.past vs ∧ RwV w2 rv rl ∧ Kp w1 w2 (fun k => k = rb ∨ k = mb ∨ cev.ownBlock = some k ∨ k = sb) := by
  obtain ⟨a1, a2, a3, h⟩ := hr
  have m1 := m.lat b
  obtain ⟨sbc, sbk⟩ : ∃ c, w1.heap[sb]? = some (.cells c 3 (0, 0)) := by
    rcases hs.2 with ⟨e, _⟩ | ⟨g', cap', cur, e, _, e3, _⟩
    · cases e
    · injection e with e
      injection e with e
      injection e with e
      subst e
      exact ⟨cur, e3⟩
  have kp : Kp w1 w2 (fun k => k = rb ∨ k = mb ∨ cev.ownBlock = some k ∨ k = sb) := ⟨h.os, h.tape, h.out, h.sz, fun k hk hn => h.fr k ⟨hk, fun z => hn (.inl z), fun z => hn (.inr (.inl z)), fun z => hn (.inr (.inr (.inl z))), fun z => hn (.inr (.inr (.inr z)))⟩⟩
  have ty : ∀ k, (k = rb ∨ k = mb ∨ cev.ownBlock = some k ∨ k = sb) → ∃ c t fr, w1.heap[k]? = some (.cells c t fr) ∧ (t = 83 ∨ t = 75 ∨ t = 3) := by
    rintro k (rfl | rfl | z | rfl)
    · exact ⟨_, _, _, hb, .inl rfl⟩
    · exact ⟨_, _, _, m1.box, .inr (.inl rfl)⟩
    · obtain ⟨c, f2, e2⟩ := m1.ce.lt k z; exact ⟨_, _, _, e2, .inr (.inr rfl)⟩
    · exact ⟨_, _, _, sbk, .inr (.inr rfl)⟩
  have nt : ∀ (y : Nat) (c : Array Value) (fr : Nat × Nat), (y = rb ∨ y = mb ∨ cev.ownBlock = some y ∨ y = sb) → w1.heap[y]? ≠ some (.cells c 73 fr) := by
    intro y c fr z e
    obtain ⟨c2, t, f2, e2, h2⟩ := ty y z
    have := e.symm.trans e2
    injection this with this
    injection this with q1 q2
    rcases h2 with h2 | h2 | h2 <;> (rw [h2] at q2; exact absurd q2 (by decide))
  have nt2 : ∀ g, pav.ownBlock = some g → ¬ (g = rb ∨ g = mb ∨ cev.ownBlock = some g ∨ g = sb) := by
    intro g hg z
    obtain ⟨c, e⟩ := pa.lt g hg
    obtain ⟨c2, t, f2, e2, h2⟩ := ty g z
    have := e.symm.trans e2
    injection this with this
    injection this with q1 q2
    rcases h2 with h2 | h2 | h2 <;> (rw [h2] at q2; exact absurd q2 (by decide))
  exact ⟨pa.keep kp nt nt2, rw0.keep kp nt, kp⟩
/-- The day's end. -/
theorem day_end (m : McV D w mb p n cev pav s) (no : ¬ s.over p.hor) (hb0 : 0 ≤ n.back) (hh : p.hor ≤ 3660) (hl : (dayCode p.days s.today).length ≤ 262144) (hi : ∀ c ∈ row, inR c.v) (b : Below w.heap.size w w1) (g1 : w.heap.size ≤ rb) (g3 : w.heap.size ≤ sb) (hr : RoE (dayK w w1 mb p n s cev pav codev rb gr sb) w2 (s.steps + ((dayGo p s row).2.1 : Int)) (dayGo p s row).2.2) (kp : Kp w1 w2 (fun k => k = rb ∨ k = mb ∨ cev.ownBlock = some k ∨ k = sb)) (hc : ClE w2 mb p n s.today (s.steps + ((dayGo p s row).2.1 : Int)) cev pav s.past (fitR p.names.length row) (dayGo p s row).1 w3) : ∃ flv, w3.cell? ⟨rb, 7, none⟩ = some flv ∧ DyE D w mb p n cev pav s row (.returned (.tuple #[flv, .int .i64 (dayGo p s row).1, .int .i64 0])) w3 := by
  obtain ⟨stv, slv, flv, h⟩ := hr
  obtain ⟨⟨pav', vs', bx, pa', hg⟩, kc⟩ := hc
  have f0 : s.fault = 0 := Classical.byContradiction fun z => no (.inl z)
  have d0 := m.ok.f0 f0
  have sz1 := b.size
  have lt : ∀ {W : World} {x : Nat} {o : Obj}, W.heap[x]? = some o → x < W.heap.size := fun e => (Array.getElem?_eq_some_iff.1 e).1
  obtain ⟨vs, pa0⟩ := m.pa
  have pt : ∀ g, pav.ownBlock = some g → g < w.heap.size ∧ ∃ c, w2.heap[g]? = some (.cells c 47 (0, 0)) := by
    intro g hgg
    obtain ⟨c, e⟩ := pa0.lt g hgg
    refine ⟨lt e, c, ?_⟩
    have e1 := (b.block g (lt e)).trans e
    refine (kp.blk g (lt e1) ?_).trans e1
    rintro (z | z | z | z)
    · have := lt e; omega
    · exact bk_ne (m.lat b).box e1 (by decide) z.symm
    · obtain ⟨c2, f2, e2⟩ := (m.lat b).ce.lt g z
      have := e1.symm.trans e2
      injection this with this
      injection this with q1 q2
      exact absurd q2 (by decide)
    · have := lt e; omega
  have keepT : ∀ {x : Nat} {cur : Array Value} {t : TypeId} {fr : Nat × Nat}, w2.heap[x]? = some (.cells cur t fr) → t ≠ 75 → t ≠ 47 → w3.heap[x]? = some (.cells cur t fr) := by
    intro x cur t fr e t1 t2
    have tt : ∀ {c : Array Value} {u : TypeId} {f2 : Nat × Nat}, w2.heap[x]? = some (.cells c u f2) → t = u := by
      intro c u f2 e2
      have := e.symm.trans e2
      injection this with this
      injection this
    refine (kc.blk x (lt e) ?_).trans e
    rintro (z | z)
    · subst z; exact t1 (tt h.mb)
    · obtain ⟨_, c, e2⟩ := pt x z
      exact t2 (tt e2)
  have rb3 := keepT h.rb (by decide) (by decide)
  have fl3 : OwF w3 w.heap.size flv (dayFl p s row) := by
    refine own_blkG h.fl (fun g hgg => ?_)
    rcases h.fl.2 with ⟨e, _⟩ | ⟨g', cap', cur, e, _, e3, _⟩
    · rw [e] at hgg; cases hgg
    · rw [e] at hgg
      simp only [Value.ownBlock, Option.some.injEq] at hgg
      subst hgg
      exact (keepT e3 (by decide) (by decide)).trans e3.symm
  refine ⟨flv, ?_, ⟨?_, flv, pav', rfl, ?_, fl3, ?_⟩⟩
  · have : BkP w3 rb _ _ := rb3
    rw [this.cell]
    rfl
  · refine ((Kp.below b (turnS mb cev pav)).trans kp ?_).trans kc ?_
    · rintro x hx (z | z | z | z)
      · omega
      · exact .inl z
      · exact .inr (.inl z)
      · omega
    · rintro x hx (z | z)
      · exact .inl z
      · exact .inr (.inr z)
  · have dkeep : ∀ k, D k → w3.heap[k]? = w.heap[k]? := by
      intro k hk
      have l := m.dl k hk
      have e1 := b.block k l
      have e2 := kp.blk k (by omega) (by
        rintro (z | z | z | z)
        · omega
        · exact m.dm (by rw [← z]; exact hk)
        · exact m.dc k z hk
        · omega)
      have e3 := kc.blk k (by have := kp.size; omega) (by
        rintro (z | z)
        · exact m.dm (by rw [← z]; exact hk)
        · exact m.dp k z hk)
      exact e3.trans (e2.trans e1)
    have ok := dayMs_ok (row := row) m.ok hb0 hh no hi hl h.r3
    refine ⟨?_, fun k hk => ?_, fun V a => m.pv V (fun k hk => (a k hk).trans (dkeep k hk)), ?_, ⟨vs', ?_⟩, m.dm, m.dc, fun g hgg z => ?_, ok⟩
    · unfold dayMs
      simp only
      rw [f0, d0]
      have : (if (dayGo p s row).1 = 0 then (0 : Int) else (dayGo p s row).1) = (dayGo p s row).1 := by split <;> simp_all
      rw [this]
      exact bx
    · have := m.dl k hk
      have := kp.size
      have := kc.size
      omega
    · unfold dayMs
      simp only
      have ce2 : CeR w2 cev (dayGo p s row).2.2.ce := h.ce
      refine ce2.blk (fun g hgg => ?_)
      obtain ⟨c, fr, e⟩ := ce2.lt g hgg
      exact (keepT e (by decide) (by decide)).trans e.symm
    · exact pa'
    · rcases hg g hgg with q | q
      · exact m.dp g q z
      · have := m.dl g z
        have := kp.size
        omega
  · intro g hgg
    rcases hg g hgg with q | q
    · exact .inl q
    · right
      have := kp.size
      omega
end
end Go.Proofs.YtpfjnnkjoabgbaaGreatDoor

namespace Go.Proofs.YtpfjnnkjoabgbaaGreatDoor
open Go.RowKit
set_option linter.unusedVariables false
set_option linter.unusedSimpArgs false
set_option maxRecDepth 100000 in
theorem goThrough_none {K : Kx} {w : World} {steps : Int} {r : Rn} (h : RoE K w steps r) (hc : K.codev = .slice none 0 0) : Calls Tryz.prog 29 #[.pointer (some ⟨K.rb, 0, none⟩)] w fun e w' => e = .returned (.int .i64 0) ∧ w' = w := by
  obtain ⟨stv, slv, flv, h⟩ := h
  have c1 := (run_cells h).2.1
  rw [hc] at c1
  clear h hc
  go_enter Tryz.func29, Tryz.ntmps29
  go_wp2
  go_step3
  go_wp2
  rw [Exit.noGoto_ret]
  go_ret
  exact ⟨rfl, rfl⟩
theorem DyE.back {D : Nat → Prop} {w wA : World} {mb : Nat} {p : Pg} {n : Nds} {cev pav : Value} {s : Ms} {row : List Cl} {e : Ending} {w' : World} (h : DyE D wA mb p n cev pav s row e w') (b : Below w.heap.size w wA) : DyE D w mb p n cev pav s row e w' := by
  obtain ⟨k, flv, pav', e, m, o, g⟩ := h
  refine ⟨(Kp.below b _).trans k (fun _ _ z => z), flv, pav', e, m, ownsRow_base o b.size, fun x hx => ?_⟩
  rcases g x hx with q | q
  · exact .inl q
  · right; have := b.size; omega
theorem cd_none {p : Pg} (hc : canP p) {t : Int} {v : Value} (h : CdE p.days t v) (e : dayCode p.days t = []) : v = .slice none 0 0 := by
  rcases h with ⟨_, q⟩ | ⟨i, hi, _, q, _⟩
  · exact q
  · have := (hc.2.2.2.1 i hi).1
    rw [e] at q
    rw [← q] at this
    simp at this
theorem rc_inR {w : World} {a : Option Addr} {m : Nat} {row : List Cl} (h : RC w a m row) : ∀ c ∈ row, inR c.v := fun c hc => wf_inR (h.2.2.1 c hc)
set_option maxRecDepth 100000 in
set_option maxHeartbeats 1600000 in
theorem day_any {D : Nat → Prop} {w : World} {mb : Nat} {p : Pg} {cev pav : Value} {s : Ms} (m : McV D w mb p (vfyA p).2.2.2 cev pav s) (hv : (vfyA p).1 = 0) (no : ¬ s.over p.hor) {a : Option Addr} {mm cap : Nat} {row : List Cl} (hr : RC w a mm row) : Calls Tryz.prog 16 #[.pointer (some ⟨mb, 0, none⟩), .slice a mm cap] w fun e w' => DyE D w mb p (vfyA p).2.2.2 cev pav s row e w' := by
  have KO := Lib.hid (over_any m.box)
  rw [decide_eq_false no] at KO
  obtain ⟨n1, n2, n3, n4, n5, n6, n7, n8, hc⟩ := nds_of hv
  have DK := Lib.hid (fun (q : dayCode p.days s.today ≠ []) => dayOk_of hv q)
  generalize (vfyA p).2.2.2 = n at *
  go_enter Tryz.func16, Tryz.ntmps16
  go_wp2_with fail
  go_at_call 15
  refine KO.out.mono ?_
  rintro e wA ⟨rfl, bA⟩
  have mA := m.lat bA
  have rA := hr.later bA
  obtain ⟨c0, c3, c7, c8, c10, c11, c14, c15, c16⟩ := mach_over mA.box
  have KB := Lib.hid (begin_any (cap := cap) c0 c7 c8 c11 mA.prog hc.2.2.1 n4 n5 n2 n3 n8 rA)
  clear c0 c3 c7 c8 c10 c11 c14 c15 c16 KO
  go_wp2_with fail
  go_at_call 28
  refine KB.out.mono ?_
  intro e w1 hb
  obtain ⟨b1, rb, gr, sb, sc, codev, rfl, g1, g2, g3, bx, rc, st, cd⟩ := hb
  have R1 := Lib.hid (day_ro mA no b1 g1 g2 g3 bx st)
  have hi := rc_inR hr
  have KE1 := Lib.hid (day_ke (codev := codev) (row := row) mA b1 g1 g2 g3 bx st rc hi n8)
  have KG : Calls Tryz.prog 29 #[.pointer (some ⟨rb, 0, none⟩)] w1 fun e w' => e = .returned (.int .i64 (dayGo p s row).1) ∧ RoE (dayK wA w1 mb p n s cev pav codev rb gr sb) w' (s.steps + ((dayGo p s row).2.1 : Int)) (dayGo p s row).2.2 := by
    by_cases q : dayCode p.days s.today = []
    · have e : dayGo p s row = (0, 0, s.begun) := by unfold dayGo; rw [q]; rfl
      rw [e]
      refine (goThrough_none R1.out (cd_none hc cd q)).mono ?_
      rintro e' w' ⟨rfl, rfl⟩
      exact ⟨rfl, by simpa using R1.out⟩
    · exact goThrough_any KE1.out (day_cd mA b1 g1 g3 cd q) (DK.out q) hc mA.ok R1.out _ rfl
  have lenC : (dayCode p.days s.today).length ≤ 262144 := by
    by_cases q : dayCode p.days s.today = []
    · rw [q]; simp
    · exact (DK.out q).len
  have KG2 := Lib.hid KG
  obtain ⟨vs, pa⟩ := (mA.lat b1).pa
  have rw1 : RwV w1 (.slice (some ⟨gr, 0, none⟩) p.names.length p.names.length) (fitR p.names.length row) := ⟨some ⟨gr, 0, none⟩, p.names.length, by rw [fitR_len], .inr ⟨gr, 0, _, _, rfl, rc.block, fun i hi => by rw [Nat.zero_add]; exact rc.fc i hi⟩⟩
  have PA := Lib.hid (fun w2 (hq : RoE (dayK wA w1 mb p n s cev pav codev rb gr sb) w2 (s.steps + ((dayGo p s row).2.1 : Int)) (dayGo p s row).2.2) => day_pa mA b1 g1 g3 hq pa st bx rw1)
  have FI := Lib.hid (fun w2 w3 hq kp (hcl : ClE w2 mb p n s.today (s.steps + ((dayGo p s row).2.1 : Int)) cev pav s.past (fitR p.names.length row) (dayGo p s row).1 w3) => day_end (codev := codev) (gr := gr) mA no n1 n5 lenC hi b1 g1 g3 hq kp hcl)
  have BA := Lib.hid bA
  have pl : s.past.length ≤ 100000 := by have := m.ok.pl; have := m.ok.t1; omega
  have tt : 0 ≤ s.today ∧ s.today ≤ 100000 := by have := m.ok.t0; have := m.ok.t1; omega
  clear KE1 R1 KG DK KB mA m hr rA bx rc st cd rw1 bA
  go_wp2_with fail
  go_at_call 29
  refine KG2.out.mono ?_
  rintro e w2 ⟨rfl, h2⟩
  obtain ⟨p2, r2, k2⟩ := PA.out w2 h2
  have H2 := Lib.hid h2
  obtain ⟨stv, slv, flv, h3⟩ := h2
  have KC := Lib.hid (close_any h3.mb p2 pl tt r2 (dayGo p s row).1)
  have x4 := (run_cells h3).2.2.2.2.1
  have x4 : w2.cell? ⟨rb, 4, none⟩ = some (.slice (some ⟨gr, 0, none⟩) p.names.length p.names.length) := x4
  have K2 := Lib.hid k2
  clear h3 p2 r2 k2 PA KG2 pa
  go_wp2_with fail
  go_at_call 30
  refine KC.out.mono ?_
  rintro e w3 ⟨rfl, h4⟩
  obtain ⟨fv, x7, dy⟩ := FI.out w2 w3 H2.out K2.out h4
  have DY := Lib.hid (dy.back BA.out)
  clear dy h4 KC FI x4
  generalize (dayGo p s row).1 = f at *
  go_wp2
  go_ret3
  exact DY.out
end Go.Proofs.YtpfjnnkjoabgbaaGreatDoor

namespace Go.Proofs.YtpfjnnkjoabgbaaGreatDoor
open Go.RowKit
set_option linter.unusedVariables false
set_option linter.unusedSimpArgs false
theorem getD_keyM (l : List Sg) (i : Nat) : (l.getD i default).key = (l.map Sg.key).getD i (Sg.key default) := by
  rw [List.getD_eq_getElem?_getD, List.getD_eq_getElem?_getD, List.getElem?_map]
  cases l[i]? <;> rfl
theorem sg_partsM {s t : Sg} (h : s.key = t.key) : s.day = t.day ∧ s.code = t.code := by
  unfold Sg.key at h
  simp only [Prod.mk.injEq] at h
  exact h
theorem at_keyM {l m : List Sg} (h : l.map Sg.key = m.map Sg.key) (i : Nat) : (l.getD i default).day = (m.getD i default).day ∧ (l.getD i default).code = (m.getD i default).code := sg_partsM (by rw [getD_keyM, getD_keyM, h])
theorem len_keyM {l m : List Sg} (h : l.map Sg.key = m.map Sg.key) : l.length = m.length := by
  have := congrArg List.length h
  simpa using this
theorem tot_keyM {l m : List Sg} (h : l.map Sg.key = m.map Sg.key) (k : Nat) : totN l k = totN m k := by
  have e : ∀ l : List Sg, totN l k = (((l.map Sg.key).take k).map (fun s => s.2.length)).sum := fun l => by
    unfold totN
    rw [← List.map_take, List.map_map]
    rfl
  rw [e l, e m, h]
theorem mk_keyM {l m : List Sg} (h : l.map Sg.key = m.map Sg.key) (op : Int) (bs : List Bool) : mkAll op l bs = mkAll op m bs := by
  have e : ∀ l : List Sg, mkAll op l bs = (l.map Sg.key).foldl (fun b s => s.2.foldl (mkB op) b) bs := fun l => by
    unfold mkAll
    rw [List.foldl_map]
    rfl
  rw [e l, e m, h]
theorem pre_keyM {l m : List Sg} (h : l.map Sg.key = m.map Sg.key) (i : Nat) : preD l i = preD m i := by
  cases i with
  | zero => rfl
  | succ i => exact (at_keyM h i).1
theorem can_key1M {p q : Pg} (h : q.key = p.key) (c : canP q) : canP p := by
  obtain ⟨e0, e1, e2, e3, e4, e5, e6, e7⟩ := key_of h
  obtain ⟨na, nc, names, ua, uc, curs, pa, pc, pool, hor, cells, slots, stack, da, dc, days⟩ := p
  obtain ⟨na', nc', names', ua', uc', curs', pa', pc', pool', hor', cells', slots', stack', da', dc', days'⟩ := q
  simp only at e0 e1 e2 e3 e4 e5 e6 e7
  subst e0 e1 e2 e3 e4 e5 e6
  obtain ⟨h1, h2, ⟨h3, h4⟩, h5, h6⟩ := c
  simp only at h3 h4 h5 h6
  refine ⟨h1, h2, ⟨fun i hi => ?_, ?_⟩, fun i hi => ?_, ?_⟩
  · have z := h3 i (by rw [len_keyM e7]; exact hi)
    unfold dayI at z ⊢
    simp only
    rw [← pre_keyM e7 i, ← (at_keyM e7 i).1]
    exact z
  · simp only
    rw [← len_keyM e7, ← tot_keyM e7]
    exact h4
  · have z := h5 i (by rw [len_keyM e7]; exact hi)
    simp only
    rw [← (at_keyM e7 i).2]
    exact z
  · simp only
    rw [← mk_keyM e7, ← mk_keyM e7, ← mk_keyM e7]
    exact h6
theorem vAll_keyM {l m : List Sg} (h : l.map Sg.key = m.map Sg.key) : ∀ d, vAll l d = vAll m d
  | 0 => rfl
  | d + 1 => by
    have e := at_keyM h d
    simp only [vAll]
    rw [vAll_keyM h d, e.1, e.2]
theorem vfyA_keyM {p q : Pg} (h : q.key = p.key) : vfyA q = vfyA p := by
  have e : q.days.map Sg.key = p.days.map Sg.key := congrArg (fun k => k.2.2.2.2.2.2.2) h
  have l := len_keyM e
  have c : canP q ↔ canP p := ⟨can_key1M h, can_key1M h.symm⟩
  have e1 : q.stack = p.stack := congrArg (fun k => k.2.2.2.2.2.2.1) h
  have e2 : q.slots = p.slots := congrArg (fun k => k.2.2.2.2.2.1) h
  have e3 : q.cells = p.cells := congrArg (fun k => k.2.2.2.2.1) h
  have v : vfy q = vfy p := by
    have vf : ∀ X, vFit X q ↔ vFit X p := fun X => by unfold vFit; rw [e1, e2, e3]
    unfold vfy
    rw [vAll_keyM e, l]
    by_cases a : (vAll p.days p.days.length).1 ≠ 0
    · rw [if_pos a, if_pos a]
    · rw [if_neg a, if_neg a]
      by_cases b : vFit (vAll p.days p.days.length).2.2.2 q
      · rw [if_pos b, if_pos ((vf _).1 b)]
      · rw [if_neg b, if_neg (fun y => b ((vf _).2 y))]
  unfold vfyA
  by_cases z : canP q
  · rw [if_pos z, if_pos (c.1 z), v]
  · rw [if_neg z, if_neg (fun y => z (c.2 y))]
theorem dayCode_keyM {l m : List Sg} (h : l.map Sg.key = m.map Sg.key) (t : Int) : dayCode l t = dayCode m t := by
  unfold dayCode
  induction l generalizing m with
  | nil =>
    cases m with
    | nil => rfl
    | cons _ _ => simp at h
  | cons a l ih =>
    cases m with
    | nil => simp at h
    | cons b m =>
      simp only [List.map_cons, List.cons.injEq] at h
      obtain ⟨h1, h2⟩ := h
      have d : a.day = b.day := congrArg Prod.fst h1
      have c : a.code = b.code := congrArg Prod.snd h1
      simp only [List.find?_cons, d]
      by_cases z : b.day = t
      · simp only [z, decide_true]
        exact c
      · simp only [z, decide_false]
        exact ih h2
theorem dayGo_keyM {p q : Pg} (h : q.key = p.key) (s : Ms) (row : List Cl) : dayGo q s row = dayGo p s row := by
  have e : q.days.map Sg.key = p.days.map Sg.key := congrArg (fun k => k.2.2.2.2.2.2.2) h
  have e1 : q.names = p.names := congrArg (fun k => k.1) h
  have e2 : q.curs = p.curs := congrArg (fun k => k.2.1) h
  have e3 : q.pool = p.pool := congrArg (fun k => k.2.2.1) h
  unfold dayGo Pg.env
  rw [dayCode_keyM e, e1, e2, e3]
theorem runMs_keyM {p q : Pg} (h : q.key = p.key) (back : Int) (a : Nat → List Cl) (s : Ms) : ∀ n, runMs q back a n s = runMs p back a n s
  | 0 => rfl
  | n + 1 => by
    have e1 : q.names = p.names := congrArg (fun k => k.1) h
    have e2 : q.hor = p.hor := congrArg (fun k => k.2.2.2.1) h
    simp only [runMs]
    rw [runMs_keyM h back a s n, e2]
    unfold dayMs dayFl
    simp only [dayGo_keyM h, e1]
theorem born_keyM {p q : Pg} (h : q.key = p.key) : q.born = p.born := by
  have e3 : q.cells = p.cells := congrArg (fun k => k.2.2.2.2.1) h
  unfold Pg.born
  rw [e3]
end Go.Proofs.YtpfjnnkjoabgbaaGreatDoor
