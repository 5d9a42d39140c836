import Derived.Test.YtpfjnnkjoabgbaaGreatDoorXBO
namespace Go.Proofs.YtpfjnnkjoabgbaaGreatDoor
open Go.RowKit
set_option linter.unusedVariables false
set_option linter.unusedSimpArgs false
theorem mDo_fll (E : EvM) (i : In) (r : Rn) : (mDo E i r).2.fl.length ≤ r.fl.length + 1 := by
  unfold mDo
  split <;> try (simp [Rn.put, Rn.cut]; done)
  · split <;> simp [Rn.put]
  · split <;> simp [Rn.cut]
  · split <;> simp [Rn.cut, Rn.put]
theorem mGo_fll (E : EvM) (code : List In) : ∀ (n : Nat) (r : Rn), (mGo E code n r).2.2.fl.length ≤ r.fl.length + n
  | 0, r => by simp [mGo]
  | n + 1, r => by
    simp only [mGo]
    have q := mDo_fll E (code.getD r.nx default) { r with nx := r.nx + 1 }
    have q : (mAt E code r).2.fl.length ≤ r.fl.length + 1 := q
    split
    · simp only; omega
    · have := mGo_fll E code n (mAt E code r).2
      simp only
      omega
theorem dayCode_len {p : Pg} (h : (vfyA p).1 = 0) (t : Int) : (dayCode p.days t).length ≤ 262144 := by
  by_cases q : dayCode p.days t = []
  · rw [q]; simp
  · exact (dayOk_of h q).len
theorem dayFl_len {p : Pg} (h : (vfyA p).1 = 0) (s : Ms) (row : List Cl) : (dayFl p s row).length ≤ 262144 := by
  have := mGo_fll (p.env s row) (dayCode p.days s.today) (dayCode p.days s.today).length s.begun
  have l := dayCode_len h s.today
  have : (dayFl p s row).length ≤ (dayCode p.days s.today).length := by simpa [Ms.begun, dayFl, dayGo] using this
  omega
theorem runMs_fllM {p : Pg} {M : Nat} (h : ∀ s row, (dayFl p s row).length ≤ M) (back : Int) (a : Nat → List Cl) (s : Ms) : ∀ n, (runMs p back a n s).2.length ≤ n * M
  | 0 => by simp [runMs]
  | n + 1 => by
    have ih := runMs_fllM h back a s n
    have e : (n + 1) * M = n * M + M := Nat.succ_mul n M
    rw [e]
    have q := h (runMs p back a n s).1 (a n)
    simp only [runMs]
    split
    · exact Nat.le_trans ih (Nat.le_add_right _ _)
    · simp only [List.length_append]
      exact Nat.add_le_add ih q
theorem runMs_fll {p : Pg} (h : (vfyA p).1 = 0) (back : Int) (a : Nat → List Cl) (s : Ms) {n : Nat} (hn : n ≤ 4000) : (runMs p back a n s).2.length ≤ 1048576000 := by
  have q := runMs_fllM (M := 262144) (fun s row => dayFl_len h s row) back a s n
  exact Nat.le_trans q (Nat.le_trans (Nat.mul_le_mul_right _ hn) (by decide))
/-- 'l = append(l, more...)' of flows. -/
theorem wp_flws {ops : Array Oper} {rest : List Oper} {o : Oper} {a : Act} {Q : Exit → Act → World → Prop} (w : World) (hgd : o.guard = none) (s y : Operand)
    (ho : o.op = .call { callee := .builtin .append, args := #[s, y], argTypes := #[29, 29] }) (B C : Nat) (v u : Value) (l k : List Fl) (hs : a.eval s = v) (hy : a.eval y = u)
    (hv : OwF w B v l) (hu : OwF w C u k) (hl : l.length + k.length ≤ 4000000000000) (hb : B ≤ w.heap.size)
    (h : ∀ a' n' c' w', OwF w' B (.slice a' n' c') (l ++ k) → w.grownBy w' v.ownBlock → wpList Tryz.prog ops Q rest (a.put o.dst (.slice a' n' c')) w') : wpList Tryz.prog ops Q (o :: rest) a w := by
  obtain ⟨i0, hi, hz0, hz1, hz2⟩ := info_parts infoFo
  have one : ∀ x ∈ focs k, x.oneCell' = true := by
    intro x hx
    unfold focs at hx
    obtain ⟨f, _, hx⟩ := List.mem_flatMap.1 hx
    simp [fo3] at hx
    rcases hx with rfl | rfl | rfl <;> rfl
  rcases hu.2 with ⟨rfl, h0⟩ | ⟨g, cap, cur, rfl, e2, e3, e4, e5, e6, e7⟩
  · have : k = [] := List.length_eq_zero_iff.1 h0
    subst this
    obtain ⟨a', c', rfl⟩ := own_form hv
    refine wpList_append_own_none hgd s y 29 ho B 54 i0 3 Tryz.underlying29 hi (.slice a' l.length c') l.length (focs l) hs hv hy ?_
    exact h a' l.length c' w (by rw [List.append_nil]; exact hv) ⟨rfl, rfl, rfl, Nat.le_refl _, fun _ _ _ => rfl⟩
  · refine wpList_append_own _ hgd s y 29 ho B 54 i0 (.agg #[.int .i64 0, .string ⟨#[]⟩, .int .i64 0]) 3 32 Tryz.underlying29 hi hz0 hz1 hz2 rfl (by decide) v _ _ hs hv ⟨g, 0, none⟩ k.length cap (focs k) hy (focs_len k) ?_ one (by unfold maxLen; omega) (by omega) hb ?_
    · intro j x hj
      have hj' : j < k.length * 3 := by rw [← focs_len]; exact (List.getElem?_eq_some_iff.1 hj).1
      rw [Addr.add_lit, Nat.zero_add]
      simp only [World.cell?, e3]
      rw [← e7, List.getElem?_take_of_lt hj'] at hj
      simpa using hj
    · intro v' w' h1 h2 _
      obtain ⟨a', c', rfl⟩ := own_form h1
      have e : l.length + k.length = (l ++ k).length := by simp
      have q : OwF w' B (.slice a' (l ++ k).length c') (l ++ k) := by
        unfold OwF
        rw [focs_append, ← e]
        exact h1
      rw [e]
      exact h a' _ c' w' q h2
/-- The row of a day, as Run takes it. -/
def rowsF (rs : List Rw) (d : Nat) : List Cl := (rs.getD d default).cs
/-- What Run answers. -/
structure RnE (w : World) (p : Pg) (rows : Nat → List Cl) (e : Ending) (w' : World) : Prop where
  bel : Below w.heap.size w w'
  bad : (vfyA p).1 ≠ 0 → e = .returned (.tuple #[.agg #[.slice none 0 0, .int .i64 0, .int .i64 0], .int .i64 (vfyA p).1])
  ok : (vfyA p).1 = 0 → ∃ fa fn fc, e = .returned (.tuple #[.agg #[.slice fa fn fc, .int .i64 (runMs p (vfyA p).2.2.2.back rows (p.hor + 1).toNat p.born).1.fault, .int .i64 (runMs p (vfyA p).2.2.2.back rows (p.hor + 1).toNat p.born).1.day], .int .i64 0]) ∧ OwF w' w.heap.size (.slice fa fn fc) (runMs p (vfyA p).2.2.2.back rows (p.hor + 1).toNat p.born).2
/-- A run that is going on: behind d days. -/
structure RnI (w : World) (N mb ob : Nat) (p' : Pg) (cev : Value) (D : Nat → Prop) (rows : Nat → List Cl) (d : Nat) (fa : Option Addr) (fn fc : Nat) (W : World) : Prop where
  bel : Below w.heap.size w W
  mc : ∃ pav, McV D W mb p' (vfyA p').2.2.2 cev pav (runMs p' (vfyA p').2.2.2.back rows d p'.born).1 ∧ ∀ g, pav.ownBlock = some g → w.heap.size ≤ g
  zb : BkP W (w.heap.size + 1) #[.slice none 0 0, .int .i64 0, .int .i64 0] 32
  obx : BkP W ob #[.slice fa fn fc, .int .i64 0, .int .i64 0] 32
  fl : OwF W N (.slice fa fn fc) (runMs p' (vfyA p').2.2.2.back rows d p'.born).2
  gm : w.heap.size ≤ mb
  gc : ∀ g, cev.ownBlock = some g → w.heap.size ≤ g
  gd : ∀ k, D k → k < N
  go : N ≤ ob ∧ w.heap.size + 1 < ob ∧ w.heap.size ≤ N ∧ N ≤ W.heap.size
section
variable {w : World} {N mb ob : Nat} {p' : Pg} {cev : Value} {D : Nat → Prop} {rows : Nat → List Cl} {d : Nat} {fa : Option Addr} {fn fc : Nat} {W : World}
theorem RnI.lat {W' : World} (h : RnI w N mb ob p' cev D rows d fa fn fc W) (b : Below W.heap.size W W') : RnI w N mb ob p' cev D rows d fa fn fc W' := by
  obtain ⟨pav, m, q⟩ := h.mc
  exact ⟨h.bel.trans (b.mono h.bel.size), ⟨pav, m.lat b, q⟩, h.zb.lat b, h.obx.lat b, own_blkG h.fl (fun g hg => b.block g (World.ownsRow.lt h.fl g hg).2), h.gm, h.gc, h.gd, ⟨h.go.1, h.go.2.1, h.go.2.2.1, Nat.le_trans h.go.2.2.2 b.size⟩⟩
end
end Go.Proofs.YtpfjnnkjoabgbaaGreatDoor

namespace Go.Proofs.YtpfjnnkjoabgbaaGreatDoor
open Go.RowKit
set_option linter.unusedVariables false
set_option linter.unusedSimpArgs false
section
variable {w : World} {N mb ob : Nat} {p' : Pg} {cev : Value} {D : Nat → Prop} {rows : Nat → List Cl} {d : Nat} {fa : Option Addr} {fn fc : Nat} {W : World}
/-- Behind a day, ahead of the append. -/
structure RnD (w : World) (N mb ob : Nat) (p' : Pg) (cev : Value) (D : Nat → Prop) (rows : Nat → List Cl) (d : Nat) (fa : Option Addr) (fn fc : Nat) (flv : Value) (W : World) : Prop where
  bel : Below w.heap.size w W
  mc : ∃ pav, McV D W mb p' (vfyA p').2.2.2 cev pav (runMs p' (vfyA p').2.2.2.back rows (d + 1) p'.born).1 ∧ ∀ g, pav.ownBlock = some g → w.heap.size ≤ g
  zb : BkP W (w.heap.size + 1) #[.slice none 0 0, .int .i64 0, .int .i64 0] 32
  obx : BkP W ob #[.slice fa fn fc, .int .i64 0, .int .i64 0] 32
  fl : OwF W N (.slice fa fn fc) (runMs p' (vfyA p').2.2.2.back rows d p'.born).2
  nf : OwF W 0 flv (dayFl p' (runMs p' (vfyA p').2.2.2.back rows d p'.born).1 (rows d))
  ne : Value.ownBlock (.slice fa fn fc) = none ∨ Value.ownBlock (.slice fa fn fc) ≠ flv.ownBlock
  gm : w.heap.size ≤ mb
  gc : ∀ g, cev.ownBlock = some g → w.heap.size ≤ g
  gd : ∀ k, D k → k < N
  go : N ≤ ob ∧ w.heap.size + 1 < ob ∧ w.heap.size ≤ N ∧ N ≤ W.heap.size
theorem keep_ty {S : Nat → Prop} {A V : World} (k : Kp A V S) {x : Nat} {cur : Array Value} {t : TypeId} {fr : Nat × Nat} (e : A.heap[x]? = some (.cells cur t fr)) (hS : ∀ y, S y → ∃ c u f, A.heap[y]? = some (.cells c u f) ∧ u ≠ t) : V.heap[x]? = A.heap[x]? := by
  refine k.blk x (Array.getElem?_eq_some_iff.1 e).1 (fun z => ?_)
  obtain ⟨c, u, f, e2, ne⟩ := hS x z
  have := e.symm.trans e2
  injection this with this
  injection this with _ q
  exact ne q.symm
theorem RnI.day (h : RnI w N mb ob p' cev D rows d fa fn fc W) {pav : Value} (m : McV D W mb p' (vfyA p').2.2.2 cev pav (runMs p' (vfyA p').2.2.2.back rows d p'.born).1) (gp : ∀ g, pav.ownBlock = some g → w.heap.size ≤ g) (no : ¬ (runMs p' (vfyA p').2.2.2.back rows d p'.born).1.over p'.hor) {e : Ending} {W' : World} (dy : DyE D W mb p' (vfyA p').2.2.2 cev pav (runMs p' (vfyA p').2.2.2.back rows d p'.born).1 (rows d) e W') : ∃ flv f, e = .returned (.tuple #[flv, .int .i64 f, .int .i64 0]) ∧ RnD w N mb ob p' cev D rows d fa fn fc flv W' := by
  obtain ⟨kp, flv, pav', rfl, m', fl', g'⟩ := dy
  have ty : ∀ y, turnS mb cev pav y → ∃ c u f, W.heap[y]? = some (.cells c u f) ∧ (u = 75 ∨ u = 3 ∨ u = 47) := fun y hy => m.turn hy
  have ne : ∀ t, t ≠ 75 → t ≠ 3 → t ≠ 47 → ∀ y, turnS mb cev pav y → ∃ c u f, W.heap[y]? = some (.cells c u f) ∧ u ≠ t := by
    intro t t1 t2 t3 y hy
    obtain ⟨c, u, f, e, q⟩ := ty y hy
    refine ⟨c, u, f, e, ?_⟩
    rcases q with rfl | rfl | rfl
    · exact Ne.symm t1
    · exact Ne.symm t2
    · exact Ne.symm t3
  have bW : Below w.heap.size W W' := kp.bel (fun k hk => by
    rcases hk with rfl | hk | hk
    · exact h.gm
    · exact h.gc k hk
    · exact gp k hk) h.bel.size
  have st : (runMs p' (vfyA p').2.2.2.back rows (d + 1) p'.born).1 = dayMs p' (vfyA p').2.2.2.back (runMs p' (vfyA p').2.2.2.back rows d p'.born).1 (rows d) := by
    simp only [runMs]
    rw [if_neg no]
  refine ⟨flv, _, rfl, ⟨h.bel.trans bW, ⟨pav', by rw [st]; exact m', fun g hg => ?_⟩, (keep_ty kp h.zb (ne _ (by decide) (by decide) (by decide))).trans h.zb, (keep_ty kp h.obx (ne _ (by decide) (by decide) (by decide))).trans h.obx, own_blkG h.fl (fun g hg => ?_), ownsRow_base fl' (Nat.zero_le _), ?_, h.gm, h.gc, h.gd, ⟨h.go.1, h.go.2.1, h.go.2.2.1, Nat.le_trans h.go.2.2.2 kp.size⟩⟩⟩
  · rcases g' g hg with q | q
    · exact gp g q
    · have := h.bel.size; omega
  · rcases h.fl.2 with ⟨z, _⟩ | ⟨g2, cap, cur, z, _, e3, _⟩
    · rw [z] at hg; cases hg
    · rw [z] at hg
      simp only [Value.ownBlock, Option.some.injEq] at hg
      subst hg
      exact keep_ty kp e3 (ne _ (by decide) (by decide) (by decide))
  · cases e1 : Value.ownBlock (.slice fa fn fc) with
    | none => exact .inl rfl
    | some x =>
      right
      intro z
      have a := (World.ownsRow.lt h.fl x e1).2
      have b := (World.ownsRow.lt fl' x z.symm).1
      omega
theorem RnD.next {flv : Value} (h : RnD w N mb ob p' cev D rows d fa fn fc flv W) (no : ¬ (runMs p' (vfyA p').2.2.2.back rows d p'.born).1.over p'.hor) {W' : World} {fa' : Option Addr} {fn' fc' : Nat} (g : W.grownBy W' (Value.ownBlock (.slice fa fn fc))) (o : OwF W' N (.slice fa' fn' fc') ((runMs p' (vfyA p').2.2.2.back rows d p'.born).2 ++ dayFl p' (runMs p' (vfyA p').2.2.2.back rows d p'.born).1 (rows d))) : W'.cell? ⟨ob, 0, none⟩ = some (.slice fa fn fc) ∧ W'.frozen? ⟨ob, 0, none⟩ = false ∧ RnI w N mb ob p' cev D rows (d + 1) fa' fn' fc' (W'.setCell ⟨ob, 0, none⟩ (.slice fa' fn' fc')) := by
  obtain ⟨pav, m, gp⟩ := h.mc
  have lt : ∀ {x : Nat} {oo : Obj}, W.heap[x]? = some oo → x < W.heap.size := fun e => (Array.getElem?_eq_some_iff.1 e).1
  have fb : ∀ x, Value.ownBlock (.slice fa fn fc) = some x → N ≤ x ∧ ∃ cur fr, W.heap[x]? = some (.cells cur 54 fr) := by
    intro x hx
    refine ⟨(World.ownsRow.lt h.fl x hx).1, ?_⟩
    rcases h.fl.2 with ⟨z, _⟩ | ⟨g2, cap, cur, z, _, e3, _⟩
    · rw [z] at hx; cases hx
    · rw [z] at hx
      simp only [Value.ownBlock, Option.some.injEq] at hx
      subst hx
      exact ⟨cur, _, e3⟩
  have kp : Kp W W' (fun k => Value.ownBlock (.slice fa fn fc) = some k) := ⟨g.os, g.tape, g.output, g.size, fun k hk hn => g.block k hk (fun z => hn z.symm)⟩
  have nt : ∀ t, t ≠ 54 → ∀ y, Value.ownBlock (.slice fa fn fc) = some y → ∃ c u f, W.heap[y]? = some (.cells c u f) ∧ u ≠ t := by
    intro t ht y hy
    obtain ⟨_, cur, fr, e⟩ := fb y hy
    exact ⟨cur, _, fr, e, Ne.symm ht⟩
  have ob' : BkP W' ob #[.slice fa fn fc, .int .i64 0, .int .i64 0] 32 := (keep_ty kp h.obx (nt _ (by decide))).trans h.obx
  have zb' : BkP W' (w.heap.size + 1) #[.slice none 0 0, .int .i64 0, .int .i64 0] 32 := (keep_ty kp h.zb (nt _ (by decide))).trans h.zb
  have st : (runMs p' (vfyA p').2.2.2.back rows (d + 1) p'.born).2 = (runMs p' (vfyA p').2.2.2.back rows d p'.born).2 ++ dayFl p' (runMs p' (vfyA p').2.2.2.back rows d p'.born).1 (rows d) := by
    simp only [runMs]
    rw [if_neg no]
  have bW : Below w.heap.size W W' := kp.bel (fun k hk => Nat.le_trans h.go.2.2.1 (fb k hk).1) h.bel.size
  have m1 : McV D W' mb p' (vfyA p').2.2.2 cev pav (runMs p' (vfyA p').2.2.2.back rows (d + 1) p'.born).1 := by
    refine m.keep kp (fun x hx => ?_)
    obtain ⟨gx, cur, fr, e⟩ := fb x hx
    refine ⟨fun z => ?_, fun z => ?_, fun c f z => ?_⟩
    · have := h.gd x z; omega
    · obtain ⟨c, u, f, e2, q⟩ := m.turn z
      have := e.symm.trans e2
      injection this with this
      injection this with _ q2
      rcases q with q | q | q <;> (rw [q] at q2; exact absurd q2 (by decide))
    · have := e.symm.trans z
      injection this with this
      injection this with _ q2
      exact absurd q2 (by decide)
  have kb : Kp W' (W'.setCell ⟨ob, 0, none⟩ (.slice fa' fn' fc')) (fun k => k = ob) := ⟨rfl, rfl, rfl, by rw [set_size]; exact Nat.le_refl _, fun k hk hn => bk_block hn⟩
  have m2 : McV D (W'.setCell ⟨ob, 0, none⟩ (.slice fa' fn' fc')) mb p' (vfyA p').2.2.2 cev pav (runMs p' (vfyA p').2.2.2.back rows (d + 1) p'.born).1 := by
    refine m1.keep kb ?_
    rintro x rfl
    refine ⟨fun z => ?_, fun z => ?_, fun c f z => ?_⟩
    · have := h.gd x z; have := h.go.1; omega
    · obtain ⟨c, u, f, e2, q⟩ := m1.turn z
      have := ob'.symm.trans e2
      injection this with this
      injection this with _ q2
      rcases q with q | q | q <;> (rw [q] at q2; exact absurd q2 (by decide))
    · have := ob'.symm.trans z
      injection this with this
      injection this with _ q2
      exact absurd q2 (by decide)
  have o1 := ob'.set2 0 (.slice fa' fn' fc') (by simp)
  refine ⟨by rw [ob'.cell]; rfl, ob'.frozen 0, ⟨(h.bel.trans bW).setCell (by exact (by have := h.go.2.1; omega : w.heap.size ≤ ob)) _, ⟨pav, m2, gp⟩, zb'.other _ _ _ (by have := h.go.2.1; omega), by simpa using o1, ?_, h.gm, h.gc, h.gd, ⟨h.go.1, h.go.2.1, h.go.2.2.1, by rw [set_size]; exact Nat.le_trans h.go.2.2.2 kp.size⟩⟩⟩
  rw [st]
  exact own_blkG o (fun g hg => bk_block (fun z => own_neB o ob' (by decide) (by rw [hg, z])))
end
end Go.Proofs.YtpfjnnkjoabgbaaGreatDoor

namespace Go.Proofs.YtpfjnnkjoabgbaaGreatDoor
open Go.RowKit
set_option linter.unusedVariables false
set_option linter.unusedSimpArgs false
/-- Three cells of a block are stored. -/
theorem set3 {W : World} {b : Nat} {t : TypeId} {c0 c1 c2 : Value} (h : BkP W b #[c0, c1, c2] t) (v0 v1 v2 : Value) : BkP (((W.setCell ⟨b, 0, none⟩ v0).setCell ⟨b, 1, none⟩ v1).setCell ⟨b, 2, none⟩ v2) b #[v0, v1, v2] t := by
  have := ((h.set2 0 v0 (by simp)).set2 1 v1 (by simp)).set2 2 v2 (by simp)
  simpa using this
set_option maxRecDepth 100000 in
set_option maxHeartbeats 3200000 in
theorem run_any {w : World} {p : Pg} (h : PV w p) (hR : Rws w) (hU : Rul w) {ra : Option Addr} {rn rc : Nat} {rs : List Rw} (hr : RL w ra rn rs) : Calls Tryz.prog 10 #[p.agg, .slice ra rn rc] w fun e w' => RnE w p (rowsF rs) e w' := by
  obtain ⟨W0, hW0⟩ : ∃ W, (w.alloc p.box).alloc (.cells #[.slice none 0 0, .int .i64 0, .int .i64 0] 32) = W := ⟨_, rfl⟩
  have B0 : Below w.heap.size w W0 := by rw [← hW0]; exact (allocBP w p.box).trans ((allocBP (w.alloc p.box) _).mono (by simp))
  have Z0 : BkP W0 (w.heap.size + 1) #[.slice none 0 0, .int .i64 0, .int .i64 0] 32 := by
    rw [← hW0]
    have := heapN (w.alloc p.box) (.cells #[.slice none 0 0, .int .i64 0, .int .i64 0] 32)
    rw [show (w.alloc p.box).heap.size = w.heap.size + 1 by simp] at this
    exact this
  have S0 : W0.heap.size = w.heap.size + 2 := by rw [← hW0]; simp
  have P0 : BkP W0 w.heap.size #[.slice p.na p.names.length p.nc, .slice p.ua p.curs.length p.uc, .slice p.pa p.pool.length p.pc, .int .i64 p.hor, .int .i64 p.cells, .int .i64 p.slots, .int .i64 p.stack, .slice p.da p.days.length p.dc] 26 := by rw [← hW0]; exact BkP.lat (heapN w p.box) (allocBP _ _)
  have KN := Lib.hid (new_any (h.later B0) (hR.below B0) (hU.lat B0))
  obtain ⟨a0, a1, a2, a3, a4, a5, a6, a7⟩ := box_all8 P0
  have HW := Lib.hid hW0
  by_cases hv : (vfyA p).1 = 0
  · have KN2 := Lib.hid (p := Calls Tryz.prog 12 #[p.agg] W0 fun e w' => ∃ mb p' cev D, e = .returned (.tuple #[.pointer (some ⟨mb, 0, none⟩), .int .i64 0]) ∧ RowKit.Hid (p'.key = p.key ∧ RnI w w'.heap.size mb w'.heap.size p' cev D (rowsF rs) 0 none 0 0 (w'.alloc (.cells #[.slice none 0 0, .int .i64 0, .int .i64 0] 32)))) (KN.out.mono (fun e w' q => by
      obtain ⟨mb, p', cev, D, rfl, k, m, g1, g2, g3⟩ := q.ok hv
      have al := allocBP w' (.cells #[.slice none 0 0, .int .i64 0, .int .i64 0] 32)
      have bw := B0.trans (q.bel.mono B0.size)
      have sz := q.bel.size
      refine ⟨mb, p', cev, D, rfl, k, ⟨bw.trans (al.mono bw.size), ⟨.slice none 0 0, m.lat al, fun g hg => by simp [Value.ownBlock] at hg⟩, (Z0.lat q.bel).lat al, heapN _ _, World.ownsRow_nil _ _ _ _, by omega, fun g hg => by have := g2 g hg; omega, m.dl, ⟨Nat.le_refl _, by omega, by omega, al.size⟩⟩⟩))
    have FE := Lib.hid (p := ∀ p', p'.key = p.key → ∀ N mb ob cev D d fa fn fc W, RnI w N mb ob p' cev D (rowsF rs) d fa fn fc W → (runMs p' (vfyA p').2.2.2.back (rowsF rs) d p'.born).1.over p'.hor → (d : Int) ≤ p'.hor + 1 → ∀ V, Below w.heap.size w V → (∀ g, Value.ownBlock (.slice fa fn fc) = some g → V.heap[g]? = W.heap[g]?) → RnE w p (rowsF rs) (.returned (.tuple #[.agg #[.slice fa fn fc, .int .i64 (runMs p' (vfyA p').2.2.2.back (rowsF rs) d p'.born).1.fault, .int .i64 (runMs p' (vfyA p').2.2.2.back (rowsF rs) d p'.born).1.day], .int .i64 0])) V) (fun p' k N mb ob cev D d fa fn fc W ri ov dl V bV kV => by
      have ev := vfyA_keyM k
      have eb := born_keyM k
      have eh : p'.hor = p.hor := congrArg (fun k => k.2.2.2.1) k
      have last := runMs_last ov (by omega)
      have er : runMs p' (vfyA p').2.2.2.back (rowsF rs) d p'.born = runMs p (vfyA p).2.2.2.back (rowsF rs) (p.hor + 1).toNat p.born := by
        rw [← last, ev, eb, eh]
        exact runMs_keyM k _ _ _ _
      have fl := ri.fl
      rw [er] at fl ⊢
      exact ⟨bV, fun z => absurd hv z, fun _ => ⟨fa, fn, fc, rfl, ownsRow_base (own_blkG fl kV) ri.go.2.2.1⟩⟩)
    have RR := Lib.hid (p := ∀ V, Below w.heap.size w V → RL V ra rn rs) (fun V b => hr.later b)
    have HV := Lib.hid (p := ∀ p', p'.key = p.key → (vfyA p').1 = 0) (fun p' k => by rw [vfyA_keyM k]; exact hv)
    unfold Pg.agg Pg.box at *
    obtain ⟨na, nc, names, ua, uc, curs, pa, pc, pool, hor, cells, slots, stack, da, dc, days⟩ := p
    simp only at *
    clear B0 h hR hU hr hW0 S0 Z0 P0 KN hv
    go_enter Tryz.func10, Tryz.ntmps10
    go_wp2_with fail
    go_at_call 12
    rw [HW.out]
    refine KN2.out.mono ?_
    rintro e w1 ⟨mb, p', cev, D, rfl, hk⟩
    have HK := Lib.hid hk.out.1
    have R0 := Lib.hid hk.out.2
    have hv := HV.out p' HK.out
    have FE2 := Lib.hid (FE.out p' HK.out)
    clear hk KN2 HV FE a0 a1 a2 a3 a4 a5 a6 a7 HW
    go_wp2
    obtain ⟨_, _, _, n4, n5, _⟩ := nds_of hv
    have HV := Lib.hid hv
    clear hv
    go_loopw [9] (fun t wr => ∃ (d : Nat) (fa : Option Addr) (fn fc : Nat), t = .int .i64 (d : Int) ∧ (d : Int) ≤ p'.hor + 1 ∧ RowKit.Hid (RnI w w1.heap.size mb w1.heap.size p' cev D (rowsF rs) d fa fn fc wr)) (fun t _ => (p'.hor + 2).toNat - (intOf t).toNat)
    case atStart => exact ⟨0, none, 0, 0, rfl, by omega, R0.out⟩
    case round =>
      clear R0
      rename World => wr
      obtain ⟨d, fa, fn, fc, rfl, hd, hI⟩ := hrel
      have ri := hI.out
      obtain ⟨pav, m, gp⟩ := ri.mc
      have KO := Lib.hid (over_any m.box)
      by_cases ov : (runMs p' (vfyA p').2.2.2.back (rowsF rs) d p'.born).1.over p'.hor
      · rw [decide_eq_true ov] at KO
        have FF := Lib.hid (FE2.out w1.heap.size mb w1.heap.size cev D d fa fn fc)
        clear hI m
        go_wp2_with fail
        go_at_call 15
        refine KO.out.mono ?_
        rintro e w4 ⟨rfl, b4⟩
        have ri4 := ri.lat b4
        obtain ⟨pav4, m4, _⟩ := ri4.mc
        obtain ⟨_, _, _, _, _, _, _, c15, c16⟩ := mach_over m4.box
        obtain ⟨o0, o1, o2⟩ := box_all3P ri4.obx
        obtain ⟨z0, z1, z2⟩ := box_all3P ri4.zb
        have f1 := ri4.obx.frozen 1
        have f2 := ri4.obx.frozen 2
        have g0 := ri4.zb.frozen 0
        have g1 := ri4.zb.frozen 1
        have g2 := ri4.zb.frozen 2
        have ne1 : ¬ mb = w1.heap.size := bk_ne m4.box ri4.obx (by decide)
        have ne2 : ¬ w1.heap.size = mb := fun z => ne1 z.symm
        have ne3 : ¬ w1.heap.size = w.heap.size + 1 := by have := ri4.go.2.1; omega
        have ne4 : ¬ w.heap.size + 1 = w1.heap.size := fun z => ne3 z.symm
        have FX := Lib.hid (fun V bV kV => FF.out w4 ri4 ov hd V bV kV)
        have HR4 := Lib.hid ri4
        have NB := Lib.hid (p := ∀ g, Value.ownBlock (.slice fa fn fc) = some g → g ≠ w1.heap.size ∧ g ≠ w.heap.size + 1) (fun g hg => ⟨fun z => own_neB ri4.fl ri4.obx (by decide) (by rw [hg, z]), fun z => own_neB ri4.fl ri4.zb (by decide) (by rw [hg, z])⟩)
        have BL := Lib.hid (p := Below w.heap.size w w4 ∧ w.heap.size ≤ w1.heap.size) ⟨ri4.bel, by have := ri4.go.2.1; omega⟩
        generalize (runMs p' (vfyA p').2.2.2.back (rowsF rs) d p'.born).1.fault = ft at *
        generalize (runMs p' (vfyA p').2.2.2.back (rowsF rs) d p'.born).1.day = dy at *
        clear ri ri4 m4 KO FF FE2 b4 RR
        go_wp2
        go_region
        all_goals
          go_wp2
          refine bodyPost_ret (v := .tuple #[.agg #[.slice fa fn fc, .int .i64 ft, .int .i64 dy], .int .i64 0]) ?r rfl ?s
          case r => simp [results, Tryz.results10, go_sem, z0, z1, z2, ne1, ne2, ne3, ne4, g0, g1, g2]
          case s =>
            refine FX.out _ ?_ ?_
            · exact ((((BL.out.1.setCell (by exact BL.out.2) _).setCell (by exact BL.out.2) _).setCell (by exact Nat.le_succ _) _).setCell (by exact Nat.le_succ _) _).setCell (by exact Nat.le_succ _) _ |>.trans (drew1B2 _ _)
            · intro g hg
              obtain ⟨q1, q2⟩ := NB.out g hg
              show ((((((w4.setCell _ _).setCell _ _).setCell _ _).setCell _ _).setCell _ _)).heap[g]? = _
              rw [bk_block q2, bk_block q2, bk_block q2, bk_block q1, bk_block q1]
      · have td := (runMs_today (a := rowsF rs) (p := p') (back := (vfyA p').2.2.2.back) d).2 ov
        have dh : (d : Int) ≤ p'.hor := by unfold Ms.over at ov; omega
        rw [decide_eq_false ov] at KO
        have ks : IntKind.i64.wrap ((d : Int) + 1) = (d : Int) + 1 := by simp [IntKind.wrap, IntKind.bits, IntKind.signed]; omega
        clear hI m gp
        go_wp2_with fail
        go_at_call 15
        refine KO.out.mono ?_
        rintro e w4 ⟨rfl, b4⟩
        have ri4 := ri.lat b4
        obtain ⟨pav4, m4, gp4⟩ := ri4.mc
        have rl := RR.out w4 ri4.bel
        have L1 := Lib.hid (runMs_fll HV.out (vfyA p').2.2.2.back (rowsF rs) p'.born (n := d) (by omega))
        have L2 := Lib.hid (dayFl_len HV.out (runMs p' (vfyA p').2.2.2.back (rowsF rs) d p'.born).1 (rowsF rs d))
        clear KO b4 ri
        by_cases hlt : d < rn
        · have rc4 : RC w4 (rs.getD d default).a (rs.getD d default).n (rowsF rs d) := (rl.2.2.1 _ (by simp [List.getD, rl.1, hlt])).1
          have kc : (d : Int) < (rn : Int) := by omega
          have k0 : ¬ (d : Int) < 0 := by omega
          obtain ⟨x, o, hra, hx, hc⟩ : ∃ b o, ra = some ⟨b, o, none⟩ ∧ b < w4.heap.size ∧ ∀ i, i < rn → w4.cell? ⟨b, o + i, none⟩ = some (.slice (rs.getD i default).a (rs.getD i default).n (rs.getD i default).cap) := by
            rcases rl.2.2.2 with q | q
            · omega
            · exact q
          have c0 := hc d hlt
          have KD := Lib.hid (day_any (cap := (rs.getD d default).cap) m4 HV.out ov rc4)
          have DD := Lib.hid (fun e W' (q : DyE D w4 mb p' (vfyA p').2.2.2 cev pav4 (runMs p' (vfyA p').2.2.2.back (rowsF rs) d p'.born).1 (rowsF rs d) e W') => ri4.day m4 gp4 ov q)
          generalize rs.getD d default = rw0 at *
          obtain ⟨ra0, rn0, rc0, rcs⟩ := rw0
          simp only at c0 KD
          subst hra
          clear ri4 m4 rl rc4 hc
          have TL := Lib.hid (p := ∀ flv W, RnD w w1.heap.size mb w1.heap.size p' cev D (rowsF rs) d fa fn fc flv W → ∀ a' n' c' W', W.grownBy W' (Value.ownBlock (.slice fa fn fc)) → OwF W' w1.heap.size (.slice a' n' c') ((runMs p' (vfyA p').2.2.2.back (rowsF rs) d p'.born).2 ++ dayFl p' (runMs p' (vfyA p').2.2.2.back (rowsF rs) d p'.born).1 (rowsF rs d)) → W'.cell? ⟨w1.heap.size, 0, none⟩ = some (.slice fa fn fc) ∧ W'.frozen? ⟨w1.heap.size, 0, none⟩ = false ∧ RowKit.Hid (RnI w w1.heap.size mb w1.heap.size p' cev D (rowsF rs) (d + 1) a' n' c' (W'.setCell ⟨w1.heap.size, 0, none⟩ (.slice a' n' c')))) (fun flv W q a' n' c' W' g o => q.next ov g o)
          go_wp2_with (first
            | (go_at_call 16; refine KD.out.mono ?_; intro e w5 hq; obtain ⟨flv, ff, rfl, rd⟩ := DD.out e w5 hq; have RD := Lib.hid rd; have o0 := (box_all3P rd.obx).1; clear rd hq)
            | (at_builtin; refine wp_flws w5 rfl _ _ rfl w1.heap.size 0 (.slice fa fn fc) flv _ _ rfl rfl RD.out.fl RD.out.nf (by have := L1.out; have := L2.out; omega) RD.out.go.2.2.2 ?_; intro a6 n6 c6 w6 q1 q2; obtain ⟨y0, y1, y2⟩ := TL.out flv w5 RD.out _ _ _ w6 q2 q1; clear q1 q2))
          refine ⟨⟨d + 1, _, _, _, by simp, by omega, y2⟩, ?_⟩
          simp [intOf]
          omega
        · have kc : ¬ (d : Int) < (rn : Int) := by omega
          have e0 : rowsF rs d = [] := by
            unfold rowsF
            simp only [List.getD, List.getElem?_eq_none (by rw [rl.1]; omega : rs.length ≤ d)]
            rfl
          have rc4 : RC w4 none 0 (rowsF rs d) := by rw [e0]; exact ⟨rfl, by omega, by simp, .inl rfl⟩
          have KD := Lib.hid (day_any (cap := 0) m4 HV.out ov rc4)
          have DD := Lib.hid (fun e W' (q : DyE D w4 mb p' (vfyA p').2.2.2 cev pav4 (runMs p' (vfyA p').2.2.2.back (rowsF rs) d p'.born).1 (rowsF rs d) e W') => ri4.day m4 gp4 ov q)
          clear ri4 m4 rl rc4 e0
          have TL := Lib.hid (p := ∀ flv W, RnD w w1.heap.size mb w1.heap.size p' cev D (rowsF rs) d fa fn fc flv W → ∀ a' n' c' W', W.grownBy W' (Value.ownBlock (.slice fa fn fc)) → OwF W' w1.heap.size (.slice a' n' c') ((runMs p' (vfyA p').2.2.2.back (rowsF rs) d p'.born).2 ++ dayFl p' (runMs p' (vfyA p').2.2.2.back (rowsF rs) d p'.born).1 (rowsF rs d)) → W'.cell? ⟨w1.heap.size, 0, none⟩ = some (.slice fa fn fc) ∧ W'.frozen? ⟨w1.heap.size, 0, none⟩ = false ∧ RowKit.Hid (RnI w w1.heap.size mb w1.heap.size p' cev D (rowsF rs) (d + 1) a' n' c' (W'.setCell ⟨w1.heap.size, 0, none⟩ (.slice a' n' c')))) (fun flv W q a' n' c' W' g o => q.next ov g o)
          go_wp2_with (first
            | (go_at_call 16; refine KD.out.mono ?_; intro e w5 hq; obtain ⟨flv, ff, rfl, rd⟩ := DD.out e w5 hq; have RD := Lib.hid rd; have o0 := (box_all3P rd.obx).1; clear rd hq)
            | (at_builtin; refine wp_flws w5 rfl _ _ rfl w1.heap.size 0 (.slice fa fn fc) flv _ _ rfl rfl RD.out.fl RD.out.nf (by have := L1.out; have := L2.out; omega) RD.out.go.2.2.2 ?_; intro a6 n6 c6 w6 q1 q2; obtain ⟨y0, y1, y2⟩ := TL.out flv w5 RD.out _ _ _ w6 q2 q1; clear q1 q2))
          refine ⟨⟨d + 1, _, _, _, by simp, by omega, y2⟩, ?_⟩
          simp [intOf]
          omega
  · have KN2 := Lib.hid (p := Calls Tryz.prog 12 #[p.agg] W0 fun e w' => e = .returned (.tuple #[.pointer none, .int .i64 (vfyA p).1]) ∧ Below W0.heap.size W0 w') (KN.out.mono (fun e w' q => ⟨q.bad hv, q.bel⟩))
    have z : ((vfyA p).1 != 0) = true := by simpa using hv
    have FE := Lib.hid (p := ∀ V, Below w.heap.size w V → RnE w p (rowsF rs) (.returned (.tuple #[.agg #[.slice none 0 0, .int .i64 0, .int .i64 0], .int .i64 (vfyA p).1])) V) (fun V b => ⟨b, fun _ => rfl, fun z => absurd z hv⟩)
    have ZZ := Lib.hid (p := ∀ V, Below W0.heap.size W0 V → BkP V (w.heap.size + 1) #[.slice none 0 0, .int .i64 0, .int .i64 0] 32 ∧ Below w.heap.size w V) (fun V b => ⟨Z0.lat b, B0.trans (b.mono B0.size)⟩)
    generalize (vfyA p).1 = en at *
    unfold Pg.agg Pg.box at *
    obtain ⟨na, nc, names, ua, uc, curs, pa, pc, pool, hor, cells, slots, stack, da, dc, days⟩ := p
    simp only at *
    clear B0 h hR hU hr hW0 S0 Z0 P0 KN hv
    go_enter Tryz.func10, Tryz.ntmps10
    go_wp2_with fail
    go_at_call 12
    rw [HW.out]
    refine KN2.out.mono ?_
    rintro e w1 ⟨rfl, b1⟩
    obtain ⟨zz, bw⟩ := ZZ.out w1 b1
    obtain ⟨y0, y1, y2⟩ := box_all3P zz
    have f0 := zz.frozen 0
    have f1 := zz.frozen 1
    have f2 := zz.frozen 2
    have S1 := Lib.hid (set3 zz (.slice none 0 0) (.int .i64 0) (.int .i64 0))
    have BW := Lib.hid bw
    clear b1 zz bw
    go_wp2
    refine bodyPost_ret (v := .tuple #[.agg #[.slice none 0 0, .int .i64 0, .int .i64 0], .int .i64 en]) ?r rfl ?s
    case r => simp [results, Tryz.results10, go_sem, y0, y1, y2]
    case s => exact FE.out _ (((BW.out.setCell (by exact Nat.le_succ _) _).setCell (by exact Nat.le_succ _) _).setCell (by exact Nat.le_succ _) _)
end Go.Proofs.YtpfjnnkjoabgbaaGreatDoor

namespace Go.Proofs.YtpfjnnkjoabgbaaGreatDoor
open Go.RowKit
set_option linter.unusedVariables false
set_option linter.unusedSimpArgs false
def FCm (w : World) (b o : Nat) (f : Fl) : Prop := w.cell? ⟨b, o, none⟩ = some (.int .i64 f.d) ∧ w.cell? ⟨b, o + 1, none⟩ = some (.string f.c) ∧ w.cell? ⟨b, o + 2, none⟩ = some (.int .i64 f.a)
theorem FCm.later {w w' : World} {B b o : Nat} {f : Fl} (h : FCm w b o f) (hb : Below B w w') (hB : b < B) : FCm w' b o f :=
  ⟨(hb.cell (p := ⟨b, o, none⟩) hB).trans h.1, (hb.cell (p := ⟨b, o + 1, none⟩) hB).trans h.2.1, (hb.cell (p := ⟨b, o + 2, none⟩) hB).trans h.2.2⟩
/-- A list of flows, where it lies. -/
def FLm (w : World) (a : Option Addr) (n : Nat) (fs : List Fl) : Prop := fs.length = n ∧ (n = 0 ∨ ∃ b o, a = some ⟨b, o, none⟩ ∧ b < w.heap.size ∧ ∀ i, i < n → FCm w b (o + i * 3) (fs.getD i default))
theorem FLm.later {w w' : World} {a : Option Addr} {n : Nat} {fs : List Fl} (h : FLm w a n fs) (b : Below w.heap.size w w') : FLm w' a n fs := by
  obtain ⟨h1, h2⟩ := h
  refine ⟨h1, ?_⟩
  rcases h2 with h2 | ⟨x, o, rfl, hx, hc⟩
  · exact .inl h2
  · exact .inr ⟨x, o, rfl, Nat.lt_of_lt_of_le hx b.size, fun i hi => (hc i hi).later b hx⟩
theorem focs_at : ∀ (l : List Fl) (i : Nat), i < l.length → ∀ j, j < 3 → (focs l)[i * 3 + j]? = (fo3 (l.getD i default))[j]?
  | [], i, h, _, _ => by simp at h
  | g :: gs, 0, h, j, hj => by
    show (fo3 g ++ focs gs)[0 * 3 + j]? = _
    rw [Nat.zero_mul, Nat.zero_add, List.getElem?_append_left (by simp [fo3]; omega)]
    rfl
  | g :: gs, i + 1, h, j, hj => by
    have ih := focs_at gs i (by simpa using h) j hj
    show (fo3 g ++ focs gs)[(i + 1) * 3 + j]? = _
    rw [List.getElem?_append_right (by simp [fo3]; omega)]
    rw [show (i + 1) * 3 + j - (fo3 g).length = i * 3 + j by simp [fo3]; omega, ih]
    rfl
theorem owf_fl {w : World} {B : Nat} {a : Option Addr} {n c : Nat} {l : List Fl} (h : OwF w B (.slice a n c) l) : FLm w a n l := by
  rcases h.2 with ⟨e, h0⟩ | ⟨g, cap, cur, e, e2, e3, e4, e5, e6, e7⟩
  · injection e with e1 e2 e3
    subst e1 e2 e3
    exact ⟨h0, .inl rfl⟩
  · injection e with e1 en ec
    subst e1 en ec
    refine ⟨rfl, .inr ⟨g, 0, rfl, (Array.getElem?_eq_some_iff.1 e3).1, fun i hi => ?_⟩⟩
    have q : ∀ j, j < 3 → w.cell? ⟨g, 0 + i * 3 + j, none⟩ = (fo3 (l.getD i default))[j]? := by
      intro j hj
      have := focs_at l i hi j hj
      rw [← e7, List.getElem?_take_of_lt (by omega)] at this
      rw [← this, Nat.zero_add]
      simp [World.cell?, e3]
    exact ⟨q 0 (by omega), q 1 (by omega), q 2 (by omega)⟩
set_option maxRecDepth 100000 in
theorem sameFl_any (a b : Option Addr) (n c1 c2 : Nat) (fs : List Fl) (w : World) (h : FLm w a n fs) (h' : FLm w b n fs) (hn : n ≤ 4000000000000) :
    Calls Tryz.prog 18 #[.slice a n c1, .slice b n c2] w fun e w' => e = .returned (.bool true) ∧ Below w.heap.size w w' := by
  obtain ⟨h1, h3⟩ := h
  obtain ⟨_, h3'⟩ := h'
  rcases h3 with h3 | ⟨x, o, rfl, hx, hc⟩
  · subst h3
    go_enter Tryz.func18, Tryz.ntmps18
    go_wp2
    go_loopw [5] (fun t wr => t = .int .i64 0 ∧ wr = w) (fun t _ => 0)
    case atStart => exact ⟨rfl, rfl⟩
    case round =>
      obtain ⟨rfl, rfl⟩ := hrel
      go_wp2
      go_ret
      exact ⟨rfl, Below.refl _ _⟩
  · rcases h3' with h3' | ⟨y, p, rfl, hy, hd⟩
    · subst h3'
      go_enter Tryz.func18, Tryz.ntmps18
      go_wp2
      go_loopw [5] (fun t wr => t = .int .i64 0 ∧ wr = w) (fun t _ => 0)
      case atStart => exact ⟨rfl, rfl⟩
      case round =>
        obtain ⟨rfl, rfl⟩ := hrel
        go_wp2
        go_ret
        exact ⟨rfl, Below.refl _ _⟩
    · have HC := Lib.hid hc
      have HD := Lib.hid hd
      clear hc hd
      go_enter Tryz.func18, Tryz.ntmps18
      go_wp2
      go_loopw [5] (fun t wr => ∃ k : Nat, k ≤ n ∧ t = .int .i64 k ∧ Below w.heap.size w wr) (fun t _ => n - (intOf t).toNat)
      case atStart => exact ⟨0, by omega, rfl, Below.refl _ _⟩
      case round =>
        obtain ⟨k, hk, rfl, hB⟩ := hrel
        have BB := Lib.hid hB
        by_cases hlt : k < n
        · obtain ⟨c0, c1, c2⟩ := (HC.out k hlt).later hB hx
          obtain ⟨e0, e1, e2⟩ := (HD.out k hlt).later hB hy
          have kc : (k : Int) < (n : Int) := by omega
          generalize fs.getD k default = f at *
          obtain ⟨fd, fc, fa⟩ := f
          simp only at c0 c1 c2 e0 e1 e2
          clear hB
          go_wp2
          go_region
          all_goals
            go_wp2
            go_roundw
            case rel => exact ⟨k + 1, by omega, by go_num, BB.out.drew⟩
            case measure => simp [intOf]; omega
        · obtain rfl : k = n := by omega
          clear hB
          go_wp2
          go_ret
          exact ⟨rfl, BB.out⟩
set_option maxRecDepth 100000 in
theorem num15_any (e : Int) (w : World) : Calls Tryz.prog 14 #[.int .i64 e] w fun r w' => r = .returned (.int .i64 e) ∧ w' = w := by
  go_enter Tryz.func14, Tryz.ntmps14
  go_wp2
  go_ret
  exact ⟨rfl, rfl⟩
end Go.Proofs.YtpfjnnkjoabgbaaGreatDoor

namespace Go.Proofs.YtpfjnnkjoabgbaaGreatDoor
open Go.RowKit
set_option linter.unusedVariables false
set_option linter.unusedSimpArgs false
theorem make_cells0 (m : Nat) (hm : m ≤ 8796093022000) (W : World) : (Instr.makeSlice 47 (.int .i64 0) (.int .i64 (m : Int))).run Tryz.prog W = .ok (.slice (some ⟨W.heap.size, 0, none⟩) 0 m) (W.alloc (.cells (madeCells #[.bool false, .int .i64 0] (m * 2)) 73)) := by
  obtain ⟨i0, hi, hz0, hz1, hz2⟩ := info_parts infoCl
  have := run_make (P := Tryz.prog) W 47 73 i0 _ Tryz.underlying47 hi hz0 .i64 .i64 0 m (by omega) (by omega) (by rw [hz2]; omega) (by omega)
  rw [hz1] at this
  simpa [Value.cells] using this
/-- The cells of a row, for an append. -/
theorem rc_news {w : World} {a : Addr} {m : Nat} {row : List Cl} (h : RC w (some a) m row) : ∀ j u, (clv row)[j]? = some u → w.cell? (a.add j) = some u := by
  intro j u hj
  have lt : j < row.length * 2 := by rw [← clv_len]; exact (List.getElem?_eq_some_iff.1 hj).1
  rcases h.2.2.2 with h0 | ⟨b, o, e, hb, hc⟩
  · have := h.1; omega
  · injection e with e
    subst e
    have i1 : j / 2 < m := by have := h.1; omega
    obtain ⟨c0, c1⟩ := hc (j / 2) i1
    have q := clv_at row (j / 2) (by omega) (j % 2) (Nat.mod_lt _ (by omega))
    have e : j / 2 * 2 + j % 2 = j := by omega
    rw [e, hj] at q
    rw [Addr.add_lit]
    rcases (show j % 2 = 0 ∨ j % 2 = 1 by omega) with z | z
    · rw [z] at q
      rw [show o + j = o + j / 2 * 2 by omega, c0]
      exact q.symm
    · rw [z] at q
      rw [show o + j = o + j / 2 * 2 + 1 by omega, c1]
      exact q.symm
theorem rc_own {w : World} {B g n cap : Nat} {row : List Cl} {xs : List Value} (h : w.ownsRow B 73 2 (.slice (some ⟨g, 0, none⟩) n cap) n (clv row ++ xs)) (hl : row.length ≤ n) (hb : row.length ≤ 8796093021952) (hw : ∀ c ∈ row, (Lit.int .i64 c.v).wf = true) : RC w (some ⟨g, 0, none⟩) row.length row := by
  refine ⟨rfl, hb, hw, .inr ⟨g, 0, rfl, (World.ownsRow.lt h g rfl).2, fun i hi => ?_⟩⟩
  have q : ∀ j, j < 2 → w.cell? ⟨g, 0 + i * 2 + j, none⟩ = (row.getD i default).two[j]? := by
    intro j hj
    rw [Nat.zero_add, World.ownsRow.cellAt h (i * 2 + j) (by omega), List.getElem?_append_left (by rw [clv_len]; omega)]
    exact clv_at row i hi j hj
  exact ⟨q 0 (by omega), q 1 (by omega)⟩
/-- A row that was copied. -/
structure RwE (w : World) (row : List Cl) (e : Ending) (w' : World) : Prop where
  bel : Below w.heap.size w w'
  ret : ∃ a n c, e = .returned (.slice a n c) ∧ RC w' a n row ∧ (a = none → n = 0 ∧ c = 0) ∧ n ≤ c ∧ c ≤ maxLen ∧ RwV w' (.slice a n c) row
set_option maxRecDepth 100000 in
set_option maxHeartbeats 1600000 in
theorem row_any {w : World} {a : Option Addr} {m cap : Nat} {row : List Cl} (h : RC w a m row) (hcap : a = none → m = 0 ∧ cap = 0) (hmm : m ≤ 8796093021952) : Calls Tryz.prog 31 #[.slice a m cap] w fun e w' => RwE w row e w' := by
  cases a with
  | none =>
    obtain ⟨rfl, rfl⟩ := hcap rfl
    have nn : ∀ W, (binOp .eql 47 (.slice none 0 0) (.slice none 0 0)).run Tryz.prog W = .ok (.bool true) W := fun W => Lib.run_eql_slice_nil W 47 73 none 0 0 0 0 (by kernel_rfl)
    have E := Lib.hid (p := RwE w row (.returned (.slice none 0 0)) w) ⟨Below.refl _ _, none, 0, 0, rfl, h, fun _ => ⟨rfl, rfl⟩, Nat.le_refl _, Nat.zero_le _, ⟨none, 0, by rw [h.1], .inl (List.length_eq_zero_iff.1 h.1)⟩⟩
    clear h
    go_enter Tryz.func31, Tryz.ntmps31
    go_wp2
    go_ret
    exact E.out
  | some ad =>
    obtain ⟨i0, hi, hz0, hz1, hz2⟩ := info_parts infoCl
    have nn : ∀ W, (binOp .eql 47 (.slice (some ad) m cap) (.slice none 0 0)).run Tryz.prog W = .ok (.bool false) W := fun W => Lib.run_eql_slice_nil W 47 73 (some ad) m cap 0 0 (by kernel_rfl)
    have ks : IntKind.i64.wrap ((m : Int) + 2) = (m : Int) + 2 := by simp [IntKind.wrap, IntKind.bits, IntKind.signed]; omega
    have mk := make_cells0 (m + 2) (by omega)
    simp only [Int.natCast_add, Int.cast_ofNat_Int] at mk
    have hl := h.1
    have B0 := allocBP w (.cells (madeCells #[.bool false, .int .i64 0] ((m + 2) * 2)) 73)
    have NW := Lib.hid (rc_news (h.later B0))
    have OW := Lib.hid (World.ownsRow_made (e := 73) (size := 2) w (madeCells #[.bool false, .int .i64 0] ((m + 2) * 2)) (m + 2) (Nat.le_refl w.heap.size) (by unfold maxLen; omega) (by simp [madeCells]))
    have LN := Lib.hid (p := (clv row).length = m * 2) (by rw [clv_len, hl])
    have M := Lib.hid (p := (0 + m ≤ maxLen ∧ (0 + m) * 16 ≤ 140737488355328 ∧ w.heap.size ≤ (w.alloc (.cells (madeCells #[.bool false, .int .i64 0] ((m + 2) * 2)) 73)).heap.size) ∧ m + 2 ≤ maxLen ∧ (m + 2) * 16 ≤ 140737488355328) ⟨⟨by unfold maxLen; omega, by omega, by simp⟩, by unfold maxLen; omega, by omega⟩
    have ON := Lib.hid (clv_one row)
    have HC := Lib.hid h
    have B0H := Lib.hid B0
    clear h B0
    go_enter Tryz.func31, Tryz.ntmps31
    have M1 : True := trivial
    have L4 := Lib.hid (p := ∀ w1 a1 c1, w1.ownsRow w.heap.size 73 2 (.slice a1 (0 + m) c1) (0 + m) ([] ++ clv row) → (w.alloc (.cells (madeCells #[.bool false, .int .i64 0] ((m + 2) * 2)) 73)).grownBy w1 (some w.heap.size) → (w1.alloc (.cells #[.bool true, .int .i64 (-4711), .bool true, .int .i64 (-4712)] 73)).ownsRow w.heap.size 73 2 (.slice a1 m c1) m (clv row) ∧ (∀ j u, [Value.bool true, .int .i64 (-4711), .bool true, .int .i64 (-4712)][j]? = some u → (w1.alloc (.cells #[.bool true, .int .i64 (-4711), .bool true, .int .i64 (-4712)] 73)).cell? ((⟨w1.heap.size, 0, none⟩ : Addr).add j) = some u) ∧ w.heap.size ≤ (w1.alloc (.cells #[.bool true, .int .i64 (-4711), .bool true, .int .i64 (-4712)] 73)).heap.size ∧ ∀ V, (w1.alloc (.cells #[.bool true, .int .i64 (-4711), .bool true, .int .i64 (-4712)] 73)).grownBy V (Value.ownBlock (.slice a1 m c1)) → Below w.heap.size w V) (fun w1 a1 c1 q1 q2 => by
      rw [Nat.zero_add, List.nil_append] at q1
      have al := allocBP w1 (.cells #[.bool true, .int .i64 (-4711), .bool true, .int .i64 (-4712)] 73)
      have o2 := own_blkG q1 (fun g hg => al.block g (World.ownsRow.lt q1 g hg).2)
      have bw : Below w.heap.size w w1 := ⟨q2.os, q2.tape, q2.output, by have := q2.size; simp at this; omega, fun k hk => (q2.block k (by simp; omega) (by intro z; injection z with z; omega)).trans (B0H.out.block k hk)⟩
      have b2 := bw.trans (al.mono bw.size)
      exact ⟨o2, World.news_of_block (heapN w1 _), b2.size, fun V g => b2.trans ⟨g.os, g.tape, g.output, g.size, fun k hk => g.block k (by have := b2.size; omega) (fun z => by have := (World.ownsRow.lt o2 k z.symm).1; omega)⟩⟩)
    have FE := Lib.hid (p := ∀ V a2 c2, V.ownsRow w.heap.size 73 2 (.slice a2 (m + 2) c2) (m + 2) (clv row ++ [Value.bool true, .int .i64 (-4711), .bool true, .int .i64 (-4712)]) → Below w.heap.size w V → ∃ g, a2 = some ⟨g, 0, none⟩ ∧ m + 2 ≤ c2 ∧ RowKit.Hid (RwE w row (.returned (.slice (some ⟨g, 0, none⟩) m c2)) V)) (fun V a2 c2 q b => by
      obtain ⟨g, cp, e, _, _⟩ := q.form (by omega)
      injection e with e1 _ e3
      subst e1 e3
      have cc : m + 2 ≤ c2 ∧ c2 ≤ maxLen := by
        rcases q.2 with ⟨z, _⟩ | ⟨_, _, _, z, _, _, z4, z5, _⟩
        · cases z
        · injection z with _ _ z; subst z; exact ⟨z4, z5⟩
      have r := rc_own q (by omega) (by omega) HC.out.2.2.1
      rw [hl] at r
      obtain ⟨cur, e3⟩ : ∃ cur, V.heap[g]? = some (.cells cur 73 (0, 0)) := by
        rcases q.2 with ⟨z, _⟩ | ⟨_, _, cur, z, _, e3, _⟩
        · cases z
        · injection z with z _ _; injection z with z; injection z with z; subst z; exact ⟨cur, e3⟩
      refine ⟨g, rfl, cc.1, ⟨b, some ⟨g, 0, none⟩, m, c2, rfl, r, fun z => (by cases z), by omega, cc.2, ⟨_, _, by rw [hl], ?_⟩⟩⟩
      rcases r.2.2.2 with z | ⟨y, u, e, _, hc⟩
      · exact .inl (List.length_eq_zero_iff.1 (by rw [hl]; exact z))
      · injection e with e
        injection e with e1 e2
        subst e1 e2
        exact .inr ⟨g, 0, cur, _, rfl, e3, fun i hi => hc i (by omega)⟩)
    generalize clv row = fl at *
    go_wp2_with (first
      | (at_builtin; have mm := M1; refine wpList_append_own _ rfl _ _ 47 rfl w.heap.size 73 i0 (.agg #[.bool false, .int .i64 0]) 2 16 Tryz.underlying47 hi hz0 hz1 hz2 rfl (by decide) _ 0 [] rfl OW.out ad m cap fl rfl LN.out NW.out ON.out M.out.1.1 M.out.1.2.1 M.out.1.2.2 ?_; intro v1 w1 q1 q2 _; obtain ⟨a1, c1, rfl⟩ := own_form q1; obtain ⟨y1, y2, y3, y4⟩ := L4.out w1 a1 c1 q1 q2; have Y1 := Lib.hid y1; have Y2 := Lib.hid y2; have Y3 := Lib.hid y3; have Y4 := Lib.hid y4; rw [Nat.zero_add]; clear M1 mm q1 q2 y1 y2 y3 y4)
      | (at_builtin; refine wpList_append_own _ rfl _ _ 47 rfl w.heap.size 73 i0 (.agg #[.bool false, .int .i64 0]) 2 16 Tryz.underlying47 hi hz0 hz1 hz2 rfl (by decide) _ m fl rfl Y1.out ⟨w1.heap.size, 0, none⟩ 2 2 [Value.bool true, .int .i64 (-4711), .bool true, .int .i64 (-4712)] rfl rfl Y2.out (by intro u hu; simp at hu; rcases hu with rfl | rfl | rfl | rfl <;> rfl) M.out.2.1 M.out.2.2 Y3.out ?_; intro v2 w2 q1 q2 _; obtain ⟨a2, c2, rfl⟩ := own_form q1; obtain ⟨g, rfl, cc, hE⟩ := FE.out w2 a2 c2 q1 (Y4.out w2 q2); clear q1 q2))
    go_ret
    exact hE.out
set_option maxRecDepth 100000 in
set_option maxHeartbeats 1600000 in
theorem at_any {w : World} {ra : Option Addr} {rn rc : Nat} {rs : List Rw} (h : RL w ra rn rs) (hrn : rn ≤ 9223372036854775807) (day : Int) : Calls Tryz.prog 17 #[.slice ra rn rc, .int .i64 day] w fun e w' => RwE w (if 0 ≤ day then rowsF rs day.toNat else []) e w' := by
  by_cases h0 : 0 ≤ day
  · rw [if_pos h0]
    obtain ⟨d, rfl⟩ : ∃ d : Nat, day = (d : Int) := ⟨day.toNat, by omega⟩
    rw [Int.toNat_natCast]
    by_cases hlt : d < rn
    · have mem : rs.getD d default ∈ rs := by simp [List.getD, h.1, hlt]
      obtain ⟨q1, q2, q3, q4⟩ := h.2.2.1 _ mem
      have KR := Lib.hid (row_any (cap := (rs.getD d default).cap) q1 q2 q1.2.1)
      have KR : RowKit.Hid (Calls Tryz.prog 31 #[.slice (rs.getD d default).a (rs.getD d default).n (rs.getD d default).cap] w fun e w' => RwE w (rowsF rs d) e w') := KR
      obtain ⟨x, o, hra, hx, hc⟩ : ∃ b o, ra = some ⟨b, o, none⟩ ∧ b < w.heap.size ∧ ∀ i, i < rn → w.cell? ⟨b, o + i, none⟩ = some (.slice (rs.getD i default).a (rs.getD i default).n (rs.getD i default).cap) := by
        rcases h.2.2.2 with q | q
        · omega
        · exact q
      have c0 := hc d hlt
      have k0 : ¬ (d : Int) < 0 := by omega
      have k1 : ¬ (rn : Int) ≤ (d : Int) := by omega
      have k2 : decide ((rn : Int) ≤ (d : Int)) = false := by simp; omega
      have k3 : (d : Int) < (rn : Int) := by omega
      have k4 : decide (rn ≤ d) = false := by simp; omega
      generalize rowsF rs d = rr at *
      generalize rs.getD d default = r0 at *
      obtain ⟨r1, r2, r3, r4⟩ := r0
      simp only at c0 KR
      subst hra
      clear q1 q2 q3 q4 hc h mem
      go_enter Tryz.func17, Tryz.ntmps17
      go_wp2_with (go_at_call 31; refine KR.out.mono ?_; intro e w1 hq; obtain ⟨b1, ax, nx, cx, rfl, hx⟩ := hq; have E := Lib.hid (p := RwE w rr (.returned (.slice ax nx cx)) w1) ⟨b1, ax, nx, cx, rfl, hx⟩; clear b1 hx)
      go_ret
      exact E.out
    · have e0 : rowsF rs d = [] := by
        unfold rowsF
        simp only [List.getD, List.getElem?_eq_none (by rw [h.1]; omega : rs.length ≤ d)]
        rfl
      have E := Lib.hid (p := RwE w (rowsF rs d) (.returned (.slice none 0 0)) w) ⟨Below.refl _ _, none, 0, 0, rfl, by rw [e0]; exact ⟨rfl, by omega, by simp, .inl rfl⟩, fun _ => ⟨rfl, rfl⟩, Nat.le_refl _, Nat.zero_le _, ⟨none, 0, by rw [e0]; rfl, .inl e0⟩⟩
      have k0 : ¬ (d : Int) < 0 := by omega
      have k1 : (rn : Int) ≤ (d : Int) := by omega
      clear h e0
      go_enter Tryz.func17, Tryz.ntmps17
      go_wp2
      go_ret
      exact E.out
  · rw [if_neg h0]
    have E := Lib.hid (p := RwE w [] (.returned (.slice none 0 0)) w) ⟨Below.refl _ _, none, 0, 0, rfl, ⟨rfl, by omega, by simp, .inl rfl⟩, fun _ => ⟨rfl, rfl⟩, Nat.le_refl _, Nat.zero_le _, ⟨none, 0, rfl, .inl rfl⟩⟩
    have k0 : day < 0 := by omega
    have k1 : decide (day < 0) = true := by simp; omega
    clear h
    go_enter Tryz.func17, Tryz.ntmps17
    go_wp2
    go_ret
    exact E.out
end Go.Proofs.YtpfjnnkjoabgbaaGreatDoor
