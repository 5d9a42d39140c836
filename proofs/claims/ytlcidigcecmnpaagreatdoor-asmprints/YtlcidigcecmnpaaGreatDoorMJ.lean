/-
  WALKS: the document's bound and none (made by gen_wcand.py).
-/
import Derived.Test.YtlcidigcecmnpaaGreatDoorMI
namespace Go.Proofs.YtlcidigcecmnpaaGreatDoor
open Go.RowKit
set_option linter.unusedVariables false
set_option linter.unusedSimpArgs false
def boundN (p : Pg) (o : Int) : Int := if o = 1 then p.pool.length else if o = 3 then p.names.length else if o = 28 then p.curs.length else if o = 4 ∨ o = 5 then p.cells else if o = 6 ∨ o = 7 then p.slots else 262144
theorem hi_lo {i : In} (h : i.okP) : 0 ≤ i.a ∧ i.a ≤ 262143 := by
  have h1 := h.1
  have h2 := h.2.1
  have h3 := h.2.2.1
  have h4 := h.2.2.2.1
  have hm := (tab_facts i.o.toNat (by omega)).2.1
  omega
theorem inB_bound {p : Pg} {i : In} (h : i.okP) : inB p i ↔ i.a < boundN p i.o := by
  obtain ⟨o, a, b⟩ := i
  have ho := hi_lo h
  unfold inB boundN
  simp only
  by_cases e1 : o = 1
  · subst e1; simp
  by_cases e3 : o = 3
  · subst e3; simp
  by_cases e28 : o = 28
  · subst e28; simp
  by_cases e4 : o = 4
  · subst e4; simp
  by_cases e5 : o = 5
  · subst e5; simp
  by_cases e6 : o = 6
  · subst e6; simp
  by_cases e7 : o = 7
  · subst e7; simp
  simp [e1, e3, e28, e4, e5, e6, e7]
  simp only at ho
  omega
theorem bound1_any {w : World} {p : Pg} : Calls Tryz.prog 46 #[p.agg, .int .i64 1] w fun e w' => e = .returned (.int .i64 (boundN p 1)) ∧ Below w.heap.size w w' := by
  have R := Lib.hid (p := boundN p 1 = p.pool.length) (by simp [boundN])
  rw [R.out]
  unfold Pg.agg
  obtain ⟨na, nc, names, ua, uc, curs, pa, pc, pool, hor, cells, slots, stack, da, dc, days⟩ := p
  clear R
  go_enter Tryz.func46, Tryz.ntmps46
  go_wp2
  go_ret
  exact ⟨rfl, allocBP w _⟩
theorem bound3_any {w : World} {p : Pg} : Calls Tryz.prog 46 #[p.agg, .int .i64 3] w fun e w' => e = .returned (.int .i64 (boundN p 3)) ∧ Below w.heap.size w w' := by
  have R := Lib.hid (p := boundN p 3 = p.names.length) (by simp [boundN])
  rw [R.out]
  unfold Pg.agg
  obtain ⟨na, nc, names, ua, uc, curs, pa, pc, pool, hor, cells, slots, stack, da, dc, days⟩ := p
  clear R
  go_enter Tryz.func46, Tryz.ntmps46
  go_wp2
  go_ret
  exact ⟨rfl, allocBP w _⟩
theorem bound28_any {w : World} {p : Pg} : Calls Tryz.prog 46 #[p.agg, .int .i64 28] w fun e w' => e = .returned (.int .i64 (boundN p 28)) ∧ Below w.heap.size w w' := by
  have R := Lib.hid (p := boundN p 28 = p.curs.length) (by simp [boundN])
  rw [R.out]
  unfold Pg.agg
  obtain ⟨na, nc, names, ua, uc, curs, pa, pc, pool, hor, cells, slots, stack, da, dc, days⟩ := p
  clear R
  go_enter Tryz.func46, Tryz.ntmps46
  go_wp2
  go_ret
  exact ⟨rfl, allocBP w _⟩
theorem bound4_any {w : World} {p : Pg} : Calls Tryz.prog 46 #[p.agg, .int .i64 4] w fun e w' => e = .returned (.int .i64 (boundN p 4)) ∧ Below w.heap.size w w' := by
  have R := Lib.hid (p := boundN p 4 = p.cells) (by simp [boundN])
  rw [R.out]
  unfold Pg.agg
  obtain ⟨na, nc, names, ua, uc, curs, pa, pc, pool, hor, cells, slots, stack, da, dc, days⟩ := p
  clear R
  go_enter Tryz.func46, Tryz.ntmps46
  go_wp2
  go_ret
  exact ⟨rfl, allocBP w _⟩
theorem bound5_any {w : World} {p : Pg} : Calls Tryz.prog 46 #[p.agg, .int .i64 5] w fun e w' => e = .returned (.int .i64 (boundN p 5)) ∧ Below w.heap.size w w' := by
  have R := Lib.hid (p := boundN p 5 = p.cells) (by simp [boundN])
  rw [R.out]
  unfold Pg.agg
  obtain ⟨na, nc, names, ua, uc, curs, pa, pc, pool, hor, cells, slots, stack, da, dc, days⟩ := p
  clear R
  go_enter Tryz.func46, Tryz.ntmps46
  go_wp2
  go_ret
  exact ⟨rfl, allocBP w _⟩
theorem bound6_any {w : World} {p : Pg} : Calls Tryz.prog 46 #[p.agg, .int .i64 6] w fun e w' => e = .returned (.int .i64 (boundN p 6)) ∧ Below w.heap.size w w' := by
  have R := Lib.hid (p := boundN p 6 = p.slots) (by simp [boundN])
  rw [R.out]
  unfold Pg.agg
  obtain ⟨na, nc, names, ua, uc, curs, pa, pc, pool, hor, cells, slots, stack, da, dc, days⟩ := p
  clear R
  go_enter Tryz.func46, Tryz.ntmps46
  go_wp2
  go_ret
  exact ⟨rfl, allocBP w _⟩
theorem bound7_any {w : World} {p : Pg} : Calls Tryz.prog 46 #[p.agg, .int .i64 7] w fun e w' => e = .returned (.int .i64 (boundN p 7)) ∧ Below w.heap.size w w' := by
  have R := Lib.hid (p := boundN p 7 = p.slots) (by simp [boundN])
  rw [R.out]
  unfold Pg.agg
  obtain ⟨na, nc, names, ua, uc, curs, pa, pc, pool, hor, cells, slots, stack, da, dc, days⟩ := p
  clear R
  go_enter Tryz.func46, Tryz.ntmps46
  go_wp2
  go_ret
  exact ⟨rfl, allocBP w _⟩
theorem boundE_any {w : World} {p : Pg} (k : Int) (n1 : k ≠ 1) (n3 : k ≠ 3) (n28 : k ≠ 28) (n4 : k ≠ 4) (n5 : k ≠ 5) (n6 : k ≠ 6) (n7 : k ≠ 7) : Calls Tryz.prog 46 #[p.agg, .int .i64 k] w fun e w' => e = .returned (.int .i64 (boundN p k)) ∧ Below w.heap.size w w' := by
  have R := Lib.hid (p := boundN p k = 262144) (by simp [boundN, n1, n3, n28, n4, n5, n6, n7])
  rw [R.out]
  unfold Pg.agg
  obtain ⟨na, nc, names, ua, uc, curs, pa, pc, pool, hor, cells, slots, stack, da, dc, days⟩ := p
  have b1 : (k == 1) = false := by simpa using n1
  have b3 : (k == 3) = false := by simpa using n3
  have b28 : (k == 28) = false := by simpa using n28
  have b4 : (k == 4) = false := by simpa using n4
  have b5 : (k == 5) = false := by simpa using n5
  have b6 : (k == 6) = false := by simpa using n6
  have b7 : (k == 7) = false := by simpa using n7
  clear R
  go_enter Tryz.func46, Tryz.ntmps46
  go_wp2
  go_ret
  exact ⟨rfl, allocBP w _⟩
theorem bound_any {w : World} {p : Pg} (k : Int) : Calls Tryz.prog 46 #[p.agg, .int .i64 k] w fun e w' => e = .returned (.int .i64 (boundN p k)) ∧ Below w.heap.size w w' := by
  by_cases e1 : k = 1
  · subst e1; exact bound1_any
  by_cases e3 : k = 3
  · subst e3; exact bound3_any
  by_cases e28 : k = 28
  · subst e28; exact bound28_any
  by_cases e4 : k = 4
  · subst e4; exact bound4_any
  by_cases e5 : k = 5
  · subst e5; exact bound5_any
  by_cases e6 : k = 6
  · subst e6; exact bound6_any
  by_cases e7 : k = 7
  · subst e7; exact bound7_any
  exact boundE_any k e1 e3 e28 e4 e5 e6 e7
/-- A row of counts that fills its block. -/
def RNo (W : World) (B g : Nat) (cs : List Int) : Prop := W.ownsRow B 3 1 (.slice (some ⟨g, 0, none⟩) cs.length cs.length) cs.length (intsP cs)
theorem RNo.at {W : World} {B g : Nat} {cs : List Int} (h : RNo W B g cs) (i : Nat) (hi : i < cs.length) : W.cell? ⟨g, i, none⟩ = some (.int .i64 (cs.getD i 0)) ∧ W.frozen? ⟨g, i, none⟩ = false := by
  refine ⟨own_cellsP h i _ ?_, World.ownsRow.frozenAt h i⟩
  have := intsP_at cs [] i hi
  simpa using this
theorem RNo.set {W : World} {B g : Nat} {cs : List Int} (h : RNo W B g cs) (i : Nat) (v : Int) : RNo (W.setCell ⟨g, i, none⟩ (.int .i64 v)) B g (cs.set i v) := by
  have := (World.ownsRow.stored h i (.int .i64 v)).1
  unfold RNo
  rw [List.length_set, show intsP (cs.set i v) = (intsP cs).set i (.int .i64 v) by simp [intsP, List.map_set]]
  exact this
theorem RNo.far {W W' : World} {B g : Nat} {cs : List Int} (h : RNo W B g cs) {x : Nat} (k : W.grownBy W' (some x)) (hx : x ≠ g) : RNo W' B g cs := row_farP h k (fun a q e e2 => by injection e with e; have e3 : g = q := Option.some.inj e2; omega)
theorem RNo.later {W W' : World} {B g : Nat} {cs : List Int} (h : RNo W B g cs) (k : Below W.heap.size W W') : RNo W' B g cs := row_farP h (gr_below k none) (fun a q e => by cases e)
/-- Counts and marks say the same. -/
def Rel (cs : List Int) (bs : List Bool) (M : Nat) : Prop := cs.length = bs.length ∧ ∀ j, j < cs.length → 0 ≤ cs.getD j 0 ∧ cs.getD j 0 ≤ M ∧ (cs.getD j 0 ≠ 0 ↔ bs.getD j false = true)
theorem Rel.wide {cs : List Int} {bs : List Bool} {M M' : Nat} (h : Rel cs bs M) (hm : M ≤ M') : Rel cs bs M' := ⟨h.1, fun j hj => ⟨(h.2 j hj).1, by have := (h.2 j hj).2.1; omega, (h.2 j hj).2.2⟩⟩
theorem Rel.set {cs : List Int} {bs : List Bool} {M : Nat} (h : Rel cs bs M) (i : Nat) (hi : i < cs.length) : Rel (cs.set i (cs.getD i 0 + 1)) (bs.set i true) (M + 1) := by
  refine ⟨by simp [h.1], fun j hj => ?_⟩
  rw [List.length_set] at hj
  have hj2 := h.2 j hj
  by_cases e : i = j
  · subst e
    have e1 : (cs.set i (cs.getD i 0 + 1)).getD i 0 = cs.getD i 0 + 1 := by simp [List.getD, hj]
    have e2 : (bs.set i true).getD i false = true := by simp [List.getD, show i < bs.length by rw [← h.1]; exact hj]
    rw [e1, e2]
    refine ⟨by omega, by omega, ⟨fun _ => rfl, fun _ => by omega⟩⟩
  · have e1 : (cs.set i (cs.getD i 0 + 1)).getD j 0 = cs.getD j 0 := by simp [List.getD, List.getElem?_set, e]
    have e2 : (bs.set i true).getD j false = bs.getD j false := by simp [List.getD, List.getElem?_set, e]
    rw [e1, e2]
    exact ⟨hj2.1, by omega, hj2.2.2⟩
theorem Rel.all {cs : List Int} {bs : List Bool} {M : Nat} (h : Rel cs bs M) : (∀ j, j < cs.length → cs.getD j 0 ≠ 0) ↔ bs.all id = true := by
  rw [List.all_eq_true]
  constructor
  · intro q b hb
    obtain ⟨i, hi, rfl⟩ := List.getElem_of_mem hb
    have := (h.2 i (by rw [h.1]; exact hi)).2.2.1 (q i (by rw [h.1]; exact hi))
    simpa [List.getD, hi] using this
  · intro q j hj
    refine (h.2 j hj).2.2.2 ?_
    have hb : j < bs.length := by rw [← h.1]; exact hj
    have := q bs[j] (List.getElem_mem hb)
    simpa [List.getD, hb] using this
set_option maxRecDepth 100000 in
theorem noneR_any {w : World} {B g : Nat} {cs : List Int} {bs : List Bool} {M : Nat} (h : RNo w B g cs) (hr : Rel cs bs M) (hn : cs.length ≤ 17592186043904) :
    Calls Tryz.prog 28 #[.slice (some ⟨g, 0, none⟩) cs.length cs.length] w fun e w' => e = .returned (.bool (!(bs.all id))) ∧ w' = w := by
  have H := Lib.hid (fun i hi => (h.at i hi).1)
  have RA := Lib.hid hr.all
  obtain ⟨n, hn'⟩ : ∃ n, cs.length = n := ⟨_, rfl⟩
  rw [hn'] at H hn RA ⊢
  clear h hn' hr
  go_enter Tryz.func28, Tryz.ntmps28
  go_wp2
  go_loopw [3] (fun t wr => ∃ k : Nat, k ≤ n ∧ t = .int .i64 (k : Int) ∧ RowKit.Hid (∀ i, i < k → cs.getD i 0 ≠ 0) ∧ w = wr) (fun t _ => n - (intOf t).toNat)
  case atStart => exact ⟨0, by omega, rfl, (fun i hi => absurd hi (by omega)), rfl⟩
  case round =>
    obtain ⟨k, hk, rfl, hE, rfl⟩ := hrel
    by_cases hlt : k < n
    · have c0 := H.out k hlt
      have kc : (k : Int) < (n : Int) := by omega
      by_cases e : cs.getD k 0 = 0
      · have NA := Lib.hid (p := bs.all id = false) (Bool.eq_false_iff.2 (fun q => RA.out.2 q k hlt e))
        rw [e] at c0
        clear hE e
        go_wp2
        go_ret
        exact ⟨by rw [NA.out]; rfl, rfl⟩
      · have NX := Lib.hid (p := ∀ i, i < k + 1 → cs.getD i 0 ≠ 0) (fun i hi => by
          rcases (show i < k ∨ i = k by omega) with r | r
          · exact hE.out i r
          · rw [r]; exact e)
        have eb : (cs.getD k 0 == 0) = false := by simpa using e
        generalize cs.getD k 0 = z at *
        clear hE e
        go_wp2
        go_roundw
        case rel => exact ⟨k + 1, by omega, by go_num, NX.out, by first | rfl | trivial⟩
        case measure => simp [intOf]; omega
    · obtain rfl : k = n := by omega
      have AA := Lib.hid (p := bs.all id = true) (RA.out.1 hE.out)
      clear hE
      go_wp2
      go_ret
      exact ⟨by rw [AA.out]; rfl, rfl⟩
end Go.Proofs.YtlcidigcecmnpaaGreatDoor

namespace Go.Proofs.YtlcidigcecmnpaaGreatDoor
open Go.RowKit
set_option linter.unusedVariables false
set_option linter.unusedSimpArgs false
/-- The counts, where they lie. -/
structure UCx (W : World) (p : Pg) (B ub gn gu gp : Nat) (cn cu cp : List Int) : Prop where
  box : BkP W ub #[.slice (some ⟨gn, 0, none⟩) p.names.length p.names.length, .slice (some ⟨gu, 0, none⟩) p.curs.length p.curs.length, .slice (some ⟨gp, 0, none⟩) p.pool.length p.pool.length] 63
  rn : RNo W B gn cn
  ru : RNo W B gu cu
  rp : RNo W B gp cp
  ln : cn.length = p.names.length
  lu : cu.length = p.curs.length
  lp : cp.length = p.pool.length
  ne : gn ≠ gu ∧ gn ≠ gp ∧ gu ≠ gp ∧ ub ≠ gn ∧ ub ≠ gu ∧ ub ≠ gp
  bb : B ≤ ub ∧ B ≤ gn ∧ B ≤ gu ∧ B ≤ gp
theorem UCx.later {W W' : World} {p : Pg} {B ub gn gu gp : Nat} {cn cu cp : List Int} (h : UCx W p B ub gn gu gp cn cu cp) (g : Below W.heap.size W W') : UCx W' p B ub gn gu gp cn cu cp :=
  ⟨h.box.laterP g, h.rn.later g, h.ru.later g, h.rp.later g, h.ln, h.lu, h.lp, h.ne, h.bb⟩
theorem UCx.setN {W : World} {p : Pg} {B ub gn gu gp : Nat} {cn cu cp : List Int} (h : UCx W p B ub gn gu gp cn cu cp) (i : Nat) (v : Int) : UCx (W.setCell ⟨gn, i, none⟩ (.int .i64 v)) p B ub gn gu gp (cn.set i v) cu cp :=
  ⟨box_set W gn i _ h.box h.ne.2.2.2.1, h.rn.set i v, h.ru.far (setCell_gr W gn i _) h.ne.1, h.rp.far (setCell_gr W gn i _) h.ne.2.1, by rw [List.length_set]; exact h.ln, h.lu, h.lp, h.ne, h.bb⟩
theorem UCx.setU {W : World} {p : Pg} {B ub gn gu gp : Nat} {cn cu cp : List Int} (h : UCx W p B ub gn gu gp cn cu cp) (i : Nat) (v : Int) : UCx (W.setCell ⟨gu, i, none⟩ (.int .i64 v)) p B ub gn gu gp cn (cu.set i v) cp :=
  ⟨box_set W gu i _ h.box h.ne.2.2.2.2.1, h.rn.far (setCell_gr W gu i _) (fun e => h.ne.1 e.symm), h.ru.set i v, h.rp.far (setCell_gr W gu i _) h.ne.2.2.1, h.ln, by rw [List.length_set]; exact h.lu, h.lp, h.ne, h.bb⟩
theorem UCx.setP {W : World} {p : Pg} {B ub gn gu gp : Nat} {cn cu cp : List Int} (h : UCx W p B ub gn gu gp cn cu cp) (i : Nat) (v : Int) : UCx (W.setCell ⟨gp, i, none⟩ (.int .i64 v)) p B ub gn gu gp cn cu (cp.set i v) :=
  ⟨box_set W gp i _ h.box h.ne.2.2.2.2.2, h.rn.far (setCell_gr W gp i _) (fun e => h.ne.2.1 e.symm), h.ru.far (setCell_gr W gp i _) (fun e => h.ne.2.2.1 e.symm), h.rp.set i v, h.ln, h.lu, by rw [List.length_set]; exact h.lp, h.ne, h.bb⟩
def UC (W : World) (p : Pg) (B ub gn gu gp : Nat) (bn bu bp : List Bool) (M : Nat) : Prop := ∃ cn cu cp, UCx W p B ub gn gu gp cn cu cp ∧ Rel cn bn M ∧ Rel cu bu M ∧ Rel cp bp M
theorem UC.later {W W' : World} {p : Pg} {B ub gn gu gp : Nat} {bn bu bp : List Bool} {M : Nat} (h : UC W p B ub gn gu gp bn bu bp M) (g : Below W.heap.size W W') : UC W' p B ub gn gu gp bn bu bp M := by
  obtain ⟨cn, cu, cp, h1, h2⟩ := h
  exact ⟨cn, cu, cp, h1.later g, h2⟩
/-- What is not a row of counts stays. -/
structure Fr (w W : World) (gn gu gp : Nat) : Prop where
  sz : w.heap.size ≤ W.heap.size
  blk : ∀ b, b < w.heap.size → b ≠ gn → b ≠ gu → b ≠ gp → W.heap[b]? = w.heap[b]?
theorem Fr.later {w W W' : World} {gn gu gp : Nat} (h : Fr w W gn gu gp) (g : Below W.heap.size W W') : Fr w W' gn gu gp :=
  ⟨Nat.le_trans h.sz g.size, fun b hb n1 n2 n3 => (g.block b (Nat.lt_of_lt_of_le hb h.sz)).trans (h.blk b hb n1 n2 n3)⟩
theorem Fr.set {w W : World} {gn gu gp : Nat} (h : Fr w W gn gu gp) (g i : Nat) (v : Value) (hg : g = gn ∨ g = gu ∨ g = gp) : Fr w (W.setCell ⟨g, i, none⟩ v) gn gu gp := by
  have G := setCell_gr W g i v
  exact ⟨Nat.le_trans h.sz G.size, fun b hb n1 n2 n3 => (G.block b (Nat.lt_of_lt_of_le hb h.sz) (fun e => by injection e with e; rcases hg with r | r | r <;> omega)).trans (h.blk b hb n1 n2 n3)⟩
/-- What code leaves. -/
structure TcR (w0 w : World) (p : Pg) (ub gn gu gp : Nat) (bn bu bp : List Bool) (M : Nat) (l : List In) (e : Ending) (w' : World) : Prop where
  say : ∃ b, e = .returned (.bool b) ∧ (b = true ↔ codeP p l) ∧ (b = true → UC w' p w0.heap.size ub gn gu gp (l.foldl (mkB 3) bn) (l.foldl (mkB 28) bu) (l.foldl (mkB 1) bp) (M + l.length))
  bel : Below w0.heap.size w0 w'
  fr : Fr w w' gn gu gp
theorem box_all3U {w : World} {x : Nat} {a b c : Value} {t : TypeId} (k : BkP w x #[a, b, c] t) : w.cell? ⟨x, 0, none⟩ = some a ∧ w.cell? ⟨x, 1, none⟩ = some b ∧ w.cell? ⟨x, 2, none⟩ = some c := box_all3P k
theorem bel_set {g : Nat} {w W : World} (b : Below w.heap.size w W) (i : Nat) (v : Value) (h : w.heap.size ≤ g) : Below w.heap.size w (W.setCell ⟨g, i, none⟩ v) := b.grown (setCell_gr W g i v) b.size (fun k e => by injection e with e; omega)
theorem wrap_cnt (z : Int) (h0 : 0 ≤ z) (h1 : z ≤ 9223372036854775806) : IntKind.i64.wrap (z + 1) = z + 1 := by simp [IntKind.wrap, IntKind.bits, IntKind.signed]; omega
set_option maxRecDepth 100000 in
set_option maxHeartbeats 20000000 in
theorem codeR_any (w0 w : World) (p : Pg) (ub gn gu gp : Nat) (bn bu bp : List Bool) (M : Nat) (a : Option Addr) (n c : Nat) (l : List In) (hU : UC w p w0.heap.size ub gn gu gp bn bu bp M) (hI : IR w0 a n c l) (hB : Below w0.heap.size w0 w) (hM : M ≤ 9000000000000000000) :
    Calls Tryz.prog 26 #[p.agg, .slice a n c, .pointer (some ⟨ub, 0, none⟩)] w fun e w' => TcR w0 w p ub gn gu gp bn bu bp M l e w' := by
  obtain ⟨_, l1, b1, _, r1⟩ := hI
  have R1 := Lib.hid r1
  have B0 := Lib.hid (hB.alloc hB.size p.box)
  have U0 := Lib.hid (hU.later (allocBP w p.box))
  have T0 := Lib.hid (p := BkP (w.alloc p.box) w.heap.size p.arr 26) (heapN _ _)
  have FX0 := Lib.hid (p := Fr w (w.alloc p.box) gn gu gp) ⟨(allocBP w p.box).size, fun b hb _ _ _ => (allocBP w p.box).block b hb⟩
  have GL := Lib.hid (p := gn < w.heap.size ∧ gu < w.heap.size ∧ gp < w.heap.size) (by obtain ⟨cn, cu, cp, hx, _⟩ := hU; exact ⟨(World.ownsRow.lt hx.rn gn rfl).2, (World.ownsRow.lt hx.ru gu rfl).2, (World.ownsRow.lt hx.rp gp rfl).2⟩)
  have kw : IntKind.i64.wrap ((n : Int) - 1) = (n : Int) - 1 := by simp [IntKind.wrap, IntKind.bits, IntKind.signed]; omega
  have KB := Lib.hid (fun k W => bound_any (w := W) (p := p) k)
  clear r1 hB hU
  unfold Pg.box at B0 U0 T0 FX0
  unfold Pg.arr at T0
  unfold Pg.agg at KB
  unfold Pg.agg
  by_cases h2 : n < 2
  · have d1 : (n : Int) < 2 := by omega
    have d2 : decide ((n : Int) < 2) = true := decide_eq_true d1
    have NC := Lib.hid (p := ¬ codeP p l) (fun q => by have := q.1; omega)
    obtain ⟨na, nc, names, ua, uc, curs, pa, pc, pool, hor, cells, slots, stack, da, dc, days⟩ := p
    simp only at B0 NC FX0
    go_enter Tryz.func26, Tryz.ntmps26
    go_wp2
    go_ret
    exact ⟨⟨false, rfl, ⟨(fun e => by cases e), fun q => absurd q NC.out⟩, (fun e => by cases e)⟩, B0.out, FX0.out⟩
  · have d1 : ¬ (n : Int) < 2 := by omega
    have d2 : decide ((n : Int) < 2) = false := decide_eq_false d1
    have CP := Lib.hid (p := (∀ k, k < n → insI p l k) → codeP p l) (fun q => ⟨by omega, fun k hk => q k (by omega)⟩)
    have CN := Lib.hid (p := ∀ k, k < n → ¬ insI p l k → ¬ codeP p l) (fun k hk hn q => hn (q.2 k (by omega)))
    obtain ⟨na, nc, names, ua, uc, curs, pa, pc, pool, hor, cells, slots, stack, da, dc, days⟩ := p
    simp only at B0 U0 T0 CP CN KB FX0
    go_enter Tryz.func26, Tryz.ntmps26
    go_wp2
    clear d1 d2
    go_loopw [7] (fun t wr => ∃ k : Nat, k ≤ n ∧ t = .int .i64 (k : Int) ∧ RowKit.Hid (∀ i, i < k → insI ⟨na, nc, names, ua, uc, curs, pa, pc, pool, hor, cells, slots, stack, da, dc, days⟩ l i) ∧ UC wr ⟨na, nc, names, ua, uc, curs, pa, pc, pool, hor, cells, slots, stack, da, dc, days⟩ w0.heap.size ub gn gu gp ((l.take k).foldl (mkB 3) bn) ((l.take k).foldl (mkB 28) bu) ((l.take k).foldl (mkB 1) bp) (M + k) ∧ Below w0.heap.size w0 wr ∧ BkP wr w.heap.size #[.slice na names.length nc, .slice ua curs.length uc, .slice pa pool.length pc, .int .i64 hor, .int .i64 cells, .int .i64 slots, .int .i64 stack, .slice da days.length dc] 26 ∧ Fr w wr gn gu gp) (fun t _ => n - (intOf t).toNat)
    case atStart => exact ⟨0, by omega, rfl, (fun i hi => absurd hi (by omega)), U0.out, B0.out, T0.out, FX0.out⟩
    case round =>
      clear U0 B0 T0 FX0
      rename World => wr
      obtain ⟨k, hk, rfl, hE, hU, hB, hT, hF⟩ := hrel
      have BB := Lib.hid hB
      have UU := Lib.hid hU
      by_cases hlt : k < n
      · obtain ⟨x, o, rfl, _, hc⟩ := (R1.out.later hB).oneP (by omega)
        have c0 := hc k hlt 0 (by omega)
        have c1 := hc k hlt 1 (by omega)
        have c2 := hc k hlt 2 (by omega)
        simp only [icell, Nat.add_zero, List.getD_cons_zero, List.getD_cons_succ] at c0 c1 c2
        have kc : (k : Int) < (n : Int) := by omega
        have II := Lib.hid (p := insI ⟨na, nc, names, ua, uc, curs, pa, pc, pool, hor, cells, slots, stack, da, dc, days⟩ l k ↔ ((l.getD k default).o = 0 ↔ k + 1 = n) ∧ (l.getD k default).okP ∧ inB ⟨na, nc, names, ua, uc, curs, pa, pc, pool, hor, cells, slots, stack, da, dc, days⟩ (l.getD k default)) (by unfold insI; rw [l1])
        have F3 := Lib.hid (foldl_next (mkB 3) bn l k (by omega))
        have F28 := Lib.hid (foldl_next (mkB 28) bu l k (by omega))
        have F1 := Lib.hid (foldl_next (mkB 1) bp l k (by omega))
        have CNk := Lib.hid (CN.out k hlt)
        have NX := Lib.hid (p := insI ⟨na, nc, names, ua, uc, curs, pa, pc, pool, hor, cells, slots, stack, da, dc, days⟩ l k → ∀ i, i < k + 1 → insI ⟨na, nc, names, ua, uc, curs, pa, pc, pool, hor, cells, slots, stack, da, dc, days⟩ l i) (fun e i hi => by
          rcases (show i < k ∨ i = k by omega) with r | r
          · exact hE.out i r
          · rw [r]; exact e)
        generalize l.getD k default = s at *
        obtain ⟨so, sx, sy⟩ := s
        simp only at c0 c1 c2 II F3 F28 F1
        have U1 := Lib.hid (hU.later (allocBP wr (.cells #[.int .i64 so, .int .i64 sx, .int .i64 sy] 37)))
        have B1 := Lib.hid (hB.alloc hB.size (.cells #[.int .i64 so, .int .i64 sx, .int .i64 sy] 37))
        have TT1 := Lib.hid (hT.laterP (allocBP wr (.cells #[.int .i64 so, .int .i64 sx, .int .i64 sy] 37)))
        have TI := Lib.hid (p := BkP (wr.alloc (.cells #[.int .i64 so, .int .i64 sx, .int .i64 sy] 37)) wr.heap.size #[.int .i64 so, .int .i64 sx, .int .i64 sy] 37) (heapN _ _)
        have KV := Lib.hid (fun W => refValid_any so sx sy W)
        have FX1 := Lib.hid (hF.later (allocBP wr (.cells #[.int .i64 so, .int .i64 sx, .int .i64 sy] 37)))
        clear hc hE hU hB hT hF
        by_cases e2 : (⟨so, sx, sy⟩ : In).okP
        · rw [okV_pos e2] at KV
          have SX := Lib.hid (p := 0 ≤ sx ∧ sx ≤ 262143) (hi_lo e2)
          have IBk := Lib.hid (inB_bound (p := ⟨na, nc, names, ua, uc, curs, pa, pc, pool, hor, cells, slots, stack, da, dc, days⟩) e2)
          simp only at IBk
          by_cases e1 : (so = 0 ↔ k + 1 = n)
          · obtain ⟨xn, rfl⟩ : ∃ xn : Nat, sx = (xn : Int) := ⟨sx.toNat, by have := SX.out; omega⟩
            have OKI := Lib.hid (p := inB ⟨na, nc, names, ua, uc, curs, pa, pc, pool, hor, cells, slots, stack, da, dc, days⟩ ⟨so, (xn : Int), sy⟩ → ∀ i, i < k + 1 → insI ⟨na, nc, names, ua, uc, curs, pa, pc, pool, hor, cells, slots, stack, da, dc, days⟩ l i) (fun z => NX.out (II.out.2 ⟨e1, e2, z⟩))
            have NOI := Lib.hid (p := ¬ inB ⟨na, nc, names, ua, uc, curs, pa, pc, pool, hor, cells, slots, stack, da, dc, days⟩ ⟨so, (xn : Int), sy⟩ → ¬ codeP ⟨na, nc, names, ua, uc, curs, pa, pc, pool, hor, cells, slots, stack, da, dc, days⟩ l) (fun z => CNk.out (fun y => z (II.out.1 y).2.2))
            clear e2
            by_cases q1 : so = 1
            · have MB := Lib.hid (p := mkB 3 ((l.take k).foldl (mkB 3) bn) ⟨so, (xn : Int), sy⟩ = ((l.take k).foldl (mkB 3) bn) ∧ mkB 28 ((l.take k).foldl (mkB 28) bu) ⟨so, (xn : Int), sy⟩ = ((l.take k).foldl (mkB 28) bu) ∧ mkB 1 ((l.take k).foldl (mkB 1) bp) ⟨so, (xn : Int), sy⟩ = ((l.take k).foldl (mkB 1) bp).set xn true) (by rw [q1]; simp [mkB])
              have BD := Lib.hid (p := boundN ⟨na, nc, names, ua, uc, curs, pa, pc, pool, hor, cells, slots, stack, da, dc, days⟩ so = (pool.length : Int)) (by rw [q1]; simp [boundN])
              have t1 : (so == 0) = false := by rw [q1]; rfl
              have t2 : ((k : Int) == (n : Int) - 1) = false := by
                have : ¬ k + 1 = n := fun z => by have := e1.2 z; omega
                simp; omega
              have s1 : (so == 1) = true := by rw [q1]; rfl
              have KBk := Lib.hid (KB.out so)
              rw [BD.out] at IBk KBk
              have KB := KBk
              obtain ⟨bd, hbd⟩ : ∃ bd : Int, bd = (pool.length : Int) := ⟨_, rfl⟩
              rw [← hbd] at IBk KB
              have BD := Lib.hid (p := (xn : Int) < bd → (xn : Int) < (pool.length : Int)) (fun z => by omega)
              clear e1 KBk hbd q1
              by_cases e3 : (xn : Int) < bd
              · have BD := Lib.hid (BD.out e3)
                have b0 : decide (bd ≤ (xn : Int)) = false := decide_eq_false (by omega)
                have d0 : ¬ bd ≤ (xn : Int) := by omega
                have OK := Lib.hid (OKI.out (IBk.out.2 (by omega)))
                go_wp2_with (go_at_call 45; refine (KV.out _).mono ?_; rintro e w2 ⟨rfl, h2⟩; have B2 := Lib.hid (B1.out.trans (h2.mono B1.out.size)); have U2 := Lib.hid (U1.out.later h2); have FX2 := Lib.hid (FX1.out.later h2); have X2 := Lib.hid (TI.out.laterP h2); have T2 := Lib.hid (TT1.out.laterP h2); obtain ⟨v0, v1, v2⟩ := box_all3P X2.out; obtain ⟨y0, y1, y2, y3, y4, y5, y6, y7⟩ := box_all8 (T2.out); clear h2)
                go_region_held3 (fun w' => w'.cell? ⟨wr.heap.size, 0, none⟩ = some (.int .i64 so) ∧ w'.cell? ⟨wr.heap.size, 1, none⟩ = some (.int .i64 (xn : Int)) ∧ w'.cell? ⟨w.heap.size, 0, none⟩ = some (.slice na names.length nc) ∧ w'.cell? ⟨w.heap.size, 1, none⟩ = some (.slice ua curs.length uc) ∧ w'.cell? ⟨w.heap.size, 2, none⟩ = some (.slice pa pool.length pc) ∧ w'.cell? ⟨w.heap.size, 3, none⟩ = some (.int .i64 hor) ∧ w'.cell? ⟨w.heap.size, 4, none⟩ = some (.int .i64 cells) ∧ w'.cell? ⟨w.heap.size, 5, none⟩ = some (.int .i64 slots) ∧ w'.cell? ⟨w.heap.size, 6, none⟩ = some (.int .i64 stack) ∧ w'.cell? ⟨w.heap.size, 7, none⟩ = some (.slice da days.length dc))
                  (refine ⟨?_, ?_, ?_, ?_, ?_, ?_, ?_, ?_, ?_, ?_⟩ <;> first | assumption | (go_simp; done))
                  (first
                  | (go_at_call 46; refine (KB.out _).mono ?_; rintro e w3 ⟨rfl, h2⟩; have h3 : Below w2.heap.size w2 w3 := ⟨h2.os, h2.tape, h2.output, h2.size, h2.block⟩; have B3 := Lib.hid (B2.out.trans (h3.mono B2.out.size)); have U3 := Lib.hid (U2.out.later h3); have FX3 := Lib.hid (FX2.out.later h3); have X3 := Lib.hid (X2.out.laterP h3); have T3 := Lib.hid (T2.out.laterP h3); obtain ⟨z0, z1, z2⟩ := box_all3P X3.out; obtain ⟨t0, t1, t2, t3, t4, t5, t6, t7⟩ := box_all8 (T3.out); clear h2 h3))
                obtain ⟨cn, cu, cp, hx, r1, r2, r3⟩ := U3.out
                have hl : xn < cp.length := by rw [hx.lp]; have := BD.out; simp only at this ⊢; omega
                have hl3 : xn < pool.length := by have := hx.lp; simp only at this; omega
                have hl4 : (xn : Int) < (pool.length : Int) := by omega
                obtain ⟨m0, m1⟩ := hx.rp.at xn hl
                obtain ⟨f0, f1, f2⟩ := box_all3U hx.box
                have cb := (r3.2 xn hl)
                have cw : IntKind.i64.wrap (cp.getD xn 0 + 1) = cp.getD xn 0 + 1 := wrap_cnt _ (by omega) (by have := cb.2.1; have := hM; omega)
                have U4 := Lib.hid (show UC (w3.setCell ⟨gp, xn, none⟩ (.int .i64 (cp.getD xn 0 + 1))).drew _ w0.heap.size ub gn gu gp _ _ _ (M + (k + 1)) from ⟨_, _, _, (hx.setP xn (cp.getD xn 0 + 1)).later (drew1B _), r1.wide (by omega), r2.wide (by omega), r3.set xn hl⟩)
                have B4 := Lib.hid ((bel_set B3.out xn (.int .i64 (cp.getD xn 0 + 1)) hx.bb.2.2.2).drew)
                have T4 := Lib.hid ((T3.out.other gp xn (.int .i64 (cp.getD xn 0 + 1)) (by have := GL.out.2.2; omega)).laterP (drew1B _))
                have FX4 := Lib.hid ((FX3.out.set gp xn (.int .i64 (cp.getD xn 0 + 1)) (by simp)).later (drew1B _))
                generalize cp.getD xn 0 = cv at *
                clear hx r1 r2 r3 cb
                go_wp2
                go_region
                all_goals
                  go_wp2
                  go_roundw
                  case rel =>
                    refine ⟨k + 1, by omega, by go_num, OK.out, ?_, B4.out, T4.out, FX4.out⟩
                    rw [F3.out, F28.out, F1.out, MB.out.1, MB.out.2.1, MB.out.2.2]
                    exact U4.out
                  case measure => simp [intOf]; omega
              · have b0 : decide (bd ≤ (xn : Int)) = true := decide_eq_true (by omega)
                have d0 : bd ≤ (xn : Int) := by omega
                have NO := Lib.hid (NOI.out (fun z => by have := IBk.out.1 z; omega))
                go_wp2_with (go_at_call 45; refine (KV.out _).mono ?_; rintro e w2 ⟨rfl, h2⟩; have B2 := Lib.hid (B1.out.trans (h2.mono B1.out.size)); have U2 := Lib.hid (U1.out.later h2); have FX2 := Lib.hid (FX1.out.later h2); have X2 := Lib.hid (TI.out.laterP h2); have T2 := Lib.hid (TT1.out.laterP h2); obtain ⟨v0, v1, v2⟩ := box_all3P X2.out; obtain ⟨y0, y1, y2, y3, y4, y5, y6, y7⟩ := box_all8 (T2.out); clear h2)
                go_region_held3 (fun w' => w'.cell? ⟨wr.heap.size, 0, none⟩ = some (.int .i64 so) ∧ w'.cell? ⟨wr.heap.size, 1, none⟩ = some (.int .i64 (xn : Int)) ∧ w'.cell? ⟨w.heap.size, 0, none⟩ = some (.slice na names.length nc) ∧ w'.cell? ⟨w.heap.size, 1, none⟩ = some (.slice ua curs.length uc) ∧ w'.cell? ⟨w.heap.size, 2, none⟩ = some (.slice pa pool.length pc) ∧ w'.cell? ⟨w.heap.size, 3, none⟩ = some (.int .i64 hor) ∧ w'.cell? ⟨w.heap.size, 4, none⟩ = some (.int .i64 cells) ∧ w'.cell? ⟨w.heap.size, 5, none⟩ = some (.int .i64 slots) ∧ w'.cell? ⟨w.heap.size, 6, none⟩ = some (.int .i64 stack) ∧ w'.cell? ⟨w.heap.size, 7, none⟩ = some (.slice da days.length dc))
                  (refine ⟨?_, ?_, ?_, ?_, ?_, ?_, ?_, ?_, ?_, ?_⟩ <;> first | assumption | (go_simp; done))
                  (first
                  | (go_at_call 46; refine (KB.out _).mono ?_; rintro e w3 ⟨rfl, h2⟩; have h3 : Below w2.heap.size w2 w3 := ⟨h2.os, h2.tape, h2.output, h2.size, h2.block⟩; have B3 := Lib.hid (B2.out.trans (h3.mono B2.out.size)); have U3 := Lib.hid (U2.out.later h3); have FX3 := Lib.hid (FX2.out.later h3); have X3 := Lib.hid (X2.out.laterP h3); have T3 := Lib.hid (T2.out.laterP h3); obtain ⟨z0, z1, z2⟩ := box_all3P X3.out; obtain ⟨t0, t1, t2, t3, t4, t5, t6, t7⟩ := box_all8 (T3.out); clear h2 h3))
                go_wp2
                go_ret
                exact ⟨⟨false, rfl, ⟨(fun e => by cases e), fun z => absurd z NO.out⟩, (fun e => by cases e)⟩, B3.out, FX3.out⟩
            by_cases q3 : so = 3
            · have MB := Lib.hid (p := mkB 3 ((l.take k).foldl (mkB 3) bn) ⟨so, (xn : Int), sy⟩ = ((l.take k).foldl (mkB 3) bn).set xn true ∧ mkB 28 ((l.take k).foldl (mkB 28) bu) ⟨so, (xn : Int), sy⟩ = ((l.take k).foldl (mkB 28) bu) ∧ mkB 1 ((l.take k).foldl (mkB 1) bp) ⟨so, (xn : Int), sy⟩ = ((l.take k).foldl (mkB 1) bp)) (by rw [q3]; simp [mkB])
              have BD := Lib.hid (p := boundN ⟨na, nc, names, ua, uc, curs, pa, pc, pool, hor, cells, slots, stack, da, dc, days⟩ so = (names.length : Int)) (by rw [q3]; simp [boundN])
              have t1 : (so == 0) = false := by rw [q3]; rfl
              have t2 : ((k : Int) == (n : Int) - 1) = false := by
                have : ¬ k + 1 = n := fun z => by have := e1.2 z; omega
                simp; omega
              have s1 : (so == 1) = false := by rw [q3]; rfl
              have s3 : (so == 3) = true := by rw [q3]; rfl
              have KBk := Lib.hid (KB.out so)
              rw [BD.out] at IBk KBk
              have KB := KBk
              obtain ⟨bd, hbd⟩ : ∃ bd : Int, bd = (names.length : Int) := ⟨_, rfl⟩
              rw [← hbd] at IBk KB
              have BD := Lib.hid (p := (xn : Int) < bd → (xn : Int) < (names.length : Int)) (fun z => by omega)
              clear e1 KBk hbd q3
              by_cases e3 : (xn : Int) < bd
              · have BD := Lib.hid (BD.out e3)
                have b0 : decide (bd ≤ (xn : Int)) = false := decide_eq_false (by omega)
                have d0 : ¬ bd ≤ (xn : Int) := by omega
                have OK := Lib.hid (OKI.out (IBk.out.2 (by omega)))
                go_wp2_with (go_at_call 45; refine (KV.out _).mono ?_; rintro e w2 ⟨rfl, h2⟩; have B2 := Lib.hid (B1.out.trans (h2.mono B1.out.size)); have U2 := Lib.hid (U1.out.later h2); have FX2 := Lib.hid (FX1.out.later h2); have X2 := Lib.hid (TI.out.laterP h2); have T2 := Lib.hid (TT1.out.laterP h2); obtain ⟨v0, v1, v2⟩ := box_all3P X2.out; obtain ⟨y0, y1, y2, y3, y4, y5, y6, y7⟩ := box_all8 (T2.out); clear h2)
                go_region_held3 (fun w' => w'.cell? ⟨wr.heap.size, 0, none⟩ = some (.int .i64 so) ∧ w'.cell? ⟨wr.heap.size, 1, none⟩ = some (.int .i64 (xn : Int)) ∧ w'.cell? ⟨w.heap.size, 0, none⟩ = some (.slice na names.length nc) ∧ w'.cell? ⟨w.heap.size, 1, none⟩ = some (.slice ua curs.length uc) ∧ w'.cell? ⟨w.heap.size, 2, none⟩ = some (.slice pa pool.length pc) ∧ w'.cell? ⟨w.heap.size, 3, none⟩ = some (.int .i64 hor) ∧ w'.cell? ⟨w.heap.size, 4, none⟩ = some (.int .i64 cells) ∧ w'.cell? ⟨w.heap.size, 5, none⟩ = some (.int .i64 slots) ∧ w'.cell? ⟨w.heap.size, 6, none⟩ = some (.int .i64 stack) ∧ w'.cell? ⟨w.heap.size, 7, none⟩ = some (.slice da days.length dc))
                  (refine ⟨?_, ?_, ?_, ?_, ?_, ?_, ?_, ?_, ?_, ?_⟩ <;> first | assumption | (go_simp; done))
                  (first
                  | (go_at_call 46; refine (KB.out _).mono ?_; rintro e w3 ⟨rfl, h2⟩; have h3 : Below w2.heap.size w2 w3 := ⟨h2.os, h2.tape, h2.output, h2.size, h2.block⟩; have B3 := Lib.hid (B2.out.trans (h3.mono B2.out.size)); have U3 := Lib.hid (U2.out.later h3); have FX3 := Lib.hid (FX2.out.later h3); have X3 := Lib.hid (X2.out.laterP h3); have T3 := Lib.hid (T2.out.laterP h3); obtain ⟨z0, z1, z2⟩ := box_all3P X3.out; obtain ⟨t0, t1, t2, t3, t4, t5, t6, t7⟩ := box_all8 (T3.out); clear h2 h3))
                obtain ⟨cn, cu, cp, hx, r1, r2, r3⟩ := U3.out
                have hl : xn < cn.length := by rw [hx.ln]; have := BD.out; simp only at this ⊢; omega
                have hl3 : xn < names.length := by have := hx.ln; simp only at this; omega
                have hl4 : (xn : Int) < (names.length : Int) := by omega
                obtain ⟨m0, m1⟩ := hx.rn.at xn hl
                obtain ⟨f0, f1, f2⟩ := box_all3U hx.box
                have cb := (r1.2 xn hl)
                have cw : IntKind.i64.wrap (cn.getD xn 0 + 1) = cn.getD xn 0 + 1 := wrap_cnt _ (by omega) (by have := cb.2.1; have := hM; omega)
                have U4 := Lib.hid (show UC (w3.setCell ⟨gn, xn, none⟩ (.int .i64 (cn.getD xn 0 + 1))).drew _ w0.heap.size ub gn gu gp _ _ _ (M + (k + 1)) from ⟨_, _, _, (hx.setN xn (cn.getD xn 0 + 1)).later (drew1B _), r1.set xn hl, r2.wide (by omega), r3.wide (by omega)⟩)
                have B4 := Lib.hid ((bel_set B3.out xn (.int .i64 (cn.getD xn 0 + 1)) hx.bb.2.1).drew)
                have T4 := Lib.hid ((T3.out.other gn xn (.int .i64 (cn.getD xn 0 + 1)) (by have := GL.out.1; omega)).laterP (drew1B _))
                have FX4 := Lib.hid ((FX3.out.set gn xn (.int .i64 (cn.getD xn 0 + 1)) (by simp)).later (drew1B _))
                generalize cn.getD xn 0 = cv at *
                clear hx r1 r2 r3 cb
                go_wp2
                go_region
                all_goals
                  go_wp2
                  go_roundw
                  case rel =>
                    refine ⟨k + 1, by omega, by go_num, OK.out, ?_, B4.out, T4.out, FX4.out⟩
                    rw [F3.out, F28.out, F1.out, MB.out.1, MB.out.2.1, MB.out.2.2]
                    exact U4.out
                  case measure => simp [intOf]; omega
              · have b0 : decide (bd ≤ (xn : Int)) = true := decide_eq_true (by omega)
                have d0 : bd ≤ (xn : Int) := by omega
                have NO := Lib.hid (NOI.out (fun z => by have := IBk.out.1 z; omega))
                go_wp2_with (go_at_call 45; refine (KV.out _).mono ?_; rintro e w2 ⟨rfl, h2⟩; have B2 := Lib.hid (B1.out.trans (h2.mono B1.out.size)); have U2 := Lib.hid (U1.out.later h2); have FX2 := Lib.hid (FX1.out.later h2); have X2 := Lib.hid (TI.out.laterP h2); have T2 := Lib.hid (TT1.out.laterP h2); obtain ⟨v0, v1, v2⟩ := box_all3P X2.out; obtain ⟨y0, y1, y2, y3, y4, y5, y6, y7⟩ := box_all8 (T2.out); clear h2)
                go_region_held3 (fun w' => w'.cell? ⟨wr.heap.size, 0, none⟩ = some (.int .i64 so) ∧ w'.cell? ⟨wr.heap.size, 1, none⟩ = some (.int .i64 (xn : Int)) ∧ w'.cell? ⟨w.heap.size, 0, none⟩ = some (.slice na names.length nc) ∧ w'.cell? ⟨w.heap.size, 1, none⟩ = some (.slice ua curs.length uc) ∧ w'.cell? ⟨w.heap.size, 2, none⟩ = some (.slice pa pool.length pc) ∧ w'.cell? ⟨w.heap.size, 3, none⟩ = some (.int .i64 hor) ∧ w'.cell? ⟨w.heap.size, 4, none⟩ = some (.int .i64 cells) ∧ w'.cell? ⟨w.heap.size, 5, none⟩ = some (.int .i64 slots) ∧ w'.cell? ⟨w.heap.size, 6, none⟩ = some (.int .i64 stack) ∧ w'.cell? ⟨w.heap.size, 7, none⟩ = some (.slice da days.length dc))
                  (refine ⟨?_, ?_, ?_, ?_, ?_, ?_, ?_, ?_, ?_, ?_⟩ <;> first | assumption | (go_simp; done))
                  (first
                  | (go_at_call 46; refine (KB.out _).mono ?_; rintro e w3 ⟨rfl, h2⟩; have h3 : Below w2.heap.size w2 w3 := ⟨h2.os, h2.tape, h2.output, h2.size, h2.block⟩; have B3 := Lib.hid (B2.out.trans (h3.mono B2.out.size)); have U3 := Lib.hid (U2.out.later h3); have FX3 := Lib.hid (FX2.out.later h3); have X3 := Lib.hid (X2.out.laterP h3); have T3 := Lib.hid (T2.out.laterP h3); obtain ⟨z0, z1, z2⟩ := box_all3P X3.out; obtain ⟨t0, t1, t2, t3, t4, t5, t6, t7⟩ := box_all8 (T3.out); clear h2 h3))
                go_wp2
                go_ret
                exact ⟨⟨false, rfl, ⟨(fun e => by cases e), fun z => absurd z NO.out⟩, (fun e => by cases e)⟩, B3.out, FX3.out⟩
            by_cases q28 : so = 28
            · have MB := Lib.hid (p := mkB 3 ((l.take k).foldl (mkB 3) bn) ⟨so, (xn : Int), sy⟩ = ((l.take k).foldl (mkB 3) bn) ∧ mkB 28 ((l.take k).foldl (mkB 28) bu) ⟨so, (xn : Int), sy⟩ = ((l.take k).foldl (mkB 28) bu).set xn true ∧ mkB 1 ((l.take k).foldl (mkB 1) bp) ⟨so, (xn : Int), sy⟩ = ((l.take k).foldl (mkB 1) bp)) (by rw [q28]; simp [mkB])
              have BD := Lib.hid (p := boundN ⟨na, nc, names, ua, uc, curs, pa, pc, pool, hor, cells, slots, stack, da, dc, days⟩ so = (curs.length : Int)) (by rw [q28]; simp [boundN])
              have t1 : (so == 0) = false := by rw [q28]; rfl
              have t2 : ((k : Int) == (n : Int) - 1) = false := by
                have : ¬ k + 1 = n := fun z => by have := e1.2 z; omega
                simp; omega
              have s1 : (so == 1) = false := by rw [q28]; rfl
              have s3 : (so == 3) = false := by rw [q28]; rfl
              have s28 : (so == 28) = true := by rw [q28]; rfl
              have KBk := Lib.hid (KB.out so)
              rw [BD.out] at IBk KBk
              have KB := KBk
              obtain ⟨bd, hbd⟩ : ∃ bd : Int, bd = (curs.length : Int) := ⟨_, rfl⟩
              rw [← hbd] at IBk KB
              have BD := Lib.hid (p := (xn : Int) < bd → (xn : Int) < (curs.length : Int)) (fun z => by omega)
              clear e1 KBk hbd q28
              by_cases e3 : (xn : Int) < bd
              · have BD := Lib.hid (BD.out e3)
                have b0 : decide (bd ≤ (xn : Int)) = false := decide_eq_false (by omega)
                have d0 : ¬ bd ≤ (xn : Int) := by omega
                have OK := Lib.hid (OKI.out (IBk.out.2 (by omega)))
                go_wp2_with (go_at_call 45; refine (KV.out _).mono ?_; rintro e w2 ⟨rfl, h2⟩; have B2 := Lib.hid (B1.out.trans (h2.mono B1.out.size)); have U2 := Lib.hid (U1.out.later h2); have FX2 := Lib.hid (FX1.out.later h2); have X2 := Lib.hid (TI.out.laterP h2); have T2 := Lib.hid (TT1.out.laterP h2); obtain ⟨v0, v1, v2⟩ := box_all3P X2.out; obtain ⟨y0, y1, y2, y3, y4, y5, y6, y7⟩ := box_all8 (T2.out); clear h2)
                go_region_held3 (fun w' => w'.cell? ⟨wr.heap.size, 0, none⟩ = some (.int .i64 so) ∧ w'.cell? ⟨wr.heap.size, 1, none⟩ = some (.int .i64 (xn : Int)) ∧ w'.cell? ⟨w.heap.size, 0, none⟩ = some (.slice na names.length nc) ∧ w'.cell? ⟨w.heap.size, 1, none⟩ = some (.slice ua curs.length uc) ∧ w'.cell? ⟨w.heap.size, 2, none⟩ = some (.slice pa pool.length pc) ∧ w'.cell? ⟨w.heap.size, 3, none⟩ = some (.int .i64 hor) ∧ w'.cell? ⟨w.heap.size, 4, none⟩ = some (.int .i64 cells) ∧ w'.cell? ⟨w.heap.size, 5, none⟩ = some (.int .i64 slots) ∧ w'.cell? ⟨w.heap.size, 6, none⟩ = some (.int .i64 stack) ∧ w'.cell? ⟨w.heap.size, 7, none⟩ = some (.slice da days.length dc))
                  (refine ⟨?_, ?_, ?_, ?_, ?_, ?_, ?_, ?_, ?_, ?_⟩ <;> first | assumption | (go_simp; done))
                  (first
                  | (go_at_call 46; refine (KB.out _).mono ?_; rintro e w3 ⟨rfl, h2⟩; have h3 : Below w2.heap.size w2 w3 := ⟨h2.os, h2.tape, h2.output, h2.size, h2.block⟩; have B3 := Lib.hid (B2.out.trans (h3.mono B2.out.size)); have U3 := Lib.hid (U2.out.later h3); have FX3 := Lib.hid (FX2.out.later h3); have X3 := Lib.hid (X2.out.laterP h3); have T3 := Lib.hid (T2.out.laterP h3); obtain ⟨z0, z1, z2⟩ := box_all3P X3.out; obtain ⟨t0, t1, t2, t3, t4, t5, t6, t7⟩ := box_all8 (T3.out); clear h2 h3))
                obtain ⟨cn, cu, cp, hx, r1, r2, r3⟩ := U3.out
                have hl : xn < cu.length := by rw [hx.lu]; have := BD.out; simp only at this ⊢; omega
                have hl3 : xn < curs.length := by have := hx.lu; simp only at this; omega
                have hl4 : (xn : Int) < (curs.length : Int) := by omega
                obtain ⟨m0, m1⟩ := hx.ru.at xn hl
                obtain ⟨f0, f1, f2⟩ := box_all3U hx.box
                have cb := (r2.2 xn hl)
                have cw : IntKind.i64.wrap (cu.getD xn 0 + 1) = cu.getD xn 0 + 1 := wrap_cnt _ (by omega) (by have := cb.2.1; have := hM; omega)
                have U4 := Lib.hid (show UC (w3.setCell ⟨gu, xn, none⟩ (.int .i64 (cu.getD xn 0 + 1))).drew _ w0.heap.size ub gn gu gp _ _ _ (M + (k + 1)) from ⟨_, _, _, (hx.setU xn (cu.getD xn 0 + 1)).later (drew1B _), r1.wide (by omega), r2.set xn hl, r3.wide (by omega)⟩)
                have B4 := Lib.hid ((bel_set B3.out xn (.int .i64 (cu.getD xn 0 + 1)) hx.bb.2.2.1).drew)
                have T4 := Lib.hid ((T3.out.other gu xn (.int .i64 (cu.getD xn 0 + 1)) (by have := GL.out.2.1; omega)).laterP (drew1B _))
                have FX4 := Lib.hid ((FX3.out.set gu xn (.int .i64 (cu.getD xn 0 + 1)) (by simp)).later (drew1B _))
                generalize cu.getD xn 0 = cv at *
                clear hx r1 r2 r3 cb
                go_wp2
                go_region
                all_goals
                  go_wp2
                  go_roundw
                  case rel =>
                    refine ⟨k + 1, by omega, by go_num, OK.out, ?_, B4.out, T4.out, FX4.out⟩
                    rw [F3.out, F28.out, F1.out, MB.out.1, MB.out.2.1, MB.out.2.2]
                    exact U4.out
                  case measure => simp [intOf]; omega
              · have b0 : decide (bd ≤ (xn : Int)) = true := decide_eq_true (by omega)
                have d0 : bd ≤ (xn : Int) := by omega
                have NO := Lib.hid (NOI.out (fun z => by have := IBk.out.1 z; omega))
                go_wp2_with (go_at_call 45; refine (KV.out _).mono ?_; rintro e w2 ⟨rfl, h2⟩; have B2 := Lib.hid (B1.out.trans (h2.mono B1.out.size)); have U2 := Lib.hid (U1.out.later h2); have FX2 := Lib.hid (FX1.out.later h2); have X2 := Lib.hid (TI.out.laterP h2); have T2 := Lib.hid (TT1.out.laterP h2); obtain ⟨v0, v1, v2⟩ := box_all3P X2.out; obtain ⟨y0, y1, y2, y3, y4, y5, y6, y7⟩ := box_all8 (T2.out); clear h2)
                go_region_held3 (fun w' => w'.cell? ⟨wr.heap.size, 0, none⟩ = some (.int .i64 so) ∧ w'.cell? ⟨wr.heap.size, 1, none⟩ = some (.int .i64 (xn : Int)) ∧ w'.cell? ⟨w.heap.size, 0, none⟩ = some (.slice na names.length nc) ∧ w'.cell? ⟨w.heap.size, 1, none⟩ = some (.slice ua curs.length uc) ∧ w'.cell? ⟨w.heap.size, 2, none⟩ = some (.slice pa pool.length pc) ∧ w'.cell? ⟨w.heap.size, 3, none⟩ = some (.int .i64 hor) ∧ w'.cell? ⟨w.heap.size, 4, none⟩ = some (.int .i64 cells) ∧ w'.cell? ⟨w.heap.size, 5, none⟩ = some (.int .i64 slots) ∧ w'.cell? ⟨w.heap.size, 6, none⟩ = some (.int .i64 stack) ∧ w'.cell? ⟨w.heap.size, 7, none⟩ = some (.slice da days.length dc))
                  (refine ⟨?_, ?_, ?_, ?_, ?_, ?_, ?_, ?_, ?_, ?_⟩ <;> first | assumption | (go_simp; done))
                  (first
                  | (go_at_call 46; refine (KB.out _).mono ?_; rintro e w3 ⟨rfl, h2⟩; have h3 : Below w2.heap.size w2 w3 := ⟨h2.os, h2.tape, h2.output, h2.size, h2.block⟩; have B3 := Lib.hid (B2.out.trans (h3.mono B2.out.size)); have U3 := Lib.hid (U2.out.later h3); have FX3 := Lib.hid (FX2.out.later h3); have X3 := Lib.hid (X2.out.laterP h3); have T3 := Lib.hid (T2.out.laterP h3); obtain ⟨z0, z1, z2⟩ := box_all3P X3.out; obtain ⟨t0, t1, t2, t3, t4, t5, t6, t7⟩ := box_all8 (T3.out); clear h2 h3))
                go_wp2
                go_ret
                exact ⟨⟨false, rfl, ⟨(fun e => by cases e), fun z => absurd z NO.out⟩, (fun e => by cases e)⟩, B3.out, FX3.out⟩
            have MB := Lib.hid (p := mkB 3 ((l.take k).foldl (mkB 3) bn) ⟨so, (xn : Int), sy⟩ = ((l.take k).foldl (mkB 3) bn) ∧ mkB 28 ((l.take k).foldl (mkB 28) bu) ⟨so, (xn : Int), sy⟩ = ((l.take k).foldl (mkB 28) bu) ∧ mkB 1 ((l.take k).foldl (mkB 1) bp) ⟨so, (xn : Int), sy⟩ = ((l.take k).foldl (mkB 1) bp)) (by simp [mkB, q1, q3, q28])
            have s1 : (so == 1) = false := by simpa using q1
            have s3 : (so == 3) = false := by simpa using q3
            have s28 : (so == 28) = false := by simpa using q28
            have KBk := Lib.hid (KB.out so)
            generalize boundN ⟨na, nc, names, ua, uc, curs, pa, pc, pool, hor, cells, slots, stack, da, dc, days⟩ so = bd at IBk KBk
            have KB := KBk
            clear KBk q1 q3 q28
            by_cases q0 : so = 0
            · have t1 : (so == 0) = true := by simpa using q0
              have t2 : ((k : Int) == (n : Int) - 1) = true := by have := e1.1 q0; simp; omega
              clear e1 q0
              by_cases e3 : (xn : Int) < bd
              · have b0 : decide (bd ≤ (xn : Int)) = false := decide_eq_false (by omega)
                have d0 : ¬ bd ≤ (xn : Int) := by omega
                have OK := Lib.hid (OKI.out (IBk.out.2 (by omega)))
                go_wp2_with (go_at_call 45; refine (KV.out _).mono ?_; rintro e w2 ⟨rfl, h2⟩; have B2 := Lib.hid (B1.out.trans (h2.mono B1.out.size)); have U2 := Lib.hid (U1.out.later h2); have FX2 := Lib.hid (FX1.out.later h2); have X2 := Lib.hid (TI.out.laterP h2); have T2 := Lib.hid (TT1.out.laterP h2); obtain ⟨v0, v1, v2⟩ := box_all3P X2.out; obtain ⟨y0, y1, y2, y3, y4, y5, y6, y7⟩ := box_all8 (T2.out); clear h2)
                go_region_held3 (fun w' => w'.cell? ⟨wr.heap.size, 0, none⟩ = some (.int .i64 so) ∧ w'.cell? ⟨wr.heap.size, 1, none⟩ = some (.int .i64 (xn : Int)) ∧ w'.cell? ⟨w.heap.size, 0, none⟩ = some (.slice na names.length nc) ∧ w'.cell? ⟨w.heap.size, 1, none⟩ = some (.slice ua curs.length uc) ∧ w'.cell? ⟨w.heap.size, 2, none⟩ = some (.slice pa pool.length pc) ∧ w'.cell? ⟨w.heap.size, 3, none⟩ = some (.int .i64 hor) ∧ w'.cell? ⟨w.heap.size, 4, none⟩ = some (.int .i64 cells) ∧ w'.cell? ⟨w.heap.size, 5, none⟩ = some (.int .i64 slots) ∧ w'.cell? ⟨w.heap.size, 6, none⟩ = some (.int .i64 stack) ∧ w'.cell? ⟨w.heap.size, 7, none⟩ = some (.slice da days.length dc))
                  (refine ⟨?_, ?_, ?_, ?_, ?_, ?_, ?_, ?_, ?_, ?_⟩ <;> first | assumption | (go_simp; done))
                  (first
                  | (go_at_call 46; refine (KB.out _).mono ?_; rintro e w3 ⟨rfl, h2⟩; have h3 : Below w2.heap.size w2 w3 := ⟨h2.os, h2.tape, h2.output, h2.size, h2.block⟩; have B3 := Lib.hid (B2.out.trans (h3.mono B2.out.size)); have U3 := Lib.hid (U2.out.later h3); have FX3 := Lib.hid (FX2.out.later h3); have X3 := Lib.hid (X2.out.laterP h3); have T3 := Lib.hid (T2.out.laterP h3); obtain ⟨z0, z1, z2⟩ := box_all3P X3.out; obtain ⟨t0, t1, t2, t3, t4, t5, t6, t7⟩ := box_all8 (T3.out); clear h2 h3))
                go_wp2
                go_roundw
                case rel =>
                  refine ⟨k + 1, by omega, by go_num, OK.out, ?_, B3.out, T3.out, FX3.out⟩
                  rw [F3.out, F28.out, F1.out, MB.out.1, MB.out.2.1, MB.out.2.2]
                  obtain ⟨cn, cu, cp, hx, r1, r2, r3⟩ := U3.out
                  exact ⟨cn, cu, cp, hx, r1.wide (by omega), r2.wide (by omega), r3.wide (by omega)⟩
                case measure => simp [intOf]; omega
              · have b0 : decide (bd ≤ (xn : Int)) = true := decide_eq_true (by omega)
                have d0 : bd ≤ (xn : Int) := by omega
                have NO := Lib.hid (NOI.out (fun z => by have := IBk.out.1 z; omega))
                go_wp2_with (go_at_call 45; refine (KV.out _).mono ?_; rintro e w2 ⟨rfl, h2⟩; have B2 := Lib.hid (B1.out.trans (h2.mono B1.out.size)); have U2 := Lib.hid (U1.out.later h2); have FX2 := Lib.hid (FX1.out.later h2); have X2 := Lib.hid (TI.out.laterP h2); have T2 := Lib.hid (TT1.out.laterP h2); obtain ⟨v0, v1, v2⟩ := box_all3P X2.out; obtain ⟨y0, y1, y2, y3, y4, y5, y6, y7⟩ := box_all8 (T2.out); clear h2)
                go_region_held3 (fun w' => w'.cell? ⟨wr.heap.size, 0, none⟩ = some (.int .i64 so) ∧ w'.cell? ⟨wr.heap.size, 1, none⟩ = some (.int .i64 (xn : Int)) ∧ w'.cell? ⟨w.heap.size, 0, none⟩ = some (.slice na names.length nc) ∧ w'.cell? ⟨w.heap.size, 1, none⟩ = some (.slice ua curs.length uc) ∧ w'.cell? ⟨w.heap.size, 2, none⟩ = some (.slice pa pool.length pc) ∧ w'.cell? ⟨w.heap.size, 3, none⟩ = some (.int .i64 hor) ∧ w'.cell? ⟨w.heap.size, 4, none⟩ = some (.int .i64 cells) ∧ w'.cell? ⟨w.heap.size, 5, none⟩ = some (.int .i64 slots) ∧ w'.cell? ⟨w.heap.size, 6, none⟩ = some (.int .i64 stack) ∧ w'.cell? ⟨w.heap.size, 7, none⟩ = some (.slice da days.length dc))
                  (refine ⟨?_, ?_, ?_, ?_, ?_, ?_, ?_, ?_, ?_, ?_⟩ <;> first | assumption | (go_simp; done))
                  (first
                  | (go_at_call 46; refine (KB.out _).mono ?_; rintro e w3 ⟨rfl, h2⟩; have h3 : Below w2.heap.size w2 w3 := ⟨h2.os, h2.tape, h2.output, h2.size, h2.block⟩; have B3 := Lib.hid (B2.out.trans (h3.mono B2.out.size)); have U3 := Lib.hid (U2.out.later h3); have FX3 := Lib.hid (FX2.out.later h3); have X3 := Lib.hid (X2.out.laterP h3); have T3 := Lib.hid (T2.out.laterP h3); obtain ⟨z0, z1, z2⟩ := box_all3P X3.out; obtain ⟨t0, t1, t2, t3, t4, t5, t6, t7⟩ := box_all8 (T3.out); clear h2 h3))
                go_wp2
                go_ret
                exact ⟨⟨false, rfl, ⟨(fun e => by cases e), fun z => absurd z NO.out⟩, (fun e => by cases e)⟩, B3.out, FX3.out⟩
            · have t1 : (so == 0) = false := by simpa using q0
              have t2 : ((k : Int) == (n : Int) - 1) = false := by
                have : ¬ k + 1 = n := fun z => q0 (e1.2 z)
                simp; omega
              clear e1 q0
              by_cases e3 : (xn : Int) < bd
              · have b0 : decide (bd ≤ (xn : Int)) = false := decide_eq_false (by omega)
                have d0 : ¬ bd ≤ (xn : Int) := by omega
                have OK := Lib.hid (OKI.out (IBk.out.2 (by omega)))
                go_wp2_with (go_at_call 45; refine (KV.out _).mono ?_; rintro e w2 ⟨rfl, h2⟩; have B2 := Lib.hid (B1.out.trans (h2.mono B1.out.size)); have U2 := Lib.hid (U1.out.later h2); have FX2 := Lib.hid (FX1.out.later h2); have X2 := Lib.hid (TI.out.laterP h2); have T2 := Lib.hid (TT1.out.laterP h2); obtain ⟨v0, v1, v2⟩ := box_all3P X2.out; obtain ⟨y0, y1, y2, y3, y4, y5, y6, y7⟩ := box_all8 (T2.out); clear h2)
                go_region_held3 (fun w' => w'.cell? ⟨wr.heap.size, 0, none⟩ = some (.int .i64 so) ∧ w'.cell? ⟨wr.heap.size, 1, none⟩ = some (.int .i64 (xn : Int)) ∧ w'.cell? ⟨w.heap.size, 0, none⟩ = some (.slice na names.length nc) ∧ w'.cell? ⟨w.heap.size, 1, none⟩ = some (.slice ua curs.length uc) ∧ w'.cell? ⟨w.heap.size, 2, none⟩ = some (.slice pa pool.length pc) ∧ w'.cell? ⟨w.heap.size, 3, none⟩ = some (.int .i64 hor) ∧ w'.cell? ⟨w.heap.size, 4, none⟩ = some (.int .i64 cells) ∧ w'.cell? ⟨w.heap.size, 5, none⟩ = some (.int .i64 slots) ∧ w'.cell? ⟨w.heap.size, 6, none⟩ = some (.int .i64 stack) ∧ w'.cell? ⟨w.heap.size, 7, none⟩ = some (.slice da days.length dc))
                  (refine ⟨?_, ?_, ?_, ?_, ?_, ?_, ?_, ?_, ?_, ?_⟩ <;> first | assumption | (go_simp; done))
                  (first
                  | (go_at_call 46; refine (KB.out _).mono ?_; rintro e w3 ⟨rfl, h2⟩; have h3 : Below w2.heap.size w2 w3 := ⟨h2.os, h2.tape, h2.output, h2.size, h2.block⟩; have B3 := Lib.hid (B2.out.trans (h3.mono B2.out.size)); have U3 := Lib.hid (U2.out.later h3); have FX3 := Lib.hid (FX2.out.later h3); have X3 := Lib.hid (X2.out.laterP h3); have T3 := Lib.hid (T2.out.laterP h3); obtain ⟨z0, z1, z2⟩ := box_all3P X3.out; obtain ⟨t0, t1, t2, t3, t4, t5, t6, t7⟩ := box_all8 (T3.out); clear h2 h3))
                go_wp2
                go_roundw
                case rel =>
                  refine ⟨k + 1, by omega, by go_num, OK.out, ?_, B3.out, T3.out, FX3.out⟩
                  rw [F3.out, F28.out, F1.out, MB.out.1, MB.out.2.1, MB.out.2.2]
                  obtain ⟨cn, cu, cp, hx, r1, r2, r3⟩ := U3.out
                  exact ⟨cn, cu, cp, hx, r1.wide (by omega), r2.wide (by omega), r3.wide (by omega)⟩
                case measure => simp [intOf]; omega
              · have b0 : decide (bd ≤ (xn : Int)) = true := decide_eq_true (by omega)
                have d0 : bd ≤ (xn : Int) := by omega
                have NO := Lib.hid (NOI.out (fun z => by have := IBk.out.1 z; omega))
                go_wp2_with (go_at_call 45; refine (KV.out _).mono ?_; rintro e w2 ⟨rfl, h2⟩; have B2 := Lib.hid (B1.out.trans (h2.mono B1.out.size)); have U2 := Lib.hid (U1.out.later h2); have FX2 := Lib.hid (FX1.out.later h2); have X2 := Lib.hid (TI.out.laterP h2); have T2 := Lib.hid (TT1.out.laterP h2); obtain ⟨v0, v1, v2⟩ := box_all3P X2.out; obtain ⟨y0, y1, y2, y3, y4, y5, y6, y7⟩ := box_all8 (T2.out); clear h2)
                go_region_held3 (fun w' => w'.cell? ⟨wr.heap.size, 0, none⟩ = some (.int .i64 so) ∧ w'.cell? ⟨wr.heap.size, 1, none⟩ = some (.int .i64 (xn : Int)) ∧ w'.cell? ⟨w.heap.size, 0, none⟩ = some (.slice na names.length nc) ∧ w'.cell? ⟨w.heap.size, 1, none⟩ = some (.slice ua curs.length uc) ∧ w'.cell? ⟨w.heap.size, 2, none⟩ = some (.slice pa pool.length pc) ∧ w'.cell? ⟨w.heap.size, 3, none⟩ = some (.int .i64 hor) ∧ w'.cell? ⟨w.heap.size, 4, none⟩ = some (.int .i64 cells) ∧ w'.cell? ⟨w.heap.size, 5, none⟩ = some (.int .i64 slots) ∧ w'.cell? ⟨w.heap.size, 6, none⟩ = some (.int .i64 stack) ∧ w'.cell? ⟨w.heap.size, 7, none⟩ = some (.slice da days.length dc))
                  (refine ⟨?_, ?_, ?_, ?_, ?_, ?_, ?_, ?_, ?_, ?_⟩ <;> first | assumption | (go_simp; done))
                  (first
                  | (go_at_call 46; refine (KB.out _).mono ?_; rintro e w3 ⟨rfl, h2⟩; have h3 : Below w2.heap.size w2 w3 := ⟨h2.os, h2.tape, h2.output, h2.size, h2.block⟩; have B3 := Lib.hid (B2.out.trans (h3.mono B2.out.size)); have U3 := Lib.hid (U2.out.later h3); have FX3 := Lib.hid (FX2.out.later h3); have X3 := Lib.hid (X2.out.laterP h3); have T3 := Lib.hid (T2.out.laterP h3); obtain ⟨z0, z1, z2⟩ := box_all3P X3.out; obtain ⟨t0, t1, t2, t3, t4, t5, t6, t7⟩ := box_all8 (T3.out); clear h2 h3))
                go_wp2
                go_ret
                exact ⟨⟨false, rfl, ⟨(fun e => by cases e), fun z => absurd z NO.out⟩, (fun e => by cases e)⟩, B3.out, FX3.out⟩
          · have NO := Lib.hid (CNk.out (fun z => e1 (II.out.1 z).1))
            by_cases q : so = 0
            · have t1 : (so == 0) = true := by simpa using q
              have t2 : ((k : Int) == (n : Int) - 1) = false := by simp; intro z; exact e1 ⟨fun _ => by omega, fun _ => q⟩
              clear e1 e2 q
              go_wp2_with (go_at_call 45; refine (KV.out _).mono ?_; rintro e w2 ⟨rfl, h2⟩; have B2 := Lib.hid (B1.out.trans (h2.mono B1.out.size)); have U2 := Lib.hid (U1.out.later h2); have FX2 := Lib.hid (FX1.out.later h2); have X2 := Lib.hid (TI.out.laterP h2); have T2 := Lib.hid (TT1.out.laterP h2); obtain ⟨v0, v1, v2⟩ := box_all3P X2.out; obtain ⟨y0, y1, y2, y3, y4, y5, y6, y7⟩ := box_all8 (T2.out); clear h2)
              go_ret
              exact ⟨⟨false, rfl, ⟨(fun e => by cases e), fun z => absurd z NO.out⟩, (fun e => by cases e)⟩, B2.out, FX2.out⟩
            · have t1 : (so == 0) = false := by simpa using q
              have t2 : ((k : Int) == (n : Int) - 1) = true := by
                by_cases r : k + 1 = n
                · simp; omega
                · exact absurd ⟨fun z => absurd z q, fun z => absurd z r⟩ e1
              clear e1 e2 q
              go_wp2_with (go_at_call 45; refine (KV.out _).mono ?_; rintro e w2 ⟨rfl, h2⟩; have B2 := Lib.hid (B1.out.trans (h2.mono B1.out.size)); have U2 := Lib.hid (U1.out.later h2); have FX2 := Lib.hid (FX1.out.later h2); have X2 := Lib.hid (TI.out.laterP h2); have T2 := Lib.hid (TT1.out.laterP h2); obtain ⟨v0, v1, v2⟩ := box_all3P X2.out; obtain ⟨y0, y1, y2, y3, y4, y5, y6, y7⟩ := box_all8 (T2.out); clear h2)
              go_ret
              exact ⟨⟨false, rfl, ⟨(fun e => by cases e), fun z => absurd z NO.out⟩, (fun e => by cases e)⟩, B2.out, FX2.out⟩
        · rw [okV_neg e2] at KV
          have NO := Lib.hid (CNk.out (fun z => e2 (II.out.1 z).2.1))
          clear e2
          go_wp2_with (go_at_call 45; refine (KV.out _).mono ?_; rintro e w2 ⟨rfl, h2⟩; have B2 := Lib.hid (B1.out.trans (h2.mono B1.out.size)); have U2 := Lib.hid (U1.out.later h2); have FX2 := Lib.hid (FX1.out.later h2); have X2 := Lib.hid (TI.out.laterP h2); have T2 := Lib.hid (TT1.out.laterP h2); obtain ⟨v0, v1, v2⟩ := box_all3P X2.out; obtain ⟨y0, y1, y2, y3, y4, y5, y6, y7⟩ := box_all8 (T2.out); clear h2)
          go_ret
          exact ⟨⟨false, rfl, ⟨(fun e => by cases e), fun z => absurd z NO.out⟩, (fun e => by cases e)⟩, B2.out, FX2.out⟩
      · obtain rfl : k = n := by omega
        have CC := Lib.hid (CP.out hE.out)
        have LT := Lib.hid (p := l.take k = l ∧ l.length = k) ⟨List.take_of_length_le (by omega), l1⟩
        have FF := Lib.hid hF
        clear hE hU hB hT hF
        go_wp2
        go_ret
        exact ⟨⟨true, rfl, ⟨fun _ => CC.out, fun _ => rfl⟩, fun _ => by have := UU.out; rw [LT.out.1] at this; rw [LT.out.2]; exact this⟩, BB.out, FF.out⟩
end Go.Proofs.YtlcidigcecmnpaaGreatDoor
