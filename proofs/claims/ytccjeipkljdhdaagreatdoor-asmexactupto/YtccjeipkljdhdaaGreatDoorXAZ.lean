import Derived.Test.YtccjeipkljdhdaaGreatDoorXAY
namespace Go.Proofs.YtccjeipkljdhdaaGreatDoor
open Go.RowKit
set_option linter.unusedVariables false
set_option linter.unusedSimpArgs false
def boundN (p : Pg) (o : Int) : Int := if o = 1 then p.pool.length else if o = 3 then p.names.length else if o = 28 then p.curs.length else if o = 4 ∨ o = 5 then p.cells else if o = 6 ∨ o = 7 then p.slots else 262144
theorem hi_lo {i : In} (h : i.okP) : 0 ≤ i.a ∧ i.a ≤ 262143 := by
  have h1 := h.1
  have h2 := h.2.1
  have h3 := h.2.2.1
  have h4 := h.2.2.2.1
  have hm := (tab_facts i.o.toNat (by omega)).2.1
  omega
theorem inB_bound {p : Pg} {i : In} (h : i.okP) : inB p i ↔ i.a < boundN p i.o := by
  obtain ⟨o, a, b⟩ := i
  have ho := hi_lo h
  unfold inB boundN
  simp only
  by_cases e1 : o = 1
  · subst e1; simp
  by_cases e3 : o = 3
  · subst e3; simp
  by_cases e28 : o = 28
  · subst e28; simp
  by_cases e4 : o = 4
  · subst e4; simp
  by_cases e5 : o = 5
  · subst e5; simp
  by_cases e6 : o = 6
  · subst e6; simp
  by_cases e7 : o = 7
  · subst e7; simp
  simp [e1, e3, e28, e4, e5, e6, e7]
  simp only at ho
  omega
theorem bound1_any {w : World} {p : Pg} : Calls Tryz.prog 93 #[p.agg, .int .i64 1] w fun e w' => e = .returned (.int .i64 (boundN p 1)) ∧ Below w.heap.size w w' := by
  have R := Lib.hid (p := boundN p 1 = p.pool.length) (by simp [boundN])
  rw [R.out]
  unfold Pg.agg
  obtain ⟨na, nc, names, ua, uc, curs, pa, pc, pool, hor, cells, slots, stack, da, dc, days⟩ := p
  clear R
  go_enter Tryz.func93, Tryz.ntmps93
  go_wp2
  go_ret
  exact ⟨rfl, allocBP w _⟩
theorem bound3_any {w : World} {p : Pg} : Calls Tryz.prog 93 #[p.agg, .int .i64 3] w fun e w' => e = .returned (.int .i64 (boundN p 3)) ∧ Below w.heap.size w w' := by
  have R := Lib.hid (p := boundN p 3 = p.names.length) (by simp [boundN])
  rw [R.out]
  unfold Pg.agg
  obtain ⟨na, nc, names, ua, uc, curs, pa, pc, pool, hor, cells, slots, stack, da, dc, days⟩ := p
  clear R
  go_enter Tryz.func93, Tryz.ntmps93
  go_wp2
  go_ret
  exact ⟨rfl, allocBP w _⟩
theorem bound28_any {w : World} {p : Pg} : Calls Tryz.prog 93 #[p.agg, .int .i64 28] w fun e w' => e = .returned (.int .i64 (boundN p 28)) ∧ Below w.heap.size w w' := by
  have R := Lib.hid (p := boundN p 28 = p.curs.length) (by simp [boundN])
  rw [R.out]
  unfold Pg.agg
  obtain ⟨na, nc, names, ua, uc, curs, pa, pc, pool, hor, cells, slots, stack, da, dc, days⟩ := p
  clear R
  go_enter Tryz.func93, Tryz.ntmps93
  go_wp2
  go_ret
  exact ⟨rfl, allocBP w _⟩
theorem bound4_any {w : World} {p : Pg} : Calls Tryz.prog 93 #[p.agg, .int .i64 4] w fun e w' => e = .returned (.int .i64 (boundN p 4)) ∧ Below w.heap.size w w' := by
  have R := Lib.hid (p := boundN p 4 = p.cells) (by simp [boundN])
  rw [R.out]
  unfold Pg.agg
  obtain ⟨na, nc, names, ua, uc, curs, pa, pc, pool, hor, cells, slots, stack, da, dc, days⟩ := p
  clear R
  go_enter Tryz.func93, Tryz.ntmps93
  go_wp2
  go_ret
  exact ⟨rfl, allocBP w _⟩
theorem bound5_any {w : World} {p : Pg} : Calls Tryz.prog 93 #[p.agg, .int .i64 5] w fun e w' => e = .returned (.int .i64 (boundN p 5)) ∧ Below w.heap.size w w' := by
  have R := Lib.hid (p := boundN p 5 = p.cells) (by simp [boundN])
  rw [R.out]
  unfold Pg.agg
  obtain ⟨na, nc, names, ua, uc, curs, pa, pc, pool, hor, cells, slots, stack, da, dc, days⟩ := p
  clear R
  go_enter Tryz.func93, Tryz.ntmps93
  go_wp2
  go_ret
  exact ⟨rfl, allocBP w _⟩
theorem bound6_any {w : World} {p : Pg} : Calls Tryz.prog 93 #[p.agg, .int .i64 6] w fun e w' => e = .returned (.int .i64 (boundN p 6)) ∧ Below w.heap.size w w' := by
  have R := Lib.hid (p := boundN p 6 = p.slots) (by simp [boundN])
  rw [R.out]
  unfold Pg.agg
  obtain ⟨na, nc, names, ua, uc, curs, pa, pc, pool, hor, cells, slots, stack, da, dc, days⟩ := p
  clear R
  go_enter Tryz.func93, Tryz.ntmps93
  go_wp2
  go_ret
  exact ⟨rfl, allocBP w _⟩
theorem bound7_any {w : World} {p : Pg} : Calls Tryz.prog 93 #[p.agg, .int .i64 7] w fun e w' => e = .returned (.int .i64 (boundN p 7)) ∧ Below w.heap.size w w' := by
  have R := Lib.hid (p := boundN p 7 = p.slots) (by simp [boundN])
  rw [R.out]
  unfold Pg.agg
  obtain ⟨na, nc, names, ua, uc, curs, pa, pc, pool, hor, cells, slots, stack, da, dc, days⟩ := p
  clear R
  go_enter Tryz.func93, Tryz.ntmps93
  go_wp2
  go_ret
  exact ⟨rfl, allocBP w _⟩
theorem boundE_any {w : World} {p : Pg} (k : Int) (n1 : k ≠ 1) (n3 : k ≠ 3) (n28 : k ≠ 28) (n4 : k ≠ 4) (n5 : k ≠ 5) (n6 : k ≠ 6) (n7 : k ≠ 7) : Calls Tryz.prog 93 #[p.agg, .int .i64 k] w fun e w' => e = .returned (.int .i64 (boundN p k)) ∧ Below w.heap.size w w' := by
  have R := Lib.hid (p := boundN p k = 262144) (by simp [boundN, n1, n3, n28, n4, n5, n6, n7])
  rw [R.out]
  unfold Pg.agg
  obtain ⟨na, nc, names, ua, uc, curs, pa, pc, pool, hor, cells, slots, stack, da, dc, days⟩ := p
  have b1 : (k == 1) = false := by simpa using n1
  have b3 : (k == 3) = false := by simpa using n3
  have b28 : (k == 28) = false := by simpa using n28
  have b4 : (k == 4) = false := by simpa using n4
  have b5 : (k == 5) = false := by simpa using n5
  have b6 : (k == 6) = false := by simpa using n6
  have b7 : (k == 7) = false := by simpa using n7
  clear R
  go_enter Tryz.func93, Tryz.ntmps93
  go_wp2
  go_ret
  exact ⟨rfl, allocBP w _⟩
theorem bound_any {w : World} {p : Pg} (k : Int) : Calls Tryz.prog 93 #[p.agg, .int .i64 k] w fun e w' => e = .returned (.int .i64 (boundN p k)) ∧ Below w.heap.size w w' := by
  by_cases e1 : k = 1
  · subst e1; exact bound1_any
  by_cases e3 : k = 3
  · subst e3; exact bound3_any
  by_cases e28 : k = 28
  · subst e28; exact bound28_any
  by_cases e4 : k = 4
  · subst e4; exact bound4_any
  by_cases e5 : k = 5
  · subst e5; exact bound5_any
  by_cases e6 : k = 6
  · subst e6; exact bound6_any
  by_cases e7 : k = 7
  · subst e7; exact bound7_any
  exact boundE_any k e1 e3 e28 e4 e5 e6 e7
/-- A row of counts that fills its block. -/
def RNo (W : World) (B g : Nat) (cs : List Int) : Prop := W.ownsRow B 3 1 (.slice (some ⟨g, 0, none⟩) cs.length cs.length) cs.length (intsP cs)
theorem RNo.at {W : World} {B g : Nat} {cs : List Int} (h : RNo W B g cs) (i : Nat) (hi : i < cs.length) : W.cell? ⟨g, i, none⟩ = some (.int .i64 (cs.getD i 0)) ∧ W.frozen? ⟨g, i, none⟩ = false := by
  refine ⟨own_cellsP h i _ ?_, World.ownsRow.frozenAt h i⟩
  have := intsP_at cs [] i hi
  simpa using this
theorem RNo.set {W : World} {B g : Nat} {cs : List Int} (h : RNo W B g cs) (i : Nat) (v : Int) : RNo (W.setCell ⟨g, i, none⟩ (.int .i64 v)) B g (cs.set i v) := by
  have := (World.ownsRow.stored h i (.int .i64 v)).1
  unfold RNo
  rw [List.length_set, show intsP (cs.set i v) = (intsP cs).set i (.int .i64 v) by simp [intsP, List.map_set]]
  exact this
theorem RNo.far {W W' : World} {B g : Nat} {cs : List Int} (h : RNo W B g cs) {x : Nat} (k : W.grownBy W' (some x)) (hx : x ≠ g) : RNo W' B g cs := row_farP h k (fun a q e e2 => by injection e with e; have e3 : g = q := Option.some.inj e2; omega)
theorem RNo.later {W W' : World} {B g : Nat} {cs : List Int} (h : RNo W B g cs) (k : Below W.heap.size W W') : RNo W' B g cs := row_farP h (gr_below k none) (fun a q e => by cases e)
/-- Counts and marks say the same. -/
def Rel (cs : List Int) (bs : List Bool) (M : Nat) : Prop := cs.length = bs.length ∧ ∀ j, j < cs.length → 0 ≤ cs.getD j 0 ∧ cs.getD j 0 ≤ M ∧ (cs.getD j 0 ≠ 0 ↔ bs.getD j false = true)
theorem Rel.wide {cs : List Int} {bs : List Bool} {M M' : Nat} (h : Rel cs bs M) (hm : M ≤ M') : Rel cs bs M' := ⟨h.1, fun j hj => ⟨(h.2 j hj).1, by have := (h.2 j hj).2.1; omega, (h.2 j hj).2.2⟩⟩
theorem Rel.set {cs : List Int} {bs : List Bool} {M : Nat} (h : Rel cs bs M) (i : Nat) (hi : i < cs.length) : Rel (cs.set i (cs.getD i 0 + 1)) (bs.set i true) (M + 1) := by
  refine ⟨by simp [h.1], fun j hj => ?_⟩
  rw [List.length_set] at hj
  have hj2 := h.2 j hj
  by_cases e : i = j
  · subst e
    have e1 : (cs.set i (cs.getD i 0 + 1)).getD i 0 = cs.getD i 0 + 1 := by simp [List.getD, hj]
    have e2 : (bs.set i true).getD i false = true := by simp [List.getD, show i < bs.length by rw [← h.1]; exact hj]
    rw [e1, e2]
    refine ⟨by omega, by omega, ⟨fun _ => rfl, fun _ => by omega⟩⟩
  · have e1 : (cs.set i (cs.getD i 0 + 1)).getD j 0 = cs.getD j 0 := by simp [List.getD, List.getElem?_set, e]
    have e2 : (bs.set i true).getD j false = bs.getD j false := by simp [List.getD, List.getElem?_set, e]
    rw [e1, e2]
    exact ⟨hj2.1, by omega, hj2.2.2⟩
theorem Rel.all {cs : List Int} {bs : List Bool} {M : Nat} (h : Rel cs bs M) : (∀ j, j < cs.length → cs.getD j 0 ≠ 0) ↔ bs.all id = true := by
  rw [List.all_eq_true]
  constructor
  · intro q b hb
    obtain ⟨i, hi, rfl⟩ := List.getElem_of_mem hb
    have := (h.2 i (by rw [h.1]; exact hi)).2.2.1 (q i (by rw [h.1]; exact hi))
    simpa [List.getD, hi] using this
  · intro q j hj
    refine (h.2 j hj).2.2.2 ?_
    have hb : j < bs.length := by rw [← h.1]; exact hj
    have := q bs[j] (List.getElem_mem hb)
    simpa [List.getD, hb] using this
set_option maxRecDepth 100000 in
theorem noneR_any {w : World} {B g : Nat} {cs : List Int} {bs : List Bool} {M : Nat} (h : RNo w B g cs) (hr : Rel cs bs M) (hn : cs.length ≤ 17592186043904) :
    Calls Tryz.prog 64 #[.slice (some ⟨g, 0, none⟩) cs.length cs.length] w fun e w' => e = .returned (.bool (!(bs.all id))) ∧ w' = w := by
  have H := Lib.hid (fun i hi => (h.at i hi).1)
  have RA := Lib.hid hr.all
  obtain ⟨n, hn'⟩ : ∃ n, cs.length = n := ⟨_, rfl⟩
  rw [hn'] at H hn RA ⊢
  clear h hn' hr
  go_enter Tryz.func64, Tryz.ntmps64
  go_wp2
  go_loopw [3] (fun t wr => ∃ k : Nat, k ≤ n ∧ t = .int .i64 (k : Int) ∧ RowKit.Hid (∀ i, i < k → cs.getD i 0 ≠ 0) ∧ w = wr) (fun t _ => n - (intOf t).toNat)
  case atStart => exact ⟨0, by omega, rfl, (fun i hi => absurd hi (by omega)), rfl⟩
  case round =>
    obtain ⟨k, hk, rfl, hE, rfl⟩ := hrel
    by_cases hlt : k < n
    · have c0 := H.out k hlt
      have kc : (k : Int) < (n : Int) := by omega
      by_cases e : cs.getD k 0 = 0
      · have NA := Lib.hid (p := bs.all id = false) (Bool.eq_false_iff.2 (fun q => RA.out.2 q k hlt e))
        rw [e] at c0
        clear hE e
        go_wp2
        go_ret
        exact ⟨by rw [NA.out]; rfl, rfl⟩
      · have NX := Lib.hid (p := ∀ i, i < k + 1 → cs.getD i 0 ≠ 0) (fun i hi => by
          rcases (show i < k ∨ i = k by omega) with r | r
          · exact hE.out i r
          · rw [r]; exact e)
        have eb : (cs.getD k 0 == 0) = false := by simpa using e
        generalize cs.getD k 0 = z at *
        clear hE e
        go_wp2
        go_roundw
        case rel => exact ⟨k + 1, by omega, by go_num, NX.out, by first | rfl | trivial⟩
        case measure => simp [intOf]; omega
    · obtain rfl : k = n := by omega
      have AA := Lib.hid (p := bs.all id = true) (RA.out.1 hE.out)
      clear hE
      go_wp2
      go_ret
      exact ⟨by rw [AA.out]; rfl, rfl⟩
end Go.Proofs.YtccjeipkljdhdaaGreatDoor
