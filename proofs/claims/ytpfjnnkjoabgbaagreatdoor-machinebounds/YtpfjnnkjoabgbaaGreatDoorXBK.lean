import Derived.Test.YtpfjnnkjoabgbaaGreatDoorXBJ
import Derived.Test.YtpfjnnkjoabgbaaGreatDoorXBI
namespace Go.Proofs.YtpfjnnkjoabgbaaGreatDoor
open Go.RowKit
set_option linter.unusedVariables false
set_option linter.unusedSimpArgs false
theorem drewN_below (w : World) (q : Nat) : Below w.heap.size w (w.drewN q) := ⟨rfl, rfl, rfl, Nat.le_refl _, fun _ _ => rfl⟩
theorem BkP.laterM {W W' : World} {b : Nat} {cs : Array Value} {t : TypeId} (h : BkP W b cs t) (g : Below W.heap.size W W') : BkP W' b cs t := h.grown (gr_below g none) (by simp)
theorem fix_even {c : Cl} (h : (!c.h && (c.v != 0)) = false) : fixC c = c := by
  obtain ⟨h1, v⟩ := c
  unfold fixC
  cases h1 with
  | true => rfl
  | false =>
    simp at h
    simp [zCl, h]
theorem fix_odd {c : Cl} (h : (!c.h && (c.v != 0)) = true) : fixC c = zCl := by
  obtain ⟨h1, v⟩ := c
  unfold fixC
  cases h1 with
  | true => simp at h
  | false => rfl
/-- So far fitted. -/
def FtR (n k : Nat) (ys gs : List Cl) : Prop := gs.length = n ∧ ∀ j, j < n → gs.getD j default = if j < k then fixC (ys.getD j default) else ys.getD j default
theorem FtR.set {n k : Nat} {ys gs : List Cl} (h : FtR n k ys gs) (hk : k < n) : FtR n (k + 1) ys (gs.set k (fixC (ys.getD k default))) := by
  refine ⟨by rw [List.length_set]; exact h.1, fun j hj => ?_⟩
  have := h.2 j hj
  by_cases e : j = k
  · subst e
    rw [if_pos (by omega)]
    simp [List.getD, h.1, hj]
  · have q : (gs.set k (fixC (ys.getD k default))).getD j default = gs.getD j default := by
      simp only [List.getD]
      rw [List.getElem?_set_ne (Ne.symm e)]
    rw [q, this]
    by_cases z : j < k
    · rw [if_pos z, if_pos (by omega)]
    · rw [if_neg z, if_neg (by omega)]
theorem FtR.skip {n k : Nat} {ys gs : List Cl} (h : FtR n k ys gs) (hk : k < n) (e : fixC (ys.getD k default) = ys.getD k default) : FtR n (k + 1) ys gs := by
  refine ⟨h.1, fun j hj => ?_⟩
  rw [h.2 j hj]
  by_cases z : j < k
  · rw [if_pos z, if_pos (by omega)]
  · rw [if_neg z]
    by_cases q : j = k
    · subst q; rw [if_pos (by omega), e]
    · rw [if_neg (by omega)]
theorem FtR.end {n : Nat} {row gs : List Cl} (h : FtR n n (row.take n ++ List.replicate (n - row.length) zCl) gs) : gs = fitR n row := by
  apply List.ext_getElem?
  intro j
  by_cases hj : j < n
  · have a := h.2 j hj
    rw [if_pos hj] at a
    have e1 : gs[j]? = some (gs.getD j default) := by simp [List.getD, h.1, hj]
    have e2 : (fitR n row)[j]? = some (if (row.getD j default).h then row.getD j default else ⟨false, 0⟩) := by simp [fitR, hj]
    rw [e1, e2, a]
    have e3 : (row.take n ++ List.replicate (n - row.length) zCl).getD j default = row.getD j default := by
      by_cases q : j < row.length
      · simp only [List.getD]
        rw [List.getElem?_append_left (by simp; omega), List.getElem?_take_of_lt hj]
      · simp only [List.getD]
        rw [List.getElem?_append_right (by simp; omega), List.getElem?_replicate, List.getElem?_eq_none (by omega : row.length ≤ j)]
        split <;> rfl
    rw [e3]
    rfl
  · rw [List.getElem?_eq_none (by rw [h.1]; omega), List.getElem?_eq_none (by simp [fitR]; omega)]
/-- What fit answers. -/
structure FtE (w : World) (n : Nat) (row : List Cl) (e : Ending) (w' : World) : Prop where
  ret : e = .returned (.slice (some ⟨w.heap.size, 0, none⟩) n n)
  bel : Below w.heap.size w w'
  row : Rc w' w.heap.size (fitR n row)
set_option maxRecDepth 100000 in
set_option maxHeartbeats 1600000 in
theorem mfit_any {w : World} {mb : Nat} {na : Option Addr} {n nc : Nat} (c0 : w.cell? ⟨mb, 0, none⟩ = some (.slice na n nc)) (hn : n ≤ 1000000) {a : Option Addr} {m cap : Nat} {row : List Cl} (h : RC w a m row) : Calls Tryz.prog 45 #[.pointer (some ⟨mb, 0, none⟩), .slice a m cap] w fun e w' => FtE w n row e w' := by
  have hl := h.1
  have mk := make_cells n (by omega)
  obtain ⟨W2, cp, hB2, hR2⟩ := copy_cells a n m cap row w h (by omega)
  have B2 := Lib.hid hB2
  have len : (row.take n ++ List.replicate (n - m) zCl).length = n := by simp; omega
  have F2 := Lib.hid (p := ∃ gs, FtR n 0 (row.take n ++ List.replicate (n - m) zCl) gs ∧ Rc W2 w.heap.size gs) ⟨_, ⟨len, fun j _ => by rw [if_neg (by omega)]⟩, hR2⟩
  have KO := Lib.hid (fun c W => isOdd_any c W)
  have FE := Lib.hid (p := ∀ W gs, FtR n n (row.take n ++ List.replicate (n - m) zCl) gs → Rc W w.heap.size gs → Below w.heap.size w W → FtE w n row (.returned (.slice (some ⟨w.heap.size, 0, none⟩) n n)) W) (fun W gs f r b => ⟨rfl, b, by rw [← hl] at f; rw [← f.end]; exact r⟩)
  generalize row.take n ++ List.replicate (n - m) zCl = ys at *
  clear h hB2 hR2 hl len
  go_enter Tryz.func45, Tryz.ntmps45
  go_wp2
  clear mk cp c0
  go_loopw [19] (fun t wr => ∃ (k : Nat), k ≤ n ∧ t = .int .i64 (k : Int) ∧ Below w.heap.size w wr ∧ RowKit.Hid (∃ gs, FtR n k ys gs ∧ Rc wr w.heap.size gs)) (fun t _ => n - (intOf t).toNat)
  case atStart => exact ⟨0, by omega, rfl, B2.out, F2.out⟩
  case round =>
    clear B2 F2
    rename World => wr
    obtain ⟨k, hk, rfl, hB, hF⟩ := hrel
    obtain ⟨gs, hg, hr⟩ := hF.out
    have BB := Lib.hid hB
    have GG := Lib.hid hg
    have RR := Lib.hid hr
    by_cases hlt : k < n
    · have kc : (k : Int) < (n : Int) := by omega
      have k0 : ¬ (k : Int) < 0 := by omega
      have ks : IntKind.i64.wrap ((k : Int) + 1) = (k : Int) + 1 := by simp [IntKind.wrap, IntKind.bits, IntKind.signed]; omega
      obtain ⟨q0, q1⟩ := hr.fc k (by rw [hg.1]; exact hlt)
      have f0 := World.ownsRow.frozenAt hr (k * 2)
      have f1 := World.ownsRow.frozenAt hr (k * 2 + 1)
      have ge : gs.getD k default = ys.getD k default := by rw [hg.2 k hlt, if_neg (by omega)]
      rw [ge] at q0 q1
      have lt := Lib.hid hr.block.lt
      have RK := Lib.hid (p := ∀ W, Below wr.heap.size wr W → W.cell? ⟨w.heap.size, k * 2, none⟩ = some (.bool (ys.getD k default).h) ∧ W.cell? ⟨w.heap.size, k * 2 + 1, none⟩ = some (.int .i64 (ys.getD k default).v) ∧ W.frozen? ⟨w.heap.size, k * 2, none⟩ = false ∧ W.frozen? ⟨w.heap.size, k * 2 + 1, none⟩ = false) (fun W b => by
        have q := rc_block (hr.block.laterM b) (by rw [hg.1]; omega)
        obtain ⟨z0, z1⟩ := q.fc k (by rw [hg.1]; exact hlt)
        rw [ge] at z0 z1
        exact ⟨z0, z1, World.ownsRow.frozenAt q _, World.ownsRow.frozenAt q _⟩)
      have SK := Lib.hid (p := (!(ys.getD k default).h && ((ys.getD k default).v != 0)) = false → ∀ W, Below wr.heap.size wr W → ∃ gs, FtR n (k + 1) ys gs ∧ Rc W w.heap.size gs) (fun z W b => ⟨gs, hg.skip hlt (fix_even z), rc_block (hr.block.laterM b) (by rw [hg.1]; omega)⟩)
      have ST := Lib.hid (p := (!(ys.getD k default).h && ((ys.getD k default).v != 0)) = true → ∀ W, Below wr.heap.size wr W → ∃ gs, FtR n (k + 1) ys gs ∧ Rc ((W.setCell ⟨w.heap.size, k * 2, none⟩ (.bool false)).setCell ⟨w.heap.size, k * 2 + 1, none⟩ (.int .i64 0)) w.heap.size gs) (fun z W b => by
        have := hg.set hlt
        rw [fix_odd z] at this
        exact ⟨_, this, (rc_block (hr.block.laterM b) (by rw [hg.1]; omega)).set k (by rw [hg.1]; exact hlt) zCl⟩)
      generalize ys.getD k default = c at *
      clear hF hg hr hB ge
      cases hz : (!c.h && (c.v != 0)) with
      | false =>
        go_wp2_with (go_at_call 60; refine (KO.out c _).mono ?_; rw [hz]; rintro e w1 ⟨rfl, h1⟩; have B1 := Lib.hid h1; clear h1)
        refine ⟨⟨k + 1, by omega, by simp, BB.out.trans (B1.out.mono BB.out.size), SK.out hz _ B1.out⟩, ?_⟩
        simp [intOf]; omega
      | true =>
        go_wp2_with (go_at_call 60; refine (KO.out c _).mono ?_; rw [hz]; rintro e w1 ⟨rfl, h1⟩; have B1 := Lib.hid h1; obtain ⟨z0, z1, z2, z3⟩ := RK.out w1 h1; clear h1)
        refine ⟨⟨k + 1, by omega, by simp, ?_, ST.out hz _ B1.out⟩, ?_⟩
        · have b1 := BB.out.trans (B1.out.mono BB.out.size)
          exact (b1.setCell (by exact Nat.le_refl _) _).setCell (by exact Nat.le_refl _) _
        · simp [intOf]; omega
    · have e : k = n := by omega
      subst e
      have kc : ¬ (k : Int) < (k : Int) := by omega
      clear hr hg hF hB
      go_wp2
      go_ret
      exact FE.out _ _ GG.out RR.out BB.out
/-- Over. -/
theorem mach_over {w : World} {mb : Nat} {p : Pg} {n : Nds} {cev pav : Value} {s : Ms} (h : BkP w mb (mArr p n s.today s.steps cev pav s.fault s.day) 75) : w.cell? ⟨mb, 0, none⟩ = some (.slice p.na p.names.length p.nc) ∧ w.cell? ⟨mb, 3, none⟩ = some (.int .i64 p.hor) ∧ w.cell? ⟨mb, 7, none⟩ = some (.slice p.da p.days.length p.dc) ∧ w.cell? ⟨mb, 8, none⟩ = some (.int .i64 n.stack) ∧ w.cell? ⟨mb, 10, none⟩ = some (.int .i64 n.back) ∧ w.cell? ⟨mb, 11, none⟩ = some (.int .i64 s.today) ∧ w.cell? ⟨mb, 14, none⟩ = some pav ∧ w.cell? ⟨mb, 15, none⟩ = some (.int .i64 s.fault) ∧ w.cell? ⟨mb, 16, none⟩ = some (.int .i64 s.day) := by
  refine ⟨?_, ?_, ?_, ?_, ?_, ?_, ?_, ?_, ?_⟩ <;> (rw [h.cell]; rfl)
set_option maxRecDepth 100000 in
theorem over_any {w : World} {mb : Nat} {p : Pg} {n : Nds} {cev pav : Value} {s : Ms} (h : BkP w mb (mArr p n s.today s.steps cev pav s.fault s.day) 75) : Calls Tryz.prog 15 #[.pointer (some ⟨mb, 0, none⟩)] w fun e w' => e = .returned (.bool (decide (s.over p.hor))) ∧ Below w.heap.size w w' := by
  obtain ⟨c0, c3, c7, c8, c10, c11, c14, c15, c16⟩ := mach_over h
  have E := Lib.hid (p := (s.fault ≠ 0 → decide (s.over p.hor) = true) ∧ (s.fault = 0 → decide (s.over p.hor) = decide (p.hor < s.today))) ⟨fun z => by simp [Ms.over, z], fun z => by simp [Ms.over, z]⟩
  generalize decide (s.over p.hor) = r at *
  generalize p.hor = hor at *
  clear h
  by_cases hf : s.fault = 0
  · have e := Lib.hid (E.out.2 hf)
    rw [hf] at c15
    generalize s.today = td at *
    clear E hf
    go_enter Tryz.func15, Tryz.ntmps15
    go_wp2
    go_quiet (fail)
    go_wp2
    have e2 := e.out
    subst e2
    go_ret
    exact ⟨rfl, drewN_below w nq⟩
  · have e := Lib.hid (E.out.1 hf)
    have f1 : (s.fault != 0) = true := by simpa using hf
    generalize s.fault = ft at *
    clear E
    go_enter Tryz.func15, Tryz.ntmps15
    go_wp2
    go_quiet (fail)
    go_wp2
    have e2 := e.out
    subst e2
    go_ret
    exact ⟨rfl, drewN_below w nq⟩
end Go.Proofs.YtpfjnnkjoabgbaaGreatDoor

namespace Go.Proofs.YtpfjnnkjoabgbaaGreatDoor
open Go.RowKit
set_option linter.unusedVariables false
set_option linter.unusedSimpArgs false
theorem infoRw : (Tryz.prog.info? 47).map (fun i => (i.zero, i.size, i.bytes)) = some (some (.slice none 0 0), 1, 24) := by kernel_rfl
theorem getD_snoc_lt {α : Type} {l : List α} {x d : α} {i : Nat} (h : i < l.length) : (l ++ [x]).getD i d = l.getD i d := by
  simp only [List.getD]
  rw [List.getElem?_append_left h]
theorem getD_snoc_eq {α : Type} {l : List α} {x d : α} : (l ++ [x]).getD l.length d = x := by simp [List.getD]
theorem RwV.one {w : World} {v : Value} {l : List Cl} (h : RwV w v l) : v.oneCell' = true := by
  obtain ⟨a, z, rfl, _⟩ := h
  rfl
/-- An append whose run is known. -/
theorem wp_app_run {ops : Array Oper} {rest : List Oper} {o : Oper} {a : Act} {Q : Exit → Act → World → Prop} {w : World} (hgd : o.guard = none) (s x : Operand) (T : TypeId)
    (ho : o.op = .call { callee := .builtin .append, args := #[s, x], argTypes := #[T, T] }) (v u r : Value) (W1 : World) (hs : a.eval s = v) (hx : a.eval x = u) (hr : ∀ ty, (Builtin.append_ #[T, T] ty #[v, u]).run Tryz.prog w = .ok r W1)
    (h : wpList Tryz.prog ops Q rest (a.put o.dst r) W1) : wpList Tryz.prog ops Q (o :: rest) a w := by
  refine wpList_plain hgd fun _ hK => ?_
  have hK := hK _ _ h
  unfold Oper.wp execOp
  simp only [ho, resolve, invoke, builtin, Sem.run_bind, Sem.run_pure, Result.andThen_ok, List.map_toArray, List.map_cons, List.map_nil, hs, hx, hr]
  exact hK
/-- One row more. -/
theorem app_row {w : World} {pav : Value} {past : List (List Cl)} {vs : List Value} (h : PaV w pav past vs) (hl : past.length ≤ 100000) {rowv : Value} {row : List Cl} (hr : RwV w rowv row) :
    ∃ g o cap W1, (∀ ty, (Builtin.append_ #[27, 27] ty #[pav, .slice (some ⟨w.heap.size, 0, none⟩) 1 1]).run Tryz.prog (w.alloc (.cells #[rowv] 47)) = .ok (.slice (some ⟨g, o, none⟩) (past.length + 1) cap) W1) ∧ PaV W1 (.slice (some ⟨g, o, none⟩) (past.length + 1) cap) (past ++ [row]) (vs ++ [rowv]) ∧ Kp w W1 (fun k => pav.ownBlock = some k) ∧ (pav.ownBlock = some g ∨ w.heap.size ≤ g) ∧ g < W1.heap.size := by
  obtain ⟨i0, hi, hz0, hz1, hz2⟩ := info_parts infoRw
  have hu : Tryz.prog.underlying 27 = some (.slice 47) := Tryz.underlying27
  have B := allocBP w (.cells #[rowv] 47)
  have h' := h.lat B
  have hr' := hr.lat B
  have nb : (w.alloc (.cells #[rowv] 47)).heap[w.heap.size]? = some (.cells #[rowv] 47 (0, 0)) := heapN _ _
  have hs : Src Tryz.prog i0.size 27 (.slice (some ⟨w.heap.size, 0, none⟩) 1 1) 1 [rowv] (w.alloc (.cells #[rowv] 47)) := Src.ofSlice _ hu ⟨w.heap.size, 0, none⟩ 1 1 [rowv] (by rw [hz1]; rfl) (by
    intro j u hj
    cases j with
    | zero =>
      simp at hj
      subst hj
      rw [Addr.add_lit]
      simp only [World.cell?, nb]
      rfl
    | succ j => simp at hj) (by intro u hu; simp at hu; rw [hu]; exact hr.one)
  have one : ∀ u ∈ vs ++ [rowv], u.oneCell' = true := by
    intro u hu
    simp at hu
    rcases hu with hu | rfl
    · exact h.one u hu
    · exact hr.one
  have rows : ∀ {W : World}, (∀ i, i < past.length → RwV W (vs.getD i default) (past.getD i [])) → RwV W rowv row → ∀ i, i < (past ++ [row]).length → RwV W ((vs ++ [rowv]).getD i default) ((past ++ [row]).getD i []) := by
    intro W q1 q2 i hi
    simp at hi
    by_cases e : i < past.length
    · rw [getD_snoc_lt e, getD_snoc_lt (by rw [h.len]; exact e)]; exact q1 i e
    · have e2 : i = past.length := by omega
      subst e2
      rw [getD_snoc_eq]
      have : (vs ++ [rowv]).getD past.length default = rowv := by rw [← h.len]; exact getD_snoc_eq
      rw [this]; exact q2
  have len2 : (vs ++ [rowv]).length = (past ++ [row]).length := by simp [h.len]
  obtain ⟨A, hA⟩ : ∃ A, A = w.alloc (.cells #[rowv] 47) := ⟨_, rfl⟩
  rw [← hA] at B h' hr' nb hs ⊢
  have grown : ∀ (old : Nat), PaV (A.drew.alloc (.cells ((vs ++ [rowv]).toArray ++ Builtin.zeroCells (Value.cells (.slice none 0 0)) (grownCap A (past.length + 1) old 47 - (past.length + 1))) 47)) (.slice (some ⟨A.heap.size, 0, none⟩) (past.length + 1) (grownCap A (past.length + 1) old 47)) (past ++ [row]) (vs ++ [rowv]) ∧ ∀ S, Kp w (A.drew.alloc (.cells ((vs ++ [rowv]).toArray ++ Builtin.zeroCells (Value.cells (.slice none 0 0)) (grownCap A (past.length + 1) old 47 - (past.length + 1))) 47)) S := by
    intro old
    have hge := grownCap_ge A (past.length + 1) old 47
    have hcm : grownCap A (past.length + 1) old 47 ≤ maxLen := grownCap_le_maxLen A (past.length + 1) old 47 (by unfold maxLen; omega)
    generalize grownCap A (past.length + 1) old 47 = cp at *
    have b2 : Below A.heap.size A (A.drew.alloc (.cells ((vs ++ [rowv]).toArray ++ Builtin.zeroCells (Value.cells (.slice none 0 0)) (cp - (past.length + 1))) 47)) := (⟨rfl, rfl, rfl, Nat.le_refl _, fun _ _ => rfl⟩ : Below A.heap.size A A.drew).trans (allocBP A.drew _)
    refine ⟨⟨len2, rows (fun i hi => (h'.rows i hi).lat b2) (hr'.lat b2), one, .inr ⟨A.heap.size, 0, cp, _, by simp, heapN A.drew _, ?_, by simpa using hge, hcm, ?_⟩⟩, fun S => Kp.below (B.trans (b2.mono B.size)) S⟩
    · simp only [Array.size_append, List.size_toArray, size_zeroCells, Nat.zero_add]
      have : (Value.cells (.slice none 0 0)).size = 1 := rfl
      rw [this, len2]
      simp
      omega
    · intro i hi
      rw [Nat.zero_add, Array.getElem?_append_left (by simp; rw [h.len]; simpa using hi)]
      have hi2 : i < (vs ++ [rowv]).length := by rw [len2]; exact hi
      simp only [List.getElem?_toArray, List.getD, List.getElem?_eq_getElem hi2, Option.getD_some]
  have Asz : w.heap.size ≤ A.heap.size := B.size
  have lt2 : ∀ o, A.heap.size < (A.drew.alloc o).heap.size := fun o => by show A.heap.size < (A.heap.push o).size; simp
  rcases h'.form with ⟨rfl, rfl⟩ | ⟨g, o, cap, cur, rfl, e, f1, f2, f3, f4⟩
  · have v0 : vs = [] := by have := h.len; simpa using this
    subst v0
    have q := fun ty => run_append_grow_src (P := Tryz.prog) A 27 27 ty 47 i0 (.slice none 0 0) hu hi hz0 none 0 0 [] (by rw [run_firstCells_none]) _ 1 [rowv] hs (by omega) (by omega) (by rw [hz2]; simp [Builtin.nextslicecap])
    exact ⟨_, _, _, _, q, (grown 0).1, (grown 0).2 _, .inr Asz, lt2 _⟩
  · by_cases hroom : past.length + 1 ≤ cap
    · have ha : (A.setCells g (o + past.length * i0.size) [rowv]) = A.setCell ⟨g, o + past.length, none⟩ rowv := by simp [World.setCells, hz1]
      have cl : A.cell? ⟨g, o + past.length, none⟩ = cur[o + past.length]? := by simp [World.cell?, e]
      have q := fun ty => run_append_room_src (P := Tryz.prog) A 27 27 ty 47 i0 hu hi g o past.length cap _ 1 [rowv] hs hroom (by
        intro j hj
        have j0 : j = 0 := by simpa using hj
        subst j0
        rw [hz1, Nat.mul_one, Nat.add_zero, cl, Array.getElem?_eq_getElem (by omega)]
        rfl) (by
        intro j hj
        simp [World.frozen?, e])
      rw [ha] at q
      have gs : g < A.heap.size := (Array.getElem?_eq_some_iff.1 e).1
      have bk : BkP A g cur 47 := e
      have b1 := bk.set2 (o + past.length) rowv (by omega)
      have hne : g ≠ w.heap.size := by
        intro z
        subst z
        have e1 := h.lt w.heap.size rfl
        obtain ⟨c2, e2⟩ := e1
        have := (Array.getElem?_eq_some_iff.1 e2).1
        omega
      have glt : g < w.heap.size := by
        obtain ⟨c2, e2⟩ := h.lt g rfl
        exact (Array.getElem?_eq_some_iff.1 e2).1
      have kp : Kp A (A.setCell ⟨g, o + past.length, none⟩ rowv) (fun k => k = g) := ⟨rfl, rfl, rfl, by rw [set_size]; exact Nat.le_refl _, fun k hk hn => bk_block hn⟩
      have nt : ∀ (y : Nat) (c : Array Value) (fr : Nat × Nat), y = g → A.heap[y]? ≠ some (.cells c 73 fr) := by
        rintro y c fr rfl z
        rw [e] at z
        injection z with z
        injection z with z1 z2
        exact absurd z2 (by decide)
      refine ⟨g, o, cap, _, q, ⟨len2, rows (fun i hi => (h'.rows i hi).keep kp nt) (hr'.keep kp nt), one, .inr ⟨g, o, cap, _, by simp, b1, by simp; omega, by simpa using hroom, f3, ?_⟩⟩, ?_, .inl rfl, by rw [set_size]; exact gs⟩
      · intro i hi
        simp at hi
        by_cases z : i = past.length
        · subst z
          have : (vs ++ [rowv]).getD past.length default = rowv := by rw [← h.len]; exact getD_snoc_eq
          rw [this]
          simp [Array.set!, show o + past.length < cur.size by omega]
        · rw [getD_snoc_lt (by rw [h.len]; omega), ← f4 i (by omega)]
          simp only [Array.set!_eq_setIfInBounds]
          rw [Array.getElem?_setIfInBounds_ne (by omega)]
      · refine (Kp.below B (fun k => k = g)).trans kp (fun _ _ z => z) |>.mono ?_
        rintro k rfl
        rfl
    · have q := fun ty => run_append_grow_src (P := Tryz.prog) A 27 27 ty 47 i0 (.slice none 0 0) hu hi hz0 (some ⟨g, o, none⟩) past.length cap vs (by
        refine run_firstCells_some (P := Tryz.prog) A.drew i0.size past.length ⟨g, o, none⟩ past.length cap vs (by rw [hz1, h.len, Nat.mul_one]) ?_
        intro j v hj
        have hjl : j < past.length := by rw [← h.len]; exact (List.getElem?_eq_some_iff.1 hj).1
        rw [Addr.add_lit]
        have := f4 j hjl
        have ed : A.drew.heap[g]? = some (.cells cur 47 (0, 0)) := e
        simp only [World.cell?, ed]
        show cur[o + j]? = some v
        rw [this]
        simp [List.getD, hj]) _ 1 [rowv] hs (by omega) (by omega) (growslice_fits (by omega) (by rw [hz2]; omega))
      exact ⟨_, _, _, _, q, (grown cap).1, (grown cap).2 _, .inr Asz, lt2 _⟩
end Go.Proofs.YtpfjnnkjoabgbaaGreatDoor

namespace Go.Proofs.YtpfjnnkjoabgbaaGreatDoor
open Go.RowKit
set_option linter.unusedVariables false
set_option linter.unusedSimpArgs false
theorem day_up {p : Pg} (h : dayP p) : ∀ i j, i < j → j < p.days.length → (p.days.getD i default).day < (p.days.getD j default).day := by
  intro i j hij
  induction j with
  | zero => omega
  | succ j ih =>
    intro hj
    have a := (h.1 (j + 1) hj).1
    simp only [preD] at a
    by_cases e : i = j
    · subst e; exact a
    · have := ih (by omega) (by omega); omega
theorem days_few {p : Pg} (h : dayP p) (h0 : 0 ≤ p.hor) (h1 : p.hor ≤ 3660) : p.days.length ≤ 4000 := by
  have := preD_le (k := p.days.length) h.1 h0
  omega
theorem dayCode_found {p : Pg} (h : dayP p) {k : Nat} (hk : k < p.days.length) {t : Int} (e : (p.days.getD k default).day = t) : dayCode p.days t = (p.days.getD k default).code := by
  have up := day_up h
  rcases dayCode_at p.days t with ⟨_, q⟩ | ⟨i, hi, hd, q⟩
  · rcases q k hk with z | z
    · exact absurd e z
    · exact z.elim
  · have : i = k := by
      rcases Nat.lt_trichotomy i k with z | z | z
      · have := up i k z hk; omega
      · exact z
      · have := up k i z hi; omega
    rw [q, this]
theorem dayCode_none {p : Pg} {t : Int} (h : ∀ i, i < p.days.length → (p.days.getD i default).day ≠ t) : dayCode p.days t = [] := by
  rcases dayCode_at p.days t with ⟨q, _⟩ | ⟨i, hi, hd, q⟩
  · exact q
  · exact absurd hd (h i hi)
/-- What codeOf leaves. -/
structure CoE (w : World) (p : Pg) (t : Int) (e : Ending) (w' : World) : Prop where
  bel : Below w.heap.size w w'
  ret : ∃ v, e = .returned v ∧ CdE p.days t v
set_option maxRecDepth 100000 in
set_option maxHeartbeats 1600000 in
theorem codeOf_any {w : World} {mb : Nat} {p : Pg} (c7 : w.cell? ⟨mb, 7, none⟩ = some (.slice p.da p.days.length p.dc)) (h : PV w p) (hd : dayP p) (h0 : 0 ≤ p.hor) (h1 : p.hor ≤ 3660) (t : Int) : Calls Tryz.prog 44 #[.pointer (some ⟨mb, 0, none⟩), .int .i64 t] w fun e w' => CoE w p t e w' := by
  have KB := Lib.hid (bsf_any h.days t (days_few hd h0 h1) (day_up hd))
  have DR := Lib.hid h.days.2.2.2.2
  have FO := Lib.hid (fun k hk e => dayCode_found (p := p) (k := k) (t := t) hd hk e)
  have NO := Lib.hid (fun q => dayCode_none (p := p) (t := t) q)
  have UP := Lib.hid (day_up hd)
  have nf := days_few hd h0 h1
  have C7 := Lib.hid (fun V (b : Below w.heap.size w V) => below_cell b c7)
  clear h hd h0 h1
  obtain ⟨na, nc, names, ua, uc, curs, pa, pc, pool, hor, cells, slots, stack, da, dc, days⟩ := p
  simp only at *
  go_enter Tryz.func44, Tryz.ntmps44
  go_wp2_with fail
  go_at_call 57
  refine KB.out.mono ?_
  intro e w1 hb
  obtain ⟨k, hk, rfl, b1, u1, u2⟩ := hb
  have B1 := Lib.hid b1
  have c71 := C7.out w1 b1
  by_cases hfd : k < days.length ∧ (days.getD k default).day = t
  · rw [decide_eq_true hfd]
    obtain ⟨hk2, hdt⟩ := hfd
    have E := Lib.hid (p := CdE days t (.slice (days.getD k default).ca (days.getD k default).code.length (days.getD k default).cc)) (.inr ⟨k, hk2, hdt, FO.out k hk2 hdt, rfl⟩)
    obtain ⟨x, o, hda, hx, hc⟩ := (DR.out.later b1).oneP (by omega)
    have q1 := hc k hk2 1 (by omega)
    simp only [Sg.cs, List.getD_cons_zero, List.getD_cons_succ] at q1
    have k0 : ¬ (k : Int) < 0 := by omega
    have k1 : (k : Int) < (days.length : Int) := by omega
    generalize days.getD k default = s at *
    obtain ⟨sd, sa, sc, sl⟩ := s
    simp only at q1 E
    subst hda
    clear hc b1 u1 u2 hdt
    go_wp2
    go_ret
    exact ⟨B1.out, _, rfl, E.out⟩
  · rw [decide_eq_false hfd]
    have E := Lib.hid (p := CdE days t (.slice none 0 0)) (.inl ⟨NO.out (fun i hi z => by
      by_cases a : i < k
      · have := u1 i a; omega
      · have i1 := u2 k (Nat.le_refl _) (by omega)
        by_cases c : i = k
        · subst c; exact hfd ⟨hi, z⟩
        · have := UP.out k i (by omega) hi
          omega), rfl⟩)
    clear b1 u1 u2 hfd
    go_wp2
    go_ret
    exact ⟨B1.out, _, rfl, E.out⟩
end Go.Proofs.YtpfjnnkjoabgbaaGreatDoor

namespace Go.Proofs.YtpfjnnkjoabgbaaGreatDoor
open Go.RowKit
set_option linter.unusedVariables false
set_option linter.unusedSimpArgs false
theorem make_int0 (m : Nat) (hm : m ≤ 1000000) (W : World) : (Instr.makeSlice 23 (.int .i64 0) (.int .i64 (m : Int))).run Tryz.prog W = .ok (.slice (some ⟨W.heap.size, 0, none⟩) 0 m) (W.alloc (.cells (madeCells #[.int .i64 0] m) 3)) := by
  obtain ⟨i0, hi, hz0, hz1, hz2⟩ := info_parts infoZ
  have := run_make (P := Tryz.prog) W 23 3 i0 _ Tryz.underlying23 hi hz0 .i64 .i64 0 m (by omega) (by omega) (by rw [hz2]; omega) (by omega)
  rw [hz1] at this
  simpa [Value.cells] using this
/-- What begin leaves. -/
structure BgE (w : World) (mb : Nat) (p : Pg) (t : Int) (row : List Cl) (e : Ending) (w' : World) : Prop where
  bel : Below w.heap.size w w'
  ret : ∃ rb gr sb cap codev, e = .returned (.pointer (some ⟨rb, 0, none⟩)) ∧ w.heap.size ≤ rb ∧ w.heap.size ≤ gr ∧ w.heap.size ≤ sb ∧ BkP w' rb #[.pointer (some ⟨mb, 0, none⟩), codev, .int .i64 0, .bool false, .slice (some ⟨gr, 0, none⟩) p.names.length p.names.length, .slice (some ⟨sb, 0, none⟩) 0 cap, .slice none 0 0, .slice none 0 0] 83 ∧ Rc w' gr (fitR p.names.length row) ∧ OwZ w' w.heap.size (.slice (some ⟨sb, 0, none⟩) 0 cap) [] ∧ CdE p.days t codev
theorem bg_a {w w1 V w2 : World} {mb nn g mm : Nat} {p : Pg} {t : Int} {row : List Cl} {codev : Value} (hn : p.names.length = nn) (hl : nn ≤ 64) (b1 : Below w.heap.size w w1) (b : Below w1.heap.size w1 V) (hf : w.heap.size ≤ g ∧ Below V.heap.size V w2 ∧ Rc w2 g (fitR nn row)) (hm : mm ≤ 1000000) (hv : CdE p.days t codev) : BgE w mb p t row (.returned (.pointer (some ⟨w2.heap.size + 1, 0, none⟩))) ((w2.alloc (Obj.cells (madeCells #[Value.int IntKind.i64 0] mm) 3)).alloc (Obj.cells #[.pointer (some ⟨mb, 0, none⟩), codev, .int .i64 0, .bool false, .slice (some ⟨g, 0, none⟩) nn nn, .slice (some ⟨w2.heap.size, 0, none⟩) 0 mm, .slice none 0 0, .slice none 0 0] 83)) := by
  subst hn
  obtain ⟨f1, f2, f3⟩ := hf
  have bV := b1.trans (b.mono b1.size)
  have b2 := bV.trans (f2.mono bV.size)
  have a1 := allocBP w2 (Obj.cells (madeCells #[Value.int IntKind.i64 0] mm) 3)
  have a2 := allocBP (w2.alloc (Obj.cells (madeCells #[Value.int IntKind.i64 0] mm) 3)) (Obj.cells #[.pointer (some ⟨mb, 0, none⟩), codev, .int .i64 0, .bool false, .slice (some ⟨g, 0, none⟩) p.names.length p.names.length, .slice (some ⟨w2.heap.size, 0, none⟩) 0 mm, .slice none 0 0, .slice none 0 0] 83)
  have aa := a1.trans (a2.mono a1.size)
  have sz : (w2.alloc (Obj.cells (madeCells #[Value.int IntKind.i64 0] mm) 3)).heap.size = w2.heap.size + 1 := by simp
  refine ⟨b2.trans (aa.mono b2.size), w2.heap.size + 1, g, w2.heap.size, mm, codev, rfl, by have := b2.size; omega, f1, b2.size, ?_, ?_, ?_, hv⟩
  · have := heapN (w2.alloc (Obj.cells (madeCells #[Value.int IntKind.i64 0] mm) 3)) (Obj.cells #[.pointer (some ⟨mb, 0, none⟩), codev, .int .i64 0, .bool false, .slice (some ⟨g, 0, none⟩) p.names.length p.names.length, .slice (some ⟨w2.heap.size, 0, none⟩) 0 mm, .slice none 0 0, .slice none 0 0] 83)
    rw [sz] at this
    exact this
  · exact rc_block (f3.block.laterM aa) (by rw [fitR_len]; omega)
  · exact (OwZ.made w2 w.heap.size mm _ b2.size (by unfold maxLen; omega) (by simp [madeCells])).lat a2
theorem bg_b {w w1 V w2 : World} {mb nn g mm : Nat} {p : Pg} {t : Int} {row : List Cl} {codev : Value} (hn : p.names.length = nn) (hl : nn ≤ 64) (b1 : Below w.heap.size w w1) (b : Below (w1.alloc (Obj.cells (madeCells #[Value.int IntKind.i64 0] mm) 3)).heap.size (w1.alloc (Obj.cells (madeCells #[Value.int IntKind.i64 0] mm) 3)) V) (hf : w.heap.size ≤ g ∧ Below V.heap.size V w2 ∧ Rc w2 g (fitR nn row)) (hm : mm ≤ 1000000) (hv : CdE p.days t codev) : BgE w mb p t row (.returned (.pointer (some ⟨w2.heap.size, 0, none⟩))) (w2.alloc (Obj.cells #[.pointer (some ⟨mb, 0, none⟩), codev, .int .i64 0, .bool false, .slice (some ⟨g, 0, none⟩) nn nn, .slice (some ⟨w1.heap.size, 0, none⟩) 0 mm, .slice none 0 0, .slice none 0 0] 83)) := by
  subst hn
  obtain ⟨f1, f2, f3⟩ := hf
  have a1 := allocBP w1 (Obj.cells (madeCells #[Value.int IntKind.i64 0] mm) 3)
  have bA := b1.trans (a1.mono b1.size)
  have bV := bA.trans (b.mono bA.size)
  have b2 := bV.trans (f2.mono bV.size)
  have a2 := allocBP w2 (Obj.cells #[.pointer (some ⟨mb, 0, none⟩), codev, .int .i64 0, .bool false, .slice (some ⟨g, 0, none⟩) p.names.length p.names.length, .slice (some ⟨w1.heap.size, 0, none⟩) 0 mm, .slice none 0 0, .slice none 0 0] 83)
  have st := (((OwZ.made w1 w.heap.size mm _ b1.size (by unfold maxLen; omega) (by simp [madeCells])).lat b).lat f2).lat a2
  refine ⟨b2.trans (a2.mono b2.size), w2.heap.size, g, w1.heap.size, mm, codev, rfl, b2.size, f1, b1.size, heapN _ _, ?_, st, hv⟩
  exact rc_block (f3.block.laterM a2) (by rw [fitR_len]; omega)
set_option maxRecDepth 100000 in
set_option maxHeartbeats 1600000 in
theorem begin_any {w : World} {mb : Nat} {p : Pg} {n : Nds} {t : Int} (c0 : w.cell? ⟨mb, 0, none⟩ = some (.slice p.na p.names.length p.nc)) (c7 : w.cell? ⟨mb, 7, none⟩ = some (.slice p.da p.days.length p.dc)) (c8 : w.cell? ⟨mb, 8, none⟩ = some (.int .i64 n.stack)) (c11 : w.cell? ⟨mb, 11, none⟩ = some (.int .i64 t)) (h : PV w p) (hd : dayP p) (h0 : 0 ≤ p.hor) (h1 : p.hor ≤ 3660) (s0 : 0 ≤ n.stack) (s1 : n.stack ≤ 16384) (hn : p.names.length ≤ 64) {a : Option Addr} {m cap : Nat} {row : List Cl} (hr : RC w a m row) :
    Calls Tryz.prog 28 #[.pointer (some ⟨mb, 0, none⟩), .slice a m cap] w fun e w' => BgE w mb p t row e w' := by
  have KC := Lib.hid (codeOf_any c7 h hd h0 h1 t)
  have KF := Lib.hid (fun V (b : Below w.heap.size w V) => mfit_any (cap := cap) (below_cell b c0) (by omega) (hr.later b))
  have KF2 := Lib.hid (p := ∀ w1, Below w.heap.size w w1 → ∀ V, Below w1.heap.size w1 V → Calls Tryz.prog 45 #[.pointer (some ⟨mb, 0, none⟩), .slice a m cap] V fun e w' => ∃ g, e = .returned (.slice (some ⟨g, 0, none⟩) p.names.length p.names.length) ∧ RowKit.Hid (w.heap.size ≤ g ∧ Below V.heap.size V w' ∧ Rc w' g (fitR p.names.length row)) ∧ w'.cell? ⟨mb, 8, none⟩ = some (.int .i64 n.stack)) (fun w1 b1 V b => by
    have bb := b1.trans (b.mono b1.size)
    refine (KF.out V bb).mono ?_
    rintro e w' ⟨rfl, b2, r⟩
    exact ⟨_, rfl, ⟨bb.size, b2, r⟩, below_cell (bb.trans (b2.mono bb.size)) c8⟩)
  have C8 := Lib.hid (fun V (b : Below w.heap.size w V) => below_cell b c8)
  generalize hnn : p.names.length = nn at *
  have hnn2 := Lib.hid hnn
  clear h hr hd h0 h1 c0 c7 hnn KF
  go_enter Tryz.func28, Tryz.ntmps28
  go_wp2_with fail
  go_at_call 44
  refine KC.out.mono ?_
  intro e w1 hb
  obtain ⟨b1, v, rfl, hv⟩ := hb
  obtain ⟨ca, cl, cc, rfl⟩ : ∃ ca cl cc, v = .slice ca cl cc := by
    rcases hv with ⟨_, rfl⟩ | ⟨i, _, _, _, rfl⟩
    · exact ⟨_, _, _, rfl⟩
    · exact ⟨_, _, _, rfl⟩
  have c8' := C8.out w1 b1
  obtain ⟨mm, hmm⟩ : ∃ mm : Nat, min n.stack (cl : Int) = (mm : Int) := ⟨(min n.stack (cl : Int)).toNat, by omega⟩
  have m6 : mm ≤ 1000000 := by omega
  have mk := make_int0 mm m6
  have B1 := Lib.hid b1
  have HV := Lib.hid hv
  generalize n.stack = ns at *
  clear b1 hv
  go_wp2
  go_region_held3 (fun w' => w'.cell? ⟨mb, 8, none⟩ = some (.int .i64 ns))
    (go_keep)
    (first | (go_at_call 45; refine (KF2.out w1 B1.out _ (by first | exact drew1 _ | exact adr _ _ | exact allocBP _ _)).mono ?_; rintro e w2 ⟨g, rfl, hf, c82⟩))
  all_goals go_wp2
  all_goals go_ret
  all_goals first
    | exact bg_a hnn2.out hn B1.out (drew1 _) hf.out m6 HV.out
    | exact bg_b hnn2.out hn B1.out (Below.refl _ _) hf.out m6 HV.out
    | exact bg_b hnn2.out hn B1.out (drew1 _) hf.out m6 HV.out
end Go.Proofs.YtpfjnnkjoabgbaaGreatDoor

namespace Go.Proofs.YtpfjnnkjoabgbaaGreatDoor
open Go.RowKit
set_option linter.unusedVariables false
set_option linter.unusedSimpArgs false
/-- The first one let go: its cell is cleared, the list begins one further. -/
theorem drop_row {w : World} {g o cap : Nat} {l : List (List Cl)} {vs : List Value} (h : PaV w (.slice (some ⟨g, o, none⟩) l.length cap) l vs) (hl : 0 < l.length) {o' : Nat} (ho : (cap = 1 ∧ o' = o) ∨ (cap ≠ 1 ∧ o' = o + 1)) : PaV (w.setCell ⟨g, o, none⟩ (.slice none 0 0)) (.slice (some ⟨g, o', none⟩) (l.length - 1) (cap - 1)) (l.drop 1) (vs.drop 1) := by
  rcases h.form with ⟨e, _⟩ | ⟨g', o2, cap', cur, e, hg, f1, f2, f3, f4⟩
  · cases e
  · injection e with e q1 q2
    injection e with e
    injection e with e e2
    subst e e2 q2
    have bk : BkP w g cur 47 := hg
    have b1 := bk.set2 o (.slice none 0 0) (by omega)
    have kp : Kp w (w.setCell ⟨g, o, none⟩ (.slice none 0 0)) (fun k => k = g) := ⟨rfl, rfl, rfl, by rw [set_size]; exact Nat.le_refl _, fun k hk hn => bk_block hn⟩
    have nt : ∀ (y : Nat) (c : Array Value) (fr : Nat × Nat), y = g → w.heap[y]? ≠ some (.cells c 73 fr) := by
      rintro y c fr rfl z
      rw [hg] at z
      injection z with z
      injection z with z1 z2
      exact absurd z2 (by decide)
    have gd : ∀ {α : Type} (m : List α) (d : α) (i : Nat), (m.drop 1).getD i d = m.getD (i + 1) d := by
      intro α m d i
      simp [List.getD, Nat.add_comm]
    refine ⟨by simp [h.len], ?_, fun u hu => h.one u (List.mem_of_mem_drop hu), .inr ⟨g, o', cap - 1, _, by simp, b1, ?_, ?_, by omega, ?_⟩⟩
    · intro i hi
      rw [gd, gd]
      have hi' : i + 1 < l.length := by simp at hi; omega
      exact (h.rows (i + 1) hi').keep kp nt
    · simp; rcases ho with ⟨a, b⟩ | ⟨a, b⟩ <;> omega
    · simp; omega
    · intro i hi
      have hi' : i + 1 < l.length := by simp at hi; omega
      rw [gd, ← f4 (i + 1) hi']
      rcases ho with ⟨a, b⟩ | ⟨a, b⟩
      · omega
      · subst b
        simp only [Array.set!_eq_setIfInBounds]
        rw [Array.getElem?_setIfInBounds_ne (by omega)]
        congr 1
        omega
theorem Kp.set {w W : World} {S : Nat → Prop} (h : Kp w W S) {b : Nat} (hb : S b ∨ w.heap.size ≤ b) (j : Nat) (x : Value) : Kp w (W.setCell ⟨b, j, none⟩ x) S := ⟨h.os, h.tape, h.out, by rw [set_size]; exact h.size, fun k hk hn => (bk_block (fun z => by
  subst z
  rcases hb with q | q
  · exact hn q
  · omega)).trans (h.blk k hk hn)⟩
theorem PaV.setM {W : World} {v : Value} {l : List (List Cl)} {vs : List Value} (h : PaV W v l vs) {mb : Nat} {arr : Array Value} (hb : BkP W mb arr 75) (j : Nat) (x : Value) : PaV (W.setCell ⟨mb, j, none⟩ x) v l vs := by
  have kp : Kp W (W.setCell ⟨mb, j, none⟩ x) (fun k => k = mb) := ⟨rfl, rfl, rfl, by rw [set_size]; exact Nat.le_refl _, fun k hk hn => bk_block hn⟩
  refine h.keep kp ?_ ?_
  · rintro y c fr rfl z
    have e := hb.symm.trans z
    injection e with e
    injection e with z1 z2
    exact absurd z2 (by decide)
  · rintro g hg rfl
    obtain ⟨c, e⟩ := h.lt g hg
    exact bk_ne hb e (by decide) rfl
/-- What close leaves. -/
structure ClE (w : World) (mb : Nat) (p : Pg) (n : Nds) (td st : Int) (cev pav : Value) (past : List (List Cl)) (row : List Cl) (f : Int) (w' : World) : Prop where
  new : ∃ pav' vs', BkP w' mb (mArr p n (td + 1) st cev pav' f (if f = 0 then 0 else td)) 75 ∧ PaV w' pav' (pastOn n.back past row) vs' ∧ (∀ g, pav'.ownBlock = some g → pav.ownBlock = some g ∨ w.heap.size ≤ g)
  kp : Kp w w' (fun k => k = mb ∨ pav.ownBlock = some k)
theorem fin0 {w W : World} {mb : Nat} {p : Pg} {n : Nds} {td st : Int} {cev pav pv : Value} {past l : List (List Cl)} {row : List Cl} {vs : List Value} (hb : BkP W mb (mArr p n td st cev pv 0 0) 75) (hP : PaV W pv l vs) (e : pastOn n.back past row = l) (hK : Kp w W (fun k => k = mb ∨ pav.ownBlock = some k)) (hg : ∀ g, pv.ownBlock = some g → pav.ownBlock = some g ∨ w.heap.size ≤ g) : ClE w mb p n td st cev pav past row 0 (W.setCell ⟨mb, 11, none⟩ (.int .i64 (td + 1))) := by
  have := hb.set2 11 (.int .i64 (td + 1)) (by simp [mArr])
  refine ⟨⟨pv, vs, by simpa [mArr] using this, ?_, hg⟩, hK.set (.inl (.inl rfl)) _ _⟩
  rw [e]
  exact hP.setM hb _ _
theorem fin1 {w W : World} {mb : Nat} {p : Pg} {n : Nds} {td st f : Int} (hf : f ≠ 0) {cev pav pv : Value} {past l : List (List Cl)} {row : List Cl} {vs : List Value} (hb : BkP W mb (mArr p n td st cev pv 0 0) 75) (hP : PaV W pv l vs) (e : pastOn n.back past row = l) (hK : Kp w W (fun k => k = mb ∨ pav.ownBlock = some k)) (hg : ∀ g, pv.ownBlock = some g → pav.ownBlock = some g ∨ w.heap.size ≤ g) : ClE w mb p n td st cev pav past row f (((W.setCell ⟨mb, 15, none⟩ (.int .i64 f)).setCell ⟨mb, 16, none⟩ (.int .i64 td)).setCell ⟨mb, 11, none⟩ (.int .i64 (td + 1))) := by
  have b1 := hb.set2 15 (.int .i64 f) (by simp [mArr])
  have b2 := b1.set2 16 (.int .i64 td) (by simp [mArr])
  have b3 := b2.set2 11 (.int .i64 (td + 1)) (by simp [mArr])
  refine ⟨⟨pv, vs, ?_, ?_, hg⟩, ((hK.set (.inl (.inl rfl)) _ _).set (.inl (.inl rfl)) _ _).set (.inl (.inl rfl)) _ _⟩
  · rw [if_neg hf]
    simpa [mArr] using b3
  · rw [e]
    exact ((hP.setM hb _ _).setM b1 _ _).setM b2 _ _
set_option maxRecDepth 100000 in
set_option maxHeartbeats 3200000 in
theorem close_any {w : World} {mb : Nat} {p : Pg} {n : Nds} {td st : Int} {cev pav : Value} (hb : BkP w mb (mArr p n td st cev pav 0 0) 75) {past : List (List Cl)} {vs : List Value} (hp : PaV w pav past vs) (hl : past.length ≤ 100000) (ht : 0 ≤ td ∧ td ≤ 100000) {ra : Option Addr} {rn rc : Nat} {row : List Cl} (hr : RwV w (.slice ra rn rc) row) (f : Int) : Calls Tryz.prog 30 #[.pointer (some ⟨mb, 0, none⟩), .slice ra rn rc, .int .i64 f] w fun e w' => e = .returned (.tuple #[]) ∧ ClE w mb p n td st cev pav past row f w' := by
  obtain ⟨g, o, cap, W1, ha, hP, hK, hg, hgl⟩ := app_row hp hl hr
  have hmb : BkP W1 mb (mArr p n td st cev pav 0 0) 75 := (hK.blk mb hb.lt (fun z => by
    obtain ⟨c, e⟩ := hp.lt mb z
    exact bk_ne hb e (by decide) rfl)).trans hb
  obtain ⟨_, _, _, _, a10, a11, a14, a15, a16⟩ := mach_over (s := ⟨td, st, [], [], 0, 0⟩) hb
  simp only at a10 a11 a14 a15 a16
  have hpf : ∃ pa pn pcap, pav = .slice pa pn pcap := by
    rcases hp.form with ⟨e, _⟩ | ⟨g, o, cap, cur, e, _⟩
    · exact ⟨_, _, _, e⟩
    · exact ⟨_, _, _, e⟩
  obtain ⟨pa, pn, pcap, rfl⟩ := hpf
  have f14 := hmb.frozen 14
  have z14 : W1.cell? ⟨mb, 14, none⟩ = some (.slice pa pn pcap) := by rw [hmb.cell]; rfl
  go_enter Tryz.func30, Tryz.ntmps30
  go_wp2_with (at_builtin; refine wp_app_run rfl _ _ 27 rfl _ _ _ W1 rfl rfl ha ?_)
  obtain ⟨W2, hW2⟩ : ∃ W, W1.setCell ⟨mb, 14, none⟩ (.slice (some ⟨g, o, none⟩) (past.length + 1) cap) = W := ⟨_, rfl⟩
  rw [hW2]
  have hb2 : BkP W2 mb (mArr p n td st cev (.slice (some ⟨g, o, none⟩) (past.length + 1) cap) 0 0) 75 := by
    rw [← hW2]
    have := hmb.set2 14 (.slice (some ⟨g, o, none⟩) (past.length + 1) cap) (by simp [mArr])
    simpa [mArr] using this
  have hP2 : PaV W2 (.slice (some ⟨g, o, none⟩) (past.length + 1) cap) (past ++ [row]) (vs ++ [.slice ra rn rc]) := by rw [← hW2]; exact hP.setM hmb _ _
  have hK2 : Kp w W2 (fun k => k = mb ∨ Value.ownBlock (.slice pa pn pcap) = some k) := by rw [← hW2]; exact (hK.mono (fun k z => .inr z)).set (.inl (.inl rfl)) _ _
  clear hW2 hmb f14 z14 a10 a11 a14 a15 a16 hP hK ha hp hb hr
  have z10 : W2.cell? ⟨mb, 10, none⟩ = some (.int .i64 n.back) := by rw [hb2.cell]; rfl
  have z14 : W2.cell? ⟨mb, 14, none⟩ = some (.slice (some ⟨g, o, none⟩) (past.length + 1) cap) := by rw [hb2.cell]; rfl
  go_quiet (fail)
  have hb3 : BkP (W2.drewN nq) mb (mArr p n td st cev (.slice (some ⟨g, o, none⟩) (past.length + 1) cap) 0 0) 75 := hb2
  have hP3 := hP2.lat (drewN_below W2 nq)
  have hK3 : Kp w (W2.drewN nq) (fun k => k = mb ∨ Value.ownBlock (.slice pa pn pcap) = some k) := ⟨hK2.os, hK2.tape, hK2.out, hK2.size, hK2.blk⟩
  generalize W2.drewN nq = W3 at *
  clear hb2 hP2 hK2 z10 z14 hgl
  have z11 : W3.cell? ⟨mb, 11, none⟩ = some (.int .i64 td) := by rw [hb3.cell]; rfl
  have z14 : W3.cell? ⟨mb, 14, none⟩ = some (.slice (some ⟨g, o, none⟩) (past.length + 1) cap) := by rw [hb3.cell]; rfl
  have z15 : W3.cell? ⟨mb, 15, none⟩ = some (.int .i64 0) := by rw [hb3.cell]; rfl
  have z16 : W3.cell? ⟨mb, 16, none⟩ = some (.int .i64 0) := by rw [hb3.cell]; rfl
  have f11 := hb3.frozen 11
  have f14 := hb3.frozen 14
  have f15 := hb3.frozen 15
  have f16 := hb3.frozen 16
  have len1 : (past ++ [row]).length = past.length + 1 := by simp
  rw [← len1] at hP3
  obtain ⟨g', o', cap', cur, he, hcur, k1, k2, k3, k4⟩ : ∃ g' o' cap' cur, Value.slice (some ⟨g, o, none⟩) (past ++ [row]).length cap = .slice (some ⟨g', o', none⟩) (past ++ [row]).length cap' ∧ W3.heap[g']? = some (.cells cur 47 (0, 0)) ∧ o' + cap' ≤ cur.size ∧ (past ++ [row]).length ≤ cap' ∧ cap' ≤ maxLen ∧ ∀ i, i < (past ++ [row]).length → cur[o' + i]? = some ((vs ++ [Value.slice ra rn rc]).getD i default) := by
    rcases hP3.form with ⟨e, _⟩ | q
    · cases e
    · exact q
  injection he with he1 he2 he3
  injection he1 with he1
  injection he1 with he4 he5
  subst he3 he4 he5
  have bg : BkP W3 g cur 47 := hcur
  have zg : W3.cell? ⟨g, o, none⟩ = some ((vs ++ [Value.slice ra rn rc]).getD 0 default) := by
    rw [bg.cell]
    have := k4 0 (by rw [len1]; omega)
    simpa using this
  have fg := bg.frozen o
  have ne1 : ¬ mb = g := bk_ne hb3 bg (by decide)
  have ne2 : ¬ g = mb := fun z => ne1 z.symm
  have ks : IntKind.i64.wrap (td + 1) = td + 1 := by simp [IntKind.wrap, IntKind.bits, IntKind.signed]; omega
  have l1 : (0 : Int) < ((past.length : Int) + 1) := by omega
  have own : ∀ x, Value.ownBlock (.slice (some ⟨g, x, none⟩) 0 0) = some g := fun _ => rfl
  have HB := Lib.hid hb3
  have HP := Lib.hid hP3
  have HK := Lib.hid hK3
  have HG := Lib.hid hg
  have BG := Lib.hid bg
  generalize (vs ++ [Value.slice ra rn rc]).getD 0 default = old at *
  clear hb3 hP3 hK3 hg hcur k4 bg he2
  by_cases hbk : n.back < ((past.length + 1 : Nat) : Int)
  · have eP : pastOn n.back past row = (past ++ [row]).drop 1 := by unfold pastOn; rw [if_pos hbk]
    have d1 : decide (n.back < (past.length : Int) + 1) = true := by simp; omega
    have hbk2 : n.back < (past.length : Int) + 1 := by omega
    have D := Lib.hid (p := ∀ o', ((cap = 1 ∧ o' = o) ∨ (cap ≠ 1 ∧ o' = o + 1)) → BkP ((W3.setCell ⟨g, o, none⟩ (.slice none 0 0)).setCell ⟨mb, 14, none⟩ (.slice (some ⟨g, o', none⟩) past.length (cap - 1))) mb (mArr p n td st cev (.slice (some ⟨g, o', none⟩) past.length (cap - 1)) 0 0) 75 ∧ PaV ((W3.setCell ⟨g, o, none⟩ (.slice none 0 0)).setCell ⟨mb, 14, none⟩ (.slice (some ⟨g, o', none⟩) past.length (cap - 1))) (.slice (some ⟨g, o', none⟩) past.length (cap - 1)) ((past ++ [row]).drop 1) ((vs ++ [Value.slice ra rn rc]).drop 1) ∧ Kp w ((W3.setCell ⟨g, o, none⟩ (.slice none 0 0)).setCell ⟨mb, 14, none⟩ (.slice (some ⟨g, o', none⟩) past.length (cap - 1))) (fun k => k = mb ∨ Value.ownBlock (.slice pa pn pcap) = some k) ∧ ∀ g2, Value.ownBlock (.slice (some ⟨g, o', none⟩) past.length (cap - 1)) = some g2 → Value.ownBlock (.slice pa pn pcap) = some g2 ∨ w.heap.size ≤ g2) (fun o' ho => by
      have b0 := HB.out.other g o (.slice none 0 0) ne2
      have b1 := b0.set2 14 (.slice (some ⟨g, o', none⟩) past.length (cap - 1)) (by simp [mArr])
      have q := drop_row HP.out (by rw [len1]; omega) ho
      rw [len1, Nat.add_sub_cancel] at q
      refine ⟨by simpa [mArr] using b1, q.setM b0 _ _, (HK.out.set ?_ _ _).set (.inl (.inl rfl)) _ _, ?_⟩
      · rcases HG.out with z | z
        · exact .inl (.inr z)
        · exact .inr z
      · intro g2 h2
        simp only [Value.ownBlock, Option.some.injEq] at h2
        subst h2
        exact HG.out)
    clear HP HB
    by_cases hc1 : cap = 1
    · subst hc1
      obtain ⟨d2, d3, d4, d5⟩ := D.out o (.inl ⟨rfl, rfl⟩)
      have D2 := Lib.hid d2
      have D3 := Lib.hid d3
      have D4 := Lib.hid d4
      have D5 := Lib.hid d5
      clear D d2 d3 d4 d5
      by_cases hf : f = 0
      · subst hf
        go_wp2
        go_end0
        exact ⟨rfl, fin0 D2.out D3.out eP D4.out D5.out⟩
      · have z : (f != 0) = true := by simpa using hf
        go_wp2
        go_end0
        exact ⟨rfl, fin1 hf D2.out D3.out eP D4.out D5.out⟩
    · obtain ⟨d2, d3, d4, d5⟩ := D.out (o + 1) (.inr ⟨hc1, rfl⟩)
      have D2 := Lib.hid d2
      have D3 := Lib.hid d3
      have D4 := Lib.hid d4
      have D5 := Lib.hid d5
      clear D d2 d3 d4 d5
      by_cases hf : f = 0
      · subst hf
        go_wp2
        go_end0
        exact ⟨rfl, fin0 D2.out D3.out eP D4.out D5.out⟩
      · have z : (f != 0) = true := by simpa using hf
        go_wp2
        go_end0
        exact ⟨rfl, fin1 hf D2.out D3.out eP D4.out D5.out⟩
  · have eP : pastOn n.back past row = past ++ [row] := by unfold pastOn; rw [if_neg hbk]
    have d1 : decide (n.back < (past.length : Int) + 1) = false := by simp; omega
    have hbk2 : (n.back < (past.length : Int) + 1) = False := by simp; omega
    have G2 := Lib.hid (p := ∀ g2, Value.ownBlock (.slice (some ⟨g, o, none⟩) (past ++ [row]).length cap) = some g2 → Value.ownBlock (.slice pa pn pcap) = some g2 ∨ w.heap.size ≤ g2) (fun g2 h2 => by
      simp only [Value.ownBlock, Option.some.injEq] at h2
      subst h2
      exact HG.out)
    rw [len1] at G2 HP
    by_cases hf : f = 0
    · subst hf
      go_wp2
      go_end0
      exact ⟨rfl, fin0 HB.out HP.out eP HK.out G2.out⟩
    · have z : (f != 0) = true := by simpa using hf
      go_wp2
      go_end0
      exact ⟨rfl, fin1 hf HB.out HP.out eP HK.out G2.out⟩
end Go.Proofs.YtpfjnnkjoabgbaaGreatDoor
