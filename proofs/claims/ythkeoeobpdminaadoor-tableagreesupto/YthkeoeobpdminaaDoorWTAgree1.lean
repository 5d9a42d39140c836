/-
  WALKS: rowOn, cellIn, Cell (the document's).
-/
import Derived.Test.YthkeoeobpdminaaDoorPlainAgree
import Derived.Test.YthkeoeobpdminaaDoorWTRValid
namespace Go.Proofs.YthkeoeobpdminaaDoor
open Go.RowKit
set_option linter.unusedVariables false
set_option linter.unusedSimpArgs false

/-- A row that is answered. -/
def RowE (w : World) (cs : List Cl) (e : Ending) : Prop := ∃ a n c, e = .returned (.slice a n c) ∧ RC w a n cs
set_option maxHeartbeats 2000000 in
theorem rowOn_any (an ar : Option Addr) (ln cn lr cr d : Nat) (rs : List Rw) (w : World) (k : RL w ar lr rs) (hd : d ≤ 5864062014640) :
    Calls Tryd.prog 46 #[.agg #[.slice an ln cn, .slice ar lr cr], .int .i64 (d : Int)] w fun e w' => RowE w ((rs.map (·.cs)).getD d []) e ∧ Below w.heap.size w w' := by
  have hB0 : Below w.heap.size w (w.alloc (.cells #[.slice an ln cn, .slice ar lr cr] 25)) := (Below.refl _ w).alloc (Nat.le_refl _) _
  have hlr := k.2.1
  by_cases hlt : d < lr
  · obtain ⟨x, o, rfl, hx, hcs⟩ : ∃ x o, ar = some ⟨x, o, none⟩ ∧ x < w.heap.size ∧ ∀ i, i < lr → w.cell? ⟨x, o + i, none⟩ = some (.slice (rs.getD i default).a (rs.getD i default).n (rs.getD i default).cap) := by
      rcases k.2.2.2 with h0 | h0
      · omega
      · exact h0
    have c0 := (hB0.cell (p := ⟨x, o + d, none⟩) hx).trans (hcs d hlt)
    have dc : (d : Int) < (lr : Int) := by omega
    have hk' : d < rs.length := by rw [k.1]; exact hlt
    have R := Lib.hid (p := RC w (rs.getD d default).a (rs.getD d default).n ((rs.map (·.cs)).getD d [])) (by
      have e : (rs.map (·.cs)).getD d [] = (rs.getD d default).cs := by simp [List.getD, hk']
      rw [e]
      refine (k.2.2.1 _ ?_).1
      rw [show rs.getD d default = rs[d] by simp [List.getD, hk']]; exact List.getElem_mem hk')
    have B0 := Lib.hid hB0
    clear hcs k hB0
    generalize rs.getD d default = r at *
    generalize (rs.map (·.cs)).getD d [] = CS at *
    go_enter Tryd.func46, Tryd.ntmps46
    go_wp2
    go_ret
    exact ⟨⟨_, _, _, rfl, R.out⟩, B0.out⟩
  · have dc : ¬ (d : Int) < (lr : Int) := by omega
    have dc2 : (lr : Int) ≤ (d : Int) := by omega
    have R := Lib.hid (p := RC w none 0 ((rs.map (·.cs)).getD d [])) (by
      have e : (rs.map (·.cs)).getD d [] = [] := by
        simp only [List.getD]; rw [List.getElem?_eq_none (by rw [List.length_map, k.1]; omega)]; rfl
      rw [e]
      exact ⟨rfl, by omega, (fun c hc => by cases hc), .inl rfl⟩)
    have B0 := Lib.hid hB0
    clear k hB0
    generalize (rs.map (·.cs)).getD d [] = CS at *
    go_enter Tryd.func46, Tryd.ntmps46
    go_wp2
    go_ret
    exact ⟨⟨_, _, _, rfl, R.out⟩, B0.out⟩

/-- A cell of a row, by a column or nowhere. -/
def atC (cs : List Cl) (c : Int) : Cl := if c < 0 then default else cs.getD c.toNat default
set_option maxHeartbeats 2000000 in
theorem cellIn_any (a : Option Addr) (n cap : Nat) (cs : List Cl) (c : Int) (w : World) (h : RC w a n cs) (hc : -1 ≤ c) :
    Calls Tryd.prog 47 #[.slice a n cap, .int .i64 c] w fun e w' => e = .returned (.agg #[.bool (atC cs c).h, .int .i64 (atC cs c).v]) ∧ Below w.heap.size w w' := by
  have hB0 : Below w.heap.size w (w.alloc (.cells #[.bool false, .int .i64 0] 35)) := (Below.refl _ w).alloc (Nat.le_refl _) _
  by_cases hm : c = -1
  · subst hm
    go_enter Tryd.func47, Tryd.ntmps47
    go_wp2
    exact bodyPost_ret (v := .agg #[.bool false, .int .i64 0]) (by simp [results, Tryd.results47, go_sem]) rfl ⟨rfl, by first | exact hB0 | exact (hB0.setCell (p := ⟨w.heap.size, 0, none⟩) (by simp) _).setCell (p := ⟨w.heap.size, 1, none⟩) (by simp) _⟩
  · obtain ⟨j, rfl⟩ : ∃ j : Nat, c = j := ⟨c.toNat, by omega⟩
    have hm2 : ((j : Int) == -1) = false := by rw [beq_eq_false_iff_ne]; exact hm
    obtain ⟨hl, hn, _, h4⟩ := h
    by_cases hlt : j < n
    · obtain ⟨x, o, rfl, hx, hcc⟩ : ∃ x o, a = some ⟨x, o, none⟩ ∧ x < w.heap.size ∧ ∀ i, i < n → CC w x (o + i * 2) (cs.getD i default) := by
        rcases h4 with h0 | h0
        · omega
        · exact h0
      obtain ⟨c0, c1⟩ := (hcc j hlt).later hB0 hx
      have e : atC cs (j : Int) = cs.getD j default := by unfold atC; rw [if_neg (by omega), Int.toNat_natCast]
      rw [e]
      have jc : (j : Int) < (n : Int) := by omega
      have jc2 : ¬ (n : Int) ≤ (j : Int) := by omega
      have j0 : (0 : Int) ≤ (j : Int) := by omega
      have B0 := Lib.hid hB0
      clear hcc e hB0 h4 hl
      generalize cs.getD j default = r at *
      obtain ⟨rh, rv⟩ := r
      simp only at c0 c1 ⊢
      go_enter Tryd.func47, Tryd.ntmps47
      go_wp2
      exact bodyPost_ret (v := .agg #[.bool rh, .int .i64 rv]) (by simp [results, Tryd.results47, go_sem]) rfl ⟨rfl, by first | exact (B0.out.setCell (p := ⟨w.heap.size, 0, none⟩) (by simp) _).setCell (p := ⟨w.heap.size, 1, none⟩) (by simp) _ | exact (Below.refl _ w).alloc (Nat.le_refl _) _⟩
    · have e : atC cs (j : Int) = default := by
        unfold atC; rw [if_neg (by omega), Int.toNat_natCast]
        simp only [List.getD]; rw [List.getElem?_eq_none (by omega)]; rfl
      rw [e]
      have jc : (n : Int) ≤ (j : Int) := by omega
      have B0 := Lib.hid hB0
      clear e hB0 h4 hl
      go_enter Tryd.func47, Tryd.ntmps47
      go_wp2
      exact bodyPost_ret (v := .agg #[.bool false, .int .i64 0]) (by simp [results, Tryd.results47, go_sem]) rfl ⟨rfl, by first | exact B0.out | exact (B0.out.setCell (p := ⟨w.heap.size, 0, none⟩) (by simp) _).setCell (p := ⟨w.heap.size, 1, none⟩) (by simp) _⟩

set_option maxRecDepth 100000 in
set_option maxHeartbeats 4000000 in
theorem rCell_any (an ar : Option Addr) (ln cn lr cr d : Nat) (s : ByteArray) (ss : List ByteArray) (rs : List Rw) (w : World) (h : NL w an ln ss) (k : RL w ar lr rs) (hd : d ≤ 5864062014640) :
    Calls Tryd.prog 29 #[.agg #[.slice an ln cn, .slice ar lr cr], .string s, .int .i64 (d : Int)] w fun e w' => e = .returned (.agg #[.bool (cellT ss (rs.map (·.cs)) s d).h, .int .i64 (cellT ss (rs.map (·.cs)) s d).v]) ∧ Below w.heap.size w w' := by
  have hB0 : Below w.heap.size w ((w.alloc (.cells #[.slice an ln cn, .slice ar lr cr] 25)).alloc (.cells #[.bool false, .int .i64 0] 35)) := ((Below.refl _ w).alloc (Nat.le_refl _) _).alloc (by simp) _
  have KC := Lib.hid (column_any an ln cn ss s _ (h.later hB0))
  have hlr := k.2.1
  have d0 : ¬ (d : Int) < 0 := by omega
  have BZ := Lib.hid (p := ∀ u v, Below w.heap.size w ((((w.alloc (.cells #[.slice an ln cn, .slice ar lr cr] 25)).alloc (.cells #[.bool false, .int .i64 0] 35)).setCell ⟨w.heap.size + 1, 0, none⟩ u).setCell ⟨w.heap.size + 1, 1, none⟩ v)) (fun u v => (hB0.setCell (p := ⟨w.heap.size + 1, 0, none⟩) (by simp) u).setCell (p := ⟨w.heap.size + 1, 1, none⟩) (by simp) v)
  have B0 := Lib.hid hB0
  rcases colF_col ss s with ⟨e, _⟩ | ⟨c, e, h1, h2, _⟩
  · have z : cellT ss (rs.map (·.cs)) s d = default := cell_no (by unfold rawT; rw [if_pos (by omega)]; rfl)
    rw [z]
    rw [e] at KC
    clear e z hB0 h k
    go_enter Tryd.func29, Tryd.ntmps29
    go_wp2_with (go_at_call 25; refine KC.out.mono ?_; rintro e w1 ⟨rfl, rfl⟩)
    exact bodyPost_ret (v := .agg #[.bool false, .int .i64 0]) (by simp [results, Tryd.results29, go_sem]) rfl ⟨rfl, by first | exact B0.out | exact BZ.out _ _⟩
  · rw [e] at KC
    have c0 : ¬ (c : Int) < 0 := by omega
    by_cases hlt : d < lr
    · obtain ⟨x, o, rfl, hx, hcs⟩ : ∃ x o, ar = some ⟨x, o, none⟩ ∧ x < w.heap.size ∧ ∀ i, i < lr → w.cell? ⟨x, o + i, none⟩ = some (.slice (rs.getD i default).a (rs.getD i default).n (rs.getD i default).cap) := by
        rcases k.2.2.2 with h0 | h0
        · omega
        · exact h0
      have r0 := (hB0.cell (p := ⟨x, o + d, none⟩) hx).trans (hcs d hlt)
      have dc : (d : Int) < (lr : Int) := by omega
      have dc2 : ¬ (lr : Int) ≤ (d : Int) := by omega
      have hk' : d < rs.length := by rw [k.1]; exact hlt
      have raw : rawT ss (rs.map (·.cs)) s d = (rs.getD d default).cs.getD c default := by
        unfold rawT
        rw [e, if_neg (by omega), Int.toNat_natCast]
        simp [List.getD, hk']
      obtain ⟨g1, g2, _, g4⟩ := (k.2.2.1 (rs.getD d default) (by
        rw [show rs.getD d default = rs[d] by simp [List.getD, hk']]; exact List.getElem_mem hk')).1
      have CT : cellT ss (rs.map (·.cs)) s d = if ((rs.getD d default).cs.getD c default).h then (rs.getD d default).cs.getD c default else default := by unfold cellT; rw [raw]
      rw [CT]
      clear hcs e k h raw CT
      generalize rs.getD d default = r at *
      obtain ⟨ra, rn, rcap, rcs⟩ := r
      simp only at r0 g1 g2 g4 ⊢
      by_cases hcn : c < rn
      · have cc : (c : Int) < (rn : Int) := by omega
        have cc2 : ¬ (rn : Int) ≤ (c : Int) := by omega
        obtain ⟨y, oy, rfl, hy, hcc⟩ : ∃ y oy, ra = some ⟨y, oy, none⟩ ∧ y < w.heap.size ∧ ∀ i, i < rn → CC w y (oy + i * 2) (rcs.getD i default) := by
          rcases g4 with h0 | h0
          · omega
          · exact h0
        obtain ⟨e0, e1⟩ := (hcc c hcn).later hB0 hy
        clear hcc g1 g4 hB0
        generalize rcs.getD c default = f at *
        obtain ⟨fh, fv⟩ := f
        simp only at e0 e1 ⊢
        cases fh with
        | true =>
          go_enter Tryd.func29, Tryd.ntmps29
          go_wp2_with (go_at_call 25; refine KC.out.mono ?_; rintro e w1 ⟨rfl, rfl⟩)
          exact bodyPost_ret (v := .agg #[.bool true, .int .i64 fv]) (by simp [results, Tryd.results29, go_sem]) rfl ⟨rfl, by first | exact BZ.out _ _ | exact ((Below.refl _ w).alloc (Nat.le_refl _) _).alloc (by simp) _⟩
        | false =>
          go_enter Tryd.func29, Tryd.ntmps29
          go_wp2_with (go_at_call 25; refine KC.out.mono ?_; rintro e w1 ⟨rfl, rfl⟩)
          exact bodyPost_ret (v := .agg #[.bool false, .int .i64 0]) (by simp [results, Tryd.results29, go_sem]) rfl ⟨rfl, by first | exact B0.out | exact BZ.out _ _⟩
      · have cc : (rn : Int) ≤ (c : Int) := by omega
        have z : rcs.getD c default = default := by simp only [List.getD]; rw [List.getElem?_eq_none (by omega)]; rfl
        rw [z]
        clear z g1 g4 hB0
        go_enter Tryd.func29, Tryd.ntmps29
        go_wp2_with (go_at_call 25; refine KC.out.mono ?_; rintro e w1 ⟨rfl, rfl⟩)
        exact bodyPost_ret (v := .agg #[.bool false, .int .i64 0]) (by simp [results, Tryd.results29, go_sem]) rfl ⟨rfl, by first | exact B0.out | exact BZ.out _ _⟩
    · have dc : (lr : Int) ≤ (d : Int) := by omega
      have z : cellT ss (rs.map (·.cs)) s d = default := cell_no (by
        unfold rawT
        rw [e, if_neg (by omega)]
        rw [show (rs.map (·.cs)).getD d [] = [] by simp only [List.getD]; rw [List.getElem?_eq_none (by rw [List.length_map, k.1]; omega)]; rfl]
        simp [def_h])
      rw [z]
      clear e z hB0 h k
      go_enter Tryd.func29, Tryd.ntmps29
      go_wp2_with (go_at_call 25; refine KC.out.mono ?_; rintro e w1 ⟨rfl, rfl⟩)
      exact bodyPost_ret (v := .agg #[.bool false, .int .i64 0]) (by simp [results, Tryd.results29, go_sem]) rfl ⟨rfl, by first | exact B0.out | exact BZ.out _ _⟩
end Go.Proofs.YthkeoeobpdminaaDoor
