import Derived.Test.YtglgdfgdfkeogaaDoorXAD
import Derived.Test.YtglgdfgdfkeogaaDoorXAC
namespace Go.Proofs.YtglgdfgdfkeogaaDoor
open Go.RowKit
set_option linter.unusedVariables false
set_option linter.unusedSimpArgs false

/-- A row that is answered. -/
def RowE (w : World) (cs : List Cl) (e : Ending) : Prop := ∃ a n c, e = .returned (.slice a n c) ∧ RC w a n cs
set_option maxHeartbeats 2000000 in
theorem rowOn_any (an ar : Option Addr) (ln cn lr cr d : Nat) (rs : List Rw) (w : World) (k : RL w ar lr rs) (hd : d ≤ 5864062014640) :
    Calls Tryd.prog 46 #[.agg #[.slice an ln cn, .slice ar lr cr], .int .i64 (d : Int)] w fun e w' => RowE w ((rs.map (·.cs)).getD d []) e ∧ Below w.heap.size w w' := by
  have hB0 : Below w.heap.size w (w.alloc (.cells #[.slice an ln cn, .slice ar lr cr] 25)) := (Below.refl _ w).alloc (Nat.le_refl _) _
  have hlr := k.2.1
  by_cases hlt : d < lr
  · obtain ⟨x, o, rfl, hx, hcs⟩ : ∃ x o, ar = some ⟨x, o, none⟩ ∧ x < w.heap.size ∧ ∀ i, i < lr → w.cell? ⟨x, o + i, none⟩ = some (.slice (rs.getD i default).a (rs.getD i default).n (rs.getD i default).cap) := by
      rcases k.2.2.2 with h0 | h0
      · omega
      · exact h0
    have c0 := (hB0.cell (p := ⟨x, o + d, none⟩) hx).trans (hcs d hlt)
    have dc : (d : Int) < (lr : Int) := by omega
    have hk' : d < rs.length := by rw [k.1]; exact hlt
    have R := Lib.hid (p := RC w (rs.getD d default).a (rs.getD d default).n ((rs.map (·.cs)).getD d [])) (by
      have e : (rs.map (·.cs)).getD d [] = (rs.getD d default).cs := by simp [List.getD, hk']
      rw [e]
      refine (k.2.2.1 _ ?_).1
      rw [show rs.getD d default = rs[d] by simp [List.getD, hk']]; exact List.getElem_mem hk')
    have B0 := Lib.hid hB0
    clear hcs k hB0
    generalize rs.getD d default = r at *
    generalize (rs.map (·.cs)).getD d [] = CS at *
    go_enter Tryd.func46, Tryd.ntmps46
    go_wp2
    go_ret
    exact ⟨⟨_, _, _, rfl, R.out⟩, B0.out⟩
  · have dc : ¬ (d : Int) < (lr : Int) := by omega
    have dc2 : (lr : Int) ≤ (d : Int) := by omega
    have R := Lib.hid (p := RC w none 0 ((rs.map (·.cs)).getD d [])) (by
      have e : (rs.map (·.cs)).getD d [] = [] := by
        simp only [List.getD]; rw [List.getElem?_eq_none (by rw [List.length_map, k.1]; omega)]; rfl
      rw [e]
      exact ⟨rfl, by omega, (fun c hc => by cases hc), .inl rfl⟩)
    have B0 := Lib.hid hB0
    clear k hB0
    generalize (rs.map (·.cs)).getD d [] = CS at *
    go_enter Tryd.func46, Tryd.ntmps46
    go_wp2
    go_ret
    exact ⟨⟨_, _, _, rfl, R.out⟩, B0.out⟩

/-- A cell of a row, by a column or nowhere. -/
def atC (cs : List Cl) (c : Int) : Cl := if c < 0 then default else cs.getD c.toNat default
set_option maxHeartbeats 2000000 in
theorem cellIn_any (a : Option Addr) (n cap : Nat) (cs : List Cl) (c : Int) (w : World) (h : RC w a n cs) (hc : -1 ≤ c) :
    Calls Tryd.prog 36 #[.slice a n cap, .int .i64 c] w fun e w' => e = .returned (.agg #[.bool (atC cs c).h, .int .i64 (atC cs c).v]) ∧ Below w.heap.size w w' := by
  have hB0 : Below w.heap.size w (w.alloc (.cells #[.bool false, .int .i64 0] 53)) := (Below.refl _ w).alloc (Nat.le_refl _) _
  by_cases hm : c = -1
  · subst hm
    go_enter Tryd.func36, Tryd.ntmps36
    go_wp2
    exact bodyPost_ret (v := .agg #[.bool false, .int .i64 0]) (by simp [results, Tryd.results36, go_sem]) rfl ⟨rfl, by first | exact hB0 | exact (hB0.setCell (p := ⟨w.heap.size, 0, none⟩) (by simp) _).setCell (p := ⟨w.heap.size, 1, none⟩) (by simp) _⟩
  · obtain ⟨j, rfl⟩ : ∃ j : Nat, c = j := ⟨c.toNat, by omega⟩
    have hm2 : ((j : Int) == -1) = false := by rw [beq_eq_false_iff_ne]; exact hm
    obtain ⟨hl, hn, _, h4⟩ := h
    by_cases hlt : j < n
    · obtain ⟨x, o, rfl, hx, hcc⟩ : ∃ x o, a = some ⟨x, o, none⟩ ∧ x < w.heap.size ∧ ∀ i, i < n → CC w x (o + i * 2) (cs.getD i default) := by
        rcases h4 with h0 | h0
        · omega
        · exact h0
      obtain ⟨c0, c1⟩ := (hcc j hlt).later hB0 hx
      have e : atC cs (j : Int) = cs.getD j default := by unfold atC; rw [if_neg (by omega), Int.toNat_natCast]
      rw [e]
      have jc : (j : Int) < (n : Int) := by omega
      have jc2 : ¬ (n : Int) ≤ (j : Int) := by omega
      have j0 : (0 : Int) ≤ (j : Int) := by omega
      have B0 := Lib.hid hB0
      clear hcc e hB0 h4 hl
      generalize cs.getD j default = r at *
      obtain ⟨rh, rv⟩ := r
      simp only at c0 c1 ⊢
      go_enter Tryd.func36, Tryd.ntmps36
      go_wp2
      exact bodyPost_ret (v := .agg #[.bool rh, .int .i64 rv]) (by simp [results, Tryd.results36, go_sem]) rfl ⟨rfl, by first | exact (B0.out.setCell (p := ⟨w.heap.size, 0, none⟩) (by simp) _).setCell (p := ⟨w.heap.size, 1, none⟩) (by simp) _ | exact (Below.refl _ w).alloc (Nat.le_refl _) _⟩
    · have e : atC cs (j : Int) = default := by
        unfold atC; rw [if_neg (by omega), Int.toNat_natCast]
        simp only [List.getD]; rw [List.getElem?_eq_none (by omega)]; rfl
      rw [e]
      have jc : (n : Int) ≤ (j : Int) := by omega
      have B0 := Lib.hid hB0
      clear e hB0 h4 hl
      go_enter Tryd.func36, Tryd.ntmps36
      go_wp2
      exact bodyPost_ret (v := .agg #[.bool false, .int .i64 0]) (by simp [results, Tryd.results36, go_sem]) rfl ⟨rfl, by first | exact B0.out | exact (B0.out.setCell (p := ⟨w.heap.size, 0, none⟩) (by simp) _).setCell (p := ⟨w.heap.size, 1, none⟩) (by simp) _⟩

set_option maxRecDepth 100000 in
set_option maxHeartbeats 4000000 in
theorem rCell_any (an ar : Option Addr) (ln cn lr cr d : Nat) (s : ByteArray) (ss : List ByteArray) (rs : List Rw) (w : World) (h : NL w an ln ss) (k : RL w ar lr rs) (hd : d ≤ 5864062014640) :
    Calls Tryd.prog 42 #[.agg #[.slice an ln cn, .slice ar lr cr], .string s, .int .i64 (d : Int)] w fun e w' => e = .returned (.agg #[.bool (cellT ss (rs.map (·.cs)) s d).h, .int .i64 (cellT ss (rs.map (·.cs)) s d).v]) ∧ Below w.heap.size w w' := by
  have hB0 : Below w.heap.size w ((w.alloc (.cells #[.slice an ln cn, .slice ar lr cr] 25)).alloc (.cells #[.bool false, .int .i64 0] 53)) := ((Below.refl _ w).alloc (Nat.le_refl _) _).alloc (by simp) _
  have KC := Lib.hid (column_any an ln cn ss s _ (h.later hB0))
  have hlr := k.2.1
  have d0 : ¬ (d : Int) < 0 := by omega
  have BZ := Lib.hid (p := ∀ u v, Below w.heap.size w ((((w.alloc (.cells #[.slice an ln cn, .slice ar lr cr] 25)).alloc (.cells #[.bool false, .int .i64 0] 53)).setCell ⟨w.heap.size + 1, 0, none⟩ u).setCell ⟨w.heap.size + 1, 1, none⟩ v)) (fun u v => (hB0.setCell (p := ⟨w.heap.size + 1, 0, none⟩) (by simp) u).setCell (p := ⟨w.heap.size + 1, 1, none⟩) (by simp) v)
  have B0 := Lib.hid hB0
  rcases colF_col ss s with ⟨e, _⟩ | ⟨c, e, h1, h2, _⟩
  · have z : cellT ss (rs.map (·.cs)) s d = default := cell_no (by unfold rawT; rw [if_pos (by omega)]; rfl)
    rw [z]
    rw [e] at KC
    clear e z hB0 h k
    go_enter Tryd.func42, Tryd.ntmps42
    go_wp2_with (go_at_call 47; refine KC.out.mono ?_; rintro e w1 ⟨rfl, rfl⟩)
    exact bodyPost_ret (v := .agg #[.bool false, .int .i64 0]) (by simp [results, Tryd.results42, go_sem]) rfl ⟨rfl, by first | exact B0.out | exact BZ.out _ _⟩
  · rw [e] at KC
    have c0 : ¬ (c : Int) < 0 := by omega
    by_cases hlt : d < lr
    · obtain ⟨x, o, rfl, hx, hcs⟩ : ∃ x o, ar = some ⟨x, o, none⟩ ∧ x < w.heap.size ∧ ∀ i, i < lr → w.cell? ⟨x, o + i, none⟩ = some (.slice (rs.getD i default).a (rs.getD i default).n (rs.getD i default).cap) := by
        rcases k.2.2.2 with h0 | h0
        · omega
        · exact h0
      have r0 := (hB0.cell (p := ⟨x, o + d, none⟩) hx).trans (hcs d hlt)
      have dc : (d : Int) < (lr : Int) := by omega
      have dc2 : ¬ (lr : Int) ≤ (d : Int) := by omega
      have hk' : d < rs.length := by rw [k.1]; exact hlt
      have raw : rawT ss (rs.map (·.cs)) s d = (rs.getD d default).cs.getD c default := by
        unfold rawT
        rw [e, if_neg (by omega), Int.toNat_natCast]
        simp [List.getD, hk']
      obtain ⟨g1, g2, _, g4⟩ := (k.2.2.1 (rs.getD d default) (by
        rw [show rs.getD d default = rs[d] by simp [List.getD, hk']]; exact List.getElem_mem hk')).1
      have CT : cellT ss (rs.map (·.cs)) s d = if ((rs.getD d default).cs.getD c default).h then (rs.getD d default).cs.getD c default else default := by unfold cellT; rw [raw]
      rw [CT]
      clear hcs e k h raw CT
      generalize rs.getD d default = r at *
      obtain ⟨ra, rn, rcap, rcs⟩ := r
      simp only at r0 g1 g2 g4 ⊢
      by_cases hcn : c < rn
      · have cc : (c : Int) < (rn : Int) := by omega
        have cc2 : ¬ (rn : Int) ≤ (c : Int) := by omega
        obtain ⟨y, oy, rfl, hy, hcc⟩ : ∃ y oy, ra = some ⟨y, oy, none⟩ ∧ y < w.heap.size ∧ ∀ i, i < rn → CC w y (oy + i * 2) (rcs.getD i default) := by
          rcases g4 with h0 | h0
          · omega
          · exact h0
        obtain ⟨e0, e1⟩ := (hcc c hcn).later hB0 hy
        clear hcc g1 g4 hB0
        generalize rcs.getD c default = f at *
        obtain ⟨fh, fv⟩ := f
        simp only at e0 e1 ⊢
        cases fh with
        | true =>
          go_enter Tryd.func42, Tryd.ntmps42
          go_wp2_with (go_at_call 47; refine KC.out.mono ?_; rintro e w1 ⟨rfl, rfl⟩)
          exact bodyPost_ret (v := .agg #[.bool true, .int .i64 fv]) (by simp [results, Tryd.results42, go_sem]) rfl ⟨rfl, by first | exact BZ.out _ _ | exact ((Below.refl _ w).alloc (Nat.le_refl _) _).alloc (by simp) _⟩
        | false =>
          go_enter Tryd.func42, Tryd.ntmps42
          go_wp2_with (go_at_call 47; refine KC.out.mono ?_; rintro e w1 ⟨rfl, rfl⟩)
          exact bodyPost_ret (v := .agg #[.bool false, .int .i64 0]) (by simp [results, Tryd.results42, go_sem]) rfl ⟨rfl, by first | exact B0.out | exact BZ.out _ _⟩
      · have cc : (rn : Int) ≤ (c : Int) := by omega
        have z : rcs.getD c default = default := by simp only [List.getD]; rw [List.getElem?_eq_none (by omega)]; rfl
        rw [z]
        clear z g1 g4 hB0
        go_enter Tryd.func42, Tryd.ntmps42
        go_wp2_with (go_at_call 47; refine KC.out.mono ?_; rintro e w1 ⟨rfl, rfl⟩)
        exact bodyPost_ret (v := .agg #[.bool false, .int .i64 0]) (by simp [results, Tryd.results42, go_sem]) rfl ⟨rfl, by first | exact B0.out | exact BZ.out _ _⟩
    · have dc : (lr : Int) ≤ (d : Int) := by omega
      have z : cellT ss (rs.map (·.cs)) s d = default := cell_no (by
        unfold rawT
        rw [e, if_neg (by omega)]
        rw [show (rs.map (·.cs)).getD d [] = [] by simp only [List.getD]; rw [List.getElem?_eq_none (by rw [List.length_map, k.1]; omega)]; rfl]
        simp [def_h])
      rw [z]
      clear e z hB0 h k
      go_enter Tryd.func42, Tryd.ntmps42
      go_wp2_with (go_at_call 47; refine KC.out.mono ?_; rintro e w1 ⟨rfl, rfl⟩)
      exact bodyPost_ret (v := .agg #[.bool false, .int .i64 0]) (by simp [results, Tryd.results42, go_sem]) rfl ⟨rfl, by first | exact B0.out | exact BZ.out _ _⟩
end Go.Proofs.YtglgdfgdfkeogaaDoor

namespace Go.Proofs.YtglgdfgdfkeogaaDoor
open Go.RowKit
set_option linter.unusedVariables false
set_option linter.unusedSimpArgs false

def ConfE (ss : List ByteArray) (rs : List (List Cl)) (ss' : List ByteArray) (rs' : List (List Cl)) (last : Int) (e : Ending) : Prop := ∃ v : Bool, e = .returned (.bool v) ∧ (v = true ↔ ConfP ss rs ss' rs' last)
/-- One column of one day is right. -/
def OkC (ss : List ByteArray) (row : List Cl) (f : Nat → Int) (beside : List Cl) (c : Nat) : Prop := f c = c → (row.getD c default).h = true → row.getD c default = atC beside (colF ss (ss.getD c default) 0)
theorem raw_at (ss : List ByteArray) (rs : List (List Cl)) (n : ByteArray) (d : Nat) : rawT ss rs n d = atC (rs.getD d []) (colF ss n 0) := rfl

set_option maxRecDepth 100000 in
set_option maxHeartbeats 4000000 in
theorem confirms_any (an ar an' ar' : Option Addr) (ln cn lr cr ln' cn' lr' cr' : Nat) (ss ss' : List ByteArray) (rs rs' : List Rw) (last : Int) (w : World) (h : NL w an ln ss) (k : RL w ar lr rs) (h' : NL w an' ln' ss') (k' : RL w ar' lr' rs') :
    Calls Tryd.prog 45 #[.agg #[.slice an ln cn, .slice ar lr cr], .agg #[.slice an' ln' cn', .slice ar' lr' cr'], .int .i64 last] w fun e w' => ConfE ss (rs.map (·.cs)) ss' (rs'.map (·.cs)) last e ∧ Below w.heap.size w w' := by
  have hB0 : Below w.heap.size w ((w.alloc (.cells #[.slice an ln cn, .slice ar lr cr] 25)).alloc (.cells #[.slice an' ln' cn', .slice ar' lr' cr'] 25)) := ((Below.refl _ w).alloc (Nat.le_refl _) _).alloc (by simp) _
  have p0 : ((w.alloc (.cells #[.slice an ln cn, .slice ar lr cr] 25)).alloc (.cells #[.slice an' ln' cn', .slice ar' lr' cr'] 25)).cell? ⟨w.heap.size, 0, none⟩ = some (.slice an ln cn) := by go_simp
  have p1 : ((w.alloc (.cells #[.slice an ln cn, .slice ar lr cr] 25)).alloc (.cells #[.slice an' ln' cn', .slice ar' lr' cr'] 25)).cell? ⟨w.heap.size, 1, none⟩ = some (.slice ar lr cr) := by go_simp
  have p2 : ((w.alloc (.cells #[.slice an ln cn, .slice ar lr cr] 25)).alloc (.cells #[.slice an' ln' cn', .slice ar' lr' cr'] 25)).cell? ⟨w.heap.size + 1, 0, none⟩ = some (.slice an' ln' cn') := by go_simp
  have p3 : ((w.alloc (.cells #[.slice an ln cn, .slice ar lr cr] 25)).alloc (.cells #[.slice an' ln' cn', .slice ar' lr' cr'] 25)).cell? ⟨w.heap.size + 1, 1, none⟩ = some (.slice ar' lr' cr') := by go_simp
  have s0 : ((w.alloc (.cells #[.slice an ln cn, .slice ar lr cr] 25)).alloc (.cells #[.slice an' ln' cn', .slice ar' lr' cr'] 25)).heap.size = w.heap.size + 1 + 1 := by simp
  obtain ⟨w0, hw0⟩ : ∃ w0, (w.alloc (.cells #[.slice an ln cn, .slice ar lr cr] 25)).alloc (.cells #[.slice an' ln' cn', .slice ar' lr' cr'] 25) = w0 := ⟨_, rfl⟩
  rw [hw0] at hB0 p0 p1 p2 p3 s0
  have hln := h.2.1
  have hlr := k.2.1
  have sl := h.1
  have rl := k.1
  have N0 := Lib.hid (h.later hB0)
  have R0 := Lib.hid (k.later hB0)
  have N0' := Lib.hid (h'.later hB0)
  have R0' := Lib.hid (k'.later hB0)
  have K1 := Lib.hid (columnsOf_any an an ln cn ln cn ss ss w0 N0.out N0.out)
  have K2 := Lib.hid (fun W (b : Below w0.heap.size w0 W) => columnsOf_any an an' ln cn ln' cn' ss ss' W (N0.out.later b) (N0'.out.later b))
  have B0 := Lib.hid hB0
  have S0 := Lib.hid s0
  have C0 := Lib.hid (p := ∀ W, Below w0.heap.size w0 W → W.cell? ⟨w.heap.size, 0, none⟩ = some (.slice an ln cn) ∧ W.cell? ⟨w.heap.size, 1, none⟩ = some (.slice ar lr cr) ∧ W.cell? ⟨w.heap.size + 1, 0, none⟩ = some (.slice an' ln' cn') ∧ W.cell? ⟨w.heap.size + 1, 1, none⟩ = some (.slice ar' lr' cr')) (fun W b => ⟨(b.cell (p := ⟨w.heap.size, 0, none⟩) (show w.heap.size < _ by omega)).trans p0, (b.cell (p := ⟨w.heap.size, 1, none⟩) (show w.heap.size < _ by omega)).trans p1, (b.cell (p := ⟨w.heap.size + 1, 0, none⟩) (show w.heap.size + 1 < _ by omega)).trans p2, (b.cell (p := ⟨w.heap.size + 1, 1, none⟩) (show w.heap.size + 1 < _ by omega)).trans p3⟩)
  -- what the two loops come to
  have NO := Lib.hid (p := ∀ d c : Nat, d < lr → (d : Int) ≤ last → c < (rs.getD d default).cs.length → c < ln → ¬ OkC ss' (rs.getD d default).cs (fun i => colF ss (ss.getD i default) 0) ((rs'.map (·.cs)).getD d []) c → True) (fun _ _ _ _ _ _ _ => trivial)
  have NOC := Lib.hid (p := ∀ d c : Nat, d < lr → (d : Int) ≤ last → c < (rs.getD d default).cs.length → c < ln → colF ss (ss.getD c default) 0 = c → ((rs.getD d default).cs.getD c default).h = true → (rs.getD d default).cs.getD c default ≠ atC ((rs'.map (·.cs)).getD d []) (colF ss' (ss.getD c default) 0) → (false = true ↔ ConfP ss (rs.map (·.cs)) ss' (rs'.map (·.cs)) last)) (fun d c h1 h2 h3 h4 h5 h6 h7 => by
    refine ⟨(fun q => by cases q), fun q => absurd ?_ h7⟩
    have e : (rs.map (·.cs)).getD d [] = (rs.getD d default).cs := by simp [List.getD, show d < rs.length by omega]
    have := q d (by rw [List.length_map]; omega) h2 c (by rw [e]; exact h3) (by omega) h5 (by rw [e]; exact h6)
    rw [e] at this
    exact this)
  have YES := Lib.hid (p := ∀ m : Nat, m ≤ lr → (m = lr ∨ last < (m : Int)) → (∀ d : Nat, d < m → (d : Int) ≤ last → ∀ c, c < (rs.getD d default).cs.length → c < ln → colF ss (ss.getD c default) 0 = c → ((rs.getD d default).cs.getD c default).h = true → (rs.getD d default).cs.getD c default = atC ((rs'.map (·.cs)).getD d []) (colF ss' (ss.getD c default) 0)) → (True ↔ ConfP ss (rs.map (·.cs)) ss' (rs'.map (·.cs)) last)) (fun m h1 h2 g => by
    refine ⟨fun _ d h3 h4 c h5 h6 h7 h8 => ?_, fun _ => trivial⟩
    rw [List.length_map] at h3
    have e : (rs.map (·.cs)).getD d [] = (rs.getD d default).cs := by simp [List.getD, show d < rs.length by omega]
    rw [e] at h5 h8 ⊢
    exact g d (by omega) h4 c h5 (by omega) h7 h8)
  have GET := Lib.hid (p := ∀ i, i < lr → rs.getD i default ∈ rs) (fun i hi => by
    have hk' : i < rs.length := by omega
    rw [show rs.getD i default = rs[i] by simp [List.getD, hk']]; exact List.getElem_mem hk')
  obtain ⟨P, hP⟩ : ∃ P : Prop, ConfP ss (rs.map (·.cs)) ss' (rs'.map (·.cs)) last = P := ⟨_, rfl⟩
  have CE := Lib.hid (p := ∀ v : Bool, (v = true ↔ P) → ConfE ss (rs.map (·.cs)) ss' (rs'.map (·.cs)) last (.returned (.bool v))) (fun v hv => ⟨v, rfl, by rw [hP]; exact hv⟩)
  rw [hP] at NOC YES
  generalize ConfE ss (rs.map (·.cs)) ss' (rs'.map (·.cs)) last = Z at *
  have PM := Lib.hid True.intro
  clear h k h' k' hB0 p1 p3 hP NO
  go_enter Tryd.func45, Tryd.ntmps45
  go_wp2_with (first
    | (have qq := PM; go_at_call 35; refine K1.out.mono ?_; rintro e w1 ⟨g1, rfl, h1, h2, h3⟩; have I1 := Lib.hid h1; have B1 := Lib.hid h3; clear h1 h2 h3 PM qq p0 p2; obtain ⟨p0, p1, p2, p3⟩ := C0.out _ B1.out)
    | (go_at_call 35; refine (K2.out _ B1.out).mono ?_; rintro e w2 ⟨g2, rfl, h1, h2, h3⟩; have I2 := Lib.hid h1; have I12 := Lib.hid (I1.out.later h3); have B2 := Lib.hid (B1.out.trans (h3.mono B1.out.size)); clear h1 h2 h3 p0 p1 p2 p3; obtain ⟨p0, p1, p2, p3⟩ := C0.out _ B2.out))
  have BW := Lib.hid (B0.out.trans (B2.out.mono B0.out.size))
  go_loopw [28] (fun t wr => ∃ d : Nat, d ≤ lr ∧ t = .int .i64 d ∧ RowKit.Hid (∀ d' : Nat, d' < d → (d' : Int) ≤ last → ∀ c, c < (rs.getD d' default).cs.length → c < ln → colF ss (ss.getD c default) 0 = c → ((rs.getD d' default).cs.getD c default).h = true → (rs.getD d' default).cs.getD c default = atC ((rs'.map (·.cs)).getD d' []) (colF ss' (ss.getD c default) 0)) ∧ Below w2.heap.size w2 wr) (fun t _ => lr - (intOf t).toNat)
  case atStart => exact ⟨0, by omega, rfl, fun d hd => absurd hd (by omega), Below.refl _ _⟩
  case round =>
    rename World => wr
    obtain ⟨d, hd, rfl, hG, hB⟩ := hrel
    have BB := Lib.hid hB
    have B0R := Lib.hid (B2.out.trans (hB.mono B2.out.size))
    have BWR := Lib.hid (BW.out.trans (hB.mono BW.out.size))
    clear p0 p1 p2 p3
    obtain ⟨p0, p1, p2, p3⟩ := C0.out _ B0R.out
    by_cases hlt : d < lr
    · obtain ⟨x, o, rfl, hx, hcs⟩ : ∃ x o, ar = some ⟨x, o, none⟩ ∧ x < w0.heap.size ∧ ∀ i, i < lr → w0.cell? ⟨x, o + i, none⟩ = some (.slice (rs.getD i default).a (rs.getD i default).n (rs.getD i default).cap) := by
        rcases R0.out.2.2.2 with h0 | h0
        · omega
        · exact h0
      have c0 := (B0R.out.cell (p := ⟨x, o + d, none⟩) hx).trans (hcs d hlt)
      have dc : (d : Int) < (lr : Int) := by omega
      by_cases hl : (d : Int) ≤ last
      · have hl2 : ¬ last < (d : Int) := by omega
        have RX := Lib.hid ((R0.out.2.2.1 _ (GET.out d hlt)).1)
        have KR := Lib.hid (rowOn_any an' ar' ln' cn' lr' cr' d rs' wr (R0'.out.later B0R.out) (by omega))
        have NOD := Lib.hid (fun c => NOC.out d c hlt hl)
        have NX := Lib.hid (p := (∀ c, c < (rs.getD d default).cs.length → c < ln → colF ss (ss.getD c default) 0 = c → ((rs.getD d default).cs.getD c default).h = true → (rs.getD d default).cs.getD c default = atC ((rs'.map (·.cs)).getD d []) (colF ss' (ss.getD c default) 0)) → ∀ d' : Nat, d' < d + 1 → (d' : Int) ≤ last → ∀ c, c < (rs.getD d' default).cs.length → c < ln → colF ss (ss.getD c default) 0 = c → ((rs.getD d' default).cs.getD c default).h = true → (rs.getD d' default).cs.getD c default = atC ((rs'.map (·.cs)).getD d' []) (colF ss' (ss.getD c default) 0)) (fun g d' hd' => by
          rcases (show d' < d ∨ d' = d by omega) with q | q
          · exact hG.out d' q
          · rw [q]; exact fun _ => g)
        clear hcs hB hG
        generalize (rs'.map (·.cs)).getD d [] = bes at *
        generalize rs.getD d default = r at *
        obtain ⟨ra, rn, rcap, rcs⟩ := r
        simp only at c0 RX NOD NX
        have rn1 := RX.out.2.1
        have rnl := RX.out.1
        by_cases hq : rn ≤ ln
        · have a1 : (rn : Int) ≤ (ln : Int) := by omega
          have a2 : ¬ (ln : Int) < (rn : Int) := by omega
          go_wp2_with (go_at_call 46; refine KR.out.mono ?_; rintro e w3 ⟨⟨ba, bn, bcap, rfl, hbr⟩, h1⟩; have RB := Lib.hid hbr; have B3 := Lib.hid h1; clear hbr h1 p0 p1 p2 p3; obtain ⟨p0, p1, p2, p3⟩ := C0.out _ (B0R.out.trans (B3.out.mono B0R.out.size)))
          have B23 := Lib.hid (BB.out.trans (B3.out.mono BB.out.size))
          clear p0 p1 p2 p3
          go_loopw [45] (fun t ws => ∃ c : Nat, c ≤ rn ∧ t = .int .i64 c ∧ RowKit.Hid (∀ c' : Nat, c' < c → colF ss (ss.getD c' default) 0 = c' → (rcs.getD c' default).h = true → rcs.getD c' default = atC bes (colF ss' (ss.getD c' default) 0)) ∧ Below wr.heap.size wr ws) (fun t _ => rn - (intOf t).toNat)
          case atStart => exact ⟨0, by omega, rfl, fun c hc => absurd hc (by omega), B3.out⟩
          case round =>
            rename World => ws
            obtain ⟨c, hc, rfl, hH, hC⟩ := hrel
            have CB := Lib.hid hC
            have B2S := Lib.hid (BB.out.trans (hC.mono BB.out.size))
            by_cases hcb : c < rn
            · have cb : (c : Int) < (rn : Int) := by omega
              have cr : c < rn := by omega
              have cl : c < ln := by omega
              have crI : (c : Int) < (rn : Int) := by omega
              have clI : (c : Int) < (ln : Int) := by omega
              obtain ⟨y, oy, rfl, hy, hcc⟩ : ∃ y oy, ra = some ⟨y, oy, none⟩ ∧ y < w0.heap.size ∧ ∀ i, i < rn → CC w0 y (oy + i * 2) (rcs.getD i default) := by
                rcases RX.out.2.2.2 with h0 | h0
                · omega
                · exact h0
              obtain ⟨e0, e1⟩ := (hcc c cr).later (B0R.out.trans (hC.mono B0R.out.size)) hy
              have f1 : ws.cell? ⟨g1, c, none⟩ = some (.int .i64 (colF ss (ss.getD c default) 0)) := ((I12.out.later B2S.out).2 c cl)
              have f2 : ws.cell? ⟨g2, c, none⟩ = some (.int .i64 (colF ss' (ss.getD c default) 0)) := ((I2.out.later B2S.out).2 c cl)
              have lo := (col_lo ss' (ss.getD c default)).1
              have NOX := Lib.hid (NOD.out c (by rw [rnl]; exact cr) cl)
              have NXC := Lib.hid (p := (colF ss (ss.getD c default) 0 = c → (rcs.getD c default).h = true → rcs.getD c default = atC bes (colF ss' (ss.getD c default) 0)) → ∀ c' : Nat, c' < c + 1 → colF ss (ss.getD c' default) 0 = c' → (rcs.getD c' default).h = true → rcs.getD c' default = atC bes (colF ss' (ss.getD c' default) 0)) (fun g c' hc' => by
                rcases (show c' < c ∨ c' = c by omega) with q | q
                · exact hH.out c' q
                · rw [q]; exact g)
              clear hcc hC hH
              generalize colF ss (ss.getD c default) 0 = F1 at *
              generalize colF ss' (ss.getD c default) 0 = F2 at *
              generalize rcs.getD c default = f at *
              obtain ⟨fh, fv⟩ := f
              simp only at e0 e1 NOX NXC
              have A0 := Lib.hid ((Below.refl ws.heap.size ws).alloc (Nat.le_refl _) (.cells #[.bool fh, .int .i64 fv] 53))
              by_cases hf : F1 = (c : Int)
              · have EF := Lib.hid hf
                subst hf
                cases fh with
                | false =>
                  have Y := Lib.hid (NXC.out (fun _ q => by cases q))
                  go_wp2
                  go_quiet (fail)
                  go_wp2
                  go_roundw
                  case rel => exact ⟨c + 1, by omega, by go_num, Y.out, CB.out.trans ((belowT_drewN A0.out _).mono CB.out.size)⟩
                  case measure => simp [intOf]; omega
                | true =>
                  have KC := Lib.hid (fun W (b : Below wr.heap.size wr W) => cellIn_any ba bn bcap bes F2 W (RB.out.later b) lo)
                  obtain ⟨ah, hah⟩ : ∃ x, (atC bes F2).h = x := ⟨_, rfl⟩
                  obtain ⟨av, hav⟩ : ∃ x, (atC bes F2).v = x := ⟨_, rfl⟩
                  rw [hah, hav] at KC
                  have EQ := Lib.hid (p := ah = true → fv = av → (⟨true, fv⟩ : Cl) = atC bes F2) (fun q1 q2 => by
                    have : atC bes F2 = ⟨(atC bes F2).h, (atC bes F2).v⟩ := rfl
                    rw [this, hah, hav, q1, q2])
                  have NE := Lib.hid (p := (ah = false ∨ fv ≠ av) → (⟨true, fv⟩ : Cl) ≠ atC bes F2) (fun q1 q2 => by
                    have h1 := congrArg Cl.h q2
                    have h2 := congrArg Cl.v q2
                    rw [hah] at h1
                    rw [hav] at h2
                    rcases q1 with q1 | q1
                    · rw [q1] at h1; cases h1
                    · exact q1 h2)
                  clear hah hav
                  have z0 : (ws.alloc (.cells #[.bool true, .int .i64 fv] 53)).cell? ⟨g2, c, none⟩ = some (.int .i64 F2) := (A0.out.cell (p := ⟨g2, c, none⟩) (World.block_lt_of_cell? ws _ f2)).trans f2
                  have z1 : (ws.alloc (.cells #[.bool true, .int .i64 fv] 53)).cell? ⟨ws.heap.size, 0, none⟩ = some (.bool true) := by go_simp
                  have z2 : (ws.alloc (.cells #[.bool true, .int .i64 fv] 53)).cell? ⟨ws.heap.size, 1, none⟩ = some (.int .i64 fv) := by go_simp
                  have AD := Lib.hid (p := Below ws.heap.size ws (ws.alloc (.cells #[.bool true, .int .i64 fv] 53)).drew) ⟨A0.out.os, A0.out.tape, A0.out.output, A0.out.size, A0.out.block⟩
                  have AB := Lib.hid (CB.out.trans (AD.out.mono CB.out.size))
                  cases ah with
                  | false =>
                    have Y := Lib.hid (CE.out false (NOX.out rfl rfl (NE.out (.inl rfl))))
                    go_wp2
                    go_region_held3 (fun w' => w'.cell? ⟨g2, c, none⟩ = some (.int .i64 F2) ∧ w'.cell? ⟨ws.heap.size, 0, none⟩ = some (.bool true) ∧ w'.cell? ⟨ws.heap.size, 1, none⟩ = some (.int .i64 fv))
                      (refine ⟨?_, ?_, ?_⟩ <;> first | assumption | (go_simp; done))
                      (first | (go_at_call 36; refine (KC.out _ AB.out).mono ?_; rintro e w5 ⟨rfl, h1⟩; have B5 := Lib.hid (AB.out.trans (h1.mono AB.out.size)); have y0 := (h1.cell (p := ⟨g2, c, none⟩) (World.block_lt_of_cell? _ _ z0)).trans z0; have y1 := (h1.cell (p := ⟨ws.heap.size, 0, none⟩) (World.block_lt_of_cell? _ _ z1)).trans z1; have y2 := (h1.cell (p := ⟨ws.heap.size, 1, none⟩) (World.block_lt_of_cell? _ _ z2)).trans z2; clear h1))
                    all_goals go_wp2
                    all_goals go_ret
                    all_goals exact ⟨Y.out, BWR.out.trans (B5.out.mono BWR.out.size)⟩
                  | true =>
                    by_cases hv : fv = av
                    · have Y := Lib.hid (NXC.out (fun _ _ => EQ.out rfl hv))
                      subst hv
                      go_wp2
                      go_region_held3 (fun w' => w'.cell? ⟨g2, c, none⟩ = some (.int .i64 F2) ∧ w'.cell? ⟨ws.heap.size, 0, none⟩ = some (.bool true) ∧ w'.cell? ⟨ws.heap.size, 1, none⟩ = some (.int .i64 fv))
                      (refine ⟨?_, ?_, ?_⟩ <;> first | assumption | (go_simp; done))
                      (first | (go_at_call 36; refine (KC.out _ AB.out).mono ?_; rintro e w5 ⟨rfl, h1⟩; have B5 := Lib.hid (AB.out.trans (h1.mono AB.out.size)); have y0 := (h1.cell (p := ⟨g2, c, none⟩) (World.block_lt_of_cell? _ _ z0)).trans z0; have y1 := (h1.cell (p := ⟨ws.heap.size, 0, none⟩) (World.block_lt_of_cell? _ _ z1)).trans z1; have y2 := (h1.cell (p := ⟨ws.heap.size, 1, none⟩) (World.block_lt_of_cell? _ _ z2)).trans z2; clear h1))
                      all_goals
                        go_wp2
                        go_roundw
                        case rel => exact ⟨c + 1, by omega, by go_num, Y.out, B5.out⟩
                        case measure => simp [intOf]; omega
                    · have Y := Lib.hid (CE.out false (NOX.out rfl rfl (NE.out (.inr hv))))
                      have hv2 : (fv == av) = false := by rw [beq_eq_false_iff_ne]; exact hv
                      go_wp2
                      go_region_held3 (fun w' => w'.cell? ⟨g2, c, none⟩ = some (.int .i64 F2) ∧ w'.cell? ⟨ws.heap.size, 0, none⟩ = some (.bool true) ∧ w'.cell? ⟨ws.heap.size, 1, none⟩ = some (.int .i64 fv))
                      (refine ⟨?_, ?_, ?_⟩ <;> first | assumption | (go_simp; done))
                      (first | (go_at_call 36; refine (KC.out _ AB.out).mono ?_; rintro e w5 ⟨rfl, h1⟩; have B5 := Lib.hid (AB.out.trans (h1.mono AB.out.size)); have y0 := (h1.cell (p := ⟨g2, c, none⟩) (World.block_lt_of_cell? _ _ z0)).trans z0; have y1 := (h1.cell (p := ⟨ws.heap.size, 0, none⟩) (World.block_lt_of_cell? _ _ z1)).trans z1; have y2 := (h1.cell (p := ⟨ws.heap.size, 1, none⟩) (World.block_lt_of_cell? _ _ z2)).trans z2; clear h1))
                      all_goals go_wp2
                      all_goals go_ret
                      all_goals exact ⟨Y.out, BWR.out.trans (B5.out.mono BWR.out.size)⟩
              · have Y := Lib.hid (NXC.out (fun q => absurd q hf))
                have hf2 : (F1 == (c : Int)) = false := by rw [beq_eq_false_iff_ne]; exact hf
                go_wp2
                go_quiet (fail)
                go_wp2
                go_roundw
                case rel => exact ⟨c + 1, by omega, by go_num, Y.out, CB.out.trans ((belowT_drewN A0.out _).mono CB.out.size)⟩
                case measure => simp [intOf]; omega
            · obtain rfl : c = rn := by omega
              have Y := Lib.hid (NX.out (fun c' h1 h2 => hH.out c' (by omega)))
              clear hC hH
              go_wp2
              go_roundw
              case rel => exact ⟨d + 1, by omega, by go_num, Y.out, BB.out.trans (CB.out.mono BB.out.size)⟩
              case measure => simp [intOf]; omega
        · have a1 : ¬ (rn : Int) ≤ (ln : Int) := by omega
          have a2 : (ln : Int) < (rn : Int) := by omega
          have a3 : ¬ (rn : Int) < (ln : Int) := by omega
          go_wp2_with (go_at_call 46; refine KR.out.mono ?_; rintro e w3 ⟨⟨ba, bn, bcap, rfl, hbr⟩, h1⟩; have RB := Lib.hid hbr; have B3 := Lib.hid h1; clear hbr h1 p0 p1 p2 p3; obtain ⟨p0, p1, p2, p3⟩ := C0.out _ (B0R.out.trans (B3.out.mono B0R.out.size)))
          have B23 := Lib.hid (BB.out.trans (B3.out.mono BB.out.size))
          clear p0 p1 p2 p3
          go_loopw [45] (fun t ws => ∃ c : Nat, c ≤ ln ∧ t = .int .i64 c ∧ RowKit.Hid (∀ c' : Nat, c' < c → colF ss (ss.getD c' default) 0 = c' → (rcs.getD c' default).h = true → rcs.getD c' default = atC bes (colF ss' (ss.getD c' default) 0)) ∧ Below wr.heap.size wr ws) (fun t _ => ln - (intOf t).toNat)
          case atStart => exact ⟨0, by omega, rfl, fun c hc => absurd hc (by omega), B3.out⟩
          case round =>
            rename World => ws
            obtain ⟨c, hc, rfl, hH, hC⟩ := hrel
            have CB := Lib.hid hC
            have B2S := Lib.hid (BB.out.trans (hC.mono BB.out.size))
            by_cases hcb : c < ln
            · have cb : (c : Int) < (ln : Int) := by omega
              have cr : c < rn := by omega
              have cl : c < ln := by omega
              have crI : (c : Int) < (rn : Int) := by omega
              have clI : (c : Int) < (ln : Int) := by omega
              obtain ⟨y, oy, rfl, hy, hcc⟩ : ∃ y oy, ra = some ⟨y, oy, none⟩ ∧ y < w0.heap.size ∧ ∀ i, i < rn → CC w0 y (oy + i * 2) (rcs.getD i default) := by
                rcases RX.out.2.2.2 with h0 | h0
                · omega
                · exact h0
              obtain ⟨e0, e1⟩ := (hcc c cr).later (B0R.out.trans (hC.mono B0R.out.size)) hy
              have f1 : ws.cell? ⟨g1, c, none⟩ = some (.int .i64 (colF ss (ss.getD c default) 0)) := ((I12.out.later B2S.out).2 c cl)
              have f2 : ws.cell? ⟨g2, c, none⟩ = some (.int .i64 (colF ss' (ss.getD c default) 0)) := ((I2.out.later B2S.out).2 c cl)
              have lo := (col_lo ss' (ss.getD c default)).1
              have NOX := Lib.hid (NOD.out c (by rw [rnl]; exact cr) cl)
              have NXC := Lib.hid (p := (colF ss (ss.getD c default) 0 = c → (rcs.getD c default).h = true → rcs.getD c default = atC bes (colF ss' (ss.getD c default) 0)) → ∀ c' : Nat, c' < c + 1 → colF ss (ss.getD c' default) 0 = c' → (rcs.getD c' default).h = true → rcs.getD c' default = atC bes (colF ss' (ss.getD c' default) 0)) (fun g c' hc' => by
                rcases (show c' < c ∨ c' = c by omega) with q | q
                · exact hH.out c' q
                · rw [q]; exact g)
              clear hcc hC hH
              generalize colF ss (ss.getD c default) 0 = F1 at *
              generalize colF ss' (ss.getD c default) 0 = F2 at *
              generalize rcs.getD c default = f at *
              obtain ⟨fh, fv⟩ := f
              simp only at e0 e1 NOX NXC
              have A0 := Lib.hid ((Below.refl ws.heap.size ws).alloc (Nat.le_refl _) (.cells #[.bool fh, .int .i64 fv] 53))
              by_cases hf : F1 = (c : Int)
              · have EF := Lib.hid hf
                subst hf
                cases fh with
                | false =>
                  have Y := Lib.hid (NXC.out (fun _ q => by cases q))
                  go_wp2
                  go_quiet (fail)
                  go_wp2
                  go_roundw
                  case rel => exact ⟨c + 1, by omega, by go_num, Y.out, CB.out.trans ((belowT_drewN A0.out _).mono CB.out.size)⟩
                  case measure => simp [intOf]; omega
                | true =>
                  have KC := Lib.hid (fun W (b : Below wr.heap.size wr W) => cellIn_any ba bn bcap bes F2 W (RB.out.later b) lo)
                  obtain ⟨ah, hah⟩ : ∃ x, (atC bes F2).h = x := ⟨_, rfl⟩
                  obtain ⟨av, hav⟩ : ∃ x, (atC bes F2).v = x := ⟨_, rfl⟩
                  rw [hah, hav] at KC
                  have EQ := Lib.hid (p := ah = true → fv = av → (⟨true, fv⟩ : Cl) = atC bes F2) (fun q1 q2 => by
                    have : atC bes F2 = ⟨(atC bes F2).h, (atC bes F2).v⟩ := rfl
                    rw [this, hah, hav, q1, q2])
                  have NE := Lib.hid (p := (ah = false ∨ fv ≠ av) → (⟨true, fv⟩ : Cl) ≠ atC bes F2) (fun q1 q2 => by
                    have h1 := congrArg Cl.h q2
                    have h2 := congrArg Cl.v q2
                    rw [hah] at h1
                    rw [hav] at h2
                    rcases q1 with q1 | q1
                    · rw [q1] at h1; cases h1
                    · exact q1 h2)
                  clear hah hav
                  have z0 : (ws.alloc (.cells #[.bool true, .int .i64 fv] 53)).cell? ⟨g2, c, none⟩ = some (.int .i64 F2) := (A0.out.cell (p := ⟨g2, c, none⟩) (World.block_lt_of_cell? ws _ f2)).trans f2
                  have z1 : (ws.alloc (.cells #[.bool true, .int .i64 fv] 53)).cell? ⟨ws.heap.size, 0, none⟩ = some (.bool true) := by go_simp
                  have z2 : (ws.alloc (.cells #[.bool true, .int .i64 fv] 53)).cell? ⟨ws.heap.size, 1, none⟩ = some (.int .i64 fv) := by go_simp
                  have AD := Lib.hid (p := Below ws.heap.size ws (ws.alloc (.cells #[.bool true, .int .i64 fv] 53)).drew) ⟨A0.out.os, A0.out.tape, A0.out.output, A0.out.size, A0.out.block⟩
                  have AB := Lib.hid (CB.out.trans (AD.out.mono CB.out.size))
                  cases ah with
                  | false =>
                    have Y := Lib.hid (CE.out false (NOX.out rfl rfl (NE.out (.inl rfl))))
                    go_wp2
                    go_region_held3 (fun w' => w'.cell? ⟨g2, c, none⟩ = some (.int .i64 F2) ∧ w'.cell? ⟨ws.heap.size, 0, none⟩ = some (.bool true) ∧ w'.cell? ⟨ws.heap.size, 1, none⟩ = some (.int .i64 fv))
                      (refine ⟨?_, ?_, ?_⟩ <;> first | assumption | (go_simp; done))
                      (first | (go_at_call 36; refine (KC.out _ AB.out).mono ?_; rintro e w5 ⟨rfl, h1⟩; have B5 := Lib.hid (AB.out.trans (h1.mono AB.out.size)); have y0 := (h1.cell (p := ⟨g2, c, none⟩) (World.block_lt_of_cell? _ _ z0)).trans z0; have y1 := (h1.cell (p := ⟨ws.heap.size, 0, none⟩) (World.block_lt_of_cell? _ _ z1)).trans z1; have y2 := (h1.cell (p := ⟨ws.heap.size, 1, none⟩) (World.block_lt_of_cell? _ _ z2)).trans z2; clear h1))
                    all_goals go_wp2
                    all_goals go_ret
                    all_goals exact ⟨Y.out, BWR.out.trans (B5.out.mono BWR.out.size)⟩
                  | true =>
                    by_cases hv : fv = av
                    · have Y := Lib.hid (NXC.out (fun _ _ => EQ.out rfl hv))
                      subst hv
                      go_wp2
                      go_region_held3 (fun w' => w'.cell? ⟨g2, c, none⟩ = some (.int .i64 F2) ∧ w'.cell? ⟨ws.heap.size, 0, none⟩ = some (.bool true) ∧ w'.cell? ⟨ws.heap.size, 1, none⟩ = some (.int .i64 fv))
                      (refine ⟨?_, ?_, ?_⟩ <;> first | assumption | (go_simp; done))
                      (first | (go_at_call 36; refine (KC.out _ AB.out).mono ?_; rintro e w5 ⟨rfl, h1⟩; have B5 := Lib.hid (AB.out.trans (h1.mono AB.out.size)); have y0 := (h1.cell (p := ⟨g2, c, none⟩) (World.block_lt_of_cell? _ _ z0)).trans z0; have y1 := (h1.cell (p := ⟨ws.heap.size, 0, none⟩) (World.block_lt_of_cell? _ _ z1)).trans z1; have y2 := (h1.cell (p := ⟨ws.heap.size, 1, none⟩) (World.block_lt_of_cell? _ _ z2)).trans z2; clear h1))
                      all_goals
                        go_wp2
                        go_roundw
                        case rel => exact ⟨c + 1, by omega, by go_num, Y.out, B5.out⟩
                        case measure => simp [intOf]; omega
                    · have Y := Lib.hid (CE.out false (NOX.out rfl rfl (NE.out (.inr hv))))
                      have hv2 : (fv == av) = false := by rw [beq_eq_false_iff_ne]; exact hv
                      go_wp2
                      go_region_held3 (fun w' => w'.cell? ⟨g2, c, none⟩ = some (.int .i64 F2) ∧ w'.cell? ⟨ws.heap.size, 0, none⟩ = some (.bool true) ∧ w'.cell? ⟨ws.heap.size, 1, none⟩ = some (.int .i64 fv))
                      (refine ⟨?_, ?_, ?_⟩ <;> first | assumption | (go_simp; done))
                      (first | (go_at_call 36; refine (KC.out _ AB.out).mono ?_; rintro e w5 ⟨rfl, h1⟩; have B5 := Lib.hid (AB.out.trans (h1.mono AB.out.size)); have y0 := (h1.cell (p := ⟨g2, c, none⟩) (World.block_lt_of_cell? _ _ z0)).trans z0; have y1 := (h1.cell (p := ⟨ws.heap.size, 0, none⟩) (World.block_lt_of_cell? _ _ z1)).trans z1; have y2 := (h1.cell (p := ⟨ws.heap.size, 1, none⟩) (World.block_lt_of_cell? _ _ z2)).trans z2; clear h1))
                      all_goals go_wp2
                      all_goals go_ret
                      all_goals exact ⟨Y.out, BWR.out.trans (B5.out.mono BWR.out.size)⟩
              · have Y := Lib.hid (NXC.out (fun q => absurd q hf))
                have hf2 : (F1 == (c : Int)) = false := by rw [beq_eq_false_iff_ne]; exact hf
                go_wp2
                go_quiet (fail)
                go_wp2
                go_roundw
                case rel => exact ⟨c + 1, by omega, by go_num, Y.out, CB.out.trans ((belowT_drewN A0.out _).mono CB.out.size)⟩
                case measure => simp [intOf]; omega
            · obtain rfl : c = ln := by omega
              have Y := Lib.hid (NX.out (fun c' h1 h2 => hH.out c' (by omega)))
              clear hC hH
              go_wp2
              go_roundw
              case rel => exact ⟨d + 1, by omega, by go_num, Y.out, BB.out.trans (CB.out.mono BB.out.size)⟩
              case measure => simp [intOf]; omega
      · have hl2 : last < (d : Int) := by omega
        have Y := Lib.hid (CE.out true (by simpa using YES.out d hd (.inr hl2) hG.out))
        clear hcs hB hG
        generalize rs.getD d default = r at *
        go_wp2
        go_ret
        exact ⟨Y.out, BWR.out⟩
    · obtain rfl : d = lr := by omega
      have Y := Lib.hid (CE.out true (by simpa using YES.out d hd (.inl rfl) hG.out))
      clear hB hG
      go_wp2
      go_ret
      exact ⟨Y.out, BWR.out⟩
end Go.Proofs.YtglgdfgdfkeogaaDoor
