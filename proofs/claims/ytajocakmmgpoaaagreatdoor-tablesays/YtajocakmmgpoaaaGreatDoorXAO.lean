import Derived.Test.YtajocakmmgpoaaaGreatDoorXAC
import Derived.Test.YtajocakmmgpoaaaGreatDoorXAB
import Derived.Test.YtajocakmmgpoaaaGreatDoorXAH
namespace Go.Proofs.YtajocakmmgpoaaaGreatDoor
open Go.RowKit
set_option linter.unusedVariables false
set_option linter.unusedSimpArgs false

/-- A row that is answered. -/
def RowE (w : World) (cs : List Cl) (e : Ending) : Prop := ∃ a n c, e = .returned (.slice a n c) ∧ RC w a n cs
set_option maxHeartbeats 2000000 in
theorem rowOn_any (an ar : Option Addr) (ln cn lr cr d : Nat) (rs : List Rw) (w : World) (k : RL w ar lr rs) (hd : d ≤ 5864062014640) :
    Calls Tryz.prog 24 #[.agg #[.slice an ln cn, .slice ar lr cr], .int .i64 (d : Int)] w fun e w' => RowE w ((rs.map (·.cs)).getD d []) e ∧ Below w.heap.size w w' := by
  have hB0 : Below w.heap.size w (w.alloc (.cells #[.slice an ln cn, .slice ar lr cr] 25)) := (Below.refl _ w).alloc (Nat.le_refl _) _
  have hlr := k.2.1
  by_cases hlt : d < lr
  · obtain ⟨x, o, rfl, hx, hcs⟩ : ∃ x o, ar = some ⟨x, o, none⟩ ∧ x < w.heap.size ∧ ∀ i, i < lr → w.cell? ⟨x, o + i, none⟩ = some (.slice (rs.getD i default).a (rs.getD i default).n (rs.getD i default).cap) := by
      rcases k.2.2.2 with h0 | h0
      · omega
      · exact h0
    have c0 := (hB0.cell (p := ⟨x, o + d, none⟩) hx).trans (hcs d hlt)
    have dc : (d : Int) < (lr : Int) := by omega
    have hk' : d < rs.length := by rw [k.1]; exact hlt
    have R := Lib.hid (p := RC w (rs.getD d default).a (rs.getD d default).n ((rs.map (·.cs)).getD d [])) (by
      have e : (rs.map (·.cs)).getD d [] = (rs.getD d default).cs := by simp [List.getD, hk']
      rw [e]
      refine (k.2.2.1 _ ?_).1
      rw [show rs.getD d default = rs[d] by simp [List.getD, hk']]; exact List.getElem_mem hk')
    have B0 := Lib.hid hB0
    clear hcs k hB0
    generalize rs.getD d default = r at *
    generalize (rs.map (·.cs)).getD d [] = CS at *
    go_enter Tryz.func24, Tryz.ntmps24
    go_wp2
    go_ret
    exact ⟨⟨_, _, _, rfl, R.out⟩, B0.out⟩
  · have dc : ¬ (d : Int) < (lr : Int) := by omega
    have dc2 : (lr : Int) ≤ (d : Int) := by omega
    have R := Lib.hid (p := RC w none 0 ((rs.map (·.cs)).getD d [])) (by
      have e : (rs.map (·.cs)).getD d [] = [] := by
        simp only [List.getD]; rw [List.getElem?_eq_none (by rw [List.length_map, k.1]; omega)]; rfl
      rw [e]
      exact ⟨rfl, by omega, (fun c hc => by cases hc), .inl rfl⟩)
    have B0 := Lib.hid hB0
    clear k hB0
    generalize (rs.map (·.cs)).getD d [] = CS at *
    go_enter Tryz.func24, Tryz.ntmps24
    go_wp2
    go_ret
    exact ⟨⟨_, _, _, rfl, R.out⟩, B0.out⟩

/-- A cell of a row, by a column or nowhere. -/
def atC (cs : List Cl) (c : Int) : Cl := if c < 0 then default else cs.getD c.toNat default
set_option maxHeartbeats 2000000 in
theorem cellIn_any (a : Option Addr) (n cap : Nat) (cs : List Cl) (c : Int) (w : World) (h : RC w a n cs) (hc : -1 ≤ c) :
    Calls Tryz.prog 27 #[.slice a n cap, .int .i64 c] w fun e w' => e = .returned (.agg #[.bool (atC cs c).h, .int .i64 (atC cs c).v]) ∧ Below w.heap.size w w' := by
  have hB0 : Below w.heap.size w (w.alloc (.cells #[.bool false, .int .i64 0] 34)) := (Below.refl _ w).alloc (Nat.le_refl _) _
  by_cases hm : c = -1
  · subst hm
    go_enter Tryz.func27, Tryz.ntmps27
    go_wp2
    exact bodyPost_ret (v := .agg #[.bool false, .int .i64 0]) (by simp [results, Tryz.results27, go_sem]) rfl ⟨rfl, by first | exact hB0 | exact (hB0.setCell (p := ⟨w.heap.size, 0, none⟩) (by simp) _).setCell (p := ⟨w.heap.size, 1, none⟩) (by simp) _⟩
  · obtain ⟨j, rfl⟩ : ∃ j : Nat, c = j := ⟨c.toNat, by omega⟩
    have hm2 : ((j : Int) == -1) = false := by rw [beq_eq_false_iff_ne]; exact hm
    obtain ⟨hl, hn, _, h4⟩ := h
    by_cases hlt : j < n
    · obtain ⟨x, o, rfl, hx, hcc⟩ : ∃ x o, a = some ⟨x, o, none⟩ ∧ x < w.heap.size ∧ ∀ i, i < n → CC w x (o + i * 2) (cs.getD i default) := by
        rcases h4 with h0 | h0
        · omega
        · exact h0
      obtain ⟨c0, c1⟩ := (hcc j hlt).later hB0 hx
      have e : atC cs (j : Int) = cs.getD j default := by unfold atC; rw [if_neg (by omega), Int.toNat_natCast]
      rw [e]
      have jc : (j : Int) < (n : Int) := by omega
      have jc2 : ¬ (n : Int) ≤ (j : Int) := by omega
      have j0 : (0 : Int) ≤ (j : Int) := by omega
      have B0 := Lib.hid hB0
      clear hcc e hB0 h4 hl
      generalize cs.getD j default = r at *
      obtain ⟨rh, rv⟩ := r
      simp only at c0 c1 ⊢
      go_enter Tryz.func27, Tryz.ntmps27
      go_wp2
      exact bodyPost_ret (v := .agg #[.bool rh, .int .i64 rv]) (by simp [results, Tryz.results27, go_sem]) rfl ⟨rfl, by first | exact (B0.out.setCell (p := ⟨w.heap.size, 0, none⟩) (by simp) _).setCell (p := ⟨w.heap.size, 1, none⟩) (by simp) _ | exact (Below.refl _ w).alloc (Nat.le_refl _) _⟩
    · have e : atC cs (j : Int) = default := by
        unfold atC; rw [if_neg (by omega), Int.toNat_natCast]
        simp only [List.getD]; rw [List.getElem?_eq_none (by omega)]; rfl
      rw [e]
      have jc : (n : Int) ≤ (j : Int) := by omega
      have B0 := Lib.hid hB0
      clear e hB0 h4 hl
      go_enter Tryz.func27, Tryz.ntmps27
      go_wp2
      exact bodyPost_ret (v := .agg #[.bool false, .int .i64 0]) (by simp [results, Tryz.results27, go_sem]) rfl ⟨rfl, by first | exact B0.out | exact (B0.out.setCell (p := ⟨w.heap.size, 0, none⟩) (by simp) _).setCell (p := ⟨w.heap.size, 1, none⟩) (by simp) _⟩

end Go.Proofs.YtajocakmmgpoaaaGreatDoor

namespace Go.Proofs.YtajocakmmgpoaaaGreatDoor
open Go.RowKit
set_option linter.unusedVariables false
set_option linter.unusedSimpArgs false

def ConfE (ss : List ByteArray) (rs : List (List Cl)) (ss' : List ByteArray) (rs' : List (List Cl)) (last : Int) (e : Ending) : Prop := ∃ v : Bool, e = .returned (.bool v) ∧ (v = true ↔ ConfP ss rs ss' rs' last)
/-- One column of one day is right. -/
def OkC (ss : List ByteArray) (row : List Cl) (f : Nat → Int) (beside : List Cl) (c : Nat) : Prop := f c = c → (row.getD c default).h = true → row.getD c default = atC beside (colF ss (ss.getD c default) 0)
theorem raw_at (ss : List ByteArray) (rs : List (List Cl)) (n : ByteArray) (d : Nat) : rawT ss rs n d = atC (rs.getD d []) (colF ss n 0) := rfl

end Go.Proofs.YtajocakmmgpoaaaGreatDoor

namespace Go.Proofs.YtajocakmmgpoaaaGreatDoor
open Go.RowKit
set_option linter.unusedVariables false
set_option linter.unusedSimpArgs false

def AgE (ss : List ByteArray) (rs : List (List Cl)) (ss' : List ByteArray) (rs' : List (List Cl)) (last : Int) (e : Ending) : Prop := ∃ v : Bool, e = .returned (.bool v) ∧ (v = true ↔ AgreeP ss rs ss' rs' last)

/-- What the document's Agree looks at. -/
structure GZ (w W : World) (an ar an' ar' : Option Addr) (ln cn lr cr ln' cn' lr' cr' : Nat) (ss ss' : List ByteArray) (rs rs' : List Rw) : Prop where
  a0 : W.cell? ⟨w.heap.size, 0, none⟩ = some (.slice an ln cn)
  a1 : W.cell? ⟨w.heap.size, 1, none⟩ = some (.slice ar lr cr)
  b0 : W.cell? ⟨w.heap.size + 1, 0, none⟩ = some (.slice an' ln' cn')
  b1 : W.cell? ⟨w.heap.size + 1, 1, none⟩ = some (.slice ar' lr' cr')
  nl : NL W an ln ss
  rl : RL W ar lr rs
  nl' : NL W an' ln' ss'
  rl' : RL W ar' lr' rs'
  bel : Below w.heap.size w W
  sz : w.heap.size + 1 < W.heap.size
theorem GZ.later {w W W' : World} {an ar an' ar' : Option Addr} {ln cn lr cr ln' cn' lr' cr' : Nat} {ss ss' : List ByteArray} {rs rs' : List Rw} (h : GZ w W an ar an' ar' ln cn lr cr ln' cn' lr' cr' ss ss' rs rs') (d : Below W.heap.size W W') : GZ w W' an ar an' ar' ln cn lr cr ln' cn' lr' cr' ss ss' rs rs' := by
  have s := h.sz
  exact ⟨(d.cell (p := ⟨w.heap.size, 0, none⟩) (show w.heap.size < _ by omega)).trans h.a0, (d.cell (p := ⟨w.heap.size, 1, none⟩) (show w.heap.size < _ by omega)).trans h.a1, (d.cell (p := ⟨w.heap.size + 1, 0, none⟩) s).trans h.b0, (d.cell (p := ⟨w.heap.size + 1, 1, none⟩) s).trans h.b1, h.nl.later d, h.rl.later d, h.nl'.later d, h.rl'.later d, h.bel.trans (d.mono (by omega)), Nat.lt_of_lt_of_le s d.size⟩
theorem GZ.start (an ar an' ar' : Option Addr) (ln cn lr cr ln' cn' lr' cr' : Nat) {ss ss' : List ByteArray} {rs rs' : List Rw} {w : World} (h : NL w an ln ss) (k : RL w ar lr rs) (h' : NL w an' ln' ss') (k' : RL w ar' lr' rs') :
    GZ w ((w.alloc (.cells #[.slice an ln cn, .slice ar lr cr] 25)).alloc (.cells #[.slice an' ln' cn', .slice ar' lr' cr'] 25)) an ar an' ar' ln cn lr cr ln' cn' lr' cr' ss ss' rs rs' := by
  have hB0 : Below w.heap.size w ((w.alloc (.cells #[.slice an ln cn, .slice ar lr cr] 25)).alloc (.cells #[.slice an' ln' cn', .slice ar' lr' cr'] 25)) := ((Below.refl _ w).alloc (Nat.le_refl _) _).alloc (by simp) _
  exact ⟨by go_simp, by go_simp, by go_simp, by go_simp, h.later hB0, k.later hB0, h'.later hB0, k'.later hB0, hB0, by simp⟩
theorem names_row {w : World} {B : Nat} {v : Value} {n : Nat} {ss : List ByteArray} (h : w.ownsRow B 9 1 v n (ss.map Value.string)) : ∃ a c, v = .slice a n c ∧ (0 < n → ∃ g, a = some ⟨g, 0, none⟩ ∧ g < w.heap.size ∧ ∀ i, i < n → w.cell? ⟨g, i, none⟩ = some (.string (ss.getD i default))) := by
  have hl : ss.length = n := by have := h.1; simpa using this
  rcases h.2 with ⟨rfl, h0⟩ | ⟨g, c, cur, rfl, hB, hg, h1⟩
  · exact ⟨none, 0, by rw [h0], fun q => absurd q (by omega)⟩
  · refine ⟨_, c, rfl, fun _ => ⟨g, rfl, (Array.getElem?_eq_some_iff.1 hg).1, fun i hi => ?_⟩⟩
    rw [World.ownsRow.cellAt h i (by omega), List.getElem?_map]
    have hi' : i < ss.length := by omega
    simp [List.getD, hi']

end Go.Proofs.YtajocakmmgpoaaaGreatDoor
