import Derived.Test.YtglgdfgdfkeogaaDoorXAA
import Derived.WalkKit
import Derived.Laws.BitsAllLaws
import Derived.Test.YtglgdfgdfkeogaaDoorRows
import Derived.WalkSpells
import Derived.Lib.Mul64
import Derived.BigQuiet
import Derived.Outline
namespace Go.Proofs.YtglgdfgdfkeogaaDoor
open Go.ChangeShapes Go.WideShapes Go.ChangeAt Go.RowKit Go.Deep
set_option linter.unusedVariables false

theorem table_names {H : Type} {enc : TypeId × Value → H} {P : Program} {W : World} {base : Nat} {sp : Nat → Bool} {held : Bool} {S N s TT : TypeId} {fS : Array Field} {a : Option Addr} {ln cn : Nat} {v1 : Value} {d : DataW H} {ps : List MemPlace}
    (hS : P.underlying S = some (.struct fS)) (hfS : fS.toList.map (fun f => (f.type, f.offset)) = [(N, 0), (TT, 1)]) (hcS : P.cellsOf S = 2) (hcN : P.cellsOf N = 1) (hN : P.underlying N = some (.slice s))
    (h : DataW.Trod enc P W base sp held S (.agg #[.slice a ln cn, v1]) d ps) : ∃ e0 e1, d = .agg [e0, e1] ∧ (ln = 0 ∨ ∃ l r, e0 = .slice l r ∧ l.length = ln) := by
  obtain ⟨fuel, hf⟩ := h
  obtain ⟨xs, n, _, hd, hl, hlen, hfld⟩ := DataW.trod_struct hS hf
  have h3 : fS.size = 2 := by have := congrArg List.length hfS; simpa using this
  obtain ⟨y0, y1, rfl⟩ : ∃ a b, xs = [a, b] := by
    have : xs.length = 2 := by omega
    match xs, this with
    | [a, b], _ => exact ⟨a, b, rfl⟩
  have g0 : fS[0]? = some (fS[0]'(by omega)) := by simp [show 0 < fS.size by omega]
  have e0 : ((fS[0]'(by omega)).type, (fS[0]'(by omega)).offset) = (N, 0) := by
    have : (fS.toList.map (fun f => (f.type, f.offset)))[0]? = [(N, 0), (TT, 1)][0]? := by rw [hfS]
    simpa [show 0 < fS.size by omega] using this
  have k0 := hfld 0 _ g0
  simp only [Prod.mk.injEq] at e0
  rw [e0.1, e0.2, hcN] at k0
  simp [Value.cells] at k0
  have hd1 : d = .agg ([y0, y1].map (·.1)) := by have := congrArg Prod.fst hd; simpa using this
  refine ⟨y0.1, y1.1, hd1, ?_⟩
  rcases open_slice hN k0 with ⟨h0, _⟩ | ⟨y, l, c, m, n, D, Pl, h0, hbb, hl, hm, hmm, xe, hx⟩
  · simp at h0; exact .inl h0.2.1
  · simp at h0
    obtain ⟨rfl, rfl, rfl⟩ := h0
    exact .inr ⟨_, _, by rw [xe], by simp⟩
end Go.Proofs.YtglgdfgdfkeogaaDoor

namespace Go.Proofs.YtglgdfgdfkeogaaDoor
open Go.RowKit
set_option linter.unusedVariables false

/-- The cell as it lies in the column of a name's first place. -/
def rawT (ss : List ByteArray) (rs : List (List Cl)) (n : ByteArray) (d : Nat) : Cl :=
  if colF ss n 0 < 0 then default else (rs.getD d []).getD (colF ss n 0).toNat default
def cellT (ss : List ByteArray) (rs : List (List Cl)) (n : ByteArray) (d : Nat) : Cl := if (rawT ss rs n d).h then rawT ss rs n d else default
/-- Each observation that the first table has, up to last, is the second's too. -/
def ConfP (ss : List ByteArray) (rs : List (List Cl)) (ss' : List ByteArray) (rs' : List (List Cl)) (last : Int) : Prop :=
  ∀ d : Nat, d < rs.length → (d : Int) ≤ last → ∀ c : Nat, c < (rs.getD d []).length → c < ss.length → colF ss (ss.getD c default) 0 = c → ((rs.getD d []).getD c default).h = true → (rs.getD d []).getD c default = rawT ss' rs' (ss.getD c default) d
theorem def_h : (default : Cl).h = false := rfl
theorem raw_has {ss : List ByteArray} {rs : List (List Cl)} {n : ByteArray} {d : Nat} (h : (rawT ss rs n d).h = true) : ∃ c : Nat, colF ss n 0 = c ∧ c < ss.length ∧ ss.getD c default = n ∧ d < rs.length ∧ c < (rs.getD d []).length ∧ rawT ss rs n d = (rs.getD d []).getD c default := by
  unfold rawT at h ⊢
  split at h
  · rw [def_h] at h; cases h
  · rename_i hc
    rw [if_neg hc]
    rcases colF_col ss n with ⟨e, _⟩ | ⟨c, e, h1, h2, _⟩
    · omega
    · rw [e] at h ⊢
      simp only [Int.toNat_natCast] at h ⊢
      refine ⟨c, rfl, h1, h2, ?_, ?_, rfl⟩
      · refine Nat.lt_of_not_le fun hd => ?_
        rw [show rs.getD d [] = [] by simp only [List.getD]; rw [List.getElem?_eq_none hd]; rfl] at h
        simp [def_h] at h
      · refine Nat.lt_of_not_le fun hd => ?_
        rw [show (rs.getD d []).getD c default = default by simp only [List.getD] at hd ⊢; rw [List.getElem?_eq_none hd]; rfl, def_h] at h
        cases h
theorem conf_raw {ss ss' : List ByteArray} {rs rs' : List (List Cl)} {last : Int} (h : ConfP ss rs ss' rs' last) {n : ByteArray} {d : Nat} (hd : (d : Int) ≤ last) (hx : (rawT ss rs n d).h = true) : rawT ss rs n d = rawT ss' rs' n d := by
  obtain ⟨c, e, h1, h2, h3, h4, h5⟩ := raw_has hx
  have := h d h3 hd c h4 h1 (by rw [h2]; exact e) (by rw [← h5]; exact hx)
  rw [h5, this, h2]
theorem cell_yes {ss : List ByteArray} {rs : List (List Cl)} {n : ByteArray} {d : Nat} (h : (rawT ss rs n d).h = true) : cellT ss rs n d = rawT ss rs n d := by unfold cellT; rw [if_pos h]
theorem cell_no {ss : List ByteArray} {rs : List (List Cl)} {n : ByteArray} {d : Nat} (h : (rawT ss rs n d).h = false) : cellT ss rs n d = default := by unfold cellT; rw [if_neg (by rw [h]; simp)]
theorem conf_cells {ss ss' : List ByteArray} {rs rs' : List (List Cl)} {last : Int} (h : ConfP ss rs ss' rs' last) (k : ConfP ss' rs' ss rs last) {n : ByteArray} {d : Nat} (hd : (d : Int) ≤ last) : cellT ss rs n d = cellT ss' rs' n d := by
  cases hx : (rawT ss rs n d).h with
  | true =>
    have e := conf_raw h hd hx
    rw [cell_yes hx, cell_yes (by rw [← e]; exact hx), e]
  | false =>
    cases hy : (rawT ss' rs' n d).h with
    | true =>
      have e := conf_raw k hd hy
      rw [e, hx] at hy; cases hy
    | false => rw [cell_no hx, cell_no hy]
theorem cells_conf {ss ss' : List ByteArray} {rs rs' : List (List Cl)} {last : Int} (h : ∀ d : Nat, (d : Int) ≤ last → d < rs.length → ∀ n ∈ ss, cellT ss rs n d = cellT ss' rs' n d) : ConfP ss rs ss' rs' last := by
  intro d h1 h2 c h3 h4 h5 h6
  have mem : ss.getD c default ∈ ss := by
    rw [show ss.getD c default = ss[c] by simp [List.getD, h4]]; exact List.getElem_mem h4
  have e := h d h2 h1 _ mem
  have r : rawT ss rs (ss.getD c default) d = (rs.getD d []).getD c default := by
    unfold rawT; rw [h5, if_neg (by omega), Int.toNat_natCast]
  rw [cell_yes (by rw [r]; exact h6), r] at e
  cases hy : (rawT ss' rs' (ss.getD c default) d).h with
  | true => rw [e, cell_yes hy]
  | false =>
    rw [cell_no hy] at e
    rw [e, def_h] at h6; cases h6
/-- What the document asks, day by day and name by name. -/
def AgreeP (ss : List ByteArray) (rs : List (List Cl)) (ss' : List ByteArray) (rs' : List (List Cl)) (last : Int) : Prop :=
  ∀ d : Nat, (d : Int) ≤ last → (d < rs.length ∨ d < rs'.length) → ∀ n ∈ ss ++ ss', cellT ss rs n d = cellT ss' rs' n d
theorem agree_iff (ss ss' : List ByteArray) (rs rs' : List (List Cl)) (last : Int) : (ConfP ss rs ss' rs' last ∧ ConfP ss' rs' ss rs last) ↔ AgreeP ss rs ss' rs' last :=
  ⟨fun h d hd _ n _ => conf_cells h.1 h.2 hd, fun h => ⟨cells_conf fun d h1 h2 n hn => h d h1 (.inl h2) n (List.mem_append_left _ hn), cells_conf fun d h1 h2 n hn => (h d h1 (.inr h2) n (List.mem_append_right _ hn)).symm⟩⟩
end Go.Proofs.YtglgdfgdfkeogaaDoor

namespace Go.Proofs.YtglgdfgdfkeogaaDoor
open Go.RowKit

end Go.Proofs.YtglgdfgdfkeogaaDoor

namespace Go.Proofs.YtglgdfgdfkeogaaDoor
open Go.RowKit

/-- A number without its sign. -/
def absI (a : Int) : Int := if a < 0 then -a else a
end Go.Proofs.YtglgdfgdfkeogaaDoor

namespace Go.Proofs.YtglgdfgdfkeogaaDoor
open Go.RowKit

end Go.Proofs.YtglgdfgdfkeogaaDoor

namespace Go.Proofs.YtglgdfgdfkeogaaDoor
open Go.RowKit

end Go.Proofs.YtglgdfgdfkeogaaDoor

namespace Go.Proofs.YtglgdfgdfkeogaaDoor
open Go.RowKit

end Go.Proofs.YtglgdfgdfkeogaaDoor

namespace Go.Proofs.YtglgdfgdfkeogaaDoor
open Go.RowKit

end Go.Proofs.YtglgdfgdfkeogaaDoor

namespace Go.Proofs.YtglgdfgdfkeogaaDoor
open Go.RowKit

theorem info3 : (Tryd.prog.info? 3).map (fun i => (i.zero, i.size, i.bytes)) = some (some (.int .i64 0), 1, 8) := by kernel_rfl

end Go.Proofs.YtglgdfgdfkeogaaDoor

namespace Go.Proofs.YtglgdfgdfkeogaaDoor
open Go.RowKit

end Go.Proofs.YtglgdfgdfkeogaaDoor
