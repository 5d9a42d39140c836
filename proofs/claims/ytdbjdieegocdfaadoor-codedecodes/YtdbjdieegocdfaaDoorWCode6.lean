/-
  WALKS: Find of both; the statements CodeFinds, CodeNames.
-/
import Derived.Test.YtdbjdieegocdfaaDoorWCode5
namespace Go.Proofs.YtdbjdieegocdfaaDoor
open Go.RowKit
set_option linter.unusedVariables false
set_option linter.unusedSimpArgs false

/-- What Find answers. -/
def FnE (s : ByteArray) (i er : Int) : Prop := (∃ k : Nat, k < 29 ∧ nmA k = s ∧ i = (k : Int) ∧ er = 0) ∨ ((∀ k : Nat, k < 29 → nmA k ≠ s) ∧ i = 0 ∧ er = 111)
theorem nm_one {k j : Nat} (hk : k < 29) (hj : j < 29) (h : nmA k = nmA j) : k = j := by
  by_cases e : k = j
  · exact e
  · exact absurd (by rw [h]) (nm_ne k hk j hj e)
theorem FnE.one {s : ByteArray} {i er i' er' : Int} (h : FnE s i er) (k : FnE s i' er') : i = i' ∧ er = er' := by
  rcases h with ⟨a, ha, e, rfl, rfl⟩ | ⟨hn, rfl, rfl⟩
  · rcases k with ⟨b, hb, e', rfl, rfl⟩ | ⟨hn, _⟩
    · rw [nm_one ha hb (e.trans e'.symm)]; exact ⟨rfl, rfl⟩
    · exact absurd e (hn a ha)
  · rcases k with ⟨b, hb, e', _⟩ | ⟨_, rfl, rfl⟩
    · exact absurd e' (hn b hb)
    · exact ⟨rfl, rfl⟩
theorem fn_ex (s : ByteArray) : ∃ i er, FnE s i er := by
  by_cases h : ∃ k : Nat, k < 29 ∧ nmA k = s
  · obtain ⟨k, hk, e⟩ := h; exact ⟨_, _, .inl ⟨k, hk, e, rfl, rfl⟩⟩
  · exact ⟨_, _, .inr ⟨fun k hk e => h ⟨k, hk, e⟩, rfl, rfl⟩⟩
theorem bytes_eq {a b : ByteArray} (h : a.toList = b.toList) : a = b := by
  obtain ⟨⟨l⟩⟩ := a
  obtain ⟨⟨m⟩⟩ := b
  rw [ByteArray.toList_mk, ByteArray.toList_mk] at h
  subst h
  rfl
/-- The whole table, as a value. -/
def tabC : List Value := (List.range 29).flatMap fun k => [Value.string (nmA k), .int .u8 (onA k : Int), .int .u8 (tkA k : Int), .int .u8 (ptA k : Int), .int .i32 (baA k : Int), .int .i32 (bbA k : Int)]
theorem tabC_part : ∀ k, k < 29 → List.take 6 (List.drop (k * 6) tabC) = [Value.string (nmA k), .int .u8 (onA k : Int), .int .u8 (tkA k : Int), .int .u8 (ptA k : Int), .int .i32 (baA k : Int), .int .i32 (bbA k : Int)]
  | 0, _ => by kernel_rfl
  | 1, _ => by kernel_rfl
  | 2, _ => by kernel_rfl
  | 3, _ => by kernel_rfl
  | 4, _ => by kernel_rfl
  | 5, _ => by kernel_rfl
  | 6, _ => by kernel_rfl
  | 7, _ => by kernel_rfl
  | 8, _ => by kernel_rfl
  | 9, _ => by kernel_rfl
  | 10, _ => by kernel_rfl
  | 11, _ => by kernel_rfl
  | 12, _ => by kernel_rfl
  | 13, _ => by kernel_rfl
  | 14, _ => by kernel_rfl
  | 15, _ => by kernel_rfl
  | 16, _ => by kernel_rfl
  | 17, _ => by kernel_rfl
  | 18, _ => by kernel_rfl
  | 19, _ => by kernel_rfl
  | 20, _ => by kernel_rfl
  | 21, _ => by kernel_rfl
  | 22, _ => by kernel_rfl
  | 23, _ => by kernel_rfl
  | 24, _ => by kernel_rfl
  | 25, _ => by kernel_rfl
  | 26, _ => by kernel_rfl
  | 27, _ => by kernel_rfl
  | 28, _ => by kernel_rfl
  | n + 29, h => absurd h (by omega)
theorem tabC_len : tabC.length = 174 := by kernel_rfl
theorem tabC_at (k : Nat) (hk : k < 29) (j : Nat) (hj : j < 6) : tabC[k * 6 + j]? = [Value.string (nmA k), .int .u8 (onA k : Int), .int .u8 (tkA k : Int), .int .u8 (ptA k : Int), .int .i32 (baA k : Int), .int .i32 (bbA k : Int)][j]? := by
  rw [← tabC_part k hk, List.getElem?_take_of_lt hj, List.getElem?_drop]
theorem Rws.range {w : World} (h : Rws w) : w.rangeAt 0 0 tabC := by
  intro j v hv
  have hj : j < 174 := by have := (List.getElem?_eq_some_iff.1 hv).1; rw [tabC_len] at this; exact this
  obtain ⟨k, m, hk, hm, rfl⟩ : ∃ k m, k < 29 ∧ m < 6 ∧ j = k * 6 + m := ⟨j / 6, j % 6, by omega, by omega, by omega⟩
  rw [tabC_at k hk m hm] at hv
  rw [Nat.zero_add, ← hv]
  obtain ⟨c0, c1, c2, c3, c4, c5⟩ := h.2 k hk
  have hh : m = 0 ∨ m = 1 ∨ m = 2 ∨ m = 3 ∨ m = 4 ∨ m = 5 := by omega
  rcases hh with rfl | rfl | rfl | rfl | rfl | rfl
  · exact c0
  · exact c1
  · exact c2
  · exact c3
  · exact c4
  · exact c5
theorem load_tab {ops : Array Oper} {rest : List Oper} {op : Oper} {a : Act} {w : World} {Q : Exit → Act → World → Prop} (hgd : op.guard = none) (x : Operand) (ho : op.op = .load 56 x) (hx : a.eval x = .pointer (some ⟨0, 0, none⟩)) (hR : Rws w) (h : wpList Tryd.prog ops Q rest (a.put op.dst (.agg tabC.toArray)) w) : wpList Tryd.prog ops Q (op :: rest) a w :=
  wpList_load_mid hgd 56 x ho 0 0 hx tabC _ hR.range Tryd.underlying56 rfl (by rw [tabC_len]; kernel_rfl) h
theorem index_tab {k : Nat} (hk : k < 29) (W : World) : (Instr.index 56 (.agg tabC.toArray) (.int .i64 (k : Int))).run Tryd.prog W = .ok (rowV (nmA k) (onA k : Int) (tkA k : Int) (ptA k : Int) (baA k : Int) (bbA k : Int)) W := by
  have h1 : (0 : Int) ≤ (k : Int) ∧ (k : Int) < ((29 : Nat) : Int) := by omega
  obtain ⟨i, hi, hs⟩ : ∃ i, Tryd.prog.info? 50 = some i ∧ i.size = 6 := by
    have : (Tryd.prog.info? 50).map (·.size) = some 6 := by kernel_rfl
    cases hq : Tryd.prog.info? 50 with
    | none => rw [hq] at this; cases this
    | some i => rw [hq] at this; exact ⟨i, rfl, by simpa using this⟩
  have hagg : (isAgg 50).run Tryd.prog W = .ok true W := by
    unfold isAgg
    rw [Sem.run_bind, run_underlying Tryd.underlying50 W]
    simp
  simp [Instr.index, run_underlying Tryd.underlying56, asIntOf, h1, sizeOf, typeInfo, hi, hs, part, Sem.run_bind, hagg, hk, tabC_part k hk]
end Go.Proofs.YtdbjdieegocdfaaDoor
