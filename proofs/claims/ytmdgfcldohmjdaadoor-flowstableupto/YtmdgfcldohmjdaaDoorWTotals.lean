/-
  LISTS OF TOTALS THAT A CALL GATHERS; an append of one.
-/
import Derived.Test.YtmdgfcldohmjdaaDoorWFlows
namespace Go.Proofs.YtmdgfcldohmjdaaDoor
open Go.RowKit
set_option linter.unusedVariables false
set_option linter.unusedSimpArgs false

/-- A total's cells; the cells of a list of totals. -/
def tc (x : ByteArray × Int) : List Value := [.string x.1, .int .i64 x.2]
def tcs (ts : List (ByteArray × Int)) : List Value := ts.flatMap tc
theorem tcs_len (ts : List (ByteArray × Int)) : (tcs ts).length = ts.length * 2 := by
  induction ts with
  | nil => rfl
  | cons t ts ih => simp [tcs, tc] at ih ⊢; omega
theorem tcs_snoc (ts : List (ByteArray × Int)) (t : ByteArray × Int) : tcs (ts ++ [t]) = tcs ts ++ tc t := by simp [tcs]
theorem infoT : (Tryd.prog.info? 67).map (fun i => (i.zero, i.size, i.bytes)) = some (some (.agg #[.string ⟨#[]⟩, .int .i64 0]), 2, 24) := by kernel_rfl

theorem own_snocT {w : World} {B : Nat} {v : Value} {ts : List (ByteArray × Int)} {t : ByteArray × Int} (h : w.ownsRow B 67 2 v (ts.length + 1) (tcs ts ++ tc t)) : w.ownsRow B 67 2 v (ts ++ [t]).length (tcs (ts ++ [t])) := by
  rw [tcs_snoc]; simpa using h
theorem own_sliceT {w : World} {B : Nat} {v : Value} {ts : List (ByteArray × Int)} {t : ByteArray × Int} (h : w.ownsRow B 67 2 v (ts ++ [t]).length (tcs (ts ++ [t]))) : ∃ g cap, v = .slice (some ⟨g, 0, none⟩) (ts ++ [t]).length cap := by
  obtain ⟨h1, h2⟩ := h
  rcases h2 with ⟨rfl, h2⟩ | ⟨g, cap, cur, rfl, _⟩
  · simp at h2
  · exact ⟨g, cap, rfl⟩

/-- 'list = append(list, t)' of a list of totals that the call itself gathers. -/
theorem wp_total {ops : Array Oper} {rest : List Oper} {o : Oper} {a : Act} {Q : Exit → Act → World → Prop} (w : World) (m : Int) (c : ByteArray) (hgd : o.guard = none) (s x : Operand)
    (ho : o.op = .call { callee := .builtin .append, args := #[s, x], argTypes := #[42, 42] }) (base : Nat) (v : Value) (ts : List (ByteArray × Int)) (hs : a.eval s = v)
    (hx : a.eval x = .slice (some ⟨w.heap.size, 0, none⟩) 1 1) (hown : w.ownsRow base 67 2 v ts.length (tcs ts)) (hl : ts.length ≤ 4398046511000) (hb : base ≤ w.heap.size)
    (h : ∀ v' w', w'.ownsRow base 67 2 v' (ts ++ [(c, m)]).length (tcs (ts ++ [(c, m)])) → (w.alloc (.cells #[.string c, .int .i64 m] 67)).grownBy w' v.ownBlock → wpList Tryd.prog ops Q rest (a.put o.dst v') w') :
    wpList Tryd.prog ops Q (o :: rest) a (w.alloc (.cells #[.string c, .int .i64 m] 67)) := by
  obtain ⟨i0, hi, hz0, hz1, hz2⟩ := info_parts infoT
  refine wpList_append_own _ hgd s x 42 ho base 67 i0 (.agg #[.string ⟨#[]⟩, .int .i64 0]) 2 24 Tryd.underlying42 hi hz0 hz1 hz2 rfl (by decide) v _ _ hs (hown.alloc _) ⟨w.heap.size, 0, none⟩ 1 1 (tc (c, m)) hx rfl ?_ ?_ (by unfold maxLen; omega) (by omega) (by simp; omega) ?_
  · intro j u hj
    match j, hj with
    | 0, hj => simp [tc] at hj; subst hj; simp [Addr.add]
    | 1, hj => simp [tc] at hj; subst hj; simp [Addr.add]
  · intro u hu
    simp [tc] at hu
    rcases hu with rfl | rfl <;> rfl
  · intro v' w' h1 h2 _
    exact h v' w' (own_snocT h1) h2
end Go.Proofs.YtmdgfcldohmjdaaDoor
