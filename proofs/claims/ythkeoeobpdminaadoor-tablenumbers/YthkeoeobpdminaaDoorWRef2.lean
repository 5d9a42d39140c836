/-
  WALKS: the document's answer (payoffref01): plus, minus.
-/
import Derived.Test.YthkeoeobpdminaaDoorWRef1
namespace Go.Proofs.YthkeoeobpdminaaDoor
open Go.RowKit

theorem info3 : (Tryd.prog.info? 3).map (fun i => (i.zero, i.size, i.bytes)) = some (some (.int .i64 0), 1, 8) := by kernel_rfl

/-- What the call itself has gathered reads as digits. -/
theorem dg_of_own {w : World} {B : Nat} {v : Value} {ds : List Int} (h : w.ownsRow B 3 1 v ds.length (ds.map (Value.int .i64))) (hd : Digs ds) (hl : ds.length ≤ 1000) : Dg w v ds := by
  refine ⟨hd, hl, ?_⟩
  obtain ⟨_, h2⟩ := id h
  rcases h2 with ⟨rfl, h0⟩ | ⟨g, cap, cur, rfl, hb, hg, hc, hm, hs, ht⟩
  · exact ⟨none, 0, by rw [h0], by omega, ⟨by unfold maxLen; omega, fun _ => rfl⟩, Or.inl h0⟩
  · refine ⟨some ⟨g, 0, none⟩, cap, rfl, hc, ⟨hm, fun e => by cases e⟩, Or.inr ⟨g, 0, rfl, ?_, fun i hi => ?_⟩⟩
    · exact (h.lt g rfl).2
    · rw [Nat.zero_add, h.cellAt i (by omega)]
      simp [hi]

theorem fresh_of_own {w : World} {B n : Nat} {v : Value} {xs : List Value} (h : w.ownsRow B 3 1 v n xs) : Fresh B v := fun p m c e _ => by
  subst e
  exact (h.lt p.block rfl).1

/-- A digit more. -/
theorem own_snoc {w : World} {B : Nat} {v : Value} {ds : List Int} {d : Int} {n : Nat} (hn : ds.length = n) (h : w.ownsRow B 3 1 v (n + 1) (ds.map (Value.int .i64) ++ [.int .i64 d])) :
    w.ownsRow B 3 1 v (ds ++ [d]).length ((ds ++ [d]).map (Value.int .i64)) := by
  subst hn; simpa using h

/-- 'out = append(out, d)' of a list of digits that the call itself gathers. -/
theorem wp_digit {ops : Array Oper} {rest : List Oper} {o : Oper} {a : Act} {Q : Exit → Act → World → Prop} (w : World) (d : Int) (hgd : o.guard = none) (s x : Operand)
    (ho : o.op = .call { callee := .builtin .append, args := #[s, x], argTypes := #[69, 69] }) (base : Nat) (v : Value) (ds : List Int) (hs : a.eval s = v)
    (hx : a.eval x = .slice (some ⟨w.heap.size, 0, none⟩) 1 1) (hown : w.ownsRow base 3 1 v ds.length (ds.map (Value.int .i64))) (hl : ds.length ≤ 1000) (hb : base ≤ w.heap.size)
    (h : ∀ v' w', w'.ownsRow base 3 1 v' (ds ++ [d]).length ((ds ++ [d]).map (Value.int .i64)) → (w.alloc (.cells #[.int .i64 d] 3)).grownBy w' v.ownBlock → wpList Tryd.prog ops Q rest (a.put o.dst v') w') :
    wpList Tryd.prog ops Q (o :: rest) a (w.alloc (.cells #[.int .i64 d] 3)) := by
  obtain ⟨i0, hi, hz0, hz1, hz2⟩ := info_parts info3
  refine wpList_append_own _ hgd s x 69 ho base 3 i0 (.int .i64 0) 1 8 Tryd.underlying69 hi hz0 hz1 hz2 rfl (by decide) v _ _ hs (hown.alloc _) ⟨w.heap.size, 0, none⟩ 1 1 [.int .i64 d] hx rfl ?_ ?_ (by unfold maxLen; omega) (by omega) (by simp; omega) ?_
  · intro j u hj
    match j, hj with
    | 0, hj => simp at hj; subst hj; simp [Addr.add]
  · intro u hu; simp at hu; subst hu; rfl
  · intro v' w' h1 h2 _
    exact h v' w' (own_snoc rfl h1) h2

/-- One place of a sum. -/
theorem plus_step {a b ds : List Int} {k : Nat} {cc da db : Int} (hl : ds.length = k) (h : dval ds + ten k * cc = dval (a.take k) + dval (b.take k)) (ea : a.getD k 0 = da) (eb : b.getD k 0 = db) :
    dval (ds ++ [(da + db + cc) % 10]) + ten (k + 1) * ((da + db + cc) / 10) = dval (a.take (k + 1)) + dval (b.take (k + 1)) := by
  rw [dval_snoc, hl, dval_take_succ, dval_take_succ, ea, eb, ten_succ]
  have e1 : 10 * ten k * ((da + db + cc) / 10) = ten k * (10 * ((da + db + cc) / 10)) := by rw [Int.mul_comm 10, Int.mul_assoc]
  have e2 : ten k * ((da + db + cc) % 10) + ten k * (10 * ((da + db + cc) / 10)) = ten k * (da + db + cc) := by
    rw [← Int.mul_add]; congr 1; omega
  have e3 : ten k * (da + db + cc) = ten k * da + ten k * db + ten k * cc := by rw [Int.mul_add, Int.mul_add]
  omega

end Go.Proofs.YthkeoeobpdminaaDoor
