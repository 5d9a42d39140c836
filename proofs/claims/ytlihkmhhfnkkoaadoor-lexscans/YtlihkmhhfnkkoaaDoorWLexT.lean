/-
  LISTS OF TOKENS IN MEMORY; an append of one.
-/
import Derived.Test.YtlihkmhhfnkkoaaDoorWLex8
import Derived.Laws.AppendOwn
import Derived.Laws.AppendOwnNone
import Derived.Laws.OwnMore
import Derived.Maps.AppendAt
import Derived.OpenShut
namespace Go.Proofs.YtlihkmhhfnkkoaaDoor
open Go.RowKit Lx
set_option linter.unusedVariables false
set_option linter.unusedSimpArgs false

def tcells (t : Tok) : List Value := [.int .i64 t.k, .string (bs t.t), .int .i64 t.a, .int .i64 t.num, .int .i64 t.y, .int .i64 t.m, .int .i64 t.d, .int .i64 t.n, .int .i64 t.u]
instance : Inhabited Tok := ⟨tok0⟩
/-- A token in memory. -/
structure TK (w : World) (b o : Nat) (t : Tok) : Prop where
  c0 : w.cell? ⟨b, o, none⟩ = some (.int .i64 t.k)
  c1 : w.cell? ⟨b, o + 1, none⟩ = some (.string (bs t.t))
  c2 : w.cell? ⟨b, o + 2, none⟩ = some (.int .i64 t.a)
  c3 : w.cell? ⟨b, o + 3, none⟩ = some (.int .i64 t.num)
  c4 : w.cell? ⟨b, o + 4, none⟩ = some (.int .i64 t.y)
  c5 : w.cell? ⟨b, o + 5, none⟩ = some (.int .i64 t.m)
  c6 : w.cell? ⟨b, o + 6, none⟩ = some (.int .i64 t.d)
  c7 : w.cell? ⟨b, o + 7, none⟩ = some (.int .i64 t.n)
  c8 : w.cell? ⟨b, o + 8, none⟩ = some (.int .i64 t.u)
def TL (w : World) (a : Option Addr) (n : Nat) (ts : List Tok) : Prop :=
  ts.length = n ∧ n ≤ 65536 ∧ (n = 0 ∨ ∃ b o, a = some ⟨b, o, none⟩ ∧ b < w.heap.size ∧ ∀ i, i < n → TK w b (o + i * 9) (ts.getD i default))
theorem TK.later {w w' : World} {B b o : Nat} {t : Tok} (h : TK w b o t) (hb : Below B w w') (hB : b < B) : TK w' b o t :=
  ⟨(hb.cell (p := ⟨b, o, none⟩) hB).trans h.c0, (hb.cell (p := ⟨b, o + 1, none⟩) hB).trans h.c1, (hb.cell (p := ⟨b, o + 2, none⟩) hB).trans h.c2, (hb.cell (p := ⟨b, o + 3, none⟩) hB).trans h.c3, (hb.cell (p := ⟨b, o + 4, none⟩) hB).trans h.c4, (hb.cell (p := ⟨b, o + 5, none⟩) hB).trans h.c5, (hb.cell (p := ⟨b, o + 6, none⟩) hB).trans h.c6, (hb.cell (p := ⟨b, o + 7, none⟩) hB).trans h.c7, (hb.cell (p := ⟨b, o + 8, none⟩) hB).trans h.c8⟩
theorem TL.later {w w' : World} {a n ts} (h : TL w a n ts) (b : Below w.heap.size w w') : TL w' a n ts := by
  obtain ⟨h1, h2, h3⟩ := h
  refine ⟨h1, h2, ?_⟩
  rcases h3 with h3 | ⟨x, o, rfl, hx, hc⟩
  · exact .inl h3
  · exact .inr ⟨x, o, rfl, Nat.lt_of_lt_of_le hx b.size, fun i hi => (hc i hi).later b hx⟩
def tcs (ts : List Tok) : List Value := ts.flatMap tcells
theorem tcells_len (t : Tok) : (tcells t).length = 9 := rfl
theorem tcs_len (ts : List Tok) : (tcs ts).length = ts.length * 9 := by
  induction ts with
  | nil => rfl
  | cons t ts ih => simp [tcs, tcells_len] at ih ⊢; omega
theorem tcs_snoc (ts : List Tok) (t : Tok) : tcs (ts ++ [t]) = tcs ts ++ tcells t := by simp [tcs]
theorem tcs_at (ts : List Tok) : ∀ i, i < ts.length → ∀ j, j < 9 → (tcs ts)[i * 9 + j]? = (tcells (ts.getD i default))[j]? := by
  induction ts with
  | nil => intro i hi; simp at hi
  | cons t ts ih =>
    intro i hi j hj
    have e : tcs (t :: ts) = tcells t ++ tcs ts := rfl
    rw [e]
    match i with
    | 0 => rw [Nat.zero_mul, Nat.zero_add, List.getElem?_append_left (by rw [tcells_len]; omega)]; rfl
    | i + 1 =>
      rw [List.getElem?_append_right (by rw [tcells_len]; omega)]
      rw [show (i + 1) * 9 + j - (tcells t).length = i * 9 + j by rw [tcells_len]; omega, ih i (by simpa using hi) j hj]
      rfl
theorem infoTk : (Tryd.prog.info? 32).map (fun i => (i.zero, i.size, i.bytes)) = some (some (.agg #[.int .i64 0, .string ⟨#[]⟩, .int .i64 0, .int .i64 0, .int .i64 0, .int .i64 0, .int .i64 0, .int .i64 0, .int .i64 0]), 9, 80) := by kernel_rfl
theorem partsTk : ∃ i, Tryd.prog.info? 32 = some i ∧ i.zero = some (.agg #[.int .i64 0, .string ⟨#[]⟩, .int .i64 0, .int .i64 0, .int .i64 0, .int .i64 0, .int .i64 0, .int .i64 0, .int .i64 0]) ∧ i.size = 9 ∧ i.bytes = 80 := by
  have h := infoTk
  cases hq : Tryd.prog.info? 32 with
  | none => rw [hq] at h; cases h
  | some i =>
    rw [hq] at h
    simp only [Option.map_some, Option.some.injEq, Prod.mk.injEq] at h
    exact ⟨i, rfl, h.1, h.2.1, h.2.2⟩
abbrev OwT (w : World) (B : Nat) (v : Value) (ts : List Tok) : Prop := w.ownsRow B 32 9 v ts.length (tcs ts)
/-- A row that the call itself has gathered is a list in memory. -/
theorem tl_of_own {w : World} {B : Nat} {v : Value} {ts : List Tok} (h : OwT w B v ts) (hl : ts.length ≤ 65536) : ∃ a cap, v = .slice a ts.length cap ∧ TL w a ts.length ts := by
  obtain ⟨h1, h2⟩ := h
  rcases h2 with ⟨rfl, h2⟩ | ⟨g, cap, cur, rfl, hB, hg, hn, hm, hs, ht⟩
  · exact ⟨none, 0, by rw [h2], rfl, hl, .inl h2⟩
  · refine ⟨_, cap, rfl, rfl, hl, .inr ⟨g, 0, rfl, (Array.getElem?_eq_some_iff.1 hg).1, fun i hi => ?_⟩⟩
    have key : ∀ j, j < 9 → w.cell? ⟨g, i * 9 + j, none⟩ = (tcells (ts.getD i default))[j]? := fun j hj => by
      have e : w.cell? ⟨g, i * 9 + j, none⟩ = cur[i * 9 + j]? := by simp [World.cell?, hg]
      rw [e, ← tcs_at ts i hi j hj, ← ht, List.getElem?_take_of_lt (by omega)]
      simp
    rw [Nat.zero_add]
    exact ⟨key 0 (by omega), key 1 (by omega), key 2 (by omega), key 3 (by omega), key 4 (by omega), key 5 (by omega), key 6 (by omega), key 7 (by omega), key 8 (by omega)⟩
theorem own_snocT {w : World} {B : Nat} {v : Value} {ts : List Tok} {t : Tok} (h : w.ownsRow B 32 9 v (ts.length + 1) (tcs ts ++ tcells t)) : OwT w B v (ts ++ [t]) := by
  unfold OwT; rw [tcs_snoc]; simpa using h
/-- 'tokens = append(tokens, token)' of a list that the call itself gathers. -/
theorem wp_token {ops : Array Oper} {rest : List Oper} {o : Oper} {a : Act} {Q : Exit → Act → World → Prop} (w : World) (t : Tok) (tx : ByteArray) (htx : tx = bs t.t) (N : Nat) (hN : N = w.heap.size) (hgd : o.guard = none) (s x : Operand)
    (ho : o.op = .call { callee := .builtin .append, args := #[s, x], argTypes := #[22, 22] }) (base : Nat) (v : Value) (ts : List Tok) (hs : a.eval s = v)
    (hx : a.eval x = .slice (some ⟨N, 0, none⟩) 1 1) (hown : OwT w base v ts) (hl : ts.length ≤ 65536) (hb : base ≤ w.heap.size)
    (h : ∀ v' w', OwT w' base v' (ts ++ [t]) → Below base w w' → wpList Tryd.prog ops Q rest (a.put o.dst v') w') :
    wpList Tryd.prog ops Q (o :: rest) a (w.alloc (.cells #[.int .i64 t.k, .string tx, .int .i64 t.a, .int .i64 t.num, .int .i64 t.y, .int .i64 t.m, .int .i64 t.d, .int .i64 t.n, .int .i64 t.u] 32)) := by
  subst htx; subst hN
  obtain ⟨i0, hi, hz0, hz1, hz2⟩ := partsTk
  refine wpList_append_own _ hgd s x 22 ho base 32 i0 _ 9 80 Tryd.underlying22 hi hz0 hz1 hz2 rfl (by decide) v _ _ hs (hown.alloc _) ⟨w.heap.size, 0, none⟩ 1 1 (tcells t) hx rfl ?_ ?_ (by unfold maxLen; omega) (by omega) (by simp; omega) ?_
  · intro j u hj
    match j, hj with
    | 0, hj => simp [tcells] at hj; subst hj; simp [Addr.add]
    | 1, hj => simp [tcells] at hj; subst hj; simp [Addr.add]
    | 2, hj => simp [tcells] at hj; subst hj; simp [Addr.add]
    | 3, hj => simp [tcells] at hj; subst hj; simp [Addr.add]
    | 4, hj => simp [tcells] at hj; subst hj; simp [Addr.add]
    | 5, hj => simp [tcells] at hj; subst hj; simp [Addr.add]
    | 6, hj => simp [tcells] at hj; subst hj; simp [Addr.add]
    | 7, hj => simp [tcells] at hj; subst hj; simp [Addr.add]
    | 8, hj => simp [tcells] at hj; subst hj; simp [Addr.add]
  · intro u hu
    simp [tcells] at hu
    rcases hu with rfl | rfl | rfl | rfl | rfl | rfl | rfl | rfl | rfl <;> rfl
  · intro v' w' h1 h2 _
    refine h v' w' (own_snocT h1) ?_
    exact ((Below.refl _ w).alloc hb _).grown h2 (by simp; omega) (fun k e => by
      rcases hown.2 with ⟨rfl, _⟩ | ⟨g, c, cur, rfl, hB, _⟩
      · simp [Value.ownBlock] at e
      · simp [Value.ownBlock] at e; omega)
theorem grow_ofB {a b : World} (h : Below a.heap.size a b) : a.grownBy b none := ⟨h.os, h.tape, h.output, h.size, fun k hk _ => h.block k hk⟩
theorem OwT.later {w w' : World} {B : Nat} {v : Value} {ts : List Tok} (h : OwT w B v ts) (b : Below w.heap.size w w') : OwT w' B v ts := World.ownsRow.kept h (grow_ofB b) (Classical.em _)
end Go.Proofs.YtlihkmhhfnkkoaaDoor
