/-
  EXPRESSIONS OF ONE'S OWN: each list of kids in a block of its own; the law's copied.
-/
import Derived.Test.YtmhfegdjcdnneaaWX1
import Derived.Laws.AppendOwn
import Derived.Laws.AppendOwnNone
import Derived.Laws.OwnMore
import Derived.Maps.AppendAt
import Derived.Deep.AppendLies
import Derived.Deep.RegionLaw
namespace Go.Proofs.Ytmhfegdjcdnneaa
open Go.RowKit
set_option linter.unusedVariables false
set_option linter.unusedSimpArgs false

/-- An expression whose lists lie in blocks of their own, from lo up to hi. -/
inductive XO (w : World) : Nat → Nat → Xt → List Value → Prop
  | mk {lo hi : Nat} {op num day : Int} {kids : List Xt} {ka : Option Addr} {kc : Nat} (V : Nat → List Value) (L H : Nat → Nat)
    (wop : i64 op) (wnum : i64 num) (wday : i64 day) (hk : Hd ka kids.length kc) (hn : kids.length ≤ 8796093021952)
    (hr : kids.length = 0 ∨ ∃ b, ka = some ⟨b, 0, none⟩ ∧ lo ≤ b ∧ b < hi ∧ (∃ cur, w.heap[b]? = some (.cells cur 24 (0, 0)) ∧ ∀ i, i < kids.length → ∀ j, j < 4 → cur[i * 4 + j]? = some ((V i).getD j default)) ∧ ∀ i, i < kids.length → ¬ (L i ≤ b ∧ b < H i))
    (hR : ∀ i, i < kids.length → lo ≤ L i ∧ H i ≤ hi) (hO : ∀ i j, i < j → j < kids.length → H i ≤ L j)
    (hkids : ∀ i, i < kids.length → XO w (L i) (H i) (kids.getD i default) (V i)) :
    XO w lo hi (.mk op num day kids) [.int .i64 op, .int .i64 num, .int .i64 day, .slice ka kids.length kc]
theorem XO.keep {w w' : World} {lo hi : Nat} {e : Xt} {vs : List Value} (h : XO w lo hi e vs) : (∀ k, lo ≤ k → k < hi → w'.heap[k]? = w.heap[k]?) → XO w' lo hi e vs := by
  induction h with
  | @mk lo hi op num day kids ka kc V L H wop wnum wday hk hn hr hR hO hkids ih =>
    intro hw
    refine .mk V L H wop wnum wday hk hn ?_ hR hO (fun i hi => ih i hi (fun k h1 h2 => hw k (by have := hR i hi; omega) (by have := hR i hi; omega)))
    rcases hr with hr | ⟨b, e1, e2, e3, ⟨cur, e4, e5⟩, e6⟩
    · exact .inl hr
    · exact .inr ⟨b, e1, e2, e3, ⟨cur, (hw b e2 e3).trans e4, e5⟩, e6⟩
theorem XO.later {w w' : World} {lo hi : Nat} {e : Xt} {vs : List Value} (h : XO w lo hi e vs) {B : Nat} (b : Below B w w') (hB : hi ≤ B) : XO w' lo hi e vs := h.keep (fun k _ h2 => b.block k (by omega))
theorem XO.xv {w : World} {lo hi : Nat} {e : Xt} {vs : List Value} (h : XO w lo hi e vs) : XV w e vs := by
  induction h with
  | @mk lo hi op num day kids ka kc V L H wop wnum wday hk hn hr hR hO hkids ih =>
    refine .mk V wop wnum wday hk hn ?_ ih
    rcases hr with hr | ⟨b, e1, e2, e3, ⟨cur, e4, e5⟩, e6⟩
    · exact .inl hr
    · refine .inr ⟨b, 0, e1, (Array.getElem?_eq_some_iff.1 e4).1, fun i hi j hj => ?_⟩
      have := e5 i hi j hj
      rw [Nat.zero_add]
      simp only [World.cell?, e4]
      simpa using this
theorem XO.wide {w : World} {lo hi lo' hi' : Nat} {e : Xt} {vs : List Value} (h : XO w lo hi e vs) (h1 : lo' ≤ lo) (h2 : hi ≤ hi') : XO w lo' hi' e vs := by
  cases h with
  | mk V L H wop wnum wday hk hn hr hR hO hkids =>
    refine .mk V L H wop wnum wday hk hn ?_ (fun i hi => ⟨by have := (hR i hi).1; omega, by have := (hR i hi).2; omega⟩) hO hkids
    rcases hr with hr | ⟨b, e1, e2, e3, e4, e6⟩
    · exact .inl hr
    · exact .inr ⟨b, e1, by omega, by omega, e4, e6⟩
theorem XO.four {w : World} {lo hi : Nat} {e : Xt} {vs : List Value} (h : XO w lo hi e vs) : ∃ a b c d, vs = [a, b, c, d] := h.xv.four
theorem infoX : (Try.prog.info? 24).map (fun i => (i.zero, i.size, i.bytes)) = some (some (.agg #[.int .i64 0, .int .i64 0, .int .i64 0, .slice none 0 0]), 4, 48) := by kernel_rfl
/-- 'x.Kids = append(x.Kids, e)' in a region that draws. -/
theorem step_xs {ops : Array Oper} {o : Oper} {a : Act} {K : Act → World → Prop} {Q : Exit → Act → World → Prop} {E : Prop} (w : World) (hgd : o.guard = none) (s x : Operand)
    (ho : o.op = .call { callee := .builtin .append, args := #[s, x], argTypes := #[22, 22] }) (base : Nat) (v : Value) (k : Nat) (xs : List Value) (hs : a.eval s = v)
    (hown : w.ownsRow base 24 4 v k xs) (Bn : Nat) (v0 v1 v2 v3 : Value) (h1c : ∀ u ∈ [v0, v1, v2, v3], u.oneCell' = true) (fr : Nat × Nat) (hx : a.eval x = .slice (some ⟨Bn, 0, none⟩) 1 1) (hb : w.heap[Bn]? = some (.cells #[v0, v1, v2, v3] 24 fr)) (hl : k ≤ 1099511627776) (hbase : base ≤ w.heap.size)
    (h : ∀ g cap w', w'.ownsRow base 24 4 (.slice (some ⟨g, 0, none⟩) (k + 1) cap) (k + 1) (xs ++ [v0, v1, v2, v3]) → w.grownBy w' v.ownBlock → (v.ownBlock = some g ∨ g = w.heap.size) → g < w'.heap.size → K (a.put o.dst (.slice (some ⟨g, 0, none⟩) (k + 1) cap)) w') :
    if Region.wanted o (yielded ops a.tmps) = true then Oper.wp Try.prog o a w K Q else E := by
  obtain ⟨i0, hi, hz0, hz1, hz2⟩ := info_parts infoX
  exact step_append_lies w hgd s x 22 ho base 24 i0 (.agg #[.int .i64 0, .int .i64 0, .int .i64 0, .slice none 0 0]) 4 48 Try.underlying22 hi hz0 hz1 hz2 rfl (by decide) v k xs hs hown ⟨Bn, 0, none⟩ 1 1 [v0, v1, v2, v3] hx rfl (fun j u hj => World.news_of_block hb j u hj) h1c (by omega) (by unfold maxLen; omega) (by omega) hbase w.heap.size rfl h
/-- The kids that are there while an expression is copied. -/
structure CK (wr : World) (B : Nat) (kids : List Xt) (i : Nat) (v : Value) (V : Nat → List Value) (L H : Nat → Nat) : Prop where
  row : ∃ xs, wr.ownsRow B 24 4 v i xs ∧ ∀ j, j < i → ∀ c, c < 4 → xs[j * 4 + c]? = some ((V j).getD c default)
  apart : ∀ b, v.ownBlock = some b → ∀ j, j < i → ¬ (L j ≤ b ∧ b < H j)
  rng : ∀ j, j < i → B ≤ L j ∧ H j ≤ wr.heap.size
  ord : ∀ j k, j < k → k < i → H j ≤ L k
  kids : ∀ j, j < i → XO wr (L j) (H j) (kids.getD j default) (V j)
/-- One more. -/
theorem CK.snoc {wr w5 w7 : World} {B : Nat} {kids : List Xt} {i : Nat} {v : Value} {V : Nat → List Value} {L H : Nat → Nat} (h : CK wr B kids i v V L H) (hB : B ≤ wr.heap.size) (b5 : Below wr.heap.size wr w5) {v0 v1 v2 v3 : Value} (hx : XO w5 wr.heap.size w5.heap.size (kids.getD i default) [v0, v1, v2, v3])
    {xs : List Value} (hxs : wr.ownsRow B 24 4 v i xs) (hxv : ∀ j, j < i → ∀ c, c < 4 → xs[j * 4 + c]? = some ((V j).getD c default)) {g cap : Nat} {w6 : World} (h6 : ∀ k, k < w5.heap.size → w6.heap[k]? = w5.heap[k]?) (s6 : w5.heap.size < w6.heap.size)
    (ho : w7.ownsRow B 24 4 (.slice (some ⟨g, 0, none⟩) (i + 1) cap) (i + 1) (xs ++ [v0, v1, v2, v3])) (hg : w6.grownBy w7 v.ownBlock) (hlies : v.ownBlock = some g ∨ g = w6.heap.size) :
    CK w7 B kids (i + 1) (.slice (some ⟨g, 0, none⟩) (i + 1) cap) (fun j => if j = i then [v0, v1, v2, v3] else V j) (fun j => if j = i then wr.heap.size else L j) (fun j => if j = i then w5.heap.size else H j) := by
  have hbl : ∀ b, v.ownBlock = some b → b < wr.heap.size := fun b hb => (hxs.lt b hb).2
  have s5 := b5.size
  have hl : xs.length = i * 4 := hxs.1
  refine ⟨⟨_, ho, fun j hj c hc => ?_⟩, fun b hb j hj => ?_, fun j hj => ?_, fun j k hjk hk => ?_, fun j hj => ?_⟩
  · by_cases e : j = i
    · subst e
      simp only [if_true]
      rw [List.getElem?_append_right (by omega), show j * 4 + c - xs.length = c by omega]
      match c, hc with
      | 0, _ => rfl
      | 1, _ => rfl
      | 2, _ => rfl
      | 3, _ => rfl
    · simp only [if_neg e]
      rw [List.getElem?_append_left (by omega)]
      exact hxv j (by omega) c hc
  · simp only [Value.ownBlock, Option.some.injEq] at hb
    subst hb
    by_cases e : j = i
    · subst e
      simp only [if_true]
      rcases hlies with hl' | hl'
      · have := hbl _ hl'; omega
      · omega
    · simp only [if_neg e]
      rcases hlies with hl' | hl'
      · exact h.apart _ hl' j (by omega)
      · have := (h.rng j (by omega)).2; omega
  · have := hg.size
    by_cases e : j = i
    · subst e; simp only [if_true]; omega
    · simp only [if_neg e]; have := h.rng j (by omega); omega
  · by_cases e : k = i
    · subst e
      simp only [if_true, if_neg (show ¬ j = k by omega)]
      exact (h.rng j hjk).2
    · simp only [if_neg e, if_neg (show ¬ j = i by omega)]
      exact h.ord j k hjk (by omega)
  · by_cases e : j = i
    · subst e
      simp only [if_true]
      refine hx.keep (fun k h1 h2 => ?_)
      rw [hg.block k (by omega) (fun q => by have := hbl k q.symm; omega), h6 k h2]
    · simp only [if_neg e]
      have hr := h.rng j (by omega)
      refine (h.kids j (by omega)).keep (fun k h1 h2 => ?_)
      rw [hg.block k (by omega) (fun q => h.apart k q.symm j (by omega) ⟨h1, h2⟩), h6 k (by omega), b5.block k (by omega)]
theorem CK.keep {wr w' : World} {B : Nat} {kids : List Xt} {i : Nat} {v : Value} {V : Nat → List Value} {L H : Nat → Nat} (h : CK wr B kids i v V L H) (hw : ∀ k, B ≤ k → k < wr.heap.size → w'.heap[k]? = wr.heap[k]?) (hs : wr.heap.size ≤ w'.heap.size) : CK w' B kids i v V L H := by
  obtain ⟨⟨xs, ho, hx⟩, h2, h3, h4, h5⟩ := h
  refine ⟨⟨xs, ⟨ho.1, ?_⟩, hx⟩, h2, fun j hj => ⟨(h3 j hj).1, Nat.le_trans (h3 j hj).2 hs⟩, h4, fun j hj => (h5 j hj).keep (fun k q1 q2 => hw k (by have := h3 j hj; omega) (by have := h3 j hj; omega))⟩
  rcases ho.2 with h | ⟨g, cap, cur, e1, e2, e3, e4⟩
  · exact .inl h
  · exact .inr ⟨g, cap, cur, e1, e2, (hw g e2 (Array.getElem?_eq_some_iff.1 e3).1).trans e3, e4⟩
end Go.Proofs.Ytmhfegdjcdnneaa
