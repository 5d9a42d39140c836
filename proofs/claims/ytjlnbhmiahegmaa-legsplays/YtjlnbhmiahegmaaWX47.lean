/-
  EXPRESSIONS OF ONE'S OWN: each list of kids in a block of its own; the law's copied.
-/
import Derived.Test.YtjlnbhmiahegmaaWX1
import Derived.Laws.AppendOwn
import Derived.Laws.AppendOwnNone
import Derived.Laws.OwnMore
import Derived.Maps.AppendAt
import Derived.Deep.AppendLies
import Derived.Deep.RegionLaw
import Derived.Laws.MakeOwn
namespace Go.Proofs.Ytjlnbhmiahegmaa
open Go.RowKit
set_option linter.unusedVariables false
set_option linter.unusedSimpArgs false

/-- An expression whose lists lie in blocks of their own, from lo up to hi. -/
inductive XO (w : World) : Nat → Nat → Xt → List Value → Prop
  | mk {lo hi : Nat} {op num day : Int} {kids : List Xt} {ka : Option Addr} {kc : Nat} (V : Nat → List Value) (L H : Nat → Nat)
    (wop : i64 op) (wnum : i64 num) (wday : i64 day) (hk : Hd ka kids.length kc) (hn : kids.length ≤ 8796093021952)
    (hr : kids.length = 0 ∨ ∃ b, ka = some ⟨b, 0, none⟩ ∧ lo ≤ b ∧ b < hi ∧ (∃ cur, w.heap[b]? = some (.cells cur 24 (0, 0)) ∧ ∀ i, i < kids.length → ∀ j, j < 4 → cur[i * 4 + j]? = some ((V i).getD j default)) ∧ ∀ i, i < kids.length → ¬ (L i ≤ b ∧ b < H i))
    (hR : ∀ i, i < kids.length → lo ≤ L i ∧ H i ≤ hi) (hO : ∀ i j, i < j → j < kids.length → H i ≤ L j)
    (hkids : ∀ i, i < kids.length → XO w (L i) (H i) (kids.getD i default) (V i)) :
    XO w lo hi (.mk op num day kids) [.int .i64 op, .int .i64 num, .int .i64 day, .slice ka kids.length kc]
theorem XO.keep {w w' : World} {lo hi : Nat} {e : Xt} {vs : List Value} (h : XO w lo hi e vs) : (∀ k, lo ≤ k → k < hi → w'.heap[k]? = w.heap[k]?) → XO w' lo hi e vs := by
  induction h with
  | @mk lo hi op num day kids ka kc V L H wop wnum wday hk hn hr hR hO hkids ih =>
    intro hw
    refine .mk V L H wop wnum wday hk hn ?_ hR hO (fun i hi => ih i hi (fun k h1 h2 => hw k (by have := hR i hi; omega) (by have := hR i hi; omega)))
    rcases hr with hr | ⟨b, e1, e2, e3, ⟨cur, e4, e5⟩, e6⟩
    · exact .inl hr
    · exact .inr ⟨b, e1, e2, e3, ⟨cur, (hw b e2 e3).trans e4, e5⟩, e6⟩
theorem XO.later {w w' : World} {lo hi : Nat} {e : Xt} {vs : List Value} (h : XO w lo hi e vs) {B : Nat} (b : Below B w w') (hB : hi ≤ B) : XO w' lo hi e vs := h.keep (fun k _ h2 => b.block k (by omega))
theorem XO.xv {w : World} {lo hi : Nat} {e : Xt} {vs : List Value} (h : XO w lo hi e vs) : XV w e vs := by
  induction h with
  | @mk lo hi op num day kids ka kc V L H wop wnum wday hk hn hr hR hO hkids ih =>
    refine .mk V wop wnum wday hk hn ?_ ih
    rcases hr with hr | ⟨b, e1, e2, e3, ⟨cur, e4, e5⟩, e6⟩
    · exact .inl hr
    · refine .inr ⟨b, 0, e1, (Array.getElem?_eq_some_iff.1 e4).1, fun i hi j hj => ?_⟩
      have := e5 i hi j hj
      rw [Nat.zero_add]
      simp only [World.cell?, e4]
      simpa using this
theorem XO.wide {w : World} {lo hi lo' hi' : Nat} {e : Xt} {vs : List Value} (h : XO w lo hi e vs) (h1 : lo' ≤ lo) (h2 : hi ≤ hi') : XO w lo' hi' e vs := by
  cases h with
  | mk V L H wop wnum wday hk hn hr hR hO hkids =>
    refine .mk V L H wop wnum wday hk hn ?_ (fun i hi => ⟨by have := (hR i hi).1; omega, by have := (hR i hi).2; omega⟩) hO hkids
    rcases hr with hr | ⟨b, e1, e2, e3, e4, e6⟩
    · exact .inl hr
    · exact .inr ⟨b, e1, by omega, by omega, e4, e6⟩
theorem XO.four {w : World} {lo hi : Nat} {e : Xt} {vs : List Value} (h : XO w lo hi e vs) : ∃ a b c d, vs = [a, b, c, d] := h.xv.four
theorem infoX : (Try.prog.info? 24).map (fun i => (i.zero, i.size, i.bytes)) = some (some (.agg #[.int .i64 0, .int .i64 0, .int .i64 0, .slice none 0 0]), 4, 48) := by kernel_rfl
/-- 'x.Kids = append(x.Kids, e)' in a region that draws. -/
theorem step_xs {ops : Array Oper} {o : Oper} {a : Act} {K : Act → World → Prop} {Q : Exit → Act → World → Prop} {E : Prop} (w : World) (hgd : o.guard = none) (s x : Operand)
    (ho : o.op = .call { callee := .builtin .append, args := #[s, x], argTypes := #[22, 22] }) (base : Nat) (v : Value) (k : Nat) (xs : List Value) (hs : a.eval s = v)
    (hown : w.ownsRow base 24 4 v k xs) (Bn : Nat) (v0 v1 v2 v3 : Value) (h1c : ∀ u ∈ [v0, v1, v2, v3], u.oneCell' = true) (fr : Nat × Nat) (hx : a.eval x = .slice (some ⟨Bn, 0, none⟩) 1 1) (hb : w.heap[Bn]? = some (.cells #[v0, v1, v2, v3] 24 fr)) (hl : k ≤ 1099511627776) (hbase : base ≤ w.heap.size)
    (h : ∀ g cap w', w'.ownsRow base 24 4 (.slice (some ⟨g, 0, none⟩) (k + 1) cap) (k + 1) (xs ++ [v0, v1, v2, v3]) → w.grownBy w' v.ownBlock → (v.ownBlock = some g ∨ g = w.heap.size) → g < w'.heap.size → K (a.put o.dst (.slice (some ⟨g, 0, none⟩) (k + 1) cap)) w') :
    if Region.wanted o (yielded ops a.tmps) = true then Oper.wp Try.prog o a w K Q else E := by
  obtain ⟨i0, hi, hz0, hz1, hz2⟩ := info_parts infoX
  exact step_append_lies w hgd s x 22 ho base 24 i0 (.agg #[.int .i64 0, .int .i64 0, .int .i64 0, .slice none 0 0]) 4 48 Try.underlying22 hi hz0 hz1 hz2 rfl (by decide) v k xs hs hown ⟨Bn, 0, none⟩ 1 1 [v0, v1, v2, v3] hx rfl (fun j u hj => World.news_of_block hb j u hj) h1c (by omega) (by unfold maxLen; omega) (by omega) hbase w.heap.size rfl h
/-- The kids that are there while an expression is copied. -/
structure CK (wr : World) (B : Nat) (kids : List Xt) (i : Nat) (v : Value) (V : Nat → List Value) (L H : Nat → Nat) : Prop where
  row : ∃ xs, wr.ownsRow B 24 4 v i xs ∧ ∀ j, j < i → ∀ c, c < 4 → xs[j * 4 + c]? = some ((V j).getD c default)
  apart : ∀ b, v.ownBlock = some b → ∀ j, j < i → ¬ (L j ≤ b ∧ b < H j)
  rng : ∀ j, j < i → B ≤ L j ∧ H j ≤ wr.heap.size
  ord : ∀ j k, j < k → k < i → H j ≤ L k
  kids : ∀ j, j < i → XO wr (L j) (H j) (kids.getD j default) (V j)
/-- One more. -/
theorem CK.snoc {wr w5 w7 : World} {B : Nat} {kids : List Xt} {i : Nat} {v : Value} {V : Nat → List Value} {L H : Nat → Nat} (h : CK wr B kids i v V L H) (hB : B ≤ wr.heap.size) (b5 : Below wr.heap.size wr w5) {v0 v1 v2 v3 : Value} (hx : XO w5 wr.heap.size w5.heap.size (kids.getD i default) [v0, v1, v2, v3])
    {xs : List Value} (hxs : wr.ownsRow B 24 4 v i xs) (hxv : ∀ j, j < i → ∀ c, c < 4 → xs[j * 4 + c]? = some ((V j).getD c default)) {g cap : Nat} {w6 : World} (h6 : ∀ k, k < w5.heap.size → w6.heap[k]? = w5.heap[k]?) (s6 : w5.heap.size < w6.heap.size)
    (ho : w7.ownsRow B 24 4 (.slice (some ⟨g, 0, none⟩) (i + 1) cap) (i + 1) (xs ++ [v0, v1, v2, v3])) (hg : w6.grownBy w7 v.ownBlock) (hlies : v.ownBlock = some g ∨ g = w6.heap.size) :
    CK w7 B kids (i + 1) (.slice (some ⟨g, 0, none⟩) (i + 1) cap) (fun j => if j = i then [v0, v1, v2, v3] else V j) (fun j => if j = i then wr.heap.size else L j) (fun j => if j = i then w5.heap.size else H j) := by
  have hbl : ∀ b, v.ownBlock = some b → b < wr.heap.size := fun b hb => (hxs.lt b hb).2
  have s5 := b5.size
  have hl : xs.length = i * 4 := hxs.1
  refine ⟨⟨_, ho, fun j hj c hc => ?_⟩, fun b hb j hj => ?_, fun j hj => ?_, fun j k hjk hk => ?_, fun j hj => ?_⟩
  · by_cases e : j = i
    · subst e
      simp only [if_true]
      rw [List.getElem?_append_right (by omega), show j * 4 + c - xs.length = c by omega]
      match c, hc with
      | 0, _ => rfl
      | 1, _ => rfl
      | 2, _ => rfl
      | 3, _ => rfl
    · simp only [if_neg e]
      rw [List.getElem?_append_left (by omega)]
      exact hxv j (by omega) c hc
  · simp only [Value.ownBlock, Option.some.injEq] at hb
    subst hb
    by_cases e : j = i
    · subst e
      simp only [if_true]
      rcases hlies with hl' | hl'
      · have := hbl _ hl'; omega
      · omega
    · simp only [if_neg e]
      rcases hlies with hl' | hl'
      · exact h.apart _ hl' j (by omega)
      · have := (h.rng j (by omega)).2; omega
  · have := hg.size
    by_cases e : j = i
    · subst e; simp only [if_true]; omega
    · simp only [if_neg e]; have := h.rng j (by omega); omega
  · by_cases e : k = i
    · subst e
      simp only [if_true, if_neg (show ¬ j = k by omega)]
      exact (h.rng j hjk).2
    · simp only [if_neg e, if_neg (show ¬ j = i by omega)]
      exact h.ord j k hjk (by omega)
  · by_cases e : j = i
    · subst e
      simp only [if_true]
      refine hx.keep (fun k h1 h2 => ?_)
      rw [hg.block k (by omega) (fun q => by have := hbl k q.symm; omega), h6 k h2]
    · simp only [if_neg e]
      have hr := h.rng j (by omega)
      refine (h.kids j (by omega)).keep (fun k h1 h2 => ?_)
      rw [hg.block k (by omega) (fun q => h.apart k q.symm j (by omega) ⟨h1, h2⟩), h6 k (by omega), b5.block k (by omega)]
theorem CK.keep {wr w' : World} {B : Nat} {kids : List Xt} {i : Nat} {v : Value} {V : Nat → List Value} {L H : Nat → Nat} (h : CK wr B kids i v V L H) (hw : ∀ k, B ≤ k → k < wr.heap.size → w'.heap[k]? = wr.heap[k]?) (hs : wr.heap.size ≤ w'.heap.size) : CK w' B kids i v V L H := by
  obtain ⟨⟨xs, ho, hx⟩, h2, h3, h4, h5⟩ := h
  refine ⟨⟨xs, ⟨ho.1, ?_⟩, hx⟩, h2, fun j hj => ⟨(h3 j hj).1, Nat.le_trans (h3 j hj).2 hs⟩, h4, fun j hj => (h5 j hj).keep (fun k q1 q2 => hw k (by have := h3 j hj; omega) (by have := h3 j hj; omega))⟩
  rcases ho.2 with h | ⟨g, cap, cur, e1, e2, e3, e4⟩
  · exact .inl h
  · exact .inr ⟨g, cap, cur, e1, e2, (hw g e2 (Array.getElem?_eq_some_iff.1 e3).1).trans e3, e4⟩
end Go.Proofs.Ytjlnbhmiahegmaa

namespace Go.Proofs.Ytjlnbhmiahegmaa
open Go.RowKit
set_option linter.unusedVariables false
set_option linter.unusedSimpArgs false

/-- A block of cells. -/
def Bk (w : World) (b : Nat) (cs : Array Value) (t : TypeId) : Prop := w.heap[b]? = some (.cells cs t (0, 0))
theorem Bk.cell {w : World} {b : Nat} {cs : Array Value} {t : TypeId} (h : Bk w b cs t) (k : Nat) : w.cell? ⟨b, k, none⟩ = cs[k]? := by
  unfold Bk at h; simp [World.cell?, h]
theorem Bk.frozen {w : World} {b : Nat} {cs : Array Value} {t : TypeId} (h : Bk w b cs t) (k : Nat) : w.frozen? ⟨b, k, none⟩ = false := by
  unfold Bk at h; simp [World.frozen?, h]
theorem Bk.lt {w : World} {b : Nat} {cs : Array Value} {t : TypeId} (h : Bk w b cs t) : b < w.heap.size := (Array.getElem?_eq_some_iff.1 h).1
theorem Bk.below {w w' : World} {b : Nat} {cs : Array Value} {t : TypeId} (h : Bk w b cs t) {B : Nat} (g : Below B w w') (hb : b < B) : Bk w' b cs t := (g.block b hb).trans h
theorem Bk.alloc {w : World} {b : Nat} {cs : Array Value} {t : TypeId} (h : Bk w b cs t) (o : Obj) : Bk (w.alloc o) b cs t := (Below.heap_alloc w o b h.lt).trans h
theorem Bk.new (w : World) (cs : Array Value) (t : TypeId) : Bk (w.alloc (.cells cs t)) w.heap.size cs t := heap_alloc_new w _
theorem Bk.grown {w w' : World} {b : Nat} {cs : Array Value} {t : TypeId} {r : Option Nat} (h : Bk w b cs t) (g : w.grownBy w' r) (hb : some b ≠ r) : Bk w' b cs t := (g.block b h.lt hb).trans h
theorem Bk.set {w : World} {b : Nat} {cs : Array Value} {t : TypeId} (h : Bk w b cs t) (k : Nat) (v : Value) (hk : k < cs.size) : Bk (w.setCell ⟨b, k, none⟩ v) b (cs.set k v) t := by
  unfold Bk at *
  simp only [World.setCell, Array.getElem?_modify, if_true, h, Option.map_some]
  simp [Array.set!, Array.setIfInBounds, hk]
theorem Bk.other {w : World} {b : Nat} {cs : Array Value} {t : TypeId} (h : Bk w b cs t) (p : Nat) (k : Nat) (v : Value) (hp : p ≠ b) : Bk (w.setCell ⟨p, k, none⟩ v) b cs t := by
  unfold Bk at *
  simp only [World.setCell, Array.getElem?_modify, if_neg hp, h]
theorem heap_set_other (w : World) (p k : Nat) (v : Value) (b : Nat) (hp : p ≠ b) : (w.setCell ⟨p, k, none⟩ v).heap[b]? = w.heap[b]? := by
  simp only [World.setCell, Array.getElem?_modify, if_neg hp]
/-- A new expression. -/
def NwP (e : Xt) (w : World) (e' : Ending) (w' : World) : Prop := ∃ vs : List Value, e' = .returned (.agg vs.toArray) ∧ XO w' w.heap.size w'.heap.size e vs ∧ Below w.heap.size w w'
/-- While an expression is copied: its box, the result's, the new one's. -/
structure CS (w wr : World) (op num day : Int) (ka : Option Addr) (kc : Nat) (kids : List Xt) (i : Nat) (v : Value) (V : Nat → List Value) (L H : Nat → Nat) : Prop where
  bel : Below w.heap.size w wr
  e : Bk wr w.heap.size #[.int .i64 op, .int .i64 num, .int .i64 day, .slice ka kids.length kc] 24
  r : Bk wr (w.heap.size + 1) #[.int .i64 0, .int .i64 0, .int .i64 0, .slice none 0 0] 24
  x : Bk wr (w.heap.size + 1 + 1) #[.int .i64 op, .int .i64 num, .int .i64 day, v] 24
  ck : CK wr (w.heap.size + 3) kids i v V L H
theorem CS.later {w wr w' : World} {op num day : Int} {ka : Option Addr} {kc : Nat} {kids : List Xt} {i : Nat} {v : Value} {V : Nat → List Value} {L H : Nat → Nat} (h : CS w wr op num day ka kc kids i v V L H) (b : Below wr.heap.size wr w') : CS w w' op num day ka kc kids i v V L H :=
  ⟨h.bel.trans (b.mono h.bel.size), h.e.below b h.e.lt, h.r.below b h.r.lt, h.x.below b h.x.lt, h.ck.keep (fun k _ h2 => b.block k h2) b.size⟩
theorem XO.one {w : World} {lo hi : Nat} {e : Xt} {a b c d : Value} (h : XO w lo hi e [a, b, c, d]) : ∀ u ∈ [a, b, c, d], u.oneCell' = true := by
  cases h
  intro u hu
  simp at hu
  rcases hu with rfl | rfl | rfl | rfl <;> rfl
theorem own_keep {w w' : World} {B e s : Nat} {v : Value} {n : Nat} {xs : List Value} (h : w.ownsRow B e s v n xs) (hw : ∀ k, v.ownBlock = some k → w'.heap[k]? = w.heap[k]?) : w'.ownsRow B e s v n xs := by
  refine ⟨h.1, ?_⟩
  rcases h.2 with h | ⟨g, cap, cur, rfl, e2, e3, e4⟩
  · exact .inl h
  · exact .inr ⟨g, cap, cur, rfl, e2, (hw g rfl).trans e3, e4⟩
/-- All kids are there. -/
theorem CK.xo {wr : World} {B : Nat} {kids : List Xt} {v : Value} {V : Nat → List Value} {L H : Nat → Nat} (h : CK wr B kids kids.length v V L H) {lo : Nat} {op num day : Int} (wop : i64 op) (wnum : i64 num) (wday : i64 day) (hn : kids.length ≤ 8796093021952) (hlo : lo ≤ B) :
    ∃ ka kc, v = .slice ka kids.length kc ∧ XO wr lo wr.heap.size (.mk op num day kids) [.int .i64 op, .int .i64 num, .int .i64 day, .slice ka kids.length kc] := by
  obtain ⟨⟨xs, ho, hx⟩, h2, h3, h4, h5⟩ := h
  rcases ho.2 with ⟨rfl, h0⟩ | ⟨g, cap, cur, rfl, e2, e3, e4, e5, e6, e7⟩
  · refine ⟨none, 0, by rw [h0], .mk V L H wop wnum wday ⟨fun _ => ⟨h0, rfl⟩, by omega, by unfold maxLen; omega⟩ hn (.inl h0) (fun i hi => ⟨by have := (h3 i hi).1; omega, (h3 i hi).2⟩) h4 h5⟩
  · refine ⟨_, cap, rfl, .mk V L H wop wnum wday ⟨fun e => (by cases e), e4, e5⟩ hn (.inr ⟨g, rfl, by omega, (Array.getElem?_eq_some_iff.1 e3).1, ⟨cur, e3, fun i hi j hj => ?_⟩, fun i hi => h2 g rfl i hi⟩) (fun i hi => ⟨by have := (h3 i hi).1; omega, (h3 i hi).2⟩) h4 h5⟩
    have := hx i hi j hj
    rw [← e7, List.getElem?_take_of_lt (by omega)] at this
    simpa using this
/-- The round's end. -/
theorem CS.next {w wr w5 w7 : World} {op num day : Int} {ka : Option Addr} {kc : Nat} {kids : List Xt} {i : Nat} {v : Value} {V : Nat → List Value} {L H : Nat → Nat} (h : CS w wr op num day ka kc kids i v V L H) (b5 : Below wr.heap.size wr w5) {v0 v1 v2 v3 : Value} (hx : XO w5 wr.heap.size w5.heap.size (kids.getD i default) [v0, v1, v2, v3])
    {xs : List Value} (hxs : wr.ownsRow (w.heap.size + 3) 24 4 v i xs) (hxv : ∀ j, j < i → ∀ c, c < 4 → xs[j * 4 + c]? = some ((V j).getD c default)) {g cap : Nat} {o : Obj}
    (ho : w7.ownsRow (w.heap.size + 3) 24 4 (.slice (some ⟨g, 0, none⟩) (i + 1) cap) (i + 1) (xs ++ [v0, v1, v2, v3])) (hg : (w5.alloc o).grownBy w7 v.ownBlock) (hlies : v.ownBlock = some g ∨ g = (w5.alloc o).heap.size) :
    CS w (w7.setCell ⟨w.heap.size + 1 + 1, 3, none⟩ (.slice (some ⟨g, 0, none⟩) (i + 1) cap)) op num day ka kc kids (i + 1) (.slice (some ⟨g, 0, none⟩) (i + 1) cap) (fun j => if j = i then [v0, v1, v2, v3] else V j) (fun j => if j = i then wr.heap.size else L j) (fun j => if j = i then w5.heap.size else H j) := by
  have hbl : ∀ b, v.ownBlock = some b → w.heap.size + 3 ≤ b ∧ b < wr.heap.size := fun b hb => hxs.lt b hb
  have hs := h.x.lt
  have h5 := h.later b5
  have hne : ∀ b, b < w.heap.size + 3 → some b ≠ v.ownBlock := fun b hb e => by have := hbl b e.symm; omega
  have C7 := h.ck.snoc (by omega) b5 hx hxs hxv (w6 := w5.alloc o) (fun k hk => Below.heap_alloc w5 o k hk) (by simp) ho hg hlies
  refine ⟨?_, ?_, ?_, ?_, ?_⟩
  · exact (((h5.bel.alloc h5.bel.size o).grown hg (Nat.le_trans h5.bel.size (by simp)) (fun k e => by have := hbl k e; omega))).setCell (p := ⟨w.heap.size + 1 + 1, 3, none⟩) (by simp; omega) _
  · exact ((h5.e.alloc o).grown hg (hne _ (by omega))).other _ _ _ (by omega)
  · exact ((h5.r.alloc o).grown hg (hne _ (by omega))).other _ _ _ (by omega)
  · exact ((h5.x.alloc o).grown hg (hne _ (by omega))).set 3 _ (by simp)
  · exact C7.keep (fun k h1 h2 => heap_set_other _ _ _ _ _ (by omega)) (by simp)
end Go.Proofs.Ytjlnbhmiahegmaa

namespace Go.Proofs.Ytjlnbhmiahegmaa
open Go.RowKit
set_option linter.unusedVariables false
set_option linter.unusedSimpArgs false

/-- The world has changed at most in the blocks from lo up to hi, and grown. -/
structure Rn (lo hi : Nat) (w w' : World) : Prop where
  os : w'.os = w.os
  tape : w'.tape = w.tape
  output : w'.output = w.output
  size : w.heap.size ≤ w'.heap.size
  block : ∀ k, k < w.heap.size → ¬ (lo ≤ k ∧ k < hi) → w'.heap[k]? = w.heap[k]?
theorem Rn.refl (lo hi : Nat) (w : World) : Rn lo hi w w := ⟨rfl, rfl, rfl, Nat.le_refl _, fun _ _ _ => rfl⟩
theorem Rn.trans {lo hi : Nat} {a b c : World} (h : Rn lo hi a b) (k : Rn lo hi b c) : Rn lo hi a c :=
  ⟨k.os.trans h.os, k.tape.trans h.tape, k.output.trans h.output, Nat.le_trans h.size k.size, fun i hi hn => (k.block i (Nat.lt_of_lt_of_le hi h.size) hn).trans (h.block i hi hn)⟩
theorem Rn.wide {lo hi lo' hi' : Nat} {a b : World} (h : Rn lo hi a b) (h1 : lo' ≤ lo) (h2 : hi ≤ hi') : Rn lo' hi' a b :=
  ⟨h.os, h.tape, h.output, h.size, fun i hi hn => h.block i hi (fun e => hn (by omega))⟩
theorem Rn.alloc (lo hi : Nat) (w : World) (o : Obj) : Rn lo hi w (w.alloc o) := ⟨rfl, rfl, rfl, by simp, fun i hi _ => Below.heap_alloc w o i hi⟩
theorem Rn.set {lo hi : Nat} (w : World) (b k : Nat) (v : Value) (h1 : lo ≤ b) (h2 : b < hi) : Rn lo hi w (w.setCell ⟨b, k, none⟩ v) :=
  ⟨rfl, rfl, rfl, by simp, fun i hi hn => heap_set_other _ _ _ _ _ (fun e => hn (by omega))⟩
theorem Rn.below {lo hi : Nat} {w w' : World} (h : Rn lo hi w w') (hs : lo ≤ w.heap.size) : Below lo w w' := ⟨h.os, h.tape, h.output, h.size, fun k hk => h.block k (by omega) (fun e => by omega)⟩
/-- The first row of a list is written over. -/
def Spt (w : World) (b n : Nat) : Prop := ∀ i, i < n → w.cell? ⟨b, i * 4, none⟩ = some (.int .i64 5) ∧ w.cell? ⟨b, i * 4 + 1, none⟩ = some (.int .i64 77) ∧ w.cell? ⟨b, i * 4 + 2, none⟩ = some (.int .i64 77) ∧ w.cell? ⟨b, i * 4 + 3, none⟩ = some (.slice none 0 0)
def SpP (lo hi : Nat) (vs : List Value) (w : World) (e : Ending) (w' : World) : Prop := e = .returned (.tuple #[]) ∧ Rn lo hi w w' ∧ ∀ b n c, vs.getD 3 default = .slice (some ⟨b, 0, none⟩) n c → Spt w' b n
theorem Bk.set4 {w : World} {b : Nat} {cur : Array Value} {t : TypeId} (h : Bk w b cur t) (k : Nat) (a0 a1 a2 a3 : Value) (hk : k + 3 < cur.size) :
    ∃ cur', Bk ((((w.setCell ⟨b, k, none⟩ a0).setCell ⟨b, k + 1, none⟩ a1).setCell ⟨b, k + 2, none⟩ a2).setCell ⟨b, k + 3, none⟩ a3) b cur' t ∧ cur'.size = cur.size ∧ (∀ j, j < k ∨ k + 3 < j → cur'[j]? = cur[j]?) ∧ cur'[k]? = some a0 ∧ cur'[k + 1]? = some a1 ∧ cur'[k + 2]? = some a2 ∧ cur'[k + 3]? = some a3 := by
  refine ⟨_, (((h.set k a0 (by omega)).set (k + 1) a1 (by simp; omega)).set (k + 2) a2 (by simp; omega)).set (k + 3) a3 (by simp; omega), by simp, fun j hj => ?_, ?_, ?_, ?_, ?_⟩
  · simp only [Array.getElem?_set]
    rw [if_neg (by omega), if_neg (by omega), if_neg (by omega), if_neg (by omega)]
  all_goals simp only [Array.getElem?_set]
  · rw [if_neg (by omega), if_neg (by omega), if_neg (by omega), if_pos trivial]
  · rw [if_neg (by omega), if_neg (by omega), if_pos trivial]
  · rw [if_neg (by omega), if_pos trivial]
  · rw [if_pos trivial]
/-- While it is written over: the row's contents up to i. -/
structure SC (w0 wr : World) (b n i : Nat) (V : Nat → List Value) (L H : Nat → Nat) (cur : Array Value) : Prop where
  bk : Bk wr b cur 24
  done : ∀ j, j < i → cur[j * 4]? = some (.int .i64 5) ∧ cur[j * 4 + 1]? = some (.int .i64 77) ∧ cur[j * 4 + 2]? = some (.int .i64 77) ∧ cur[j * 4 + 3]? = some (.slice none 0 0)
  todo : ∀ j, i ≤ j → j < n → ∀ c, c < 4 → cur[j * 4 + c]? = some ((V j).getD c default)
  keep : ∀ j, i ≤ j → j < n → ∀ k, L j ≤ k → k < H j → wr.heap[k]? = w0.heap[k]?
theorem SC.next {w0 wr w5 : World} {b n i : Nat} {V : Nat → List Value} {L H : Nat → Nat} {cur : Array Value} (h : SC w0 wr b n i V L H cur) (hi : i < n) (hO : ∀ i j, i < j → j < n → H i ≤ L j) (hb : ∀ j, j < n → ¬ (L j ≤ b ∧ b < H j)) (hs : ∀ j, j < n → H j ≤ wr.heap.size) (h5 : Rn (L i) (H i) wr w5) :
    ∃ cur', SC w0 ((((w5.setCell ⟨b, i * 4, none⟩ (.int .i64 5)).setCell ⟨b, i * 4 + 1, none⟩ (.int .i64 77)).setCell ⟨b, i * 4 + 2, none⟩ (.int .i64 77)).setCell ⟨b, i * 4 + 3, none⟩ (.slice none 0 0)) b n (i + 1) V L H cur' := by
  have hsz : i * 4 + 3 < cur.size := by
    have := h.todo i (Nat.le_refl _) hi 3 (by omega)
    exact (Array.getElem?_eq_some_iff.1 this).1
  have bk5 : Bk w5 b cur 24 := (h5.block b h.bk.lt (hb i hi)).trans h.bk
  obtain ⟨cur', q1, q2, q3, q4, q5, q6, q7⟩ := bk5.set4 (i * 4) (.int .i64 5) (.int .i64 77) (.int .i64 77) (.slice none 0 0) hsz
  refine ⟨cur', q1, fun j hj => ?_, fun j h1 h2 c hc => ?_, fun j h1 h2 k h3 h4 => ?_⟩
  · by_cases e : j = i
    · subst e; exact ⟨q4, q5, q6, q7⟩
    · have := h.done j (by omega)
      exact ⟨(q3 _ (by omega)).trans this.1, (q3 _ (by omega)).trans this.2.1, (q3 _ (by omega)).trans this.2.2.1, (q3 _ (by omega)).trans this.2.2.2⟩
  · rw [q3 _ (by omega)]; exact h.todo j (by omega) h2 c hc
  · have hne : b ≠ k := fun e => hb j h2 ⟨by omega, by omega⟩
    rw [heap_set_other _ _ _ _ _ hne, heap_set_other _ _ _ _ _ hne, heap_set_other _ _ _ _ _ hne, heap_set_other _ _ _ _ _ hne, h5.block k (by have := hs j h2; omega) (fun e => by have := hO i j (by omega) h2; omega)]
    exact h.keep j (by omega) h2 k h3 h4
end Go.Proofs.Ytjlnbhmiahegmaa

namespace Go.Proofs.Ytjlnbhmiahegmaa
open Go.RowKit
set_option linter.unusedVariables false
set_option linter.unusedSimpArgs false

theorem make_xs (W : World) (n : Nat) (hn : n ≤ 1048576) : (Instr.makeSlice 22 (.int .i64 (n : Int)) (.int .i64 (n : Int))).run Try.prog W = .ok (.slice (some ⟨W.heap.size, 0, none⟩) n n) (W.alloc (.cells (madeCells #[.int .i64 0, .int .i64 0, .int .i64 0, .slice none 0 0] (n * 4)) 24)) := by
  obtain ⟨i0, hi, hz0, hz1, hz2⟩ := info_parts infoX
  have := run_make (P := Try.prog) W 22 24 i0 _ Try.underlying22 hi hz0 .i64 .i64 n n (by omega) (by omega) (by rw [hz2]; omega) (by omega)
  rw [hz1] at this
  simpa [Value.cells] using this
theorem Bk.some4 {w : World} {b : Nat} {cur : Array Value} {t : TypeId} (h : Bk w b cur t) (k : Nat) (hk : k + 3 < cur.size) : (∃ v, w.cell? ⟨b, k, none⟩ = some v) ∧ (∃ v, w.cell? ⟨b, k + 1, none⟩ = some v) ∧ (∃ v, w.cell? ⟨b, k + 2, none⟩ = some v) ∧ (∃ v, w.cell? ⟨b, k + 3, none⟩ = some v) := by
  rw [h.cell, h.cell, h.cell, h.cell]
  exact ⟨⟨cur[k], by simp⟩, ⟨cur[k + 1], by simp⟩, ⟨cur[k + 2], by simp⟩, ⟨cur[k + 3], by simp [hk]⟩⟩
theorem XO.form {w : World} {lo hi : Nat} {e : Xt} {vs : List Value} (h : XO w lo hi e vs) : ∃ a b c d n k, vs = [.int .i64 a, .int .i64 b, .int .i64 c, .slice d n k] := by
  cases h; exact ⟨_, _, _, _, _, _, rfl⟩
/-- While it is copied. -/
structure CM (w wr : World) (op num day : Int) (kids : List Xt) (i : Nat) (V : Nat → List Value) (L H : Nat → Nat) (cur : Array Value) : Prop where
  bel : Below w.heap.size w wr
  r : Bk wr w.heap.size #[.int .i64 0, .int .i64 0, .int .i64 0, .slice none 0 0] 24
  x : Bk wr (w.heap.size + 1) #[.int .i64 op, .int .i64 num, .int .i64 day, .slice (some ⟨w.heap.size + 1 + 1, 0, none⟩) kids.length kids.length] 24
  b : Bk wr (w.heap.size + 1 + 1) cur 24
  sz : cur.size = kids.length * 4
  done : ∀ j, j < i → ∀ c, c < 4 → cur[j * 4 + c]? = some ((V j).getD c default)
  rng : ∀ j, j < i → w.heap.size + 3 ≤ L j ∧ H j ≤ wr.heap.size
  ord : ∀ j k, j < k → k < i → H j ≤ L k
  kids : ∀ j, j < i → XO wr (L j) (H j) (kids.getD j default) (V j)
theorem CM.later {w wr w' : World} {op num day : Int} {kids : List Xt} {i : Nat} {V : Nat → List Value} {L H : Nat → Nat} {cur : Array Value} (h : CM w wr op num day kids i V L H cur) (b : Below wr.heap.size wr w') : CM w w' op num day kids i V L H cur :=
  ⟨h.bel.trans (b.mono h.bel.size), h.r.below b h.r.lt, h.x.below b h.x.lt, h.b.below b h.b.lt, h.sz, h.done, fun j hj => ⟨(h.rng j hj).1, Nat.le_trans (h.rng j hj).2 b.size⟩, h.ord, fun j hj => (h.kids j hj).later b (h.rng j hj).2⟩
theorem CM.next {w wr w5 : World} {op num day : Int} {kids : List Xt} {i : Nat} {V : Nat → List Value} {L H : Nat → Nat} {cur : Array Value} (h : CM w wr op num day kids i V L H cur) (hi : i < kids.length) (b5 : Below wr.heap.size wr w5) {v0 v1 v2 v3 : Value} (hx : XO w5 wr.heap.size w5.heap.size (kids.getD i default) [v0, v1, v2, v3]) :
    ∃ V' L' H' cur', CM w ((((w5.setCell ⟨w.heap.size + 1 + 1, i * 4, none⟩ v0).setCell ⟨w.heap.size + 1 + 1, i * 4 + 1, none⟩ v1).setCell ⟨w.heap.size + 1 + 1, i * 4 + 2, none⟩ v2).setCell ⟨w.heap.size + 1 + 1, i * 4 + 3, none⟩ v3) op num day kids (i + 1) V' L' H' cur' := by
  have h5 := h.later b5
  have hlt := h.b.lt
  obtain ⟨cur', q1, q2, q3, q4, q5, q6, q7⟩ := h5.b.set4 (i * 4) v0 v1 v2 v3 (by have := h.sz; omega)
  have hk : ∀ k, k ≠ w.heap.size + 1 + 1 → ((((w5.setCell ⟨w.heap.size + 1 + 1, i * 4, none⟩ v0).setCell ⟨w.heap.size + 1 + 1, i * 4 + 1, none⟩ v1).setCell ⟨w.heap.size + 1 + 1, i * 4 + 2, none⟩ v2).setCell ⟨w.heap.size + 1 + 1, i * 4 + 3, none⟩ v3).heap[k]? = w5.heap[k]? := fun k hk => by
    rw [heap_set_other _ _ _ _ _ (Ne.symm hk), heap_set_other _ _ _ _ _ (Ne.symm hk), heap_set_other _ _ _ _ _ (Ne.symm hk), heap_set_other _ _ _ _ _ (Ne.symm hk)]
  refine ⟨fun j => if j = i then [v0, v1, v2, v3] else V j, fun j => if j = i then wr.heap.size else L j, fun j => if j = i then w5.heap.size else H j, cur', ?_, (hk _ (by omega)).trans h5.r, (hk _ (by omega)).trans h5.x, q1, q2.trans h.sz, fun j hj c hc => ?_, fun j hj => ?_, fun j k hjk hk' => ?_, fun j hj => ?_⟩
  · exact (((h5.bel.setCell (p := ⟨w.heap.size + 1 + 1, i * 4, none⟩) (by simp; omega) _).setCell (p := ⟨w.heap.size + 1 + 1, i * 4 + 1, none⟩) (by simp; omega) _).setCell (p := ⟨w.heap.size + 1 + 1, i * 4 + 2, none⟩) (by simp; omega) _).setCell (p := ⟨w.heap.size + 1 + 1, i * 4 + 3, none⟩) (by simp; omega) _
  · by_cases e : j = i
    · subst e
      simp only [if_true]
      match c, hc with
      | 0, _ => exact q4
      | 1, _ => exact q5
      | 2, _ => exact q6
      | 3, _ => exact q7
    · simp only [if_neg e]
      rw [q3 _ (by omega)]
      exact h.done j (by omega) c hc
  · simp only [World.size_setCell]
    by_cases e : j = i
    · subst e; simp only [if_true]; omega
    · simp only [if_neg e]; exact h5.rng j (by omega)
  · by_cases e : k = i
    · subst e
      simp only [if_true, if_neg (show ¬ j = k by omega)]
      exact (h.rng j hjk).2
    · simp only [if_neg e, if_neg (show ¬ j = i by omega)]
      exact h.ord j k hjk (by omega)
  · by_cases e : j = i
    · subst e
      simp only [if_true]
      exact hx.keep (fun k h1 h2 => hk k (by omega))
    · simp only [if_neg e]
      exact (h5.kids j (by omega)).keep (fun k h1 h2 => hk k (by have := h.rng j (by omega); omega))
/-- All kids are there. -/
theorem CM.xo {w wr : World} {op num day : Int} {kids : List Xt} {V : Nat → List Value} {L H : Nat → Nat} {cur : Array Value} (h : CM w wr op num day kids kids.length V L H cur) (wop : i64 op) (wnum : i64 num) (wday : i64 day) (hn : kids.length ≤ 1048576) :
    XO wr (w.heap.size + 1 + 1) wr.heap.size (.mk op num day kids) [.int .i64 op, .int .i64 num, .int .i64 day, .slice (some ⟨w.heap.size + 1 + 1, 0, none⟩) kids.length kids.length] :=
  .mk V L H wop wnum wday ⟨fun e => (by cases e), Nat.le_refl _, by unfold maxLen; omega⟩ (by omega) (.inr ⟨_, rfl, Nat.le_refl _, h.b.lt, ⟨cur, h.b, h.done⟩, fun i hi e => by have := h.rng i hi; omega⟩) (fun i hi => ⟨by have := (h.rng i hi).1; omega, (h.rng i hi).2⟩) h.ord h.kids
end Go.Proofs.Ytjlnbhmiahegmaa
