/-
  OPENING TREES THAT CAME IN (own work): expressions, contracts, definitions, deals.
-/
import Derived.ProofKit
import Derived.OpenShut
import Derived.Deep.Slices
import Derived.SizedLaws
import Derived.Below
namespace Go.Proofs.YteedkcmjhdabeaaDoor
open Go.ChangeShapes Go.WideShapes Go.ChangeAt Go.RowKit Go.Deep
set_option linter.unusedVariables false
set_option linter.unusedSimpArgs false

abbrev D3 := Int × Int × Int
/-- An expression, without where it lies. -/
inductive Ex where
  | mk (op num : Int) (name : ByteArray) (ds : List D3) (kids : List Ex)
namespace Ex
def op : Ex → Int | mk a _ _ _ _ => a
def num : Ex → Int | mk _ a _ _ _ => a
def name : Ex → ByteArray | mk _ _ a _ _ => a
def ds : Ex → List D3 | mk _ _ _ a _ => a
def kids : Ex → List Ex | mk _ _ _ _ a => a
instance : Inhabited Ex := ⟨mk 0 0 default [] []⟩
theorem ind {p : Ex → Prop} (h : ∀ e : Ex, (∀ k ∈ e.kids, p k) → p e) : ∀ e, p e
  | mk a b c d l => h _ (fun k hk => ind h k)
termination_by e => SizeOf.sizeOf e
decreasing_by
  simp only [kids] at hk
  have := List.sizeOf_lt_of_mem hk
  simp
  omega
end Ex
/-- A range, all numbers: kind, lo, hi, by, from, to, tenor, convention. -/
structure Rg where
  kind : Int
  lo : Int
  hi : Int
  by_ : Int
  fr : D3
  to : D3
  tn : Int
  tu : Int
  conv : Int
  deriving Inhabited, DecidableEq
/-- A contract. -/
inductive Cn where
  | mk (kind : Int) (name loop cur : ByteArray) (num : Int) (date : D3) (rg : Rg) (exprs : List Ex) (kids : List Cn)
namespace Cn
def kind : Cn → Int | mk a _ _ _ _ _ _ _ _ => a
def name : Cn → ByteArray | mk _ a _ _ _ _ _ _ _ => a
def loop : Cn → ByteArray | mk _ _ a _ _ _ _ _ _ => a
def cur : Cn → ByteArray | mk _ _ _ a _ _ _ _ _ => a
def num : Cn → Int | mk _ _ _ _ a _ _ _ _ => a
def date : Cn → D3 | mk _ _ _ _ _ a _ _ _ => a
def rg : Cn → Rg | mk _ _ _ _ _ _ a _ _ => a
def exprs : Cn → List Ex | mk _ _ _ _ _ _ _ a _ => a
def kids : Cn → List Cn | mk _ _ _ _ _ _ _ _ a => a
instance : Inhabited Cn := ⟨mk 0 default default default 0 default default [] []⟩
theorem ind {p : Cn → Prop} (h : ∀ e : Cn, (∀ k ∈ e.kids, p k) → p e) : ∀ e, p e
  | mk a b c d e f g i l => h _ (fun k hk => ind h k)
termination_by e => SizeOf.sizeOf e
decreasing_by
  simp only [kids] at hk
  have := List.sizeOf_lt_of_mem hk
  simp
  omega
end Cn

/-- A row of n things of k cells each, as it lies in memory. -/
def Row (w : World) (a : Option Addr) (n k : Nat) (V : Nat → List Value) : Prop :=
  n = 0 ∨ ∃ b o, a = some ⟨b, o, none⟩ ∧ b < w.heap.size ∧ ∀ i, i < n → ∀ j, j < k → w.cell? ⟨b, o + i * k + j, none⟩ = some ((V i).getD j default)
theorem Row.later {w w' : World} {a n k V} (h : Row w a n k V) (b : Below w.heap.size w w') : Row w' a n k V := by
  rcases h with h | ⟨x, o, rfl, hx, hc⟩
  · exact .inl h
  · exact .inr ⟨x, o, rfl, Nat.lt_of_lt_of_le hx b.size, fun i hi j hj => by rw [b.cell (p := ⟨x, _, none⟩) hx]; exact hc i hi j hj⟩
/-- A slice's header: nil or within its capacity. -/
def Hd (a : Option Addr) (n cap : Nat) : Prop := (a = none → n = 0 ∧ cap = 0) ∧ n ≤ cap ∧ cap ≤ maxLen
def i64 (n : Int) : Prop := (Lit.int .i64 n).wf = true
def d3ok (d : D3) : Prop := i64 d.1 ∧ i64 d.2.1 ∧ i64 d.2.2
def d3c (d : D3) : List Value := [.int .i64 d.1, .int .i64 d.2.1, .int .i64 d.2.2]
def rgok (r : Rg) : Prop := i64 r.kind ∧ i64 r.lo ∧ i64 r.hi ∧ i64 r.by_ ∧ d3ok r.fr ∧ d3ok r.to ∧ i64 r.tn ∧ i64 r.tu ∧ i64 r.conv
def rgc (r : Rg) : List Value := [.int .i64 r.kind, .int .i64 r.lo, .int .i64 r.hi, .int .i64 r.by_] ++ d3c r.fr ++ d3c r.to ++ [.int .i64 r.tn, .int .i64 r.tu, .int .i64 r.conv]
/-- A list of dates. -/
def DR (w : World) (a : Option Addr) (n cap : Nat) (ds : List D3) : Prop :=
  Hd a n cap ∧ ds.length = n ∧ n ≤ 8796093021952 ∧ (∀ d ∈ ds, d3ok d) ∧ Row w a n 3 (fun i => d3c (ds.getD i default))
theorem DR.later {w w' : World} {a n c ds} (h : DR w a n c ds) (b : Below w.heap.size w w') : DR w' a n c ds := ⟨h.1, h.2.1, h.2.2.1, h.2.2.2.1, h.2.2.2.2.later b⟩
/-- A list of texts. -/
def SR (w : World) (a : Option Addr) (n cap : Nat) (ss : List ByteArray) : Prop :=
  Hd a n cap ∧ ss.length = n ∧ n ≤ 8796093021952 ∧ (∀ s ∈ ss, s.size ≤ 140737488351232) ∧ Row w a n 1 (fun i => [.string (ss.getD i default)])
theorem SR.later {w w' : World} {a n c ss} (h : SR w a n c ss) (b : Below w.heap.size w w') : SR w' a n c ss := ⟨h.1, h.2.1, h.2.2.1, h.2.2.2.1, h.2.2.2.2.later b⟩
/-- An expression's five cells. -/
inductive EV (w : World) : Ex → List Value → Prop
  | mk {op num : Int} {name : ByteArray} {ds : List D3} {kids : List Ex} {da ka : Option Addr} {dc kc : Nat} (V : Nat → List Value)
    (wop : i64 op) (wnum : i64 num) (hname : name.size ≤ 140737488351232) (hd : DR w da ds.length dc ds)
    (hk : Hd ka kids.length kc) (hn : kids.length ≤ 8796093021952) (hr : Row w ka kids.length 5 V) (hkids : ∀ i, i < kids.length → EV w (kids.getD i default) (V i)) :
    EV w (.mk op num name ds kids) [.int .i64 op, .int .i64 num, .string name, .slice da ds.length dc, .slice ka kids.length kc]
theorem EV.later {w w' : World} {e vs} (h : EV w e vs) (b : Below w.heap.size w w') : EV w' e vs := by
  induction h with
  | mk V wop wnum hname hd hk hn hr hkids ih => exact .mk V wop wnum hname (hd.later b) hk hn (hr.later b) ih
/-- A list of expressions. -/
def ER (w : World) (a : Option Addr) (n cap : Nat) (es : List Ex) : Prop :=
  Hd a n cap ∧ es.length = n ∧ n ≤ 8796093021952 ∧ ∃ V : Nat → List Value, Row w a n 5 V ∧ ∀ i, i < n → EV w (es.getD i default) (V i)
theorem ER.later {w w' : World} {a n c es} (h : ER w a n c es) (b : Below w.heap.size w w') : ER w' a n c es := by
  obtain ⟨h1, h2, h3, V, h4, h5⟩ := h
  exact ⟨h1, h2, h3, V, h4.later b, fun i hi => (h5 i hi).later b⟩
/-- A contract's cells. -/
inductive CV (w : World) : Cn → List Value → Prop
  | mk {kind num : Int} {name loop cur : ByteArray} {date : D3} {rg : Rg} {exprs : List Ex} {kids : List Cn} {ea ka : Option Addr} {ec kc : Nat} (V : Nat → List Value)
    (wk : i64 kind) (wnum : i64 num) (hname : name.size ≤ 140737488351232) (hloop : loop.size ≤ 140737488351232) (hcur : cur.size ≤ 140737488351232) (hdate : d3ok date) (hrg : rgok rg)
    (he : ER w ea exprs.length ec exprs) (hk : Hd ka kids.length kc) (hn : kids.length ≤ 8796093021952) (hr : Row w ka kids.length 23 V) (hkids : ∀ i, i < kids.length → CV w (kids.getD i default) (V i)) :
    CV w (.mk kind name loop cur num date rg exprs kids) ([.int .i64 kind, .string name, .string loop, .string cur, .int .i64 num] ++ d3c date ++ rgc rg ++ [.slice ea exprs.length ec, .slice ka kids.length kc])
theorem CV.later {w w' : World} {e vs} (h : CV w e vs) (b : Below w.heap.size w w') : CV w' e vs := by
  induction h with
  | mk V wk wnum h1 h2 h3 h4 h5 he hk hn hr hkids ih => exact .mk V wk wnum h1 h2 h3 h4 h5 (he.later b) hk hn (hr.later b) ih
/-- A list of contracts. -/
def CR (w : World) (a : Option Addr) (n cap : Nat) (es : List Cn) : Prop :=
  Hd a n cap ∧ es.length = n ∧ n ≤ 8796093021952 ∧ ∃ V : Nat → List Value, Row w a n 23 V ∧ ∀ i, i < n → CV w (es.getD i default) (V i)
theorem CR.later {w w' : World} {a n c es} (h : CR w a n c es) (b : Below w.heap.size w w') : CR w' a n c es := by
  obtain ⟨h1, h2, h3, V, h4, h5⟩ := h
  exact ⟨h1, h2, h3, V, h4.later b, fun i hi => (h5 i hi).later b⟩
end Go.Proofs.YteedkcmjhdabeaaDoor
