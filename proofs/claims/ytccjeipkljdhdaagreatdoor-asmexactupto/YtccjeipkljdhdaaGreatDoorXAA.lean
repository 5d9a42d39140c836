import Derived.ProofKit
import Derived.OpenShut
import Derived.Deep.Slices
import Derived.SizedLaws
import Derived.Below
namespace Go.Proofs.YtccjeipkljdhdaaGreatDoor
open Go.ChangeShapes Go.WideShapes Go.ChangeAt Go.RowKit Go.Deep
set_option linter.unusedVariables false
set_option linter.unusedSimpArgs false

abbrev D3 := Int × Int × Int
/-- An expression, without where it lies. -/
inductive Ex where
  | mk (op num : Int) (name : ByteArray) (ds : List D3) (kids : List Ex)
namespace Ex
def op : Ex → Int | mk a _ _ _ _ => a
def num : Ex → Int | mk _ a _ _ _ => a
def name : Ex → ByteArray | mk _ _ a _ _ => a
def ds : Ex → List D3 | mk _ _ _ a _ => a
def kids : Ex → List Ex | mk _ _ _ _ a => a
instance : Inhabited Ex := ⟨mk 0 0 default [] []⟩
theorem ind {p : Ex → Prop} (h : ∀ e : Ex, (∀ k ∈ e.kids, p k) → p e) : ∀ e, p e
  | mk a b c d l => h _ (fun k hk => ind h k)
termination_by e => SizeOf.sizeOf e
decreasing_by
  simp only [kids] at hk
  have := List.sizeOf_lt_of_mem hk
  simp
  omega
end Ex
/-- A range, all numbers: kind, lo, hi, by, from, to, tenor, convention. -/
structure Rg where
  kind : Int
  lo : Int
  hi : Int
  by_ : Int
  fr : D3
  to : D3
  tn : Int
  tu : Int
  conv : Int
  deriving Inhabited, DecidableEq
/-- A contract. -/
inductive Cn where
  | mk (kind : Int) (name loop cur : ByteArray) (num : Int) (date : D3) (rg : Rg) (exprs : List Ex) (kids : List Cn)
namespace Cn
def kind : Cn → Int | mk a _ _ _ _ _ _ _ _ => a
def name : Cn → ByteArray | mk _ a _ _ _ _ _ _ _ => a
def loop : Cn → ByteArray | mk _ _ a _ _ _ _ _ _ => a
def cur : Cn → ByteArray | mk _ _ _ a _ _ _ _ _ => a
def num : Cn → Int | mk _ _ _ _ a _ _ _ _ => a
def date : Cn → D3 | mk _ _ _ _ _ a _ _ _ => a
def rg : Cn → Rg | mk _ _ _ _ _ _ a _ _ => a
def exprs : Cn → List Ex | mk _ _ _ _ _ _ _ a _ => a
def kids : Cn → List Cn | mk _ _ _ _ _ _ _ _ a => a
instance : Inhabited Cn := ⟨mk 0 default default default 0 default default [] []⟩
theorem ind {p : Cn → Prop} (h : ∀ e : Cn, (∀ k ∈ e.kids, p k) → p e) : ∀ e, p e
  | mk a b c d e f g i l => h _ (fun k hk => ind h k)
termination_by e => SizeOf.sizeOf e
decreasing_by
  simp only [kids] at hk
  have := List.sizeOf_lt_of_mem hk
  simp
  omega
end Cn

/-- A row of n things of k cells each, as it lies in memory. -/
def Row (w : World) (a : Option Addr) (n k : Nat) (V : Nat → List Value) : Prop :=
  n = 0 ∨ ∃ b o, a = some ⟨b, o, none⟩ ∧ b < w.heap.size ∧ ∀ i, i < n → ∀ j, j < k → w.cell? ⟨b, o + i * k + j, none⟩ = some ((V i).getD j default)
theorem Row.later {w w' : World} {a n k V} (h : Row w a n k V) (b : Below w.heap.size w w') : Row w' a n k V := by
  rcases h with h | ⟨x, o, rfl, hx, hc⟩
  · exact .inl h
  · exact .inr ⟨x, o, rfl, Nat.lt_of_lt_of_le hx b.size, fun i hi j hj => by rw [b.cell (p := ⟨x, _, none⟩) hx]; exact hc i hi j hj⟩
/-- A slice's header: nil or within its capacity. -/
def Hd (a : Option Addr) (n cap : Nat) : Prop := (a = none → n = 0 ∧ cap = 0) ∧ n ≤ cap ∧ cap ≤ maxLen
def i64 (n : Int) : Prop := (Lit.int .i64 n).wf = true
def d3ok (d : D3) : Prop := i64 d.1 ∧ i64 d.2.1 ∧ i64 d.2.2
def d3c (d : D3) : List Value := [.int .i64 d.1, .int .i64 d.2.1, .int .i64 d.2.2]
def rgok (r : Rg) : Prop := i64 r.kind ∧ i64 r.lo ∧ i64 r.hi ∧ i64 r.by_ ∧ d3ok r.fr ∧ d3ok r.to ∧ i64 r.tn ∧ i64 r.tu ∧ i64 r.conv
def rgc (r : Rg) : List Value := [.int .i64 r.kind, .int .i64 r.lo, .int .i64 r.hi, .int .i64 r.by_] ++ d3c r.fr ++ d3c r.to ++ [.int .i64 r.tn, .int .i64 r.tu, .int .i64 r.conv]
/-- A list of dates. -/
def DR (w : World) (a : Option Addr) (n cap : Nat) (ds : List D3) : Prop :=
  Hd a n cap ∧ ds.length = n ∧ n ≤ 8796093021952 ∧ (∀ d ∈ ds, d3ok d) ∧ Row w a n 3 (fun i => d3c (ds.getD i default))
theorem DR.later {w w' : World} {a n c ds} (h : DR w a n c ds) (b : Below w.heap.size w w') : DR w' a n c ds := ⟨h.1, h.2.1, h.2.2.1, h.2.2.2.1, h.2.2.2.2.later b⟩
/-- A list of texts. -/
def SR (w : World) (a : Option Addr) (n cap : Nat) (ss : List ByteArray) : Prop :=
  Hd a n cap ∧ ss.length = n ∧ n ≤ 8796093021952 ∧ (∀ s ∈ ss, s.size ≤ 140737488351232) ∧ Row w a n 1 (fun i => [.string (ss.getD i default)])
theorem SR.later {w w' : World} {a n c ss} (h : SR w a n c ss) (b : Below w.heap.size w w') : SR w' a n c ss := ⟨h.1, h.2.1, h.2.2.1, h.2.2.2.1, h.2.2.2.2.later b⟩
/-- An expression's five cells. -/
inductive EV (w : World) : Ex → List Value → Prop
  | mk {op num : Int} {name : ByteArray} {ds : List D3} {kids : List Ex} {da ka : Option Addr} {dc kc : Nat} (V : Nat → List Value)
    (wop : i64 op) (wnum : i64 num) (hname : name.size ≤ 140737488351232) (hd : DR w da ds.length dc ds)
    (hk : Hd ka kids.length kc) (hn : kids.length ≤ 8796093021952) (hr : Row w ka kids.length 5 V) (hkids : ∀ i, i < kids.length → EV w (kids.getD i default) (V i)) :
    EV w (.mk op num name ds kids) [.int .i64 op, .int .i64 num, .string name, .slice da ds.length dc, .slice ka kids.length kc]
theorem EV.later {w w' : World} {e vs} (h : EV w e vs) (b : Below w.heap.size w w') : EV w' e vs := by
  induction h with
  | mk V wop wnum hname hd hk hn hr hkids ih => exact .mk V wop wnum hname (hd.later b) hk hn (hr.later b) ih
/-- A list of expressions. -/
def ER (w : World) (a : Option Addr) (n cap : Nat) (es : List Ex) : Prop :=
  Hd a n cap ∧ es.length = n ∧ n ≤ 8796093021952 ∧ ∃ V : Nat → List Value, Row w a n 5 V ∧ ∀ i, i < n → EV w (es.getD i default) (V i)
theorem ER.later {w w' : World} {a n c es} (h : ER w a n c es) (b : Below w.heap.size w w') : ER w' a n c es := by
  obtain ⟨h1, h2, h3, V, h4, h5⟩ := h
  exact ⟨h1, h2, h3, V, h4.later b, fun i hi => (h5 i hi).later b⟩
/-- A contract's cells. -/
inductive CV (w : World) : Cn → List Value → Prop
  | mk {kind num : Int} {name loop cur : ByteArray} {date : D3} {rg : Rg} {exprs : List Ex} {kids : List Cn} {ea ka : Option Addr} {ec kc : Nat} (V : Nat → List Value)
    (wk : i64 kind) (wnum : i64 num) (hname : name.size ≤ 140737488351232) (hloop : loop.size ≤ 140737488351232) (hcur : cur.size ≤ 140737488351232) (hdate : d3ok date) (hrg : rgok rg)
    (he : ER w ea exprs.length ec exprs) (hk : Hd ka kids.length kc) (hn : kids.length ≤ 8796093021952) (hr : Row w ka kids.length 23 V) (hkids : ∀ i, i < kids.length → CV w (kids.getD i default) (V i)) :
    CV w (.mk kind name loop cur num date rg exprs kids) ([.int .i64 kind, .string name, .string loop, .string cur, .int .i64 num] ++ d3c date ++ rgc rg ++ [.slice ea exprs.length ec, .slice ka kids.length kc])
theorem CV.later {w w' : World} {e vs} (h : CV w e vs) (b : Below w.heap.size w w') : CV w' e vs := by
  induction h with
  | mk V wk wnum h1 h2 h3 h4 h5 he hk hn hr hkids ih => exact .mk V wk wnum h1 h2 h3 h4 h5 (he.later b) hk hn (hr.later b) ih
/-- A list of contracts. -/
def CR (w : World) (a : Option Addr) (n cap : Nat) (es : List Cn) : Prop :=
  Hd a n cap ∧ es.length = n ∧ n ≤ 8796093021952 ∧ ∃ V : Nat → List Value, Row w a n 23 V ∧ ∀ i, i < n → CV w (es.getD i default) (V i)
theorem CR.later {w w' : World} {a n c es} (h : CR w a n c es) (b : Below w.heap.size w w') : CR w' a n c es := by
  obtain ⟨h1, h2, h3, V, h4, h5⟩ := h
  exact ⟨h1, h2, h3, V, h4.later b, fun i hi => (h5 i hi).later b⟩
end Go.Proofs.YtccjeipkljdhdaaGreatDoor

namespace Go.Proofs.YtccjeipkljdhdaaGreatDoor
open Go.ChangeShapes Go.WideShapes Go.ChangeAt Go.RowKit Go.Deep
set_option linter.unusedVariables false
set_option linter.unusedSimpArgs false

theorem tw_all {H : Type} {P : Program} {e : TypeId} {l : List (DataW H)} {d : DataW H} (h : d ∈ l) : ∀ n ∈ d.weights P e, n ∈ DataW.weightsAll P e l := by
  induction l with
  | nil => cases h
  | cons x r ih =>
    intro n hn
    simp only [DataW.weightsAll, List.mem_append]
    cases List.mem_cons.1 h with
    | inl e => subst e; exact .inl hn
    | inr e => exact .inr (ih e n hn)
theorem taddr_of {w : World} {x : Addr} {v : Value} (h : w.cell? x = some v) : ∃ b o, x = ⟨b, o, none⟩ ∧ b < w.heap.size := by
  obtain ⟨b, o, s⟩ := x
  have hs : s = none := World.cell?_spot h
  subst hs
  refine ⟨b, o, rfl, ?_⟩
  by_cases hlt : b < w.heap.size
  · exact hlt
  · exfalso
    have hn : w.heap[b]? = none := by simp; omega
    simp [World.cell?, hn] at h
section
variable {H : Type} {enc : TypeId × Value → H} {P : Program} {W : World} {base : Nat} {sp : Nat → Bool} {held : Bool}

/-- What is read of a type, with the bounds of its parts. -/
def Rd (enc : TypeId × Value → H) (P : Program) (W : World) (base : Nat) (sp : Nat → Bool) (held : Bool) (fuel : Nat) (t : TypeId) (cs : List Value) : Prop :=
  ∃ x, DataW.trod enc P W base sp held fuel t cs = some x ∧ ∀ n ∈ x.1.weights P t, n ≤ reachBytes

theorem rd_slice {T e : TypeId} {fuel : Nat} {cs : List Value} (hT : P.underlying T = some (.slice e)) (h : Rd enc P W base sp held fuel T cs) :
    cs = [.slice none 0 0] ∨ ∃ y len cap n, cs = [.slice (some y) len cap] ∧ fuel = n + 1 ∧ len ≤ cap ∧ cap ≤ maxLen ∧ len * P.bytesOf e ≤ reachBytes ∧
      ∀ i, i < len → ∃ cs', W.cells? base (y.add (i * P.cellsOf e)) (P.cellsOf e) = some cs' ∧ Rd enc P W base sp held n e cs' := by
  obtain ⟨x, hx, hz⟩ := h
  rcases DataW.trod_slice hT hx with ⟨h0, _⟩ | ⟨a, len, cap, elems, rest, n, hn, rfl, hx1, hb, hl, hm, hlen, hel, hsp, hns⟩
  · exact .inl h0
  · right
    have hd1 : x.1 = .slice (elems.map (·.1)) (rest.map (·.1)) := by rw [hx1]
    refine ⟨a, len, cap, n, rfl, hn, hl, hm, ?_, fun i hi => ?_⟩
    · have := hz ((elems.length + rest.length) * P.bytesOf e) (by rw [hd1]; simp [DataW.weights, hT])
      rw [hlen] at this
      exact Nat.le_trans (Nat.mul_le_mul_right _ (by omega)) this
    · have hk := hel i hi
      have hy : elems[i]? = some (elems[i]'(by omega)) := by simp [show i < elems.length by omega]
      rw [hy] at hk
      obtain ⟨cs', h1, h2⟩ := Option.bind_eq_some_iff.1 hk
      refine ⟨cs', h1, _, h2, fun m hm => hz m ?_⟩
      rw [hd1]
      simp only [DataW.weights, hT, List.mem_cons, List.mem_append]
      exact .inr (.inl (tw_all (d := (elems[i]'(by omega)).1) (List.mem_map.2 ⟨_, List.getElem_mem _, rfl⟩) _ hm))
theorem rd_string {t : TypeId} {fuel : Nat} {cs : List Value} (ht : P.underlying t = some .string) (h : Rd enc P W base sp held fuel t cs) : ∃ s : ByteArray, cs = [.string s] ∧ s.size ≤ 140737488351232 := by
  obtain ⟨x, hx, hz⟩ := h
  obtain ⟨f, r, q, _⟩ := DataW.trod_string ht hx
  refine ⟨f, r, ?_⟩
  have := hz f.data.toList.length (by rw [q]; simp [DataW.weights])
  have e2 : f.size = f.data.toList.length := (Array.length_toList).symm
  unfold reachBytes at this
  omega
/-- A row, element by element. -/
theorem rd_row {e k : Nat} {y : Addr} {len n : Nat} (hk : P.cellsOf e = k) (hk0 : 0 < k)
    (h : ∀ i, i < len → ∃ cs', W.cells? base (y.add (i * P.cellsOf e)) (P.cellsOf e) = some cs' ∧ Rd enc P W base sp held n e cs') :
    ∃ V : Nat → List Value, Row W (some y) len k V ∧ ∀ i, i < len → (V i).length = k ∧ Rd enc P W base sp held n e (V i) := by
  obtain ⟨V, hV⟩ := choose_lt (α := List Value) (n := len) (p := fun i cs' => W.cells? base (y.add (i * P.cellsOf e)) (P.cellsOf e) = some cs' ∧ Rd enc P W base sp held n e cs') h
  rw [hk] at hV
  have hc : ∀ i, i < len → (V i).length = k ∧ ∀ j, j < k → W.cell? (y.add (i * k + j)) = some ((V i).getD j default) := fun i hi => by
    obtain ⟨_, hl, h3⟩ := World.cells?_some (hV i hi).1
    refine ⟨hl, fun j hj => ?_⟩
    have := h3 j hj
    rw [Deep.add_add] at this
    rw [this]
    simp [List.getD, show j < (V i).length by omega]
  refine ⟨V, ?_, fun i hi => ⟨(hc i hi).1, (hV i hi).2⟩⟩
  by_cases h0 : len = 0
  · exact .inl h0
  · have h00 := (hc 0 (by omega)).2 0 hk0
    have e0 : y.add (0 * k + 0) = y := by simp [Addr.add]
    rw [e0] at h00
    obtain ⟨b, o, rfl, hlt⟩ := taddr_of h00
    refine .inr ⟨b, o, rfl, hlt, fun i hi j hj => ?_⟩
    have := (hc i hi).2 j hj
    rw [Go.Addr.add_lit] at this
    rw [Nat.add_assoc]
    exact this
end
end Go.Proofs.YtccjeipkljdhdaaGreatDoor

/-
  VARINTS: plain facts on lists of bytes (as integers).
-/
namespace Go.Proofs.YtccjeipkljdhdaaGreatDoor
set_option linter.unusedVariables false
set_option linter.unusedSimpArgs false

/-- The varint of a number, as bytes. -/
def vl (x : Nat) : List Int := if h : x < 128 then [(x : Int)] else ((x % 128 + 128 : Nat) : Int) :: vl (x / 128)
termination_by x
decreasing_by omega
/-- What a varint reader answers of bytes, from the group i on: number, how many bytes, error. -/
def rdf : Nat → List Int → Nat × Nat × Int
  | i, [] => if i = 10 then (0, 0, 42) else (0, 0, 41)
  | i, c :: cs => if i = 10 then (0, 0, 42) else
    if 128 ≤ c then (if (rdf (i + 1) cs).2.2 = 0 then (c.toNat % 128 + 128 * (rdf (i + 1) cs).1, (rdf (i + 1) cs).2.1 + 1, 0) else rdf (i + 1) cs)
    else if (0 < i ∧ c = 0) ∨ (i = 9 ∧ 1 < c) then (0, 0, 42) else (c.toNat, 1, 0)
def rd (bs : List Int) : Nat × Nat × Int := rdf 0 bs
end Go.Proofs.YtccjeipkljdhdaaGreatDoor

namespace Go.Proofs.YtccjeipkljdhdaaGreatDoor
set_option linter.unusedVariables false
set_option linter.unusedSimpArgs false

def nmL : List ByteArray := [⟨#[101, 110, 100]⟩, ⟨#[99, 111, 110, 115, 116]⟩, ⟨#[98, 111, 111, 108]⟩, ⟨#[111, 98, 115]⟩, ⟨#[108, 111, 97, 100]⟩, ⟨#[115, 116, 111, 114, 101]⟩, ⟨#[107, 101, 101, 112]⟩, ⟨#[103, 101, 116]⟩, ⟨#[100, 114, 111, 112]⟩, ⟨#[97, 100, 100]⟩, ⟨#[115, 117, 98]⟩, ⟨#[109, 117, 108]⟩, ⟨#[110, 101, 103]⟩, ⟨#[100, 105, 118]⟩, ⟨#[109, 111, 100]⟩, ⟨#[97, 98, 115]⟩, ⟨#[109, 105, 110]⟩, ⟨#[109, 97, 120]⟩, ⟨#[114, 97, 116, 105, 111]⟩, ⟨#[108, 116]⟩, ⟨#[108, 101]⟩, ⟨#[103, 116]⟩, ⟨#[103, 101]⟩, ⟨#[101, 113]⟩, ⟨#[110, 101]⟩, ⟨#[110, 111, 116]⟩, ⟨#[106, 117, 109, 112]⟩, ⟨#[122, 101, 114, 111]⟩, ⟨#[102, 108, 111, 119]⟩]
def onL : List Nat := [0, 1, 1, 2, 1, 1, 1, 1, 0, 0, 0, 0, 0, 0, 0, 0, 0, 0, 1, 0, 0, 0, 0, 0, 0, 0, 1, 1, 1]
def tkL : List Nat := [0, 0, 0, 0, 0, 1, 1, 0, 1, 2, 2, 2, 1, 2, 2, 1, 2, 2, 3, 2, 2, 2, 2, 2, 2, 1, 0, 1, 1]
def ptL : List Nat := [0, 1, 1, 1, 1, 0, 1, 1, 0, 1, 1, 1, 1, 1, 1, 1, 1, 1, 1, 1, 1, 1, 1, 1, 1, 1, 0, 0, 0]
def baL : List Nat := [0, 16383, 1, 63, 32767, 32767, 16383, 16383, 0, 0, 0, 0, 0, 0, 0, 0, 0, 0, 4, 0, 0, 0, 0, 0, 0, 0, 262143, 262143, 4095]
def bbL : List Nat := [0, 0, 0, 3660, 0, 0, 0, 0, 0, 0, 0, 0, 0, 0, 0, 0, 0, 0, 0, 0, 0, 0, 0, 0, 0, 0, 0, 0, 0]
def nmA (k : Nat) : ByteArray := nmL.getD k ⟨#[]⟩
def onA (k : Nat) : Nat := onL.getD k 0
def tkA (k : Nat) : Nat := tkL.getD k 0
def ptA (k : Nat) : Nat := ptL.getD k 0
def baA (k : Nat) : Nat := baL.getD k 0
def bbA (k : Nat) : Nat := bbL.getD k 0
theorem all29 {p : Nat → Prop} [DecidablePred p] (h : (List.range 29).all (fun k => decide (p k)) = true) : ∀ k, k < 29 → p k := by
  intro k hk
  have := List.all_eq_true.1 h k (List.mem_range.2 hk)
  exact of_decide_eq_true this
theorem tab_facts : ∀ k, k < 29 → onA k ≤ 2 ∧ baA k ≤ 262143 ∧ bbA k ≤ 3660 ∧ tkA k ≤ 3 ∧ ptA k ≤ 1 ∧ (onA k = 0 → baA k = 0) ∧ (onA k ≤ 1 → bbA k = 0) := all29 (by decide)
theorem nm_ne : ∀ k, k < 29 → ∀ j, j < 29 → k ≠ j → (nmA k).data.toList ≠ (nmA j).data.toList := fun k hk => all29 (p := fun j => k ≠ j → (nmA k).data.toList ≠ (nmA j).data.toList) (all29 (p := fun k => (List.range 29).all (fun j => decide (k ≠ j → (nmA k).data.toList ≠ (nmA j).data.toList)) = true) (by decide) k hk)
/-- An instruction. -/
structure In where
  o : Int
  a : Int
  b : Int
  deriving Inhabited, DecidableEq
def In.okP (i : In) : Prop := 0 ≤ i.o ∧ i.o < 29 ∧ 0 ≤ i.a ∧ i.a ≤ baA i.o.toNat ∧ 0 ≤ i.b ∧ i.b ≤ bbA i.o.toNat
instance (i : In) : Decidable i.okP := by unfold In.okP; exact inferInstance
/-- Its bytes. -/
def In.enc (i : In) : List Int := i.o :: ((if 1 ≤ onA i.o.toNat then vl i.a.toNat else []) ++ (if 2 ≤ onA i.o.toNat then vl i.b.toNat else []))
end Go.Proofs.YtccjeipkljdhdaaGreatDoor

namespace Go.Proofs.YtccjeipkljdhdaaGreatDoor
open Go.ChangeShapes Go.WideShapes Go.ChangeAt Go.RowKit Go.Deep
set_option linter.unusedVariables false
set_option linter.unusedSimpArgs false

/-- A day's segment: its day, its code; where that lies. -/
structure Sg where
  day : Int
  ca : Option Addr
  cc : Nat
  code : List In
  deriving Inhabited
def Sg.cs (s : Sg) : List Value := [.int .i64 s.day, .slice s.ca s.code.length s.cc]
/-- A program: its lists and numbers; where the lists lie. -/
structure Pg where
  na : Option Addr
  nc : Nat
  names : List ByteArray
  ua : Option Addr
  uc : Nat
  curs : List ByteArray
  pa : Option Addr
  pc : Nat
  pool : List Int
  hor : Int
  cells : Int
  slots : Int
  stack : Int
  da : Option Addr
  dc : Nat
  days : List Sg
  deriving Inhabited
def Pg.cs (p : Pg) : List Value := [.slice p.na p.names.length p.nc, .slice p.ua p.curs.length p.uc, .slice p.pa p.pool.length p.pc, .int .i64 p.hor, .int .i64 p.cells, .int .i64 p.slots, .int .i64 p.stack, .slice p.da p.days.length p.dc]
def icell (i : In) : List Value := [.int .i64 i.o, .int .i64 i.a, .int .i64 i.b]
/-- A list of instructions, with its bounds. -/
def IR (w : World) (a : Option Addr) (n cap : Nat) (l : List In) : Prop :=
  Hd a n cap ∧ l.length = n ∧ n ≤ 5864062014634 ∧ (∀ i ∈ l, i64 i.o ∧ i64 i.a ∧ i64 i.b) ∧ Row w a n 3 (fun i => icell (l.getD i default))
theorem IR.later {w w' : World} {a n c l} (h : IR w a n c l) (b : Below w.heap.size w w') : IR w' a n c l := ⟨h.1, h.2.1, h.2.2.1, h.2.2.2.1, h.2.2.2.2.later b⟩
/-- A list of numbers, with its bounds. -/
def NR (w : World) (a : Option Addr) (n cap : Nat) (l : List Int) : Prop :=
  Hd a n cap ∧ l.length = n ∧ n ≤ 17592186043904 ∧ (∀ i ∈ l, i64 i) ∧ Row w a n 1 (fun i => [.int .i64 (l.getD i 0)])
theorem NR.later {w w' : World} {a n c l} (h : NR w a n c l) (b : Below w.heap.size w w') : NR w' a n c l := ⟨h.1, h.2.1, h.2.2.1, h.2.2.2.1, h.2.2.2.2.later b⟩
def GV (w : World) (s : Sg) : Prop := i64 s.day ∧ IR w s.ca s.code.length s.cc s.code
def GL (w : World) (a : Option Addr) (n cap : Nat) (l : List Sg) : Prop :=
  Hd a n cap ∧ l.length = n ∧ n ≤ 4398046510976 ∧ (∀ s ∈ l, GV w s) ∧ Row w a n 2 (fun i => (l.getD i default).cs)
theorem GV.later {w w' : World} {s : Sg} (h : GV w s) (b : Below w.heap.size w w') : GV w' s := ⟨h.1, h.2.later b⟩
theorem GL.later {w w' : World} {a n c l} (h : GL w a n c l) (b : Below w.heap.size w w') : GL w' a n c l := ⟨h.1, h.2.1, h.2.2.1, fun s hs => (h.2.2.2.1 s hs).later b, h.2.2.2.2.later b⟩
structure PV (w : World) (p : Pg) : Prop where
  names : SR w p.na p.names.length p.nc p.names
  curs : SR w p.ua p.curs.length p.uc p.curs
  pool : NR w p.pa p.pool.length p.pc p.pool
  hor : i64 p.hor
  cells : i64 p.cells
  slots : i64 p.slots
  stack : i64 p.stack
  days : GL w p.da p.days.length p.dc p.days
theorem PV.later {w w' : World} {p : Pg} (h : PV w p) (b : Below w.heap.size w w') : PV w' p := ⟨h.names.later b, h.curs.later b, h.pool.later b, h.hor, h.cells, h.slots, h.stack, h.days.later b⟩
theorem Row.congrP {w : World} {a : Option Addr} {n k : Nat} {V V' : Nat → List Value} (h : Row w a n k V) (e : ∀ i, i < n → V i = V' i) : Row w a n k V' := by
  rcases h with h | ⟨b, o, h1, h2, h3⟩
  · exact .inl h
  · exact .inr ⟨b, o, h1, h2, fun i hi j hj => by rw [← e i hi]; exact h3 i hi j hj⟩
/-- The types of a program. -/
structure PT (P : Program) where
  I : TypeId
  hI : P.underlying I = some (.int .i64)
  cI : P.cellsOf I = 1
  bI : P.bytesOf I = 8
  SI : TypeId
  hSI : P.underlying SI = some (.slice I)
  cSI : P.cellsOf SI = 1
  S : TypeId
  hS : P.underlying S = some .string
  cS : P.cellsOf S = 1
  bS : P.bytesOf S = 16
  SS : TypeId
  hSS : P.underlying SS = some (.slice S)
  cSS : P.cellsOf SS = 1
  J : TypeId
  fJ : Array Field
  hJ : P.underlying J = some (.struct fJ)
  lJ : fJ.toList.map (fun f => (f.type, f.offset)) = [(I, 0), (I, 1), (I, 2)]
  cJ : P.cellsOf J = 3
  bJ : P.bytesOf J = 24
  SJ : TypeId
  hSJ : P.underlying SJ = some (.slice J)
  cSJ : P.cellsOf SJ = 1
  G : TypeId
  fG : Array Field
  hG : P.underlying G = some (.struct fG)
  lG : fG.toList.map (fun f => (f.type, f.offset)) = [(I, 0), (SJ, 1)]
  cG : P.cellsOf G = 2
  bG : P.bytesOf G = 32
  SG : TypeId
  hSG : P.underlying SG = some (.slice G)
  cSG : P.cellsOf SG = 1
  Q : TypeId
  fQ : Array Field
  hQ : P.underlying Q = some (.struct fQ)
  lQ : fQ.toList.map (fun f => (f.type, f.offset)) = [(SS, 0), (SS, 1), (SI, 2), (I, 3), (I, 4), (I, 5), (I, 6), (SG, 7)]
  cQ : P.cellsOf Q = 8
section
variable {H : Type} {enc : TypeId × Value → H} {P : Program} {W : World} {base : Nat} {sp : Nat → Bool} {held : Bool}
theorem pgetD_map_range {α : Type} [Inhabited α] {n i : Nat} {f : Nat → α} (h : i < n) : ((List.range n).map f).getD i default = f i := by simp [h]
/-- A list of things of one kind. -/
theorem rd_list {α : Type} [Inhabited α] {SE E k bsz : Nat} (hSE : P.underlying SE = some (.slice E)) (cE : P.cellsOf E = k) (bE : P.bytesOf E = bsz) (hk : 0 < k) {fuel : Nat} {cs : List Value} (C : α → List Value) (Ok : α → Prop)
    (one : ∀ n cs, Rd enc P W base sp held n E cs → ∃ x, cs = C x ∧ Ok x) (h : Rd enc P W base sp held fuel SE cs) :
    ∃ a cap, ∃ l : List α, cs = [.slice a l.length cap] ∧ Hd a l.length cap ∧ l.length * bsz ≤ reachBytes ∧ (∀ x ∈ l, Ok x) ∧ Row W a l.length k (fun i => C (l.getD i default)) := by
  rcases rd_slice hSE h with rfl | ⟨y, len, cap, n, rfl, hn, hl, hm, hz, hx⟩
  · exact ⟨none, 0, [], rfl, ⟨fun _ => ⟨rfl, rfl⟩, Nat.le_refl _, by unfold maxLen; omega⟩, by simp, by simp, .inl rfl⟩
  · obtain ⟨V, hr, hv⟩ := rd_row cE hk hx
    obtain ⟨F, hF⟩ := choose_lt (α := α) (n := len) (p := fun i x => V i = C x ∧ Ok x) (fun i hi => one n _ (hv i hi).2)
    rw [bE] at hz
    refine ⟨some y, cap, (List.range len).map F, by simp, ⟨(fun e => by cases e), by simpa using hl, hm⟩, by simpa using hz, ?_, ?_⟩
    · intro x hx
      obtain ⟨i, hi, rfl⟩ := List.mem_map.1 hx
      exact (hF i (by simpa using hi)).2
    · have : Row W (some y) len k (fun i => C (((List.range len).map F).getD i default)) := Row.congrP hr (fun i hi => by rw [pgetD_map_range hi]; exact (hF i hi).1)
      simpa using this
theorem rd_texts (T : PT P) {fuel : Nat} {cs : List Value} (h : Rd enc P W base sp held fuel T.SS cs) : ∃ a cap l, cs = [.slice a (List.length l) cap] ∧ SR W a l.length cap l := by
  obtain ⟨a, cap, l, h1, h2, h3, h4, h5⟩ := rd_list (α := ByteArray) T.hSS T.cS T.bS (by omega) (fun s => [.string s]) (fun s => s.size ≤ 140737488351232) (fun n cs h => rd_string T.hS h) h
  unfold reachBytes at h3
  exact ⟨a, cap, l, h1, h2, rfl, by omega, h4, h5⟩
end
end Go.Proofs.YtccjeipkljdhdaaGreatDoor
