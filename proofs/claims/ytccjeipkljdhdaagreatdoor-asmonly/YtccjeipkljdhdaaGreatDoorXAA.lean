import Derived.ProofKit
import Derived.OpenShut
import Derived.Deep.Slices
import Derived.SizedLaws
import Derived.Below
namespace Go.Proofs.YtccjeipkljdhdaaGreatDoor
open Go.ChangeShapes Go.WideShapes Go.ChangeAt Go.RowKit Go.Deep
set_option linter.unusedVariables false
set_option linter.unusedSimpArgs false

abbrev D3 := Int × Int × Int
/-- An expression, without where it lies. -/
inductive Ex where
  | mk (op num : Int) (name : ByteArray) (ds : List D3) (kids : List Ex)
namespace Ex
def op : Ex → Int | mk a _ _ _ _ => a
def num : Ex → Int | mk _ a _ _ _ => a
def name : Ex → ByteArray | mk _ _ a _ _ => a
def ds : Ex → List D3 | mk _ _ _ a _ => a
def kids : Ex → List Ex | mk _ _ _ _ a => a
instance : Inhabited Ex := ⟨mk 0 0 default [] []⟩
theorem ind {p : Ex → Prop} (h : ∀ e : Ex, (∀ k ∈ e.kids, p k) → p e) : ∀ e, p e
  | mk a b c d l => h _ (fun k hk => ind h k)
termination_by e => SizeOf.sizeOf e
decreasing_by
  simp only [kids] at hk
  have := List.sizeOf_lt_of_mem hk
  simp
  omega
end Ex
/-- A range, all numbers: kind, lo, hi, by, from, to, tenor, convention. -/
structure Rg where
  kind : Int
  lo : Int
  hi : Int
  by_ : Int
  fr : D3
  to : D3
  tn : Int
  tu : Int
  conv : Int
  deriving Inhabited, DecidableEq
/-- A contract. -/
inductive Cn where
  | mk (kind : Int) (name loop cur : ByteArray) (num : Int) (date : D3) (rg : Rg) (exprs : List Ex) (kids : List Cn)
namespace Cn
def kind : Cn → Int | mk a _ _ _ _ _ _ _ _ => a
def name : Cn → ByteArray | mk _ a _ _ _ _ _ _ _ => a
def loop : Cn → ByteArray | mk _ _ a _ _ _ _ _ _ => a
def cur : Cn → ByteArray | mk _ _ _ a _ _ _ _ _ => a
def num : Cn → Int | mk _ _ _ _ a _ _ _ _ => a
def date : Cn → D3 | mk _ _ _ _ _ a _ _ _ => a
def rg : Cn → Rg | mk _ _ _ _ _ _ a _ _ => a
def exprs : Cn → List Ex | mk _ _ _ _ _ _ _ a _ => a
def kids : Cn → List Cn | mk _ _ _ _ _ _ _ _ a => a
instance : Inhabited Cn := ⟨mk 0 default default default 0 default default [] []⟩
theorem ind {p : Cn → Prop} (h : ∀ e : Cn, (∀ k ∈ e.kids, p k) → p e) : ∀ e, p e
  | mk a b c d e f g i l => h _ (fun k hk => ind h k)
termination_by e => SizeOf.sizeOf e
decreasing_by
  simp only [kids] at hk
  have := List.sizeOf_lt_of_mem hk
  simp
  omega
end Cn

/-- A row of n things of k cells each, as it lies in memory. -/
def Row (w : World) (a : Option Addr) (n k : Nat) (V : Nat → List Value) : Prop :=
  n = 0 ∨ ∃ b o, a = some ⟨b, o, none⟩ ∧ b < w.heap.size ∧ ∀ i, i < n → ∀ j, j < k → w.cell? ⟨b, o + i * k + j, none⟩ = some ((V i).getD j default)
theorem Row.later {w w' : World} {a n k V} (h : Row w a n k V) (b : Below w.heap.size w w') : Row w' a n k V := by
  rcases h with h | ⟨x, o, rfl, hx, hc⟩
  · exact .inl h
  · exact .inr ⟨x, o, rfl, Nat.lt_of_lt_of_le hx b.size, fun i hi j hj => by rw [b.cell (p := ⟨x, _, none⟩) hx]; exact hc i hi j hj⟩
/-- A slice's header: nil or within its capacity. -/
def Hd (a : Option Addr) (n cap : Nat) : Prop := (a = none → n = 0 ∧ cap = 0) ∧ n ≤ cap ∧ cap ≤ maxLen
def i64 (n : Int) : Prop := (Lit.int .i64 n).wf = true
def d3ok (d : D3) : Prop := i64 d.1 ∧ i64 d.2.1 ∧ i64 d.2.2
def d3c (d : D3) : List Value := [.int .i64 d.1, .int .i64 d.2.1, .int .i64 d.2.2]
/-- A list of dates. -/
def DR (w : World) (a : Option Addr) (n cap : Nat) (ds : List D3) : Prop :=
  Hd a n cap ∧ ds.length = n ∧ n ≤ 8796093021952 ∧ (∀ d ∈ ds, d3ok d) ∧ Row w a n 3 (fun i => d3c (ds.getD i default))
theorem DR.later {w w' : World} {a n c ds} (h : DR w a n c ds) (b : Below w.heap.size w w') : DR w' a n c ds := ⟨h.1, h.2.1, h.2.2.1, h.2.2.2.1, h.2.2.2.2.later b⟩
/-- A list of texts. -/
def SR (w : World) (a : Option Addr) (n cap : Nat) (ss : List ByteArray) : Prop :=
  Hd a n cap ∧ ss.length = n ∧ n ≤ 8796093021952 ∧ (∀ s ∈ ss, s.size ≤ 140737488351232) ∧ Row w a n 1 (fun i => [.string (ss.getD i default)])
theorem SR.later {w w' : World} {a n c ss} (h : SR w a n c ss) (b : Below w.heap.size w w') : SR w' a n c ss := ⟨h.1, h.2.1, h.2.2.1, h.2.2.2.1, h.2.2.2.2.later b⟩
/-- An expression's five cells. -/
inductive EV (w : World) : Ex → List Value → Prop
  | mk {op num : Int} {name : ByteArray} {ds : List D3} {kids : List Ex} {da ka : Option Addr} {dc kc : Nat} (V : Nat → List Value)
    (wop : i64 op) (wnum : i64 num) (hname : name.size ≤ 140737488351232) (hd : DR w da ds.length dc ds)
    (hk : Hd ka kids.length kc) (hn : kids.length ≤ 8796093021952) (hr : Row w ka kids.length 5 V) (hkids : ∀ i, i < kids.length → EV w (kids.getD i default) (V i)) :
    EV w (.mk op num name ds kids) [.int .i64 op, .int .i64 num, .string name, .slice da ds.length dc, .slice ka kids.length kc]
theorem EV.later {w w' : World} {e vs} (h : EV w e vs) (b : Below w.heap.size w w') : EV w' e vs := by
  induction h with
  | mk V wop wnum hname hd hk hn hr hkids ih => exact .mk V wop wnum hname (hd.later b) hk hn (hr.later b) ih
/-- A list of expressions. -/
def ER (w : World) (a : Option Addr) (n cap : Nat) (es : List Ex) : Prop :=
  Hd a n cap ∧ es.length = n ∧ n ≤ 8796093021952 ∧ ∃ V : Nat → List Value, Row w a n 5 V ∧ ∀ i, i < n → EV w (es.getD i default) (V i)
theorem ER.later {w w' : World} {a n c es} (h : ER w a n c es) (b : Below w.heap.size w w') : ER w' a n c es := by
  obtain ⟨h1, h2, h3, V, h4, h5⟩ := h
  exact ⟨h1, h2, h3, V, h4.later b, fun i hi => (h5 i hi).later b⟩
end Go.Proofs.YtccjeipkljdhdaaGreatDoor

namespace Go.Proofs.YtccjeipkljdhdaaGreatDoor
open Go.ChangeShapes Go.WideShapes Go.ChangeAt Go.RowKit Go.Deep
set_option linter.unusedVariables false
set_option linter.unusedSimpArgs false

section
variable {H : Type} {enc : TypeId × Value → H} {P : Program} {W : World} {base : Nat} {sp : Nat → Bool} {held : Bool}

end
end Go.Proofs.YtccjeipkljdhdaaGreatDoor

/-
  VARINTS: plain facts on lists of bytes (as integers).
-/
namespace Go.Proofs.YtccjeipkljdhdaaGreatDoor
set_option linter.unusedVariables false
set_option linter.unusedSimpArgs false

/-- The varint of a number, as bytes. -/
def vl (x : Nat) : List Int := if h : x < 128 then [(x : Int)] else ((x % 128 + 128 : Nat) : Int) :: vl (x / 128)
termination_by x
decreasing_by omega
end Go.Proofs.YtccjeipkljdhdaaGreatDoor

namespace Go.Proofs.YtccjeipkljdhdaaGreatDoor
set_option linter.unusedVariables false
set_option linter.unusedSimpArgs false

def nmL : List ByteArray := [⟨#[101, 110, 100]⟩, ⟨#[99, 111, 110, 115, 116]⟩, ⟨#[98, 111, 111, 108]⟩, ⟨#[111, 98, 115]⟩, ⟨#[108, 111, 97, 100]⟩, ⟨#[115, 116, 111, 114, 101]⟩, ⟨#[107, 101, 101, 112]⟩, ⟨#[103, 101, 116]⟩, ⟨#[100, 114, 111, 112]⟩, ⟨#[97, 100, 100]⟩, ⟨#[115, 117, 98]⟩, ⟨#[109, 117, 108]⟩, ⟨#[110, 101, 103]⟩, ⟨#[100, 105, 118]⟩, ⟨#[109, 111, 100]⟩, ⟨#[97, 98, 115]⟩, ⟨#[109, 105, 110]⟩, ⟨#[109, 97, 120]⟩, ⟨#[114, 97, 116, 105, 111]⟩, ⟨#[108, 116]⟩, ⟨#[108, 101]⟩, ⟨#[103, 116]⟩, ⟨#[103, 101]⟩, ⟨#[101, 113]⟩, ⟨#[110, 101]⟩, ⟨#[110, 111, 116]⟩, ⟨#[106, 117, 109, 112]⟩, ⟨#[122, 101, 114, 111]⟩, ⟨#[102, 108, 111, 119]⟩]
def onL : List Nat := [0, 1, 1, 2, 1, 1, 1, 1, 0, 0, 0, 0, 0, 0, 0, 0, 0, 0, 1, 0, 0, 0, 0, 0, 0, 0, 1, 1, 1]
def tkL : List Nat := [0, 0, 0, 0, 0, 1, 1, 0, 1, 2, 2, 2, 1, 2, 2, 1, 2, 2, 3, 2, 2, 2, 2, 2, 2, 1, 0, 1, 1]
def ptL : List Nat := [0, 1, 1, 1, 1, 0, 1, 1, 0, 1, 1, 1, 1, 1, 1, 1, 1, 1, 1, 1, 1, 1, 1, 1, 1, 1, 0, 0, 0]
def baL : List Nat := [0, 16383, 1, 63, 32767, 32767, 16383, 16383, 0, 0, 0, 0, 0, 0, 0, 0, 0, 0, 4, 0, 0, 0, 0, 0, 0, 0, 262143, 262143, 4095]
def bbL : List Nat := [0, 0, 0, 3660, 0, 0, 0, 0, 0, 0, 0, 0, 0, 0, 0, 0, 0, 0, 0, 0, 0, 0, 0, 0, 0, 0, 0, 0, 0]
def nmA (k : Nat) : ByteArray := nmL.getD k ⟨#[]⟩
def onA (k : Nat) : Nat := onL.getD k 0
def tkA (k : Nat) : Nat := tkL.getD k 0
def ptA (k : Nat) : Nat := ptL.getD k 0
def baA (k : Nat) : Nat := baL.getD k 0
def bbA (k : Nat) : Nat := bbL.getD k 0
theorem all29 {p : Nat → Prop} [DecidablePred p] (h : (List.range 29).all (fun k => decide (p k)) = true) : ∀ k, k < 29 → p k := by
  intro k hk
  have := List.all_eq_true.1 h k (List.mem_range.2 hk)
  exact of_decide_eq_true this
theorem tab_facts : ∀ k, k < 29 → onA k ≤ 2 ∧ baA k ≤ 262143 ∧ bbA k ≤ 3660 ∧ tkA k ≤ 3 ∧ ptA k ≤ 1 ∧ (onA k = 0 → baA k = 0) ∧ (onA k ≤ 1 → bbA k = 0) := all29 (by decide)
theorem nm_ne : ∀ k, k < 29 → ∀ j, j < 29 → k ≠ j → (nmA k).data.toList ≠ (nmA j).data.toList := fun k hk => all29 (p := fun j => k ≠ j → (nmA k).data.toList ≠ (nmA j).data.toList) (all29 (p := fun k => (List.range 29).all (fun j => decide (k ≠ j → (nmA k).data.toList ≠ (nmA j).data.toList)) = true) (by decide) k hk)
/-- An instruction. -/
structure In where
  o : Int
  a : Int
  b : Int
  deriving Inhabited, DecidableEq
def In.okP (i : In) : Prop := 0 ≤ i.o ∧ i.o < 29 ∧ 0 ≤ i.a ∧ i.a ≤ baA i.o.toNat ∧ 0 ≤ i.b ∧ i.b ≤ bbA i.o.toNat
instance (i : In) : Decidable i.okP := by unfold In.okP; exact inferInstance
/-- Its bytes. -/
def In.enc (i : In) : List Int := i.o :: ((if 1 ≤ onA i.o.toNat then vl i.a.toNat else []) ++ (if 2 ≤ onA i.o.toNat then vl i.b.toNat else []))
end Go.Proofs.YtccjeipkljdhdaaGreatDoor

namespace Go.Proofs.YtccjeipkljdhdaaGreatDoor
open Go.ChangeShapes Go.WideShapes Go.ChangeAt Go.RowKit Go.Deep
set_option linter.unusedVariables false
set_option linter.unusedSimpArgs false

/-- A day's segment: its day, its code; where that lies. -/
structure Sg where
  day : Int
  ca : Option Addr
  cc : Nat
  code : List In
  deriving Inhabited
def Sg.cs (s : Sg) : List Value := [.int .i64 s.day, .slice s.ca s.code.length s.cc]
/-- A program: its lists and numbers; where the lists lie. -/
structure Pg where
  na : Option Addr
  nc : Nat
  names : List ByteArray
  ua : Option Addr
  uc : Nat
  curs : List ByteArray
  pa : Option Addr
  pc : Nat
  pool : List Int
  hor : Int
  cells : Int
  slots : Int
  stack : Int
  da : Option Addr
  dc : Nat
  days : List Sg
  deriving Inhabited
def Pg.cs (p : Pg) : List Value := [.slice p.na p.names.length p.nc, .slice p.ua p.curs.length p.uc, .slice p.pa p.pool.length p.pc, .int .i64 p.hor, .int .i64 p.cells, .int .i64 p.slots, .int .i64 p.stack, .slice p.da p.days.length p.dc]
def icell (i : In) : List Value := [.int .i64 i.o, .int .i64 i.a, .int .i64 i.b]
/-- A list of instructions, with its bounds. -/
def IR (w : World) (a : Option Addr) (n cap : Nat) (l : List In) : Prop :=
  Hd a n cap ∧ l.length = n ∧ n ≤ 5864062014634 ∧ (∀ i ∈ l, i64 i.o ∧ i64 i.a ∧ i64 i.b) ∧ Row w a n 3 (fun i => icell (l.getD i default))
theorem IR.later {w w' : World} {a n c l} (h : IR w a n c l) (b : Below w.heap.size w w') : IR w' a n c l := ⟨h.1, h.2.1, h.2.2.1, h.2.2.2.1, h.2.2.2.2.later b⟩
/-- A list of numbers, with its bounds. -/
def NR (w : World) (a : Option Addr) (n cap : Nat) (l : List Int) : Prop :=
  Hd a n cap ∧ l.length = n ∧ n ≤ 17592186043904 ∧ (∀ i ∈ l, i64 i) ∧ Row w a n 1 (fun i => [.int .i64 (l.getD i 0)])
theorem NR.later {w w' : World} {a n c l} (h : NR w a n c l) (b : Below w.heap.size w w') : NR w' a n c l := ⟨h.1, h.2.1, h.2.2.1, h.2.2.2.1, h.2.2.2.2.later b⟩
def GV (w : World) (s : Sg) : Prop := i64 s.day ∧ IR w s.ca s.code.length s.cc s.code
def GL (w : World) (a : Option Addr) (n cap : Nat) (l : List Sg) : Prop :=
  Hd a n cap ∧ l.length = n ∧ n ≤ 4398046510976 ∧ (∀ s ∈ l, GV w s) ∧ Row w a n 2 (fun i => (l.getD i default).cs)
theorem GV.later {w w' : World} {s : Sg} (h : GV w s) (b : Below w.heap.size w w') : GV w' s := ⟨h.1, h.2.later b⟩
theorem GL.later {w w' : World} {a n c l} (h : GL w a n c l) (b : Below w.heap.size w w') : GL w' a n c l := ⟨h.1, h.2.1, h.2.2.1, fun s hs => (h.2.2.2.1 s hs).later b, h.2.2.2.2.later b⟩
structure PV (w : World) (p : Pg) : Prop where
  names : SR w p.na p.names.length p.nc p.names
  curs : SR w p.ua p.curs.length p.uc p.curs
  pool : NR w p.pa p.pool.length p.pc p.pool
  hor : i64 p.hor
  cells : i64 p.cells
  slots : i64 p.slots
  stack : i64 p.stack
  days : GL w p.da p.days.length p.dc p.days
theorem PV.later {w w' : World} {p : Pg} (h : PV w p) (b : Below w.heap.size w w') : PV w' p := ⟨h.names.later b, h.curs.later b, h.pool.later b, h.hor, h.cells, h.slots, h.stack, h.days.later b⟩
section
variable {H : Type} {enc : TypeId × Value → H} {P : Program} {W : World} {base : Nat} {sp : Nat → Bool} {held : Bool}
end
end Go.Proofs.YtccjeipkljdhdaaGreatDoor
