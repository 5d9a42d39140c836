import Derived.Test.YtccjeipkljdhdaaGreatDoorXAB
import Derived.Test.YtccjeipkljdhdaaGreatDoorXAD
import Derived.Test.YtccjeipkljdhdaaGreatDoorXAG
namespace Go.Proofs.YtccjeipkljdhdaaGreatDoor
open Go.RowKit
set_option linter.unusedVariables false
set_option linter.unusedSimpArgs false

/-- A text's lines from a place on. -/
def lfA (c : Int) : Bool := c != 10
def lnsL (s : ByteArray) (i : Nat) : List ByteArray :=
  if h : i < s.size then s.extract i (fy lfA s i) :: lnsL s (fy lfA s i + 1) else []
termination_by s.size - i
decreasing_by
  have a := fy_ge lfA s i
  omega
/-- A program as it is read. -/
structure Ap where
  ns : List ByteArray
  cs : List ByteArray
  pl : List Int
  hor : Int
  cells : Int
  slots : Int
  stack : Int
  days : List (Int × List In)
def Ap.zero : Ap := ⟨[], [], [], 0, 0, 0, 0, []⟩
/-- The lines' first words; the place of one. -/
def hdW : List ByteArray := [⟨#[110, 97, 109, 101, 115]⟩, ⟨#[99, 117, 114, 115]⟩, ⟨#[112, 111, 111, 108]⟩, ⟨#[104, 111, 114, 105, 122, 111, 110]⟩, ⟨#[99, 101, 108, 108, 115]⟩, ⟨#[115, 108, 111, 116, 115]⟩, ⟨#[115, 116, 97, 99, 107]⟩, ⟨#[100, 97, 121]⟩]
def hdA (k : Nat) : ByteArray := hdW.getD k ⟨#[]⟩
def hdI (s : ByteArray) : Nat := hdW.findIdx fun x => decide (x = s)
def optA (k : Nat) : Bool := decide (k < 3 ∨ k = 7)
/-- Whether a line may come. -/
def mayC (next line : Nat) : Bool := decide (next ≤ line) && (List.range line).all fun k => decide (k < next) || optA k
/-- Values, numbers. -/
def valW (w : ByteArray) : Option Int := prs 0 w.data.toList
def numW (w : ByteArray) : Option Int := (valW w).bind fun v => if 0 ≤ v then some v else none
def valsW : List ByteArray → Option (List Int)
  | [] => some []
  | w :: ws => match valW w with
    | none => none
    | some v => (valsW ws).map (v :: ·)
/-- A line of a list. -/
def apList (k : Nat) (ws : List ByteArray) (p : Ap) : Option Ap :=
  if ws = [] then none else
  if k = 0 then (if ws.all capP = true then some { p with ns := ws } else none) else
  if k = 1 then (if ws.all curP = true then some { p with cs := ws } else none) else
  (valsW ws).map fun l => { p with pl := l }
/-- A line of a number. -/
def apNum (k : Nat) (ws : List ByteArray) (p : Ap) : Option Ap :=
  match ws with
  | [w] => (numW w).map fun n =>
    if k = 3 then { p with hor := n } else if k = 4 then { p with cells := n } else if k = 5 then { p with slots := n } else if k = 6 then { p with stack := n } else { p with days := p.days ++ [(n, [])] }
  | _ => none
/-- The place of a thing in a list, if it is there. -/
def plcW {α : Type} [DecidableEq α] (l : List α) (x : α) : Option Int := if x ∈ l then some ((l.findIdx fun y => decide (y = x) : Nat) : Int) else none
/-- An instruction's first operand. -/
def opdW (p : Ap) (k : Nat) (w : ByteArray) : Option Int :=
  if k = 1 then (valW w).bind (plcW p.pl) else if k = 3 then plcW p.ns w else if k = 28 then plcW p.cs w else if k = 18 then plcW mdL w else numW w
/-- An instruction's words. -/
def insK (p : Ap) (k : Nat) (ws : List ByteArray) : Option In :=
  if ws.length = onA k then
    ((if onA k = 0 then some 0 else opdW p k (ws.getD 0 ⟨#[]⟩)).bind fun a =>
      (if onA k ≤ 1 then some 0 else numW (ws.getD 1 ⟨#[]⟩)).bind fun b =>
        if (In.mk k a b).okP then some (In.mk k a b) else none)
  else none
def insW (p : Ap) (w : ByteArray) (ws : List ByteArray) : Option In := (plcW nmL w).bind fun k => insK p k.toNat ws
def addI (days : List (Int × List In)) (i : In) : List (Int × List In) := match days.getLast? with
  | none => []
  | some d => days.dropLast ++ [(d.1, d.2 ++ [i])]
/-- A line that says something. -/
def apLine (st : Nat × Ap) (w : ByteArray) (ws : List ByteArray) : Option (Nat × Ap) :=
  if hdI w < 8 then
    (if mayC st.1 (hdI w) = true then ((if 3 ≤ hdI w then apNum (hdI w) ws st.2 else apList (hdI w) ws st.2).map fun p => (min (hdI w + 1) 7, p)) else none)
  else if st.2.days = [] then none else (insW st.2 w ws).map fun i => (st.1, { st.2 with days := addI st.2.days i })
/-- All lines: the program as far as it stands, or the number of the line that can't stand there. -/
def apAll : List ByteArray → Nat → Nat × Ap → Except Nat (Nat × (Nat × Ap))
  | [], n, st => .ok (n, st)
  | l :: ls, n, st => match wdsL l 0 with
    | [] => apAll ls (n + 1) st
    | w :: ws => match apLine st w ws with
      | none => .error (n + 1)
      | some st' => apAll ls (n + 1) st'
theorem mayC_end (next : Nat) (h : next ≤ 7) : mayC next 8 = decide (next = 7) := by
  match next, h with
  | 0, _ => decide
  | 1, _ => decide
  | 2, _ => decide
  | 3, _ => decide
  | 4, _ => decide
  | 5, _ => decide
  | 6, _ => decide
  | 7, _ => decide
end Go.Proofs.YtccjeipkljdhdaaGreatDoor
