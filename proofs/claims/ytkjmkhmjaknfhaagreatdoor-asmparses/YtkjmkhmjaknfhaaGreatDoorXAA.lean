import Derived.ProofKit
import Derived.OpenShut
import Derived.WalkKit
import Derived.Laws.RangeAny
import Derived.Deep.Slices
import Derived.SizedLaws
import Derived.Below
import Derived.Lib.Join
import Derived.Lib.ItoaLen
import Derived.Laws.BitsAllLaws
import Derived.Test.YtkjmkhmjaknfhaaGreatDoorRows
import Derived.WalkSpells
import Derived.Lib.Mul64
namespace Go.Proofs.YtkjmkhmjaknfhaaGreatDoor
open Go.ChangeShapes Go.WideShapes Go.ChangeAt Go.RowKit

end Go.Proofs.YtkjmkhmjaknfhaaGreatDoor

namespace Go.Proofs.YtkjmkhmjaknfhaaGreatDoor
open Go.RowKit
set_option linter.unusedVariables false
set_option linter.unusedSimpArgs false

/-- The byte at a place; -1 behind the end. -/
def yb (s : ByteArray) (i : Nat) : Int := if h : i < s.size then (s[i].toNat : Int) else -1
theorem yb_lt {s : ByteArray} {i : Nat} (h : i < s.size) : yb s i = (s[i].toNat : Int) := by unfold yb; rw [dif_pos h]
/-- The first place from i on where p no longer holds. -/
def fy (p : Int → Bool) (s : ByteArray) (i : Nat) : Nat :=
  if h : i < s.size ∧ p (yb s i) = true then fy p s (i + 1) else i
termination_by s.size - i
decreasing_by omega
theorem fy_go {p : Int → Bool} {s : ByteArray} {i : Nat} (h : i < s.size) (hp : p (yb s i) = true) : fy p s i = fy p s (i + 1) := by
  rw [fy, dif_pos ⟨h, hp⟩]
theorem fy_stop {p : Int → Bool} {s : ByteArray} {i : Nat} (h : ¬ (i < s.size ∧ p (yb s i) = true)) : fy p s i = i := by
  rw [fy, dif_neg h]
theorem fy_all (p : Int → Bool) (s : ByteArray) : ∀ (n i : Nat), s.size - i = n → i ≤ fy p s i ∧ (i ≤ s.size → fy p s i ≤ s.size) ∧ ¬ (fy p s i < s.size ∧ p (yb s (fy p s i)) = true)
  | 0, i, hn => by
    have e : fy p s i = i := fy_stop (fun h => by omega)
    rw [e]
    exact ⟨Nat.le_refl _, fun h => h, fun h => by omega⟩
  | n + 1, i, hn => by
    by_cases h : i < s.size ∧ p (yb s i) = true
    · obtain ⟨a, b, d⟩ := fy_all p s n (i + 1) (by omega)
      rw [fy_go h.1 h.2]
      exact ⟨by omega, fun _ => b (by omega), d⟩
    · rw [fy_stop h]
      exact ⟨Nat.le_refl _, fun h => h, h⟩
theorem fy_ge (p : Int → Bool) (s : ByteArray) (i : Nat) : i ≤ fy p s i := (fy_all p s _ i rfl).1
theorem fy_le {p : Int → Bool} {s : ByteArray} {i : Nat} (h : i ≤ s.size) : fy p s i ≤ s.size := (fy_all p s _ i rfl).2.1 h
theorem fy_out (p : Int → Bool) (s : ByteArray) (i : Nat) : ¬ (fy p s i < s.size ∧ p (yb s (fy p s i)) = true) := (fy_all p s _ i rfl).2.2
theorem fy_run {p : Int → Bool} {s : ByteArray} {i : Nat} : ∀ k : Nat, (∀ j, j < k → i + j < s.size ∧ p (yb s (i + j)) = true) → fy p s i = fy p s (i + k)
  | 0, _ => rfl
  | k + 1, h => by
    rw [fy_run k (fun j hj => h j (by omega))]
    exact fy_go (h k (by omega)).1 (h k (by omega)).2
/-- A blank; a byte of a word. -/
def bkA (c : Int) : Bool := c == 32 || c == 9 || c == 13
def wrA (c : Int) : Bool := decide (0 ≤ c) && !bkA c && c != 59
/-- A line's words from a place on. -/
def wdsL (s : ByteArray) (i : Nat) : List ByteArray :=
  if h : fy bkA s i < s.size ∧ wrA (yb s (fy bkA s i)) = true then s.extract (fy bkA s i) (fy wrA s (fy bkA s i)) :: wdsL s (fy wrA s (fy bkA s i)) else []
termination_by s.size - i
decreasing_by
  have a := fy_ge bkA s i
  have b := fy_go h.1 h.2
  have c := fy_ge wrA s (fy bkA s i + 1)
  omega
theorem wrA_bk {c : Int} (h : wrA c = true) : bkA c = false := by
  unfold wrA at h
  simp only [Bool.and_eq_true, Bool.not_eq_true'] at h
  exact h.1.2
theorem wdsL_word {s : ByteArray} {i : Nat} (h : i < s.size) (hw : wrA (yb s i) = true) : wdsL s i = s.extract i (fy wrA s i) :: wdsL s (fy wrA s i) := by
  have e : fy bkA s i = i := fy_stop (fun q => by rw [wrA_bk hw] at q; exact absurd q.2 (by decide))
  rw [wdsL, e, dif_pos ⟨h, hw⟩]
theorem wdsL_blank {s : ByteArray} {i : Nat} (h : i < s.size) (hb : bkA (yb s i) = true) : wdsL s i = wdsL s (i + 1) := by
  rw [wdsL, wdsL.eq_def s (i + 1), fy_go h hb]
theorem wdsL_end {s : ByteArray} {i : Nat} (h : ¬ i < s.size) : wdsL s i = [] := by
  have e : fy bkA s i = i := fy_stop (fun q => h q.1)
  rw [wdsL, e, dif_neg (fun q => h q.1)]
theorem wdsL_rem {s : ByteArray} {i : Nat} (h : yb s i = 59) : wdsL s i = [] := by
  have e : fy bkA s i = i := fy_stop (fun q => by rw [h] at q; exact absurd q.2 (by decide))
  rw [wdsL, e, dif_neg (fun q => by rw [h] at q; exact absurd q.2 (by decide))]
/-- A rune and the bytes that it takes. -/
theorem get_bang {s : ByteArray} {i : Nat} (h : i < s.size) : s.get! i = s[i] := by
  show s.data[i]! = s.data[i]
  exact getElem!_pos s.data i h
theorem rune_high {s : ByteArray} {i : Nat} (h : i < s.size) (ha : 128 ≤ (s[i]'h).toNat) : ∀ j, j < (Utf8.decode s i).2 → i + j < s.size ∧ 128 ≤ yb s (i + j) := by
  have g0 := get_bang h
  have key : ∀ k, i + k < s.size → (s.get! (i + k)).toNat / 64 = 2 → 128 ≤ yb s (i + k) := fun k hk e => by
    rw [yb_lt hk, ← get_bang hk]; omega
  have b0 : 128 ≤ yb s (i + 0) := by rw [Nat.add_zero, yb_lt h]; omega
  have hn : ¬ (s.get! (i + 0)).toNat < 128 := by rw [Nat.add_zero, g0]; omega
  intro j hj
  simp only [Utf8.decode] at hj
  rw [if_neg hn] at hj
  have one : j = 0 → i + j < s.size ∧ 128 ≤ yb s (i + j) := fun e => by subst e; exact ⟨by omega, b0⟩
  split at hj
  · rename_i c
    simp only [Bool.and_eq_true, decide_eq_true_eq, beq_iff_eq] at c
    have hj2 : j < 2 := by
      split at hj <;> simp only at hj <;> omega
    match j, hj2 with
    | 0, _ => exact one rfl
    | 1, _ => exact ⟨c.2.1, key 1 c.2.1 c.2.2⟩
  · split at hj
    · rename_i c
      simp only [Bool.and_eq_true, decide_eq_true_eq, beq_iff_eq] at c
      have hj2 : j < 3 := by
        split at hj <;> simp only at hj <;> omega
      match j, hj2 with
      | 0, _ => exact one rfl
      | 1, _ => exact ⟨c.1.2.1, key 1 c.1.2.1 c.1.2.2⟩
      | 2, _ => exact ⟨c.2.1, key 2 c.2.1 c.2.2⟩
    · split at hj
      · rename_i c
        simp only [Bool.and_eq_true, decide_eq_true_eq, beq_iff_eq] at c
        have hj2 : j < 4 := by
          split at hj <;> simp only at hj <;> omega
        match j, hj2 with
        | 0, _ => exact one rfl
        | 1, _ => exact ⟨c.1.1.2.1, key 1 c.1.1.2.1 c.1.1.2.2⟩
        | 2, _ => exact ⟨c.1.2.1, key 2 c.1.2.1 c.1.2.2⟩
        | 3, _ => exact ⟨c.2.1, key 3 c.2.1 c.2.2⟩
      · simp only at hj
        exact one (by omega)
/-- What a rune says of the words: the rune, its width. -/
inductive RuneAt (s : ByteArray) (i : Nat) : Int → Nat → Prop
  | word {c : Int} {k : Nat} (h : ∀ j, j < k → i + j < s.size ∧ wrA (yb s (i + j)) = true) (k0 : 0 < k) (hc : c ≠ 32 ∧ c ≠ 9 ∧ c ≠ 13 ∧ c ≠ 59) : RuneAt s i c k
  | blank {c : Int} (h : bkA (yb s i) = true) (hc : c = 32 ∨ c = 9 ∨ c = 13) : RuneAt s i c 1
  | rem (h : yb s i = 59) : RuneAt s i 59 1
theorem rune_at {s : ByteArray} {i : Nat} (h : i < s.size) : RuneAt s i ((Utf8.decode s i).1 : Int) (Utf8.decode s i).2 := by
  by_cases ha : (s[i]'h).toNat < 128
  · rw [decode_ascii s i h ha]
    have y := yb_lt h
    simp only
    by_cases b : bkA (yb s i) = true
    · refine .blank b ?_
      unfold bkA at b
      simp only [Bool.or_eq_true, beq_iff_eq] at b
      omega
    · by_cases r : yb s i = 59
      · have : ((s[i].toNat : Nat) : Int) = 59 := by omega
        rw [this]
        exact .rem r
      · have b' : ¬ (yb s i = 32 ∨ yb s i = 9 ∨ yb s i = 13) := fun q => b (by unfold bkA; simp only [Bool.or_eq_true, beq_iff_eq]; omega)
        refine .word (fun j hj => ?_) (by omega) (by omega)
        obtain rfl : j = 0 := by omega
        refine ⟨h, ?_⟩
        rw [Nat.add_zero]
        unfold wrA
        rw [Bool.eq_false_iff.2 b]
        simp [r]
        omega
  · have hd := decode_high s i h (by omega)
    refine .word (fun j hj => ?_) (by omega) (by omega)
    obtain ⟨h1, h2⟩ := rune_high h (by omega) j hj
    refine ⟨h1, ?_⟩
    unfold wrA bkA
    simp
    omega
end Go.Proofs.YtkjmkhmjaknfhaaGreatDoor

namespace Go.Proofs.YtkjmkhmjaknfhaaGreatDoor
open Go.ChangeShapes Go.WideShapes Go.ChangeAt Go.RowKit Go.Deep
set_option linter.unusedVariables false
set_option linter.unusedSimpArgs false

abbrev D3 := Int × Int × Int
/-- An expression, without where it lies. -/
inductive Ex where
  | mk (op num : Int) (name : ByteArray) (ds : List D3) (kids : List Ex)
namespace Ex
def op : Ex → Int | mk a _ _ _ _ => a
def num : Ex → Int | mk _ a _ _ _ => a
def name : Ex → ByteArray | mk _ _ a _ _ => a
def ds : Ex → List D3 | mk _ _ _ a _ => a
def kids : Ex → List Ex | mk _ _ _ _ a => a
instance : Inhabited Ex := ⟨mk 0 0 default [] []⟩
theorem ind {p : Ex → Prop} (h : ∀ e : Ex, (∀ k ∈ e.kids, p k) → p e) : ∀ e, p e
  | mk a b c d l => h _ (fun k hk => ind h k)
termination_by e => SizeOf.sizeOf e
decreasing_by
  simp only [kids] at hk
  have := List.sizeOf_lt_of_mem hk
  simp
  omega
end Ex
/-- A range, all numbers: kind, lo, hi, by, from, to, tenor, convention. -/
structure Rg where
  kind : Int
  lo : Int
  hi : Int
  by_ : Int
  fr : D3
  to : D3
  tn : Int
  tu : Int
  conv : Int
  deriving Inhabited, DecidableEq
/-- A contract. -/
inductive Cn where
  | mk (kind : Int) (name loop cur : ByteArray) (num : Int) (date : D3) (rg : Rg) (exprs : List Ex) (kids : List Cn)
namespace Cn
def kind : Cn → Int | mk a _ _ _ _ _ _ _ _ => a
def name : Cn → ByteArray | mk _ a _ _ _ _ _ _ _ => a
def loop : Cn → ByteArray | mk _ _ a _ _ _ _ _ _ => a
def cur : Cn → ByteArray | mk _ _ _ a _ _ _ _ _ => a
def num : Cn → Int | mk _ _ _ _ a _ _ _ _ => a
def date : Cn → D3 | mk _ _ _ _ _ a _ _ _ => a
def rg : Cn → Rg | mk _ _ _ _ _ _ a _ _ => a
def exprs : Cn → List Ex | mk _ _ _ _ _ _ _ a _ => a
def kids : Cn → List Cn | mk _ _ _ _ _ _ _ _ a => a
instance : Inhabited Cn := ⟨mk 0 default default default 0 default default [] []⟩
theorem ind {p : Cn → Prop} (h : ∀ e : Cn, (∀ k ∈ e.kids, p k) → p e) : ∀ e, p e
  | mk a b c d e f g i l => h _ (fun k hk => ind h k)
termination_by e => SizeOf.sizeOf e
decreasing_by
  simp only [kids] at hk
  have := List.sizeOf_lt_of_mem hk
  simp
  omega
end Cn

/-- A row of n things of k cells each, as it lies in memory. -/
def Row (w : World) (a : Option Addr) (n k : Nat) (V : Nat → List Value) : Prop :=
  n = 0 ∨ ∃ b o, a = some ⟨b, o, none⟩ ∧ b < w.heap.size ∧ ∀ i, i < n → ∀ j, j < k → w.cell? ⟨b, o + i * k + j, none⟩ = some ((V i).getD j default)
theorem Row.later {w w' : World} {a n k V} (h : Row w a n k V) (b : Below w.heap.size w w') : Row w' a n k V := by
  rcases h with h | ⟨x, o, rfl, hx, hc⟩
  · exact .inl h
  · exact .inr ⟨x, o, rfl, Nat.lt_of_lt_of_le hx b.size, fun i hi j hj => by rw [b.cell (p := ⟨x, _, none⟩) hx]; exact hc i hi j hj⟩
/-- A slice's header: nil or within its capacity. -/
def Hd (a : Option Addr) (n cap : Nat) : Prop := (a = none → n = 0 ∧ cap = 0) ∧ n ≤ cap ∧ cap ≤ maxLen
def i64 (n : Int) : Prop := (Lit.int .i64 n).wf = true
def d3ok (d : D3) : Prop := i64 d.1 ∧ i64 d.2.1 ∧ i64 d.2.2
def d3c (d : D3) : List Value := [.int .i64 d.1, .int .i64 d.2.1, .int .i64 d.2.2]
/-- A list of dates. -/
def DR (w : World) (a : Option Addr) (n cap : Nat) (ds : List D3) : Prop :=
  Hd a n cap ∧ ds.length = n ∧ n ≤ 8796093021952 ∧ (∀ d ∈ ds, d3ok d) ∧ Row w a n 3 (fun i => d3c (ds.getD i default))
theorem DR.later {w w' : World} {a n c ds} (h : DR w a n c ds) (b : Below w.heap.size w w') : DR w' a n c ds := ⟨h.1, h.2.1, h.2.2.1, h.2.2.2.1, h.2.2.2.2.later b⟩
/-- A list of texts. -/
def SR (w : World) (a : Option Addr) (n cap : Nat) (ss : List ByteArray) : Prop :=
  Hd a n cap ∧ ss.length = n ∧ n ≤ 8796093021952 ∧ (∀ s ∈ ss, s.size ≤ 140737488351232) ∧ Row w a n 1 (fun i => [.string (ss.getD i default)])
theorem SR.later {w w' : World} {a n c ss} (h : SR w a n c ss) (b : Below w.heap.size w w') : SR w' a n c ss := ⟨h.1, h.2.1, h.2.2.1, h.2.2.2.1, h.2.2.2.2.later b⟩
/-- An expression's five cells. -/
inductive EV (w : World) : Ex → List Value → Prop
  | mk {op num : Int} {name : ByteArray} {ds : List D3} {kids : List Ex} {da ka : Option Addr} {dc kc : Nat} (V : Nat → List Value)
    (wop : i64 op) (wnum : i64 num) (hname : name.size ≤ 140737488351232) (hd : DR w da ds.length dc ds)
    (hk : Hd ka kids.length kc) (hn : kids.length ≤ 8796093021952) (hr : Row w ka kids.length 5 V) (hkids : ∀ i, i < kids.length → EV w (kids.getD i default) (V i)) :
    EV w (.mk op num name ds kids) [.int .i64 op, .int .i64 num, .string name, .slice da ds.length dc, .slice ka kids.length kc]
theorem EV.later {w w' : World} {e vs} (h : EV w e vs) (b : Below w.heap.size w w') : EV w' e vs := by
  induction h with
  | mk V wop wnum hname hd hk hn hr hkids ih => exact .mk V wop wnum hname (hd.later b) hk hn (hr.later b) ih
/-- A list of expressions. -/
def ER (w : World) (a : Option Addr) (n cap : Nat) (es : List Ex) : Prop :=
  Hd a n cap ∧ es.length = n ∧ n ≤ 8796093021952 ∧ ∃ V : Nat → List Value, Row w a n 5 V ∧ ∀ i, i < n → EV w (es.getD i default) (V i)
theorem ER.later {w w' : World} {a n c es} (h : ER w a n c es) (b : Below w.heap.size w w') : ER w' a n c es := by
  obtain ⟨h1, h2, h3, V, h4, h5⟩ := h
  exact ⟨h1, h2, h3, V, h4.later b, fun i hi => (h5 i hi).later b⟩
end Go.Proofs.YtkjmkhmjaknfhaaGreatDoor

namespace Go.Proofs.YtkjmkhmjaknfhaaGreatDoor
open Go.ChangeShapes Go.WideShapes Go.ChangeAt Go.RowKit Go.Deep
set_option linter.unusedVariables false
set_option linter.unusedSimpArgs false

theorem taddr_of {w : World} {x : Addr} {v : Value} (h : w.cell? x = some v) : ∃ b o, x = ⟨b, o, none⟩ ∧ b < w.heap.size := by
  obtain ⟨b, o, s⟩ := x
  have hs : s = none := World.cell?_spot h
  subst hs
  refine ⟨b, o, rfl, ?_⟩
  by_cases hlt : b < w.heap.size
  · exact hlt
  · exfalso
    have hn : w.heap[b]? = none := by simp; omega
    simp [World.cell?, hn] at h
section
variable {H : Type} {enc : TypeId × Value → H} {P : Program} {W : World} {base : Nat} {sp : Nat → Bool} {held : Bool}

end
end Go.Proofs.YtkjmkhmjaknfhaaGreatDoor

/-
  VARINTS: plain facts on lists of bytes (as integers).
-/
namespace Go.Proofs.YtkjmkhmjaknfhaaGreatDoor
set_option linter.unusedVariables false
set_option linter.unusedSimpArgs false

/-- The varint of a number, as bytes. -/
def vl (x : Nat) : List Int := if h : x < 128 then [(x : Int)] else ((x % 128 + 128 : Nat) : Int) :: vl (x / 128)
termination_by x
decreasing_by omega
end Go.Proofs.YtkjmkhmjaknfhaaGreatDoor

namespace Go.Proofs.YtkjmkhmjaknfhaaGreatDoor
set_option linter.unusedVariables false
set_option linter.unusedSimpArgs false

def nmL : List ByteArray := [⟨#[101, 110, 100]⟩, ⟨#[99, 111, 110, 115, 116]⟩, ⟨#[98, 111, 111, 108]⟩, ⟨#[111, 98, 115]⟩, ⟨#[108, 111, 97, 100]⟩, ⟨#[115, 116, 111, 114, 101]⟩, ⟨#[107, 101, 101, 112]⟩, ⟨#[103, 101, 116]⟩, ⟨#[100, 114, 111, 112]⟩, ⟨#[97, 100, 100]⟩, ⟨#[115, 117, 98]⟩, ⟨#[109, 117, 108]⟩, ⟨#[110, 101, 103]⟩, ⟨#[100, 105, 118]⟩, ⟨#[109, 111, 100]⟩, ⟨#[97, 98, 115]⟩, ⟨#[109, 105, 110]⟩, ⟨#[109, 97, 120]⟩, ⟨#[114, 97, 116, 105, 111]⟩, ⟨#[108, 116]⟩, ⟨#[108, 101]⟩, ⟨#[103, 116]⟩, ⟨#[103, 101]⟩, ⟨#[101, 113]⟩, ⟨#[110, 101]⟩, ⟨#[110, 111, 116]⟩, ⟨#[106, 117, 109, 112]⟩, ⟨#[122, 101, 114, 111]⟩, ⟨#[102, 108, 111, 119]⟩]
def onL : List Nat := [0, 1, 1, 2, 1, 1, 1, 1, 0, 0, 0, 0, 0, 0, 0, 0, 0, 0, 1, 0, 0, 0, 0, 0, 0, 0, 1, 1, 1]
def tkL : List Nat := [0, 0, 0, 0, 0, 1, 1, 0, 1, 2, 2, 2, 1, 2, 2, 1, 2, 2, 3, 2, 2, 2, 2, 2, 2, 1, 0, 1, 1]
def ptL : List Nat := [0, 1, 1, 1, 1, 0, 1, 1, 0, 1, 1, 1, 1, 1, 1, 1, 1, 1, 1, 1, 1, 1, 1, 1, 1, 1, 0, 0, 0]
def baL : List Nat := [0, 16383, 1, 63, 32767, 32767, 16383, 16383, 0, 0, 0, 0, 0, 0, 0, 0, 0, 0, 4, 0, 0, 0, 0, 0, 0, 0, 262143, 262143, 4095]
def bbL : List Nat := [0, 0, 0, 3660, 0, 0, 0, 0, 0, 0, 0, 0, 0, 0, 0, 0, 0, 0, 0, 0, 0, 0, 0, 0, 0, 0, 0, 0, 0]
def nmA (k : Nat) : ByteArray := nmL.getD k ⟨#[]⟩
def onA (k : Nat) : Nat := onL.getD k 0
def tkA (k : Nat) : Nat := tkL.getD k 0
def ptA (k : Nat) : Nat := ptL.getD k 0
def baA (k : Nat) : Nat := baL.getD k 0
def bbA (k : Nat) : Nat := bbL.getD k 0
theorem all29 {p : Nat → Prop} [DecidablePred p] (h : (List.range 29).all (fun k => decide (p k)) = true) : ∀ k, k < 29 → p k := by
  intro k hk
  have := List.all_eq_true.1 h k (List.mem_range.2 hk)
  exact of_decide_eq_true this
theorem tab_facts : ∀ k, k < 29 → onA k ≤ 2 ∧ baA k ≤ 262143 ∧ bbA k ≤ 3660 ∧ tkA k ≤ 3 ∧ ptA k ≤ 1 ∧ (onA k = 0 → baA k = 0) ∧ (onA k ≤ 1 → bbA k = 0) := all29 (by decide)
theorem nm_ne : ∀ k, k < 29 → ∀ j, j < 29 → k ≠ j → (nmA k).data.toList ≠ (nmA j).data.toList := fun k hk => all29 (p := fun j => k ≠ j → (nmA k).data.toList ≠ (nmA j).data.toList) (all29 (p := fun k => (List.range 29).all (fun j => decide (k ≠ j → (nmA k).data.toList ≠ (nmA j).data.toList)) = true) (by decide) k hk)
/-- An instruction. -/
structure In where
  o : Int
  a : Int
  b : Int
  deriving Inhabited, DecidableEq
def In.okP (i : In) : Prop := 0 ≤ i.o ∧ i.o < 29 ∧ 0 ≤ i.a ∧ i.a ≤ baA i.o.toNat ∧ 0 ≤ i.b ∧ i.b ≤ bbA i.o.toNat
instance (i : In) : Decidable i.okP := by unfold In.okP; exact inferInstance
/-- Its bytes. -/
def In.enc (i : In) : List Int := i.o :: ((if 1 ≤ onA i.o.toNat then vl i.a.toNat else []) ++ (if 2 ≤ onA i.o.toNat then vl i.b.toNat else []))
end Go.Proofs.YtkjmkhmjaknfhaaGreatDoor

namespace Go.Proofs.YtkjmkhmjaknfhaaGreatDoor
open Go.ChangeShapes Go.WideShapes Go.ChangeAt Go.RowKit Go.Deep
set_option linter.unusedVariables false
set_option linter.unusedSimpArgs false

/-- A day's segment: its day, its code; where that lies. -/
structure Sg where
  day : Int
  ca : Option Addr
  cc : Nat
  code : List In
  deriving Inhabited
def Sg.cs (s : Sg) : List Value := [.int .i64 s.day, .slice s.ca s.code.length s.cc]
/-- A program: its lists and numbers; where the lists lie. -/
structure Pg where
  na : Option Addr
  nc : Nat
  names : List ByteArray
  ua : Option Addr
  uc : Nat
  curs : List ByteArray
  pa : Option Addr
  pc : Nat
  pool : List Int
  hor : Int
  cells : Int
  slots : Int
  stack : Int
  da : Option Addr
  dc : Nat
  days : List Sg
  deriving Inhabited
def Pg.cs (p : Pg) : List Value := [.slice p.na p.names.length p.nc, .slice p.ua p.curs.length p.uc, .slice p.pa p.pool.length p.pc, .int .i64 p.hor, .int .i64 p.cells, .int .i64 p.slots, .int .i64 p.stack, .slice p.da p.days.length p.dc]
def icell (i : In) : List Value := [.int .i64 i.o, .int .i64 i.a, .int .i64 i.b]
/-- A list of instructions, with its bounds. -/
def IR (w : World) (a : Option Addr) (n cap : Nat) (l : List In) : Prop :=
  Hd a n cap ∧ l.length = n ∧ n ≤ 5864062014634 ∧ (∀ i ∈ l, i64 i.o ∧ i64 i.a ∧ i64 i.b) ∧ Row w a n 3 (fun i => icell (l.getD i default))
theorem IR.later {w w' : World} {a n c l} (h : IR w a n c l) (b : Below w.heap.size w w') : IR w' a n c l := ⟨h.1, h.2.1, h.2.2.1, h.2.2.2.1, h.2.2.2.2.later b⟩
/-- A list of numbers, with its bounds. -/
def NR (w : World) (a : Option Addr) (n cap : Nat) (l : List Int) : Prop :=
  Hd a n cap ∧ l.length = n ∧ n ≤ 17592186043904 ∧ (∀ i ∈ l, i64 i) ∧ Row w a n 1 (fun i => [.int .i64 (l.getD i 0)])
theorem NR.later {w w' : World} {a n c l} (h : NR w a n c l) (b : Below w.heap.size w w') : NR w' a n c l := ⟨h.1, h.2.1, h.2.2.1, h.2.2.2.1, h.2.2.2.2.later b⟩
def GV (w : World) (s : Sg) : Prop := i64 s.day ∧ IR w s.ca s.code.length s.cc s.code
def GL (w : World) (a : Option Addr) (n cap : Nat) (l : List Sg) : Prop :=
  Hd a n cap ∧ l.length = n ∧ n ≤ 4398046510976 ∧ (∀ s ∈ l, GV w s) ∧ Row w a n 2 (fun i => (l.getD i default).cs)
theorem GV.later {w w' : World} {s : Sg} (h : GV w s) (b : Below w.heap.size w w') : GV w' s := ⟨h.1, h.2.later b⟩
theorem GL.later {w w' : World} {a n c l} (h : GL w a n c l) (b : Below w.heap.size w w') : GL w' a n c l := ⟨h.1, h.2.1, h.2.2.1, fun s hs => (h.2.2.2.1 s hs).later b, h.2.2.2.2.later b⟩
structure PV (w : World) (p : Pg) : Prop where
  names : SR w p.na p.names.length p.nc p.names
  curs : SR w p.ua p.curs.length p.uc p.curs
  pool : NR w p.pa p.pool.length p.pc p.pool
  hor : i64 p.hor
  cells : i64 p.cells
  slots : i64 p.slots
  stack : i64 p.stack
  days : GL w p.da p.days.length p.dc p.days
theorem PV.later {w w' : World} {p : Pg} (h : PV w p) (b : Below w.heap.size w w') : PV w' p := ⟨h.names.later b, h.curs.later b, h.pool.later b, h.hor, h.cells, h.slots, h.stack, h.days.later b⟩
section
variable {H : Type} {enc : TypeId × Value → H} {P : Program} {W : World} {base : Nat} {sp : Nat → Bool} {held : Bool}
end
end Go.Proofs.YtkjmkhmjaknfhaaGreatDoor

namespace Go.Proofs.YtkjmkhmjaknfhaaGreatDoor
open Go.RowKit
set_option linter.unusedVariables false
set_option linter.unusedSimpArgs false

def mdL : List ByteArray := [⟨#[100, 111, 119, 110]⟩, ⟨#[102, 108, 111, 111, 114]⟩, ⟨#[99, 101, 105, 108]⟩, ⟨#[104, 97, 108, 102, 95, 117, 112]⟩, ⟨#[104, 97, 108, 102, 95, 101, 118, 101, 110]⟩]
def mdA (k : Nat) : ByteArray := mdL.getD k ⟨#[]⟩
end Go.Proofs.YtkjmkhmjaknfhaaGreatDoor

namespace Go.Proofs.YtkjmkhmjaknfhaaGreatDoor
open Go.RowKit

/-- A fact, kept out of the walk's sight. -/
theorem veil {p : Prop} (h : p) : Hid p := h
theorem unveil {p : Prop} (h : Hid p) : p := h

/-- A number of 64 bits. -/
def inR (n : Int) : Prop := -9223372036854775808 ≤ n ∧ n ≤ 9223372036854775807
end Go.Proofs.YtkjmkhmjaknfhaaGreatDoor

namespace Go.Proofs.YtkjmkhmjaknfhaaGreatDoor
open Go.RowKit

/-- A number without its sign. -/
def absI (a : Int) : Int := if a < 0 then -a else a
theorem absI_neg {a : Int} (h : a < 0) : absI a = -a := by unfold absI; rw [if_pos h]
theorem absI_pos {a : Int} (h : ¬ a < 0) : absI a = a := by unfold absI; rw [if_neg h]
theorem absI_bd (a : Int) (h : inR a) : 0 ≤ absI a ∧ absI a ≤ 9223372036854775808 := by
  unfold inR at h; unfold absI; split <;> omega
theorem absI_nonneg (a : Int) : 0 ≤ absI a := by unfold absI; split <;> omega
end Go.Proofs.YtkjmkhmjaknfhaaGreatDoor

namespace Go.Proofs.YtkjmkhmjaknfhaaGreatDoor
open Go.RowKit

end Go.Proofs.YtkjmkhmjaknfhaaGreatDoor

namespace Go.Proofs.YtkjmkhmjaknfhaaGreatDoor
open Go.RowKit

theorem ret_i {k : IntKind} {a b : Int} (h : a = b) : Ending.returned (.int k a) = .returned (.int k b) := by rw [h]
theorem neg_u64 (a : Int) (h : a < 0) (h1 : -9223372036854775808 ≤ a) : IntKind.u64.wrap (-IntKind.u64.wrap a) = -a := by
  rw [IntKind.wrap_u64, IntKind.wrap_u64]; omega
theorem sizeOf_any (a : Int) (ha : inR a) (w : World) :
    Calls Tryz.prog 129 #[.int .i64 a] w fun e w' => e = .returned (.int .u64 (absI a)) ∧ w' = w := by
  unfold inR at ha
  obtain ⟨h1, h2⟩ := ha
  by_cases h : a < 0
  · rw [absI_neg h]
    go_enter Tryz.func129, Tryz.ntmps129
    go_wp2
    go_ret
    exact ⟨ret_i (neg_u64 a h h1), rfl⟩
  · rw [absI_pos h]
    go_enter Tryz.func129, Tryz.ntmps129
    go_wp2
    go_ret
    exact ⟨rfl, rfl⟩

end Go.Proofs.YtkjmkhmjaknfhaaGreatDoor
