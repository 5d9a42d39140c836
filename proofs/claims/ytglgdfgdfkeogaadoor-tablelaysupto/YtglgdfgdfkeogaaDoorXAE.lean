import Derived.Ground.Names2Prog
import Derived.Shelf.Slices.Clone
import Derived.Test.YtglgdfgdfkeogaaDoorProg
import Derived.Test.YtglgdfgdfkeogaaDoorRows
import Derived.WalkKit
import Derived.WalkSpells
import Derived.Below
import Derived.BigCall
import Derived.BigGuard
import Derived.Lib.ItoaMem
import Derived.Lib.AppendIntMem
import Derived.Test.YtglgdfgdfkeogaaDoorXAD
import Derived.Deep.RegionHeld3
import Derived.Test.YtglgdfgdfkeogaaDoorXAC
import Derived.Lib.AppendStr
import Derived.Lib.OthersKept
import Derived.Lib.ItoaLen
import Derived.Laws.IdiomStrings
import Derived.Laws.AppendOwn
import Derived.Laws.OwnMore
import Derived.Lib.SlBytesConst
import Derived.Lib.SmallJoins
import Derived.Lib.AtoiAll
import Derived.Test.YtglgdfgdfkeogaaDoorXAB
import Derived.Lib.BufferWrite
import Derived.Lib.UnsafeStr
import Derived.Laws.CopyRow
namespace Go.Proofs
open Go.Shelf
def Tryd.laysNm216_ren : Go.Shelf.Ren := ⟨fun | 16 => 39 | n => n, fun | 24 => 22 | 9 => 9 | 4 => 4 | n => n, fun | n => n⟩
theorem Tryd.laysNm216 : Go.Proofs.Lays2.n16 Tryd.prog Tryd.laysNm216_ren := {
  mixed := by kernel_rfl
  f16 := Tryd.func39.trans (congrArg some (by kernel_rfl))
  t4 := Tryd.underlying4
  a4 := Tryd.isAgg4
  z4 := Tryd.sizeOf4
  v4 := Tryd.zeroValue4
  t9 := Tryd.underlying9
  a9 := Tryd.isAgg9
  z9 := Tryd.sizeOf9
  v9 := Tryd.zeroValue9
  t24 := Tryd.underlying22
  a24 := Tryd.isAgg22
  z24 := Tryd.sizeOf22
  v24 := Tryd.zeroValue22
  i9 := by kernel_rfl }
open Go.RowKit Go.Lib in
theorem Tryd.slices_Clone_string (b off n c : Nat) (zs : List ByteArray) (w : World) (hz : n ≤ zs.length) (hbig : n * 16 ≤ 140737488355328) (hc : ∀ j, j < zs.length → w.cell? ⟨b, off + j, none⟩ = some (.string (zs.getD j ByteArray.empty))) :
    Calls Tryd.prog 39 #[.slice (some ⟨b, off, none⟩) n c] w fun e w' => ∃ v', e = .returned v' ∧ w'.ownsRow w.heap.size 9 1 v' n ((zs.take n).map (Value.string)) ∧ v' ≠ .slice none 0 0 ∧ Below w.heap.size w w' := Any.slices_Clone_string Tryd.laysNm216 b off n c zs w hz hbig hc
open Go.RowKit Go.Lib in
theorem Tryd.slices_Clone_string_nil (n c : Nat) (w : World) :
    Calls Tryd.prog 39 #[.slice none n c] w fun e w' => e = .returned (.slice none 0 0) ∧ w' = w := Any.slices_Clone_string_nil Tryd.laysNm216 n c w
open Go.RowKit Go.Lib in
theorem Tryd.slices_Clone_string_zero (a : Addr) (c : Nat) (w : World) :
    Calls Tryd.prog 39 #[.slice (some a) 0 c] w fun e w' => ∃ v', e = .returned v' ∧ w'.ownsRow w.heap.size 9 1 v' 0 [] ∧ v' ≠ .slice none 0 0 ∧ Below w.heap.size w w' := Any.slices_Clone_string_zero Tryd.laysNm216 a c w
end Go.Proofs

namespace Go.Proofs.YtglgdfgdfkeogaaDoor
open Go.RowKit
open Go.Sort
set_option linter.unusedVariables false

end Go.Proofs.YtglgdfgdfkeogaaDoor

namespace Go.Proofs.YtglgdfgdfkeogaaDoor
open Go.RowKit
set_option linter.unusedVariables false

/-- At least one digit ahead of the decimals. -/
def padTo (p : Nat) (ds : List UInt8) : List UInt8 := List.replicate (p + 1 - ds.length) 48 ++ ds
/-- The full stop ahead of the last p digits. -/
def pointed (p : Nat) (ls : List UInt8) : List UInt8 := if p = 0 then ls else ls.take (ls.length - p) ++ 46 :: ls.drop (ls.length - p)
/-- The text of a number with the digits ds. -/
def decS (neg : Bool) (p : Nat) (ds : List UInt8) : List UInt8 := if neg then 45 :: pointed p (padTo p ds) else pointed p (padTo p ds)

end Go.Proofs.YtglgdfgdfkeogaaDoor

namespace Go.Proofs.YtglgdfgdfkeogaaDoor
open Go.RowKit
set_option linter.unusedVariables false

end Go.Proofs.YtglgdfgdfkeogaaDoor

namespace Go.Proofs.YtglgdfgdfkeogaaDoor
open Go.RowKit
set_option linter.unusedVariables false

end Go.Proofs.YtglgdfgdfkeogaaDoor

namespace Go.Proofs.YtglgdfgdfkeogaaDoor
open Go.RowKit
set_option linter.unusedVariables false
set_option linter.unusedSimpArgs false

theorem valid_out {ss : List ByteArray} {rs : List (List Cl)} (h : validE ss rs = 0) : ss.length ≤ 64 ∧ rs.length ≤ 4096 ∧ (∀ s ∈ ss, s.size ≤ 31) ∧ ∀ r ∈ rs, r.length = ss.length := by
  unfold validE at h
  split at h
  · omega
  · rename_i h1
    split at h
    · omega
    · rename_i h2
      split at h
      · omega
      · rename_i h3
        refine ⟨by omega, by omega, fun s hs => ?_, fun r hr => ?_⟩
        · simp only [Bool.or_eq_true, Bool.not_eq_true'] at h3
          have : ss.all nameB = true := by
            cases q : ss.all nameB with
            | true => rfl
            | false => exact absurd (.inl q) h3
          have := List.all_eq_true.1 this s hs
          unfold nameB at this
          simp only [Bool.and_eq_true, decide_eq_true_eq] at this
          exact this.1.2
        · refine Classical.byContradiction fun hc => h1 ?_
          rw [List.any_eq_true]; exact ⟨r, hr, decide_eq_true hc⟩
end Go.Proofs.YtglgdfgdfkeogaaDoor

namespace Go.Proofs.YtglgdfgdfkeogaaDoor
open Go.RowKit
set_option linter.unusedVariables false
set_option linter.unusedSimpArgs false

end Go.Proofs.YtglgdfgdfkeogaaDoor

namespace Go.Proofs.YtglgdfgdfkeogaaDoor
open Go.RowKit
set_option linter.unusedVariables false
set_option linter.unusedSimpArgs false

/-- The byte at a place; -1 at the end. -/
def bt (s : ByteArray) (i : Nat) : Int := if h : i < s.size then (s[i].toNat : Int) else -1
def blB (c : Int) : Bool := c == 32 || c == 9 || c == 13
def wdB (c : Int) : Bool := decide (0 ≤ c) && !(blB c) && c != 35 && c != 10
/-- At most the block g has turned. -/
def Gr (g : Nat) (w w' : World) : Prop := w.grownBy w' (some g)
theorem Gr.refl (g : Nat) (w : World) : Gr g w w := ⟨rfl, rfl, rfl, Nat.le_refl _, fun _ _ _ => rfl⟩
theorem Gr.trans {g : Nat} {a b c : World} (h : Gr g a b) (k : Gr g b c) : Gr g a c :=
  ⟨k.os.trans h.os, k.tape.trans h.tape, k.output.trans h.output, Nat.le_trans h.size k.size, fun i hi hn => (k.block i (Nat.lt_of_lt_of_le hi h.size) hn).trans (h.block i hi hn)⟩
theorem Gr.drewN {g : Nat} {a b : World} (h : Gr g a b) (n : Nat) : Gr g a (b.drewN n) := ⟨h.os, h.tape, h.output, h.size, h.block⟩
theorem Gr.set {g : Nat} {a b : World} (h : Gr g a b) (o : Nat) (v : Value) : Gr g a (b.setCell ⟨g, o, none⟩ v) := by
  refine h.trans ⟨rfl, rfl, rfl, by simp, fun i hi hn => ?_⟩
  have hp : ¬ g = i := fun e => hn (by rw [e])
  simp [World.setCell, Array.getElem?_modify, hp]
end Go.Proofs.YtglgdfgdfkeogaaDoor

namespace Go.Proofs.YtglgdfgdfkeogaaDoor
open Go.RowKit
set_option linter.unusedVariables false
set_option linter.unusedSimpArgs false

end Go.Proofs.YtglgdfgdfkeogaaDoor

namespace Go.Proofs.YtglgdfgdfkeogaaDoor
open Go.RowKit
set_option linter.unusedVariables false

/-- Without the byte ahead of the decimals. -/
def wst (p : Nat) (l : List UInt8) : List UInt8 := if p = 0 ∨ l.length < p + 1 then l else l.take (l.length - p - 1) ++ l.drop (l.length - p)
/-- A number's text. -/
def dtx (v : Int) (p : Nat) : List UInt8 := decS (decide (v < 0)) p (Lib.decDigits (absI v).toNat)
/-- What Parse reads. -/
def prs (p : Nat) (l : List UInt8) : Option Int := match Lib.atoiAll (wst p l) with | .ok v => if dtx v p = l then some v else none | _ => none
end Go.Proofs.YtglgdfgdfkeogaaDoor

namespace Go.Proofs.YtglgdfgdfkeogaaDoor
open Go.RowKit
set_option linter.unusedVariables false
set_option linter.unusedSimpArgs false

/-- The first place from i on where p no longer holds. -/
def fnd (p : Int → Bool) (s : ByteArray) (i : Nat) : Nat :=
  if h : i < s.size ∧ p (bt s i) = true then fnd p s (i + 1) else i
termination_by s.size - i
decreasing_by omega
/-- Words: where one begins and ends. -/
def nlB (c : Int) : Bool := c != 10
def wPl (s : ByteArray) (i : Nat) : Nat := if bt s (fnd blB s i) = 35 then fnd nlB s (fnd blB s i) else fnd blB s i
def wEn (s : ByteArray) (i : Nat) : Nat := fnd wdB s (wPl s i)
def wrd (s : ByteArray) (i : Nat) : ByteArray := s.extract (wPl s i) (wEn s i)
/-- A day's word. -/
def dayF : Nat → List UInt8 → Option Nat
  | d, [] => some d
  | d, c :: l => if dgB (c.toNat : Int) = true then dayF (min (10 * d + (c.toNat - 48)) 4096) l else none
def dayP (u : ByteArray) : Option Nat := if u.data.toList.head? = some 48 ∧ 1 < u.size then none else dayF 0 u.data.toList
/-- A cell's word. -/
def cellV (u : ByteArray) : Option Cl := if u.data.toList = [45] then some ⟨false, 0⟩ else (prs 0 u.data.toList).map fun v => ⟨true, v⟩

def hasN (ns : List ByteArray) (c : ByteArray) : Bool := ns.any fun n => decide (n = c)
/-- The head's names: the place of the word that was read last, where it ends, the error, the names. -/
def headP (s : ByteArray) (i : Nat) (ns : List ByteArray) : Nat × Nat × Int × List ByteArray :=
  if wEn s i = wPl s i then (wPl s i, wEn s i, 0, ns) else
  if ns.length = 64 then (wPl s i, wEn s i, 6, ns) else
  if hasN ns (wrd s i) = true ∨ nameB (wrd s i) = false then (wPl s i, wEn s i, 52, ns) else
  if h : i < wEn s i ∧ wEn s i ≤ s.size then headP s (wEn s i) (ns ++ [wrd s i]) else default
termination_by s.size - i
decreasing_by omega
/-- A row's cells. -/
def cellsP (s : ByteArray) : Nat → Nat → List Cl → Nat × Nat × Int × List Cl
  | 0, i, cs => (wPl s i, wEn s i, if wEn s i = wPl s i then 0 else 51, cs)
  | n + 1, i, cs => match cellV (wrd s i) with
    | none => (wPl s i, wEn s i, 51, cs)
    | some c => cellsP s n (wEn s i) (cs ++ [c])
/-- What Parse answers. -/
structure PR where
  pl : Nat
  e : Int
  ns : List ByteArray
  rs : List (List Cl)
  deriving Inhabited
inductive Stp where
  | fin (r : PR)
  | on (i : Nat) (st : Option (List ByteArray)) (rs : List (List Cl))
def padR (k m : Nat) : List (List Cl) := List.replicate k (List.replicate m ⟨false, 0⟩)
def rowP (s : ByteArray) (ns : List ByteArray) (rs : List (List Cl)) (i : Nat) : Stp :=
  match dayP (wrd s i) with
  | none => .fin ⟨wPl s i, 51, [], []⟩
  | some d =>
    if d < rs.length then .fin ⟨wPl s i, 51, [], []⟩ else if 4096 ≤ d then .fin ⟨wPl s i, 6, [], []⟩ else
    if (cellsP s ns.length (wEn s i) []).2.2.1 = 0 then .on (cellsP s ns.length (wEn s i) []).2.1 (some ns) (rs ++ padR (d - rs.length) ns.length ++ [(cellsP s ns.length (wEn s i) []).2.2.2])
    else .fin ⟨(cellsP s ns.length (wEn s i) []).1, (cellsP s ns.length (wEn s i) []).2.2.1, [], []⟩
def wDay : ByteArray := ⟨#[100, 97, 121]⟩
def stepP (s : ByteArray) (i : Nat) (st : Option (List ByteArray)) (rs : List (List Cl)) : Stp :=
  if wEn s i = wPl s i then
    if wEn s i = s.size then (match st with | none => .fin ⟨s.size, 51, [], []⟩ | some ns => .fin ⟨0, 0, ns, rs⟩)
    else .on (wEn s i + 1) st rs
  else match st with
    | none => if wrd s i = wDay then
        (if (headP s (wEn s i) []).2.2.1 = 0 then .on (headP s (wEn s i) []).2.1 (some (headP s (wEn s i) []).2.2.2) rs
         else .fin ⟨(headP s (wEn s i) []).1, (headP s (wEn s i) []).2.2.1, [], []⟩)
      else .fin ⟨wPl s i, 51, [], []⟩
    | some ns => rowP s ns rs i
def prP (s : ByteArray) (i : Nat) (st : Option (List ByteArray)) (rs : List (List Cl)) : PR :=
  match stepP s i st rs with
  | .fin r => r
  | .on i' st' rs' => if h : i < i' ∧ i' ≤ s.size then prP s i' st' rs' else default
termination_by s.size - i
decreasing_by omega
end Go.Proofs.YtglgdfgdfkeogaaDoor

namespace Go.Proofs.YtglgdfgdfkeogaaDoor
open Go.RowKit
set_option linter.unusedVariables false
set_option linter.unusedSimpArgs false

/-- What is read is a table. -/
structure Gd (ns : List ByteArray) (rs : List (List Cl)) : Prop where
  n64 : ns.length ≤ 64
  nm : ∀ n ∈ ns, nameB n = true
  nd : ns.Nodup
  rw : ∀ r ∈ rs, r.length = ns.length
  st : ∀ r ∈ rs, ∀ c ∈ r, stB c = false ∧ (Lit.int .i64 c.v).wf = true
  r4 : rs.length ≤ 4096
end Go.Proofs.YtglgdfgdfkeogaaDoor

namespace Go.Proofs.YtglgdfgdfkeogaaDoor
open Go.RowKit
set_option linter.unusedVariables false
set_option linter.unusedSimpArgs false

end Go.Proofs.YtglgdfgdfkeogaaDoor

namespace Go.Proofs.YtglgdfgdfkeogaaDoor
open Go.RowKit
set_option linter.unusedVariables false
set_option linter.unusedSimpArgs false

end Go.Proofs.YtglgdfgdfkeogaaDoor

namespace Go.Proofs.YtglgdfgdfkeogaaDoor
open Go.RowKit
set_option linter.unusedVariables false
set_option linter.unusedSimpArgs false

theorem setRow_new (w : World) (cs ds : Array Value) (e : TypeId) : (w.alloc (.cells cs e)).setRow w.heap.size ds = w.alloc (.cells ds e) := by
  have hm : ∀ (a : Array Obj) (x : Obj) (f : Obj → Obj), (a.push x).modify a.size f = a.push (f x) := by
    intro a x f
    apply Array.ext
    · simp
    · intro i h1 h2
      simp only [Array.getElem_modify, Array.getElem_push]
      by_cases h : a.size = i
      · subst h; simp
      · have hi : i < a.size := by simp at h1; omega
        simp [h, hi]
  show ({ w.alloc (.cells cs e) with heap := (w.heap.push (.cells cs e)).modify w.heap.size _ } : World) = _
  rw [hm]
  rfl
end Go.Proofs.YtglgdfgdfkeogaaDoor

namespace Go.Proofs.YtglgdfgdfkeogaaDoor
open Go.RowKit
set_option linter.unusedVariables false
set_option linter.unusedSimpArgs false

theorem box_all2 {w : World} {x : Nat} {u v : Value} {t : TypeId} (h : w.heap[x]? = some (.cells #[u, v] t)) : w.cell? ⟨x, 0, none⟩ = some u ∧ w.cell? ⟨x, 1, none⟩ = some v ∧ w.frozen? ⟨x, 0, none⟩ = false ∧ w.frozen? ⟨x, 1, none⟩ = false := by
  refine ⟨?_, ?_, ?_, ?_⟩ <;> simp [World.cell?, World.frozen?, h]
theorem box_set2 {w : World} {x : Nat} {a b u v : Value} {t : TypeId} (h : w.heap[x]? = some (.cells #[a, b] t)) : ((w.setCell ⟨x, 0, none⟩ u).setCell ⟨x, 1, none⟩ v).heap[x]? = some (.cells #[u, v] t) :=
  Joins.block_setCell (Joins.block_setCell h _) _
end Go.Proofs.YtglgdfgdfkeogaaDoor
