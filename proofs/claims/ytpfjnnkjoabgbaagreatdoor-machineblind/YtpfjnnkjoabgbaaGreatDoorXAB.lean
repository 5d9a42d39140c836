import Derived.Test.YtpfjnnkjoabgbaaGreatDoorXAA
import Derived.Test.YtpfjnnkjoabgbaaGreatDoorRows
import Derived.WalkKit
import Derived.WalkSpells
import Derived.BigCall
import Derived.BigGuard
import Derived.BigQuiet
import Derived.Deep.QuietTactic
import Derived.Lib.Hide
import Derived.Lib.Strings
import Derived.Deep.RegionHeld3
import Derived.Laws.AppendOwn
import Derived.Laws.AppendOwnNone
import Derived.Laws.OwnMore
import Derived.Laws.MakeOwn
import Derived.Maps.AppendAt
import Derived.Deep.AppendLies
import Derived.Deep.RegionLaw
import Derived.Deep.Cut
import Derived.Deep.CutRange
import Derived.Deep.DeepCutAuto
import Derived.OwnWalk
import Derived.Laws.Cover3
namespace Go.Proofs.YtpfjnnkjoabgbaaGreatDoor
set_option linter.unusedVariables false
set_option linter.unusedSimpArgs false

/-- A state: the sorts on the stack, the topmost first; the sort of what a slot keeps (0: nothing). -/
structure Vs where
  st : List Nat
  sl : Nat → Nat
def wtL : List (List Nat) := [[0, 0, 0], [0, 0, 0], [0, 0, 0], [0, 0, 0], [0, 0, 0], [1, 0, 0], [3, 0, 0], [0, 0, 0], [3, 0, 0],
  [1, 1, 0], [1, 1, 0], [1, 1, 0], [1, 0, 0], [1, 1, 0], [1, 1, 0], [1, 0, 0], [1, 1, 0], [1, 1, 0], [1, 1, 1],
  [1, 1, 0], [1, 1, 0], [1, 1, 0], [1, 1, 0], [1, 1, 0], [1, 1, 0], [2, 0, 0], [0, 0, 0], [2, 0, 0], [1, 0, 0]]
def wtA (k : Nat) : List Nat := wtL.getD k [0, 0, 0]
def psL : List Nat := [0, 1, 2, 1, 1, 0, 0, 0, 0, 1, 1, 1, 1, 1, 1, 1, 1, 1, 1, 2, 2, 2, 2, 2, 2, 2, 0, 0, 0]
def psA (k : Nat) : Nat := psL.getD k 0
theorem wt_facts : ∀ k, k < 29 → (wtA k).length = 3 ∧ (∀ x ∈ wtA k, x ≤ 3) ∧ psA k ≤ 2 := all29 (by decide)
/-- What was taken, the topmost last. -/
def vTak (n : Nat) (st : List Nat) : List Nat :=
  match n with
  | 0 => [0, 0, 0]
  | 1 => [st.getD 0 0, 0, 0]
  | 2 => [st.getD 1 0, st.getD 0 0, 0]
  | _ => [st.getD 2 0, st.getD 1 0, st.getD 0 0]
/-- Set a slot. -/
def vKeep (f : Nat → Nat) (a x : Nat) : Nat → Nat := fun y => if y = a then x else f y
/-- An instruction: what goes wrong (0: nothing), and the state behind it. -/
def vDo (day : Int) (s : Vs) (i : In) : Int × Vs :=
  let k := i.o.toNat
  if s.st.length < tkA k ∨ (k = 0 ∧ 0 < s.st.length) then (142, s)
  else if ¬ (wtA k = vTak (tkA k) s.st ∨ wtA k = [3, 0, 0]) then (143, s)
  else if k = 6 then (0, ⟨s.st.getD 0 0 :: s.st.drop 1, vKeep s.sl i.a.toNat (s.st.getD 0 0)⟩)
  else if k = 7 then (if s.sl i.a.toNat = 0 then (144, s) else (0, ⟨s.sl i.a.toNat :: s.st, s.sl⟩))
  else if k = 3 ∧ day < i.b then (145, s)
  else if psA k = 0 then (0, ⟨s.st.drop (tkA k), s.sl⟩) else (0, ⟨psA k :: s.st.drop (tkA k), s.sl⟩)
/-- What both sets have. -/
def vMeet (f g : Nat → Nat) : Nat → Nat := fun y => if f y = g y then f y else 0
/-- A state is handed to where one may be. -/
def vHand (t : Option Vs) (s : Vs) : Int × Option Vs :=
  match t with
  | none => (0, some s)
  | some t => if t.st.length ≠ s.st.length then (142, some t) else if t.st ≠ s.st then (143, some t) else (0, some ⟨t.st, vMeet t.sl s.sl⟩)
def vSet (l : Nat → Option Vs) (k : Nat) (v : Option Vs) : Nat → Option Vs := fun j => if j = k then v else l j
def isJ (i : In) : Prop := i.o = 26 ∨ i.o = 27
instance (i : In) : Decidable (isJ i) := by unfold isJ; exact inferInstance
/-- To the next one. -/
def vNx (i : In) (t : Option Vs) (s : Vs) : Int × Option Vs := if i.o = 26 ∨ i.o = 0 then (0, t) else vHand t s
/-- The state behind instruction k is handed on. -/
def vOn (n : Nat) (i : In) (k : Nat) (s : Vs) (l : Nat → Option Vs) : Int × (Nat → Option Vs) :=
  if isJ i ∧ n ≤ k + 1 + i.a.toNat then (141, l)
  else
    if (vNx i (l (k + 1)) s).1 ≠ 0 then ((vNx i (l (k + 1)) s).1, l)
    else if isJ i then
      ((vHand (vSet l (k + 1) (vNx i (l (k + 1)) s).2 (k + 1 + i.a.toNat)) s).1, vSet (vSet l (k + 1) (vNx i (l (k + 1)) s).2) (k + 1 + i.a.toNat) (vHand (vSet l (k + 1) (vNx i (l (k + 1)) s).2 (k + 1 + i.a.toNat)) s).2)
    else (0, vSet l (k + 1) (vNx i (l (k + 1)) s).2)
/-- An instruction is passed. -/
def vPass (day : Int) (n : Nat) (i : In) (k : Nat) (l : Nat → Option Vs) : Int × (Nat → Option Vs) :=
  match l k with
  | none => (146, l)
  | some s => if (vDo day s i).1 ≠ 0 then ((vDo day s i).1, l) else vOn n i k (vDo day s i).2 l
def vStart : Nat → Option Vs := fun j => if j = 0 then some ⟨[], fun _ => 0⟩ else none
/-- The first k instructions are passed: the error, its place, the states. -/
def vRun (day : Int) (code : List In) : Nat → Int × Nat × (Nat → Option Vs)
  | 0 => (0, 0, vStart)
  | k + 1 =>
    let r := vRun day code k
    if r.1 ≠ 0 then r else
      let q := vPass day code.length (code.getD k default) k r.2.2
      (q.1, k, q.2)
/-- What is known of all states: sorts are 1 or 2, slots lie below 16384. -/
def Vs.ok (s : Vs) : Prop := (∀ x ∈ s.st, x = 1 ∨ x = 2) ∧ (∀ k, s.sl k ≤ 2) ∧ ∀ k, 16384 ≤ k → s.sl k = 0
def vHt (l : Nat → Option Vs) (k : Nat) : Nat := match l k with | none => 0 | some s => s.st.length
/-- What code was found to need: fuel, stack, back, slots, cells. -/
structure Nds where
  stack : Int
  fuel : Int
  back : Int
  slots : Int
  cells : Int
def vSee (n : Nds) (i : In) (h : Nat) : Nds :=
  let m : Nds := { n with stack := max n.stack h, fuel := n.fuel + 1 }
  if i.o = 6 ∨ i.o = 7 then { m with slots := max m.slots (i.a + 1) }
  else if i.o = 4 ∨ i.o = 5 then { m with cells := max m.cells (i.a + 1) }
  else if i.o = 3 then { m with back := max m.back i.b }
  else m
/-- The needs of the first k instructions. -/
def vNeed (nd : Nds) (day : Int) (code : List In) : Nat → Nds
  | 0 => nd
  | k + 1 => vSee (vNeed nd day code k) (code.getD k default) (vHt (vRun day code (k + 1)).2.2 k)
end Go.Proofs.YtpfjnnkjoabgbaaGreatDoor

namespace Go.Proofs.YtpfjnnkjoabgbaaGreatDoor
set_option linter.unusedVariables false
set_option linter.unusedSimpArgs false
theorem vKeep_ok {f : Nat → Nat} {a x : Nat} (h : ∀ k, f k ≤ 2) (h2 : ∀ k, 16384 ≤ k → f k = 0) (ha : a < 16384) (hx : x ≤ 2) : (∀ k, vKeep f a x k ≤ 2) ∧ ∀ k, 16384 ≤ k → vKeep f a x k = 0 := by
  refine ⟨fun k => ?_, fun k hk => ?_⟩ <;> unfold vKeep <;> split
  · exact hx
  · exact h k
  · omega
  · exact h2 k hk
theorem getD_sort {st : List Nat} (h : ∀ x ∈ st, x = 1 ∨ x = 2) {n : Nat} (hn : n < st.length) : st.getD n 0 = 1 ∨ st.getD n 0 = 2 := by
  have : st.getD n 0 = st[n] := by simp [List.getD, hn]
  rw [this]
  exact h _ (List.getElem_mem hn)
theorem okP_a6 {i : In} (h : i.okP) (e : i.o.toNat = 6) : i.a.toNat < 16384 := by
  have := h.2.2.2.1
  rw [e] at this
  have q : baA 6 = 16383 := by decide
  have := h.2.2.1
  omega
theorem okP_a7 {i : In} (h : i.okP) (e : i.o.toNat = 7) : i.a.toNat < 16384 := by
  have := h.2.2.2.1
  rw [e] at this
  have q : baA 7 = 16383 := by decide
  have := h.2.2.1
  omega
theorem vDo_ok {day : Int} {s : Vs} {i : In} (hs : s.ok) (hi : i.okP) (h : (vDo day s i).1 = 0) : (vDo day s i).2.ok := by
  have dr : ∀ n, ∀ x ∈ s.st.drop n, x = 1 ∨ x = 2 := fun n x hx => hs.1 x (List.mem_of_mem_drop hx)
  have hp := (wt_facts i.o.toNat (by have := hi.1; have := hi.2.1; omega)).2.2
  unfold vDo at h ⊢
  simp only at h ⊢
  split at h
  · simp at h
  rename_i n1
  rw [if_neg n1]
  split at h
  · simp at h
  rename_i n2
  rw [if_neg n2]
  by_cases e6 : i.o.toNat = 6
  · rw [if_pos e6]
    have hl : 0 < s.st.length := by
      have t6 : tkA 6 = 1 := by decide
      rw [e6, t6] at n1
      omega
    have g := getD_sort hs.1 hl
    obtain ⟨k1, k2⟩ := vKeep_ok hs.2.1 hs.2.2 (okP_a6 hi e6) (x := s.st.getD 0 0) (by omega)
    exact ⟨fun x hx => by rcases List.mem_cons.1 hx with rfl | q; exact g; exact dr 1 x q, k1, k2⟩
  rw [if_neg e6] at h ⊢
  by_cases e7 : i.o.toNat = 7
  · rw [if_pos e7] at h ⊢
    split at h
    · simp at h
    rename_i z
    rw [if_neg z]
    have := hs.2.1 i.a.toNat
    exact ⟨fun x hx => by rcases List.mem_cons.1 hx with rfl | q; omega; exact hs.1 x q, hs.2.1, hs.2.2⟩
  rw [if_neg e7] at h ⊢
  split at h
  · simp at h
  rename_i n3
  rw [if_neg n3]
  split
  · exact ⟨dr _, hs.2.1, hs.2.2⟩
  · rename_i z
    exact ⟨fun x hx => by rcases List.mem_cons.1 hx with rfl | q; omega; exact dr _ x q, hs.2.1, hs.2.2⟩
theorem vHand_ok {t : Option Vs} {s : Vs} (ht : ∀ u, t = some u → u.ok) (hs : s.ok) : ∀ u, (vHand t s).2 = some u → u.ok := by
  intro u hu
  unfold vHand at hu
  cases t with
  | none => simp at hu; subst hu; exact hs
  | some t =>
    have ht := ht t rfl
    simp only at hu
    split at hu
    · simp at hu; subst hu; exact ht
    split at hu
    · simp at hu; subst hu; exact ht
    · simp at hu
      subst hu
      refine ⟨ht.1, fun k => ?_, fun k hk => ?_⟩ <;> simp only [vMeet] <;> split
      · exact ht.2.1 k
      · omega
      · exact ht.2.2 k hk
      · rfl
/-- All states are well formed. -/
def Aok (l : Nat → Option Vs) : Prop := ∀ j u, l j = some u → u.ok
theorem vSet_ok {l : Nat → Option Vs} {k : Nat} {v : Option Vs} (hl : Aok l) (hv : ∀ u, v = some u → u.ok) : Aok (vSet l k v) := by
  intro j u h
  unfold vSet at h
  split at h
  · exact hv u h
  · exact hl j u h
theorem vOn_ok {n k : Nat} {i : In} {s : Vs} {l : Nat → Option Vs} (hl : Aok l) (hs : s.ok) : Aok (vOn n i k s l).2 := by
  have h1 : ∀ u, (vNx i (l (k + 1)) s).2 = some u → u.ok := by
    intro u hu
    unfold vNx at hu
    split at hu
    · exact hl _ u hu
    · exact vHand_ok (fun u hu => hl _ u hu) hs u hu
  have l1 := vSet_ok (k := k + 1) hl h1
  unfold vOn
  generalize vNx i (l (k + 1)) s = h at *
  split
  · exact hl
  · split
    · exact hl
    · split
      · exact vSet_ok l1 (vHand_ok (fun u hu => l1 _ u hu) hs)
      · exact l1
theorem vPass_ok {day : Int} {n k : Nat} {i : In} {l : Nat → Option Vs} (hl : Aok l) (hi : i.okP) : Aok (vPass day n i k l).2 := by
  unfold vPass
  cases hk : l k with
  | none => exact hl
  | some s =>
    simp only
    split
    · exact hl
    · rename_i h
      exact vOn_ok hl (vDo_ok (hl k s hk) hi (by simpa using h))
theorem vStart_ok : Aok vStart := by
  intro j u h
  unfold vStart at h
  split at h
  · simp at h; subst h; exact ⟨by simp, by simp, by simp⟩
  · cases h
theorem vRun_ok {day : Int} {code : List In} : ∀ k, k ≤ code.length → (∀ i ∈ code, i.okP) → Aok (vRun day code k).2.2
  | 0, _, _ => vStart_ok
  | k + 1, hk, hi => by
    have ih := vRun_ok k (by omega) hi (day := day)
    simp only [vRun]
    split
    · exact ih
    · exact vPass_ok ih (by
        have hk' : k < code.length := by omega
        have : code.getD k default = code[k] := by simp [List.getD, hk']
        rw [this]
        exact hi _ (List.getElem_mem _))
/-- What has been passed stays. -/
theorem vOn_old {n k : Nat} {i : In} {s : Vs} {l : Nat → Option Vs} {j : Nat} (hj : j ≤ k) : (vOn n i k s l).2 j = l j := by
  unfold vOn
  split
  · rfl
  · split
    · rfl
    · split
      · simp only [vSet]
        rw [if_neg (by omega), if_neg (by omega)]
      · simp only [vSet]
        rw [if_neg (by omega)]
theorem vPass_old {day : Int} {n k : Nat} {i : In} {l : Nat → Option Vs} {j : Nat} (hj : j ≤ k) : (vPass day n i k l).2 j = l j := by
  unfold vPass
  cases hk : l k with
  | none => rfl
  | some s =>
    simp only
    split
    · rfl
    · exact vOn_old hj
theorem vRun_succ {day : Int} {code : List In} {k : Nat} (h : (vRun day code k).1 = 0) : vRun day code (k + 1) = ((vPass day code.length (code.getD k default) k (vRun day code k).2.2).1, k, (vPass day code.length (code.getD k default) k (vRun day code k).2.2).2) := by
  simp [vRun, h]
theorem vRun_stop {day : Int} {code : List In} {k : Nat} (h : (vRun day code k).1 ≠ 0) : ∀ m, k ≤ m → vRun day code m = vRun day code k
  | 0, hm => by rw [show k = 0 by omega]
  | m + 1, hm => by
    by_cases e : k = m + 1
    · rw [e]
    · have ih := vRun_stop h m (by omega)
      simp only [vRun]
      rw [ih, if_pos h]
theorem vRun_before {day : Int} {code : List In} {m : Nat} (h : (vRun day code m).1 = 0) {k : Nat} (hk : k ≤ m) : (vRun day code k).1 = 0 := by
  by_cases e : (vRun day code k).1 = 0
  · exact e
  · rw [vRun_stop e m hk] at h
    exact absurd h e
theorem vRun_old {day : Int} {code : List In} {k j : Nat} (hj : j < k) : ∀ m, k ≤ m → (vRun day code m).2.2 j = (vRun day code k).2.2 j
  | 0, hm => by rw [show k = 0 by omega]
  | m + 1, hm => by
    by_cases e : k = m + 1
    · rw [e]
    · have ih := vRun_old hj m (by omega) (day := day) (code := code)
      simp only [vRun]
      split
      · exact ih
      · simp only
        rw [vPass_old (by omega)]
        exact ih
end Go.Proofs.YtpfjnnkjoabgbaaGreatDoor

namespace Go.Proofs.YtpfjnnkjoabgbaaGreatDoor
open Go.RowKit
set_option linter.unusedVariables false
set_option linter.unusedSimpArgs false

theorem list_eqP {α : Type} {d : α} {xs ys : List α} (h : xs.length = ys.length) (e : ∀ i, i < xs.length → xs.getD i d = ys.getD i d) : xs = ys := by
  apply List.ext_getElem h
  intro i h1 h2
  have := e i h1
  simpa [List.getD, h1, h2] using this
theorem retBP {b c : Bool} (h : b = c) : Ending.returned (.bool b) = Ending.returned (.bool c) := by rw [h]
theorem toList_oneP {x y : ByteArray} (h : x.toList = y.toList) : x = y := by
  rw [Lib.toList_data, Lib.toList_data] at h
  obtain ⟨⟨x⟩⟩ := x; obtain ⟨⟨y⟩⟩ := y
  simp at h; rw [h]
theorem str_neP {x y : ByteArray} (h : x ≠ y) : (x.toList == y.toList) = false := by
  rw [beq_eq_false_iff_ne]
  exact fun e => h (toList_oneP e)
theorem Row.twoP {w : World} {a a' : Option Addr} {n k : Nat} {V V' : Nat → List Value} (h : Row w a n k V) (h' : Row w a' n k V') : 0 < n → ∃ x o y p, a = some ⟨x, o, none⟩ ∧ a' = some ⟨y, p, none⟩ ∧ ∀ i, i < n → ∀ j, j < k → w.cell? ⟨x, o + i * k + j, none⟩ = some ((V i).getD j default) ∧ w.cell? ⟨y, p + i * k + j, none⟩ = some ((V' i).getD j default) := by
  intro h0
  rcases h with h | ⟨x, o, e, _, hc⟩
  · omega
  rcases h' with h' | ⟨y, p, e', _, hc'⟩
  · omega
  exact ⟨x, o, y, p, e, e', fun i hi j hj => ⟨hc i hi j hj, hc' i hi j hj⟩⟩
end Go.Proofs.YtpfjnnkjoabgbaaGreatDoor

namespace Go.Proofs.YtpfjnnkjoabgbaaGreatDoor
open Go.RowKit
set_option linter.unusedVariables false
set_option linter.unusedSimpArgs false
theorem allocBP (W : World) (o : Obj) : Below W.heap.size W (W.alloc o) := (Below.refl _ _).alloc (Nat.le_refl _) _
theorem drewBP (W : World) (q : Nat) : Below W.heap.size W (W.drewN q) := ⟨rfl, rfl, rfl, Nat.le_refl _, fun _ _ => rfl⟩
theorem alloc2 (W : World) (o o' : Obj) : Below W.heap.size W ((W.alloc o).alloc o') := ((Below.refl _ _).alloc (Nat.le_refl _) _).alloc (by simp) _
theorem cell_keepA {W : World} {b o : Nat} {v : Value} (h : W.cell? ⟨b, o, none⟩ = some v) (ob : Obj) : (W.alloc ob).cell? ⟨b, o, none⟩ = some v := by
  obtain ⟨b', o', e, hb⟩ := taddr_of h
  injection e with e1 e2
  subst e1 e2
  rw [(allocBP W ob).cell (p := ⟨b, o, none⟩) hb]
  exact h
def Sg.key (s : Sg) : Int × List In := (s.day, s.code)
theorem keys_eq {l l' : List Sg} (h : l.length = l'.length) (e : ∀ i, i < l.length → (l.getD i default).key = (l'.getD i default).key) : l.map Sg.key = l'.map Sg.key := by
  apply List.ext_getElem (by simpa using h)
  intro i h1 h2
  have := e i (by simpa using h1)
  simp at h1 h2
  simpa [List.getD, h1, h2] using this
theorem keys_at {l l' : List Sg} (h : l.map Sg.key = l'.map Sg.key) (i : Nat) : (l.getD i default).key = (l'.getD i default).key := by
  have := congrArg (fun m => m[i]?) h
  simp only [List.getElem?_map] at this
  simp only [List.getD]
  cases h1 : l[i]? <;> cases h2 : l'[i]? <;> rw [h1, h2] at this <;> simp at this ⊢
  exact this
theorem sg_mem {l : List Sg} {i : Nat} (h : i < l.length) : l.getD i default ∈ l := by
  rw [List.getD_eq_getElem?_getD, List.getElem?_eq_getElem h, Option.getD_some]; exact List.getElem_mem h
end Go.Proofs.YtpfjnnkjoabgbaaGreatDoor

namespace Go.Proofs.YtpfjnnkjoabgbaaGreatDoor
open Go.RowKit
set_option linter.unusedVariables false
set_option linter.unusedSimpArgs false
/-- What a program says, without where it lies. -/
def Pg.key (p : Pg) : List ByteArray × List ByteArray × List Int × Int × Int × Int × Int × List (Int × List In) := (p.names, p.curs, p.pool, p.hor, p.cells, p.slots, p.stack, p.days.map Sg.key)
noncomputable instance (p q : Pg) : Decidable (p.key = q.key) := Classical.propDecidable _
theorem key_eq {p q : Pg} (e0 : p.names = q.names) (e1 : p.curs = q.curs) (e2 : p.pool = q.pool) (e3 : p.hor = q.hor) (e4 : p.cells = q.cells) (e5 : p.slots = q.slots) (e6 : p.stack = q.stack) (e7 : p.days.map Sg.key = q.days.map Sg.key) : p.key = q.key := by
  unfold Pg.key; rw [e0, e1, e2, e3, e4, e5, e6, e7]
theorem key_of {p q : Pg} (h : p.key = q.key) : p.names = q.names ∧ p.curs = q.curs ∧ p.pool = q.pool ∧ p.hor = q.hor ∧ p.cells = q.cells ∧ p.slots = q.slots ∧ p.stack = q.stack ∧ p.days.map Sg.key = q.days.map Sg.key := by
  unfold Pg.key at h
  simp only [Prod.mk.injEq] at h
  exact h
def Pg.agg (p : Pg) : Value := .agg #[.slice p.na p.names.length p.nc, .slice p.ua p.curs.length p.uc, .slice p.pa p.pool.length p.pc, .int .i64 p.hor, .int .i64 p.cells, .int .i64 p.slots, .int .i64 p.stack, .slice p.da p.days.length p.dc]
def Pg.box (p : Pg) : Obj := .cells #[.slice p.na p.names.length p.nc, .slice p.ua p.curs.length p.uc, .slice p.pa p.pool.length p.pc, .int .i64 p.hor, .int .i64 p.cells, .int .i64 p.slots, .int .i64 p.stack, .slice p.da p.days.length p.dc] 26
end Go.Proofs.YtpfjnnkjoabgbaaGreatDoor

namespace Go.Proofs.YtpfjnnkjoabgbaaGreatDoor
open Go.RowKit
set_option linter.unusedVariables false
set_option linter.unusedSimpArgs false

theorem infoPS : (Tryz.prog.info? 9).map (fun i => (i.zero, i.size, i.bytes)) = some (some (.string ⟨#[]⟩), 1, 16) := by kernel_rfl
theorem infoPN : (Tryz.prog.info? 3).map (fun i => (i.zero, i.size, i.bytes)) = some (some (.int .i64 0), 1, 8) := by kernel_rfl
theorem infoPI : (Tryz.prog.info? 68).map (fun i => (i.zero, i.size, i.bytes)) = some (some (.agg #[.int .i64 0, .int .i64 0, .int .i64 0]), 3, 24) := by kernel_rfl
theorem infoPG : (Tryz.prog.info? 71).map (fun i => (i.zero, i.size, i.bytes)) = some (some (.agg #[.int .i64 0, .slice none 0 0]), 2, 32) := by kernel_rfl
/-- A block, whole. -/
def BkP (w : World) (b : Nat) (cs : Array Value) (t : TypeId) : Prop := w.heap[b]? = some (.cells cs t (0, 0))
theorem BkP.cell {w : World} {b : Nat} {cs : Array Value} {t : TypeId} (h : BkP w b cs t) (k : Nat) : w.cell? ⟨b, k, none⟩ = cs[k]? := by
  unfold BkP at h; simp [World.cell?, h]
theorem BkP.frozen {w : World} {b : Nat} {cs : Array Value} {t : TypeId} (h : BkP w b cs t) (k : Nat) : w.frozen? ⟨b, k, none⟩ = false := by
  unfold BkP at h; simp [World.frozen?, h]
theorem BkP.lt {w : World} {b : Nat} {cs : Array Value} {t : TypeId} (h : BkP w b cs t) : b < w.heap.size := (Array.getElem?_eq_some_iff.1 h).1
theorem BkP.grown {w w' : World} {b : Nat} {cs : Array Value} {t : TypeId} {r : Option Nat} (h : BkP w b cs t) (g : w.grownBy w' r) (hb : some b ≠ r) : BkP w' b cs t := (g.block b h.lt hb).trans h
theorem BkP.set {w : World} {b : Nat} {cs : Array Value} {t : TypeId} (h : BkP w b cs t) (k : Nat) (v : Value) (hk : k < cs.size) : BkP (w.setCell ⟨b, k, none⟩ v) b (cs.set k v) t := by
  unfold BkP at *
  simp only [World.setCell, Array.getElem?_modify, if_true, h, Option.map_some]
  simp [Array.set!, Array.setIfInBounds, hk]
theorem BkP.other {w : World} {b : Nat} {cs : Array Value} {t : TypeId} (h : BkP w b cs t) (p : Nat) (k : Nat) (v : Value) (hp : p ≠ b) : BkP (w.setCell ⟨p, k, none⟩ v) b cs t := by
  unfold BkP at *
  simp only [World.setCell, Array.getElem?_modify, if_neg hp, h]
/-- A row that lies between two places. -/
structure RF where
  lo : Nat
  hi : Nat
  T : TypeId
  k : Nat
  v : Value
  n : Nat
  xs : List Value
structure RF.at (r : RF) (W : World) : Prop where
  own : W.ownsRow r.lo r.T r.k r.v r.n r.xs
  hi : ∀ b, r.v.ownBlock = some b → b < r.hi
theorem row_farP {W W' : World} {B e s n : Nat} {v : Value} {xs : List Value} (h : W.ownsRow B e s v n xs) {r : Option Nat} (g : W.grownBy W' r) (hr : ∀ k q, r = some k → v.ownBlock = some q → k ≠ q) : W'.ownsRow B e s v n xs := by
  refine h.kept g ?_
  rcases hv : v.ownBlock with _ | q
  · exact .inl rfl
  · right
    intro e
    rcases r with _ | k
    · cases e
    · injection e with e
      exact hr k q rfl hv e.symm
theorem RF.at.grown {r : RF} {W W' : World} (h : r.at W) {x : Option Nat} (g : W.grownBy W' x) (hx : ∀ k, x = some k → k < r.lo ∨ r.hi ≤ k) : r.at W' :=
  ⟨row_farP h.own g (fun k q e e2 => by have := h.own.lt q e2; have := h.hi q e2; rcases hx k e with t | t <;> omega), h.hi⟩
def pz : Array Value := #[.slice none 0 0, .slice none 0 0, .slice none 0 0, .int .i64 0, .int .i64 0, .int .i64 0, .int .i64 0, .slice none 0 0]
def Pg.arr (p : Pg) : Array Value := #[.slice p.na p.names.length p.nc, .slice p.ua p.curs.length p.uc, .slice p.pa p.pool.length p.pc, .int .i64 p.hor, .int .i64 p.cells, .int .i64 p.slots, .int .i64 p.stack, .slice p.da p.days.length p.dc]
/-- What stands while a copy is made: the box of the program, that of the answer, that of the copy, the rows of the copy. -/
structure OS (w W : World) (p : Pg) (q : Array Value) (L : List RF) : Prop where
  bel : Below w.heap.size w W
  b0 : BkP W w.heap.size p.arr 26
  b1 : BkP W (w.heap.size + 1) pz 26
  b2 : BkP W (w.heap.size + 1 + 1) q 26
  rows : ∀ r ∈ L, r.at W ∧ w.heap.size + 3 ≤ r.lo ∧ r.hi ≤ W.heap.size
  sz : w.heap.size + 3 ≤ W.heap.size
  qs : q.size = 8
theorem OS.grown {w W W' : World} {p : Pg} {q : Array Value} {L : List RF} (h : OS w W p q L) {x : Option Nat} (g : W.grownBy W' x) (hx : ∀ k, x = some k → W.heap.size ≤ k) : OS w W' p q L :=
  ⟨h.bel.grown g h.bel.size (fun k e => Nat.le_trans h.bel.size (hx k e)), h.b0.grown g (fun e => by have := hx _ e.symm; have := h.b0.lt; omega), h.b1.grown g (fun e => by have := hx _ e.symm; have := h.b1.lt; omega), h.b2.grown g (fun e => by have := hx _ e.symm; have := h.b2.lt; omega),
    fun r hr => ⟨(h.rows r hr).1.grown g (fun k e => .inr (Nat.le_trans (h.rows r hr).2.2 (hx k e))), (h.rows r hr).2.1, Nat.le_trans (h.rows r hr).2.2 g.size⟩, Nat.le_trans h.sz g.size, h.qs⟩
theorem gr_below {W W' : World} (b : Below W.heap.size W W') (r : Option Nat) : W.grownBy W' r := ⟨b.os, b.tape, b.output, b.size, fun k hk _ => b.block k hk⟩
theorem OS.later {w W W' : World} {p : Pg} {q : Array Value} {L : List RF} (h : OS w W p q L) (b : Below W.heap.size W W') : OS w W' p q L := h.grown (gr_below b none) (fun k e => by cases e)
theorem drew1B (W : World) : Below W.heap.size W W.drew := (Below.refl _ _).drew
theorem OS.drew {w W : World} {p : Pg} {q : Array Value} {L : List RF} (h : OS w W p q L) : OS w W.drew p q L := h.later (drew1B W)
theorem OS.alloc {w W : World} {p : Pg} {q : Array Value} {L : List RF} (h : OS w W p q L) (o : Obj) : OS w (W.alloc o) p q L := h.later (allocBP W o)
theorem setCell_gr (W : World) (b j : Nat) (v : Value) : W.grownBy (W.setCell ⟨b, j, none⟩ v) (some b) := by
  refine ⟨rfl, rfl, rfl, by simp, fun i hi hn => ?_⟩
  have hp : ¬ b = i := fun e => hn (by rw [e])
  simp [World.setCell, Array.getElem?_modify, hp]
theorem OS.setQ {w W : World} {p : Pg} {q : Array Value} {L : List RF} (h : OS w W p q L) (j : Nat) (hj : j < q.size) (v : Value) : OS w (W.setCell ⟨w.heap.size + 1 + 1, j, none⟩ v) p (q.set j v) L :=
  ⟨h.bel.grown (setCell_gr W _ j v) h.bel.size (fun k e => by injection e with e; omega), h.b0.other _ _ _ (by omega), h.b1.other _ _ _ (by omega), h.b2.set j v hj,
    fun r hr => ⟨(h.rows r hr).1.grown (setCell_gr W _ j v) (fun k e => by injection e with e; have := (h.rows r hr).2.1; left; omega), (h.rows r hr).2.1, by simpa using (h.rows r hr).2.2⟩, by simpa using h.sz, by simpa using h.qs⟩
theorem OS.add {w W : World} {p : Pg} {q : Array Value} {L : List RF} (h : OS w W p q L) (r : RF) (hr : r.at W) (h1 : w.heap.size + 3 ≤ r.lo) (h2 : r.hi ≤ W.heap.size) : OS w W p q (r :: L) :=
  ⟨h.bel, h.b0, h.b1, h.b2, fun x hx => by
    rcases List.mem_cons.1 hx with rfl | q
    · exact ⟨hr, h1, h2⟩
    · exact h.rows x q, h.sz, h.qs⟩
theorem heapN (w : World) (o : Obj) : (w.alloc o).heap[w.heap.size]? = some o := by show (w.heap.push o)[w.heap.size]? = _; simp
theorem os_start (w : World) (p : Pg) : OS w (((w.alloc (.cells p.arr 26)).alloc (.cells pz 26)).alloc (.cells p.arr 26)) p p.arr [] := by
  have e1 : (w.alloc (.cells p.arr 26)).heap.size = w.heap.size + 1 := by simp
  have e2 : ((w.alloc (.cells p.arr 26)).alloc (.cells pz 26)).heap.size = w.heap.size + 1 + 1 := by simp
  have k0 : (w.alloc (.cells p.arr 26)).heap[w.heap.size]? = some (.cells p.arr 26) := heapN _ _
  have k1 : ((w.alloc (.cells p.arr 26)).alloc (.cells pz 26)).heap[w.heap.size + 1]? = some (.cells pz 26) := by have := heapN (w.alloc (.cells p.arr 26)) (.cells pz 26); rwa [e1] at this
  have k2 : (((w.alloc (.cells p.arr 26)).alloc (.cells pz 26)).alloc (.cells p.arr 26)).heap[w.heap.size + 1 + 1]? = some (.cells p.arr 26) := by have := heapN ((w.alloc (.cells p.arr 26)).alloc (.cells pz 26)) (.cells p.arr 26); rwa [e2] at this
  refine ⟨(alloc2 w _ _).alloc (by simp; omega) _, ?_, ?_, k2, by simp, by simp, rfl⟩
  · exact (Below.heap_alloc _ _ _ (by simp; omega)).trans ((Below.heap_alloc _ _ _ (by simp)).trans k0)
  · exact (Below.heap_alloc _ _ _ (by simp)).trans k1
/-- What an append with the room made ahead leaves. -/
theorem made_rowP (W : World) (B : Nat) (hB : B ≤ W.heap.size) (T : TypeId) (z : Array Value) (k c : Nat) (hz : z.size = k) (hk : 0 < k) (hc : c ≤ maxLen) : (W.alloc (.cells (madeCells z (c * k)) T)).ownsRow B T k (.slice (some ⟨W.heap.size, 0, none⟩) 0 c) 0 [] := by
  refine ⟨by rw [Nat.zero_mul]; rfl, .inr ⟨W.heap.size, c, madeCells z (c * k), rfl, hB, heapN _ _, Nat.zero_le _, hc, by simp [madeCells], by rw [Nat.zero_mul]; rfl⟩⟩
end Go.Proofs.YtpfjnnkjoabgbaaGreatDoor
