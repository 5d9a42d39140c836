/-
  VERIFY, PLAINLY: states, what goes wrong at an instruction, how states are handed on.
-/
import Derived.Test.YteedkcmjhdabeaaDoorPlainCode
import Derived.Test.YteedkcmjhdabeaaDoorWImg8
import Derived.Test.YteedkcmjhdabeaaDoorWCode1
import Derived.Laws.BitsAllLaws
import Derived.ChangeKeysEq
import Derived.LaidEql
import Derived.Deep.MidRow
import Derived.Deep.WholeRow
namespace Go.Proofs.YteedkcmjhdabeaaDoor
set_option linter.unusedVariables false
set_option linter.unusedSimpArgs false

/-- A state: the sorts on the stack, the topmost first; the sort of what a slot keeps (0: nothing). -/
structure Vs where
  st : List Nat
  sl : Nat → Nat
def wtL : List (List Nat) := [[0, 0, 0], [0, 0, 0], [0, 0, 0], [0, 0, 0], [0, 0, 0], [1, 0, 0], [3, 0, 0], [0, 0, 0], [3, 0, 0],
  [1, 1, 0], [1, 1, 0], [1, 1, 0], [1, 0, 0], [1, 1, 0], [1, 1, 0], [1, 0, 0], [1, 1, 0], [1, 1, 0], [1, 1, 1],
  [1, 1, 0], [1, 1, 0], [1, 1, 0], [1, 1, 0], [1, 1, 0], [1, 1, 0], [2, 0, 0], [0, 0, 0], [2, 0, 0], [1, 0, 0]]
def wtA (k : Nat) : List Nat := wtL.getD k [0, 0, 0]
def psL : List Nat := [0, 1, 2, 1, 1, 0, 0, 0, 0, 1, 1, 1, 1, 1, 1, 1, 1, 1, 1, 2, 2, 2, 2, 2, 2, 2, 0, 0, 0]
def psA (k : Nat) : Nat := psL.getD k 0
theorem wt_facts : ∀ k, k < 29 → (wtA k).length = 3 ∧ (∀ x ∈ wtA k, x ≤ 3) ∧ psA k ≤ 2 := all29 (by decide)
/-- What was taken, the topmost last. -/
def vTak (n : Nat) (st : List Nat) : List Nat :=
  match n with
  | 0 => [0, 0, 0]
  | 1 => [st.getD 0 0, 0, 0]
  | 2 => [st.getD 1 0, st.getD 0 0, 0]
  | _ => [st.getD 2 0, st.getD 1 0, st.getD 0 0]
/-- Set a slot. -/
def vKeep (f : Nat → Nat) (a x : Nat) : Nat → Nat := fun y => if y = a then x else f y
/-- An instruction: what goes wrong (0: nothing), and the state behind it. -/
def vDo (day : Int) (s : Vs) (i : In) : Int × Vs :=
  let k := i.o.toNat
  if s.st.length < tkA k ∨ (k = 0 ∧ 0 < s.st.length) then (142, s)
  else if ¬ (wtA k = vTak (tkA k) s.st ∨ wtA k = [3, 0, 0]) then (143, s)
  else if k = 6 then (0, ⟨s.st.getD 0 0 :: s.st.drop 1, vKeep s.sl i.a.toNat (s.st.getD 0 0)⟩)
  else if k = 7 then (if s.sl i.a.toNat = 0 then (144, s) else (0, ⟨s.sl i.a.toNat :: s.st, s.sl⟩))
  else if k = 3 ∧ day < i.b then (145, s)
  else if psA k = 0 then (0, ⟨s.st.drop (tkA k), s.sl⟩) else (0, ⟨psA k :: s.st.drop (tkA k), s.sl⟩)
/-- What both sets have. -/
def vMeet (f g : Nat → Nat) : Nat → Nat := fun y => if f y = g y then f y else 0
/-- A state is handed to where one may be. -/
def vHand (t : Option Vs) (s : Vs) : Int × Option Vs :=
  match t with
  | none => (0, some s)
  | some t => if t.st.length ≠ s.st.length then (142, some t) else if t.st ≠ s.st then (143, some t) else (0, some ⟨t.st, vMeet t.sl s.sl⟩)
def vSet (l : Nat → Option Vs) (k : Nat) (v : Option Vs) : Nat → Option Vs := fun j => if j = k then v else l j
def isJ (i : In) : Prop := i.o = 26 ∨ i.o = 27
instance (i : In) : Decidable (isJ i) := by unfold isJ; exact inferInstance
/-- To the next one. -/
def vNx (i : In) (t : Option Vs) (s : Vs) : Int × Option Vs := if i.o = 26 ∨ i.o = 0 then (0, t) else vHand t s
/-- The state behind instruction k is handed on. -/
def vOn (n : Nat) (i : In) (k : Nat) (s : Vs) (l : Nat → Option Vs) : Int × (Nat → Option Vs) :=
  if isJ i ∧ n ≤ k + 1 + i.a.toNat then (141, l)
  else
    if (vNx i (l (k + 1)) s).1 ≠ 0 then ((vNx i (l (k + 1)) s).1, l)
    else if isJ i then
      ((vHand (vSet l (k + 1) (vNx i (l (k + 1)) s).2 (k + 1 + i.a.toNat)) s).1, vSet (vSet l (k + 1) (vNx i (l (k + 1)) s).2) (k + 1 + i.a.toNat) (vHand (vSet l (k + 1) (vNx i (l (k + 1)) s).2 (k + 1 + i.a.toNat)) s).2)
    else (0, vSet l (k + 1) (vNx i (l (k + 1)) s).2)
/-- An instruction is passed. -/
def vPass (day : Int) (n : Nat) (i : In) (k : Nat) (l : Nat → Option Vs) : Int × (Nat → Option Vs) :=
  match l k with
  | none => (146, l)
  | some s => if (vDo day s i).1 ≠ 0 then ((vDo day s i).1, l) else vOn n i k (vDo day s i).2 l
def vStart : Nat → Option Vs := fun j => if j = 0 then some ⟨[], fun _ => 0⟩ else none
/-- The first k instructions are passed: the error, its place, the states. -/
def vRun (day : Int) (code : List In) : Nat → Int × Nat × (Nat → Option Vs)
  | 0 => (0, 0, vStart)
  | k + 1 =>
    let r := vRun day code k
    if r.1 ≠ 0 then r else
      let q := vPass day code.length (code.getD k default) k r.2.2
      (q.1, k, q.2)
/-- What is known of all states: sorts are 1 or 2, slots lie below 16384. -/
def Vs.ok (s : Vs) : Prop := (∀ x ∈ s.st, x = 1 ∨ x = 2) ∧ (∀ k, s.sl k ≤ 2) ∧ ∀ k, 16384 ≤ k → s.sl k = 0
def vHt (l : Nat → Option Vs) (k : Nat) : Nat := match l k with | none => 0 | some s => s.st.length
/-- What code was found to need: fuel, stack, back, slots, cells. -/
structure Nds where
  stack : Int
  fuel : Int
  back : Int
  slots : Int
  cells : Int
def vSee (n : Nds) (i : In) (h : Nat) : Nds :=
  let m : Nds := { n with stack := max n.stack h, fuel := n.fuel + 1 }
  if i.o = 6 ∨ i.o = 7 then { m with slots := max m.slots (i.a + 1) }
  else if i.o = 4 ∨ i.o = 5 then { m with cells := max m.cells (i.a + 1) }
  else if i.o = 3 then { m with back := max m.back i.b }
  else m
/-- The needs of the first k instructions. -/
def vNeed (nd : Nds) (day : Int) (code : List In) : Nat → Nds
  | 0 => nd
  | k + 1 => vSee (vNeed nd day code k) (code.getD k default) (vHt (vRun day code (k + 1)).2.2 k)
end Go.Proofs.YteedkcmjhdabeaaDoor

namespace Go.Proofs.YteedkcmjhdabeaaDoor
set_option linter.unusedVariables false
set_option linter.unusedSimpArgs false
theorem vKeep_ok {f : Nat → Nat} {a x : Nat} (h : ∀ k, f k ≤ 2) (h2 : ∀ k, 16384 ≤ k → f k = 0) (ha : a < 16384) (hx : x ≤ 2) : (∀ k, vKeep f a x k ≤ 2) ∧ ∀ k, 16384 ≤ k → vKeep f a x k = 0 := by
  refine ⟨fun k => ?_, fun k hk => ?_⟩ <;> unfold vKeep <;> split
  · exact hx
  · exact h k
  · omega
  · exact h2 k hk
theorem getD_sort {st : List Nat} (h : ∀ x ∈ st, x = 1 ∨ x = 2) {n : Nat} (hn : n < st.length) : st.getD n 0 = 1 ∨ st.getD n 0 = 2 := by
  have : st.getD n 0 = st[n] := by simp [List.getD, hn]
  rw [this]
  exact h _ (List.getElem_mem hn)
theorem okP_a6 {i : In} (h : i.okP) (e : i.o.toNat = 6) : i.a.toNat < 16384 := by
  have := h.2.2.2.1
  rw [e] at this
  have q : baA 6 = 16383 := by decide
  have := h.2.2.1
  omega
theorem okP_a7 {i : In} (h : i.okP) (e : i.o.toNat = 7) : i.a.toNat < 16384 := by
  have := h.2.2.2.1
  rw [e] at this
  have q : baA 7 = 16383 := by decide
  have := h.2.2.1
  omega
theorem vDo_ok {day : Int} {s : Vs} {i : In} (hs : s.ok) (hi : i.okP) (h : (vDo day s i).1 = 0) : (vDo day s i).2.ok := by
  have dr : ∀ n, ∀ x ∈ s.st.drop n, x = 1 ∨ x = 2 := fun n x hx => hs.1 x (List.mem_of_mem_drop hx)
  have hp := (wt_facts i.o.toNat (by have := hi.1; have := hi.2.1; omega)).2.2
  unfold vDo at h ⊢
  simp only at h ⊢
  split at h
  · simp at h
  rename_i n1
  rw [if_neg n1]
  split at h
  · simp at h
  rename_i n2
  rw [if_neg n2]
  by_cases e6 : i.o.toNat = 6
  · rw [if_pos e6]
    have hl : 0 < s.st.length := by
      have t6 : tkA 6 = 1 := by decide
      rw [e6, t6] at n1
      omega
    have g := getD_sort hs.1 hl
    obtain ⟨k1, k2⟩ := vKeep_ok hs.2.1 hs.2.2 (okP_a6 hi e6) (x := s.st.getD 0 0) (by omega)
    exact ⟨fun x hx => by rcases List.mem_cons.1 hx with rfl | q; exact g; exact dr 1 x q, k1, k2⟩
  rw [if_neg e6] at h ⊢
  by_cases e7 : i.o.toNat = 7
  · rw [if_pos e7] at h ⊢
    split at h
    · simp at h
    rename_i z
    rw [if_neg z]
    have := hs.2.1 i.a.toNat
    exact ⟨fun x hx => by rcases List.mem_cons.1 hx with rfl | q; omega; exact hs.1 x q, hs.2.1, hs.2.2⟩
  rw [if_neg e7] at h ⊢
  split at h
  · simp at h
  rename_i n3
  rw [if_neg n3]
  split
  · exact ⟨dr _, hs.2.1, hs.2.2⟩
  · rename_i z
    exact ⟨fun x hx => by rcases List.mem_cons.1 hx with rfl | q; omega; exact dr _ x q, hs.2.1, hs.2.2⟩
theorem vHand_ok {t : Option Vs} {s : Vs} (ht : ∀ u, t = some u → u.ok) (hs : s.ok) : ∀ u, (vHand t s).2 = some u → u.ok := by
  intro u hu
  unfold vHand at hu
  cases t with
  | none => simp at hu; subst hu; exact hs
  | some t =>
    have ht := ht t rfl
    simp only at hu
    split at hu
    · simp at hu; subst hu; exact ht
    split at hu
    · simp at hu; subst hu; exact ht
    · simp at hu
      subst hu
      refine ⟨ht.1, fun k => ?_, fun k hk => ?_⟩ <;> simp only [vMeet] <;> split
      · exact ht.2.1 k
      · omega
      · exact ht.2.2 k hk
      · rfl
/-- All states are well formed. -/
def Aok (l : Nat → Option Vs) : Prop := ∀ j u, l j = some u → u.ok
theorem vSet_ok {l : Nat → Option Vs} {k : Nat} {v : Option Vs} (hl : Aok l) (hv : ∀ u, v = some u → u.ok) : Aok (vSet l k v) := by
  intro j u h
  unfold vSet at h
  split at h
  · exact hv u h
  · exact hl j u h
theorem vOn_ok {n k : Nat} {i : In} {s : Vs} {l : Nat → Option Vs} (hl : Aok l) (hs : s.ok) : Aok (vOn n i k s l).2 := by
  have h1 : ∀ u, (vNx i (l (k + 1)) s).2 = some u → u.ok := by
    intro u hu
    unfold vNx at hu
    split at hu
    · exact hl _ u hu
    · exact vHand_ok (fun u hu => hl _ u hu) hs u hu
  have l1 := vSet_ok (k := k + 1) hl h1
  unfold vOn
  generalize vNx i (l (k + 1)) s = h at *
  split
  · exact hl
  · split
    · exact hl
    · split
      · exact vSet_ok l1 (vHand_ok (fun u hu => l1 _ u hu) hs)
      · exact l1
theorem vPass_ok {day : Int} {n k : Nat} {i : In} {l : Nat → Option Vs} (hl : Aok l) (hi : i.okP) : Aok (vPass day n i k l).2 := by
  unfold vPass
  cases hk : l k with
  | none => exact hl
  | some s =>
    simp only
    split
    · exact hl
    · rename_i h
      exact vOn_ok hl (vDo_ok (hl k s hk) hi (by simpa using h))
theorem vStart_ok : Aok vStart := by
  intro j u h
  unfold vStart at h
  split at h
  · simp at h; subst h; exact ⟨by simp, by simp, by simp⟩
  · cases h
theorem vRun_ok {day : Int} {code : List In} : ∀ k, k ≤ code.length → (∀ i ∈ code, i.okP) → Aok (vRun day code k).2.2
  | 0, _, _ => vStart_ok
  | k + 1, hk, hi => by
    have ih := vRun_ok k (by omega) hi (day := day)
    simp only [vRun]
    split
    · exact ih
    · exact vPass_ok ih (by
        have hk' : k < code.length := by omega
        have : code.getD k default = code[k] := by simp [List.getD, hk']
        rw [this]
        exact hi _ (List.getElem_mem _))
/-- What has been passed stays. -/
theorem vOn_old {n k : Nat} {i : In} {s : Vs} {l : Nat → Option Vs} {j : Nat} (hj : j ≤ k) : (vOn n i k s l).2 j = l j := by
  unfold vOn
  split
  · rfl
  · split
    · rfl
    · split
      · simp only [vSet]
        rw [if_neg (by omega), if_neg (by omega)]
      · simp only [vSet]
        rw [if_neg (by omega)]
theorem vPass_old {day : Int} {n k : Nat} {i : In} {l : Nat → Option Vs} {j : Nat} (hj : j ≤ k) : (vPass day n i k l).2 j = l j := by
  unfold vPass
  cases hk : l k with
  | none => rfl
  | some s =>
    simp only
    split
    · rfl
    · exact vOn_old hj
theorem vRun_succ {day : Int} {code : List In} {k : Nat} (h : (vRun day code k).1 = 0) : vRun day code (k + 1) = ((vPass day code.length (code.getD k default) k (vRun day code k).2.2).1, k, (vPass day code.length (code.getD k default) k (vRun day code k).2.2).2) := by
  simp [vRun, h]
theorem vRun_stop {day : Int} {code : List In} {k : Nat} (h : (vRun day code k).1 ≠ 0) : ∀ m, k ≤ m → vRun day code m = vRun day code k
  | 0, hm => by rw [show k = 0 by omega]
  | m + 1, hm => by
    by_cases e : k = m + 1
    · rw [e]
    · have ih := vRun_stop h m (by omega)
      simp only [vRun]
      rw [ih, if_pos h]
theorem vRun_before {day : Int} {code : List In} {m : Nat} (h : (vRun day code m).1 = 0) {k : Nat} (hk : k ≤ m) : (vRun day code k).1 = 0 := by
  by_cases e : (vRun day code k).1 = 0
  · exact e
  · rw [vRun_stop e m hk] at h
    exact absurd h e
theorem vRun_old {day : Int} {code : List In} {k j : Nat} (hj : j < k) : ∀ m, k ≤ m → (vRun day code m).2.2 j = (vRun day code k).2.2 j
  | 0, hm => by rw [show k = 0 by omega]
  | m + 1, hm => by
    by_cases e : k = m + 1
    · rw [e]
    · have ih := vRun_old hj m (by omega) (day := day) (code := code)
      simp only [vRun]
      split
      · exact ih
      · simp only
        rw [vPass_old (by omega)]
        exact ih
end Go.Proofs.YteedkcmjhdabeaaDoor

namespace Go.Proofs.YteedkcmjhdabeaaDoor
open Go.RowKit
set_option linter.unusedVariables false
set_option linter.unusedSimpArgs false

theorem BkP.lat {W W' : World} {b : Nat} {cs : Array Value} {t : TypeId} (h : BkP W b cs t) (g : Below W.heap.size W W') : BkP W' b cs t := h.grown (gr_below g none) (by simp)
def ptN (b : Option Nat) : Value := .pointer (b.map (fun x => ⟨x, 0, none⟩))
/-- The blocks of a stack's cells, by what lies on the stack. -/
abbrev Tg := List Nat → Option Nat
def blwN (G : Tg) (s : List Nat) : Option Nat := match s with | [] => none | _ :: t => G t
def cellA (G : Tg) (s : List Nat) : Array Value := #[.int .u8 ((s.headD 0 : Nat) : Int), ptN (blwN G s), .pointer none, ptN (G (1 :: s)), ptN (G (2 :: s))]
structure Tri (W : World) (B : Nat) (G : Tg) : Prop where
  root : ∃ r, G [] = some r
  box : ∀ s b, G s = some b → B ≤ b ∧ BkP W b (cellA G s) 77
  inj : ∀ s t b, G s = some b → G t = some b → s = t
  pre : ∀ x s b, G (x :: s) = some b → ∃ c, G s = some c
/-- A sheet: 32 words. -/
def shA (sh : Nat → Nat) : Array Value := ((List.range 32).map (fun k => Value.int .u64 ((sh k : Nat) : Int))).toArray
def bitS (sh : Nat → Nat) (m : Nat) : Nat := if (sh (m / 64 * 2)).testBit (m % 64) then 1 else if (sh (m / 64 * 2 + 1)).testBit (m % 64) then 2 else 0
structure ShR (W : World) (b : Nat) (sh : Nat → Nat) : Prop where
  box : BkP W b (shA sh) 113
  sz : ∀ k, sh k < 18446744073709551616
  ap : ∀ g, g < 16 → ∀ i, i < 64 → ¬ ((sh (g * 2)).testBit i = true ∧ (sh (g * 2 + 1)).testBit i = true)
/-- One of the sixteen parts of the slots. -/
def PaR (W : World) (B : Nat) (p : Option Nat) (f : Nat → Nat) : Prop := (p = none ∧ ∀ m, m < 1024 → f m = 0) ∨ ∃ b sh, p = some b ∧ B ≤ b ∧ ShR W b sh ∧ ∀ m, m < 1024 → f m = bitS sh m
def SlR (W : World) (B : Nat) (ps : Nat → Option Nat) (f : Nat → Nat) : Prop := ∀ j, j < 16 → PaR W B (ps j) (fun m => f (j * 1024 + m))
def stA (tb : Nat) (h : Nat) (ps : Nat → Option Nat) : Array Value := (.pointer (some ⟨tb, 0, none⟩) :: .int .i64 (h : Int) :: (List.range 16).map (fun j => ptN (ps j))).toArray
/-- A state in its block. -/
structure SvR (W : World) (B : Nat) (G : Tg) (x tb : Nat) (ps : Nat → Option Nat) (s : Vs) : Prop where
  top : G s.st = some tb
  box : BkP W x (stA tb s.st.length ps) 61
  slt : SlR W B ps s.sl
  low : B ≤ x
theorem bk_ne {W : World} {a b : Nat} {x y : Array Value} {s t : TypeId} (h : BkP W a x s) (k : BkP W b y t) (n : s ≠ t) : a ≠ b := by
  rintro rfl
  have e := h.symm.trans k
  injection e with e
  injection e with e1 e2
  exact n e2
/-- What changes at one block alone, of one type, leaves all boxes of other types. -/
theorem Tri.other {W W' : World} {B : Nat} {G : Tg} {x : Nat} {y : Array Value} {t : TypeId} (h : Tri W B G) (g : W.grownBy W' (some x)) (hx : BkP W x y t) (ht : t ≠ 77) : Tri W' B G :=
  ⟨h.root, fun s b e => ⟨(h.box s b e).1, (h.box s b e).2.grown g (by intro q; injection q with q; exact bk_ne (h.box s b e).2 hx (Ne.symm ht) q)⟩, h.inj, h.pre⟩
theorem Tri.later {W W' : World} {B : Nat} {G : Tg} (h : Tri W B G) (g : Below W.heap.size W W') : Tri W' B G :=
  ⟨h.root, fun s b e => ⟨(h.box s b e).1, (h.box s b e).2.lat g⟩, h.inj, h.pre⟩
theorem ShR.later {W W' : World} {b : Nat} {sh : Nat → Nat} (h : ShR W b sh) (g : Below W.heap.size W W') : ShR W' b sh := ⟨h.box.lat g, h.sz, h.ap⟩
theorem ShR.other {W W' : World} {b : Nat} {sh : Nat → Nat} {x : Nat} {y : Array Value} {t : TypeId} (h : ShR W b sh) (g : W.grownBy W' (some x)) (hx : BkP W x y t) (ht : t ≠ 113) : ShR W' b sh :=
  ⟨h.box.grown g (by intro q; injection q with q; exact bk_ne h.box hx (Ne.symm ht) q), h.sz, h.ap⟩
theorem PaR.later {W W' : World} {B : Nat} {p : Option Nat} {f : Nat → Nat} (h : PaR W B p f) (g : Below W.heap.size W W') : PaR W' B p f := by
  rcases h with h | ⟨b, sh, h1, h2, h3, h4⟩
  · exact .inl h
  · exact .inr ⟨b, sh, h1, h2, h3.later g, h4⟩
theorem PaR.other {W W' : World} {B : Nat} {p : Option Nat} {f : Nat → Nat} {x : Nat} {y : Array Value} {t : TypeId} (h : PaR W B p f) (g : W.grownBy W' (some x)) (hx : BkP W x y t) (ht : t ≠ 113) : PaR W' B p f := by
  rcases h with h | ⟨b, sh, h1, h2, h3, h4⟩
  · exact .inl h
  · exact .inr ⟨b, sh, h1, h2, h3.other g hx ht, h4⟩
theorem SlR.later {W W' : World} {B : Nat} {ps : Nat → Option Nat} {f : Nat → Nat} (h : SlR W B ps f) (g : Below W.heap.size W W') : SlR W' B ps f := fun j hj => (h j hj).later g
theorem SlR.other {W W' : World} {B : Nat} {ps : Nat → Option Nat} {f : Nat → Nat} {x : Nat} {y : Array Value} {t : TypeId} (h : SlR W B ps f) (g : W.grownBy W' (some x)) (hx : BkP W x y t) (ht : t ≠ 113) : SlR W' B ps f := fun j hj => (h j hj).other g hx ht
theorem SvR.later {W W' : World} {B : Nat} {G : Tg} {x tb : Nat} {ps : Nat → Option Nat} {s : Vs} (h : SvR W B G x tb ps s) (g : Below W.heap.size W W') : SvR W' B G x tb ps s := ⟨h.top, h.box.lat g, h.slt.later g, h.low⟩
theorem stA_size (tb h : Nat) (ps : Nat → Option Nat) : (stA tb h ps).size = 18 := by simp [stA]
theorem stA_top (tb h : Nat) (ps : Nat → Option Nat) : (stA tb h ps)[0]? = some (.pointer (some ⟨tb, 0, none⟩)) := by simp [stA]
theorem stA_ht (tb h : Nat) (ps : Nat → Option Nat) : (stA tb h ps)[1]? = some (.int .i64 (h : Int)) := by simp [stA]
theorem stA_sh (tb h : Nat) (ps : Nat → Option Nat) (j : Nat) (hj : j < 16) : (stA tb h ps)[2 + j]? = some (ptN (ps j)) := by
  unfold stA
  rw [show 2 + j = j + 1 + 1 by omega]
  simp [hj]
theorem shA_at (sh : Nat → Nat) (j : Nat) (hj : j < 32) : (shA sh)[j]? = some (.int .u64 ((sh j : Nat) : Int)) := by
  unfold shA
  simp [hj]
theorem shA_size (sh : Nat → Nat) : (shA sh).size = 32 := by simp [shA]
end Go.Proofs.YteedkcmjhdabeaaDoor

namespace Go.Proofs.YteedkcmjhdabeaaDoor
open Go.RowKit
set_option linter.unusedVariables false
set_option linter.unusedSimpArgs false
theorem pow_lt64V {k : Nat} (h : k < 64) : 2 ^ k < 18446744073709551616 := by
  have : 2 ^ k < 2 ^ 64 := Nat.pow_lt_pow_right (by omega) h
  simpa using this
theorem wrap_powV {k : Nat} (h : k < 64) : IntKind.u64.wrap (2 ^ k) = ((2 ^ k : Nat) : Int) := by
  have := pow_lt64V h
  rw [show (2 : Int) ^ k = ((2 ^ k : Nat) : Int) by simp]
  generalize 2 ^ k = m at *
  simp [IntKind.wrap, IntKind.bits, IntKind.signed]
  omega
set_option maxRecDepth 100000 in
theorem find_any (w : World) (n : Nat) (hn : n < 16384) : Calls Tryd.prog 44 #[.int .i64 (n : Int)] w fun e w' => e = .returned (.tuple #[.int .i64 ((n / 1024 : Nat) : Int), .int .i64 ((n % 1024 / 64 : Nat) : Int), .int .u64 ((2 ^ (n % 64) : Nat) : Int)]) ∧ Below w.heap.size w w' := by
  have d1 : Int.tdiv (n : Int) 1024 = ((n / 1024 : Nat) : Int) := by rw [Int.tdiv_eq_ediv_of_nonneg (by omega)]; simp
  have m1 : Int.tmod (n : Int) 1024 = ((n % 1024 : Nat) : Int) := by rw [Int.tmod_eq_emod_of_nonneg (by omega)]; simp
  have m2 : Int.tmod (n : Int) 64 = ((n % 64 : Nat) : Int) := by rw [Int.tmod_eq_emod_of_nonneg (by omega)]; simp
  have d2 : Int.tdiv ((n % 1024 : Nat) : Int) 64 = ((n % 1024 / 64 : Nat) : Int) := by rw [Int.tdiv_eq_ediv_of_nonneg (by omega)]; simp
  have w1 : ∀ x : Nat, x < 16384 → IntKind.i64.wrap (x : Int) = (x : Int) := fun x hx => by simp [IntKind.wrap, IntKind.bits, IntKind.signed]; omega
  have a1 := w1 (n / 1024) (by omega)
  have a2 := w1 (n % 1024) (by omega)
  have a3 := w1 (n % 1024 / 64) (by omega)
  have a4 := w1 (n % 64) (by omega)
  have P := wrap_powV (k := n % 64) (by omega)
  have mz : min (n % 64) 64 = n % 64 := by omega
  clear w1 hn
  generalize n / 1024 = x at *
  generalize n % 1024 / 64 = y at *
  generalize n % 1024 = u at *
  generalize n % 64 = z at *
  go_enter Tryd.func44, Tryd.ntmps44
  go_wp2
  go_quiet (fail)
  go_wp2
  go_ret3
  exact ⟨rfl, drewBP _ _⟩
theorem and_two (v k : Nat) : v &&& 2 ^ k = (v.testBit k).toNat * 2 ^ k := by
  apply Nat.eq_of_testBit_eq
  intro i
  rw [Nat.testBit_and, Nat.testBit_two_pow]
  by_cases e : k = i
  · subst e
    cases h : v.testBit k <;> simp [h, Nat.testBit_two_pow]
  · cases h : v.testBit k <;> simp [e, Nat.testBit_two_pow]
theorem and_pow (v k : Nat) (hv : v < 18446744073709551616) (hk : k < 64) : bits .and .u64 (v : Int) ((2 ^ k : Nat) : Int) = (((v.testBit k).toNat * 2 ^ k : Nat) : Int) := by
  rw [u64_and_nat v (2 ^ k) hv (pow_lt64V hk), and_two]
theorem and_yes (v k : Nat) (hv : v < 18446744073709551616) (hk : k < 64) (h : v.testBit k = true) : ((bits .and .u64 (v : Int) ((2 ^ k : Nat) : Int)) != 0) = true := by
  rw [and_pow v k hv hk, h]
  have := Nat.two_pow_pos k
  generalize 2 ^ k = m at *
  simp
  omega
theorem and_no (v k : Nat) (hv : v < 18446744073709551616) (hk : k < 64) (h : v.testBit k = false) : ((bits .and .u64 (v : Int) ((2 ^ k : Nat) : Int)) != 0) = false := by
  rw [and_pow v k hv hk, h]
  simp
def pgO (a b : Int) : Obj := .cells #[.int .u64 a, .int .u64 b] 111
set_option maxRecDepth 100000 in
theorem kept_any {w : World} {B : Nat} {G : Tg} {x tb : Nat} {ps : Nat → Option Nat} {s : Vs} (h : SvR w B G x tb ps s) (n : Nat) (hn : n < 16384) :
    Calls Tryd.prog 32 #[.pointer (some ⟨x, 2, none⟩), .int .i64 (n : Int)] w fun e w' => e = .returned (.int .u8 ((s.sl n : Nat) : Int)) ∧ Below w.heap.size w w' := by
  have F := Lib.hid (find_any w n hn)
  have hj : n / 1024 < 16 := by omega
  have en : n / 1024 * 1024 + n % 1024 = n := by omega
  have P := h.slt (n / 1024) hj
  have C := Lib.hid (fun W (b : Below w.heap.size w W) => (h.box.lat b).cell (2 + n / 1024))
  have hy : n % 1024 / 64 < 16 := by omega
  have hz : n % 64 < 64 := by omega
  have ez : n % 1024 % 64 = n % 64 := by omega
  rcases P with ⟨p0, pz⟩ | ⟨b, sh, p0, _, hS, pf⟩
  · have R : s.sl n = 0 := by have := pz (n % 1024) (by omega); simp only [en] at this; exact this
    rw [R]
    simp only [stA_sh _ _ _ _ hj, p0, ptN, Option.map_none] at C
    clear h pz R p0
    generalize n / 1024 = j at *
    generalize n % 1024 / 64 = y at *
    generalize n % 64 = z at *
    have k0 : ¬ (j : Int) < 0 := by omega
    have k1 : (j : Int) < 16 := by omega
    go_enter Tryd.func32, Tryd.ntmps32
    go_wp2_with (go_at_call 44; refine F.out.mono ?_; rintro e w1 ⟨rfl, h1⟩; have B1 := Lib.hid h1; have c := C.out w1 h1; clear h1)
    go_ret
    exact ⟨rfl, B1.out⟩
  · have R : s.sl n = bitS sh (n % 1024) := by have := pf (n % 1024) (by omega); simp only [en] at this; exact this
    rw [R]
    unfold bitS
    rw [ez]
    simp only [stA_sh _ _ _ _ hj, p0, ptN, Option.map_some] at C
    have D0 := Lib.hid (fun W (b : Below w.heap.size w W) => (hS.box.lat b).cell (n % 1024 / 64 * 2))
    have D1 := Lib.hid (fun W (b : Below w.heap.size w W) => (hS.box.lat b).cell (n % 1024 / 64 * 2 + 1))
    simp only [shA_at _ (n % 1024 / 64 * 2) (by omega)] at D0
    simp only [shA_at _ (n % 1024 / 64 * 2 + 1) (by omega)] at D1
    have z0 := hS.sz (n % 1024 / 64 * 2)
    have z1 := hS.sz (n % 1024 / 64 * 2 + 1)
    clear h pf R p0 hS
    generalize sh (n % 1024 / 64 * 2) = u at *
    generalize sh (n % 1024 / 64 * 2 + 1) = v at *
    generalize n / 1024 = j at *
    generalize n % 1024 / 64 = y at *
    generalize n % 64 = z at *
    clear en ez hn
    have k0 : ¬ (j : Int) < 0 := by omega
    have k1 : (j : Int) < 16 := by omega
    have k2 : ¬ (y : Int) < 0 := by omega
    have k3 : (y : Int) < 16 := by omega
    cases t0 : u.testBit z with
    | true =>
      have a0 := and_yes u z z0 hz t0
      clear hz
      simp only [if_true]
      generalize 2 ^ z = m at *
      go_enter Tryd.func32, Tryd.ntmps32
      go_wp2_with (go_at_call 44; refine F.out.mono ?_; rintro e w1 ⟨rfl, h1⟩; have B1 := Lib.hid h1; have c := C.out w1 h1; have d0 := D0.out w1 h1; have d1 := D1.out w1 h1; clear h1)
      go_ret
      exact ⟨rfl, B1.out.alloc B1.out.size _⟩
    | false =>
      have a0 := and_no u z z0 hz t0
      cases t1 : v.testBit z with
      | true =>
        have a1 := and_yes v z z1 hz t1
        clear hz
        simp only [if_true, if_false, Bool.false_eq_true]
        generalize 2 ^ z = m at *
        go_enter Tryd.func32, Tryd.ntmps32
        go_wp2_with (go_at_call 44; refine F.out.mono ?_; rintro e w1 ⟨rfl, h1⟩; have B1 := Lib.hid h1; have c := C.out w1 h1; have d0 := D0.out w1 h1; have d1 := D1.out w1 h1; clear h1)
        go_ret
        exact ⟨rfl, B1.out.alloc B1.out.size _⟩
      | false =>
        have a1 := and_no v z z1 hz t1
        clear hz
        simp only [if_true, if_false, Bool.false_eq_true]
        generalize 2 ^ z = m at *
        go_enter Tryd.func32, Tryd.ntmps32
        go_wp2_with (go_at_call 44; refine F.out.mono ?_; rintro e w1 ⟨rfl, h1⟩; have B1 := Lib.hid h1; have c := C.out w1 h1; have d0 := D0.out w1 h1; have d1 := D1.out w1 h1; clear h1)
        go_ret
        exact ⟨rfl, B1.out.alloc B1.out.size _⟩
end Go.Proofs.YteedkcmjhdabeaaDoor

namespace Go.Proofs.YteedkcmjhdabeaaDoor
open Go.RowKit
set_option linter.unusedVariables false
set_option linter.unusedSimpArgs false
theorem gx_refl (r : Option Nat) (w : World) : w.grownBy w r := ⟨rfl, rfl, rfl, Nat.le_refl _, fun _ _ _ => rfl⟩
theorem gx_trans {r : Option Nat} {a b c : World} (h : a.grownBy b r) (k : b.grownBy c r) : a.grownBy c r :=
  ⟨k.os.trans h.os, k.tape.trans h.tape, k.output.trans h.output, Nat.le_trans h.size k.size, fun i hi hr => (k.block i (Nat.lt_of_lt_of_le hi h.size) hr).trans (h.block i hi hr)⟩
theorem gx_new {r : Option Nat} {q : Nat} {a b : World} (h : a.grownBy b r) (hq : a.heap.size ≤ q) (o : Nat) (v : Value) : a.grownBy (b.setCell ⟨q, o, none⟩ v) r := by
  have g := setCell_gr b q o v
  exact ⟨g.os.trans h.os, g.tape.trans h.tape, g.output.trans h.output, Nat.le_trans h.size g.size, fun i hi hr => (g.block i (Nat.lt_of_lt_of_le hi h.size) (by intro e; injection e with e; omega)).trans (h.block i hi hr)⟩
theorem gx_at {p : Nat} {a b : World} (h : a.grownBy b (some p)) (o : Nat) (v : Value) : a.grownBy (b.setCell ⟨p, o, none⟩ v) (some p) := gx_trans h (setCell_gr b p o v)
theorem gx_bel {r : Option Nat} {a b c : World} (h : a.grownBy b r) (k : Below b.heap.size b c) : a.grownBy c r := gx_trans h (gr_below k r)
theorem gx_alloc {r : Option Nat} {a b : World} (h : a.grownBy b r) (o : Obj) : a.grownBy (b.alloc o) r := gx_bel h (allocBP b o)
theorem gx_drew {r : Option Nat} {a b : World} (h : a.grownBy b r) : a.grownBy b.drew r := ⟨h.os, h.tape, h.output, h.size, h.block⟩
theorem gx_out {B p : Nat} {a b : World} (h : a.grownBy b (some p)) (hB : B ≤ p) (hs : B ≤ a.heap.size) : Below B a b := (Below.refl B a).grown h hs (fun k e => by injection e with e; omega)
/-- What has been taken so far. -/
def tkE (n m : Nat) (st : List Nat) (i : Nat) : Nat := if i < n ∧ n - 1 - i < m then st.getD (n - 1 - i) 0 else 0
def tkV (n m : Nat) (st : List Nat) : Array Value := #[.int .u8 ((tkE n m st 0 : Nat) : Int), .int .u8 ((tkE n m st 1 : Nat) : Int), .int .u8 ((tkE n m st 2 : Nat) : Int)]
theorem tkV_next {n m : Nat} {st : List Nat} (hn : n ≤ 3) (hm : m < n) : (tkV n m st).set! (n - 1 - m) (.int .u8 ((st.getD m 0 : Nat) : Int)) = tkV n (m + 1) st := by
  have h3 : n = 1 ∨ n = 2 ∨ n = 3 := by omega
  rcases h3 with rfl | rfl | rfl
  · obtain rfl : m = 0 := by omega
    simp [tkV, tkE]
  · have : m = 0 ∨ m = 1 := by omega
    rcases this with rfl | rfl <;> simp [tkV, tkE]
  · have : m = 0 ∨ m = 1 ∨ m = 2 := by omega
    rcases this with rfl | rfl | rfl <;> simp [tkV, tkE]
def aggS (l : List Nat) : Value := .agg (l.map (fun x => Value.int .u8 ((x : Nat) : Int))).toArray
theorem tkV_end {n : Nat} {st : List Nat} (hn : n ≤ 3) : Value.agg (tkV n n st) = aggS (vTak n st) := by
  have h3 : n = 0 ∨ n = 1 ∨ n = 2 ∨ n = 3 := by omega
  rcases h3 with rfl | rfl | rfl | rfl <;> simp [tkV, tkE, aggS, vTak]
theorem drop_cons {st : List Nat} {k : Nat} (h : k < st.length) : st.drop k = st.getD k 0 :: st.drop (k + 1) := by
  rw [List.drop_eq_getElem_cons h]
  simp [List.getD, h]
theorem stA_set0 (tb tb' h : Nat) (ps : Nat → Option Nat) : (stA tb h ps).set! 0 (.pointer (some ⟨tb', 0, none⟩)) = stA tb' h ps := by simp [stA]
theorem stA_set1 (tb h h' : Nat) (ps : Nat → Option Nat) : (stA tb h ps).set! 1 (.int .i64 (h' : Int)) = stA tb h' ps := by simp [stA]
theorem BkP.set2 {w : World} {b : Nat} {cs : Array Value} {t : TypeId} (h : BkP w b cs t) (k : Nat) (v : Value) (hk : k < cs.size) : BkP (w.setCell ⟨b, k, none⟩ v) b (cs.set! k v) t := by
  have := h.set k v hk
  rw [Array.set!_eq_setIfInBounds]
  simpa [Array.setIfInBounds, hk] using this
theorem boxV3 {w : World} {x : Nat} {a b c : Value} {t : TypeId} (k : BkP w x #[a, b, c] t) : w.cell? ⟨x, 0, none⟩ = some a ∧ w.cell? ⟨x, 1, none⟩ = some b ∧ w.cell? ⟨x, 2, none⟩ = some c := by
  refine ⟨?_, ?_, ?_⟩ <;> simp [k.cell]
structure TakE (w : World) (B : Nat) (G : Tg) (x : Nat) (ps : Nat → Option Nat) (s : Vs) (n : Nat) (e : Ending) (w' : World) : Prop where
  ret : e = .returned (aggS (vTak n s.st))
  sta : ∃ tb, SvR w' B G x tb ps ⟨s.st.drop n, s.sl⟩
  gro : w.grownBy w' (some x)
set_option maxRecDepth 100000 in
set_option maxHeartbeats 1000000 in
theorem takeV_any {w : World} {B : Nat} {G : Tg} {x tb : Nat} {ps : Nat → Option Nat} {s : Vs} (hT : Tri w B G) (h : SvR w B G x tb ps s) (n : Nat) (hn : n ≤ 3) (hl : n ≤ s.st.length) (hz : s.st.length ≤ 262144) :
    Calls Tryd.prog 29 #[.pointer (some ⟨x, 0, none⟩), .int .i64 (n : Int)] w fun e w' => TakE w B G x ps s n e w' := by
  have HX := Lib.hid (p := x < w.heap.size) h.box.lt
  have HS := Lib.hid h
  have HT := Lib.hid hT
  have b0 := h.box
  clear h hT
  go_enter Tryd.func29, Tryd.ntmps29
  go_wp2
  go_loopw [8] (fun t wr => ∃ (k tbk : Nat), k ≤ n ∧ t = .int .i64 (k : Int) ∧ G (s.st.drop k) = some tbk ∧ BkP wr x (stA tbk s.st.length ps) 61 ∧ BkP wr (w.heap.size + 1) (tkV n k s.st) 86 ∧ BkP wr w.heap.size #[.int .u8 0, .int .u8 0, .int .u8 0] 86 ∧ w.grownBy wr (some x)) (fun t _ => n - (intOf t).toNat)
  case atStart =>
    refine ⟨0, tb, by omega, rfl, HS.out.top, ?_, ?_, ?_, ?_⟩
    · exact ((b0.lat (allocBP _ _)).lat (allocBP _ _))
    · have := heapN (w.alloc (.cells #[.int .u8 0, .int .u8 0, .int .u8 0] 86)) (.cells #[.int .u8 0, .int .u8 0, .int .u8 0] 86)
      have e : tkV n 0 s.st = #[.int .u8 0, .int .u8 0, .int .u8 0] := by simp [tkV, tkE]
      rw [e]
      simpa [BkP] using this
    · exact BkP.lat (heapN w (.cells #[.int .u8 0, .int .u8 0, .int .u8 0] 86)) (allocBP _ _)
    · exact gx_alloc (gx_alloc (gx_refl _ _) _) _
  case round =>
    rename World => wr
    obtain ⟨k, tbk, hk, rfl, hg, hX, hK, hR, hgr⟩ := hrel
    clear b0
    by_cases hlt : k < n
    · have kc : (k : Int) < (n : Int) := by omega
      have ks : IntKind.i64.wrap ((k : Int) + 1) = (k : Int) + 1 := by simp [IntKind.wrap, IntKind.bits, IntKind.signed]; omega
      obtain ⟨i, hi⟩ : ∃ i : Nat, n = k + 1 + i := ⟨n - k - 1, by omega⟩
      have n1 : IntKind.i64.wrap ((n : Int) - 1) = (n : Int) - 1 := by simp [IntKind.wrap, IntKind.bits, IntKind.signed]; omega
      have n2 : IntKind.i64.wrap ((n : Int) - 1 - (k : Int)) = (i : Int) := by simp [IntKind.wrap, IntKind.bits, IntKind.signed]; omega
      have i3 : (i : Int) < 3 := by omega
      have dc := drop_cons (st := s.st) (k := k) (by omega)
      rw [dc] at hg
      have ei : n - 1 - k = i := by omega
      have KN := Lib.hid (tkV_next (st := s.st) hn hlt)
      rw [ei] at KN
      generalize hy : s.st.getD k 0 = y at *
      clear hy dc
      obtain ⟨c, hc⟩ := HT.out.pre _ _ _ hg
      have hb : BkP wr tbk (cellA G (y :: s.st.drop (k + 1))) 77 := (HT.out.box _ _ hg).2.grown hgr (by intro q; injection q with q; exact bk_ne (HT.out.box _ _ hg).2 HS.out.box (by decide) q)
      have NE1 : tbk ≠ w.heap.size + 1 := bk_ne hb hK (by decide)
      have NE2 : x ≠ w.heap.size + 1 := bk_ne hX hK (by decide)
      have c0 := hX.cell 0
      have f0 := hX.frozen 0
      rw [stA_top] at c0
      have d0 := hb.cell 0
      have d1 := hb.cell 1
      simp [cellA, blwN, hc, ptN] at d0 d1
      have fK := hK.frozen i
      obtain ⟨vK, cK⟩ : ∃ v, wr.cell? ⟨w.heap.size + 1, i, none⟩ = some v := by
        rw [hK.cell i]
        exact ⟨_, Array.getElem?_eq_getElem (by simp [tkV]; omega)⟩
      have K2 := Lib.hid (hK.set2 i (.int .u8 (y : Int)) (by simp [tkV]; omega))
      have X2 := Lib.hid (hX.other (w.heap.size + 1) i (.int .u8 (y : Int)) (Ne.symm NE2))
      have B2 := Lib.hid (hb.other (w.heap.size + 1) i (.int .u8 (y : Int)) (Ne.symm NE1))
      have R2 := Lib.hid (hR.other (w.heap.size + 1) i (.int .u8 (y : Int)) (by omega))
      have G2 := Lib.hid (gx_new hgr (q := w.heap.size + 1) (by omega) i (.int .u8 (y : Int)))
      have c2 := X2.out.cell 0
      have f2 := X2.out.frozen 0
      rw [stA_top] at c2
      have g0 := B2.out.cell 1
      simp [cellA, blwN, hc, ptN] at g0
      have HI := Lib.hid hi
      clear hb hX hK hR hgr hg hi ei
      go_wp2
      go_roundw
      case rel =>
        refine ⟨k + 1, c, by omega, by go_num, hc, ?_, ?_, ?_, ?_⟩
        · have := X2.out.set2 0 (.pointer (some ⟨c, 0, none⟩)) (by rw [stA_size]; omega)
          rw [stA_set0] at this
          exact this
        · have := K2.out.other x 0 (.pointer (some ⟨c, 0, none⟩)) NE2
          rw [KN.out] at this
          exact this
        · exact R2.out.other x 0 (.pointer (some ⟨c, 0, none⟩)) (by have := HX.out; omega)
        · exact gx_at G2.out 0 _
      case measure => simp [intOf]; omega
    · obtain rfl : k = n := by omega
      have NE1 := Lib.hid (p := x ≠ w.heap.size) (by have := HX.out; omega)
      have NE2 := Lib.hid (p := x ≠ w.heap.size + 1) (by have := HX.out; omega)
      have c1 := hX.cell 1
      have f1 := hX.frozen 1
      rw [stA_ht] at c1
      have w1 : IntKind.i64.wrap ((s.st.length : Int) - (k : Int)) = ((s.st.length - k : Nat) : Int) := by simp [IntKind.wrap, IntKind.bits, IntKind.signed]; omega
      have X2 := Lib.hid (hX.set2 1 (.int .i64 ((s.st.length - k : Nat) : Int)) (by rw [stA_size]; omega))
      have K2 := Lib.hid (hK.other x 1 (.int .i64 ((s.st.length - k : Nat) : Int)) NE2.out)
      have R2 := Lib.hid (hR.other x 1 (.int .i64 ((s.st.length - k : Nat) : Int)) NE1.out)
      have G2 := Lib.hid (gx_at hgr 1 (.int .i64 ((s.st.length - k : Nat) : Int)))
      have VE := Lib.hid (tkV_end (st := s.st) hn)
      have HG := Lib.hid hg
      obtain ⟨k0, k1, k2⟩ := boxV3 K2.out
      obtain ⟨r0, r1, r2⟩ := boxV3 R2.out
      have g0 := R2.out.frozen 0
      have g1 := R2.out.frozen 1
      have g2 := R2.out.frozen 2
      clear hX hK hR hgr hg
      obtain ⟨z, hz2⟩ : ∃ z, s.st.length - k = z := ⟨_, rfl⟩
      have HZ := Lib.hid hz2
      rw [hz2] at w1 X2 K2 R2 G2 k0 k1 k2 r0 r1 r2 g0 g1 g2
      clear hz2
      go_wp2
      have G3 := gx_new (gx_new (gx_new G2.out (q := w.heap.size) (Nat.le_refl _) 0 (.int .u8 ((tkE k k s.st 0 : Nat) : Int))) (q := w.heap.size) (Nat.le_refl _) 1 (.int .u8 ((tkE k k s.st 1 : Nat) : Int))) (q := w.heap.size) (Nat.le_refl _) 2 (.int .u8 ((tkE k k s.st 2 : Nat) : Int))
      have X3 := ((X2.out.other w.heap.size 0 (.int .u8 ((tkE k k s.st 0 : Nat) : Int)) (Ne.symm NE1.out)).other w.heap.size 1 (.int .u8 ((tkE k k s.st 1 : Nat) : Int)) (Ne.symm NE1.out)).other w.heap.size 2 (.int .u8 ((tkE k k s.st 2 : Nat) : Int)) (Ne.symm NE1.out)
      have R3 := ((R2.out.set2 0 (.int .u8 ((tkE k k s.st 0 : Nat) : Int)) (by simp)).set2 1 (.int .u8 ((tkE k k s.st 1 : Nat) : Int)) (by simp)).set2 2 (.int .u8 ((tkE k k s.st 2 : Nat) : Int)) (by simp)
      have R4 := boxV3 (by simpa using R3)
      obtain ⟨q0, q1, q2⟩ := R4
      have ZL := HZ.out
      refine bodyPost_ret (v := .agg (tkV k k s.st)) ?r rfl ?s
      case r => simp [results, Tryd.results29, go_sem, q0, q1, q2, tkV]
      case s =>
        refine ⟨by rw [VE.out], ⟨tbk, ⟨HG.out, ?_, ?_, HS.out.low⟩⟩, G3⟩
        · rw [stA_set1] at X3
          simpa [ZL] using X3
        · exact HS.out.slt.other G3 HS.out.box (by decide)
end Go.Proofs.YteedkcmjhdabeaaDoor

namespace Go.Proofs.YteedkcmjhdabeaaDoor
open Go.RowKit
set_option linter.unusedVariables false
set_option linter.unusedSimpArgs false
/-- What may turn: cells of stacks, and the blocks X; the stacks that were there stay. -/
structure Chg (w w' : World) (B : Nat) (G G' : Tg) (X : Nat → Prop) : Prop where
  tri : Tri w' B G'
  ext : ∀ t b, G t = some b → G' t = some b
  stay : ∀ b y t, BkP w b y t → ¬ X b → t ≠ 77 → BkP w' b y t
  bel : Below B w w'
theorem Chg.trans {a b c : World} {B : Nat} {G H K : Tg} {X : Nat → Prop} (h : Chg a b B G H X) (k : Chg b c B H K X) : Chg a c B G K X :=
  ⟨k.tri, fun t b e => k.ext t b (h.ext t b e), fun d y t e n z => k.stay d y t (h.stay d y t e n z) n z, h.bel.trans (k.bel.mono (Nat.le_refl _))⟩
theorem Chg.mono {a b : World} {B : Nat} {G H : Tg} {X Y : Nat → Prop} (h : Chg a b B G H X) (k : ∀ z, X z → Y z) : Chg a b B G H Y :=
  ⟨h.tri, h.ext, fun d y t e n z => h.stay d y t e (fun q => n (k _ q)) z, h.bel⟩
theorem Chg.refl {a : World} {B : Nat} {G : Tg} {X : Nat → Prop} (h : Tri a B G) : Chg a a B G G X := ⟨h, fun _ _ e => e, fun _ _ _ e _ _ => e, Below.refl _ _⟩
theorem Chg.later {a b c : World} {B : Nat} {G H : Tg} {X : Nat → Prop} (h : Chg a b B G H X) (hB : B ≤ b.heap.size) (k : Below b.heap.size b c) : Chg a c B G H X :=
  ⟨h.tri.later k, h.ext, fun d y t e n z => (h.stay d y t e n z).lat k, h.bel.trans (k.mono hB)⟩
theorem Chg.ofGrown {a b : World} {B : Nat} {G : Tg} {x : Nat} {y : Array Value} {t : TypeId} (h : Tri a B G) (g : a.grownBy b (some x)) (hx : BkP a x y t) (ht : t ≠ 77) (hB : B ≤ x) : Chg a b B G G (fun z => z = x) :=
  ⟨h.other g hx ht, fun _ _ e => e, fun d z u e n _ => e.grown g (by intro q; injection q with q; exact n q), gx_out g hB (Nat.le_of_lt (Nat.lt_of_le_of_lt hB hx.lt))⟩
theorem PaR.chg {a b : World} {B : Nat} {G H : Tg} {X : Nat → Prop} {p : Option Nat} {f : Nat → Nat} (h : PaR a B p f) (k : Chg a b B G H X) (hX : ∀ z y, BkP a z y 113 → ¬ X z) : PaR b B p f := by
  rcases h with h | ⟨d, sh, h1, h2, h3, h4⟩
  · exact .inl h
  · exact .inr ⟨d, sh, h1, h2, ⟨k.stay _ _ _ h3.box (hX _ _ h3.box) (by decide), h3.sz, h3.ap⟩, h4⟩
theorem SlR.chg {a b : World} {B : Nat} {G H : Tg} {X : Nat → Prop} {ps : Nat → Option Nat} {f : Nat → Nat} (h : SlR a B ps f) (k : Chg a b B G H X) (hX : ∀ z y, BkP a z y 113 → ¬ X z) : SlR b B ps f := fun j hj => (h j hj).chg k hX
theorem SvR.chg {a b : World} {B : Nat} {G H : Tg} {X : Nat → Prop} {x tb : Nat} {ps : Nat → Option Nat} {s : Vs} (h : SvR a B G x tb ps s) (k : Chg a b B G H X) (hX : ∀ z y, BkP a z y 113 → ¬ X z) (hx : ¬ X x) : SvR b B H x tb ps s :=
  ⟨k.ext _ _ h.top, k.stay _ _ _ h.box hx (by decide), h.slt.chg k hX, h.low⟩
/-- A new cell upon a stack. -/
def updG (G : Tg) (s : List Nat) (n : Nat) : Tg := fun t => if t = s then some n else G t
theorem tri_put {w : World} {B : Nat} {G : Tg} {st : List Nat} {tb v : Nat} (h : Tri w B G) (hs : G st = some tb) (hn : G (v :: st) = none) (hv : v = 1 ∨ v = 2) (hB : B ≤ w.heap.size) :
    Tri ((w.alloc (.cells #[.int .u8 (v : Int), .pointer (some ⟨tb, 0, none⟩), .pointer none, .pointer none, .pointer none] 77)).setCell ⟨tb, 2 + v, none⟩ (.pointer (some ⟨w.heap.size, 0, none⟩))) B (updG G (v :: st) w.heap.size) := by
  have lt : tb < w.heap.size := (h.box _ _ hs).2.lt
  have ne : st ≠ v :: st := by intro e; have := congrArg List.length e; simp at this
  have up : ∀ y, G (y :: v :: st) = none := fun y => by
    cases e : G (y :: v :: st) with
    | none => rfl
    | some b => obtain ⟨c, hc⟩ := h.pre _ _ _ e; rw [hn] at hc; cases hc
  have Us : updG G (v :: st) w.heap.size st = some tb := by unfold updG; rw [if_neg ne]; exact hs
  have Ui : ∀ t, t ≠ v :: st → updG G (v :: st) w.heap.size t = G t := fun t ht => by unfold updG; rw [if_neg ht]
  have Un : updG G (v :: st) w.heap.size (v :: st) = some w.heap.size := by unfold updG; rw [if_pos rfl]
  refine ⟨?_, ?_, ?_, ?_⟩
  · obtain ⟨r, hr⟩ := h.root
    exact ⟨r, by rw [Ui _ (by simp)]; exact hr⟩
  · intro t b e
    by_cases ht : t = v :: st
    · subst ht
      rw [Un] at e
      injection e with e
      subst e
      refine ⟨hB, ?_⟩
      have k : BkP (w.alloc (.cells #[.int .u8 (v : Int), .pointer (some ⟨tb, 0, none⟩), .pointer none, .pointer none, .pointer none] 77)) w.heap.size _ _ := heapN _ _
      have k2 := k.other tb (2 + v) (.pointer (some ⟨w.heap.size, 0, none⟩)) (by omega)
      have l1 : ∀ y : Nat, (y :: v :: st) ≠ v :: st := by intro y e; have := congrArg List.length e; simp at this
      unfold cellA
      simp only [blwN, Us, Ui _ (l1 1), Ui _ (l1 2), up, List.headD_cons]
      exact k2
    · rw [Ui _ ht] at e
      obtain ⟨b1, b2⟩ := h.box t b e
      refine ⟨b1, ?_⟩
      have bl : blwN (updG G (v :: st) w.heap.size) t = blwN G t := by
        cases t with
        | nil => rfl
        | cons y u =>
          show updG G (v :: st) w.heap.size u = G u
          by_cases hu : u = v :: st
          · subst hu; rw [up] at e; cases e
          · exact Ui _ hu
      by_cases hb : t = st
      · subst hb
        have q : b = tb := by rw [hs] at e; injection e with e; exact e.symm
        subst q
        have k := (b2.lat (allocBP w (.cells #[.int .u8 (v : Int), .pointer (some ⟨b, 0, none⟩), .pointer none, .pointer none, .pointer none] 77))).set2 (2 + v) (.pointer (some ⟨w.heap.size, 0, none⟩)) (by simp [cellA]; omega)
        have ce : (cellA G t).set! (2 + v) (.pointer (some ⟨w.heap.size, 0, none⟩)) = cellA (updG G (v :: t) w.heap.size) t := by
          unfold cellA
          rw [bl]
          rcases hv with rfl | rfl
          · rw [Un, Ui _ (by simp)]
            simp [ptN]
          · rw [Un, Ui _ (by simp)]
            simp [ptN]
        rw [ce] at k
        exact k
      · have c1 : ∀ y : Nat, (y :: t) ≠ v :: st := by intro y e; injection e with _ e; exact hb e
        unfold cellA
        rw [bl, Ui _ (c1 1), Ui _ (c1 2)]
        have nb : tb ≠ b := fun q => hb (h.inj t st tb (by rw [e, q]) hs)
        exact (b2.lat (allocBP _ _)).other tb (2 + v) _ nb
  · intro s t b e1 e2
    have lt2 : ∀ s b, G s = some b → b < w.heap.size := fun s b e => (h.box s b e).2.lt
    by_cases h1 : s = v :: st <;> by_cases h2 : t = v :: st
    · rw [h1, h2]
    · subst h1
      rw [Un] at e1
      rw [Ui _ h2] at e2
      injection e1 with e1
      have := lt2 _ _ e2
      omega
    · subst h2
      rw [Un] at e2
      rw [Ui _ h1] at e1
      injection e2 with e2
      have := lt2 _ _ e1
      omega
    · rw [Ui _ h1] at e1
      rw [Ui _ h2] at e2
      exact h.inj _ _ _ e1 e2
  · intro y u b e
    by_cases h1 : y :: u = v :: st
    · injection h1 with _ h1
      subst h1
      exact ⟨tb, Us⟩
    · rw [Ui _ h1] at e
      obtain ⟨c, hc⟩ := h.pre _ _ _ e
      by_cases h2 : u = v :: st
      · exact ⟨w.heap.size, by rw [h2]; exact Un⟩
      · exact ⟨c, by rw [Ui _ h2]; exact hc⟩
structure PutE (w : World) (B : Nat) (G : Tg) (x : Nat) (ps : Nat → Option Nat) (s : Vs) (v : Nat) (e : Ending) (w' : World) : Prop where
  ret : e = .returned (.tuple #[])
  sta : ∃ G' tb, Chg w w' B G G' (fun z => z = x) ∧ SvR w' B G' x tb ps ⟨v :: s.st, s.sl⟩
theorem put_mk {w w1 : World} {B : Nat} {G G' : Tg} {x tb c : Nat} {ps : Nat → Option Nat} {s : Vs} {v : Nat} (h : SvR w B G x tb ps s) (k : Chg w w1 B G G' (fun z => z = x)) (hx : BkP w1 x (stA tb s.st.length ps) 61) (hc : G' (v :: s.st) = some c) (hz : s.st.length ≤ 262144) :
    PutE w B G x ps s v (.returned (.tuple #[])) ((w1.setCell ⟨x, 0, none⟩ (.pointer (some ⟨c, 0, none⟩))).setCell ⟨x, 1, none⟩ (.int .i64 ((s.st.length : Int) + 1))) := by
  have g : w1.grownBy ((w1.setCell ⟨x, 0, none⟩ (.pointer (some ⟨c, 0, none⟩))).setCell ⟨x, 1, none⟩ (.int .i64 ((s.st.length : Int) + 1))) (some x) := gx_at (gx_at (gx_refl _ _) _ _) _ _
  have X1 := (hx.set2 0 (.pointer (some ⟨c, 0, none⟩)) (by rw [stA_size]; omega))
  rw [stA_set0] at X1
  have X2 := (X1.set2 1 (.int .i64 ((s.st.length + 1 : Nat) : Int)) (by rw [stA_size]; omega))
  rw [stA_set1] at X2
  have cc := Chg.ofGrown k.tri g hx (by decide) h.low
  have sl1 : SlR w1 B ps s.sl := h.slt.chg k (fun z y hz e => bk_ne hz h.box (by decide) e)
  have sl2 := sl1.chg cc (fun z y hz e => bk_ne hz hx (by decide) e)
  refine ⟨rfl, G', c, k.trans cc, ⟨hc, ?_, sl2, h.low⟩⟩
  simpa using X2
set_option maxRecDepth 100000 in
set_option maxHeartbeats 1000000 in
theorem put_old {w : World} {B : Nat} {G : Tg} {x tb : Nat} {ps : Nat → Option Nat} {s : Vs} (hT : Tri w B G) (h : SvR w B G x tb ps s) (v c : Nat) (hv : v = 1 ∨ v = 2) (hz : s.st.length ≤ 262144) (hc : G (v :: s.st) = some c) :
    Calls Tryd.prog 33 #[.pointer (some ⟨x, 0, none⟩), .int .u8 (v : Int)] w fun e w' => PutE w B G x ps s v e w' := by
  have E := Lib.hid (put_mk h (Chg.refl hT) h.box hc hz)
  have c0 := h.box.cell 0
  have c1 := h.box.cell 1
  have f0 := h.box.frozen 0
  have f1 := h.box.frozen 1
  rw [stA_top] at c0
  rw [stA_ht] at c1
  have hb := (hT.box _ _ h.top).2
  have d := hb.cell (2 + v)
  have X1 := (h.box.set2 0 (.pointer (some ⟨c, 0, none⟩)) (by rw [stA_size]; omega))
  rw [stA_set0] at X1
  have e1 := X1.cell 1
  have g1 := X1.frozen 1
  rw [stA_ht] at e1
  have w1 : IntKind.i64.wrap ((s.st.length : Int) + 1) = (s.st.length : Int) + 1 := by simp [IntKind.wrap, IntKind.bits, IntKind.signed]; omega
  have dd : w.cell? ⟨tb, 2 + v, none⟩ = some (.pointer (some ⟨c, 0, none⟩)) := by
    rw [d]
    rcases hv with rfl | rfl <;> simp [cellA, hc, ptN]
  clear d hb X1 h hT hc
  generalize s.st.length = len at *
  rcases hv with rfl | rfl
  all_goals
    go_enter Tryd.func33, Tryd.ntmps33
    go_wp2
    go_end0
    exact E.out
/-- The cell that a new value gets. -/
def newC (v tb : Nat) : Obj := .cells #[.int .u8 (v : Int), .pointer (some ⟨tb, 0, none⟩), .pointer none, .pointer none, .pointer none] 77
theorem chg_put {w : World} {B : Nat} {G : Tg} {st : List Nat} {tb v : Nat} {X : Nat → Prop} (h : Tri w B G) (hs : G st = some tb) (hn : G (v :: st) = none) (hv : v = 1 ∨ v = 2) (hB : B ≤ w.heap.size) :
    Chg w ((w.alloc (newC v tb)).setCell ⟨tb, 2 + v, none⟩ (.pointer (some ⟨w.heap.size, 0, none⟩))) B G (updG G (v :: st) w.heap.size) X := by
  refine ⟨tri_put h hs hn hv hB, ?_, ?_, ?_⟩
  · intro t b e
    unfold updG
    rw [if_neg (by intro q; rw [q, hn] at e; cases e)]
    exact e
  · intro b y t e _ ht
    exact (e.lat (allocBP _ _)).other tb _ _ (fun q => bk_ne e (h.box _ _ hs).2 ht q.symm)
  · have b1 := (h.box _ _ hs).1
    exact ((Below.refl B w).alloc hB _).setCell (p := ⟨tb, 2 + v, none⟩) b1 _
set_option maxRecDepth 100000 in
set_option maxHeartbeats 1000000 in
theorem put_new {w : World} {B : Nat} {G : Tg} {x tb : Nat} {ps : Nat → Option Nat} {s : Vs} (hT : Tri w B G) (h : SvR w B G x tb ps s) (v : Nat) (hv : v = 1 ∨ v = 2) (hz : s.st.length ≤ 262144) (hB : B ≤ w.heap.size) (hc : G (v :: s.st) = none) :
    Calls Tryd.prog 33 #[.pointer (some ⟨x, 0, none⟩), .int .u8 (v : Int)] w fun e w' => PutE w B G x ps s v e w' := by
  have nx : tb ≠ x := bk_ne (hT.box _ _ h.top).2 h.box (by decide)
  have C := chg_put (X := fun z => z = x) hT h.top hc hv hB
  have hb := (hT.box _ _ h.top).2
  have d : w.cell? ⟨tb, 2 + v, none⟩ = some (.pointer none) := by
    rw [hb.cell]
    rcases hv with rfl | rfl <;> simp [cellA, hc, ptN]
  have b1 := hb.lat (allocBP w (newC v tb))
  have d1 : (w.alloc (newC v tb)).cell? ⟨tb, 2 + v, none⟩ = some (.pointer none) := by
    rw [b1.cell]
    rcases hv with rfl | rfl <;> simp [cellA, hc, ptN]
  have d2 := b1.frozen (2 + v)
  have x1 := h.box.lat (allocBP w (newC v tb))
  have x2 := x1.other tb (2 + v) (.pointer (some ⟨w.heap.size, 0, none⟩)) nx
  have E := Lib.hid (put_mk h C x2 (c := w.heap.size) (by unfold updG; rw [if_pos rfl]) hz)
  have c0 := h.box.cell 0
  have a0 := x1.cell 0
  have e0 := x2.cell 0
  have e1 := x2.cell 1
  have f0 := x2.frozen 0
  have f1 := x2.frozen 1
  rw [stA_top] at c0 a0 e0
  rw [stA_ht] at e1
  have X1 := (x2.set2 0 (.pointer (some ⟨w.heap.size, 0, none⟩)) (by rw [stA_size]; omega))
  rw [stA_set0] at X1
  have r1 := X1.cell 1
  have g1 := X1.frozen 1
  rw [stA_ht] at r1
  have w1 : IntKind.i64.wrap ((s.st.length : Int) + 1) = (s.st.length : Int) + 1 := by simp [IntKind.wrap, IntKind.bits, IntKind.signed]; omega
  unfold newC at *
  clear hb b1 x1 x2 X1 C h hT hc nx hB
  generalize s.st.length = len at *
  rcases hv with rfl | rfl
  all_goals
    simp only [Nat.reduceAdd, show ((1 : Nat) : Int) = 1 from rfl, show ((2 : Nat) : Int) = 2 from rfl] at d d1 d2 a0 e0 e1 f0 f1 r1 g1 E ⊢
    go_enter Tryd.func33, Tryd.ntmps33
    go_wp2
    go_end0
    exact E.out
theorem put_any {w : World} {B : Nat} {G : Tg} {x tb : Nat} {ps : Nat → Option Nat} {s : Vs} (hT : Tri w B G) (h : SvR w B G x tb ps s) (v : Nat) (hv : v = 1 ∨ v = 2) (hz : s.st.length ≤ 262144) (hB : B ≤ w.heap.size) :
    Calls Tryd.prog 33 #[.pointer (some ⟨x, 0, none⟩), .int .u8 (v : Int)] w fun e w' => PutE w B G x ps s v e w' := by
  cases hc : G (v :: s.st) with
  | none => exact put_new hT h v hv hz hB hc
  | some c => exact put_old hT h v c hv hz hc
end Go.Proofs.YteedkcmjhdabeaaDoor

namespace Go.Proofs.YteedkcmjhdabeaaDoor
open Go.RowKit
set_option linter.unusedVariables false
set_option linter.unusedSimpArgs false
theorem eqItems_all {P : Program} {w : World} {d e c : Nat} {xs ys : Array Value} (q : Nat → Bool) : ∀ (is : List Nat), (∀ i ∈ is, ∃ a b, (part e xs (i * c)).run P w = .ok a w ∧ (part e ys (i * c)).run P w = .ok b w ∧ (Op.equalIn d e a b).run P w = .ok (q i) w) → (Op.eqItems d e c xs ys is).run P w = .ok (is.all q) w
  | [], _ => by simp [Op.eqItems]
  | i :: is, h => by
    obtain ⟨a, b, h1, h2, h3⟩ := h i (by simp)
    have ih := eqItems_all (P := P) (w := w) q is (fun j hj => h j (by simp [hj]))
    simp only [Op.eqItems, Sem.run_bind, h1, h2, h3, Result.andThen_ok]
    cases hq : q i
    · simp [hq]
    · simp [hq, ih]
theorem part_one {P : Program} {w : World} {e : TypeId} {xs : Array Value} {o : Nat} {v : Value} (he : (isAgg e).run P w = .ok false w) (h : xs[o]? = some v) : (part e xs o).run P w = .ok v w := by
  simp [part, Sem.run_bind, he, h]
theorem eq_int {P : Program} {w : World} {d t : Nat} {k : IntKind} {a b : Int} (h : P.underlying t = some (.int k)) : (Op.equalIn (d + 1) t (.int k a) (.int k b)).run P w = .ok (a == b) w := by
  simp [Op.equalIn, Sem.run_bind, run_underlying h]
theorem eq_ptr {P : Program} {w : World} {d t te : Nat} {i : TypeInfo} (h : P.underlying t = some (.pointer te)) (hi : P.info? te = some i) (hz : P.cellsOf te ≠ 0) (p q : Option Nat) (hp : ∀ b, p = some b → ∃ c u, BkP w b c u) (hq : ∀ b, q = some b → ∃ c u, BkP w b c u) :
    (Op.equalIn (d + 1) t (ptN p) (ptN q)).run P w = .ok (decide (p = q)) w := by
  cases p with
  | none =>
    cases q with
    | none => simp [Op.equalIn, Sem.run_bind, run_underlying h, ptN]
    | some b => simp [Op.equalIn, Sem.run_bind, run_underlying h, ptN]
  | some a =>
    cases q with
    | none => simp [Op.equalIn, Sem.run_bind, run_underlying h, ptN]
    | some b =>
      simp only [Op.equalIn, Sem.run_bind, run_underlying h, ptN, Option.map_some, Result.andThen_ok, run_sizeOf w hi, ne_eq, hz, not_false_eq_true, if_true]
      by_cases e : a = b
      · subst e
        rw [run_sameAddr_same]
        simp
      · obtain ⟨c1, t1, k1⟩ := hp a rfl
        obtain ⟨c2, t2, k2⟩ := hq b rfl
        rw [run_sameAddr_other w (a := ⟨a, 0, none⟩) (b := ⟨b, 0, none⟩) (by intro q; injection q with q; exact e q) k1 k2]
        simp [e]
theorem bin_ptr {P : Program} {w : World} {t : Nat} {p q : Option Nat} {b : Bool} (h : (Op.equalIn 10000 t (ptN p) (ptN q)).run P w = .ok b w) : (binOp .eql t (ptN p) (ptN q)).run P w = .ok (.bool b) w := by
  unfold ptN at h ⊢
  cases p <;> cases q <;> simp [binOp, Op.equal, Op.maxDepth, Sem.run_bind] at h ⊢ <;> simp [h]
theorem all_range {n : Nat} {q : Nat → Bool} {p : Prop} [Decidable p] (h : (∀ i, i < n → q i = true) ↔ p) : (List.range n).all q = decide p := by
  rw [Bool.eq_iff_iff, List.all_eq_true, decide_eq_true_eq, ← h]
  exact ⟨fun z i hi => z i (List.mem_range.2 hi), fun z i hi => z i (List.mem_range.1 hi)⟩
theorem agg88 (w : World) : (isAgg 74).run Tryd.prog w = .ok false w := by
  simp [isAgg, Sem.run_bind, go_sem]
theorem eq_sorts (w : World) (x y z a b c : Nat) : (Op.equalIn 10000 86 (.agg #[.int .u8 (x : Int), .int .u8 (y : Int), .int .u8 (z : Int)]) (.agg #[.int .u8 (a : Int), .int .u8 (b : Int), .int .u8 (c : Int)])).run Tryd.prog w = .ok (decide ([x, y, z] = [a, b, c])) w := by
  have hu : Tryd.prog.underlying 86 = some (.array 3 74) := by kernel_rfl
  obtain ⟨i, hi⟩ := info_of_underlying (P := Tryd.prog) (t := 74) (d := .int .u8) (by kernel_rfl)
  have hc : Tryd.prog.cellsOf 74 = 1 := by kernel_rfl
  rw [run_equalIn_array w 9999 _ _ hu hi, hc]
  have A : (List.range 3).all (fun i => ([x, y, z].getD i 0 : Int) == ([a, b, c].getD i 0 : Int)) = decide ([x, y, z] = [a, b, c]) := by
    apply all_range
    constructor
    · intro h
      have h0 := h 0 (by omega)
      have h1 := h 1 (by omega)
      have h2 := h 2 (by omega)
      simp at h0 h1 h2
      simp only [List.cons.injEq, and_true]
      omega
    · intro h i hi
      rw [h]
      simp
  rw [← A]
  apply eqItems_all
  intro i hi
  have hi := List.mem_range.1 hi
  refine ⟨.int .u8 ([x, y, z].getD i 0 : Int), .int .u8 ([a, b, c].getD i 0 : Int), part_one (agg88 w) ?_, part_one (agg88 w) ?_, eq_int (by kernel_rfl)⟩
  · rcases (show i = 0 ∨ i = 1 ∨ i = 2 by omega) with rfl | rfl | rfl <;> rfl
  · rcases (show i = 0 ∨ i = 1 ∨ i = 2 by omega) with rfl | rfl | rfl <;> rfl
/-- The sixteen sheets of a set, as a value's cells. -/
def psV (ps : Nat → Option Nat) : Array Value := ((List.range 16).map (fun j => ptN (ps j))).toArray
theorem psV_at (ps : Nat → Option Nat) (j : Nat) (hj : j < 16) : (psV ps)[j]? = some (ptN (ps j)) := by
  unfold psV
  simp [hj]
theorem agg63 (w : World) : (isAgg 57).run Tryd.prog w = .ok false w := by
  simp [isAgg, Sem.run_bind, go_sem]
theorem eq_slots (w : World) (ps qs : Nat → Option Nat) (hp : ∀ j, j < 16 → ∀ b, ps j = some b → ∃ c u, BkP w b c u) (hq : ∀ j, j < 16 → ∀ b, qs j = some b → ∃ c u, BkP w b c u) :
    (Op.equalIn 10000 59 (.agg (psV ps)) (.agg (psV qs))).run Tryd.prog w = .ok ((List.range 16).all (fun j => decide (ps j = qs j))) w := by
  have hu : Tryd.prog.underlying 59 = some (.array 16 57) := by kernel_rfl
  have hs : Tryd.prog.underlying 57 = some (.pointer 113) := by kernel_rfl
  obtain ⟨i, hi⟩ := info_of_underlying hs
  obtain ⟨i2, hi2⟩ := info_of_underlying (P := Tryd.prog) (t := 113) (d := .array 16 111) (by kernel_rfl)
  have hc : Tryd.prog.cellsOf 57 = 1 := by kernel_rfl
  have hz : Tryd.prog.cellsOf 113 = 32 := by kernel_rfl
  rw [run_equalIn_array w 9999 _ _ hu hi, hc]
  apply eqItems_all
  intro i hi
  have hi := List.mem_range.1 hi
  exact ⟨ptN (ps i), ptN (qs i), part_one (agg63 w) (by rw [Nat.mul_one]; exact psV_at ps i hi), part_one (agg63 w) (by rw [Nat.mul_one]; exact psV_at qs i hi), eq_ptr hs hi2 (by rw [hz]; decide) _ _ (hp i hi) (hq i hi)⟩
theorem eq_page (w : World) (a b c d : Int) : (Op.equalIn 9999 111 (.agg #[.int .u64 a, .int .u64 b]) (.agg #[.int .u64 c, .int .u64 d])).run Tryd.prog w = .ok ((a == c) && (b == d)) w := by
  go_simp
  cases h1 : (a == c) <;> cases h2 : (b == d) <;> simp_all
theorem shA_ex (sh : Nat → Nat) (i : Nat) (hi : i < 16) : (shA sh).extract (i * 2) (i * 2 + 2) = #[.int .u64 ((sh (i * 2) : Nat) : Int), .int .u64 ((sh (i * 2 + 1) : Nat) : Int)] := by
  apply Array.ext
  · simp [shA]; omega
  · intro k h1 h2
    have hk : k < 2 := by simpa using h2
    rcases (show k = 0 ∨ k = 1 by omega) with rfl | rfl <;> simp [shA]
theorem agg140 (w : World) : (isAgg 111).run Tryd.prog w = .ok true w := by
  simp [isAgg, Sem.run_bind, go_sem]
theorem part_page {w : World} (sh : Nat → Nat) (i : Nat) (hi : i < 16) : (part 111 (shA sh) (i * 2)).run Tryd.prog w = .ok (.agg #[.int .u64 ((sh (i * 2) : Nat) : Int), .int .u64 ((sh (i * 2 + 1) : Nat) : Int)]) w := by
  obtain ⟨j, hj⟩ := info_of_underlying (P := Tryd.prog) (t := 111) Tryd.underlying111
  have hc : Tryd.prog.cellsOf 111 = 2 := by kernel_rfl
  simp only [part, Sem.run_bind, agg140 w, Result.andThen_ok, if_true, run_sizeOf w hj, hc, Sem.run_pure, shA_ex sh i hi]
theorem eq_sheet (w : World) (a b : Nat → Nat) : (Op.equalIn 10000 113 (.agg (shA a)) (.agg (shA b))).run Tryd.prog w = .ok ((List.range 16).all (fun j => ((a (j * 2) : Int) == (b (j * 2) : Int)) && ((a (j * 2 + 1) : Int) == (b (j * 2 + 1) : Int)))) w := by
  have hu : Tryd.prog.underlying 113 = some (.array 16 111) := by kernel_rfl
  obtain ⟨j, hj⟩ := info_of_underlying (P := Tryd.prog) (t := 111) Tryd.underlying111
  have hc : Tryd.prog.cellsOf 111 = 2 := by kernel_rfl
  rw [run_equalIn_array w 9999 _ _ hu hj, hc]
  apply eqItems_all
  intro i hi
  have hi := List.mem_range.1 hi
  exact ⟨_, _, part_page a i hi, part_page b i hi, eq_page w _ _ _ _⟩
theorem sheet_eq {a b : Nat → Nat} (h : (List.range 16).all (fun j => ((a (j * 2) : Int) == (b (j * 2) : Int)) && ((a (j * 2 + 1) : Int) == (b (j * 2 + 1) : Int))) = true) (k : Nat) (hk : k < 32) : a k = b k := by
  rw [List.all_eq_true] at h
  have := h (k / 2) (List.mem_range.2 (by omega))
  simp only [Bool.and_eq_true, beq_iff_eq] at this
  rcases (show k = k / 2 * 2 ∨ k = k / 2 * 2 + 1 by omega) with e | e
  · rw [e]; omega
  · rw [e]; omega
theorem slots_eq {ps qs : Nat → Option Nat} (h : (List.range 16).all (fun j => decide (ps j = qs j)) = true) (k : Nat) (hk : k < 16) : ps k = qs k := by
  rw [List.all_eq_true] at h
  exact of_decide_eq_true (h k (List.mem_range.2 hk))
end Go.Proofs.YteedkcmjhdabeaaDoor

namespace Go.Proofs.YteedkcmjhdabeaaDoor
open Go.RowKit
set_option linter.unusedVariables false
set_option linter.unusedSimpArgs false
/-- The rules, where the world holds them. -/
def Rul (w : World) : Prop := 0 < w.heap.size ∧ ∀ k : Nat, k < 29 → w.cell? ⟨0, k * 4, none⟩ = some (.int .u8 (((wtA k).getD 0 0 : Nat) : Int)) ∧ w.cell? ⟨0, k * 4 + 1, none⟩ = some (.int .u8 (((wtA k).getD 1 0 : Nat) : Int)) ∧ w.cell? ⟨0, k * 4 + 2, none⟩ = some (.int .u8 (((wtA k).getD 2 0 : Nat) : Int)) ∧ w.cell? ⟨0, k * 4 + 3, none⟩ = some (.int .u8 ((psA k : Nat) : Int))
theorem Rul.later {w w' : World} {n : Nat} (h : Rul w) (b : Below n w w') (hn : w.heap.size ≤ n) : Rul w' := by
  refine ⟨Nat.lt_of_lt_of_le h.1 b.size, fun k hk => ?_⟩
  have g : ∀ o, w'.cell? ⟨0, o, none⟩ = w.cell? ⟨0, o, none⟩ := fun o => b.cell (p := ⟨0, o, none⟩) (Nat.lt_of_lt_of_le h.1 hn)
  rw [g, g, g, g]
  exact h.2 k hk
theorem Rul.bel {B : Nat} {w w' : World} (h : Rul w) (b : Below B w w') (hb : 0 < B) : Rul w' := by
  refine ⟨Nat.lt_of_lt_of_le h.1 b.size, fun k hk => ?_⟩
  have g : ∀ o, w'.cell? ⟨0, o, none⟩ = w.cell? ⟨0, o, none⟩ := fun o => b.cell (p := ⟨0, o, none⟩) hb
  rw [g, g, g, g]
  exact h.2 k hk
theorem Rul.lat {w w' : World} (h : Rul w) (b : Below w.heap.size w w') : Rul w' := h.later b (Nat.le_refl _)
set_option maxRecDepth 100000 in
set_option maxHeartbeats 1000000 in
theorem takesAll_any {w : World} (hR : Rul w) (k : Nat) (hk : k < 29) (x y z : Nat) :
    Calls Tryd.prog 30 #[.int .i64 (k : Int), aggS [x, y, z]] w fun e w' => e = .returned (.bool (decide (wtA k = [x, y, z] ∨ wtA k = [3, 0, 0]))) ∧ Below w.heap.size w w' := by
  obtain ⟨c0, c1, c2, c3⟩ := (hR.lat (allocBP w (.cells #[.int .u8 (x : Int), .int .u8 (y : Int), .int .u8 (z : Int)] 86))).2 k hk
  have k0 : ¬ (k : Int) < 0 := by omega
  have k1 : (k : Int) < 29 := by omega
  have l3 := (wt_facts k hk).1
  obtain ⟨a, b, c, hw⟩ : ∃ a b c, wtA k = [a, b, c] := by
    match h : wtA k, l3 with
    | [a, b, c], _ => exact ⟨a, b, c, rfl⟩
  rw [hw] at c0 c1 c2 ⊢
  simp only [List.getD_cons_zero, List.getD_cons_succ] at c0 c1 c2
  clear hR l3 hw c3 hk
  have hs : ∀ u v t : Nat, aggS [u, v, t] = .agg #[.int .u8 (u : Int), .int .u8 (v : Int), .int .u8 (t : Int)] := fun _ _ _ => rfl
  rw [hs]
  clear hs
  have E1 := fun W => eq_sorts W a b c x y z
  have E2 := fun W => eq_sorts W a b c 3 0 0
  simp only [show ((3 : Nat) : Int) = 3 from rfl, show ((0 : Nat) : Int) = 0 from rfl] at E2
  by_cases e1 : [a, b, c] = [x, y, z]
  · have R := Lib.hid (p := decide ([a, b, c] = [x, y, z] ∨ [a, b, c] = [3, 0, 0]) = true) (decide_eq_true (.inl e1))
    rw [R.out]
    simp only [decide_eq_true e1] at E1
    clear R e1 E2
    go_enter Tryd.func30, Tryd.ntmps30
    go_wp2
    go_ret
    exact ⟨rfl, ((Below.refl _ _).alloc (Nat.le_refl _) _).alloc (by simp) _⟩
  · simp only [decide_eq_false e1] at E1
    by_cases e2 : [a, b, c] = [3, 0, 0]
    · have R := Lib.hid (p := decide ([a, b, c] = [x, y, z] ∨ [a, b, c] = [3, 0, 0]) = true) (decide_eq_true (.inr e2))
      rw [R.out]
      simp only [decide_eq_true e2] at E2
      clear R e1 e2
      go_enter Tryd.func30, Tryd.ntmps30
      go_wp2
      go_ret
      exact ⟨rfl, ((Below.refl _ _).alloc (Nat.le_refl _) _).alloc (by simp) _⟩
    · have R := Lib.hid (p := decide ([a, b, c] = [x, y, z] ∨ [a, b, c] = [3, 0, 0]) = false) (decide_eq_false (fun q => q.elim e1 e2))
      rw [R.out]
      simp only [decide_eq_false e2] at E2
      clear R e1 e2
      go_enter Tryd.func30, Tryd.ntmps30
      go_wp2
      go_ret
      exact ⟨rfl, ((Below.refl _ _).alloc (Nat.le_refl _) _).alloc (by simp) _⟩
end Go.Proofs.YteedkcmjhdabeaaDoor

namespace Go.Proofs.YteedkcmjhdabeaaDoor
open Go.RowKit
set_option linter.unusedVariables false
set_option linter.unusedSimpArgs false
theorem orV (v k : Nat) (hv : v < 18446744073709551616) (hk : k < 64) : ∃ u : Nat, bits .or .u64 (v : Int) ((2 ^ k : Nat) : Int) = (u : Int) ∧ u < 18446744073709551616 ∧ ∀ i, i < 64 → u.testBit i = (v.testBit i || decide (i = k)) := by
  rw [u64_or_nat v (2 ^ k) hv (pow_lt64V hk)]
  refine ⟨_, rfl, ?_, fun i _ => ?_⟩
  · have := Nat.or_lt_two_pow (n := 64) (x := v) (y := 2 ^ k) (by simpa using hv) (by simpa using pow_lt64V hk)
    simpa using this
  · rw [Nat.testBit_or, Nat.testBit_two_pow]; congr 1; simp [eq_comm]
theorem andNotV (v k : Nat) (hv : v < 18446744073709551616) (hk : k < 64) : ∃ u : Nat, bits .andNot .u64 (v : Int) ((2 ^ k : Nat) : Int) = (u : Int) ∧ u < 18446744073709551616 ∧ ∀ i, i < 64 → u.testBit i = (v.testBit i && !decide (i = k)) := by
  rw [u64_andNot_nat v (2 ^ k) hv (pow_lt64V hk)]
  refine ⟨_, rfl, Nat.lt_of_le_of_lt Nat.and_le_left hv, fun i hi => ?_⟩
  rw [Nat.testBit_and]
  congr 1
  have := Nat.testBit_two_pow_sub_succ (n := 64) (x := 2 ^ k) (by simpa using pow_lt64V hk) i
  rw [show (18446744073709551615 : Nat) - 2 ^ k = 2 ^ 64 - (2 ^ k + 1) by omega, this, decide_eq_true hi, Nat.testBit_two_pow]
  simp [eq_comm]
def shU (sh : Nat → Nat) (y u v : Nat) : Nat → Nat := fun k => if k = y * 2 then u else if k = y * 2 + 1 then v else sh k
/-- A sheet's words: what is asked of them. -/
def shOk (sh : Nat → Nat) : Prop := (∀ k, sh k < 18446744073709551616) ∧ ∀ g, g < 16 → ∀ i, i < 64 → ¬ ((sh (g * 2)).testBit i = true ∧ (sh (g * 2 + 1)).testBit i = true)
theorem sheet_upd {sh : Nat → Nat} (h : shOk sh) {n0 u v t : Nat} (hn : n0 < 1024) (hu : u < 18446744073709551616) (hv : v < 18446744073709551616) (ht : t = 1 ∨ t = 2)
    (bu : ∀ i, i < 64 → u.testBit i = if t = 1 then ((sh (n0 / 64 * 2)).testBit i || decide (i = n0 % 64)) else ((sh (n0 / 64 * 2)).testBit i && !decide (i = n0 % 64)))
    (bv : ∀ i, i < 64 → v.testBit i = if t = 2 then ((sh (n0 / 64 * 2 + 1)).testBit i || decide (i = n0 % 64)) else ((sh (n0 / 64 * 2 + 1)).testBit i && !decide (i = n0 % 64))) :
    shOk (shU sh (n0 / 64) u v) ∧ ∀ m, m < 1024 → bitS (shU sh (n0 / 64) u v) m = if m = n0 then t else bitS sh m := by
  have e0 : ∀ g, shU sh (n0 / 64) u v (g * 2) = if g = n0 / 64 then u else sh (g * 2) := fun g => by
    unfold shU
    by_cases e : g = n0 / 64
    · rw [if_pos (by omega), if_pos e]
    · rw [if_neg (by omega), if_neg (by omega), if_neg e]
  have e1 : ∀ g, shU sh (n0 / 64) u v (g * 2 + 1) = if g = n0 / 64 then v else sh (g * 2 + 1) := fun g => by
    unfold shU
    by_cases e : g = n0 / 64
    · rw [if_neg (by omega), if_pos (by omega), if_pos e]
    · rw [if_neg (by omega), if_neg (by omega), if_neg e]
  refine ⟨⟨fun k => ?_, fun g hg i hi => ?_⟩, fun m hm => ?_⟩
  · unfold shU
    split
    · exact hu
    split
    · exact hv
    · exact h.1 k
  · rw [e0, e1]
    by_cases e : g = n0 / 64
    · rw [if_pos e, if_pos e, bu i hi, bv i hi]
      have := h.2 g hg i hi
      rw [e] at this
      rcases ht with rfl | rfl
      · rw [if_pos rfl, if_neg (by decide)]
        generalize (sh (n0 / 64 * 2)).testBit i = a at *
        generalize (sh (n0 / 64 * 2 + 1)).testBit i = b at *
        cases a <;> cases b <;> simp at this ⊢
      · rw [if_neg (by decide), if_pos rfl]
        generalize (sh (n0 / 64 * 2)).testBit i = a at *
        generalize (sh (n0 / 64 * 2 + 1)).testBit i = b at *
        cases a <;> cases b <;> simp at this ⊢
    · rw [if_neg e, if_neg e]
      exact h.2 g hg i hi
  · unfold bitS
    rw [e0, e1]
    have hi : m % 64 < 64 := by omega
    have ap := h.2 (m / 64) (by omega) (m % 64) hi
    by_cases e : m / 64 = n0 / 64
    · rw [if_pos e, if_pos e, bu _ hi, bv _ hi, ← e]
      by_cases e2 : m % 64 = n0 % 64
      · have : m = n0 := by omega
        rw [if_pos this]
        rcases ht with rfl | rfl <;> simp [e2]
      · have : m ≠ n0 := by intro q; rw [q] at e2; exact e2 rfl
        rw [if_neg this]
        rcases ht with rfl | rfl <;> simp [e2]
    · have : m ≠ n0 := by intro q; rw [q] at e; exact e rfl
      rw [if_neg e, if_neg e, if_neg this]
theorem shA_upd (sh : Nat → Nat) (y u v : Nat) (hy : y < 16) : ((shA sh).set! (y * 2) (.int .u64 (u : Int))).set! (y * 2 + 1) (.int .u64 (v : Int)) = shA (shU sh y u v) := by
  apply Array.ext
  · simp [shA]
  · intro k h1 h2
    have hk : k < 32 := by simpa [shA] using h2
    simp only [Array.set!_eq_setIfInBounds, Array.getElem_setIfInBounds, shA, shU]
    by_cases e1 : k = y * 2 + 1
    · subst e1; simp
    · by_cases e0 : k = y * 2
      · subst e0; simp
      · simp [e0, e1, Ne.symm e0, Ne.symm e1]
theorem zero_sh : (#[.int .u64 0, .int .u64 0, .int .u64 0, .int .u64 0, .int .u64 0, .int .u64 0, .int .u64 0, .int .u64 0, .int .u64 0, .int .u64 0, .int .u64 0, .int .u64 0, .int .u64 0, .int .u64 0, .int .u64 0, .int .u64 0, .int .u64 0, .int .u64 0, .int .u64 0, .int .u64 0, .int .u64 0, .int .u64 0, .int .u64 0, .int .u64 0, .int .u64 0, .int .u64 0, .int .u64 0, .int .u64 0, .int .u64 0, .int .u64 0, .int .u64 0, .int .u64 0] : Array Value) = shA (fun _ => 0) := rfl
theorem sh_info : (Tryd.prog.info? 113).map (·.size) = some 32 := by kernel_rfl
theorem load_sh {ops : Array Oper} {rest : List Oper} {op : Oper} {a : Act} {w : World} {Q : Exit → Act → World → Prop} (hgd : op.guard = none) (x : Operand) (ho : op.op = .load 113 x) (b : Nat) (hx : a.eval x = .pointer (some ⟨b, 0, none⟩)) (sh : Nat → Nat) (hb : BkP w b (shA sh) 113) (h : wpList Tryd.prog ops Q rest (a.put op.dst (.agg (shA sh))) w) : wpList Tryd.prog ops Q (op :: rest) a w := by
  have hr := World.rangeAt_of_block hb 0 32
  have he : (shA sh).extract 0 (0 + 32) = shA sh := by
    have := shA_size sh
    simp only [Nat.zero_add]
    rw [← this, Array.extract_size]
  rw [he] at hr
  refine wpList_load_mid hgd 113 x ho b 0 hx (shA sh).toList (.array 16 111) hr (by kernel_rfl) rfl (by rw [sh_info]; simp [shA]) ?_
  simpa using h
theorem one_sh (sh : Nat → Nat) : (shA sh).all (·.oneCell') = true := by
  unfold shA
  apply all_oneCell_toArray
  intro v hv
  obtain ⟨k, _, rfl⟩ := List.mem_map.1 hv
  rfl
theorem store_sh {ops : Array Oper} {rest : List Oper} {op : Oper} {a : Act} {w : World} {Q : Exit → Act → World → Prop} (hgd : op.guard = none) (x y : Operand) (ho : op.op = .store 113 x y) (c : Array Value) (hc : c.size = 32) (sh : Nat → Nat) (hx : a.eval x = .pointer (some ⟨w.heap.size, 0, none⟩)) (hy : a.eval y = .agg (shA sh)) (h : wpList Tryd.prog ops Q rest (a.put op.dst undef) (w.alloc (.cells (shA sh) 113))) : wpList Tryd.prog ops Q (op :: rest) a (w.alloc (.cells c 113)) := by
  refine wpList_plain hgd fun _ hK => ?_
  have hK := hK _ _ h
  unfold Oper.wp execOp
  simp only [ho, hx, hy, Instr.storeAt, Instr.sureAddr, Sem.run_bind, Sem.run_pure, Result.andThen_ok, run_storeVar_new w 113 c (shA sh) (by rw [sh_info, shA_size]) (by rw [hc, shA_size]) (one_sh sh)]
  exact hK
end Go.Proofs.YteedkcmjhdabeaaDoor

namespace Go.Proofs.YteedkcmjhdabeaaDoor
open Go.RowKit
set_option linter.unusedVariables false
set_option linter.unusedSimpArgs false
abbrev zl32 : Array Value := #[.int .u64 0, .int .u64 0, .int .u64 0, .int .u64 0, .int .u64 0, .int .u64 0, .int .u64 0, .int .u64 0, .int .u64 0, .int .u64 0, .int .u64 0, .int .u64 0, .int .u64 0, .int .u64 0, .int .u64 0, .int .u64 0, .int .u64 0, .int .u64 0, .int .u64 0, .int .u64 0, .int .u64 0, .int .u64 0, .int .u64 0, .int .u64 0, .int .u64 0, .int .u64 0, .int .u64 0, .int .u64 0, .int .u64 0, .int .u64 0, .int .u64 0, .int .u64 0]
def V0 (w : World) (sh : Nat → Nat) : World := w.alloc (.cells (shA sh) 113)
def V1 (w : World) (sh : Nat → Nat) (y : Nat) : World := (V0 w sh).alloc (.cells #[.int .u64 ((sh (y * 2) : Nat) : Int), .int .u64 ((sh (y * 2 + 1) : Nat) : Int)] 111)
def V2 (w : World) (sh : Nat → Nat) (y u : Nat) : World := (V1 w sh y).setCell ⟨w.heap.size, y * 2, none⟩ (.int .u64 (u : Int))
def V3 (w : World) (sh : Nat → Nat) (y u v : Nat) : World := (V2 w sh y u).setCell ⟨w.heap.size, y * 2 + 1, none⟩ (.int .u64 (v : Int))
def V4 (w : World) (sh : Nat → Nat) (y u v x j : Nat) : World := (V3 w sh y u v).setCell ⟨x, 2 + j, none⟩ (.pointer (some ⟨w.heap.size, 0, none⟩))
structure KeepF (w : World) (sh : Nat → Nat) (y u v x j : Nat) (p : Option Nat) : Prop where
  a0 : (V0 w sh).cell? ⟨x, 2 + j, none⟩ = some (ptN p)
  a1 : (V0 w sh).cell? ⟨w.heap.size, y * 2, none⟩ = some (.int .u64 ((sh (y * 2) : Nat) : Int))
  a2 : (V0 w sh).cell? ⟨w.heap.size, y * 2 + 1, none⟩ = some (.int .u64 ((sh (y * 2 + 1) : Nat) : Int))
  b0 : ∃ z, (V1 w sh y).cell? ⟨w.heap.size, y * 2, none⟩ = some z
  b1 : (V1 w sh y).frozen? ⟨w.heap.size, y * 2, none⟩ = false
  c0 : ∃ z, (V2 w sh y u).cell? ⟨w.heap.size, y * 2 + 1, none⟩ = some z
  c1 : (V2 w sh y u).frozen? ⟨w.heap.size, y * 2 + 1, none⟩ = false
  d0 : ∃ z, (V3 w sh y u v).cell? ⟨x, 2 + j, none⟩ = some z
  d1 : (V3 w sh y u v).frozen? ⟨x, 2 + j, none⟩ = false
  d2 : BkP (V3 w sh y u v) w.heap.size (shA (shU sh y u v)) 113
theorem keep_facts {w : World} {B : Nat} {G : Tg} {x tb : Nat} {ps : Nat → Option Nat} {s : Vs} (h : SvR w B G x tb ps s) {j y : Nat} (hj : j < 16) (hy : y < 16) (sh : Nat → Nat) (u v : Nat) : KeepF w sh y u v x j (ps j) := by
  have X0 : BkP (V0 w sh) x _ _ := h.box.lat (allocBP _ _)
  have X1 : BkP (V1 w sh y) x _ _ := X0.lat (allocBP _ _)
  have nx : w.heap.size ≠ x := fun e => by have := h.box.lt; omega
  have X2 : BkP (V2 w sh y u) x _ _ := X1.other w.heap.size _ _ nx
  have X3 : BkP (V3 w sh y u v) x _ _ := X2.other w.heap.size _ _ nx
  have C0 : BkP (V0 w sh) w.heap.size (shA sh) 113 := heapN _ _
  have C1 : BkP (V1 w sh y) w.heap.size (shA sh) 113 := C0.lat (allocBP _ _)
  have C2 : BkP (V2 w sh y u) w.heap.size _ _ := C1.set2 (y * 2) (.int .u64 (u : Int)) (by rw [shA_size]; omega)
  have C3 : BkP (V3 w sh y u v) w.heap.size _ _ := C2.set2 (y * 2 + 1) (.int .u64 (v : Int)) (by simp [shA]; omega)
  refine ⟨?_, ?_, ?_, ?_, C1.frozen _, ?_, C2.frozen _, ?_, X3.frozen _, ?_⟩
  · rw [X0.cell, stA_sh _ _ _ _ hj]
  · rw [C0.cell, shA_at _ _ (by omega)]
  · rw [C0.cell, shA_at _ _ (by omega)]
  · exact ⟨_, by rw [C1.cell, shA_at _ _ (by omega)]⟩
  · rw [C2.cell]
    exact ⟨_, Array.getElem?_eq_getElem (by simp [shA]; omega)⟩
  · exact ⟨_, by rw [X3.cell, stA_sh _ _ _ _ hj]⟩
  · rw [shA_upd sh y u v hy] at C3
    exact C3
theorem V3_eq (w : World) (sh : Nat → Nat) (y u v : Nat) : V3 w sh y u v = (w.alloc (.cells (((shA sh).setIfInBounds (y * 2) (.int .u64 (u : Int))).setIfInBounds (y * 2 + 1) (.int .u64 (v : Int))) 113)).alloc (.cells #[.int .u64 ((sh (y * 2) : Nat) : Int), .int .u64 ((sh (y * 2 + 1) : Nat) : Int)] 111) := by
  unfold V3 V2 V1 V0
  go_simp
theorem V2_eq (w : World) (sh : Nat → Nat) (y u : Nat) : V2 w sh y u = (w.alloc (.cells ((shA sh).setIfInBounds (y * 2) (.int .u64 (u : Int))) 113)).alloc (.cells #[.int .u64 ((sh (y * 2) : Nat) : Int), .int .u64 ((sh (y * 2 + 1) : Nat) : Int)] 111) := by
  unfold V2 V1 V0
  go_simp
theorem alloc_sh {ops : Array Oper} {rest : List Oper} {op : Oper} {a : Act} {w : World} {Q : Exit → Act → World → Prop} (hgd : op.guard = none) (ho : op.op = .alloc 113) (h : wpList Tryd.prog ops Q rest (a.put op.dst (.pointer (some ⟨w.heap.size, 0, none⟩))) (w.alloc (.cells (shA (fun _ => 0)) 113))) : wpList Tryd.prog ops Q (op :: rest) a w := by
  rw [← zero_sh] at h
  refine wpList_plain hgd fun _ hK => ?_
  have hK := hK _ _ h
  unfold Oper.wp execOp
  simp only [ho]
  go_simp
  exact hK
structure KeepE (w : World) (B : Nat) (G : Tg) (x : Nat) (s : Vs) (n v : Nat) (e : Ending) (w' : World) : Prop where
  ret : e = .returned (.tuple #[])
  chg : Chg w w' B G G (fun z => z = x)
  sta : ∃ tb ps, SvR w' B G x tb ps ⟨s.st, vKeep s.sl n v⟩
theorem stA_setS (tb h : Nat) (ps : Nat → Option Nat) (j c : Nat) (hj : j < 16) : (stA tb h ps).set! (2 + j) (.pointer (some ⟨c, 0, none⟩)) = stA tb h (fun i => if i = j then some c else ps i) := by
  apply Array.ext_getElem?
  intro k
  rw [Array.set!_eq_setIfInBounds, Array.getElem?_setIfInBounds]
  by_cases hk : k < 18
  · match k with
    | 0 => rw [if_neg (by omega), stA_top, stA_top]
    | 1 => rw [if_neg (by omega), stA_ht, stA_ht]
    | k + 2 =>
      rw [show k + 2 = 2 + k by omega, stA_sh _ _ _ k (by omega), stA_sh _ _ _ k (by omega), stA_size]
      by_cases e : k = j
      · subst e
        rw [if_pos rfl, if_pos (by omega), if_pos rfl]
        rfl
      · rw [if_neg (by omega), if_neg e]
  · rw [if_neg (by omega), Array.getElem?_eq_none (by rw [stA_size]; omega), Array.getElem?_eq_none (by rw [stA_size]; omega)]
theorem keep_mk {w w2 : World} {B : Nat} {G : Tg} {x tb : Nat} {ps : Nat → Option Nat} {s : Vs} (hT : Tri w B G) (h : SvR w B G x tb ps s) (b : Below w.heap.size w w2) (hB : B ≤ w.heap.size) {n : Nat} (hn : n < 16384) (sh : Nat → Nat) (hs : shOk sh) (hf : ∀ m, m < 1024 → s.sl (n / 1024 * 1024 + m) = bitS sh m) {u v t : Nat} (ht : t = 1 ∨ t = 2) (hu : u < 18446744073709551616) (hv : v < 18446744073709551616)
    (bu : ∀ i, i < 64 → u.testBit i = if t = 1 then ((sh (n % 1024 / 64 * 2)).testBit i || decide (i = n % 1024 % 64)) else ((sh (n % 1024 / 64 * 2)).testBit i && !decide (i = n % 1024 % 64)))
    (bv : ∀ i, i < 64 → v.testBit i = if t = 2 then ((sh (n % 1024 / 64 * 2 + 1)).testBit i || decide (i = n % 1024 % 64)) else ((sh (n % 1024 / 64 * 2 + 1)).testBit i && !decide (i = n % 1024 % 64))) :
    KeepE w B G x s n t (.returned (.tuple #[])) (V4 w2 sh (n % 1024 / 64) u v x (n / 1024)) := by
  have hj : n / 1024 < 16 := by omega
  have hy : n % 1024 / 64 < 16 := by omega
  have h2 := h.later b
  have F := keep_facts h2 hj hy sh u v
  obtain ⟨ok, ub⟩ := sheet_upd hs (n0 := n % 1024) (by omega) hu hv ht bu bv
  have nx : w2.heap.size ≠ x := fun e => by have := h2.box.lt; omega
  have X3 : BkP (V3 w2 sh (n % 1024 / 64) u v) x (stA tb s.st.length ps) 61 := ((h2.box.lat (allocBP _ _)).lat (allocBP _ _)).other _ _ _ nx |>.other _ _ _ nx
  have g3 : w2.grownBy (V3 w2 sh (n % 1024 / 64) u v) (some x) := gx_new (gx_new (gx_alloc (gx_alloc (gx_refl _ _) _) _) (Nat.le_refl _) _ _) (Nat.le_refl _) _ _
  have g4 : w2.grownBy (V4 w2 sh (n % 1024 / 64) u v x (n / 1024)) (some x) := gx_at g3 _ _
  have g : w.grownBy (V4 w2 sh (n % 1024 / 64) u v x (n / 1024)) (some x) := gx_trans (gr_below b _) g4
  have C := Chg.ofGrown hT g h.box (by decide) h.low
  have X4 : BkP (V4 w2 sh (n % 1024 / 64) u v x (n / 1024)) x _ _ := X3.set2 (2 + n / 1024) (.pointer (some ⟨w2.heap.size, 0, none⟩)) (by rw [stA_size]; omega)
  rw [stA_setS _ _ _ _ _ hj] at X4
  have D4 : BkP (V4 w2 sh (n % 1024 / 64) u v x (n / 1024)) w2.heap.size _ _ := F.d2.other x _ _ (Ne.symm nx)
  refine ⟨rfl, C, tb, _, ⟨h.top, X4, ?_, h.low⟩⟩
  intro j hj2
  by_cases e : j = n / 1024
  · subst e
    simp only [if_pos]
    refine .inr ⟨w2.heap.size, shU sh (n % 1024 / 64) u v, rfl, Nat.le_trans hB b.size, ⟨D4, ok.1, ok.2⟩, fun m hm => ?_⟩
    rw [ub m hm]
    show vKeep s.sl n t (n / 1024 * 1024 + m) = _
    unfold vKeep
    by_cases e2 : m = n % 1024
    · rw [if_pos e2, if_pos (by omega)]
    · rw [if_neg e2, if_neg (by omega)]
      exact hf m hm
  · have k := (h.slt j hj2).other g h.box (by decide)
    simp only [if_neg e]
    rcases k with ⟨k1, k2⟩ | ⟨b0, s0, k1, k2, k3, k4⟩
    · refine .inl ⟨k1, fun m hm => ?_⟩
      show vKeep s.sl n t (j * 1024 + m) = 0
      unfold vKeep
      rw [if_neg (by omega)]
      exact k2 m hm
    · refine .inr ⟨b0, s0, k1, k2, k3, fun m hm => ?_⟩
      show vKeep s.sl n t (j * 1024 + m) = bitS s0 m
      unfold vKeep
      rw [if_neg (by omega)]
      exact k4 m hm
theorem zero_ok : shOk (fun _ => 0) := ⟨fun _ => (show 0 < 18446744073709551616 by decide), fun g hg i hi => by simp⟩
theorem zero_bit (m : Nat) : bitS (fun _ => 0) m = 0 := by simp [bitS]
theorem vKeep_same {f : Nat → Nat} {n v : Nat} (h : f n = v) : vKeep f n v = f := by
  funext k
  unfold vKeep
  split
  · rename_i e; rw [e]; exact h.symm
  · rfl
set_option maxRecDepth 100000 in
set_option maxHeartbeats 2000000 in
theorem keep_any {w : World} {B : Nat} {G : Tg} {x tb : Nat} {ps : Nat → Option Nat} {s : Vs} (hT : Tri w B G) (h : SvR w B G x tb ps s) (n : Nat) (hn : n < 16384) (t : Nat) (ht : t = 1 ∨ t = 2) (hB : B ≤ w.heap.size) :
    Calls Tryd.prog 31 #[.pointer (some ⟨x, 2, none⟩), .int .i64 (n : Int), .int .u8 (t : Int)] w fun e w' => KeepE w B G x s n t e w' := by
  have K := Lib.hid (kept_any h n hn)
  by_cases e : s.sl n = t
  · have E := Lib.hid (fun W (b : Below w.heap.size w W) => (⟨rfl, (Chg.refl hT).later hB b, tb, ps, by rw [vKeep_same e]; exact h.later b⟩ : KeepE w B G x s n t (.returned (.tuple #[])) W))
    rw [e] at K
    clear h hT hB e
    rcases ht with rfl | rfl
    all_goals
      go_enter Tryd.func31, Tryd.ntmps31
      go_wp2_with (go_at_call 32; refine K.out.mono ?_; rintro e w1 ⟨rfl, h1⟩; have B1 := Lib.hid h1; clear h1)
      refine bodyPost_ret (results_none rfl _ _ _) rfl ?_
      exact E.out _ B1.out
  · have hj : n / 1024 < 16 := by omega
    have hy : n % 1024 / 64 < 16 := by omega
    have ne : ((s.sl n : Int) == (t : Int)) = false := by simp; omega
    have FF := Lib.hid (fun W => find_any W n hn)
    have HH := Lib.hid (fun W (b : Below w.heap.size w W) => h.later b)
    have MK := Lib.hid (fun w2 (b : Below w.heap.size w w2) sh hs hf u v hu hv bu bv => keep_mk hT h b hB hn sh hs hf (u := u) (v := v) ht hu hv bu bv)
    have P := h.slt (n / 1024) hj
    have em : n % 1024 % 64 = n % 64 := by omega
    have hz : n % 64 < 64 := by omega
    rw [em] at MK
    rcases P with ⟨p0, pz⟩ | ⟨b, sh, p0, _, hS, pf⟩
    · rcases ht with rfl | rfl
      · obtain ⟨u, u1, u2, u3⟩ := orV ((fun _ => 0) (n % 1024 / 64 * 2)) (n % 64) (show 0 < 18446744073709551616 by decide) hz
        obtain ⟨v, v1, v2, v3⟩ := andNotV ((fun _ => 0) (n % 1024 / 64 * 2 + 1)) (n % 64) (show 0 < 18446744073709551616 by decide) hz
        have E := Lib.hid (fun w2 (b : Below w.heap.size w w2) => MK.out w2 b (fun _ => 0) zero_ok (fun m hm => by rw [zero_bit]; exact pz m hm) u v u2 v2 (fun i hi => by rw [if_pos rfl]; exact u3 i hi) (fun i hi => by rw [if_neg (by decide)]; exact v3 i hi))
        have KF := Lib.hid (fun w2 (b : Below w.heap.size w w2) => keep_facts (HH.out w2 b) hj hy (fun _ => 0) u v)
        rw [p0] at KF
        clear h hT hB MK HH p0 e u2 u3 v2 v3 em pz
        generalize n / 1024 = j at *
        generalize n % 1024 / 64 = y at *
        generalize n % 64 = z at *
        generalize 2 ^ z = m at *
        clear hz
        simp only [show ((1 : Nat) : Int) = 1 from rfl, show ((2 : Nat) : Int) = 2 from rfl] at ne ⊢
        have k0 : ¬ (j : Int) < 0 := by omega
        have k1 : (j : Int) < 16 := by omega
        have k2 : ¬ (y : Int) < 0 := by omega
        have k3 : (y : Int) < 16 := by omega
        simp only [show ((0 : Nat) : Int) = 0 from rfl] at u1 v1
        go_enter Tryd.func31, Tryd.ntmps31
        go_wp2_with (first | (go_at_call 32; refine K.out.mono ?_; rintro e w1 ⟨rfl, h1⟩; have B1 := Lib.hid h1; clear h1) | (go_at_call 44; refine (FF.out w1).mono ?_; rintro e w2 ⟨rfl, h1⟩; have B2 := Lib.hid (B1.out.trans (h1.mono B1.out.size)); clear h1; obtain ⟨a0, a1, a2, ⟨zb, b0⟩, b1, ⟨zc, c0⟩, c1, ⟨zd, d0⟩, d1, _⟩ := KF.out w2 B2.out; rw [V3_eq] at d0 d1; rw [V2_eq] at c0 c1; simp only [V0, V1, V2, show ((0 : Nat) : Int) = 0 from rfl, ptN, Option.map_none] at a0 a1 a2 b0 b1 c0 c1 d0 d1) | (with_reducible show wpList _ _ _ (Oper.mk _ (Op.alloc 113) _ _ _ _ :: _) _ _; refine alloc_sh rfl rfl ?_))
        go_end0
        have EE := E.out w2 B2.out
        unfold V4 at EE
        rw [V3_eq] at EE
        simp only [show ((0 : Nat) : Int) = 0 from rfl] at EE
        exact EE
      · obtain ⟨u, u1, u2, u3⟩ := andNotV ((fun _ => 0) (n % 1024 / 64 * 2)) (n % 64) (show 0 < 18446744073709551616 by decide) hz
        obtain ⟨v, v1, v2, v3⟩ := orV ((fun _ => 0) (n % 1024 / 64 * 2 + 1)) (n % 64) (show 0 < 18446744073709551616 by decide) hz
        have E := Lib.hid (fun w2 (b : Below w.heap.size w w2) => MK.out w2 b (fun _ => 0) zero_ok (fun m hm => by rw [zero_bit]; exact pz m hm) u v u2 v2 (fun i hi => by rw [if_neg (by decide)]; exact u3 i hi) (fun i hi => by rw [if_pos rfl]; exact v3 i hi))
        have KF := Lib.hid (fun w2 (b : Below w.heap.size w w2) => keep_facts (HH.out w2 b) hj hy (fun _ => 0) u v)
        rw [p0] at KF
        clear h hT hB MK HH p0 e u2 u3 v2 v3 em pz
        generalize n / 1024 = j at *
        generalize n % 1024 / 64 = y at *
        generalize n % 64 = z at *
        generalize 2 ^ z = m at *
        clear hz
        simp only [show ((1 : Nat) : Int) = 1 from rfl, show ((2 : Nat) : Int) = 2 from rfl] at ne ⊢
        have k0 : ¬ (j : Int) < 0 := by omega
        have k1 : (j : Int) < 16 := by omega
        have k2 : ¬ (y : Int) < 0 := by omega
        have k3 : (y : Int) < 16 := by omega
        simp only [show ((0 : Nat) : Int) = 0 from rfl] at u1 v1
        go_enter Tryd.func31, Tryd.ntmps31
        go_wp2_with (first | (go_at_call 32; refine K.out.mono ?_; rintro e w1 ⟨rfl, h1⟩; have B1 := Lib.hid h1; clear h1) | (go_at_call 44; refine (FF.out w1).mono ?_; rintro e w2 ⟨rfl, h1⟩; have B2 := Lib.hid (B1.out.trans (h1.mono B1.out.size)); clear h1; obtain ⟨a0, a1, a2, ⟨zb, b0⟩, b1, ⟨zc, c0⟩, c1, ⟨zd, d0⟩, d1, _⟩ := KF.out w2 B2.out; rw [V3_eq] at d0 d1; rw [V2_eq] at c0 c1; simp only [V0, V1, V2, show ((0 : Nat) : Int) = 0 from rfl, ptN, Option.map_none] at a0 a1 a2 b0 b1 c0 c1 d0 d1) | (with_reducible show wpList _ _ _ (Oper.mk _ (Op.alloc 113) _ _ _ _ :: _) _ _; refine alloc_sh rfl rfl ?_))
        go_end0
        have EE := E.out w2 B2.out
        unfold V4 at EE
        rw [V3_eq] at EE
        simp only [show ((0 : Nat) : Int) = 0 from rfl] at EE
        exact EE
    · rcases ht with rfl | rfl
      · obtain ⟨u, u1, u2, u3⟩ := orV (sh (n % 1024 / 64 * 2)) (n % 64) (hS.sz _) hz
        obtain ⟨v, v1, v2, v3⟩ := andNotV (sh (n % 1024 / 64 * 2 + 1)) (n % 64) (hS.sz _) hz
        have E := Lib.hid (fun w2 (b : Below w.heap.size w w2) => MK.out w2 b sh ⟨hS.sz, hS.ap⟩ pf u v u2 v2 (fun i hi => by rw [if_pos rfl]; exact u3 i hi) (fun i hi => by rw [if_neg (by decide)]; exact v3 i hi))
        have KF := Lib.hid (fun w2 (b : Below w.heap.size w w2) => keep_facts (HH.out w2 b) hj hy sh u v)
        have KZ := Lib.hid (fun w2 (b : Below w.heap.size w w2) => (keep_facts (HH.out w2 b) hj hy (fun _ => 0) u v).a0)
        have SB := Lib.hid (fun w2 (bb : Below w.heap.size w w2) => ((hS.later bb).box.lat (allocBP w2 (.cells (shA (fun _ => 0)) 113))))
        simp only [V0] at KZ
        rw [p0] at KF KZ
        clear h hT hB MK HH p0 e u2 u3 v2 v3 em pf hS
        generalize n / 1024 = j at *
        generalize n % 1024 / 64 = y at *
        generalize n % 64 = z at *
        generalize 2 ^ z = m at *
        clear hz
        simp only [show ((1 : Nat) : Int) = 1 from rfl, show ((2 : Nat) : Int) = 2 from rfl] at ne ⊢
        have k0 : ¬ (j : Int) < 0 := by omega
        have k1 : (j : Int) < 16 := by omega
        have k2 : ¬ (y : Int) < 0 := by omega
        have k3 : (y : Int) < 16 := by omega
        go_enter Tryd.func31, Tryd.ntmps31
        go_wp2_with (first | (go_at_call 32; refine K.out.mono ?_; rintro e w1 ⟨rfl, h1⟩; have B1 := Lib.hid h1; clear h1) | (go_at_call 44; refine (FF.out w1).mono ?_; rintro e w2 ⟨rfl, h1⟩; have B2 := Lib.hid (B1.out.trans (h1.mono B1.out.size)); clear h1; obtain ⟨a0, a1, a2, ⟨zb, b0⟩, b1, ⟨zc, c0⟩, c1, ⟨zd, d0⟩, d1, _⟩ := KF.out w2 B2.out; have q0 := KZ.out w2 B2.out; have SB2 := Lib.hid (SB.out w2 B2.out); rw [V3_eq] at d0 d1; rw [V2_eq] at c0 c1; simp only [V0, V1, V2, ptN, Option.map_some] at a0 a1 a2 b0 b1 c0 c1 d0 d1 q0) | (with_reducible show wpList _ _ _ (Oper.mk _ (Op.alloc 113) _ _ _ _ :: _) _ _; refine alloc_sh rfl rfl ?_) | (with_reducible show wpList _ _ _ (Oper.mk _ (Op.load 113 _) _ _ _ _ :: _) _ _; refine load_sh rfl _ rfl b rfl sh SB2.out ?_) | (with_reducible show wpList _ _ _ (Oper.mk _ (Op.store 113 _ _) _ _ _ _ :: _) _ _; refine store_sh rfl _ _ rfl _ rfl sh rfl rfl ?_))
        go_end0
        have EE := E.out w2 B2.out
        unfold V4 at EE
        rw [V3_eq] at EE
        exact EE
      · obtain ⟨u, u1, u2, u3⟩ := andNotV (sh (n % 1024 / 64 * 2)) (n % 64) (hS.sz _) hz
        obtain ⟨v, v1, v2, v3⟩ := orV (sh (n % 1024 / 64 * 2 + 1)) (n % 64) (hS.sz _) hz
        have E := Lib.hid (fun w2 (b : Below w.heap.size w w2) => MK.out w2 b sh ⟨hS.sz, hS.ap⟩ pf u v u2 v2 (fun i hi => by rw [if_neg (by decide)]; exact u3 i hi) (fun i hi => by rw [if_pos rfl]; exact v3 i hi))
        have KF := Lib.hid (fun w2 (b : Below w.heap.size w w2) => keep_facts (HH.out w2 b) hj hy sh u v)
        have KZ := Lib.hid (fun w2 (b : Below w.heap.size w w2) => (keep_facts (HH.out w2 b) hj hy (fun _ => 0) u v).a0)
        have SB := Lib.hid (fun w2 (bb : Below w.heap.size w w2) => ((hS.later bb).box.lat (allocBP w2 (.cells (shA (fun _ => 0)) 113))))
        simp only [V0] at KZ
        rw [p0] at KF KZ
        clear h hT hB MK HH p0 e u2 u3 v2 v3 em pf hS
        generalize n / 1024 = j at *
        generalize n % 1024 / 64 = y at *
        generalize n % 64 = z at *
        generalize 2 ^ z = m at *
        clear hz
        simp only [show ((1 : Nat) : Int) = 1 from rfl, show ((2 : Nat) : Int) = 2 from rfl] at ne ⊢
        have k0 : ¬ (j : Int) < 0 := by omega
        have k1 : (j : Int) < 16 := by omega
        have k2 : ¬ (y : Int) < 0 := by omega
        have k3 : (y : Int) < 16 := by omega
        go_enter Tryd.func31, Tryd.ntmps31
        go_wp2_with (first | (go_at_call 32; refine K.out.mono ?_; rintro e w1 ⟨rfl, h1⟩; have B1 := Lib.hid h1; clear h1) | (go_at_call 44; refine (FF.out w1).mono ?_; rintro e w2 ⟨rfl, h1⟩; have B2 := Lib.hid (B1.out.trans (h1.mono B1.out.size)); clear h1; obtain ⟨a0, a1, a2, ⟨zb, b0⟩, b1, ⟨zc, c0⟩, c1, ⟨zd, d0⟩, d1, _⟩ := KF.out w2 B2.out; have q0 := KZ.out w2 B2.out; have SB2 := Lib.hid (SB.out w2 B2.out); rw [V3_eq] at d0 d1; rw [V2_eq] at c0 c1; simp only [V0, V1, V2, ptN, Option.map_some] at a0 a1 a2 b0 b1 c0 c1 d0 d1 q0) | (with_reducible show wpList _ _ _ (Oper.mk _ (Op.alloc 113) _ _ _ _ :: _) _ _; refine alloc_sh rfl rfl ?_) | (with_reducible show wpList _ _ _ (Oper.mk _ (Op.load 113 _) _ _ _ _ :: _) _ _; refine load_sh rfl _ rfl b rfl sh SB2.out ?_) | (with_reducible show wpList _ _ _ (Oper.mk _ (Op.store 113 _ _) _ _ _ _ :: _) _ _; refine store_sh rfl _ _ rfl _ rfl sh rfl rfl ?_))
        go_end0
        have EE := E.out w2 B2.out
        unfold V4 at EE
        rw [V3_eq] at EE
        exact EE
end Go.Proofs.YteedkcmjhdabeaaDoor

namespace Go.Proofs.YteedkcmjhdabeaaDoor
open Go.RowKit
set_option linter.unusedVariables false
set_option linter.unusedSimpArgs false
def shI (a b : Nat → Nat) : Nat → Nat := fun k => a k &&& b k
def shK (a b : Nat → Nat) (k : Nat) : Nat → Nat := fun i => if i < 2 * k then a i &&& b i else 0
theorem shK_next (a b : Nat → Nat) (k : Nat) (hk : k < 16) : ((shA (shK a b k)).set! (k * 2) (.int .u64 ((a (k * 2) &&& b (k * 2) : Nat) : Int))).set! (k * 2 + 1) (.int .u64 ((a (k * 2 + 1) &&& b (k * 2 + 1) : Nat) : Int)) = shA (shK a b (k + 1)) := by
  rw [shA_upd _ _ _ _ hk]
  apply congrArg shA
  funext i
  unfold shU shK
  by_cases e0 : i = k * 2
  · subst e0; rw [if_pos rfl, if_pos (by omega)]
  · by_cases e1 : i = k * 2 + 1
    · subst e1; rw [if_neg (by omega), if_pos rfl, if_pos (by omega)]
    · rw [if_neg e0, if_neg e1]
      by_cases l : i < 2 * k
      · rw [if_pos l, if_pos (by omega)]
      · rw [if_neg l, if_neg (by omega)]
theorem shK_end (a b : Nat → Nat) : shA (shK a b 16) = shA (shI a b) := by
  unfold shA shK shI
  refine congrArg List.toArray ?_
  apply List.map_congr_left
  intro i hi
  have := List.mem_range.1 hi
  rw [if_pos (by omega)]
theorem shI_ok {a b : Nat → Nat} (ha : shOk a) (hb : shOk b) : shOk (shI a b) := by
  refine ⟨fun k => Nat.lt_of_le_of_lt Nat.and_le_left (ha.1 k), fun g hg i hi h => ?_⟩
  unfold shI at h
  rw [Nat.testBit_and, Nat.testBit_and] at h
  simp only [Bool.and_eq_true] at h
  exact ha.2 g hg i hi ⟨h.1.1, h.2.1⟩
/-- What two sheets share. -/
theorem bitS_and {a b : Nat → Nat} (ha : shOk a) (hb : shOk b) (m : Nat) (hm : m < 1024) : bitS (shI a b) m = if bitS a m = bitS b m then bitS a m else 0 := by
  have p := ha.2 (m / 64) (by omega) (m % 64) (by omega)
  have q := hb.2 (m / 64) (by omega) (m % 64) (by omega)
  unfold bitS shI
  rw [Nat.testBit_and, Nat.testBit_and]
  generalize (a (m / 64 * 2)).testBit (m % 64) = a0 at *
  generalize (a (m / 64 * 2 + 1)).testBit (m % 64) = a1 at *
  generalize (b (m / 64 * 2)).testBit (m % 64) = b0 at *
  generalize (b (m / 64 * 2 + 1)).testBit (m % 64) = b1 at *
  cases a0 <;> cases a1 <;> cases b0 <;> cases b1 <;> simp at p q ⊢
theorem bitS_congr {a b : Nat → Nat} (h : ∀ k, k < 32 → a k = b k) (m : Nat) (hm : m < 1024) : bitS a m = bitS b m := by
  unfold bitS
  rw [h _ (by omega), h _ (by omega)]
theorem shA_inj {a b : Nat → Nat} (h : shA a = shA b) (k : Nat) (hk : k < 32) : a k = b k := by
  have := congrArg (fun x : Array Value => x[k]?) h
  simp only [shA_at _ _ hk] at this
  injection this with e
  injection e with _ e
  omega
/-- What common answers. -/
structure ComE (w : World) (B : Nat) (f g : Nat → Nat) (e : Ending) (w' : World) : Prop where
  ret : ∃ r, e = .returned (ptN r) ∧ PaR w' B r (fun m => if f m = g m then f m else 0)
  bel : Below w.heap.size w w'
theorem PaR.congr {w : World} {B : Nat} {p : Option Nat} {f g : Nat → Nat} (h : PaR w B p f) (e : ∀ m, m < 1024 → g m = f m) : PaR w B p g := by
  rcases h with ⟨h1, h2⟩ | ⟨b, sh, h1, h2, h3, h4⟩
  · exact .inl ⟨h1, fun m hm => by rw [e m hm]; exact h2 m hm⟩
  · exact .inr ⟨b, sh, h1, h2, h3, fun m hm => by rw [e m hm]; exact h4 m hm⟩
theorem PaR.same {w : World} {B : Nat} {p : Option Nat} {f g : Nat → Nat} (h : PaR w B p f) (k : PaR w B p g) (m : Nat) (hm : m < 1024) : f m = g m := by
  rcases h with ⟨h1, h2⟩ | ⟨b, sh, h1, h2, h3, h4⟩
  · rcases k with ⟨k1, k2⟩ | ⟨b', sh', k1, k2, k3, k4⟩
    · rw [h2 m hm, k2 m hm]
    · rw [h1] at k1; cases k1
  · rcases k with ⟨k1, k2⟩ | ⟨b', sh', k1, k2, k3, k4⟩
    · rw [h1] at k1; cases k1
    · rw [h1] at k1
      injection k1 with k1
      subst k1
      have e := h3.box.symm.trans k3.box
      injection e with e
      injection e with e _
      rw [h4 m hm, k4 m hm]
      exact bitS_congr (shA_inj e) m hm
theorem PaR.blk {w : World} {B : Nat} {p : Option Nat} {f : Nat → Nat} (h : PaR w B p f) : ∀ b, p = some b → ∃ c u, BkP w b c u := by
  intro b e
  rcases h with ⟨h1, _⟩ | ⟨b', sh, h1, h2, h3, h4⟩
  · rw [h1] at e; cases e
  · rw [h1] at e
    injection e with e
    subst e
    exact ⟨_, _, h3.box⟩
theorem and_bits (u v : Nat) (hu : u < 18446744073709551616) (hv : v < 18446744073709551616) : bits .and .u64 (u : Int) (v : Int) = ((u &&& v : Nat) : Int) := u64_and_nat u v hu hv
theorem sheet_info2 : ∃ i, Tryd.prog.info? 113 = some i := info_of_underlying (P := Tryd.prog) (d := .array 16 111) (by kernel_rfl)
set_option maxRecDepth 100000 in
set_option maxHeartbeats 2000000 in
theorem common_easy {w : World} {B : Nat} {p q : Option Nat} {f g : Nat → Nat} (hp : PaR w B p f) (hq : PaR w B q g) (he : p = q ∨ p = none ∨ q = none) :
    Calls Tryd.prog 53 #[ptN p, ptN q] w fun e w' => ComE w B f g e w' := by
  obtain ⟨i, hi⟩ := sheet_info2
  have E0 := eq_ptr (P := Tryd.prog) (w := w) (d := 9999) (t := 57) (te := 113) (i := i) (by kernel_rfl) hi (by rw [show Tryd.prog.cellsOf 113 = 32 by kernel_rfl]; decide) p q hp.blk hq.blk
  simp only [Nat.reduceAdd] at E0
  have E1 := bin_ptr E0
  by_cases e : p = q
  · subst e
    have E := Lib.hid (⟨⟨p, rfl, hp.congr (fun m hm => by rw [if_pos (hp.same hq m hm)])⟩, Below.refl _ _⟩ : ComE w B f g (.returned (ptN p)) w)
    simp only [decide_true] at E0 E1
    clear hp hq he hi
    cases p with
    | none =>
      simp only [ptN, Option.map_none] at *
      go_enter Tryd.func53, Tryd.ntmps53
      go_wp2
      go_ret
      exact E.out
    | some b =>
      simp only [ptN, Option.map_some] at *
      go_enter Tryd.func53, Tryd.ntmps53
      go_wp2
      go_ret
      exact E.out
  · have h0 : ∀ m, m < 1024 → (if f m = g m then f m else 0) = 0 := by
      intro m hm
      rcases he with he | he | he
      · exact absurd he e
      · rcases hp with ⟨_, h2⟩ | ⟨b, sh, h1, _⟩
        · rw [h2 m hm]; simp
        · rw [he] at h1; cases h1
      · rcases hq with ⟨_, h2⟩ | ⟨b, sh, h1, _⟩
        · rw [h2 m hm]; split <;> simp_all
        · rw [he] at h1; cases h1
    have E := Lib.hid (⟨⟨none, rfl, .inl ⟨rfl, h0⟩⟩, Below.refl _ _⟩ : ComE w B f g (.returned (ptN none)) w)
    simp only [decide_eq_false e] at E0 E1
    clear hp hq hi h0
    cases p with
    | none =>
      cases q with
      | none => exact absurd rfl e
      | some b =>
        clear e he
        simp only [ptN, Option.map_none, Option.map_some] at *
        go_enter Tryd.func53, Tryd.ntmps53
        go_wp2
        go_ret
        exact E.out
    | some b =>
      cases q with
      | none =>
        clear e he
        simp only [ptN, Option.map_none, Option.map_some] at *
        go_enter Tryd.func53, Tryd.ntmps53
        go_wp2
        go_ret
        exact E.out
      | some c => exact absurd he (by simpa using e)
end Go.Proofs.YteedkcmjhdabeaaDoor

namespace Go.Proofs.YteedkcmjhdabeaaDoor
open Go.RowKit
set_option linter.unusedVariables false
set_option linter.unusedSimpArgs false
theorem load_run {W : World} {b : Nat} {sh : Nat → Nat} (hb : BkP W b (shA sh) 113) : (Instr.loadAt 113 (.pointer (some ⟨b, 0, none⟩))).run Tryd.prog W = .ok (.agg (shA sh)) W := by
  have hr := World.rangeAt_of_block hb 0 32
  have he : (shA sh).extract 0 (0 + 32) = shA sh := by
    have := shA_size sh
    simp only [Nat.zero_add]
    rw [← this, Array.extract_size]
  rw [he] at hr
  have := run_loadAt_mid (P := Tryd.prog) W b 0 113 (shA sh).toList (.array 16 111) hr (by kernel_rfl) rfl (by rw [sh_info]; simp [shA])
  simpa using this
def shL (sh : Nat → Nat) : List Value := (List.range 32).map (fun k => Value.int .u64 ((sh k : Nat) : Int))
theorem shL_len (sh : Nat → Nat) : (Tryd.prog.info? 113).map (·.size) = some (shL sh).length := by rw [sh_info]; simp [shL]
theorem range_sh {W : World} {b : Nat} {sh : Nat → Nat} (hb : BkP W b (shA sh) 113) : W.rangeAt b 0 (shL sh) := by
  have hr := World.rangeAt_of_block hb 0 32
  have he : (shA sh).extract 0 (0 + 32) = shA sh := by
    have := shA_size sh
    simp only [Nat.zero_add]
    rw [← this, Array.extract_size]
  rw [he] at hr
  exact hr
def cellsS (b k : Nat) (a : Nat → Nat) (W : World) : Prop := W.cell? ⟨b, k * 2, none⟩ = some (.int .u64 ((a (k * 2) : Nat) : Int)) ∧ W.cell? ⟨b, k * 2 + 1, none⟩ = some (.int .u64 ((a (k * 2 + 1) : Nat) : Int))
theorem cells_of {W : World} {b0 b1 k : Nat} {a b : Nat → Nat} (hk : k < 16) (ha : ShR W b0 a) (hb : ShR W b1 b) : cellsS b0 k a W ∧ cellsS b1 k b W := by
  refine ⟨⟨?_, ?_⟩, ?_, ?_⟩
  · rw [ha.box.cell, shA_at _ _ (by omega)]
  · rw [ha.box.cell, shA_at _ _ (by omega)]
  · rw [hb.box.cell, shA_at _ _ (by omega)]
  · rw [hb.box.cell, shA_at _ _ (by omega)]
set_option maxRecDepth 100000 in
set_option maxHeartbeats 4000000 in
theorem common_hard {w : World} {B : Nat} {b0 b1 : Nat} {a b : Nat → Nat} {f g : Nat → Nat} (hn : b0 ≠ b1) (l0 : B ≤ b0) (l1 : B ≤ b1) (ha : ShR w b0 a) (hb : ShR w b1 b) (hf : ∀ m, m < 1024 → f m = bitS a m) (hg : ∀ m, m < 1024 → g m = bitS b m) (hB : B ≤ w.heap.size) :
    Calls Tryd.prog 53 #[ptN (some b0), ptN (some b1)] w fun e w' => ComE w B f g e w' := by
  obtain ⟨i, hi⟩ := sheet_info2
  have E0 := eq_ptr (P := Tryd.prog) (w := w) (d := 9999) (t := 57) (te := 113) (i := i) (by kernel_rfl) hi (by rw [show Tryd.prog.cellsOf 113 = 32 by kernel_rfl]; decide) (some b0) (some b1) (by intro x e; injection e with e; subst e; exact ⟨_, _, ha.box⟩) (by intro x e; injection e with e; subst e; exact ⟨_, _, hb.box⟩)
  simp only [Nat.reduceAdd] at E0
  have E1 := bin_ptr E0
  have d0 : decide (some b0 = some b1) = false := by simpa using hn
  rw [d0] at E1
  have HA := Lib.hid (fun W (k : Below w.heap.size w W) => ha.later k)
  have HB := Lib.hid (fun W (k : Below w.heap.size w W) => hb.later k)
  have LA := Lib.hid (ha.box.lt)
  have LB := Lib.hid (hb.box.lt)
  have FF := Lib.hid (p := ∀ m, m < 1024 → (if f m = g m then f m else 0) = bitS (shI a b) m) (fun m hm => by rw [hf m hm, hg m hm, bitS_and ⟨ha.sz, ha.ap⟩ ⟨hb.sz, hb.ap⟩ m hm])
  have OK := Lib.hid (shI_ok ⟨ha.sz, ha.ap⟩ ⟨hb.sz, hb.ap⟩)
  have ZA := Lib.hid ha.sz
  have ZB := Lib.hid hb.sz
  have LL := Lib.hid (p := B ≤ b0 ∧ B ≤ b1 ∧ B ≤ w.heap.size) ⟨l0, l1, hB⟩
  clear d0 E0 ha hb hf hg hi l0 l1 hB hn
  simp only [ptN, Option.map_some] at *
  go_enter Tryd.func53, Tryd.ntmps53
  go_wp2_with (with_reducible show wpList _ _ _ (Oper.mk _ (Op.alloc 113) _ _ _ _ :: _) _ _; refine alloc_sh rfl rfl ?_)
  clear E1
  go_loopw [18] (fun t wr => ∃ k : Nat, k ≤ 16 ∧ t = .int .i64 (k : Int) ∧ BkP wr w.heap.size (shA (shK a b k)) 113 ∧ Below w.heap.size w wr) (fun t _ => 16 - (intOf t).toNat)
  case atStart =>
    refine ⟨0, by omega, rfl, ?_, allocBP _ _⟩
    have : shA (shK a b 0) = shA (fun _ => 0) := by
      unfold shA shK
      simp
    rw [this]
    exact heapN _ _
  case round =>
    rename World => wr
    obtain ⟨k, hk, rfl, hC, hbel⟩ := hrel
    by_cases hlt : k < 16
    · have kc : (k : Int) < 16 := by omega
      have kn : ¬ (k : Int) < 0 := by omega
      have ks : IntKind.i64.wrap ((k : Int) + 1) = (k : Int) + 1 := by simp [IntKind.wrap, IntKind.bits, IntKind.signed]; omega
      have a0 := (HA.out wr hbel).box.cell (k * 2)
      have a1 := (HA.out wr hbel).box.cell (k * 2 + 1)
      have b0' := (HB.out wr hbel).box.cell (k * 2)
      have b1' := (HB.out wr hbel).box.cell (k * 2 + 1)
      rw [shA_at _ _ (by omega)] at a0 a1 b0' b1'
      have n0 := and_bits (a (k * 2)) (b (k * 2)) (ZA.out _) (ZB.out _)
      have n1 := and_bits (a (k * 2 + 1)) (b (k * 2 + 1)) (ZA.out _) (ZB.out _)
      have CC := Lib.hid hC
      have BB := Lib.hid hbel
      have SS := Lib.hid (p := cellsS b0 k a wr ∧ cellsS b1 k b wr) ⟨⟨a0, a1⟩, b0', b1'⟩
      have dc := hC.cell (k * 2)
      have df := hC.frozen (k * 2)
      rw [shA_at _ _ (by omega)] at dc
      have D2 := hC.set2 (k * 2) (.int .u64 ((a (k * 2) &&& b (k * 2) : Nat) : Int)) (by rw [shA_size]; omega)
      have ec : ∃ z, (wr.setCell ⟨w.heap.size, k * 2, none⟩ (.int .u64 ((a (k * 2) &&& b (k * 2) : Nat) : Int))).cell? ⟨w.heap.size, k * 2 + 1, none⟩ = some z := by
        rw [D2.cell]
        exact ⟨_, Array.getElem?_eq_getElem (by simp [shA]; omega)⟩
      obtain ⟨z, ec⟩ := ec
      have ef := D2.frozen (k * 2 + 1)
      have D3 := D2.set2 (k * 2 + 1) (.int .u64 ((a (k * 2 + 1) &&& b (k * 2 + 1) : Nat) : Int)) (by simp [shA]; omega)
      rw [shK_next a b k hlt] at D3
      have DD := Lib.hid D3
      have GG := Lib.hid (p := Below w.heap.size w ((wr.setCell ⟨w.heap.size, k * 2, none⟩ (.int .u64 ((a (k * 2) &&& b (k * 2) : Nat) : Int))).setCell ⟨w.heap.size, k * 2 + 1, none⟩ (.int .u64 ((a (k * 2 + 1) &&& b (k * 2 + 1) : Nat) : Int)))) ((hbel.setCell (p := ⟨w.heap.size, k * 2, none⟩) (Nat.le_refl _) _).setCell (p := ⟨w.heap.size, k * 2 + 1, none⟩) (Nat.le_refl _) _)
      have S2 := Lib.hid (cells_of hlt (HA.out _ GG.out) (HB.out _ GG.out))
      clear hC hbel D2 D3
      generalize a (k * 2) &&& b (k * 2) = u0 at *
      generalize a (k * 2 + 1) &&& b (k * 2 + 1) = u1 at *
      go_wp2
      go_region_held3 (fun W => (W.cell? ⟨b0, k * 2, none⟩ = some (.int .u64 ((a (k * 2) : Nat) : Int)) ∧ W.cell? ⟨b0, k * 2 + 1, none⟩ = some (.int .u64 ((a (k * 2 + 1) : Nat) : Int))) ∧ W.cell? ⟨b1, k * 2, none⟩ = some (.int .u64 ((b (k * 2) : Nat) : Int)) ∧ W.cell? ⟨b1, k * 2 + 1, none⟩ = some (.int .u64 ((b (k * 2 + 1) : Nat) : Int)))
        (first | exact SS.out | exact S2.out)
        (fail)
      go_wp2
      exact ⟨⟨k + 1, by omega, by go_num, DD.out.lat (drew1B _), GG.out.drew⟩, by simp [intOf]; omega⟩
    · obtain rfl : k = 16 := by omega
      rw [shK_end] at hC
      have CC := Lib.hid hC
      have BB := Lib.hid hbel
      have S1 := Lib.hid (p := wr.rangeAt w.heap.size 0 (shL (shI a b)) ∧ wr.rangeAt b0 0 (shL a) ∧ wr.rangeAt b1 0 (shL b)) ⟨range_sh hC, range_sh (HA.out wr hbel).box, range_sh (HB.out wr hbel).box⟩
      have S2 := Lib.hid (p := wr.drew.rangeAt w.heap.size 0 (shL (shI a b)) ∧ wr.drew.rangeAt b0 0 (shL a) ∧ wr.drew.rangeAt b1 0 (shL b)) ⟨range_sh (hC.lat (drew1B _)), range_sh (HA.out wr.drew hbel.drew).box, range_sh (HB.out wr.drew hbel.drew).box⟩
      have hu : Tryd.prog.underlying 113 = some (.array 16 111) := by kernel_rfl
      have i0 := shL_len (shI a b)
      have i1 := shL_len a
      have i2 := shL_len b
      have Q0 : ∀ W, (Op.equalIn 10000 113 (.agg (shL (shI a b)).toArray) (.agg (shL a).toArray)).run Tryd.prog W = _ := fun W => eq_sheet W (shI a b) a
      have Q1 : ∀ W, (Op.equalIn 10000 113 (.agg (shL (shI a b)).toArray) (.agg (shL b).toArray)).run Tryd.prog W = _ := fun W => eq_sheet W (shI a b) b
      clear hC hbel
      cases q0 : (List.range 16).all (fun j => ((shI a b (j * 2) : Int) == (a (j * 2) : Int)) && ((shI a b (j * 2 + 1) : Int) == (a (j * 2 + 1) : Int))) with
      | true =>
        simp only [q0] at Q0
        have RR := Lib.hid (sheet_eq q0)
        clear q0 Q1
        go_wp2
        refine wp_region_held_drew (S := fun W => W.rangeAt w.heap.size 0 (shL (shI a b)) ∧ W.rangeAt b0 0 (shL a) ∧ W.rangeAt b1 0 (shL b)) (by kernel_rfl) ?_ (fun hHeld => ?_)
        · exact S1.out
        refine wpAnyH_take (i := 0) (oi := { dst := some 51, op := Op.load 113 (Operand.tmp 5), type := 113, pos := "slots.go:85", after := #[], guard := none }) (v := _) rfl (by kernel_rfl) (by kernel_rfl) (by kernel_rfl) (fun _ _ _ h => h) (yieldsIf_load_mid (by rfl) _ _ rfl _ _ rfl _ _ (fun W h => h.1) hu rfl i0) (by assumption) ?_
        (try simp only [Act.put, List.setIfInBounds_toArray, List.set_cons_zero, List.set_cons_succ])
        refine wpAnyH_take (i := 1) (oi := { dst := some 52, op := Op.move (Operand.tmp 0), type := 57, pos := "slots.go:85", after := #[], guard := none }) (v := ?_) rfl (by kernel_rfl) (by kernel_rfl) (by kernel_rfl) (fun _ _ _ h => h) (Or.inl ⟨by rfl, ?_⟩) (by assumption) ?_
        rotate_left 1
        · intro w' hSw; go_simp; try with_reducible rfl
        (try simp only [Act.put, List.setIfInBounds_toArray, List.set_cons_zero, List.set_cons_succ])
        refine wpAnyH_take (i := 2) (oi := { dst := some 53, op := Op.nilCheck (Operand.tmp 52), type := 0, pos := "slots.go:85", after := #[{ on := 1, ground := Ground.data }], guard := none }) (v := ?_) rfl (by kernel_rfl) (by kernel_rfl) (by kernel_rfl) (fun _ _ _ h => h) (Or.inl ⟨by rfl, ?_⟩) (by assumption) ?_
        rotate_left 1
        · intro w' hSw; go_simp; try with_reducible rfl
        (try simp only [Act.put, List.setIfInBounds_toArray, List.set_cons_zero, List.set_cons_succ])
        refine wpAnyH_take (i := 3) (oi := { dst := some 54, op := Op.load 113 (Operand.tmp 53), type := 113, pos := "slots.go:85", after := #[{ on := 2, ground := Ground.data }], guard := none }) (v := _) rfl (by kernel_rfl) (by kernel_rfl) (by kernel_rfl) (fun _ _ _ h => h) (yieldsIf_load_mid (by rfl) _ _ rfl _ _ rfl _ _ (fun W h => h.2.1) hu rfl i1) (by assumption) ?_
        (try simp only [Act.put, List.setIfInBounds_toArray, List.set_cons_zero, List.set_cons_succ])
        refine wpAnyH_take (i := 4) (oi := { dst := some 55, op := Op.binOp BinOp.eql 113 (Operand.tmp 51) (Operand.tmp 54) 113, type := 4, pos := "slots.go:85", after := #[{ on := 0, ground := Ground.data }, { on := 3, ground := Ground.data }], guard := none }) (v := ?_) rfl (by kernel_rfl) (by kernel_rfl) (by kernel_rfl) (fun _ _ _ h => h) (Or.inl ⟨by rfl, ?_⟩) (by assumption) ?_
        rotate_left 1
        · intro w' hSw; go_simp; try with_reducible rfl
        (try simp only [Act.put, List.setIfInBounds_toArray, List.set_cons_zero, List.set_cons_succ])
        refine wpAnyH_done (by kernel_rfl) ?_ _
        clear hHeld
        go_wp2
        go_ret
        exact ⟨⟨some b0, rfl, .inr ⟨b0, a, rfl, LL.out.1, HA.out _ BB.out.drew, fun m hm => (FF.out m hm).trans (bitS_congr RR.out m hm)⟩⟩, BB.out.drew⟩
      | false =>
        simp only [q0] at Q0
        clear q0
        cases q1 : (List.range 16).all (fun j => ((shI a b (j * 2) : Int) == (b (j * 2) : Int)) && ((shI a b (j * 2 + 1) : Int) == (b (j * 2 + 1) : Int))) with
        | true =>
          simp only [q1] at Q1
          have RR := Lib.hid (sheet_eq q1)
          clear q1
          go_wp2
          refine wp_region_held_drew (S := fun W => W.rangeAt w.heap.size 0 (shL (shI a b)) ∧ W.rangeAt b0 0 (shL a) ∧ W.rangeAt b1 0 (shL b)) (by kernel_rfl) ?_ (fun hHeld => ?_)
          · exact S1.out
          refine wpAnyH_take (i := 0) (oi := { dst := some 51, op := Op.load 113 (Operand.tmp 5), type := 113, pos := "slots.go:85", after := #[], guard := none }) (v := _) rfl (by kernel_rfl) (by kernel_rfl) (by kernel_rfl) (fun _ _ _ h => h) (yieldsIf_load_mid (by rfl) _ _ rfl _ _ rfl _ _ (fun W h => h.1) hu rfl i0) (by assumption) ?_
          (try simp only [Act.put, List.setIfInBounds_toArray, List.set_cons_zero, List.set_cons_succ])
          refine wpAnyH_take (i := 1) (oi := { dst := some 52, op := Op.move (Operand.tmp 0), type := 57, pos := "slots.go:85", after := #[], guard := none }) (v := ?_) rfl (by kernel_rfl) (by kernel_rfl) (by kernel_rfl) (fun _ _ _ h => h) (Or.inl ⟨by rfl, ?_⟩) (by assumption) ?_
          rotate_left 1
          · intro w' hSw; go_simp; try with_reducible rfl
          (try simp only [Act.put, List.setIfInBounds_toArray, List.set_cons_zero, List.set_cons_succ])
          refine wpAnyH_take (i := 2) (oi := { dst := some 53, op := Op.nilCheck (Operand.tmp 52), type := 0, pos := "slots.go:85", after := #[{ on := 1, ground := Ground.data }], guard := none }) (v := ?_) rfl (by kernel_rfl) (by kernel_rfl) (by kernel_rfl) (fun _ _ _ h => h) (Or.inl ⟨by rfl, ?_⟩) (by assumption) ?_
          rotate_left 1
          · intro w' hSw; go_simp; try with_reducible rfl
          (try simp only [Act.put, List.setIfInBounds_toArray, List.set_cons_zero, List.set_cons_succ])
          refine wpAnyH_take (i := 3) (oi := { dst := some 54, op := Op.load 113 (Operand.tmp 53), type := 113, pos := "slots.go:85", after := #[{ on := 2, ground := Ground.data }], guard := none }) (v := _) rfl (by kernel_rfl) (by kernel_rfl) (by kernel_rfl) (fun _ _ _ h => h) (yieldsIf_load_mid (by rfl) _ _ rfl _ _ rfl _ _ (fun W h => h.2.1) hu rfl i1) (by assumption) ?_
          (try simp only [Act.put, List.setIfInBounds_toArray, List.set_cons_zero, List.set_cons_succ])
          refine wpAnyH_take (i := 4) (oi := { dst := some 55, op := Op.binOp BinOp.eql 113 (Operand.tmp 51) (Operand.tmp 54) 113, type := 4, pos := "slots.go:85", after := #[{ on := 0, ground := Ground.data }, { on := 3, ground := Ground.data }], guard := none }) (v := ?_) rfl (by kernel_rfl) (by kernel_rfl) (by kernel_rfl) (fun _ _ _ h => h) (Or.inl ⟨by rfl, ?_⟩) (by assumption) ?_
          rotate_left 1
          · intro w' hSw; go_simp; try with_reducible rfl
          (try simp only [Act.put, List.setIfInBounds_toArray, List.set_cons_zero, List.set_cons_succ])
          refine wpAnyH_done (by kernel_rfl) ?_ _
          clear hHeld
          go_wp2
          refine wp_region_held_drew (S := fun W => W.rangeAt w.heap.size 0 (shL (shI a b)) ∧ W.rangeAt b0 0 (shL a) ∧ W.rangeAt b1 0 (shL b)) (by kernel_rfl) ?_ (fun hHeld => ?_)
          · exact S2.out
          refine wpAnyH_take (i := 0) (oi := { dst := some 57, op := Op.load 113 (Operand.tmp 5), type := 113, pos := "slots.go:88", after := #[], guard := none }) (v := _) rfl (by kernel_rfl) (by kernel_rfl) (by kernel_rfl) (fun _ _ _ h => h) (yieldsIf_load_mid (by rfl) _ _ rfl _ _ rfl _ _ (fun W h => h.1) hu rfl i0) (by assumption) ?_
          (try simp only [Act.put, List.setIfInBounds_toArray, List.set_cons_zero, List.set_cons_succ])
          refine wpAnyH_take (i := 1) (oi := { dst := some 58, op := Op.move (Operand.tmp 1), type := 57, pos := "slots.go:88", after := #[], guard := none }) (v := ?_) rfl (by kernel_rfl) (by kernel_rfl) (by kernel_rfl) (fun _ _ _ h => h) (Or.inl ⟨by rfl, ?_⟩) (by assumption) ?_
          rotate_left 1
          · intro w' hSw; go_simp; try with_reducible rfl
          (try simp only [Act.put, List.setIfInBounds_toArray, List.set_cons_zero, List.set_cons_succ])
          refine wpAnyH_take (i := 2) (oi := { dst := some 59, op := Op.nilCheck (Operand.tmp 58), type := 0, pos := "slots.go:88", after := #[{ on := 1, ground := Ground.data }], guard := none }) (v := ?_) rfl (by kernel_rfl) (by kernel_rfl) (by kernel_rfl) (fun _ _ _ h => h) (Or.inl ⟨by rfl, ?_⟩) (by assumption) ?_
          rotate_left 1
          · intro w' hSw; go_simp; try with_reducible rfl
          (try simp only [Act.put, List.setIfInBounds_toArray, List.set_cons_zero, List.set_cons_succ])
          refine wpAnyH_take (i := 3) (oi := { dst := some 60, op := Op.load 113 (Operand.tmp 59), type := 113, pos := "slots.go:88", after := #[{ on := 2, ground := Ground.data }], guard := none }) (v := _) rfl (by kernel_rfl) (by kernel_rfl) (by kernel_rfl) (fun _ _ _ h => h) (yieldsIf_load_mid (by rfl) _ _ rfl _ _ rfl _ _ (fun W h => h.2.2) hu rfl i2) (by assumption) ?_
          (try simp only [Act.put, List.setIfInBounds_toArray, List.set_cons_zero, List.set_cons_succ])
          refine wpAnyH_take (i := 4) (oi := { dst := some 61, op := Op.binOp BinOp.eql 113 (Operand.tmp 57) (Operand.tmp 60) 113, type := 4, pos := "slots.go:88", after := #[{ on := 0, ground := Ground.data }, { on := 3, ground := Ground.data }], guard := none }) (v := ?_) rfl (by kernel_rfl) (by kernel_rfl) (by kernel_rfl) (fun _ _ _ h => h) (Or.inl ⟨by rfl, ?_⟩) (by assumption) ?_
          rotate_left 1
          · intro w' hSw; go_simp; try with_reducible rfl
          (try simp only [Act.put, List.setIfInBounds_toArray, List.set_cons_zero, List.set_cons_succ])
          refine wpAnyH_done (by kernel_rfl) ?_ _
          clear hHeld
          go_wp2
          go_ret
          exact ⟨⟨some b1, rfl, .inr ⟨b1, b, rfl, LL.out.2.1, HB.out _ BB.out.drew.drew, fun m hm => (FF.out m hm).trans (bitS_congr RR.out m hm)⟩⟩, BB.out.drew.drew⟩
        | false =>
          simp only [q1] at Q1
          clear q1
          have C2 := Lib.hid (p := BkP wr.drew.drew w.heap.size (shA (shI a b)) 113) ((CC.out.lat (drew1B _)).lat (drew1B _))
          go_wp2
          refine wp_region_held_drew (S := fun W => W.rangeAt w.heap.size 0 (shL (shI a b)) ∧ W.rangeAt b0 0 (shL a) ∧ W.rangeAt b1 0 (shL b)) (by kernel_rfl) ?_ (fun hHeld => ?_)
          · exact S1.out
          refine wpAnyH_take (i := 0) (oi := { dst := some 51, op := Op.load 113 (Operand.tmp 5), type := 113, pos := "slots.go:85", after := #[], guard := none }) (v := _) rfl (by kernel_rfl) (by kernel_rfl) (by kernel_rfl) (fun _ _ _ h => h) (yieldsIf_load_mid (by rfl) _ _ rfl _ _ rfl _ _ (fun W h => h.1) hu rfl i0) (by assumption) ?_
          (try simp only [Act.put, List.setIfInBounds_toArray, List.set_cons_zero, List.set_cons_succ])
          refine wpAnyH_take (i := 1) (oi := { dst := some 52, op := Op.move (Operand.tmp 0), type := 57, pos := "slots.go:85", after := #[], guard := none }) (v := ?_) rfl (by kernel_rfl) (by kernel_rfl) (by kernel_rfl) (fun _ _ _ h => h) (Or.inl ⟨by rfl, ?_⟩) (by assumption) ?_
          rotate_left 1
          · intro w' hSw; go_simp; try with_reducible rfl
          (try simp only [Act.put, List.setIfInBounds_toArray, List.set_cons_zero, List.set_cons_succ])
          refine wpAnyH_take (i := 2) (oi := { dst := some 53, op := Op.nilCheck (Operand.tmp 52), type := 0, pos := "slots.go:85", after := #[{ on := 1, ground := Ground.data }], guard := none }) (v := ?_) rfl (by kernel_rfl) (by kernel_rfl) (by kernel_rfl) (fun _ _ _ h => h) (Or.inl ⟨by rfl, ?_⟩) (by assumption) ?_
          rotate_left 1
          · intro w' hSw; go_simp; try with_reducible rfl
          (try simp only [Act.put, List.setIfInBounds_toArray, List.set_cons_zero, List.set_cons_succ])
          refine wpAnyH_take (i := 3) (oi := { dst := some 54, op := Op.load 113 (Operand.tmp 53), type := 113, pos := "slots.go:85", after := #[{ on := 2, ground := Ground.data }], guard := none }) (v := _) rfl (by kernel_rfl) (by kernel_rfl) (by kernel_rfl) (fun _ _ _ h => h) (yieldsIf_load_mid (by rfl) _ _ rfl _ _ rfl _ _ (fun W h => h.2.1) hu rfl i1) (by assumption) ?_
          (try simp only [Act.put, List.setIfInBounds_toArray, List.set_cons_zero, List.set_cons_succ])
          refine wpAnyH_take (i := 4) (oi := { dst := some 55, op := Op.binOp BinOp.eql 113 (Operand.tmp 51) (Operand.tmp 54) 113, type := 4, pos := "slots.go:85", after := #[{ on := 0, ground := Ground.data }, { on := 3, ground := Ground.data }], guard := none }) (v := ?_) rfl (by kernel_rfl) (by kernel_rfl) (by kernel_rfl) (fun _ _ _ h => h) (Or.inl ⟨by rfl, ?_⟩) (by assumption) ?_
          rotate_left 1
          · intro w' hSw; go_simp; try with_reducible rfl
          (try simp only [Act.put, List.setIfInBounds_toArray, List.set_cons_zero, List.set_cons_succ])
          refine wpAnyH_done (by kernel_rfl) ?_ _
          clear hHeld
          go_wp2
          refine wp_region_held_drew (S := fun W => W.rangeAt w.heap.size 0 (shL (shI a b)) ∧ W.rangeAt b0 0 (shL a) ∧ W.rangeAt b1 0 (shL b)) (by kernel_rfl) ?_ (fun hHeld => ?_)
          · exact S2.out
          refine wpAnyH_take (i := 0) (oi := { dst := some 57, op := Op.load 113 (Operand.tmp 5), type := 113, pos := "slots.go:88", after := #[], guard := none }) (v := _) rfl (by kernel_rfl) (by kernel_rfl) (by kernel_rfl) (fun _ _ _ h => h) (yieldsIf_load_mid (by rfl) _ _ rfl _ _ rfl _ _ (fun W h => h.1) hu rfl i0) (by assumption) ?_
          (try simp only [Act.put, List.setIfInBounds_toArray, List.set_cons_zero, List.set_cons_succ])
          refine wpAnyH_take (i := 1) (oi := { dst := some 58, op := Op.move (Operand.tmp 1), type := 57, pos := "slots.go:88", after := #[], guard := none }) (v := ?_) rfl (by kernel_rfl) (by kernel_rfl) (by kernel_rfl) (fun _ _ _ h => h) (Or.inl ⟨by rfl, ?_⟩) (by assumption) ?_
          rotate_left 1
          · intro w' hSw; go_simp; try with_reducible rfl
          (try simp only [Act.put, List.setIfInBounds_toArray, List.set_cons_zero, List.set_cons_succ])
          refine wpAnyH_take (i := 2) (oi := { dst := some 59, op := Op.nilCheck (Operand.tmp 58), type := 0, pos := "slots.go:88", after := #[{ on := 1, ground := Ground.data }], guard := none }) (v := ?_) rfl (by kernel_rfl) (by kernel_rfl) (by kernel_rfl) (fun _ _ _ h => h) (Or.inl ⟨by rfl, ?_⟩) (by assumption) ?_
          rotate_left 1
          · intro w' hSw; go_simp; try with_reducible rfl
          (try simp only [Act.put, List.setIfInBounds_toArray, List.set_cons_zero, List.set_cons_succ])
          refine wpAnyH_take (i := 3) (oi := { dst := some 60, op := Op.load 113 (Operand.tmp 59), type := 113, pos := "slots.go:88", after := #[{ on := 2, ground := Ground.data }], guard := none }) (v := _) rfl (by kernel_rfl) (by kernel_rfl) (by kernel_rfl) (fun _ _ _ h => h) (yieldsIf_load_mid (by rfl) _ _ rfl _ _ rfl _ _ (fun W h => h.2.2) hu rfl i2) (by assumption) ?_
          (try simp only [Act.put, List.setIfInBounds_toArray, List.set_cons_zero, List.set_cons_succ])
          refine wpAnyH_take (i := 4) (oi := { dst := some 61, op := Op.binOp BinOp.eql 113 (Operand.tmp 57) (Operand.tmp 60) 113, type := 4, pos := "slots.go:88", after := #[{ on := 0, ground := Ground.data }, { on := 3, ground := Ground.data }], guard := none }) (v := ?_) rfl (by kernel_rfl) (by kernel_rfl) (by kernel_rfl) (fun _ _ _ h => h) (Or.inl ⟨by rfl, ?_⟩) (by assumption) ?_
          rotate_left 1
          · intro w' hSw; go_simp; try with_reducible rfl
          (try simp only [Act.put, List.setIfInBounds_toArray, List.set_cons_zero, List.set_cons_succ])
          refine wpAnyH_done (by kernel_rfl) ?_ _
          clear hHeld
          go_wp2_with (first | (with_reducible show wpList _ _ _ (Oper.mk _ (Op.alloc 113) _ _ _ _ :: _) _ _; refine alloc_sh rfl rfl ?_) | (with_reducible show wpList _ _ _ (Oper.mk _ (Op.load 113 _) _ _ _ _ :: _) _ _; refine load_sh rfl _ rfl w.heap.size rfl (shI a b) C2.out ?_) | (with_reducible show wpList _ _ _ (Oper.mk _ (Op.store 113 _ _) _ _ _ _ :: _) _ _; refine store_sh rfl _ _ rfl _ rfl (shI a b) rfl rfl ?_))
          go_ret
          have GB := BB.out.drew.drew.alloc BB.out.drew.drew.size (.cells (shA (shI a b)) 113)
          exact ⟨⟨some wr.drew.drew.heap.size, rfl, .inr ⟨_, shI a b, rfl, Nat.le_trans LL.out.2.2 BB.out.drew.drew.size, ⟨heapN _ _, OK.out.1, OK.out.2⟩, FF.out⟩⟩, GB⟩
theorem common_any {w : World} {B : Nat} {p q : Option Nat} {f g : Nat → Nat} (hp : PaR w B p f) (hq : PaR w B q g) (hB : B ≤ w.heap.size) :
    Calls Tryd.prog 53 #[ptN p, ptN q] w fun e w' => ComE w B f g e w' := by
  by_cases he : p = q ∨ p = none ∨ q = none
  · exact common_easy hp hq he
  · have hp2 := hp
    have hq2 := hq
    rcases hp2 with ⟨p1, _⟩ | ⟨b0, a, rfl, l0, ha, hf⟩
    · exact absurd (.inr (.inl p1)) he
    · rcases hq2 with ⟨q1, _⟩ | ⟨b1, b, rfl, l1, hb, hg⟩
      · exact absurd (.inr (.inr q1)) he
      · exact common_hard (fun e => he (.inl (by rw [e]))) l0 l1 ha hb hf hg hB
end Go.Proofs.YteedkcmjhdabeaaDoor

namespace Go.Proofs.YteedkcmjhdabeaaDoor
open Go.RowKit
set_option linter.unusedVariables false
set_option linter.unusedSimpArgs false
structure MeetE (w : World) (B : Nat) (G : Tg) (x tb : Nat) (s : Vs) (g : Nat → Nat) (e : Ending) (w' : World) : Prop where
  ret : e = .returned (.tuple #[])
  gro : w.grownBy w' (some x)
  sta : ∃ ps, SvR w' B G x tb ps ⟨s.st, vMeet s.sl g⟩
def psL2 (ps : Nat → Option Nat) : List Value := (List.range 16).map (fun j => ptN (ps j))
theorem slots_info : (Tryd.prog.info? 59).map (·.size) = some 16 := by kernel_rfl
theorem range_st {W : World} {x tb h : Nat} {ps : Nat → Option Nat} (hb : BkP W x (stA tb h ps) 61) : W.rangeAt x 2 (psL2 ps) := by
  have hr := World.rangeAt_of_block hb 2 16
  have he : (stA tb h ps).extract 2 (2 + 16) = (psL2 ps).toArray := by
    apply Array.ext_getElem?
    intro k
    by_cases hk : k < 16
    · rw [Array.getElem?_extract]
      rw [if_pos (by rw [stA_size]; omega), stA_sh _ _ _ k hk]
      simp [psL2, hk]
    · rw [Array.getElem?_eq_none (by simp [stA_size]; omega), Array.getElem?_eq_none (by simp [psL2]; omega)]
  rw [he] at hr
  exact hr
theorem range_ps {W : World} {x : Nat} {ps : Nat → Option Nat} (hb : BkP W x (psV ps) 59) : W.rangeAt x 0 (psL2 ps) := by
  have hr := World.rangeAt_of_block hb 0 16
  have he : (psV ps).extract 0 (0 + 16) = psV ps := by
    have : (psV ps).size = 16 := by simp [psV]
    simp only [Nat.zero_add]
    rw [← this, Array.extract_size]
  rw [he] at hr
  exact hr
theorem stA_setO (tb h : Nat) (ps : Nat → Option Nat) (j : Nat) (c : Option Nat) (hj : j < 16) : (stA tb h ps).set! (2 + j) (ptN c) = stA tb h (fun i => if i = j then c else ps i) := by
  apply Array.ext_getElem?
  intro k
  rw [Array.set!_eq_setIfInBounds, Array.getElem?_setIfInBounds]
  by_cases hk : k < 18
  · match k with
    | 0 => rw [if_neg (by omega), stA_top, stA_top]
    | 1 => rw [if_neg (by omega), stA_ht, stA_ht]
    | k + 2 =>
      rw [show k + 2 = 2 + k by omega, stA_sh _ _ _ k (by omega), stA_sh _ _ _ k (by omega), stA_size]
      by_cases e : k = j
      · subst e
        rw [if_pos rfl, if_pos (by omega), if_pos rfl]
      · rw [if_neg (by omega), if_neg e]
  · rw [if_neg (by omega), Array.getElem?_eq_none (by rw [stA_size]; omega), Array.getElem?_eq_none (by rw [stA_size]; omega)]
theorem meet_same {w : World} {B : Nat} {G : Tg} {x tb : Nat} {ps qs : Nat → Option Nat} {s : Vs} {g : Nat → Nat} (h : SvR w B G x tb ps s) (hq : SlR w B qs g) (e : ∀ k, k < 16 → ps k = qs k) : SvR w B G x tb ps ⟨s.st, vMeet s.sl g⟩ :=
  ⟨h.top, h.box, fun j hj => (h.slt j hj).congr (fun m hm => by
    show vMeet s.sl g (j * 1024 + m) = s.sl (j * 1024 + m)
    have k := hq j hj
    rw [← e j hj] at k
    unfold vMeet
    rw [if_pos ((h.slt j hj).same k m hm)]), h.low⟩
theorem meet_next {w wr W : World} {B : Nat} {G : Tg} {x tb : Nat} {ps qs pk : Nat → Option Nat} {s : Vs} {g : Nat → Nat} {k : Nat} {r : Option Nat} (h : SvR w B G x tb ps s) (hk : k < 16) (hX : BkP wr x (stA tb s.st.length pk) 61) (hP : RowKit.Hid (∀ j, j < k → PaR wr B (pk j) (fun m => vMeet s.sl g (j * 1024 + m)))) (hR : RowKit.Hid (∀ j, k ≤ j → pk j = ps j)) (hO : BkP wr w.heap.size (psV qs) 59) (hg : w.grownBy wr (some x)) (b : Below wr.heap.size wr W) (hr : PaR W B r (fun m => if s.sl (k * 1024 + m) = g (k * 1024 + m) then s.sl (k * 1024 + m) else 0)) :
    ∃ pk' : Nat → Option Nat, BkP (W.setCell ⟨x, 2 + k, none⟩ (ptN r)) x (stA tb s.st.length pk') 61 ∧ RowKit.Hid (∀ j, j < k + 1 → PaR (W.setCell ⟨x, 2 + k, none⟩ (ptN r)) B (pk' j) (fun m => vMeet s.sl g (j * 1024 + m))) ∧ RowKit.Hid (∀ j, k + 1 ≤ j → pk' j = ps j) ∧ BkP (W.setCell ⟨x, 2 + k, none⟩ (ptN r)) w.heap.size (psV qs) 59 ∧ w.grownBy (W.setCell ⟨x, 2 + k, none⟩ (ptN r)) (some x) := by
  have XW := hX.lat b
  have g1 := setCell_gr W x (2 + k) (ptN r)
  refine ⟨fun i => if i = k then r else pk i, ?_, ?_, ?_, ?_, ?_⟩
  · have := XW.set2 (2 + k) (ptN r) (by rw [stA_size]; omega)
    have e : (stA tb s.st.length pk).set! (2 + k) (ptN r) = stA tb s.st.length (fun i => if i = k then r else pk i) := stA_setO _ _ _ _ _ hk
    rw [e] at this
    exact this
  · intro j hj
    by_cases e : j = k
    · subst e
      simp only [if_pos]
      exact (hr.other g1 XW (by decide)).congr (fun m hm => rfl)
    · simp only [if_neg e]
      exact ((hP.out j (by omega)).later b).other g1 XW (by decide)
  · intro j hj
    simp only [if_neg (show ¬ j = k by omega)]
    exact hR.out j (by omega)
  · exact (hO.lat b).other x _ _ (by have := h.box.lt; omega)
  · exact gx_at (gx_bel hg b) _ _
theorem meet_end {w wr : World} {B : Nat} {G : Tg} {x tb : Nat} {ps pk : Nat → Option Nat} {s : Vs} {g : Nat → Nat} (h : SvR w B G x tb ps s) (hX : BkP wr x (stA tb s.st.length pk) 61) (hP : ∀ j, j < 16 → PaR wr B (pk j) (fun m => vMeet s.sl g (j * 1024 + m))) (hg : w.grownBy wr (some x)) : MeetE w B G x tb s g (.returned (.tuple #[])) wr :=
  ⟨rfl, hg, pk, ⟨h.top, hX, hP, h.low⟩⟩
set_option maxRecDepth 100000 in
set_option maxHeartbeats 4000000 in
theorem meet_any {w : World} {B : Nat} {G : Tg} {x tb : Nat} {ps qs : Nat → Option Nat} {s : Vs} {g : Nat → Nat} (h : SvR w B G x tb ps s) (hq : SlR w B qs g) (hB : B ≤ w.heap.size) :
    Calls Tryd.prog 45 #[.pointer (some ⟨x, 2, none⟩), .agg (psV qs)] w fun e w' => MeetE w B G x tb s g e w' := by
  have S1 := Lib.hid (p := (w.alloc (.cells (psV qs) 59)).rangeAt x 2 (psL2 ps) ∧ (w.alloc (.cells (psV qs) 59)).rangeAt w.heap.size 0 (psL2 qs)) ⟨range_st (h.box.lat (allocBP _ _)), range_ps (heapN _ _)⟩
  have hu : Tryd.prog.underlying 59 = some (.array 16 57) := by kernel_rfl
  have i0 : (Tryd.prog.info? 59).map (·.size) = some (psL2 ps).length := by rw [slots_info]; simp [psL2]
  have i1 : (Tryd.prog.info? 59).map (·.size) = some (psL2 qs).length := by rw [slots_info]; simp [psL2]
  have Q0 : ∀ W, (Below w.heap.size w W) → (Op.equalIn 10000 59 (.agg (psL2 ps).toArray) (.agg (psL2 qs).toArray)).run Tryd.prog W = _ := fun W b => eq_slots W ps qs (fun j hj c e => ((h.slt j hj).later b).blk c e) (fun j hj c e => ((hq j hj).later b).blk c e)
  have HX := Lib.hid h
  have HQ := Lib.hid hq
  have HB := Lib.hid hB
  clear h hq hB
  go_enter Tryd.func45, Tryd.ntmps45
  go_wp2
  cases q0 : (List.range 16).all (fun j => decide (ps j = qs j)) with
  | true =>
    simp only [q0] at Q0
    have EE := slots_eq q0
    have E := Lib.hid (meet_same HX.out HQ.out EE)
    clear q0 EE
    refine wp_region_held_drew (S := fun W => W.rangeAt x 2 (psL2 ps) ∧ W.rangeAt w.heap.size 0 (psL2 qs) ∧ Below w.heap.size w W) (by kernel_rfl) ?_ (fun hHeld => ?_)
    · exact ⟨S1.out.1, S1.out.2, (allocBP _ _).drew⟩
    refine wpAnyH_take (i := 0) (oi := { dst := some 5, op := Op.move (Operand.tmp 0), type := 106, pos := "slots.go:64", after := #[], guard := none }) (v := ?_) rfl (by kernel_rfl) (by kernel_rfl) (by kernel_rfl) (fun _ _ _ h => h) (Or.inl ⟨by rfl, ?_⟩) (by assumption) ?_
    rotate_left 1
    · intro w' hSw; go_simp; try with_reducible rfl
    (try simp only [Act.put, List.setIfInBounds_toArray, List.set_cons_zero, List.set_cons_succ])
    refine wpAnyH_take (i := 1) (oi := { dst := some 6, op := Op.nilCheck (Operand.tmp 5), type := 0, pos := "slots.go:64", after := #[{ on := 0, ground := Ground.data }], guard := none }) (v := ?_) rfl (by kernel_rfl) (by kernel_rfl) (by kernel_rfl) (fun _ _ _ h => h) (Or.inl ⟨by rfl, ?_⟩) (by assumption) ?_
    rotate_left 1
    · intro w' hSw; go_simp; try with_reducible rfl
    (try simp only [Act.put, List.setIfInBounds_toArray, List.set_cons_zero, List.set_cons_succ])
    refine wpAnyH_take (i := 2) (oi := { dst := some 7, op := Op.load 59 (Operand.tmp 6), type := 59, pos := "slots.go:64", after := #[{ on := 1, ground := Ground.data }], guard := none }) (v := _) rfl (by kernel_rfl) (by kernel_rfl) (by kernel_rfl) (fun _ _ _ h => h) (yieldsIf_load_mid (by rfl) _ _ rfl _ _ rfl _ _ (fun W h => h.1) hu rfl i0) (by assumption) ?_
    (try simp only [Act.put, List.setIfInBounds_toArray, List.set_cons_zero, List.set_cons_succ])
    refine wpAnyH_take (i := 3) (oi := { dst := some 8, op := Op.load 59 (Operand.tmp 3), type := 59, pos := "slots.go:64", after := #[], guard := none }) (v := _) rfl (by kernel_rfl) (by kernel_rfl) (by kernel_rfl) (fun _ _ _ h => h) (yieldsIf_load_mid (by rfl) _ _ rfl _ _ rfl _ _ (fun W h => h.2.1) hu rfl i1) (by assumption) ?_
    (try simp only [Act.put, List.setIfInBounds_toArray, List.set_cons_zero, List.set_cons_succ])
    refine wpAnyH_take (i := 4) (oi := { dst := some 9, op := Op.binOp BinOp.eql 59 (Operand.tmp 7) (Operand.tmp 8) 59, type := 4, pos := "slots.go:64", after := #[{ on := 2, ground := Ground.data }, { on := 3, ground := Ground.data }], guard := none }) (v := ?_) rfl (by kernel_rfl) (by kernel_rfl) (by kernel_rfl) (fun _ _ _ h => h) (Or.inl ⟨by rfl, ?_⟩) (by assumption) ?_
    rotate_left 1
    · intro w' hSw; have qq := Q0 w' hSw.2.2; go_simp; try with_reducible rfl
    (try simp only [Act.put, List.setIfInBounds_toArray, List.set_cons_zero, List.set_cons_succ])
    refine wpAnyH_done (by kernel_rfl) ?_ _
    clear hHeld
    go_wp2
    refine bodyPost_ret (results_none rfl _ _ _) rfl ?_
    exact ⟨rfl, gx_drew (gx_alloc (gx_refl _ _) _), ps, (E.out.later (allocBP _ _)).later (drew1B _)⟩
  | false =>
    simp only [q0] at Q0
    clear q0
    refine wp_region_held_drew (S := fun W => W.rangeAt x 2 (psL2 ps) ∧ W.rangeAt w.heap.size 0 (psL2 qs) ∧ Below w.heap.size w W) (by kernel_rfl) ?_ (fun hHeld => ?_)
    · exact ⟨S1.out.1, S1.out.2, (allocBP _ _).drew⟩
    refine wpAnyH_take (i := 0) (oi := { dst := some 5, op := Op.move (Operand.tmp 0), type := 106, pos := "slots.go:64", after := #[], guard := none }) (v := ?_) rfl (by kernel_rfl) (by kernel_rfl) (by kernel_rfl) (fun _ _ _ h => h) (Or.inl ⟨by rfl, ?_⟩) (by assumption) ?_
    rotate_left 1
    · intro w' hSw; go_simp; try with_reducible rfl
    (try simp only [Act.put, List.setIfInBounds_toArray, List.set_cons_zero, List.set_cons_succ])
    refine wpAnyH_take (i := 1) (oi := { dst := some 6, op := Op.nilCheck (Operand.tmp 5), type := 0, pos := "slots.go:64", after := #[{ on := 0, ground := Ground.data }], guard := none }) (v := ?_) rfl (by kernel_rfl) (by kernel_rfl) (by kernel_rfl) (fun _ _ _ h => h) (Or.inl ⟨by rfl, ?_⟩) (by assumption) ?_
    rotate_left 1
    · intro w' hSw; go_simp; try with_reducible rfl
    (try simp only [Act.put, List.setIfInBounds_toArray, List.set_cons_zero, List.set_cons_succ])
    refine wpAnyH_take (i := 2) (oi := { dst := some 7, op := Op.load 59 (Operand.tmp 6), type := 59, pos := "slots.go:64", after := #[{ on := 1, ground := Ground.data }], guard := none }) (v := _) rfl (by kernel_rfl) (by kernel_rfl) (by kernel_rfl) (fun _ _ _ h => h) (yieldsIf_load_mid (by rfl) _ _ rfl _ _ rfl _ _ (fun W h => h.1) hu rfl i0) (by assumption) ?_
    (try simp only [Act.put, List.setIfInBounds_toArray, List.set_cons_zero, List.set_cons_succ])
    refine wpAnyH_take (i := 3) (oi := { dst := some 8, op := Op.load 59 (Operand.tmp 3), type := 59, pos := "slots.go:64", after := #[], guard := none }) (v := _) rfl (by kernel_rfl) (by kernel_rfl) (by kernel_rfl) (fun _ _ _ h => h) (yieldsIf_load_mid (by rfl) _ _ rfl _ _ rfl _ _ (fun W h => h.2.1) hu rfl i1) (by assumption) ?_
    (try simp only [Act.put, List.setIfInBounds_toArray, List.set_cons_zero, List.set_cons_succ])
    refine wpAnyH_take (i := 4) (oi := { dst := some 9, op := Op.binOp BinOp.eql 59 (Operand.tmp 7) (Operand.tmp 8) 59, type := 4, pos := "slots.go:64", after := #[{ on := 2, ground := Ground.data }, { on := 3, ground := Ground.data }], guard := none }) (v := ?_) rfl (by kernel_rfl) (by kernel_rfl) (by kernel_rfl) (fun _ _ _ h => h) (Or.inl ⟨by rfl, ?_⟩) (by assumption) ?_
    rotate_left 1
    · intro w' hSw; have qq := Q0 w' hSw.2.2; go_simp; try with_reducible rfl
    (try simp only [Act.put, List.setIfInBounds_toArray, List.set_cons_zero, List.set_cons_succ])
    refine wpAnyH_done (by kernel_rfl) ?_ _
    clear hHeld
    clear Q0 i0 i1 hu S1
    go_wp2
    go_loopw [10] (fun t wr => ∃ (k : Nat) (pk : Nat → Option Nat), k ≤ 16 ∧ t = .int .i64 (k : Int) ∧ BkP wr x (stA tb s.st.length pk) 61 ∧ RowKit.Hid (∀ j, j < k → PaR wr B (pk j) (fun m => vMeet s.sl g (j * 1024 + m))) ∧ RowKit.Hid (∀ j, k ≤ j → pk j = ps j) ∧ BkP wr w.heap.size (psV qs) 59 ∧ w.grownBy wr (some x)) (fun t _ => 16 - (intOf t).toNat)
    case atStart =>
      exact ⟨0, ps, by omega, rfl, (HX.out.box.lat (allocBP _ _)).lat (drew1B _), (fun j hj => absurd hj (by omega)), (fun j _ => rfl), BkP.lat (heapN _ _) (drew1B _), gx_drew (gx_alloc (gx_refl _ _) _)⟩
    case round =>
      rename World => wr
      obtain ⟨k, pk, hk, rfl, hX, hP, hR, hO, hg⟩ := hrel
      by_cases hlt : k < 16
      · have kc : (k : Int) < 16 := by omega
        have kn : ¬ (k : Int) < 0 := by omega
        have ks : IntKind.i64.wrap ((k : Int) + 1) = (k : Int) + 1 := by simp [IntKind.wrap, IntKind.bits, IntKind.signed]; omega
        have p1 := (HX.out.slt k hlt).other hg HX.out.box (by decide)
        have p2 := (HQ.out k hlt).other hg HX.out.box (by decide)
        have c0 := hX.cell (2 + k)
        have c1 := hO.cell k
        have c2 := (hX.lat (drew1B wr)).cell (2 + k)
        have c3 := (hO.lat (drew1B wr)).cell k
        rw [stA_sh _ _ _ _ hlt, hR.out k (Nat.le_refl _)] at c0 c2
        rw [psV_at _ _ hlt] at c1 c3
        have KC := Lib.hid (p := ∀ W, Below wr.heap.size wr W → Calls Tryd.prog 53 #[ptN (ps k), ptN (qs k)] W fun e w' => ∃ r, e = .returned (ptN r) ∧ PaR w' B r (fun m => if s.sl (k * 1024 + m) = g (k * 1024 + m) then s.sl (k * 1024 + m) else 0) ∧ Below wr.heap.size wr w') (fun W b => (common_any (p1.later b) (p2.later b) (Nat.le_trans HB.out (Nat.le_trans hg.size b.size))).mono (fun e w' h => ⟨h.ret.choose, h.ret.choose_spec.1, h.ret.choose_spec.2, b.trans (h.bel.mono b.size)⟩))
        have MK := Lib.hid (fun W r (b : Below wr.heap.size wr W) (hr : PaR W B r (fun m => if s.sl (k * 1024 + m) = g (k * 1024 + m) then s.sl (k * 1024 + m) else 0)) => meet_next HX.out hlt hX hP hR hO hg b hr)
        have XL := Lib.hid (fun W (b : Below wr.heap.size wr W) => hX.lat b)
        generalize hp : ps k = p at *
        generalize hq : qs k = q at *
        clear hp hq p1 p2 hX hP hR hO hg
        unfold ptN at c0 c1 c2 c3 KC
        generalize Option.map (fun x => (⟨x, 0, none⟩ : Addr)) p = pa at *
        generalize Option.map (fun x => (⟨x, 0, none⟩ : Addr)) q = qa at *
        go_wp2
        go_region_with (go_at_call 53; refine (KC.out _ (by first | exact Below.refl _ _ | exact drew1B _ | exact (drew1B _).trans (drew1B _))).mono ?_; rintro e w3 ⟨r, rfl, hr, hb⟩; have c4 := (XL.out w3 hb).cell (2 + k); rw [stA_sh _ _ _ _ hlt] at c4; have f4 := (XL.out w3 hb).frozen (2 + k); have M := Lib.hid (MK.out w3 r hb hr); clear hr hb; unfold ptN at M; generalize Option.map (fun x => (⟨x, 0, none⟩ : Addr)) r = ra at *)
        all_goals
          go_wp2
          obtain ⟨pk', m1, m2, m3, m4, m5⟩ := M.out
          first
            | exact ⟨⟨k + 1, pk', by omega, by go_num, m1, m2, m3, m4, m5⟩, by simp [intOf]; omega⟩
            | exact ⟨⟨k + 1, pk', by omega, by go_num, m1.lat (drew1B _), fun j hj => (m2.out j hj).later (drew1B _), m3, m4.lat (drew1B _), gx_drew m5⟩, by simp [intOf]; omega⟩
      · obtain rfl : k = 16 := by omega
        have E := Lib.hid (meet_end HX.out hX hP.out hg)
        clear hX hP hR hO hg
        go_wp2
        go_end0
        exact E.out
end Go.Proofs.YteedkcmjhdabeaaDoor
