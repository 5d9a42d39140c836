import Derived.Test.YtpfjnnkjoabgbaaGreatDoorXAF
import Derived.Test.YtpfjnnkjoabgbaaGreatDoorXAH
import Derived.Test.YtpfjnnkjoabgbaaGreatDoorXAE
import Derived.Test.YtpfjnnkjoabgbaaGreatDoorXAB
import Derived.Deep.AppendLies
import Derived.ProofKit
namespace Go.Proofs.YtpfjnnkjoabgbaaGreatDoor
set_option linter.unusedVariables false
set_option linter.unusedSimpArgs false
def trI (b : Bool) : Int := if b then 1 else 0
/-- An operator: x, y, z were put in this order; the value and the fault. -/
def mOp (k : Nat) (mode x y z : Int) : Int × Int :=
  match k with
  | 9 => (fitV (x + y), fitF (x + y))
  | 10 => (fitV (x - y), fitF (x - y))
  | 11 => (fitV (x * y), fitF (x * y))
  | 12 => (fitV (-x), fitF (-x))
  | 13 => (divV x y, divF x y)
  | 14 => (modV x y, modF y)
  | 15 => (fitV (absI x), fitF (absI x))
  | 16 => (min x y, 0)
  | 17 => (max x y, 0)
  | 18 => if z = 0 then (0, 2) else (fitV (ratN x y z mode), fitF (ratN x y z mode))
  | 19 => (trI (decide (x < y)), 0)
  | 20 => (trI (decide (x ≤ y)), 0)
  | 21 => (trI (decide (y < x)), 0)
  | 22 => (trI (decide (y ≤ x)), 0)
  | 23 => (trI (x == y), 0)
  | 24 => (trI (x != y), 0)
  | _ => (trI (x == 0), 0)
/-- What a day's code is done in: the day, the pool, the currencies, the day's row and those ahead of it. -/
structure EvM where
  t : Int
  pool : List Int
  curs : List ByteArray
  row : List Cl
  past : List (List Cl)
/-- A day's code that is being done: the stack (the topmost first), the slots, the accumulators, the flows, the next place, whether it has ended. -/
structure Rn where
  st : List Int
  sl : List Int
  ce : List Int
  fl : List Fl
  nx : Nat
  en : Bool
  deriving Inhabited
def EvM.seen (E : EvM) (b : Nat) : List Cl := if b = 0 then E.row else E.past.getD (E.past.length - b) []
def slSet (l : List Int) (a : Nat) (v : Int) : List Int := (l ++ List.replicate (a + 1 - l.length) 0).set a v
def Rn.put (r : Rn) (v : Int) : Rn := { r with st := v :: r.st }
def Rn.cut (r : Rn) (n : Nat) : Rn := { r with st := r.st.drop n }
/-- The operands, in the order in which they were put. -/
def argX (n : Nat) (st : List Int) : Int := st.getD (n - 1) 0
def argY (n : Nat) (st : List Int) : Int := st.getD (n - 2) 0
def argZ (st : List Int) : Int := st.getD 0 0
/-- An instruction: the fault (0: none), and what is behind it. -/
def mDo (E : EvM) (i : In) (r : Rn) : Int × Rn :=
  match i.o.toNat with
  | 0 => (0, { r with en := true })
  | 1 => (0, r.put (E.pool.getD i.a.toNat 0))
  | 2 => (0, r.put i.a)
  | 3 => if ((E.seen i.b.toNat).getD i.a.toNat default).h then (0, r.put ((E.seen i.b.toNat).getD i.a.toNat default).v) else (3, r)
  | 4 => (0, r.put (r.ce.getD i.a.toNat 0))
  | 5 => (0, { r with ce := r.ce.set i.a.toNat (r.st.getD 0 0), st := r.st.drop 1 })
  | 6 => (0, { r with sl := slSet r.sl i.a.toNat (r.st.getD 0 0) })
  | 7 => (0, r.put (r.sl.getD i.a.toNat 0))
  | 8 => (0, r.cut 1)
  | 26 => (0, { r with nx := r.nx + i.a.toNat })
  | 27 => (0, if r.st.getD 0 0 = 0 then { r with nx := r.nx + i.a.toNat, st := r.st.drop 1 } else r.cut 1)
  | 28 => (0, { r with fl := r.fl ++ [⟨E.t, E.curs.getD i.a.toNat ⟨#[]⟩, r.st.getD 0 0⟩], st := r.st.drop 1 })
  | k => if (mOp k i.a (argX (tkA k) r.st) (argY (tkA k) r.st) (argZ r.st)).2 = 0 then (0, (r.cut (tkA k)).put (mOp k i.a (argX (tkA k) r.st) (argY (tkA k) r.st) (argZ r.st)).1)
    else ((mOp k i.a (argX (tkA k) r.st) (argY (tkA k) r.st) (argZ r.st)).2, r.cut (tkA k))
/-- The instruction at the next place is done. -/
def mAt (E : EvM) (code : List In) (r : Rn) : Int × Rn := mDo E (code.getD r.nx default) { r with nx := r.nx + 1 }
/-- So many instructions at most: the fault, how many were done, what is behind them. -/
def mGo (E : EvM) (code : List In) : Nat → Rn → Int × Nat × Rn
  | 0, r => (0, 0, r)
  | n + 1, r =>
    if (mAt E code r).1 ≠ 0 ∨ (mAt E code r).2.en = true then ((mAt E code r).1, 1, (mAt E code r).2)
    else ((mGo E code n (mAt E code r).2).1, (mGo E code n (mAt E code r).2).2.1 + 1, (mGo E code n (mAt E code r).2).2.2)
/-- A row, fitted. -/
def fitR (n : Nat) (row : List Cl) : List Cl := (List.range n).map (fun j => if (row.getD j default).h then row.getD j default else ⟨false, 0⟩)
/-- A state of a machine. -/
structure Ms where
  today : Int
  steps : Int
  cells : List Int
  past : List (List Cl)
  fault : Int
  day : Int
  deriving Inhabited
def Ms.over (s : Ms) (hor : Int) : Prop := s.fault ≠ 0 ∨ hor < s.today
instance (s : Ms) (hor : Int) : Decidable (s.over hor) := by unfold Ms.over; exact inferInstance
/-- A day's code: [] if there is none. -/
def dayCode (days : List Sg) (t : Int) : List In := match days.find? (fun s => decide (s.day = t)) with | some s => s.code | none => []
def Pg.env (p : Pg) (s : Ms) (row : List Cl) : EvM := ⟨s.today, p.pool, p.curs, fitR p.names.length row, s.past⟩
def Ms.begun (s : Ms) : Rn := ⟨[], [], s.cells, [], 0, false⟩
def dayGo (p : Pg) (s : Ms) (row : List Cl) : Int × Nat × Rn := mGo (p.env s row) (dayCode p.days s.today) (dayCode p.days s.today).length s.begun
def pastOn (back : Int) (past : List (List Cl)) (row : List Cl) : List (List Cl) := if back < ((past.length + 1 : Nat) : Int) then (past ++ [row]).drop 1 else past ++ [row]
/-- A day behind which the machine is so; its flows, its fault. -/
def dayMs (p : Pg) (back : Int) (s : Ms) (row : List Cl) : Ms :=
  ⟨s.today + 1, s.steps + (dayGo p s row).2.1, (dayGo p s row).2.2.ce, pastOn back s.past (fitR p.names.length row), if (dayGo p s row).1 = 0 then s.fault else (dayGo p s row).1, if (dayGo p s row).1 = 0 then s.day else s.today⟩
def dayFl (p : Pg) (s : Ms) (row : List Cl) : List Fl := (dayGo p s row).2.2.fl
/-- A new machine. -/
def Pg.born (p : Pg) : Ms := ⟨0, 0, List.replicate p.cells.toNat 0, [], 0, 0⟩
/-- The machine behind so many days (those on which it was over count for nothing), and all flows. -/
def runMs (p : Pg) (back : Int) (rows : Nat → List Cl) : Nat → Ms → Ms × List Fl
  | 0, s => (s, [])
  | n + 1, s => if (runMs p back rows n s).1.over p.hor then runMs p back rows n s
    else (dayMs p back (runMs p back rows n s).1 (rows n), (runMs p back rows n s).2 ++ dayFl p (runMs p back rows n s).1 (rows n))
end Go.Proofs.YtpfjnnkjoabgbaaGreatDoor

namespace Go.Proofs.YtpfjnnkjoabgbaaGreatDoor
set_option linter.unusedVariables false
set_option linter.unusedSimpArgs false
/-- What is known of a place holds of a day's code that is being done. -/
structure Fits (t : Vs) (r : Rn) : Prop where
  st : t.st.length = r.st.length
  sl : ∀ y, t.sl y ≠ 0 → y < r.sl.length
theorem Fits.cov {t u : Vs} {r : Rn} (h : Fits t r) (c : Cov t u) : Fits u r := ⟨by rw [c.1]; exact h.st, fun y hy => h.sl y (by rw [c.2 y hy]; exact hy)⟩
theorem ops29 {k : Nat} (h : k < 29) : k = 0 ∨ k = 1 ∨ k = 2 ∨ k = 3 ∨ k = 4 ∨ k = 5 ∨ k = 6 ∨ k = 7 ∨ k = 8 ∨ k = 26 ∨ k = 27 ∨ k = 28 ∨ (9 ≤ k ∧ k ≤ 25) := by omega
theorem mid_facts : ∀ k, k < 29 → 9 ≤ k → k ≤ 25 → 1 ≤ tkA k ∧ psA k ≠ 0 ∧ tkA k ≤ 3 := all29 (by decide)
/-- An operator that works. -/
theorem mDo_mid {E : EvM} {i : In} {r : Rn} (h : 9 ≤ i.o.toNat ∧ i.o.toNat ≤ 25) : mDo E i r = if (mOp i.o.toNat i.a (argX (tkA i.o.toNat) r.st) (argY (tkA i.o.toNat) r.st) (argZ r.st)).2 = 0 then (0, (r.cut (tkA i.o.toNat)).put (mOp i.o.toNat i.a (argX (tkA i.o.toNat) r.st) (argY (tkA i.o.toNat) r.st) (argZ r.st)).1)
    else ((mOp i.o.toNat i.a (argX (tkA i.o.toNat) r.st) (argY (tkA i.o.toNat) r.st) (argZ r.st)).2, r.cut (tkA i.o.toNat)) := by
  unfold mDo
  generalize i.o.toNat = k at *
  split <;> first | omega | rfl
theorem vDo_takes {day : Int} {t : Vs} {i : In} (h : (vDo day t i).1 = 0) : tkA i.o.toNat ≤ t.st.length := by
  unfold vDo at h
  simp only at h
  split at h
  · simp at h
  · rename_i n
    omega
theorem vDo_get {day : Int} {t : Vs} {i : In} (h : (vDo day t i).1 = 0) (e : i.o.toNat = 7) : t.sl i.a.toNat ≠ 0 := by
  intro z
  unfold vDo at h
  simp only [e] at h
  split at h
  · simp at h
  split at h
  · simp at h
  simp [z] at h
theorem vDo_obs {day : Int} {t : Vs} {i : In} (h : (vDo day t i).1 = 0) (e : i.o.toNat = 3) : i.b ≤ day := by
  apply Classical.byContradiction
  intro z
  unfold vDo at h
  simp only [e] at h
  split at h
  · simp at h
  split at h
  · simp at h
  rw [if_neg (by omega), if_neg (by omega)] at h
  simp [show day < i.b by omega] at h
theorem slSet_len (l : List Int) (a : Nat) (v : Int) : (slSet l a v).length = max l.length (a + 1) := by
  unfold slSet
  simp
  omega
/-- What an instruction leaves fits what is known behind it. -/
theorem mDo_fits {day : Int} {t : Vs} {i : In} {r : Rn} {E : EvM} (hi : i.okP) (f : Fits t r) (h : (vDo day t i).1 = 0) (g : (mDo E i r).1 = 0) : Fits (vDo day t i).2 (mDo E i r).2 := by
  have tk := vDo_takes h
  have gt := vDo_get h
  obtain ⟨f1, f2⟩ := f
  have k29 : i.o.toNat < 29 := by have := hi.1; have := hi.2.1; omega
  have vst : (vDo day t i).2 = if i.o.toNat = 6 then ⟨t.st.getD 0 0 :: t.st.drop 1, vKeep t.sl i.a.toNat (t.st.getD 0 0)⟩ else if i.o.toNat = 7 then ⟨t.sl i.a.toNat :: t.st, t.sl⟩ else if psA i.o.toNat = 0 then ⟨t.st.drop (tkA i.o.toNat), t.sl⟩ else ⟨psA i.o.toNat :: t.st.drop (tkA i.o.toNat), t.sl⟩ := by
    unfold vDo at h ⊢
    simp only at h ⊢
    split at h
    · simp at h
    rename_i n1
    rw [if_neg n1]
    split at h
    · simp at h
    rename_i n2
    rw [if_neg n2]
    by_cases e6 : i.o.toNat = 6
    · rw [if_pos e6, if_pos e6]
    rw [if_neg e6] at h ⊢
    rw [if_neg e6]
    by_cases e7 : i.o.toNat = 7
    · rw [if_pos e7] at h ⊢
      rw [if_pos e7]
      split at h
      · simp at h
      rename_i z
      rw [if_neg z]
    rw [if_neg e7] at h ⊢
    rw [if_neg e7]
    split at h
    · simp at h
    rename_i z
    rw [if_neg z]
    split <;> rfl
  rw [vst]
  rcases ops29 k29 with e | e | e | e | e | e | e | e | e | e | e | e | e
  · unfold mDo; rw [e]; exact ⟨by simpa [tkA, tkL, psA, psL] using f1, by simpa [psA, psL] using f2⟩
  · unfold mDo; rw [e]; exact ⟨by simpa [tkA, tkL, psA, psL, Rn.put] using f1, by simpa [psA, psL, Rn.put] using f2⟩
  · unfold mDo; rw [e]; exact ⟨by simpa [tkA, tkL, psA, psL, Rn.put] using f1, by simpa [psA, psL, Rn.put] using f2⟩
  · unfold mDo at g ⊢
    rw [e] at g ⊢
    simp only at g ⊢
    split at g
    · rename_i z; rw [if_pos z]; exact ⟨by simpa [tkA, tkL, psA, psL, Rn.put] using f1, by simpa [psA, psL, Rn.put] using f2⟩
    · simp at g
  · unfold mDo; rw [e]; exact ⟨by simpa [tkA, tkL, psA, psL, Rn.put] using f1, by simpa [psA, psL, Rn.put] using f2⟩
  · unfold mDo; rw [e]; exact ⟨by simp [tkA, tkL, psA, psL, f1], by simpa [psA, psL] using f2⟩
  · unfold mDo
    rw [e, if_pos rfl]
    have t6 : tkA 6 = 1 := by decide
    rw [e, t6] at tk
    refine ⟨by simp only [List.length_cons, List.length_drop]; omega, fun y hy => ?_⟩
    simp only [slSet_len]
    simp only [vKeep] at hy
    split at hy
    · omega
    · have := f2 y hy; omega
  · unfold mDo; rw [e]; exact ⟨by simpa [Rn.put] using f1, by simpa [Rn.put] using f2⟩
  · unfold mDo; rw [e]; exact ⟨by simp [tkA, tkL, psA, psL, Rn.cut, f1], by simpa [psA, psL, Rn.cut] using f2⟩
  · unfold mDo; rw [e]; exact ⟨by simpa [tkA, tkL, psA, psL] using f1, by simpa [psA, psL] using f2⟩
  · rw [e, if_neg (by omega), if_neg (by omega), if_pos (by decide)]
    have q : (mDo E i r).2.st = r.st.drop 1 ∧ (mDo E i r).2.sl = r.sl := by
      unfold mDo
      rw [e]
      simp only
      split <;> exact ⟨rfl, rfl⟩
    exact ⟨by rw [q.1]; simp [tkA, tkL, f1], by rw [q.2]; exact f2⟩
  · unfold mDo; rw [e]; exact ⟨by simp [tkA, tkL, psA, psL, f1], by simpa [psA, psL] using f2⟩
  · obtain ⟨m1, m2, m3⟩ := mid_facts _ k29 e.1 e.2
    rw [mDo_mid e] at g ⊢
    split at g
    · rename_i z
      rw [if_pos z, if_neg (by omega), if_neg (by omega), if_neg m2]
      exact ⟨by simp [Rn.put, Rn.cut, f1], by simpa [Rn.put, Rn.cut] using f2⟩
    · rename_i z; exact absurd g z
/-- Where the next instruction lies. -/
theorem mDo_next {E : EvM} {i : In} {r : Rn} (hi : i.okP) (g : (mDo E i r).1 = 0) : (mDo E i r).2.nx = r.nx ∧ ¬ i.o = 26 ∨ ((mDo E i r).2.nx = r.nx + i.a.toNat ∧ isJ i) := by
  have k29 : i.o.toNat < 29 := by have := hi.1; have := hi.2.1; omega
  have hp := hi.1
  rcases ops29 k29 with e | e | e | e | e | e | e | e | e | e | e | e | e
  · left; unfold mDo; rw [e]; exact ⟨rfl, by omega⟩
  · left; unfold mDo; rw [e]; exact ⟨rfl, by omega⟩
  · left; unfold mDo; rw [e]; exact ⟨rfl, by omega⟩
  · left
    unfold mDo at g ⊢
    rw [e] at g ⊢
    simp only at g ⊢
    split at g
    · rename_i z; rw [if_pos z]; exact ⟨rfl, by omega⟩
    · simp at g
  · left; unfold mDo; rw [e]; exact ⟨rfl, by omega⟩
  · left; unfold mDo; rw [e]; exact ⟨rfl, by omega⟩
  · left; unfold mDo; rw [e]; exact ⟨rfl, by omega⟩
  · left; unfold mDo; rw [e]; exact ⟨rfl, by omega⟩
  · left; unfold mDo; rw [e]; exact ⟨rfl, by omega⟩
  · right; unfold mDo; rw [e]; exact ⟨rfl, by unfold isJ; omega⟩
  · unfold mDo
    rw [e]
    simp only
    split
    · right; exact ⟨rfl, by unfold isJ; omega⟩
    · left; exact ⟨rfl, by omega⟩
  · left; unfold mDo; rw [e]; exact ⟨rfl, by omega⟩
  · left
    rw [mDo_mid e] at g ⊢
    split at g
    · rename_i z; rw [if_pos z]; exact ⟨rfl, by omega⟩
    · rename_i z; exact absurd g z
theorem mDo_en {E : EvM} {i : In} {r : Rn} (hi : i.okP) (h : r.en = false) : (mDo E i r).2.en = decide (i.o = 0) := by
  have k29 : i.o.toNat < 29 := by have := hi.1; have := hi.2.1; omega
  have hp := hi.1
  rcases ops29 k29 with e | e | e | e | e | e | e | e | e | e | e | e | e
  · unfold mDo; rw [e]; simp; omega
  all_goals
    have no : decide (i.o = 0) = false := by simp; omega
    rw [no]
  · unfold mDo; rw [e]; exact h
  · unfold mDo; rw [e]; exact h
  · unfold mDo; rw [e]; simp only; split <;> exact h
  · unfold mDo; rw [e]; exact h
  · unfold mDo; rw [e]; exact h
  · unfold mDo; rw [e]; exact h
  · unfold mDo; rw [e]; exact h
  · unfold mDo; rw [e]; exact h
  · unfold mDo; rw [e]; exact h
  · unfold mDo; rw [e]; simp only; split <;> exact h
  · unfold mDo; rw [e]; exact h
  · rw [mDo_mid e]; split <;> exact h
/-- A place of code that is taken, reached by a day's code that is being done. -/
structure Sits (day : Int) (code : List In) (r : Rn) : Prop where
  lt : r.nx < code.length
  en : r.en = false
  at_ : ∃ t, vL day code r.nx = some t ∧ Fits t r
theorem sits_start {day : Int} {code : List In} (h : (vRun day code code.length).1 = 0) (hn : 0 < code.length) (ce : List Int) : Sits day code ⟨[], [], ce, [], 0, false⟩ := by
  obtain ⟨t, e, c⟩ := vL_start h
  refine ⟨hn, rfl, t, e, ?_⟩
  exact ⟨by rw [c.1]; rfl, fun y hy => absurd (c.2 y hy).symm hy⟩
/-- What an instruction of code that is taken may rely on. -/
theorem sits_now {day : Int} {code : List In} (h : (vRun day code code.length).1 = 0) {r : Rn} (s : Sits day code r) : tkA (code.getD r.nx default).o.toNat ≤ r.st.length ∧ ((code.getD r.nx default).o.toNat = 7 → (code.getD r.nx default).a.toNat < r.sl.length) ∧ ((code.getD r.nx default).o.toNat = 3 → (code.getD r.nx default).b ≤ day) := by
  obtain ⟨t, e, f⟩ := s.at_
  obtain ⟨t', e', d, _, _⟩ := vL_step h s.lt
  rw [e] at e'
  injection e' with e'
  subst e'
  exact ⟨by rw [← f.st]; exact vDo_takes d, fun q => f.sl _ (vDo_get d q), fun q => vDo_obs d q⟩
theorem sits_next {day : Int} {code : List In} (h : (vRun day code code.length).1 = 0) (ok : ∀ k, k < code.length → (code.getD k default).okP ∧ ((code.getD k default).o = 0 ↔ k + 1 = code.length)) {r : Rn} (s : Sits day code r) {E : EvM} (g : (mAt E code r).1 = 0) (n : (mAt E code r).2.en = false) : Sits day code (mAt E code r).2 ∧ r.nx < (mAt E code r).2.nx := by
  obtain ⟨t, e, f⟩ := s.at_
  obtain ⟨t', e', d, a, b⟩ := vL_step h s.lt
  rw [e] at e'
  injection e' with e'
  subst e'
  obtain ⟨hi, he⟩ := ok _ s.lt
  unfold mAt at g n ⊢
  generalize hc : code.getD r.nx default = i at *
  have f' : Fits t { r with nx := r.nx + 1 } := ⟨f.st, f.sl⟩
  have en := mDo_en (E := E) hi (r := { r with nx := r.nx + 1 }) s.en
  have fit := mDo_fits (E := E) hi f' d g
  have io : ¬ i.o = 0 := by
    intro q
    rw [n] at en
    simp [q] at en
  rcases mDo_next hi g with ⟨q1, q2⟩ | ⟨q1, q2⟩
  · obtain ⟨u, u1, u2⟩ := a (by omega)
    refine ⟨⟨?_, n, u, by rw [q1]; exact u1, fit.cov u2⟩, by rw [q1]; show r.nx < r.nx + 1; omega⟩
    rw [q1]
    show r.nx + 1 < code.length
    have := s.lt
    rcases Nat.lt_or_ge (r.nx + 1) code.length with z | z
    · exact z
    · exact absurd (he.2 (by omega)) io
  · obtain ⟨z, u, u1, u2⟩ := b q2
    refine ⟨⟨by rw [q1]; exact z, n, u, by rw [q1]; exact u1, fit.cov u2⟩, by rw [q1]; show r.nx < r.nx + 1 + _; omega⟩
end Go.Proofs.YtpfjnnkjoabgbaaGreatDoor

namespace Go.Proofs.YtpfjnnkjoabgbaaGreatDoor
open Go.RowKit
set_option linter.unusedVariables false
set_option linter.unusedSimpArgs false
/-- The cells of flows. -/
def fo3 (f : Fl) : List Value := [.int .i64 f.d, .string f.c, .int .i64 f.a]
def focs (l : List Fl) : List Value := l.flatMap fo3
theorem focs_len (l : List Fl) : (focs l).length = l.length * 3 := by
  induction l with
  | nil => rfl
  | cons p r ih => simp [focs, fo3] at ih ⊢; omega
theorem focs_append (a b : List Fl) : focs (a ++ b) = focs a ++ focs b := by simp [focs]
theorem infoFo : (Tryz.prog.info? 54).map (fun i => (i.zero, i.size, i.bytes)) = some (some (.agg #[.int .i64 0, .string ⟨#[]⟩, .int .i64 0]), 3, 32) := by kernel_rfl
def OwF (w : World) (B : Nat) (v : Value) (l : List Fl) : Prop := w.ownsRow B 54 3 v l.length (focs l)
/-- What stands fast while a day's code is done (D: the blocks that stay). -/
structure Kx where
  w0 : World
  B : Nat
  rb : Nat
  mb : Nat
  p : Pg
  n : Nds
  today : Int
  cev : Value
  pav : Value
  codev : Value
  rowv : Value
  D : Nat → Prop
def mArr (p : Pg) (n : Nds) (today steps : Int) (cev pav : Value) (ft dy : Int) : Array Value := #[.slice p.na p.names.length p.nc, .slice p.ua p.curs.length p.uc, .slice p.pa p.pool.length p.pc, .int .i64 p.hor, .int .i64 p.cells, .int .i64 p.slots, .int .i64 p.stack, .slice p.da p.days.length p.dc, .int .i64 n.stack, .int .i64 n.fuel, .int .i64 n.back, .int .i64 today, .int .i64 steps, cev, pav, .int .i64 ft, .int .i64 dy]
def rArr (K : Kx) (stv slv flv : Value) (r : Rn) : Array Value := #[.pointer (some ⟨K.mb, 0, none⟩), K.codev, .int .i64 (r.nx : Int), .bool r.en, K.rowv, stv, slv, flv]
/-- A list of accumulators, where it lies. -/
def CeR (w : World) (v : Value) (l : List Int) : Prop := (l = [] ∧ ∃ a c, v = .slice a 0 c ∧ v.ownBlock = none) ∨ OwZ w 0 v l
structure RO (K : Kx) (w : World) (stv slv flv : Value) (steps : Int) (r : Rn) : Prop where
  os : w.os = K.w0.os
  tape : w.tape = K.w0.tape
  out : w.output = K.w0.output
  sz : K.w0.heap.size ≤ w.heap.size
  fr : ∀ k, K.D k → w.heap[k]? = K.w0.heap[k]?
  rb : BkP w K.rb (rArr K stv slv flv r) 83
  rB : K.B ≤ K.rb
  mb : BkP w K.mb (mArr K.p K.n K.today steps K.cev K.pav 0 0) 75
  mB : K.mb < K.B
  st : OwZ w K.B stv r.st.reverse
  sl : OwZ w K.B slv r.sl
  fl : OwF w K.B flv r.fl
  ap : stv.ownBlock = none ∨ stv.ownBlock ≠ slv.ownBlock
  ce : CeR w K.cev r.ce
  cB : ∀ g, K.cev.ownBlock = some g → g < K.B
  r1 : ∀ x ∈ r.st, inR x
  r2 : ∀ x ∈ r.sl, inR x
  r3 : ∀ x ∈ r.ce, inR x
  dl : ∀ k, K.D k → k < K.w0.heap.size
  dr : ¬ K.D K.rb
  dm : ¬ K.D K.mb
  dc : ∀ g, K.cev.ownBlock = some g → ¬ K.D g
  d1 : ∀ g, stv.ownBlock = some g → ¬ K.D g
  d2 : ∀ g, slv.ownBlock = some g → ¬ K.D g
  d3 : ∀ g, flv.ownBlock = some g → ¬ K.D g
def RoE (K : Kx) (w : World) (steps : Int) (r : Rn) : Prop := ∃ stv slv flv, RO K w stv slv flv steps r
theorem RO.BB {K : Kx} {w : World} {stv slv flv : Value} {steps : Int} {r : Rn} (h : RO K w stv slv flv steps r) : K.B ≤ w.heap.size := Nat.le_trans h.rB (Nat.le_of_lt h.rb.lt)
/-- Whatever else is laid or drawn. -/
theorem RO.lat {K : Kx} {w w' : World} {stv slv flv : Value} {steps : Int} {r : Rn} (h : RO K w stv slv flv steps r) (b : Below w.heap.size w w') : RO K w' stv slv flv steps r := by
  refine ⟨b.os.trans h.os, b.tape.trans h.tape, b.output.trans h.out, Nat.le_trans h.sz b.size, fun k hk => (b.block k (Nat.lt_of_lt_of_le (h.dl k hk) h.sz)).trans (h.fr k hk), h.rb.lat b, h.rB, h.mb.lat b, h.mB, h.st.lat b, h.sl.lat b, own_blkG h.fl (fun g hg => b.block g (World.ownsRow.lt h.fl g hg).2), h.ap, ?_, h.cB, h.r1, h.r2, h.r3, h.dl, h.dr, h.dm, h.dc, h.d1, h.d2, h.d3⟩
  rcases h.ce with q | q
  · exact .inl q
  · exact .inr (q.lat b)
theorem RoE.lat {K : Kx} {w w' : World} {steps : Int} {r : Rn} (h : RoE K w steps r) (b : Below w.heap.size w w') : RoE K w' steps r := by
  obtain ⟨a, c, d, h⟩ := h
  exact ⟨a, c, d, h.lat b⟩
/-- One of the run's rows has grown. -/
theorem RO.grow {K : Kx} {w w' : World} {stv slv flv : Value} {steps : Int} {r : Rn} (h : RO K w stv slv flv steps r) {x : Option Nat} (g : w.grownBy w' x) (hx : ∀ k, x = some k → K.B ≤ k) (hd : ∀ k, x = some k → ¬ K.D k) (n1 : some K.rb ≠ x) :
    w'.os = K.w0.os ∧ w'.tape = K.w0.tape ∧ w'.output = K.w0.output ∧ K.w0.heap.size ≤ w'.heap.size ∧ (∀ k, K.D k → w'.heap[k]? = K.w0.heap[k]?) ∧ BkP w' K.rb (rArr K stv slv flv r) 83 ∧ BkP w' K.mb (mArr K.p K.n K.today steps K.cev K.pav 0 0) 75 ∧ CeR w' K.cev r.ce := by
  have no : ∀ k, k < K.B → some k ≠ x := fun k hk e => by have := hx k e.symm; omega
  refine ⟨g.os.trans h.os, g.tape.trans h.tape, g.output.trans h.out, Nat.le_trans h.sz g.size, fun k hk => (g.block k (Nat.lt_of_lt_of_le (h.dl k hk) h.sz) (fun e => hd k e.symm hk)).trans (h.fr k hk), h.rb.grown g n1, h.mb.grown g (no _ h.mB), ?_⟩
  rcases h.ce with q | q
  · exact .inl q
  · exact .inr (q.blk (fun y hy => g.block y (q.own y hy).2 (no y (h.cB y hy))))
theorem bk_block {w : World} {b c : Nat} {k : Nat} {v : Value} (hbc : b ≠ c) : (w.setCell ⟨c, k, none⟩ v).heap[b]? = w.heap[b]? := by
  simp only [World.setCell, Array.getElem?_modify, if_neg (Ne.symm hbc)]
theorem set_size (w : World) (a : Addr) (v : Value) : (w.setCell a v).heap.size = w.heap.size := by simp [World.setCell]
/-- A field of the run is set; its rows stay. -/
theorem RO.field {K : Kx} {w : World} {stv slv flv : Value} {steps : Int} {r : Rn} (h : RO K w stv slv flv steps r) (j : Nat) (v : Value) (hj : j < 8) {r' : Rn} (e : (rArr K stv slv flv r).set! j v = rArr K stv slv flv r') (e1 : r'.st = r.st) (e2 : r'.sl = r.sl) (e3 : r'.ce = r.ce) (e4 : r'.fl = r.fl) : RO K (w.setCell ⟨K.rb, j, none⟩ v) stv slv flv steps r' := by
  have x1 := h.rb.set2 j v (by simpa [rArr] using hj)
  rw [e] at x1
  have rw_ : ∀ {t : TypeId} {k : Nat} {u : Value} {n : Nat} {xs : List Value} {C : Nat}, w.ownsRow C t k u n xs → t ≠ 83 → (w.setCell ⟨K.rb, j, none⟩ v).ownsRow C t k u n xs := fun q ht => own_blkG q (fun g hg => bk_block (fun z => own_neB q h.rb ht (by rw [hg, z])))
  refine ⟨h.os, h.tape, h.out, by rw [set_size]; exact h.sz, fun k hk => (bk_block (fun z => h.dr (by rw [← z]; exact hk))).trans (h.fr k hk), x1, h.rB, h.mb.other _ _ _ (by have := h.mB; have := h.rB; omega), h.mB, by rw [e1]; exact rw_ h.st (by decide), by rw [e2]; exact rw_ h.sl (by decide), by rw [e4]; exact rw_ h.fl (by decide), h.ap, ?_, h.cB, by rw [e1]; exact h.r1, by rw [e2]; exact h.r2, by rw [e3]; exact h.r3, h.dl, h.dr, h.dm, h.dc, h.d1, h.d2, h.d3⟩
  rw [e3]
  rcases h.ce with q | q
  · exact .inl q
  · exact .inr (rw_ q (by decide))
/-- Its stack is another row. -/
theorem RO.stack {K : Kx} {w : World} {stv slv flv : Value} {steps : Int} {r : Rn} (h : RO K w stv slv flv steps r) {w' : World} {x : Option Nat} (g : w.grownBy w' x) (hx : x = none ∨ x = stv.ownBlock) {sv : Value} {l : List Int} (hs : OwZ w' K.B sv l.reverse) (hb : sv.ownBlock = none ∨ sv.ownBlock = stv.ownBlock ∨ (∃ H, w.heap.size ≤ H ∧ sv.ownBlock = some H)) (hr : ∀ x ∈ l, inR x) : RO K (w'.setCell ⟨K.rb, 5, none⟩ sv) sv slv flv steps { r with st := l } := by
  have hB : ∀ k, x = some k → K.B ≤ k := fun k e => by
    rcases hx with q | q
    · rw [q] at e; cases e
    · rw [q] at e; exact (h.st.own k e).1
  have nr : some K.rb ≠ x := fun e => by
    rcases hx with q | q
    · rw [q] at e; cases e
    · rw [q] at e; exact own_neB h.st h.rb (by decide) e.symm
  have hD : ∀ k, x = some k → ¬ K.D k := fun k e => by
    rcases hx with q | q
    · rw [q] at e; cases e
    · rw [q] at e; exact h.d1 k e
  obtain ⟨g1, g2, g3, g4, g5, g6, g7, g8⟩ := h.grow g hB hD nr
  have ns : slv.ownBlock = none ∨ slv.ownBlock ≠ x := by
    rcases hx with q | q
    · rw [q]
      cases e : slv.ownBlock with
      | none => exact .inl rfl
      | some _ => exact .inr (by simp)
    · rw [q]
      rcases h.ap with z | z
      · rw [z]
        cases e : slv.ownBlock with
        | none => exact .inl rfl
        | some _ => exact .inr (by simp)
      · exact .inr (Ne.symm z)
  have nf : flv.ownBlock = none ∨ flv.ownBlock ≠ x := by
    rcases hx with q | q
    · rw [q]
      cases e : flv.ownBlock with
      | none => exact .inl rfl
      | some _ => exact .inr (by simp)
    · rw [q]; exact own_neO h.fl h.st (by decide)
  have s2 : OwZ w' K.B slv r.sl := h.sl.grown g ns
  have f2 : OwF w' K.B flv r.fl := World.ownsRow.kept h.fl g nf
  have x1 := g6.set2 5 sv (by simp [rArr])
  have rw_ : ∀ {t : TypeId} {k : Nat} {u : Value} {n : Nat} {xs : List Value} {C : Nat}, w'.ownsRow C t k u n xs → t ≠ 83 → (w'.setCell ⟨K.rb, 5, none⟩ sv).ownsRow C t k u n xs := fun q ht => own_blkG q (fun g hg => bk_block (fun z => own_neB q g6 ht (by rw [hg, z])))
  refine ⟨g1, g2, g3, by rw [set_size]; exact g4, fun k hk => (bk_block (fun z => h.dr (by rw [← z]; exact hk))).trans (g5 k hk), ?_, h.rB, g7.other _ _ _ (by have := h.mB; have := h.rB; omega), h.mB, rw_ hs (by decide), rw_ s2 (by decide), rw_ f2 (by decide), ?_, ?_, h.cB, hr, h.r2, h.r3, h.dl, h.dr, h.dm, h.dc, ?_, h.d2, h.d3⟩
  · simpa [rArr] using x1
  · rcases hb with q | q | ⟨H, q1, q2⟩
    · exact .inl q
    · rw [q]; exact h.ap
    · right
      rw [q2]
      intro e
      have := (h.sl.own H e.symm).2
      omega
  · rcases g8 with q | q
    · exact .inl q
    · exact .inr (rw_ q (by decide))
  · intro y hy hd
    rcases hb with q | q | ⟨H, q1, q2⟩
    · rw [q] at hy; cases hy
    · rw [q] at hy; exact h.d1 y hy hd
    · rw [q2] at hy
      injection hy with hy
      have := h.dl y hd
      have := h.sz
      omega
theorem run_cells {K : Kx} {w : World} {stv slv flv : Value} {steps : Int} {r : Rn} (h : RO K w stv slv flv steps r) : w.cell? ⟨K.rb, 0, none⟩ = some (.pointer (some ⟨K.mb, 0, none⟩)) ∧ w.cell? ⟨K.rb, 1, none⟩ = some K.codev ∧ w.cell? ⟨K.rb, 2, none⟩ = some (.int .i64 (r.nx : Int)) ∧ w.cell? ⟨K.rb, 3, none⟩ = some (.bool r.en) ∧ w.cell? ⟨K.rb, 4, none⟩ = some K.rowv ∧ w.cell? ⟨K.rb, 5, none⟩ = some stv ∧ w.cell? ⟨K.rb, 6, none⟩ = some slv ∧ w.cell? ⟨K.rb, 7, none⟩ = some flv := box_all8 h.rb
end Go.Proofs.YtpfjnnkjoabgbaaGreatDoor

namespace Go.Proofs.YtpfjnnkjoabgbaaGreatDoor.Cal

/-- 1 in a leap year, else 0. -/
def lp (y : Int) : Int := if y % 4 = 0 ∧ (¬ y % 100 = 0 ∨ y % 400 = 0) then 1 else 0
/-- A month's length (1 to 12). -/
def len (y m : Int) : Int := if m = 2 then 28 + lp y else if m = 4 ∨ m = 6 ∨ m = 9 ∨ m = 11 then 30 else 31
def exB (y m d : Int) : Bool := decide (1900 ≤ y ∧ y ≤ 2199 ∧ 1 ≤ m ∧ m ≤ 12 ∧ 1 ≤ d ∧ d ≤ len y m)
/-- The number of a year's first day. -/
def ys (y : Int) : Int := 365 * (y - 1900) + ((y - 1) / 4 - (y - 1) / 100 + (y - 1) / 400) - 460
/-- The days of a year ahead of a month. -/
def cum (y m : Int) : Int :=
  if m ≤ 1 then 0 else if m = 2 then 31 else (if m = 3 then 59 else if m = 4 then 90 else if m = 5 then 120 else if m = 6 then 151 else if m = 7 then 181 else if m = 8 then 212
    else if m = 9 then 243 else if m = 10 then 273 else if m = 11 then 304 else if m = 12 then 334 else 365) + lp y
def num (y m d : Int) : Int := ys y + cum y m + d - 1

theorem ex_mk {y m d : Int} (h : 1900 ≤ y ∧ y ≤ 2199 ∧ 1 ≤ m ∧ m ≤ 12 ∧ 1 ≤ d ∧ d ≤ len y m) : exB y m d = true := decide_eq_true h
theorem ex_out {y m d : Int} (h : exB y m d = true) : 1900 ≤ y ∧ y ≤ 2199 ∧ 1 ≤ m ∧ m ≤ 12 ∧ 1 ≤ d ∧ d ≤ len y m := of_decide_eq_true h
theorem ex_no {y m d : Int} (h : exB y m d = false) : ¬ (1900 ≤ y ∧ y ≤ 2199 ∧ 1 ≤ m ∧ m ≤ 12 ∧ 1 ≤ d ∧ d ≤ len y m) := of_decide_eq_false h
theorem lp_01 (y : Int) : 0 ≤ lp y ∧ lp y ≤ 1 := by unfold lp; split <;> omega
theorem len_bd (y m : Int) : 28 ≤ len y m ∧ len y m ≤ 31 := by
  have := lp_01 y
  unfold len; repeat' split
  all_goals omega
theorem ys_succ (y : Int) : ys (y + 1) = ys y + 365 + lp y := by
  unfold ys lp
  split <;> omega
theorem ys_mono {a b : Int} (h : a ≤ b) : ys a ≤ ys b := by unfold ys; omega
theorem ys_1900 : ys 1900 = 0 := by decide
theorem ys_2200 : ys 2200 = 109573 := by decide
theorem ys_bd (y : Int) (h0 : 1900 ≤ y) (h : y ≤ 2200) : 0 ≤ ys y ∧ ys y ≤ 109573 := by
  have := ys_mono h0; have := ys_mono h; rw [ys_1900] at *; rw [ys_2200] at *; omega
theorem ys_guess (n : Int) (h : 0 ≤ n) : ys (1900 + n / 366) ≤ n := by unfold ys; omega
theorem cum_succ (y m : Int) (h1 : 1 ≤ m) (h2 : m ≤ 12) : cum y (m + 1) = cum y m + len y m := by
  have hm : m = 1 ∨ m = 2 ∨ m = 3 ∨ m = 4 ∨ m = 5 ∨ m = 6 ∨ m = 7 ∨ m = 8 ∨ m = 9 ∨ m = 10 ∨ m = 11 ∨ m = 12 := by omega
  rcases hm with rfl | rfl | rfl | rfl | rfl | rfl | rfl | rfl | rfl | rfl | rfl | rfl <;> simp [cum, len] <;> omega
theorem cum_13 (y : Int) : cum y 13 = 365 + lp y := rfl
theorem cum_1 (y : Int) : cum y 1 = 0 := rfl
theorem cum_bd (y m : Int) : 0 ≤ cum y m ∧ cum y m ≤ 366 := by
  have := lp_01 y
  unfold cum; repeat' split
  all_goals omega
theorem cum_mono (y : Int) {a b : Int} (h1 : 1 ≤ a) (h : a ≤ b) (h2 : b ≤ 13) : cum y a ≤ cum y b := by
  obtain ⟨k, rfl⟩ : ∃ k : Nat, b = a + k := ⟨(b - a).toNat, by omega⟩
  clear h
  induction k with
  | zero => simp
  | succ k ih =>
    have c := cum_succ y (a + k) (by omega) (by omega)
    have l := len_bd y (a + k)
    have i := ih (by omega)
    have e : a + ((k + 1 : Nat) : Int) = a + k + 1 := by omega
    rw [e]; omega

theorem num_bd {y m d : Int} (h : exB y m d = true) : 0 ≤ num y m d ∧ num y m d ≤ 109572 ∧ ys y ≤ num y m d ∧ num y m d < ys (y + 1) := by
  obtain ⟨h1, h2, h3, h4, h5, h6⟩ := ex_out h
  have a := cum_succ y m h3 h4
  have b := cum_mono y (show 1 ≤ m + 1 by omega) (show m + 1 ≤ 13 by omega) (by omega)
  have c := cum_bd y m
  have d1 := ys_succ y
  have d2 := ys_mono (show y + 1 ≤ 2200 by omega)
  have d3 := ys_mono h1
  rw [cum_13] at b; rw [ys_2200] at d2; rw [ys_1900] at d3
  unfold num; omega

/-- A number has one date. -/
theorem num_inj {y m d y' m' d' : Int} (h : exB y m d = true) (h' : exB y' m' d' = true) (e : num y m d = num y' m' d') : y = y' ∧ m = m' ∧ d = d' := by
  have b := num_bd h; have b' := num_bd h'
  have hy : y = y' := by
    rcases Int.lt_trichotomy y y' with g | g | g
    · have := ys_mono (show y + 1 ≤ y' by omega); omega
    · exact g
    · have := ys_mono (show y' + 1 ≤ y by omega); omega
  subst hy
  obtain ⟨h1, h2, h3, h4, h5, h6⟩ := ex_out h
  obtain ⟨_, _, h3', h4', h5', h6'⟩ := ex_out h'
  have a := cum_succ y m h3 h4; have a' := cum_succ y m' h3' h4'
  have hm : m = m' := by
    rcases Int.lt_trichotomy m m' with g | g | g
    · have := cum_mono y (show 1 ≤ m + 1 by omega) (show m + 1 ≤ m' by omega) (by omega); unfold num at e; omega
    · exact g
    · have := cum_mono y (show 1 ≤ m' + 1 by omega) (show m' + 1 ≤ m by omega) (by omega); unfold num at e; omega
  subst hm
  exact ⟨rfl, rfl, by unfold num at e; omega⟩
theorem num_of (n y k : Int) : num y k (n - ys y - cum y k + 1) = n := by unfold num; omega
theorem ex_of (n y k : Int) (a : 1900 ≤ y) (b : y ≤ 2199) (c1 : 1 ≤ k) (c2 : k ≤ 12) (c : 0 ≤ n - ys y - cum y k) (d : n - ys y - cum y k < len y k) : exB y k (n - ys y - cum y k + 1) = true :=
  ex_mk ⟨a, b, c1, c2, by omega, by omega⟩

/-- A year's length, as the table of the months sums up. -/
theorem ys_of_lt {n y : Int} (h : ys y ≤ n) (hn : n < 109573) : y ≤ 2199 := by
  by_cases g : y ≤ 2199
  · exact g
  · have := ys_mono (show 2200 ≤ y by omega); rw [ys_2200] at this; omega
end Go.Proofs.YtpfjnnkjoabgbaaGreatDoor.Cal
