import Derived.Test.YtpfjnnkjoabgbaaGreatDoorXAS
import Derived.Test.YtpfjnnkjoabgbaaGreatDoorXAV
import Derived.Test.YtpfjnnkjoabgbaaGreatDoorXAU
import Derived.Test.YtpfjnnkjoabgbaaGreatDoorXAW
namespace Go.Proofs.YtpfjnnkjoabgbaaGreatDoor
set_option linter.unusedVariables false
set_option linter.unusedSimpArgs false
def trI (b : Bool) : Int := if b then 1 else 0
/-- An operator: x, y, z were put in this order; the value and the fault. -/
def mOp (k : Nat) (mode x y z : Int) : Int × Int :=
  match k with
  | 9 => (fitV (x + y), fitF (x + y))
  | 10 => (fitV (x - y), fitF (x - y))
  | 11 => (fitV (x * y), fitF (x * y))
  | 12 => (fitV (-x), fitF (-x))
  | 13 => (divV x y, divF x y)
  | 14 => (modV x y, modF y)
  | 15 => (fitV (absI x), fitF (absI x))
  | 16 => (min x y, 0)
  | 17 => (max x y, 0)
  | 18 => if z = 0 then (0, 2) else (fitV (ratN x y z mode), fitF (ratN x y z mode))
  | 19 => (trI (decide (x < y)), 0)
  | 20 => (trI (decide (x ≤ y)), 0)
  | 21 => (trI (decide (y < x)), 0)
  | 22 => (trI (decide (y ≤ x)), 0)
  | 23 => (trI (x == y), 0)
  | 24 => (trI (x != y), 0)
  | _ => (trI (x == 0), 0)
/-- What a day's code is done in: the day, the pool, the currencies, the day's row and those ahead of it. -/
structure EvM where
  t : Int
  pool : List Int
  curs : List ByteArray
  row : List Cl
  past : List (List Cl)
/-- A day's code that is being done: the stack (the topmost first), the slots, the accumulators, the flows, the next place, whether it has ended. -/
structure Rn where
  st : List Int
  sl : List Int
  ce : List Int
  fl : List Fl
  nx : Nat
  en : Bool
  deriving Inhabited
def EvM.seen (E : EvM) (b : Nat) : List Cl := if b = 0 then E.row else E.past.getD (E.past.length - b) []
def slSet (l : List Int) (a : Nat) (v : Int) : List Int := (l ++ List.replicate (a + 1 - l.length) 0).set a v
def Rn.put (r : Rn) (v : Int) : Rn := { r with st := v :: r.st }
def Rn.cut (r : Rn) (n : Nat) : Rn := { r with st := r.st.drop n }
/-- The operands, in the order in which they were put. -/
def argX (n : Nat) (st : List Int) : Int := st.getD (n - 1) 0
def argY (n : Nat) (st : List Int) : Int := st.getD (n - 2) 0
def argZ (st : List Int) : Int := st.getD 0 0
/-- An instruction: the fault (0: none), and what is behind it. -/
def mDo (E : EvM) (i : In) (r : Rn) : Int × Rn :=
  match i.o.toNat with
  | 0 => (0, { r with en := true })
  | 1 => (0, r.put (E.pool.getD i.a.toNat 0))
  | 2 => (0, r.put i.a)
  | 3 => if ((E.seen i.b.toNat).getD i.a.toNat default).h then (0, r.put ((E.seen i.b.toNat).getD i.a.toNat default).v) else (3, r)
  | 4 => (0, r.put (r.ce.getD i.a.toNat 0))
  | 5 => (0, { r with ce := r.ce.set i.a.toNat (r.st.getD 0 0), st := r.st.drop 1 })
  | 6 => (0, { r with sl := slSet r.sl i.a.toNat (r.st.getD 0 0) })
  | 7 => (0, r.put (r.sl.getD i.a.toNat 0))
  | 8 => (0, r.cut 1)
  | 26 => (0, { r with nx := r.nx + i.a.toNat })
  | 27 => (0, if r.st.getD 0 0 = 0 then { r with nx := r.nx + i.a.toNat, st := r.st.drop 1 } else r.cut 1)
  | 28 => (0, { r with fl := r.fl ++ [⟨E.t, E.curs.getD i.a.toNat ⟨#[]⟩, r.st.getD 0 0⟩], st := r.st.drop 1 })
  | k => if (mOp k i.a (argX (tkA k) r.st) (argY (tkA k) r.st) (argZ r.st)).2 = 0 then (0, (r.cut (tkA k)).put (mOp k i.a (argX (tkA k) r.st) (argY (tkA k) r.st) (argZ r.st)).1)
    else ((mOp k i.a (argX (tkA k) r.st) (argY (tkA k) r.st) (argZ r.st)).2, r.cut (tkA k))
/-- The instruction at the next place is done. -/
def mAt (E : EvM) (code : List In) (r : Rn) : Int × Rn := mDo E (code.getD r.nx default) { r with nx := r.nx + 1 }
/-- So many instructions at most: the fault, how many were done, what is behind them. -/
def mGo (E : EvM) (code : List In) : Nat → Rn → Int × Nat × Rn
  | 0, r => (0, 0, r)
  | n + 1, r =>
    if (mAt E code r).1 ≠ 0 ∨ (mAt E code r).2.en = true then ((mAt E code r).1, 1, (mAt E code r).2)
    else ((mGo E code n (mAt E code r).2).1, (mGo E code n (mAt E code r).2).2.1 + 1, (mGo E code n (mAt E code r).2).2.2)
/-- A row, fitted. -/
def fitR (n : Nat) (row : List Cl) : List Cl := (List.range n).map (fun j => if (row.getD j default).h then row.getD j default else ⟨false, 0⟩)
/-- A state of a machine. -/
structure Ms where
  today : Int
  steps : Int
  cells : List Int
  past : List (List Cl)
  fault : Int
  day : Int
  deriving Inhabited
def Ms.over (s : Ms) (hor : Int) : Prop := s.fault ≠ 0 ∨ hor < s.today
instance (s : Ms) (hor : Int) : Decidable (s.over hor) := by unfold Ms.over; exact inferInstance
/-- A day's code: [] if there is none. -/
def dayCode (days : List Sg) (t : Int) : List In := match days.find? (fun s => decide (s.day = t)) with | some s => s.code | none => []
def Pg.env (p : Pg) (s : Ms) (row : List Cl) : EvM := ⟨s.today, p.pool, p.curs, fitR p.names.length row, s.past⟩
def Ms.begun (s : Ms) : Rn := ⟨[], [], s.cells, [], 0, false⟩
def dayGo (p : Pg) (s : Ms) (row : List Cl) : Int × Nat × Rn := mGo (p.env s row) (dayCode p.days s.today) (dayCode p.days s.today).length s.begun
def pastOn (back : Int) (past : List (List Cl)) (row : List Cl) : List (List Cl) := if back < ((past.length + 1 : Nat) : Int) then (past ++ [row]).drop 1 else past ++ [row]
/-- A day behind which the machine is so; its flows, its fault. -/
def dayMs (p : Pg) (back : Int) (s : Ms) (row : List Cl) : Ms :=
  ⟨s.today + 1, s.steps + (dayGo p s row).2.1, (dayGo p s row).2.2.ce, pastOn back s.past (fitR p.names.length row), if (dayGo p s row).1 = 0 then s.fault else (dayGo p s row).1, if (dayGo p s row).1 = 0 then s.day else s.today⟩
def dayFl (p : Pg) (s : Ms) (row : List Cl) : List Fl := (dayGo p s row).2.2.fl
/-- A new machine. -/
def Pg.born (p : Pg) : Ms := ⟨0, 0, List.replicate p.cells.toNat 0, [], 0, 0⟩
/-- The machine behind so many days (those on which it was over count for nothing), and all flows. -/
def runMs (p : Pg) (back : Int) (rows : Nat → List Cl) : Nat → Ms → Ms × List Fl
  | 0, s => (s, [])
  | n + 1, s => if (runMs p back rows n s).1.over p.hor then runMs p back rows n s
    else (dayMs p back (runMs p back rows n s).1 (rows n), (runMs p back rows n s).2 ++ dayFl p (runMs p back rows n s).1 (rows n))
end Go.Proofs.YtpfjnnkjoabgbaaGreatDoor

namespace Go.Proofs.YtpfjnnkjoabgbaaGreatDoor
set_option linter.unusedVariables false
set_option linter.unusedSimpArgs false
/-- What is known of a place holds of a day's code that is being done. -/
structure Fits (t : Vs) (r : Rn) : Prop where
  st : t.st.length = r.st.length
  sl : ∀ y, t.sl y ≠ 0 → y < r.sl.length
theorem Fits.cov {t u : Vs} {r : Rn} (h : Fits t r) (c : Cov t u) : Fits u r := ⟨by rw [c.1]; exact h.st, fun y hy => h.sl y (by rw [c.2 y hy]; exact hy)⟩
theorem ops29 {k : Nat} (h : k < 29) : k = 0 ∨ k = 1 ∨ k = 2 ∨ k = 3 ∨ k = 4 ∨ k = 5 ∨ k = 6 ∨ k = 7 ∨ k = 8 ∨ k = 26 ∨ k = 27 ∨ k = 28 ∨ (9 ≤ k ∧ k ≤ 25) := by omega
theorem mid_facts : ∀ k, k < 29 → 9 ≤ k → k ≤ 25 → 1 ≤ tkA k ∧ psA k ≠ 0 ∧ tkA k ≤ 3 := all29 (by decide)
/-- An operator that works. -/
theorem mDo_mid {E : EvM} {i : In} {r : Rn} (h : 9 ≤ i.o.toNat ∧ i.o.toNat ≤ 25) : mDo E i r = if (mOp i.o.toNat i.a (argX (tkA i.o.toNat) r.st) (argY (tkA i.o.toNat) r.st) (argZ r.st)).2 = 0 then (0, (r.cut (tkA i.o.toNat)).put (mOp i.o.toNat i.a (argX (tkA i.o.toNat) r.st) (argY (tkA i.o.toNat) r.st) (argZ r.st)).1)
    else ((mOp i.o.toNat i.a (argX (tkA i.o.toNat) r.st) (argY (tkA i.o.toNat) r.st) (argZ r.st)).2, r.cut (tkA i.o.toNat)) := by
  unfold mDo
  generalize i.o.toNat = k at *
  split <;> first | omega | rfl
theorem vDo_takes {day : Int} {t : Vs} {i : In} (h : (vDo day t i).1 = 0) : tkA i.o.toNat ≤ t.st.length := by
  unfold vDo at h
  simp only at h
  split at h
  · simp at h
  · rename_i n
    omega
theorem vDo_get {day : Int} {t : Vs} {i : In} (h : (vDo day t i).1 = 0) (e : i.o.toNat = 7) : t.sl i.a.toNat ≠ 0 := by
  intro z
  unfold vDo at h
  simp only [e] at h
  split at h
  · simp at h
  split at h
  · simp at h
  simp [z] at h
theorem vDo_obs {day : Int} {t : Vs} {i : In} (h : (vDo day t i).1 = 0) (e : i.o.toNat = 3) : i.b ≤ day := by
  apply Classical.byContradiction
  intro z
  unfold vDo at h
  simp only [e] at h
  split at h
  · simp at h
  split at h
  · simp at h
  rw [if_neg (by omega), if_neg (by omega)] at h
  simp [show day < i.b by omega] at h
theorem slSet_len (l : List Int) (a : Nat) (v : Int) : (slSet l a v).length = max l.length (a + 1) := by
  unfold slSet
  simp
  omega
/-- What an instruction leaves fits what is known behind it. -/
theorem mDo_fits {day : Int} {t : Vs} {i : In} {r : Rn} {E : EvM} (hi : i.okP) (f : Fits t r) (h : (vDo day t i).1 = 0) (g : (mDo E i r).1 = 0) : Fits (vDo day t i).2 (mDo E i r).2 := by
  have tk := vDo_takes h
  have gt := vDo_get h
  obtain ⟨f1, f2⟩ := f
  have k29 : i.o.toNat < 29 := by have := hi.1; have := hi.2.1; omega
  have vst : (vDo day t i).2 = if i.o.toNat = 6 then ⟨t.st.getD 0 0 :: t.st.drop 1, vKeep t.sl i.a.toNat (t.st.getD 0 0)⟩ else if i.o.toNat = 7 then ⟨t.sl i.a.toNat :: t.st, t.sl⟩ else if psA i.o.toNat = 0 then ⟨t.st.drop (tkA i.o.toNat), t.sl⟩ else ⟨psA i.o.toNat :: t.st.drop (tkA i.o.toNat), t.sl⟩ := by
    unfold vDo at h ⊢
    simp only at h ⊢
    split at h
    · simp at h
    rename_i n1
    rw [if_neg n1]
    split at h
    · simp at h
    rename_i n2
    rw [if_neg n2]
    by_cases e6 : i.o.toNat = 6
    · rw [if_pos e6, if_pos e6]
    rw [if_neg e6] at h ⊢
    rw [if_neg e6]
    by_cases e7 : i.o.toNat = 7
    · rw [if_pos e7] at h ⊢
      rw [if_pos e7]
      split at h
      · simp at h
      rename_i z
      rw [if_neg z]
    rw [if_neg e7] at h ⊢
    rw [if_neg e7]
    split at h
    · simp at h
    rename_i z
    rw [if_neg z]
    split <;> rfl
  rw [vst]
  rcases ops29 k29 with e | e | e | e | e | e | e | e | e | e | e | e | e
  · unfold mDo; rw [e]; exact ⟨by simpa [tkA, tkL, psA, psL] using f1, by simpa [psA, psL] using f2⟩
  · unfold mDo; rw [e]; exact ⟨by simpa [tkA, tkL, psA, psL, Rn.put] using f1, by simpa [psA, psL, Rn.put] using f2⟩
  · unfold mDo; rw [e]; exact ⟨by simpa [tkA, tkL, psA, psL, Rn.put] using f1, by simpa [psA, psL, Rn.put] using f2⟩
  · unfold mDo at g ⊢
    rw [e] at g ⊢
    simp only at g ⊢
    split at g
    · rename_i z; rw [if_pos z]; exact ⟨by simpa [tkA, tkL, psA, psL, Rn.put] using f1, by simpa [psA, psL, Rn.put] using f2⟩
    · simp at g
  · unfold mDo; rw [e]; exact ⟨by simpa [tkA, tkL, psA, psL, Rn.put] using f1, by simpa [psA, psL, Rn.put] using f2⟩
  · unfold mDo; rw [e]; exact ⟨by simp [tkA, tkL, psA, psL, f1], by simpa [psA, psL] using f2⟩
  · unfold mDo
    rw [e, if_pos rfl]
    have t6 : tkA 6 = 1 := by decide
    rw [e, t6] at tk
    refine ⟨by simp only [List.length_cons, List.length_drop]; omega, fun y hy => ?_⟩
    simp only [slSet_len]
    simp only [vKeep] at hy
    split at hy
    · omega
    · have := f2 y hy; omega
  · unfold mDo; rw [e]; exact ⟨by simpa [Rn.put] using f1, by simpa [Rn.put] using f2⟩
  · unfold mDo; rw [e]; exact ⟨by simp [tkA, tkL, psA, psL, Rn.cut, f1], by simpa [psA, psL, Rn.cut] using f2⟩
  · unfold mDo; rw [e]; exact ⟨by simpa [tkA, tkL, psA, psL] using f1, by simpa [psA, psL] using f2⟩
  · rw [e, if_neg (by omega), if_neg (by omega), if_pos (by decide)]
    have q : (mDo E i r).2.st = r.st.drop 1 ∧ (mDo E i r).2.sl = r.sl := by
      unfold mDo
      rw [e]
      simp only
      split <;> exact ⟨rfl, rfl⟩
    exact ⟨by rw [q.1]; simp [tkA, tkL, f1], by rw [q.2]; exact f2⟩
  · unfold mDo; rw [e]; exact ⟨by simp [tkA, tkL, psA, psL, f1], by simpa [psA, psL] using f2⟩
  · obtain ⟨m1, m2, m3⟩ := mid_facts _ k29 e.1 e.2
    rw [mDo_mid e] at g ⊢
    split at g
    · rename_i z
      rw [if_pos z, if_neg (by omega), if_neg (by omega), if_neg m2]
      exact ⟨by simp [Rn.put, Rn.cut, f1], by simpa [Rn.put, Rn.cut] using f2⟩
    · rename_i z; exact absurd g z
/-- Where the next instruction lies. -/
theorem mDo_next {E : EvM} {i : In} {r : Rn} (hi : i.okP) (g : (mDo E i r).1 = 0) : (mDo E i r).2.nx = r.nx ∧ ¬ i.o = 26 ∨ ((mDo E i r).2.nx = r.nx + i.a.toNat ∧ isJ i) := by
  have k29 : i.o.toNat < 29 := by have := hi.1; have := hi.2.1; omega
  have hp := hi.1
  rcases ops29 k29 with e | e | e | e | e | e | e | e | e | e | e | e | e
  · left; unfold mDo; rw [e]; exact ⟨rfl, by omega⟩
  · left; unfold mDo; rw [e]; exact ⟨rfl, by omega⟩
  · left; unfold mDo; rw [e]; exact ⟨rfl, by omega⟩
  · left
    unfold mDo at g ⊢
    rw [e] at g ⊢
    simp only at g ⊢
    split at g
    · rename_i z; rw [if_pos z]; exact ⟨rfl, by omega⟩
    · simp at g
  · left; unfold mDo; rw [e]; exact ⟨rfl, by omega⟩
  · left; unfold mDo; rw [e]; exact ⟨rfl, by omega⟩
  · left; unfold mDo; rw [e]; exact ⟨rfl, by omega⟩
  · left; unfold mDo; rw [e]; exact ⟨rfl, by omega⟩
  · left; unfold mDo; rw [e]; exact ⟨rfl, by omega⟩
  · right; unfold mDo; rw [e]; exact ⟨rfl, by unfold isJ; omega⟩
  · unfold mDo
    rw [e]
    simp only
    split
    · right; exact ⟨rfl, by unfold isJ; omega⟩
    · left; exact ⟨rfl, by omega⟩
  · left; unfold mDo; rw [e]; exact ⟨rfl, by omega⟩
  · left
    rw [mDo_mid e] at g ⊢
    split at g
    · rename_i z; rw [if_pos z]; exact ⟨rfl, by omega⟩
    · rename_i z; exact absurd g z
theorem mDo_en {E : EvM} {i : In} {r : Rn} (hi : i.okP) (h : r.en = false) : (mDo E i r).2.en = decide (i.o = 0) := by
  have k29 : i.o.toNat < 29 := by have := hi.1; have := hi.2.1; omega
  have hp := hi.1
  rcases ops29 k29 with e | e | e | e | e | e | e | e | e | e | e | e | e
  · unfold mDo; rw [e]; simp; omega
  all_goals
    have no : decide (i.o = 0) = false := by simp; omega
    rw [no]
  · unfold mDo; rw [e]; exact h
  · unfold mDo; rw [e]; exact h
  · unfold mDo; rw [e]; simp only; split <;> exact h
  · unfold mDo; rw [e]; exact h
  · unfold mDo; rw [e]; exact h
  · unfold mDo; rw [e]; exact h
  · unfold mDo; rw [e]; exact h
  · unfold mDo; rw [e]; exact h
  · unfold mDo; rw [e]; exact h
  · unfold mDo; rw [e]; simp only; split <;> exact h
  · unfold mDo; rw [e]; exact h
  · rw [mDo_mid e]; split <;> exact h
/-- A place of code that is taken, reached by a day's code that is being done. -/
structure Sits (day : Int) (code : List In) (r : Rn) : Prop where
  lt : r.nx < code.length
  en : r.en = false
  at_ : ∃ t, vL day code r.nx = some t ∧ Fits t r
theorem sits_start {day : Int} {code : List In} (h : (vRun day code code.length).1 = 0) (hn : 0 < code.length) (ce : List Int) : Sits day code ⟨[], [], ce, [], 0, false⟩ := by
  obtain ⟨t, e, c⟩ := vL_start h
  refine ⟨hn, rfl, t, e, ?_⟩
  exact ⟨by rw [c.1]; rfl, fun y hy => absurd (c.2 y hy).symm hy⟩
/-- What an instruction of code that is taken may rely on. -/
theorem sits_now {day : Int} {code : List In} (h : (vRun day code code.length).1 = 0) {r : Rn} (s : Sits day code r) : tkA (code.getD r.nx default).o.toNat ≤ r.st.length ∧ ((code.getD r.nx default).o.toNat = 7 → (code.getD r.nx default).a.toNat < r.sl.length) ∧ ((code.getD r.nx default).o.toNat = 3 → (code.getD r.nx default).b ≤ day) := by
  obtain ⟨t, e, f⟩ := s.at_
  obtain ⟨t', e', d, _, _⟩ := vL_step h s.lt
  rw [e] at e'
  injection e' with e'
  subst e'
  exact ⟨by rw [← f.st]; exact vDo_takes d, fun q => f.sl _ (vDo_get d q), fun q => vDo_obs d q⟩
theorem sits_next {day : Int} {code : List In} (h : (vRun day code code.length).1 = 0) (ok : ∀ k, k < code.length → (code.getD k default).okP ∧ ((code.getD k default).o = 0 ↔ k + 1 = code.length)) {r : Rn} (s : Sits day code r) {E : EvM} (g : (mAt E code r).1 = 0) (n : (mAt E code r).2.en = false) : Sits day code (mAt E code r).2 ∧ r.nx < (mAt E code r).2.nx := by
  obtain ⟨t, e, f⟩ := s.at_
  obtain ⟨t', e', d, a, b⟩ := vL_step h s.lt
  rw [e] at e'
  injection e' with e'
  subst e'
  obtain ⟨hi, he⟩ := ok _ s.lt
  unfold mAt at g n ⊢
  generalize hc : code.getD r.nx default = i at *
  have f' : Fits t { r with nx := r.nx + 1 } := ⟨f.st, f.sl⟩
  have en := mDo_en (E := E) hi (r := { r with nx := r.nx + 1 }) s.en
  have fit := mDo_fits (E := E) hi f' d g
  have io : ¬ i.o = 0 := by
    intro q
    rw [n] at en
    simp [q] at en
  rcases mDo_next hi g with ⟨q1, q2⟩ | ⟨q1, q2⟩
  · obtain ⟨u, u1, u2⟩ := a (by omega)
    refine ⟨⟨?_, n, u, by rw [q1]; exact u1, fit.cov u2⟩, by rw [q1]; show r.nx < r.nx + 1; omega⟩
    rw [q1]
    show r.nx + 1 < code.length
    have := s.lt
    rcases Nat.lt_or_ge (r.nx + 1) code.length with z | z
    · exact z
    · exact absurd (he.2 (by omega)) io
  · obtain ⟨z, u, u1, u2⟩ := b q2
    refine ⟨⟨by rw [q1]; exact z, n, u, by rw [q1]; exact u1, fit.cov u2⟩, by rw [q1]; show r.nx < r.nx + 1 + _; omega⟩
end Go.Proofs.YtpfjnnkjoabgbaaGreatDoor
