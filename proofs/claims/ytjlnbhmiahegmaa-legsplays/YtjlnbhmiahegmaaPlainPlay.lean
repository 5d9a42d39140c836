/-
  PLAIN: what actions come to.
-/
import Derived.Test.YtjlnbhmiahegmaaOpenA
import Derived.Test.YtjlnbhmiahegmaaPlainXV
import Derived.Test.YtjlnbhmiahegmaaWFlows
namespace Go.Proofs.Ytjlnbhmiahegmaa
open Go.RowKit
set_option linter.unusedVariables false
set_option linter.unusedSimpArgs false

/-- A step that is passed. -/
def okS (R : List (List Cl)) (C : List Int) (s : St) : Prop := s.kind = 3 ∨ ((s.e.val R C).2 = 0 ∧ (s.kind = 1 → decide (¬ (s.e.val R C).1 = 0) = s.want))
instance (R : List (List Cl)) (C : List Int) (s : St) : Decidable (okS R C s) := by unfold okS; exact inferInstance
/-- The fault at which the steps are left, and whether all are passed. -/
def passF (R : List (List Cl)) (C : List Int) : List St → Int × Bool
  | [] => (0, true)
  | s :: r => if okS R C s then passF R C r else ((s.e.val R C).2, false)
theorem passF_ok {R : List (List Cl)} {C : List Int} : ∀ (l : List St), (∀ s ∈ l, okS R C s) → passF R C l = (0, true)
  | [], _ => rfl
  | s :: r, h => by rw [passF, if_pos (h s (by simp))]; exact passF_ok r (fun t ht => h t (by simp [ht]))
theorem passF_bad {R : List (List Cl)} {C : List Int} : ∀ (l : List St) (i : Nat), i < l.length → (∀ j, j < i → okS R C (l.getD j default)) → ¬ okS R C (l.getD i default) → passF R C l = (((l.getD i default).e.val R C).2, false)
  | s :: r, 0, _, _, h => by rw [passF, if_neg (by simpa using h)]; simp
  | s :: r, i + 1, hi, hj, h => by
    rw [passF, if_pos (by simpa using hj 0 (by omega))]
    have := passF_bad r i (by simpa using hi) (fun j hj' => by simpa using hj (j + 1) (by omega)) (by simpa using h)
    simpa using this
/-- An amount, taken out through the steps around it. -/
def turnR (R : List (List Cl)) (C : List Int) : List St → Int × Int → Int × Int
  | [], v => v
  | s :: r, v => if ¬ (turnR R C r v).2 = 0 then turnR R C r v else if s.kind = 2 then (fitV ((s.e.val R C).1 * (turnR R C r v).1), fitF ((s.e.val R C).1 * (turnR R C r v).1)) else if s.kind = 3 then (fitV (-(turnR R C r v).1), fitF (-(turnR R C r v).1)) else turnR R C r v
theorem turnR_drop {R : List (List Cl)} {C : List Int} {l : List St} {i : Nat} (hi : i < l.length) (v : Int × Int) : turnR R C (l.drop i) v = (if ¬ (turnR R C (l.drop (i + 1)) v).2 = 0 then turnR R C (l.drop (i + 1)) v else if (l.getD i default).kind = 2 then (fitV (((l.getD i default).e.val R C).1 * (turnR R C (l.drop (i + 1)) v).1), fitF (((l.getD i default).e.val R C).1 * (turnR R C (l.drop (i + 1)) v).1)) else if (l.getD i default).kind = 3 then (fitV (-(turnR R C (l.drop (i + 1)) v).1), fitF (-(turnR R C (l.drop (i + 1)) v).1)) else turnR R C (l.drop (i + 1)) v) := by
  rw [List.drop_eq_getElem_cons hi, turnR]
  simp [List.getD, hi]
/-- What a fault has: no value. -/
def nv (r : Int × Int) : Prop := ¬ r.2 = 0 → r.1 = 0
theorem fit_nv (n : Int) : nv (fitV n, fitF n) := by
  intro h
  by_cases q : inR n
  · exact absurd (fitF_in q) h
  · exact fitV_out q
theorem turnR_nv {R : List (List Cl)} {C : List Int} : ∀ (l : List St) (v : Int × Int), nv v → nv (turnR R C l v)
  | [], v, h => h
  | s :: r, v, h => by
    have q := turnR_nv (R := R) (C := C) r v h
    rw [turnR]
    split
    · exact q
    · split
      · exact fit_nv _
      · split
        · exact fit_nv _
        · exact q
theorem turnR_in {R : List (List Cl)} {C : List Int} : ∀ (l : List St) (v : Int × Int), inR v.1 → inR (turnR R C l v).1
  | [], v, h => h
  | s :: r, v, h => by
    have q := turnR_in (R := R) (C := C) r v h
    rw [turnR]
    split
    · exact q
    · split
      · exact fitV_bd _
      · split
        · exact fitV_bd _
        · exact q
/-- A fault stays. -/
theorem turnR_fault {R : List (List Cl)} {C : List Int} : ∀ (l : List St) (v : Int × Int), ¬ v.2 = 0 → turnR R C l v = v
  | [], v, h => rfl
  | s :: r, v, h => by
    have q := turnR_fault (R := R) (C := C) r v h
    rw [turnR, q, if_pos h]
theorem turnR_left {R : List (List Cl)} {C : List Int} {l : List St} {v : Int × Int} : ∀ (i : Nat), ¬ (turnR R C (l.drop i) v).2 = 0 → turnR R C l v = turnR R C (l.drop i) v := by
  induction l with
  | nil => intro i _; simp
  | cons s r ih =>
    intro i h
    cases i with
    | zero => simp
    | succ i =>
      have q := ih i (by simpa using h)
      rw [List.drop_succ_cons] at h ⊢
      rw [turnR, q, if_pos h]
/-- An action that is played: to what, whether it came, the fault. -/
def doneR (R : List (List Cl)) (C : List Int) (a : At) : Int × Bool × Int :=
  if ¬ (passF R C a.ss).1 = 0 then (0, false, (passF R C a.ss).1) else if (passF R C a.ss).2 = false then (0, false, 0)
  else if ¬ (turnR R C a.ss (a.e.val R C)).2 = 0 then (0, false, (turnR R C a.ss (a.e.val R C)).2) else ((turnR R C a.ss (a.e.val R C)).1, true, 0)
/-- The flows, the fault and its day. -/
def playR (R : List (List Cl)) : List At → List Int → List Fl × Int × Int
  | [], _ => ([], 0, 0)
  | a :: r, C => if ¬ (doneR R C a).2.2 = 0 then ([], (doneR R C a).2.2, a.day) else if (doneR R C a).2.1 = true then (if a.kind = 1 then (⟨a.day, a.cur, (doneR R C a).1⟩ :: (playR R r C).1, (playR R r C).2) else playR R r (C.set a.cell.toNat (doneR R C a).1)) else playR R r C
/-- Where the play stands ahead of action i. -/
structure PS (R : List (List Cl)) (al : List At) (C0 : List Int) (i : Nat) (C : List Int) (F : List Fl) : Prop where
  len : C.length = C0.length
  bd : ∀ x ∈ C, inR x
  fl : F.length ≤ i
  is : playR R al C0 = (F ++ (playR R (al.drop i) C).1, (playR R (al.drop i) C).2)
theorem PS.new {R : List (List Cl)} {al : List At} {C0 : List Int} (h : ∀ x ∈ C0, inR x) : PS R al C0 0 C0 [] := ⟨rfl, h, Nat.le_refl _, by simp⟩
theorem PS.fault {R : List (List Cl)} {al : List At} {C0 C : List Int} {i : Nat} {F : List Fl} (h : PS R al C0 i C F) (hi : i < al.length) (hf : ¬ (doneR R C (al.getD i default)).2.2 = 0) : playR R al C0 = (F, (doneR R C (al.getD i default)).2.2, (al.getD i default).day) := by
  rw [h.is, List.drop_eq_getElem_cons hi, playR]
  simp only [List.getD, List.getElem?_eq_getElem hi, Option.getD_some] at hf ⊢
  rw [if_pos hf]
  simp
theorem PS.skip {R : List (List Cl)} {al : List At} {C0 C : List Int} {i : Nat} {F : List Fl} (h : PS R al C0 i C F) (hi : i < al.length) (hf : (doneR R C (al.getD i default)).2.2 = 0) (hc : (doneR R C (al.getD i default)).2.1 = false) : PS R al C0 (i + 1) C F := by
  refine ⟨h.len, h.bd, by have := h.fl; omega, ?_⟩
  rw [h.is, List.drop_eq_getElem_cons hi, playR]
  simp only [List.getD, List.getElem?_eq_getElem hi, Option.getD_some] at hf hc ⊢
  rw [if_neg (by simpa using hf), if_neg (by rw [hc]; simp)]
theorem PS.flow {R : List (List Cl)} {al : List At} {C0 C : List Int} {i : Nat} {F : List Fl} (h : PS R al C0 i C F) (hi : i < al.length) (hf : (doneR R C (al.getD i default)).2.2 = 0) (hc : (doneR R C (al.getD i default)).2.1 = true) (hk : (al.getD i default).kind = 1) : PS R al C0 (i + 1) C (F ++ [⟨(al.getD i default).day, (al.getD i default).cur, (doneR R C (al.getD i default)).1⟩]) := by
  refine ⟨h.len, h.bd, by have := h.fl; simp; omega, ?_⟩
  rw [h.is, List.drop_eq_getElem_cons hi, playR]
  simp only [List.getD, List.getElem?_eq_getElem hi, Option.getD_some] at hf hc hk ⊢
  rw [if_neg (by simpa using hf), if_pos hc, if_pos hk]
  simp
theorem PS.sets {R : List (List Cl)} {al : List At} {C0 C : List Int} {i : Nat} {F : List Fl} (h : PS R al C0 i C F) (hi : i < al.length) (hf : (doneR R C (al.getD i default)).2.2 = 0) (hc : (doneR R C (al.getD i default)).2.1 = true) (hk : ¬ (al.getD i default).kind = 1) (hv : inR (doneR R C (al.getD i default)).1) : PS R al C0 (i + 1) (C.set (al.getD i default).cell.toNat (doneR R C (al.getD i default)).1) F := by
  refine ⟨by simp [h.len], fun x hx => ?_, by have := h.fl; omega, ?_⟩
  · rcases List.mem_or_eq_of_mem_set hx with q | q
    · exact h.bd x q
    · rw [q]; exact hv
  · rw [h.is, List.drop_eq_getElem_cons hi, playR]
    simp only [List.getD, List.getElem?_eq_getElem hi, Option.getD_some] at hf hc hk ⊢
    rw [if_neg (by simpa using hf), if_pos hc, if_neg hk]
/-- An action that may be played, but for its day. -/
def isA (a : At) (cells : Int) : Prop := (∀ s ∈ a.ss, s.kind = 1 ∨ s.kind = 2 ∨ s.kind = 3) ∧ ((a.kind = 1 ∧ curB a.cur = true) ∨ (a.kind = 2 ∧ 0 ≤ a.cell ∧ a.cell < cells))
def risen (al : List At) : Prop := ∀ i, i < al.length → (if i = 0 then 0 else (al.getD (i - 1) default).day) ≤ (al.getD i default).day ∧ (al.getD i default).day ≤ 3660
open Classical in
/-- What is wrong with a list of actions. -/
noncomputable def oddR (al : List At) (cells : Int) : Int := if cells < 0 ∨ 512 < cells then 1 else if ¬ (∀ a ∈ al, isA a cells) then 1 else if ¬ risen al then 2 else if 2048 < al.length then 6 else 0
end Go.Proofs.Ytjlnbhmiahegmaa
