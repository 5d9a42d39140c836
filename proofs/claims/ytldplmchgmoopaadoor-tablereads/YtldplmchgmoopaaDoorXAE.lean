import Derived.Test.YtldplmchgmoopaaDoorXAD
import Derived.Test.YtldplmchgmoopaaDoorXAC
namespace Go.Proofs.YtldplmchgmoopaaDoor
open Go.RowKit
set_option linter.unusedVariables false
set_option linter.unusedSimpArgs false

/-- The first place from i on where p no longer holds. -/
def fnd (p : Int → Bool) (s : ByteArray) (i : Nat) : Nat :=
  if h : i < s.size ∧ p (bt s i) = true then fnd p s (i + 1) else i
termination_by s.size - i
decreasing_by omega
theorem fnd_go {p : Int → Bool} {s : ByteArray} {i : Nat} (h : i < s.size) (hp : p (bt s i) = true) : fnd p s i = fnd p s (i + 1) := by
  rw [fnd, dif_pos ⟨h, hp⟩]
theorem fnd_stop {p : Int → Bool} {s : ByteArray} {i : Nat} (h : ¬ (i < s.size ∧ p (bt s i) = true)) : fnd p s i = i := by
  rw [fnd, dif_neg h]
theorem fnd_is {p : Int → Bool} {s : ByteArray} : ∀ (n i q : Nat), q - i = n → i ≤ q → (∀ j, i ≤ j → j < q → j < s.size ∧ p (bt s j) = true) → ¬ (q < s.size ∧ p (bt s q) = true) → fnd p s i = q
  | 0, i, q, hn, hi, hin, hout => by
    obtain rfl : i = q := by omega
    exact fnd_stop hout
  | n + 1, i, q, hn, hi, hin, hout => by
    obtain ⟨h1, h2⟩ := hin i (Nat.le_refl _) (by omega)
    rw [fnd_go h1 h2]
    exact fnd_is n (i + 1) q (by omega) (by omega) (fun j h3 h4 => hin j (by omega) h4) hout
theorem fnd_all (p : Int → Bool) (s : ByteArray) : ∀ (n i : Nat), s.size - i = n → i ≤ fnd p s i ∧ (i ≤ s.size → fnd p s i ≤ s.size) ∧ (∀ j, i ≤ j → j < fnd p s i → j < s.size ∧ p (bt s j) = true) ∧ ¬ (fnd p s i < s.size ∧ p (bt s (fnd p s i)) = true)
  | 0, i, hn => by
    have e : fnd p s i = i := fnd_stop (fun h => by omega)
    rw [e]
    exact ⟨Nat.le_refl _, fun h => h, fun j h1 h2 => absurd h2 (by omega), fun h => by omega⟩
  | n + 1, i, hn => by
    by_cases h : i < s.size ∧ p (bt s i) = true
    · obtain ⟨a, b, c, d⟩ := fnd_all p s n (i + 1) (by omega)
      rw [fnd_go h.1 h.2]
      refine ⟨by omega, fun _ => b (by omega), fun j h1 h2 => ?_, d⟩
      by_cases e : j = i
      · subst e; exact h
      · exact c j (by omega) h2
    · rw [fnd_stop h]
      exact ⟨Nat.le_refl _, fun h => h, fun j h1 h2 => absurd h2 (by omega), h⟩
theorem fnd_ge (p : Int → Bool) (s : ByteArray) (i : Nat) : i ≤ fnd p s i := (fnd_all p s _ i rfl).1
theorem fnd_le {p : Int → Bool} {s : ByteArray} {i : Nat} (h : i ≤ s.size) : fnd p s i ≤ s.size := (fnd_all p s _ i rfl).2.1 h
theorem fnd_in {p : Int → Bool} {s : ByteArray} {i j : Nat} (h : i ≤ j) (h2 : j < fnd p s i) : j < s.size ∧ p (bt s j) = true := (fnd_all p s _ i rfl).2.2.1 j h h2
theorem fnd_out (p : Int → Bool) (s : ByteArray) (i : Nat) : ¬ (fnd p s i < s.size ∧ p (bt s (fnd p s i)) = true) := (fnd_all p s _ i rfl).2.2.2

/-- Words: where one begins and ends. -/
def nlB (c : Int) : Bool := c != 10
def wPl (s : ByteArray) (i : Nat) : Nat := if bt s (fnd blB s i) = 35 then fnd nlB s (fnd blB s i) else fnd blB s i
def wEn (s : ByteArray) (i : Nat) : Nat := fnd wdB s (wPl s i)
def wrd (s : ByteArray) (i : Nat) : ByteArray := s.extract (wPl s i) (wEn s i)
theorem wPl_ge (s : ByteArray) (i : Nat) : i ≤ wPl s i := by
  unfold wPl
  split
  · exact Nat.le_trans (fnd_ge _ _ _) (fnd_ge _ _ _)
  · exact fnd_ge _ _ _
theorem wPl_le {s : ByteArray} {i : Nat} (h : i ≤ s.size) : wPl s i ≤ s.size := by
  unfold wPl
  split
  · exact fnd_le (fnd_le h)
  · exact fnd_le h
theorem wEn_ge (s : ByteArray) (i : Nat) : wPl s i ≤ wEn s i := fnd_ge _ _ _
theorem wEn_le {s : ByteArray} {i : Nat} (h : i ≤ s.size) : wEn s i ≤ s.size := fnd_le (wPl_le h)
theorem wrd_size {s : ByteArray} {i : Nat} (h : i ≤ s.size) : (wrd s i).size = wEn s i - wPl s i := by
  have := wEn_le h
  unfold wrd
  rw [ByteArray.size_extract]
  omega
theorem wrd_none {s : ByteArray} {i : Nat} (h : wEn s i = wPl s i) : wrd s i = ⟨#[]⟩ := by
  unfold wrd
  rw [h]
  apply ByteArray.ext
  simp

/-- A day's word. -/
def dayF : Nat → List UInt8 → Option Nat
  | d, [] => some d
  | d, c :: l => if dgB (c.toNat : Int) = true then dayF (min (10 * d + (c.toNat - 48)) 4096) l else none
def dayP (u : ByteArray) : Option Nat := if u.data.toList.head? = some 48 ∧ 1 < u.size then none else dayF 0 u.data.toList
/-- A cell's word. -/
def cellV (u : ByteArray) : Option Cl := if u.data.toList = [45] then some ⟨false, 0⟩ else (prs 0 u.data.toList).map fun v => ⟨true, v⟩

def hasN (ns : List ByteArray) (c : ByteArray) : Bool := ns.any fun n => decide (n = c)
theorem hasN_iff {ns : List ByteArray} {c : ByteArray} : hasN ns c = true ↔ c ∈ ns := by
  unfold hasN
  rw [List.any_eq_true]
  constructor
  · rintro ⟨n, hn, e⟩
    have := of_decide_eq_true e
    subst this
    exact hn
  · intro h
    exact ⟨c, h, decide_eq_true rfl⟩
/-- The head's names: the place of the word that was read last, where it ends, the error, the names. -/
def headP (s : ByteArray) (i : Nat) (ns : List ByteArray) : Nat × Nat × Int × List ByteArray :=
  if wEn s i = wPl s i then (wPl s i, wEn s i, 0, ns) else
  if ns.length = 64 then (wPl s i, wEn s i, 6, ns) else
  if hasN ns (wrd s i) = true ∨ nameB (wrd s i) = false then (wPl s i, wEn s i, 52, ns) else
  if h : i < wEn s i ∧ wEn s i ≤ s.size then headP s (wEn s i) (ns ++ [wrd s i]) else default
termination_by s.size - i
decreasing_by omega
/-- A row's cells. -/
def cellsP (s : ByteArray) : Nat → Nat → List Cl → Nat × Nat × Int × List Cl
  | 0, i, cs => (wPl s i, wEn s i, if wEn s i = wPl s i then 0 else 51, cs)
  | n + 1, i, cs => match cellV (wrd s i) with
    | none => (wPl s i, wEn s i, 51, cs)
    | some c => cellsP s n (wEn s i) (cs ++ [c])
/-- What Parse answers. -/
structure PR where
  pl : Nat
  e : Int
  ns : List ByteArray
  rs : List (List Cl)
  deriving Inhabited
inductive Stp where
  | fin (r : PR)
  | on (i : Nat) (st : Option (List ByteArray)) (rs : List (List Cl))
def padR (k m : Nat) : List (List Cl) := List.replicate k (List.replicate m ⟨false, 0⟩)
def rowP (s : ByteArray) (ns : List ByteArray) (rs : List (List Cl)) (i : Nat) : Stp :=
  match dayP (wrd s i) with
  | none => .fin ⟨wPl s i, 51, [], []⟩
  | some d =>
    if d < rs.length then .fin ⟨wPl s i, 51, [], []⟩ else if 4096 ≤ d then .fin ⟨wPl s i, 6, [], []⟩ else
    if (cellsP s ns.length (wEn s i) []).2.2.1 = 0 then .on (cellsP s ns.length (wEn s i) []).2.1 (some ns) (rs ++ padR (d - rs.length) ns.length ++ [(cellsP s ns.length (wEn s i) []).2.2.2])
    else .fin ⟨(cellsP s ns.length (wEn s i) []).1, (cellsP s ns.length (wEn s i) []).2.2.1, [], []⟩
def wDay : ByteArray := ⟨#[100, 97, 121]⟩
def stepP (s : ByteArray) (i : Nat) (st : Option (List ByteArray)) (rs : List (List Cl)) : Stp :=
  if wEn s i = wPl s i then
    if wEn s i = s.size then (match st with | none => .fin ⟨s.size, 51, [], []⟩ | some ns => .fin ⟨0, 0, ns, rs⟩)
    else .on (wEn s i + 1) st rs
  else match st with
    | none => if wrd s i = wDay then
        (if (headP s (wEn s i) []).2.2.1 = 0 then .on (headP s (wEn s i) []).2.1 (some (headP s (wEn s i) []).2.2.2) rs
         else .fin ⟨(headP s (wEn s i) []).1, (headP s (wEn s i) []).2.2.1, [], []⟩)
      else .fin ⟨wPl s i, 51, [], []⟩
    | some ns => rowP s ns rs i
def prP (s : ByteArray) (i : Nat) (st : Option (List ByteArray)) (rs : List (List Cl)) : PR :=
  match stepP s i st rs with
  | .fin r => r
  | .on i' st' rs' => if h : i < i' ∧ i' ≤ s.size then prP s i' st' rs' else default
termination_by s.size - i
decreasing_by omega
def parseP (s : ByteArray) : PR := if 1048576 < s.size then ⟨0, 6, [], []⟩ else prP s 0 none []
theorem prP_fin {s : ByteArray} {i : Nat} {st : Option (List ByteArray)} {rs : List (List Cl)} {r : PR} (h : stepP s i st rs = .fin r) : prP s i st rs = r := by
  rw [prP, h]
theorem prP_on {s : ByteArray} {i i' : Nat} {st st' : Option (List ByteArray)} {rs rs' : List (List Cl)} (h : stepP s i st rs = .on i' st' rs') (h1 : i < i') (h2 : i' ≤ s.size) : prP s i st rs = prP s i' st' rs' := by
  rw [prP, h]
  exact dif_pos ⟨h1, h2⟩

/-- head goes on. -/
theorem headP_all (s : ByteArray) : ∀ (n i : Nat) (ns : List ByteArray), s.size - i = n → i ≤ s.size → i ≤ (headP s i ns).1 ∧ (headP s i ns).1 ≤ (headP s i ns).2.1 ∧ (headP s i ns).2.1 ≤ s.size := by
  intro n
  induction n using Nat.strongRecOn with
  | ind n ih =>
    intro i ns hn hi
    have a := wPl_ge s i
    have b := wEn_ge s i
    have c := wEn_le hi
    rw [headP]
    split
    · exact ⟨a, b, c⟩
    · split
      · exact ⟨a, b, c⟩
      · split
        · exact ⟨a, b, c⟩
        · rename_i h1 h2 h3
          rw [dif_pos ⟨by omega, c⟩]
          obtain ⟨x, y, z⟩ := ih (s.size - wEn s i) (by omega) (wEn s i) (ns ++ [wrd s i]) rfl c
          exact ⟨by omega, y, z⟩
theorem headP_go {s : ByteArray} {i : Nat} {ns : List ByteArray} (hi : i ≤ s.size) (h1 : ¬ wEn s i = wPl s i) (h2 : ¬ ns.length = 64) (h3 : ¬ (hasN ns (wrd s i) = true ∨ nameB (wrd s i) = false)) : headP s i ns = headP s (wEn s i) (ns ++ [wrd s i]) := by
  have a := wPl_ge s i
  have b := wEn_ge s i
  have c := wEn_le hi
  rw [headP, if_neg h1, if_neg h2, if_neg h3, dif_pos ⟨by omega, c⟩]
theorem headP_0 {s : ByteArray} {i : Nat} {ns : List ByteArray} (h1 : wEn s i = wPl s i) : headP s i ns = (wPl s i, wEn s i, 0, ns) := by rw [headP, if_pos h1]
theorem headP_6 {s : ByteArray} {i : Nat} {ns : List ByteArray} (h1 : ¬ wEn s i = wPl s i) (h2 : ns.length = 64) : headP s i ns = (wPl s i, wEn s i, 6, ns) := by rw [headP, if_neg h1, if_pos h2]
theorem headP_52 {s : ByteArray} {i : Nat} {ns : List ByteArray} (h1 : ¬ wEn s i = wPl s i) (h2 : ¬ ns.length = 64) (h3 : hasN ns (wrd s i) = true ∨ nameB (wrd s i) = false) : headP s i ns = (wPl s i, wEn s i, 52, ns) := by rw [headP, if_neg h1, if_neg h2, if_pos h3]
theorem cellsP_all (s : ByteArray) : ∀ (n i : Nat) (cs : List Cl), i ≤ s.size → i ≤ (cellsP s n i cs).1 ∧ (cellsP s n i cs).1 ≤ (cellsP s n i cs).2.1 ∧ (cellsP s n i cs).2.1 ≤ s.size
  | 0, i, cs, hi => ⟨wPl_ge s i, wEn_ge s i, wEn_le hi⟩
  | n + 1, i, cs, hi => by
    have a := wPl_ge s i
    have b := wEn_ge s i
    have c := wEn_le hi
    rw [cellsP]
    split
    · exact ⟨a, b, c⟩
    · obtain ⟨x, y, z⟩ := cellsP_all s n (wEn s i) (cs ++ [_]) c
      exact ⟨by omega, y, z⟩
theorem cellsP_bad {s : ByteArray} {n i : Nat} {cs : List Cl} (h : cellV (wrd s i) = none) : cellsP s (n + 1) i cs = (wPl s i, wEn s i, 51, cs) := by rw [cellsP, h]
theorem cellsP_go {s : ByteArray} {n i : Nat} {cs : List Cl} {c : Cl} (h : cellV (wrd s i) = some c) : cellsP s (n + 1) i cs = cellsP s n (wEn s i) (cs ++ [c]) := by rw [cellsP, h]
theorem cellsP_e (s : ByteArray) : ∀ (n i : Nat) (cs : List Cl), (cellsP s n i cs).2.2.1 = 0 ∨ (cellsP s n i cs).2.2.1 = 51
  | 0, i, cs => by
    rw [cellsP]
    by_cases h : wEn s i = wPl s i
    · exact .inl (if_pos h)
    · exact .inr (if_neg h)
  | n + 1, i, cs => by
    rw [cellsP]
    split
    · exact .inr rfl
    · exact cellsP_e s n _ _
end Go.Proofs.YtldplmchgmoopaaDoor

namespace Go.Proofs.YtldplmchgmoopaaDoor
open Go.RowKit
set_option linter.unusedVariables false
set_option linter.unusedSimpArgs false

theorem fnd_mid {p : Int → Bool} {s : ByteArray} {i j : Nat} (h1 : i ≤ j) (h2 : j ≤ fnd p s i) : fnd p s j = fnd p s i :=
  fnd_is _ j _ rfl h2 (fun k a b => fnd_in (Nat.le_trans h1 a) b) (fnd_out p s i)
theorem fnd_below {p q : Int → Bool} {s : ByteArray} {i : Nat} (h : ∀ c, p c = true → q c = true) : fnd p s i ≤ fnd q s i := by
  rcases Nat.lt_or_ge (fnd q s i) (fnd p s i) with a | a
  · obtain ⟨b, c⟩ := fnd_in (fnd_ge q s i) a
    exact absurd ⟨b, h _ c⟩ (fnd_out q s i)
  · exact a
theorem nl_bl {c : Int} (h : blB c = true) : nlB c = true := by
  unfold blB at h
  unfold nlB
  simp only [Bool.or_eq_true, beq_iff_eq] at h
  simp only [bne_iff_ne, ne_eq]
  omega
theorem nl_wd {c : Int} (h : wdB c = true) : nlB c = true := by
  unfold wdB at h
  unfold nlB
  simp only [Bool.and_eq_true] at h
  exact h.2
/-- A line goes on behind its words. -/
theorem ln_pl (s : ByteArray) (i : Nat) : wPl s i ≤ fnd nlB s i := by
  have a := fnd_below (s := s) (i := i) (fun c => nl_bl (c := c))
  unfold wPl
  split
  · rw [fnd_mid (fnd_ge blB s i) a]; exact Nat.le_refl _
  · exact a
theorem ln_en (s : ByteArray) (i : Nat) : wEn s i ≤ fnd nlB s i := by
  have a := ln_pl s i
  have b := fnd_below (s := s) (i := wPl s i) (fun c => nl_wd (c := c))
  rw [fnd_mid (wPl_ge s i) a] at b
  exact b
theorem ln_on (s : ByteArray) (i : Nat) : fnd nlB s (wEn s i) = fnd nlB s i := fnd_mid (Nat.le_trans (wPl_ge s i) (wEn_ge s i)) (ln_en s i)
/-- Where no word stands the line ends. -/
theorem ln_last {s : ByteArray} {i : Nat} (hi : i ≤ s.size) (h : wEn s i = wPl s i) : wPl s i = fnd nlB s i := by
  have a := ln_pl s i
  have e := fnd_mid (wPl_ge s i) a
  rw [← e]
  refine (fnd_stop ?_).symm
  rintro ⟨h1, h2⟩
  have w := fnd_out wdB s (wPl s i)
  change ¬ (wEn s i < s.size ∧ wdB (bt s (wEn s i)) = true) at w
  rw [h] at w
  refine w ⟨h1, ?_⟩
  have hn : bt s (wPl s i) ≠ 10 := by
    unfold nlB at h2
    simpa using h2
  have h0 : 0 ≤ bt s (wPl s i) := by rw [bt_lt h1]; omega
  have hb : blB (bt s (wPl s i)) = false ∧ bt s (wPl s i) ≠ 35 := by
    by_cases q : bt s (fnd blB s i) = 35
    · have e1 : wPl s i = fnd nlB s (fnd blB s i) := by unfold wPl; rw [if_pos q]
      have o := fnd_out nlB s (fnd blB s i)
      rw [← e1] at o
      exact absurd ⟨h1, h2⟩ o
    · have e1 : wPl s i = fnd blB s i := by unfold wPl; rw [if_neg q]
      have o := fnd_out blB s i
      rw [← e1] at o q
      refine ⟨?_, q⟩
      cases c : blB (bt s (wPl s i)) with
      | false => rfl
      | true => exact absurd ⟨h1, c⟩ o
  unfold wdB
  rw [hb.1]
  simp [h0, hb.2, hn]
/-- A line's words from a place on. -/
def wdsP (s : ByteArray) (i : Nat) : List (ByteArray × Nat) :=
  if h : (¬ wEn s i = wPl s i) ∧ i < wEn s i ∧ wEn s i ≤ s.size then (wrd s i, wPl s i) :: wdsP s (wEn s i) else []
termination_by s.size - i
decreasing_by omega
theorem wds_nil {s : ByteArray} {i : Nat} (h : wEn s i = wPl s i) : wdsP s i = [] := by
  rw [wdsP, dif_neg (fun q => q.1 h)]
theorem wds_cons {s : ByteArray} {i : Nat} (hi : i ≤ s.size) (h : ¬ wEn s i = wPl s i) : wdsP s i = (wrd s i, wPl s i) :: wdsP s (wEn s i) := by
  have a := wPl_ge s i
  have b := wEn_ge s i
  rw [wdsP, dif_pos ⟨h, by omega, wEn_le hi⟩]
/-- A blank is passed. -/
theorem wds_blank {s : ByteArray} {i : Nat} (h : i < s.size) (hb : blB (bt s i) = true) : wdsP s i = wdsP s (i + 1) := by
  have e : fnd blB s i = fnd blB s (i + 1) := fnd_go h hb
  have e1 : wPl s i = wPl s (i + 1) := by unfold wPl; rw [e]
  have e2 : wEn s i = wEn s (i + 1) := by unfold wEn; rw [e1]
  by_cases q : wEn s i = wPl s i
  · rw [wds_nil q, wds_nil (by omega)]
  · have q2 : ¬ wEn s (i + 1) = wPl s (i + 1) := by rw [← e1, ← e2]; exact q
    rw [wds_cons (Nat.le_of_lt h) q, wds_cons (i := i + 1) (by omega) q2]
    unfold wrd
    rw [e1, e2]
/-- A remark or the line's end. -/
theorem wds_rem {s : ByteArray} {i : Nat} (h : i < s.size) (hb : bt s i = 35) : wdsP s i = [] := by
  have e : fnd blB s i = i := fnd_stop (fun q => by have := q.2; rw [hb] at this; revert this; decide)
  have e1 : wPl s i = fnd nlB s i := by unfold wPl; rw [e, if_pos hb]
  refine wds_nil ?_
  unfold wEn
  refine fnd_stop ?_
  rw [e1]
  exact fun q => fnd_out nlB s i ⟨q.1, nl_wd q.2⟩
theorem wds_end {s : ByteArray} {i : Nat} (h : fnd nlB s i = i) : wdsP s i = [] := by
  have a := ln_en s i
  have b := wPl_ge s i
  have c := wEn_ge s i
  exact wds_nil (by omega)
/-- A word. -/
theorem wds_word {s : ByteArray} {i : Nat} (h : i < s.size) (hw : wdB (bt s i) = true) : wdsP s i = (s.extract i (fnd wdB s i), i) :: wdsP s (fnd wdB s i) ∧ i < fnd wdB s i := by
  have q : blB (bt s i) = false ∧ bt s i ≠ 35 := by
    unfold wdB at hw
    simp only [Bool.and_eq_true, Bool.not_eq_true', bne_iff_ne, ne_eq] at hw
    exact ⟨hw.1.1.2, hw.1.2⟩
  have e : fnd blB s i = i := fnd_stop (fun r => by rw [q.1] at r; exact absurd r.2 (by decide))
  have e1 : wPl s i = i := by unfold wPl; rw [e, if_neg q.2]
  have e2 : wEn s i = fnd wdB s i := by unfold wEn; rw [e1]
  have l : i < fnd wdB s i := by
    rw [fnd_go h hw]
    exact fnd_ge _ _ _
  refine ⟨?_, l⟩
  rw [wds_cons (Nat.le_of_lt h) (by omega)]
  unfold wrd
  rw [e1, e2]
/-- The lines that have words. -/
abbrev Lp := List (ByteArray × Nat) × Nat
def lnsP (s : ByteArray) (i : Nat) : List Lp :=
  (if wdsP s i = [] then [] else [(wdsP s i, fnd nlB s i)]) ++ (if h : i ≤ fnd nlB s i ∧ fnd nlB s i < s.size then lnsP s (fnd nlB s i + 1) else [])
termination_by s.size - i
decreasing_by omega
theorem lns_at {s : ByteArray} {i : Nat} : lnsP s i = (if wdsP s i = [] then [] else [(wdsP s i, fnd nlB s i)]) ++ (if fnd nlB s i < s.size then lnsP s (fnd nlB s i + 1) else []) := by
  conv => lhs; rw [lnsP]
  congr 1
  by_cases h : fnd nlB s i < s.size
  · rw [if_pos h, dif_pos ⟨fnd_ge _ _ _, h⟩]
  · rw [if_neg h, dif_neg (fun q => h q.2)]
theorem lns_words {s : ByteArray} : ∀ (n i : Nat), s.size - i = n → ∀ l ∈ lnsP s i, l.1 ≠ [] ∧ l.2 ≤ max i s.size := by
  intro n
  induction n using Nat.strongRecOn with
  | ind n ih =>
    intro i hn l hl
    rw [lns_at, List.mem_append] at hl
    rcases hl with hl | hl
    · split at hl
      · cases hl
      · rename_i q
        rw [List.mem_singleton] at hl
        subst hl
        refine ⟨q, ?_⟩
        rcases Nat.lt_or_ge s.size i with a | a
        · show fnd nlB s i ≤ _
          rw [fnd_stop (fun q => by omega)]
          omega
        · have := fnd_le (p := nlB) a
          show fnd nlB s i ≤ _
          omega
    · split at hl
      · rename_i q
        have a := fnd_ge nlB s i
        have := ih (s.size - (fnd nlB s i + 1)) (by omega) (fnd nlB s i + 1) rfl l hl
        exact ⟨this.1, by have := this.2; omega⟩
      · cases hl
/-- The head, by its words. -/
def headD : List (ByteArray × Nat) → List ByteArray → Nat × Int × List ByteArray
  | [], ns => (0, 0, ns)
  | (u, a) :: r, ns => if ns.length = 64 then (a, 6, []) else if hasN ns u = true ∨ nameB u = false then (a, 52, []) else headD r (ns ++ [u])
/-- A row, by its words. -/
def rowD (n e : Nat) : List (ByteArray × Nat) → List Cl → Nat × Int × List Cl
  | [], cs => if cs.length < n then (e, 51, []) else (0, 0, cs)
  | (u, a) :: r, cs => match cellV u with
    | none => (a, 51, [])
    | some c => if n ≤ cs.length then (a, 51, []) else rowD n e r (cs ++ [c])
def dayZ (u : ByteArray) : Int := match dayP u with
  | none => -1
  | some d => (d : Int)
def rowsD (ns : List ByteArray) : List Lp → List (List Cl) → PR
  | [], rs => ⟨0, 0, ns, rs⟩
  | (ws, e) :: r, rs => let d := dayZ (ws.headD default).1
    if 4096 ≤ d then ⟨(ws.headD default).2, 6, [], []⟩ else
    if d < (rs.length : Int) then ⟨(ws.headD default).2, 51, [], []⟩ else
    if (rowD ns.length e ws.tail []).2.1 = 0 then rowsD ns r (rs ++ padR (d.toNat - rs.length) ns.length ++ [(rowD ns.length e ws.tail []).2.2])
    else ⟨(rowD ns.length e ws.tail []).1, (rowD ns.length e ws.tail []).2.1, [], []⟩
def parseD (sz : Nat) : List Lp → PR
  | [] => ⟨sz, 51, [], []⟩
  | (ws, e) :: r => if (ws.headD default).1 = wDay then
      (if (headD ws.tail []).2.1 = 0 then rowsD (headD ws.tail []).2.2 r [] else ⟨(headD ws.tail []).1, (headD ws.tail []).2.1, [], []⟩)
    else ⟨(ws.headD default).2, 51, [], []⟩
theorem rowsD_cons (ns : List ByteArray) (u : ByteArray) (a : Nat) (t : List (ByteArray × Nat)) (e : Nat) (r : List Lp) (rs : List (List Cl)) : rowsD ns (((u, a) :: t, e) :: r) rs = if 4096 ≤ dayZ u then ⟨a, 6, [], []⟩ else if dayZ u < (rs.length : Int) then ⟨a, 51, [], []⟩ else if (rowD ns.length e t []).2.1 = 0 then rowsD ns r (rs ++ padR ((dayZ u).toNat - rs.length) ns.length ++ [(rowD ns.length e t []).2.2]) else ⟨(rowD ns.length e t []).1, (rowD ns.length e t []).2.1, [], []⟩ := rfl
theorem parseD_cons (sz : Nat) (u : ByteArray) (a : Nat) (t : List (ByteArray × Nat)) (e : Nat) (r : List Lp) : parseD sz (((u, a) :: t, e) :: r) = if u = wDay then (if (headD t []).2.1 = 0 then rowsD (headD t []).2.2 r [] else ⟨(headD t []).1, (headD t []).2.1, [], []⟩) else ⟨a, 51, [], []⟩ := rfl
theorem dayZ_some {u : ByteArray} {d : Nat} (h : dayP u = some d) : dayZ u = (d : Int) := by unfold dayZ; rw [h]
theorem dayZ_none {u : ByteArray} (h : dayP u = none) : dayZ u = -1 := by unfold dayZ; rw [h]
theorem headD_is {s : ByteArray} : ∀ (n i : Nat) (ns : List ByteArray), s.size - i = n → i ≤ s.size → ((headP s i ns).2.2.1 = 0 → headD (wdsP s i) ns = (0, 0, (headP s i ns).2.2.2) ∧ (headP s i ns).2.1 = fnd nlB s i) ∧ ((headP s i ns).2.2.1 ≠ 0 → (headD (wdsP s i) ns).1 = (headP s i ns).1 ∧ (headD (wdsP s i) ns).2.1 = (headP s i ns).2.2.1) := by
  intro n
  induction n using Nat.strongRecOn with
  | ind n ih =>
    intro i ns hn hi
    have a := wPl_ge s i
    have b := wEn_ge s i
    have c := wEn_le hi
    by_cases h1 : wEn s i = wPl s i
    · rw [headP_0 h1, wds_nil h1]
      exact ⟨fun _ => ⟨rfl, h1.trans (ln_last hi h1)⟩, fun q => absurd rfl q⟩
    · rw [wds_cons hi h1, headD]
      by_cases h2 : ns.length = 64
      · rw [headP_6 h1 h2, if_pos h2]
        exact ⟨fun q => absurd q (by simp), fun _ => ⟨rfl, rfl⟩⟩
      · rw [if_neg h2]
        by_cases h3 : hasN ns (wrd s i) = true ∨ nameB (wrd s i) = false
        · rw [headP_52 h1 h2 h3, if_pos h3]
          exact ⟨fun q => absurd q (by simp), fun _ => ⟨rfl, rfl⟩⟩
        · rw [if_neg h3, headP_go hi h1 h2 h3, ← ln_on s i]
          exact ih (s.size - wEn s i) (by omega) (wEn s i) _ rfl c
theorem cellV_none : cellV ⟨#[]⟩ = none := by decide
theorem rowD_is {s : ByteArray} (n : Nat) : ∀ (m k i : Nat) (cs : List Cl), s.size - i = m → i ≤ s.size → cs.length + k = n → ((cellsP s k i cs).2.2.1 = 0 → rowD n (fnd nlB s i) (wdsP s i) cs = (0, 0, (cellsP s k i cs).2.2.2) ∧ (cellsP s k i cs).2.1 = fnd nlB s i) ∧ ((cellsP s k i cs).2.2.1 ≠ 0 → (rowD n (fnd nlB s i) (wdsP s i) cs).1 = (cellsP s k i cs).1 ∧ (rowD n (fnd nlB s i) (wdsP s i) cs).2.1 = (cellsP s k i cs).2.2.1) := by
  intro m
  induction m using Nat.strongRecOn with
  | ind m ih =>
    intro k i cs hn hi hk
    have a := wPl_ge s i
    have b := wEn_ge s i
    have c := wEn_le hi
    by_cases h1 : wEn s i = wPl s i
    · rw [wds_nil h1, rowD]
      cases k with
      | zero =>
        rw [if_neg (by omega), cellsP, if_pos h1]
        exact ⟨fun _ => ⟨rfl, h1.trans (ln_last hi h1)⟩, fun q => absurd rfl q⟩
      | succ k =>
        rw [if_pos (by omega), cellsP_bad (by rw [wrd_none h1]; exact cellV_none)]
        exact ⟨fun q => absurd q (by simp), fun _ => ⟨(ln_last hi h1).symm, rfl⟩⟩
    · rw [wds_cons hi h1, rowD]
      cases k with
      | zero =>
        rw [cellsP, if_neg h1]
        refine ⟨fun q => absurd q (by simp), fun _ => ?_⟩
        cases cellV (wrd s i) with
        | none => exact ⟨rfl, rfl⟩
        | some v => simp only; rw [if_pos (by omega)]; exact ⟨rfl, rfl⟩
      | succ k =>
        cases q : cellV (wrd s i) with
        | none =>
          rw [cellsP_bad q]
          exact ⟨fun q => absurd q (by simp), fun _ => ⟨rfl, rfl⟩⟩
        | some v =>
          simp only
          rw [if_neg (by omega), cellsP_go q, ← ln_on s i]
          exact ih (s.size - wEn s i) (by omega) k (wEn s i) _ rfl c (by simp; omega)
theorem lns_skip {s : ByteArray} {i : Nat} (h : wdsP s i = []) : lnsP s i = if fnd nlB s i < s.size then lnsP s (fnd nlB s i + 1) else [] := by
  rw [lns_at, if_pos h, List.nil_append]
theorem lns_cons {s : ByteArray} {i : Nat} (h : wdsP s i ≠ []) : lnsP s i = (wdsP s i, fnd nlB s i) :: lnsP s (fnd nlB s i) := by
  have e : fnd nlB s (fnd nlB s i) = fnd nlB s i := fnd_mid (fnd_ge _ _ _) (Nat.le_refl _)
  rw [lns_skip (wds_end e), e, lns_at, if_neg h]
  rfl
theorem rowsD_is {s : ByteArray} (ns : List ByteArray) : ∀ (n i : Nat) (rs : List (List Cl)), s.size - i = n → i ≤ s.size → rs.length ≤ 4096 → prP s i (some ns) rs = rowsD ns (lnsP s i) rs := by
  intro n
  induction n using Nat.strongRecOn with
  | ind n ih =>
    intro i rs hn hi hr
    have a := wPl_ge s i
    have b := wEn_ge s i
    have c := wEn_le hi
    by_cases h1 : wEn s i = wPl s i
    · have l := ln_last hi h1
      rw [lns_skip (wds_nil h1)]
      by_cases h2 : wEn s i = s.size
      · rw [prP_fin (r := ⟨0, 0, ns, rs⟩) (by unfold stepP; rw [if_pos h1, if_pos h2]), if_neg (by omega)]
        rfl
      · rw [prP_on (i' := wEn s i + 1) (st' := some ns) (rs' := rs) (by unfold stepP; rw [if_pos h1, if_neg h2]) (by omega) (by omega), if_pos (by omega)]
        have : wEn s i + 1 = fnd nlB s i + 1 := by omega
        rw [this]
        exact ih (s.size - (fnd nlB s i + 1)) (by omega) _ rs rfl (by omega) hr
    · have hw := wds_cons hi h1
      rw [lns_cons (by rw [hw]; exact List.cons_ne_nil _ _), hw, rowsD_cons]
      have st : stepP s i (some ns) rs = rowP s ns rs i := by unfold stepP; rw [if_neg h1]
      cases q : dayP (wrd s i) with
      | none =>
        rw [dayZ_none q, if_neg (by omega), if_pos (by omega), prP_fin (by rw [st]; unfold rowP; rw [q])]
      | some d =>
        rw [dayZ_some q]
        have hrow := rowD_is (s := s) ns.length _ ns.length (wEn s i) [] rfl c (by simp)
        rw [ln_on s i] at hrow
        by_cases h3 : d < rs.length
        · rw [if_neg (by omega), if_pos (by omega), prP_fin (r := ⟨wPl s i, 51, [], []⟩) (by rw [st]; unfold rowP; rw [q]; simp only; rw [if_pos h3])]
        · by_cases h4 : 4096 ≤ d
          · rw [if_pos (by omega), prP_fin (r := ⟨wPl s i, 6, [], []⟩) (by rw [st]; unfold rowP; rw [q]; simp only; rw [if_neg h3, if_pos h4])]
          · rw [if_neg (by omega), if_neg (by omega)]
            have ca := cellsP_all s ns.length (wEn s i) [] c
            by_cases h5 : (cellsP s ns.length (wEn s i) []).2.2.1 = 0
            · obtain ⟨r1, r2⟩ := hrow.1 h5
              rw [r1, if_pos rfl, prP_on (i' := (cellsP s ns.length (wEn s i) []).2.1) (st' := some ns) (rs' := rs ++ padR (d - rs.length) ns.length ++ [(cellsP s ns.length (wEn s i) []).2.2.2]) (by rw [st]; unfold rowP; rw [q]; simp only; rw [if_neg h3, if_neg h4, if_pos h5]) (by omega) ca.2.2, r2, Int.toNat_natCast]
              have hl : i < fnd nlB s i := by rw [← r2]; omega
              exact ih (s.size - fnd nlB s i) (by omega) _ _ rfl (fnd_le hi) (by simp [padR]; omega)
            · obtain ⟨r1, r2⟩ := hrow.2 h5
              rw [r1, r2, if_neg h5, prP_fin (r := ⟨(cellsP s ns.length (wEn s i) []).1, (cellsP s ns.length (wEn s i) []).2.2.1, [], []⟩) (by rw [st]; unfold rowP; rw [q]; simp only; rw [if_neg h3, if_neg h4, if_neg h5])]
theorem parseD_is {s : ByteArray} : ∀ (n i : Nat), s.size - i = n → i ≤ s.size → prP s i none [] = parseD s.size (lnsP s i) := by
  intro n
  induction n using Nat.strongRecOn with
  | ind n ih =>
    intro i hn hi
    have a := wPl_ge s i
    have b := wEn_ge s i
    have c := wEn_le hi
    by_cases h1 : wEn s i = wPl s i
    · have l := ln_last hi h1
      rw [lns_skip (wds_nil h1)]
      by_cases h2 : wEn s i = s.size
      · rw [prP_fin (r := ⟨s.size, 51, [], []⟩) (by unfold stepP; rw [if_pos h1, if_pos h2]), if_neg (by omega)]
        rfl
      · rw [prP_on (i' := wEn s i + 1) (st' := none) (rs' := []) (by unfold stepP; rw [if_pos h1, if_neg h2]) (by omega) (by omega), if_pos (by omega)]
        have : wEn s i + 1 = fnd nlB s i + 1 := by omega
        rw [this]
        exact ih (s.size - (fnd nlB s i + 1)) (by omega) _ rfl (by omega)
    · have hw := wds_cons hi h1
      rw [lns_cons (by rw [hw]; exact List.cons_ne_nil _ _), hw, parseD_cons]
      by_cases h2 : wrd s i = wDay
      · rw [if_pos h2]
        have hh := headD_is (s := s) _ (wEn s i) [] rfl c
        have ha := headP_all s _ (wEn s i) [] rfl c
        by_cases h3 : (headP s (wEn s i) []).2.2.1 = 0
        · obtain ⟨r1, r2⟩ := hh.1 h3
          rw [ln_on s i] at r2
          rw [r1, if_pos rfl, prP_on (i' := (headP s (wEn s i) []).2.1) (st' := some (headP s (wEn s i) []).2.2.2) (rs' := []) (by unfold stepP; rw [if_neg h1]; simp only; rw [if_pos h2, if_pos h3]) (by omega) ha.2.2, r2]
          exact rowsD_is _ _ _ [] rfl (fnd_le hi) (by simp)
        · obtain ⟨r1, r2⟩ := hh.2 h3
          rw [r1, r2, if_neg h3, prP_fin (r := ⟨(headP s (wEn s i) []).1, (headP s (wEn s i) []).2.2.1, [], []⟩) (by unfold stepP; rw [if_neg h1]; simp only; rw [if_pos h2, if_neg h3])]
      · rw [if_neg h2, prP_fin (r := ⟨wPl s i, 51, [], []⟩) (by unfold stepP; rw [if_neg h1]; simp only; rw [if_neg h2])]
theorem parse_D (s : ByteArray) (h : s.size ≤ 1048576) : parseP s = parseD s.size (lnsP s 0) := by
  unfold parseP
  rw [if_neg (by omega)]
  exact parseD_is _ 0 rfl (Nat.zero_le _)
end Go.Proofs.YtldplmchgmoopaaDoor

namespace Go.Proofs.YtldplmchgmoopaaDoor
open Go.RowKit
set_option linter.unusedVariables false
set_option linter.unusedSimpArgs false

theorem TR.next {w : World} {g : Nat} {s : ByteArray} {k pl n : Nat} {m nm rw : Value} (h : TR w g s k pl m nm rw) (hk : k < s.size) : TR ((w.drewN n).setCell ⟨g, 1, none⟩ (.int .i64 ((k : Int) + 1))) g s (k + 1) pl m nm rw := by
  have := (h.drewN n).setAt (k + 1) (by omega)
  rwa [Int.natCast_add] at this
set_option maxRecDepth 100000 in
set_option maxHeartbeats 4000000 in
theorem word_any (g : Nat) (s : ByteArray) (at_ pl p q : Nat) (m nm rw : Value) (w : World) (h : TR w g s at_ pl m nm rw) (hp : at_ ≤ p) (hq : p ≤ q) (hs : q ≤ s.size)
    (hB : ∀ j, at_ ≤ j → j < p → blB (bt s j) = true) (hP : blB (bt s p) = false ∧ (bt s p == 35) = false) (hQ : ∀ j, p ≤ j → j < q → wdB (bt s j) = true) (hE : wdB (bt s q) = false) :
    Calls Tryd.prog 14 #[.pointer (some ⟨g, 0, none⟩)] w fun e w' => e = .returned (.string (s.extract p q)) ∧ TR w' g s q p m nm rw ∧ Gr g w w' := by
  have T0 := Lib.hid h
  have sz := h.sz
  have BQ := Lib.hid hB
  have PQ := Lib.hid hP
  have QQ := Lib.hid hQ
  have EE := Lib.hid hE
  clear h hB hP hQ hE
  go_enter Tryd.func14, Tryd.ntmps14
  go_wp2
  go_loopw [24] (fun t wr => ∃ k : Nat, at_ ≤ k ∧ k ≤ p ∧ TR wr g s k pl m nm rw ∧ Gr g w wr) (fun t wr => s.size - posT g wr)
  case atStart => exact ⟨at_, Nat.le_refl _, hp, T0.out, Gr.refl g w⟩
  case round =>
    rename World => wr
    obtain ⟨k, kl, kp, hT, hG⟩ := hrel
    have TT := Lib.hid hT
    have GG := Lib.hid hG
    have PS := Lib.hid hT.pos
    obtain ⟨h0, h1, h2, h3, h4, h5⟩ := hT.c
    have f1 := hT.f 1
    have f2 := hT.f 2
    clear hT hG
    by_cases hk : k < p
    · have ks : k < s.size := by omega
      have kc : (k : Int) < (s.size : Int) := by omega
      have YB := BQ.out k kl hk
      obtain ⟨c, hc⟩ : ∃ c : Nat, s[k].toNat = c := ⟨_, rfl⟩
      rw [bt_lt ks, hc] at YB
      have KB := Lib.hid (fun W => isBlank_any (c : Int) W)
      rw [YB] at KB
      have kw : IntKind.i64.wrap ((k : Int) + 1) = (k : Int) + 1 := by simp [IntKind.wrap, IntKind.bits, IntKind.signed]; omega
      clear YB
      go_wp2
      go_quiet ((go_at_call 27; exact Calls.quiet_of_same (KB.out _)))
      go_wp2
      refine ⟨⟨k + 1, by omega, by omega, ?_, ?_⟩, ?_⟩
      · exact TT.out.next ks
      · exact (GG.out.drewN _).set 1 _
      · rw [PS.out, (TT.out.next ks).pos]; omega
    · obtain rfl : k = p := by omega
      by_cases ks : k < s.size
      · have kc : (k : Int) < (s.size : Int) := by omega
        obtain ⟨YB, YH⟩ := PQ.out
        obtain ⟨c, hc⟩ : ∃ c : Nat, s[k].toNat = c := ⟨_, rfl⟩
        rw [bt_lt ks, hc] at YB YH
        have KB := Lib.hid (fun W => isBlank_any (c : Int) W)
        rw [YB] at KB
        clear YB
        go_wp2
        go_quiet ((go_at_call 27; exact Calls.quiet_of_same (KB.out _)))
        go_wp2
        go_quiet (fail)
        go_wp2
        clear h0 h1 h2 h3 h4 h5 f1 f2
        go_loopw [84] (fun t wr => ∃ i : Nat, k ≤ i ∧ i ≤ q ∧ TR wr g s i k m nm rw ∧ Gr g w wr) (fun t wr => s.size - posT g wr)
        case atStart => exact ⟨k, Nat.le_refl _, hq, (TT.out.drewN _).setPl _, (GG.out.drewN _).set 2 _⟩
        case round =>
          rename World => wt
          obtain ⟨i, il, iq, hT, hG⟩ := hrel
          have TU := Lib.hid hT
          have GU := Lib.hid hG
          have PU := Lib.hid hT.pos
          obtain ⟨h0, h1, h2, h3, h4, h5⟩ := hT.c
          have f1 := hT.f 1
          clear hT hG
          by_cases hi : i < q
          · have is : i < s.size := by omega
            have kc : (i : Int) < (s.size : Int) := by omega
            have YW := QQ.out i il hi
            obtain ⟨c, hc⟩ : ∃ c : Nat, s[i].toNat = c := ⟨_, rfl⟩
            rw [bt_lt is, hc] at YW
            have c0 : 0 ≤ (c : Int) := by omega
            have KC := Lib.hid (fun W => isOfWord_any (c : Int) c0 W)
            rw [YW] at KC
            have kw : IntKind.i64.wrap ((i : Int) + 1) = (i : Int) + 1 := by simp [IntKind.wrap, IntKind.bits, IntKind.signed]; omega
            clear YW c0
            go_wp2
            go_quiet ((go_at_call 29; exact Calls.quiet_of_same (KC.out _)))
            go_wp2
            refine ⟨⟨i + 1, by omega, by omega, ?_, ?_⟩, ?_⟩
            · exact TU.out.next is
            · exact (GU.out.drewN _).set 1 _
            · rw [PU.out, (TU.out.next is).pos]; omega
          · obtain rfl : i = q := by omega
            by_cases is : i < s.size
            · have kc : (i : Int) < (s.size : Int) := by omega
              have YW := EE.out
              obtain ⟨c, hc⟩ : ∃ c : Nat, s[i].toNat = c := ⟨_, rfl⟩
              rw [bt_lt is, hc] at YW
              have c0 : 0 ≤ (c : Int) := by omega
              have KC := Lib.hid (fun W => isOfWord_any (c : Int) c0 W)
              rw [YW] at KC
              clear YW c0
              go_wp2
              go_quiet ((go_at_call 29; exact Calls.quiet_of_same (KC.out _)))
              go_wp2
              go_quiet (fail)
              go_wp2
              go_ret
              exact ⟨rfl, (TU.out.drewN _).drewN _, (GU.out.drewN _).drewN _⟩
            · have kc : ¬ (i : Int) < (s.size : Int) := by omega
              have k2 : decide (i < s.size) = false := decide_eq_false is
              have k3 : decide ((i : Int) < (s.size : Int)) = false := decide_eq_false kc
              go_wp2
              go_quiet (fail)
              go_wp2
              go_quiet (fail)
              go_wp2
              go_ret
              exact ⟨rfl, (TU.out.drewN _).drewN _, (GU.out.drewN _).drewN _⟩
      · have kc : ¬ (k : Int) < (s.size : Int) := by omega
        have k2 : decide (k < s.size) = false := decide_eq_false ks
        have k3 : decide ((k : Int) < (s.size : Int)) = false := decide_eq_false kc
        go_wp2
        go_quiet (fail)
        go_wp2
        go_quiet (fail)
        go_wp2
        clear kc k2 k3
        clear h0 h1 h2 h3 h4 h5 f1 f2
        go_loopw [84] (fun t wr => ∃ i : Nat, k ≤ i ∧ i ≤ q ∧ TR wr g s i k m nm rw ∧ Gr g w wr) (fun t wr => s.size - posT g wr)
        case atStart => exact ⟨k, Nat.le_refl _, hq, (TT.out.drewN _).setPl _, (GG.out.drewN _).set 2 _⟩
        case round =>
          rename World => wt
          obtain ⟨i, il, iq, hT, hG⟩ := hrel
          have TU := Lib.hid hT
          have GU := Lib.hid hG
          have PU := Lib.hid hT.pos
          obtain ⟨h0, h1, h2, h3, h4, h5⟩ := hT.c
          have f1 := hT.f 1
          clear hT hG
          by_cases hi : i < q
          · exact absurd hi (by omega)
          · obtain rfl : i = q := by omega
            by_cases is : i < s.size
            · have kc : (i : Int) < (s.size : Int) := by omega
              have YW := EE.out
              obtain ⟨c, hc⟩ : ∃ c : Nat, s[i].toNat = c := ⟨_, rfl⟩
              rw [bt_lt is, hc] at YW
              have c0 : 0 ≤ (c : Int) := by omega
              have KC := Lib.hid (fun W => isOfWord_any (c : Int) c0 W)
              rw [YW] at KC
              clear YW c0
              go_wp2
              go_quiet ((go_at_call 29; exact Calls.quiet_of_same (KC.out _)))
              go_wp2
              go_quiet (fail)
              go_wp2
              go_ret
              exact ⟨rfl, (TU.out.drewN _).drewN _, (GU.out.drewN _).drewN _⟩
            · have kc : ¬ (i : Int) < (s.size : Int) := by omega
              have k2 : decide (i < s.size) = false := decide_eq_false is
              have k3 : decide ((i : Int) < (s.size : Int)) = false := decide_eq_false kc
              go_wp2
              go_quiet (fail)
              go_wp2
              go_quiet (fail)
              go_wp2
              go_ret
              exact ⟨rfl, (TU.out.drewN _).drewN _, (GU.out.drewN _).drewN _⟩
end Go.Proofs.YtldplmchgmoopaaDoor

namespace Go.Proofs.YtldplmchgmoopaaDoor
open Go.RowKit
set_option linter.unusedVariables false
set_option linter.unusedSimpArgs false

theorem stepP_on {s : ByteArray} {i i' : Nat} {st st' : Option (List ByteArray)} {rs rs' : List (List Cl)} (hi : i ≤ s.size) (h : stepP s i st rs = .on i' st' rs') : i < i' ∧ i' ≤ s.size := by
  have a := wPl_ge s i
  have b := wEn_ge s i
  have c := wEn_le hi
  unfold stepP at h
  split at h
  · split at h
    · cases st <;> cases h
    · injection h with h1 h2 h3
      subst h1
      exact ⟨by omega, by omega⟩
  · rename_i hw
    cases st with
    | none =>
      simp only at h
      split at h
      · split at h
        · injection h with h1 h2 h3
          subst h1
          obtain ⟨x, y, z⟩ := headP_all s _ (wEn s i) [] rfl c
          exact ⟨by omega, z⟩
        · cases h
      · cases h
    | some ns =>
      simp only [rowP] at h
      split at h
      · cases h
      · split at h
        · cases h
        · split at h
          · cases h
          · split at h
            · injection h with h1 h2 h3
              subst h1
              obtain ⟨x, y, z⟩ := cellsP_all s ns.length (wEn s i) [] c
              exact ⟨by omega, z⟩
            · cases h
/-- What is read is a table. -/
structure Gd (ns : List ByteArray) (rs : List (List Cl)) : Prop where
  n64 : ns.length ≤ 64
  nm : ∀ n ∈ ns, nameB n = true
  nd : ns.Nodup
  rw : ∀ r ∈ rs, r.length = ns.length
  st : ∀ r ∈ rs, ∀ c ∈ r, stB c = false ∧ (Lit.int .i64 c.v).wf = true
  r4 : rs.length ≤ 4096
theorem headP_gd (s : ByteArray) : ∀ (n i : Nat) (ns : List ByteArray), s.size - i = n → i ≤ s.size → ns.length ≤ 64 → (∀ n ∈ ns, nameB n = true) → ns.Nodup → (headP s i ns).2.2.2.length ≤ 64 ∧ (∀ n ∈ (headP s i ns).2.2.2, nameB n = true) ∧ (headP s i ns).2.2.2.Nodup := by
  intro n
  induction n using Nat.strongRecOn with
  | ind n ih =>
    intro i ns hn hi h64 hnm hnd
    have a := wPl_ge s i
    have b := wEn_ge s i
    have c := wEn_le hi
    by_cases h1 : wEn s i = wPl s i
    · rw [headP, if_pos h1]; exact ⟨h64, hnm, hnd⟩
    · by_cases h2 : ns.length = 64
      · rw [headP, if_neg h1, if_pos h2]; exact ⟨h64, hnm, hnd⟩
      · by_cases h3 : hasN ns (wrd s i) = true ∨ nameB (wrd s i) = false
        · rw [headP, if_neg h1, if_neg h2, if_pos h3]; exact ⟨h64, hnm, hnd⟩
        · rw [headP_go hi h1 h2 h3]
          refine ih (s.size - wEn s i) (by omega) (wEn s i) _ rfl c (by simp; omega) ?_ ?_
          · intro x hx
            rcases List.mem_append.1 hx with q | q
            · exact hnm x q
            · rw [List.mem_singleton.1 q]
              cases k : nameB (wrd s i) with
              | true => rfl
              | false => exact absurd (.inr k) h3
          · rw [List.nodup_append]
            refine ⟨hnd, by simp, fun x hx y hy e => ?_⟩
            rw [List.mem_singleton.1 hy] at e
            subst e
            exact h3 (.inl (hasN_iff.2 hx))
theorem atoi_inRT {l : List UInt8} {v : Int} (h : Lib.atoiAll l = .ok v) : inR v := by
  unfold inR
  cases l with
  | nil => simp [Lib.atoiAll] at h
  | cons c r =>
    simp only [Lib.atoiAll] at h
    split at h
    · cases h
    · cases h
    · split at h
      · cases h
      · split at h
        · cases h
        · injection h with h
          split at h <;> omega
theorem prs_inR {l : List UInt8} {v : Int} (h : prs 0 l = some v) : inR v := atoi_inRT (prs_some h).2
theorem wf_ofR {v : Int} (h : inR v) : (Lit.int .i64 v).wf = true := by
  unfold inR at h
  simp [Lit.wf, IntKind.min, IntKind.max, IntKind.bits, IntKind.signed]
  omega
theorem wf_0 : (Lit.int .i64 0).wf = true := wf_ofR (by unfold inR; omega)
theorem cellV_gd {u : ByteArray} {c : Cl} (h : cellV u = some c) : stB c = false ∧ (Lit.int .i64 c.v).wf = true := by
  unfold cellV at h
  split at h
  · injection h with h; subst h; exact ⟨rfl, wf_0⟩
  · cases q : prs 0 u.data.toList with
    | none => rw [q] at h; cases h
    | some v =>
      rw [q] at h
      injection h with h
      subst h
      exact ⟨rfl, wf_ofR (prs_inR q)⟩
theorem cellsP_gd (s : ByteArray) : ∀ (n i : Nat) (cs : List Cl), (∀ c ∈ cs, stB c = false ∧ (Lit.int .i64 c.v).wf = true) → (cellsP s n i cs).2.2.1 = 0 → (cellsP s n i cs).2.2.2.length = cs.length + n ∧ ∀ c ∈ (cellsP s n i cs).2.2.2, stB c = false ∧ (Lit.int .i64 c.v).wf = true
  | 0, i, cs, h, he => ⟨rfl, h⟩
  | n + 1, i, cs, h, he => by
    cases q : cellV (wrd s i) with
    | none => rw [cellsP_bad q] at he; exact absurd (show (51 : Int) = 0 from he) (by decide)
    | some c =>
      rw [cellsP_go q] at he ⊢
      obtain ⟨h1, h2⟩ := cellsP_gd s n (wEn s i) (cs ++ [c]) (fun x hx => by
        rcases List.mem_append.1 hx with k | k
        · exact h x k
        · rw [List.mem_singleton.1 k]; exact cellV_gd q) he
      refine ⟨?_, h2⟩
      rw [h1]; simp; omega
theorem stepP_gd {s : ByteArray} {i i' : Nat} {st st' : Option (List ByteArray)} {rs rs' : List (List Cl)} (hi : i ≤ s.size) (hn : st = none → rs = []) (h : ∀ ns, st = some ns → Gd ns rs) (q : stepP s i st rs = .on i' st' rs') : (st' = none → rs' = []) ∧ ∀ ns, st' = some ns → Gd ns rs' := by
  have c := wEn_le hi
  unfold stepP at q
  split at q
  · split at q
    · cases st <;> cases q
    · injection q with h1 h2 h3
      subst h1 h2 h3
      exact ⟨hn, h⟩
  · cases st with
    | none =>
      simp only at q
      split at q
      · split at q
        · injection q with h1 h2 h3
          subst h1 h2 h3
          have e := hn rfl
          subst e
          refine ⟨fun k => (by cases k), fun ns k => ?_⟩
          injection k with k
          subst k
          obtain ⟨x, y, z⟩ := headP_gd s _ (wEn s i) [] rfl c (by simp) (fun n hn => by cases hn) List.nodup_nil
          exact ⟨x, y, z, fun r hr => (by cases hr), fun r hr => (by cases hr), by simp⟩
        · cases q
      · cases q
    | some ns =>
      have g := h ns rfl
      simp only [rowP] at q
      split at q
      · cases q
      · rename_i d hd
        split at q
        · cases q
        · rename_i hd1
          split at q
          · cases q
          · rename_i hd2
            split at q
            · rename_i he
              injection q with h1 h2 h3
              subst h1 h2 h3
              obtain ⟨x, y⟩ := cellsP_gd s ns.length (wEn s i) [] (fun c hc => by cases hc) he
              refine ⟨fun k => (by cases k), fun ns' k => ?_⟩
              injection k with k
              subst k
              refine ⟨g.n64, g.nm, g.nd, fun r hr => ?_, fun r hr => ?_, ?_⟩
              · rcases List.mem_append.1 hr with hr | hr
                · rcases List.mem_append.1 hr with hr | hr
                  · exact g.rw r hr
                  · rw [(List.mem_replicate.1 hr).2]; simp
                · rw [List.mem_singleton.1 hr, x]; simp
              · rcases List.mem_append.1 hr with hr | hr
                · rcases List.mem_append.1 hr with hr | hr
                  · exact g.st r hr
                  · rw [(List.mem_replicate.1 hr).2]
                    intro c hc
                    rw [(List.mem_replicate.1 hc).2]
                    exact ⟨rfl, wf_0⟩
                · rw [List.mem_singleton.1 hr]; exact y
              · simp [padR]; omega
            · cases q
end Go.Proofs.YtldplmchgmoopaaDoor

namespace Go.Proofs.YtldplmchgmoopaaDoor
open Go.RowKit
set_option linter.unusedVariables false
set_option linter.unusedSimpArgs false

def sOf (L : List UInt8) : ByteArray := ⟨L.toArray⟩
theorem sOf_size (L : List UInt8) : (sOf L).size = L.length := by simp [sOf, ByteArray.size]
theorem bt_at {L T : List UInt8} {i : Nat} (h : L.drop i = T) (k : Nat) : bt (sOf L) (i + k) = ((T[k]?).map fun b => (b.toNat : Int)).getD (-1) := by
  have e : T[k]? = L[i + k]? := by rw [← h, List.getElem?_drop]
  rw [e]
  unfold bt
  by_cases q : i + k < (sOf L).size
  · rw [dif_pos q]
    have q2 : i + k < L.length := by rw [sOf_size] at q; exact q
    rw [List.getElem?_eq_getElem q2]
    rfl
  · rw [dif_neg q]
    rw [sOf_size] at q
    rw [List.getElem?_eq_none (by omega)]
    rfl
theorem fnd_here {p : Int → Bool} {L T : List UInt8} {i : Nat} {c : UInt8} (h : L.drop i = c :: T) (hc : p (c.toNat : Int) = false) : fnd p (sOf L) i = i := by
  refine fnd_stop (fun k => ?_)
  have := bt_at h 0
  rw [Nat.add_zero] at this
  rw [this] at k
  simp at k
  rw [hc] at k
  exact absurd k.2 (by simp)
theorem drop_on {L u T : List UInt8} {i : Nat} (h : L.drop i = u ++ T) : L.drop (i + u.length) = T := by
  rw [← List.drop_drop, h]
  simp
theorem bt_here {L T : List UInt8} {i : Nat} {c : UInt8} (h : L.drop i = c :: T) : bt (sOf L) i = (c.toNat : Int) := by
  have := bt_at h 0
  rw [Nat.add_zero] at this
  rw [this]
  rfl
theorem sOf_list (n : ByteArray) : sOf n.data.toList = n := by unfold sOf; simp
end Go.Proofs.YtldplmchgmoopaaDoor

namespace Go.Proofs.YtldplmchgmoopaaDoor
open Go.RowKit
set_option linter.unusedVariables false
set_option linter.unusedSimpArgs false

theorem idx_fnd {L : List UInt8} : ∀ (l : List UInt8) (i : Nat), L.drop i = l → i ≤ L.length → (Lib.indexByte l 10 < 0 → fnd nlB (sOf L) i = L.length) ∧ (¬ Lib.indexByte l 10 < 0 → (fnd nlB (sOf L) i : Int) = i + Lib.indexByte l 10)
  | [], i, h, hi => by
    have e : L.length = i := by
      have := congrArg List.length h
      rw [List.length_drop] at this
      simp at this
      omega
    have z : fnd nlB (sOf L) i = i := fnd_stop (fun k => by rw [sOf_size] at k; omega)
    refine ⟨fun _ => by rw [z, e], fun k => absurd (show Lib.indexByte [] 10 < 0 by simp [Lib.indexByte]) k⟩
  | c :: l, i, h, hi => by
    have hd : L.drop (i + 1) = l := drop_on (u := [c]) h
    have hl : i < L.length := by
      have := congrArg List.length h
      rw [List.length_drop] at this
      simp at this
      omega
    obtain ⟨h1, h2⟩ := idx_fnd l (i + 1) hd (by omega)
    have hg := Lib.indexByte_ge l 10
    by_cases hc : c = 10
    · subst hc
      have z : fnd nlB (sOf L) i = i := fnd_here h (by decide)
      have e2 : Lib.indexByte (10 :: l) 10 = 0 := by simp [Lib.indexByte]
      rw [e2, z]
      exact ⟨fun k => by omega, fun _ => by omega⟩
    · have hn : c.toNat ≠ 10 := fun e => hc (UInt8.toNat_inj.1 e)
      have z : fnd nlB (sOf L) i = fnd nlB (sOf L) (i + 1) := fnd_go (by rw [sOf_size]; exact hl) (by rw [bt_here h]; unfold nlB; rw [bne_iff_ne]; omega)
      have e2 : Lib.indexByte (c :: l) 10 = if Lib.indexByte l 10 == -1 then -1 else Lib.indexByte l 10 + 1 := by
        show (if c == 10 then _ else _) = _
        rw [if_neg (by simpa using hc)]
      rw [z, e2]
      by_cases q : Lib.indexByte l 10 = -1
      · rw [if_pos (by simp [q])]
        have := h1 (by omega)
        exact ⟨fun _ => this, fun k => by omega⟩
      · rw [if_neg (by simpa using q)]
        have := h2 (by omega)
        exact ⟨fun k => by omega, fun k => by rw [this]; push_cast; omega⟩
theorem TR.to {w : World} {g : Nat} {s : ByteArray} {k pl n j : Nat} {m nm rw : Value} {v : Int} (h : TR w g s k pl m nm rw) (hv : v = (j : Int)) (hj : j ≤ s.size) : TR ((w.drewN n).setCell ⟨g, 1, none⟩ (.int .i64 v)) g s j pl m nm rw := by
  subst hv
  exact (h.drewN n).setAt j hj
set_option maxRecDepth 100000 in
set_option maxHeartbeats 2000000 in
theorem passComment_any (g : Nat) (s : ByteArray) (at_ pl : Nat) (m nm rw : Value) (w : World) (h : TR w g s at_ pl m nm rw) :
    Calls Tryd.prog 28 #[.pointer (some ⟨g, 0, none⟩)] w fun e w' => e = .returned (.tuple #[]) ∧ TR w' g s (fnd nlB s at_) pl m nm rw ∧ Gr g w w' := by
  have T0 := Lib.hid h
  have sz := h.sz
  have le := h.le
  have KI := Lib.hid (fun W => Tryd.strings_IndexByte (s.extract at_ s.size) 10 W)
  have e1 : (s.extract at_ s.size).data.toList = s.data.toList.drop at_ := by
    rw [ByteArray.data_extract]
    have q : s.data.toList.length = s.size := Array.length_toList
    rw [Array.toList_extract, List.extract_eq_take_drop, List.take_of_length_le (by rw [List.length_drop]; omega)]
  have e2 : (10 : Int).toNat.toUInt8 = (10 : UInt8) := by decide
  rw [e1, e2] at KI
  have hl : s.data.toList.length = s.size := Array.length_toList
  have F := idx_fnd (L := s.data.toList) _ at_ rfl (by omega)
  rw [sOf_list, hl] at F
  have fl := fnd_le (p := nlB) le
  generalize Lib.indexByte (s.data.toList.drop at_) 10 = I at *
  generalize fnd nlB s at_ = J at *
  obtain ⟨F1, F2⟩ := F
  obtain ⟨h0, h1, h2, h3, h4, h5⟩ := h.c
  have f1 := h.f 1
  have kc : (at_ : Int) ≤ (s.size : Int) := by omega
  clear h e1 e2 hl
  by_cases hI : I < 0
  · have J1 := Lib.hid (F1 hI)
    have w1 : IntKind.i64.wrap ((s.size : Int) - (at_ : Int)) = (s.size : Int) - (at_ : Int) := by simp [IntKind.wrap, IntKind.bits, IntKind.signed]; omega
    have w2 : IntKind.i64.wrap ((at_ : Int) + ((s.size : Int) - (at_ : Int))) = (at_ : Int) + ((s.size : Int) - (at_ : Int)) := by simp [IntKind.wrap, IntKind.bits, IntKind.signed]; omega
    clear F1 F2
    go_enter Tryd.func28, Tryd.ntmps28
    go_wp2
    go_quiet ((go_at_call 41; exact Calls.quiet_of_same (KI.out _)))
    go_wp2
    go_quiet (fail)
    go_wp2
    go_end0
    exact ⟨rfl, TR.to T0.out (by rw [J1.out]; omega) fl, ((Gr.refl g w).drewN _).set 1 _⟩
  · have J1 := Lib.hid (F2 hI)
    have w2 : IntKind.i64.wrap ((at_ : Int) + I) = (at_ : Int) + I := by
      have := F2 hI
      simp [IntKind.wrap, IntKind.bits, IntKind.signed]; omega
    clear F1 F2
    go_enter Tryd.func28, Tryd.ntmps28
    go_wp2
    go_quiet ((go_at_call 41; exact Calls.quiet_of_same (KI.out _)))
    go_wp2
    go_end0
    exact ⟨rfl, TR.to T0.out J1.out.symm fl, ((Gr.refl g w).drewN _).set 1 _⟩

set_option maxRecDepth 100000 in
set_option maxHeartbeats 4000000 in
theorem word_comment (g : Nat) (s : ByteArray) (at_ pl b : Nat) (m nm rw : Value) (w : World) (h : TR w g s at_ pl m nm rw) (hb : at_ ≤ b) (hs : b < s.size)
    (hB : ∀ j, at_ ≤ j → j < b → blB (bt s j) = true) (hP : bt s b = 35) :
    Calls Tryd.prog 14 #[.pointer (some ⟨g, 0, none⟩)] w fun e w' => e = .returned (.string ByteArray.empty) ∧ TR w' g s (fnd nlB s b) (fnd nlB s b) m nm rw ∧ Gr g w w' := by
  have T0 := Lib.hid h
  have sz := h.sz
  have BQ := Lib.hid hB
  have KP := Lib.hid (fun pl W (t : TR W g s b pl m nm rw) => passComment_any g s b pl m nm rw W t)
  have OUT := Lib.hid (fnd_out nlB s b)
  have fl := fnd_le (p := nlB) (Nat.le_of_lt hs)
  have HP := Lib.hid hP
  generalize fnd nlB s b = q at *
  clear h hB hP
  go_enter Tryd.func14, Tryd.ntmps14
  go_wp2
  go_loopw [24] (fun t wr => ∃ k : Nat, at_ ≤ k ∧ k ≤ b ∧ TR wr g s k pl m nm rw ∧ Gr g w wr) (fun t wr => s.size - posT g wr)
  case atStart => exact ⟨at_, Nat.le_refl _, hb, T0.out, Gr.refl g w⟩
  case round =>
    rename World => wr
    obtain ⟨k, kl, kp, hT, hG⟩ := hrel
    have TT := Lib.hid hT
    have GG := Lib.hid hG
    have PS := Lib.hid hT.pos
    obtain ⟨h0, h1, h2, h3, h4, h5⟩ := hT.c
    have f1 := hT.f 1
    have f2 := hT.f 2
    clear hT hG
    have ks : k < s.size := by omega
    have kc : (k : Int) < (s.size : Int) := by omega
    by_cases hk : k < b
    · have YB := BQ.out k kl hk
      obtain ⟨c, hc⟩ : ∃ c : Nat, s[k].toNat = c := ⟨_, rfl⟩
      rw [bt_lt ks, hc] at YB
      have KB := Lib.hid (fun W => isBlank_any (c : Int) W)
      rw [YB] at KB
      have kw : IntKind.i64.wrap ((k : Int) + 1) = (k : Int) + 1 := by simp [IntKind.wrap, IntKind.bits, IntKind.signed]; omega
      clear YB
      go_wp2
      go_quiet ((go_at_call 27; exact Calls.quiet_of_same (KB.out _)))
      go_wp2
      refine ⟨⟨k + 1, by omega, by omega, ?_, ?_⟩, ?_⟩
      · exact TT.out.next ks
      · exact (GG.out.drewN _).set 1 _
      · rw [PS.out, (TT.out.next ks).pos]; omega
    · obtain rfl : k = b := by omega
      have YB := HP.out
      obtain ⟨c, hc⟩ : ∃ c : Nat, s[k].toNat = c := ⟨_, rfl⟩
      rw [bt_lt ks, hc] at YB
      obtain rfl : c = 35 := by omega
      have KB := Lib.hid (fun W => isBlank_any 35 W)
      rw [show blB 35 = false by decide] at KB
      clear YB
      go_wp2
      go_quiet ((go_at_call 27; exact Calls.quiet_of_same (KB.out _)))
      go_wp2
      go_quiet (fail)
      go_wp2_with (go_at_call 28; refine (KP.out pl _ (TT.out.drewN _)).mono ?_; rintro e wt ⟨rfl, hT, hG⟩; clear h0 h1 h2 h3 h4 h5 f1 f2; have T5 := Lib.hid hT; have G5 := Lib.hid hG; obtain ⟨h0, h1, h2, h3, h4, h5⟩ := hT.c; have f2 := hT.f 2; clear hT hG)
      clear h0 h1 h2 h3 h4 h5 f2
      go_loopw [84] (fun t wr => TR wr g s q q m nm rw ∧ Gr g w wr) (fun t wr => 1)
      case atStart => exact ⟨T5.out.setPl _, ((GG.out.drewN _).trans G5.out).set 2 _⟩
      case round =>
        rename World => wu
        obtain ⟨hT, hG⟩ := hrel
        have TU := Lib.hid hT
        have GU := Lib.hid hG
        obtain ⟨h0, h1, h2, h3, h4, h5⟩ := hT.c
        clear hT hG
        by_cases is : q < s.size
        · have kq : (q : Int) < (s.size : Int) := by omega
          obtain ⟨c, hc⟩ : ∃ c : Nat, s[q].toNat = c := ⟨_, rfl⟩
          have c10 : c = 10 := by
            have := OUT.out
            rw [bt_lt is, hc] at this
            refine Classical.byContradiction fun k => this ⟨is, ?_⟩
            unfold nlB
            rw [bne_iff_ne]; omega
          subst c10
          have KC := Lib.hid (fun W => isOfWord_any 10 (by omega) W)
          rw [show wdB 10 = false by decide] at KC
          go_wp2
          go_quiet ((go_at_call 29; exact Calls.quiet_of_same (KC.out _)))
          go_wp2
          go_quiet (fail)
          go_wp2
          go_ret
          exact ⟨rfl, (TU.out.drewN _).drewN _, (GU.out.drewN _).drewN _⟩
        · have kq : ¬ (q : Int) < (s.size : Int) := by omega
          have k2 : decide (q < s.size) = false := decide_eq_false is
          have k3 : decide ((q : Int) < (s.size : Int)) = false := decide_eq_false kq
          go_wp2
          go_quiet (fail)
          go_wp2
          go_quiet (fail)
          go_wp2
          go_ret
          exact ⟨rfl, (TU.out.drewN _).drewN _, (GU.out.drewN _).drewN _⟩
/-- The reader's word, of any text. -/
theorem word_all (g : Nat) (s : ByteArray) (at_ pl : Nat) (m nm rw : Value) (w : World) (h : TR w g s at_ pl m nm rw) :
    Calls Tryd.prog 14 #[.pointer (some ⟨g, 0, none⟩)] w fun e w' => e = .returned (.string (wrd s at_)) ∧ TR w' g s (wEn s at_) (wPl s at_) m nm rw ∧ Gr g w w' := by
  have le := h.le
  have b1 := fnd_ge blB s at_
  have b2 := fnd_le (p := blB) le
  by_cases q : bt s (fnd blB s at_) = 35
  · have hs : fnd blB s at_ < s.size := by
      refine Classical.byContradiction fun k => ?_
      rw [bt_end k] at q
      omega
    have e1 : wPl s at_ = fnd nlB s (fnd blB s at_) := by unfold wPl; rw [if_pos q]
    have e2 : wEn s at_ = fnd nlB s (fnd blB s at_) := by
      unfold wEn
      rw [e1]
      refine fnd_stop (fun k => ?_)
      have := fnd_out nlB s (fnd blB s at_)
      refine this ⟨k.1, ?_⟩
      have k2 := k.2
      unfold wdB at k2
      unfold nlB
      simp only [Bool.and_eq_true] at k2
      exact k2.2
    have := word_comment g s at_ pl (fnd blB s at_) m nm rw w h b1 hs (fun j h1 h2 => (fnd_in h1 h2).2) q
    rw [wrd_none (e2.trans e1.symm), e1, e2]
    exact this
  · have e1 : wPl s at_ = fnd blB s at_ := by unfold wPl; rw [if_neg q]
    have hbl : blB (bt s (fnd blB s at_)) = false := by
      by_cases k : fnd blB s at_ < s.size
      · cases z : blB (bt s (fnd blB s at_)) with
        | false => rfl
        | true => exact absurd ⟨k, z⟩ (fnd_out blB s at_)
      · rw [bt_end k]; decide
    have hw : wdB (bt s (wEn s at_)) = false := by
      unfold wEn
      by_cases k : fnd wdB s (wPl s at_) < s.size
      · cases z : wdB (bt s (fnd wdB s (wPl s at_))) with
        | false => rfl
        | true => exact absurd ⟨k, z⟩ (fnd_out wdB s (wPl s at_))
      · rw [bt_end k]; decide
    exact word_any g s at_ pl (wPl s at_) (wEn s at_) m nm rw w h (wPl_ge s at_) (wEn_ge s at_) (wEn_le le) (fun j h1 h2 => by rw [e1] at h2; exact (fnd_in h1 h2).2) (by rw [e1]; exact ⟨hbl, by rw [beq_eq_false_iff_ne]; exact q⟩) (fun j h1 h2 => (fnd_in h1 h2).2) hw
end Go.Proofs.YtldplmchgmoopaaDoor
