import Derived.Test.YtccjeipkljdhdaaGreatDoorXAG
import Derived.Lib.AtoiAll
import Derived.Test.YtccjeipkljdhdaaGreatDoorXAQ
import Derived.Test.YtccjeipkljdhdaaGreatDoorXAD
import Derived.Test.YtccjeipkljdhdaaGreatDoorXAK
namespace Go.Proofs.YtccjeipkljdhdaaGreatDoor
open Go.RowKit
set_option linter.unusedVariables false

def isD (c : UInt8) : Prop := 48 ≤ c.toNat ∧ c.toNat ≤ 57
theorem ofNat_d {k : Nat} (h : k ≤ 9) : (UInt8.ofNat (48 + k)).toNat = 48 + k := by rw [UInt8.toNat_ofNat']; omega
theorem dec_d (u : Nat) : ∀ c ∈ Lib.decDigits u, isD c := by
  induction u using Nat.strongRecOn with
  | ind u ih =>
    rw [Lib.decDigits]
    split
    · rename_i h
      intro c hc
      rw [List.mem_singleton.1 hc]; unfold isD; rw [ofNat_d (by omega)]; omega
    · intro c hc
      rw [List.mem_append] at hc
      rcases hc with hc | hc
      · exact ih (u / 10) (by omega) c hc
      · rw [List.mem_singleton.1 hc]; unfold isD; rw [ofNat_d (by omega)]; omega
theorem dec_neB (u : Nat) : Lib.decDigits u ≠ [] := by
  rw [Lib.decDigits]; split <;> simp
theorem dec_len (k : Nat) : ∀ u, u < 10 ^ (k + 1) → (Lib.decDigits u).length ≤ k + 1 := by
  induction k with
  | zero => intro u h; rw [Lib.decDigits, dif_pos (by simpa using h)]; simp
  | succ k ih =>
    intro u h
    rw [Lib.decDigits]
    split
    · simp
    · have := ih (u / 10) (by rw [Nat.pow_succ] at h; omega)
      simp; omega
theorem pu_append (a b : List UInt8) : ∀ acc, Lib.parseUint10 acc (a ++ b) = match Lib.parseUint10 acc a with | .ok m => Lib.parseUint10 m b | .syntax => .syntax | .range => .range := by
  induction a with
  | nil => intro acc; simp [Lib.parseUint10]
  | cons c r ih =>
    intro acc
    simp only [List.cons_append, Lib.parseUint10]
    split
    · split
      · rfl
      · split
        · rfl
        · exact ih _
    · rfl
theorem pu_zero (k : Nat) (r : List UInt8) : Lib.parseUint10 0 (List.replicate k 48 ++ r) = Lib.parseUint10 0 r := by
  induction k with
  | zero => simp
  | succ k ih =>
    rw [List.replicate_succ, List.cons_append, Lib.parseUint10]
    rw [if_pos (by decide), if_neg (by omega), if_neg (by decide)]
    exact ih
theorem pu_dec (u : Nat) (h : u < 18446744073709551616) : Lib.parseUint10 0 (Lib.decDigits u) = .ok u := by
  induction u using Nat.strongRecOn with
  | ind u ih =>
    rw [Lib.decDigits]
    split
    · rename_i g
      rw [Lib.parseUint10, ofNat_d (by omega), if_pos (by omega), if_neg (by omega), if_neg (by omega), Lib.parseUint10]
      congr 1; omega
    · rename_i g
      rw [pu_append, ih (u / 10) (by omega) (by omega)]
      simp only
      rw [Lib.parseUint10, ofNat_d (by omega), if_pos (by omega), if_neg (by omega), if_neg (by omega), Lib.parseUint10]
      congr 1; omega

/-- Without the byte ahead of the decimals. -/
def wst (p : Nat) (l : List UInt8) : List UInt8 := if p = 0 ∨ l.length < p + 1 then l else l.take (l.length - p - 1) ++ l.drop (l.length - p)
/-- A number's text. -/
def dtx (v : Int) (p : Nat) : List UInt8 := decS (decide (v < 0)) p (Lib.decDigits (absI v).toNat)
def sg (v : Int) : List UInt8 := if v < 0 then [45] else []
theorem dtx_eq (v : Int) (p : Nat) : dtx v p = sg v ++ pointed p (padTo p (Lib.decDigits (absI v).toNat)) := by
  unfold dtx decS sg
  by_cases h : v < 0
  · rw [if_pos (decide_eq_true h), if_pos h]; rfl
  · rw [if_neg (by simp [h]), if_neg h]; rfl
theorem pad_len (p : Nat) (ds : List UInt8) : p + 1 ≤ (padTo p ds).length := by unfold padTo; simp; omega
theorem wst_pointed (p : Nat) (s L : List UInt8) (h : p + 1 ≤ L.length) : wst p (s ++ pointed p L) = s ++ L := by
  unfold wst pointed
  by_cases hp : p = 0
  · rw [if_pos hp, if_pos (.inl hp)]
  · rw [if_neg hp]
    have len : (s ++ (L.take (L.length - p) ++ 46 :: L.drop (L.length - p))).length = s.length + L.length + 1 := by simp; omega
    rw [if_neg (by rw [len]; omega), len]
    have n : s.length + L.length + 1 - p - 1 = (s ++ L.take (L.length - p)).length := by simp; omega
    have m : s.length + L.length + 1 - p = ((s ++ L.take (L.length - p)) ++ [46]).length := by simp; omega
    have e1 : s ++ (L.take (L.length - p) ++ 46 :: L.drop (L.length - p)) = (s ++ L.take (L.length - p)) ++ (46 :: L.drop (L.length - p)) := by simp
    have e2 : s ++ (L.take (L.length - p) ++ 46 :: L.drop (L.length - p)) = ((s ++ L.take (L.length - p)) ++ [46]) ++ L.drop (L.length - p) := by simp
    rw [n, m]
    rw [show List.take (s ++ L.take (L.length - p)).length (s ++ (L.take (L.length - p) ++ 46 :: L.drop (L.length - p))) = s ++ L.take (L.length - p) by rw [e1, List.take_left]]
    rw [e2, List.drop_left, List.append_assoc, List.take_append_drop]
theorem pad_d (p : Nat) (u : Nat) : ∀ c ∈ padTo p (Lib.decDigits u), isD c := by
  intro c hc
  unfold padTo at hc
  rw [List.mem_append] at hc
  rcases hc with hc | hc
  · rw [(List.mem_replicate.1 hc).2]; exact ⟨by decide, by decide⟩
  · exact dec_d u c hc
theorem pu_pad (p u : Nat) (h : u < 18446744073709551616) : Lib.parseMag (padTo p (Lib.decDigits u)) = .ok u := by
  unfold Lib.parseMag
  rw [if_neg (by intro e; have := pad_len p (Lib.decDigits u); rw [e] at this; simp at this)]
  unfold padTo
  rw [pu_zero, pu_dec u h]
/-- A text without its stop is read as its number. -/
theorem atoi_back (v : Int) (hv : inR v) (p : Nat) : Lib.atoiAll (wst p (dtx v p)) = .ok v := by
  obtain ⟨b1, b2⟩ := absI_bd v hv
  obtain ⟨u, hu⟩ : ∃ u : Nat, absI v = u := ⟨(absI v).toNat, by omega⟩
  rw [dtx_eq, wst_pointed _ _ _ (pad_len _ _), hu, Int.toNat_natCast]
  have pm := pu_pad p u (by omega)
  by_cases h : v < 0
  · have e : v = -(u : Int) := by rw [absI_neg h] at hu; omega
    unfold sg; rw [if_pos h]
    simp only [List.cons_append, List.nil_append, Lib.atoiAll]
    rw [if_pos (by decide), pm]
    simp only
    rw [if_neg (by simp), if_neg (by omega), if_pos (by decide), e]
  · have e : v = (u : Int) := by rw [absI_pos h] at hu; omega
    unfold sg; rw [if_neg h, List.nil_append]
    obtain ⟨c, r, hL⟩ : ∃ c r, padTo p (Lib.decDigits u) = c :: r := by
      cases hq : padTo p (Lib.decDigits u) with
      | nil => have := pad_len p (Lib.decDigits u); rw [hq] at this; simp at this
      | cons c r => exact ⟨c, r, rfl⟩
    have hc := pad_d p u c (by rw [hL]; simp)
    unfold isD at hc
    rw [hL] at pm ⊢
    simp only [Lib.atoiAll]
    rw [if_neg (by omega), pm]
    simp only
    unfold inR at hv
    rw [if_neg (by omega), if_neg (by omega), if_neg (by omega), e]

theorem dtx_len (v : Int) (hv : inR v) (p : Nat) (hp : p ≤ 18) : (dtx v p).length ≤ 21 := by
  obtain ⟨b1, b2⟩ := absI_bd v hv
  have dl := dec_len 18 (absI v).toNat (by have : (10 : Nat) ^ 19 = 10000000000000000000 := by decide
                                           omega)
  rw [dtx_eq]
  have pl : (padTo p (Lib.decDigits (absI v).toNat)).length ≤ 19 := by unfold padTo; simp; omega
  have ql : (pointed p (padTo p (Lib.decDigits (absI v).toNat))).length ≤ 20 := by
    unfold pointed; split
    · omega
    · simp; omega
  have sl : (sg v).length ≤ 1 := by unfold sg; split <;> simp
  simp; omega
theorem wst_len (p : Nat) (l : List UInt8) : (wst p l).length ≤ l.length := by
  unfold wst; split
  · omega
  · simp; omega
/-- What Parse reads. -/
def prs (p : Nat) (l : List UInt8) : Option Int := match Lib.atoiAll (wst p l) with | .ok v => if dtx v p = l then some v else none | _ => none
theorem prs_back (v : Int) (hv : inR v) (p : Nat) : prs p (dtx v p) = some v := by unfold prs; rw [atoi_back v hv p]; simp
theorem prs_some {p : Nat} {l : List UInt8} {v : Int} (h : prs p l = some v) : dtx v p = l ∧ Lib.atoiAll (wst p l) = .ok v := by
  unfold prs at h
  split at h
  · rename_i v' hv'
    split at h
    · rename_i e; cases h; exact ⟨e, hv'⟩
    · cases h
  · cases h
end Go.Proofs.YtccjeipkljdhdaaGreatDoor

namespace Go.Proofs.YtccjeipkljdhdaaGreatDoor
open Go.RowKit
set_option linter.unusedVariables false
set_option linter.unusedSimpArgs false

/-- A text's lines from a place on. -/
def lfA (c : Int) : Bool := c != 10
def lnsL (s : ByteArray) (i : Nat) : List ByteArray :=
  if h : i < s.size then s.extract i (fy lfA s i) :: lnsL s (fy lfA s i + 1) else []
termination_by s.size - i
decreasing_by
  have a := fy_ge lfA s i
  omega
/-- A program as it is read. -/
structure Ap where
  ns : List ByteArray
  cs : List ByteArray
  pl : List Int
  hor : Int
  cells : Int
  slots : Int
  stack : Int
  days : List (Int × List In)
def Ap.zero : Ap := ⟨[], [], [], 0, 0, 0, 0, []⟩
/-- The lines' first words; the place of one. -/
def hdW : List ByteArray := [⟨#[110, 97, 109, 101, 115]⟩, ⟨#[99, 117, 114, 115]⟩, ⟨#[112, 111, 111, 108]⟩, ⟨#[104, 111, 114, 105, 122, 111, 110]⟩, ⟨#[99, 101, 108, 108, 115]⟩, ⟨#[115, 108, 111, 116, 115]⟩, ⟨#[115, 116, 97, 99, 107]⟩, ⟨#[100, 97, 121]⟩]
def hdA (k : Nat) : ByteArray := hdW.getD k ⟨#[]⟩
def hdI (s : ByteArray) : Nat := hdW.findIdx fun x => decide (x = s)
def optA (k : Nat) : Bool := decide (k < 3 ∨ k = 7)
/-- Whether a line may come. -/
def mayC (next line : Nat) : Bool := decide (next ≤ line) && (List.range line).all fun k => decide (k < next) || optA k
/-- Values, numbers. -/
def valW (w : ByteArray) : Option Int := prs 0 w.data.toList
def numW (w : ByteArray) : Option Int := (valW w).bind fun v => if 0 ≤ v then some v else none
def valsW : List ByteArray → Option (List Int)
  | [] => some []
  | w :: ws => match valW w with
    | none => none
    | some v => (valsW ws).map (v :: ·)
/-- A line of a list. -/
def apList (k : Nat) (ws : List ByteArray) (p : Ap) : Option Ap :=
  if ws = [] then none else
  if k = 0 then (if ws.all capP = true then some { p with ns := ws } else none) else
  if k = 1 then (if ws.all curP = true then some { p with cs := ws } else none) else
  (valsW ws).map fun l => { p with pl := l }
/-- A line of a number. -/
def apNum (k : Nat) (ws : List ByteArray) (p : Ap) : Option Ap :=
  match ws with
  | [w] => (numW w).map fun n =>
    if k = 3 then { p with hor := n } else if k = 4 then { p with cells := n } else if k = 5 then { p with slots := n } else if k = 6 then { p with stack := n } else { p with days := p.days ++ [(n, [])] }
  | _ => none
/-- The place of a thing in a list, if it is there. -/
def plcW {α : Type} [DecidableEq α] (l : List α) (x : α) : Option Int := if x ∈ l then some ((l.findIdx fun y => decide (y = x) : Nat) : Int) else none
/-- An instruction's first operand. -/
def opdW (p : Ap) (k : Nat) (w : ByteArray) : Option Int :=
  if k = 1 then (valW w).bind (plcW p.pl) else if k = 3 then plcW p.ns w else if k = 28 then plcW p.cs w else if k = 18 then plcW mdL w else numW w
/-- An instruction's words. -/
def insK (p : Ap) (k : Nat) (ws : List ByteArray) : Option In :=
  if ws.length = onA k then
    ((if onA k = 0 then some 0 else opdW p k (ws.getD 0 ⟨#[]⟩)).bind fun a =>
      (if onA k ≤ 1 then some 0 else numW (ws.getD 1 ⟨#[]⟩)).bind fun b =>
        if (In.mk k a b).okP then some (In.mk k a b) else none)
  else none
def insW (p : Ap) (w : ByteArray) (ws : List ByteArray) : Option In := (plcW nmL w).bind fun k => insK p k.toNat ws
def addI (days : List (Int × List In)) (i : In) : List (Int × List In) := match days.getLast? with
  | none => []
  | some d => days.dropLast ++ [(d.1, d.2 ++ [i])]
/-- A line that says something. -/
def apLine (st : Nat × Ap) (w : ByteArray) (ws : List ByteArray) : Option (Nat × Ap) :=
  if hdI w < 8 then
    (if mayC st.1 (hdI w) = true then ((if 3 ≤ hdI w then apNum (hdI w) ws st.2 else apList (hdI w) ws st.2).map fun p => (min (hdI w + 1) 7, p)) else none)
  else if st.2.days = [] then none else (insW st.2 w ws).map fun i => (st.1, { st.2 with days := addI st.2.days i })
/-- All lines: the program as far as it stands, or the number of the line that can't stand there. -/
def apAll : List ByteArray → Nat → Nat × Ap → Except Nat (Nat × (Nat × Ap))
  | [], n, st => .ok (n, st)
  | l :: ls, n, st => match wdsL l 0 with
    | [] => apAll ls (n + 1) st
    | w :: ws => match apLine st w ws with
      | none => .error (n + 1)
      | some st' => apAll ls (n + 1) st'
theorem mayC_end (next : Nat) (h : next ≤ 7) : mayC next 8 = decide (next = 7) := by
  match next, h with
  | 0, _ => decide
  | 1, _ => decide
  | 2, _ => decide
  | 3, _ => decide
  | 4, _ => decide
  | 5, _ => decide
  | 6, _ => decide
  | 7, _ => decide
end Go.Proofs.YtccjeipkljdhdaaGreatDoor
