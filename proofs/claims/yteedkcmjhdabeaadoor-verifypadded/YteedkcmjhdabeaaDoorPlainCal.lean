/-
  THE CALENDAR, AS PLAIN MATHEMATICS (own work): leap years, months' lengths, a date's number, and that a number has one date.
-/
import Derived.ProofKit
namespace Go.Proofs.YteedkcmjhdabeaaDoor.Cal

/-- 1 in a leap year, else 0. -/
def lp (y : Int) : Int := if y % 4 = 0 ∧ (¬ y % 100 = 0 ∨ y % 400 = 0) then 1 else 0
/-- A month's length (1 to 12). -/
def len (y m : Int) : Int := if m = 2 then 28 + lp y else if m = 4 ∨ m = 6 ∨ m = 9 ∨ m = 11 then 30 else 31
def exB (y m d : Int) : Bool := decide (1900 ≤ y ∧ y ≤ 2199 ∧ 1 ≤ m ∧ m ≤ 12 ∧ 1 ≤ d ∧ d ≤ len y m)
/-- The number of a year's first day. -/
def ys (y : Int) : Int := 365 * (y - 1900) + ((y - 1) / 4 - (y - 1) / 100 + (y - 1) / 400) - 460
/-- The days of a year ahead of a month. -/
def cum (y m : Int) : Int :=
  if m ≤ 1 then 0 else if m = 2 then 31 else (if m = 3 then 59 else if m = 4 then 90 else if m = 5 then 120 else if m = 6 then 151 else if m = 7 then 181 else if m = 8 then 212
    else if m = 9 then 243 else if m = 10 then 273 else if m = 11 then 304 else if m = 12 then 334 else 365) + lp y
def num (y m d : Int) : Int := ys y + cum y m + d - 1

theorem ex_mk {y m d : Int} (h : 1900 ≤ y ∧ y ≤ 2199 ∧ 1 ≤ m ∧ m ≤ 12 ∧ 1 ≤ d ∧ d ≤ len y m) : exB y m d = true := decide_eq_true h
theorem ex_out {y m d : Int} (h : exB y m d = true) : 1900 ≤ y ∧ y ≤ 2199 ∧ 1 ≤ m ∧ m ≤ 12 ∧ 1 ≤ d ∧ d ≤ len y m := of_decide_eq_true h
theorem ex_no {y m d : Int} (h : exB y m d = false) : ¬ (1900 ≤ y ∧ y ≤ 2199 ∧ 1 ≤ m ∧ m ≤ 12 ∧ 1 ≤ d ∧ d ≤ len y m) := of_decide_eq_false h
theorem lp_01 (y : Int) : 0 ≤ lp y ∧ lp y ≤ 1 := by unfold lp; split <;> omega
theorem len_bd (y m : Int) : 28 ≤ len y m ∧ len y m ≤ 31 := by
  have := lp_01 y
  unfold len; repeat' split
  all_goals omega
theorem ys_succ (y : Int) : ys (y + 1) = ys y + 365 + lp y := by
  unfold ys lp
  split <;> omega
theorem ys_mono {a b : Int} (h : a ≤ b) : ys a ≤ ys b := by unfold ys; omega
theorem ys_1900 : ys 1900 = 0 := by decide
theorem ys_2200 : ys 2200 = 109573 := by decide
theorem ys_bd (y : Int) (h0 : 1900 ≤ y) (h : y ≤ 2200) : 0 ≤ ys y ∧ ys y ≤ 109573 := by
  have := ys_mono h0; have := ys_mono h; rw [ys_1900] at *; rw [ys_2200] at *; omega
theorem ys_guess (n : Int) (h : 0 ≤ n) : ys (1900 + n / 366) ≤ n := by unfold ys; omega
theorem cum_succ (y m : Int) (h1 : 1 ≤ m) (h2 : m ≤ 12) : cum y (m + 1) = cum y m + len y m := by
  have hm : m = 1 ∨ m = 2 ∨ m = 3 ∨ m = 4 ∨ m = 5 ∨ m = 6 ∨ m = 7 ∨ m = 8 ∨ m = 9 ∨ m = 10 ∨ m = 11 ∨ m = 12 := by omega
  rcases hm with rfl | rfl | rfl | rfl | rfl | rfl | rfl | rfl | rfl | rfl | rfl | rfl <;> simp [cum, len] <;> omega
theorem cum_13 (y : Int) : cum y 13 = 365 + lp y := rfl
theorem cum_1 (y : Int) : cum y 1 = 0 := rfl
theorem cum_bd (y m : Int) : 0 ≤ cum y m ∧ cum y m ≤ 366 := by
  have := lp_01 y
  unfold cum; repeat' split
  all_goals omega
theorem cum_mono (y : Int) {a b : Int} (h1 : 1 ≤ a) (h : a ≤ b) (h2 : b ≤ 13) : cum y a ≤ cum y b := by
  obtain ⟨k, rfl⟩ : ∃ k : Nat, b = a + k := ⟨(b - a).toNat, by omega⟩
  clear h
  induction k with
  | zero => simp
  | succ k ih =>
    have c := cum_succ y (a + k) (by omega) (by omega)
    have l := len_bd y (a + k)
    have i := ih (by omega)
    have e : a + ((k + 1 : Nat) : Int) = a + k + 1 := by omega
    rw [e]; omega

theorem num_bd {y m d : Int} (h : exB y m d = true) : 0 ≤ num y m d ∧ num y m d ≤ 109572 ∧ ys y ≤ num y m d ∧ num y m d < ys (y + 1) := by
  obtain ⟨h1, h2, h3, h4, h5, h6⟩ := ex_out h
  have a := cum_succ y m h3 h4
  have b := cum_mono y (show 1 ≤ m + 1 by omega) (show m + 1 ≤ 13 by omega) (by omega)
  have c := cum_bd y m
  have d1 := ys_succ y
  have d2 := ys_mono (show y + 1 ≤ 2200 by omega)
  have d3 := ys_mono h1
  rw [cum_13] at b; rw [ys_2200] at d2; rw [ys_1900] at d3
  unfold num; omega

/-- A number has one date. -/
theorem num_inj {y m d y' m' d' : Int} (h : exB y m d = true) (h' : exB y' m' d' = true) (e : num y m d = num y' m' d') : y = y' ∧ m = m' ∧ d = d' := by
  have b := num_bd h; have b' := num_bd h'
  have hy : y = y' := by
    rcases Int.lt_trichotomy y y' with g | g | g
    · have := ys_mono (show y + 1 ≤ y' by omega); omega
    · exact g
    · have := ys_mono (show y' + 1 ≤ y by omega); omega
  subst hy
  obtain ⟨h1, h2, h3, h4, h5, h6⟩ := ex_out h
  obtain ⟨_, _, h3', h4', h5', h6'⟩ := ex_out h'
  have a := cum_succ y m h3 h4; have a' := cum_succ y m' h3' h4'
  have hm : m = m' := by
    rcases Int.lt_trichotomy m m' with g | g | g
    · have := cum_mono y (show 1 ≤ m + 1 by omega) (show m + 1 ≤ m' by omega) (by omega); unfold num at e; omega
    · exact g
    · have := cum_mono y (show 1 ≤ m' + 1 by omega) (show m' + 1 ≤ m by omega) (by omega); unfold num at e; omega
  subst hm
  exact ⟨rfl, rfl, by unfold num at e; omega⟩
theorem num_of (n y k : Int) : num y k (n - ys y - cum y k + 1) = n := by unfold num; omega
theorem ex_of (n y k : Int) (a : 1900 ≤ y) (b : y ≤ 2199) (c1 : 1 ≤ k) (c2 : k ≤ 12) (c : 0 ≤ n - ys y - cum y k) (d : n - ys y - cum y k < len y k) : exB y k (n - ys y - cum y k + 1) = true :=
  ex_mk ⟨a, b, c1, c2, by omega, by omega⟩

/-- A year's length, as the table of the months sums up. -/
theorem ys_of_lt {n y : Int} (h : ys y ≤ n) (hn : n < 109573) : y ≤ 2199 := by
  by_cases g : y ≤ 2199
  · exact g
  · have := ys_mono (show 2200 ≤ y by omega); rw [ys_2200] at this; omega
end Go.Proofs.YteedkcmjhdabeaaDoor.Cal
