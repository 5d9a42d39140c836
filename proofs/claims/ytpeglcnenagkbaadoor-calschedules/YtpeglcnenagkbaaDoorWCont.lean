/-
  WALKS: slices.Index and slices.Contains over ints; Business (the program's), its small helpers.
-/
import Derived.Test.YtpeglcnenagkbaaDoorRows
import Derived.WalkKit
import Derived.WalkSpells
import Derived.Below
import Derived.BigCall
import Derived.BigGuard
import Derived.BigQuiet
import Derived.Deep.QuietTactic
import Derived.Lib.Hide
namespace Go.Proofs.YtpeglcnenagkbaaDoor
open Go.RowKit
set_option linter.unusedVariables false
set_option linter.unusedSimpArgs false

theorem retC_int {k : IntKind} {a b : Int} (h : a = b) : Ending.returned (.int k a) = .returned (.int k b) := by rw [h]
theorem retC_bool {a b : Bool} (h : a = b) : Ending.returned (.bool a) = .returned (.bool b) := by rw [h]

/-- A list of ints, where the world holds it. -/
def Ls (w : World) (a : Option Addr) (n : Nat) (zs : List Int) : Prop :=
  zs.length = n ∧ n ≤ 140737488355328 ∧ (n = 0 ∨ ∃ b o, a = some ⟨b, o, none⟩ ∧ b < w.heap.size ∧ ∀ i, i < n → w.cell? ⟨b, o + i, none⟩ = some (.int .i64 (zs.getD i 0)))
theorem Ls.later {w w' : World} {a n zs} (h : Ls w a n zs) (b : Below w.heap.size w w') : Ls w' a n zs := by
  obtain ⟨h1, h2, h3⟩ := h
  refine ⟨h1, h2, ?_⟩
  rcases h3 with h3 | ⟨x, o, rfl, hx, hc⟩
  · exact .inl h3
  · exact .inr ⟨x, o, rfl, Nat.lt_of_lt_of_le hx b.size, fun i hi => by rw [b.cell (p := ⟨x, o + i, none⟩) hx]; exact hc i hi⟩

set_option maxHeartbeats 1000000 in
theorem index_any (a : Option Addr) (n cap : Nat) (zs : List Int) (x : Int) (w : World) (h : Ls w a n zs) :
    Calls Tryd.prog 50 #[.slice a n cap, .int .i64 x] w fun e w' => ∃ r : Int, e = .returned (.int .i64 r) ∧ (decide (0 ≤ r) = decide (x ∈ zs)) ∧ w' = w := by
  obtain ⟨h1, h2, h3⟩ := h
  rcases h3 with h3 | ⟨b, o, rfl, hb, hc⟩
  · subst h3
    have hz : zs = [] := List.length_eq_zero_iff.1 h1
    subst hz
    clear h1
    go_enter Tryd.func50, Tryd.ntmps50
    go_wp2
    go_loop [8] (fun t => t = .int .i64 0) (fun t => 0)
    case atStart => rfl
    case round =>
      subst hrel
      go_wp2
      go_ret
      exact ⟨-1, rfl, by simp, rfl⟩
  · have H1 := Lib.hid h1
    have HC := Lib.hid hc
    clear h1 hc
    go_enter Tryd.func50, Tryd.ntmps50
    go_wp2
    go_loop [8] (fun t => ∃ k : Nat, k ≤ n ∧ t = .int .i64 k ∧ RowKit.Hid (∀ j, j < k → zs.getD j 0 ≠ x)) (fun t => n - (intOf t).toNat)
    case atStart => exact ⟨0, Nat.zero_le _, rfl, fun j hj => absurd hj (by omega)⟩
    case round =>
      obtain ⟨k, hk, rfl, hN⟩ := hrel
      by_cases hlt : k < n
      · have hcell := HC.out k hlt
        have MEM := Lib.hid (p := zs.getD k 0 ∈ zs) (by
          have : k < zs.length := by rw [H1.out]; exact hlt
          rw [List.getD_eq_getElem?_getD, List.getElem?_eq_getElem this]; simp)
        generalize hz : zs.getD k 0 = z at *
        have HZ := Lib.hid hz
        clear hz
        by_cases hx : z = x
        · subst hx
          go_wp2
          go_ret
          exact ⟨k, rfl, by simp [MEM.out], rfl⟩
        · go_wp2
          go_round
          case rel => exact ⟨k + 1, by omega, by go_num, fun j hj => by
            rcases (show j < k ∨ j = k by omega) with g | g
            · exact hN.out j g
            · rw [g, HZ.out]; exact hx⟩
          case measure => simp [intOf]; omega
      · obtain rfl : k = n := by omega
        have NM : ¬ x ∈ zs := by
          intro hm
          obtain ⟨j, hj, he⟩ := List.getElem_of_mem hm
          refine hN.out j (by rw [← H1.out]; exact hj) ?_
          rw [List.getD_eq_getElem?_getD, List.getElem?_eq_getElem hj]; simpa using he
        have NN := Lib.hid NM
        clear NM
        go_wp2
        go_ret
        exact ⟨-1, rfl, by simp [NN.out], rfl⟩

theorem contains_any (a : Option Addr) (n cap : Nat) (zs : List Int) (x : Int) (w : World) (h : Ls w a n zs) :
    Calls Tryd.prog 30 #[.slice a n cap, .int .i64 x] w fun e w' => e = .returned (.bool (decide (x ∈ zs))) ∧ w' = w := by
  have HH := Lib.hid h
  clear h
  go_enter Tryd.func30, Tryd.ntmps30
  go_wp2_with (go_at_call 50; refine (index_any _ _ _ zs _ _ HH.out).mono ?_; rintro e w' ⟨r, rfl, hr, rfl⟩; have HR := Lib.hid hr; clear hr)
  go_ret
  exact ⟨retC_bool HR.out, rfl⟩

def inCb (n : Int) : Bool := decide (0 ≤ n ∧ n < 109573)
theorem inCal_any (n : Int) (w : World) :
    Calls Tryd.prog 28 #[.int .i64 n] w fun e w' => e = .returned (.bool (inCb n)) ∧ w' = w := by
  by_cases a : 0 ≤ n <;> by_cases b : n < 109573
  all_goals
    have e : inCb n = (decide (0 ≤ n) && decide (n < 109573)) := by simp [inCb, a, b]
    simp only [a, b] at e
    simp at e
    go_enter Tryd.func28, Tryd.ntmps28
    go_wp2
    go_ret
    exact ⟨retC_bool (by first | exact e.symm | rfl | simp [e, a, b]), rfl⟩
theorem wkday_any (n : Int) (w : World) (h0 : 0 ≤ n) : Calls Tryd.prog 29 #[.int .i64 n] w fun e w' => e = .returned (.int .i64 (n % 7)) ∧ w' = w := by
  go_enter Tryd.func29, Tryd.ntmps29
  go_wp2
  go_ret
  exact ⟨rfl, rfl⟩

/-- Is it a business day? -/
def busB (n : Int) (zs : List Int) : Bool := decide (0 ≤ n ∧ n < 109573 ∧ n % 7 < 5 ∧ ¬ n ∈ zs)

set_option maxHeartbeats 1000000 in
theorem business_any (a : Option Addr) (c cap : Nat) (zs : List Int) (n : Int) (w : World) (h : Ls w a c zs) :
    Calls Tryd.prog 9 #[.int .i64 n, .slice a c cap] w fun e w' => e = .returned (.bool (busB n zs)) ∧ w' = w := by
  have HH := Lib.hid h
  clear h
  by_cases g : 0 ≤ n ∧ n < 109573
  · have hi : inCb n = true := decide_eq_true g
    obtain ⟨g1, g2⟩ := g
    by_cases k : n % 7 < 5
    · have e : busB n zs = !decide (n ∈ zs) := by
        unfold busB; by_cases q : n ∈ zs <;> simp [q, g1, g2, k]
      rw [e]; clear e
      generalize hd : decide (n ∈ zs) = dd at *
      have HD := Lib.hid hd
      clear hd
      go_enter Tryd.func9, Tryd.ntmps9
      go_wp2_with (first
        | (go_at_call 28; refine (inCal_any _ _).mono ?_; rintro e w' ⟨rfl, rfl⟩; rw [hi])
        | (go_at_call 29; refine (wkday_any _ _ (by omega)).mono ?_; rintro e w' ⟨rfl, rfl⟩)
        | (go_at_call 30; refine (contains_any _ _ _ zs _ _ HH.out).mono ?_; rintro e w' ⟨rfl, rfl⟩; rw [HD.out]))
      go_ret
      exact ⟨rfl, rfl⟩
    · have e : busB n zs = false := by unfold busB; refine decide_eq_false ?_; omega
      have f : decide (n % 7 < 5) = false := by simpa using k
      rw [e]; clear e
      go_enter Tryd.func9, Tryd.ntmps9
      go_wp2_with (first
        | (go_at_call 28; refine (inCal_any _ _).mono ?_; rintro e w' ⟨rfl, rfl⟩; rw [hi])
        | (go_at_call 29; refine (wkday_any _ _ (by omega)).mono ?_; rintro e w' ⟨rfl, rfl⟩))
      go_ret
      exact ⟨rfl, rfl⟩
  · have hi : inCb n = false := decide_eq_false g
    have e : busB n zs = false := by unfold busB; refine decide_eq_false ?_; omega
    rw [e]; clear e g
    go_enter Tryd.func9, Tryd.ntmps9
    go_wp2_with (go_at_call 28; refine (inCal_any _ _).mono ?_; rintro e w' ⟨rfl, rfl⟩; rw [hi])
    go_ret
    exact ⟨rfl, rfl⟩
end Go.Proofs.YtpeglcnenagkbaaDoor
