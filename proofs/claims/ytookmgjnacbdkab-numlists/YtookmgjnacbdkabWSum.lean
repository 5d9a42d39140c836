/-
  WALK: num.Sum, by its contract.
-/
import Derived.Test.YtookmgjnacbdkabWForms
import Derived.RowKit3
import Derived.DataReads
namespace Go.Proofs.Ytookmgjnacbdkab
open Go.RowKit

/-- The first k numbers added up from the first on: the sum and the fault. -/
def sums (zs : List Int) : Nat → Int × Int
  | 0 => (0, 0)
  | k + 1 => if (sums zs k).2 = 0 then (fitV ((sums zs k).1 + zs.getD k 0), fitF ((sums zs k).1 + zs.getD k 0)) else (0, 1)
def sumV (zs : List Int) (k : Nat) : Int := (sums zs k).1
def sumF (zs : List Int) (k : Nat) : Int := (sums zs k).2
theorem sumV_zero (zs : List Int) : sumV zs 0 = 0 := rfl
theorem sumF_zero (zs : List Int) : sumF zs 0 = 0 := rfl
theorem sumV_succ {zs : List Int} {k : Nat} (h : sumF zs k = 0) : fitV (sumV zs k + zs.getD k 0) = sumV zs (k + 1) := by
  unfold sumV sumF at *; rw [sums, if_pos h]
theorem sumF_succ {zs : List Int} {k : Nat} (h : sumF zs k = 0) : fitF (sumV zs k + zs.getD k 0) = sumF zs (k + 1) := by
  unfold sumV sumF at *; rw [sums, if_pos h]
theorem sums_one (zs : List Int) (k : Nat) : sumF zs k = 0 ∨ (sumF zs k = 1 ∧ sumV zs k = 0) := by
  cases k with
  | zero => left; rfl
  | succ k =>
    unfold sumV sumF; rw [sums]
    split
    · unfold fitF fitV; split
      · left; rfl
      · right; exact ⟨rfl, rfl⟩
    · right; exact ⟨rfl, rfl⟩
theorem sums_stay {zs : List Int} {k m : Nat} (h : ¬ sumF zs k = 0) (hm : k ≤ m) : sumF zs m = 1 ∧ sumV zs m = 0 := by
  induction m with
  | zero => have : k = 0 := by omega
            subst this; exact absurd rfl h
  | succ m ih =>
    by_cases hk : k = m + 1
    · subst hk; exact (sums_one zs (m + 1)).resolve_left h
    · have := ih (by omega)
      have h2 : ¬ (sums zs m).2 = 0 := by unfold sumF at this; omega
      unfold sumV sumF; rw [sums, if_neg h2]; exact ⟨rfl, rfl⟩
theorem sumV_in (zs : List Int) (k : Nat) : inR (sumV zs k) := by
  cases k with
  | zero => rw [sumV_zero]; unfold inR; omega
  | succ k =>
    unfold sumV; rw [sums]; split
    · exact fitV_bd _
    · unfold inR; omega

theorem sum_zero (a : Option Addr) (cap : Nat) (w : World) :
    Calls Try.prog 8 #[.slice a 0 cap] w fun e w' => e = .returned (.tuple #[.int .i64 0, .int .i64 0]) ∧ w' = w := by
  go_enter Try.func8, Try.ntmps8
  go_wp2_with fail
  go_loop [4, 11] (fun s i => s = .int .i64 0 ∧ i = .int .i64 0) (fun _ _ => 0)
  case atStart => exact ⟨rfl, rfl⟩
  case round =>
    obtain ⟨rfl, rfl⟩ := hrel
    go_wp2_with fail
    go_ret2
    exact ⟨rfl, rfl⟩

theorem sum_any (b off len cap : Nat) (zs : List Int) (w : World) (hl : len ≤ maxLen)
    (hc : ∀ i, i < len → w.cell? ⟨b, off + i, none⟩ = some (.int .i64 (zs.getD i 0))) (hz : ∀ i, inR (zs.getD i 0)) :
    Calls Try.prog 8 #[.slice (some ⟨b, off, none⟩) len cap] w fun e w' => e = .returned (.tuple #[.int .i64 (sumV zs len), .int .i64 (sumF zs len)]) ∧ w' = w := by
  unfold maxLen at hl
  go_enter Try.func8, Try.ntmps8
  go_wp2_with fail
  go_loop [4, 11] (fun s i => ∃ k : Nat, k ≤ len ∧ sumF zs k = 0 ∧ s = .int .i64 (sumV zs k) ∧ i = .int .i64 k) (fun _ i => len - (intOf i).toNat)
  case atStart => exact ⟨0, Nat.zero_le _, rfl, by rw [sumV_zero], rfl⟩
  case round =>
    obtain ⟨k, hk, hf, rfl, rfl⟩ := hrel
    have hf' := veil hf
    by_cases hlt : k < len
    · have hcell := hc k hlt
      have hs := veil (sumV_succ hf)
      have ht := veil (sumF_succ hf)
      have hin := sumV_in zs k
      have hzk := hz k
      clear hc hz hf
      generalize zs.getD k 0 = z at *
      rcases sums_one zs (k + 1) with h1 | ⟨h1, h2⟩
      · have e1 : (sumF zs (k + 1) != 0) = false := by simp [h1]
        have H1 := veil h1
        clear h1
        go_wp2_with fail
        refine (add_any _ _ hin hzk _).mono ?_; rintro e w' ⟨rfl, rfl⟩
        rw [unveil hs, unveil ht]
        go_wp2_with fail
        go_round
        case rel => exact ⟨k + 1, by omega, unveil H1, rfl, by go_num⟩
        case measure => simp [intOf]; omega
      · have e1 : (sumF zs (k + 1) != 0) = true := by simp [h1]
        have hst := sums_stay (zs := zs) (k := k + 1) (m := len) (by omega) (by omega)
        have hfin := veil (show sumF zs (k + 1) = sumF zs len ∧ 0 = sumV zs len by omega)
        clear h1 h2 hst
        go_wp2_with fail
        refine (add_any _ _ hin hzk _).mono ?_; rintro e w' ⟨rfl, rfl⟩
        rw [unveil hs, unveil ht]
        go_wp2_with fail
        go_ret2
        exact ⟨ret_ii (unveil hfin).2 (unveil hfin).1, rfl⟩
    · have hkl : k = len := by omega
      subst hkl
      clear hc hz hf
      go_wp2_with fail
      go_ret2
      exact ⟨ret_ii rfl (unveil hf').symm, rfl⟩

/-- What is known of a slice of numbers that came in: nil, or a row of cells. -/
def RowIn (w : World) (a : Option Addr) (len cap : Nat) (zs : List Int) : Prop :=
  (a = none ∧ len = 0 ∧ cap = 0 ∧ zs = []) ∨
  ∃ x, a = some x ∧ len ≤ cap ∧ cap ≤ maxLen ∧ zs.length = cap ∧ (∀ i, i < zs.length → w.cell? (x.add i) = some (.int .i64 (zs.getD i 0))) ∧ ∀ n ∈ zs, (Lit.int .i64 n).wf = true

/-- It is empty; or its cells lie in one block. -/
theorem isRow_cells {w : World} {a : Option Addr} {len cap : Nat} {zs : List Int} (h : RowIn w a len cap zs) :
    len ≤ maxLen ∧ len ≤ cap ∧ (∀ i, inR (zs.getD i 0)) ∧ (len = 0 ∨ ∃ b off, a = some ⟨b, off, none⟩ ∧ b < w.heap.size ∧ ∀ i, i < len → w.cell? ⟨b, off + i, none⟩ = some (.int .i64 (zs.getD i 0))) := by
  rcases h with ⟨rfl, rfl, rfl, rfl⟩ | ⟨x, rfl, hl, hm, hz, hcell, hwz⟩
  · exact ⟨Nat.zero_le _, Nat.le_refl _, fun i => by simp [inR], Or.inl rfl⟩
  · refine ⟨Nat.le_trans hl hm, hl, fun i => ?_, ?_⟩
    · by_cases hi : i < zs.length
      · have e : zs.getD i 0 = zs[i] := by simp [hi]
        rw [e]; exact wf_inR (hwz _ (List.getElem_mem hi))
      · have e : zs.getD i 0 = 0 := by simp [List.getElem?_eq_none (Nat.le_of_not_lt hi)]
        rw [e]; unfold inR; omega
    · by_cases h0 : len = 0
      · exact Or.inl h0
      · obtain ⟨b, off, spot⟩ := x
        have hc := hcell 0 (by omega)
        have hspot : spot = none := by simpa [Addr.add] using World.cell?_spot hc
        subst hspot
        refine Or.inr ⟨b, off, rfl, ?_, fun i hi => ?_⟩
        · exact World.block_lt_of_cell? _ _ hc
        · have e : (⟨b, off, none⟩ : Addr).add i = ⟨b, off + i, none⟩ := by simp [Addr.add]
          rw [← e]; exact hcell i (by omega)

end Go.Proofs.Ytookmgjnacbdkab
