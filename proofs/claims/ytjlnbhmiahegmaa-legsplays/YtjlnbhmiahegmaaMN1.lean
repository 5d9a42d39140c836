/-
  PLAIN ARITHMETIC: numbers as lists of decimal digits, the lowest first. No Go in sight.
-/
import Derived.Test.YtjlnbhmiahegmaaPlainMul
import Derived.Test.YtjlnbhmiahegmaaRows
import Derived.WalkKit
import Derived.WalkSpells
import Derived.BigQuiet
import Derived.Test.YtjlnbhmiahegmaaWMul
import Derived.Outline
import Derived.Deep.RegionHeld3
namespace Go.Proofs.Ytjlnbhmiahegmaa
open Go.RowKit

/-- The number that a list of digits means. -/
def dval : List Int → Int
  | [] => 0
  | d :: ds => d + 10 * dval ds
def Digs (ds : List Int) : Prop := ∀ i, 0 ≤ ds.getD i 0 ∧ ds.getD i 0 ≤ 9
/-- No 0 at the end. -/
def Norm (ds : List Int) : Prop := ds.length = 0 ∨ ¬ ds.getD (ds.length - 1) 0 = 0

/-- The powers of ten, behind a name. -/
def ten (k : Nat) : Int := 10 ^ k
theorem ten_zero : ten 0 = 1 := rfl
theorem ten_succ (k : Nat) : ten (k + 1) = 10 * ten k := by unfold ten; rw [Int.pow_succ, Int.mul_comm]
theorem ten_pos (k : Nat) : 0 < ten k := Int.pow_pos (by decide)
theorem ten_add (a b : Nat) : ten (a + b) = ten a * ten b := Int.pow_add _ _ _
theorem ten_le {a b : Nat} (h : a ≤ b) : ten a ≤ ten b := by
  obtain ⟨c, rfl⟩ := Nat.exists_eq_add_of_le h
  have h1 := ten_pos c
  have h2 := ten_pos a
  rw [ten_add]
  have := Int.mul_le_mul_of_nonneg_left (show 1 ≤ ten c by omega) (show 0 ≤ ten a by omega)
  omega

theorem dval_append (a b : List Int) : dval (a ++ b) = dval a + ten a.length * dval b := by
  induction a with
  | nil => simp [dval, ten_zero]
  | cons d a ih =>
    rw [List.cons_append, dval, dval, ih, List.length_cons, ten_succ, Int.mul_add, ← Int.mul_assoc, Int.add_assoc]
theorem dval_snoc (a : List Int) (d : Int) : dval (a ++ [d]) = dval a + ten a.length * d := by
  rw [dval_append]; simp [dval]
theorem dval_take_succ (a : List Int) (k : Nat) : dval (a.take (k + 1)) = dval (a.take k) + ten k * a.getD k 0 := by
  by_cases h : k < a.length
  · rw [List.take_succ_eq_append_getElem h, dval_snoc, List.length_take, Nat.min_eq_left (by omega)]
    simp [h]
  · rw [List.take_of_length_le (by omega), List.take_of_length_le (by omega)]
    have : a.getD k 0 = 0 := by simp [List.getElem?_eq_none (Nat.le_of_not_lt h)]
    rw [this]; simp
theorem dval_take_all (a : List Int) (k : Nat) (h : a.length ≤ k) : dval (a.take k) = dval a := by rw [List.take_of_length_le h]
theorem dval_split (a : List Int) (k : Nat) (h : k ≤ a.length) : dval a = dval (a.take k) + ten k * dval (a.drop k) := by
  have := dval_append (a.take k) (a.drop k)
  rw [List.take_append_drop, List.length_take, Nat.min_eq_left h] at this
  exact this

theorem digs_nil : Digs [] := fun i => by simp
theorem digs_take {a : List Int} (h : Digs a) (k : Nat) : Digs (a.take k) := fun i => by
  by_cases hi : i < k
  · have := h i
    simp only [List.getD_eq_getElem?_getD, List.getElem?_take, if_pos hi] at *
    exact this
  · simp [List.getElem?_take, hi]
theorem digs_snoc {a : List Int} (h : Digs a) {d : Int} (h0 : 0 ≤ d) (h1 : d ≤ 9) : Digs (a ++ [d]) := fun i => by
  have := h i
  by_cases hi : i < a.length
  · simp only [List.getD_eq_getElem?_getD, List.getElem?_append_left hi] at *; exact this
  · by_cases hj : i = a.length
    · subst hj; simp [h0, h1]
    · have : (a ++ [d])[i]? = none := List.getElem?_eq_none (by simp; omega)
      simp [this]
theorem digs_cons {a : List Int} (h : Digs a) {d : Int} (h0 : 0 ≤ d) (h1 : d ≤ 9) : Digs (d :: a) := fun i => by
  cases i with
  | zero => simp [h0, h1]
  | succ i => simpa using h i
theorem digs_tail {a : List Int} {d : Int} (h : Digs (d :: a)) : Digs a := fun i => by simpa using h (i + 1)
theorem digs_set {a : List Int} (h : Digs a) (k : Nat) {d : Int} (h0 : 0 ≤ d) (h1 : d ≤ 9) : Digs (a.set k d) := fun i => by
  have := h i
  simp only [List.getD_eq_getElem?_getD, List.getElem?_set] at *
  split
  · split
    · simp [h0, h1]
    · simp
  · exact this
theorem digs_replicate (n : Nat) : Digs (List.replicate n 0) := fun i => by
  simp only [List.getD_eq_getElem?_getD, List.getElem?_replicate]; split <;> simp

theorem dval_bd : ∀ (a : List Int), Digs a → 0 ≤ dval a ∧ dval a < ten a.length
  | [], _ => by simp [dval, ten_zero]
  | d :: a, h => by
    obtain ⟨i1, i2⟩ := dval_bd a (digs_tail h)
    have h0 := h 0
    simp at h0
    rw [dval, List.length_cons, ten_succ]
    omega
theorem dval_replicate (n : Nat) : dval (List.replicate n 0) = 0 := by
  induction n with
  | zero => rfl
  | succ n ih => rw [List.replicate_succ, dval, ih]; rfl
theorem dval_set : ∀ (a : List Int) (k : Nat) (d : Int), k < a.length → dval (a.set k d) = dval a + ten k * (d - a.getD k 0)
  | [], k, d, h => by simp at h
  | x :: a, 0, d, h => by simp [dval, ten_zero]; omega
  | x :: a, k + 1, d, h => by
    rw [List.set_cons_succ, dval, dval, dval_set a k d (by simpa using h), ten_succ]
    have e : (x :: a).getD (k + 1) 0 = a.getD k 0 := by simp
    rw [e, Int.mul_add, Int.mul_assoc]; omega

/-- A number without a 0 at the end is at least as great as its first power. -/
theorem norm_le {a : List Int} (h : Digs a) (hn : Norm a) (h0 : 0 < a.length) : ten (a.length - 1) ≤ dval a := by
  have hl : ¬ a.getD (a.length - 1) 0 = 0 := hn.resolve_left (by omega)
  have hd := h (a.length - 1)
  have e := dval_split a (a.length - 1) (by omega)
  have e2 : a.drop (a.length - 1) = [a.getD (a.length - 1) 0] := by
    have hlt : a.length - 1 < a.length := by omega
    rw [List.drop_eq_getElem_cons hlt, List.drop_of_length_le (by omega)]
    simp [hlt]
  have h3 := dval_bd _ (digs_take h (a.length - 1))
  have h4 := ten_pos (a.length - 1)
  have h5 := Int.mul_le_mul_of_nonneg_left (show 1 ≤ a.getD (a.length - 1) 0 by omega) (show 0 ≤ ten (a.length - 1) by omega)
  rw [e, e2]; simp only [dval, Int.mul_zero, Int.add_zero]; omega
theorem norm_zero {a : List Int} (h : Digs a) (hn : Norm a) : dval a = 0 ↔ a.length = 0 := by
  constructor
  · intro hz
    by_cases h0 : 0 < a.length
    · have := norm_le h hn h0
      have := ten_pos (a.length - 1)
      omega
    · omega
  · intro hz; rw [List.eq_nil_of_length_eq_zero hz]; rfl
/-- More digits: the greater number. -/
theorem norm_longer {a b : List Int} (ha : Digs a) (hna : Norm a) (hb : Digs b) (h : b.length < a.length) : dval b < dval a := by
  have h1 := norm_le ha hna (by omega)
  have h2 := (dval_bd b hb).2
  have h3 := ten_le (show b.length ≤ a.length - 1 by omega)
  omega
/-- How many digits at most. -/
theorem norm_len {a : List Int} (h : Digs a) (hn : Norm a) {k : Nat} (hk : dval a < ten k) : a.length ≤ k := by
  refine Nat.le_of_not_lt fun hc => ?_
  have h1 := norm_le h hn (by omega)
  have h2 := ten_le (show k ≤ a.length - 1 by omega)
  omega
/-- Digits that are one above a place: the place decides. -/
theorem dig_decides {a b : List Int} (ha : Digs a) (hb : Digs b) (k : Nat) (hka : k < a.length) (hkb : k < b.length) (he : a.drop (k + 1) = b.drop (k + 1)) (hlt : b.getD k 0 < a.getD k 0) : dval b < dval a := by
  rw [dval_split a (k + 1) (by omega), dval_split b (k + 1) (by omega), he, dval_take_succ, dval_take_succ]
  have h1 := dval_bd _ (digs_take ha k)
  have h2 := dval_bd _ (digs_take hb k)
  rw [List.length_take, Nat.min_eq_left (by omega)] at h1 h2
  have h3 := Int.mul_le_mul_of_nonneg_left (show b.getD k 0 + 1 ≤ a.getD k 0 by omega) (show 0 ≤ ten k by have := ten_pos k; omega)
  rw [Int.mul_add] at h3
  omega

end Go.Proofs.Ytjlnbhmiahegmaa

namespace Go.Proofs.Ytjlnbhmiahegmaa
open Go.RowKit

/-- A value that reads as a list of digits. -/
def Dg (w : World) (v : Value) (ds : List Int) : Prop :=
  Digs ds ∧ ds.length ≤ 1000 ∧ ∃ ao cap, v = .slice ao ds.length cap ∧ ds.length ≤ cap ∧ (cap ≤ maxLen ∧ (ao = none → cap = 0)) ∧
    (ds.length = 0 ∨ ∃ b off, ao = some ⟨b, off, none⟩ ∧ b < w.heap.size ∧ ∀ i, i < ds.length → w.cell? ⟨b, off + i, none⟩ = some (.int .i64 (ds.getD i 0)))

theorem Dg.later {w w' : World} {v : Value} {ds : List Int} (h : Dg w v ds) (hb : Below w.heap.size w w') : Dg w' v ds := by
  obtain ⟨h1, h2, ao, cap, hv, hc, hm, hd⟩ := h
  refine ⟨h1, h2, ao, cap, hv, hc, hm, ?_⟩
  rcases hd with h0 | ⟨b, off, ha, hlt, hcell⟩
  · exact Or.inl h0
  · exact Or.inr ⟨b, off, ha, Nat.lt_of_lt_of_le hlt hb.size, fun i hi => (hb.cell (p := ⟨b, off + i, none⟩) hlt).trans (hcell i hi)⟩
/-- What is not empty lies in a block from B on. -/
def Fresh (B : Nat) (v : Value) : Prop := ∀ p n c, v = .slice (some p) n c → n ≠ 0 → B ≤ p.block
theorem Fresh.mono {B B' : Nat} {v : Value} (h : Fresh B v) (hB : B' ≤ B) : Fresh B' v := fun p n c e hn => Nat.le_trans hB (h p n c e hn)
theorem Fresh.cut {B : Nat} {ao : Option Addr} {n c k : Nat} (h : Fresh B (.slice ao n c)) (hk : k ≤ n) : Fresh B (.slice ao k c) := fun p m c' e hm => by
  injection e with e1 e2 e3
  subst e1 e2
  exact h p n c rfl (by omega)
/-- A store into a box leaves digits of other blocks alone. -/
theorem Dg.set {w : World} {v : Value} {ds : List Int} (h : Dg w v ds) {k j : Nat} {B : Nat} (hf : Fresh B v) (hk : k < B) (u : Value) : Dg (w.setCell ⟨k, j, none⟩ u) v ds := by
  obtain ⟨h1, h2, ao, cap, hv, hc, hm, hd⟩ := h
  refine ⟨h1, h2, ao, cap, hv, hc, hm, ?_⟩
  rcases hd with h0 | ⟨b, off, ha, hlt, hcell⟩
  · exact Or.inl h0
  · by_cases h0 : ds.length = 0
    · exact Or.inl h0
    · have hb := hf ⟨b, off, none⟩ ds.length cap (by rw [hv, ha]) h0
      refine Or.inr ⟨b, off, ha, by simpa using hlt, fun i hi => ?_⟩
      rw [World.cell?_setCell_other _ _ _ _ (by intro e; injection e with e1; simp at hb; omega)]
      exact hcell i hi
theorem below_nq {B : Nat} {a w : World} (h : Below B a w) (n : Nat) : Below B a (w.drewN n) := ⟨h.os, h.tape, h.output, h.size, h.block⟩
theorem Dg.draws {w : World} {v : Value} {ds : List Int} (h : Dg w v ds) (n : Nat) : Dg (w.drewN n) v ds := h

theorem at_any (v : Value) (ds : List Int) (i : Nat) (w : World) (hi : i ≤ 100000) (hd : Dg w v ds) :
    Calls Try.prog 83 #[v, .int .i64 i] w fun e w' => e = .returned (.int .i64 (ds.getD i 0)) ∧ w' = w := by
  obtain ⟨h1, h2, ao, cap, rfl, hc, hm, hr⟩ := hd
  by_cases hlt : i < ds.length
  · rcases hr with h0 | ⟨b, off, rfl, hb, hcell⟩
    · omega
    · have hx := hcell i hlt
      clear hcell h1
      generalize ds.getD i 0 = d at *
      go_enter Try.func83, Try.ntmps83
      go_wp2
      go_ret
      exact ⟨rfl, rfl⟩
  · have e : ds.getD i 0 = 0 := by simp [List.getElem?_eq_none (Nat.le_of_not_lt hlt)]
    rw [e]
    clear hr h1 e
    go_enter Try.func83, Try.ntmps83
    go_wp2
    go_ret
    exact ⟨rfl, rfl⟩

theorem at_keep (v : Value) (ds : List Int) (i : Nat) (w : World) (hi : i ≤ 100000) (hd : Dg w v ds) :
    Calls Try.prog 83 #[v, .int .i64 i] w fun e w' => e = .returned (.int .i64 (ds.getD i 0)) ∧ w = w' := by
  refine (at_any v ds i w hi hd).mono ?_
  rintro e w' ⟨rfl, rfl⟩
  exact ⟨rfl, rfl⟩

theorem trim_any (v : Value) (ds : List Int) (w : World) (hd : Dg w v ds) :
    Calls Try.prog 84 #[v] w fun e w' => ∃ v', e = .returned v' ∧ w' = w ∧ ∃ ds', Dg w v' ds' ∧ dval ds' = dval ds ∧ Norm ds' ∧ ds'.length ≤ ds.length ∧ ∀ B, Fresh B v → Fresh B v' := by
  obtain ⟨h1, h2, ao, cap, rfl, hc, hm, hr⟩ := hd
  have D : ∀ k, k ≤ ds.length → Dg w (.slice ao k cap) (ds.take k) := by
    intro k hk
    have hl : (ds.take k).length = k := by rw [List.length_take, Nat.min_eq_left hk]
    refine ⟨digs_take h1 k, by omega, ao, cap, by rw [hl], by omega, hm, ?_⟩
    rcases hr with h0 | ⟨b, off, ha, hb, hcell⟩
    · exact Or.inl (by omega)
    · refine Or.inr ⟨b, off, ha, hb, fun i hi => ?_⟩
      have e : (ds.take k).getD i 0 = ds.getD i 0 := by
        simp only [List.getD_eq_getElem?_getD, List.getElem?_take, if_pos (show i < k by omega)]
      rw [e]; exact hcell i (by omega)
  have N : ∀ k, k ≤ ds.length → (k = 0 ∨ ¬ ds.getD (k - 1) 0 = 0) → Norm (ds.take k) := by
    intro k hk hz
    have hl : (ds.take k).length = k := by rw [List.length_take, Nat.min_eq_left hk]
    unfold Norm
    rw [hl]
    rcases hz with h0 | h0
    · exact Or.inl h0
    · by_cases hk0 : k = 0
      · exact Or.inl hk0
      · right
        have e : (ds.take k).getD (k - 1) 0 = ds.getD (k - 1) 0 := by
          simp only [List.getD_eq_getElem?_getD, List.getElem?_take, if_pos (show k - 1 < k by omega)]
        rw [e]; exact h0
  have L : ∀ k, k ≤ ds.length → (ds.take k).length ≤ ds.length := fun k _ => by rw [List.length_take]; omega
  have D' := veil D
  have N' := veil N
  have L' := veil L
  have C : ∀ i, i < ds.length → ∃ b off, ao = some ⟨b, off, none⟩ ∧ w.cell? ⟨b, off + i, none⟩ = some (.int .i64 (ds.getD i 0)) := by
    intro i hi
    rcases hr with h0 | ⟨b, off, ha, hb, hcell⟩
    · omega
    · exact ⟨b, off, ha, hcell i hi⟩
  have C' := veil C
  have S' := veil (dval_take_succ ds)
  have T0 := veil (dval_take_all ds ds.length (Nat.le_refl _))
  clear D N L hr C h1
  generalize hn : ds.length = n at *
  have Hn := veil hn
  clear hn
  go_enter Try.func84, Try.ntmps84
  go_wp2_with fail
  go_loop [3] (fun a => ∃ k : Nat, k ≤ n ∧ a = .int .i64 k ∧ dval (ds.take k) = dval ds) (fun a => (intOf a).toNat)
  case atStart => exact ⟨n, Nat.le_refl _, rfl, unveil T0⟩
  case round =>
    obtain ⟨k, hk, rfl, hv⟩ := hrel
    have V := veil hv
    clear hv
    cases k with
    | zero =>
      have hg : decide ((0 : Int) < ((0 : Nat) : Int)) = false := by simp
      go_wp2_with fail
      go_ret
      exact ⟨_, rfl, rfl, _, unveil D' 0 (by omega), unveil V, unveil N' 0 (by omega) (Or.inl rfl), unveil L' 0 (by omega), fun B h => h.cut (by omega)⟩
    | succ m =>
      obtain ⟨b, off, rfl, hcell⟩ := unveil C' m (by omega)
      by_cases hz : ds.getD m 0 = 0
      · have Z := veil (show dval (ds.take m) = dval ds by have := unveil S' m; rw [hz, unveil V] at this; simp at this; exact this.symm)
        rw [hz] at hcell
        clear hz
        go_wp2_with fail
        go_round
        case rel => exact ⟨m, by omega, by go_num, unveil Z⟩
        case measure => simp [intOf]
      · have hz' : (ds.getD m 0 == 0) = false := by simpa using hz
        have NN := veil (unveil N' (m + 1) hk (Or.inr hz))
        clear hz
        generalize ds.getD m 0 = d at *
        go_wp2_with fail
        go_ret
        exact ⟨_, rfl, rfl, _, unveil D' (m + 1) hk, unveil V, unveil NN, unveil L' (m + 1) hk, fun B h => h.cut hk⟩

theorem above_any (va vb : Value) (a b : List Int) (w : World) (ha : Dg w va a) (hb : Dg w vb b) (na : Norm a) (nb : Norm b) :
    Calls Try.prog 80 #[va, vb] w fun e w' => e = .returned (.bool (decide (dval b < dval a))) ∧ ∃ n, w' = w.drewN n := by
  obtain ⟨a1, a2, ao, cap, rfl, ac, am, ar⟩ := ha
  obtain ⟨b1, b2, bo, cap', rfl, bc, bm, br⟩ := hb
  by_cases hl : a.length = b.length
  · have Q : ∀ k, k ≤ a.length → a.drop k = b.drop k → (k = 0 → decide (dval b < dval a) = false) ∧ (∀ m, k = m + 1 → (a.getD m 0 = b.getD m 0 → a.drop m = b.drop m) ∧
        (¬ a.getD m 0 = b.getD m 0 → decide (b.getD m 0 < a.getD m 0) = decide (dval b < dval a))) := by
      intro k hk he
      refine ⟨fun h0 => ?_, fun m hm => ⟨fun hd => ?_, fun hd => ?_⟩⟩
      · subst h0; simp at he; subst he; simp
      · subst hm
        rw [List.drop_eq_getElem_cons (show m < a.length by omega), List.drop_eq_getElem_cons (show m < b.length by omega), he]
        have e1 : a.getD m 0 = a[m] := by simp [show m < a.length by omega]
        have e2 : b.getD m 0 = b[m] := by simp [show m < b.length by omega]
        rw [← e1, ← e2, hd]
      · subst hm
        by_cases hlt : b.getD m 0 < a.getD m 0
        · have := dig_decides a1 b1 m (by omega) (by omega) he hlt
          rw [decide_eq_true hlt, decide_eq_true this]
        · have := dig_decides b1 a1 m (by omega) (by omega) he.symm (by omega)
          rw [decide_eq_false hlt, decide_eq_false (by omega)]
    have Q' := veil Q
    have CA : ∀ i, i < a.length → ∃ p off, ao = some ⟨p, off, none⟩ ∧ w.cell? ⟨p, off + i, none⟩ = some (.int .i64 (a.getD i 0)) := by
      intro i hi
      rcases ar with h0 | ⟨p, off, h1, h2, h3⟩
      · omega
      · exact ⟨p, off, h1, h3 i hi⟩
    have CB : ∀ i, i < a.length → ∃ p off, bo = some ⟨p, off, none⟩ ∧ w.cell? ⟨p, off + i, none⟩ = some (.int .i64 (b.getD i 0)) := by
      intro i hi
      rcases br with h0 | ⟨p, off, h1, h2, h3⟩
      · omega
      · exact ⟨p, off, h1, h3 i (by omega)⟩
    have CA' := veil CA
    have CB' := veil CB
    have D0 : a.drop a.length = b.drop a.length := by rw [List.drop_of_length_le (Nat.le_refl _), List.drop_of_length_le (by omega)]
    have D0' := veil D0
    rw [← hl] at bc b2 ⊢
    clear Q CA CB D0 ar br a1 b1 na nb hl bc
    generalize a.length = n at *
    generalize decide (dval b < dval a) = ans at *
    go_enter Try.func80, Try.ntmps80
    go_wp2_with fail
    go_loopw [5] (fun i wr => ∃ k : Nat, k ≤ n ∧ i = .int .i64 ((k : Int) - 1) ∧ a.drop k = b.drop k ∧ ∃ q, wr = w.drewN q) (fun i _ => (intOf i + 1).toNat)
    case atStart => exact ⟨n, Nat.le_refl _, rfl, unveil D0', 0, rfl⟩
    case round =>
      obtain ⟨k, hk, rfl, he, q, rfl⟩ := hrel
      have E := veil he
      clear he
      cases k with
      | zero =>
        have F := veil ((unveil Q' 0 (by omega) (unveil E)).1 rfl)
        go_wp2_with fail
        go_ret
        exact ⟨ret_b (unveil F).symm, q, rfl⟩
      | succ m =>
        obtain ⟨pa, oa, rfl, ca⟩ := unveil CA' m (by omega)
        obtain ⟨pb, ob, rfl, cb⟩ := unveil CB' m (by omega)
        have hm : (((m + 1 : Nat) : Int) - 1) = (m : Int) := by omega
        rw [hm]
        have QQ := (unveil Q' (m + 1) hk (unveil E)).2 m rfl
        by_cases hd : a.getD m 0 = b.getD m 0
        · have E2 := veil (QQ.1 hd)
          rw [← hd] at cb
          clear QQ hd hm
          generalize a.getD m 0 = d at *
          go_wp2_with fail
          go_quiet (fail)
          go_wp2_with fail
          go_roundw
          case rel => exact ⟨m, by omega, by go_num, unveil E2, _, rfl⟩
          case measure => simp [intOf]
        · have hne : (a.getD m 0 != b.getD m 0) = true := by simpa using hd
          have F := veil (QQ.2 hd)
          clear QQ hd hm
          generalize a.getD m 0 = da at *
          generalize b.getD m 0 = db at *
          go_wp2_with fail
          go_quiet (fail)
          go_wp2_with fail
          go_quiet (fail)
          go_wp2_with fail
          go_ret
          exact ⟨ret_b (unveil F), _, by rw [World.drewN_drewN, World.drewN_drewN]⟩
  · have hne : ((a.length : Int) != (b.length : Int)) = true := by simp; omega
    have F : decide (b.length < a.length) = decide (dval b < dval a) := by
      by_cases hlt : b.length < a.length
      · rw [decide_eq_true (by omega), decide_eq_true (norm_longer a1 na b1 hlt)]
      · have := norm_longer b1 nb a1 (by omega)
        rw [decide_eq_false (by omega), decide_eq_false (by omega)]
    have F' := veil F
    clear F ar br
    go_enter Try.func80, Try.ntmps80
    go_wp2_with fail
    go_ret
    exact ⟨ret_b (unveil F'), 0, rfl⟩

end Go.Proofs.Ytjlnbhmiahegmaa

namespace Go.Proofs.Ytjlnbhmiahegmaa
open Go.RowKit

theorem info3 : (Try.prog.info? 3).map (fun i => (i.zero, i.size, i.bytes)) = some (some (.int .i64 0), 1, 8) := by kernel_rfl

/-- What the call itself has gathered reads as digits. -/
theorem dg_of_own {w : World} {B : Nat} {v : Value} {ds : List Int} (h : w.ownsRow B 3 1 v ds.length (ds.map (Value.int .i64))) (hd : Digs ds) (hl : ds.length ≤ 1000) : Dg w v ds := by
  refine ⟨hd, hl, ?_⟩
  obtain ⟨_, h2⟩ := id h
  rcases h2 with ⟨rfl, h0⟩ | ⟨g, cap, cur, rfl, hb, hg, hc, hm, hs, ht⟩
  · exact ⟨none, 0, by rw [h0], by omega, ⟨by unfold maxLen; omega, fun _ => rfl⟩, Or.inl h0⟩
  · refine ⟨some ⟨g, 0, none⟩, cap, rfl, hc, ⟨hm, fun e => by cases e⟩, Or.inr ⟨g, 0, rfl, ?_, fun i hi => ?_⟩⟩
    · exact (h.lt g rfl).2
    · rw [Nat.zero_add, h.cellAt i (by omega)]
      simp [hi]

theorem fresh_of_own {w : World} {B n : Nat} {v : Value} {xs : List Value} (h : w.ownsRow B 3 1 v n xs) : Fresh B v := fun p m c e _ => by
  subst e
  exact (h.lt p.block rfl).1

/-- A digit more. -/
theorem own_snoc {w : World} {B : Nat} {v : Value} {ds : List Int} {d : Int} {n : Nat} (hn : ds.length = n) (h : w.ownsRow B 3 1 v (n + 1) (ds.map (Value.int .i64) ++ [.int .i64 d])) :
    w.ownsRow B 3 1 v (ds ++ [d]).length ((ds ++ [d]).map (Value.int .i64)) := by
  subst hn; simpa using h

/-- 'out = append(out, d)' of a list of digits that the call itself gathers. -/
theorem wp_digit {ops : Array Oper} {rest : List Oper} {o : Oper} {a : Act} {Q : Exit → Act → World → Prop} (w : World) (d : Int) (hgd : o.guard = none) (s x : Operand)
    (ho : o.op = .call { callee := .builtin .append, args := #[s, x], argTypes := #[26, 26] }) (base : Nat) (v : Value) (ds : List Int) (hs : a.eval s = v)
    (hx : a.eval x = .slice (some ⟨w.heap.size, 0, none⟩) 1 1) (hown : w.ownsRow base 3 1 v ds.length (ds.map (Value.int .i64))) (hl : ds.length ≤ 1000) (hb : base ≤ w.heap.size)
    (h : ∀ v' w', w'.ownsRow base 3 1 v' (ds ++ [d]).length ((ds ++ [d]).map (Value.int .i64)) → (w.alloc (.cells #[.int .i64 d] 3)).grownBy w' v.ownBlock → wpList Try.prog ops Q rest (a.put o.dst v') w') :
    wpList Try.prog ops Q (o :: rest) a (w.alloc (.cells #[.int .i64 d] 3)) := by
  obtain ⟨i0, hi, hz0, hz1, hz2⟩ := info_parts info3
  refine wpList_append_own _ hgd s x 26 ho base 3 i0 (.int .i64 0) 1 8 Try.underlying26 hi hz0 hz1 hz2 rfl (by decide) v _ _ hs (hown.alloc _) ⟨w.heap.size, 0, none⟩ 1 1 [.int .i64 d] hx rfl ?_ ?_ (by unfold maxLen; omega) (by omega) (by simp; omega) ?_
  · intro j u hj
    match j, hj with
    | 0, hj => simp at hj; subst hj; simp [Addr.add]
  · intro u hu; simp at hu; subst hu; rfl
  · intro v' w' h1 h2 _
    exact h v' w' (own_snoc rfl h1) h2

/-- One place of a sum. -/
theorem plus_step {a b ds : List Int} {k : Nat} {cc da db : Int} (hl : ds.length = k) (h : dval ds + ten k * cc = dval (a.take k) + dval (b.take k)) (ea : a.getD k 0 = da) (eb : b.getD k 0 = db) :
    dval (ds ++ [(da + db + cc) % 10]) + ten (k + 1) * ((da + db + cc) / 10) = dval (a.take (k + 1)) + dval (b.take (k + 1)) := by
  rw [dval_snoc, hl, dval_take_succ, dval_take_succ, ea, eb, ten_succ]
  have e1 : 10 * ten k * ((da + db + cc) / 10) = ten k * (10 * ((da + db + cc) / 10)) := by rw [Int.mul_comm 10, Int.mul_assoc]
  have e2 : ten k * ((da + db + cc) % 10) + ten k * (10 * ((da + db + cc) / 10)) = ten k * (da + db + cc) := by
    rw [← Int.mul_add]; congr 1; omega
  have e3 : ten k * (da + db + cc) = ten k * da + ten k * db + ten k * cc := by rw [Int.mul_add, Int.mul_add]
  omega

set_option maxHeartbeats 800000 in
theorem plus_any (va vb : Value) (a b : List Int) (w : World) (ha : Dg w va a) (hb : Dg w vb b) (M : Nat) (la : a.length ≤ M) (lb : b.length ≤ M) (hM : M ≤ 400) :
    Calls Try.prog 79 #[va, vb] w fun e w' => ∃ v, e = .returned v ∧ Below w.heap.size w w' ∧ ∃ ds, Dg w' v ds ∧ dval ds = dval a + dval b ∧ Norm ds ∧ Fresh w.heap.size v := by
  obtain ⟨i0, hi, hz0, hz1, hz2⟩ := info_parts info3
  have HA := veil ha
  have HB := veil hb
  obtain ⟨a1, a2, ao, cap, rfl, ac, am, ar⟩ := ha
  obtain ⟨b1, b2, bo, cap', rfl, bc, bm, br⟩ := hb
  have A1 := veil a1
  have B1 := veil b1
  have TA := veil (fun k h => dval_take_all a k h)
  have TB := veil (fun k h => dval_take_all b k h)
  clear ar br a1 b1 ac bc a2 b2
  go_enter Try.func79, Try.ntmps79
  go_wp2_with fail
  go_loopw [5, 6, 7] (fun o c i wr => ∃ k : Nat, k ≤ M + 1 ∧ i = .int .i64 k ∧ ∃ (cc : Int) (ds : List Int), c = .int .i64 cc ∧ 0 ≤ cc ∧ cc ≤ 1 ∧ ds.length = k ∧ Digs ds ∧ dval ds + ten k * cc = dval (a.take k) + dval (b.take k) ∧ (k = M + 1 → cc = 0) ∧
      wr.ownsRow w.heap.size 3 1 o ds.length (ds.map (Value.int .i64)) ∧ Below w.heap.size w wr) (fun _ _ i _ => M + 1 - (intOf i).toNat)
  case atStart => exact ⟨0, by omega, rfl, 0, [], rfl, by omega, by omega, rfl, digs_nil, by simp [dval], fun _ => rfl, World.ownsRow_nil _ _ _ _, Below.refl _ _⟩
  case round =>
    obtain ⟨k, hk, rfl, cc, ds, rfl, c0, c1, hlen0, hdig0, hval0, htop0, hown, hbel⟩ := hrel
    have hdig := veil hdig0
    have hval := veil hval0
    have htop := veil htop0
    have CA := veil (at_keep _ a k wr (by omega) ((unveil HA).later hbel))
    have CB := veil (at_keep _ b k wr (by omega) ((unveil HB).later hbel))
    have ba := unveil A1 k
    have bb := unveil B1 k
    have V := veil (plus_step hlen0 hval0 rfl rfl)
    have EA := veil (fun (h : ¬ k < a.length) => show a.getD k 0 = 0 by simp [List.getElem?_eq_none (Nat.le_of_not_lt h)])
    have EB := veil (fun (h : ¬ k < b.length) => show b.getD k 0 = 0 by simp [List.getElem?_eq_none (Nat.le_of_not_lt h)])
    have hlen := veil hlen0
    have hl : ds.length ≤ k := by omega
    clear hdig0 hval0 htop0 hlen0
    generalize a.getD k 0 = da at *
    generalize b.getD k 0 = db at *
    obtain ⟨ba1, ba2⟩ := ba
    obtain ⟨bb1, bb2⟩ := bb
    by_cases h1 : k < a.length
    · go_wp2_with fail
      refine (unveil CA).mono ?_; rintro e w' ⟨rfl, rfl⟩
      go_wp2_with fail
      refine (unveil CB).mono ?_; rintro e w' ⟨rfl, rfl⟩
      go_wp2_with (at_builtin; refine wpList_append_own _ rfl _ _ 26 rfl w.heap.size 3 i0 (.int .i64 0) 1 8 Try.underlying26 hi hz0 hz1 hz2 rfl (by decide) _ _ _ rfl (hown.alloc _) ⟨wr.heap.size, 0, none⟩ 1 1 [.int .i64 ((da + db + cc) % 10)] rfl rfl ?c1 ?c2 ?c3 ?c4 ?c5 ?_)
      case c1 =>
        intro j u hj
        match j, hj with
        | 0, hj => simp at hj; subst hj; simp [Addr.add]
      case c2 => intro u hu; simp at hu; subst hu; rfl
      case c3 => unfold maxLen; omega
      case c4 => omega
      case c5 => have := hbel.size; simp; omega
      intro v' w1 hown' hgrow _
      have R1 := veil (own_snoc rfl hown')
      have R2 := veil (((hbel.alloc hbel.size _).grown hgrow (by have := hbel.size; simp; omega) (fun k e => (hown.lt k e).1)))
      clear hown' hgrow hown hbel
      go_wp2_with fail
      go_roundw
      case rel => exact ⟨k + 1, by omega, by go_num, _, _, rfl, by omega, by omega, by simp [unveil hlen], digs_snoc (unveil hdig) (by omega) (by omega), unveil V, by omega, unveil R1, unveil R2⟩
      case measure => simp [intOf]; omega
    have h1' : decide ((k : Int) < (a.length : Int)) = false := by simp; omega
    by_cases h2 : k < b.length
    · go_wp2_with fail
      refine (unveil CA).mono ?_; rintro e w' ⟨rfl, rfl⟩
      go_wp2_with fail
      refine (unveil CB).mono ?_; rintro e w' ⟨rfl, rfl⟩
      go_wp2_with (at_builtin; refine wpList_append_own _ rfl _ _ 26 rfl w.heap.size 3 i0 (.int .i64 0) 1 8 Try.underlying26 hi hz0 hz1 hz2 rfl (by decide) _ _ _ rfl (hown.alloc _) ⟨wr.heap.size, 0, none⟩ 1 1 [.int .i64 ((da + db + cc) % 10)] rfl rfl ?c1 ?c2 ?c3 ?c4 ?c5 ?_)
      case c1 =>
        intro j u hj
        match j, hj with
        | 0, hj => simp at hj; subst hj; simp [Addr.add]
      case c2 => intro u hu; simp at hu; subst hu; rfl
      case c3 => unfold maxLen; omega
      case c4 => omega
      case c5 => have := hbel.size; simp; omega
      intro v' w1 hown' hgrow _
      have R1 := veil (own_snoc rfl hown')
      have R2 := veil (((hbel.alloc hbel.size _).grown hgrow (by have := hbel.size; simp; omega) (fun k e => (hown.lt k e).1)))
      clear hown' hgrow hown hbel
      go_wp2_with fail
      go_roundw
      case rel => exact ⟨k + 1, by omega, by go_num, _, _, rfl, by omega, by omega, by simp [unveil hlen], digs_snoc (unveil hdig) (by omega) (by omega), unveil V, by omega, unveil R1, unveil R2⟩
      case measure => simp [intOf]; omega
    have h2' : decide ((k : Int) < (b.length : Int)) = false := by simp; omega
    have za : da ≤ 0 := by have := unveil EA h1; omega
    have zb : db ≤ 0 := by have := unveil EB h2; omega
    by_cases h3 : 0 < cc
    · have hkM : k ≤ M := by
        have := unveil htop
        omega
      go_wp2_with fail
      refine (unveil CA).mono ?_; rintro e w' ⟨rfl, rfl⟩
      go_wp2_with fail
      refine (unveil CB).mono ?_; rintro e w' ⟨rfl, rfl⟩
      go_wp2_with (at_builtin; refine wpList_append_own _ rfl _ _ 26 rfl w.heap.size 3 i0 (.int .i64 0) 1 8 Try.underlying26 hi hz0 hz1 hz2 rfl (by decide) _ _ _ rfl (hown.alloc _) ⟨wr.heap.size, 0, none⟩ 1 1 [.int .i64 ((da + db + cc) % 10)] rfl rfl ?c1 ?c2 ?c3 ?c4 ?c5 ?_)
      case c1 =>
        intro j u hj
        match j, hj with
        | 0, hj => simp at hj; subst hj; simp [Addr.add]
      case c2 => intro u hu; simp at hu; subst hu; rfl
      case c3 => unfold maxLen; omega
      case c4 => omega
      case c5 => have := hbel.size; simp; omega
      intro v' w1 hown' hgrow _
      have R1 := veil (own_snoc rfl hown')
      have R2 := veil (((hbel.alloc hbel.size _).grown hgrow (by have := hbel.size; simp; omega) (fun k e => (hown.lt k e).1)))
      clear hown' hgrow hown hbel
      go_wp2_with fail
      go_roundw
      case rel => exact ⟨k + 1, by omega, by go_num, _, _, rfl, by omega, by omega, by simp [unveil hlen], digs_snoc (unveil hdig) (by omega) (by omega), unveil V, by omega, unveil R1, unveil R2⟩
      case measure => simp [intOf]; omega
    · have h3' : decide (0 < cc) = false := by simp; omega
      have hc : cc = 0 := by omega
      have F := veil (show dval ds = dval a + dval b by
        have := unveil hval
        rw [hc, unveil TA k (by omega), unveil TB k (by omega)] at this
        simpa using this)
      clear hc V
      go_wp2_with fail
      refine (trim_any _ ds wr (dg_of_own hown (unveil hdig) (by omega))).mono ?_
      have FR := veil (fresh_of_own hown)
      rintro e w' ⟨v, rfl, rfl, dt, d1, d2, d3, d4, d5⟩
      go_wp2_with fail
      go_ret
      exact ⟨_, rfl, hbel, dt, d1, d2.trans (unveil F), d3, d5 _ (unveil FR)⟩

end Go.Proofs.Ytjlnbhmiahegmaa

namespace Go.Proofs.Ytjlnbhmiahegmaa
open Go.RowKit

/-- A value that reads as a whole number: sign and digits. -/
def BigR (w : World) (x : Value) (z : Int) : Prop := ∃ o, x = .agg #[.bool (decide (z < 0)), o] ∧ ∃ ds, Dg w o ds ∧ Norm ds ∧ dval ds = absI z
theorem BigR.later {w w' : World} {x : Value} {z : Int} (h : BigR w x z) (hb : Below w.heap.size w w') : BigR w' x z := by
  obtain ⟨o, hx, ds, h1, h2, h3⟩ := h
  exact ⟨o, hx, ds, h1.later hb, h2, h3⟩

theorem tdm (v : Int) : 10 * v.tdiv 10 + v.tmod 10 = v ∧ (0 ≤ v → 0 ≤ v.tmod 10 ∧ 0 ≤ v.tdiv 10) ∧ (v ≤ 0 → v.tmod 10 ≤ 0 ∧ v.tdiv 10 ≤ 0) ∧ -9 ≤ v.tmod 10 ∧ v.tmod 10 ≤ 9 := by
  have e := Int.mul_tdiv_add_tmod v 10
  have h1 : (v.tmod 10).natAbs = v.natAbs % 10 := Int.natAbs_tmod v 10
  have p1 : 0 ≤ v → 0 ≤ v.tmod 10 := fun h => Int.tmod_nonneg 10 h
  have p2 : 0 ≤ v → 0 ≤ v.tdiv 10 := fun h => Int.tdiv_nonneg h (by omega)
  have n1 : v ≤ 0 → v.tmod 10 ≤ 0 := fun h => by
    have h2 := Int.neg_tmod (-v) 10
    rw [Int.neg_neg] at h2
    have h3 := Int.tmod_nonneg 10 (show 0 ≤ -v by omega)
    omega
  refine ⟨e, fun h => ⟨p1 h, p2 h⟩, fun h => ⟨n1 h, ?_⟩, by omega, by omega⟩
  have := n1 h
  omega
/-- One digit of a number. -/
theorem from_step {v0 v d : Int} {ds : List Int} {k : Nat} (hl : ds.length = k) (h : dval ds + ten k * absI v = absI v0) (hd : d = absI (v.tmod 10)) :
    dval (ds ++ [d]) + ten (k + 1) * absI (v.tdiv 10) = absI v0 := by
  rw [dval_snoc, hl, ten_succ, hd]
  have e1 : absI (v.tmod 10) + 10 * absI (v.tdiv 10) = absI v := by
    obtain ⟨t1, t2, t3, t4, t5⟩ := tdm v
    unfold absI; omega
  have e2 : 10 * ten k * absI (v.tdiv 10) = ten k * (10 * absI (v.tdiv 10)) := by rw [Int.mul_comm 10, Int.mul_assoc]
  have e3 : ten k * absI (v.tmod 10) + ten k * (10 * absI (v.tdiv 10)) = ten k * absI v := by rw [← Int.mul_add, e1]
  omega
theorem ten19 : ten 19 = 10000000000000000000 := by decide
theorem from_len {v0 v : Int} {ds : List Int} {k : Nat} (hd : Digs ds) (h : dval ds + ten k * absI v = absI v0) (hv : ¬ v = 0) (h0 : inR v0) : k ≤ 18 := by
  have h1 := (dval_bd ds hd).1
  have h2 := (absI_bd v0 h0).2
  have h3 : 0 < absI v := by unfold absI; split <;> omega
  have h4 := ten_pos k
  refine Nat.le_of_not_lt fun hc => ?_
  have h5 := ten_le (show 19 ≤ k by omega)
  rw [ten19] at h5
  have h6 := Int.mul_le_mul_of_nonneg_left (show 1 ≤ absI v by omega) (show 0 ≤ ten k by omega)
  omega
theorem from_norm {v : Int} {ds : List Int} (h : v.tdiv 10 = 0) (hv : ¬ v = 0) : Norm (ds ++ [absI (v.tmod 10)]) := by
  right
  obtain ⟨t1, t2, t3, t4, t5⟩ := tdm v
  simp
  unfold absI; omega


/-- The two boxes that From lays: its result's and b's. -/
structure FBox (w wr : World) (neg : Bool) (o : Value) : Prop where
  size : w.heap.size + 2 ≤ wr.heap.size
  r0 : wr.cell? ⟨w.heap.size, 0, none⟩ = some (.bool false)
  r1 : wr.cell? ⟨w.heap.size, 1, none⟩ = some (.slice none 0 0)
  b0 : wr.cell? ⟨w.heap.size + 1, 0, none⟩ = some (.bool neg)
  b1 : wr.cell? ⟨w.heap.size + 1, 1, none⟩ = some o
  q0 : wr.frozen? ⟨w.heap.size, 0, none⟩ = false
  q1 : wr.frozen? ⟨w.heap.size, 1, none⟩ = false
  p1 : wr.frozen? ⟨w.heap.size + 1, 1, none⟩ = false
  bel : Below w.heap.size w wr

theorem FBox.grow {w wr w1 : World} {neg : Bool} {o : Value} {ob : Obj} (F : FBox w wr neg o) (hrow : ∀ k, o.ownBlock = some k → w.heap.size + 2 ≤ k) (hg : (wr.alloc ob).grownBy w1 o.ownBlock) : FBox w w1 neg o := by
  obtain ⟨s, r0, r1, b0, b1, q0, q1, p1, bel⟩ := F
  have hs : (wr.alloc ob).heap.size = wr.heap.size + 1 := by simp
  have hb : ∀ k, k < w.heap.size + 2 → w1.heap[k]? = wr.heap[k]? := fun k hk => by
    refine (hg.block k (by omega) (fun e => ?_)).trans (Below.heap_alloc wr ob k (by omega))
    have := hrow k e.symm
    omega
  have c : ∀ k j, k < w.heap.size + 2 → w1.cell? ⟨k, j, none⟩ = wr.cell? ⟨k, j, none⟩ := fun k j hk => World.cell?_of_block (a := ⟨k, j, none⟩) (hb k hk)
  have f : ∀ k j, k < w.heap.size + 2 → w1.frozen? ⟨k, j, none⟩ = wr.frozen? ⟨k, j, none⟩ := fun k j hk => World.frozen?_of_block (a := ⟨k, j, none⟩) (hb k hk)
  refine ⟨by have := hg.size; omega, (c _ _ (by omega)).trans r0, (c _ _ (by omega)).trans r1, (c _ _ (by omega)).trans b0, (c _ _ (by omega)).trans b1, (f _ _ (by omega)).trans q0, (f _ _ (by omega)).trans q1, (f _ _ (by omega)).trans p1, ?_⟩
  exact (bel.alloc (by omega) ob).grown hg (by omega) (fun k e => by have := hrow k e; omega)
theorem FBox.store {w wr : World} {neg : Bool} {o : Value} (F : FBox w wr neg o) (v : Value) : FBox w (wr.setCell ⟨w.heap.size + 1, 1, none⟩ v) neg v := by
  obtain ⟨s, r0, r1, b0, b1, q0, q1, p1, bel⟩ := F
  refine ⟨by simpa using s, ?_, ?_, ?_, World.cell?_setCell_same _ _ _ b1, by simpa using q0, by simpa using q1, by simpa using p1, bel.setCell (by simp) v⟩
  · rw [World.cell?_setCell_other _ _ _ _ (by simp)]; exact r0
  · rw [World.cell?_setCell_other _ _ _ _ (by simp)]; exact r1
  · rw [World.cell?_setCell_other _ _ _ _ (by simp)]; exact b0

/-- What holds of a round's numbers. -/
structure FNum (v0 x : Int) (ds : List Int) : Prop where
  inr : inR x
  val : dval ds + ten ds.length * absI x = absI v0
  dig : Digs ds
  norm : x = 0 → Norm ds
  len : ds.length ≤ 19
theorem FNum.next {v0 x : Int} {ds : List Int} (h0 : inR v0) (F : FNum v0 x ds) (hx : ¬ x = 0) : FNum v0 (x.tdiv 10) (ds ++ [absI (x.tmod 10)]) := by
  obtain ⟨inr, val, dig, norm, len⟩ := F
  have hk := from_len dig val hx h0
  obtain ⟨t1, t2, t3, t4, t5⟩ := tdm x
  refine ⟨by unfold inR at *; omega, ?_, digs_snoc dig (absI_nonneg _) (by unfold absI; split <;> omega), fun h => from_norm h hx, by simp; omega⟩
  have := from_step rfl val rfl
  rw [List.length_append]; exact this
theorem FNum.len19 {v0 x : Int} {ds : List Int} (F : FNum v0 x ds) : ds.length ≤ 1000 := by have := F.len; omega
theorem FNum.less (x : Int) (hx : ¬ x = 0) : (x.tdiv 10).toNat + (-(x.tdiv 10)).toNat < x.toNat + (-x).toNat := by
  obtain ⟨t1, t2, t3, t4, t5⟩ := tdm x
  omega

set_option maxHeartbeats 800000 in
theorem from_any (v0 : Int) (h0 : inR v0) (w : World) :
    Calls Try.prog 58 #[.int .i64 v0] w fun e w' => ∃ x, e = .returned x ∧ Below w.heap.size w w' ∧ BigR w' x v0 := by
  obtain ⟨i0, hi, hz0, hz1, hz2⟩ := info_parts info3
  have H0 := veil h0
  generalize hneg : decide (v0 < 0) = neg
  have HN := veil hneg
  go_enter Try.func58, Try.ntmps58
  go_wp2_with fail
  clear hneg
  go_loopw [0] (fun v wr => ∃ (x : Int) (o : Value) (ds : List Int), v = .int .i64 x ∧ FNum v0 x ds ∧ FBox w wr neg o ∧ wr.ownsRow (w.heap.size + 2) 3 1 o ds.length (ds.map (Value.int .i64))) (fun v _ => (intOf v).toNat + (-(intOf v)).toNat)
  case atStart =>
    refine ⟨v0, .slice none 0 0, [], rfl, ⟨h0, by simp [dval, ten_zero], digs_nil, fun _ => Or.inl rfl, by simp⟩, ?_, World.ownsRow_nil _ _ _ _⟩
    exact ⟨by simp, by simp [go_sem], by simp [go_sem], by simp [go_sem], by simp [go_sem], by simp [go_sem], by simp [go_sem], by simp [go_sem], ((Below.refl _ _).alloc (Nat.le_refl _) _).alloc (by simp) _⟩
  case round =>
    obtain ⟨x, o, ds, rfl, hF0, hB0, hown⟩ := hrel
    have hF := veil hF0
    have hB := veil hB0
    have hsz := hB0.size
    have b0 := hB0.b0
    have b1 := hB0.b1
    obtain ⟨xl, xu⟩ := hF0.inr
    have hl := hF0.len
    have hdg := dg_of_own hown hF0.dig (by omega)
    have DG := veil hdg
    obtain ⟨_, _, ao, cap, rfl, _⟩ := hdg
    clear hF0 hB0
    by_cases hx : x = 0
    · subst hx
      have r0 := (unveil hB).r0
      have r1 := (unveil hB).r1
      have q0 := (unveil hB).q0
      have q1 := (unveil hB).q1
      go_wp2_with fail
      refine bodyPost_ret (v := .agg #[.bool neg, .slice ao ds.length cap]) (by simp [results, Try.results58, go_sem, r0, r1]) rfl ?_
      have bel := (unveil hB).bel
      have own2 := ownsRow_setCell_below (ownsRow_setCell_below hown (a := ⟨w.heap.size, 0, none⟩) (by simp) (.bool neg)) (a := ⟨w.heap.size, 1, none⟩) (by simp) (.slice ao ds.length cap)
      refine ⟨_, rfl, (bel.setCell (by simp) _).setCell (by simp) _, _, by rw [unveil HN], ds, dg_of_own own2 (unveil hF).dig (by omega), (unveil hF).norm rfl, ?_⟩
      have := (unveil hF).val
      simpa [absI] using this
    · have hx' : (x != 0) = true := by simpa using hx
      have N := veil ((unveil hF).next (unveil H0) hx)
      have M := veil (FNum.less x hx)
      have p1 := (unveil hB).p1
      have hrow := veil (fun k e => (hown.lt k e).1)
      obtain ⟨t1, t2, t3, t4, t5⟩ := tdm x
      have u1 : -922337203685477581 ≤ x.tdiv 10 := by omega
      have u2 : x.tdiv 10 ≤ 922337203685477581 := by omega
      clear t1 t2 t3 hx
      generalize hq : x.tdiv 10 = q at *
      generalize hr : x.tmod 10 = r at *
      by_cases hk : r < 0
      · rw [absI_neg hk] at N
        go_wp2_with (at_builtin; refine wp_digit wr (-r) rfl _ _ rfl (w.heap.size + 2) _ ds rfl rfl hown (by omega) (by omega) ?_; intro v' w1 R0 hgrow; have B1 := (unveil hB).grow (unveil hrow) hgrow; obtain ⟨_, _, ao', cap', hv', _⟩ := id (dg_of_own R0 (unveil N).dig (unveil N).len19); rw [List.length_append, List.length_singleton] at hv'; subst hv'; have e1 := B1.b1; have e2 := B1.p1; have R1 := veil (ownsRow_setCell_below R0 (a := ⟨w.heap.size + 1, 1, none⟩) (by simp) (.slice ao' (ds.length + 1) cap')); have R2 := veil (B1.store (.slice ao' (ds.length + 1) cap')); clear hgrow B1 R0)
        go_roundw
        case rel => exact ⟨q, _, _, rfl, unveil N, unveil R2, unveil R1⟩
        case measure => exact unveil M
      · have hk' : decide (r < 0) = false := by simpa using hk
        rw [absI_pos hk] at N
        go_wp2_with (at_builtin; refine wp_digit wr (r) rfl _ _ rfl (w.heap.size + 2) _ ds rfl rfl hown (by omega) (by omega) ?_; intro v' w1 R0 hgrow; have B1 := (unveil hB).grow (unveil hrow) hgrow; obtain ⟨_, _, ao', cap', hv', _⟩ := id (dg_of_own R0 (unveil N).dig (unveil N).len19); rw [List.length_append, List.length_singleton] at hv'; subst hv'; have e1 := B1.b1; have e2 := B1.p1; have R1 := veil (ownsRow_setCell_below R0 (a := ⟨w.heap.size + 1, 1, none⟩) (by simp) (.slice ao' (ds.length + 1) cap')); have R2 := veil (B1.store (.slice ao' (ds.length + 1) cap')); clear hgrow B1 R0)
        go_roundw
        case rel => exact ⟨q, _, _, rfl, unveil N, unveil R2, unveil R1⟩
        case measure => exact unveil M

end Go.Proofs.Ytjlnbhmiahegmaa

namespace Go.Proofs.Ytjlnbhmiahegmaa
open Go.RowKit
set_option linter.unusedVariables false

theorem sign_any (neg : Bool) (v : Value) (ds : List Int) (w : World) (hd : Dg w v ds) :
    Calls Try.prog 63 #[.bool neg, v] w fun e w' => e = .returned (.agg #[.bool (neg && decide (0 < ds.length)), v]) ∧ Below w.heap.size w w' := by
  obtain ⟨_, _, ao, cap, rfl, _⟩ := hd
  cases neg
  · go_enter Try.func63, Try.ntmps63
    go_wp2
    refine bodyPost_ret (v := .agg #[.bool false, .slice ao ds.length cap]) (by simp [results, Try.results63, go_sem]) rfl ?_
    exact ⟨rfl, (Below.refl _ _).alloc (Nat.le_refl _) _⟩
  · generalize hl : decide (0 < ds.length) = b
    cases b
    · have h0 : ds.length = 0 := by simpa using hl
      rw [h0]
      clear hl h0
      go_enter Try.func63, Try.ntmps63
      go_wp2
      refine bodyPost_ret (v := .agg #[.bool false, .slice ao 0 cap]) (by simp [results, Try.results63, go_sem]) rfl ?_
      exact ⟨rfl, (Below.refl _ _).alloc (Nat.le_refl _) _⟩
    · have h0 : 0 < ds.length := by simpa using hl
      clear hl
      generalize ds.length = n at *
      go_enter Try.func63, Try.ntmps63
      go_wp2
      refine bodyPost_ret (v := .agg #[.bool true, .slice ao n cap]) (by simp [results, Try.results63, go_sem]) rfl ?_
      exact ⟨rfl, (Below.refl _ _).alloc (Nat.le_refl _) _⟩

/-- Signed digits are a whole number. -/
theorem bigR_sign {w : World} {v : Value} {ds : List Int} {z : Int} {neg : Bool} (hd : Dg w v ds) (hn : Norm ds) (hv : dval ds = absI z) (hs : ¬ z = 0 → neg = decide (z < 0)) :
    BigR w (.agg #[.bool (neg && decide (0 < ds.length)), v]) z := by
  refine ⟨v, ?_, ds, hd, hn, hv⟩
  have h0 := norm_zero hd.1 hn
  by_cases hz : z = 0
  · have h1 : ds.length = 0 := h0.1 (by rw [hv, hz]; rfl)
    rw [h1, hz]; simp
  · have h1 : 0 < ds.length := by
      refine Nat.pos_of_ne_zero fun hc => hz ?_
      have := h0.2 hc
      rw [hv] at this
      unfold absI at this; split at this <;> omega
    rw [decide_eq_true h1, hs hz]; simp

/-- The top digits, turned to a number below 0. -/
theorem out_step (ds : List Int) (m : Nat) (hm : m < ds.length) : - dval (ds.drop (m + 1)) * 10 - ds.getD m 0 = - dval (ds.drop m) := by
  rw [List.drop_eq_getElem_cons hm, dval]
  have : ds.getD m 0 = ds[m] := by simp [hm]
  rw [this]; omega
theorem out_top (ds : List Int) (h : Digs ds) (m : Nat) (hm : m ≤ ds.length) : 0 ≤ dval (ds.drop m) ∧ dval (ds.drop m) ≤ dval ds := by
  have e := dval_split ds m hm
  have h1 := dval_bd _ (digs_take h m)
  have h3 : Digs (ds.drop m) := fun i => by
    have := h (m + i)
    simp only [List.getD_eq_getElem?_getD, List.getElem?_drop] at *
    exact this
  have h2 := dval_bd _ h3
  have h4 := ten_pos m
  have h5 := Int.mul_le_mul_of_nonneg_right (show 1 ≤ ten m by omega) h2.1
  omega

theorem kept2 {w w1 : World} {X : Obj} (hb : Below (w.heap.size + 1) (w.alloc X) w1) : (∀ j, w1.cell? ⟨w.heap.size, j, none⟩ = (w.alloc X).cell? ⟨w.heap.size, j, none⟩) ∧ Below w.heap.size w w1 :=
  ⟨fun j => hb.cell (p := ⟨w.heap.size, j, none⟩) (by simp), ((Below.refl _ _).alloc (Nat.le_refl _) _).trans (hb.mono (by omega))⟩

/-! ### Out -/
theorem field_D (b : Bool) (ao : Option Addr) (n cap : Nat) (w : World) : (Instr.field 98 (.agg #[.bool b, .slice ao n cap]) 1).run Try.prog w = .ok (.slice ao n cap) w := by kernel_rfl
theorem chain {B : Nat} {a b c : World} (h1 : Below B a b) (hB : B ≤ a.heap.size) (h2 : Below b.heap.size b c) : Below B a c := h1.trans (h2.mono (Nat.le_trans hB h1.size))
set_option maxHeartbeats 800000 in
theorem out_big (neg : Bool) (ao : Option Addr) (n cap : Nat) (ds : List Int) (w : World) (hd : Dg w (.slice ao n cap) ds) (hl : ds.length = n) (hn : Norm ds) (hv : 9223372036854775808 < dval ds) :
    Calls Try.prog 56 #[.agg #[.bool neg, .slice ao n cap]] w fun e w' => e = .returned (.tuple #[.int .i64 0, .int .i64 1]) ∧ Below w.heap.size w w' := by
  have hfD := field_D
  have hn1000 : n ≤ 1000 := by have := hd.2.1; omega
  go_enter Try.func56, Try.ntmps56
  go_wp2_with fail
  refine (from_any 4611686018427387904 (by unfold inR; omega) _).mono ?_
  rintro e w1 ⟨x1, rfl, hb1, o1, rfl, ds1, d1, n1, v1⟩
  obtain ⟨_, _, ao1, cap1, rfl, _⟩ := id d1
  go_wp2_with fail
  refine (from_any 4611686018427387904 (by unfold inR; omega) _).mono ?_
  rintro e w2 ⟨x2, rfl, hb2, o2, rfl, ds2, d2, n2, v2⟩
  obtain ⟨_, _, ao2, cap2, rfl, _⟩ := id d2
  go_wp2_with fail
  have l1 := norm_len d1.1 n1 (k := 19) (by rw [v1, ten19]; decide)
  have l2 := norm_len d2.1 n2 (k := 19) (by rw [v2, ten19]; decide)
  refine (plus_any _ _ ds1 ds2 w2 (d1.later hb2) d2 19 l1 l2 (by omega)).mono ?_
  rintro e w3 ⟨o3, rfl, hb3, dl, d3, v3, n3, _⟩
  have hL : dval dl = 9223372036854775808 := by rw [v3, v1, v2]; rfl
  simp only [World.size_alloc] at hb1
  have hc := chain (chain hb1 (by simp) hb2) (by simp) hb3
  obtain ⟨hcell, hbel⟩ := kept2 hc
  have c0 := hcell 0
  have c1 := hcell 1
  simp at c0 c1
  have hd3 := veil (hd.later hbel)
  have D3 := veil d3
  have N3 := veil n3
  have HL3 := veil hL
  clear hb1 hb2 hb3 d1 d2 n1 n2 v1 v2 l1 l2 v3 hc hcell d3 n3 hL
  go_wp2_with fail
  refine (above_any (.slice ao n cap) o3 ds dl w3 (unveil hd3) (unveil D3) hn (unveil N3)).mono ?_
  rintro e w4 ⟨rfl, mw4, hw4⟩
  rw [show decide (dval dl < dval ds) = true by have := unveil HL3; simp; omega]
  have c0w4 : w4.cell? ⟨w.heap.size, 0, none⟩ = some (.bool neg) := by rw [hw4]; exact c0
  have c1w4 : w4.cell? ⟨w.heap.size, 1, none⟩ = some (.slice ao n cap) := by rw [hw4]; exact c1
  have belw4 : Below w.heap.size w w4 := by rw [hw4]; exact below_nq hbel _
  have hdw4 := veil (show Dg w4 (.slice ao n cap) ds by rw [hw4]; exact unveil hd3)
  have Dw4 := veil (show Dg w4 o3 dl by rw [hw4]; exact unveil D3)
  clear hw4
  go_wp2_with fail
  go_ret2
  exact ⟨rfl, belw4⟩

set_option maxHeartbeats 800000 in
theorem out_edge (ao : Option Addr) (n cap : Nat) (ds : List Int) (w : World) (hd : Dg w (.slice ao n cap) ds) (hl : ds.length = n) (hn : Norm ds) (hv : dval ds = 9223372036854775808) :
    Calls Try.prog 56 #[.agg #[.bool false, .slice ao n cap]] w fun e w' => e = .returned (.tuple #[.int .i64 0, .int .i64 1]) ∧ Below w.heap.size w w' := by
  have hfD := field_D
  have hn1000 : n ≤ 1000 := by have := hd.2.1; omega
  go_enter Try.func56, Try.ntmps56
  go_wp2_with fail
  refine (from_any 4611686018427387904 (by unfold inR; omega) _).mono ?_
  rintro e w1 ⟨x1, rfl, hb1, o1, rfl, ds1, d1, n1, v1⟩
  obtain ⟨_, _, ao1, cap1, rfl, _⟩ := id d1
  go_wp2_with fail
  refine (from_any 4611686018427387904 (by unfold inR; omega) _).mono ?_
  rintro e w2 ⟨x2, rfl, hb2, o2, rfl, ds2, d2, n2, v2⟩
  obtain ⟨_, _, ao2, cap2, rfl, _⟩ := id d2
  go_wp2_with fail
  have l1 := norm_len d1.1 n1 (k := 19) (by rw [v1, ten19]; decide)
  have l2 := norm_len d2.1 n2 (k := 19) (by rw [v2, ten19]; decide)
  refine (plus_any _ _ ds1 ds2 w2 (d1.later hb2) d2 19 l1 l2 (by omega)).mono ?_
  rintro e w3 ⟨o3, rfl, hb3, dl, d3, v3, n3, _⟩
  have hL : dval dl = 9223372036854775808 := by rw [v3, v1, v2]; rfl
  simp only [World.size_alloc] at hb1
  have hc := chain (chain hb1 (by simp) hb2) (by simp) hb3
  obtain ⟨hcell, hbel⟩ := kept2 hc
  have c0 := hcell 0
  have c1 := hcell 1
  simp at c0 c1
  have hd3 := veil (hd.later hbel)
  have D3 := veil d3
  have N3 := veil n3
  have HL3 := veil hL
  clear hb1 hb2 hb3 d1 d2 n1 n2 v1 v2 l1 l2 v3 hc hcell d3 n3 hL
  go_wp2_with fail
  refine (above_any (.slice ao n cap) o3 ds dl w3 (unveil hd3) (unveil D3) hn (unveil N3)).mono ?_
  rintro e w4 ⟨rfl, mw4, hw4⟩
  rw [show decide (dval dl < dval ds) = false by have := unveil HL3; simp; omega]
  have c0w4 : w4.cell? ⟨w.heap.size, 0, none⟩ = some (.bool false) := by rw [hw4]; exact c0
  have c1w4 : w4.cell? ⟨w.heap.size, 1, none⟩ = some (.slice ao n cap) := by rw [hw4]; exact c1
  have belw4 : Below w.heap.size w w4 := by rw [hw4]; exact below_nq hbel _
  have hdw4 := veil (show Dg w4 (.slice ao n cap) ds by rw [hw4]; exact unveil hd3)
  have Dw4 := veil (show Dg w4 o3 dl by rw [hw4]; exact unveil D3)
  clear hw4
  go_wp2_with fail
  refine (above_any o3 (.slice ao n cap) dl ds w4 (unveil Dw4) (unveil hdw4) (unveil N3) hn).mono ?_
  rintro e w5 ⟨rfl, mw5, hw5⟩
  rw [show decide (dval ds < dval dl) = false by have := unveil HL3; simp; omega]
  have c0w5 : w5.cell? ⟨w.heap.size, 0, none⟩ = some (.bool false) := by rw [hw5]; exact c0w4
  have c1w5 : w5.cell? ⟨w.heap.size, 1, none⟩ = some (.slice ao n cap) := by rw [hw5]; exact c1w4
  have belw5 : Below w.heap.size w w5 := by rw [hw5]; exact below_nq belw4 _
  have hdw5 := veil (show Dg w5 (.slice ao n cap) ds by rw [hw5]; exact unveil hdw4)
  have Dw5 := veil (show Dg w5 o3 dl by rw [hw5]; exact unveil Dw4)
  clear hw5
  go_wp2_with fail
  go_ret2
  exact ⟨rfl, belw5⟩

set_option maxHeartbeats 1600000 in
theorem out_pos (ao : Option Addr) (n cap : Nat) (ds : List Int) (w : World) (hd : Dg w (.slice ao n cap) ds) (hl : ds.length = n) (hn : Norm ds) (hv : dval ds < 9223372036854775808) :
    Calls Try.prog 56 #[.agg #[.bool false, .slice ao n cap]] w fun e w' => e = .returned (.tuple #[.int .i64 (dval ds), .int .i64 0]) ∧ Below w.heap.size w w' := by
  have hfD := field_D
  have hn1000 : n ≤ 1000 := by have := hd.2.1; omega
  go_enter Try.func56, Try.ntmps56
  go_wp2_with fail
  refine (from_any 4611686018427387904 (by unfold inR; omega) _).mono ?_
  rintro e w1 ⟨x1, rfl, hb1, o1, rfl, ds1, d1, n1, v1⟩
  obtain ⟨_, _, ao1, cap1, rfl, _⟩ := id d1
  go_wp2_with fail
  refine (from_any 4611686018427387904 (by unfold inR; omega) _).mono ?_
  rintro e w2 ⟨x2, rfl, hb2, o2, rfl, ds2, d2, n2, v2⟩
  obtain ⟨_, _, ao2, cap2, rfl, _⟩ := id d2
  go_wp2_with fail
  have l1 := norm_len d1.1 n1 (k := 19) (by rw [v1, ten19]; decide)
  have l2 := norm_len d2.1 n2 (k := 19) (by rw [v2, ten19]; decide)
  refine (plus_any _ _ ds1 ds2 w2 (d1.later hb2) d2 19 l1 l2 (by omega)).mono ?_
  rintro e w3 ⟨o3, rfl, hb3, dl, d3, v3, n3, _⟩
  have hL : dval dl = 9223372036854775808 := by rw [v3, v1, v2]; rfl
  simp only [World.size_alloc] at hb1
  have hc := chain (chain hb1 (by simp) hb2) (by simp) hb3
  obtain ⟨hcell, hbel⟩ := kept2 hc
  have c0 := hcell 0
  have c1 := hcell 1
  simp at c0 c1
  have hd3 := veil (hd.later hbel)
  have D3 := veil d3
  have N3 := veil n3
  have HL3 := veil hL
  clear hb1 hb2 hb3 d1 d2 n1 n2 v1 v2 l1 l2 v3 hc hcell d3 n3 hL
  go_wp2_with fail
  refine (above_any (.slice ao n cap) o3 ds dl w3 (unveil hd3) (unveil D3) hn (unveil N3)).mono ?_
  rintro e w4 ⟨rfl, mw4, hw4⟩
  rw [show decide (dval dl < dval ds) = false by have := unveil HL3; simp; omega]
  have c0w4 : w4.cell? ⟨w.heap.size, 0, none⟩ = some (.bool false) := by rw [hw4]; exact c0
  have c1w4 : w4.cell? ⟨w.heap.size, 1, none⟩ = some (.slice ao n cap) := by rw [hw4]; exact c1
  have belw4 : Below w.heap.size w w4 := by rw [hw4]; exact below_nq hbel _
  have hdw4 := veil (show Dg w4 (.slice ao n cap) ds by rw [hw4]; exact unveil hd3)
  have Dw4 := veil (show Dg w4 o3 dl by rw [hw4]; exact unveil D3)
  clear hw4
  go_wp2_with fail
  refine (above_any o3 (.slice ao n cap) dl ds w4 (unveil Dw4) (unveil hdw4) (unveil N3) hn).mono ?_
  rintro e w5 ⟨rfl, mw5, hw5⟩
  rw [show decide (dval ds < dval dl) = true by have := unveil HL3; simp; omega]
  have c0w5 : w5.cell? ⟨w.heap.size, 0, none⟩ = some (.bool false) := by rw [hw5]; exact c0w4
  have c1w5 : w5.cell? ⟨w.heap.size, 1, none⟩ = some (.slice ao n cap) := by rw [hw5]; exact c1w4
  have belw5 : Below w.heap.size w w5 := by rw [hw5]; exact below_nq belw4 _
  have hdw5 := veil (show Dg w5 (.slice ao n cap) ds by rw [hw5]; exact unveil hdw4)
  have Dw5 := veil (show Dg w5 o3 dl by rw [hw5]; exact unveil Dw4)
  clear hw5
  go_wp2_with fail
  have TOP := veil (fun m h => out_top ds (unveil hdw5).1 m h)
  have STEP := veil (fun m h => out_step ds m h)
  have CELL : ∀ i, i < n → ∃ p off, ao = some ⟨p, off, none⟩ ∧ w5.cell? ⟨p, off + i, none⟩ = some (.int .i64 (ds.getD i 0)) := by
    obtain ⟨_, _, ao', cap', he, _, _, hr⟩ := unveil hdw5
    intro i hi
    injection he with e1 e2 e3
    subst e1 e3
    rcases hr with h0 | ⟨p, off, h1, h2, h3⟩
    · omega
    · exact ⟨p, off, h1, h3 i (by omega)⟩
  have CELL' := veil CELL
  have HL := veil hl
  have DIG := veil (unveil hdw5).1
  clear CELL hl
  go_loop [5, 6] (fun a i => ∃ k : Nat, k ≤ n ∧ i = .int .i64 ((k : Int) - 1) ∧ a = .int .i64 (- dval (ds.drop k))) (fun _ i => (intOf i + 1).toNat)
  case atStart => exact ⟨n, Nat.le_refl _, rfl, by rw [List.drop_of_length_le (by rw [unveil HL]; exact Nat.le_refl _)]; rfl⟩
  case round =>
    obtain ⟨k, hk, rfl, rfl⟩ := hrel
    cases k with
    | zero =>
      have t := unveil TOP 0 (by omega)
      rw [List.drop_zero] at *
      generalize hN : dval ds = N at *
      have HN := veil hN
      clear hN
      go_wp2_with fail
      go_ret2
      exact ⟨ret_ii (by rw [unveil HN]) rfl, belw5⟩
    | succ m =>
      obtain ⟨p, off, rfl, hcell⟩ := unveil CELL' m (by omega)
      have hm : (((m + 1 : Nat) : Int) - 1) = (m : Int) := by omega
      rw [hm]
      have t1 := unveil TOP (m + 1) (by rw [unveil HL]; exact hk)
      have t2 := unveil TOP m (by rw [unveil HL]; omega)
      have s1 := unveil STEP m (by rw [unveil HL]; omega)
      have dg := unveil DIG m
      generalize ds.getD m 0 = d at *
      generalize dval (ds.drop (m + 1)) = a at *
      have s2 : -(a * 10) - d = - dval (ds.drop m) := by omega
      have S1 := veil s1
      have S2 := veil s2
      have b1 : -9223372036854775808 ≤ -a * 10 := by omega
      have b2 : -9223372036854775808 ≤ -a * 10 - d := by omega
      clear hm s1 s2 t2
      obtain ⟨dg1, dg2⟩ := dg
      obtain ⟨t11, t12⟩ := t1
      go_wp2_with fail
      go_round
      case rel => exact ⟨m, by omega, by go_num, by first | rw [unveil S1] | rw [unveil S2]⟩
      case measure => simp [intOf]

set_option maxHeartbeats 1600000 in
theorem out_neg (ao : Option Addr) (n cap : Nat) (ds : List Int) (w : World) (hd : Dg w (.slice ao n cap) ds) (hl : ds.length = n) (hn : Norm ds) (hv : dval ds ≤ 9223372036854775808) :
    Calls Try.prog 56 #[.agg #[.bool true, .slice ao n cap]] w fun e w' => e = .returned (.tuple #[.int .i64 (-dval ds), .int .i64 0]) ∧ Below w.heap.size w w' := by
  have hfD := field_D
  have hn1000 : n ≤ 1000 := by have := hd.2.1; omega
  go_enter Try.func56, Try.ntmps56
  go_wp2_with fail
  refine (from_any 4611686018427387904 (by unfold inR; omega) _).mono ?_
  rintro e w1 ⟨x1, rfl, hb1, o1, rfl, ds1, d1, n1, v1⟩
  obtain ⟨_, _, ao1, cap1, rfl, _⟩ := id d1
  go_wp2_with fail
  refine (from_any 4611686018427387904 (by unfold inR; omega) _).mono ?_
  rintro e w2 ⟨x2, rfl, hb2, o2, rfl, ds2, d2, n2, v2⟩
  obtain ⟨_, _, ao2, cap2, rfl, _⟩ := id d2
  go_wp2_with fail
  have l1 := norm_len d1.1 n1 (k := 19) (by rw [v1, ten19]; decide)
  have l2 := norm_len d2.1 n2 (k := 19) (by rw [v2, ten19]; decide)
  refine (plus_any _ _ ds1 ds2 w2 (d1.later hb2) d2 19 l1 l2 (by omega)).mono ?_
  rintro e w3 ⟨o3, rfl, hb3, dl, d3, v3, n3, _⟩
  have hL : dval dl = 9223372036854775808 := by rw [v3, v1, v2]; rfl
  simp only [World.size_alloc] at hb1
  have hc := chain (chain hb1 (by simp) hb2) (by simp) hb3
  obtain ⟨hcell, hbel⟩ := kept2 hc
  have c0 := hcell 0
  have c1 := hcell 1
  simp at c0 c1
  have hd3 := veil (hd.later hbel)
  have D3 := veil d3
  have N3 := veil n3
  have HL3 := veil hL
  clear hb1 hb2 hb3 d1 d2 n1 n2 v1 v2 l1 l2 v3 hc hcell d3 n3 hL
  go_wp2_with fail
  refine (above_any (.slice ao n cap) o3 ds dl w3 (unveil hd3) (unveil D3) hn (unveil N3)).mono ?_
  rintro e w4 ⟨rfl, mw4, hw4⟩
  rw [show decide (dval dl < dval ds) = false by have := unveil HL3; simp; omega]
  have c0w4 : w4.cell? ⟨w.heap.size, 0, none⟩ = some (.bool true) := by rw [hw4]; exact c0
  have c1w4 : w4.cell? ⟨w.heap.size, 1, none⟩ = some (.slice ao n cap) := by rw [hw4]; exact c1
  have belw4 : Below w.heap.size w w4 := by rw [hw4]; exact below_nq hbel _
  have hdw4 := veil (show Dg w4 (.slice ao n cap) ds by rw [hw4]; exact unveil hd3)
  have Dw4 := veil (show Dg w4 o3 dl by rw [hw4]; exact unveil D3)
  clear hw4
  go_wp2_with fail
  have TOP := veil (fun m h => out_top ds (unveil hdw4).1 m h)
  have STEP := veil (fun m h => out_step ds m h)
  have CELL : ∀ i, i < n → ∃ p off, ao = some ⟨p, off, none⟩ ∧ w4.cell? ⟨p, off + i, none⟩ = some (.int .i64 (ds.getD i 0)) := by
    obtain ⟨_, _, ao', cap', he, _, _, hr⟩ := unveil hdw4
    intro i hi
    injection he with e1 e2 e3
    subst e1 e3
    rcases hr with h0 | ⟨p, off, h1, h2, h3⟩
    · omega
    · exact ⟨p, off, h1, h3 i (by omega)⟩
  have CELL' := veil CELL
  have HL := veil hl
  have DIG := veil (unveil hdw4).1
  clear CELL hl
  go_loop [5, 6] (fun a i => ∃ k : Nat, k ≤ n ∧ i = .int .i64 ((k : Int) - 1) ∧ a = .int .i64 (- dval (ds.drop k))) (fun _ i => (intOf i + 1).toNat)
  case atStart => exact ⟨n, Nat.le_refl _, rfl, by rw [List.drop_of_length_le (by rw [unveil HL]; exact Nat.le_refl _)]; rfl⟩
  case round =>
    obtain ⟨k, hk, rfl, rfl⟩ := hrel
    cases k with
    | zero =>
      have t := unveil TOP 0 (by omega)
      rw [List.drop_zero] at *
      generalize hN : dval ds = N at *
      have HN := veil hN
      clear hN
      go_wp2_with fail
      go_ret2
      exact ⟨ret_ii (by rw [unveil HN]) rfl, belw4⟩
    | succ m =>
      obtain ⟨p, off, rfl, hcell⟩ := unveil CELL' m (by omega)
      have hm : (((m + 1 : Nat) : Int) - 1) = (m : Int) := by omega
      rw [hm]
      have t1 := unveil TOP (m + 1) (by rw [unveil HL]; exact hk)
      have t2 := unveil TOP m (by rw [unveil HL]; omega)
      have s1 := unveil STEP m (by rw [unveil HL]; omega)
      have dg := unveil DIG m
      generalize ds.getD m 0 = d at *
      generalize dval (ds.drop (m + 1)) = a at *
      have s2 : -(a * 10) - d = - dval (ds.drop m) := by omega
      have S1 := veil s1
      have S2 := veil s2
      have b1 : -9223372036854775808 ≤ -a * 10 := by omega
      have b2 : -9223372036854775808 ≤ -a * 10 - d := by omega
      clear hm s1 s2 t2
      obtain ⟨dg1, dg2⟩ := dg
      obtain ⟨t11, t12⟩ := t1
      go_wp2_with fail
      go_round
      case rel => exact ⟨m, by omega, by go_num, by first | rw [unveil S1] | rw [unveil S2]⟩
      case measure => simp [intOf]

theorem out_any (x : Value) (z : Int) (w : World) (hx : BigR w x z) :
    Calls Try.prog 56 #[x] w fun e w' => e = .returned (.tuple #[.int .i64 (fitV z), .int .i64 (fitF z)]) ∧ Below w.heap.size w w' := by
  obtain ⟨o, rfl, ds, hd, hn, hv⟩ := hx
  have hd0 := hd
  obtain ⟨_, _, ao, cap, rfl, _⟩ := hd0
  by_cases hneg : z < 0
  · rw [decide_eq_true hneg]
    rw [absI_neg hneg] at hv
    by_cases hb : 9223372036854775808 < dval ds
    · have ho : ¬ inR z := by unfold inR; omega
      rw [fitV_out ho, fitF_out ho]
      exact out_big true ao _ cap ds w hd rfl hn hb
    · have ho : inR z := by unfold inR; omega
      rw [fitV_in ho, fitF_in ho, show z = -dval ds by omega]
      exact out_neg ao _ cap ds w hd rfl hn (by omega)
  · rw [decide_eq_false hneg]
    rw [absI_pos hneg] at hv
    by_cases hb : 9223372036854775808 < dval ds
    · have ho : ¬ inR z := by unfold inR; omega
      rw [fitV_out ho, fitF_out ho]
      exact out_big false ao _ cap ds w hd rfl hn hb
    by_cases he : dval ds = 9223372036854775808
    · have ho : ¬ inR z := by unfold inR; omega
      rw [fitV_out ho, fitF_out ho]
      exact out_edge ao _ cap ds w hd rfl hn he
    · have ho : inR z := by unfold inR; omega
      rw [fitV_in ho, fitF_in ho, show z = dval ds by omega]
      exact out_pos ao _ cap ds w hd rfl hn (by omega)

end Go.Proofs.Ytjlnbhmiahegmaa

namespace Go.Proofs.Ytjlnbhmiahegmaa
open Go.RowKit
set_option linter.unusedVariables false

/-- A box of the call's own, as it lies in a later world. -/
theorem box_later {W w1 : World} (hb : Below W.heap.size W w1) {k j : Nat} (hk : k < W.heap.size) : w1.cell? ⟨k, j, none⟩ = W.cell? ⟨k, j, none⟩ ∧ w1.frozen? ⟨k, j, none⟩ = W.frozen? ⟨k, j, none⟩ :=
  ⟨hb.cell (p := ⟨k, j, none⟩) hk, hb.frozen (p := ⟨k, j, none⟩) hk⟩

/-- What the three boxes of a call with two numbers and a result hold. -/
structure PBox (w W : World) (va vb ra rb : Value) : Prop where
  size : w.heap.size + 1 + 1 < W.heap.size
  bel : Below w.heap.size w W
  a0 : W.cell? ⟨w.heap.size, 0, none⟩ = some ra
  a1 : W.cell? ⟨w.heap.size, 1, none⟩ = some va
  b0 : W.cell? ⟨w.heap.size + 1, 0, none⟩ = some rb
  b1 : W.cell? ⟨w.heap.size + 1, 1, none⟩ = some vb
  r0 : W.cell? ⟨w.heap.size + 1 + 1, 0, none⟩ = some (.bool false)
  r1 : W.cell? ⟨w.heap.size + 1 + 1, 1, none⟩ = some (.slice none 0 0)
  q0 : W.frozen? ⟨w.heap.size + 1 + 1, 0, none⟩ = false
  q1 : W.frozen? ⟨w.heap.size + 1 + 1, 1, none⟩ = false
theorem PBox.later {w W W' : World} {va vb ra rb : Value} (h : PBox w W va vb ra rb) (hb : Below W.heap.size W W') : PBox w W' va vb ra rb := by
  obtain ⟨s, bel, a0, a1, b0, b1, r0, r1, q0, q1⟩ := h
  have c : ∀ k j, k ≤ w.heap.size + 1 + 1 → W'.cell? ⟨k, j, none⟩ = W.cell? ⟨k, j, none⟩ := fun k j hk => (box_later hb (by omega)).1
  have f : ∀ k j, k ≤ w.heap.size + 1 + 1 → W'.frozen? ⟨k, j, none⟩ = W.frozen? ⟨k, j, none⟩ := fun k j hk => (box_later hb (by omega)).2
  exact ⟨Nat.lt_of_lt_of_le s hb.size, bel.trans (hb.mono (by omega)), (c _ _ (by omega)).trans a0, (c _ _ (by omega)).trans a1, (c _ _ (by omega)).trans b0, (c _ _ (by omega)).trans b1, (c _ _ (by omega)).trans r0, (c _ _ (by omega)).trans r1, (f _ _ (by omega)).trans q0, (f _ _ (by omega)).trans q1⟩
theorem PBox.drew {w W : World} {va vb ra rb : Value} (h : PBox w W va vb ra rb) : PBox w W.drew va vb ra rb :=
  ⟨h.size, h.bel.drew, h.a0, h.a1, h.b0, h.b1, h.r0, h.r1, h.q0, h.q1⟩
theorem PBox.drewN {w W : World} {va vb ra rb : Value} (h : PBox w W va vb ra rb) (n : Nat) : PBox w (W.drewN n) va vb ra rb :=
  ⟨h.size, below_nq h.bel n, h.a0, h.a1, h.b0, h.b1, h.r0, h.r1, h.q0, h.q1⟩
theorem PBox.made (w : World) (na nb : Bool) (va vb : Value) : PBox w (((w.alloc (.cells #[.bool na, va] 98)).alloc (.cells #[.bool nb, vb] 98)).alloc (.cells #[.bool false, .slice none 0 0] 98)) va vb (.bool na) (.bool nb) :=
  ⟨by simp, (((Below.refl _ _).alloc (Nat.le_refl _) _).alloc (by simp) _).alloc (by simp; omega) _, by simp [go_sem], by simp [go_sem], by simp [go_sem], by simp [go_sem], by simp [go_sem], by simp [go_sem], by simp [go_sem], by simp [go_sem]⟩

end Go.Proofs.Ytjlnbhmiahegmaa

namespace Go.Proofs.Ytjlnbhmiahegmaa
open Go.RowKit

/-- One place of a difference. -/
theorem minus_step {a b ds : List Int} {k : Nat} {br br' da db d : Int} (hl : ds.length = k) (h : dval ds - ten k * br = dval (a.take k) - dval (b.take k)) (ea : a.getD k 0 = da) (eb : b.getD k 0 = db) (e : d - 10 * br' = da - db - br) :
    dval (ds ++ [d]) - ten (k + 1) * br' = dval (a.take (k + 1)) - dval (b.take (k + 1)) := by
  rw [dval_snoc, hl, dval_take_succ, dval_take_succ, ea, eb, ten_succ]
  have e1 : 10 * ten k * br' = ten k * (10 * br') := by rw [Int.mul_comm 10, Int.mul_assoc]
  have e2 : ten k * (d - 10 * br') = ten k * (da - db - br) := by rw [e]
  rw [Int.mul_sub, Int.mul_sub, Int.mul_sub] at e2
  omega
/-- At the end nothing is borrowed. -/
theorem minus_end {a b ds : List Int} {br : Int} (hd : Digs ds) (hl : ds.length = a.length) (hb : b.length ≤ a.length) (h : dval ds - ten a.length * br = dval (a.take a.length) - dval (b.take a.length)) (hge : dval b ≤ dval a) (b0 : 0 ≤ br) (b1 : br ≤ 1) :
    dval ds = dval a - dval b := by
  rw [dval_take_all a _ (Nat.le_refl _), dval_take_all b _ hb] at h
  have h2 := (dval_bd ds hd).2
  rw [hl] at h2
  have h3 : br = 0 ∨ br = 1 := by omega
  rcases h3 with rfl | rfl
  · simp at h; exact h
  · simp at h; omega

set_option maxHeartbeats 800000 in
theorem minus_any (va vb : Value) (a b : List Int) (w : World) (ha : Dg w va a) (hb : Dg w vb b) (la : a.length ≤ 400) (lb : b.length ≤ a.length) (hge : dval b ≤ dval a) :
    Calls Try.prog 81 #[va, vb] w fun e w' => ∃ v, e = .returned v ∧ Below w.heap.size w w' ∧ ∃ ds, Dg w' v ds ∧ dval ds = dval a - dval b ∧ Norm ds ∧ Fresh w.heap.size v := by
  obtain ⟨i0, hi, hz0, hz1, hz2⟩ := info_parts info3
  have HA := veil ha
  have HB := veil hb
  obtain ⟨a1, a2, ao, cap, rfl, ac, am, ar⟩ := ha
  obtain ⟨b1, b2, bo, cap', rfl, bc, bm, br⟩ := hb
  have A1 := veil a1
  have B1 := veil b1
  have FIN := veil (fun (ds : List Int) (br : Int) hd hl h b0 b1 => minus_end (a := a) (b := b) (ds := ds) (br := br) hd hl lb h hge b0 b1)
  have HC : ∀ i, i < a.length → ∃ p off, ao = some ⟨p, off, none⟩ ∧ p < w.heap.size ∧ w.cell? ⟨p, off + i, none⟩ = some (.int .i64 (a.getD i 0)) := by
    intro i hi
    rcases ar with h0 | ⟨p, off, h1, h2, h3⟩
    · omega
    · exact ⟨p, off, h1, h2, h3 i hi⟩
  have HC' := veil HC
  clear ar br a1 b1 ac bc a2 b2 hge HC
  go_enter Try.func81, Try.ntmps81
  go_wp2_with fail
  go_loopw [5, 6, 7] (fun o c i wr => ∃ k : Nat, k ≤ a.length ∧ i = .int .i64 k ∧ ∃ (br : Int) (ds : List Int), c = .int .i64 br ∧ 0 ≤ br ∧ br ≤ 1 ∧ ds.length = k ∧ Digs ds ∧ dval ds - ten k * br = dval (a.take k) - dval (b.take k) ∧
      wr.ownsRow w.heap.size 3 1 o ds.length (ds.map (Value.int .i64)) ∧ Below w.heap.size w wr) (fun _ _ i _ => a.length - (intOf i).toNat)
  case atStart => exact ⟨0, by omega, rfl, 0, [], rfl, by omega, by omega, rfl, digs_nil, by simp [dval], World.ownsRow_nil _ _ _ _, Below.refl _ _⟩
  case round =>
    obtain ⟨k, hk, rfl, br, ds, rfl, c0, c1, hlen0, hdig0, hval0, hown, hbel⟩ := hrel
    have hdig := veil hdig0
    have hval := veil hval0
    have hlen := veil hlen0
    have hl : ds.length ≤ k := by omega
    by_cases h1 : k < a.length
    · obtain ⟨p, off, rfl, hp, hcell⟩ := unveil HC' k h1
      have hcr : wr.cell? ⟨p, off + k, none⟩ = some (.int .i64 (a.getD k 0)) := (hbel.cell (p := ⟨p, off + k, none⟩) hp).trans hcell
      have CB := veil (fun n => at_any _ b k (wr.drewN n) (by omega) (((unveil HB).later hbel).draws n))
      have ba := unveil A1 k
      have bb := unveil B1 k
      have V := veil (fun (br' d : Int) e => minus_step (br' := br') (d := d) hlen0 hval0 rfl rfl e)
      clear hdig0 hval0 hlen0 hcell
      generalize a.getD k 0 = da at *
      generalize b.getD k 0 = db at *
      obtain ⟨ba1, ba2⟩ := ba
      obtain ⟨bb1, bb2⟩ := bb
      by_cases hs : da - db - br < 0
      · go_wp2_with fail
        go_quiet ((go_at_call 83; exact Calls.quiet_of_same (unveil CB _)))
        have hown2 : (wr.drewN nq).ownsRow w.heap.size 3 1 u5 ds.length (ds.map (Value.int .i64)) := hown
        have hbel2 : Below w.heap.size w (wr.drewN nq) := below_nq hbel nq
        clear hown hbel CB hcr
        generalize wr.drewN nq = wq at *
        go_wp2_with (at_builtin; refine wpList_append_own _ rfl _ _ 26 rfl w.heap.size 3 i0 (.int .i64 0) 1 8 Try.underlying26 hi hz0 hz1 hz2 rfl (by decide) _ _ _ rfl (hown2.alloc _) ⟨wq.heap.size, 0, none⟩ 1 1 [.int .i64 (da - db - br + 10)] rfl rfl ?c1 ?c2 ?c3 ?c4 ?c5 ?_)
        case c1 =>
          intro j u hj
          match j, hj with
          | 0, hj => simp at hj; subst hj; simp [Addr.add]
        case c2 => intro u hu; simp at hu; subst hu; rfl
        case c3 => unfold maxLen; omega
        case c4 => omega
        case c5 => have := hbel2.size; simp; omega
        intro v' w1 hown' hgrow _
        have R1 := veil (own_snoc rfl hown')
        have R2 := veil (((hbel2.alloc hbel2.size _).grown hgrow (by have := hbel2.size; simp; omega) (fun k e => (hown2.lt k e).1)))
        clear hown' hgrow hown2 hbel2
        go_wp2_with fail
        go_roundw
        case rel => exact ⟨k + 1, by omega, by go_num, 1, _, rfl, by omega, by omega, by simp [unveil hlen], digs_snoc (unveil hdig) (by omega) (by omega), unveil V 1 (da - db - br + 10) (by omega), unveil R1, unveil R2⟩
        case measure => simp [intOf]; omega
      · have hs' : decide (da - db - br < 0) = false := by simp; omega
        go_wp2_with fail
        go_quiet ((go_at_call 83; exact Calls.quiet_of_same (unveil CB _)))
        have hown2 : (wr.drewN nq).ownsRow w.heap.size 3 1 u5 ds.length (ds.map (Value.int .i64)) := hown
        have hbel2 : Below w.heap.size w (wr.drewN nq) := below_nq hbel nq
        clear hown hbel CB hcr
        generalize wr.drewN nq = wq at *
        go_wp2_with (at_builtin; refine wpList_append_own _ rfl _ _ 26 rfl w.heap.size 3 i0 (.int .i64 0) 1 8 Try.underlying26 hi hz0 hz1 hz2 rfl (by decide) _ _ _ rfl (hown2.alloc _) ⟨wq.heap.size, 0, none⟩ 1 1 [.int .i64 (da - db - br)] rfl rfl ?c1 ?c2 ?c3 ?c4 ?c5 ?_)
        case c1 =>
          intro j u hj
          match j, hj with
          | 0, hj => simp at hj; subst hj; simp [Addr.add]
        case c2 => intro u hu; simp at hu; subst hu; rfl
        case c3 => unfold maxLen; omega
        case c4 => omega
        case c5 => have := hbel2.size; simp; omega
        intro v' w1 hown' hgrow _
        have R1 := veil (own_snoc rfl hown')
        have R2 := veil (((hbel2.alloc hbel2.size _).grown hgrow (by have := hbel2.size; simp; omega) (fun k e => (hown2.lt k e).1)))
        clear hown' hgrow hown2 hbel2
        go_wp2_with fail
        go_roundw
        case rel => exact ⟨k + 1, by omega, by go_num, 0, _, rfl, by omega, by omega, by simp [unveil hlen], digs_snoc (unveil hdig) (by omega) (by omega), unveil V 0 (da - db - br) (by omega), unveil R1, unveil R2⟩
        case measure => simp [intOf]; omega
    · have hka : k = a.length := by omega
      have F := veil (unveil FIN ds br hdig0 (by omega) (by rw [← hka]; exact hval0) c0 c1)
      subst hka
      clear hdig0 hval0 hlen0
      go_wp2_with fail
      refine (trim_any _ ds wr (dg_of_own hown (unveil hdig) (by omega))).mono ?_
      have FR := veil (fresh_of_own hown)
      rintro e w' ⟨v, rfl, rfl, dt, d1, d2, d3, d4, d5⟩
      go_wp2_with fail
      go_ret
      exact ⟨_, rfl, hbel, dt, d1, d2.trans (unveil F), d3, d5 _ (unveil FR)⟩

end Go.Proofs.Ytjlnbhmiahegmaa

namespace Go.Proofs.Ytjlnbhmiahegmaa
open Go.RowKit
set_option linter.unusedVariables false

theorem absI_opp (a : Int) : absI (-a) = absI a := by unfold absI; split <;> split <;> omega

theorem minusB_any (x : Value) (z : Int) (w : World) (hx : BigR w x z) :
    Calls Try.prog 57 #[x] w fun e w' => ∃ y, e = .returned y ∧ Below w.heap.size w w' ∧ BigR w' y (-z) := by
  obtain ⟨o, rfl, ds, hd, hn, hv⟩ := hx
  obtain ⟨_, _, ao, cap, rfl, _⟩ := id hd
  have Hd := veil hd
  have HV := veil hv
  have HS := veil (show ¬ -z = 0 → (!decide (z < 0)) = decide (-z < 0) by
    intro h; by_cases h1 : z < 0 <;> simp [h1] <;> omega)
  clear hd hv
  generalize decide (z < 0) = neg at *
  go_enter Try.func57, Try.ntmps57
  go_wp2_with fail
  refine (sign_any _ _ ds _ ((unveil Hd).later (((Below.refl _ _).alloc (Nat.le_refl _) _).alloc (by simp) _))).mono ?_
  rintro e w1 ⟨rfl, hb⟩
  have f0 := box_later hb (k := w.heap.size + 1) (j := 0) (by simp)
  have f1 := box_later hb (k := w.heap.size + 1) (j := 1) (by simp)
  obtain ⟨f00, f01⟩ := f0
  obtain ⟨f10, f11⟩ := f1
  simp [go_sem] at f00 f01 f10 f11
  have bel : Below w.heap.size w w1 := (((Below.refl _ _).alloc (Nat.le_refl _) _).alloc (by simp) _).trans (hb.mono (by simp; omega))
  have D1 := veil ((unveil Hd).later bel)
  clear hb
  go_wp2_with fail
  have fin : Below w.heap.size w ((w1.setCell ⟨w.heap.size + 1, 0, none⟩ (.bool (!neg && decide (0 < ds.length)))).setCell ⟨w.heap.size + 1, 1, none⟩ (.slice ao ds.length cap)) := (bel.setCell (by simp) _).setCell (by simp) _
  refine bodyPost_ret (v := .agg #[.bool (!neg && decide (0 < ds.length)), .slice ao ds.length cap]) (by simp [results, Try.results57, go_sem, f00, f10]) rfl ?_
  exact ⟨_, rfl, fin, bigR_sign ((unveil Hd).later fin) hn (by rw [unveil HV, absI_opp]) (unveil HS)⟩

set_option maxHeartbeats 1600000 in
theorem plusB_same (na : Bool) (oa ob : Option Addr) (ca cb : Nat) (a b : List Int) (w : World) (ha : Dg w (.slice oa a.length ca) a) (hb : Dg w (.slice ob b.length cb) b)  (la : a.length ≤ 399) (lb : b.length ≤ 399) :
    Calls Try.prog 59 #[.agg #[.bool na, .slice oa a.length ca], .agg #[.bool na, .slice ob b.length cb]] w fun e w' => ∃ v, ∃ ds, e = .returned (.agg #[.bool (na && decide (0 < ds.length)), v]) ∧ Below w.heap.size w w' ∧ Dg w' v ds ∧ dval ds = dval a + dval b ∧ Norm ds ∧ Fresh w.heap.size v := by
  have Ha := veil ha
  have Hb := veil hb
  have PM := PBox.made w na na (.slice oa a.length ca) (.slice ob b.length cb)
  clear ha hb
  go_enter Try.func59, Try.ntmps59
  go_wp2_with fail
  generalize (((w.alloc (.cells #[.bool na, .slice oa a.length ca] 98)).alloc (.cells #[.bool na, .slice ob b.length cb] 98)).alloc (.cells #[.bool false, .slice none 0 0] 98)) = W at *
  have PV := veil PM
  obtain ⟨s, bel, a0, a1, b0, b1, r0, r1, q0, q1⟩ := PM
  have CP := veil (plus_any _ _ a b W.drew ((unveil Ha).later bel.drew) ((unveil Hb).later bel.drew) 399 la lb (by omega))
  have PD := veil (unveil PV).drew
  go_region_held3 (fun w' => w'.cell? ⟨w.heap.size, 0, none⟩ = some (.bool na) ∧ w'.cell? ⟨w.heap.size, 1, none⟩ = some (.slice oa a.length ca) ∧ w'.cell? ⟨w.heap.size + 1, 0, none⟩ = some (.bool na) ∧ w'.cell? ⟨w.heap.size + 1, 1, none⟩ = some (.slice ob b.length cb)) (refine ⟨?_, ?_, ?_, ?_⟩ <;> first | assumption | (rw [World.cell?_setCell_other _ _ _ _ (by simp), World.cell?_setCell_other _ _ _ _ (by simp)]; assumption) | (simp [*]; done)) (first | (go_at_call 79; refine (unveil CP).mono ?_; rintro e w3 ⟨v, rfl, hb3, ds, d3, v3, n3, f3⟩; have P3 := (unveil PD).later hb3; obtain ⟨s3, bel3, a03, a13, b03, b13, r03, r13, q03, q13⟩ := id P3; obtain ⟨_, _, o3, c3, rfl, _⟩ := id d3; have D3 := veil d3; have V3 := veil v3; have N3 := veil n3; have F3 := veil f3; have P3' := veil P3; clear d3 v3 n3 P3 hb3 f3) | (go_at_call 63; refine (sign_any _ _ ds w3 (unveil D3)).mono ?_; rintro e w4 ⟨rfl, hb4⟩; have P4 := (unveil P3').later hb4; obtain ⟨s4, bel4, a04, a14, b04, b14, r04, r14, q04, q14⟩ := id P4; have D4 := veil ((unveil D3).later hb4); clear hb4 P4))
  all_goals go_wp2_with fail
  all_goals
    refine bodyPost_ret (v := .agg #[.bool (na && decide (0 < ds.length)), .slice o3 ds.length c3]) (by simp [results, Try.results59, go_sem, r04, r14]) rfl ?_
    exact ⟨_, ds, rfl, (bel4.setCell (by simp; omega) _).setCell (by simp; omega) _, ((unveil D4).set (unveil F3) s _).set (unveil F3) s _, unveil V3, unveil N3, (unveil F3).mono (Nat.le_of_lt (Nat.lt_of_le_of_lt (by omega) s))⟩

set_option maxHeartbeats 1600000 in
theorem plusB_up_true (oa ob : Option Addr) (ca cb : Nat) (a b : List Int) (w : World) (ha : Dg w (.slice oa a.length ca) a) (hb : Dg w (.slice ob b.length cb) b) (na : Norm a) (nb : Norm b) (hgt : dval a < dval b) (hle : a.length ≤ b.length) (la : a.length ≤ 399) (lb : b.length ≤ 399) :
    Calls Try.prog 59 #[.agg #[.bool true, .slice oa a.length ca], .agg #[.bool false, .slice ob b.length cb]] w fun e w' => ∃ v, ∃ ds, e = .returned (.agg #[.bool (false && decide (0 < ds.length)), v]) ∧ Below w.heap.size w w' ∧ Dg w' v ds ∧ dval ds = dval b - dval a ∧ Norm ds ∧ Fresh w.heap.size v := by
  have Ha := veil ha
  have Hb := veil hb
  have PM := PBox.made w true false (.slice oa a.length ca) (.slice ob b.length cb)
  clear ha hb
  go_enter Try.func59, Try.ntmps59
  go_wp2_with fail
  generalize (((w.alloc (.cells #[.bool true, .slice oa a.length ca] 98)).alloc (.cells #[.bool false, .slice ob b.length cb] 98)).alloc (.cells #[.bool false, .slice none 0 0] 98)) = W at *
  refine (above_any _ _ b a W ((unveil Hb).later PM.bel) ((unveil Ha).later PM.bel) nb na).mono ?_
  rintro e W2 ⟨rfl, n2, hW2⟩
  rw [show decide (dval a < dval b) = true by simp; omega]
  have PM2 : PBox w W2 (.slice oa a.length ca) (.slice ob b.length cb) (.bool true) (.bool false) := by rw [hW2]; exact PM.drewN n2
  clear hW2 PM
  go_wp2_with fail
  have PV := veil PM2
  obtain ⟨s, bel, a0, a1, b0, b1, r0, r1, q0, q1⟩ := PM2
  have CP := veil (minus_any _ _ b a W2.drew ((unveil Hb).later bel.drew) ((unveil Ha).later bel.drew) (by omega) hle (by omega))
  have PD := veil (unveil PV).drew
  go_region_held3 (fun w' => w'.cell? ⟨w.heap.size, 0, none⟩ = some (.bool true) ∧ w'.cell? ⟨w.heap.size, 1, none⟩ = some (.slice oa a.length ca) ∧ w'.cell? ⟨w.heap.size + 1, 0, none⟩ = some (.bool false) ∧ w'.cell? ⟨w.heap.size + 1, 1, none⟩ = some (.slice ob b.length cb)) (refine ⟨?_, ?_, ?_, ?_⟩ <;> first | assumption | (rw [World.cell?_setCell_other _ _ _ _ (by simp), World.cell?_setCell_other _ _ _ _ (by simp)]; assumption) | (simp [*]; done)) (first | (go_at_call 81; refine (unveil CP).mono ?_; rintro e w3 ⟨v, rfl, hb3, ds, d3, v3, n3, f3⟩; have P3 := (unveil PD).later hb3; obtain ⟨s3, bel3, a03, a13, b03, b13, r03, r13, q03, q13⟩ := id P3; obtain ⟨_, _, o3, c3, rfl, _⟩ := id d3; have D3 := veil d3; have V3 := veil v3; have N3 := veil n3; have F3 := veil f3; have P3' := veil P3; clear d3 v3 n3 P3 hb3 f3) | (go_at_call 63; refine (sign_any _ _ ds w3 (unveil D3)).mono ?_; rintro e w4 ⟨rfl, hb4⟩; have P4 := (unveil P3').later hb4; obtain ⟨s4, bel4, a04, a14, b04, b14, r04, r14, q04, q14⟩ := id P4; have D4 := veil ((unveil D3).later hb4); clear hb4 P4))
  all_goals go_wp2_with fail
  all_goals
    refine bodyPost_ret (v := .agg #[.bool (false && decide (0 < ds.length)), .slice o3 ds.length c3]) (by simp [results, Try.results59, go_sem, r04, r14]) rfl ?_
    exact ⟨_, ds, rfl, (bel4.setCell (by simp; omega) _).setCell (by simp; omega) _, ((unveil D4).set (unveil F3) s _).set (unveil F3) s _, unveil V3, unveil N3, (unveil F3).mono (Nat.le_of_lt (Nat.lt_of_le_of_lt (by omega) s))⟩

set_option maxHeartbeats 1600000 in
theorem plusB_down_true (oa ob : Option Addr) (ca cb : Nat) (a b : List Int) (w : World) (ha : Dg w (.slice oa a.length ca) a) (hb : Dg w (.slice ob b.length cb) b) (na : Norm a) (nb : Norm b) (hgt : dval b ≤ dval a) (hle : b.length ≤ a.length) (la : a.length ≤ 399) (lb : b.length ≤ 399) :
    Calls Try.prog 59 #[.agg #[.bool true, .slice oa a.length ca], .agg #[.bool false, .slice ob b.length cb]] w fun e w' => ∃ v, ∃ ds, e = .returned (.agg #[.bool (true && decide (0 < ds.length)), v]) ∧ Below w.heap.size w w' ∧ Dg w' v ds ∧ dval ds = dval a - dval b ∧ Norm ds ∧ Fresh w.heap.size v := by
  have Ha := veil ha
  have Hb := veil hb
  have PM := PBox.made w true false (.slice oa a.length ca) (.slice ob b.length cb)
  clear ha hb
  go_enter Try.func59, Try.ntmps59
  go_wp2_with fail
  generalize (((w.alloc (.cells #[.bool true, .slice oa a.length ca] 98)).alloc (.cells #[.bool false, .slice ob b.length cb] 98)).alloc (.cells #[.bool false, .slice none 0 0] 98)) = W at *
  refine (above_any _ _ b a W ((unveil Hb).later PM.bel) ((unveil Ha).later PM.bel) nb na).mono ?_
  rintro e W2 ⟨rfl, n2, hW2⟩
  rw [show decide (dval a < dval b) = false by simp; omega]
  have PM2 : PBox w W2 (.slice oa a.length ca) (.slice ob b.length cb) (.bool true) (.bool false) := by rw [hW2]; exact PM.drewN n2
  clear hW2 PM
  go_wp2_with fail
  have PV := veil PM2
  obtain ⟨s, bel, a0, a1, b0, b1, r0, r1, q0, q1⟩ := PM2
  have CP := veil (minus_any _ _ a b W2.drew ((unveil Ha).later bel.drew) ((unveil Hb).later bel.drew) (by omega) hle (by omega))
  have PD := veil (unveil PV).drew
  go_region_held3 (fun w' => w'.cell? ⟨w.heap.size, 0, none⟩ = some (.bool true) ∧ w'.cell? ⟨w.heap.size, 1, none⟩ = some (.slice oa a.length ca) ∧ w'.cell? ⟨w.heap.size + 1, 0, none⟩ = some (.bool false) ∧ w'.cell? ⟨w.heap.size + 1, 1, none⟩ = some (.slice ob b.length cb)) (refine ⟨?_, ?_, ?_, ?_⟩ <;> first | assumption | (rw [World.cell?_setCell_other _ _ _ _ (by simp), World.cell?_setCell_other _ _ _ _ (by simp)]; assumption) | (simp [*]; done)) (first | (go_at_call 81; refine (unveil CP).mono ?_; rintro e w3 ⟨v, rfl, hb3, ds, d3, v3, n3, f3⟩; have P3 := (unveil PD).later hb3; obtain ⟨s3, bel3, a03, a13, b03, b13, r03, r13, q03, q13⟩ := id P3; obtain ⟨_, _, o3, c3, rfl, _⟩ := id d3; have D3 := veil d3; have V3 := veil v3; have N3 := veil n3; have F3 := veil f3; have P3' := veil P3; clear d3 v3 n3 P3 hb3 f3) | (go_at_call 63; refine (sign_any _ _ ds w3 (unveil D3)).mono ?_; rintro e w4 ⟨rfl, hb4⟩; have P4 := (unveil P3').later hb4; obtain ⟨s4, bel4, a04, a14, b04, b14, r04, r14, q04, q14⟩ := id P4; have D4 := veil ((unveil D3).later hb4); clear hb4 P4))
  all_goals go_wp2_with fail
  all_goals
    refine bodyPost_ret (v := .agg #[.bool (true && decide (0 < ds.length)), .slice o3 ds.length c3]) (by simp [results, Try.results59, go_sem, r04, r14]) rfl ?_
    exact ⟨_, ds, rfl, (bel4.setCell (by simp; omega) _).setCell (by simp; omega) _, ((unveil D4).set (unveil F3) s _).set (unveil F3) s _, unveil V3, unveil N3, (unveil F3).mono (Nat.le_of_lt (Nat.lt_of_le_of_lt (by omega) s))⟩

set_option maxHeartbeats 1600000 in
theorem plusB_up_false (oa ob : Option Addr) (ca cb : Nat) (a b : List Int) (w : World) (ha : Dg w (.slice oa a.length ca) a) (hb : Dg w (.slice ob b.length cb) b) (na : Norm a) (nb : Norm b) (hgt : dval a < dval b) (hle : a.length ≤ b.length) (la : a.length ≤ 399) (lb : b.length ≤ 399) :
    Calls Try.prog 59 #[.agg #[.bool false, .slice oa a.length ca], .agg #[.bool true, .slice ob b.length cb]] w fun e w' => ∃ v, ∃ ds, e = .returned (.agg #[.bool (true && decide (0 < ds.length)), v]) ∧ Below w.heap.size w w' ∧ Dg w' v ds ∧ dval ds = dval b - dval a ∧ Norm ds ∧ Fresh w.heap.size v := by
  have Ha := veil ha
  have Hb := veil hb
  have PM := PBox.made w false true (.slice oa a.length ca) (.slice ob b.length cb)
  clear ha hb
  go_enter Try.func59, Try.ntmps59
  go_wp2_with fail
  generalize (((w.alloc (.cells #[.bool false, .slice oa a.length ca] 98)).alloc (.cells #[.bool true, .slice ob b.length cb] 98)).alloc (.cells #[.bool false, .slice none 0 0] 98)) = W at *
  refine (above_any _ _ b a W ((unveil Hb).later PM.bel) ((unveil Ha).later PM.bel) nb na).mono ?_
  rintro e W2 ⟨rfl, n2, hW2⟩
  rw [show decide (dval a < dval b) = true by simp; omega]
  have PM2 : PBox w W2 (.slice oa a.length ca) (.slice ob b.length cb) (.bool false) (.bool true) := by rw [hW2]; exact PM.drewN n2
  clear hW2 PM
  go_wp2_with fail
  have PV := veil PM2
  obtain ⟨s, bel, a0, a1, b0, b1, r0, r1, q0, q1⟩ := PM2
  have CP := veil (minus_any _ _ b a W2.drew ((unveil Hb).later bel.drew) ((unveil Ha).later bel.drew) (by omega) hle (by omega))
  have PD := veil (unveil PV).drew
  go_region_held3 (fun w' => w'.cell? ⟨w.heap.size, 0, none⟩ = some (.bool false) ∧ w'.cell? ⟨w.heap.size, 1, none⟩ = some (.slice oa a.length ca) ∧ w'.cell? ⟨w.heap.size + 1, 0, none⟩ = some (.bool true) ∧ w'.cell? ⟨w.heap.size + 1, 1, none⟩ = some (.slice ob b.length cb)) (refine ⟨?_, ?_, ?_, ?_⟩ <;> first | assumption | (rw [World.cell?_setCell_other _ _ _ _ (by simp), World.cell?_setCell_other _ _ _ _ (by simp)]; assumption) | (simp [*]; done)) (first | (go_at_call 81; refine (unveil CP).mono ?_; rintro e w3 ⟨v, rfl, hb3, ds, d3, v3, n3, f3⟩; have P3 := (unveil PD).later hb3; obtain ⟨s3, bel3, a03, a13, b03, b13, r03, r13, q03, q13⟩ := id P3; obtain ⟨_, _, o3, c3, rfl, _⟩ := id d3; have D3 := veil d3; have V3 := veil v3; have N3 := veil n3; have F3 := veil f3; have P3' := veil P3; clear d3 v3 n3 P3 hb3 f3) | (go_at_call 63; refine (sign_any _ _ ds w3 (unveil D3)).mono ?_; rintro e w4 ⟨rfl, hb4⟩; have P4 := (unveil P3').later hb4; obtain ⟨s4, bel4, a04, a14, b04, b14, r04, r14, q04, q14⟩ := id P4; have D4 := veil ((unveil D3).later hb4); clear hb4 P4))
  all_goals go_wp2_with fail
  all_goals
    refine bodyPost_ret (v := .agg #[.bool (true && decide (0 < ds.length)), .slice o3 ds.length c3]) (by simp [results, Try.results59, go_sem, r04, r14]) rfl ?_
    exact ⟨_, ds, rfl, (bel4.setCell (by simp; omega) _).setCell (by simp; omega) _, ((unveil D4).set (unveil F3) s _).set (unveil F3) s _, unveil V3, unveil N3, (unveil F3).mono (Nat.le_of_lt (Nat.lt_of_le_of_lt (by omega) s))⟩

set_option maxHeartbeats 1600000 in
theorem plusB_down_false (oa ob : Option Addr) (ca cb : Nat) (a b : List Int) (w : World) (ha : Dg w (.slice oa a.length ca) a) (hb : Dg w (.slice ob b.length cb) b) (na : Norm a) (nb : Norm b) (hgt : dval b ≤ dval a) (hle : b.length ≤ a.length) (la : a.length ≤ 399) (lb : b.length ≤ 399) :
    Calls Try.prog 59 #[.agg #[.bool false, .slice oa a.length ca], .agg #[.bool true, .slice ob b.length cb]] w fun e w' => ∃ v, ∃ ds, e = .returned (.agg #[.bool (false && decide (0 < ds.length)), v]) ∧ Below w.heap.size w w' ∧ Dg w' v ds ∧ dval ds = dval a - dval b ∧ Norm ds ∧ Fresh w.heap.size v := by
  have Ha := veil ha
  have Hb := veil hb
  have PM := PBox.made w false true (.slice oa a.length ca) (.slice ob b.length cb)
  clear ha hb
  go_enter Try.func59, Try.ntmps59
  go_wp2_with fail
  generalize (((w.alloc (.cells #[.bool false, .slice oa a.length ca] 98)).alloc (.cells #[.bool true, .slice ob b.length cb] 98)).alloc (.cells #[.bool false, .slice none 0 0] 98)) = W at *
  refine (above_any _ _ b a W ((unveil Hb).later PM.bel) ((unveil Ha).later PM.bel) nb na).mono ?_
  rintro e W2 ⟨rfl, n2, hW2⟩
  rw [show decide (dval a < dval b) = false by simp; omega]
  have PM2 : PBox w W2 (.slice oa a.length ca) (.slice ob b.length cb) (.bool false) (.bool true) := by rw [hW2]; exact PM.drewN n2
  clear hW2 PM
  go_wp2_with fail
  have PV := veil PM2
  obtain ⟨s, bel, a0, a1, b0, b1, r0, r1, q0, q1⟩ := PM2
  have CP := veil (minus_any _ _ a b W2.drew ((unveil Ha).later bel.drew) ((unveil Hb).later bel.drew) (by omega) hle (by omega))
  have PD := veil (unveil PV).drew
  go_region_held3 (fun w' => w'.cell? ⟨w.heap.size, 0, none⟩ = some (.bool false) ∧ w'.cell? ⟨w.heap.size, 1, none⟩ = some (.slice oa a.length ca) ∧ w'.cell? ⟨w.heap.size + 1, 0, none⟩ = some (.bool true) ∧ w'.cell? ⟨w.heap.size + 1, 1, none⟩ = some (.slice ob b.length cb)) (refine ⟨?_, ?_, ?_, ?_⟩ <;> first | assumption | (rw [World.cell?_setCell_other _ _ _ _ (by simp), World.cell?_setCell_other _ _ _ _ (by simp)]; assumption) | (simp [*]; done)) (first | (go_at_call 81; refine (unveil CP).mono ?_; rintro e w3 ⟨v, rfl, hb3, ds, d3, v3, n3, f3⟩; have P3 := (unveil PD).later hb3; obtain ⟨s3, bel3, a03, a13, b03, b13, r03, r13, q03, q13⟩ := id P3; obtain ⟨_, _, o3, c3, rfl, _⟩ := id d3; have D3 := veil d3; have V3 := veil v3; have N3 := veil n3; have F3 := veil f3; have P3' := veil P3; clear d3 v3 n3 P3 hb3 f3) | (go_at_call 63; refine (sign_any _ _ ds w3 (unveil D3)).mono ?_; rintro e w4 ⟨rfl, hb4⟩; have P4 := (unveil P3').later hb4; obtain ⟨s4, bel4, a04, a14, b04, b14, r04, r14, q04, q14⟩ := id P4; have D4 := veil ((unveil D3).later hb4); clear hb4 P4))
  all_goals go_wp2_with fail
  all_goals
    refine bodyPost_ret (v := .agg #[.bool (false && decide (0 < ds.length)), .slice o3 ds.length c3]) (by simp [results, Try.results59, go_sem, r04, r14]) rfl ?_
    exact ⟨_, ds, rfl, (bel4.setCell (by simp; omega) _).setCell (by simp; omega) _, ((unveil D4).set (unveil F3) s _).set (unveil F3) s _, unveil V3, unveil N3, (unveil F3).mono (Nat.le_of_lt (Nat.lt_of_le_of_lt (by omega) s))⟩

end Go.Proofs.Ytjlnbhmiahegmaa

namespace Go.Proofs.Ytjlnbhmiahegmaa
open Go.RowKit
set_option linter.unusedVariables false

theorem norm_le_len {a b : List Int} (hb : Digs b) (ha : Digs a) (na : Norm a) (h : dval a ≤ dval b) : a.length ≤ b.length := by
  refine Nat.le_of_not_lt fun hc => ?_
  have := norm_longer ha na hb hc
  omega

theorem agg_snd {a b x y : Value} (h : Value.agg #[a, x] = .agg #[b, y]) : x = y := by
  injection h with h
  have := congrArg (fun l : Array Value => l.toList) h
  simp at this
  exact this.2

theorem plusB_any (x y : Value) (p q : Int) (w : World) (hx : BigR w x p) (hy : BigR w y q) (bp : absI p < ten 100) (bq : absI q < ten 100) :
    Calls Try.prog 59 #[x, y] w fun e w' => ∃ z, e = .returned z ∧ Below w.heap.size w w' ∧ BigR w' z (p + q) ∧ ∀ ng o, z = .agg #[.bool ng, o] → Fresh w.heap.size o := by
  obtain ⟨o1, rfl, a, da, na, va⟩ := hx
  obtain ⟨o2, rfl, b, db, nb, vb⟩ := hy
  obtain ⟨_, _, oa, ca, rfl, _⟩ := id da
  obtain ⟨_, _, ob, cb, rfl, _⟩ := id db
  have la := norm_len da.1 na (k := 100) (by omega)
  have lb := norm_len db.1 nb (k := 100) (by omega)
  by_cases hp : p < 0
  · rw [decide_eq_true hp]
    rw [absI_neg hp] at va
    by_cases hq : q < 0
    · rw [decide_eq_true hq]
      rw [absI_neg hq] at vb
      refine (plusB_same true oa ob ca cb a b w da db (by omega) (by omega)).mono ?_
      rintro e w' ⟨v, ds, rfl, hbel, hd, hv, hn, hfr⟩
      exact ⟨_, rfl, hbel, bigR_sign hd hn (by rw [hv, absI_neg (by omega)]; omega) (fun _ => (decide_eq_true (by omega)).symm), fun ng o e => by rw [← agg_snd e]; exact hfr⟩
    · rw [decide_eq_false hq]
      rw [absI_pos hq] at vb
      by_cases h : dval a < dval b
      · refine (plusB_up_true oa ob ca cb a b w da db na nb h (norm_le_len db.1 da.1 na (by omega)) (by omega) (by omega)).mono ?_
        rintro e w' ⟨v, ds, rfl, hbel, hd, hv, hn, hfr⟩
        exact ⟨_, rfl, hbel, bigR_sign hd hn (by rw [hv, absI_pos (by omega)]; omega) (fun _ => (decide_eq_false (by omega)).symm), fun ng o e => by rw [← agg_snd e]; exact hfr⟩
      · refine (plusB_down_true oa ob ca cb a b w da db na nb (by omega) (norm_le_len da.1 db.1 nb (by omega)) (by omega) (by omega)).mono ?_
        rintro e w' ⟨v, ds, rfl, hbel, hd, hv, hn, hfr⟩
        exact ⟨_, rfl, hbel, bigR_sign hd hn (by rw [hv]; unfold absI; split <;> omega) (fun _ => (decide_eq_true (by omega)).symm), fun ng o e => by rw [← agg_snd e]; exact hfr⟩
  · rw [decide_eq_false hp]
    rw [absI_pos hp] at va
    by_cases hq : q < 0
    · rw [decide_eq_true hq]
      rw [absI_neg hq] at vb
      by_cases h : dval a < dval b
      · refine (plusB_up_false oa ob ca cb a b w da db na nb h (norm_le_len db.1 da.1 na (by omega)) (by omega) (by omega)).mono ?_
        rintro e w' ⟨v, ds, rfl, hbel, hd, hv, hn, hfr⟩
        exact ⟨_, rfl, hbel, bigR_sign hd hn (by rw [hv, absI_neg (by omega)]; omega) (fun _ => (decide_eq_true (by omega)).symm), fun ng o e => by rw [← agg_snd e]; exact hfr⟩
      · refine (plusB_down_false oa ob ca cb a b w da db na nb (by omega) (norm_le_len da.1 db.1 nb (by omega)) (by omega) (by omega)).mono ?_
        rintro e w' ⟨v, ds, rfl, hbel, hd, hv, hn, hfr⟩
        exact ⟨_, rfl, hbel, bigR_sign hd hn (by rw [hv]; unfold absI; split <;> omega) (fun _ => (decide_eq_false (by omega)).symm), fun ng o e => by rw [← agg_snd e]; exact hfr⟩
    · rw [decide_eq_false hq]
      rw [absI_pos hq] at vb
      refine (plusB_same false oa ob ca cb a b w da db (by omega) (by omega)).mono ?_
      rintro e w' ⟨v, ds, rfl, hbel, hd, hv, hn, hfr⟩
      exact ⟨_, rfl, hbel, bigR_sign hd hn (by rw [hv, absI_pos (by omega)]; omega) (fun _ => (decide_eq_false (by omega)).symm), fun ng o e => by rw [← agg_snd e]; exact hfr⟩

theorem ten100 (z : Int) (h : inR z) : absI z < ten 100 := by
  have h1 := (absI_bd z h).2
  have h2 := ten_le (show 19 ≤ 100 by omega)
  rw [ten19] at h2
  omega

theorem refAdd_any (a b : Int) (ha : inR a) (hb : inR b) (w : World) :
    Calls Try.prog 40 #[.int .i64 a, .int .i64 b] w fun e w' => e = .returned (.tuple #[.int .i64 (fitV (a + b)), .int .i64 (fitF (a + b))]) ∧ Below w.heap.size w w' := by
  go_enter Try.func40, Try.ntmps40
  go_wp2_with fail
  refine (from_any a ha _).mono ?_
  rintro e w1 ⟨x, rfl, hb1, hx⟩
  obtain ⟨o, rfl, hx'⟩ := id hx
  go_wp2_with fail
  refine (from_any b hb _).mono ?_
  rintro e w2 ⟨y, rfl, hb2, hy⟩
  obtain ⟨o2, rfl, hy'⟩ := id hy
  go_wp2_with fail
  refine (plusB_any _ _ a b w2 (hx.later hb2) hy (ten100 a ha) (ten100 b hb)).mono ?_
  rintro e w3 ⟨z, rfl, hb3, hz, _⟩
  go_wp2_with fail
  refine (out_any _ _ w3 hz).mono ?_
  rintro e w4 ⟨rfl, hb4⟩
  go_wp2_with fail
  go_ret2
  exact ⟨rfl, chain (chain (chain hb1 (Nat.le_refl _) hb2) (Nat.le_refl _) hb3) (Nat.le_refl _) hb4⟩

theorem refSub_any (a b : Int) (ha : inR a) (hb : inR b) (w : World) :
    Calls Try.prog 41 #[.int .i64 a, .int .i64 b] w fun e w' => e = .returned (.tuple #[.int .i64 (fitV (a - b)), .int .i64 (fitF (a - b))]) ∧ Below w.heap.size w w' := by
  go_enter Try.func41, Try.ntmps41
  go_wp2_with fail
  refine (from_any a ha _).mono ?_
  rintro e w1 ⟨x, rfl, hb1, hx⟩
  obtain ⟨o, rfl, hx'⟩ := id hx
  go_wp2_with fail
  refine (from_any b hb _).mono ?_
  rintro e w2 ⟨y, rfl, hb2, hy⟩
  obtain ⟨o2, rfl, hy'⟩ := id hy
  go_wp2_with fail
  refine (minusB_any _ b w2 hy).mono ?_
  rintro e w3 ⟨y2, rfl, hb3, hy2⟩
  go_wp2_with fail
  refine (plusB_any _ _ a (-b) w3 ((hx.later hb2).later hb3) hy2 (ten100 a ha) (by rw [absI_opp]; exact ten100 b hb)).mono ?_
  rintro e w4 ⟨z, rfl, hb4, hz, _⟩
  go_wp2_with fail
  refine (out_any _ _ w4 hz).mono ?_
  rintro e w5 ⟨rfl, hb5⟩
  go_wp2_with fail
  go_ret2
  exact ⟨ret_ii (by rw [Int.sub_eq_add_neg]) (by rw [Int.sub_eq_add_neg]), chain (chain (chain (chain hb1 (Nat.le_refl _) hb2) (Nat.le_refl _) hb3) (Nat.le_refl _) hb4) (Nat.le_refl _) hb5⟩

theorem refNeg_any (a : Int) (ha : inR a) (w : World) :
    Calls Try.prog 38 #[.int .i64 a] w fun e w' => e = .returned (.tuple #[.int .i64 (fitV (-a)), .int .i64 (fitF (-a))]) ∧ Below w.heap.size w w' := by
  go_enter Try.func38, Try.ntmps38
  go_wp2_with fail
  refine (from_any a ha _).mono ?_
  rintro e w1 ⟨x, rfl, hb1, hx⟩
  obtain ⟨o, rfl, hx'⟩ := id hx
  go_wp2_with fail
  refine (minusB_any _ a w1 hx).mono ?_
  rintro e w2 ⟨y, rfl, hb2, hy⟩
  go_wp2_with fail
  refine (out_any _ _ w2 hy).mono ?_
  rintro e w3 ⟨rfl, hb3⟩
  go_wp2_with fail
  go_ret2
  exact ⟨rfl, chain (chain hb1 (Nat.le_refl _) hb2) (Nat.le_refl _) hb3⟩

theorem refAbs_any (a : Int) (ha : inR a) (w : World) :
    Calls Try.prog 39 #[.int .i64 a] w fun e w' => e = .returned (.tuple #[.int .i64 (fitV (absI a)), .int .i64 (fitF (absI a))]) ∧ Below w.heap.size w w' := by
  have hfD := field_D
  go_enter Try.func39, Try.ntmps39
  go_wp2_with fail
  refine (from_any a ha _).mono ?_
  rintro e w1 ⟨x, rfl, hb1, o, rfl, ds, hd, hn, hv⟩
  obtain ⟨_, _, oa, ca, rfl, _⟩ := id hd
  go_wp2_with fail
  have hB : BigR w1 (.agg #[.bool false, .slice oa ds.length ca]) (absI a) := by
    have e : absI (absI a) = absI a := absI_pos (a := absI a) (by have := absI_nonneg a; omega)
    refine ⟨_, ?_, ds, hd, hn, hv.trans e.symm⟩
    rw [decide_eq_false (by have := absI_nonneg a; omega)]
  refine (out_any _ _ w1 hB).mono ?_
  rintro e w2 ⟨rfl, hb2⟩
  go_wp2_with fail
  go_ret2
  exact ⟨rfl, chain hb1 (Nat.le_refl _) hb2⟩

end Go.Proofs.Ytjlnbhmiahegmaa
