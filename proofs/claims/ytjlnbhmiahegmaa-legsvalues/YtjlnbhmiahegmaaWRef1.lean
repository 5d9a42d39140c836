/-
  WALKS: the document's answer (payoffref01): trim, at, above.
-/
import Derived.Test.YtjlnbhmiahegmaaRows
import Derived.WalkKit
import Derived.WalkSpells
import Derived.BigQuiet
import Derived.Test.YtjlnbhmiahegmaaPlainDig
import Derived.Test.YtjlnbhmiahegmaaWMul
namespace Go.Proofs.Ytjlnbhmiahegmaa
open Go.RowKit

/-- A value that reads as a list of digits. -/
def Dg (w : World) (v : Value) (ds : List Int) : Prop :=
  Digs ds ∧ ds.length ≤ 1000 ∧ ∃ ao cap, v = .slice ao ds.length cap ∧ ds.length ≤ cap ∧ (cap ≤ maxLen ∧ (ao = none → cap = 0)) ∧
    (ds.length = 0 ∨ ∃ b off, ao = some ⟨b, off, none⟩ ∧ b < w.heap.size ∧ ∀ i, i < ds.length → w.cell? ⟨b, off + i, none⟩ = some (.int .i64 (ds.getD i 0)))

theorem Dg.later {w w' : World} {v : Value} {ds : List Int} (h : Dg w v ds) (hb : Below w.heap.size w w') : Dg w' v ds := by
  obtain ⟨h1, h2, ao, cap, hv, hc, hm, hd⟩ := h
  refine ⟨h1, h2, ao, cap, hv, hc, hm, ?_⟩
  rcases hd with h0 | ⟨b, off, ha, hlt, hcell⟩
  · exact Or.inl h0
  · exact Or.inr ⟨b, off, ha, Nat.lt_of_lt_of_le hlt hb.size, fun i hi => (hb.cell (p := ⟨b, off + i, none⟩) hlt).trans (hcell i hi)⟩
/-- What is not empty lies in a block from B on. -/
def Fresh (B : Nat) (v : Value) : Prop := ∀ p n c, v = .slice (some p) n c → n ≠ 0 → B ≤ p.block
theorem Fresh.mono {B B' : Nat} {v : Value} (h : Fresh B v) (hB : B' ≤ B) : Fresh B' v := fun p n c e hn => Nat.le_trans hB (h p n c e hn)
theorem Fresh.cut {B : Nat} {ao : Option Addr} {n c k : Nat} (h : Fresh B (.slice ao n c)) (hk : k ≤ n) : Fresh B (.slice ao k c) := fun p m c' e hm => by
  injection e with e1 e2 e3
  subst e1 e2
  exact h p n c rfl (by omega)
/-- A store into a box leaves digits of other blocks alone. -/
theorem Dg.set {w : World} {v : Value} {ds : List Int} (h : Dg w v ds) {k j : Nat} {B : Nat} (hf : Fresh B v) (hk : k < B) (u : Value) : Dg (w.setCell ⟨k, j, none⟩ u) v ds := by
  obtain ⟨h1, h2, ao, cap, hv, hc, hm, hd⟩ := h
  refine ⟨h1, h2, ao, cap, hv, hc, hm, ?_⟩
  rcases hd with h0 | ⟨b, off, ha, hlt, hcell⟩
  · exact Or.inl h0
  · by_cases h0 : ds.length = 0
    · exact Or.inl h0
    · have hb := hf ⟨b, off, none⟩ ds.length cap (by rw [hv, ha]) h0
      refine Or.inr ⟨b, off, ha, by simpa using hlt, fun i hi => ?_⟩
      rw [World.cell?_setCell_other _ _ _ _ (by intro e; injection e with e1; simp at hb; omega)]
      exact hcell i hi
theorem below_nq {B : Nat} {a w : World} (h : Below B a w) (n : Nat) : Below B a (w.drewN n) := ⟨h.os, h.tape, h.output, h.size, h.block⟩
theorem Dg.draws {w : World} {v : Value} {ds : List Int} (h : Dg w v ds) (n : Nat) : Dg (w.drewN n) v ds := h

theorem at_any (v : Value) (ds : List Int) (i : Nat) (w : World) (hi : i ≤ 100000) (hd : Dg w v ds) :
    Calls Try.prog 83 #[v, .int .i64 i] w fun e w' => e = .returned (.int .i64 (ds.getD i 0)) ∧ w' = w := by
  obtain ⟨h1, h2, ao, cap, rfl, hc, hm, hr⟩ := hd
  by_cases hlt : i < ds.length
  · rcases hr with h0 | ⟨b, off, rfl, hb, hcell⟩
    · omega
    · have hx := hcell i hlt
      clear hcell h1
      generalize ds.getD i 0 = d at *
      go_enter Try.func83, Try.ntmps83
      go_wp2
      go_ret
      exact ⟨rfl, rfl⟩
  · have e : ds.getD i 0 = 0 := by simp [List.getElem?_eq_none (Nat.le_of_not_lt hlt)]
    rw [e]
    clear hr h1 e
    go_enter Try.func83, Try.ntmps83
    go_wp2
    go_ret
    exact ⟨rfl, rfl⟩

theorem at_keep (v : Value) (ds : List Int) (i : Nat) (w : World) (hi : i ≤ 100000) (hd : Dg w v ds) :
    Calls Try.prog 83 #[v, .int .i64 i] w fun e w' => e = .returned (.int .i64 (ds.getD i 0)) ∧ w = w' := by
  refine (at_any v ds i w hi hd).mono ?_
  rintro e w' ⟨rfl, rfl⟩
  exact ⟨rfl, rfl⟩

theorem trim_any (v : Value) (ds : List Int) (w : World) (hd : Dg w v ds) :
    Calls Try.prog 84 #[v] w fun e w' => ∃ v', e = .returned v' ∧ w' = w ∧ ∃ ds', Dg w v' ds' ∧ dval ds' = dval ds ∧ Norm ds' ∧ ds'.length ≤ ds.length ∧ ∀ B, Fresh B v → Fresh B v' := by
  obtain ⟨h1, h2, ao, cap, rfl, hc, hm, hr⟩ := hd
  have D : ∀ k, k ≤ ds.length → Dg w (.slice ao k cap) (ds.take k) := by
    intro k hk
    have hl : (ds.take k).length = k := by rw [List.length_take, Nat.min_eq_left hk]
    refine ⟨digs_take h1 k, by omega, ao, cap, by rw [hl], by omega, hm, ?_⟩
    rcases hr with h0 | ⟨b, off, ha, hb, hcell⟩
    · exact Or.inl (by omega)
    · refine Or.inr ⟨b, off, ha, hb, fun i hi => ?_⟩
      have e : (ds.take k).getD i 0 = ds.getD i 0 := by
        simp only [List.getD_eq_getElem?_getD, List.getElem?_take, if_pos (show i < k by omega)]
      rw [e]; exact hcell i (by omega)
  have N : ∀ k, k ≤ ds.length → (k = 0 ∨ ¬ ds.getD (k - 1) 0 = 0) → Norm (ds.take k) := by
    intro k hk hz
    have hl : (ds.take k).length = k := by rw [List.length_take, Nat.min_eq_left hk]
    unfold Norm
    rw [hl]
    rcases hz with h0 | h0
    · exact Or.inl h0
    · by_cases hk0 : k = 0
      · exact Or.inl hk0
      · right
        have e : (ds.take k).getD (k - 1) 0 = ds.getD (k - 1) 0 := by
          simp only [List.getD_eq_getElem?_getD, List.getElem?_take, if_pos (show k - 1 < k by omega)]
        rw [e]; exact h0
  have L : ∀ k, k ≤ ds.length → (ds.take k).length ≤ ds.length := fun k _ => by rw [List.length_take]; omega
  have D' := veil D
  have N' := veil N
  have L' := veil L
  have C : ∀ i, i < ds.length → ∃ b off, ao = some ⟨b, off, none⟩ ∧ w.cell? ⟨b, off + i, none⟩ = some (.int .i64 (ds.getD i 0)) := by
    intro i hi
    rcases hr with h0 | ⟨b, off, ha, hb, hcell⟩
    · omega
    · exact ⟨b, off, ha, hcell i hi⟩
  have C' := veil C
  have S' := veil (dval_take_succ ds)
  have T0 := veil (dval_take_all ds ds.length (Nat.le_refl _))
  clear D N L hr C h1
  generalize hn : ds.length = n at *
  have Hn := veil hn
  clear hn
  go_enter Try.func84, Try.ntmps84
  go_wp2_with fail
  go_loop [3] (fun a => ∃ k : Nat, k ≤ n ∧ a = .int .i64 k ∧ dval (ds.take k) = dval ds) (fun a => (intOf a).toNat)
  case atStart => exact ⟨n, Nat.le_refl _, rfl, unveil T0⟩
  case round =>
    obtain ⟨k, hk, rfl, hv⟩ := hrel
    have V := veil hv
    clear hv
    cases k with
    | zero =>
      have hg : decide ((0 : Int) < ((0 : Nat) : Int)) = false := by simp
      go_wp2_with fail
      go_ret
      exact ⟨_, rfl, rfl, _, unveil D' 0 (by omega), unveil V, unveil N' 0 (by omega) (Or.inl rfl), unveil L' 0 (by omega), fun B h => h.cut (by omega)⟩
    | succ m =>
      obtain ⟨b, off, rfl, hcell⟩ := unveil C' m (by omega)
      by_cases hz : ds.getD m 0 = 0
      · have Z := veil (show dval (ds.take m) = dval ds by have := unveil S' m; rw [hz, unveil V] at this; simp at this; exact this.symm)
        rw [hz] at hcell
        clear hz
        go_wp2_with fail
        go_round
        case rel => exact ⟨m, by omega, by go_num, unveil Z⟩
        case measure => simp [intOf]
      · have hz' : (ds.getD m 0 == 0) = false := by simpa using hz
        have NN := veil (unveil N' (m + 1) hk (Or.inr hz))
        clear hz
        generalize ds.getD m 0 = d at *
        go_wp2_with fail
        go_ret
        exact ⟨_, rfl, rfl, _, unveil D' (m + 1) hk, unveil V, unveil NN, unveil L' (m + 1) hk, fun B h => h.cut hk⟩

theorem above_any (va vb : Value) (a b : List Int) (w : World) (ha : Dg w va a) (hb : Dg w vb b) (na : Norm a) (nb : Norm b) :
    Calls Try.prog 80 #[va, vb] w fun e w' => e = .returned (.bool (decide (dval b < dval a))) ∧ ∃ n, w' = w.drewN n := by
  obtain ⟨a1, a2, ao, cap, rfl, ac, am, ar⟩ := ha
  obtain ⟨b1, b2, bo, cap', rfl, bc, bm, br⟩ := hb
  by_cases hl : a.length = b.length
  · have Q : ∀ k, k ≤ a.length → a.drop k = b.drop k → (k = 0 → decide (dval b < dval a) = false) ∧ (∀ m, k = m + 1 → (a.getD m 0 = b.getD m 0 → a.drop m = b.drop m) ∧
        (¬ a.getD m 0 = b.getD m 0 → decide (b.getD m 0 < a.getD m 0) = decide (dval b < dval a))) := by
      intro k hk he
      refine ⟨fun h0 => ?_, fun m hm => ⟨fun hd => ?_, fun hd => ?_⟩⟩
      · subst h0; simp at he; subst he; simp
      · subst hm
        rw [List.drop_eq_getElem_cons (show m < a.length by omega), List.drop_eq_getElem_cons (show m < b.length by omega), he]
        have e1 : a.getD m 0 = a[m] := by simp [show m < a.length by omega]
        have e2 : b.getD m 0 = b[m] := by simp [show m < b.length by omega]
        rw [← e1, ← e2, hd]
      · subst hm
        by_cases hlt : b.getD m 0 < a.getD m 0
        · have := dig_decides a1 b1 m (by omega) (by omega) he hlt
          rw [decide_eq_true hlt, decide_eq_true this]
        · have := dig_decides b1 a1 m (by omega) (by omega) he.symm (by omega)
          rw [decide_eq_false hlt, decide_eq_false (by omega)]
    have Q' := veil Q
    have CA : ∀ i, i < a.length → ∃ p off, ao = some ⟨p, off, none⟩ ∧ w.cell? ⟨p, off + i, none⟩ = some (.int .i64 (a.getD i 0)) := by
      intro i hi
      rcases ar with h0 | ⟨p, off, h1, h2, h3⟩
      · omega
      · exact ⟨p, off, h1, h3 i hi⟩
    have CB : ∀ i, i < a.length → ∃ p off, bo = some ⟨p, off, none⟩ ∧ w.cell? ⟨p, off + i, none⟩ = some (.int .i64 (b.getD i 0)) := by
      intro i hi
      rcases br with h0 | ⟨p, off, h1, h2, h3⟩
      · omega
      · exact ⟨p, off, h1, h3 i (by omega)⟩
    have CA' := veil CA
    have CB' := veil CB
    have D0 : a.drop a.length = b.drop a.length := by rw [List.drop_of_length_le (Nat.le_refl _), List.drop_of_length_le (by omega)]
    have D0' := veil D0
    rw [← hl] at bc b2 ⊢
    clear Q CA CB D0 ar br a1 b1 na nb hl bc
    generalize a.length = n at *
    generalize decide (dval b < dval a) = ans at *
    go_enter Try.func80, Try.ntmps80
    go_wp2_with fail
    go_loopw [5] (fun i wr => ∃ k : Nat, k ≤ n ∧ i = .int .i64 ((k : Int) - 1) ∧ a.drop k = b.drop k ∧ ∃ q, wr = w.drewN q) (fun i _ => (intOf i + 1).toNat)
    case atStart => exact ⟨n, Nat.le_refl _, rfl, unveil D0', 0, rfl⟩
    case round =>
      obtain ⟨k, hk, rfl, he, q, rfl⟩ := hrel
      have E := veil he
      clear he
      cases k with
      | zero =>
        have F := veil ((unveil Q' 0 (by omega) (unveil E)).1 rfl)
        go_wp2_with fail
        go_ret
        exact ⟨ret_b (unveil F).symm, q, rfl⟩
      | succ m =>
        obtain ⟨pa, oa, rfl, ca⟩ := unveil CA' m (by omega)
        obtain ⟨pb, ob, rfl, cb⟩ := unveil CB' m (by omega)
        have hm : (((m + 1 : Nat) : Int) - 1) = (m : Int) := by omega
        rw [hm]
        have QQ := (unveil Q' (m + 1) hk (unveil E)).2 m rfl
        by_cases hd : a.getD m 0 = b.getD m 0
        · have E2 := veil (QQ.1 hd)
          rw [← hd] at cb
          clear QQ hd hm
          generalize a.getD m 0 = d at *
          go_wp2_with fail
          go_quiet (fail)
          go_wp2_with fail
          go_roundw
          case rel => exact ⟨m, by omega, by go_num, unveil E2, _, rfl⟩
          case measure => simp [intOf]
        · have hne : (a.getD m 0 != b.getD m 0) = true := by simpa using hd
          have F := veil (QQ.2 hd)
          clear QQ hd hm
          generalize a.getD m 0 = da at *
          generalize b.getD m 0 = db at *
          go_wp2_with fail
          go_quiet (fail)
          go_wp2_with fail
          go_quiet (fail)
          go_wp2_with fail
          go_ret
          exact ⟨ret_b (unveil F), _, by rw [World.drewN_drewN, World.drewN_drewN]⟩
  · have hne : ((a.length : Int) != (b.length : Int)) = true := by simp; omega
    have F : decide (b.length < a.length) = decide (dval b < dval a) := by
      by_cases hlt : b.length < a.length
      · rw [decide_eq_true (by omega), decide_eq_true (norm_longer a1 na b1 hlt)]
      · have := norm_longer b1 nb a1 (by omega)
        rw [decide_eq_false (by omega), decide_eq_false (by omega)]
    have F' := veil F
    clear F ar br
    go_enter Try.func80, Try.ntmps80
    go_wp2_with fail
    go_ret
    exact ⟨ret_b (unveil F'), 0, rfl⟩

end Go.Proofs.Ytjlnbhmiahegmaa
