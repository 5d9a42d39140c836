import Derived.Test.YtajocakmmgpoaaaGreatDoorXAA
import Derived.WalkKit
import Derived.Laws.BitsAllLaws
import Derived.Test.YtajocakmmgpoaaaGreatDoorRows
import Derived.WalkSpells
import Derived.Lib.Mul64
import Derived.BigQuiet
import Derived.Outline
namespace Go.Proofs.YtajocakmmgpoaaaGreatDoor
open Go.ChangeShapes Go.WideShapes Go.ChangeAt Go.RowKit Go.Deep
set_option linter.unusedVariables false

theorem table_names {H : Type} {enc : TypeId × Value → H} {P : Program} {W : World} {base : Nat} {sp : Nat → Bool} {held : Bool} {S N s TT : TypeId} {fS : Array Field} {a : Option Addr} {ln cn : Nat} {v1 : Value} {d : DataW H} {ps : List MemPlace}
    (hS : P.underlying S = some (.struct fS)) (hfS : fS.toList.map (fun f => (f.type, f.offset)) = [(N, 0), (TT, 1)]) (hcS : P.cellsOf S = 2) (hcN : P.cellsOf N = 1) (hN : P.underlying N = some (.slice s))
    (h : DataW.Trod enc P W base sp held S (.agg #[.slice a ln cn, v1]) d ps) : ∃ e0 e1, d = .agg [e0, e1] ∧ (ln = 0 ∨ ∃ l r, e0 = .slice l r ∧ l.length = ln) := by
  obtain ⟨fuel, hf⟩ := h
  obtain ⟨xs, n, _, hd, hl, hlen, hfld⟩ := DataW.trod_struct hS hf
  have h3 : fS.size = 2 := by have := congrArg List.length hfS; simpa using this
  obtain ⟨y0, y1, rfl⟩ : ∃ a b, xs = [a, b] := by
    have : xs.length = 2 := by omega
    match xs, this with
    | [a, b], _ => exact ⟨a, b, rfl⟩
  have g0 : fS[0]? = some (fS[0]'(by omega)) := by simp [show 0 < fS.size by omega]
  have e0 : ((fS[0]'(by omega)).type, (fS[0]'(by omega)).offset) = (N, 0) := by
    have : (fS.toList.map (fun f => (f.type, f.offset)))[0]? = [(N, 0), (TT, 1)][0]? := by rw [hfS]
    simpa [show 0 < fS.size by omega] using this
  have k0 := hfld 0 _ g0
  simp only [Prod.mk.injEq] at e0
  rw [e0.1, e0.2, hcN] at k0
  simp [Value.cells] at k0
  have hd1 : d = .agg ([y0, y1].map (·.1)) := by have := congrArg Prod.fst hd; simpa using this
  refine ⟨y0.1, y1.1, hd1, ?_⟩
  rcases open_slice hN k0 with ⟨h0, _⟩ | ⟨y, l, c, m, n, D, Pl, h0, hbb, hl, hm, hmm, xe, hx⟩
  · simp at h0; exact .inl h0.2.1
  · simp at h0
    obtain ⟨rfl, rfl, rfl⟩ := h0
    exact .inr ⟨_, _, by rw [xe], by simp⟩
end Go.Proofs.YtajocakmmgpoaaaGreatDoor

namespace Go.Proofs.YtajocakmmgpoaaaGreatDoor
open Go.RowKit
set_option linter.unusedVariables false

/-- The cell as it lies in the column of a name's first place. -/
def rawT (ss : List ByteArray) (rs : List (List Cl)) (n : ByteArray) (d : Nat) : Cl :=
  if colF ss n 0 < 0 then default else (rs.getD d []).getD (colF ss n 0).toNat default
def cellT (ss : List ByteArray) (rs : List (List Cl)) (n : ByteArray) (d : Nat) : Cl := if (rawT ss rs n d).h then rawT ss rs n d else default
/-- Each observation that the first table has, up to last, is the second's too. -/
def ConfP (ss : List ByteArray) (rs : List (List Cl)) (ss' : List ByteArray) (rs' : List (List Cl)) (last : Int) : Prop :=
  ∀ d : Nat, d < rs.length → (d : Int) ≤ last → ∀ c : Nat, c < (rs.getD d []).length → c < ss.length → colF ss (ss.getD c default) 0 = c → ((rs.getD d []).getD c default).h = true → (rs.getD d []).getD c default = rawT ss' rs' (ss.getD c default) d
theorem def_h : (default : Cl).h = false := rfl
theorem raw_has {ss : List ByteArray} {rs : List (List Cl)} {n : ByteArray} {d : Nat} (h : (rawT ss rs n d).h = true) : ∃ c : Nat, colF ss n 0 = c ∧ c < ss.length ∧ ss.getD c default = n ∧ d < rs.length ∧ c < (rs.getD d []).length ∧ rawT ss rs n d = (rs.getD d []).getD c default := by
  unfold rawT at h ⊢
  split at h
  · rw [def_h] at h; cases h
  · rename_i hc
    rw [if_neg hc]
    rcases colF_col ss n with ⟨e, _⟩ | ⟨c, e, h1, h2, _⟩
    · omega
    · rw [e] at h ⊢
      simp only [Int.toNat_natCast] at h ⊢
      refine ⟨c, rfl, h1, h2, ?_, ?_, rfl⟩
      · refine Nat.lt_of_not_le fun hd => ?_
        rw [show rs.getD d [] = [] by simp only [List.getD]; rw [List.getElem?_eq_none hd]; rfl] at h
        simp [def_h] at h
      · refine Nat.lt_of_not_le fun hd => ?_
        rw [show (rs.getD d []).getD c default = default by simp only [List.getD] at hd ⊢; rw [List.getElem?_eq_none hd]; rfl, def_h] at h
        cases h
theorem conf_raw {ss ss' : List ByteArray} {rs rs' : List (List Cl)} {last : Int} (h : ConfP ss rs ss' rs' last) {n : ByteArray} {d : Nat} (hd : (d : Int) ≤ last) (hx : (rawT ss rs n d).h = true) : rawT ss rs n d = rawT ss' rs' n d := by
  obtain ⟨c, e, h1, h2, h3, h4, h5⟩ := raw_has hx
  have := h d h3 hd c h4 h1 (by rw [h2]; exact e) (by rw [← h5]; exact hx)
  rw [h5, this, h2]
theorem cell_yes {ss : List ByteArray} {rs : List (List Cl)} {n : ByteArray} {d : Nat} (h : (rawT ss rs n d).h = true) : cellT ss rs n d = rawT ss rs n d := by unfold cellT; rw [if_pos h]
theorem cell_no {ss : List ByteArray} {rs : List (List Cl)} {n : ByteArray} {d : Nat} (h : (rawT ss rs n d).h = false) : cellT ss rs n d = default := by unfold cellT; rw [if_neg (by rw [h]; simp)]
theorem conf_cells {ss ss' : List ByteArray} {rs rs' : List (List Cl)} {last : Int} (h : ConfP ss rs ss' rs' last) (k : ConfP ss' rs' ss rs last) {n : ByteArray} {d : Nat} (hd : (d : Int) ≤ last) : cellT ss rs n d = cellT ss' rs' n d := by
  cases hx : (rawT ss rs n d).h with
  | true =>
    have e := conf_raw h hd hx
    rw [cell_yes hx, cell_yes (by rw [← e]; exact hx), e]
  | false =>
    cases hy : (rawT ss' rs' n d).h with
    | true =>
      have e := conf_raw k hd hy
      rw [e, hx] at hy; cases hy
    | false => rw [cell_no hx, cell_no hy]
theorem cells_conf {ss ss' : List ByteArray} {rs rs' : List (List Cl)} {last : Int} (h : ∀ d : Nat, (d : Int) ≤ last → d < rs.length → ∀ n ∈ ss, cellT ss rs n d = cellT ss' rs' n d) : ConfP ss rs ss' rs' last := by
  intro d h1 h2 c h3 h4 h5 h6
  have mem : ss.getD c default ∈ ss := by
    rw [show ss.getD c default = ss[c] by simp [List.getD, h4]]; exact List.getElem_mem h4
  have e := h d h2 h1 _ mem
  have r : rawT ss rs (ss.getD c default) d = (rs.getD d []).getD c default := by
    unfold rawT; rw [h5, if_neg (by omega), Int.toNat_natCast]
  rw [cell_yes (by rw [r]; exact h6), r] at e
  cases hy : (rawT ss' rs' (ss.getD c default) d).h with
  | true => rw [e, cell_yes hy]
  | false =>
    rw [cell_no hy] at e
    rw [e, def_h] at h6; cases h6
/-- What the document asks, day by day and name by name. -/
def AgreeP (ss : List ByteArray) (rs : List (List Cl)) (ss' : List ByteArray) (rs' : List (List Cl)) (last : Int) : Prop :=
  ∀ d : Nat, (d : Int) ≤ last → (d < rs.length ∨ d < rs'.length) → ∀ n ∈ ss ++ ss', cellT ss rs n d = cellT ss' rs' n d
theorem agree_iff (ss ss' : List ByteArray) (rs rs' : List (List Cl)) (last : Int) : (ConfP ss rs ss' rs' last ∧ ConfP ss' rs' ss rs last) ↔ AgreeP ss rs ss' rs' last :=
  ⟨fun h d hd _ n _ => conf_cells h.1 h.2 hd, fun h => ⟨cells_conf fun d h1 h2 n hn => h d h1 (.inl h2) n (List.mem_append_left _ hn), cells_conf fun d h1 h2 n hn => (h d h1 (.inr h2) n (List.mem_append_right _ hn)).symm⟩⟩
end Go.Proofs.YtajocakmmgpoaaaGreatDoor

namespace Go.Proofs.YtajocakmmgpoaaaGreatDoor
open Go.RowKit

/-- A fact, kept out of the walk's sight. -/
theorem veil {p : Prop} (h : p) : Hid p := h
theorem unveil {p : Prop} (h : Hid p) : p := h

/-- A number of 64 bits. -/
def inR (n : Int) : Prop := -9223372036854775808 ≤ n ∧ n ≤ 9223372036854775807
/-- The number that a checked call tells, and its fault. -/
def fitV (n : Int) : Int := if -9223372036854775808 ≤ n ∧ n ≤ 9223372036854775807 then n else 0
def fitF (n : Int) : Int := if -9223372036854775808 ≤ n ∧ n ≤ 9223372036854775807 then 0 else 1

theorem fitV_in {n : Int} (h : inR n) : fitV n = n := by unfold inR at h; unfold fitV; rw [if_pos h]
theorem fitF_in {n : Int} (h : inR n) : fitF n = 0 := by unfold inR at h; unfold fitF; rw [if_pos h]
theorem fitV_out {n : Int} (h : ¬ inR n) : fitV n = 0 := by unfold inR at h; unfold fitV; rw [if_neg h]
theorem fitF_out {n : Int} (h : ¬ inR n) : fitF n = 1 := by unfold inR at h; unfold fitF; rw [if_neg h]
theorem fitV_bd (n : Int) : inR (fitV n) := by unfold fitV inR; split <;> omega
theorem fitF_bd (n : Int) : 0 ≤ fitF n ∧ fitF n ≤ 1 := by unfold fitF; split <;> omega
theorem wf_inR {n : Int} (h : (Lit.int .i64 n).wf = true) : inR n := by
  simp [Lit.wf, IntKind.min, IntKind.max, IntKind.bits, IntKind.signed] at h
  unfold inR; omega

/-! ### the sign, by bits -/
theorem msb_ofInt (n : Int) (h : inR n) : (BitVec.ofInt 64 n).msb = decide (n < 0) := by
  unfold inR at h
  rw [BitVec.msb_eq_decide, BitVec.toNat_ofInt]
  by_cases hn : n < 0
  · rw [decide_eq_true hn, decide_eq_true]; omega
  · rw [decide_eq_false hn, decide_eq_false]; omega
theorem wrap_neg (x : BitVec 64) : (IntKind.i64.wrap (x.toNat : Int) < 0) ↔ x.msb = true := by
  have hx := x.isLt
  rw [IntKind.wrap_i64, BitVec.msb_eq_decide]
  simp only [decide_eq_true_eq]
  omega
theorem wrap_inR (n : Int) : inR (IntKind.i64.wrap n) := by
  rw [IntKind.wrap_i64]; unfold inR; omega
theorem wrap64_inR (n : Int) : inR (wrap64 n) := by unfold wrap64 inR; omega
theorem wrap64_id {n : Int} (h : inR n) : wrap64 n = n := by unfold wrap64; unfold inR at h; omega
theorem xor_inR (a b : Int) : inR (bits .xor .i64 a b) := wrap_inR _
theorem and_inR (a b : Int) : inR (bits .and .i64 a b) := wrap_inR _
theorem xor_neg (a b : Int) (ha : inR a) (hb : inR b) : (bits .xor .i64 a b < 0) ↔ (a < 0 ∧ 0 ≤ b ∨ 0 ≤ a ∧ b < 0) := by
  refine (wrap_neg (BitVec.ofInt 64 a ^^^ BitVec.ofInt 64 b)).trans ?_
  rw [BitVec.msb_xor, msb_ofInt a ha, msb_ofInt b hb]
  by_cases h1 : a < 0 <;> by_cases h2 : b < 0 <;> simp [h1, h2] <;> omega
theorem and_neg (a b : Int) (ha : inR a) (hb : inR b) : (bits .and .i64 a b < 0) ↔ (a < 0 ∧ b < 0) := by
  refine (wrap_neg (BitVec.ofInt 64 a &&& BitVec.ofInt 64 b)).trans ?_
  rw [BitVec.msb_and, msb_ofInt a ha, msb_ofInt b hb]
  by_cases h1 : a < 0 <;> by_cases h2 : b < 0 <;> simp [h1, h2]

/-- Add's test. -/
theorem add_test (a b : Int) (ha : inR a) (hb : inR b) :
    (bits .and .i64 (bits .xor .i64 a (wrap64 (a + b))) (bits .xor .i64 b (wrap64 (a + b))) < 0) ↔ ¬ inR (a + b) := by
  rw [and_neg _ _ (xor_inR _ _) (xor_inR _ _), xor_neg a _ ha (wrap64_inR _), xor_neg b _ hb (wrap64_inR _)]
  unfold inR at *; unfold wrap64; omega
/-- Sub's test. -/
theorem sub_test (a b : Int) (ha : inR a) (hb : inR b) :
    (bits .and .i64 (bits .xor .i64 a b) (bits .xor .i64 a (wrap64 (a - b))) < 0) ↔ ¬ inR (a - b) := by
  rw [and_neg _ _ (xor_inR _ _) (xor_inR _ _), xor_neg a _ ha hb, xor_neg a _ ha (wrap64_inR _)]
  unfold inR at *; unfold wrap64; omega

end Go.Proofs.YtajocakmmgpoaaaGreatDoor

namespace Go.Proofs.YtajocakmmgpoaaaGreatDoor
open Go.RowKit

/-- A number without its sign. -/
def absI (a : Int) : Int := if a < 0 then -a else a
theorem absI_neg {a : Int} (h : a < 0) : absI a = -a := by unfold absI; rw [if_pos h]
theorem absI_pos {a : Int} (h : ¬ a < 0) : absI a = a := by unfold absI; rw [if_neg h]
theorem absI_bd (a : Int) (h : inR a) : 0 ≤ absI a ∧ absI a ≤ 9223372036854775808 := by
  unfold inR at h; unfold absI; split <;> omega
theorem absI_nonneg (a : Int) : 0 ≤ absI a := by unfold absI; split <;> omega
/-- The number of that size and sign. -/
def sgn (neg : Bool) (n : Int) : Int := if neg then -n else n
/-- Do the signs of two differ? -/
def dif (a b : Int) : Bool := decide (a < 0) != decide (b < 0)

theorem sgn_mul (a b : Int) : sgn (dif a b) (absI a * absI b) = a * b := by
  unfold sgn dif absI
  by_cases h1 : a < 0 <;> by_cases h2 : b < 0 <;> simp [h1, h2, Int.neg_mul, Int.mul_neg]
theorem dif_comm (a b : Int) : dif a b = dif b a := by
  unfold dif; by_cases h1 : a < 0 <;> by_cases h2 : b < 0 <;> simp [h1, h2]

/-- A product whose upper half is not 0 fits nowhere. -/
theorem mul_high (a b : Int) (h : 18446744073709551616 ≤ absI a * absI b) : ¬ inR (a * b) := by
  rw [← sgn_mul a b]; unfold sgn inR; split <;> omega
theorem sgn_in {neg : Bool} {n : Int} (h0 : 0 ≤ n) : inR (sgn neg n) ↔ (if neg then n ≤ 9223372036854775808 else n < 9223372036854775808) := by
  cases neg <;> simp [sgn, inR] <;> omega

end Go.Proofs.YtajocakmmgpoaaaGreatDoor

namespace Go.Proofs.YtajocakmmgpoaaaGreatDoor
open Go.RowKit

/-- The number that a list of digits means. -/
def dval : List Int → Int
  | [] => 0
  | d :: ds => d + 10 * dval ds
def Digs (ds : List Int) : Prop := ∀ i, 0 ≤ ds.getD i 0 ∧ ds.getD i 0 ≤ 9
/-- No 0 at the end. -/
def Norm (ds : List Int) : Prop := ds.length = 0 ∨ ¬ ds.getD (ds.length - 1) 0 = 0

/-- The powers of ten, behind a name. -/
def ten (k : Nat) : Int := 10 ^ k
theorem ten_zero : ten 0 = 1 := rfl
theorem ten_succ (k : Nat) : ten (k + 1) = 10 * ten k := by unfold ten; rw [Int.pow_succ, Int.mul_comm]
theorem ten_pos (k : Nat) : 0 < ten k := Int.pow_pos (by decide)
theorem ten_add (a b : Nat) : ten (a + b) = ten a * ten b := Int.pow_add _ _ _
theorem ten_le {a b : Nat} (h : a ≤ b) : ten a ≤ ten b := by
  obtain ⟨c, rfl⟩ := Nat.exists_eq_add_of_le h
  have h1 := ten_pos c
  have h2 := ten_pos a
  rw [ten_add]
  have := Int.mul_le_mul_of_nonneg_left (show 1 ≤ ten c by omega) (show 0 ≤ ten a by omega)
  omega

theorem dval_append (a b : List Int) : dval (a ++ b) = dval a + ten a.length * dval b := by
  induction a with
  | nil => simp [dval, ten_zero]
  | cons d a ih =>
    rw [List.cons_append, dval, dval, ih, List.length_cons, ten_succ, Int.mul_add, ← Int.mul_assoc, Int.add_assoc]
theorem dval_snoc (a : List Int) (d : Int) : dval (a ++ [d]) = dval a + ten a.length * d := by
  rw [dval_append]; simp [dval]
theorem dval_take_succ (a : List Int) (k : Nat) : dval (a.take (k + 1)) = dval (a.take k) + ten k * a.getD k 0 := by
  by_cases h : k < a.length
  · rw [List.take_succ_eq_append_getElem h, dval_snoc, List.length_take, Nat.min_eq_left (by omega)]
    simp [h]
  · rw [List.take_of_length_le (by omega), List.take_of_length_le (by omega)]
    have : a.getD k 0 = 0 := by simp [List.getElem?_eq_none (Nat.le_of_not_lt h)]
    rw [this]; simp
theorem dval_take_all (a : List Int) (k : Nat) (h : a.length ≤ k) : dval (a.take k) = dval a := by rw [List.take_of_length_le h]
theorem dval_split (a : List Int) (k : Nat) (h : k ≤ a.length) : dval a = dval (a.take k) + ten k * dval (a.drop k) := by
  have := dval_append (a.take k) (a.drop k)
  rw [List.take_append_drop, List.length_take, Nat.min_eq_left h] at this
  exact this

theorem digs_nil : Digs [] := fun i => by simp
theorem digs_take {a : List Int} (h : Digs a) (k : Nat) : Digs (a.take k) := fun i => by
  by_cases hi : i < k
  · have := h i
    simp only [List.getD_eq_getElem?_getD, List.getElem?_take, if_pos hi] at *
    exact this
  · simp [List.getElem?_take, hi]
theorem digs_snoc {a : List Int} (h : Digs a) {d : Int} (h0 : 0 ≤ d) (h1 : d ≤ 9) : Digs (a ++ [d]) := fun i => by
  have := h i
  by_cases hi : i < a.length
  · simp only [List.getD_eq_getElem?_getD, List.getElem?_append_left hi] at *; exact this
  · by_cases hj : i = a.length
    · subst hj; simp [h0, h1]
    · have : (a ++ [d])[i]? = none := List.getElem?_eq_none (by simp; omega)
      simp [this]
theorem digs_cons {a : List Int} (h : Digs a) {d : Int} (h0 : 0 ≤ d) (h1 : d ≤ 9) : Digs (d :: a) := fun i => by
  cases i with
  | zero => simp [h0, h1]
  | succ i => simpa using h i
theorem digs_tail {a : List Int} {d : Int} (h : Digs (d :: a)) : Digs a := fun i => by simpa using h (i + 1)
theorem digs_set {a : List Int} (h : Digs a) (k : Nat) {d : Int} (h0 : 0 ≤ d) (h1 : d ≤ 9) : Digs (a.set k d) := fun i => by
  have := h i
  simp only [List.getD_eq_getElem?_getD, List.getElem?_set] at *
  split
  · split
    · simp [h0, h1]
    · simp
  · exact this
theorem digs_replicate (n : Nat) : Digs (List.replicate n 0) := fun i => by
  simp only [List.getD_eq_getElem?_getD, List.getElem?_replicate]; split <;> simp

theorem dval_bd : ∀ (a : List Int), Digs a → 0 ≤ dval a ∧ dval a < ten a.length
  | [], _ => by simp [dval, ten_zero]
  | d :: a, h => by
    obtain ⟨i1, i2⟩ := dval_bd a (digs_tail h)
    have h0 := h 0
    simp at h0
    rw [dval, List.length_cons, ten_succ]
    omega
theorem dval_replicate (n : Nat) : dval (List.replicate n 0) = 0 := by
  induction n with
  | zero => rfl
  | succ n ih => rw [List.replicate_succ, dval, ih]; rfl
theorem dval_set : ∀ (a : List Int) (k : Nat) (d : Int), k < a.length → dval (a.set k d) = dval a + ten k * (d - a.getD k 0)
  | [], k, d, h => by simp at h
  | x :: a, 0, d, h => by simp [dval, ten_zero]; omega
  | x :: a, k + 1, d, h => by
    rw [List.set_cons_succ, dval, dval, dval_set a k d (by simpa using h), ten_succ]
    have e : (x :: a).getD (k + 1) 0 = a.getD k 0 := by simp
    rw [e, Int.mul_add, Int.mul_assoc]; omega

/-- A number without a 0 at the end is at least as great as its first power. -/
theorem norm_le {a : List Int} (h : Digs a) (hn : Norm a) (h0 : 0 < a.length) : ten (a.length - 1) ≤ dval a := by
  have hl : ¬ a.getD (a.length - 1) 0 = 0 := hn.resolve_left (by omega)
  have hd := h (a.length - 1)
  have e := dval_split a (a.length - 1) (by omega)
  have e2 : a.drop (a.length - 1) = [a.getD (a.length - 1) 0] := by
    have hlt : a.length - 1 < a.length := by omega
    rw [List.drop_eq_getElem_cons hlt, List.drop_of_length_le (by omega)]
    simp [hlt]
  have h3 := dval_bd _ (digs_take h (a.length - 1))
  have h4 := ten_pos (a.length - 1)
  have h5 := Int.mul_le_mul_of_nonneg_left (show 1 ≤ a.getD (a.length - 1) 0 by omega) (show 0 ≤ ten (a.length - 1) by omega)
  rw [e, e2]; simp only [dval, Int.mul_zero, Int.add_zero]; omega
theorem norm_zero {a : List Int} (h : Digs a) (hn : Norm a) : dval a = 0 ↔ a.length = 0 := by
  constructor
  · intro hz
    by_cases h0 : 0 < a.length
    · have := norm_le h hn h0
      have := ten_pos (a.length - 1)
      omega
    · omega
  · intro hz; rw [List.eq_nil_of_length_eq_zero hz]; rfl
/-- More digits: the greater number. -/
theorem norm_longer {a b : List Int} (ha : Digs a) (hna : Norm a) (hb : Digs b) (h : b.length < a.length) : dval b < dval a := by
  have h1 := norm_le ha hna (by omega)
  have h2 := (dval_bd b hb).2
  have h3 := ten_le (show b.length ≤ a.length - 1 by omega)
  omega
/-- How many digits at most. -/
theorem norm_len {a : List Int} (h : Digs a) (hn : Norm a) {k : Nat} (hk : dval a < ten k) : a.length ≤ k := by
  refine Nat.le_of_not_lt fun hc => ?_
  have h1 := norm_le h hn (by omega)
  have h2 := ten_le (show k ≤ a.length - 1 by omega)
  omega
/-- Digits that are one above a place: the place decides. -/
theorem dig_decides {a b : List Int} (ha : Digs a) (hb : Digs b) (k : Nat) (hka : k < a.length) (hkb : k < b.length) (he : a.drop (k + 1) = b.drop (k + 1)) (hlt : b.getD k 0 < a.getD k 0) : dval b < dval a := by
  rw [dval_split a (k + 1) (by omega), dval_split b (k + 1) (by omega), he, dval_take_succ, dval_take_succ]
  have h1 := dval_bd _ (digs_take ha k)
  have h2 := dval_bd _ (digs_take hb k)
  rw [List.length_take, Nat.min_eq_left (by omega)] at h1 h2
  have h3 := Int.mul_le_mul_of_nonneg_left (show b.getD k 0 + 1 ≤ a.getD k 0 by omega) (show 0 ≤ ten k by have := ten_pos k; omega)
  rw [Int.mul_add] at h3
  omega

end Go.Proofs.YtajocakmmgpoaaaGreatDoor

namespace Go.Proofs.YtajocakmmgpoaaaGreatDoor
open Go.RowKit

end Go.Proofs.YtajocakmmgpoaaaGreatDoor

namespace Go.Proofs.YtajocakmmgpoaaaGreatDoor
open Go.RowKit

theorem ret_i {k : IntKind} {a b : Int} (h : a = b) : Ending.returned (.int k a) = .returned (.int k b) := by rw [h]
theorem ret_b {a b : Bool} (h : a = b) : Ending.returned (.bool a) = .returned (.bool b) := by rw [h]
theorem ret_ii {k l : IntKind} {a b c d : Int} (h : a = b) (g : c = d) : Ending.returned (.tuple #[.int k a, .int l c]) = .returned (.tuple #[.int k b, .int l d]) := by rw [h, g]
theorem neg_u64 (a : Int) (h : a < 0) (h1 : -9223372036854775808 ≤ a) : IntKind.u64.wrap (-IntKind.u64.wrap a) = -a := by
  rw [IntKind.wrap_u64, IntKind.wrap_u64]; omega
theorem neg_i64 (n : Int) (h0 : 0 ≤ n) (h : n ≤ 9223372036854775808) : wrap64 (IntKind.u64.wrap (-n)) = -n := by
  rw [IntKind.wrap_u64]; unfold wrap64; omega

theorem sizeOf_any (a : Int) (ha : inR a) (w : World) :
    Calls Tryz.prog 62 #[.int .i64 a] w fun e w' => e = .returned (.int .u64 (absI a)) ∧ w' = w := by
  unfold inR at ha
  obtain ⟨h1, h2⟩ := ha
  by_cases h : a < 0
  · rw [absI_neg h]
    go_enter Tryz.func62, Tryz.ntmps62
    go_wp2
    go_ret
    exact ⟨ret_i (neg_u64 a h h1), rfl⟩
  · rw [absI_pos h]
    go_enter Tryz.func62, Tryz.ntmps62
    go_wp2
    go_ret
    exact ⟨rfl, rfl⟩

/-- The two halves of a product. -/
def mulHi (x y : Int) : Int := x * y / 18446744073709551616
def mulLo (x y : Int) : Int := x * y % 18446744073709551616

theorem mask32 (a : Nat) (ha : a < 18446744073709551616) : bits .and .u64 (a : Int) 4294967295 = ((a % 4294967296 : Nat) : Int) := by
  have h := u64_and_nat a 4294967295 ha (by omega)
  rw [show a &&& 4294967295 = a % 4294967296 from Nat.and_two_pow_sub_one_eq_mod a 32] at h
  exact h
theorem keep64 (a : Nat) (ha : a < 18446744073709551616) : IntKind.u64.wrap (a : Int) = (a : Int) := by rw [IntKind.wrap_u64]; omega
theorem cut64 (a : Nat) : IntKind.u64.wrap (a : Int) = ((a % 18446744073709551616 : Nat) : Int) := by rw [IntKind.wrap_u64]; omega
theorem half (a : Nat) : (a : Int) / 4294967296 = ((a / 4294967296 : Nat) : Int) := by omega

set_option maxHeartbeats 1000000 in
theorem mul64_nat (x y : Nat) (hx : x < 18446744073709551616) (hy : y < 18446744073709551616) (w : World) :
    Calls Tryz.prog 85 #[.int .u64 x, .int .u64 y] w fun e w' => e = .returned (.tuple #[.int .u64 ((x * y / 18446744073709551616 : Nat) : Int), .int .u64 ((x * y % 18446744073709551616 : Nat) : Int)]) ∧ w' = w := by
  obtain ⟨k1, k2, k3, hhi⟩ := Lib.mul64_hi x y hx hy
  have m1 := Lib.half_mul_le (a := x / 4294967296) (b := y / 4294967296) (by omega) (by omega)
  have m2 := Lib.half_mul_le (a := x / 4294967296) (b := y % 4294967296) (by omega) (by omega)
  have m3 := Lib.half_mul_le (a := x % 4294967296) (b := y / 4294967296) (by omega) (by omega)
  have n1 := Nat.lt_of_le_of_lt m1 (show 18446744065119617025 < 18446744073709551616 by decide)
  have n2 := Nat.lt_of_le_of_lt m2 (show 18446744065119617025 < 18446744073709551616 by decide)
  have n3 := Nat.lt_of_le_of_lt m3 (show 18446744065119617025 < 18446744073709551616 by decide)
  have n4 : x / 4294967296 * (y / 4294967296) + (x / 4294967296 * (y % 4294967296) + x % 4294967296 * (y % 4294967296) / 4294967296) / 4294967296 < 18446744073709551616 := by omega
  have n5 : x / 4294967296 * (y / 4294967296) + (x / 4294967296 * (y % 4294967296) + x % 4294967296 * (y % 4294967296) / 4294967296) / 4294967296 + ((x / 4294967296 * (y % 4294967296) + x % 4294967296 * (y % 4294967296) / 4294967296) % 4294967296 + x % 4294967296 * (y / 4294967296)) / 4294967296 < 18446744073709551616 := by omega
  go_enter Tryz.func85, Tryz.ntmps85
  go_wp2
  simp only [mask32 x hx, mask32 y hy, half, ← Int.natCast_mul, ← Int.natCast_add, keep64 _ k1, keep64 _ n2, keep64 _ k2, mask32 _ k2, keep64 _ n3, keep64 _ k3, keep64 _ n1, keep64 _ n4, keep64 _ n5, cut64 (x * y)]
  rw [hhi]
  go_ret2
  exact ⟨rfl, rfl⟩

theorem mul64_any (x y : Int) (hx : 0 ≤ x) (hx' : x < 18446744073709551616) (hy : 0 ≤ y) (hy' : y < 18446744073709551616) (w : World) :
    Calls Tryz.prog 85 #[.int .u64 x, .int .u64 y] w fun e w' => e = .returned (.tuple #[.int .u64 (mulHi x y), .int .u64 (mulLo x y)]) ∧ w' = w := by
  obtain ⟨x, rfl⟩ := Int.eq_ofNat_of_zero_le hx
  obtain ⟨y, rfl⟩ := Int.eq_ofNat_of_zero_le hy
  refine (mul64_nat x y (by omega) (by omega) w).mono ?_
  rintro e w' ⟨rfl, rfl⟩
  exact ⟨ret_ii (by unfold mulHi; simp) (by unfold mulLo; simp), rfl⟩

/-! ### num.Mul -/
theorem mulHi_zero (x y : Int) (hx : 0 ≤ x) (hy : 0 ≤ y) : mulHi x y = 0 ↔ x * y < 18446744073709551616 := by
  have := Int.mul_nonneg hx hy
  unfold mulHi; omega
theorem mulLo_of {x y : Int} (h0 : 0 ≤ x * y) (h : x * y < 18446744073709551616) : mulLo x y = x * y := by unfold mulLo; omega

end Go.Proofs.YtajocakmmgpoaaaGreatDoor

namespace Go.Proofs.YtajocakmmgpoaaaGreatDoor
open Go.RowKit

/-- A value that reads as a list of digits. -/
def Dg (w : World) (v : Value) (ds : List Int) : Prop :=
  Digs ds ∧ ds.length ≤ 1000 ∧ ∃ ao cap, v = .slice ao ds.length cap ∧ ds.length ≤ cap ∧ (cap ≤ maxLen ∧ (ao = none → cap = 0)) ∧
    (ds.length = 0 ∨ ∃ b off, ao = some ⟨b, off, none⟩ ∧ b < w.heap.size ∧ ∀ i, i < ds.length → w.cell? ⟨b, off + i, none⟩ = some (.int .i64 (ds.getD i 0)))

theorem Dg.later {w w' : World} {v : Value} {ds : List Int} (h : Dg w v ds) (hb : Below w.heap.size w w') : Dg w' v ds := by
  obtain ⟨h1, h2, ao, cap, hv, hc, hm, hd⟩ := h
  refine ⟨h1, h2, ao, cap, hv, hc, hm, ?_⟩
  rcases hd with h0 | ⟨b, off, ha, hlt, hcell⟩
  · exact Or.inl h0
  · exact Or.inr ⟨b, off, ha, Nat.lt_of_lt_of_le hlt hb.size, fun i hi => (hb.cell (p := ⟨b, off + i, none⟩) hlt).trans (hcell i hi)⟩
/-- What is not empty lies in a block from B on. -/
def Fresh (B : Nat) (v : Value) : Prop := ∀ p n c, v = .slice (some p) n c → n ≠ 0 → B ≤ p.block
theorem Fresh.mono {B B' : Nat} {v : Value} (h : Fresh B v) (hB : B' ≤ B) : Fresh B' v := fun p n c e hn => Nat.le_trans hB (h p n c e hn)
theorem Fresh.cut {B : Nat} {ao : Option Addr} {n c k : Nat} (h : Fresh B (.slice ao n c)) (hk : k ≤ n) : Fresh B (.slice ao k c) := fun p m c' e hm => by
  injection e with e1 e2 e3
  subst e1 e2
  exact h p n c rfl (by omega)
/-- A store into a box leaves digits of other blocks alone. -/
theorem Dg.set {w : World} {v : Value} {ds : List Int} (h : Dg w v ds) {k j : Nat} {B : Nat} (hf : Fresh B v) (hk : k < B) (u : Value) : Dg (w.setCell ⟨k, j, none⟩ u) v ds := by
  obtain ⟨h1, h2, ao, cap, hv, hc, hm, hd⟩ := h
  refine ⟨h1, h2, ao, cap, hv, hc, hm, ?_⟩
  rcases hd with h0 | ⟨b, off, ha, hlt, hcell⟩
  · exact Or.inl h0
  · by_cases h0 : ds.length = 0
    · exact Or.inl h0
    · have hb := hf ⟨b, off, none⟩ ds.length cap (by rw [hv, ha]) h0
      refine Or.inr ⟨b, off, ha, by simpa using hlt, fun i hi => ?_⟩
      rw [World.cell?_setCell_other _ _ _ _ (by intro e; injection e with e1; simp at hb; omega)]
      exact hcell i hi
theorem below_nq {B : Nat} {a w : World} (h : Below B a w) (n : Nat) : Below B a (w.drewN n) := ⟨h.os, h.tape, h.output, h.size, h.block⟩
theorem Dg.draws {w : World} {v : Value} {ds : List Int} (h : Dg w v ds) (n : Nat) : Dg (w.drewN n) v ds := h

end Go.Proofs.YtajocakmmgpoaaaGreatDoor

namespace Go.Proofs.YtajocakmmgpoaaaGreatDoor
open Go.RowKit

theorem info3 : (Tryz.prog.info? 3).map (fun i => (i.zero, i.size, i.bytes)) = some (some (.int .i64 0), 1, 8) := by kernel_rfl

/-- What the call itself has gathered reads as digits. -/
theorem dg_of_own {w : World} {B : Nat} {v : Value} {ds : List Int} (h : w.ownsRow B 3 1 v ds.length (ds.map (Value.int .i64))) (hd : Digs ds) (hl : ds.length ≤ 1000) : Dg w v ds := by
  refine ⟨hd, hl, ?_⟩
  obtain ⟨_, h2⟩ := id h
  rcases h2 with ⟨rfl, h0⟩ | ⟨g, cap, cur, rfl, hb, hg, hc, hm, hs, ht⟩
  · exact ⟨none, 0, by rw [h0], by omega, ⟨by unfold maxLen; omega, fun _ => rfl⟩, Or.inl h0⟩
  · refine ⟨some ⟨g, 0, none⟩, cap, rfl, hc, ⟨hm, fun e => by cases e⟩, Or.inr ⟨g, 0, rfl, ?_, fun i hi => ?_⟩⟩
    · exact (h.lt g rfl).2
    · rw [Nat.zero_add, h.cellAt i (by omega)]
      simp [hi]

theorem fresh_of_own {w : World} {B n : Nat} {v : Value} {xs : List Value} (h : w.ownsRow B 3 1 v n xs) : Fresh B v := fun p m c e _ => by
  subst e
  exact (h.lt p.block rfl).1

/-- A digit more. -/
theorem own_snoc {w : World} {B : Nat} {v : Value} {ds : List Int} {d : Int} {n : Nat} (hn : ds.length = n) (h : w.ownsRow B 3 1 v (n + 1) (ds.map (Value.int .i64) ++ [.int .i64 d])) :
    w.ownsRow B 3 1 v (ds ++ [d]).length ((ds ++ [d]).map (Value.int .i64)) := by
  subst hn; simpa using h

/-- 'out = append(out, d)' of a list of digits that the call itself gathers. -/
theorem wp_digit {ops : Array Oper} {rest : List Oper} {o : Oper} {a : Act} {Q : Exit → Act → World → Prop} (w : World) (d : Int) (hgd : o.guard = none) (s x : Operand)
    (ho : o.op = .call { callee := .builtin .append, args := #[s, x], argTypes := #[56, 56] }) (base : Nat) (v : Value) (ds : List Int) (hs : a.eval s = v)
    (hx : a.eval x = .slice (some ⟨w.heap.size, 0, none⟩) 1 1) (hown : w.ownsRow base 3 1 v ds.length (ds.map (Value.int .i64))) (hl : ds.length ≤ 1000) (hb : base ≤ w.heap.size)
    (h : ∀ v' w', w'.ownsRow base 3 1 v' (ds ++ [d]).length ((ds ++ [d]).map (Value.int .i64)) → (w.alloc (.cells #[.int .i64 d] 3)).grownBy w' v.ownBlock → wpList Tryz.prog ops Q rest (a.put o.dst v') w') :
    wpList Tryz.prog ops Q (o :: rest) a (w.alloc (.cells #[.int .i64 d] 3)) := by
  obtain ⟨i0, hi, hz0, hz1, hz2⟩ := info_parts info3
  refine wpList_append_own _ hgd s x 56 ho base 3 i0 (.int .i64 0) 1 8 Tryz.underlying56 hi hz0 hz1 hz2 rfl (by decide) v _ _ hs (hown.alloc _) ⟨w.heap.size, 0, none⟩ 1 1 [.int .i64 d] hx rfl ?_ ?_ (by unfold maxLen; omega) (by omega) (by simp; omega) ?_
  · intro j u hj
    match j, hj with
    | 0, hj => simp at hj; subst hj; simp [Addr.add]
  · intro u hu; simp at hu; subst hu; rfl
  · intro v' w' h1 h2 _
    exact h v' w' (own_snoc rfl h1) h2

/-- One place of a sum. -/
theorem plus_step {a b ds : List Int} {k : Nat} {cc da db : Int} (hl : ds.length = k) (h : dval ds + ten k * cc = dval (a.take k) + dval (b.take k)) (ea : a.getD k 0 = da) (eb : b.getD k 0 = db) :
    dval (ds ++ [(da + db + cc) % 10]) + ten (k + 1) * ((da + db + cc) / 10) = dval (a.take (k + 1)) + dval (b.take (k + 1)) := by
  rw [dval_snoc, hl, dval_take_succ, dval_take_succ, ea, eb, ten_succ]
  have e1 : 10 * ten k * ((da + db + cc) / 10) = ten k * (10 * ((da + db + cc) / 10)) := by rw [Int.mul_comm 10, Int.mul_assoc]
  have e2 : ten k * ((da + db + cc) % 10) + ten k * (10 * ((da + db + cc) / 10)) = ten k * (da + db + cc) := by
    rw [← Int.mul_add]; congr 1; omega
  have e3 : ten k * (da + db + cc) = ten k * da + ten k * db + ten k * cc := by rw [Int.mul_add, Int.mul_add]
  omega

end Go.Proofs.YtajocakmmgpoaaaGreatDoor

namespace Go.Proofs.YtajocakmmgpoaaaGreatDoor
open Go.RowKit

/-- A value that reads as a whole number: sign and digits. -/
def BigR (w : World) (x : Value) (z : Int) : Prop := ∃ o, x = .agg #[.bool (decide (z < 0)), o] ∧ ∃ ds, Dg w o ds ∧ Norm ds ∧ dval ds = absI z
theorem BigR.later {w w' : World} {x : Value} {z : Int} (h : BigR w x z) (hb : Below w.heap.size w w') : BigR w' x z := by
  obtain ⟨o, hx, ds, h1, h2, h3⟩ := h
  exact ⟨o, hx, ds, h1.later hb, h2, h3⟩

theorem tdm (v : Int) : 10 * v.tdiv 10 + v.tmod 10 = v ∧ (0 ≤ v → 0 ≤ v.tmod 10 ∧ 0 ≤ v.tdiv 10) ∧ (v ≤ 0 → v.tmod 10 ≤ 0 ∧ v.tdiv 10 ≤ 0) ∧ -9 ≤ v.tmod 10 ∧ v.tmod 10 ≤ 9 := by
  have e := Int.mul_tdiv_add_tmod v 10
  have h1 : (v.tmod 10).natAbs = v.natAbs % 10 := Int.natAbs_tmod v 10
  have p1 : 0 ≤ v → 0 ≤ v.tmod 10 := fun h => Int.tmod_nonneg 10 h
  have p2 : 0 ≤ v → 0 ≤ v.tdiv 10 := fun h => Int.tdiv_nonneg h (by omega)
  have n1 : v ≤ 0 → v.tmod 10 ≤ 0 := fun h => by
    have h2 := Int.neg_tmod (-v) 10
    rw [Int.neg_neg] at h2
    have h3 := Int.tmod_nonneg 10 (show 0 ≤ -v by omega)
    omega
  refine ⟨e, fun h => ⟨p1 h, p2 h⟩, fun h => ⟨n1 h, ?_⟩, by omega, by omega⟩
  have := n1 h
  omega
/-- One digit of a number. -/
theorem from_step {v0 v d : Int} {ds : List Int} {k : Nat} (hl : ds.length = k) (h : dval ds + ten k * absI v = absI v0) (hd : d = absI (v.tmod 10)) :
    dval (ds ++ [d]) + ten (k + 1) * absI (v.tdiv 10) = absI v0 := by
  rw [dval_snoc, hl, ten_succ, hd]
  have e1 : absI (v.tmod 10) + 10 * absI (v.tdiv 10) = absI v := by
    obtain ⟨t1, t2, t3, t4, t5⟩ := tdm v
    unfold absI; omega
  have e2 : 10 * ten k * absI (v.tdiv 10) = ten k * (10 * absI (v.tdiv 10)) := by rw [Int.mul_comm 10, Int.mul_assoc]
  have e3 : ten k * absI (v.tmod 10) + ten k * (10 * absI (v.tdiv 10)) = ten k * absI v := by rw [← Int.mul_add, e1]
  omega
theorem ten19 : ten 19 = 10000000000000000000 := by decide
theorem from_len {v0 v : Int} {ds : List Int} {k : Nat} (hd : Digs ds) (h : dval ds + ten k * absI v = absI v0) (hv : ¬ v = 0) (h0 : inR v0) : k ≤ 18 := by
  have h1 := (dval_bd ds hd).1
  have h2 := (absI_bd v0 h0).2
  have h3 : 0 < absI v := by unfold absI; split <;> omega
  have h4 := ten_pos k
  refine Nat.le_of_not_lt fun hc => ?_
  have h5 := ten_le (show 19 ≤ k by omega)
  rw [ten19] at h5
  have h6 := Int.mul_le_mul_of_nonneg_left (show 1 ≤ absI v by omega) (show 0 ≤ ten k by omega)
  omega
theorem from_norm {v : Int} {ds : List Int} (h : v.tdiv 10 = 0) (hv : ¬ v = 0) : Norm (ds ++ [absI (v.tmod 10)]) := by
  right
  obtain ⟨t1, t2, t3, t4, t5⟩ := tdm v
  simp
  unfold absI; omega


/-- The two boxes that From lays: its result's and b's. -/
structure FBox (w wr : World) (neg : Bool) (o : Value) : Prop where
  size : w.heap.size + 2 ≤ wr.heap.size
  r0 : wr.cell? ⟨w.heap.size, 0, none⟩ = some (.bool false)
  r1 : wr.cell? ⟨w.heap.size, 1, none⟩ = some (.slice none 0 0)
  b0 : wr.cell? ⟨w.heap.size + 1, 0, none⟩ = some (.bool neg)
  b1 : wr.cell? ⟨w.heap.size + 1, 1, none⟩ = some o
  q0 : wr.frozen? ⟨w.heap.size, 0, none⟩ = false
  q1 : wr.frozen? ⟨w.heap.size, 1, none⟩ = false
  p1 : wr.frozen? ⟨w.heap.size + 1, 1, none⟩ = false
  bel : Below w.heap.size w wr

theorem FBox.grow {w wr w1 : World} {neg : Bool} {o : Value} {ob : Obj} (F : FBox w wr neg o) (hrow : ∀ k, o.ownBlock = some k → w.heap.size + 2 ≤ k) (hg : (wr.alloc ob).grownBy w1 o.ownBlock) : FBox w w1 neg o := by
  obtain ⟨s, r0, r1, b0, b1, q0, q1, p1, bel⟩ := F
  have hs : (wr.alloc ob).heap.size = wr.heap.size + 1 := by simp
  have hb : ∀ k, k < w.heap.size + 2 → w1.heap[k]? = wr.heap[k]? := fun k hk => by
    refine (hg.block k (by omega) (fun e => ?_)).trans (Below.heap_alloc wr ob k (by omega))
    have := hrow k e.symm
    omega
  have c : ∀ k j, k < w.heap.size + 2 → w1.cell? ⟨k, j, none⟩ = wr.cell? ⟨k, j, none⟩ := fun k j hk => World.cell?_of_block (a := ⟨k, j, none⟩) (hb k hk)
  have f : ∀ k j, k < w.heap.size + 2 → w1.frozen? ⟨k, j, none⟩ = wr.frozen? ⟨k, j, none⟩ := fun k j hk => World.frozen?_of_block (a := ⟨k, j, none⟩) (hb k hk)
  refine ⟨by have := hg.size; omega, (c _ _ (by omega)).trans r0, (c _ _ (by omega)).trans r1, (c _ _ (by omega)).trans b0, (c _ _ (by omega)).trans b1, (f _ _ (by omega)).trans q0, (f _ _ (by omega)).trans q1, (f _ _ (by omega)).trans p1, ?_⟩
  exact (bel.alloc (by omega) ob).grown hg (by omega) (fun k e => by have := hrow k e; omega)
theorem FBox.store {w wr : World} {neg : Bool} {o : Value} (F : FBox w wr neg o) (v : Value) : FBox w (wr.setCell ⟨w.heap.size + 1, 1, none⟩ v) neg v := by
  obtain ⟨s, r0, r1, b0, b1, q0, q1, p1, bel⟩ := F
  refine ⟨by simpa using s, ?_, ?_, ?_, World.cell?_setCell_same _ _ _ b1, by simpa using q0, by simpa using q1, by simpa using p1, bel.setCell (by simp) v⟩
  · rw [World.cell?_setCell_other _ _ _ _ (by simp)]; exact r0
  · rw [World.cell?_setCell_other _ _ _ _ (by simp)]; exact r1
  · rw [World.cell?_setCell_other _ _ _ _ (by simp)]; exact b0

/-- What holds of a round's numbers. -/
structure FNum (v0 x : Int) (ds : List Int) : Prop where
  inr : inR x
  val : dval ds + ten ds.length * absI x = absI v0
  dig : Digs ds
  norm : x = 0 → Norm ds
  len : ds.length ≤ 19
theorem FNum.next {v0 x : Int} {ds : List Int} (h0 : inR v0) (F : FNum v0 x ds) (hx : ¬ x = 0) : FNum v0 (x.tdiv 10) (ds ++ [absI (x.tmod 10)]) := by
  obtain ⟨inr, val, dig, norm, len⟩ := F
  have hk := from_len dig val hx h0
  obtain ⟨t1, t2, t3, t4, t5⟩ := tdm x
  refine ⟨by unfold inR at *; omega, ?_, digs_snoc dig (absI_nonneg _) (by unfold absI; split <;> omega), fun h => from_norm h hx, by simp; omega⟩
  have := from_step rfl val rfl
  rw [List.length_append]; exact this
theorem FNum.len19 {v0 x : Int} {ds : List Int} (F : FNum v0 x ds) : ds.length ≤ 1000 := by have := F.len; omega
theorem FNum.less (x : Int) (hx : ¬ x = 0) : (x.tdiv 10).toNat + (-(x.tdiv 10)).toNat < x.toNat + (-x).toNat := by
  obtain ⟨t1, t2, t3, t4, t5⟩ := tdm x
  omega

end Go.Proofs.YtajocakmmgpoaaaGreatDoor
