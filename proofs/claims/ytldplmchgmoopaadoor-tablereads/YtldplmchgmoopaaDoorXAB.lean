import Derived.ProofKit
import Derived.OpenShut
import Derived.WalkKit
import Derived.Laws.BitsAllLaws
import Derived.Test.YtldplmchgmoopaaDoorRows
import Derived.WalkSpells
import Derived.Lib.Mul64
import Derived.BigQuiet
import Derived.Outline
namespace Go.Proofs.YtldplmchgmoopaaDoor
open Go.ChangeShapes Go.WideShapes Go.ChangeAt Go.RowKit

theorem open_three {H : Type} {enc : TypeId × Value → H} {P : Program} {W : World} {r : Reach} {b0 base : Nat} {sp : Nat → Bool} {held : Bool} {t e : TypeId} {fs : Array Field} {v : Value} {d : DataW H} {ps : List MemPlace}
    (ht : P.underlying t = some (.struct fs)) (hfs : fs.toList.map (fun f => (f.type, f.offset)) = [(e, 0), (e, 1), (e, 2)]) (he : P.underlying e = some (.int .i64)) (hc : P.cellsOf e = 1) (hct : P.cellsOf t = 3)
    (hok : Value.okWide P W r b0 t v) (h : DataW.Trod enc P W base sp held t v d ps) :
    ∃ y m z : Int, v = .agg #[.int .i64 y, .int .i64 m, .int .i64 z] ∧ (Lit.int .i64 y).wf = true ∧ (Lit.int .i64 m).wf = true ∧ (Lit.int .i64 z).wf = true := by
  obtain ⟨cs, rfl, hsz⟩ := okWide_struct ht hok
  obtain ⟨fuel, hf⟩ := h
  obtain ⟨xs, n, _, _, hl, hlen, hfld⟩ := DataW.trod_struct ht hf
  rw [hct] at hsz
  obtain ⟨c0, c1, c2, rfl⟩ : ∃ a b c, cs = #[a, b, c] := by
    obtain ⟨l⟩ := cs
    match l, hsz with
    | [a, b, c], _ => exact ⟨a, b, c, rfl⟩
  have h3 : fs.size = 3 := by have := congrArg List.length hfs; simpa using this
  have fat : ∀ i (hi : i < 3), ∃ f, fs[i]? = some f ∧ (f.type, f.offset) = [(e, 0), (e, 1), (e, 2)][i] := fun i hi => by
    refine ⟨fs[i]'(by omega), by simp [show i < fs.size by omega], ?_⟩
    have : (fs.toList.map (fun f => (f.type, f.offset)))[i]? = [(e, 0), (e, 1), (e, 2)][i]? := by rw [hfs]
    simpa [show i < fs.size by omega, hi] using this
  have key : ∀ i (hi : i < 3) c, (#[c0, c1, c2] : Array Value)[i]? = some c → ∃ z, c = .int .i64 z ∧ (Lit.int .i64 z).wf = true := by
    intro i hi c hcc
    obtain ⟨f, hfi, hfe⟩ := fat i hi
    have hx := hfld i f hfi
    obtain ⟨y, hy⟩ : ∃ y, xs[i]? = some y := ⟨xs[i]'(by omega), by simp [show i < xs.length by omega]⟩
    rw [hy] at hx
    have ft : f.type = e := by
      have := congrArg Prod.fst hfe
      rcases (show i = 0 ∨ i = 1 ∨ i = 2 by omega) with rfl | rfl | rfl <;> simpa using this
    have fo : f.offset = i := by
      have := congrArg Prod.snd hfe
      rcases (show i = 0 ∨ i = 1 ∨ i = 2 by omega) with rfl | rfl | rfl <;> simpa using this
    rw [ft, fo, hc] at hx
    obtain ⟨z, hz, _, hw⟩ := DataW.trod_int he hx
    refine ⟨z, ?_, hw⟩
    rcases (show i = 0 ∨ i = 1 ∨ i = 2 by omega) with rfl | rfl | rfl <;> (simp [Value.cells] at hz hcc; rw [← hcc, hz])
  obtain ⟨y, rfl, wy⟩ := key 0 (by omega) c0 rfl
  obtain ⟨m, rfl, wm⟩ := key 1 (by omega) c1 rfl
  obtain ⟨z, rfl, wz⟩ := key 2 (by omega) c2 rfl
  exact ⟨y, m, z, rfl, wy, wm, wz⟩

theorem open_two {H : Type} {enc : TypeId × Value → H} {P : Program} {W : World} {r : Reach} {b0 base : Nat} {sp : Nat → Bool} {held : Bool} {t e : TypeId} {fs : Array Field} {v : Value} {d : DataW H} {ps : List MemPlace}
    (ht : P.underlying t = some (.struct fs)) (hfs : fs.toList.map (fun f => (f.type, f.offset)) = [(e, 0), (e, 1)]) (he : P.underlying e = some (.int .i64)) (hc : P.cellsOf e = 1) (hct : P.cellsOf t = 2)
    (hok : Value.okWide P W r b0 t v) (h : DataW.Trod enc P W base sp held t v d ps) :
    ∃ y m : Int, v = .agg #[.int .i64 y, .int .i64 m] ∧ (Lit.int .i64 y).wf = true ∧ (Lit.int .i64 m).wf = true := by
  obtain ⟨cs, rfl, hsz⟩ := okWide_struct ht hok
  obtain ⟨fuel, hf⟩ := h
  obtain ⟨xs, n, _, _, hl, hlen, hfld⟩ := DataW.trod_struct ht hf
  rw [hct] at hsz
  obtain ⟨c0, c1, rfl⟩ : ∃ a b, cs = #[a, b] := by
    obtain ⟨l⟩ := cs
    match l, hsz with
    | [a, b], _ => exact ⟨a, b, rfl⟩
  have h3 : fs.size = 2 := by have := congrArg List.length hfs; simpa using this
  have fat : ∀ i (hi : i < 2), ∃ f, fs[i]? = some f ∧ (f.type, f.offset) = [(e, 0), (e, 1)][i] := fun i hi => by
    refine ⟨fs[i]'(by omega), by simp [show i < fs.size by omega], ?_⟩
    have : (fs.toList.map (fun f => (f.type, f.offset)))[i]? = [(e, 0), (e, 1)][i]? := by rw [hfs]
    simpa [show i < fs.size by omega, hi] using this
  have key : ∀ i (hi : i < 2) c, (#[c0, c1] : Array Value)[i]? = some c → ∃ z, c = .int .i64 z ∧ (Lit.int .i64 z).wf = true := by
    intro i hi c hcc
    obtain ⟨f, hfi, hfe⟩ := fat i hi
    have hx := hfld i f hfi
    obtain ⟨y, hy⟩ : ∃ y, xs[i]? = some y := ⟨xs[i]'(by omega), by simp [show i < xs.length by omega]⟩
    rw [hy] at hx
    have ft : f.type = e := by
      have := congrArg Prod.fst hfe
      rcases (show i = 0 ∨ i = 1 by omega) with rfl | rfl <;> simpa using this
    have fo : f.offset = i := by
      have := congrArg Prod.snd hfe
      rcases (show i = 0 ∨ i = 1 by omega) with rfl | rfl <;> simpa using this
    rw [ft, fo, hc] at hx
    obtain ⟨z, hz, _, hw⟩ := DataW.trod_int he hx
    refine ⟨z, ?_, hw⟩
    rcases (show i = 0 ∨ i = 1 by omega) with rfl | rfl <;> (simp [Value.cells] at hz hcc; rw [← hcc, hz])
  obtain ⟨y, rfl, wy⟩ := key 0 (by omega) c0 rfl
  obtain ⟨m, rfl, wm⟩ := key 1 (by omega) c1 rfl
  exact ⟨y, m, rfl, wy, wm⟩
end Go.Proofs.YtldplmchgmoopaaDoor

namespace Go.Proofs.YtldplmchgmoopaaDoor
open Go.RowKit

/-- A fact, kept out of the walk's sight. -/
theorem veil {p : Prop} (h : p) : Hid p := h
theorem unveil {p : Prop} (h : Hid p) : p := h

/-- A number of 64 bits. -/
def inR (n : Int) : Prop := -9223372036854775808 ≤ n ∧ n ≤ 9223372036854775807
/-- The number that a checked call tells, and its fault. -/
def fitV (n : Int) : Int := if -9223372036854775808 ≤ n ∧ n ≤ 9223372036854775807 then n else 0
def fitF (n : Int) : Int := if -9223372036854775808 ≤ n ∧ n ≤ 9223372036854775807 then 0 else 1

theorem fitV_in {n : Int} (h : inR n) : fitV n = n := by unfold inR at h; unfold fitV; rw [if_pos h]
theorem fitF_in {n : Int} (h : inR n) : fitF n = 0 := by unfold inR at h; unfold fitF; rw [if_pos h]
theorem fitV_out {n : Int} (h : ¬ inR n) : fitV n = 0 := by unfold inR at h; unfold fitV; rw [if_neg h]
theorem fitF_out {n : Int} (h : ¬ inR n) : fitF n = 1 := by unfold inR at h; unfold fitF; rw [if_neg h]
end Go.Proofs.YtldplmchgmoopaaDoor

namespace Go.Proofs.YtldplmchgmoopaaDoor
open Go.RowKit

/-- A number without its sign. -/
def absI (a : Int) : Int := if a < 0 then -a else a
theorem absI_neg {a : Int} (h : a < 0) : absI a = -a := by unfold absI; rw [if_pos h]
theorem absI_pos {a : Int} (h : ¬ a < 0) : absI a = a := by unfold absI; rw [if_neg h]
theorem absI_bd (a : Int) (h : inR a) : 0 ≤ absI a ∧ absI a ≤ 9223372036854775808 := by
  unfold inR at h; unfold absI; split <;> omega
theorem absI_nonneg (a : Int) : 0 ≤ absI a := by unfold absI; split <;> omega
end Go.Proofs.YtldplmchgmoopaaDoor

namespace Go.Proofs.YtldplmchgmoopaaDoor
open Go.RowKit

/-- The number that a list of digits means. -/
def dval : List Int → Int
  | [] => 0
  | d :: ds => d + 10 * dval ds
def Digs (ds : List Int) : Prop := ∀ i, 0 ≤ ds.getD i 0 ∧ ds.getD i 0 ≤ 9
/-- No 0 at the end. -/
def Norm (ds : List Int) : Prop := ds.length = 0 ∨ ¬ ds.getD (ds.length - 1) 0 = 0

/-- The powers of ten, behind a name. -/
def ten (k : Nat) : Int := 10 ^ k
theorem ten_zero : ten 0 = 1 := rfl
theorem ten_succ (k : Nat) : ten (k + 1) = 10 * ten k := by unfold ten; rw [Int.pow_succ, Int.mul_comm]
theorem ten_pos (k : Nat) : 0 < ten k := Int.pow_pos (by decide)
theorem ten_add (a b : Nat) : ten (a + b) = ten a * ten b := Int.pow_add _ _ _
theorem ten_le {a b : Nat} (h : a ≤ b) : ten a ≤ ten b := by
  obtain ⟨c, rfl⟩ := Nat.exists_eq_add_of_le h
  have h1 := ten_pos c
  have h2 := ten_pos a
  rw [ten_add]
  have := Int.mul_le_mul_of_nonneg_left (show 1 ≤ ten c by omega) (show 0 ≤ ten a by omega)
  omega

theorem dval_append (a b : List Int) : dval (a ++ b) = dval a + ten a.length * dval b := by
  induction a with
  | nil => simp [dval, ten_zero]
  | cons d a ih =>
    rw [List.cons_append, dval, dval, ih, List.length_cons, ten_succ, Int.mul_add, ← Int.mul_assoc, Int.add_assoc]
theorem dval_snoc (a : List Int) (d : Int) : dval (a ++ [d]) = dval a + ten a.length * d := by
  rw [dval_append]; simp [dval]
theorem dval_take_succ (a : List Int) (k : Nat) : dval (a.take (k + 1)) = dval (a.take k) + ten k * a.getD k 0 := by
  by_cases h : k < a.length
  · rw [List.take_succ_eq_append_getElem h, dval_snoc, List.length_take, Nat.min_eq_left (by omega)]
    simp [h]
  · rw [List.take_of_length_le (by omega), List.take_of_length_le (by omega)]
    have : a.getD k 0 = 0 := by simp [List.getElem?_eq_none (Nat.le_of_not_lt h)]
    rw [this]; simp
theorem dval_take_all (a : List Int) (k : Nat) (h : a.length ≤ k) : dval (a.take k) = dval a := by rw [List.take_of_length_le h]
theorem dval_split (a : List Int) (k : Nat) (h : k ≤ a.length) : dval a = dval (a.take k) + ten k * dval (a.drop k) := by
  have := dval_append (a.take k) (a.drop k)
  rw [List.take_append_drop, List.length_take, Nat.min_eq_left h] at this
  exact this

theorem digs_nil : Digs [] := fun i => by simp
theorem digs_take {a : List Int} (h : Digs a) (k : Nat) : Digs (a.take k) := fun i => by
  by_cases hi : i < k
  · have := h i
    simp only [List.getD_eq_getElem?_getD, List.getElem?_take, if_pos hi] at *
    exact this
  · simp [List.getElem?_take, hi]
theorem digs_snoc {a : List Int} (h : Digs a) {d : Int} (h0 : 0 ≤ d) (h1 : d ≤ 9) : Digs (a ++ [d]) := fun i => by
  have := h i
  by_cases hi : i < a.length
  · simp only [List.getD_eq_getElem?_getD, List.getElem?_append_left hi] at *; exact this
  · by_cases hj : i = a.length
    · subst hj; simp [h0, h1]
    · have : (a ++ [d])[i]? = none := List.getElem?_eq_none (by simp; omega)
      simp [this]
theorem digs_cons {a : List Int} (h : Digs a) {d : Int} (h0 : 0 ≤ d) (h1 : d ≤ 9) : Digs (d :: a) := fun i => by
  cases i with
  | zero => simp [h0, h1]
  | succ i => simpa using h i
theorem digs_tail {a : List Int} {d : Int} (h : Digs (d :: a)) : Digs a := fun i => by simpa using h (i + 1)
theorem dval_bd : ∀ (a : List Int), Digs a → 0 ≤ dval a ∧ dval a < ten a.length
  | [], _ => by simp [dval, ten_zero]
  | d :: a, h => by
    obtain ⟨i1, i2⟩ := dval_bd a (digs_tail h)
    have h0 := h 0
    simp at h0
    rw [dval, List.length_cons, ten_succ]
    omega
/-- A number without a 0 at the end is at least as great as its first power. -/
theorem norm_le {a : List Int} (h : Digs a) (hn : Norm a) (h0 : 0 < a.length) : ten (a.length - 1) ≤ dval a := by
  have hl : ¬ a.getD (a.length - 1) 0 = 0 := hn.resolve_left (by omega)
  have hd := h (a.length - 1)
  have e := dval_split a (a.length - 1) (by omega)
  have e2 : a.drop (a.length - 1) = [a.getD (a.length - 1) 0] := by
    have hlt : a.length - 1 < a.length := by omega
    rw [List.drop_eq_getElem_cons hlt, List.drop_of_length_le (by omega)]
    simp [hlt]
  have h3 := dval_bd _ (digs_take h (a.length - 1))
  have h4 := ten_pos (a.length - 1)
  have h5 := Int.mul_le_mul_of_nonneg_left (show 1 ≤ a.getD (a.length - 1) 0 by omega) (show 0 ≤ ten (a.length - 1) by omega)
  rw [e, e2]; simp only [dval, Int.mul_zero, Int.add_zero]; omega
theorem norm_zero {a : List Int} (h : Digs a) (hn : Norm a) : dval a = 0 ↔ a.length = 0 := by
  constructor
  · intro hz
    by_cases h0 : 0 < a.length
    · have := norm_le h hn h0
      have := ten_pos (a.length - 1)
      omega
    · omega
  · intro hz; rw [List.eq_nil_of_length_eq_zero hz]; rfl
/-- More digits: the greater number. -/
theorem norm_longer {a b : List Int} (ha : Digs a) (hna : Norm a) (hb : Digs b) (h : b.length < a.length) : dval b < dval a := by
  have h1 := norm_le ha hna (by omega)
  have h2 := (dval_bd b hb).2
  have h3 := ten_le (show b.length ≤ a.length - 1 by omega)
  omega
/-- How many digits at most. -/
theorem norm_len {a : List Int} (h : Digs a) (hn : Norm a) {k : Nat} (hk : dval a < ten k) : a.length ≤ k := by
  refine Nat.le_of_not_lt fun hc => ?_
  have h1 := norm_le h hn (by omega)
  have h2 := ten_le (show k ≤ a.length - 1 by omega)
  omega
/-- Digits that are one above a place: the place decides. -/
theorem dig_decides {a b : List Int} (ha : Digs a) (hb : Digs b) (k : Nat) (hka : k < a.length) (hkb : k < b.length) (he : a.drop (k + 1) = b.drop (k + 1)) (hlt : b.getD k 0 < a.getD k 0) : dval b < dval a := by
  rw [dval_split a (k + 1) (by omega), dval_split b (k + 1) (by omega), he, dval_take_succ, dval_take_succ]
  have h1 := dval_bd _ (digs_take ha k)
  have h2 := dval_bd _ (digs_take hb k)
  rw [List.length_take, Nat.min_eq_left (by omega)] at h1 h2
  have h3 := Int.mul_le_mul_of_nonneg_left (show b.getD k 0 + 1 ≤ a.getD k 0 by omega) (show 0 ≤ ten k by have := ten_pos k; omega)
  rw [Int.mul_add] at h3
  omega

end Go.Proofs.YtldplmchgmoopaaDoor

namespace Go.Proofs.YtldplmchgmoopaaDoor
open Go.RowKit

end Go.Proofs.YtldplmchgmoopaaDoor

namespace Go.Proofs.YtldplmchgmoopaaDoor
open Go.RowKit

theorem ret_i {k : IntKind} {a b : Int} (h : a = b) : Ending.returned (.int k a) = .returned (.int k b) := by rw [h]
theorem ret_b {a b : Bool} (h : a = b) : Ending.returned (.bool a) = .returned (.bool b) := by rw [h]
theorem ret_ii {k l : IntKind} {a b c d : Int} (h : a = b) (g : c = d) : Ending.returned (.tuple #[.int k a, .int l c]) = .returned (.tuple #[.int k b, .int l d]) := by rw [h, g]
theorem neg_u64 (a : Int) (h : a < 0) (h1 : -9223372036854775808 ≤ a) : IntKind.u64.wrap (-IntKind.u64.wrap a) = -a := by
  rw [IntKind.wrap_u64, IntKind.wrap_u64]; omega
theorem sizeOf_any (a : Int) (ha : inR a) (w : World) :
    Calls Tryd.prog 59 #[.int .i64 a] w fun e w' => e = .returned (.int .u64 (absI a)) ∧ w' = w := by
  unfold inR at ha
  obtain ⟨h1, h2⟩ := ha
  by_cases h : a < 0
  · rw [absI_neg h]
    go_enter Tryd.func59, Tryd.ntmps59
    go_wp2
    go_ret
    exact ⟨ret_i (neg_u64 a h h1), rfl⟩
  · rw [absI_pos h]
    go_enter Tryd.func59, Tryd.ntmps59
    go_wp2
    go_ret
    exact ⟨rfl, rfl⟩

end Go.Proofs.YtldplmchgmoopaaDoor

namespace Go.Proofs.YtldplmchgmoopaaDoor
open Go.RowKit

/-- A value that reads as a list of digits. -/
def Dg (w : World) (v : Value) (ds : List Int) : Prop :=
  Digs ds ∧ ds.length ≤ 1000 ∧ ∃ ao cap, v = .slice ao ds.length cap ∧ ds.length ≤ cap ∧ (cap ≤ maxLen ∧ (ao = none → cap = 0)) ∧
    (ds.length = 0 ∨ ∃ b off, ao = some ⟨b, off, none⟩ ∧ b < w.heap.size ∧ ∀ i, i < ds.length → w.cell? ⟨b, off + i, none⟩ = some (.int .i64 (ds.getD i 0)))

theorem Dg.later {w w' : World} {v : Value} {ds : List Int} (h : Dg w v ds) (hb : Below w.heap.size w w') : Dg w' v ds := by
  obtain ⟨h1, h2, ao, cap, hv, hc, hm, hd⟩ := h
  refine ⟨h1, h2, ao, cap, hv, hc, hm, ?_⟩
  rcases hd with h0 | ⟨b, off, ha, hlt, hcell⟩
  · exact Or.inl h0
  · exact Or.inr ⟨b, off, ha, Nat.lt_of_lt_of_le hlt hb.size, fun i hi => (hb.cell (p := ⟨b, off + i, none⟩) hlt).trans (hcell i hi)⟩
/-- What is not empty lies in a block from B on. -/
def Fresh (B : Nat) (v : Value) : Prop := ∀ p n c, v = .slice (some p) n c → n ≠ 0 → B ≤ p.block
theorem Fresh.mono {B B' : Nat} {v : Value} (h : Fresh B v) (hB : B' ≤ B) : Fresh B' v := fun p n c e hn => Nat.le_trans hB (h p n c e hn)
theorem Fresh.cut {B : Nat} {ao : Option Addr} {n c k : Nat} (h : Fresh B (.slice ao n c)) (hk : k ≤ n) : Fresh B (.slice ao k c) := fun p m c' e hm => by
  injection e with e1 e2 e3
  subst e1 e2
  exact h p n c rfl (by omega)
/-- A store into a box leaves digits of other blocks alone. -/
theorem Dg.set {w : World} {v : Value} {ds : List Int} (h : Dg w v ds) {k j : Nat} {B : Nat} (hf : Fresh B v) (hk : k < B) (u : Value) : Dg (w.setCell ⟨k, j, none⟩ u) v ds := by
  obtain ⟨h1, h2, ao, cap, hv, hc, hm, hd⟩ := h
  refine ⟨h1, h2, ao, cap, hv, hc, hm, ?_⟩
  rcases hd with h0 | ⟨b, off, ha, hlt, hcell⟩
  · exact Or.inl h0
  · by_cases h0 : ds.length = 0
    · exact Or.inl h0
    · have hb := hf ⟨b, off, none⟩ ds.length cap (by rw [hv, ha]) h0
      refine Or.inr ⟨b, off, ha, by simpa using hlt, fun i hi => ?_⟩
      rw [World.cell?_setCell_other _ _ _ _ (by intro e; injection e with e1; simp at hb; omega)]
      exact hcell i hi
theorem below_nq {B : Nat} {a w : World} (h : Below B a w) (n : Nat) : Below B a (w.drewN n) := ⟨h.os, h.tape, h.output, h.size, h.block⟩
theorem Dg.draws {w : World} {v : Value} {ds : List Int} (h : Dg w v ds) (n : Nat) : Dg (w.drewN n) v ds := h

theorem at_any (v : Value) (ds : List Int) (i : Nat) (w : World) (hi : i ≤ 100000) (hd : Dg w v ds) :
    Calls Tryd.prog 49 #[v, .int .i64 i] w fun e w' => e = .returned (.int .i64 (ds.getD i 0)) ∧ w' = w := by
  obtain ⟨h1, h2, ao, cap, rfl, hc, hm, hr⟩ := hd
  by_cases hlt : i < ds.length
  · rcases hr with h0 | ⟨b, off, rfl, hb, hcell⟩
    · omega
    · have hx := hcell i hlt
      clear hcell h1
      generalize ds.getD i 0 = d at *
      go_enter Tryd.func49, Tryd.ntmps49
      go_wp2
      go_ret
      exact ⟨rfl, rfl⟩
  · have e : ds.getD i 0 = 0 := by simp [List.getElem?_eq_none (Nat.le_of_not_lt hlt)]
    rw [e]
    clear hr h1 e
    go_enter Tryd.func49, Tryd.ntmps49
    go_wp2
    go_ret
    exact ⟨rfl, rfl⟩

theorem at_keep (v : Value) (ds : List Int) (i : Nat) (w : World) (hi : i ≤ 100000) (hd : Dg w v ds) :
    Calls Tryd.prog 49 #[v, .int .i64 i] w fun e w' => e = .returned (.int .i64 (ds.getD i 0)) ∧ w = w' := by
  refine (at_any v ds i w hi hd).mono ?_
  rintro e w' ⟨rfl, rfl⟩
  exact ⟨rfl, rfl⟩

theorem trim_any (v : Value) (ds : List Int) (w : World) (hd : Dg w v ds) :
    Calls Tryd.prog 37 #[v] w fun e w' => ∃ v', e = .returned v' ∧ w' = w ∧ ∃ ds', Dg w v' ds' ∧ dval ds' = dval ds ∧ Norm ds' ∧ ds'.length ≤ ds.length ∧ ∀ B, Fresh B v → Fresh B v' := by
  obtain ⟨h1, h2, ao, cap, rfl, hc, hm, hr⟩ := hd
  have D : ∀ k, k ≤ ds.length → Dg w (.slice ao k cap) (ds.take k) := by
    intro k hk
    have hl : (ds.take k).length = k := by rw [List.length_take, Nat.min_eq_left hk]
    refine ⟨digs_take h1 k, by omega, ao, cap, by rw [hl], by omega, hm, ?_⟩
    rcases hr with h0 | ⟨b, off, ha, hb, hcell⟩
    · exact Or.inl (by omega)
    · refine Or.inr ⟨b, off, ha, hb, fun i hi => ?_⟩
      have e : (ds.take k).getD i 0 = ds.getD i 0 := by
        simp only [List.getD_eq_getElem?_getD, List.getElem?_take, if_pos (show i < k by omega)]
      rw [e]; exact hcell i (by omega)
  have N : ∀ k, k ≤ ds.length → (k = 0 ∨ ¬ ds.getD (k - 1) 0 = 0) → Norm (ds.take k) := by
    intro k hk hz
    have hl : (ds.take k).length = k := by rw [List.length_take, Nat.min_eq_left hk]
    unfold Norm
    rw [hl]
    rcases hz with h0 | h0
    · exact Or.inl h0
    · by_cases hk0 : k = 0
      · exact Or.inl hk0
      · right
        have e : (ds.take k).getD (k - 1) 0 = ds.getD (k - 1) 0 := by
          simp only [List.getD_eq_getElem?_getD, List.getElem?_take, if_pos (show k - 1 < k by omega)]
        rw [e]; exact h0
  have L : ∀ k, k ≤ ds.length → (ds.take k).length ≤ ds.length := fun k _ => by rw [List.length_take]; omega
  have D' := veil D
  have N' := veil N
  have L' := veil L
  have C : ∀ i, i < ds.length → ∃ b off, ao = some ⟨b, off, none⟩ ∧ w.cell? ⟨b, off + i, none⟩ = some (.int .i64 (ds.getD i 0)) := by
    intro i hi
    rcases hr with h0 | ⟨b, off, ha, hb, hcell⟩
    · omega
    · exact ⟨b, off, ha, hcell i hi⟩
  have C' := veil C
  have S' := veil (dval_take_succ ds)
  have T0 := veil (dval_take_all ds ds.length (Nat.le_refl _))
  clear D N L hr C h1
  generalize hn : ds.length = n at *
  have Hn := veil hn
  clear hn
  go_enter Tryd.func37, Tryd.ntmps37
  go_wp2_with fail
  go_loop [3] (fun a => ∃ k : Nat, k ≤ n ∧ a = .int .i64 k ∧ dval (ds.take k) = dval ds) (fun a => (intOf a).toNat)
  case atStart => exact ⟨n, Nat.le_refl _, rfl, unveil T0⟩
  case round =>
    obtain ⟨k, hk, rfl, hv⟩ := hrel
    have V := veil hv
    clear hv
    cases k with
    | zero =>
      have hg : decide ((0 : Int) < ((0 : Nat) : Int)) = false := by simp
      go_wp2_with fail
      go_ret
      exact ⟨_, rfl, rfl, _, unveil D' 0 (by omega), unveil V, unveil N' 0 (by omega) (Or.inl rfl), unveil L' 0 (by omega), fun B h => h.cut (by omega)⟩
    | succ m =>
      obtain ⟨b, off, rfl, hcell⟩ := unveil C' m (by omega)
      by_cases hz : ds.getD m 0 = 0
      · have Z := veil (show dval (ds.take m) = dval ds by have := unveil S' m; rw [hz, unveil V] at this; simp at this; exact this.symm)
        rw [hz] at hcell
        clear hz
        go_wp2_with fail
        go_round
        case rel => exact ⟨m, by omega, by go_num, unveil Z⟩
        case measure => simp [intOf]
      · have hz' : (ds.getD m 0 == 0) = false := by simpa using hz
        have NN := veil (unveil N' (m + 1) hk (Or.inr hz))
        clear hz
        generalize ds.getD m 0 = d at *
        go_wp2_with fail
        go_ret
        exact ⟨_, rfl, rfl, _, unveil D' (m + 1) hk, unveil V, unveil NN, unveil L' (m + 1) hk, fun B h => h.cut hk⟩

theorem above_any (va vb : Value) (a b : List Int) (w : World) (ha : Dg w va a) (hb : Dg w vb b) (na : Norm a) (nb : Norm b) :
    Calls Tryd.prog 48 #[va, vb] w fun e w' => e = .returned (.bool (decide (dval b < dval a))) ∧ ∃ n, w' = w.drewN n := by
  obtain ⟨a1, a2, ao, cap, rfl, ac, am, ar⟩ := ha
  obtain ⟨b1, b2, bo, cap', rfl, bc, bm, br⟩ := hb
  by_cases hl : a.length = b.length
  · have Q : ∀ k, k ≤ a.length → a.drop k = b.drop k → (k = 0 → decide (dval b < dval a) = false) ∧ (∀ m, k = m + 1 → (a.getD m 0 = b.getD m 0 → a.drop m = b.drop m) ∧
        (¬ a.getD m 0 = b.getD m 0 → decide (b.getD m 0 < a.getD m 0) = decide (dval b < dval a))) := by
      intro k hk he
      refine ⟨fun h0 => ?_, fun m hm => ⟨fun hd => ?_, fun hd => ?_⟩⟩
      · subst h0; simp at he; subst he; simp
      · subst hm
        rw [List.drop_eq_getElem_cons (show m < a.length by omega), List.drop_eq_getElem_cons (show m < b.length by omega), he]
        have e1 : a.getD m 0 = a[m] := by simp [show m < a.length by omega]
        have e2 : b.getD m 0 = b[m] := by simp [show m < b.length by omega]
        rw [← e1, ← e2, hd]
      · subst hm
        by_cases hlt : b.getD m 0 < a.getD m 0
        · have := dig_decides a1 b1 m (by omega) (by omega) he hlt
          rw [decide_eq_true hlt, decide_eq_true this]
        · have := dig_decides b1 a1 m (by omega) (by omega) he.symm (by omega)
          rw [decide_eq_false hlt, decide_eq_false (by omega)]
    have Q' := veil Q
    have CA : ∀ i, i < a.length → ∃ p off, ao = some ⟨p, off, none⟩ ∧ w.cell? ⟨p, off + i, none⟩ = some (.int .i64 (a.getD i 0)) := by
      intro i hi
      rcases ar with h0 | ⟨p, off, h1, h2, h3⟩
      · omega
      · exact ⟨p, off, h1, h3 i hi⟩
    have CB : ∀ i, i < a.length → ∃ p off, bo = some ⟨p, off, none⟩ ∧ w.cell? ⟨p, off + i, none⟩ = some (.int .i64 (b.getD i 0)) := by
      intro i hi
      rcases br with h0 | ⟨p, off, h1, h2, h3⟩
      · omega
      · exact ⟨p, off, h1, h3 i (by omega)⟩
    have CA' := veil CA
    have CB' := veil CB
    have D0 : a.drop a.length = b.drop a.length := by rw [List.drop_of_length_le (Nat.le_refl _), List.drop_of_length_le (by omega)]
    have D0' := veil D0
    rw [← hl] at bc b2 ⊢
    clear Q CA CB D0 ar br a1 b1 na nb hl bc
    generalize a.length = n at *
    generalize decide (dval b < dval a) = ans at *
    go_enter Tryd.func48, Tryd.ntmps48
    go_wp2_with fail
    go_loopw [5] (fun i wr => ∃ k : Nat, k ≤ n ∧ i = .int .i64 ((k : Int) - 1) ∧ a.drop k = b.drop k ∧ ∃ q, wr = w.drewN q) (fun i _ => (intOf i + 1).toNat)
    case atStart => exact ⟨n, Nat.le_refl _, rfl, unveil D0', 0, rfl⟩
    case round =>
      obtain ⟨k, hk, rfl, he, q, rfl⟩ := hrel
      have E := veil he
      clear he
      cases k with
      | zero =>
        have F := veil ((unveil Q' 0 (by omega) (unveil E)).1 rfl)
        go_wp2_with fail
        go_ret
        exact ⟨ret_b (unveil F).symm, q, rfl⟩
      | succ m =>
        obtain ⟨pa, oa, rfl, ca⟩ := unveil CA' m (by omega)
        obtain ⟨pb, ob, rfl, cb⟩ := unveil CB' m (by omega)
        have hm : (((m + 1 : Nat) : Int) - 1) = (m : Int) := by omega
        rw [hm]
        have QQ := (unveil Q' (m + 1) hk (unveil E)).2 m rfl
        by_cases hd : a.getD m 0 = b.getD m 0
        · have E2 := veil (QQ.1 hd)
          rw [← hd] at cb
          clear QQ hd hm
          generalize a.getD m 0 = d at *
          go_wp2_with fail
          go_quiet (fail)
          go_wp2_with fail
          go_roundw
          case rel => exact ⟨m, by omega, by go_num, unveil E2, _, rfl⟩
          case measure => simp [intOf]
        · have hne : (a.getD m 0 != b.getD m 0) = true := by simpa using hd
          have F := veil (QQ.2 hd)
          clear QQ hd hm
          generalize a.getD m 0 = da at *
          generalize b.getD m 0 = db at *
          go_wp2_with fail
          go_quiet (fail)
          go_wp2_with fail
          go_quiet (fail)
          go_wp2_with fail
          go_ret
          exact ⟨ret_b (unveil F), _, by rw [World.drewN_drewN, World.drewN_drewN]⟩
  · have hne : ((a.length : Int) != (b.length : Int)) = true := by simp; omega
    have F : decide (b.length < a.length) = decide (dval b < dval a) := by
      by_cases hlt : b.length < a.length
      · rw [decide_eq_true (by omega), decide_eq_true (norm_longer a1 na b1 hlt)]
      · have := norm_longer b1 nb a1 (by omega)
        rw [decide_eq_false (by omega), decide_eq_false (by omega)]
    have F' := veil F
    clear F ar br
    go_enter Tryd.func48, Tryd.ntmps48
    go_wp2_with fail
    go_ret
    exact ⟨ret_b (unveil F'), 0, rfl⟩

end Go.Proofs.YtldplmchgmoopaaDoor

namespace Go.Proofs.YtldplmchgmoopaaDoor
open Go.RowKit

theorem info3 : (Tryd.prog.info? 3).map (fun i => (i.zero, i.size, i.bytes)) = some (some (.int .i64 0), 1, 8) := by kernel_rfl

/-- What the call itself has gathered reads as digits. -/
theorem dg_of_own {w : World} {B : Nat} {v : Value} {ds : List Int} (h : w.ownsRow B 3 1 v ds.length (ds.map (Value.int .i64))) (hd : Digs ds) (hl : ds.length ≤ 1000) : Dg w v ds := by
  refine ⟨hd, hl, ?_⟩
  obtain ⟨_, h2⟩ := id h
  rcases h2 with ⟨rfl, h0⟩ | ⟨g, cap, cur, rfl, hb, hg, hc, hm, hs, ht⟩
  · exact ⟨none, 0, by rw [h0], by omega, ⟨by unfold maxLen; omega, fun _ => rfl⟩, Or.inl h0⟩
  · refine ⟨some ⟨g, 0, none⟩, cap, rfl, hc, ⟨hm, fun e => by cases e⟩, Or.inr ⟨g, 0, rfl, ?_, fun i hi => ?_⟩⟩
    · exact (h.lt g rfl).2
    · rw [Nat.zero_add, h.cellAt i (by omega)]
      simp [hi]

theorem fresh_of_own {w : World} {B n : Nat} {v : Value} {xs : List Value} (h : w.ownsRow B 3 1 v n xs) : Fresh B v := fun p m c e _ => by
  subst e
  exact (h.lt p.block rfl).1

/-- A digit more. -/
theorem own_snoc {w : World} {B : Nat} {v : Value} {ds : List Int} {d : Int} {n : Nat} (hn : ds.length = n) (h : w.ownsRow B 3 1 v (n + 1) (ds.map (Value.int .i64) ++ [.int .i64 d])) :
    w.ownsRow B 3 1 v (ds ++ [d]).length ((ds ++ [d]).map (Value.int .i64)) := by
  subst hn; simpa using h

/-- 'out = append(out, d)' of a list of digits that the call itself gathers. -/
theorem wp_digit {ops : Array Oper} {rest : List Oper} {o : Oper} {a : Act} {Q : Exit → Act → World → Prop} (w : World) (d : Int) (hgd : o.guard = none) (s x : Operand)
    (ho : o.op = .call { callee := .builtin .append, args := #[s, x], argTypes := #[24, 24] }) (base : Nat) (v : Value) (ds : List Int) (hs : a.eval s = v)
    (hx : a.eval x = .slice (some ⟨w.heap.size, 0, none⟩) 1 1) (hown : w.ownsRow base 3 1 v ds.length (ds.map (Value.int .i64))) (hl : ds.length ≤ 1000) (hb : base ≤ w.heap.size)
    (h : ∀ v' w', w'.ownsRow base 3 1 v' (ds ++ [d]).length ((ds ++ [d]).map (Value.int .i64)) → (w.alloc (.cells #[.int .i64 d] 3)).grownBy w' v.ownBlock → wpList Tryd.prog ops Q rest (a.put o.dst v') w') :
    wpList Tryd.prog ops Q (o :: rest) a (w.alloc (.cells #[.int .i64 d] 3)) := by
  obtain ⟨i0, hi, hz0, hz1, hz2⟩ := info_parts info3
  refine wpList_append_own _ hgd s x 24 ho base 3 i0 (.int .i64 0) 1 8 Tryd.underlying24 hi hz0 hz1 hz2 rfl (by decide) v _ _ hs (hown.alloc _) ⟨w.heap.size, 0, none⟩ 1 1 [.int .i64 d] hx rfl ?_ ?_ (by unfold maxLen; omega) (by omega) (by simp; omega) ?_
  · intro j u hj
    match j, hj with
    | 0, hj => simp at hj; subst hj; simp [Addr.add]
  · intro u hu; simp at hu; subst hu; rfl
  · intro v' w' h1 h2 _
    exact h v' w' (own_snoc rfl h1) h2

/-- One place of a sum. -/
theorem plus_step {a b ds : List Int} {k : Nat} {cc da db : Int} (hl : ds.length = k) (h : dval ds + ten k * cc = dval (a.take k) + dval (b.take k)) (ea : a.getD k 0 = da) (eb : b.getD k 0 = db) :
    dval (ds ++ [(da + db + cc) % 10]) + ten (k + 1) * ((da + db + cc) / 10) = dval (a.take (k + 1)) + dval (b.take (k + 1)) := by
  rw [dval_snoc, hl, dval_take_succ, dval_take_succ, ea, eb, ten_succ]
  have e1 : 10 * ten k * ((da + db + cc) / 10) = ten k * (10 * ((da + db + cc) / 10)) := by rw [Int.mul_comm 10, Int.mul_assoc]
  have e2 : ten k * ((da + db + cc) % 10) + ten k * (10 * ((da + db + cc) / 10)) = ten k * (da + db + cc) := by
    rw [← Int.mul_add]; congr 1; omega
  have e3 : ten k * (da + db + cc) = ten k * da + ten k * db + ten k * cc := by rw [Int.mul_add, Int.mul_add]
  omega

set_option maxHeartbeats 800000 in
theorem plus_any (va vb : Value) (a b : List Int) (w : World) (ha : Dg w va a) (hb : Dg w vb b) (M : Nat) (la : a.length ≤ M) (lb : b.length ≤ M) (hM : M ≤ 400) :
    Calls Tryd.prog 46 #[va, vb] w fun e w' => ∃ v, e = .returned v ∧ Below w.heap.size w w' ∧ ∃ ds, Dg w' v ds ∧ dval ds = dval a + dval b ∧ Norm ds ∧ Fresh w.heap.size v := by
  obtain ⟨i0, hi, hz0, hz1, hz2⟩ := info_parts info3
  have HA := veil ha
  have HB := veil hb
  obtain ⟨a1, a2, ao, cap, rfl, ac, am, ar⟩ := ha
  obtain ⟨b1, b2, bo, cap', rfl, bc, bm, br⟩ := hb
  have A1 := veil a1
  have B1 := veil b1
  have TA := veil (fun k h => dval_take_all a k h)
  have TB := veil (fun k h => dval_take_all b k h)
  clear ar br a1 b1 ac bc a2 b2
  go_enter Tryd.func46, Tryd.ntmps46
  go_wp2_with fail
  go_loopw [5, 6, 7] (fun o c i wr => ∃ k : Nat, k ≤ M + 1 ∧ i = .int .i64 k ∧ ∃ (cc : Int) (ds : List Int), c = .int .i64 cc ∧ 0 ≤ cc ∧ cc ≤ 1 ∧ ds.length = k ∧ Digs ds ∧ dval ds + ten k * cc = dval (a.take k) + dval (b.take k) ∧ (k = M + 1 → cc = 0) ∧
      wr.ownsRow w.heap.size 3 1 o ds.length (ds.map (Value.int .i64)) ∧ Below w.heap.size w wr) (fun _ _ i _ => M + 1 - (intOf i).toNat)
  case atStart => exact ⟨0, by omega, rfl, 0, [], rfl, by omega, by omega, rfl, digs_nil, by simp [dval], fun _ => rfl, World.ownsRow_nil _ _ _ _, Below.refl _ _⟩
  case round =>
    obtain ⟨k, hk, rfl, cc, ds, rfl, c0, c1, hlen0, hdig0, hval0, htop0, hown, hbel⟩ := hrel
    have hdig := veil hdig0
    have hval := veil hval0
    have htop := veil htop0
    have CA := veil (at_keep _ a k wr (by omega) ((unveil HA).later hbel))
    have CB := veil (at_keep _ b k wr (by omega) ((unveil HB).later hbel))
    have ba := unveil A1 k
    have bb := unveil B1 k
    have V := veil (plus_step hlen0 hval0 rfl rfl)
    have EA := veil (fun (h : ¬ k < a.length) => show a.getD k 0 = 0 by simp [List.getElem?_eq_none (Nat.le_of_not_lt h)])
    have EB := veil (fun (h : ¬ k < b.length) => show b.getD k 0 = 0 by simp [List.getElem?_eq_none (Nat.le_of_not_lt h)])
    have hlen := veil hlen0
    have hl : ds.length ≤ k := by omega
    clear hdig0 hval0 htop0 hlen0
    generalize a.getD k 0 = da at *
    generalize b.getD k 0 = db at *
    obtain ⟨ba1, ba2⟩ := ba
    obtain ⟨bb1, bb2⟩ := bb
    by_cases h1 : k < a.length
    · go_wp2_with fail
      refine (unveil CA).mono ?_; rintro e w' ⟨rfl, rfl⟩
      go_wp2_with fail
      refine (unveil CB).mono ?_; rintro e w' ⟨rfl, rfl⟩
      go_wp2_with (at_builtin; refine wpList_append_own _ rfl _ _ 24 rfl w.heap.size 3 i0 (.int .i64 0) 1 8 Tryd.underlying24 hi hz0 hz1 hz2 rfl (by decide) _ _ _ rfl (hown.alloc _) ⟨wr.heap.size, 0, none⟩ 1 1 [.int .i64 ((da + db + cc) % 10)] rfl rfl ?c1 ?c2 ?c3 ?c4 ?c5 ?_)
      case c1 =>
        intro j u hj
        match j, hj with
        | 0, hj => simp at hj; subst hj; simp [Addr.add]
      case c2 => intro u hu; simp at hu; subst hu; rfl
      case c3 => unfold maxLen; omega
      case c4 => omega
      case c5 => have := hbel.size; simp; omega
      intro v' w1 hown' hgrow _
      have R1 := veil (own_snoc rfl hown')
      have R2 := veil (((hbel.alloc hbel.size _).grown hgrow (by have := hbel.size; simp; omega) (fun k e => (hown.lt k e).1)))
      clear hown' hgrow hown hbel
      go_wp2_with fail
      go_roundw
      case rel => exact ⟨k + 1, by omega, by go_num, _, _, rfl, by omega, by omega, by simp [unveil hlen], digs_snoc (unveil hdig) (by omega) (by omega), unveil V, by omega, unveil R1, unveil R2⟩
      case measure => simp [intOf]; omega
    have h1' : decide ((k : Int) < (a.length : Int)) = false := by simp; omega
    by_cases h2 : k < b.length
    · go_wp2_with fail
      refine (unveil CA).mono ?_; rintro e w' ⟨rfl, rfl⟩
      go_wp2_with fail
      refine (unveil CB).mono ?_; rintro e w' ⟨rfl, rfl⟩
      go_wp2_with (at_builtin; refine wpList_append_own _ rfl _ _ 24 rfl w.heap.size 3 i0 (.int .i64 0) 1 8 Tryd.underlying24 hi hz0 hz1 hz2 rfl (by decide) _ _ _ rfl (hown.alloc _) ⟨wr.heap.size, 0, none⟩ 1 1 [.int .i64 ((da + db + cc) % 10)] rfl rfl ?c1 ?c2 ?c3 ?c4 ?c5 ?_)
      case c1 =>
        intro j u hj
        match j, hj with
        | 0, hj => simp at hj; subst hj; simp [Addr.add]
      case c2 => intro u hu; simp at hu; subst hu; rfl
      case c3 => unfold maxLen; omega
      case c4 => omega
      case c5 => have := hbel.size; simp; omega
      intro v' w1 hown' hgrow _
      have R1 := veil (own_snoc rfl hown')
      have R2 := veil (((hbel.alloc hbel.size _).grown hgrow (by have := hbel.size; simp; omega) (fun k e => (hown.lt k e).1)))
      clear hown' hgrow hown hbel
      go_wp2_with fail
      go_roundw
      case rel => exact ⟨k + 1, by omega, by go_num, _, _, rfl, by omega, by omega, by simp [unveil hlen], digs_snoc (unveil hdig) (by omega) (by omega), unveil V, by omega, unveil R1, unveil R2⟩
      case measure => simp [intOf]; omega
    have h2' : decide ((k : Int) < (b.length : Int)) = false := by simp; omega
    have za : da ≤ 0 := by have := unveil EA h1; omega
    have zb : db ≤ 0 := by have := unveil EB h2; omega
    by_cases h3 : 0 < cc
    · have hkM : k ≤ M := by
        have := unveil htop
        omega
      go_wp2_with fail
      refine (unveil CA).mono ?_; rintro e w' ⟨rfl, rfl⟩
      go_wp2_with fail
      refine (unveil CB).mono ?_; rintro e w' ⟨rfl, rfl⟩
      go_wp2_with (at_builtin; refine wpList_append_own _ rfl _ _ 24 rfl w.heap.size 3 i0 (.int .i64 0) 1 8 Tryd.underlying24 hi hz0 hz1 hz2 rfl (by decide) _ _ _ rfl (hown.alloc _) ⟨wr.heap.size, 0, none⟩ 1 1 [.int .i64 ((da + db + cc) % 10)] rfl rfl ?c1 ?c2 ?c3 ?c4 ?c5 ?_)
      case c1 =>
        intro j u hj
        match j, hj with
        | 0, hj => simp at hj; subst hj; simp [Addr.add]
      case c2 => intro u hu; simp at hu; subst hu; rfl
      case c3 => unfold maxLen; omega
      case c4 => omega
      case c5 => have := hbel.size; simp; omega
      intro v' w1 hown' hgrow _
      have R1 := veil (own_snoc rfl hown')
      have R2 := veil (((hbel.alloc hbel.size _).grown hgrow (by have := hbel.size; simp; omega) (fun k e => (hown.lt k e).1)))
      clear hown' hgrow hown hbel
      go_wp2_with fail
      go_roundw
      case rel => exact ⟨k + 1, by omega, by go_num, _, _, rfl, by omega, by omega, by simp [unveil hlen], digs_snoc (unveil hdig) (by omega) (by omega), unveil V, by omega, unveil R1, unveil R2⟩
      case measure => simp [intOf]; omega
    · have h3' : decide (0 < cc) = false := by simp; omega
      have hc : cc = 0 := by omega
      have F := veil (show dval ds = dval a + dval b by
        have := unveil hval
        rw [hc, unveil TA k (by omega), unveil TB k (by omega)] at this
        simpa using this)
      clear hc V
      go_wp2_with fail
      refine (trim_any _ ds wr (dg_of_own hown (unveil hdig) (by omega))).mono ?_
      have FR := veil (fresh_of_own hown)
      rintro e w' ⟨v, rfl, rfl, dt, d1, d2, d3, d4, d5⟩
      go_wp2_with fail
      go_ret
      exact ⟨_, rfl, hbel, dt, d1, d2.trans (unveil F), d3, d5 _ (unveil FR)⟩

end Go.Proofs.YtldplmchgmoopaaDoor

namespace Go.Proofs.YtldplmchgmoopaaDoor
open Go.RowKit

/-- A value that reads as a whole number: sign and digits. -/
def BigR (w : World) (x : Value) (z : Int) : Prop := ∃ o, x = .agg #[.bool (decide (z < 0)), o] ∧ ∃ ds, Dg w o ds ∧ Norm ds ∧ dval ds = absI z
theorem BigR.later {w w' : World} {x : Value} {z : Int} (h : BigR w x z) (hb : Below w.heap.size w w') : BigR w' x z := by
  obtain ⟨o, hx, ds, h1, h2, h3⟩ := h
  exact ⟨o, hx, ds, h1.later hb, h2, h3⟩

theorem tdm (v : Int) : 10 * v.tdiv 10 + v.tmod 10 = v ∧ (0 ≤ v → 0 ≤ v.tmod 10 ∧ 0 ≤ v.tdiv 10) ∧ (v ≤ 0 → v.tmod 10 ≤ 0 ∧ v.tdiv 10 ≤ 0) ∧ -9 ≤ v.tmod 10 ∧ v.tmod 10 ≤ 9 := by
  have e := Int.mul_tdiv_add_tmod v 10
  have h1 : (v.tmod 10).natAbs = v.natAbs % 10 := Int.natAbs_tmod v 10
  have p1 : 0 ≤ v → 0 ≤ v.tmod 10 := fun h => Int.tmod_nonneg 10 h
  have p2 : 0 ≤ v → 0 ≤ v.tdiv 10 := fun h => Int.tdiv_nonneg h (by omega)
  have n1 : v ≤ 0 → v.tmod 10 ≤ 0 := fun h => by
    have h2 := Int.neg_tmod (-v) 10
    rw [Int.neg_neg] at h2
    have h3 := Int.tmod_nonneg 10 (show 0 ≤ -v by omega)
    omega
  refine ⟨e, fun h => ⟨p1 h, p2 h⟩, fun h => ⟨n1 h, ?_⟩, by omega, by omega⟩
  have := n1 h
  omega
/-- One digit of a number. -/
theorem from_step {v0 v d : Int} {ds : List Int} {k : Nat} (hl : ds.length = k) (h : dval ds + ten k * absI v = absI v0) (hd : d = absI (v.tmod 10)) :
    dval (ds ++ [d]) + ten (k + 1) * absI (v.tdiv 10) = absI v0 := by
  rw [dval_snoc, hl, ten_succ, hd]
  have e1 : absI (v.tmod 10) + 10 * absI (v.tdiv 10) = absI v := by
    obtain ⟨t1, t2, t3, t4, t5⟩ := tdm v
    unfold absI; omega
  have e2 : 10 * ten k * absI (v.tdiv 10) = ten k * (10 * absI (v.tdiv 10)) := by rw [Int.mul_comm 10, Int.mul_assoc]
  have e3 : ten k * absI (v.tmod 10) + ten k * (10 * absI (v.tdiv 10)) = ten k * absI v := by rw [← Int.mul_add, e1]
  omega
theorem ten19 : ten 19 = 10000000000000000000 := by decide
theorem from_len {v0 v : Int} {ds : List Int} {k : Nat} (hd : Digs ds) (h : dval ds + ten k * absI v = absI v0) (hv : ¬ v = 0) (h0 : inR v0) : k ≤ 18 := by
  have h1 := (dval_bd ds hd).1
  have h2 := (absI_bd v0 h0).2
  have h3 : 0 < absI v := by unfold absI; split <;> omega
  have h4 := ten_pos k
  refine Nat.le_of_not_lt fun hc => ?_
  have h5 := ten_le (show 19 ≤ k by omega)
  rw [ten19] at h5
  have h6 := Int.mul_le_mul_of_nonneg_left (show 1 ≤ absI v by omega) (show 0 ≤ ten k by omega)
  omega
theorem from_norm {v : Int} {ds : List Int} (h : v.tdiv 10 = 0) (hv : ¬ v = 0) : Norm (ds ++ [absI (v.tmod 10)]) := by
  right
  obtain ⟨t1, t2, t3, t4, t5⟩ := tdm v
  simp
  unfold absI; omega


/-- The two boxes that From lays: its result's and b's. -/
structure FBox (w wr : World) (neg : Bool) (o : Value) : Prop where
  size : w.heap.size + 2 ≤ wr.heap.size
  r0 : wr.cell? ⟨w.heap.size, 0, none⟩ = some (.bool false)
  r1 : wr.cell? ⟨w.heap.size, 1, none⟩ = some (.slice none 0 0)
  b0 : wr.cell? ⟨w.heap.size + 1, 0, none⟩ = some (.bool neg)
  b1 : wr.cell? ⟨w.heap.size + 1, 1, none⟩ = some o
  q0 : wr.frozen? ⟨w.heap.size, 0, none⟩ = false
  q1 : wr.frozen? ⟨w.heap.size, 1, none⟩ = false
  p1 : wr.frozen? ⟨w.heap.size + 1, 1, none⟩ = false
  bel : Below w.heap.size w wr

theorem FBox.grow {w wr w1 : World} {neg : Bool} {o : Value} {ob : Obj} (F : FBox w wr neg o) (hrow : ∀ k, o.ownBlock = some k → w.heap.size + 2 ≤ k) (hg : (wr.alloc ob).grownBy w1 o.ownBlock) : FBox w w1 neg o := by
  obtain ⟨s, r0, r1, b0, b1, q0, q1, p1, bel⟩ := F
  have hs : (wr.alloc ob).heap.size = wr.heap.size + 1 := by simp
  have hb : ∀ k, k < w.heap.size + 2 → w1.heap[k]? = wr.heap[k]? := fun k hk => by
    refine (hg.block k (by omega) (fun e => ?_)).trans (Below.heap_alloc wr ob k (by omega))
    have := hrow k e.symm
    omega
  have c : ∀ k j, k < w.heap.size + 2 → w1.cell? ⟨k, j, none⟩ = wr.cell? ⟨k, j, none⟩ := fun k j hk => World.cell?_of_block (a := ⟨k, j, none⟩) (hb k hk)
  have f : ∀ k j, k < w.heap.size + 2 → w1.frozen? ⟨k, j, none⟩ = wr.frozen? ⟨k, j, none⟩ := fun k j hk => World.frozen?_of_block (a := ⟨k, j, none⟩) (hb k hk)
  refine ⟨by have := hg.size; omega, (c _ _ (by omega)).trans r0, (c _ _ (by omega)).trans r1, (c _ _ (by omega)).trans b0, (c _ _ (by omega)).trans b1, (f _ _ (by omega)).trans q0, (f _ _ (by omega)).trans q1, (f _ _ (by omega)).trans p1, ?_⟩
  exact (bel.alloc (by omega) ob).grown hg (by omega) (fun k e => by have := hrow k e; omega)
theorem FBox.store {w wr : World} {neg : Bool} {o : Value} (F : FBox w wr neg o) (v : Value) : FBox w (wr.setCell ⟨w.heap.size + 1, 1, none⟩ v) neg v := by
  obtain ⟨s, r0, r1, b0, b1, q0, q1, p1, bel⟩ := F
  refine ⟨by simpa using s, ?_, ?_, ?_, World.cell?_setCell_same _ _ _ b1, by simpa using q0, by simpa using q1, by simpa using p1, bel.setCell (by simp) v⟩
  · rw [World.cell?_setCell_other _ _ _ _ (by simp)]; exact r0
  · rw [World.cell?_setCell_other _ _ _ _ (by simp)]; exact r1
  · rw [World.cell?_setCell_other _ _ _ _ (by simp)]; exact b0

/-- What holds of a round's numbers. -/
structure FNum (v0 x : Int) (ds : List Int) : Prop where
  inr : inR x
  val : dval ds + ten ds.length * absI x = absI v0
  dig : Digs ds
  norm : x = 0 → Norm ds
  len : ds.length ≤ 19
theorem FNum.next {v0 x : Int} {ds : List Int} (h0 : inR v0) (F : FNum v0 x ds) (hx : ¬ x = 0) : FNum v0 (x.tdiv 10) (ds ++ [absI (x.tmod 10)]) := by
  obtain ⟨inr, val, dig, norm, len⟩ := F
  have hk := from_len dig val hx h0
  obtain ⟨t1, t2, t3, t4, t5⟩ := tdm x
  refine ⟨by unfold inR at *; omega, ?_, digs_snoc dig (absI_nonneg _) (by unfold absI; split <;> omega), fun h => from_norm h hx, by simp; omega⟩
  have := from_step rfl val rfl
  rw [List.length_append]; exact this
theorem FNum.len19 {v0 x : Int} {ds : List Int} (F : FNum v0 x ds) : ds.length ≤ 1000 := by have := F.len; omega
theorem FNum.less (x : Int) (hx : ¬ x = 0) : (x.tdiv 10).toNat + (-(x.tdiv 10)).toNat < x.toNat + (-x).toNat := by
  obtain ⟨t1, t2, t3, t4, t5⟩ := tdm x
  omega

set_option maxHeartbeats 800000 in
theorem from_any (v0 : Int) (h0 : inR v0) (w : World) :
    Calls Tryd.prog 47 #[.int .i64 v0] w fun e w' => ∃ x, e = .returned x ∧ Below w.heap.size w w' ∧ BigR w' x v0 := by
  obtain ⟨i0, hi, hz0, hz1, hz2⟩ := info_parts info3
  have H0 := veil h0
  generalize hneg : decide (v0 < 0) = neg
  have HN := veil hneg
  go_enter Tryd.func47, Tryd.ntmps47
  go_wp2_with fail
  clear hneg
  go_loopw [0] (fun v wr => ∃ (x : Int) (o : Value) (ds : List Int), v = .int .i64 x ∧ FNum v0 x ds ∧ FBox w wr neg o ∧ wr.ownsRow (w.heap.size + 2) 3 1 o ds.length (ds.map (Value.int .i64))) (fun v _ => (intOf v).toNat + (-(intOf v)).toNat)
  case atStart =>
    refine ⟨v0, .slice none 0 0, [], rfl, ⟨h0, by simp [dval, ten_zero], digs_nil, fun _ => Or.inl rfl, by simp⟩, ?_, World.ownsRow_nil _ _ _ _⟩
    exact ⟨by simp, by simp [go_sem], by simp [go_sem], by simp [go_sem], by simp [go_sem], by simp [go_sem], by simp [go_sem], by simp [go_sem], ((Below.refl _ _).alloc (Nat.le_refl _) _).alloc (by simp) _⟩
  case round =>
    obtain ⟨x, o, ds, rfl, hF0, hB0, hown⟩ := hrel
    have hF := veil hF0
    have hB := veil hB0
    have hsz := hB0.size
    have b0 := hB0.b0
    have b1 := hB0.b1
    obtain ⟨xl, xu⟩ := hF0.inr
    have hl := hF0.len
    have hdg := dg_of_own hown hF0.dig (by omega)
    have DG := veil hdg
    obtain ⟨_, _, ao, cap, rfl, _⟩ := hdg
    clear hF0 hB0
    by_cases hx : x = 0
    · subst hx
      have r0 := (unveil hB).r0
      have r1 := (unveil hB).r1
      have q0 := (unveil hB).q0
      have q1 := (unveil hB).q1
      go_wp2_with fail
      refine bodyPost_ret (v := .agg #[.bool neg, .slice ao ds.length cap]) (by simp [results, Tryd.results47, go_sem, r0, r1]) rfl ?_
      have bel := (unveil hB).bel
      have own2 := ownsRow_setCell_below (ownsRow_setCell_below hown (a := ⟨w.heap.size, 0, none⟩) (by simp) (.bool neg)) (a := ⟨w.heap.size, 1, none⟩) (by simp) (.slice ao ds.length cap)
      refine ⟨_, rfl, (bel.setCell (by simp) _).setCell (by simp) _, _, by rw [unveil HN], ds, dg_of_own own2 (unveil hF).dig (by omega), (unveil hF).norm rfl, ?_⟩
      have := (unveil hF).val
      simpa [absI] using this
    · have hx' : (x != 0) = true := by simpa using hx
      have N := veil ((unveil hF).next (unveil H0) hx)
      have M := veil (FNum.less x hx)
      have p1 := (unveil hB).p1
      have hrow := veil (fun k e => (hown.lt k e).1)
      obtain ⟨t1, t2, t3, t4, t5⟩ := tdm x
      have u1 : -922337203685477581 ≤ x.tdiv 10 := by omega
      have u2 : x.tdiv 10 ≤ 922337203685477581 := by omega
      clear t1 t2 t3 hx
      generalize hq : x.tdiv 10 = q at *
      generalize hr : x.tmod 10 = r at *
      by_cases hk : r < 0
      · rw [absI_neg hk] at N
        go_wp2_with (at_builtin; refine wp_digit wr (-r) rfl _ _ rfl (w.heap.size + 2) _ ds rfl rfl hown (by omega) (by omega) ?_; intro v' w1 R0 hgrow; have B1 := (unveil hB).grow (unveil hrow) hgrow; obtain ⟨_, _, ao', cap', hv', _⟩ := id (dg_of_own R0 (unveil N).dig (unveil N).len19); rw [List.length_append, List.length_singleton] at hv'; subst hv'; have e1 := B1.b1; have e2 := B1.p1; have R1 := veil (ownsRow_setCell_below R0 (a := ⟨w.heap.size + 1, 1, none⟩) (by simp) (.slice ao' (ds.length + 1) cap')); have R2 := veil (B1.store (.slice ao' (ds.length + 1) cap')); clear hgrow B1 R0)
        go_roundw
        case rel => exact ⟨q, _, _, rfl, unveil N, unveil R2, unveil R1⟩
        case measure => exact unveil M
      · have hk' : decide (r < 0) = false := by simpa using hk
        rw [absI_pos hk] at N
        go_wp2_with (at_builtin; refine wp_digit wr (r) rfl _ _ rfl (w.heap.size + 2) _ ds rfl rfl hown (by omega) (by omega) ?_; intro v' w1 R0 hgrow; have B1 := (unveil hB).grow (unveil hrow) hgrow; obtain ⟨_, _, ao', cap', hv', _⟩ := id (dg_of_own R0 (unveil N).dig (unveil N).len19); rw [List.length_append, List.length_singleton] at hv'; subst hv'; have e1 := B1.b1; have e2 := B1.p1; have R1 := veil (ownsRow_setCell_below R0 (a := ⟨w.heap.size + 1, 1, none⟩) (by simp) (.slice ao' (ds.length + 1) cap')); have R2 := veil (B1.store (.slice ao' (ds.length + 1) cap')); clear hgrow B1 R0)
        go_roundw
        case rel => exact ⟨q, _, _, rfl, unveil N, unveil R2, unveil R1⟩
        case measure => exact unveil M

end Go.Proofs.YtldplmchgmoopaaDoor
