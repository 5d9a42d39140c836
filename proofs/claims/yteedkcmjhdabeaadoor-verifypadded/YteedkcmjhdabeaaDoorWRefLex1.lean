/-
  WALKS: the document's bytes and runs: digit, small, capital, runs, run, names (made by gen/gen_reflex1.py).
-/
import Derived.Test.YteedkcmjhdabeaaDoorWLex2
import Derived.Lib.SmallJoins
import Derived.RangeFuncRecord
namespace Go.Proofs.YteedkcmjhdabeaaDoor
open Go.RowKit Lx
set_option linter.unusedVariables false
set_option linter.unusedSimpArgs false

theorem cutMidR (s : ByteArray) (a b : Int) (h0 : 0 ≤ a) (h1 : a ≤ b) (hb : b ≤ s.size) (W : World) : (Instr.slice 9 (.string s) (some (.int .i64 a)) (some (.int .i64 b)) none).run Tryd.prog W = .ok (.string (bs (((lst s).take b.toNat).drop a.toNat))) W := by
  rw [run_slice_string W 9 s .i64 .i64 a b (by kernel_rfl) h0 h1 hb]
  have : s.extract a.toNat b.toNat = bs (((lst s).take b.toNat).drop a.toNat) := by
    obtain ⟨⟨l⟩⟩ := s
    apply ByteArray.ext
    rw [ByteArray.data_extract]
    simp [bs, lst, List.drop_take]
  rw [this]
theorem run_mid {l : L} {at_ k : Nat} (hk : at_ ≤ k) (hl : k ≤ l.length) (h : ∀ i, at_ ≤ i → i < k → rnN (nthN l i) = true) (he : k < l.length → rnN (nthN l k) = false) : run (l.drop at_) = (l.take k).drop at_ := by
  have e : ∀ i, nthN (l.drop at_) i = nthN l (at_ + i) := fun i => by simp [nthN, List.getD]
  rw [run_at (l := l.drop at_) (k := k - at_) (fun i hi => by rw [e]; exact h _ (by omega) (by omega)) (by rw [List.length_drop]; omega) (fun hk' => by rw [List.length_drop] at hk'; rw [e, show at_ + (k - at_) = k by omega]; exact he (by omega)), List.drop_take]
/-- Among a run's bytes: no name's byte is a letter of the other kind. -/
theorem sm_other {c : Nat} (h : rnN c = true) : nmN smN c = !cpN c := by
  unfold rnN at h; unfold nmN
  cases h1 : cpN c with
  | true =>
    obtain ⟨_, _, a, b⟩ : blN c = false ∧ c ≠ 35 ∧ dgN c = false ∧ smN c = false := by
      simp only [cpN, Bool.and_eq_true, decide_eq_true_eq] at h1
      refine ⟨by unfold blN; simp; omega, by omega, by unfold dgN; simp; omega, by unfold smN; simp; omega⟩
    rw [a, b]
    simp only [cpN, Bool.and_eq_true, decide_eq_true_eq] at h1
    simp; omega
  | false => rw [h1] at h; simp only [Bool.or_false] at h; rw [h]; rfl
theorem cp_other {c : Nat} (h : rnN c = true) : nmN cpN c = !smN c := by
  unfold rnN at h; unfold nmN
  cases h1 : smN c with
  | true =>
    obtain ⟨a, b⟩ : dgN c = false ∧ cpN c = false := by
      simp only [smN, Bool.and_eq_true, decide_eq_true_eq] at h1
      refine ⟨by unfold dgN; simp; omega, by unfold cpN; simp; omega⟩
    rw [a, b]
    simp only [smN, Bool.and_eq_true, decide_eq_true_eq] at h1
    simp; omega
  | false => rw [h1] at h; simp only [Bool.false_or] at h; rw [h]; rfl
theorem belowR9 {B : Nat} {w0 w : World} {g : Nat} (h : Below B w0 w) (hg : B ≤ g) (a0 a1 a2 a3 a4 a5 a6 a7 a8 : Value) :
    Below B w0 (((((((((w.setCell ⟨g, 0, none⟩ a0).setCell ⟨g, 1, none⟩ a1).setCell ⟨g, 2, none⟩ a2).setCell ⟨g, 3, none⟩ a3).setCell ⟨g, 4, none⟩ a4).setCell ⟨g, 5, none⟩ a5).setCell ⟨g, 6, none⟩ a6).setCell ⟨g, 7, none⟩ a7).setCell ⟨g, 8, none⟩ a8) :=
  ((((((((h.setCell (p := ⟨g, 0, none⟩) hg _).setCell (p := ⟨g, 1, none⟩) hg _).setCell (p := ⟨g, 2, none⟩) hg _).setCell (p := ⟨g, 3, none⟩) hg _).setCell (p := ⟨g, 4, none⟩) hg _).setCell (p := ⟨g, 5, none⟩) hg _).setCell (p := ⟨g, 6, none⟩) hg _).setCell (p := ⟨g, 7, none⟩) hg _).setCell (p := ⟨g, 8, none⟩) hg _
def tokR (t : Tok) : Value := .agg #[.int .i64 t.k, .string (bs t.t), .int .i64 t.a, .int .i64 t.num, .int .i64 t.y, .int .i64 t.m, .int .i64 t.d, .int .i64 t.n, .int .i64 t.u]
def tokR0 : Tok := ⟨0, [], 0, 0, 0, 0, 0, 0, 0⟩
/-- What names answers. -/
def namV (p : Nat → Bool) (k : Int) (l : L) (at_ : Nat) : Tok × Int × Int := if (nameE p l).2 = 0 then (⟨k, l, at_, 0, 0, 0, 0, 0, 0⟩, 0, 0) else (tokR0, (at_ : Int) + ((nameE p l).1 : Nat), (nameE p l).2)
abbrev trEnd (v : Tok × Int × Int) : Ending := .returned (.tuple #[tokR v.1, .int .i64 v.2.1, .int .i64 v.2.2])
end Go.Proofs.YteedkcmjhdabeaaDoor
