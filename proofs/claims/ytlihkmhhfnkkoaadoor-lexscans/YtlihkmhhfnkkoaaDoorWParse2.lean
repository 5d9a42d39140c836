/-
  PLAIN: the three fields of ten bytes.
-/
import Derived.Test.YtlihkmhhfnkkoaaDoorWParse1
namespace Go.Proofs.YtlihkmhhfnkkoaaDoor
open Go.RowKit
open Cal
set_option linter.unusedVariables false
set_option linter.unusedSimpArgs false

theorem ten_bytes (s : ByteArray) (h : s.size = 10) : ∃ a b c d e f g i j k : UInt8, s = ⟨#[a, b, c, d, e, f, g, i, j, k]⟩ := by
  obtain ⟨⟨l⟩⟩ := s
  match l, h with
  | [a, b, c, d, e, f, g, i, j, k], _ => exact ⟨a, b, c, d, e, f, g, i, j, k, rfl⟩
def fA (s : ByteArray) : List UInt8 := (s.extract 0 4).data.toList
def fB (s : ByteArray) : List UInt8 := (s.extract 5 7).data.toList
def fC (s : ByteArray) : List UInt8 := (s.extract 8 10).data.toList
theorem fields {a b c d e f g i j k : UInt8} : fA ⟨#[a, b, c, d, e, f, g, i, j, k]⟩ = [a, b, c, d] ∧ fB ⟨#[a, b, c, d, e, f, g, i, j, k]⟩ = [f, g] ∧ fC ⟨#[a, b, c, d, e, f, g, i, j, k]⟩ = [j, k] := by
  unfold fA fB fC
  refine ⟨?_, ?_, ?_⟩ <;> (rw [ByteArray.data_extract]; rfl)
theorem sh_digs {s : ByteArray} (h : shB s = true) : digs (fA s) ∧ digs (fB s) ∧ digs (fC s) ∧ at8 s 4 = 45 ∧ at8 s 7 = 45 := by
  obtain ⟨h10, hk⟩ := sh_out h
  obtain ⟨a, b, c, d, e, f, g, i, j, k, rfl⟩ := ten_bytes s h10
  obtain ⟨e1, e2, e3⟩ := fields (a := a) (b := b) (c := c) (d := d) (e := e) (f := f) (g := g) (i := i) (j := j) (k := k)
  rw [e1, e2, e3]
  have k0 : 48 ≤ (a.toNat : Int) ∧ (a.toNat : Int) ≤ 57 := of_decide_eq_true (hk 0 (by omega))
  have k1 : 48 ≤ (b.toNat : Int) ∧ (b.toNat : Int) ≤ 57 := of_decide_eq_true (hk 1 (by omega))
  have k2 : 48 ≤ (c.toNat : Int) ∧ (c.toNat : Int) ≤ 57 := of_decide_eq_true (hk 2 (by omega))
  have k3 : 48 ≤ (d.toNat : Int) ∧ (d.toNat : Int) ≤ 57 := of_decide_eq_true (hk 3 (by omega))
  have k4 : (e.toNat : Int) = 45 := of_decide_eq_true (hk 4 (by omega))
  have k5 : 48 ≤ (f.toNat : Int) ∧ (f.toNat : Int) ≤ 57 := of_decide_eq_true (hk 5 (by omega))
  have k6 : 48 ≤ (g.toNat : Int) ∧ (g.toNat : Int) ≤ 57 := of_decide_eq_true (hk 6 (by omega))
  have k7 : (i.toNat : Int) = 45 := of_decide_eq_true (hk 7 (by omega))
  have k8 : 48 ≤ (j.toNat : Int) ∧ (j.toNat : Int) ≤ 57 := of_decide_eq_true (hk 8 (by omega))
  have k9 : 48 ≤ (k.toNat : Int) ∧ (k.toNat : Int) ≤ 57 := of_decide_eq_true (hk 9 (by omega))
  refine ⟨fun x hx => ?_, fun x hx => ?_, fun x hx => ?_, k4, k7⟩
  · simp at hx; rcases hx with rfl | rfl | rfl | rfl <;> assumption
  · simp at hx; rcases hx with rfl | rfl <;> assumption
  · simp at hx; rcases hx with rfl | rfl <;> assumption
theorem digs_sh {s : ByteArray} (h10 : s.size = 10) (h4 : at8 s 4 = 45) (h7 : at8 s 7 = 45) (hA : digs (fA s)) (hB : digs (fB s)) (hC : digs (fC s)) : shB s = true := by
  refine sh_true h10 ?_
  obtain ⟨a, b, c, d, e, f, g, i, j, k, rfl⟩ := ten_bytes s h10
  obtain ⟨e1, e2, e3⟩ := fields (a := a) (b := b) (c := c) (d := d) (e := e) (f := f) (g := g) (i := i) (j := j) (k := k)
  rw [e1] at hA; rw [e2] at hB; rw [e3] at hC
  intro n hn
  rcases (show n = 0 ∨ n = 1 ∨ n = 2 ∨ n = 3 ∨ n = 4 ∨ n = 5 ∨ n = 6 ∨ n = 7 ∨ n = 8 ∨ n = 9 by omega) with rfl | rfl | rfl | rfl | rfl | rfl | rfl | rfl | rfl | rfl
  · exact decide_eq_true (hA a (by simp))
  · exact decide_eq_true (hA b (by simp))
  · exact decide_eq_true (hA c (by simp))
  · exact decide_eq_true (hA d (by simp))
  · exact decide_eq_true h4
  · exact decide_eq_true (hB f (by simp))
  · exact decide_eq_true (hB g (by simp))
  · exact decide_eq_true h7
  · exact decide_eq_true (hC j (by simp))
  · exact decide_eq_true (hC k (by simp))
theorem nv_digs {l : List UInt8} (h : ¬ nv l = -1) : digs l := by
  unfold nv at h
  split at h
  · rename_i g; rw [List.all_eq_true] at g; exact fun c hc => of_decide_eq_true (g c hc)
  · exact absurd rfl h
/-- Where the document's fields are a date, the bytes are shaped. -/
theorem ref_sh {s : ByteArray} (h10 : s.size = 10) (h4 : at8 s 4 = 45) (h7 : at8 s 7 = 45) (h : exB (nv (fA s)) (nv (fB s)) (nv (fC s)) = true) : shB s = true := by
  obtain ⟨a, b, c, d, e, f⟩ := ex_out h
  exact digs_sh h10 h4 h7 (nv_digs (by omega)) (nv_digs (by omega)) (nv_digs (by omega))
/-- Is the text a date's? -/
def prB (s : ByteArray) : Bool := shB s && exB (dv (fA s)) (dv (fB s)) (dv (fC s))
def prV (s : ByteArray) (k : Int) : Int := if prB s = true then k else 0
end Go.Proofs.YtlihkmhhfnkkoaaDoor
