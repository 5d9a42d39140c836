/-
  The text of one name and one row, and what word answers along it.
-/
import Derived.Test.YthkeoeobpdminaaDoorWTRd7
namespace Go.Proofs.YthkeoeobpdminaaDoor
open Go.RowKit
set_option linter.unusedVariables false
set_option linter.unusedSimpArgs false

abbrev p8 : ByteArray := ⟨#[100, 97, 121, 32, 65, 10, 48, 32]⟩
theorem bt_data (s : ByteArray) (j : Nat) : bt s j = (s.data[j]?.map fun b => (b.toNat : Int)).getD (-1) := by
  unfold bt
  by_cases h : j < s.size
  · rw [dif_pos h]
    have h' : j < s.data.size := h
    rw [Array.getElem?_eq_getElem h']; rfl
  · rw [dif_neg h]
    have h' : ¬ j < s.data.size := h
    rw [Array.getElem?_eq_none (by omega)]; rfl
theorem p8_data (u : ByteArray) : (p8 ++ u).data = #[100, 97, 121, 32, 65, 10, 48, 32] ++ u.data := by simp [ByteArray.data_append]
theorem p8_size (u : ByteArray) : (p8 ++ u).size = 8 + u.size := by
  have : (p8 ++ u).data.size = 8 + u.data.size := by rw [p8_data]; simp
  exact this
theorem bt_low (u : ByteArray) (j : Nat) (hj : j < 8) : bt (p8 ++ u) j = (((#[100, 97, 121, 32, 65, 10, 48, 32] : Array UInt8)[j]?).map fun b => (b.toNat : Int)).getD (-1) := by
  rw [bt_data, p8_data, Array.getElem?_append_left (by simpa using hj)]
theorem bt_high (u : ByteArray) (i : Nat) : bt (p8 ++ u) (8 + i) = bt u i := by
  rw [bt_data, bt_data, p8_data, Array.getElem?_append_right (by simp)]
  simp
theorem ext_low (u : ByteArray) (i j : Nat) (hj : j ≤ 8) (x : ByteArray) (hx : (#[100, 97, 121, 32, 65, 10, 48, 32] : Array UInt8).extract i j = x.data) : (p8 ++ u).extract i j = x := by
  have : ((p8 ++ u).extract i j).data = x.data := by
    rw [ByteArray.data_extract, p8_data, ← hx, Array.extract_append]
    simp
    omega
  exact ByteArray.ext this
theorem ext_high (u : ByteArray) : (p8 ++ u).extract 8 (p8 ++ u).size = u := by
  have : ((p8 ++ u).extract 8 (p8 ++ u).size).data = u.data := by
    rw [ByteArray.data_extract, p8_data, p8_size, Array.extract_append]
    have e1 : (#[100, 97, 121, 32, 65, 10, 48, 32] : Array UInt8).extract 8 (8 + u.size) = #[] := Array.extract_empty_of_size_le_start (by decide)
    have e2 : u.data.extract (8 - (#[100, 97, 121, 32, 65, 10, 48, 32] : Array UInt8).size) (8 + u.size - (#[100, 97, 121, 32, 65, 10, 48, 32] : Array UInt8).size) = u.data := by
      have e3 : (#[100, 97, 121, 32, 65, 10, 48, 32] : Array UInt8).size = 8 := rfl
      rw [e3, Nat.sub_self, Nat.add_sub_cancel_left]
      exact Array.extract_size
    rw [e1, e2]; simp
  exact ByteArray.ext this
theorem wf_of (u : ByteArray) (h0 : 0 < u.size) (hs : (p8 ++ u).size ≤ 1048576) (hu : ∀ i, i < u.size → wdB (bt u i) = true) : WF (p8 ++ u) u := by
  have sz := p8_size u
  have b0 := bt_low u 0 (by omega)
  have b1 := bt_low u 1 (by omega)
  have b2 := bt_low u 2 (by omega)
  have b3 := bt_low u 3 (by omega)
  have b4 := bt_low u 4 (by omega)
  have b5 := bt_low u 5 (by omega)
  have b6 := bt_low u 6 (by omega)
  have b7 := bt_low u 7 (by omega)
  have eN : bt (p8 ++ u) (p8 ++ u).size = -1 := bt_end (by omega)
  have b8 := hu 0 h0
  rw [← bt_high] at b8
  have b8' : blB (bt (p8 ++ u) 8) = false ∧ (bt (p8 ++ u) 8 == 35) = false := by
    have e : wdB (bt (p8 ++ u) 8) = true := b8
    unfold wdB at e
    simp only [Bool.and_eq_true, Bool.not_eq_true', bne_iff_ne, ne_eq] at e
    exact ⟨e.1.1.2, by rw [beq_eq_false_iff_ne]; exact e.1.2⟩
  have hi : ∀ j, 8 ≤ j → j < (p8 ++ u).size → wdB (bt (p8 ++ u) j) = true := fun j h1 h2 => by
    have := hu (j - 8) (by omega)
    rw [← bt_high] at this
    rwa [show 8 + (j - 8) = j by omega] at this
  refine ⟨fun g m nm rw pl W t => ?_, fun g m nm rw pl W t => ?_, fun g m nm rw pl W t => ?_, fun g m nm rw pl W t => ?_, fun g m nm rw pl W t => ?_, fun g m nm rw pl W t => ?_⟩
  · have := word_any g (p8 ++ u) 0 pl 0 3 m nm rw W t (by omega) (by omega) (by omega) (fun j h1 h2 => by omega) (by rw [b0]; decide) (fun j h1 h2 => by
      rcases (show j = 0 ∨ j = 1 ∨ j = 2 by omega) with rfl | rfl | rfl
      · rw [b0]; decide
      · rw [b1]; decide
      · rw [b2]; decide) (by rw [b3]; decide)
    rw [ext_low u 0 3 (by omega) ⟨#[100, 97, 121]⟩ (by decide)] at this
    exact this
  · have := word_any g (p8 ++ u) 3 pl 4 5 m nm rw W t (by omega) (by omega) (by omega) (fun j h1 h2 => by
      obtain rfl : j = 3 := by omega
      rw [b3]; decide) (by rw [b4]; decide) (fun j h1 h2 => by
      obtain rfl : j = 4 := by omega
      rw [b4]; decide) (by rw [b5]; decide)
    rw [ext_low u 4 5 (by omega) ⟨#[65]⟩ (by decide)] at this
    exact this
  · have := word_any g (p8 ++ u) 5 pl 5 5 m nm rw W t (by omega) (by omega) (by omega) (fun j h1 h2 => by omega) (by rw [b5]; decide) (fun j h1 h2 => by omega) (by rw [b5]; decide)
    rw [ext_low u 5 5 (by omega) ⟨#[]⟩ (by decide)] at this
    exact this
  · have := word_any g (p8 ++ u) 6 pl 6 7 m nm rw W t (by omega) (by omega) (by omega) (fun j h1 h2 => by omega) (by rw [b6]; decide) (fun j h1 h2 => by
      obtain rfl : j = 6 := by omega
      rw [b6]; decide) (by rw [b7]; decide)
    rw [ext_low u 6 7 (by omega) ⟨#[48]⟩ (by decide)] at this
    exact this
  · have := word_any g (p8 ++ u) 7 pl 8 (p8 ++ u).size m nm rw W t (by omega) (by omega) (by omega) (fun j h1 h2 => by
      obtain rfl : j = 7 := by omega
      rw [b7]; decide) b8' hi (by rw [eN]; decide)
    rw [ext_high] at this
    exact this
  · have := word_any g (p8 ++ u) (p8 ++ u).size pl (p8 ++ u).size (p8 ++ u).size m nm rw W t (by omega) (by omega) (by omega) (fun j h1 h2 => by omega) (by rw [eN]; decide) (fun j h1 h2 => by omega) (by rw [eN]; decide)
    rw [show (p8 ++ u).extract (p8 ++ u).size (p8 ++ u).size = ⟨#[]⟩ from ByteArray.ext (by rw [ByteArray.data_extract]; exact Array.extract_empty_of_stop_le_start (Nat.le_refl _))] at this
    exact this
end Go.Proofs.YthkeoeobpdminaaDoor
