/-
  WALKS: the reader's Text; varints that are cut.
-/
import Derived.Test.YtnoimmjijkgjaaaWRefOct2
import Derived.Laws.BytesString
namespace Go.Proofs.Ytnoimmjijkgjaaa
open Go.RowKit
set_option linter.unusedVariables false
set_option linter.unusedSimpArgs false

theorem rdf_cut : ∀ (x i j : Nat), j < (vl x).length → i + (vl x).length ≤ 10 → rdf i ((vl x).take j) = (0, 0, 41) := by
  intro x
  induction x using Nat.strongRecOn with
  | _ x ih =>
    intro i j hj hi
    by_cases h : x < 128
    · rw [vl_one h] at hj hi ⊢
      simp at hj hi
      subst hj
      simp only [List.take_zero]
      exact rdf_nil (by omega)
    · rw [vl_more (by omega)] at hj hi ⊢
      match j with
      | 0 => simp only [List.take_zero]; exact rdf_nil (by simp at hi; omega)
      | j + 1 =>
        simp at hj hi
        simp only [List.take_succ_cons]
        have := ih (x / 128) (by omega) (i + 1) j (by omega) (by omega)
        rw [rdf, if_neg (by omega), if_pos (by omega), this]
        simp
theorem rd_cut {x : Nat} (hx : x < 18446744073709551616) {j : Nat} (hj : j < (vl x).length) : rd ((vl x).take j) = (0, 0, 41) := rdf_cut x 0 j hj (by have := vl_len10 hx; omega)
theorem uR_cut {x : Nat} (hx : x < 18446744073709551616) {j : Nat} (hj : j < (vl x).length) (lim : Nat) : uR ((vl x).take j) lim = (0, 41, 0) := by
  unfold uR; rw [rd_cut hx hj]; simp
theorem uR_more (x : Nat) (h : x < 18446744073709551616) (t : List Int) (lim : Nat) (hl : x ≤ lim) : uR (vl x ++ t) lim = (x, 0, (vl x).length) := by
  unfold uR; rw [rd_vl x h]; simp; omega
theorem uR_low (x : Nat) (h : x < 18446744073709551616) (t : List Int) (lim : Nat) (hl : lim < x) : uR (vl x ++ t) lim = (0, 42, 0) := by
  unfold uR; rw [rd_vl x h]; simp; omega

theorem conv_bl {W : World} {a : Option Addr} {n c : Nat} {t : ByteArray} (h : BL W a n (sb t)) (h0 : a = none → n = 0) : (convert 22 9 (.slice a n c)).run Try.prog W = .ok (.string t) W := by
  have hn : t.data.toList.length = n := by have := h.1; rw [sb_len] at this; rw [Array.length_toList]; exact this
  have ht : (⟨t.data.toList.toArray⟩ : ByteArray) = t := by cases t; simp
  rcases a with _ | ad
  · have := h0 rfl
    subst this
    rw [run_convert_bytes_string W 22 9 5 none 0 c (by kernel_rfl) (by kernel_rfl) (by kernel_rfl)]
    have e : t.data.toList = [] := List.length_eq_zero_iff.1 hn
    have : t = ⟨#[]⟩ := by rw [← ht, e]
    rw [this]
    first | rfl | simp [loadCells, loadCellsFrom] | simp
  · have := run_convert_bytes_back (P := Try.prog) W 22 9 5 ad c t.data.toList (by kernel_rfl) (by kernel_rfl) (by kernel_rfl) (fun j hj => by
      rcases h.2.2.2 with q | ⟨b, o, e, _, hc⟩
      · omega
      · injection e with e
        subst e
        rw [Go.Addr.add_lit, hc j (by omega)]
        have hj2 : j < t.data.size := by rw [← Array.length_toList]; exact hj
        simp [sb, List.getD]
        rw [Array.getElem?_eq_getElem hj2]; simp)
    rw [hn, ht] at this
    exact this

set_option maxRecDepth 100000 in
set_option maxHeartbeats 1000000 in
theorem text_bad (B p : Nat) (a : Option Addr) (n cap : Nat) (xs : List Int) (k m : Nat) (er : Int) (w : World) (h : RB w B p a n cap xs k) (hm : m ≤ 9223372036854775807) (hu : uR (xs.drop k) m = (0, er, 0)) (he : er ≠ 0) :
    Calls Try.prog 20 #[.pointer (some ⟨p, 0, none⟩), .int .i64 (m : Int)] w fun e w' => e = .returned (.tuple #[.string ⟨#[]⟩, .int .i64 er]) ∧ RB w' B p a n cap xs k ∧ Gr p w w' := by
  have K := Lib.hid (uint_any B p a n cap xs k m w h)
  rw [hu] at K
  simp only [Nat.add_zero] at K
  have h2 := h.ac
  have m0 : ¬ (m : Int) < 0 := by omega
  have cv : IntKind.u64.wrap (m : Int) = (m : Int) := by simp [IntKind.wrap, IntKind.bits, IntKind.signed]; omega
  have e1 : (er == 0) = false := by simpa using he
  clear h hu
  go_enter Try.func20, Try.ntmps20
  go_wp2_with (go_at_call 16; refine K.out.mono ?_; rintro e w1 ⟨rfl, h1, h2⟩; have R1 := Lib.hid h1; have G1 := Lib.hid h2; clear h1 h2)
  go_ret2
  exact ⟨rfl, R1.out, G1.out⟩
set_option maxRecDepth 100000 in
set_option maxHeartbeats 1000000 in
theorem text_short (B p : Nat) (a : Option Addr) (n cap : Nat) (xs : List Int) (k m z j : Nat) (w : World) (h : RB w B p a n cap xs k) (hm : m ≤ 9223372036854775807) (hu : uR (xs.drop k) m = (z, 0, j)) (hz : n - (k + j) < z) (hz2 : z ≤ 9223372036854775807) :
    Calls Try.prog 20 #[.pointer (some ⟨p, 0, none⟩), .int .i64 (m : Int)] w fun e w' => e = .returned (.tuple #[.string ⟨#[]⟩, .int .i64 41]) ∧ RB w' B p a n cap xs k ∧ Gr p w w' := by
  have K := Lib.hid (uint_any B p a n cap xs k m w h)
  rw [hu] at K
  simp only at K
  have KL := Lib.hid (fun W (q : RB W B p a n cap xs (k + j)) => left_any B p a n cap xs (k + j) W q)
  have h2 := h.ac
  have hle := h.le
  have hb := h.bnd
  have m0 : ¬ (m : Int) < 0 := by omega
  have cv : IntKind.u64.wrap (m : Int) = (m : Int) := by simp [IntKind.wrap, IntKind.bits, IntKind.signed]; omega
  obtain ⟨r, hr⟩ : ∃ r : Nat, n - (k + j) = r := ⟨_, rfl⟩
  rw [hr] at KL hz
  have cr : IntKind.u64.wrap (r : Int) = (r : Int) := by simp [IntKind.wrap, IntKind.bits, IntKind.signed]; omega
  have z1 : (r : Int) < (z : Int) := by omega
  clear h hu hr
  go_enter Try.func20, Try.ntmps20
  go_wp2_with (first
    | (go_at_call 16; refine K.out.mono ?_; rintro e w1 ⟨rfl, h1, h2⟩; have R1 := Lib.hid h1; have G1 := Lib.hid h2; clear h1 h2)
    | (go_at_call 26; refine (KL.out _ R1.out).mono ?_; rintro e w2 ⟨rfl, h1⟩; have R2 := Lib.hid (R1.out.later h1); have G2 := Lib.hid (gr_trans G1.out (gr_below (r := none) h1 (some p))); obtain ⟨f1, f2⟩ : w2.cell? ⟨p, 1, none⟩ = some (.int .i64 ((k + j : Nat) : Int)) ∧ w2.frozen? ⟨p, 1, none⟩ = false := ⟨R2.out.ac, R2.out.f⟩; clear h1))
  go_ret2
  exact ⟨rfl, R2.out.set k hle, gr_set G2.out 1 _⟩
set_option maxRecDepth 100000 in
set_option maxHeartbeats 1000000 in
theorem text_ok (B p : Nat) (a : Option Addr) (n cap : Nat) (xs : List Int) (k m j : Nat) (t : ByteArray) (w : World) (h : RB w B p a n cap xs k) (hm : m ≤ 9223372036854775807) (hu : uR (xs.drop k) m = (t.size, 0, j)) (hz : k + j + t.size ≤ n) (ht : (xs.drop (k + j)).take t.size = sb t) :
    Calls Try.prog 20 #[.pointer (some ⟨p, 0, none⟩), .int .i64 (m : Int)] w fun e w' => e = .returned (.tuple #[.string t, .int .i64 0]) ∧ RB w' B p a n cap xs (k + j + t.size) ∧ Gr p w w' := by
  have K := Lib.hid (uint_any B p a n cap xs k m w h)
  rw [hu] at K
  simp only at K
  have KL := Lib.hid (fun W (q : RB W B p a n cap xs (k + j)) => left_any B p a n cap xs (k + j) W q)
  have KP := Lib.hid (fun W (q : RB W B p a n cap xs (k + j)) => pass_any B p a n cap xs (k + j) t.size W q hz)
  rw [ht] at KP
  have h2 := h.ac
  have hb := h.bnd
  have m0 : ¬ (m : Int) < 0 := by omega
  have cv : IntKind.u64.wrap (m : Int) = (m : Int) := by simp [IntKind.wrap, IntKind.bits, IntKind.signed]; omega
  obtain ⟨r, hr⟩ : ∃ r : Nat, n - (k + j) = r := ⟨_, rfl⟩
  rw [hr] at KL
  have cr : IntKind.u64.wrap (r : Int) = (r : Int) := by simp [IntKind.wrap, IntKind.bits, IntKind.signed]; omega
  have z1 : ¬ (r : Int) < (t.size : Int) := by omega
  have ct : IntKind.i64.wrap (t.size : Int) = (t.size : Int) := by simp [IntKind.wrap, IntKind.bits, IntKind.signed]; omega
  clear h hu hr ht
  go_enter Try.func20, Try.ntmps20
  go_wp2_with (first
    | (go_at_call 16; refine K.out.mono ?_; rintro e w1 ⟨rfl, h1, h2⟩; have R1 := Lib.hid h1; have G1 := Lib.hid h2; clear h1 h2)
    | (go_at_call 26; refine (KL.out _ R1.out).mono ?_; rintro e w2 ⟨rfl, h1⟩; have R2 := Lib.hid (R1.out.later h1); have G2 := Lib.hid (gr_trans G1.out (gr_below (r := none) h1 (some p))); clear h1)
    | (go_at_call 28; refine (KP.out _ R2.out).mono ?_; rintro e w3 ⟨a3, ⟨c3, rfl⟩, ⟨h1, h2⟩, h3, h4⟩; have cb := conv_bl (c := c3) h1 h2; have R3 := Lib.hid h3; have G3 := Lib.hid (gr_trans G2.out h4); clear h1 h2 h3 h4))
  go_ret2
  exact ⟨rfl, R3.out, G3.out⟩
end Go.Proofs.Ytnoimmjijkgjaaa
