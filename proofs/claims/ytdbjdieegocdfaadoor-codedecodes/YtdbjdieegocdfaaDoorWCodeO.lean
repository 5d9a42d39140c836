/-
  WALKS: the document's operand.
-/
import Derived.Test.YtdbjdieegocdfaaDoorWCodeN
namespace Go.Proofs.YtdbjdieegocdfaaDoor
open Go.RowKit
set_option linter.unusedVariables false
set_option linter.unusedSimpArgs false

theorem operand_none (p : Nat) (bd : Int) (hb : bd < 0) (w : World) :
    Calls Tryd.prog 21 #[.pointer (some ⟨p, 0, none⟩), .int .i64 bd] w fun e w' => e = .returned (.tuple #[.int .i64 0, .int .i64 0, .int .i64 0]) ∧ w' = w := by
  go_enter Tryd.func21, Tryd.ntmps21
  go_wp2
  go_ret3
  exact ⟨rfl, rfl⟩
set_option maxHeartbeats 1000000 in
theorem operand_some (B p : Nat) (a : Option Addr) (n cap : Nat) (xs : List Int) (k lim : Nat) (hl : lim ≤ 262143) (x : Nat) (er : Int) (m : Nat) (hu : uN (xs.drop k) lim = (x, er, m)) (w : World) (h : RE w B p a n cap xs k) :
    Calls Tryd.prog 21 #[.pointer (some ⟨p, 0, none⟩), .int .i64 (lim : Int)] w fun e w' => e = .returned (.tuple #[.int .i64 (x : Int), .int .i64 ((if er = 41 then n else k : Nat) : Int), .int .i64 er]) ∧ RE w' B p a n cap xs (k + m) ∧ Gr p w w' := by
  have KP := Lib.hid (placeR_same B p a n cap xs k w h)
  have KU := Lib.hid (p := Calls Tryd.prog 32 #[.pointer (some ⟨p, 0, none⟩), .int .u64 (lim : Int)] w fun e w' => e = .returned (.tuple #[.int .u64 (x : Int), .int .i64 er]) ∧ RE w' B p a n cap xs (k + m) ∧ Gr p w w') (by
    have := uintR_any B p a n cap xs k lim w h
    rw [uR_uN, hu] at this
    exact this)
  have KL := Lib.hid (fun pos W (q : RE W B p a n cap xs pos) => leftR_q B p a n cap xs pos W q)
  have xl := uN_small (fun d hd => h.byte d (List.mem_of_mem_drop hd)) hu
  have E0 := Lib.hid (p := er ≠ 0 → m = 0) (fun he => by
    have := uN_err (bs := xs.drop k) (lim := lim) (by rw [hu]; exact he)
    rw [hu] at this; exact this.2)
  have kn := h.le
  have nb := h.bnd
  have lw : IntKind.u64.wrap (lim : Int) = (lim : Int) := by simp [IntKind.wrap, IntKind.bits, IntKind.signed]; omega
  have xw : IntKind.i64.wrap (x : Int) = (x : Int) := wrap_id (by omega)
  have l0 : ¬ (lim : Int) < 0 := by omega
  clear h hu xl
  by_cases he : er = 41
  · subst he
    have m0 := E0.out (by omega)
    subst m0
    have sw : IntKind.i64.wrap ((k : Int) + ((n - k : Nat) : Int)) = (n : Int) := by simp [IntKind.wrap, IntKind.bits, IntKind.signed]; omega
    have sm : (k : Int) + ((n - k : Nat) : Int) = (n : Int) := by omega
    obtain ⟨lf, hlf⟩ : ∃ lf : Nat, n - k = lf := ⟨_, rfl⟩
    rw [hlf] at sw sm
    have KL2 := Lib.hid (KL.out (k + 0))
    simp only [Nat.add_zero] at KL2 KU
    rw [hlf] at KL2
    clear hlf KL
    go_enter Tryd.func21, Tryd.ntmps21
    go_wp2_with (first
      | (go_at_call 19; refine KP.out.mono ?_; rintro e w1 ⟨rfl, h1⟩; subst h1)
      | (go_at_call 32; refine KU.out.mono ?_; rintro e w2 ⟨rfl, h1, h2⟩; have R2 := Lib.hid h1; have G2 := Lib.hid h2; clear h1 h2)
      | (go_at_call 18; refine (KL2.out _ R2.out).mono ?_; rintro e w3 ⟨rfl, q, h1⟩; subst h1))
    go_ret3
    exact ⟨rfl, R2.out.drewN _, gr_drewN G2.out _⟩
  · have he' : (er == 41) = false := by simpa using he
    rw [if_neg he]
    go_enter Tryd.func21, Tryd.ntmps21
    go_wp2_with (first
      | (go_at_call 19; refine KP.out.mono ?_; rintro e w1 ⟨rfl, h1⟩; subst h1)
      | (go_at_call 32; refine KU.out.mono ?_; rintro e w2 ⟨rfl, h1, h2⟩; have R2 := Lib.hid h1; have G2 := Lib.hid h2; clear h1 h2))
    go_ret3
    exact ⟨rfl, R2.out, G2.out⟩
end Go.Proofs.YtdbjdieegocdfaaDoor
