/-
  WALK: the law NumReads.
-/
import Derived.Test.YtaeppjnnddakfaaDoorWRefParse
import Derived.Test.YtaeppjnnddakfaaDoorWNumThere
namespace Go.Proofs.YtaeppjnnddakfaaDoor
open Go.RowKit
set_option linter.unusedVariables false
set_option linter.unusedSimpArgs false

theorem ref_some (s : ByteArray) (hm : s.size ≤ 9223372036854775807) (p : Nat) (hp : p ≤ 18) (x : Int) (h : prA p s = some x) (w : World) :
    Calls Tryd.prog 9 #[.string s, .int .i64 p] w fun e w' => e = .returned (.tuple #[.int .i64 x, .int .i64 0]) ∧ Below w.heap.size w w' := by
  obtain ⟨xr, xe⟩ := prA_some h
  have L : s.data.toList = dtx x p := by rw [← xe]
  obtain ⟨b1, b2⟩ := absI_bd x xr
  obtain ⟨ds, a, b, c⟩ := digs_ex (absI x).toNat
  have z : zOf s.data.toList = x := by rw [L]; exact zOf_dtx x xr p hp a b (by omega)
  have := rparse_yes s p hp hm w (by rw [z]; exact xr) (by rw [z, ← L])
  rw [z] at this
  exact this
theorem ref_none (s : ByteArray) (hm : s.size ≤ 9223372036854775807) (p : Nat) (hp : p ≤ 18) (h : prA p s = none) (w : World) :
    Calls Tryd.prog 9 #[.string s, .int .i64 p] w fun e w' => e = .returned (.tuple #[.int .i64 0, .int .i64 11]) ∧ Below w.heap.size w w' := by
  by_cases hz : inR (zOf s.data.toList)
  · by_cases he : dtx (zOf s.data.toList) p = s.data.toList
    · exfalso
      have hl := dtx_len _ hz p hp
      rw [he] at hl
      unfold prA at h
      rw [if_pos (by simpa using hl)] at h
      have := prs_back _ hz p
      rw [he, h] at this
      cases this
    · exact rparse_not s p hp hm w hz he
  · exact rparse_far s p hp hm w hz
theorem ref_places (s : ByteArray) (p : Int) (hp : ¬ (0 ≤ p ∧ p ≤ 18)) (w : World) :
    Calls Tryd.prog 9 #[.string s, .int .i64 p] w fun e w' => e = .returned (.tuple #[.int .i64 0, .int .i64 1]) ∧ w' = w := by
  by_cases g : p < 0
  · clear hp
    go_enter Tryd.func9, Tryd.ntmps9
    go_wp2
    go_ret2
    exact ⟨rfl, rfl⟩
  · have g2 : 18 < p := by omega
    clear hp
    go_enter Tryd.func9, Tryd.ntmps9
    go_wp2
    go_ret2
    exact ⟨rfl, rfl⟩

theorem numReads_walk (s : ByteArray) (p : Int) (hm : s.size ≤ 9223372036854775807) (w : World) (ht : Pows w) (hE : Ev w) :
    Calls Tryd.prog 5 #[.string s, .int .i64 p] w fun e w' => e = .returned (.bool true) ∧ Below w.heap.size w w' := by
  by_cases h : 0 ≤ p ∧ p ≤ 18
  · obtain ⟨n, rfl⟩ : ∃ n : Nat, p = n := ⟨p.toNat, by omega⟩
    cases hx : prA n s with
    | none =>
      have A := veil (parse_none s hm n (by omega) hx w ht hE)
      have B := veil (fun w => ref_none s hm n (by omega) hx w)
      clear hx h
      go_enter Tryd.func5, Tryd.ntmps5
      go_wp2_with (first
        | (go_at_call 8; refine (unveil A).mono ?_; rintro e w1 ⟨rfl, b1⟩)
        | (go_at_call 9; refine (unveil B _).mono ?_; rintro e w2 ⟨rfl, h2⟩; have b2 := b1.trans (h2.mono b1.size)))
      go_ret
      exact ⟨rfl, b2⟩
    | some x =>
      have A := veil (parse_some s n (by omega) x hx w ht hE)
      have B := veil (fun w => ref_some s hm n (by omega) x hx w)
      clear hx h
      go_enter Tryd.func5, Tryd.ntmps5
      go_wp2_with (first
        | (go_at_call 8; refine (unveil A).mono ?_; rintro e w1 ⟨rfl, b1⟩)
        | (go_at_call 9; refine (unveil B _).mono ?_; rintro e w2 ⟨rfl, h2⟩; have b2 := b1.trans (h2.mono b1.size)))
      go_ret
      exact ⟨rfl, b2⟩
  · have A := veil (parse_places s p h w)
    have B := veil (fun w => ref_places s p h w)
    clear h
    go_enter Tryd.func5, Tryd.ntmps5
    go_wp2_with (first
      | (go_at_call 8; refine (unveil A).mono ?_; rintro e w' ⟨rfl, rfl⟩)
      | (go_at_call 9; refine (unveil B _).mono ?_; rintro e w' ⟨rfl, rfl⟩))
    go_ret
    exact ⟨rfl, Below.refl _ _⟩
end Go.Proofs.YtaeppjnnddakfaaDoor
