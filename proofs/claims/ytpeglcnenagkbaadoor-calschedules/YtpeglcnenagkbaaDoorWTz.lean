/-
  WALK: TrailingZeros64 at this dump: the place of the lowest bit. (The library has the contract over a laying, Derived.Shelf.Spec.TrailingZeros; its arithmetic is used from there.)
-/
import Derived.Test.YtpeglcnenagkbaaDoorPlainLow
import Derived.Shelf.Spec.TrailingZeros
namespace Go.Proofs.YtpeglcnenagkbaaDoor
open Go.RowKit
set_option linter.unusedVariables false
set_option linter.unusedSimpArgs false

/-- The table in its variable. -/
def Tz (w : World) : Prop := 0 < w.heap.size ∧ ∀ j, j < 64 → w.cell? ⟨0, j, none⟩ = some (.int .u8 (Lib.deBruijn64tab.getD j 0 : Nat))
theorem tz_below {B : Nat} {w w' : World} (hn : w.heap.size ≤ B) (b : Below B w w') (h : Tz w) : Tz w' :=
  ⟨Nat.lt_of_lt_of_le h.1 b.size, fun k hk => by rw [b.cell (p := ⟨0, k, none⟩) (Nat.lt_of_lt_of_le h.1 hn)]; exact h.2 k hk⟩

theorem tz_drew {w : World} (h : Tz w) : Tz w.drew := ⟨h.1, h.2⟩
theorem tz_drewN {w : World} (n : Nat) (h : Tz w) : Tz (w.drewN n) := ⟨h.1, h.2⟩
set_option maxHeartbeats 1000000 in
theorem tz64_core (x k idx : Nat) (w : World) (hx0 : ((x : Int) == 0) = false)
    (key : IntKind.u64.wrap (bits BinOp.and IntKind.u64 (x : Int) (IntKind.u64.wrap (-(x : Int))) * 285870213051353865) / 288230376151711744 = (idx : Int))
    (hi : idx < 64) (hk : k < 64) (hcell : w.cell? ⟨0, idx, none⟩ = some (.int .u8 k)) :
    Calls Tryd.prog 49 #[.int .u64 x] w fun e w' => e = .returned (.int .i64 k) ∧ w' = w := by
  go_enter Tryd.func49, Tryd.ntmps49
  go_wp2_with (simp only [key])
  go_ret
  exact ⟨rfl, rfl⟩
/-- Its answer is the place of the lowest bit. -/
theorem tz64_low (x : Nat) (hx : x < 18446744073709551616) (hx0 : x ≠ 0) :
    ∃ t, t < 64 ∧ x.testBit t = true ∧ (∀ s, s < t → x.testBit s = false) ∧ ∀ w, Tz w → Calls Tryd.prog 49 #[.int .u64 x] w fun e w' => e = .returned (.int .i64 (t : Nat)) ∧ w' = w := by
  obtain ⟨hlow, hk⟩ := Lib.lowest_bit 64 x hx0 hx
  obtain ⟨hi, htab⟩ := Lib.deBruijn64_at _ hk
  obtain ⟨m, hm, _⟩ := Lib.ctzFrom_spec 64 x (by omega) hx
  have hc : Lib.ctz 64 x = Lib.ctzFrom 64 x := by unfold Lib.ctz; rw [if_neg hx0]
  refine ⟨Lib.ctz 64 x, hk, ?_, ?_, fun w hT => tz64_core x _ _ w (by simp; omega) (tz64_key x _ hx hx0 hlow) hi hk (by have hcell := hT.2 _ hi; rw [htab] at hcell; exact hcell)⟩
  · rw [hc]
    generalize Lib.ctzFrom 64 x = t at *
    subst hm
    rw [Nat.testBit_two_pow_mul]; simp
  · rw [hc]
    generalize Lib.ctzFrom 64 x = t at *
    subst hm
    intro s hs
    rw [Nat.testBit_two_pow_mul]; simp; omega
end Go.Proofs.YtpeglcnenagkbaaDoor
