/-
  WALKS: Compare of flows, the program's and the document's.
-/
import Derived.Test.YtmdgfcldohmjdaaDoorWFlow1
import Derived.Deep.RegionHeld3
namespace Go.Proofs.YtmdgfcldohmjdaaDoor
open Go.RowKit
set_option linter.unusedVariables false
set_option linter.unusedSimpArgs false

def sLt (x y : ByteArray) : Bool := Op.bytesLess x.toList y.toList
def sEq (x y : ByteArray) : Bool := x.toList == y.toList
def cmpI (x y : Int) : Int := if x < y then -1 else if y < x then 1 else 0
def cmpS (x y : ByteArray) : Int := if sLt x y then -1 else if sLt x y || sEq x y then 0 else 1
def orI (a b c : Int) : Int := if a ≠ 0 then a else if b ≠ 0 then b else c
def cmpF (f g : Fl) : Int := orI (cmpI f.d g.d) (cmpS f.c g.c) (cmpI f.a g.a)

theorem isNaN_int (x : Int) (w : World) : Calls Tryd.prog 46 #[.int .i64 x] w fun e w' => e = .returned (.bool false) ∧ w' = w := by
  go_enter Tryd.func46, Tryd.ntmps46
  go_wp2
  go_ret
  exact ⟨rfl, rfl⟩
theorem isNaN_str (x : ByteArray) (w : World) : Calls Tryd.prog 45 #[.string x] w fun e w' => e = .returned (.bool false) ∧ w' = w := by
  go_enter Tryd.func45, Tryd.ntmps45
  go_wp2
  go_ret
  exact ⟨rfl, rfl⟩
set_option maxHeartbeats 1000000 in
theorem compare_int (x y : Int) (w : World) : Calls Tryd.prog 30 #[.int .i64 x, .int .i64 y] w fun e w' => e = .returned (.int .i64 (cmpI x y)) ∧ w' = w := by
  unfold cmpI
  go_enter Tryd.func30, Tryd.ntmps30
  go_wp2_with (go_at_call 46; refine (isNaN_int _ _).mono ?_; rintro e w' ⟨rfl, rfl⟩)
  all_goals go_ret
  all_goals refine ⟨ret_i ?_, rfl⟩
  all_goals (simp_all; try omega)
theorem gtrS (t : TypeId) (x y : ByteArray) : binOp .gtr t (.string x) (.string y) = pure (.bool (!(Op.bytesLess x.toList y.toList || (x.toList == y.toList)))) := by simp [binOp, Op.stringOp]
set_option maxHeartbeats 1000000 in
theorem compare_str (x y : ByteArray) (w : World) : Calls Tryd.prog 29 #[.string x, .string y] w fun e w' => e = .returned (.int .i64 (cmpS x y)) ∧ w' = w := by
  have HC := Lib.hid (p := ∀ a b, sLt x y = a → sEq x y = b → cmpS x y = if a then -1 else if a || b then 0 else 1) (fun a b h1 h2 => by unfold cmpS; rw [h1, h2])
  generalize cmpS x y = C at HC ⊢
  cases h1 : Op.bytesLess x.toList y.toList <;> cases h2 : (x.toList == y.toList)
  all_goals
    have HD := Lib.hid (HC.out _ _ h1 h2)
    have hg := gtrS 9 x y
    rw [h1, h2] at hg
    go_enter Tryd.func29, Tryd.ntmps29
    go_wp2_with (go_at_call 45; refine (isNaN_str _ _).mono ?_; rintro e w' ⟨rfl, rfl⟩)
    go_ret
    exact ⟨ret_i (by rw [HD.out]; rfl), rfl⟩

set_option maxHeartbeats 1000000 in
theorem or_any (g : Nat) (a b c : Int) (w : World) (c0 : w.cell? ⟨g, 0, none⟩ = some (.int .i64 a)) (c1 : w.cell? ⟨g, 1, none⟩ = some (.int .i64 b)) (c2 : w.cell? ⟨g, 2, none⟩ = some (.int .i64 c)) :
    Calls Tryd.prog 27 #[.slice (some ⟨g, 0, none⟩) 3 3] w fun e w' => e = .returned (.int .i64 (orI a b c)) ∧ w' = w := by
  obtain ⟨V, hV⟩ : ∃ V, orI a b c = V := ⟨_, rfl⟩
  have HV := Lib.hid hV
  rw [hV]; clear hV
  go_enter Tryd.func27, Tryd.ntmps27
  go_wp2
  go_loop [8] (fun t => ∃ k : Nat, k ≤ 3 ∧ t = .int .i64 k ∧ (0 < k → a = 0) ∧ (1 < k → b = 0) ∧ (2 < k → c = 0)) (fun t => 3 - (intOf t).toNat)
  case atStart => exact ⟨0, by omega, rfl, fun h => absurd h (by omega), fun h => absurd h (by omega), fun h => absurd h (by omega)⟩
  case round =>
    obtain ⟨k, hk, rfl, e0, e1, e2⟩ := hrel
    rcases (show k = 0 ∨ k = 1 ∨ k = 2 ∨ k = 3 by omega) with rfl | rfl | rfl | rfl
    · have HR := Lib.hid (p := a ≠ 0 → a = V) (fun h => by rw [← HV.out]; simp [orI, h])
      by_cases h : a = 0
      · go_wp2
        go_round
        case rel => exact ⟨1, by omega, rfl, fun _ => h, fun q => absurd q (by omega), fun q => absurd q (by omega)⟩
        case measure => simp [intOf]
      · go_wp2
        go_ret
        exact ⟨ret_i (HR.out h), rfl⟩
    · have E0 := Lib.hid (e0 (by omega))
      have HR := Lib.hid (p := b ≠ 0 → b = V) (fun h => by rw [← HV.out]; simp [orI, h, E0.out])
      by_cases h : b = 0
      · go_wp2
        go_round
        case rel => exact ⟨2, by omega, rfl, fun _ => E0.out, fun _ => h, fun q => absurd q (by omega)⟩
        case measure => simp [intOf]
      · go_wp2
        go_ret
        exact ⟨ret_i (HR.out h), rfl⟩
    · have E0 := Lib.hid (e0 (by omega))
      have E1 := Lib.hid (e1 (by omega))
      have HR := Lib.hid (p := c ≠ 0 → c = V) (fun h => by rw [← HV.out]; simp [orI, E0.out, E1.out])
      by_cases h : c = 0
      · go_wp2
        go_round
        case rel => exact ⟨3, by omega, rfl, fun _ => E0.out, fun _ => E1.out, fun _ => h⟩
        case measure => simp [intOf]
      · go_wp2
        go_ret
        exact ⟨ret_i (HR.out h), rfl⟩
    · have HR := Lib.hid (p := (0 : Int) = V) (by rw [← HV.out]; simp [orI, e0 (by omega), e1 (by omega), e2 (by omega)])
      go_wp2
      go_ret
      exact ⟨ret_i HR.out, rfl⟩

set_option maxHeartbeats 1000000 in
theorem byDay_any (d a d' a' : Int) (c c' : ByteArray) (w : World) :
    Calls Tryd.prog 28 #[.agg #[.int .i64 d, .string c, .int .i64 a], .agg #[.int .i64 d', .string c', .int .i64 a']] w fun e w' => e = .returned (.int .i64 (cmpI d d')) ∧ w' = (w.alloc (.cells #[.int .i64 d, .string c, .int .i64 a] 32)).alloc (.cells #[.int .i64 d', .string c', .int .i64 a'] 32) := by
  generalize hc : cmpI d d' = C
  go_enter Tryd.func28, Tryd.ntmps28
  go_wp2_with (go_at_call 30; refine (compare_int _ _ _).mono ?_; rintro e w' ⟨rfl, rfl⟩; rw [hc])
  all_goals go_ret
  all_goals exact ⟨rfl, rfl⟩

theorem box3 {w w' : World} {B : Nat} (h : Below B w w') (k : Nat) (hk : k < B) (i : Nat) {v : Value} (hv : w.cell? ⟨k, i, none⟩ = some v) : w'.cell? ⟨k, i, none⟩ = some v := (h.cell (p := ⟨k, i, none⟩) hk).trans hv

set_option maxHeartbeats 2000000 in
theorem compare_any (d a d' a' : Int) (c c' : ByteArray) (w : World) :
    Calls Tryd.prog 16 #[.agg #[.int .i64 d, .string c, .int .i64 a], .agg #[.int .i64 d', .string c', .int .i64 a']] w fun e w' => e = .returned (.int .i64 (cmpF ⟨d, c, a⟩ ⟨d', c', a'⟩)) ∧ Below w.heap.size w w' := by
  have HC := Lib.hid (p := ∀ x y z, cmpI d d' = x → cmpS c c' = y → cmpI a a' = z → cmpF ⟨d, c, a⟩ ⟨d', c', a'⟩ = orI x y z) (fun x y z h1 h2 h3 => by rw [← h1, ← h2, ← h3]; rfl)
  generalize cmpF ⟨d, c, a⟩ ⟨d', c', a'⟩ = C at HC ⊢
  have K1 := fun W => compare_str c c' W
  have K2 := fun W => compare_int a a' W
  have K0 := fun W => byDay_any d a d' a' c c' W
  generalize cmpI d d' = x at *
  generalize cmpS c c' = y at *
  generalize cmpI a a' = z at *
  have HD := Lib.hid (HC.out x y z rfl rfl rfl)
  clear HC
  go_enter Tryd.func16, Tryd.ntmps16
  go_wp2
  go_region_held3 (fun w' => w'.cell? ⟨w.heap.size, 0, none⟩ = some (.int .i64 d) ∧ w'.cell? ⟨w.heap.size, 1, none⟩ = some (.string c) ∧ w'.cell? ⟨w.heap.size, 2, none⟩ = some (.int .i64 a) ∧ w'.cell? ⟨w.heap.size + 1, 0, none⟩ = some (.int .i64 d') ∧ w'.cell? ⟨w.heap.size + 1, 1, none⟩ = some (.string c') ∧ w'.cell? ⟨w.heap.size + 1, 2, none⟩ = some (.int .i64 a'))
    (refine ⟨?_, ?_, ?_, ?_, ?_, ?_⟩ <;> first | assumption | (simp [World.cell?_alloc_old, *]; done) | (go_simp; done))
    (first
    | (go_at_call 28; refine (K0 _).mono ?_; rintro e w1 ⟨rfl, rfl⟩)
    | (go_at_call 29; refine (K1 _).mono ?_; rintro e w2 ⟨rfl, rfl⟩)
    | (go_at_call 30; refine (K2 _).mono ?_; rintro e w3 ⟨rfl, rfl⟩)
    | (go_at_call 27; refine (or_any _ x y z _ (by go_simp) (by go_simp) (by go_simp)).mono ?_; rintro e w4 ⟨rfl, rfl⟩))
  all_goals go_wp2
  all_goals go_ret
  all_goals exact ⟨ret_i HD.out.symm, (((((((Below.refl _ _).alloc (Nat.le_refl _) _).alloc (by simp) _).alloc (by simp; omega) _).alloc (by simp; omega) _).alloc (by simp; omega) _)).drew⟩

end Go.Proofs.YtmdgfcldohmjdaaDoor
