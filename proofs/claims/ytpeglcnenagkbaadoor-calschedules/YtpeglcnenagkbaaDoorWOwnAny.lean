/-
  own and intact at any list that is handed in.
-/
import Derived.Test.YtpeglcnenagkbaaDoorWIntact
namespace Go.Proofs.YtpeglcnenagkbaaDoor
open Go.RowKit
set_option linter.unusedVariables false
set_option linter.unusedSimpArgs false

/-- A list of holidays as it is handed in. -/
def Hol (w : World) (a : Option Addr) (c cap : Nat) (zs : List Int) : Prop :=
  (a = none ∧ c = 0 ∧ cap = 0 ∧ zs = []) ∨ (∃ x, a = some x ∧ c = 0 ∧ zs = []) ∨
  (∃ b o, a = some ⟨b, o, none⟩ ∧ b < w.heap.size ∧ zs.length = c ∧ c ≤ 20000000000000 ∧ ∀ i, i < c → w.cell? ⟨b, o + i, none⟩ = some (.int .i64 (zs.getD i 0)))
theorem Hol.later {w w' : World} {a c cap zs} (h : Hol w a c cap zs) (B : Below w.heap.size w w') : Hol w' a c cap zs := by
  rcases h with h | h | ⟨b, o, rfl, h1, h2, h3, h4⟩
  · exact .inl h
  · exact .inr (.inl h)
  · exact .inr (.inr ⟨b, o, rfl, Nat.lt_of_lt_of_le h1 B.size, h2, h3, fun i hi => (B.cell (p := ⟨b, o + i, none⟩) h1).trans (h4 i hi)⟩)
theorem Hol.ls {w : World} {a c cap zs} (h : Hol w a c cap zs) : Ls w a c zs := by
  rcases h with ⟨rfl, rfl, rfl, rfl⟩ | ⟨x, rfl, rfl, rfl⟩ | ⟨b, o, rfl, h1, h2, h3, h4⟩
  · exact ⟨rfl, by omega, .inl rfl⟩
  · exact ⟨rfl, by omega, .inl rfl⟩
  · exact ⟨h2, by omega, .inr ⟨b, o, rfl, h1, h4⟩⟩
theorem hol_of {w : World} {a : Option Addr} {len cap : Nat} {zs : List Int} (hb : len * 8 ≤ 140737488351232)
    (h : (a = none ∧ len = 0 ∧ cap = 0 ∧ zs = []) ∨ ∃ x, a = some x ∧ len ≤ cap ∧ cap ≤ maxLen ∧ zs.length = cap ∧ (∀ i, i < zs.length → w.cell? (x.add i) = some (.int .i64 (zs.getD i 0))) ∧ ∀ n ∈ zs, (Lit.int .i64 n).wf = true) : Hol w a len cap (zs.take len) := by
  rcases h with ⟨rfl, rfl, rfl, rfl⟩ | ⟨x, rfl, h1, h2, h3, h4, h5⟩
  · exact .inl ⟨rfl, rfl, rfl, rfl⟩
  · by_cases h0 : len = 0
    · subst h0; exact .inr (.inl ⟨x, rfl, rfl, by simp⟩)
    · obtain ⟨b, o, s⟩ := x
      have hc := h4 0 (by omega)
      have hs : s = none := by simpa [Addr.add] using World.cell?_spot hc
      subst hs
      refine .inr (.inr ⟨b, o, rfl, ?_, by simp; omega, by omega, fun i hi => ?_⟩)
      · have : (w.cell? ⟨b, o, none⟩).isSome = true := by
          have e : (⟨b, o, none⟩ : Addr).add 0 = ⟨b, o, none⟩ := by simp [Addr.add]
          rw [e] at hc; rw [hc]; rfl
        by_cases hlt : b < w.heap.size
        · exact hlt
        · exfalso
          have hn : w.heap[b]? = none := by simp; omega
          simp [World.cell?, hn] at this
      · have := h4 i (by omega)
        rw [Go.Addr.add_lit] at this
        rw [this]
        congr 2
        simp [List.getD, hi]

set_option maxHeartbeats 1000000 in
theorem own_zero (x : Addr) (cap : Nat) (w : World) :
    Calls Tryd.prog 8 #[.slice (some x) 0 cap] w fun e w' => e = .returned (.slice (some ⟨w.heap.size, 0, none⟩) 0 2) ∧ Below w.heap.size w w' ∧ ∃ xs : List Int, Wi w' w.heap.size xs ∧ xs.length = 2 ∧ xs.getD 0 0 = -771 ∧ xs.getD 1 0 = -772 := by
  have mk := make_ints 2 (by omega)
  simp only [Int.cast_ofNat_Int] at mk
  have en := eql_nil (some x) 0 cap
  have WM := Lib.hid (Wi.made w 2)
  go_enter Tryd.func8, Tryd.ntmps8
  go_wp2
  clear mk
  go_loopw [4] (fun i wr => i = .int .i64 0 ∧ wr = w.alloc (.cells (madeCells #[.int .i64 0] 2) 3)) (fun i _ => 0)
  case atStart => exact ⟨rfl, rfl⟩
  case round =>
    obtain ⟨rfl, rfl⟩ := hrel
    have d1 := (WM.out.2 0 (by simp)).1
    have e1 := (WM.out.2 0 (by simp)).2
    have d2 := (WM.out.2 1 (by simp)).1
    have e2 := (WM.out.2 1 (by simp)).2
    have BB := Lib.hid ((Below.refl w.heap.size w).alloc (Nat.le_refl _) (.cells (madeCells #[.int .i64 0] 2) 3))
    generalize w.alloc (.cells (madeCells #[.int .i64 0] 2) 3) = wr at *
    go_wp2
    go_ret
    exact ⟨rfl, (BB.out.setCell (by simp) _).setCell (by simp) _, ((List.replicate 2 (0 : Int)).set 0 (-771)).set 1 (-772), (WM.out.set 0 _ (by simp)).set 1 _ (by simp), by simp, rfl, rfl⟩
theorem same_zero (x y : Addr) (c1 c2 : Nat) (w : World) : Calls Tryd.prog 24 #[.slice (some x) 0 c1, .slice (some y) 0 c2] w fun e w' => e = .returned (.bool true) ∧ w' = w := by
  go_enter Tryd.func24, Tryd.ntmps24
  go_wp2
  go_loopw [5] (fun i wr => i = .int .i64 0 ∧ wr = w) (fun i _ => 0)
  case atStart => exact ⟨rfl, rfl⟩
  case round =>
    obtain ⟨rfl, rfl⟩ := hrel
    go_wp2
    go_ret
    exact ⟨rfl, rfl⟩
set_option maxHeartbeats 1000000 in
theorem intact_zero (g cap : Nat) (y : Addr) (xs : List Int) (w : World) (hW : Wi w g xs) (hx : xs.length = 2) (e1 : xs.getD 0 0 = -771) (e2 : xs.getD 1 0 = -772) :
    Calls Tryd.prog 12 #[.slice (some ⟨g, 0, none⟩) 0 2, .slice (some y) 0 cap] w fun e w' => e = .returned (.bool true) ∧ w' = w := by
  have hg := hW.1
  have en := eql_nil (some y) 0 cap
  have d1 := (hW.2 0 (by omega)).1
  have d2 := (hW.2 1 (by omega)).1
  rw [e1] at d1
  rw [e2] at d2
  clear hW
  go_enter Tryd.func12, Tryd.ntmps12
  go_wp2_with (go_at_call 24; refine (same_zero _ _ _ _ _).mono ?_; rintro e w1 ⟨rfl, rfl⟩)
  go_ret
  exact ⟨rfl, rfl⟩

theorem Wi.later {w w' : World} {g : Nat} {xs : List Int} (h : Wi w g xs) (b : Below w.heap.size w w') : Wi w' g xs :=
  ⟨Nat.lt_of_lt_of_le h.1 b.size, fun i hi => ⟨(b.cell (p := ⟨g, i, none⟩) h.1).trans (h.2 i hi).1, (b.frozen (p := ⟨g, i, none⟩) h.1).trans (h.2 i hi).2⟩⟩

/-- own, and what intact says of it later. -/
theorem own_any (a : Option Addr) (c cap : Nat) (zs : List Int) (w : World) (h : Hol w a c cap zs) :
    Calls Tryd.prog 8 #[.slice a c cap] w fun e w' => ∃ (A : Option Addr) (C : Nat), e = .returned (.slice A c C) ∧ Below w.heap.size w w' ∧ Ls w' A c zs ∧
      RowKit.Hid (∀ W, Below w'.heap.size w' W → Calls Tryd.prog 12 #[.slice A c C, .slice a c cap] W fun e W' => e = .returned (.bool true) ∧ Below W.heap.size W W') := by
  rcases h with ⟨rfl, rfl, rfl, rfl⟩ | ⟨x, rfl, rfl, rfl⟩ | ⟨b, o, rfl, h1, h2, h3, h4⟩
  · refine (own_nil w).mono ?_
    rintro e w' ⟨rfl, rfl⟩
    exact ⟨none, 0, rfl, Below.refl _ _, ⟨rfl, by omega, .inl rfl⟩, fun W _ => (intact_nil W).mono (by rintro e W' ⟨rfl, rfl⟩; exact ⟨rfl, Below.refl _ _⟩)⟩
  · refine (own_zero x cap w).mono ?_
    rintro e w' ⟨rfl, hb, xs, hW, hx, e1, e2⟩
    exact ⟨_, _, rfl, hb, ⟨rfl, by omega, .inl rfl⟩, fun W hW' => (intact_zero _ cap x xs W (hW.later hW') hx e1 e2).mono (by rintro e W' ⟨rfl, rfl⟩; exact ⟨rfl, Below.refl _ _⟩)⟩
  · refine (own_some b o c cap zs w h2 h3 h1 h4).mono ?_
    rintro e w' ⟨rfl, hb, xs, hW, hx, hE, e1, e2⟩
    refine ⟨_, _, rfl, hb, ⟨h2, by omega, .inr ⟨_, 0, rfl, hW.1, fun i hi => ?_⟩⟩, fun W hW' => intact_some _ b o c cap zs xs W h3 (hW.later hW') hx hE e1 e2 (Nat.lt_of_lt_of_le h1 (Nat.le_trans hb.size hW'.size)) (fun i hi => ?_)⟩
    · rw [Nat.zero_add, (hW.2 i (by omega)).1, hE i hi]
    · exact ((hb.trans (hW'.mono hb.size)).cell (p := ⟨b, o + i, none⟩) h1).trans (h4 i hi)
end Go.Proofs.YtpeglcnenagkbaaDoor
