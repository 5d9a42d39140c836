/-
  WALK: own: a list in new memory, with two numbers behind its end.
-/
import Derived.Test.YtpeglcnenagkbaaDoorWCont
import Derived.Laws.MakeOwn
namespace Go.Proofs.YtpeglcnenagkbaaDoor
open Go.RowKit
set_option linter.unusedVariables false
set_option linter.unusedSimpArgs false

theorem infoInt : (Tryd.prog.info? 3).map (fun i => (i.zero, i.size, i.bytes)) = some (some (.int .i64 0), 1, 8) := by kernel_rfl
theorem make_ints (n : Nat) (hn : n ≤ 30000000000000) (W : World) : (Instr.makeSlice 22 (.int .i64 (n : Int)) (.int .i64 (n : Int))).run Tryd.prog W = .ok (.slice (some ⟨W.heap.size, 0, none⟩) n n) (W.alloc (.cells (madeCells #[.int .i64 0] n) 3)) := by
  have hi := infoInt
  cases h : Tryd.prog.info? 3 with
  | none => rw [h] at hi; cases hi
  | some i =>
    rw [h] at hi
    simp only [Option.map_some, Option.some.injEq, Prod.mk.injEq] at hi
    obtain ⟨z, s, b⟩ := hi
    have := run_make (P := Tryd.prog) W 22 3 i (.int .i64 0) (by kernel_rfl) h z .i64 .i64 n n (by omega) (by omega) (by rw [b]; omega) (by omega)
    rw [s] at this
    simpa [Value.cells] using this
theorem made0 (n i : Nat) (h : i < n) : (madeCells #[.int .i64 0] n)[i]? = some (.int .i64 0) := by
  unfold madeCells; simp [h, Nat.mod_one]

/-- A row of ints in block g. -/
def Wi (w : World) (g : Nat) (xs : List Int) : Prop := g < w.heap.size ∧ ∀ i, i < xs.length → w.cell? ⟨g, i, none⟩ = some (.int .i64 (xs.getD i 0)) ∧ w.frozen? ⟨g, i, none⟩ = false
theorem Wi.set {w : World} {g : Nat} {xs : List Int} (h : Wi w g xs) (j : Nat) (u : Int) (hj : j < xs.length) : Wi (w.setCell ⟨g, j, none⟩ (.int .i64 u)) g (xs.set j u) := by
  refine ⟨by simpa using h.1, fun i hi => ?_⟩
  rw [List.length_set] at hi
  refine ⟨?_, by simpa using (h.2 i hi).2⟩
  by_cases e : i = j
  · subst e
    rw [World.cell?_setCell_same _ _ _ (h.2 i hi).1]
    simp [List.getD, hj]
  · rw [World.cell?_setCell_other _ _ _ _ (by first | (simp; done) | (simp; omega)), (h.2 i hi).1]
    simp only [List.getD, List.getElem?_set]
    rw [if_neg (by omega)]
theorem Wi.made (w : World) (n : Nat) : Wi (w.alloc (.cells (madeCells #[.int .i64 0] n) 3)) w.heap.size (List.replicate n 0) := by
  refine ⟨by simp, fun i hi => ⟨?_, by go_simp⟩⟩
  rw [List.length_replicate] at hi
  rw [World.cell?_alloc_at _ _ _ _ rfl, made0 n i hi]
  simp [List.getD, hi]
theorem getD_set' (xs : List Int) (i j : Nat) (d : Int) (hj : j < xs.length) : (xs.set j d).getD i 0 = if j = i then d else xs.getD i 0 := by
  simp only [List.getD, List.getElem?_set]
  split
  · rename_i e; subst e; simp [hj]
  · rfl

theorem eql_nil (a : Option Addr) (n c : Nat) (W : World) : (binOp .eql 22 (.slice a n c) (.slice none 0 0)).run Tryd.prog W = .ok (.bool a.isNone) W :=
  Lib.run_eql_slice_nil W 22 3 a n c 0 0 (by kernel_rfl)
theorem own_nil (w : World) : Calls Tryd.prog 8 #[.slice none 0 0] w fun e w' => e = .returned (.slice none 0 0) ∧ w' = w := by
  have en := eql_nil none 0 0
  go_enter Tryd.func8, Tryd.ntmps8
  go_wp2
  go_ret
  exact ⟨rfl, rfl⟩

set_option maxHeartbeats 1000000 in
theorem own_some (b o c cap : Nat) (zs : List Int) (w : World) (hl : zs.length = c) (hc : c ≤ 20000000000000) (hb : b < w.heap.size) (hcell : ∀ i, i < c → w.cell? ⟨b, o + i, none⟩ = some (.int .i64 (zs.getD i 0))) :
    Calls Tryd.prog 8 #[.slice (some ⟨b, o, none⟩) c cap] w fun e w' => e = .returned (.slice (some ⟨w.heap.size, 0, none⟩) c (c + 2)) ∧ Below w.heap.size w w' ∧ ∃ xs : List Int, Wi w' w.heap.size xs ∧ xs.length = c + 2 ∧ (∀ i, i < c → xs.getD i 0 = zs.getD i 0) ∧ xs.getD c 0 = -771 ∧ xs.getD (c + 1) 0 = -772 := by
  have mk := make_ints (c + 2) (by omega)
  simp only [Int.natCast_add, Int.cast_ofNat_Int] at mk
  have en := eql_nil (some ⟨b, o, none⟩) c cap
  have WM := Lib.hid (Wi.made w (c + 2))
  have HC := Lib.hid hcell
  clear hcell
  go_enter Tryd.func8, Tryd.ntmps8
  go_wp2
  clear mk
  go_loopw [4] (fun i wr => ∃ (k : Nat) (xs : List Int), k ≤ c ∧ i = .int .i64 k ∧ Below w.heap.size w wr ∧ Wi wr w.heap.size xs ∧ xs.length = c + 2 ∧ ∀ i, i < k → xs.getD i 0 = zs.getD i 0) (fun i _ => c - (intOf i).toNat)
  case atStart => exact ⟨0, _, by omega, rfl, (Below.refl _ _).alloc (Nat.le_refl _) _, WM.out, by simp, fun i hi => absurd hi (by omega)⟩
  case round =>
    obtain ⟨k, xs, hk, rfl, hB, hW, hx, hE⟩ := hrel
    have BB := Lib.hid hB
    have WW := Lib.hid hW
    have EE := Lib.hid hE
    by_cases hlt : k < c
    · have src : wr.cell? ⟨b, o + k, none⟩ = some (.int .i64 (zs.getD k 0)) := by rw [hB.cell (p := ⟨b, o + k, none⟩) hb]; exact HC.out k hlt
      have dst := (hW.2 k (by omega)).1
      have dfr := (hW.2 k (by omega)).2
      have ne : ¬ b = w.heap.size := by omega
      have kc : (k : Int) < (c : Int) := by omega
      generalize hz : zs.getD k 0 = z at *
      have HZ := Lib.hid hz
      generalize xs.getD k 0 = old at dst
      clear hB hW hE hz
      go_wp2
      go_roundw
      case rel => exact ⟨k + 1, xs.set k z, by omega, by go_num, BB.out.setCell (by simp) _, WW.out.set k z (by omega), by simpa using hx, fun i hi => by
        rw [getD_set' _ _ _ _ (by omega)]
        split
        · rename_i e; subst e; exact HZ.out.symm
        · exact EE.out i (by omega)⟩
      case measure => simp [intOf]; omega
    · obtain rfl : k = c := by omega
      have d1 := (hW.2 k (by omega)).1
      have e1 := (hW.2 k (by omega)).2
      have d2 := (hW.2 (k + 1) (by omega)).1
      have e2 := (hW.2 (k + 1) (by omega)).2
      generalize xs.getD k 0 = o1 at d1
      generalize xs.getD (k + 1) 0 = o2 at d2
      clear hB hW hE
      go_wp2
      go_ret
      exact ⟨rfl, (BB.out.setCell (by simp) _).setCell (by simp) _, (xs.set k (-771)).set (k + 1) (-772), (WW.out.set k _ (by omega)).set (k + 1) _ (by simp; omega), by simpa using hx, fun i hi => by
        rw [getD_set' _ _ _ _ (by simp; omega), if_neg (by omega), getD_set' _ _ _ _ (by omega), if_neg (by omega)]; exact EE.out i hi, by
        rw [getD_set' _ _ _ _ (by simp; omega), if_neg (by omega), getD_set' _ _ _ _ (by omega), if_pos rfl], by
        rw [getD_set' _ _ _ _ (by simp; omega), if_pos rfl]⟩
end Go.Proofs.YtpeglcnenagkbaaDoor
