/-
  WALKS: Text (the program's and the document's).
-/
import Derived.Test.YtadcgkfeeakpeaaDoorWText1
import Derived.Test.YtadcgkfeeakpeaaDoorWCal4
import Derived.Test.YtadcgkfeeakpeaaDoorShelf3
namespace Go.Proofs.YtadcgkfeeakpeaaDoor
open Go.RowKit
open Cal
set_option linter.unusedVariables false
set_option linter.unusedSimpArgs false

/-- The table of the powers of ten. -/
def Pw (w : World) : Prop := Lib.TabIs Tryd.prog w "internal/strconv.uint64pow10" .u64 Lib.pow10Tab
theorem pw_below {w w' : World} (h : Pw w) (hb : Below w.heap.size w w') : Pw w' := by
  have hgn : Tryd.prog.globalNamed "internal/strconv.uint64pow10" = some 2 := by kernel_rfl
  unfold Pw Lib.TabIs World.var? at h ⊢
  rw [hgn] at h ⊢
  simp only [Option.bind_some] at h ⊢
  have hlt : 2 < w.heap.size := by
    rcases Nat.lt_or_ge 2 w.heap.size with h' | h'
    · exact h'
    · rw [Array.getElem?_eq_none h'] at h; cases h
  rw [hb.block _ hlt]
  exact h
theorem itoaY_any (y : Int) (w : World) (h0 : 1900 ≤ y) (h1 : y ≤ 2199) (hp : Pw w) :
    Calls Tryd.prog 42 #[.int .i64 y] w fun e w' => e = .returned (.string ⟨(lastD 4 y).toArray⟩) ∧ Below w.heap.size w w' := by
  refine (Tryd.strconv_Itoa y (by omega) (by omega) w hp).mono ?_
  rintro e w' ⟨rfl, k, os, rfl⟩
  exact ⟨by rw [itoa_year y h0 h1], Lib.below_grow _ w (Nat.le_refl _) k os⟩

/-- A date's ten bytes. -/
def textL (y m d : Int) : List UInt8 := lastD 4 y ++ [45] ++ lastD 2 m ++ [45] ++ lastD 2 d
def txtV (y m d : Int) : List UInt8 := if exB y m d = true then textL y m d else []

set_option maxHeartbeats 1000000 in
set_option maxRecDepth 100000 in
theorem text_yes (y m d : Int) (w : World) (hM : Mon w) (hp : Pw w) (h : exB y m d = true) :
    Calls Tryd.prog 22 #[.agg #[.int .i64 y, .int .i64 m, .int .i64 d]] w fun e w' => e = .returned (.tuple #[.string ⟨(textL y m d).toArray⟩, .int .i64 0]) ∧ Below w.heap.size w w' := by
  obtain ⟨h1, h2, h3, h4, h5, h6⟩ := ex_out h
  have l := (len_bd y m).2
  have h7 : d ≤ 31 := by omega
  clear h6 l
  have A1 := lastD_len 4 y
  have B1 := lastD_len 2 m
  have C1 := lastD_len 2 d
  have I := Lib.hid (fun w hp => itoaY_any y w h1 h2 hp)
  have T1 := Lib.hid (fun w => twoDigits_any m w (by omega) (by omega))
  have T2 := Lib.hid (fun w => twoDigits_any d w (by omega) (by omega))
  have r1 := catT (lastD 4 y) [45] (by simp; omega)
  have r2 := catT (lastD 4 y ++ [45]) (lastD 2 m) (by simp; omega)
  have r3 := catT (lastD 4 y ++ [45] ++ lastD 2 m) [45] (by simp; omega)
  have r4 := catT (lastD 4 y ++ [45] ++ lastD 2 m ++ [45]) (lastD 2 d) (by simp; omega)
  unfold textL
  generalize lastD 4 y ++ [45] ++ lastD 2 m ++ [45] ++ lastD 2 d = l5 at *
  generalize lastD 4 y ++ [45] ++ lastD 2 m ++ [45] = l4 at *
  generalize lastD 4 y ++ [45] ++ lastD 2 m = l3 at *
  generalize lastD 4 y ++ [45] = l2 at *
  generalize lastD 4 y = la at *
  generalize lastD 2 m = lb at *
  generalize lastD 2 d = lc at *
  have PH := Lib.hid (pw_below hp ((Below.refl _ _).alloc (Nat.le_refl _) (.cells #[.int .i64 y, .int .i64 m, .int .i64 d] 30)))
  go_enter Tryd.func22, Tryd.ntmps22
  go_wp2_with (go_at_call 41; refine (exists_any _ _ _ _ (mon_alloc hM)).mono ?_; rintro e w1 ⟨rfl, b1⟩; rw [h]; obtain ⟨k0, k1, k2⟩ := boxOne b1)
  have P1 := Lib.hid (pw_below (pw_below PH.out b1) ((Below.refl _ _).drew))
  go_region_held3 (fun w' => w'.cell? ⟨w.heap.size, 0, none⟩ = some (.int .i64 y) ∧ w'.cell? ⟨w.heap.size, 1, none⟩ = some (.int .i64 m) ∧ w'.cell? ⟨w.heap.size, 2, none⟩ = some (.int .i64 d))
    (refine ⟨?_, ?_, ?_⟩ <;> first | assumption | (simp [*]; done))
    (first
    | (go_at_call 42; refine (I.out _ P1.out).mono ?_; rintro e w2 ⟨rfl, h2⟩; have b2 := b1.drew.trans (h2.mono b1.drew.size); obtain ⟨k0, k1, k2⟩ := boxOne b2)
    | (go_at_call 43; (first
      | (have qq := b3; refine (T2.out _).mono ?_; rintro e w4 ⟨rfl, h4⟩; have b4 := b3.trans (h4.mono b3.size); obtain ⟨k0, k1, k2⟩ := boxOne b4)
      | (have qq := b2; refine (T1.out _).mono ?_; rintro e w3 ⟨rfl, h3⟩; have b3 := b2.trans (h3.mono b2.size); obtain ⟨k0, k1, k2⟩ := boxOne b3))))
  all_goals
    go_wp2
    go_ret2
    exact ⟨rfl, ((Below.refl _ _).alloc (Nat.le_refl _) _).trans (b4.mono (by simp))⟩

theorem text_no (y m d : Int) (w : World) (hM : Mon w) (h : exB y m d = false) :
    Calls Tryd.prog 22 #[.agg #[.int .i64 y, .int .i64 m, .int .i64 d]] w fun e w' => e = .returned (.tuple #[.string ⟨#[]⟩, .int .i64 21]) ∧ Below w.heap.size w w' := by
  go_enter Tryd.func22, Tryd.ntmps22
  go_wp2_with (go_at_call 41; refine (exists_any _ _ _ _ (mon_alloc hM)).mono ?_; rintro e w1 ⟨rfl, b1⟩; rw [h])
  go_ret2
  exact ⟨rfl, ((Below.refl _ _).alloc (Nat.le_refl _) _).trans (b1.mono (by simp))⟩
end Go.Proofs.YtadcgkfeeakpeaaDoor
