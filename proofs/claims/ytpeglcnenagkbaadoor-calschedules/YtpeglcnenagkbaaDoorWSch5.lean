/-
  WALK: ownDates.
-/
import Derived.Test.YtpeglcnenagkbaaDoorWSch1
namespace Go.Proofs.YtpeglcnenagkbaaDoor
open Go.RowKit
open Cal
set_option linter.unusedVariables false
set_option linter.unusedSimpArgs false

theorem infoDate : (Tryd.prog.info? 35).map (fun i => (i.zero, i.size, i.bytes)) = some (some (.agg #[.int .i64 0, .int .i64 0, .int .i64 0]), 3, 24) := by kernel_rfl
theorem make_dates (n : Nat) (hn : n ≤ 5864062014804) (W : World) : (Instr.makeSlice 38 (.int .i64 (n : Int)) (.int .i64 (n : Int))).run Tryd.prog W = .ok (.slice (some ⟨W.heap.size, 0, none⟩) n n) (W.alloc (.cells (madeCells #[.int .i64 0, .int .i64 0, .int .i64 0] (n * 3)) 35)) := by
  obtain ⟨i0, hi, hz0, hz1, hz2⟩ := info_parts infoDate
  have := run_make (P := Tryd.prog) W 38 35 i0 _ Tryd.underlying38 hi hz0 .i64 .i64 n n (by omega) (by omega) (by rw [hz2]; omega) (by omega)
  rw [hz1] at this
  simpa [Value.cells] using this
theorem made_date (n i : Nat) (h : i < n) : (madeCells #[.int .i64 0, .int .i64 0, .int .i64 0] n)[i]? = some (.int .i64 0) := by
  unfold madeCells
  simp only [Array.getElem?_map]
  rw [Array.getElem?_range, if_pos h]
  have h3 : i % 3 < 3 := Nat.mod_lt _ (by omega)
  rcases (show i % 3 = 0 ∨ i % 3 = 1 ∨ i % 3 = 2 by omega) with h | h | h <;> simp [h]
theorem Wi.dates (w : World) (n : Nat) : Wi (w.alloc (.cells (madeCells #[.int .i64 0, .int .i64 0, .int .i64 0] n) 35)) w.heap.size (List.replicate n 0) := by
  refine ⟨by simp, fun i hi => ⟨?_, by go_simp⟩⟩
  rw [List.length_replicate] at hi
  rw [World.cell?_alloc_at _ _ _ _ rfl, made_date n i hi]
  simp [List.getD, hi]
theorem eql_nilD (a : Option Addr) (n c : Nat) (W : World) : (binOp .eql 38 (.slice a n c) (.slice none 0 0)).run Tryd.prog W = .ok (.bool a.isNone) W :=
  Lib.run_eql_slice_nil W 38 35 a n c 0 0 (by kernel_rfl)
/-- Holidays as they are handed in. -/
def HoD (w : World) (a : Option Addr) (n cap : Nat) (ds : List Dt) : Prop :=
  (a = none ∧ n = 0 ∧ cap = 0 ∧ ds = []) ∨ (∃ x, a = some x ∧ n = 0 ∧ ds = []) ∨
  (∃ b o, a = some ⟨b, o, none⟩ ∧ b < w.heap.size ∧ ds.length = n ∧ n ≤ 5864062014800 ∧ ∀ i, i < n → DC w b (o + i * 3) (ds.getD i (0, 0, 0)))
theorem HoD.dl {w : World} {a n cap ds} (h : HoD w a n cap ds) : DL w a n ds := by
  rcases h with ⟨rfl, rfl, rfl, rfl⟩ | ⟨x, rfl, rfl, rfl⟩ | ⟨b, o, rfl, h1, h2, h3, h4⟩
  · exact ⟨rfl, by omega, .inl rfl⟩
  · exact ⟨rfl, by omega, .inl rfl⟩
  · exact ⟨h2, h3, .inr ⟨b, o, rfl, h1, h4⟩⟩
theorem HoD.later {w w' : World} {a n cap ds} (h : HoD w a n cap ds) (B : Below w.heap.size w w') : HoD w' a n cap ds := by
  rcases h with h | h | ⟨b, o, rfl, h1, h2, h3, h4⟩
  · exact .inl h
  · exact .inr (.inl h)
  · exact .inr (.inr ⟨b, o, rfl, Nat.lt_of_lt_of_le h1 B.size, h2, h3, fun i hi => (h4 i hi).later B h1⟩)
/-- The copy's row, flat. -/
def OwnDs (xs : List Int) (n : Nat) (ds : List Dt) : Prop := xs.length = (n + 2) * 3 ∧ ∀ i, i < n → xs.getD (i * 3) 0 = (ds.getD i (0, 0, 0)).1 ∧ xs.getD (i * 3 + 1) 0 = (ds.getD i (0, 0, 0)).2.1 ∧ xs.getD (i * 3 + 2) 0 = (ds.getD i (0, 0, 0)).2.2
def Mks (xs : List Int) (n : Nat) : Prop := xs.getD (n * 3) 0 = -7 ∧ xs.getD (n * 3 + 1) 0 = 0 ∧ xs.getD (n * 3 + 2) 0 = 0 ∧ xs.getD ((n + 1) * 3) 0 = -8 ∧ xs.getD ((n + 1) * 3 + 1) 0 = 0 ∧ xs.getD ((n + 1) * 3 + 2) 0 = 0
def set3 (xs : List Int) (i : Nat) (f : Dt) : List Int := ((xs.set (i * 3) f.1).set (i * 3 + 1) f.2.1).set (i * 3 + 2) f.2.2
theorem set3_len (xs : List Int) (i : Nat) (f : Dt) : (set3 xs i f).length = xs.length := by simp [set3]
theorem set3_same {xs : List Int} {i : Nat} {f : Dt} (h : i * 3 + 2 < xs.length) : (set3 xs i f).getD (i * 3) 0 = f.1 ∧ (set3 xs i f).getD (i * 3 + 1) 0 = f.2.1 ∧ (set3 xs i f).getD (i * 3 + 2) 0 = f.2.2 := by
  unfold set3
  refine ⟨?_, ?_, ?_⟩ <;> (simp only [getD_set' _ _ _ _ (show i * 3 + 2 < ((xs.set (i * 3) f.1).set (i * 3 + 1) f.2.1).length by simp; omega), getD_set' _ _ _ _ (show i * 3 + 1 < (xs.set (i * 3) f.1).length by simp; omega), getD_set' _ _ _ _ (show i * 3 < xs.length by omega)])
  · rw [if_neg (by omega), if_neg (by omega), if_true]
  · rw [if_neg (by omega), if_true]
  · rw [if_true]
theorem set3_other {xs : List Int} {i j : Nat} {f : Dt} (h : i * 3 + 2 < xs.length) (hj : j < i * 3 ∨ i * 3 + 2 < j) : (set3 xs i f).getD j 0 = xs.getD j 0 := by
  unfold set3
  rw [getD_set' _ _ _ _ (by simp; omega), if_neg (by omega), getD_set' _ _ _ _ (by simp; omega), if_neg (by omega), getD_set' _ _ _ _ (by omega), if_neg (by omega)]
theorem Wi.set3 {w : World} {g : Nat} {xs : List Int} (h : Wi w g xs) (i : Nat) (f : Dt) (hi : i * 3 + 2 < xs.length) : Wi (((w.setCell ⟨g, i * 3, none⟩ (.int .i64 f.1)).setCell ⟨g, i * 3 + 1, none⟩ (.int .i64 f.2.1)).setCell ⟨g, i * 3 + 2, none⟩ (.int .i64 f.2.2)) g (set3 xs i f) :=
  ((h.set (i * 3) f.1 (by omega)).set (i * 3 + 1) f.2.1 (by simp; omega)).set (i * 3 + 2) f.2.2 (by simp; omega)
/-- What ownDates hands out. -/
def ODE (w : World) (n : Nat) (ds : List Dt) (e : Ending) (w' : World) : Prop :=
  (n = 0 ∧ e = .returned (.slice none 0 0) ∧ w' = w) ∨ (e = .returned (.slice (some ⟨w.heap.size, 0, none⟩) n (n + 2)) ∧ ∃ xs, Wi w' w.heap.size xs ∧ OwnDs xs n ds ∧ Mks xs n)
theorem ownDates_nil (w : World) : Calls Tryd.prog 15 #[.slice none 0 0] w fun e w' => e = .returned (.slice none 0 0) ∧ w' = w := by
  have en := eql_nilD none 0 0
  go_enter Tryd.func15, Tryd.ntmps15
  go_wp2
  go_ret
  exact ⟨rfl, rfl⟩
set_option maxHeartbeats 2000000 in
theorem ownDates_some (x : Addr) (n cap : Nat) (ds : List Dt) (w : World) (hn : n ≤ 5864062014800) (h : n = 0 ∨ ∃ b o, x = ⟨b, o, none⟩ ∧ b < w.heap.size ∧ ∀ i, i < n → DC w b (o + i * 3) (ds.getD i (0, 0, 0))) :
    Calls Tryd.prog 15 #[.slice (some x) n cap] w fun e w' => (e = .returned (.slice (some ⟨w.heap.size, 0, none⟩) n (n + 2)) ∧ RowKit.Hid (∃ xs, Wi w' w.heap.size xs ∧ OwnDs xs n ds ∧ Mks xs n)) ∧ Below w.heap.size w w' := by
  have mk := make_dates (n + 2) (by omega)
  simp only [Int.natCast_add, Int.cast_ofNat_Int] at mk
  have en := eql_nilD (some x) n cap
  have WM := Lib.hid (Wi.dates w ((n + 2) * 3))
  have BM := Lib.hid ((Below.refl w.heap.size w).alloc (Nat.le_refl _) (.cells (madeCells #[.int .i64 0, .int .i64 0, .int .i64 0] ((n + 2) * 3)) 35))
  have HC := Lib.hid h
  clear h
  go_enter Tryd.func15, Tryd.ntmps15
  go_wp2
  clear mk
  go_loopw [4] (fun i wr => ∃ (k : Nat) (xs : List Int), k ≤ n ∧ i = .int .i64 (k : Int) ∧ xs.length = (n + 2) * 3 ∧ RowKit.Hid (Wi wr w.heap.size xs ∧ ∀ i, i < k → xs.getD (i * 3) 0 = (ds.getD i (0, 0, 0)).1 ∧ xs.getD (i * 3 + 1) 0 = (ds.getD i (0, 0, 0)).2.1 ∧ xs.getD (i * 3 + 2) 0 = (ds.getD i (0, 0, 0)).2.2) ∧ Below w.heap.size w wr) (fun i _ => n - (intOf i).toNat)
  case atStart => exact ⟨0, List.replicate ((n + 2) * 3) 0, by omega, rfl, by simp, ⟨WM.out, fun i hi => absurd hi (by omega)⟩, BM.out⟩
  case round =>
    obtain ⟨k, xs, hk, rfl, hx, hW, hB⟩ := hrel
    rename World => wr
    have BB := Lib.hid hB
    have p1 := hW.out.1.2 (k * 3) (by omega)
    have p2 := hW.out.1.2 (k * 3 + 1) (by omega)
    have p3 := hW.out.1.2 (k * 3 + 2) (by omega)
    obtain ⟨d1, e1⟩ := p1
    obtain ⟨d2, e2⟩ := p2
    obtain ⟨d3, e3⟩ := p3
    generalize xs.getD (k * 3) 0 = o1 at d1
    generalize xs.getD (k * 3 + 1) 0 = o2 at d2
    generalize xs.getD (k * 3 + 2) 0 = o3 at d3
    by_cases hlt : k < n
    · obtain ⟨b, o, rfl, hb, hc⟩ : ∃ b o, x = ⟨b, o, none⟩ ∧ b < w.heap.size ∧ ∀ i, i < n → DC w b (o + i * 3) (ds.getD i (0, 0, 0)) := by
        rcases HC.out with q | q
        · omega
        · exact q
      obtain ⟨c0, c1, c2⟩ := (hc k hlt).later hB hb
      obtain ⟨f, hf⟩ : ∃ f, ds.getD k (0, 0, 0) = f := ⟨_, rfl⟩
      rw [hf] at c0 c1 c2
      have W3 := Lib.hid (hW.out.1.set3 k f (by omega))
      have HF := Lib.hid hf
      have HE := Lib.hid hW.out.2
      obtain ⟨y, m, d⟩ := f
      simp only at c0 c1 c2
      have kc : (k : Int) < (n : Int) := by omega
      have kc2 : (k : Int) < (n : Int) + 2 := by omega
      have kwk : IntKind.i64.wrap ((k : Int) + 1) = (k : Int) + 1 := by simp [IntKind.wrap, IntKind.bits, IntKind.signed]; omega
      have ne : ¬ b = w.heap.size := by omega
      clear hc hf hW hB
      go_wp2
      go_roundw
      case rel => exact ⟨k + 1, set3 xs k (y, m, d), by omega, by first | rfl | simp, by rw [set3_len]; exact hx, ⟨W3.out, fun i hi => by
        by_cases e : i = k
        · subst e
          rw [HF.out]; exact set3_same (by omega)
        · have := HE.out i (by omega)
          rw [set3_other (by omega) (by omega), set3_other (by omega) (by omega), set3_other (by omega) (by omega)]; exact this⟩, ((BB.out.setCell (p := ⟨w.heap.size, k * 3, none⟩) (Nat.le_refl _) _).setCell (p := ⟨w.heap.size, k * 3 + 1, none⟩) (Nat.le_refl _) _).setCell (p := ⟨w.heap.size, k * 3 + 2, none⟩) (Nat.le_refl _) _⟩
      case measure => simp [intOf]; omega
    · obtain rfl : k = n := by omega
      have kc : ¬ (k : Int) < (k : Int) := by omega
      obtain ⟨d4, e4⟩ := hW.out.1.2 ((k + 1) * 3) (by omega)
      obtain ⟨d5, e5⟩ := hW.out.1.2 ((k + 1) * 3 + 1) (by omega)
      obtain ⟨d6, e6⟩ := hW.out.1.2 ((k + 1) * 3 + 2) (by omega)
      generalize xs.getD ((k + 1) * 3) 0 = o4 at d4
      generalize xs.getD ((k + 1) * 3 + 1) 0 = o5 at d5
      generalize xs.getD ((k + 1) * 3 + 2) 0 = o6 at d6
      have W3 := Lib.hid (((hW.out.1.set3 k (-7, 0, 0) (by omega)).set3 (k + 1) (-8, 0, 0) (by rw [set3_len]; omega)))
      have HE := Lib.hid hW.out.2
      have k1 : (k : Int) < (k : Int) + 2 := by omega
      have k2 : (k : Int) + 1 < (k : Int) + 2 := by omega
      have kwk : IntKind.i64.wrap ((k : Int) + 1) = (k : Int) + 1 := by simp [IntKind.wrap, IntKind.bits, IntKind.signed]; omega
      have m1 : ¬ k * 3 = (k + 1) * 3 := by omega
      have m2 : ¬ k * 3 + 1 = (k + 1) * 3 := by omega
      have m3 : ¬ k * 3 + 2 = (k + 1) * 3 := by omega
      have m4 : ¬ (k + 1) * 3 = k * 3 := by omega
      clear hB hW
      go_wp2
      go_ret
      have la : (set3 xs k (-7, 0, 0)).length = (k + 2) * 3 := by rw [set3_len]; exact hx
      have fa : ∀ j, j < k * 3 → (set3 (set3 xs k (-7, 0, 0)) (k + 1) (-8, 0, 0)).getD j 0 = xs.getD j 0 := fun j hj => by
        rw [set3_other (by rw [la]; omega) (by omega), set3_other (by omega) (by omega)]
      have fb : ∀ j, k * 3 ≤ j → j < (k + 1) * 3 → (set3 (set3 xs k (-7, 0, 0)) (k + 1) (-8, 0, 0)).getD j 0 = (set3 xs k (-7, 0, 0)).getD j 0 := fun j hj hj2 => by
        rw [set3_other (by rw [la]; omega) (by omega)]
      refine ⟨⟨rfl, set3 (set3 xs k (-7, 0, 0)) (k + 1) (-8, 0, 0), W3.out, ⟨by rw [set3_len, set3_len]; exact hx, fun i hi => ?_⟩, ?_⟩, ?_⟩
      · have := HE.out i hi
        rw [fa _ (by omega), fa _ (by omega), fa _ (by omega)]; exact this
      · have q1 := set3_same (xs := xs) (i := k) (f := (-7, 0, 0)) (by omega)
        have q2 := set3_same (xs := set3 xs k (-7, 0, 0)) (i := k + 1) (f := (-8, 0, 0)) (by rw [set3_len]; omega)
        refine ⟨?_, ?_, ?_, q2⟩
        · rw [fb _ (by omega) (by omega)]; exact q1.1
        · rw [fb _ (by omega) (by omega)]; exact q1.2.1
        · rw [fb _ (by omega) (by omega)]; exact q1.2.2
      · exact (((((BB.out.setCell (by simp) _).setCell (by simp) _).setCell (by simp) _).setCell (by simp) _).setCell (by simp) _).setCell (by simp) _
theorem ownDates_any (a : Option Addr) (n cap : Nat) (ds : List Dt) (w : World) (h : HoD w a n cap ds) :
    Calls Tryd.prog 15 #[.slice a n cap] w fun e w' => ODE w n ds e w' ∧ Below w.heap.size w w' := by
  rcases h with ⟨rfl, rfl, rfl, rfl⟩ | ⟨x, rfl, rfl, rfl⟩ | ⟨b, o, rfl, h1, h2, h3, h4⟩
  · exact (ownDates_nil w).mono (by rintro e w' ⟨rfl, rfl⟩; exact ⟨.inl ⟨rfl, rfl, rfl⟩, Below.refl _ _⟩)
  · exact (ownDates_some x 0 cap [] w (by omega) (.inl rfl)).mono (by rintro e w' ⟨⟨rfl, q⟩, b⟩; exact ⟨.inr ⟨rfl, q.out⟩, b⟩)
  · exact (ownDates_some ⟨b, o, none⟩ n cap ds w h3 (.inr ⟨b, o, rfl, h1, h4⟩)).mono (by rintro e w' ⟨⟨rfl, q⟩, b⟩; exact ⟨.inr ⟨rfl, q.out⟩, b⟩)
theorem own_dl {w : World} {g n : Nat} {xs : List Int} {ds : List Dt} (h : Wi w g xs) (k : OwnDs xs n ds) (hl : ds.length = n) (hn : n ≤ 5864062014800) : DL w (some ⟨g, 0, none⟩) n ds := by
  refine ⟨hl, hn, .inr ⟨g, 0, rfl, h.1, fun i hi => ?_⟩⟩
  obtain ⟨q1, q2, q3⟩ := k.2 i hi
  have l := k.1
  refine ⟨?_, ?_, ?_⟩
  · rw [Nat.zero_add, (h.2 (i * 3) (by omega)).1, q1]
  · rw [Nat.zero_add, (h.2 (i * 3 + 1) (by omega)).1, q2]
  · rw [Nat.zero_add, (h.2 (i * 3 + 2) (by omega)).1, q3]
end Go.Proofs.YtpeglcnenagkbaaDoor
