/-
  WALK: the document's answer (payoffref01): Sum.
-/
import Derived.Test.YtookmgjnacbdkabWRefAdd
import Derived.Test.YtookmgjnacbdkabWSum
namespace Go.Proofs.Ytookmgjnacbdkab
open Go.RowKit
set_option linter.unusedVariables false

/-- The box of the sum so far. -/
structure SBox (w wr : World) (S : Int) (nz : Bool) (v : Value) : Prop where
  size : w.heap.size < wr.heap.size
  bel : Below w.heap.size w wr
  c0 : wr.cell? ⟨w.heap.size, 0, none⟩ = some (.bool nz)
  c1 : wr.cell? ⟨w.heap.size, 1, none⟩ = some v
  f0 : wr.frozen? ⟨w.heap.size, 0, none⟩ = false
  f1 : wr.frozen? ⟨w.heap.size, 1, none⟩ = false
  big : BigR wr (.agg #[.bool nz, v]) S
theorem SBox.later {w wa wb : World} {S : Int} {nz : Bool} {v : Value} (h : SBox w wa S nz v) (hb : Below wa.heap.size wa wb) : SBox w wb S nz v := by
  obtain ⟨s, bel, c0, c1, f0, f1, big⟩ := h
  have c : ∀ j, wb.cell? ⟨w.heap.size, j, none⟩ = wa.cell? ⟨w.heap.size, j, none⟩ := fun j => hb.cell (p := ⟨w.heap.size, j, none⟩) s
  have f : ∀ j, wb.frozen? ⟨w.heap.size, j, none⟩ = wa.frozen? ⟨w.heap.size, j, none⟩ := fun j => hb.frozen (p := ⟨w.heap.size, j, none⟩) s
  exact ⟨Nat.lt_of_lt_of_le s hb.size, bel.trans (hb.mono (Nat.le_of_lt s)), (c 0).trans c0, (c 1).trans c1, (f 0).trans f0, (f 1).trans f1, big.later hb⟩
theorem SBox.drew {w wa : World} {S : Int} {nz : Bool} {v : Value} (h : SBox w wa S nz v) : SBox w wa.drew S nz v :=
  ⟨h.size, h.bel.drew, h.c0, h.c1, h.f0, h.f1, h.big.later (Below.refl _ _).drew⟩
theorem SBox.store {w wr : World} {S S' : Int} {nz nz' : Bool} {v : Value} {ao : Option Addr} {c : Nat} {ds : List Int} (h : SBox w wr S nz v) (hd : Dg wr (.slice ao ds.length c) ds) (hf : Fresh (w.heap.size + 1) (.slice ao ds.length c)) (hn : Norm ds) (hv : dval ds = absI S') (hs : decide (S' < 0) = nz') :
    SBox w ((wr.setCell ⟨w.heap.size, 0, none⟩ (.bool nz')).setCell ⟨w.heap.size, 1, none⟩ (.slice ao ds.length c)) S' nz' (.slice ao ds.length c) := by
  obtain ⟨s, bel, c0, c1, f0, f1, big⟩ := h
  have k0 : (wr.setCell ⟨w.heap.size, 0, none⟩ (.bool nz')).cell? ⟨w.heap.size, 0, none⟩ = some (.bool nz') := World.cell?_setCell_same _ _ _ c0
  have k1 : (wr.setCell ⟨w.heap.size, 0, none⟩ (.bool nz')).cell? ⟨w.heap.size, 1, none⟩ = some v := by rw [World.cell?_setCell_other _ _ _ _ (by simp)]; exact c1
  refine ⟨by simpa using s, (bel.setCell (Nat.le_refl _) _).setCell (Nat.le_refl _) _, ?_, World.cell?_setCell_same _ _ _ k1, by simpa using f0, by simpa using f1, _, by rw [hs], ds, (hd.set hf (by omega) _).set hf (by omega) _, hn, hv⟩
  rw [World.cell?_setCell_other _ _ _ _ (by simp)]; exact k0
theorem fits_of {t f : Int} (h : fitF t = f) (h0 : f = 0) : inR t := by
  unfold fitF at h
  unfold inR
  split at h
  · assumption
  · omega
theorem fit_same {t v : Int} (h : fitV t = v) (hi : inR t) : t = v := by rw [← h, fitV_in hi]
theorem SBox.out {w wr : World} {S : Int} {nz : Bool} {v : Value} (h : SBox w wr S nz v) :
    Calls Try.prog 28 #[.agg #[.bool nz, v]] wr fun e w' => e = .returned (.tuple #[.int .i64 (fitV S), .int .i64 (fitF S)]) ∧ Below wr.heap.size wr w' := out_any _ _ wr h.big

theorem refSum_zero (a : Option Addr) (cap : Nat) (w : World) :
    Calls Try.prog 9 #[.slice a 0 cap] w fun e w' => e = .returned (.tuple #[.int .i64 0, .int .i64 0]) ∧ Below w.heap.size w w' := by
  have B0 : SBox w (w.alloc (.cells #[.bool false, .slice none 0 0] 37)) 0 false (.slice none 0 0) :=
    ⟨by simp, (Below.refl _ _).alloc (Nat.le_refl _) _, by simp, by simp, by simp [go_sem], by simp [go_sem], _, rfl, [], ⟨digs_nil, by simp, none, 0, rfl, by simp, ⟨by unfold maxLen; omega, fun _ => rfl⟩, Or.inl rfl⟩, Or.inl rfl, rfl⟩
  have B0' := veil B0
  clear B0
  go_enter Try.func9, Try.ntmps9
  go_wp2_with fail
  go_loop [5] (fun i => i = .int .i64 0) (fun _ => 0)
  case atStart => rfl
  case round =>
    obtain rfl := hrel
    go_wp2_with fail
    refine ((unveil B0').out).mono ?_
    rintro e w2 ⟨rfl, hb2⟩
    have B2 := (unveil B0').later hb2
    go_wp2_with fail
    go_ret2
    exact ⟨rfl, B2.bel⟩

set_option maxHeartbeats 1600000 in
theorem refSum_any (b off len cap : Nat) (zs : List Int) (w : World) (hl : len ≤ maxLen) (hbl : b < w.heap.size)
    (hc : ∀ i, i < len → w.cell? ⟨b, off + i, none⟩ = some (.int .i64 (zs.getD i 0))) (hz : ∀ i, inR (zs.getD i 0)) :
    Calls Try.prog 9 #[.slice (some ⟨b, off, none⟩) len cap] w fun e w' => e = .returned (.tuple #[.int .i64 (sumV zs len), .int .i64 (sumF zs len)]) ∧ Below w.heap.size w w' := by
  have B0 : SBox w (w.alloc (.cells #[.bool false, .slice none 0 0] 37)) (sumV zs 0) false (.slice none 0 0) :=
    ⟨by simp, (Below.refl _ _).alloc (Nat.le_refl _) _, by simp, by simp, by simp [go_sem], by simp [go_sem], _, rfl, [], ⟨digs_nil, by simp, none, 0, rfl, by simp, ⟨by unfold maxLen; omega, fun _ => rfl⟩, Or.inl rfl⟩, Or.inl rfl, rfl⟩
  have B0' := veil B0
  have HC := veil hc
  have HZ := veil hz
  unfold maxLen at hl
  clear B0 hc hz
  go_enter Try.func9, Try.ntmps9
  go_wp2_with fail
  go_loopw [5] (fun i wr => ∃ k : Nat, k ≤ len ∧ i = .int .i64 k ∧ sumF zs k = 0 ∧ ∃ nz ao n c, SBox w wr (sumV zs k) nz (.slice ao n c)) (fun i _ => len - (intOf i).toNat)
  case atStart => exact ⟨0, by omega, rfl, rfl, false, none, 0, 0, unveil B0'⟩
  case round =>
    obtain ⟨k, hk, rfl, hf, nz, ao, n, c, hB0⟩ := hrel
    have hB := veil hB0
    have c0 := hB0.c0
    have c1 := hB0.c1
    have sz := hB0.size
    have HF := veil hf
    have hin := veil (sumV_in zs k)
    by_cases hlt : k < len
    · have lcell : wr.cell? ⟨b, off + k, none⟩ = some (.int .i64 (zs.getD k 0)) := (hB0.bel.cell (p := ⟨b, off + k, none⟩) hbl).trans (unveil HC k hlt)
      have hzk := veil (unveil HZ k)
      have SV := veil (sumV_succ hf)
      have SF := veil (sumF_succ hf)
      clear hf hB0
      generalize zs.getD k 0 = x at *
      have FX := veil (from_any x (unveil hzk) wr.drew)
      have BD := veil (unveil hB).drew
      go_wp2_with fail
      go_region_with (first | (go_at_call 27; refine (unveil FX).mono ?_; rintro e w3 ⟨x3, rfl, hb3, hx3⟩; have B3 := (unveil BD).later hb3; have d0 := B3.c0; have d1 := B3.c1; have B3' := veil B3; have X3 := veil hx3; clear hb3 hx3 B3) | (go_at_call 26; refine (plusB_any _ _ (sumV zs k) x w3 (unveil B3').big (unveil X3) (ten100 _ (unveil hin)) (ten100 _ (unveil hzk))).mono ?_; rintro e w4 ⟨x4, rfl, hb4, ⟨o4, rfl, ds4, g4, n4, v4⟩, hfr⟩; have F4 := veil ((hfr _ _ rfl).mono (show w.heap.size + 1 ≤ w3.heap.size from (unveil B3').size)); have B4 := (unveil B3').later hb4; obtain ⟨_, _, ao4, c4, rfl, _⟩ := id g4; generalize hz4 : decide (sumV zs k + x < 0) = nz4 at *; have Z4 := veil hz4; have e0 := B4.c0; have e1 := B4.c1; have e2 := B4.f0; have e3 := B4.f1; have B4' := veil B4; have G4 := veil g4; have N4 := veil n4; have V4 := veil v4; clear hz4 hb4 g4 n4 v4 B4 hfr))
      all_goals go_wp2_with fail
      all_goals
        have B5 := veil (show SBox w ((w4.setCell ⟨w.heap.size, 0, none⟩ (.bool nz4)).setCell ⟨w.heap.size, 1, none⟩ (.slice ao4 ds4.length c4)) (sumV zs k + x) nz4 (.slice ao4 ds4.length c4) from
          (unveil B4').store (unveil G4) (unveil F4) (unveil N4) (unveil V4) (unveil Z4))
        refine ((unveil B5).out).mono ?_
        rintro e w6 ⟨rfl, hb6⟩
        have B6 := veil ((unveil B5).later hb6)
        clear hb6
        rw [unveil SV, unveil SF]
      all_goals
        rcases sums_one zs (k + 1) with h1 | ⟨h1, h2⟩
        · have t1 : (sumF zs (k + 1) != 0) = false := by simp [h1]
          have H1 := veil h1
          have IN := veil (fits_of (unveil SF) h1)
          clear h1
          go_wp2_with fail
          go_roundw
          case rel => exact ⟨k + 1, by omega, by go_num, unveil H1, nz4, ao4, _, c4, by have := unveil B6; rw [fit_same (unveil SV) (unveil IN)] at this; exact this⟩
          case measure => simp [intOf]; omega
        · have t1 : (sumF zs (k + 1) != 0) = true := by simp [h1]
          have hst := sums_stay (zs := zs) (k := k + 1) (m := len) (by omega) (by omega)
          have hfin := veil (show sumF zs (k + 1) = sumF zs len ∧ 0 = sumV zs len by omega)
          clear h1 h2 hst
          go_wp2_with fail
          go_ret2
          exact ⟨ret_ii (unveil hfin).2 (unveil hfin).1, (unveil B6).bel⟩
    · have hkl : k = len := by omega
      subst hkl
      have IN := veil (fitV_in (sumV_in zs k))
      have IF := veil (fitF_in (sumV_in zs k))
      clear hf hB0
      go_wp2_with fail
      refine ((unveil hB).out).mono ?_
      rintro e w6 ⟨rfl, hb6⟩
      have B6 := veil ((unveil hB).later hb6)
      clear hb6
      go_wp2_with fail
      go_ret2
      exact ⟨ret_ii (unveil IN) ((unveil IF).trans (unveil HF).symm), (unveil B6).bel⟩

end Go.Proofs.Ytookmgjnacbdkab
