/-
  WALK: the document's blanks.
-/
import Derived.Test.YtlihkmhhfnkkoaaDoorWRefLex2
namespace Go.Proofs.YtlihkmhhfnkkoaaDoor
open Go.RowKit Lx
set_option linter.unusedVariables false
set_option linter.unusedSimpArgs false

/-- From a place on to a later one there are blanks and comments alone. -/
def Bl (l : L) (a b : Nat) : Prop := ∀ ts p e, Sc (l.drop b) b ts p e → Sc (l.drop a) a ts p e
theorem Bl.refl (l : L) (a : Nat) : Bl l a a := fun _ _ _ h => h
theorem Bl.trans {l : L} {a b c : Nat} (h : Bl l a b) (k : Bl l b c) : Bl l a c := fun ts p e q => h ts p e (k ts p e q)
theorem Bl.skip {l : L} {a n : Nat} (ha : a < l.length) (h : Lx.step (l.drop a) = .skip n) : Bl l a (a + n) := fun ts p e q =>
  .skip (by intro e; have := congrArg List.length e; simp at this; omega) h (by rw [List.drop_drop]; exact q)
theorem head_drop {s : ByteArray} {k : Nat} (hk : k < s.size) : (((lst s).drop k).headD 0).toNat = s[k].toNat := by
  have hl : k < (lst s).length := by rw [lst_len]; exact hk
  rw [← nth_lst hk, List.drop_eq_getElem_cons hl]
  simp [nthN, List.getD, hl]
theorem bl_one {s : ByteArray} {k : Nat} (hk : k < s.size) (h : blN (s[k].toNat) = true) : Bl (lst s) k (k + 1) :=
  Bl.skip (by rw [lst_len]; exact hk) (by unfold Lx.step; rw [head_drop hk, if_pos h])
theorem bl_com {s : ByteArray} {k j : Nat} (hk : k < s.size) (h : s[k].toNat = 35) (hj : k ≤ j) (hl : j ≤ s.size) (h10 : ∀ i, k ≤ i → i < j → nthN (lst s) i ≠ 10) (he : j < s.size → nthN (lst s) j = 10) : Bl (lst s) k j := by
  have e : ∀ i, nthN ((lst s).drop k) i = nthN (lst s) (k + i) := fun i => by simp [nthN, List.getD]
  have hc : com ((lst s).drop k) = j - k := by
    unfold com
    rw [takeW_at (fun c => !decide (c.toNat = 10)) ((lst s).drop k) (j - k) (fun i hi => by
      have := h10 (k + i) (by omega) (by omega)
      rw [← e] at this
      simpa [nthN] using this) (by rw [List.length_drop, lst_len]; omega) (fun hx => by
      rw [List.length_drop, lst_len] at hx
      have := he (by omega)
      rw [show j = k + (j - k) by omega, ← e] at this
      simpa [nthN] using this), List.length_take, List.length_drop, lst_len]
    omega
  have hs : Lx.step ((lst s).drop k) = .skip (j - k) := by
    unfold Lx.step
    rw [head_drop hk, if_neg (by rw [h]; decide), if_pos h, hc]
  have := Bl.skip (by rw [lst_len]; exact hk) hs
  rwa [show k + (j - k) = j by omega] at this
/-- Where blanks ends. -/
def BlEnd (s : ByteArray) (a b : Nat) : Prop := a ≤ b ∧ b ≤ s.size ∧ Bl (lst s) a b ∧ ∀ h : b < s.size, blN (s[b].toNat) = false ∧ s[b].toNat ≠ 35
def BlP (s : ByteArray) (a : Nat) (e : Ending) : Prop := ∃ b : Nat, e = .returned (.int .i64 (b : Int)) ∧ BlEnd s a b
set_option maxHeartbeats 2000000 in
theorem rblanks_any (s : ByteArray) (at_ : Nat) (w : World) (hs : s.size ≤ 65536) (ha : at_ ≤ s.size) :
    Calls Tryd.prog 19 #[.string s, .int .i64 (at_ : Int)] w fun e w' => BlP s at_ e ∧ w' = w := by
  go_enter Tryd.func19, Tryd.ntmps19
  go_wp2
  go_loop [1] (fun t => ∃ k : Nat, at_ ≤ k ∧ k ≤ s.size ∧ t = .int .i64 k ∧ RowKit.Hid (Bl (lst s) at_ k)) (fun t => s.size - intV t)
  case atStart => exact ⟨at_, by omega, ha, rfl, Bl.refl _ _⟩
  case round =>
    obtain ⟨k, h0, hk, rfl, hN⟩ := hrel
    by_cases hlt : k < s.size
    · have kc : (k : Int) < (s.size : Int) := by omega
      have kw : IntKind.i64.wrap ((k : Int) + 1) = (k : Int) + 1 := by simp [IntKind.wrap, IntKind.bits, IntKind.signed]; omega
      by_cases h35 : s[k].toNat = 35
      · have HC := Lib.hid (fun j => bl_com (s := s) (k := k) (j := j) hlt h35)
        have q35 : ((s[k].toNat : Int) == 35) = true := by rw [h35]; rfl
        have q35' : (s[k].toNat : Int) = 35 := by omega
        have n10 : nthN (lst s) k ≠ 10 := by rw [nth_lst hlt]; omega
        have NT := Lib.hid n10
        clear n10 h35
        go_wp2
        go_loop [1] (fun t => ∃ j : Nat, k ≤ j ∧ j ≤ s.size ∧ t = .int .i64 j ∧ RowKit.Hid (∀ i, k ≤ i → i < j → nthN (lst s) i ≠ 10)) (fun t => s.size - intV t)
        case atStart => exact ⟨k, by omega, by omega, rfl, fun i a b => absurd b (by omega)⟩
        case round =>
          obtain ⟨j, j0, j1, rfl, hJ⟩ := hrel
          by_cases hjl : j < s.size
          · have jc : (j : Int) < (s.size : Int) := by omega
            have E := nth_lst hjl
            by_cases h10 : s[j].toNat = 10
            · have kj : k < j := by
                rcases Nat.lt_or_ge k j with q | q
                · exact q
                · have : j = k := by omega
                  have := NT.out
                  rw [← ‹j = k›, E] at this
                  exact absurd h10 this
              have Y := Lib.hid (hN.out.trans (HC.out j (by omega) j1 hJ.out (fun _ => by rw [E]; exact h10)))
              have ME := Lib.hid (p := s.size - intV (.int .i64 (j : Int)) < s.size - intV (.int .i64 (k : Int))) (by simp only [intV]; omega)
              have q10 : ((s[j].toNat : Int) != 10) = false := by rw [h10]; rfl
              clear E h10 hJ hN
              go_wp2
              go_round
              case rel => exact ⟨j, by omega, by omega, rfl, Y.out⟩
              case measure => exact ME.out
            · have NX := Lib.hid (p := ∀ i, k ≤ i → i < j + 1 → nthN (lst s) i ≠ 10) (fun i a b => by
                rcases (show i < j ∨ i = j by omega) with q | q
                · exact hJ.out i a q
                · rw [q, E]; exact h10)
              have ME := Lib.hid (p := s.size - intV (.int .i64 ((j : Int) + 1)) < s.size - intV (.int .i64 (j : Int))) (by simp only [intV]; omega)
              have jw : IntKind.i64.wrap ((j : Int) + 1) = (j : Int) + 1 := by simp [IntKind.wrap, IntKind.bits, IntKind.signed]; omega
              have q10 : ((s[j].toNat : Int) != 10) = true := by rw [bne_iff_ne]; omega
              clear E h10 hJ
              go_wp2
              go_round
              case rel => exact ⟨j + 1, by omega, by omega, by simp, NX.out⟩
              case measure => exact ME.out
          · obtain rfl : j = s.size := by omega
            have Y := Lib.hid (hN.out.trans (HC.out s.size (by omega) j1 hJ.out (fun h => absurd h (by omega))))
            have ME := Lib.hid (p := s.size - intV (.int .i64 (s.size : Int)) < s.size - intV (.int .i64 (k : Int))) (by simp only [intV]; omega)
            clear hJ hN
            go_wp2
            go_round
            case rel => exact ⟨s.size, by omega, by omega, rfl, Y.out⟩
            case measure => exact ME.out
      · have q35 : ((s[k].toNat : Int) == 35) = false := by rw [beq_eq_false_iff_ne]; omega
        have q35' : ¬ (s[k].toNat : Int) = 35 := by omega
        have ME := Lib.hid (p := s.size - intV (.int .i64 ((k : Int) + 1)) < s.size - intV (.int .i64 (k : Int))) (by simp only [intV]; omega)
        by_cases hb : s[k].toNat = 32 ∨ s[k].toNat = 9 ∨ s[k].toNat = 10 ∨ s[k].toNat = 13
        · have Y := Lib.hid (hN.out.trans (bl_one hlt (by unfold blN; simp only [Bool.or_eq_true, decide_eq_true_eq]; omega)))
          clear hN h35
          have f : ((s[k].toNat : Int) != 32) = false ∨ (((s[k].toNat : Int) != 32) = true ∧ ((s[k].toNat : Int) != 9) = false) ∨ (((s[k].toNat : Int) != 32) = true ∧ ((s[k].toNat : Int) != 9) = true ∧ ((s[k].toNat : Int) != 10) = false) ∨ (((s[k].toNat : Int) != 32) = true ∧ ((s[k].toNat : Int) != 9) = true ∧ ((s[k].toNat : Int) != 10) = true ∧ ((s[k].toNat : Int) != 13) = false) := by
            rcases hb with q | q | q | q
            · left; rw [q]; rfl
            · right; left; rw [q]; exact ⟨rfl, rfl⟩
            · right; right; left; rw [q]; exact ⟨rfl, rfl, rfl⟩
            · right; right; right; rw [q]; exact ⟨rfl, rfl, rfl, rfl⟩
          clear hb
          rcases f with f1 | ⟨f1, f2⟩ | ⟨f1, f2, f3⟩ | ⟨f1, f2, f3, f4⟩
          all_goals
            go_wp2
            go_round
            case rel => exact ⟨k + 1, by omega, by omega, by simp, Y.out⟩
            case measure => exact ME.out
        · have Y := Lib.hid (p := BlP s at_ (.returned (.int .i64 (k : Int)))) ⟨k, rfl, h0, hk, hN.out, fun h => ⟨by unfold blN; simp; omega, h35⟩⟩
          have f1 : ((s[k].toNat : Int) != 32) = true := by rw [bne_iff_ne]; omega
          have f2 : ((s[k].toNat : Int) != 9) = true := by rw [bne_iff_ne]; omega
          have f3 : ((s[k].toNat : Int) != 10) = true := by rw [bne_iff_ne]; omega
          have f4 : ((s[k].toNat : Int) != 13) = true := by rw [bne_iff_ne]; omega
          clear hN h35 hb
          go_wp2
          go_ret
          exact ⟨Y.out, rfl⟩
    · obtain rfl : k = s.size := by omega
      have Y := Lib.hid (p := BlP s at_ (.returned (.int .i64 (s.size : Int)))) ⟨s.size, rfl, h0, Nat.le_refl _, hN.out, fun h => absurd h (by omega)⟩
      clear hN
      go_wp2
      go_ret
      exact ⟨Y.out, rfl⟩
end Go.Proofs.YtlihkmhhfnkkoaaDoor
