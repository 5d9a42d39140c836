/-
  WALK: the document's marks.
-/
import Derived.Test.YtlihkmhhfnkkoaaDoorWRefLex7
namespace Go.Proofs.YtlihkmhhfnkkoaaDoor
open Go.RowKit Lx
set_option linter.unusedVariables false
set_option linter.unusedSimpArgs false

theorem byte_cut (i : Nat) (hi : i < 19) (W : World) : (Instr.slice 9 (.string ⟨#[40, 41, 123, 125, 91, 93, 44, 59, 61, 43, 45, 42, 47, 37, 60, 62, 33, 63, 58]⟩) (some (.int .i64 (i : Int))) (some (.int .i64 ((i : Int) + 1))) none).run Tryd.prog W = .ok (.string (bs [oneS.getD i 0])) W := by
  have h := cutMidR ⟨#[40, 41, 123, 125, 91, 93, 44, 59, 61, 43, 45, 42, 47, 37, 60, 62, 33, 63, 58]⟩ (i : Int) ((i : Int) + 1) (by omega) (by omega) (by show (i : Int) + 1 ≤ 19; omega) W
  rw [Int.toNat_natCast, show ((i : Int) + 1).toNat = i + 1 by omega] at h
  have key : ∀ j : Fin 19, ((oneS.take (j.val + 1)).drop j.val) = [oneS.getD j.val 0] := by decide
  have e : (lst ⟨#[40, 41, 123, 125, 91, 93, 44, 59, 61, 43, 45, 42, 47, 37, 60, 62, 33, 63, 58]⟩) = oneS := rfl
  rw [e, key ⟨i, hi⟩] at h
  exact h
theorem oneS_at (i : Nat) (hi : i < 19) : ((⟨#[40, 41, 123, 125, 91, 93, 44, 59, 61, 43, 45, 42, 47, 37, 60, 62, 33, 63, 58]⟩ : ByteArray)[i]'hi).toNat = (oneS.getD i 0).toNat := by
  have := nth_lst (s := ⟨#[40, 41, 123, 125, 91, 93, 44, 59, 61, 43, 45, 42, 47, 37, 60, 62, 33, 63, 58]⟩) (k := i) hi
  rw [← this]; rfl
set_option maxRecDepth 100000 in
set_option maxHeartbeats 2000000 in
theorem rmarks_any (s : ByteArray) (at_ : Nat) (w : World) (hs : s.size ≤ 65536) (ha : at_ < s.size) :
    Calls Tryd.prog 37 #[.string s, .int .i64 (at_ : Int)] w fun e w' => e = .returned (.string (bs (markL ((lst s).drop at_)))) ∧ Below w.heap.size w w' := by
  obtain ⟨c, q, hr⟩ : ∃ c q, (lst s).drop at_ = c :: q := by
    cases h : (lst s).drop at_ with
    | nil => have := congrArg List.length h; rw [List.length_drop, lst_len] at this; simp at this; omega
    | cons c q => exact ⟨c, q, rfl⟩
  have ec : s[at_].toNat = c.toNat := at_drop (i := 0) (at_ := at_) (by omega) (by rw [hr]; rfl)
  obtain ⟨M, hM⟩ : ∃ M, bs (markL ((lst s).drop at_)) = M := ⟨_, rfl⟩
  have HP := Lib.hid (p := ∀ i, i < 7 → at_ + 2 ≤ s.size → lst (twoS.getD i ⟨#[]⟩) = ((lst s).drop at_).take 2 → twoS.getD i ⟨#[]⟩ = M) (fun i hi hl e => by
    obtain ⟨d, q', hq⟩ : ∃ d q', q = d :: q' := by
      cases h : q with
      | nil => have := congrArg List.length hr; rw [List.length_drop, lst_len, h] at this; simp at this; omega
      | cons d q' => exact ⟨d, q', rfl⟩
    rw [← hM]
    unfold markL
    rw [hr, hq] at e ⊢
    rw [if_pos (show isPair (c :: d :: q') = true from pair_in.2 ⟨i, hi, e⟩), ← e, bs_lst])
  have HN : (∀ i, i < 7 → ¬ (at_ + 2 ≤ s.size ∧ lst (twoS.getD i ⟨#[]⟩) = ((lst s).drop at_).take 2)) → isPair ((lst s).drop at_) = false := fun h => by
    cases hx : isPair ((lst s).drop at_) with
    | false => rfl
    | true =>
      rw [hr] at hx
      cases hq : q with
      | nil => rw [hq] at hx; cases hx
      | cons d q' =>
        rw [hq] at hx
        obtain ⟨i, hi, e⟩ := pair_in.1 hx
        exact absurd ⟨by have := congrArg List.length hr; rw [List.length_drop, lst_len, hq] at this; simp at this; omega, by rw [e, hr, hq]; rfl⟩ (h i hi)
  have HY := Lib.hid (p := (∀ i, i < 7 → ¬ (at_ + 2 ≤ s.size ∧ lst (twoS.getD i ⟨#[]⟩) = ((lst s).drop at_).take 2)) → (∀ i, i < 19 → oneS.getD i 0 = c → bs [oneS.getD i 0] = M) ∧ ((∀ i, i < 19 → oneS.getD i 0 ≠ c) → (⟨#[]⟩ : ByteArray) = M)) (fun h => by
    have hp := HN h
    constructor
    · intro i hi e
      rw [← hM]; unfold markL
      rw [if_neg (by rw [hp]; simp), hr, List.headD_cons, if_pos (one_in.2 ⟨i, hi, e⟩), e]
      rfl
    · intro h1
      rw [← hM]; unfold markL
      rw [if_neg (by rw [hp]; simp), hr, List.headD_cons, if_neg (fun hx => by obtain ⟨i, hi, e⟩ := one_in.1 hx; exact h1 i hi e)]
      rfl)
  rw [hM]
  clear hM HN
  have s2 : at_ + 2 ≤ s.size → ∀ W, (Instr.slice 9 (.string s) (some (.int .i64 (at_ : Int))) (some (.int .i64 ((at_ : Int) + 2))) none).run Tryd.prog W = .ok (.string (bs (((lst s).drop at_).take 2))) W := fun h W => by
    have := cutMidR s (at_ : Int) ((at_ : Int) + 2) (by omega) (by omega) (by omega) W
    have m := mid_drop s at_ 0 2 (by omega) (by omega)
    rw [Nat.add_zero] at m
    rw [Int.toNat_natCast, show ((at_ : Int) + 2).toNat = at_ + 2 by omega, m] at this
    exact this
  obtain ⟨w1, hw1⟩ : ∃ w1, w.alloc (.cells #[.string ⟨#[46, 46]⟩, .string ⟨#[60, 61]⟩, .string ⟨#[62, 61]⟩, .string ⟨#[61, 61]⟩, .string ⟨#[33, 61]⟩, .string ⟨#[38, 38]⟩, .string ⟨#[124, 124]⟩] 9) = w1 := ⟨_, rfl⟩
  have CC := Lib.hid (p := ∀ i, i < 7 → w1.cell? ⟨w.heap.size, i, none⟩ = some (.string (twoS.getD i ⟨#[]⟩))) (fun i hi => by
    rw [← hw1, World.cell?_alloc_at _ _ _ _ rfl]
    rcases (show i = 0 ∨ i = 1 ∨ i = 2 ∨ i = 3 ∨ i = 4 ∨ i = 5 ∨ i = 6 by omega) with rfl|rfl|rfl|rfl|rfl|rfl|rfl <;> rfl)
  have B1 := Lib.hid (p := Below w.heap.size w w1) (by rw [← hw1]; exact (Below.refl _ _).alloc (Nat.le_refl _) _)
  have HW := Lib.hid hw1
  have EC := Lib.hid ec
  clear hw1 hr ec
  go_enter Tryd.func37, Tryd.ntmps37
  go_wp2
  rw [HW.out]
  go_loopw [6] (fun t wr => ∃ k : Nat, k ≤ 7 ∧ t = .int .i64 k ∧ RowKit.Hid (∀ i, i < k → ¬ (at_ + 2 ≤ s.size ∧ lst (twoS.getD i ⟨#[]⟩) = ((lst s).drop at_).take 2)) ∧ ∃ n, wr = w1.drewN n) (fun t _ => 7 - intV t)
  case atStart => exact ⟨0, by omega, rfl, fun i hi => absurd hi (by omega), 0, rfl⟩
  case round =>
    obtain ⟨k, hk, rfl, hN, n, hwr⟩ := hrel
    rename World => wr
    have HR := Lib.hid hwr
    have BW := Lib.hid (p := Below w.heap.size w wr) (by rw [hwr]; exact ⟨B1.out.os, B1.out.tape, B1.out.output, B1.out.size, B1.out.block⟩)
    by_cases hlt : k < 7
    · have c0 : wr.cell? ⟨w.heap.size, k, none⟩ = some (.string (twoS.getD k ⟨#[]⟩)) := by rw [hwr]; exact CC.out k hlt
      have HPk := Lib.hid (HP.out k hlt)
      have NX := Lib.hid (p := ¬ (at_ + 2 ≤ s.size ∧ lst (twoS.getD k ⟨#[]⟩) = ((lst s).drop at_).take 2) → ∀ i, i < k + 1 → ¬ (at_ + 2 ≤ s.size ∧ lst (twoS.getD i ⟨#[]⟩) = ((lst s).drop at_).take 2)) (fun g i hi => by
        rcases (show i < k ∨ i = k by omega) with q | q
        · exact hN.out i q
        · rw [q]; exact g)
      generalize twoS.getD k ⟨#[]⟩ = b at *
      have kc : (k : Int) < 7 := by omega
      have kw : IntKind.i64.wrap ((k : Int) + 1) = (k : Int) + 1 := by simp [IntKind.wrap, IntKind.bits, IntKind.signed]; omega
      have aw : IntKind.i64.wrap ((at_ : Int) + 2) = (at_ : Int) + 2 := by simp [IntKind.wrap, IntKind.bits, IntKind.signed]; omega
      have ME := Lib.hid (p := 7 - intV (.int .i64 ((k : Int) + 1)) < 7 - intV (.int .i64 (k : Int))) (by simp only [intV]; omega)
      clear hN hwr
      by_cases h2 : at_ + 2 ≤ s.size
      · have p2 : (at_ : Int) + 2 ≤ (s.size : Int) := by omega
        have s2' := s2 h2
        by_cases he : lst b = ((lst s).drop at_).take 2
        · have Y := Lib.hid (HPk.out h2 he)
          rw [← he, bs_lst] at s2'
          clear he s2
          go_wp2
          go_quiet (fail)
          go_wp2
          go_ret
          exact ⟨congrArg (fun x => Ending.returned (.string x)) Y.out, ⟨BW.out.os, BW.out.tape, BW.out.output, BW.out.size, BW.out.block⟩⟩
        · have Y := Lib.hid (NX.out (fun g => he g.2))
          have ne : ((bs (((lst s).drop at_).take 2)).toList == b.toList) = false := by rw [beq_eq_false_iff_ne, toL, toL, lst_bs]; exact fun e => he e.symm
          generalize bs (((lst s).drop at_).take 2) = sl at *
          clear he s2
          go_wp2
          go_quiet (fail)
          go_wp2
          go_roundw
          case rel => exact ⟨k + 1, by omega, by simp, Y.out, by rw [HR.out]; exact drew_drew _ _ _⟩
          case measure => exact ME.out
      · have p2 : decide ((at_ : Int) + 2 ≤ (s.size : Int)) = false := decide_eq_false (by omega)
        have Y := Lib.hid (NX.out (fun g => h2 g.1))
        clear s2
        go_wp2
        go_quiet (fail)
        go_wp2
        go_roundw
        case rel => exact ⟨k + 1, by omega, by simp, Y.out, by rw [HR.out]; exact drew_drew _ _ _⟩
        case measure => exact ME.out
    · obtain rfl : k = 7 := by omega
      have YY := Lib.hid (HY.out hN.out)
      clear hN hwr s2
      go_wp2
      go_loopw [8] (fun t w3 => ∃ i : Nat, i ≤ 19 ∧ t = .int .i64 i ∧ RowKit.Hid (∀ j, j < i → oneS.getD j 0 ≠ c) ∧ ∃ n, w3 = wr.drewN n) (fun t _ => 19 - intV t)
      case atStart => exact ⟨0, by omega, rfl, fun i hi => absurd hi (by omega), 0, rfl⟩
      case round =>
        obtain ⟨i, hi, rfl, hJ, n3, hw3⟩ := hrel
        rename World => w3
        have HR3 := Lib.hid hw3
        have BW3 := Lib.hid (p := Below w.heap.size w w3) (by rw [hw3]; exact ⟨BW.out.os, BW.out.tape, BW.out.output, BW.out.size, BW.out.block⟩)
        clear hw3
        by_cases hlt : i < 19
        · have ic : (i : Int) < 19 := by omega
          have iw : IntKind.i64.wrap ((i : Int) + 1) = (i : Int) + 1 := by simp [IntKind.wrap, IntKind.bits, IntKind.signed]; omega
          have ME := Lib.hid (p := 19 - intV (.int .i64 ((i : Int) + 1)) < 19 - intV (.int .i64 (i : Int))) (by simp only [intV]; omega)
          have bc := byte_cut i hlt
          have oa := oneS_at i hlt
          have ea := EC.out
          have Y1 := Lib.hid (YY.out.1 i hlt)
          have NX := Lib.hid (p := oneS.getD i 0 ≠ c → ∀ j, j < i + 1 → oneS.getD j 0 ≠ c) (fun g j hj => by
            rcases (show j < i ∨ j = i by omega) with q | q
            · exact hJ.out j q
            · rw [q]; exact g)
          generalize oneS.getD i 0 = x at *
          clear hJ
          by_cases he : x = c
          · have Y := Lib.hid (Y1.out he)
            have q1 : ((s[at_].toNat : Int) == ((⟨#[40, 41, 123, 125, 91, 93, 44, 59, 61, 43, 45, 42, 47, 37, 60, 62, 33, 63, 58]⟩ : ByteArray)[i]'hlt).toNat) = true := by rw [ea, oa, he]; simp
            clear he ea oa
            go_wp2
            go_quiet (fail)
            go_wp2
            go_ret
            exact ⟨congrArg (fun x => Ending.returned (.string x)) Y.out, ⟨BW3.out.os, BW3.out.tape, BW3.out.output, BW3.out.size, BW3.out.block⟩⟩
          · have Y := Lib.hid (NX.out he)
            have q1 : ((s[at_].toNat : Int) == ((⟨#[40, 41, 123, 125, 91, 93, 44, 59, 61, 43, 45, 42, 47, 37, 60, 62, 33, 63, 58]⟩ : ByteArray)[i]'hlt).toNat) = false := by
              rw [ea, oa, beq_eq_false_iff_ne]
              intro h
              exact he (UInt8.toNat_inj.1 (by omega))
            clear he ea oa
            go_wp2
            go_quiet (fail)
            go_wp2
            go_roundw
            case rel => exact ⟨i + 1, by omega, by simp, Y.out, by rw [HR3.out]; exact drew_drew _ _ _⟩
            case measure => exact ME.out
        · obtain rfl : i = 19 := by omega
          have Y := Lib.hid (YY.out.2 (fun j hj => hJ.out j hj))
          clear hJ
          go_wp2
          go_ret
          exact ⟨congrArg (fun x => Ending.returned (.string x)) Y.out, BW3.out⟩
end Go.Proofs.YtlihkmhhfnkkoaaDoor
