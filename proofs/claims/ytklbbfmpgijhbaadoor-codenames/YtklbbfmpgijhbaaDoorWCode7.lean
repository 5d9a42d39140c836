/-
  THE STATEMENT CodeNames.
-/
import Derived.Test.YtklbbfmpgijhbaaDoorWCode6
namespace Go.Proofs.YtklbbfmpgijhbaaDoor
open Go.RowKit
set_option linter.unusedVariables false
set_option linter.unusedSimpArgs false

theorem isEmpty_false {b : ByteArray} (h : b.data.toList ≠ []) : b.toList.isEmpty = false := by
  obtain ⟨⟨l⟩⟩ := b
  rw [ByteArray.toList_mk]
  simp at h
  cases l with
  | nil => exact absurd rfl h
  | cons a l => rfl
set_option maxRecDepth 100000 in
set_option maxHeartbeats 2000000 in
theorem codeNames_go (op oth : Int) (w : World) (hR : Rws w) :
    Calls Tryd.prog 4 #[.int .i64 op, .int .i64 oth] w fun e w' => e = .returned (.bool true) ∧ Below w.heap.size w w' := by
  obtain ⟨n, o, t, p, a, b, er, hE⟩ := row_ex op
  obtain ⟨n2, o2, t2, p2, a2, b2, er2, hF⟩ := row_ex oth
  have KN := Lib.hid (name_any hE w hR)
  have KM := Lib.hid (fun W hR => name_any hF W hR)
  have KO := Lib.hid (fun W hR => operands_any hE W hR)
  have KE := Lib.hid (fun W hR => effect_any hE W hR)
  have RR := Lib.hid hR
  have P0 : True := trivial
  rcases hE.say with ⟨k, hk, rfl, rfl, e1, e2, e3, e4, e5, rfl⟩ | ⟨hr, rfl, e1, e2, e3, e4, e5, rfl⟩
  · have KF := Lib.hid (fun W hR => find_any (nmA k) (k : Int) 0 (.inl ⟨k, hk, rfl, rfl, rfl⟩) W hR)
    have s0 := isEmpty_false (nm_some k hk)
    have k0 : ¬ (k : Int) < 0 := by omega
    have k1 : decide (29 ≤ k) = false := by simp; omega
    have k2 : decide ((29 : Int) ≤ (k : Int)) = false := by simp; omega
    rcases hF.say with ⟨j, hj, rfl, rfl, d1, d2, d3, d4, d5, rfl⟩ | ⟨hr2, rfl, d1, d2, d3, d4, d5, rfl⟩
    · by_cases hkj : k = j
      · subst hkj
        clear hE hF hR e1 e2 e3 e4 e5 d1 d2 d3 d4 d5
        generalize nmA k = nm at *
        go_enter Tryd.func4, Tryd.ntmps4
        go_wp2_with (first
          | (go_at_call 16; have qq := P0; refine KN.out.mono ?_; rintro e w1 ⟨rfl, h1⟩; have B1 := Lib.hid h1; clear h1 P0)
          | (go_at_call 16; refine (KM.out _ (RR.out.below B1.out)).mono ?_; rintro e w2 ⟨rfl, h1⟩; have B2 := Lib.hid (B1.out.trans (h1.mono B1.out.size)); clear h1)
          | (go_at_call 17; refine (KO.out _ (RR.out.below B2.out)).mono ?_; rintro e w3 ⟨rfl, h1⟩; have B3 := Lib.hid (B2.out.trans (h1.mono B2.out.size)); clear h1)
          | (go_at_call 18; refine (KE.out _ (RR.out.below B3.out)).mono ?_; rintro e w4 ⟨rfl, h1⟩; have B4 := Lib.hid (B3.out.trans (h1.mono B3.out.size)); clear h1)
          | (go_at_call 14; refine (KF.out _ (RR.out.below B4.out)).mono ?_; rintro e w5 ⟨rfl, h1⟩; have B5 := Lib.hid (B4.out.trans (h1.mono B4.out.size)); clear h1))
        go_ret
        exact ⟨rfl, B5.out⟩
      · have ne1 : ((nmA k).toList == (nmA j).toList) = false := by
          rw [beq_eq_false_iff_ne]; exact fun q => hkj (nm_one hk hj (bytes_eq q))
        have ne2 : ((k : Int) == (j : Int)) = false := by simp; omega
        have ne3 : (k == j) = false := by simp; omega
        have ne4 : decide (k = j) = false := by simp; omega
        clear hE hF hR e1 e2 e3 e4 e5 d1 d2 d3 d4 d5 hkj
        generalize nmA k = nm at *
        generalize nmA j = nj at *
        go_enter Tryd.func4, Tryd.ntmps4
        go_wp2_with (first
          | (go_at_call 16; have qq := P0; refine KN.out.mono ?_; rintro e w1 ⟨rfl, h1⟩; have B1 := Lib.hid h1; clear h1 P0)
          | (go_at_call 16; refine (KM.out _ (RR.out.below B1.out)).mono ?_; rintro e w2 ⟨rfl, h1⟩; have B2 := Lib.hid (B1.out.trans (h1.mono B1.out.size)); clear h1)
          | (go_at_call 17; refine (KO.out _ (RR.out.below B2.out)).mono ?_; rintro e w3 ⟨rfl, h1⟩; have B3 := Lib.hid (B2.out.trans (h1.mono B2.out.size)); clear h1)
          | (go_at_call 18; refine (KE.out _ (RR.out.below B3.out)).mono ?_; rintro e w4 ⟨rfl, h1⟩; have B4 := Lib.hid (B3.out.trans (h1.mono B3.out.size)); clear h1)
          | (go_at_call 14; refine (KF.out _ (RR.out.below B4.out)).mono ?_; rintro e w5 ⟨rfl, h1⟩; have B5 := Lib.hid (B4.out.trans (h1.mono B4.out.size)); clear h1))
        go_ret
        exact ⟨rfl, B5.out⟩
    · clear hE hF hR e1 e2 e3 e4 e5 d1 d2 d3 d4 d5 hr2
      generalize nmA k = nm at *
      go_enter Tryd.func4, Tryd.ntmps4
      go_wp2_with (first
        | (go_at_call 16; have qq := P0; refine KN.out.mono ?_; rintro e w1 ⟨rfl, h1⟩; have B1 := Lib.hid h1; clear h1 P0)
        | (go_at_call 16; refine (KM.out _ (RR.out.below B1.out)).mono ?_; rintro e w2 ⟨rfl, h1⟩; have B2 := Lib.hid (B1.out.trans (h1.mono B1.out.size)); clear h1)
        | (go_at_call 17; refine (KO.out _ (RR.out.below B2.out)).mono ?_; rintro e w3 ⟨rfl, h1⟩; have B3 := Lib.hid (B2.out.trans (h1.mono B2.out.size)); clear h1)
        | (go_at_call 18; refine (KE.out _ (RR.out.below B3.out)).mono ?_; rintro e w4 ⟨rfl, h1⟩; have B4 := Lib.hid (B3.out.trans (h1.mono B3.out.size)); clear h1)
        | (go_at_call 14; refine (KF.out _ (RR.out.below B4.out)).mono ?_; rintro e w5 ⟨rfl, h1⟩; have B5 := Lib.hid (B4.out.trans (h1.mono B4.out.size)); clear h1))
      go_ret
      exact ⟨rfl, B5.out⟩
  · by_cases k0 : op < 0
    · clear hE hF hR e1 e2 e3 e4 e5 hr
      go_enter Tryd.func4, Tryd.ntmps4
      go_wp2_with (first
        | (go_at_call 16; have qq := P0; refine KN.out.mono ?_; rintro e w1 ⟨rfl, h1⟩; have B1 := Lib.hid h1; clear h1 P0)
        | (go_at_call 16; refine (KM.out _ (RR.out.below B1.out)).mono ?_; rintro e w2 ⟨rfl, h1⟩; have B2 := Lib.hid (B1.out.trans (h1.mono B1.out.size)); clear h1)
        | (go_at_call 17; refine (KO.out _ (RR.out.below B2.out)).mono ?_; rintro e w3 ⟨rfl, h1⟩; have B3 := Lib.hid (B2.out.trans (h1.mono B2.out.size)); clear h1)
        | (go_at_call 18; refine (KE.out _ (RR.out.below B3.out)).mono ?_; rintro e w4 ⟨rfl, h1⟩; have B4 := Lib.hid (B3.out.trans (h1.mono B3.out.size)); clear h1))
      go_ret
      exact ⟨rfl, B4.out⟩
    · have k1 : (29 : Int) ≤ op := by omega
      clear hE hF hR e1 e2 e3 e4 e5 hr
      go_enter Tryd.func4, Tryd.ntmps4
      go_wp2_with (first
        | (go_at_call 16; have qq := P0; refine KN.out.mono ?_; rintro e w1 ⟨rfl, h1⟩; have B1 := Lib.hid h1; clear h1 P0)
        | (go_at_call 16; refine (KM.out _ (RR.out.below B1.out)).mono ?_; rintro e w2 ⟨rfl, h1⟩; have B2 := Lib.hid (B1.out.trans (h1.mono B1.out.size)); clear h1)
        | (go_at_call 17; refine (KO.out _ (RR.out.below B2.out)).mono ?_; rintro e w3 ⟨rfl, h1⟩; have B3 := Lib.hid (B2.out.trans (h1.mono B2.out.size)); clear h1)
        | (go_at_call 18; refine (KE.out _ (RR.out.below B3.out)).mono ?_; rintro e w4 ⟨rfl, h1⟩; have B4 := Lib.hid (B3.out.trans (h1.mono B3.out.size)); clear h1))
      go_ret
      exact ⟨rfl, B4.out⟩
end Go.Proofs.YtklbbfmpgijhbaaDoor
