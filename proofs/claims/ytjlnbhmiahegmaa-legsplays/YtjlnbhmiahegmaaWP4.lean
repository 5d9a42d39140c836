/-
  WALKS: legs: turn.
-/
import Derived.Test.YtjlnbhmiahegmaaWP3
namespace Go.Proofs.Ytjlnbhmiahegmaa
open Go.RowKit
set_option linter.unusedVariables false
set_option linter.unusedSimpArgs false

set_option maxRecDepth 100000 in
set_option maxHeartbeats 2000000 in
theorem turn_any {w0 w : World} {sa : Option Addr} {sc : Nat} {ss : List St} (hS : SL w0 sa ss) (hB : Below w0.heap.size w0 w) {fb : Nat} {R : List (List Cl)} {C : List Int} (hF : FB w fb R C ss ss.length)
    (hV : ∀ i, i < ss.length → inR ((ss.getD i default).e.val R C).1) (hK : ∀ i, i < ss.length → okK (ss.getD i default).kind) (v0 : Int) (hv : inR v0) :
    Calls Try.prog 66 #[.int .i64 v0, .slice sa ss.length sc, .slice (some ⟨fb, 0, none⟩) ss.length ss.length] w fun e w' => EvE (turnR R C ss (v0, 0)) e ∧ w' = w := by
  have hn : ss.length ≤ 2199023255488 := hS.1
  obtain ⟨cur, hc1, hc2, hc3⟩ := hF
  have HS := Lib.hid hS
  have HB := Lib.hid hB
  have HK := Lib.hid hK
  have HV := Lib.hid hV
  have HC := Lib.hid hc1
  have HC2 := Lib.hid hc2
  have HC3 := Lib.hid hc3
  have HV0 := Lib.hid hv
  clear hS hB hK hV hc1 hc2 hc3 hv
  obtain ⟨n, hnn⟩ : ∃ n, ss.length = n := ⟨_, rfl⟩
  have HL := Lib.hid hnn
  rw [hnn] at hn ⊢
  have ST := Lib.hid (show turnR R C (ss.drop n) (v0, 0) = (v0, 0) from by rw [List.drop_eq_nil_of_le (by omega)]; rfl)
  clear hnn
  go_enter Try.func66, Try.ntmps66
  go_wp2
  go_loopw [0, 7] (fun x t wr => ∃ (k : Nat), k ≤ n ∧ t = .int .i64 ((k : Int) - 1) ∧ x = .int .i64 (turnR R C (ss.drop k) (v0, 0)).1 ∧ RowKit.Hid ((turnR R C (ss.drop k) (v0, 0)).2 = 0) ∧ wr = w) (fun _ t _ => (intOf t + 1).toNat)
  case atStart => exact ⟨n, Nat.le_refl _, rfl, by rw [ST.out], by rw [ST.out]; rfl, rfl⟩
  case round =>
    clear ST
    obtain ⟨k, hk, rfl, rfl, H0, hwr⟩ := hrel
    have hwr' := hwr.symm
    subst hwr'
    by_cases kz : k = 0
    · subst kz
      rw [show (((0 : Nat) : Int) - 1) = -1 by omega]
      rw [List.drop_zero] at H0 ⊢
      obtain ⟨r, hr⟩ : ∃ r, turnR R C ss (v0, 0) = r := ⟨_, rfl⟩
      rw [hr] at H0 ⊢
      have HR := Lib.hid hr
      clear hr
      go_wp2
      go_ret
      exact ⟨.inl ⟨by rw [HR.out]; exact H0.out, by rw [HR.out]; rfl⟩, rfl⟩
    · obtain ⟨i, rfl⟩ : ∃ i, k = i + 1 := ⟨k - 1, by omega⟩
      rw [show (((i + 1 : Nat) : Int) - 1) = (i : Int) by omega]
      have il : i < n := by omega
      have ic : (i : Int) < (n : Int) := by omega
      have i0 : (0 : Int) ≤ (i : Int) := by omega
      have il' : i < ss.length := by rw [HL.out]; exact il
      obtain ⟨b, o, hsa, hb, hat⟩ := HS.out.at (by omega)
      subst hsa
      have SCR := (hat i il').2.later HB.out hb
      have d0 := SCR.kind
      have hIn := Lib.hid (turnR_in (R := R) (C := C) (ss.drop (i + 1)) (v0, 0) HV0.out)
      have NX := Lib.hid (turnR_drop (R := R) (C := C) il' (v0, 0))
      have LF := Lib.hid (turnR_left (R := R) (C := C) (l := ss) (v := (v0, 0)) i)
      have OKI := HK.out i il'
      have FV := Lib.hid (HV.out i il')
      have FC3 := Lib.hid (HC3.out i (by omega))
      have wi : IntKind.i64.wrap ((i : Int) - 1) = (i : Int) - 1 := by simp [IntKind.wrap, IntKind.bits, IntKind.signed]; omega
      obtain ⟨⟨r, rf⟩, hr⟩ : ∃ r, turnR R C (ss.drop (i + 1)) (v0, 0) = r := ⟨_, rfl⟩
      rw [hr] at H0 NX hIn ⊢
      obtain ⟨fv, hfv⟩ : ∃ r, ((ss.getD i default).e.val R C).1 = r := ⟨_, rfl⟩
      rw [hfv] at NX FV FC3
      obtain ⟨kd, hkd⟩ : ∃ r, (ss.getD i default).kind = r := ⟨_, rfl⟩
      rw [hkd] at NX FC3 OKI d0
      obtain ⟨r2, hr2⟩ : ∃ r, turnR R C (ss.drop i) (v0, 0) = r := ⟨_, rfl⟩
      rw [hr2] at NX LF
      have HR2 := Lib.hid hr2
      clear hr hfv hkd hr2
      have hr0 : rf = 0 := H0.out
      subst hr0
      clear hat SCR H0
      rcases OKI with rfl | rfl | rfl
      · have E := Lib.hid (show r2 = (r, 0) from by have := NX.out; simpa using this)
        go_wp2
        go_roundw
        case rel => exact ⟨i, by omega, by go_num, by rw [HR2.out, E.out], by rw [HR2.out, E.out]; rfl, by first | rfl | trivial⟩
        case measure => simp [intOf]
      · have E := Lib.hid (show r2 = (fitV (fv * r), fitF (fv * r)) from by have := NX.out; simpa using this)
        have c0 := (HC.out.cell i).trans (FC3.out rfl)
        have KM := Lib.hid (fun W => mul_any fv r FV.out hIn.out W)
        have KS := Lib.hid (fun W => sound_any (fitV (fv * r)) (fitF (fv * r)) (fit_nv _) W)
        generalize fitV (fv * r) = pv at *
        generalize fitF (fv * r) = pf at *
        go_wp2_with fail
        go_at_call 74
        refine (KM.out _).mono ?_
        rintro e w1 ⟨rfl, hw1⟩
        have hw1' := hw1.symm
        subst hw1'
        go_wp2_with fail
        go_at_call 69
        refine (KS.out _).mono ?_
        rintro e w1 ⟨he, hw1⟩
        have hw1' := hw1.symm
        subst hw1'
        rcases he with ⟨z, rfl⟩ | ⟨z, z1, rfl⟩
        · go_wp2
          go_roundw
          case rel => exact ⟨i, by omega, by go_num, by rw [HR2.out, E.out], by rw [HR2.out, E.out]; exact z, by first | rfl | trivial⟩
          case measure => simp [intOf]
        · have L := Lib.hid (LF.out (by rw [E.out]; exact z))
          unfold pnc
          go_wp2
          exact ⟨rfl, .inr ⟨by rw [L.out, E.out]; exact z, by rw [L.out, E.out]; exact z1, by rw [L.out, E.out]; rfl⟩, rfl⟩
      · have E := Lib.hid (show r2 = (fitV (-r), fitF (-r)) from by have := NX.out; simpa using this)
        have KM := Lib.hid (fun W => neg_any r hIn.out W)
        have KS := Lib.hid (fun W => sound_any (fitV (-r)) (fitF (-r)) (fit_nv _) W)
        generalize fitV (-r) = pv at *
        generalize fitF (-r) = pf at *
        go_wp2_with fail
        go_at_call 70
        refine (KM.out _).mono ?_
        rintro e w1 ⟨rfl, hw1⟩
        have hw1' := hw1.symm
        subst hw1'
        go_wp2_with fail
        go_at_call 69
        refine (KS.out _).mono ?_
        rintro e w1 ⟨he, hw1⟩
        have hw1' := hw1.symm
        subst hw1'
        rcases he with ⟨z, rfl⟩ | ⟨z, z1, rfl⟩
        · go_wp2
          go_roundw
          case rel => exact ⟨i, by omega, by go_num, by rw [HR2.out, E.out], by rw [HR2.out, E.out]; exact z, by first | rfl | trivial⟩
          case measure => simp [intOf]
        · have L := Lib.hid (LF.out (by rw [E.out]; exact z))
          unfold pnc
          go_wp2
          exact ⟨rfl, .inr ⟨by rw [L.out, E.out]; exact z, by rw [L.out, E.out]; exact z1, by rw [L.out, E.out]; rfl⟩, rfl⟩
end Go.Proofs.Ytjlnbhmiahegmaa
