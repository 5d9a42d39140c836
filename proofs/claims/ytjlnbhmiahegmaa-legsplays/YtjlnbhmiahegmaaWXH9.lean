/-
  WALK: the law's keptRows.
-/
import Derived.Test.YtjlnbhmiahegmaaWXHb
import Derived.Test.YtjlnbhmiahegmaaWXV5
namespace Go.Proofs.Ytjlnbhmiahegmaa
open Go.RowKit
set_option linter.unusedVariables false
set_option linter.unusedSimpArgs false

theorem NB.is {w5 w6 : World} {cs : Array Value} {t : TypeId} (h : w5.alloc (.cells cs t) = w6) : Below w5.heap.size w5 w6 ∧ Bk w6 w5.heap.size cs t := by
  subst h; exact ⟨(Below.refl _ _).alloc (Nat.le_refl _) _, Bk.new _ _ _⟩
set_option maxRecDepth 100000 in
set_option maxHeartbeats 1000000 in
theorem keptRows_any {w : World} {a : Option Addr} {n k lo b : Nat} {rs : List Rw} (hI : RL w a n rs) (hO : RO w lo b (Rws rs)) :
    Calls Try.prog 12 #[.slice (some ⟨b, 0, none⟩) n (n + 3), .slice a n k] w fun e' w' => e' = .returned (.bool true) ∧ Below w.heap.size w w' := by
  obtain ⟨rfl, hn, hrc, hr⟩ := hI
  obtain ⟨_, Cur, bs, hbk, hsz, hrow⟩ := hO
  have hbl : b < w.heap.size := hbk.lt
  have RLn := Lib.hid (show (Rws rs).length = rs.length by simp [Rws])
  have HR := Lib.hid hr
  have HC := Lib.hid hrc
  have HB := Lib.hid hbk
  have HW := Lib.hid hrow
  clear hr hrc hbk hsz hrow
  go_enter Try.func12, Try.ntmps12
  go_wp2
  go_loopw [6] (fun t wr => ∃ (i : Nat), i ≤ rs.length + 3 ∧ t = .int .i64 i ∧ Below w.heap.size w wr) (fun t _ => rs.length + 3 - (intOf t).toNat)
  case atStart => exact ⟨0, by omega, rfl, Below.refl _ _⟩
  case round =>
    rename World => wo
    obtain ⟨i, hi, rfl, hS⟩ := hrel
    have SS := Lib.hid hS
    by_cases il : i < rs.length + 3
    · have ic : (i : Int) < (rs.length : Int) + 3 := by omega
      obtain ⟨_, _, hcur, hrw⟩ := HW.out i (by have := RLn.out; omega)
      have hbi := hrw.lt
      obtain ⟨cur, hck, hcs, hcd⟩ := hrw
      have e0 := (hS.cell (p := ⟨b, i, none⟩) hbl).trans ((HB.out.cell i).trans hcur)
      by_cases jl : i < rs.length
      · have jc : (i : Int) < (rs.length : Int) := by omega
        rcases HR.out with h0 | ⟨g, o, rfl, hg, hc⟩
        · omega
        obtain ⟨r, hr⟩ : ∃ r, rs.getD i default = r := ⟨_, rfl⟩
        have hmem : r ∈ rs := by rw [← hr]; simp [List.getD, jl]
        have hRi : (Rws rs).getD i [] = r.cs := by rw [← hr]; simp [Rws, List.getD, jl]
        obtain ⟨⟨hcl, hcn, hcw, hcr⟩, _, _, _⟩ := HC.out r hmem
        rw [hRi, hcl] at e0
        rw [hRi] at hcs hcd
        have c0 := (hS.cell (p := ⟨g, o + i, none⟩) hg).trans (hc i jl)
        rw [hr] at c0
        have HCR := Lib.hid hcr
        have HG := Lib.hid hc
        have HCL := Lib.hid hcl
        have hr' := Lib.hid hr
        have HD := Lib.hid hcd
        have HK := Lib.hid hck
        have E0 := Lib.hid e0
        clear hS hcr hc hcl hcw hr hmem hRi hcd hck hcs hcur
        go_wp2
        go_loopw [9] (fun t wr => ∃ (k : Nat), k ≤ r.n + 3 ∧ t = .int .i64 k ∧ Below w.heap.size w wr) (fun t _ => r.n + 3 - (intOf t).toNat)
        case atStart => exact ⟨0, by omega, rfl, by first | exact SS.out | exact xbelow_drewN SS.out _⟩
        case round =>
          clear c0 e0
          obtain ⟨k, hk, rfl, hT⟩ := hrel
          have TT := Lib.hid hT
          by_cases kl : k < r.n + 3
          · have kc : (k : Int) < (r.n : Int) + 3 := by omega
            have hkd := HD.out k (by have := HCL.out; omega)
            by_cases ml : k < r.n
            · have mc : (k : Int) < (r.n : Int) := by omega
              rcases HCR.out with h0 | ⟨g2, o2, e2, hg2, hc2⟩
              · omega
              have HC2 := Lib.hid hc2
              have E2 := Lib.hid e2
              rw [show dk r.cs k = r.cs.getD k default by simp [dk, HCL.out, ml]] at hkd
              have hq := hc2 k ml
              unfold CC at hq
              generalize r.cs.getD k default = cl at hkd hq
              obtain ⟨x, y⟩ := cl
              have HQ := Lib.hid hq
              have HKD := Lib.hid hkd
              clear hT hc2 e2 hq hkd
              go_wp2_with fail
              go_at_call 24
              refine (oddCell_any _).mono ?_
              rintro e' w5 ⟨rfl, hb5⟩
              obtain ⟨w6, hw6⟩ : ∃ w6, w5.alloc (.cells #[.bool true, .int .i64 (-77)] 58) = w6 := ⟨_, rfl⟩
              have X6 := Lib.hid (NB.is hw6)
              have BW := Lib.hid ((TT.out.trans (hb5.mono TT.out.size)).trans (X6.out.1.mono (Nat.le_trans TT.out.size hb5.size)))
              have p0 : w6.cell? ⟨w5.heap.size, 0, none⟩ = some (.bool true) := X6.out.2.cell 0
              have p1 : w6.cell? ⟨w5.heap.size, 1, none⟩ = some (.int .i64 (-77)) := X6.out.2.cell 1
              have q0 := X6.out.2.frozen 0
              have q1 := X6.out.2.frozen 1
              have gw : w.heap.size ≤ w5.heap.size := Nat.le_trans TT.out.size hb5.size
              have nb : ¬ bs i = w5.heap.size := by omega
              have nb' : ¬ w5.heap.size = bs i := by omega
              have d0 := (BW.out.cell (p := ⟨bs i, k * 2, none⟩) hbi).trans ((HK.out.cell (k * 2)).trans HKD.out.1)
              have d1 := (BW.out.cell (p := ⟨bs i, k * 2 + 1, none⟩) hbi).trans ((HK.out.cell (k * 2 + 1)).trans HKD.out.2)
              have n1 : ¬ g = w5.heap.size := by omega
              have n1' : ¬ w5.heap.size = g := by omega
              have n2 : ¬ g2 = w5.heap.size := by omega
              have n2' : ¬ w5.heap.size = g2 := by omega
              have c0 := (BW.out.cell (p := ⟨g, o + i, none⟩) hg).trans (HG.out i jl)
              rw [hr'.out, E2.out] at c0
              have c2 := (BW.out.cell (p := ⟨g2, o2 + k * 2, none⟩) hg2).trans HQ.out.1
              have c3 := (BW.out.cell (p := ⟨g2, o2 + k * 2 + 1, none⟩) hg2).trans HQ.out.2
              clear hb5
              go_wp2
              try go_quiet (fail)
              all_goals try go_wp2
              all_goals
                go_roundw
                case rel => exact ⟨k + 1, by omega, by go_num, by first | exact BW.out | exact xbelow_drewN BW.out _ | exact (BW.out.setCell (p := ⟨w5.heap.size, 0, none⟩) gw _).setCell (p := ⟨w5.heap.size, 1, none⟩) gw _ | exact xbelow_drewN ((BW.out.setCell (p := ⟨w5.heap.size, 0, none⟩) gw _).setCell (p := ⟨w5.heap.size, 1, none⟩) gw _) _⟩
                case measure => simp [intOf]; omega
            · have mc : ¬ (k : Int) < (r.n : Int) := by omega
              rw [show dk r.cs k = ⟨true, -77⟩ by simp [dk, HCL.out, ml]] at hkd
              have HKD := Lib.hid hkd
              clear hT hkd
              go_wp2_with fail
              go_at_call 24
              refine (oddCell_any _).mono ?_
              rintro e' w5 ⟨rfl, hb5⟩
              obtain ⟨w6, hw6⟩ : ∃ w6, w5.alloc (.cells #[.bool true, .int .i64 (-77)] 58) = w6 := ⟨_, rfl⟩
              have X6 := Lib.hid (NB.is hw6)
              have BW := Lib.hid ((TT.out.trans (hb5.mono TT.out.size)).trans (X6.out.1.mono (Nat.le_trans TT.out.size hb5.size)))
              have p0 : w6.cell? ⟨w5.heap.size, 0, none⟩ = some (.bool true) := X6.out.2.cell 0
              have p1 : w6.cell? ⟨w5.heap.size, 1, none⟩ = some (.int .i64 (-77)) := X6.out.2.cell 1
              have q0 := X6.out.2.frozen 0
              have q1 := X6.out.2.frozen 1
              have gw : w.heap.size ≤ w5.heap.size := Nat.le_trans TT.out.size hb5.size
              have nb : ¬ bs i = w5.heap.size := by omega
              have nb' : ¬ w5.heap.size = bs i := by omega
              have d0 := (BW.out.cell (p := ⟨bs i, k * 2, none⟩) hbi).trans ((HK.out.cell (k * 2)).trans HKD.out.1)
              have d1 := (BW.out.cell (p := ⟨bs i, k * 2 + 1, none⟩) hbi).trans ((HK.out.cell (k * 2 + 1)).trans HKD.out.2)
              clear hb5
              go_wp2
              try go_quiet (fail)
              all_goals try go_wp2
              all_goals
                go_roundw
                case rel => exact ⟨k + 1, by omega, by go_num, by first | exact BW.out | exact xbelow_drewN BW.out _ | exact (BW.out.setCell (p := ⟨w5.heap.size, 0, none⟩) gw _).setCell (p := ⟨w5.heap.size, 1, none⟩) gw _ | exact xbelow_drewN ((BW.out.setCell (p := ⟨w5.heap.size, 0, none⟩) gw _).setCell (p := ⟨w5.heap.size, 1, none⟩) gw _) _⟩
                case measure => simp [intOf]; omega
          · obtain rfl : k = r.n + 3 := by omega
            clear hT
            go_wp2
            go_roundw
            case rel => exact ⟨i + 1, by omega, by go_num, TT.out⟩
            case measure => simp [intOf]; omega
      · have jc : ¬ (i : Int) < (rs.length : Int) := by omega
        have hRi : (Rws rs).getD i [] = [] := by simp [Rws, List.getD, jl]
        rw [hRi] at e0 hcs hcd
        have HD := Lib.hid hcd
        have HK := Lib.hid hck
        simp only [List.length_nil, Nat.zero_add] at e0
        clear hS hRi hcd hck hcs hcur
        go_wp2
        go_loopw [9] (fun t wr => ∃ (k : Nat), k ≤ 3 ∧ t = .int .i64 k ∧ Below w.heap.size w wr) (fun t _ => 3 - (intOf t).toNat)
        case atStart => exact ⟨0, by omega, rfl, by first | exact SS.out | exact xbelow_drewN SS.out _⟩
        case round =>
          clear e0
          obtain ⟨k, hk, rfl, hT⟩ := hrel
          have TT := Lib.hid hT
          by_cases kl : k < 3
          · have kc : (k : Int) < 3 := by omega
            have mc : ¬ (k : Int) < 0 := by omega
            have hkd := HD.out k (by simpa using kl)
            rw [show dk [] k = ⟨true, -77⟩ by simp [dk]] at hkd
            have HKD := Lib.hid hkd
            clear hT hkd
            go_wp2_with fail
            go_at_call 24
            refine (oddCell_any _).mono ?_
            rintro e' w5 ⟨rfl, hb5⟩
            obtain ⟨w6, hw6⟩ : ∃ w6, w5.alloc (.cells #[.bool true, .int .i64 (-77)] 58) = w6 := ⟨_, rfl⟩
            have X6 := Lib.hid (NB.is hw6)
            have BW := Lib.hid ((TT.out.trans (hb5.mono TT.out.size)).trans (X6.out.1.mono (Nat.le_trans TT.out.size hb5.size)))
            have p0 : w6.cell? ⟨w5.heap.size, 0, none⟩ = some (.bool true) := X6.out.2.cell 0
            have p1 : w6.cell? ⟨w5.heap.size, 1, none⟩ = some (.int .i64 (-77)) := X6.out.2.cell 1
            have q0 := X6.out.2.frozen 0
            have q1 := X6.out.2.frozen 1
            have gw : w.heap.size ≤ w5.heap.size := Nat.le_trans TT.out.size hb5.size
            have nb : ¬ bs i = w5.heap.size := by omega
            have nb' : ¬ w5.heap.size = bs i := by omega
            have d0 := (BW.out.cell (p := ⟨bs i, k * 2, none⟩) hbi).trans ((HK.out.cell (k * 2)).trans HKD.out.1)
            have d1 := (BW.out.cell (p := ⟨bs i, k * 2 + 1, none⟩) hbi).trans ((HK.out.cell (k * 2 + 1)).trans HKD.out.2)
            clear hb5
            go_wp2
            try go_quiet (fail)
            all_goals try go_wp2
            all_goals
              go_roundw
              case rel => exact ⟨k + 1, by omega, by go_num, by first | exact BW.out | exact xbelow_drewN BW.out _ | exact (BW.out.setCell (p := ⟨w5.heap.size, 0, none⟩) gw _).setCell (p := ⟨w5.heap.size, 1, none⟩) gw _ | exact xbelow_drewN ((BW.out.setCell (p := ⟨w5.heap.size, 0, none⟩) gw _).setCell (p := ⟨w5.heap.size, 1, none⟩) gw _) _⟩
              case measure => simp [intOf]; omega
          · obtain rfl : k = 3 := by omega
            clear hT
            go_wp2
            go_roundw
            case rel => exact ⟨i + 1, by omega, by go_num, TT.out⟩
            case measure => simp [intOf]; omega
    · obtain rfl : i = rs.length + 3 := by omega
      clear hS
      go_wp2
      exact bodyPost_ret (v := .bool true) (by simp [results, Try.results12, go_sem]) rfl ⟨rfl, SS.out⟩
end Go.Proofs.Ytjlnbhmiahegmaa
