/-
  WALK: the document's odd.
-/
import Derived.Test.YtjlnbhmiahegmaaM78
namespace Go.Proofs.Ytjlnbhmiahegmaa
open Go.RowKit
set_option linter.unusedVariables false
set_option linter.unusedSimpArgs false

theorem XV.form {w : World} {e : Xt} {vs : List Value} (h : XV w e vs) : ∃ a b c d n k, vs = [.int .i64 a, .int .i64 b, .int .i64 c, .slice d n k] := by
  cases h; exact ⟨_, _, _, _, _, _, rfl⟩
/-- The nine cells of an action, one by one. -/
theorem AC.nine {w w0 : World} {p q : Nat} {a : At} (h : AC w p q a) (hA : AV w0 a) : ∃ x0 x1 x2 x3 x4 x5, a.x = [.int .i64 x0, .int .i64 x1, .int .i64 x2, .slice x3 x4 x5] ∧ w.cell? ⟨p, q + 3, none⟩ = some (.int .i64 x0) ∧ w.cell? ⟨p, q + 4, none⟩ = some (.int .i64 x1) ∧ w.cell? ⟨p, q + 5, none⟩ = some (.int .i64 x2) ∧ w.cell? ⟨p, q + 6, none⟩ = some (.slice x3 x4 x5) := by
  obtain ⟨x0, x1, x2, x3, x4, x5, hx⟩ := hA.2.2.2.1.form
  have k := h.x
  rw [hx] at k
  exact ⟨x0, x1, x2, x3, x4, x5, hx, k 0 (by omega), k 1 (by omega), k 2 (by omega), k 3 (by omega)⟩
theorem SC6.six {w w0 : World} {p q : Nat} {s : St} (h : SC6 w p q s) (hA : SV w0 s) : ∃ x0 x1 x2 x3 x4 x5, s.x = [.int .i64 x0, .int .i64 x1, .int .i64 x2, .slice x3 x4 x5] ∧ w.cell? ⟨p, q + 2, none⟩ = some (.int .i64 x0) ∧ w.cell? ⟨p, q + 3, none⟩ = some (.int .i64 x1) ∧ w.cell? ⟨p, q + 4, none⟩ = some (.int .i64 x2) ∧ w.cell? ⟨p, q + 5, none⟩ = some (.slice x3 x4 x5) := by
  obtain ⟨x0, x1, x2, x3, x4, x5, hx⟩ := hA.2.form
  have k := h.x
  rw [hx] at k
  exact ⟨x0, x1, x2, x3, x4, x5, hx, k 0 (by omega), k 1 (by omega), k 2 (by omega), k 3 (by omega)⟩
theorem pday_nn {al : List At} {i : Nat} (h : ∀ j, j < i → pday al j ≤ (al.getD j default).day ∧ (al.getD j default).day ≤ 3660) : 0 ≤ pday al i := by
  induction i with
  | zero => simp [pday]
  | succ i ih =>
    have q := ih (fun j hj => h j (by omega))
    have q2 := (h i (by omega)).1
    have e : pday al (i + 1) = (al.getD i default).day := by simp [pday]
    rw [e]; omega
set_option maxRecDepth 100000 in
set_option maxHeartbeats 20000000 in
theorem rodd_any {w : World} {al : List At} {pa : Option Addr} {pc : Nat} (hL : AL w pa al) (cells : Int) :
    Calls Try.prog 34 #[.slice pa al.length pc, .int .i64 cells] w fun e w' => e = .returned (.int .i64 (oddR al cells)) ∧ Below w.heap.size w w' := by
  obtain ⟨D, hD⟩ : ∃ D, oddR al cells = D := ⟨_, rfl⟩
  rw [hD]
  have HD := Lib.hid hD
  obtain ⟨n, hn⟩ : ∃ n, al.length = n := ⟨_, rfl⟩
  rw [hn]
  have HN := Lib.hid hn
  have HL := Lib.hid hL
  have NL : n ≤ 1256584717422 := by rw [← hn]; exact hL.1
  clear hD hn hL
  by_cases z0 : cells < 0
  · have hd : D = 1 := by rw [← HD.out]; exact odd_cells (.inl z0)
    subst hd
    go_enter Try.func34, Try.ntmps34
    go_wp2
    go_ret
    exact ⟨rfl, Below.refl _ _⟩
  by_cases z1 : 512 < cells
  · have hd : D = 1 := by rw [← HD.out]; exact odd_cells (.inr z1)
    subst hd
    go_enter Try.func34, Try.ntmps34
    go_wp2
    go_ret
    exact ⟨rfl, Below.refl _ _⟩
  have Z := Lib.hid (show ¬ (cells < 0 ∨ 512 < cells) from fun h => by omega)
  go_enter Try.func34, Try.ntmps34
  go_wp2
  go_loopw [5] (fun t wr => ∃ (i : Nat), i ≤ n ∧ t = .int .i64 i ∧ RowKit.Hid (∀ j, j < i → isA (al.getD j default) cells) ∧ Below w.heap.size w wr) (fun t _ => n - (intOf t).toNat)
  case atStart => exact ⟨0, by omega, rfl, fun j hj => absurd hj (by omega), Below.refl _ _⟩
  case round =>
    rename World => wo
    obtain ⟨i, hi, rfl, HI, hBl⟩ := hrel
    have BL := Lib.hid hBl
    clear hBl
    by_cases il : i < n
    · have ic : (i : Int) < (n : Int) := by omega
      have il' : i < al.length := by rw [HN.out]; exact il
      obtain ⟨b, o, hsa, hb, hat⟩ := HL.out.at (by omega)
      subst hsa
      obtain ⟨hav, hac0⟩ := hat i il'
      have hac := hac0.later BL.out hb
      obtain ⟨x0, x1, x2, x3, x4, x5, hx, k3, k4, k5, k6⟩ := hac.nine hav
      have k0 := hac.day
      have k1 := hac.kind
      have k2 := hac.ss
      have k7 := hac.cur
      have k8 := hac.cell
      have HAV := Lib.hid hav
      have OKA := Lib.hid (show isA (al.getD i default) cells → ∀ j, j < i + 1 → isA (al.getD j default) cells from fun h j hj => by
            by_cases e : j = i
            · rw [e]; exact h
            · exact HI.out j (by omega))
      have NOA := Lib.hid (show ¬ isA (al.getD i default) cells → D = 1 from fun h => by rw [← HD.out]; exact odd_isA il' h)
      clear hat hac hac0 hav hx
      generalize al.getD i default = a at *
      obtain ⟨m, hm⟩ : ∃ m, a.ss.length = m := ⟨_, rfl⟩
      rw [hm] at k2
      have HM := Lib.hid hm
      have ML : m ≤ 2199023255488 := by rw [← hm]; exact HAV.out.2.2.2.2.2.1.1
      obtain ⟨ak, hak⟩ : ∃ k, a.kind = k := ⟨_, rfl⟩
      rw [hak] at k1
      have HK := Lib.hid hak
      obtain ⟨ac, hac⟩ : ∃ k, a.cell = k := ⟨_, rfl⟩
      rw [hac] at k8
      have HAC := Lib.hid hac
      obtain ⟨w2, hw2⟩ : ∃ w2, wo.alloc (.cells #[.int .i64 a.day, .int .i64 ak, .slice a.sa m a.sc, .int .i64 x0, .int .i64 x1, .int .i64 x2, .slice x3 x4 x5, .string a.cur, .int .i64 ac] 71) = w2 := ⟨_, rfl⟩
      have X2 := Lib.hid (NB.is hw2)
      have HW2 := Lib.hid hw2
      have q1 := X2.out.2.cell 1
      have q2 := X2.out.2.cell 2
      have q7 := X2.out.2.cell 7
      have q8 := X2.out.2.cell 8
      simp at q1 q2 q7 q8
      have BL2 := Lib.hid (BL.out.trans (X2.out.1.mono BL.out.size))
      clear hm hak hac hw2
      go_wp2
      rw [HW2.out]
      clear k0 k1 k2 k3 k4 k5 k6 k7 k8 HW2
      go_loopw [7] (fun t wr => ∃ (k : Nat), k ≤ m ∧ t = .int .i64 k ∧ RowKit.Hid (∀ j, j < k → okK (a.ss.getD j default).kind) ∧ wr = w2) (fun t _ => m - (intOf t).toNat)
      case atStart => exact ⟨0, by omega, rfl, fun j hj => absurd hj (by omega), rfl⟩
      case round =>
        obtain ⟨k, hk, rfl, HKK, hwr⟩ := hrel
        have hwr' := hwr.symm
        subst hwr'
        by_cases kl : k < m
        · have kc : (k : Int) < (m : Int) := by omega
          obtain ⟨sb, so, hsa, hsb, hst⟩ := HAV.out.2.2.2.2.2.1.at (by rw [HM.out]; omega)
          rw [hsa] at q2
          have d0 := ((hst k (by rw [HM.out]; exact kl)).2.later BL2.out hsb).kind
          by_cases ok : okK (a.ss.getD k default).kind
          · have OK := Lib.hid ok
            generalize (a.ss.getD k default).kind = sk at d0 ok
            clear hst hsa
            rcases ok with rfl | rfl | rfl
            all_goals go_wp2
            all_goals
              go_roundw
              case rel => exact ⟨k + 1, by omega, by go_num, (fun j hj => by
                by_cases e : j = k
                · rw [e]; exact OK.out
                · exact HKK.out j (by omega)), by first | rfl | trivial⟩
              case measure => simp [intOf]; omega
          · have hd := NOA.out (fun h => ok (kind_at h.1 k (by rw [HM.out]; exact kl)))
            subst hd
            have n1 : ¬ (a.ss.getD k default).kind = 1 := fun e => ok (.inl e)
            have n2 : ¬ (a.ss.getD k default).kind = 2 := fun e => ok (.inr (.inl e))
            have n3 : ¬ (a.ss.getD k default).kind = 3 := fun e => ok (.inr (.inr e))
            generalize (a.ss.getD k default).kind = sk at d0 n1 n2 n3
            by_cases s1 : sk < 1
            · clear hst hsa ok n1 n2 n3
              go_wp2
              go_ret
              exact ⟨rfl, BL2.out⟩
            · have s2 : 3 < sk := by omega
              clear hst hsa ok n1 n2 n3
              go_wp2
              go_ret
              exact ⟨rfl, BL2.out⟩
        · obtain rfl : k = m := by omega
          have KS := Lib.hid (kinds_of (ss := a.ss) (fun j hj => HKK.out j (by rw [← HM.out]; exact hj)))
          have KC := Lib.hid (fun W => rcur_any a.cur W)
          by_cases k1 : ak = 1
          · subst k1
            cases hcb : curB a.cur with
            | true =>
              have OKN := Lib.hid (OKA.out ⟨KS.out, .inl ⟨HK.out, hcb⟩⟩)
              go_wp2_with (go_at_call 50; refine (KC.out _).mono ?_; rintro e w1 ⟨rfl, hw1⟩; have hw1' := hw1.symm; subst hw1'; rw [hcb])
              go_roundw
              case rel => exact ⟨i + 1, by omega, by go_num, OKN.out, BL2.out⟩
              case measure => simp [intOf]; omega
            | false =>
              have hd := NOA.out (fun h => by
                rcases h.2 with q | q
                · rw [hcb] at q; cases q.2
                · have := HK.out; have := q.1; omega)
              subst hd
              go_wp2_with (go_at_call 50; refine (KC.out _).mono ?_; rintro e w1 ⟨rfl, hw1⟩; have hw1' := hw1.symm; subst hw1'; rw [hcb])
              go_ret
              exact ⟨rfl, BL2.out⟩
          · have NO2 := Lib.hid (show ¬ (ak = 2 ∧ 0 ≤ ac ∧ ac < cells) → D = 1 from fun h => NOA.out (fun h' => by
              rcases h'.2 with q | q
              · exact k1 (HK.out ▸ q.1)
              · exact h ⟨HK.out ▸ q.1, HAC.out ▸ q.2.1, HAC.out ▸ q.2.2⟩))
            have m1 : (ak == 1) = false := by simpa using k1
            by_cases k2 : ak = 2
            · subst k2
              by_cases g1 : 0 ≤ ac
              · by_cases g2 : ac < cells
                · have OKN := Lib.hid (OKA.out ⟨KS.out, .inr ⟨HK.out, by rw [HAC.out]; exact g1, by rw [HAC.out]; exact g2⟩⟩)
                  go_wp2_with (go_at_call 50; refine (KC.out _).mono ?_; rintro e w1 ⟨rfl, hw1⟩; have hw1' := hw1.symm; subst hw1')
                  go_roundw
                  case rel => exact ⟨i + 1, by omega, by go_num, OKN.out, BL2.out⟩
                  case measure => simp [intOf]; omega
                · have hd := NO2.out (fun h => by omega)
                  subst hd
                  have g2d : decide (ac < cells) = false := by simpa using g2
                  have g2e : cells ≤ ac := by omega
                  go_wp2_with (go_at_call 50; refine (KC.out _).mono ?_; rintro e w1 ⟨rfl, hw1⟩; have hw1' := hw1.symm; subst hw1')
                  go_ret
                  exact ⟨rfl, BL2.out⟩
              · have hd := NO2.out (fun h => by omega)
                subst hd
                go_wp2_with (go_at_call 50; refine (KC.out _).mono ?_; rintro e w1 ⟨rfl, hw1⟩; have hw1' := hw1.symm; subst hw1')
                go_ret
                exact ⟨rfl, BL2.out⟩
            · have m2 : (ak == 2) = false := by simpa using k2
              have hd := NO2.out (fun h => k2 h.1)
              subst hd
              go_wp2_with (go_at_call 50; refine (KC.out _).mono ?_; rintro e w1 ⟨rfl, hw1⟩; have hw1' := hw1.symm; subst hw1')
              go_ret
              exact ⟨rfl, BL2.out⟩
    · obtain rfl : i = n := by omega
      have hd : D = (if dcd (risen al) = false then 2 else if 2048 < i then 6 else 0) := by
        have := odd_rest Z.out (fun j hj => HI.out j (by rw [← HN.out]; exact hj))
        rw [HD.out, HN.out] at this
        exact this
      have HD2 := Lib.hid hd
      clear hd
      go_wp2
      go_loopw [10] (fun t wr => ∃ (k : Nat), k ≤ i ∧ t = .int .i64 k ∧ RowKit.Hid (∀ j, j < k → pday al j ≤ (al.getD j default).day ∧ (al.getD j default).day ≤ 3660) ∧ Below w.heap.size w wr) (fun t _ => i - (intOf t).toNat)
      case atStart => exact ⟨0, by omega, rfl, fun j hj => absurd hj (by omega), BL.out⟩
      case round =>
        obtain ⟨k, hk, rfl, HK, hBl⟩ := hrel
        have BR := Lib.hid hBl
        clear hBl
        by_cases il : k < i
        · have ic : (k : Int) < (i : Int) := by omega
          obtain ⟨b, o, hsa, hb, hat⟩ := HL.out.at (by rw [HN.out]; omega)
          subst hsa
          have d0 := ((hat k (by rw [HN.out]; exact il)).2.later BR.out hb).day
          have PN := pday_nn HK.out
          have BAD := Lib.hid (show ¬ (pday al k ≤ (al.getD k default).day ∧ (al.getD k default).day ≤ 3660) → D = 2 from fun h => by
            rw [HD2.out, dcd_false (fun r => h (r k (by rw [HN.out]; exact il))), if_pos rfl])
          have GO := Lib.hid (show (pday al k ≤ (al.getD k default).day ∧ (al.getD k default).day ≤ 3660) → ∀ j, j < k + 1 → pday al j ≤ (al.getD j default).day ∧ (al.getD j default).day ≤ 3660 from fun h j hj => by
            by_cases e : j = k
            · rw [e]; exact h
            · exact HK.out j (by omega))
          have PD := Lib.hid (show ∀ j, k = j + 1 → pday al k = (al.getD j default).day ∧ wr.cell? ⟨b, o + j * 9, none⟩ = some (.int .i64 (al.getD j default).day) from fun j e => by
            subst e
            exact ⟨by simp [pday], ((hat j (by rw [HN.out]; omega)).2.later BR.out hb).day⟩)
          have PZ := Lib.hid (show k = 0 → pday al k = 0 from fun e => by subst e; rfl)
          clear hat
          generalize (al.getD k default).day = dy at d0 BAD GO
          by_cases y0 : dy < 0
          · have hd := BAD.out (fun h => by omega)
            subst hd
            clear BAD GO PD PZ PN
            go_wp2
            go_quiet (fail)
            all_goals go_wp2
            all_goals go_ret
            all_goals exact ⟨rfl, by first | exact BR.out | exact xbelow_drewN BR.out _⟩
          · have y0d : decide (dy < 0) = false := by simpa using y0
            by_cases y1 : 3660 < dy
            · have y1d : decide (3660 < dy) = true := by simpa using y1
              have hd := BAD.out (fun h => by omega)
              subst hd
              clear BAD GO PD PZ PN
              go_wp2
              go_quiet (fail)
              all_goals go_wp2
              all_goals go_ret
              all_goals exact ⟨rfl, by first | exact BR.out | exact xbelow_drewN BR.out _⟩
            · have y1d : decide (3660 < dy) = false := by simpa using y1
              by_cases kz : k = 0
              · subst kz
                have G2 := Lib.hid (GO.out ⟨by rw [PZ.out rfl]; omega, by omega⟩)
                rw [show ((0 : Nat) : Int) = 0 by rfl]
                simp only [Nat.zero_mul, Nat.add_zero] at d0
                have ic0 : (0 : Int) < (i : Int) := by omega
                clear BAD GO PD PZ PN ic
                go_wp2
                go_quiet (fail)
                all_goals go_wp2
                all_goals
                  go_roundw
                  case rel => exact ⟨1, by omega, by go_num, G2.out, by first | exact BR.out | exact xbelow_drewN BR.out _⟩
                  case measure => simp [intOf]; omega
              · obtain ⟨j, rfl⟩ : ∃ j, k = j + 1 := ⟨k - 1, by omega⟩
                obtain ⟨e1, e2⟩ := PD.out j rfl
                rw [e1] at BAD GO
                generalize (al.getD j default).day = pd at BAD GO e2
                rw [show ((j + 1 : Nat) : Int) = (j : Int) + 1 by omega]
                have jp : (0 : Int) < (j : Int) + 1 := by omega
                have jpd : decide ((0 : Int) < (j : Int) + 1) = true := decide_eq_true jp
                have jw : IntKind.i64.wrap ((j : Int) + 1 - 1) = (j : Int) := by simp [IntKind.wrap, IntKind.bits, IntKind.signed]; omega
                have ic2 : (j : Int) + 1 < (i : Int) := by omega
                have jc : (j : Int) < (i : Int) := by omega
                by_cases y2 : dy < pd
                · have y2d : decide (dy < pd) = true := by simpa using y2
                  have hd := BAD.out (fun h => by omega)
                  subst hd
                  clear BAD GO PD PZ PN e1
                  go_wp2
                  go_quiet (fail)
                  all_goals go_wp2
                  all_goals go_ret
                  all_goals exact ⟨rfl, by first | exact BR.out | exact xbelow_drewN BR.out _⟩
                · have y2d : decide (dy < pd) = false := by simpa using y2
                  have G2 := Lib.hid (GO.out ⟨by omega, by omega⟩)
                  clear BAD GO PD PZ PN e1
                  go_wp2
                  go_quiet (fail)
                  all_goals go_wp2
                  all_goals
                    go_roundw
                    case rel => exact ⟨j + 1 + 1, by omega, by go_num, G2.out, by first | exact BR.out | exact xbelow_drewN BR.out _⟩
                    case measure => simp [intOf]; omega
        · obtain rfl : k = i := by omega
          have RS : dcd (risen al) = true := dcd_true (fun j hj => HK.out j (by rw [← HN.out]; exact hj))
          have HD3 := Lib.hid (show D = if 2048 < k then 6 else 0 from by rw [HD2.out, RS, if_neg (by simp)])
          clear RS
          by_cases y : 2048 < k
          · have yc : (2048 : Int) < (k : Int) := by omega
            have hd : D = 6 := by rw [HD3.out, if_pos y]
            subst hd
            clear HD3 HD2
            go_wp2
            go_ret
            exact ⟨rfl, by first | exact BR.out | exact xbelow_drewN BR.out _⟩
          · have yc : ¬ (2048 : Int) < (k : Int) := by omega
            have hd : D = 0 := by rw [HD3.out, if_neg y]
            subst hd
            clear HD3 HD2
            go_wp2
            go_ret
            exact ⟨rfl, by first | exact BR.out | exact xbelow_drewN BR.out _⟩
end Go.Proofs.Ytjlnbhmiahegmaa
