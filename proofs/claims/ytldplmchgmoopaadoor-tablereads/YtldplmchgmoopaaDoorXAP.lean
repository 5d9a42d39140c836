import Derived.Test.YtldplmchgmoopaaDoorXAO
namespace Go.Proofs.YtldplmchgmoopaaDoor
open Go.RowKit
set_option linter.unusedVariables false
set_option linter.unusedSimpArgs false

theorem wds_len {s : ByteArray} : ∀ (n i : Nat), s.size - i = n → (wdsP s i).length ≤ s.size - i := by
  intro n
  induction n using Nat.strongRecOn with
  | ind n ih =>
    intro i hn
    rw [wdsP]
    split
    · rename_i h
      have := ih (s.size - wEn s i) (by omega) (wEn s i) rfl
      rw [List.length_cons]
      omega
    · simp
theorem lns_len {s : ByteArray} : ∀ (n i : Nat), s.size - i = n → (lnsP s i).length ≤ s.size - i + 1 := by
  intro n
  induction n using Nat.strongRecOn with
  | ind n ih =>
    intro i hn
    rw [lns_at, List.length_append]
    have a : (if wdsP s i = [] then [] else [(wdsP s i, fnd nlB s i)] : List Lp).length ≤ 1 := by split <;> simp
    have q := fnd_ge nlB s i
    by_cases h : fnd nlB s i < s.size
    · rw [if_pos h]
      have := ih (s.size - (fnd nlB s i + 1)) (by omega) (fnd nlB s i + 1) rfl
      omega
    · rw [if_neg h, List.length_nil]; omega
/-- The lines so far. -/
structure LnI (w W : World) (v : Value) (ls : List Lw) (s : ByteArray) (a : Nat) : Prop where
  ln : LnA W w.heap.size v ls
  bel : Below w.heap.size w W
  eq : ls.map Lw.lp ++ (if a ≤ s.size then lnsP s a else []) = lnsP s 0
  cnt : ls.length ≤ s.size + 1
set_option maxRecDepth 100000 in
set_option maxHeartbeats 8000000 in
theorem rLines_any (s : ByteArray) (hs : s.size ≤ 1048576) (w : World) : Calls Tryd.prog 10 #[.string s] w fun e w' => ∃ v ls, e = .returned v ∧ LnA w' w.heap.size v ls ∧ ls.map Lw.lp = lnsP s 0 ∧ Below w.heap.size w w' := by
  have LL := Lib.hid (p := (lnsP s 0).length ≤ s.size + 1) (by have := lns_len (s := s) _ 0 rfl; omega)
  go_enter Tryd.func10, Tryd.ntmps10
  go_wp2
  go_loopw [3, 4] (fun t3 t4 ws => ∃ (ls : List Lw) (a : Nat), a ≤ s.size + 1 ∧ t4 = .int .i64 (a : Int) ∧ RowKit.Hid (LnI w ws t3 ls s a)) (fun _ t4 _ => s.size + 1 - (intOf t4).toNat)
  case atStart => exact ⟨[], 0, by omega, rfl, LnA.nil _ _, Below.refl _ _, by simp, by simp⟩
  case round =>
    rename Value => v
    obtain ⟨ls, a, ha, rfl, hQ⟩ := hrel
    rename World => wo
    have LI := Lib.hid hQ.out
    clear hQ
    by_cases hla : a ≤ s.size
    · have kc : (a : Int) ≤ (s.size : Int) := by omega
      go_wp2
      go_loopw [5] (fun t5 wy => ∃ e : Nat, a ≤ e ∧ e ≤ s.size ∧ t5 = .int .i64 (e : Int) ∧ RowKit.Hid (fnd nlB s e = fnd nlB s a) ∧ wo = wy) (fun t5 _ => s.size - (intOf t5).toNat)
      case atStart => exact ⟨a, Nat.le_refl _, hla, rfl, rfl, rfl⟩
      case round =>
        obtain ⟨e, he, hes, rfl, hF, rfl⟩ := hrel
        have FE := Lib.hid hF.out
        clear hF
        by_cases hgo : e < s.size ∧ nlB (bt s e) = true
        · obtain ⟨hel, hb⟩ := hgo
          have kl : (e : Int) < (s.size : Int) := by omega
          have kw : IntKind.i64.wrap ((e : Int) + 1) = (e : Int) + 1 := by simp [IntKind.wrap, IntKind.bits, IntKind.signed]; omega
          have NX := Lib.hid (p := fnd nlB s (e + 1) = fnd nlB s a) ((fnd_go hel hb).symm.trans FE.out)
          rw [bt_lt hel] at hb
          obtain ⟨x, hx⟩ : ∃ x : Nat, s[e].toNat = x := ⟨_, rfl⟩
          rw [hx] at hb
          have k10 : ¬ (x : Int) = 10 := by unfold nlB at hb; simpa using hb
          clear hb
          go_wp2
          go_roundw
          case rel => exact ⟨e + 1, by omega, by omega, by go_num, NX.out, trivial⟩
          case measure => simp [intOf]; omega
        · have EE := Lib.hid (p := fnd nlB s a = e) (FE.out.symm.trans (fnd_stop hgo))
          clear FE
          go_upto_region 5 with fail
          go_cut [23] (fun v wx => v = .bool false ∧ wo = wx)
          case first =>
            by_cases hel : e < s.size
            · have kl : (e : Int) < (s.size : Int) := by omega
              have hb : ¬ nlB (bt s e) = true := fun q => hgo ⟨hel, q⟩
              rw [bt_lt hel] at hb
              obtain ⟨x, hx⟩ : ∃ x : Nat, s[e].toNat = x := ⟨_, rfl⟩
              rw [hx] at hb
              have k10 : (x : Int) = 10 := by unfold nlB at hb; simpa using hb
              clear hb
              go_wp2
              go_meet
              case rel => exact ⟨rfl, rfl⟩
            · have kl : ¬ (e : Int) < (s.size : Int) := by omega
              go_wp2
              go_meet
              case rel => exact ⟨rfl, rfl⟩
          case rest =>
            obtain ⟨rfl, rfl⟩ := hcut
            clear hgo
            have WI := Lib.hid (p := WdI wo (wo.alloc (.cells #[.slice none 0 0, .int .i64 (e : Int)] 46)) wo.heap.size (.slice none 0 0) [] e) ⟨World.alloc_heap_new wo _, World.ownsRow_nil _ _ _ _, below_al wo _⟩
            have WL := Lib.hid (p := (wdsP s a).length ≤ s.size) (by have := wds_len (s := s) _ a rfl; omega)
            go_upto_region 9 with fail
            go_loopw [7] (fun t7 wy => ∃ (i : Nat) (vw : Value) (us : List Wp), a ≤ i ∧ i ≤ e ∧ t7 = .int .i64 (i : Int) ∧ RowKit.Hid (WdI wo wy wo.heap.size vw us e ∧ us ++ wdsP s i = wdsP s a ∧ fnd nlB s i = e)) (fun t7 _ => e - (intOf t7).toNat)
            case atStart => exact ⟨a, _, [], Nat.le_refl _, he, rfl, WI.out, rfl, EE.out⟩
            case round =>
              clear WI
              obtain ⟨i, vw, us, hai, hie, rfl, hQ⟩ := hrel
              rename World => wy
              have WI := Lib.hid hQ.out.1
              have WE := Lib.hid hQ.out.2.1
              have FI := Lib.hid hQ.out.2.2
              clear hQ
              obtain ⟨g0, g1, _, _⟩ := box_all2 WI.out.hg
              obtain ⟨B, hB⟩ : ∃ B : Bool, decide (i < e ∧ bt s i ≠ 35) = B := ⟨_, rfl⟩
              go_upto_region 9 with fail
              go_cut [37] (fun v wx => v = .bool B ∧ wy = wx)
              case first =>
                by_cases hie2 : i < e
                · have kl : (i : Int) < (e : Int) := by omega
                  have his : i < s.size := by omega
                  obtain ⟨x, hx⟩ : ∃ x : Nat, s[i].toNat = x := ⟨_, rfl⟩
                  rw [bt_lt his, hx] at hB
                  by_cases k35 : (x : Int) = 35
                  · obtain rfl : B = false := by rw [← hB]; simp [k35]
                    clear hB
                    go_wp2
                    go_meet
                    case rel => exact ⟨rfl, rfl⟩
                  · obtain rfl : B = true := by rw [← hB]; simp [hie2, k35]
                    clear hB
                    go_wp2
                    go_meet
                    case rel => exact ⟨by simp [k35], rfl⟩
                · have kl : ¬ (i : Int) < (e : Int) := by omega
                  obtain rfl : B = false := by rw [← hB]; simp [hie2]
                  clear hB
                  go_wp2
                  go_meet
                  case rel => exact ⟨rfl, rfl⟩
              case rest =>
                obtain ⟨rfl, rfl⟩ := hcut
                cases B with
                | true =>
                  obtain ⟨hie2, h35⟩ := of_decide_eq_true hB
                  have his : i < s.size := by omega
                  have kl : (i : Int) < (e : Int) := by omega
                  have ks : (i : Int) < (s.size : Int) := by omega
                  have kw : IntKind.i64.wrap ((i : Int) + 1) = (i : Int) + 1 := by simp [IntKind.wrap, IntKind.bits, IntKind.signed]; omega
                  clear hB
                  obtain ⟨x, hx⟩ : ∃ x : Nat, s[i].toNat = x := ⟨_, rfl⟩
                  have hbx : bt s i = (x : Int) := by rw [bt_lt his, hx]
                  have BLK := Lib.hid (p := blB (x : Int) = true → us ++ wdsP s (i + 1) = wdsP s a ∧ fnd nlB s (i + 1) = e) (fun q => by
                    rw [← hbx] at q
                    refine ⟨by rw [← wds_blank his q]; exact WE.out, ?_⟩
                    rw [← fnd_go his (nl_bl q)]; exact FI.out)
                  have WRD := Lib.hid (p := blB (x : Int) = false → wdB (bt s i) = true) (fun q => by
                    have n10 : bt s i ≠ 10 := by
                      intro z
                      have : fnd nlB s i = i := fnd_stop (fun r => by have := r.2; rw [z] at this; revert this; decide)
                      have := FI.out
                      omega
                    rw [hbx] at n10 h35 ⊢
                    unfold wdB
                    rw [q]
                    simp [n10, h35])
                  rw [hbx] at h35
                  obtain ⟨C, hC⟩ : ∃ C : Bool, blB (x : Int) = C := ⟨_, rfl⟩
                  go_upto_region 10 with fail
                  go_cut [53] (fun v wx => v = .bool C ∧ wy = wx)
                  case first =>
                    by_cases k1 : (x : Int) = 32
                    · obtain rfl : C = true := by rw [← hC]; unfold blB; simp [k1]
                      clear hC BLK WRD
                      go_wp2
                      go_meet
                      case rel => exact ⟨by first | rfl | simp [k1], rfl⟩
                    · by_cases k2 : (x : Int) = 9
                      · obtain rfl : C = true := by rw [← hC]; unfold blB; simp [k2]
                        clear hC BLK WRD
                        go_wp2
                        go_meet
                        case rel => exact ⟨by first | rfl | simp [k1, k2], rfl⟩
                      · by_cases k3 : (x : Int) = 13
                        · obtain rfl : C = true := by rw [← hC]; unfold blB; simp [k3]
                          clear hC BLK WRD
                          go_wp2
                          go_meet
                          case rel => exact ⟨by first | rfl | simp [k1, k2, k3], rfl⟩
                        · obtain rfl : C = false := by rw [← hC]; unfold blB; simp [k1, k2, k3]
                          clear hC BLK WRD
                          go_wp2
                          go_meet
                          case rel => exact ⟨by first | rfl | simp [k1, k2, k3], rfl⟩
                  case rest =>
                    obtain ⟨rfl, rfl⟩ := hcut
                    cases C with
                    | true =>
                      obtain ⟨z1, z2⟩ := BLK.out hC
                      have Z1 := Lib.hid z1
                      have Z2 := Lib.hid z2
                      clear hC BLK WRD z1 z2
                      go_wp2
                      go_roundw
                      case rel => exact ⟨i + 1, vw, us, by omega, by omega, by go_num, WI.out, Z1.out, Z2.out⟩
                      case measure => simp [intOf]; omega
                    | false =>
                      have hw := WRD.out hC
                      obtain ⟨k0, hk0⟩ : ∃ k0, fnd wdB s i = k0 := ⟨_, rfl⟩
                      obtain ⟨z1, z2⟩ := wds_word his hw
                      rw [hk0] at z1 z2
                      have KE := Lib.hid (p := k0 ≤ e ∧ fnd nlB s k0 = e) (by
                        have q := fnd_below (s := s) (i := i) (fun c => nl_wd (c := c))
                        rw [hk0, FI.out] at q
                        refine ⟨q, ?_⟩
                        rw [fnd_mid (i := i) (by omega) (by rw [FI.out]; exact q), FI.out])
                      have NW := Lib.hid (p := (us ++ [(s.extract i k0, i)]) ++ wdsP s k0 = wdsP s a) (by rw [List.append_assoc, ← WE.out, z1]; rfl)
                      have K0 := Lib.hid hk0
                      clear hC BLK WRD z1 hw hk0 hbx
                      go_upto_region 13 with fail
                      go_loopw [8] (fun t8 wz => ∃ k : Nat, i ≤ k ∧ k ≤ e ∧ t8 = .int .i64 (k : Int) ∧ RowKit.Hid (fnd wdB s k = k0) ∧ wy = wz) (fun t8 _ => e - (intOf t8).toNat)
                      case atStart => exact ⟨i, Nat.le_refl _, hie, rfl, K0.out, rfl⟩
                      case round =>
                        clear K0
                        obtain ⟨k, hik, hke, rfl, hK, rfl⟩ := hrel
                        have FK := Lib.hid hK.out
                        clear hK
                        have N10 := Lib.hid (p := k < e → bt s k ≠ 10) (fun q z => by
                          have h1 : fnd nlB s k = k := fnd_stop (fun r => by have := r.2; rw [z] at this; revert this; decide)
                          have h2 := fnd_mid (p := nlB) (s := s) (i := i) (j := k) hik (by rw [FI.out]; exact hke)
                          rw [FI.out, h1] at h2
                          omega)
                        obtain ⟨D, hD⟩ : ∃ D : Bool, decide (k < e ∧ wdB (bt s k) = true) = D := ⟨_, rfl⟩
                        go_upto_region 13 with fail
                        go_cut [83] (fun v wx => v = .bool D ∧ wy = wx)
                        case first =>
                          by_cases hk2 : k < e
                          · have kk : (k : Int) < (e : Int) := by omega
                            have hks : k < s.size := by omega
                            obtain ⟨y, hy⟩ : ∃ y : Nat, s[k].toNat = y := ⟨_, rfl⟩
                            have q10 := N10.out hk2
                            rw [bt_lt hks, hy] at hD q10
                            by_cases y1 : (y : Int) = 32
                            · obtain rfl : D = false := by rw [← hD]; unfold wdB blB; simp [y1]
                              clear hD
                              go_wp2
                              go_meet
                              case rel => exact ⟨by first | rfl | simp [y1], rfl⟩
                            · by_cases y2 : (y : Int) = 9
                              · obtain rfl : D = false := by rw [← hD]; unfold wdB blB; simp [y2]
                                clear hD
                                go_wp2
                                go_meet
                                case rel => exact ⟨by first | rfl | simp [y1, y2], rfl⟩
                              · by_cases y3 : (y : Int) = 13
                                · obtain rfl : D = false := by rw [← hD]; unfold wdB blB; simp [y3]
                                  clear hD
                                  go_wp2
                                  go_meet
                                  case rel => exact ⟨by first | rfl | simp [y1, y2, y3], rfl⟩
                                · by_cases y4 : (y : Int) = 35
                                  · obtain rfl : D = false := by rw [← hD]; unfold wdB blB; simp [y4]
                                    clear hD
                                    go_wp2
                                    go_meet
                                    case rel => exact ⟨by first | rfl | simp [y1, y2, y3, y4], rfl⟩
                                  · obtain rfl : D = true := by rw [← hD]; unfold wdB blB; simp [hk2, y1, y2, y3, y4, q10]
                                    clear hD
                                    go_wp2
                                    go_meet
                                    case rel => exact ⟨by first | rfl | simp [hk2, y1, y2, y3, y4, q10], rfl⟩
                          · have kk : ¬ (k : Int) < (e : Int) := by omega
                            obtain rfl : D = false := by rw [← hD]; simp [hk2]
                            clear hD
                            go_wp2
                            go_meet
                            case rel => exact ⟨rfl, rfl⟩
                        case rest =>
                          obtain ⟨rfl, rfl⟩ := hcut
                          cases D with
                          | true =>
                            obtain ⟨hk2, hwk⟩ := of_decide_eq_true hD
                            have NX := Lib.hid (p := fnd wdB s (k + 1) = k0) (by rw [← fnd_go (by omega) hwk]; exact FK.out)
                            have kw2 : IntKind.i64.wrap ((k : Int) + 1) = (k : Int) + 1 := by simp [IntKind.wrap, IntKind.bits, IntKind.signed]; omega
                            clear hD
                            go_wp2
                            go_roundw
                            case rel => exact ⟨k + 1, by omega, by omega, by go_num, NX.out, trivial⟩
                            case measure => simp [intOf]; omega
                          | false =>
                            obtain rfl : k = k0 := by
                              have q := of_decide_eq_false hD
                              have r := FK.out
                              by_cases z : k < s.size ∧ wdB (bt s k) = true
                              · exfalso
                                have ek : k = e := by
                                  rcases Nat.lt_or_ge k e with a1 | a1
                                  · exact absurd ⟨a1, z.2⟩ q
                                  · omega
                                have h1 := fnd_mid (p := nlB) (s := s) (i := i) (j := k) hik (by rw [FI.out]; exact hke)
                                rw [FI.out] at h1
                                have := fnd_out nlB s k
                                rw [h1, ← ek] at this
                                exact this ⟨z.1, nl_wd z.2⟩
                              · rw [fnd_stop z] at r; exact r
                            clear hD FK N10
                            have kks : (k : Int) ≤ (s.size : Int) := by omega
                            have kik : (i : Int) ≤ (k : Int) := by omega
                            obtain ⟨xa, xc, hv⟩ := own_form2 WI.out.own
                            subst hv
                            obtain ⟨u, hu⟩ : ∃ u, s.extract i k = u := ⟨_, rfl⟩
                            rw [hu] at NW
                            have CN := Lib.hid (p := us.length + 1 ≤ s.size) (by
                              have q := congrArg List.length NW.out
                              rw [List.length_append, List.length_append, List.length_singleton] at q
                              have := WL.out
                              omega)
                            have BA := Lib.hid (p := Below wy.heap.size wy (wy.alloc (.cells #[.string u, .int .i64 (i : Int)] 49)).drew) (below_eq (below_al wy (.cells #[.string u, .int .i64 (i : Int)] 49)) rfl rfl rfl rfl)
                            have W8 := Lib.hid (WI.out.below BA.out)
                            obtain ⟨v5, w5, hr, O5, G5, _⟩ := app_runD (T := 44) Tryd.underlying44 infoWd rfl (by decide) (wy.alloc (.cells #[.string u, .int .i64 (i : Int)] 49)).drew (wo.heap.size + 1) W8.out.lt (some ⟨wy.heap.size, 0, none⟩) 1 1 [.string u, .int .i64 (i : Int)] rfl (two_news wy _ _ _) (by simp) (by simp [Value.oneCell']) (.slice xa us.length xc) _ _ W8.out.own (by have := CN.out; unfold maxLen; omega) (by have := CN.out; omega)
                            obtain ⟨qa, qc, hv⟩ := own_form2 O5
                            subst hv
                            obtain ⟨y0, y1⟩ := W8.out.fld G5
                            have P9 := Lib.hid (W8.out.word (us := us ++ [(u, i)]) (by unfold wdv; rw [prv_snoc, List.length_append]; exact O5) G5)
                            obtain ⟨t8, _, _, _⟩ := box_all2 (((below_al wy (.cells #[.string u, .int .i64 (i : Int)] 49)).block wo.heap.size (by have := WI.out.lt; omega)).trans WI.out.hg)
                            clear O5 G5 W8 BA
                            go_upto_region 15 with fail
                            go_region_law (first | (refine step_app_run rfl _ _ 44 rfl _ _ _ w5 rfl rfl hr ?_))
                            all_goals
                              go_wp2
                              go_roundw
                              case rel => exact ⟨k, _, us ++ [(u, i)], by omega, by omega, rfl, by first | exact ⟨P9.out, NW.out, KE.out.2⟩ | exact ⟨P9.out.below (below_eq (Below.refl _ _) rfl rfl rfl rfl), NW.out, KE.out.2⟩⟩
                              case measure => simp [intOf]; omega
                | false =>
                  have W0 := Lib.hid (p := us = wdsP s a) (by
                    have := of_decide_eq_false hB
                    have z : wdsP s i = [] := by
                      by_cases h : i < e
                      · refine wds_rem (by omega) ?_
                        by_cases q : bt s i = 35
                        · exact q
                        · exact absurd ⟨h, q⟩ this
                      · exact wds_end (by have := FI.out; omega)
                    rw [← WE.out, z, List.append_nil])
                  clear hB
                  obtain ⟨xa, xc, hv⟩ := own_form2 WI.out.own
                  subst hv
                  obtain ⟨va, vc, hv⟩ := own_form2 LI.out.ln.own
                  subst hv
                  have LB := Lib.hid (p := LnA wy w.heap.size (.slice va ls.length vc) ls ∧ Below w.heap.size w wy) ⟨LI.out.ln.below WI.out.bel, LI.out.bel.trans (WI.out.bel.mono LI.out.bel.size)⟩
                  have kwe : IntKind.i64.wrap ((e : Int) + 1) = (e : Int) + 1 := by simp [IntKind.wrap, IntKind.bits, IntKind.signed]; omega
                  by_cases hu : us = []
                  · have h0 : ¬ (0 : Int) < (us.length : Int) := by rw [hu]; simp
                    have EQ := Lib.hid (p := ls.map Lw.lp ++ (if e + 1 ≤ s.size then lnsP s (e + 1) else []) = lnsP s 0) (by
                      have q := LI.out.eq
                      rw [if_pos hla, lns_skip (by rw [← W0.out]; exact hu), EE.out] at q
                      exact q)
                    go_wp2
                    go_roundw
                    case rel => exact ⟨ls, e + 1, by omega, by go_num, LB.out.1, LB.out.2, EQ.out, LI.out.cnt⟩
                    case measure => simp [intOf]; omega
                  · have h0 : (0 : Int) < (us.length : Int) := by have := List.length_pos_iff.2 hu; omega
                    have EQ := Lib.hid (p := (ls ++ [(⟨xa, us.length, xc, us, e⟩ : Lw)]).map Lw.lp ++ (if e + 1 ≤ s.size then lnsP s (e + 1) else []) = lnsP s 0) (by
                      have q := LI.out.eq
                      rw [if_pos hla, lns_at, if_neg (by rw [← W0.out]; exact hu), EE.out, ← W0.out] at q
                      rw [List.map_append, List.append_assoc]
                      exact q)
                    have CN := Lib.hid (p := (ls ++ [(⟨xa, us.length, xc, us, e⟩ : Lw)]).length ≤ s.size + 1) (by
                      have q := congrArg List.length EQ.out
                      rw [List.length_append, List.length_map] at q
                      have := LL.out
                      omega)
                    have BA := Lib.hid (below_al wy (.cells #[.slice xa us.length xc, .int .i64 (e : Int)] 46))
                    have LA := Lib.hid (LB.out.1.below BA.out)
                    have OW := Lib.hid (own_mono (B' := w.heap.size) (own_back WI.out.own BA.out) (by have := LI.out.bel.size; omega))
                    have SZ := Lib.hid (p := w.heap.size ≤ (wy.alloc (.cells #[.slice xa us.length xc, .int .i64 (e : Int)] 46)).heap.size) (Nat.le_trans LB.out.2.size BA.out.size)
                    have cn := LI.out.cnt
                    go_wp2_with (at_builtin; refine wp_appG Tryd.underlying40 infoLn rfl (by decide) _ w.heap.size SZ.out (some ⟨wy.heap.size, 0, none⟩) 1 1 [.slice xa us.length xc, .int .i64 (e : Int)] rfl (two_news wy _ _ 46) (fun e => by cases e) (by simp [Value.oneCell']) rfl _ _ rfl _ _ _ rfl LA.out.own rfl (by unfold maxLen; omega) (by omega) ?_; intro v5 w5 O5 G5; have P5 := Lib.hid (LA.out.push (l := ⟨xa, us.length, xc, us, e⟩) OW.out rfl O5 G5); have B5 := Lib.hid (p := Below w.heap.size w w5) ((LB.out.2.trans (BA.out.mono LB.out.2.size)).grown G5 SZ.out (fun k e => (LA.out.own.lt k e).1)); clear O5 G5)
                    go_roundw
                    case rel => exact ⟨_, e + 1, by omega, by go_num, P5.out, B5.out, EQ.out, CN.out⟩
                    case measure => simp [intOf]; omega
    · have kc : ¬ (a : Int) ≤ (s.size : Int) := by omega
      have EQ := Lib.hid (p := ls.map Lw.lp = lnsP s 0) (by
        have q := LI.out.eq
        rw [if_neg hla, List.append_nil] at q
        exact q)
      go_wp2
      go_ret
      exact ⟨_, rfl, ls, LI.out.ln, EQ.out, LI.out.bel⟩
end Go.Proofs.YtldplmchgmoopaaDoor

namespace Go.Proofs.YtldplmchgmoopaaDoor
open Go.RowKit
set_option linter.unusedVariables false
set_option linter.unusedSimpArgs false

/-- An append of one list to another, both where they lie. -/
theorem wp_appB {T E : TypeId} {z : Value} {size bytes : Nat} (hT : Tryd.prog.underlying T = some (.slice E)) (hinfo : (Tryd.prog.info? E).map (fun i => (i.zero, i.size, i.bytes)) = some (some z, size, bytes)) (hzs : z.cells.size = size) (hsz : 0 < size)
    {ops : Array Oper} {rest : List Oper} {o : Oper} {a : Act} {Q : Exit → Act → World → Prop} (w : World) (B : Nat) (hB : B ≤ w.heap.size) (x1 : Addr) (n cap : Nat) (us : List Value) (hl : us.length = n * size) (hnews : ∀ y, some x1 = some y → ∀ j u, us[j]? = some u → w.cell? (y.add j) = some u) (one : ∀ u ∈ us, u.oneCell' = true)
    (hgd : o.guard = none) (s x : Operand) (ho : o.op = .call { callee := .builtin .append, args := #[s, x], argTypes := #[T, T] }) (v : Value) (m : Nat) (xs : List Value) (hs : a.eval s = v) (hown : w.ownsRow B E size v m xs) (hx : a.eval x = .slice (some x1) n cap) (h63 : m + n ≤ maxLen) (hby : (m + n) * bytes ≤ 140737488355328)
    (h : ∀ v' w', w'.ownsRow B E size v' (m + n) (xs ++ us) → w.grownBy w' v.ownBlock → (v'.ownBlock = v.ownBlock ∨ v'.ownBlock = some w.heap.size) → wpList Tryd.prog ops Q rest (a.put o.dst v') w') : wpList Tryd.prog ops Q (o :: rest) a w := by
  obtain ⟨i0, hi, hz0, hz1, hz2⟩ := info_parts hinfo
  exact wpList_append_own_at _ hgd s x T ho B E i0 z size bytes hT hi hz0 hz1 hz2 hzs hsz v m xs hs hown x1 n cap us hx hl (hnews x1 rfl) one h63 hby hB (fun v' w' h1 h2 _ h4 => h v' w' h1 h2 h4)
/-- A row of one's own is written at a place. -/
theorem own_write {W : World} {B n c i : Nat} {E : TypeId} {g : Nat} {xs : List Value} (h : W.ownsRow B E 1 (.slice (some ⟨g, 0, none⟩) n c) n xs) (hi : i < n) (u : Value) : (W.setCell ⟨g, i, none⟩ u).ownsRow B E 1 (.slice (some ⟨g, 0, none⟩) n c) n (xs.set i u) := by
  refine ⟨by rw [List.length_set]; exact h.1, ?_⟩
  rcases h.2 with ⟨e, e0⟩ | ⟨g', cap, cur, e, h1, hg, h2, h3, h4, h5⟩
  · cases e
  · injection e with e1 e2 e3
    injection e1 with e1
    injection e1 with e1
    subst e1 e3
    refine .inr ⟨g, c, cur.setIfInBounds i u, rfl, h1, Joins.block_setCell (i := i) hg u, h2, h3, by simpa using h4, ?_⟩
    rw [Array.toList_setIfInBounds, List.take_set, h5]
/-- The text that names are written over with. -/
def mine : Nat → ByteArray
  | 0 => ⟨#[77, 105, 110, 101]⟩
  | k + 1 => mine k ++ ⟨#[120]⟩
theorem mine_size : ∀ k, (mine k).size = k + 4
  | 0 => rfl
  | k + 1 => by unfold mine; rw [ByteArray.size_append, mine_size k]; rfl
theorem catM (k : Nat) (h : k ≤ 4000000000000000000) (W : World) : (Op.stringOp .add (mine k) ⟨#[120]⟩).run Tryd.prog W = .ok (.string (mine (k + 1))) W := by
  have hs := mine_size k
  have e : mine (k + 1) = mine k ++ ⟨#[120]⟩ := rfl
  have h1 : (⟨#[120]⟩ : ByteArray).size = 1 := rfl
  rw [e]
  simp [Op.stringOp, go_sem]
  omega
/-- What the book's lists say. -/
structure Bg where
  rv : List Value
  ms : List Int
  nn : List Nat
  ov : List Value
  fr : List Nat
  nv : List Value
  sy : List ByteArray
  lg : List Nat
  pv : List Value
  tl : List Int
  wd : List Nat
  rr : List Value
  wr : List Value
  rn : List Value
  wn : List Value
  rp : List Value
  wp : List Value
def nats (l : List Nat) : List Value := l.map fun (n : Nat) => Value.int .i64 (n : Int)
def Bg.fs (g : Bg) : List BkF := [⟨0, 50, 1, g.rv.length, g.rv⟩, ⟨1, 3, 1, g.ms.length, g.ms.map (Value.int .i64)⟩, ⟨2, 3, 1, g.nn.length, nats g.nn⟩, ⟨3, 23, 1, g.ov.length, g.ov⟩, ⟨4, 3, 1, g.fr.length, nats g.fr⟩, ⟨5, 27, 1, g.nv.length, g.nv⟩, ⟨6, 9, 1, g.sy.length, g.sy.map Value.string⟩, ⟨7, 3, 1, g.lg.length, nats g.lg⟩, ⟨8, 63, 1, g.pv.length, g.pv⟩, ⟨9, 3, 1, g.tl.length, g.tl.map (Value.int .i64)⟩, ⟨10, 3, 1, g.wd.length, nats g.wd⟩, ⟨13, 23, 1, g.rr.length, g.rr⟩, ⟨14, 23, 1, g.wr.length, g.wr⟩, ⟨15, 27, 1, g.rn.length, g.rn⟩, ⟨16, 27, 1, g.wn.length, g.wn⟩, ⟨17, 63, 1, g.rp.length, g.rp⟩, ⟨18, 63, 1, g.wp.length, g.wp⟩]
/-- A book with its mark. -/
structure Bk (W : World) (B : Nat) (bk : Nat) (vs : List Value) (g : Bg) (sn : List (Nat × Obj)) (mark : Int) (late : Bool) : Prop where
  o : BkO W B bk vs g.fs sn
  mt : vs.getD 11 default = .int .i64 mark
  lt : vs.getD 12 default = .bool late
theorem Bk.below {W W' : World} {B bk : Nat} {vs : List Value} {g : Bg} {sn : List (Nat × Obj)} {mark : Int} {late : Bool} (h : Bk W B bk vs g sn mark late) (b : Below W.heap.size W W') : Bk W' B bk vs g sn mark late := ⟨h.o.below b, h.mt, h.lt⟩
theorem Bk.other {W W' : World} {B bk : Nat} {r : Option Nat} {vs : List Value} {g : Bg} {sn : List (Nat × Obj)} {mark : Int} {late : Bool} (h : Bk W B bk vs g sn mark late) (k : W.grownBy W' r) (hz : ∀ z, r = some z → BkO.Free bk vs g.fs sn z) : Bk W' B bk vs g sn mark late := ⟨h.o.other k hz, h.mt, h.lt⟩
theorem Bk.cells {W : World} {B bk : Nat} {vs : List Value} {g : Bg} {sn : List (Nat × Obj)} {mark : Int} {late : Bool} (h : Bk W B bk vs g sn mark late) : W.cell? ⟨bk, 11, none⟩ = some (.int .i64 mark) ∧ W.cell? ⟨bk, 12, none⟩ = some (.bool late) ∧ W.frozen? ⟨bk, 11, none⟩ = false := by
  have a := h.o.cell 11 (by omega)
  have b := h.o.cell 12 (by omega)
  rw [h.mt] at a
  rw [h.lt] at b
  exact ⟨a.1, b.1, a.2⟩
theorem Bg.keys (g : Bg) : ∀ f ∈ g.fs, f.k ≠ 11 ∧ f.k ≠ 12 := by
  intro f hf
  unfold Bg.fs at hf
  simp only [List.mem_cons, List.not_mem_nil, or_false] at hf
  rcases hf with h | h | h | h | h | h | h | h | h | h | h | h | h | h | h | h | h <;> rw [h] <;> simp
theorem Bk.mark {W : World} {B bk : Nat} {vs : List Value} {g : Bg} {sn : List (Nat × Obj)} {mark : Int} {late : Bool} (h : Bk W B bk vs g sn mark late) (m : Int) : Bk (W.setCell ⟨bk, 11, none⟩ (.int .i64 m)) B bk (vs.set 11 (.int .i64 m)) g sn m late := by
  refine ⟨h.o.set 11 _ (fun f hf => (g.keys f hf).1), ?_, ?_⟩
  · have : 11 < vs.length := by rw [h.o.hl]; omega
    simp [List.getD, this]
  · rw [← h.lt]
    simp only [List.getD]
    rw [List.getElem?_set_ne (by omega)]
theorem Bk.appd {W W' : World} {B bk : Nat} {vs : List Value} {g g' : Bg} {sn : List (Nat × Obj)} {mark : Int} {late : Bool} {f : BkF} {fa fb : List BkF} {v' : Value} {m : Nat} {us : List Value} (h : Bk W B bk vs g sn mark late) (e : g.fs = fa ++ f :: fb) (e' : g'.fs = fa ++ ⟨f.k, f.T, f.s, f.n + m, f.xs ++ us⟩ :: fb) (o : W'.ownsRow B f.T f.s v' (f.n + m) (f.xs ++ us)) (k : W.grownBy W' (vs.getD f.k default).ownBlock) (hb : v'.ownBlock = (vs.getD f.k default).ownBlock ∨ v'.ownBlock = some W.heap.size) :
    Bk (W'.setCell ⟨bk, f.k, none⟩ v') B bk (vs.set f.k v') g' sn mark late := by
  have h0 := h.o
  rw [e] at h0
  have kk := g.keys f (by rw [e]; exact List.mem_append.2 (.inr (List.mem_cons_self ..)))
  refine ⟨by rw [e']; exact h0.app o k hb, ?_, ?_⟩
  · rw [← h.mt]; simp only [List.getD]; rw [List.getElem?_set_ne kk.1]
  · rw [← h.lt]; simp only [List.getD]; rw [List.getElem?_set_ne kk.2]
/-- Behind the growth of one list the other blocks are free as they were. -/
theorem free_app {bk z : Nat} {vs : List Value} {g g' : Bg} {sn : List (Nat × Obj)} {f f' : BkF} {fa fb : List BkF} {v' : Value} (e : g.fs = fa ++ f :: fb) (e' : g'.fs = fa ++ f' :: fb) (hk : f'.k = f.k) (hl : vs.length = 19) (hk2 : f.k < 19) (nd : ∀ x ∈ fa ++ fb, x.k ≠ f.k) (h : BkO.Free bk vs g.fs sn z) (hv : v'.ownBlock ≠ some z) : BkO.Free bk (vs.set f.k v') g'.fs sn z := by
  refine ⟨h.1, fun x hx => ?_, h.2.2⟩
  rw [e'] at hx
  have h2 := h.2.1
  rw [e] at h2
  rcases List.mem_append.1 hx with q | q
  · rw [show (vs.set f.k v').getD x.k default = vs.getD x.k default by simp only [List.getD]; rw [List.getElem?_set_ne (nd x (List.mem_append.2 (.inl q))).symm]]
    exact h2 x (List.mem_append.2 (.inl q))
  · rcases List.mem_cons.1 q with q | q
    · rw [q, hk, show (vs.set f.k v').getD f.k default = v' by simp [List.getD, hl, hk2]]
      exact hv
    · rw [show (vs.set f.k v').getD x.k default = vs.getD x.k default by simp only [List.getD]; rw [List.getElem?_set_ne (nd x (List.mem_append.2 (.inr q))).symm]]
      exact h2 x (List.mem_append.2 (.inr (List.mem_cons_of_mem _ q)))
/-- An append leaves the row as it was, seen through the old slice. -/
theorem append_keepsB {w : World} (base : Nat) (t ty e : TypeId) (i : TypeInfo) (z : Value) (size bytes : Nat) (ht : Tryd.prog.underlying t = some (.slice e)) (hi : Tryd.prog.info? e = some i) (hz : i.zero = some z)
    (hsize : i.size = size) (hby : i.bytes = bytes) (hzs : z.cells.size = size) (hsz : 0 < size)
    (v : Value) (n : Nat) (xs : List Value) (hown : w.ownsRow base e size v n xs)
    (a : Addr) (m c : Nat) (news : List Value) (hl : news.length = m * size) (hnews : ∀ j u, news[j]? = some u → w.cell? (a.add j) = some u) (h1 : ∀ u ∈ news, u.oneCell' = true)
    (h63 : n + m ≤ maxLen) (hbytes : (n + m) * bytes ≤ 140737488355328) (hbase : base ≤ w.heap.size) (v' : Value) (w' : World)
    (hr : (Builtin.append_ #[t, t] ty #[v, .slice (some a) m c]).run Tryd.prog w = .ok v' w') (g : Nat) (hg : v.ownBlock = some g) : w'.heap[g]? = w.heap[g]? ∨ v'.ownBlock = some g := by
  subst hsize
  subst hby
  have hsmall : n + m ≤ 9223372036854775807 := by simp only [maxLen] at h63; omega
  rcases hown.2 with ⟨rfl, rfl⟩ | ⟨g', cap, cur, rfl, hbg, hgg, hnc, hcm, hcs, htake⟩
  · simp [Value.ownBlock] at hg
  · simp only [Value.ownBlock, Option.some.injEq] at hg
    subst hg
    by_cases hroom : n + m ≤ cap
    · have hfit : n * i.size + news.length ≤ cur.size := by rw [hl, hcs, ← Nat.add_mul]; exact Nat.mul_le_mul_right _ hroom
      rw [run_append_room (P := Tryd.prog) w t ty e i ht hi g' n cap cur hgg a m c news hl hnews h1 hroom hfit] at hr
      injection hr with hr1 hr2
      subst hr1
      exact .inr rfl
    · have holds : ∀ j u, xs[j]? = some u → w.cell? ((⟨g', 0, none⟩ : Addr).add j) = some u := hown.cells (g := g') rfl
      rw [run_append_grow (P := Tryd.prog) w t ty e i z ht hi hz ⟨g', 0, none⟩ n cap xs hown.1 holds a m c news hl hnews (by omega) (by omega) (growslice_fits (by omega) hbytes)] at hr
      injection hr with hr1 hr2
      subst hr2
      exact .inl (Below.heap_alloc w.drew _ g' (Array.getElem?_eq_some_iff.1 hgg).1)
/-- An append; where the list lay it lies as it was, or the list lies there still. -/
theorem wp_appK {T E : TypeId} {z : Value} {size bytes : Nat} (hT : Tryd.prog.underlying T = some (.slice E)) (hinfo : (Tryd.prog.info? E).map (fun i => (i.zero, i.size, i.bytes)) = some (some z, size, bytes)) (hzs : z.cells.size = size) (hsz : 0 < size)
    {ops : Array Oper} {rest : List Oper} {o : Oper} {a : Act} {Q : Exit → Act → World → Prop} (w : World) (B : Nat) (hB : B ≤ w.heap.size) (x1 : Addr) (n cap : Nat) (us : List Value) (hl : us.length = n * size) (hnews : ∀ y, some x1 = some y → ∀ j u, us[j]? = some u → w.cell? (y.add j) = some u) (one : ∀ u ∈ us, u.oneCell' = true)
    (hgd : o.guard = none) (s x : Operand) (ho : o.op = .call { callee := .builtin .append, args := #[s, x], argTypes := #[T, T] }) (v : Value) (m : Nat) (xs : List Value) (hs : a.eval s = v) (hown : w.ownsRow B E size v m xs) (hx : a.eval x = .slice (some x1) n cap) (h63 : m + n ≤ maxLen) (hby : (m + n) * bytes ≤ 140737488355328)
    (h : ∀ v' w', w'.ownsRow B E size v' (m + n) (xs ++ us) → w.grownBy w' v.ownBlock → (v'.ownBlock = v.ownBlock ∨ v'.ownBlock = some w.heap.size) → (∀ g, v.ownBlock = some g → w'.heap[g]? = w.heap[g]? ∨ v'.ownBlock = some g) → wpList Tryd.prog ops Q rest (a.put o.dst v') w') : wpList Tryd.prog ops Q (o :: rest) a w := by
  obtain ⟨i0, hi, hz0, hz1, hz2⟩ := info_parts hinfo
  refine wpList_plain hgd fun K hK => ?_
  obtain ⟨v', w', hr, h2, h3, h4, h5⟩ := run_append_own_at (P := Tryd.prog) w B T o.type E i0 z size bytes hT hi hz0 hz1 hz2 hzs hsz v m xs hown x1 n cap us hl (hnews x1 rfl) one h63 hby hB
  unfold Oper.wp execOp
  simp only [ho, resolve, invoke, builtin, Sem.run_bind, Sem.run_pure, Result.andThen_ok, List.map_toArray, List.map_cons, List.map_nil, hs, hx, hr]
  exact hK _ _ (h v' w' h2 h3 h5 (fun g hg => append_keepsB B T o.type E i0 z size bytes hT hi hz0 hz1 hz2 hzs hsz v m xs hown x1 n cap us hl (hnews x1 rfl) one h63 hby hB v' w' hr g hg))
/-- Where a list lay that grows: it lies there still, or its firsts are as they were. -/
def Old (W : World) (T : TypeId) (a : Option Addr) (v : Value) (k : Nat) (us : List Value) : Prop := ∀ z, a = some ⟨z, 0, none⟩ → v.ownBlock = some z ∨ ∃ cur, W.heap[z]? = some (.cells cur T) ∧ cur.toList.take k = us
theorem own_firsts {W : World} {B m s k z : Nat} {T : TypeId} {v : Value} {us xs : List Value} (o : W.ownsRow B T s v m (us ++ xs)) (hk : us.length = k) (hz : v.ownBlock = some z) : ∃ cur, W.heap[z]? = some (.cells cur T) ∧ cur.toList.take k = us := by
  rcases o.2 with ⟨e, e0⟩ | ⟨g, cap, cur, e, _, q1, q2, _, q4, q5⟩
  · rw [e] at hz; cases hz
  · rw [e] at hz
    injection hz with hz
    subst hz
    refine ⟨cur, q1, ?_⟩
    have l := o.1
    rw [List.length_append] at l
    have : cur.toList.take k = (cur.toList.take (m * s)).take k := by rw [List.take_take, Nat.min_eq_left (by omega)]
    rw [this, q5, ← hk]
    exact List.take_left
theorem Old.step {W W2 : World} {B m s k : Nat} {T : TypeId} {a : Option Addr} {v v' : Value} {us xs : List Value} (h : Old W T a v k us) (o : W.ownsRow B T s v m (us ++ xs)) (hk : us.length = k) (g : W.grownBy W2 v.ownBlock) (kp : ∀ z, v.ownBlock = some z → W2.heap[z]? = W.heap[z]? ∨ v'.ownBlock = some z) : Old W2 T a v' k us := by
  intro z e
  by_cases q : v.ownBlock = some z
  · rcases kp z q with r | r
    · obtain ⟨cur, h1, h2⟩ := own_firsts o hk q
      exact .inr ⟨cur, r.trans h1, h2⟩
    · exact .inl r
  · rcases h z e with r | ⟨cur, h1, h2⟩
    · exact absurd r q
    · exact .inr ⟨cur, (g.block z (blk_lt h1) (fun e => q e.symm)).trans h1, h2⟩
theorem Old.below {W W2 : World} {k : Nat} {T : TypeId} {a : Option Addr} {v : Value} {us : List Value} (h : Old W T a v k us) (b : Below W.heap.size W W2) : Old W2 T a v k us := by
  intro z e
  rcases h z e with r | ⟨cur, h1, h2⟩
  · exact .inl r
  · exact .inr ⟨cur, (b.block z (blk_lt h1)).trans h1, h2⟩
/-- Where a list lay: its firsts, in a block that stays. -/
def OldIt (sn : List (Nat × Obj)) (T : TypeId) (a : Option Addr) (k : Nat) (us : List Value) : Prop := ∀ z, a = some ⟨z, 0, none⟩ → ∃ cur, (z, Obj.cells cur T) ∈ sn ∧ cur.toList.take k = us
theorem OldIt.more {sn sn' : List (Nat × Obj)} {T : TypeId} {a : Option Addr} {k : Nat} {us : List Value} (h : OldIt sn T a k us) (q : ∀ p ∈ sn, p ∈ sn') : OldIt sn' T a k us := fun z e => by
  obtain ⟨cur, h1, h2⟩ := h z e
  exact ⟨cur, q _ h1, h2⟩
/-- A list that has grown is left, and where it lay ahead. -/
theorem Bk.leave2 {W : World} {B bk gg k : Nat} {vs : List Value} {g : Bg} {sn : List (Nat × Obj)} {mark : Int} {late : Bool} {T : TypeId} {a : Option Addr} {v : Value} {cur : Array Value} {us : List Value} (h : Bk W B bk vs g sn mark late) (hv : v.ownBlock = some gg) (hc : W.heap[gg]? = some (.cells cur T)) (hf : BkO.Free bk vs g.fs sn gg) (hu : cur.toList.take k = us) (old : Old W T a v k us) (fa : ∀ z, a = some ⟨z, 0, none⟩ → BkO.Free bk vs g.fs sn z) :
    ∃ add, Bk W B bk vs g (add ++ sn) mark late ∧ (gg, Obj.cells cur T) ∈ add ∧ OldIt add T a k us ∧ ((sn.map (·.1)).Nodup → ((add ++ sn).map (·.1)).Nodup) := by
  have ndc : ∀ (z : Nat) (l : List (Nat × Obj)), (∀ p ∈ l, p.1 ≠ z) → (l.map (·.1)).Nodup → (z :: l.map (·.1)).Nodup := fun z l h k =>
    List.nodup_cons.2 ⟨fun q => by obtain ⟨p, hp, e⟩ := List.mem_map.1 q; exact h p hp e, k⟩
  have h1 : Bk W B bk vs g ((gg, Obj.cells cur T) :: sn) mark late := ⟨h.o.leave hc hf, h.mt, h.lt⟩
  by_cases hz : ∃ z, a = some ⟨z, 0, none⟩ ∧ z ≠ gg
  · obtain ⟨z, e, ne⟩ := hz
    rcases old z e with r | ⟨cz, k1, k2⟩
    · rw [hv] at r; injection r with r; exact absurd r.symm ne
    · have fz := fa z e
      refine ⟨[(z, .cells cz T), (gg, .cells cur T)], ⟨h1.o.leave k1 ⟨fz.1, fz.2.1, fun p hp => ?_⟩, h1.mt, h1.lt⟩, by simp, fun y ey => ?_, fun nd => ?_⟩
      · rcases List.mem_cons.1 hp with q | q
        · rw [q]; exact fun e => ne e.symm
        · exact fz.2.2 p q
      · rw [e] at ey; injection ey with ey; injection ey with ey; subst ey
        exact ⟨cz, by simp, k2⟩
      · refine ndc z ((gg, .cells cur T) :: sn) (fun p hp => ?_) (ndc gg sn hf.2.2 nd)
        rcases List.mem_cons.1 hp with q | q
        · rw [q]; exact fun e => ne e.symm
        · exact fz.2.2 p q
  · refine ⟨[(gg, .cells cur T)], h1, by simp, fun y ey => ?_, fun nd => ndc gg sn hf.2.2 nd⟩
    have : y = gg := Classical.byContradiction fun q => hz ⟨y, ey, q⟩
    subst this
    exact ⟨cur, by simp, hu⟩
end Go.Proofs.YtldplmchgmoopaaDoor
