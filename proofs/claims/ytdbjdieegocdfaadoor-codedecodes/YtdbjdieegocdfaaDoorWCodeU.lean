/-
  THE STATEMENT CodeEncodes.
-/
import Derived.Test.YtdbjdieegocdfaaDoorWCodeT
namespace Go.Proofs.YtdbjdieegocdfaaDoor
open Go.RowKit
set_option linter.unusedVariables false
set_option linter.unusedSimpArgs false
theorem encR_facts (l : List In) : (∀ c ∈ (encR l).1, 0 ≤ c ∧ c ≤ 255) ∧ (encR l).1.length ≤ 1048576 := by
  unfold encR
  split
  · simp
  · split
    · rename_i h1 h2
      exact ⟨encs_byte h2, by have := (encs_len h2).1; simp; omega⟩
    · simp
theorem over_set (X : List Int) (j : Nat) (u : Int) (h : j < X.length) : (List.replicate j u ++ X.drop j).set j u = List.replicate (j + 1) u ++ X.drop (j + 1) := by
  rw [List.set_append_right _ _ (by simp), List.length_replicate, Nat.sub_self, List.drop_eq_getElem_cons h, List.set_cons_zero, List.replicate_succ', List.append_assoc, List.singleton_append]
theorem drewB (W : World) (q : Nat) : Below W.heap.size W (W.drewN q) := below_drewN (Below.refl _ _) q
theorem getD_repl (u : Int) (m j : Nat) (h : j < m) : (List.replicate m u).getD j 0 = u := by simp [List.getD, List.getElem?_replicate, h]
theorem getD_app1 (u v : Int) (m k j : Nat) (h : j < m) : (List.replicate m u ++ List.replicate k v).getD j 0 = u := by
  simp only [List.getD]
  rw [List.getElem?_append_left (by simpa using h)]
  simp [List.getElem?_replicate, h]
theorem getD_app2 (u v : Int) (m k j : Nat) (h : ¬ j < m) (h2 : j < m + k) : (List.replicate m u ++ List.replicate k v).getD j 0 = v := by
  simp only [List.getD]
  rw [List.getElem?_append_right (by simp; omega)]
  simp [List.getElem?_replicate, show j - m < k by omega]
theorem m77_at (l : List In) (n j : Nat) (hl : l.length = n) (hj : j < 3) : (l ++ [m77, m77, m77]).getD (n + j) default = m77 := by
  simp only [List.getD]
  rw [List.getElem?_append_right (by omega), hl, show n + j - n = j by omega]
  rcases (show j = 0 ∨ j = 1 ∨ j = 2 by omega) with rfl | rfl | rfl <;> rfl
theorem own_some {w : World} {B n : Nat} {A : Option Addr} {c : Nat} {xs : List Int} (h : Own w B (.slice A n c) n xs) (h0 : 0 < n) : ∃ g, A = some ⟨g, 0, none⟩ := by
  rcases h.2 with ⟨_, q⟩ | ⟨g, cap, cur, e, _⟩
  · omega
  · injection e with e; exact ⟨g, e⟩
theorem owi_some {w : World} {B n : Nat} {A : Option Addr} {c : Nat} {D : List In} (h : OwI w B (.slice A n c) D) (h0 : 0 < D.length) : ∃ g, A = some ⟨g, 0, none⟩ := by
  rcases h.2 with ⟨_, q⟩ | ⟨g, cap, cur, e, _⟩
  · omega
  · injection e with e; exact ⟨g, e⟩
theorem allocB (W : World) (o : Obj) : Below W.heap.size W (W.alloc o) := (Below.refl _ _).alloc (Nat.le_refl _) _
theorem li_ot (W : World) : LI (W.alloc (.cells #[.int .i64 12, .int .i64 0, .int .i64 0, .int .i64 0, .int .i64 0, .int .i64 0] 24)) (some ⟨W.heap.size, 0, none⟩) 2 otL := by
  obtain ⟨a, c, e, h, _⟩ := own_li (own_litI W W.heap.size (Nat.le_refl _) otL (by decide) _ rfl) (by decide)
  injection e with e
  subst e
  exact h
theorem owi_cells {w : World} {B g n c : Nat} {D : List In} (h : OwI w B (.slice (some ⟨g, 0, none⟩) n c) D) (hn : D.length = n) (i : Nat) (hi : i < D.length) (hl : D.length ≤ 5864062014805) : NC w g (i * 3) (D.getD i default) ∧ w.frozen? ⟨g, i * 3, none⟩ = false ∧ w.frozen? ⟨g, i * 3 + 1, none⟩ = false ∧ w.frozen? ⟨g, i * 3 + 2, none⟩ = false := by
  subst hn
  refine ⟨?_, World.ownsRow.frozenAt h _, World.ownsRow.frozenAt h _, World.ownsRow.frozenAt h _⟩
  obtain ⟨a, c', e, h2, _⟩ := own_li h hl
  injection e with e
  subst e
  rcases h2.2.2 with q | ⟨b, o, e, _, hc⟩
  · omega
  · injection e with e
    injection e with e1 e2
    subst e1 e2
    have := hc i hi
    rwa [Nat.zero_add] at this
theorem getD_setI (D : List In) (i : Nat) (f : In) (h : i < D.length) : (D.set i f).getD i default = f := by simp [List.getD, h]
theorem getD_appI (D E : List In) (i : Nat) (h : i < D.length) : (D ++ E).getD i default = D.getD i default := by simp [List.getD, List.getElem?_append_left h]
set_option maxRecDepth 100000 in
set_option maxHeartbeats 8000000 in
theorem codeEncodes_go (a : Option Addr) (n cap : Nat) (l : List In) (w : World) (h : LI w a n l) (h0 : a = none → n = 0 ∧ cap = 0) (hn : n ≤ 5864062014634) (hR : Rws w) :
    Calls Tryd.prog 3 #[.slice a n cap] w fun e w' => e = .returned (.bool true) ∧ Below w.heap.size w w' := by
  have hl := h.1
  have mk := make_ins (n + 3) (by omega)
  simp only [Int.natCast_add, Int.cast_ofNat_Int] at mk
  obtain ⟨W2, cp, hB2, hR2⟩ := copy_ins a n cap l w h
  have B2 := Lib.hid hB2
  have R2 := Lib.hid hR2
  have HH := Lib.hid h
  have RR := Lib.hid hR
  have N0 := Lib.hid h0
  have HN := Lib.hid hl
  have NB := Lib.hid (p := n ≤ 5864062014805) (by omega)
  have n3 : IntKind.i64.wrap ((n : Int) + 3) = (n : Int) + 3 := by simp [IntKind.wrap, IntKind.bits, IntKind.signed]; omega
  obtain ⟨xb, xl⟩ := encR_facts l
  obtain ⟨yb, yl⟩ := encR_facts otL
  obtain ⟨zb, zl⟩ := encR_facts l.reverse
  have KE1 := Lib.hid (fun A c W q r => encode_any A n c l W q r)
  have KF1 := Lib.hid (fun A c W q => refEncode_any A n c l W q)
  have KE2 := Lib.hid (fun A c W q r => encode_any A 2 c otL W q r)
  have KF2 := Lib.hid (fun A c W q => refEncode_any A 2 c otL W q)
  have KE3 := Lib.hid (fun A c W q r => encode_any A n c l.reverse W q r)
  have KF3 := Lib.hid (fun A c W q => refEncode_any A n c l.reverse W q)
  unfold EncE at KE1 KF1 KE2 KF2 KE3 KF3
  generalize encR l = rx at *
  generalize encR otL = ry at *
  generalize encR l.reverse = rz at *
  obtain ⟨X, ex⟩ := rx
  obtain ⟨Y, ey⟩ := ry
  obtain ⟨Z, ez⟩ := rz
  simp only at xb xl yb yl zb zl KE1 KF1 KE2 KF2 KE3 KF3
  generalize hxn : X.length = xn at *
  generalize hyn : Y.length = yn at *
  generalize hzn : Z.length = zn at *
  have XB := Lib.hid xb
  have YB := Lib.hid yb
  have ZB := Lib.hid zb
  have XL := Lib.hid (p := xn ≤ 140737488355328) (by omega)
  have YL := Lib.hid (p := yn ≤ 140737488355328) (by omega)
  have ZL := Lib.hid (p := zn ≤ 140737488355328) (by omega)
  have XN := Lib.hid hxn
  have xl7 : IntKind.i64.wrap ((xn : Int) + 70) = (xn : Int) + 70 := by simp [IntKind.wrap, IntKind.bits, IntKind.signed]; omega
  have KS := Lib.hid (p := ∀ A A' m c c' xs W, BL W A m xs → BL W A' m xs → Calls Tryd.prog 7 #[.slice A m c, .slice A' m c'] W fun e w' => e = .returned (.bool true) ∧ ∃ q, w' = W.drewN q) (fun A A' m c c' xs W q q' => by
    have := same11_any A A' m m c c' xs xs W q q'
    simpa using this)
  have KC := Lib.hid (p := ∀ A A' c c' W, LI W A n l → LI W A' n l → Calls Tryd.prog 8 #[.slice A n c, .slice A' n c'] W fun e w' => e = .returned (.bool true) ∧ ∃ q, w' = W.drewN q) (fun A A' c c' W q q' => by
    have := sameCode_any A A' n n c c' l l W q q'
    simpa using this)
  clear h hB2 hR2 hR h0 xb yb zb hxn hyn hzn
  go_enter Tryd.func3, Tryd.ntmps3
  go_wp2
  clear mk cp
  go_loopw [4] (fun t wr => ∃ (j : Nat) (x y z : In), j ≤ 3 ∧ t = .int .i64 ((n : Int) + j) ∧ Below w.heap.size w wr ∧ RfI wr w.heap.size (l ++ [x, y, z]) ∧ (0 < j → x = m77) ∧ (1 < j → y = m77) ∧ (2 < j → z = m77)) (fun t _ => n + 3 - (intOf t).toNat)
  case atStart => exact ⟨0, zIn, zIn, zIn, by omega, by first | rfl | simp, B2.out, R2.out, fun h => absurd h (by omega), fun h => absurd h (by omega), fun h => absurd h (by omega)⟩
  case round =>
    rename World => wr
    obtain ⟨j, x, y, z, hj, rfl, hB, hR, hx, hy, hz⟩ := hrel
    have BB := Lib.hid hB
    have RI := Lib.hid hR
    by_cases hlt : j < 3
    · have len : (l ++ [x, y, z]).length = n + 3 := by simp [hl]
      obtain ⟨c0, c1, c2⟩ := hR.nc (n + j) (by omega)
      have f0 := World.ownsRow.frozenAt hR ((n + j) * 3)
      have f1 := World.ownsRow.frozenAt hR ((n + j) * 3 + 1)
      have f2 := World.ownsRow.frozenAt hR ((n + j) * 3 + 2)
      have R' := Lib.hid (RI.out.set (n + j) (by omega) m77)
      generalize (l ++ [x, y, z]).getD (n + j) default = old at *
      have kc : ((n : Int) + j) < (n : Int) + 3 := by omega
      have kw : IntKind.i64.wrap ((n : Int) + j + 1) = (n : Int) + j + 1 := by simp [IntKind.wrap, IntKind.bits, IntKind.signed]; omega
      have k0 : ¬ ((n : Int) + j) < 0 := by omega
      have kt : ((n : Int) + j).toNat = n + j := by omega
      have XX := Lib.hid hx
      have YY := Lib.hid hy
      have ZZ := Lib.hid hz
      clear hB hR hx hy hz
      go_wp2
      go_roundw
      case rel =>
        have BL := ((BB.out.setCell (p := ⟨w.heap.size, (n + j) * 3, none⟩) (by simp) (.int .i64 77)).setCell (p := ⟨w.heap.size, (n + j) * 3 + 1, none⟩) (by simp) (.int .i64 0)).setCell (p := ⟨w.heap.size, (n + j) * 3 + 2, none⟩) (by simp) (.int .i64 0)
        have RS := R'.out
        rw [List.set_append_right _ _ (by omega), hl, show n + j - n = j by omega] at RS
        rcases (show j = 0 ∨ j = 1 ∨ j = 2 by omega) with rfl | rfl | rfl
        · exact ⟨1, m77, y, z, by omega, by simp, BL, RS, fun _ => rfl, fun h => absurd h (by omega), fun h => absurd h (by omega)⟩
        · exact ⟨2, x, m77, z, by omega, by congr 1, BL, RS, fun _ => XX.out (by omega), fun _ => rfl, fun h => absurd h (by omega)⟩
        · exact ⟨3, x, y, m77, by omega, by congr 1, BL, RS, fun _ => XX.out (by omega), fun _ => YY.out (by omega), fun _ => rfl⟩
      case measure => simp [intOf]; omega
    · obtain rfl : j = 3 := by omega
      rw [hx (by omega), hy (by omega), hz (by omega)] at RI
      clear hB hR hx hy hz
      have Q1 : True := trivial
      have Q2 : True := trivial
      have Q3 : True := trivial
      have Q4 : True := trivial
      have Q5 : True := trivial
      have Q6 : True := trivial
      have Q7 : True := trivial
      go_wp2_with (first
        | (go_at_call 5; have qq := Q1; refine (KE1.out _ _ _ (li_rf RI.out n HN.out NB.out) (RR.out.below BB.out)).mono ?_; rintro e w1 ⟨v1, rfl, h1, h2⟩; have C1 := Lib.hid (show CE w w1 wr.heap.size w1.heap.size (l ++ [m77, m77, m77]) v1 xn X [] from ⟨BB.out.trans (h2.mono BB.out.size), row_keep RI.out h2, h1, fun k e => (h1.lt k e).2, RI.out.lt, h2.size, Nat.le_refl _, by simp⟩); obtain ⟨A1, d1, rfl⟩ := own_form h1; clear h1 h2 Q1)
        | (go_at_call 5; have qq := Q2; refine (KE2.out _ _ _ (li_ot w1) (RR.out.below (C1.out.bel.alloc C1.out.bel.size _))).mono ?_; rintro e w2 ⟨v2, rfl, h1, h2⟩; have C2 := Lib.hid (((C1.out.later (allocB w1 _)).later h2).add h1 (by simp)); obtain ⟨A2, d2, rfl⟩ := own_form h1; clear h1 h2 Q2)
        | (go_at_call 5; have qq := Q3; refine (KE1.out _ _ _ (li_rf C2.out.inn n HN.out NB.out) (RR.out.below C2.out.bel)).mono ?_; rintro e w3 ⟨v3, rfl, h1, h2⟩; have C3 := Lib.hid ((C2.out.later h2).add h1 C2.out.sz2); obtain ⟨A3, d3, rfl⟩ := own_form h1; clear h1 h2 Q3)
        | (go_at_call 6; have qq := Q4; refine (KF1.out _ _ _ (HH.out.later C3.out.bel)).mono ?_; rintro e w4 ⟨v4, rfl, h1, h2⟩; have C4 := Lib.hid ((C3.out.later h2).add h1 C3.out.sz2); obtain ⟨A4, d4, rfl⟩ := own_form h1; clear h1 h2 Q4)
        | (go_at_call 6; have qq := Q5; refine (KF2.out _ _ _ (li_ot w4)).mono ?_; rintro e w5 ⟨v5, rfl, h1, h2⟩; have C5 := Lib.hid (((C4.out.later (allocB w4 _)).later h2).add h1 (Nat.le_trans C4.out.sz2 (by simp))); obtain ⟨A5, d5, rfl⟩ := own_form h1; clear h1 h2 Q5)
        | (go_at_call 7; have qq := Q6; refine (KS.out _ _ _ _ _ X _ (own_bl C5.out.a XB.out XL.out).1 (own_bl (C5.out.rest (.slice A4 xn d4, xn, X) (by simp)) XB.out XL.out).1).mono ?_; rintro e w6 ⟨rfl, q, rfl⟩; have C6 := Lib.hid (C5.out.later (drewB _ q)); clear Q6)
        | (go_at_call 7; have qq := Q7; refine (KS.out _ _ _ _ _ X _ (own_bl (C6.out.rest (.slice A3 xn d3, xn, X) (by simp)) XB.out XL.out).1 (own_bl (C6.out.rest (.slice A4 xn d4, xn, X) (by simp)) XB.out XL.out).1).mono ?_; rintro e w7 ⟨rfl, q7, rfl⟩; have t7 := C6.out.later (drewB _ q7); rw [World.drewN_drewN] at t7; have C7 := Lib.hid t7; clear t7; clear Q7)
        | (go_at_call 7; refine (KS.out _ _ _ _ _ Y _ (own_bl (C7.out.rest (.slice A2 yn d2, yn, Y) (by simp)) YB.out YL.out).1 (own_bl (C7.out.rest (.slice A5 yn d5, yn, Y) (by simp)) YB.out YL.out).1).mono ?_; rintro e w8 ⟨rfl, q8, rfl⟩; have t8 := C7.out.later (drewB _ q8); rw [World.drewN_drewN] at t8; have C8 := Lib.hid t8; clear t8)
        | (go_at_call 8; refine (KC.out _ _ _ _ _ (li_rf C8.out.inn n HN.out NB.out) (HH.out.later C8.out.bel)).mono ?_; rintro e w9 ⟨rfl, q9, rfl⟩; have t9 := C8.out.later (drewB _ q9); rw [World.drewN_drewN] at t9; have C9 := Lib.hid t9; clear t9; clear C1 C2 C3 C4 C5 C6 C7 C8))
      generalize hW9 : World.drewN _ (q + q7 + q8 + q9) = W9 at *
      clear hW9
      obtain ⟨s1, hs1⟩ : ∃ s1, wr.heap.size = s1 := ⟨_, rfl⟩
      obtain ⟨s2, hs2⟩ : ∃ s2, w1.heap.size = s2 := ⟨_, rfl⟩
      rw [hs1, hs2] at C9
      clear hs1 hs2
      go_loopw [15] (fun t ws => ∃ j : Nat, j ≤ 3 ∧ t = .int .i64 ((n : Int) + j) ∧ CE w ws s1 s2 (l ++ [m77, m77, m77]) (.slice A1 xn d1) xn X [(.slice A5 yn d5, yn, Y), (.slice A4 xn d4, xn, X), (.slice A3 xn d3, xn, X), (.slice A2 yn d2, yn, Y)]) (fun t _ => n + 3 - (intOf t).toNat)
      case atStart => exact ⟨0, by omega, by first | rfl | simp, C9.out⟩
      case round =>
        rename World => ws
        clear C9
        obtain ⟨j, hj, rfl, hC⟩ := hrel
        have CC := Lib.hid hC
        by_cases hlt : j < 3
        · obtain ⟨c0, c1, c2⟩ := hC.inn.nc (n + j) (by simp [HN.out]; omega)
          rw [m77_at l n j HN.out hlt] at c0 c1 c2
          simp only [m77] at c0 c1 c2
          have kc : ((n : Int) + j) < (n : Int) + 3 := by omega
          have kw : IntKind.i64.wrap ((n : Int) + j + 1) = (n : Int) + j + 1 := by simp [IntKind.wrap, IntKind.bits, IntKind.signed]; omega
          have k0 : ¬ ((n : Int) + j) < 0 := by omega
          have kt : ((n : Int) + j).toNat = n + j := by omega
          clear hC
          go_wp2
          go_roundw
          case rel => exact ⟨j + 1, by omega, by first | rfl | (congr 1; omega) | (simp; omega), CC.out⟩
          case measure => simp [intOf]; omega
        · obtain rfl : j = 3 := by omega
          clear hC
          rw [show (((3 : Nat) : Int)) = 3 from rfl]
          go_wp2
          go_loopw [16] (fun t ws => ∃ j : Nat, j ≤ xn ∧ t = .int .i64 (j : Int) ∧ CE w ws s1 s2 (l ++ [m77, m77, m77]) (.slice A1 xn d1) xn (List.replicate j 238 ++ X.drop j) [(.slice A5 yn d5, yn, Y), (.slice A4 xn d4, xn, X), (.slice A3 xn d3, xn, X), (.slice A2 yn d2, yn, Y)]) (fun t _ => xn - (intOf t).toNat)
          case atStart => exact ⟨0, by omega, rfl, by simpa using CC.out⟩
          case round =>
            clear CC
            rename World => wt
            obtain ⟨j, hj, rfl, hC⟩ := hrel
            have CC := Lib.hid hC
            by_cases hlt : j < xn
            · obtain ⟨ga, rfl⟩ := own_some hC.a (by omega)
              obtain ⟨c1, c2⟩ := own_cell hC.a j hlt
              generalize (List.replicate j 238 ++ X.drop j).getD j 0 = old at c1
              have kc : (j : Int) < (xn : Int) := by omega
              clear hC
              go_wp2
              go_roundw
              case rel => exact ⟨j + 1, by omega, by go_num, CC.out.grown (World.ownsRow.stored CC.out.a j (.int .u8 238)).2 (by have := own_set CC.out.a j 238; rwa [over_set X j 238 (by rw [XN.out]; exact hlt)] at this)⟩
              case measure => simp [intOf]; omega
            · obtain rfl : j = xn := by omega
              have C10 := Lib.hid (p := CE w wt s1 s2 (l ++ [m77, m77, m77]) (.slice A1 j d1) j (List.replicate j 238) [(.slice A5 yn d5, yn, Y), (.slice A4 j d4, j, X), (.slice A3 j d3, j, X), (.slice A2 yn d2, yn, Y)]) (by
                have := CC.out
                rwa [List.drop_of_length_le (by rw [XN.out]; omega), List.append_nil] at this)
              clear hC CC
              go_wp2
              go_loopw [17, 18] (fun v t wu => ∃ k : Nat, k ≤ 70 ∧ t = .int .i64 (k : Int) ∧ Ext s1 wt (.slice A1 j d1) j (List.replicate j 238) wu v (j + k) (List.replicate j 238 ++ List.replicate k 239)) (fun _ t _ => 70 - (intOf t).toNat)
              case atStart => exact ⟨0, by omega, rfl, by simpa using Ext.start C10.out.a⟩
              case round =>
                rename World => wu
                obtain ⟨k, hk, rfl, hE⟩ := hrel
                have EE := Lib.hid hE
                have SZ := Lib.hid (p := s1 ≤ wu.heap.size) (Nat.le_trans (Nat.le_trans C10.out.s12 C10.out.sz2) hE.grown.size)
                clear hE
                by_cases hlt : k < 70
                · have kc : (k : Int) < 70 := by omega
                  go_wp2_with (at_builtin; refine wp_byteN _ _ rfl _ _ rfl s1 _ _ _ rfl _ (by simp) rfl EE.out.own (by omega) SZ.out ?_; intro v3 w3 h1; have E3 := Lib.hid (EE.out.step h1); clear h1)
                  go_roundw
                  case rel => exact ⟨k + 1, by omega, by go_num, by have := E3.out; rwa [List.append_assoc, ← List.replicate_succ', Nat.add_assoc] at this⟩
                  case measure => simp [intOf]; omega
                · obtain rfl : k = 70 := by omega
                  rw [show (((70 : Nat) : Int)) = 70 from rfl]
                  have C11 := Lib.hid (C10.out.grown EE.out.grown EE.out.old)
                  have G11 := Lib.hid EE.out.own
                  obtain ⟨gA, gc, hv⟩ := own_form EE.out.own
                  subst hv
                  clear C10 EE SZ
                  go_wp2_with (go_at_call 5; refine (KE1.out _ _ _ (li_rf C11.out.inn n HN.out NB.out) (RR.out.below C11.out.bel)).mono ?_; rintro e w12 ⟨v12, rfl, h1, h2⟩; have C12 := Lib.hid ((C11.out.later h2).add h1 C11.out.sz2); have G12 := Lib.hid (row_keep G11.out h2); obtain ⟨A6, d6, rfl⟩ := own_form h1; clear h1 h2 C11 G11)
                  obtain ⟨gg, rfl⟩ := own_some G12.out (by omega)
                  go_loopw [21] (fun t wv => ∃ m : Nat, m ≤ j + 70 ∧ t = .int .i64 (m : Int) ∧ CE w wv s1 s2 (l ++ [m77, m77, m77]) (.slice A1 j d1) j (List.replicate j 238) [(.slice A6 j d6, j, X), (.slice A5 yn d5, yn, Y), (.slice A4 j d4, j, X), (.slice A3 j d3, j, X), (.slice A2 yn d2, yn, Y)] ∧ Own wv s1 (.slice (some ⟨gg, 0, none⟩) (j + 70) gc) (j + 70) (List.replicate j 238 ++ List.replicate 70 239)) (fun t _ => j + 70 - (intOf t).toNat)
                  case atStart => exact ⟨0, by omega, rfl, C12.out, G12.out⟩
                  case round =>
                    clear C12 G12
                    rename World => wv
                    obtain ⟨m, hm, rfl, hC, hG⟩ := hrel
                    have CC := Lib.hid hC
                    have GG := Lib.hid hG
                    by_cases hlt : m < j + 70
                    · have kc : (m : Int) < (j : Int) + 70 := by omega
                      have kc' : m < j + 70 := hlt
                      obtain ⟨g1, g2⟩ := own_cell hG m hlt
                      by_cases hj2 : m < j
                      · obtain ⟨ga, rfl⟩ := own_some hC.a (by omega)
                        obtain ⟨c1, c2⟩ := own_cell hC.a m hj2
                        rw [getD_repl _ _ _ hj2] at c1
                        rw [getD_app1 _ _ _ _ _ hj2] at g1
                        have kj : (m : Int) < (j : Int) := by omega
                        clear hC hG
                        go_wp2
                        go_roundw
                        case rel => exact ⟨m + 1, by omega, by go_num, CC.out, GG.out⟩
                        case measure => simp [intOf]; omega
                      · rw [getD_app2 _ _ _ _ _ hj2 hlt] at g1
                        have kj : ¬ (m : Int) < (j : Int) := by omega
                        have kj2 : (j : Int) ≤ (m : Int) := by omega
                        clear hC hG
                        go_wp2
                        go_roundw
                        case rel => exact ⟨m + 1, by omega, by go_num, CC.out, GG.out⟩
                        case measure => simp [intOf]; omega
                    · obtain rfl : m = j + 70 := by omega
                      rw [show (((j + 70 : Nat) : Int)) = (j : Int) + 70 by omega]
                      clear hC hG GG
                      have Q1 : True := trivial
                      have Q2 : True := trivial
                      have NZ := Lib.hid (p := ([] : List In).length + n ≤ 5864062014805) (by simpa using NB.out)
                      go_wp2_with (first
                        | (go_at_call 7; have qq := Q1; refine (KS.out _ _ _ _ _ X _ (own_bl (CC.out.rest (.slice A6 j d6, j, X) (by simp)) XB.out XL.out).1 (own_bl (CC.out.rest (.slice A4 j d4, j, X) (by simp)) XB.out XL.out).1).mono ?_; rintro e w13 ⟨rfl, p1, rfl⟩; have D1 := Lib.hid (CC.out.later (drewB _ p1)); clear Q1)
                        | (go_at_call 7; have qq := Q2; refine (KS.out _ _ _ _ _ X _ (own_bl (D1.out.rest (.slice A3 j d3, j, X) (by simp)) XB.out XL.out).1 (own_bl (D1.out.rest (.slice A4 j d4, j, X) (by simp)) XB.out XL.out).1).mono ?_; rintro e w13 ⟨rfl, p2, rfl⟩; have t2 := D1.out.later (drewB _ p2); rw [World.drewN_drewN] at t2; have D2 := Lib.hid t2; clear t2 Q2)
                        | (go_at_call 7; refine (KS.out _ _ _ _ _ Y _ (own_bl (D2.out.rest (.slice A2 yn d2, yn, Y) (by simp)) YB.out YL.out).1 (own_bl (D2.out.rest (.slice A5 yn d5, yn, Y) (by simp)) YB.out YL.out).1).mono ?_; rintro e w13 ⟨rfl, p3, rfl⟩; have t3 := D2.out.later (drewB _ p3); rw [World.drewN_drewN] at t3; have D3 := Lib.hid t3; clear t3)
                        | (at_builtin; refine wp_joinI _ rfl _ _ rfl wv.heap.size _ [] rfl _ _ _ l rfl (own_litZ (wv.drewN (p1 + p2 + p3))) ((HH.out.later D3.out.bel).later (allocB _ _)) N0.out NZ.out (by simp) ?_; intro v14 w14 o14 g14; have F0 := Lib.hid (D3.out.turn o14 (gr_trans (below_gr' (allocB _ _) _) g14) (fun k e => Nat.le_of_eq (Option.some.inj e))); obtain ⟨A7, d7, hv7, _, _, _⟩ := own_liN o14 HN.out NB.out; subst hv7; clear o14 g14 D1 D2 D3))
                      obtain ⟨s3, hs3⟩ : ∃ s3, (wv.drewN (p1 + p2 + p3)).heap.size = s3 := ⟨_, rfl⟩
                      rw [hs3, List.nil_append] at F0
                      clear hs3 CC
                      go_loopw [23] (fun t wy => ∃ m : Nat, m ≤ n ∧ t = .int .i64 (m : Int) ∧ CF w wy s2 s3 (midL l m ++ [m77, m77, m77]) (.slice A7 n d7) (midL l m) [(.slice A6 j d6, j, X), (.slice A5 yn d5, yn, Y), (.slice A4 j d4, j, X), (.slice A3 j d3, j, X), (.slice A2 yn d2, yn, Y)]) (fun t _ => n - (intOf t).toNat)
                      case atStart => exact ⟨0, by omega, rfl, by rw [midL_zero]; exact F0.out⟩
                      case round =>
                        clear F0
                        rename World => wy
                        obtain ⟨m, hm, rfl, hC⟩ := hrel
                        have CC := Lib.hid hC
                        have ML := Lib.hid (p := (midL l m).length = n) (by rw [midL_len _ _ (by rw [HN.out]; exact hm)]; exact HN.out)
                        by_cases hlt : m < n
                        · obtain ⟨gd, rfl⟩ := owi_some hC.d (by rw [ML.out]; omega)
                          obtain ⟨r0, r1⟩ : ∃ r : Nat, n - 1 - m = r := ⟨_, rfl⟩
                          have rn : r0 < n := by omega
                          obtain ⟨b, o, rfl, hb, hc⟩ : ∃ b o, a = some ⟨b, o, none⟩ ∧ b < w.heap.size ∧ ∀ i, i < n → NC w b (o + i * 3) (l.getD i default) := by
                            rcases HH.out.2.2 with q | q
                            · omega
                            · exact q
                          obtain ⟨e0, e1, e2⟩ := (hc r0 rn).later hC.bel hb
                          have NX := Lib.hid (p := (midL l m).set m (l.getD r0 default) = midL l (m + 1)) (by
                            have := midL_next l m (by rw [HN.out]; exact hlt)
                            rwa [HN.out, r1] at this)
                          generalize l.getD r0 default = f at *
                          obtain ⟨fo, fa, fb⟩ := f
                          simp only at e0 e1 e2
                          obtain ⟨⟨c0, c1, c2⟩, z0, z1, z2⟩ := owi_cells hC.d ML.out m (by rw [ML.out]; exact hlt) (by rw [ML.out]; exact NB.out)
                          generalize (midL l m).getD m default = old at *
                          have C' := hC.setD m (by rw [ML.out]; exact hlt) ⟨fo, fa, fb⟩
                          rw [NX.out] at C'
                          have ML' : (midL l (m + 1)).length = n := by rw [midL_len _ _ (by rw [HN.out]; omega)]; exact HN.out
                          obtain ⟨⟨g0, g1, g2⟩, _, _, _⟩ := owi_cells C'.d ML' m (by rw [ML']; exact hlt) (by rw [ML']; exact NB.out)
                          have gf : (midL l (m + 1)).getD m default = ⟨fo, fa, fb⟩ := by rw [← NX.out]; exact getD_setI _ _ _ (by rw [ML.out]; exact hlt)
                          rw [gf] at g0 g1 g2
                          simp only at g0 g1 g2
                          obtain ⟨i0, i1, i2⟩ := C'.inn.nc m (by simp [ML.out]; omega)
                          have y0 := World.ownsRow.frozenAt C'.inn (m * 3)
                          have y1 := World.ownsRow.frozenAt C'.inn (m * 3 + 1)
                          have y2 := World.ownsRow.frozenAt C'.inn (m * 3 + 2)
                          generalize (midL l m ++ [m77, m77, m77]).getD m default = old2 at *
                          have CX := Lib.hid (C'.setI m (by simp [ML.out]; omega) ⟨fo, fa, fb⟩)
                          rw [List.set_append_left _ _ (by rw [ML.out]; exact hlt), NX.out] at CX
                          have k1 : IntKind.i64.wrap ((n : Int) - 1) = (n : Int) - 1 := by simp [IntKind.wrap, IntKind.bits, IntKind.signed]; omega
                          have k2 : IntKind.i64.wrap ((n : Int) - 1 - (m : Int)) = (r0 : Int) := by simp [IntKind.wrap, IntKind.bits, IntKind.signed]; omega
                          have k2' : (n : Int) - 1 - (m : Int) = (r0 : Int) := by omega
                          have k3 : (r0 : Int) < (n : Int) := by omega
                          have kc : (m : Int) < (n : Int) := by omega
                          have kc3 : m < n + 3 := by omega
                          have kc4 : (m : Int) < (n : Int) + 3 := by omega
                          clear hC hc C' gf ML'
                          go_wp2
                          go_roundw
                          case rel => exact ⟨m + 1, by omega, by go_num, CX.out⟩
                          case measure => simp [intOf]; omega
                        · obtain rfl : m = n := by omega
                          have FA := Lib.hid (p := CF w wy s2 s3 (l.reverse ++ [m77, m77, m77]) (.slice A7 m d7) l.reverse [(.slice A6 j d6, j, X), (.slice A5 yn d5, yn, Y), (.slice A4 j d4, j, X), (.slice A3 j d3, j, X), (.slice A2 yn d2, yn, Y)]) (by
                            have := hC
                            have e := midL_all l
                            rw [HN.out] at e
                            rwa [e] at this)
                          have RN := Lib.hid (p := l.reverse.length = m) (by simpa using HN.out)
                          obtain ⟨A8, c8, hv8, hl8, _, _⟩ := own_liN FA.out.d RN.out NB.out
                          injection hv8 with hv8 _ hv9
                          subst hv8 hv9
                          have LD := Lib.hid hl8
                          clear hC CC hl8
                          have Q1 : True := trivial
                          go_wp2_with (first
                            | (go_at_call 5; refine (KE3.out _ _ _ (li_rf FA.out.inn m RN.out NB.out) (RR.out.below FA.out.bel)).mono ?_; rintro e w20 ⟨v20, rfl, h1, h2⟩; have F1 := Lib.hid (FA.out.later h2); have LD1 := Lib.hid (LD.out.later h2); have O1 := Lib.hid h1; obtain ⟨A9, d9, rfl⟩ := own_form h1; clear h1 h2)
                            | (go_at_call 6; refine (KF3.out _ _ _ LD1.out).mono ?_; rintro e w21 ⟨v21, rfl, h1, h2⟩; have F2 := Lib.hid (F1.out.later h2); have O2 := Lib.hid (row_keep O1.out h2); have P2 := Lib.hid h1; obtain ⟨A10, d10, rfl⟩ := own_form h1; clear h1 h2)
                            | (go_at_call 7; have qq := Q1; refine (KS.out _ _ _ _ _ Z _ (own_bl O2.out ZB.out ZL.out).1 (own_bl P2.out ZB.out ZL.out).1).mono ?_; rintro e w22 ⟨rfl, u1, rfl⟩; have F3 := Lib.hid (F2.out.later (drewB _ u1)); clear Q1)
                            | (go_at_call 7; refine (KS.out _ _ _ _ _ X _ (own_bl (F3.out.rest (.slice A3 j d3, j, X) (by simp)).1 XB.out XL.out).1 (own_bl (F3.out.rest (.slice A4 j d4, j, X) (by simp)).1 XB.out XL.out).1).mono ?_; rintro e w23 ⟨rfl, u2, rfl⟩; have t4 := F3.out.later (drewB _ u2); rw [World.drewN_drewN] at t4; have F4 := Lib.hid t4; clear t4))
                          go_ret
                          exact ⟨rfl, F4.out.bel⟩
end Go.Proofs.YtdbjdieegocdfaaDoor
