/-
  THE STATEMENT CodeDecodes.
-/
import Derived.Test.YtdbjdieegocdfaaDoorWCodeV
namespace Go.Proofs.YtdbjdieegocdfaaDoor
open Go.RowKit
set_option linter.unusedVariables false
set_option linter.unusedSimpArgs false
theorem owi_form {w : World} {B N : Nat} {v : Value} {l : List In} (h : OwI w B v l) (hN : l.length = N) : ∃ a cap, v = .slice a N cap := by
  subst hN
  rcases h.2 with ⟨q, q0⟩ | ⟨g, c, cur, q, _⟩
  · exact ⟨none, 0, by rw [q, q0]⟩
  · exact ⟨_, c, q⟩
theorem owi_li {w : World} {B N : Nat} {A : Option Addr} {c : Nat} {l : List In} (h : OwI w B (.slice A N c) l) (hN : l.length = N) (hl : N ≤ 5864062014805) : LI w A N l := by
  obtain ⟨a', c', e, h2, _⟩ := own_liN h hN hl
  injection e with e
  subst e
  exact h2
set_option maxRecDepth 100000 in
set_option maxHeartbeats 8000000 in
theorem codeDecodes_go (a : Option Addr) (n cap : Nat) (xs : List Int) (cnt : Int) (w : World) (h : Sl w a n cap xs) (hn : n ≤ 140737488351232) (hR : Rws w) :
    Calls Tryd.prog 4 #[.slice a n cap, .int .i64 cnt] w fun e w' => e = .returned (.bool true) ∧ Below w.heap.size w w' := by
  have hl := h.1.1
  have hby := h.1.2.2.1
  have mk := make_bytes (n + 8) (by omega)
  simp only [Int.natCast_add, Int.cast_ofNat_Int] at mk
  have B0 := (Below.refl w.heap.size w).alloc (Nat.le_refl _) (.cells (bcs (List.replicate (n + 8) 0)).toArray 5)
  obtain ⟨w1, cp, o1, g1⟩ := copy_bytes (w.alloc (.cells (bcs (List.replicate (n + 8) 0)).toArray 5)) w.heap.size w.heap.size n (n + 8) (n + 8) (List.replicate (n + 8) 0) a cap xs (made_own w (n + 8) (by omega) _ (Nat.le_refl _) _ (by simp)) (h.1.later B0) (fun e => (h.2.1 e).1) (by omega)
  rw [mk8_zero] at o1
  have O1 := Lib.hid o1
  have B1 := Lib.hid (B0.trans (gr_out g1 (Nat.le_refl _) (by simp)))
  have HH := Lib.hid h
  have RR := Lib.hid hR
  have HN := Lib.hid hl
  have HB := Lib.hid hby
  have NB := Lib.hid (p := n + 8 ≤ 140737488355328) (by omega)
  have n8 : IntKind.i64.wrap ((n : Int) + 8) = (n : Int) + 8 := by simp [IntKind.wrap, IntKind.bits, IntKind.signed]; omega
  have rby : ∀ c ∈ xs.reverse, 0 ≤ c ∧ c ≤ 255 := fun c hc => hby c (by simpa using hc)
  have RBy := Lib.hid rby
  have xl := decA_facts xs cnt hby
  have zl := decA_facts xs.reverse cnt rby
  have KD1 := Lib.hid (p := ∀ A c W, BL W A n xs → (A = none → n = 0) → Rws W → Calls Tryd.prog 9 #[.slice A n c, .int .i64 cnt] W fun e w' => ∃ v', e = .returned (.tuple #[v', .int .i64 ((decA xs cnt).2.2 : Int), .int .i64 (decA xs cnt).2.1]) ∧ OwI w' W.heap.size v' (decA xs cnt).1 ∧ Below W.heap.size W w') (fun A c W q q0 r => by
    refine (decode_any A n c xs cnt W q q0 r).mono ?_
    rintro e w' ⟨⟨v', h1, h2⟩, h3⟩
    exact ⟨v', h1, h2, h3⟩)
  have KF1 := Lib.hid (p := ∀ A c W, Sl W A n c xs → Calls Tryd.prog 10 #[.slice A n c, .int .i64 cnt] W fun e w' => ∃ v', e = .returned (.tuple #[v', .int .i64 ((decA xs cnt).2.2 : Int), .int .i64 (decA xs cnt).2.1]) ∧ OwI w' W.heap.size v' (decA xs cnt).1 ∧ Below W.heap.size W w') (fun A c W q => by
    refine (refDecode_any A n c xs cnt W q).mono ?_
    rintro e w' ⟨⟨v', h1, h2⟩, h3⟩
    exact ⟨v', h1, h2, h3⟩)
  have KD2 := Lib.hid (p := ∀ A c W, BL W A n xs.reverse → (A = none → n = 0) → Rws W → Calls Tryd.prog 9 #[.slice A n c, .int .i64 cnt] W fun e w' => ∃ v', e = .returned (.tuple #[v', .int .i64 ((decA xs.reverse cnt).2.2 : Int), .int .i64 (decA xs.reverse cnt).2.1]) ∧ OwI w' W.heap.size v' (decA xs.reverse cnt).1 ∧ Below W.heap.size W w') (fun A c W q q0 r => by
    refine (decode_any A n c xs.reverse cnt W q q0 r).mono ?_
    rintro e w' ⟨⟨v', h1, h2⟩, h3⟩
    exact ⟨v', h1, h2, h3⟩)
  have KF2 := Lib.hid (p := ∀ A c W, Sl W A n c xs.reverse → Calls Tryd.prog 10 #[.slice A n c, .int .i64 cnt] W fun e w' => ∃ v', e = .returned (.tuple #[v', .int .i64 ((decA xs.reverse cnt).2.2 : Int), .int .i64 (decA xs.reverse cnt).2.1]) ∧ OwI w' W.heap.size v' (decA xs.reverse cnt).1 ∧ Below W.heap.size W w') (fun A c W q => by
    refine (refDecode_any A n c xs.reverse cnt W q).mono ?_
    rintro e w' ⟨⟨v', h1, h2⟩, h3⟩
    exact ⟨v', h1, h2, h3⟩)
  generalize decA xs cnt = rx at *
  generalize decA xs.reverse cnt = rz at *
  obtain ⟨X, ex, px⟩ := rx
  obtain ⟨Z, ez, pz⟩ := rz
  simp only at xl zl KD1 KF1 KD2 KF2
  generalize hxn : X.length = xn at *
  generalize hzn : Z.length = zn at *
  have XL := Lib.hid (p := xn ≤ 5864062014805) (by omega)
  have ZL := Lib.hid (p := zn ≤ 5864062014805) (by omega)
  have XN := Lib.hid hxn
  have ZN := Lib.hid hzn
  have xl7 : IntKind.i64.wrap ((xn : Int) + 70) = (xn : Int) + 70 := by simp [IntKind.wrap, IntKind.bits, IntKind.signed]; omega
  have KS := Lib.hid (p := ∀ A A' c c' W, BL W A n xs → BL W A' n xs → Calls Tryd.prog 7 #[.slice A n c, .slice A' n c'] W fun e w' => e = .returned (.bool true) ∧ ∃ q, w' = W.drewN q) (fun A A' c c' W q q' => by
    have := same11_any A A' n n c c' xs xs W q q'
    simpa using this)
  have KC := Lib.hid (p := ∀ A A' m c c' l W, LI W A m l → LI W A' m l → Calls Tryd.prog 8 #[.slice A m c, .slice A' m c'] W fun e w' => e = .returned (.bool true) ∧ ∃ q, w' = W.drewN q) (fun A A' m c c' l W q q' => by
    have := sameCode_any A A' m m c c' l l W q q'
    simpa using this)
  clear h B0 o1 g1 hR hby rby hxn hzn
  go_enter Tryd.func4, Tryd.ntmps4
  go_wp2
  clear mk cp
  go_loopw [6] (fun t wr => ∃ k : Nat, k ≤ 8 ∧ t = .int .i64 (k : Int) ∧ Below w.heap.size w wr ∧ Own wr w.heap.size (.slice (some ⟨w.heap.size, 0, none⟩) (n + 8) (n + 8)) (n + 8) (xs ++ mk8 k)) (fun t _ => 8 - (intOf t).toNat)
  case atStart => exact ⟨0, by omega, rfl, B1.out, O1.out⟩
  case round =>
    clear B1 O1
    rename World => wr
    obtain ⟨k, hk, rfl, hB, hO⟩ := hrel
    have BB := Lib.hid hB
    have OO := Lib.hid hO
    by_cases hlt : k < 8
    · have kc : (k : Int) < 8 := by omega
      obtain ⟨c1, c2⟩ := own_cell hO (n + k) (by omega)
      have i1 : IntKind.i64.wrap ((n : Int) + k) = (n : Int) + k := by simp [IntKind.wrap, IntKind.bits, IntKind.signed]; omega
      have i2 : ((n : Int) + k).toNat = n + k := by omega
      have i3 : ¬ ((n : Int) + k) < 0 := by omega
      have i4 : ((n : Int) + k) < (n : Int) + 8 := by omega
      have i5 : n + k < n + 8 := by omega
      have i6 : IntKind.i64.wrap (9 * (k : Int)) = 9 * (k : Int) := by simp [IntKind.wrap, IntKind.bits, IntKind.signed]; omega
      have i7 : IntKind.u8.wrap (9 * (k : Int)) = 9 * (k : Int) := by simp [IntKind.wrap, IntKind.bits, IntKind.signed]; omega
      generalize (xs ++ mk8 k).getD (n + k) 0 = old at c1
      clear hB hO
      go_wp2
      go_roundw
      case rel =>
        refine ⟨k + 1, by omega, by go_num, BB.out.setCell (by simp) _, ?_⟩
        have := own_set OO.out (n + k) (9 * (k : Int))
        rwa [List.set_append_right _ _ (by rw [HN.out]; omega), HN.out, show n + k - n = k by omega, mk8_set k hlt] at this
      case measure => simp [intOf]; omega
    · obtain rfl : k = 8 := by omega
      rw [show (((8 : Nat) : Int)) = 8 from rfl]
      clear hB hO
      have Q1 : True := trivial
      have Q2 : True := trivial
      have Q3 : True := trivial
      go_wp2_with (first
        | (go_at_call 9; have qq := Q1; refine (KD1.out _ _ _ (bl_in OO.out HN.out HB.out NB.out) (fun e => by cases e) (RR.out.below BB.out)).mono ?_; rintro e w2 ⟨v1, rfl, h1, h2⟩; have C1 := Lib.hid (show CG w w2 wr.heap.size w2.heap.size n (xs ++ mk8 8) v1 X [] from ⟨BB.out.trans (h2.mono BB.out.size), row_keep OO.out h2, h1, fun k e => (World.ownsRow.lt h1 k e).2, (World.ownsRow.lt OO.out _ rfl).2, h2.size, Nat.le_refl _, by simp⟩); obtain ⟨A1, d1, rfl⟩ := owi_form h1 XN.out; clear h1 h2 Q1)
        | (go_at_call 9; have qq := Q2; refine (KD1.out _ _ _ (bl_in C1.out.inn HN.out HB.out NB.out) (fun e => by cases e) (RR.out.below C1.out.bel)).mono ?_; rintro e w3 ⟨v2, rfl, h1, h2⟩; have C2 := Lib.hid ((C1.out.later h2).add h1 (Nat.le_refl _)); obtain ⟨A2, d2, rfl⟩ := owi_form h1 XN.out; clear h1 h2 Q2)
        | (go_at_call 10; refine (KF1.out _ _ _ (HH.out.later C2.out.bel)).mono ?_; rintro e w4 ⟨v3, rfl, h1, h2⟩; have C3 := Lib.hid ((C2.out.later h2).add h1 C2.out.sz2); obtain ⟨A3, d3, rfl⟩ := owi_form h1 XN.out; clear h1 h2)
        | (go_at_call 8; have qq := Q3; refine (KC.out _ _ _ _ _ X _ (owi_li C3.out.a XN.out XL.out) (owi_li (C3.out.rest (.slice A3 xn d3, X) (by simp)) XN.out XL.out)).mono ?_; rintro e w5 ⟨rfl, q, rfl⟩; have C4 := Lib.hid (C3.out.later (drewB _ q)); clear Q3)
        | (go_at_call 8; refine (KC.out _ _ _ _ _ X _ (owi_li (C4.out.rest (.slice A2 xn d2, X) (by simp)) XN.out XL.out) (owi_li (C4.out.rest (.slice A3 xn d3, X) (by simp)) XN.out XL.out)).mono ?_; rintro e w5 ⟨rfl, q5, rfl⟩; have t5 := C4.out.later (drewB _ q5); rw [World.drewN_drewN] at t5; have C5 := Lib.hid t5; clear t5)
        | (go_at_call 7; refine (KS.out _ _ _ _ _ (bl_in C5.out.inn HN.out HB.out NB.out) (HH.out.1.later C5.out.bel)).mono ?_; rintro e w6 ⟨rfl, q6, rfl⟩; have t6 := C5.out.later (drewB _ q6); rw [World.drewN_drewN] at t6; have C6 := Lib.hid t6; clear t6 C1 C2 C3 C4 C5))
      generalize hW9 : World.drewN _ (q + q5 + q6) = W9 at *
      clear hW9
      obtain ⟨s1, hs1⟩ : ∃ s1, wr.heap.size = s1 := ⟨_, rfl⟩
      obtain ⟨s2, hs2⟩ : ∃ s2, w2.heap.size = s2 := ⟨_, rfl⟩
      rw [hs1, hs2] at C6
      clear hs1 hs2
      go_loopw [16] (fun t ws => ∃ j : Nat, j ≤ 8 ∧ t = .int .i64 (j : Int) ∧ CG w ws s1 s2 n (xs ++ mk8 8) (.slice A1 xn d1) X [(.slice A3 xn d3, X), (.slice A2 xn d2, X)]) (fun t _ => 8 - (intOf t).toNat)
      case atStart => exact ⟨0, by omega, rfl, C6.out⟩
      case round =>
        rename World => ws
        clear C6
        obtain ⟨j, hj, rfl, hC⟩ := hrel
        have CC := Lib.hid hC
        by_cases hlt : j < 8
        · have kc : (j : Int) < 8 := by omega
          obtain ⟨c1, c2⟩ := own_cell hC.inn (n + j) (by omega)
          rw [mk8_at xs n j HN.out hlt] at c1
          have i1 : IntKind.i64.wrap ((n : Int) + j) = (n : Int) + j := by simp [IntKind.wrap, IntKind.bits, IntKind.signed]; omega
          have i2 : ((n : Int) + j).toNat = n + j := by omega
          have i3 : ¬ ((n : Int) + j) < 0 := by omega
          have i4 : ((n : Int) + j) < (n : Int) + 8 := by omega
          have i5 : n + j < n + 8 := by omega
          have i6 : IntKind.i64.wrap (9 * (j : Int)) = 9 * (j : Int) := by simp [IntKind.wrap, IntKind.bits, IntKind.signed]; omega
          have i7 : IntKind.u8.wrap (9 * (j : Int)) = 9 * (j : Int) := by simp [IntKind.wrap, IntKind.bits, IntKind.signed]; omega
          clear hC
          go_wp2
          go_roundw
          case rel => exact ⟨j + 1, by omega, by go_num, CC.out⟩
          case measure => simp [intOf]; omega
        · obtain rfl : j = 8 := by omega
          rw [show (((8 : Nat) : Int)) = 8 from rfl]
          clear hC
          go_wp2
          go_loopw [17] (fun t ws => ∃ j : Nat, j ≤ xn ∧ t = .int .i64 (j : Int) ∧ CG w ws s1 s2 n (xs ++ mk8 8) (.slice A1 xn d1) (List.replicate j m77 ++ X.drop j) [(.slice A3 xn d3, X), (.slice A2 xn d2, X)]) (fun t _ => xn - (intOf t).toNat)
          case atStart => exact ⟨0, by omega, rfl, by simpa using CC.out⟩
          case round =>
            clear CC
            rename World => wt
            obtain ⟨j, hj, rfl, hC⟩ := hrel
            have CC := Lib.hid hC
            by_cases hlt : j < xn
            · have hL : (List.replicate j m77 ++ X.drop j).length = xn := by simp [XN.out]; omega
              obtain ⟨ga, rfl⟩ := owi_some hC.a (by omega)
              obtain ⟨⟨c0, c1, c2⟩, z0, z1, z2⟩ := owi_cells hC.a hL j (by omega) (by rw [hL]; exact XL.out)
              have ST := owi_set hC.a j (by omega) m77
              rw [over_setI X j m77 (by rw [XN.out]; exact hlt)] at ST
              have SS := Lib.hid ST
              generalize (List.replicate j m77 ++ X.drop j).getD j default = old at *
              have kc : (j : Int) < (xn : Int) := by omega
              clear hC ST
              go_wp2
              go_roundw
              case rel => exact ⟨j + 1, by omega, by go_num, CC.out.grown SS.out.2 SS.out.1⟩
              case measure => simp [intOf]; omega
            · obtain rfl : j = xn := by omega
              have C10 := Lib.hid (p := CG w wt s1 s2 n (xs ++ mk8 8) (.slice A1 j d1) (List.replicate j m77) [(.slice A3 j d3, X), (.slice A2 j d2, X)]) (by
                have := CC.out
                rwa [List.drop_of_length_le (by rw [XN.out]; omega), List.append_nil] at this)
              clear hC CC
              go_wp2
              go_loopw [18, 19] (fun v t wu => ∃ k : Nat, k ≤ 70 ∧ t = .int .i64 (k : Int) ∧ ExtI s1 wt (.slice A1 j d1) (List.replicate j m77) wu v (List.replicate j m77 ++ List.replicate k m78)) (fun _ t _ => 70 - (intOf t).toNat)
              case atStart => exact ⟨0, by omega, rfl, by simpa using ExtI.start C10.out.a⟩
              case round =>
                rename World => wu
                obtain ⟨k, hk, rfl, hE⟩ := hrel
                have EE := Lib.hid hE
                have SZ := Lib.hid (p := s1 ≤ wu.heap.size) (Nat.le_trans (Nat.le_trans C10.out.s12 C10.out.sz2) hE.grown.size)
                clear hE
                by_cases hlt : k < 70
                · have kc : (k : Int) < 70 := by omega
                  have LN := Lib.hid (p := (List.replicate j m77 ++ List.replicate k m78).length ≤ 5864062014804) (by simp; omega)
                  go_wp2_with (at_builtin; refine wp_instrK _ m78 rfl _ _ rfl s1 _ _ rfl _ (by simp) rfl EE.out.own LN.out SZ.out _ rfl ?_; intro v3 w3 h1; have E3 := Lib.hid (EE.out.step h1); clear h1)
                  go_roundw
                  case rel => exact ⟨k + 1, by omega, by go_num, by have := E3.out; rwa [List.append_assoc, ← List.replicate_succ'] at this⟩
                  case measure => simp [intOf]; omega
                · obtain rfl : k = 70 := by omega
                  rw [show (((70 : Nat) : Int)) = 70 from rfl]
                  have C11 := Lib.hid (C10.out.grown EE.out.grown EE.out.old)
                  have G11 := Lib.hid EE.out.own
                  have GL := Lib.hid (p := (List.replicate j m77 ++ List.replicate 70 m78).length = j + 70) (by simp)
                  obtain ⟨gA, gc, hv⟩ := owi_form EE.out.own GL.out
                  subst hv
                  clear C10 EE SZ
                  go_wp2_with (go_at_call 9; refine (KD1.out _ _ _ (bl_in C11.out.inn HN.out HB.out NB.out) (fun e => by cases e) (RR.out.below C11.out.bel)).mono ?_; rintro e w12 ⟨v12, rfl, h1, h2⟩; have C12 := Lib.hid ((C11.out.later h2).add h1 C11.out.sz2); have G12 := Lib.hid (owi_keep G11.out h2); obtain ⟨A6, d6, rfl⟩ := owi_form h1 XN.out; clear h1 h2 C11 G11)
                  obtain ⟨gg, rfl⟩ := owi_some G12.out (by rw [GL.out]; omega)
                  go_loopw [23] (fun t wv => ∃ m : Nat, m ≤ j + 70 ∧ t = .int .i64 (m : Int) ∧ CG w wv s1 s2 n (xs ++ mk8 8) (.slice A1 j d1) (List.replicate j m77) [(.slice A6 j d6, X), (.slice A3 j d3, X), (.slice A2 j d2, X)] ∧ OwI wv s1 (.slice (some ⟨gg, 0, none⟩) (j + 70) gc) (List.replicate j m77 ++ List.replicate 70 m78)) (fun t _ => j + 70 - (intOf t).toNat)
                  case atStart => exact ⟨0, by omega, rfl, C12.out, G12.out⟩
                  case round =>
                    clear C12 G12
                    rename World => wv
                    obtain ⟨m, hm, rfl, hC, hG⟩ := hrel
                    have CC := Lib.hid hC
                    have GG := Lib.hid hG
                    by_cases hlt : m < j + 70
                    · have kc : (m : Int) < (j : Int) + 70 := by omega
                      have kc' : m < j + 70 := hlt
                      obtain ⟨⟨g1, _, _⟩, _⟩ := owi_cells hG GL.out m (by rw [GL.out]; exact hlt) (by rw [GL.out]; omega)
                      by_cases hj2 : m < j
                      · obtain ⟨ga, rfl⟩ := owi_some hC.a (by simp; omega)
                        obtain ⟨⟨c1, _, _⟩, _⟩ := owi_cells hC.a (by simp) m (by simpa using hj2) (by simpa using XL.out)
                        rw [getD_replI _ _ _ hj2] at c1
                        rw [getD_app1I _ _ _ _ _ hj2] at g1
                        simp only [m77] at c1 g1
                        have kj : (m : Int) < (j : Int) := by omega
                        clear hC hG
                        go_wp2
                        go_roundw
                        case rel => exact ⟨m + 1, by omega, by go_num, CC.out, GG.out⟩
                        case measure => simp [intOf]; omega
                      · rw [getD_app2I _ _ _ _ _ hj2 hlt] at g1
                        simp only [m78] at g1
                        have kj : ¬ (m : Int) < (j : Int) := by omega
                        have kj2 : (j : Int) ≤ (m : Int) := by omega
                        clear hC hG
                        go_wp2
                        go_roundw
                        case rel => exact ⟨m + 1, by omega, by go_num, CC.out, GG.out⟩
                        case measure => simp [intOf]; omega
                    · obtain rfl : m = j + 70 := by omega
                      rw [show (((j + 70 : Nat) : Int)) = (j : Int) + 70 by omega]
                      clear hC hG GG
                      have Q1 : True := trivial
                      have NZ := Lib.hid (p := 0 + n ≤ 140737488355000) (by omega)
                      have Z0 := Lib.hid (p := 0 + n = n) (by omega)
                      go_wp2_with (first
                        | (go_at_call 8; have qq := Q1; refine (KC.out _ _ _ _ _ X _ (owi_li (CC.out.rest (.slice A6 j d6, X) (by simp)) XN.out XL.out) (owi_li (CC.out.rest (.slice A3 j d3, X) (by simp)) XN.out XL.out)).mono ?_; rintro e w13 ⟨rfl, p1, rfl⟩; have D1 := Lib.hid (CC.out.later (drewB _ p1)); clear Q1)
                        | (go_at_call 8; refine (KC.out _ _ _ _ _ X _ (owi_li (D1.out.rest (.slice A2 j d2, X) (by simp)) XN.out XL.out) (owi_li (D1.out.rest (.slice A3 j d3, X) (by simp)) XN.out XL.out)).mono ?_; rintro e w13 ⟨rfl, p2, rfl⟩; have t2 := D1.out.later (drewB _ p2); rw [World.drewN_drewN] at t2; have D2 := Lib.hid t2; clear t2)
                        | (at_builtin; refine wp_joinB _ rfl _ _ rfl wv.heap.size _ _ _ rfl _ _ _ _ rfl (own_litB (wv.drewN (p1 + p2))) ((HH.out.later D2.out.bel).later (allocB _ _)).1 HH.out.2.1 (by have := NZ.out; omega) (by simp) ?_; intro v14 w14 o14; have o15 := o14.own; rw [Z0.out, List.nil_append] at o15; have F0 := Lib.hid (D2.out.turn o15 (gr_trans (below_gr' (allocB _ _) _) o14.grown) (fun k e => Nat.le_of_eq (Option.some.inj e))); obtain ⟨A7, d7, hv7⟩ := own_form o15; subst hv7; clear o14 o15 D1 D2))
                      obtain ⟨s3, hs3⟩ : ∃ s3, (wv.drewN (p1 + p2)).heap.size = s3 := ⟨_, rfl⟩
                      rw [hs3] at F0
                      clear hs3 CC
                      go_loopw [25] (fun t wy => ∃ m : Nat, m ≤ n ∧ t = .int .i64 (m : Int) ∧ CH w wy s2 s3 n (midB xs m ++ mk8 8) (.slice A7 n d7) (midB xs m) [(.slice A6 j d6, X), (.slice A3 j d3, X), (.slice A2 j d2, X)]) (fun t _ => n - (intOf t).toNat)
                      case atStart => exact ⟨0, by omega, rfl, by rw [midB_zero]; exact F0.out⟩
                      case round =>
                        clear F0
                        rename World => wy
                        obtain ⟨m, hm, rfl, hC⟩ := hrel
                        have CC := Lib.hid hC
                        have ML := Lib.hid (p := (midB xs m).length = n) (by rw [midB_len _ _ (by rw [HN.out]; exact hm)]; exact HN.out)
                        by_cases hlt : m < n
                        · obtain ⟨gd, rfl⟩ := own_some hC.d (by omega)
                          obtain ⟨r0, r1⟩ : ∃ r : Nat, n - 1 - m = r := ⟨_, rfl⟩
                          have rn : r0 < n := by omega
                          obtain ⟨b, o, rfl, hb, hc⟩ : ∃ b o, a = some ⟨b, o, none⟩ ∧ b < w.heap.size ∧ ∀ i, i < n → w.cell? ⟨b, o + i, none⟩ = some (.int .u8 (xs.getD i 0)) := by
                            rcases HH.out.1.2.2.2 with q | q
                            · omega
                            · exact q
                          have e0 := (hC.bel.cell (p := ⟨b, o + r0, none⟩) hb).trans (hc r0 rn)
                          have NX := Lib.hid (p := (midB xs m).set m (xs.getD r0 0) = midB xs (m + 1)) (by
                            have := midB_next xs m (by rw [HN.out]; exact hlt)
                            rwa [HN.out, r1] at this)
                          generalize xs.getD r0 0 = f at *
                          obtain ⟨c0, z0⟩ := own_cell hC.d m hlt
                          generalize (midB xs m).getD m 0 = old at *
                          have C' := hC.setD m f
                          rw [NX.out] at C'
                          obtain ⟨g0, _⟩ := own_cell C'.d m hlt
                          have gf : (midB xs (m + 1)).getD m 0 = f := by rw [← NX.out]; simp [List.getD, show m < (midB xs m).length by rw [ML.out]; exact hlt]
                          rw [gf] at g0
                          obtain ⟨i0, y0⟩ := own_cell C'.inn m (by omega)
                          generalize (midB xs m ++ mk8 8).getD m 0 = old2 at *
                          have CX := Lib.hid (C'.setI m f)
                          rw [List.set_append_left _ _ (by rw [ML.out]; exact hlt), NX.out] at CX
                          have k1 : IntKind.i64.wrap ((n : Int) - 1) = (n : Int) - 1 := by simp [IntKind.wrap, IntKind.bits, IntKind.signed]; omega
                          have k2 : IntKind.i64.wrap ((n : Int) - 1 - (m : Int)) = (r0 : Int) := by simp [IntKind.wrap, IntKind.bits, IntKind.signed]; omega
                          have k2' : (n : Int) - 1 - (m : Int) = (r0 : Int) := by omega
                          have k3 : (r0 : Int) < (n : Int) := by omega
                          have kc : (m : Int) < (n : Int) := by omega
                          have kc3 : m < n + 8 := by omega
                          have kc4 : (m : Int) < (n : Int) + 8 := by omega
                          clear hC hc C' gf
                          go_wp2
                          go_roundw
                          case rel => exact ⟨m + 1, by omega, by go_num, CX.out⟩
                          case measure => simp [intOf]; omega
                        · obtain rfl : m = n := by omega
                          have FA := Lib.hid (p := CH w wy s2 s3 m (xs.reverse ++ mk8 8) (.slice A7 m d7) xs.reverse [(.slice A6 j d6, X), (.slice A3 j d3, X), (.slice A2 j d2, X)]) (by
                            have := hC
                            have e := midB_all xs
                            rw [HN.out] at e
                            rwa [e] at this)
                          have RN := Lib.hid (p := xs.reverse.length = m) (by simpa using HN.out)
                          have SD := Lib.hid (p := Sl wy A7 m d7 xs.reverse) (by
                            obtain ⟨A8, c8, e, hs⟩ := own_sl FA.out.d RBy.out (by have := NB.out; omega)
                            injection e with e1 _ e2
                            subst e1 e2
                            exact hs)
                          clear hC CC
                          have Q1 : True := trivial
                          go_wp2_with (first
                            | (go_at_call 9; refine (KD2.out _ _ _ (bl_in FA.out.inn RN.out RBy.out NB.out) (fun e => by cases e) (RR.out.below FA.out.bel)).mono ?_; rintro e w20 ⟨v20, rfl, h1, h2⟩; have F1 := Lib.hid (FA.out.later h2); have LD1 := Lib.hid (SD.out.later h2); have O1 := Lib.hid h1; obtain ⟨A9, d9, rfl⟩ := owi_form h1 ZN.out; clear h1 h2)
                            | (go_at_call 10; refine (KF2.out _ _ _ LD1.out).mono ?_; rintro e w21 ⟨v21, rfl, h1, h2⟩; have F2 := Lib.hid (F1.out.later h2); have O2 := Lib.hid (owi_keep O1.out h2); have P2 := Lib.hid h1; obtain ⟨A10, d10, rfl⟩ := owi_form h1 ZN.out; clear h1 h2)
                            | (go_at_call 8; have qq := Q1; refine (KC.out _ _ _ _ _ Z _ (owi_li O2.out ZN.out ZL.out) (owi_li P2.out ZN.out ZL.out)).mono ?_; rintro e w22 ⟨rfl, u1, rfl⟩; have F3 := Lib.hid (F2.out.later (drewB _ u1)); clear Q1)
                            | (go_at_call 8; refine (KC.out _ _ _ _ _ X _ (owi_li (F3.out.rest (.slice A2 j d2, X) (by simp)).1 XN.out XL.out) (owi_li (F3.out.rest (.slice A3 j d3, X) (by simp)).1 XN.out XL.out)).mono ?_; rintro e w23 ⟨rfl, u2, rfl⟩; have t4 := F3.out.later (drewB _ u2); rw [World.drewN_drewN] at t4; have F4 := Lib.hid t4; clear t4))
                          go_ret
                          exact ⟨rfl, F4.out.bel⟩
end Go.Proofs.YtdbjdieegocdfaaDoor
