import Derived.Test.YtldplmchgmoopaaDoorXAY
import Derived.Test.YtldplmchgmoopaaDoorXAX
namespace Go.Proofs.YtldplmchgmoopaaDoor
open Go.RowKit
set_option linter.unusedVariables false
set_option linter.unusedSimpArgs false

theorem fr_low {B bk m : Nat} {a b : World} (f : Fr B bk a b) (h1 : m ≤ B) (h2 : m ≤ bk) : Below m a b := ⟨f.os, f.tape, f.out, f.size, fun k hk => f.blk k (by omega) (by omega)⟩
theorem half_text (s : ByteArray) : s.size / 2 ≤ s.size := by omega
/-- A table's box. -/
def tbx (u : Tb) : Obj := .cells #[.slice u.an u.ln u.cn, .slice u.ar u.lr u.cr] 32
/-- What the law keeps: the first book's box, and the document's table with its box. -/
structure RdK (w : World) (x q : Nat) (W : World) (u : Tb) (R : PR) : Prop where
  b0 : W.heap[x]? = some (.cells (newB false).toArray 30)
  b1 : W.heap[x + 1]? = some (.cells (newB true).toArray 30)
  dt : DcT (x + 1 + 1) W u R.ns R.rs
  bx : W.heap[q]? = some (tbx u)
  low : x + 1 + 1 ≤ q ∧ q < W.heap.size
  bel : Below x w W
/-- A table with its box behind it. -/
structure TbB (W V : World) (u : Tb) (q : Nat) : Prop where
  bel : Below W.heap.size W V
  bx : V.heap[q]? = some (tbx u)
  ow : OwT W.heap.size V u
theorem tbB_new {W V : World} {u : Tb} (b : Below W.heap.size W V) (o : OwT W.heap.size V u) : TbB W (V.alloc (tbx u)) u V.heap.size := ⟨b.trans ((below_al V _).mono b.size), World.alloc_heap_new _ _, o.below (below_al V _)⟩
theorem TbB.later {W V V' : World} {u : Tb} {q : Nat} (h : TbB W V u q) (b : Below V.heap.size V V') : TbB W V' u q := ⟨h.bel.trans (b.mono h.bel.size), (b.block _ (blk_lt h.bx)).trans h.bx, h.ow.below b⟩
set_option maxRecDepth 100000 in
set_option maxHeartbeats 8000000 in
theorem tableReads_any (s : ByteArray) (w : World) (ht : Pows w) (hE : Ev w) (hO : Ot w) (hol : 0 < w.heap.size) (hs : s.size ≤ 9223372036854775807) :
    Calls Tryd.prog 3 #[.string s] w fun e w' => e = .returned (.bool true) ∧ Below w.heap.size w w' := by
  have PW := Lib.hid (p := ∀ W, Below w.heap.size w W → Pows W) (fun W b => Lib.tabBelow_of_tabIs ht W b)
  have EV := Lib.hid (p := ∀ W, Below w.heap.size w W → Ev W) (fun W b => ev_below hE b)
  have OT := Lib.hid (p := ∀ W, Below w.heap.size w W → Ot W) (fun W b => ⟨(b.cell (p := ⟨0, 0, none⟩) hol).trans hO.1, (b.cell (p := ⟨0, 1, none⟩) hol).trans hO.2⟩)
  have OL := Lib.hid hol
  have KP := Lib.hid (fun (u : ByteArray) (W : World) (b : Below w.heap.size w W) => parseT_any u W (PW.out W b) (EV.out W b))
  have KD := Lib.hid (fun (u : ByteArray) (W : World) => rParseT_any u W)
  unfold PsE at KP
  unfold RdE at KD
  have hb1 := World.alloc_heap_new w (.cells (newB false).toArray 30)
  have hb2 := World.alloc_heap_new (w.alloc (.cells (newB false).toArray 30)) (.cells (newB true).toArray 30)
  have hb1b := (Below.heap_alloc _ (.cells (newB true).toArray 30) _ (blk_lt hb1)).trans hb1
  have hbb := ((Below.refl _ w).alloc (Nat.le_refl _) (.cells (newB false).toArray 30)).alloc (by simp) (.cells (newB true).toArray 30)
  have hsz : ((w.alloc (.cells (newB false).toArray 30)).alloc (.cells (newB true).toArray 30)).heap.size = w.heap.size + 1 + 1 := by simp
  rw [World.size_alloc] at hb2
  rw [show (newB false).toArray = #[Value.slice none 0 0, Value.slice none 0 0, Value.slice none 0 0, Value.slice none 0 0, Value.slice none 0 0, Value.slice none 0 0, Value.slice none 0 0, Value.slice none 0 0, Value.slice none 0 0, Value.slice none 0 0, Value.slice none 0 0, Value.int .i64 0, Value.bool false, Value.slice none 0 0, Value.slice none 0 0, Value.slice none 0 0, Value.slice none 0 0, Value.slice none 0 0, Value.slice none 0 0] from rfl, show (newB true).toArray = #[Value.slice none 0 0, Value.slice none 0 0, Value.slice none 0 0, Value.slice none 0 0, Value.slice none 0 0, Value.slice none 0 0, Value.slice none 0 0, Value.slice none 0 0, Value.slice none 0 0, Value.slice none 0 0, Value.slice none 0 0, Value.int .i64 0, Value.bool true, Value.slice none 0 0, Value.slice none 0 0, Value.slice none 0 0, Value.slice none 0 0, Value.slice none 0 0, Value.slice none 0 0] from rfl] at hb2 hb1b hbb hsz
  clear ht hE hO hol hb1
  go_enter Tryd.func3, Tryd.ntmps3
  go_upto_region 3 with fail
  obtain ⟨x, hx⟩ : ∃ x, w.heap.size = x := ⟨_, rfl⟩
  obtain ⟨w1, hw1⟩ : ∃ y, ((w.alloc (.cells #[Value.slice none 0 0, Value.slice none 0 0, Value.slice none 0 0, Value.slice none 0 0, Value.slice none 0 0, Value.slice none 0 0, Value.slice none 0 0, Value.slice none 0 0, Value.slice none 0 0, Value.slice none 0 0, Value.slice none 0 0, Value.int .i64 0, Value.bool false, Value.slice none 0 0, Value.slice none 0 0, Value.slice none 0 0, Value.slice none 0 0, Value.slice none 0 0, Value.slice none 0 0] 30)).alloc (.cells #[Value.slice none 0 0, Value.slice none 0 0, Value.slice none 0 0, Value.slice none 0 0, Value.slice none 0 0, Value.slice none 0 0, Value.slice none 0 0, Value.slice none 0 0, Value.slice none 0 0, Value.slice none 0 0, Value.slice none 0 0, Value.int .i64 0, Value.bool true, Value.slice none 0 0, Value.slice none 0 0, Value.slice none 0 0, Value.slice none 0 0, Value.slice none 0 0, Value.slice none 0 0] 30)) = y := ⟨_, rfl⟩
  rw [hw1] at hb2 hb1b hbb hsz
  rw [hw1]
  clear hw1
  rw [hx] at hb2 hb1b hbb hsz OL PW EV OT KP
  rw [hx]
  have HX := Lib.hid hx
  clear hx
  have Z1 := Lib.hid (p := w1.heap[x]? = some (.cells (newB false).toArray 30) ∧ w1.heap[x + 1]? = some (.cells (newB true).toArray 30) ∧ Below x w w1 ∧ w1.heap.size = x + 1 + 1) ⟨hb1b, hb2, hbb, hsz⟩
  clear hb2 hb1b hbb hsz
  obtain ⟨R, hR⟩ : ∃ R, parseP s = R := ⟨_, rfl⟩
  have KD1 := Lib.hid (KD.out s w1)
  have KP1 := Lib.hid (KP.out s)
  rw [hR] at KD1 KP1
  have FW := Lib.hid (parseP_few s)
  rw [hR] at FW
  clear hR
  go_upto_region 5 with (first | (go_at_call 4; refine KD1.out.mono ?_; rintro e w2 ⟨u, rfl, hD, hb⟩; have K3 := Lib.hid (p := RdK w x w2.heap.size (w2.alloc (tbx u)) u R) (by
    obtain ⟨z1, z2, z3, z4⟩ := Z1.out
    have bb : Below w1.heap.size w1 (w2.alloc (tbx u)) := hb.trans ((below_al w2 _).mono hb.size)
    rw [z4] at hD
    exact ⟨(bb.block x (by omega)).trans z1, (bb.block (x + 1) (by omega)).trans z2, hD.later (below_al w2 _), World.alloc_heap_new _ _, ⟨by have := hb.size; omega, by simp⟩, z3.trans (bb.mono (by omega))⟩); obtain ⟨ua, ul, uc, uss, va, vl, vc, urs⟩ := u; simp only [tbx, Tb.val] at *; clear hD hb))
  obtain ⟨B, hB⟩ : ∃ B, (w2.alloc (.cells #[.slice ua ul uc, .slice va vl vc] 32)).heap.size = B := ⟨_, rfl⟩
  have HQ := Lib.hid (p := B = w2.heap.size + 1) (by rw [← hB]; simp)
  obtain ⟨w3, hw3⟩ : ∃ y, w2.alloc (.cells #[.slice ua ul uc, .slice va vl vc] 32) = y := ⟨_, rfl⟩
  rw [hw3] at K3 hB
  rw [hw3]
  have HB := Lib.hid hB
  clear hw3 hB
  obtain ⟨q, hq⟩ : ∃ q, w2.heap.size = q := ⟨_, rfl⟩
  rw [hq] at K3 HQ
  rw [hq]
  clear hq
  have XB := Lib.hid (p := x + 1 + 1 < B) (by have := HQ.out; have := K3.out.low.1; omega)
  have G3 := Lib.hid (p := Gl B (x + 1) w3) ⟨OT.out _ K3.out.bel, by have := OL.out; have := XB.out; omega, by have := OL.out; omega⟩
  have S0 := Lib.hid (bkS_new B K3.out.b1)
  have SM := Lib.hid (fun (t u : Tb) (ss : List ByteArray) (rs : List (List Cl)) (W : World) (h : TbIs W t ss rs) (k : TbIs W u ss rs) => sameTD_any t u ss rs W h k)
  clear KD1
  go_loopw [8] (fun t8 W => ∃ r : Nat, r ≤ 3 ∧ t8 = .int .i64 (r : Int) ∧ RowKit.Hid (BkS W B (x + 1) true (2 * r) [] ∧ Fr B (x + 1) w3 W)) (fun t8 _ => 3 - (intOf t8).toNat)
  case atStart => exact ⟨0, by omega, rfl, S0.out, Fr.refl _ _ _⟩
  case round =>
    clear S0
    obtain ⟨r, hr, rfl, hQ⟩ := hrel
    rename World => W
    have BS := Lib.hid hQ.out.1
    have FR := Lib.hid hQ.out.2
    clear hQ
    have EW := Lib.hid (p := Below x w W) (K3.out.bel.trans (fr_low FR.out (by have := XB.out; omega) (by omega)))
    have BW := Lib.hid (p := B ≤ W.heap.size) (by rw [← HB.out]; exact FR.out.size)
    by_cases h3 : r < 3
    · have k3 : (r : Int) < 3 := by omega
      have kw : IntKind.i64.wrap ((r : Int) + 1) = (r : Int) + 1 := by simp [IntKind.wrap, IntKind.bits, IntKind.signed]; omega
      obtain ⟨s', hs'⟩ : ∃ s', (if r = 1 then s.extract 0 (s.size / 2) else s) = s' := ⟨_, rfl⟩
      go_upto_if 38 with fail
      go_cut [9] (fun v wx => v = .string s' ∧ W = wx)
      case first =>
        by_cases h1 : r = 1
        · rw [if_pos h1] at hs'
          have k1 : (r : Int) = 1 := by omega
          go_wp2
          go_meet
          case rel => exact ⟨by rw [← hs']; done, rfl⟩
        · rw [if_neg h1] at hs'
          have k1 : ¬ (r : Int) = 1 := by omega
          go_wp2
          go_meet
          case rel => exact ⟨by rw [hs'], rfl⟩
      case rest =>
        obtain ⟨rfl, rfl⟩ := hcut
        clear hs'
        obtain ⟨Q, hQ⟩ : ∃ Q, parseP s' = Q := ⟨_, rfl⟩
        have K5 := Lib.hid (KP.out s' W EW.out)
        have K6 := Lib.hid (KD.out s')
        have F5 := Lib.hid (parseP_few s')
        rw [hQ] at K5 K6 F5
        clear hQ
        go_upto_region 14 with (first
          | (go_at_call 5; refine K5.out.mono ?_; rintro e w4 ⟨t, rfl, hP, hb⟩; have P4 := Lib.hid hP; have T4 := Lib.hid (tbB_new (u := t) hb (owT_of hP F5.out.1 F5.out.2.1 F5.out.2.2)); obtain ⟨pa, pl, pc, pss, ra, rl, rc, prs⟩ := t; simp only [tbx, Tb.val] at T4 ⊢; clear hP hb)
          | (go_at_call 4; refine (K6.out _).mono ?_; rintro e w6 ⟨t, rfl, hD, hb⟩; have T5 := Lib.hid (T4.out.later hb); have I4 := Lib.hid (P4.out.is.later ((below_al w4 _).trans (hb.mono (below_al w4 _).size))); have I6 := Lib.hid hD.is; have C6 := Lib.hid (below_al w6 (tbx t)); have T6 := Lib.hid (T5.out.later C6.out); obtain ⟨i0, i1, _, _⟩ := box_all2 T6.out.bx; obtain ⟨j0, j1, _, _⟩ := box_all2 (World.alloc_heap_new w6 (tbx t)); have KS := Lib.hid (SM.out _ _ _ _ _ (I4.out.later C6.out) (I6.out.later C6.out)); obtain ⟨ya, yl, yc, yss, za, zl, zc, zrs⟩ := t; simp only [tbx, Tb.val] at T6 KS i0 i1 j0 j1 C6 ⊢; clear hD hb I4 I6 T5)
          | (go_at_call 6; refine KS.out.mono ?_; rintro e w8 ⟨rfl, hb⟩; have T8 := Lib.hid (T6.out.later hb); obtain ⟨i2, i3, _, _⟩ := box_all2 T8.out.bx; clear hb))
        have F8 := Lib.hid (p := Fr B (x + 1) w3 w8) (FR.out.trans (Fr.below T8.out.bel BW.out))
        have KW := Lib.hid (table_X B (x + 1) true (2 * r) pa ra pl pc rl rc pss prs W w8 BS.out T8.out.bel (by omega) BW.out T8.out.ow.o1 T8.out.ow.o2 (G3.out.fr F8.out) T8.out.ow.n T8.out.ow.s T8.out.ow.r T8.out.ow.q)
        go_wp2_with (go_at_call 7; refine KW.out.mono ?_; rintro e w9 ⟨rfl, hS, hF⟩; have S9 := Lib.hid hS; have F9 := Lib.hid (F8.out.trans hF); clear hS hF)
        go_roundw
        case rel => exact ⟨r + 1, by omega, by go_num, S9.out, F9.out⟩
        case measure => simp [intOf]; omega
    · obtain rfl : r = 3 := by omega
      have k3 : ¬ (3 : Int) < 3 := by omega
      have KS := Lib.hid (settled_any B (x + 1) (2 * 3) W BS.out (by omega) BW.out (G3.out.fr FR.out))
      go_upto_region 19 with (go_at_call 8; refine KS.out.mono ?_; rintro e w9 ⟨rfl, hF⟩; have F9 := Lib.hid (FR.out.trans hF); clear hF)
      clear KS BS FR EW BW
      have QX := Lib.hid (p := x + 1 + 1 ≤ q) K3.out.low.1
      have S9 := Lib.hid (p := B ≤ w9.heap.size) (by rw [← HB.out]; exact F9.out.size)
      obtain ⟨C, hC⟩ : ∃ C, w9.heap.size = C := ⟨_, rfl⟩
      rw [hC] at S9
      have HC := Lib.hid hC
      clear hC
      have XC := Lib.hid (p := x + 1 + 1 < C ∧ q < C) (by have := XB.out; have := S9.out; have := HQ.out; omega)
      have E9 := Lib.hid (p := Below x w w9) (K3.out.bel.trans (fr_low F9.out (by have := XB.out; omega) (by omega)))
      have N9 := Lib.hid (p := w9.heap[x]? = some (.cells (newB false).toArray 30)) ((F9.out.blk x (by have := XB.out; omega) (by omega)).trans K3.out.b0)
      have D9 := Lib.hid (p := DcT (x + 1 + 1) w9 ⟨ua, ul, uc, uss, va, vl, vc, urs⟩ R.ns R.rs) (K3.out.dt.keep (fun b h1 h2 => F9.out.blk b (by rw [← HB.out]; exact h2) (by omega)))
      have X9 := Lib.hid (p := w9.heap[q]? = some (tbx ⟨ua, ul, uc, uss, va, vl, vc, urs⟩)) ((F9.out.blk q (by have := HQ.out; omega) (by have := K3.out.low.1; omega)).trans K3.out.bx)
      have G9 := Lib.hid (p := Gl C x w9) ⟨OT.out _ E9.out, by have := OL.out; have := XC.out.1; omega, by have := OL.out; omega⟩
      have B9 := Lib.hid (bkS_new C N9.out)
      clear F9 S9 N9 G3 K3 XB HB HQ KP KD
      go_loopw [17] (fun t17 W => ∃ r : Nat, r ≤ 2 ∧ t17 = .int .i64 (r : Int) ∧ RowKit.Hid (BkS W C x false (2 * r) [] ∧ Fr C x w9 W)) (fun t17 _ => 2 - (intOf t17).toNat)
      case atStart => exact ⟨0, by omega, rfl, B9.out, Fr.refl _ _ _⟩
      case round =>
        clear B9
        obtain ⟨r, hr, rfl, hQ⟩ := hrel
        rename World => W
        have BS := Lib.hid hQ.out.1
        have FR := Lib.hid hQ.out.2
        clear hQ
        have EW := Lib.hid (p := Below x w W) (E9.out.trans (fr_low FR.out (by have := XC.out.1; omega) (Nat.le_refl _)))
        have BW := Lib.hid (p := C ≤ W.heap.size) (by rw [← HC.out]; exact FR.out.size)
        by_cases h2 : r < 2
        · have k2 : (r : Int) < 2 := by omega
          have kw : IntKind.i64.wrap ((r : Int) + 1) = (r : Int) + 1 := by simp [IntKind.wrap, IntKind.bits, IntKind.signed]; omega
          have DW := Lib.hid (p := DcT (x + 1 + 1) W ⟨ua, ul, uc, uss, va, vl, vc, urs⟩ R.ns R.rs) (D9.out.keep (fun b h1 h2 => FR.out.blk b (by rw [← HC.out]; exact h2) (by omega)))
          have XW := Lib.hid (p := W.heap[q]? = some (tbx ⟨ua, ul, uc, uss, va, vl, vc, urs⟩) ∧ q < W.heap.size) ⟨(FR.out.blk q XC.out.2 (by intro e; have := X9.out; subst e; have z := QX.out; omega)).trans X9.out, by have := XC.out.2; have := BW.out; omega⟩
          have K5 := Lib.hid (KP1.out W EW.out)
          go_upto_region 24 with (first
            | (go_at_call 5; refine K5.out.mono ?_; rintro e w4 ⟨t, rfl, hP, hb⟩; have T4 := Lib.hid (tbB_new (u := t) hb (owT_of hP FW.out.1 FW.out.2.1 FW.out.2.2)); obtain ⟨i0, i1, _, _⟩ := box_all2 T4.out.bx; obtain ⟨j0, j1, _, _⟩ := box_all2 ((T4.out.bel.block q XW.out.2).trans XW.out.1); have KS := Lib.hid (SM.out _ _ _ _ _ (hP.is.later (below_al w4 (tbx t))) (DW.out.is.later T4.out.bel)); obtain ⟨pa, pl, pc, pss, ra, rl, rc, prs⟩ := t; simp only [tbx, Tb.val] at T4 KS i0 i1 j0 j1 ⊢; clear hP hb)
            | (go_at_call 6; refine KS.out.mono ?_; rintro e w8 ⟨rfl, hb⟩; have T8 := Lib.hid (T4.out.later hb); obtain ⟨i2, i3, _, _⟩ := box_all2 T8.out.bx; clear hb))
          have F8 := Lib.hid (p := Fr C x w9 w8) (FR.out.trans (Fr.below T8.out.bel BW.out))
          have KW := Lib.hid (table_X C x false (2 * r) pa ra pl pc rl rc pss prs W w8 BS.out T8.out.bel (by omega) BW.out T8.out.ow.o1 T8.out.ow.o2 (G9.out.fr F8.out) T8.out.ow.n T8.out.ow.s T8.out.ow.r T8.out.ow.q)
          go_wp2_with (first
            | (go_at_call 7; refine KW.out.mono ?_; rintro e wt ⟨rfl, hS, hF⟩; have St := Lib.hid hS; have Ft := Lib.hid (F8.out.trans hF); have Ct := Lib.hid (p := C ≤ wt.heap.size) (by rw [← HC.out]; exact Ft.out.size); have KK := Lib.hid (kept_S C x false (2 * r + 2) [] wt hS (by omega) (G9.out.fr Ft.out) Ct.out); clear hS hF)
            | (go_at_call 9; refine KK.out.mono ?_; rintro e wk ⟨rfl, hb⟩; have Sk := Lib.hid (St.out.below hb); have Fk := Lib.hid (Ft.out.trans (Fr.below hb Ct.out)); clear hb))
          go_roundw
          case rel => exact ⟨r + 1, by omega, by go_num, Sk.out, Fk.out⟩
          case measure => simp [intOf]; omega
        · obtain rfl : r = 2 := by omega
          have k2 : ¬ (2 : Int) < 2 := by omega
          go_wp2
          go_ret
          exact ⟨rfl, by rw [HX.out]; exact EW.out⟩
end Go.Proofs.YtldplmchgmoopaaDoor
