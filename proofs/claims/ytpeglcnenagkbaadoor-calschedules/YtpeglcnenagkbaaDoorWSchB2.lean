/-
  WALK: turnedHolidays.
-/
import Derived.Test.YtpeglcnenagkbaaDoorWRSch
import Derived.Test.YtpeglcnenagkbaaDoorWSchB1
import Derived.Laws.AppendOwnNone
namespace Go.Proofs.YtpeglcnenagkbaaDoor
open Go.RowKit
open Cal
set_option linter.unusedVariables false
set_option linter.unusedSimpArgs false

/-- The dates of a flat row. -/
def dsOf (xs : List Int) (n : Nat) : List Dt := (List.range n).map (fun i => (xs.getD (i * 3) 0, xs.getD (i * 3 + 1) 0, xs.getD (i * 3 + 2) 0))
theorem dsOf_len (xs : List Int) (n : Nat) : (dsOf xs n).length = n := by simp [dsOf]
theorem dsOf_get (xs : List Int) (n i : Nat) (h : i < n) : (dsOf xs n).getD i (0, 0, 0) = (xs.getD (i * 3) 0, xs.getD (i * 3 + 1) 0, xs.getD (i * 3 + 2) 0) := by
  simp [dsOf, List.getD, h]
theorem dsOf_own {xs : List Int} {n : Nat} (h : xs.length = (n + 2) * 3) : OwnDs xs n (dsOf xs n) := ⟨h, fun i hi => by rw [dsOf_get xs n i hi]; exact ⟨rfl, rfl, rfl⟩⟩
theorem wp_dates {ops : Array Oper} {rest : List Oper} {o : Oper} {a : Act} {Q : Exit → Act → World → Prop} (w : World) (g n : Nat) (xs : List Int) (hW : Wi w g xs) (hl : xs.length = (n + 2) * 3) (hn : n ≤ 5864062014800) (hgd : o.guard = none) (s x : Operand)
    (ho : o.op = .call { callee := .builtin .append, args := #[s, x], argTypes := #[38, 38] }) (hs : a.eval s = .slice none 0 0) (hx : a.eval x = .slice (some ⟨g, 0, none⟩) n (n + 2))
    (h : ∀ v' w', (∃ A C, v' = .slice A n C ∧ DL w' A n (dsOf xs n)) → Below w.heap.size w w' → wpList Tryd.prog ops Q rest (a.put o.dst v') w') : wpList Tryd.prog ops Q (o :: rest) a w := by
  obtain ⟨i0, hi, hz0, hz1, hz2⟩ := info_parts infoDate
  have lt : ((xs.take (n * 3)).map (Value.int .i64)).length = n * 3 := by simp; omega
  refine wpList_append_own _ hgd s x 38 ho w.heap.size 35 i0 (.agg #[.int .i64 0, .int .i64 0, .int .i64 0]) 3 24 Tryd.underlying38 hi hz0 hz1 hz2 rfl (by decide) (.slice none 0 0) 0 [] hs (World.ownsRow_nil _ _ _ _) ⟨g, 0, none⟩ n (n + 2) ((xs.take (n * 3)).map (Value.int .i64)) hx lt ?_ ?_ (by unfold maxLen; omega) (by omega) (Nat.le_refl _) ?_
  · intro j u hj
    have hjl : j < n * 3 := by
      have := (List.getElem?_eq_some_iff.1 hj).1; omega
    rw [List.getElem?_map, List.getElem?_take, if_pos hjl, List.getElem?_eq_getElem (show j < xs.length by omega)] at hj
    simp at hj
    rw [Go.Addr.add_lit, Nat.zero_add, (hW.2 j (by omega)).1, ← hj]
    simp [List.getD, List.getElem?_eq_getElem (show j < xs.length by omega)]
  · intro u hu
    obtain ⟨z, _, rfl⟩ := List.mem_map.1 hu
    rfl
  · intro v' w' h1 h2 _
    rw [Nat.zero_add, List.nil_append] at h1
    refine h v' w' ?_ ⟨h2.os, h2.tape, h2.output, h2.size, fun k hk => h2.block k hk (by simp [Value.ownBlock])⟩
    by_cases h0 : n = 0
    · subst h0
      rcases h1.2 with ⟨rfl, _⟩ | ⟨g', cap, cur, rfl, _⟩
      · exact ⟨none, 0, rfl, rfl, by omega, .inl rfl⟩
      · exact ⟨_, _, rfl, rfl, by omega, .inl rfl⟩
    · rcases h1.2 with ⟨_, q⟩ | ⟨g', cap, cur, rfl, hb, hg, h3⟩
      · exact absurd q h0
      · refine ⟨_, _, rfl, dsOf_len xs n, hn, .inr ⟨g', 0, rfl, (Array.getElem?_eq_some_iff.1 hg).1, fun i hi => ?_⟩⟩
        rw [dsOf_get xs n i hi]
        have at_ : ∀ j, j < n * 3 → w'.cell? ⟨g', j, none⟩ = some (.int .i64 (xs.getD j 0)) := fun j hj => by
          rw [World.ownsRow.cellAt h1 j hj, List.getElem?_map, List.getElem?_take, if_pos hj, List.getElem?_eq_getElem (show j < xs.length by omega)]
          simp [List.getD, List.getElem?_eq_getElem (show j < xs.length by omega)]
        refine ⟨?_, ?_, ?_⟩
        · rw [Nat.zero_add]; exact at_ _ (by omega)
        · rw [Nat.zero_add]; exact at_ _ (by omega)
        · rw [Nat.zero_add]; exact at_ _ (by omega)
/-- The value of an own row of numbers, told apart. -/
theorem sch_row {w w' : World} {y m d y2 m2 d2 N u conv : Int} {ds : List Dt} {e : Ending} (h : SchO w y m d y2 m2 d2 N u conv ds e w') : ∃ (A : Option Addr) (C : Nat) (x : Int) (cl : List Int), e = .returned (.tuple #[.slice A cl.length C, .int .i64 x]) ∧ SchA y m d y2 m2 d2 N u conv ds x cl ∧ OwnD w' w.heap.size (.slice A cl.length C) cl ∧ Ls w' A cl.length cl ∧ cl.length ≤ 109574 := by
  obtain ⟨v, x, cl, rfl, h1, h2⟩ := h
  have hl := h1.len
  obtain ⟨A, C, rfl, hls⟩ := own_ls h2 (by omega)
  exact ⟨A, C, x, cl, rfl, h1, h2, hls, hl⟩
set_option maxRecDepth 100000 in
set_option maxHeartbeats 8000000 in
theorem turned_any (y m d y2 m2 d2 N u conv : Int) (a : Option Addr) (n cap : Nat) (ds : List Dt) (w : World) (hT : Tz w) (hM : Mon w) (hH : HoD w a n cap ds) :
    Calls Tryd.prog 23 #[.agg #[.int .i64 y, .int .i64 m, .int .i64 d, .int .i64 y2, .int .i64 m2, .int .i64 d2, .int .i64 N, .int .i64 u, .int .i64 conv, .slice a n cap]] w fun e w' => e = .returned (.bool true) ∧ Below w.heap.size w w' := by
  have P0 := Lib.hid (pb_new w y m d y2 m2 d2 N u conv a n cap)
  obtain ⟨w0, hw0⟩ : ∃ w0, w.alloc (.cells #[.int .i64 y, .int .i64 m, .int .i64 d, .int .i64 y2, .int .i64 m2, .int .i64 d2, .int .i64 N, .int .i64 u, .int .i64 conv, .slice a n cap] 40) = w0 := ⟨_, rfl⟩
  rw [hw0] at P0
  have HT := Lib.hid (p := ∀ W, Below w.heap.size w W → Tz W) (fun W b => tz_below (Nat.le_refl _) b hT)
  have HM := Lib.hid (p := ∀ W, Below w.heap.size w W → Mon W) (fun W b => mon_below (Nat.le_refl _) b hM)
  have HD := Lib.hid (p := ∀ W, Below w.heap.size w W → HoD W a n cap ds) (fun W b => hH.later b)
  have hnb : n ≤ 5864062014800 := hH.dl.2.1
  have LD := Lib.hid hH.dl.1
  have KO := Lib.hid (ownDates_any a n cap ds w0 (HD.out w0 P0.out.bel))
  have KS := Lib.hid (fun W A C ds' (q : Below w.heap.size w W) (l : DL W A n ds') => schedule_full y m d y2 m2 d2 N u conv A n C ds' W (HT.out W q) (HM.out W q) l)
  have KR := Lib.hid (fun W A C ds' (l : DL W A n ds') => rschedule_any y m d y2 m2 d2 N u conv A n C ds' W l)
  have KSM := Lib.hid (fun W A B C1 C2 (zs : List Int) (hn : zs.length ≤ 109574) (h1 : Ls W A zs.length zs) (h2 : Ls W B zs.length zs) => same_ls A B zs.length C1 C2 zs W (by omega) h1 h2)
  clear hT hM hH
  obtain ⟨c0, c1, c2, c3, c4, c5, c6, c7, c8, c9, _, _⟩ := P0.out
  go_enter Tryd.func23, Tryd.ntmps23
  go_wp2_with fail
  try simp only [hw0]
  clear hw0
  go_at_call 15
  refine KO.out.mono ?_
  rintro e w1 ⟨hode, b1⟩
  have P1 := Lib.hid (P0.out.later b1)
  have R1 := Lib.hid b1
  clear b1 c0 c1 c2 c3 c4 c5 c6 c7 c8 c9
  obtain ⟨c0, c1, c2, c3, c4, c5, c6, c7, c8, c9, _, _⟩ := P1.out
  rcases hode with ⟨rfl, rfl, rfl⟩ | ⟨rfl, xs0, hwi, hown, _⟩
  · have K1 := Lib.hid (KS.out w1 none 0 [] P1.out.bel ⟨rfl, by omega, .inl rfl⟩)
    clear LD hnb
    go_wp2_with fail
    go_at_call 14
    refine K1.out.mono ?_
    rintro e w2 ⟨hs, b2⟩
    obtain ⟨v2, x2, cl2, rfl, _, _⟩ := hs
    have P2 := Lib.hid (P1.out.later b2)
    clear b2 c0 c1 c2 c3 c4 c5 c6 c7 c8 c9
    go_wp2_with fail
    go_loopw [4] (fun i wr => i = .int .i64 0 ∧ wr = w2) (fun i _ => 0)
    case atStart => exact ⟨rfl, rfl⟩
    case round =>
      obtain ⟨rfl, hwr⟩ := hrel
      subst hwr
      rename World => w5
      obtain ⟨i0, hi, hz0, hz1, hz2⟩ := info_parts infoDate
      obtain ⟨c0, c1, c2, c3, c4, c5, c6, c7, c8, c9, _, _⟩ := P2.out
      go_wp2_with (at_builtin; refine wpList_append_own_none rfl _ _ 38 rfl 0 35 i0 3 Tryd.underlying38 hi (.slice none 0 0) 0 [] rfl (World.ownsRow_nil _ _ _ _) rfl ?_)
      have L5 := Lib.hid (p := DL w5 none 0 []) ⟨rfl, by omega, .inl rfl⟩
      have KR5 := Lib.hid (KR.out w5 none 0 [] L5.out)
      go_wp2_with fail
      go_at_call 21
      refine KR5.out.mono ?_
      rintro e w6 ⟨hs, b6⟩
      obtain ⟨A6, C6, x6, cl6, rfl, hA6, _, hl6, hb6⟩ := sch_row hs
      have P6 := Lib.hid (P2.out.later b6)
      have HA6 := Lib.hid hA6
      have HL6 := Lib.hid hl6
      have HB6 := Lib.hid hb6
      have KS6 := Lib.hid (KS.out w6 none 0 [] P6.out.bel (L5.out.later b6))
      clear hs hA6 hl6 b6 c0 c1 c2 c3 c4 c5 c6 c7 c8 c9
      obtain ⟨c0, c1, c2, c3, c4, c5, c6, c7, c8, c9, _, _⟩ := P6.out
      go_wp2_with fail
      go_at_call 14
      refine KS6.out.mono ?_
      rintro e w7 ⟨hs, b7⟩
      obtain ⟨A7, C7, x7, cl7, rfl, hA7, _, hl7, hb7⟩ := sch_row hs
      obtain ⟨rfl, rfl⟩ := SchA.one HA6.out hA7
      have P7 := Lib.hid (P6.out.later b7)
      have KSM7 := Lib.hid (KSM.out w7 A7 A6 C7 C6 cl6 HB6.out hl7 (HL6.out.later b7))
      clear hs hA7 hl7 b7 hb7 hb6 c0 c1 c2 c3 c4 c5 c6 c7 c8 c9
      generalize cl6.length = nl at *
      go_wp2_with fail
      go_at_call 24
      refine KSM7.out.mono ?_
      rintro e w8 ⟨rfl, b8⟩
      have P8 := Lib.hid (P7.out.later b8)
      clear b8
      go_wp2
      go_ret
      exact ⟨by first | rfl | simp, P8.out.bel⟩
  · have K1 := Lib.hid (KS.out w1 (some ⟨w0.heap.size, 0, none⟩) (n + 2) ds P1.out.bel (own_dl hwi hown LD.out hnb))
    have HW1 := Lib.hid hwi
    have LX := Lib.hid hown.1
    clear hwi hown
    go_wp2_with fail
    go_at_call 14
    refine K1.out.mono ?_
    rintro e w2 ⟨hs, b2⟩
    obtain ⟨v2, x2, cl2, rfl, _, _⟩ := hs
    have P2 := Lib.hid (P1.out.later b2)
    have HW2 := Lib.hid (HW1.out.later b2)
    have R2 := Lib.hid (p := Below w0.heap.size w0 w2) (R1.out.trans (b2.mono R1.out.size))
    clear b2 c0 c1 c2 c3 c4 c5 c6 c7 c8 c9
    go_wp2_with fail
    go_loopw [4] (fun i wr => ∃ (k : Nat) (xs : List Int), k ≤ n ∧ i = .int .i64 (k : Int) ∧ xs.length = (n + 2) * 3 ∧ RowKit.Hid (Wi wr w0.heap.size xs) ∧ Below w0.heap.size w0 wr) (fun i _ => n - (intOf i).toNat)
    case atStart => exact ⟨0, xs0, by omega, rfl, LX.out, HW2.out, R2.out⟩
    case round =>
      obtain ⟨k, xs, hk, rfl, hx, hW, hB⟩ := hrel
      rename World => wr
      have BB := Lib.hid hB
      have PR := Lib.hid (P0.out.later hB)
      obtain ⟨c0, c1, c2, c3, c4, c5, c6, c7, c8, c9, psz, _⟩ := PR.out
      have pn : ¬ w.heap.size = w0.heap.size := by have := P0.out.sz; omega
      have pn2 : ¬ w0.heap.size = w.heap.size := by have := P0.out.sz; omega
      by_cases hlt : k < n
      · obtain ⟨b, o, rfl, hb, _, _, hc⟩ : ∃ b o, a = some ⟨b, o, none⟩ ∧ b < w.heap.size ∧ ds.length = n ∧ n ≤ 5864062014800 ∧ ∀ i, i < n → DC w b (o + i * 3) (ds.getD i (0, 0, 0)) := by
          rcases HD.out w (Below.refl _ _) with ⟨_, q, _⟩ | ⟨_, _, q, _⟩ | q
          · omega
          · omega
          · exact q
        obtain ⟨i2, hi2⟩ : ∃ i2, n = i2 + 1 + k := ⟨n - 1 - k, by omega⟩
        obtain ⟨e0, e1, e2⟩ := (hc i2 (by omega)).later PR.out.bel hb
        obtain ⟨f, hf⟩ : ∃ f, ds.getD i2 (0, 0, 0) = f := ⟨_, rfl⟩
        rw [hf] at e0 e1 e2
        obtain ⟨fy, fm, fd⟩ := f
        simp only at e0 e1 e2
        obtain ⟨d0, s0⟩ := hW.out.2 (k * 3) (by omega)
        obtain ⟨d1, s1⟩ := hW.out.2 (k * 3 + 1) (by omega)
        obtain ⟨d2', s2⟩ := hW.out.2 (k * 3 + 2) (by omega)
        generalize xs.getD (k * 3) 0 = o1 at d0
        generalize xs.getD (k * 3 + 1) 0 = o2 at d1
        generalize xs.getD (k * 3 + 2) 0 = o3 at d2'
        have W3 := Lib.hid (hW.out.set3 k (fy, fm, fd) (by omega))
        have ne : ¬ b = w0.heap.size := by have := P0.out.sz; omega
        have kc : (k : Int) < (n : Int) := by omega
        have kn1 : IntKind.i64.wrap ((n : Int) - 1) = (n : Int) - 1 := by simp [IntKind.wrap, IntKind.bits, IntKind.signed]; omega
        have kn2 : IntKind.i64.wrap ((n : Int) - 1 - (k : Int)) = (i2 : Int) := by simp [IntKind.wrap, IntKind.bits, IntKind.signed]; omega
        have kn3 : (n : Int) - 1 - (k : Int) = (i2 : Int) := by omega
        have kn4 : (i2 : Int) < (n : Int) := by omega
        have kwk : IntKind.i64.wrap ((k : Int) + 1) = (k : Int) + 1 := by simp [IntKind.wrap, IntKind.bits, IntKind.signed]; omega
        clear hc hf hW hB hi2
        go_wp2
        go_roundw
        case rel => exact ⟨k + 1, set3 xs k (fy, fm, fd), by omega, by first | rfl | simp, by rw [set3_len]; exact hx, W3.out, ((BB.out.setCell (p := ⟨w0.heap.size, k * 3, none⟩) (Nat.le_refl _) _).setCell (p := ⟨w0.heap.size, k * 3 + 1, none⟩) (Nat.le_refl _) _).setCell (p := ⟨w0.heap.size, k * 3 + 2, none⟩) (Nat.le_refl _) _⟩
        case measure => simp [intOf]; omega
      · obtain rfl : k = n := by omega
        have kc : ¬ (k : Int) < (k : Int) := by omega
        clear hB
        by_cases hk0 : k = 0
        · have g0 : ¬ (k : Int) > 0 := by omega
          have g1 : decide ((0 : Int) < (k : Int)) = false := decide_eq_false (by omega)
          have g2 : decide (0 < k) = false := decide_eq_false (by omega)
          have g3 : (0 < k) = False := eq_false (by omega)
          have WX := Lib.hid hW.out
          clear hk0 hW c0 c1 c2 c3 c4 c5 c6 c7 c8 c9
          go_wp2_with (at_builtin; refine wp_dates _ w0.heap.size k xs WX.out hx hnb rfl _ _ rfl rfl rfl ?_; rintro v5 w5 ⟨A5, C5, rfl, l5⟩ b5; have L5 := Lib.hid l5; have P5 := Lib.hid (PR.out.later b5); have IN5 := Lib.hid (own_dl (WX.out.later b5) (dsOf_own hx) (dsOf_len xs k) hnb); clear l5 b5; obtain ⟨c0, c1, c2, c3, c4, c5, c6, c7, c8, c9, _, _⟩ := P5.out)
          have KR5 := Lib.hid (KR.out w5 A5 C5 (dsOf xs k) L5.out)
          go_wp2_with fail
          go_at_call 21
          refine KR5.out.mono ?_
          rintro e w6 ⟨hs, b6⟩
          obtain ⟨A6, C6, x6, cl6, rfl, hA6, _, hl6, hb6⟩ := sch_row hs
          have P6 := Lib.hid (P5.out.later b6)
          have HA6 := Lib.hid hA6
          have HL6 := Lib.hid hl6
          have HB6 := Lib.hid hb6
          have KS6 := Lib.hid (KS.out w6 (some ⟨w0.heap.size, 0, none⟩) (k + 2) (dsOf xs k) P6.out.bel (IN5.out.later b6))
          clear hs hA6 hl6 b6 c0 c1 c2 c3 c4 c5 c6 c7 c8 c9
          obtain ⟨c0, c1, c2, c3, c4, c5, c6, c7, c8, c9, _, _⟩ := P6.out
          go_wp2_with fail
          go_at_call 14
          refine KS6.out.mono ?_
          rintro e w7 ⟨hs, b7⟩
          obtain ⟨A7, C7, x7, cl7, rfl, hA7, _, hl7, hb7⟩ := sch_row hs
          obtain ⟨rfl, rfl⟩ := SchA.one HA6.out hA7
          have P7 := Lib.hid (P6.out.later b7)
          have KSM7 := Lib.hid (KSM.out w7 A7 A6 C7 C6 cl6 HB6.out hl7 (HL6.out.later b7))
          clear hs hA7 hl7 b7 hb7 hb6 c0 c1 c2 c3 c4 c5 c6 c7 c8 c9
          generalize cl6.length = nl at *
          go_wp2_with fail
          go_at_call 24
          refine KSM7.out.mono ?_
          rintro e w8 ⟨rfl, b8⟩
          have P8 := Lib.hid (P7.out.later b8)
          clear b8
          go_wp2
          go_ret
          exact ⟨by first | rfl | simp, P8.out.bel⟩
        · obtain ⟨d0, s0⟩ := hW.out.2 0 (by omega)
          obtain ⟨d1, s1⟩ := hW.out.2 1 (by omega)
          obtain ⟨d2', s2⟩ := hW.out.2 2 (by omega)
          generalize xs.getD 0 0 = o1 at d0
          generalize xs.getD 1 0 = o2 at d1
          generalize xs.getD 2 0 = o3 at d2'
          have W3 := Lib.hid (hW.out.set3 0 (y, m, d) (by omega))
          have hx3 : (set3 xs 0 (y, m, d)).length = (k + 2) * 3 := by rw [set3_len]; exact hx
          have g0 : (k : Int) > 0 := by omega
          have g1 : (0 : Int) < (k : Int) := by omega
          have BS := Lib.hid (p := Below w0.heap.size w0 (((wr.setCell ⟨w0.heap.size, 0, none⟩ (.int .i64 y)).setCell ⟨w0.heap.size, 1, none⟩ (.int .i64 m)).setCell ⟨w0.heap.size, 2, none⟩ (.int .i64 d))) (((BB.out.setCell (p := ⟨w0.heap.size, 0, none⟩) (Nat.le_refl _) _).setCell (p := ⟨w0.heap.size, 1, none⟩) (Nat.le_refl _) _).setCell (p := ⟨w0.heap.size, 2, none⟩) (Nat.le_refl _) _)
          obtain ⟨ys, hys⟩ : ∃ ys, set3 xs 0 (y, m, d) = ys := ⟨_, rfl⟩
          rw [hys] at W3 hx3
          clear hk0 hW hys
          go_wp2_with (at_builtin; refine wp_dates _ w0.heap.size k ys W3.out hx3 hnb rfl _ _ rfl rfl rfl ?_; rintro v5 w5 ⟨A5, C5, rfl, l5⟩ b5; have L5 := Lib.hid l5; have P5 := Lib.hid ((P0.out.later BS.out).later b5); have IN5 := Lib.hid (own_dl (W3.out.later b5) (dsOf_own hx3) (dsOf_len ys k) hnb); clear l5 b5 c0 c1 c2 c3 c4 c5 c6 c7 c8 c9 d0 d1 d2' s0 s1 s2; obtain ⟨c0, c1, c2, c3, c4, c5, c6, c7, c8, c9, _, _⟩ := P5.out)
          have KR5 := Lib.hid (KR.out w5 A5 C5 (dsOf ys k) L5.out)
          go_wp2_with fail
          go_at_call 21
          refine KR5.out.mono ?_
          rintro e w6 ⟨hs, b6⟩
          obtain ⟨A6, C6, x6, cl6, rfl, hA6, _, hl6, hb6⟩ := sch_row hs
          have P6 := Lib.hid (P5.out.later b6)
          have HA6 := Lib.hid hA6
          have HL6 := Lib.hid hl6
          have HB6 := Lib.hid hb6
          have KS6 := Lib.hid (KS.out w6 (some ⟨w0.heap.size, 0, none⟩) (k + 2) (dsOf ys k) P6.out.bel (IN5.out.later b6))
          clear hs hA6 hl6 b6 c0 c1 c2 c3 c4 c5 c6 c7 c8 c9
          obtain ⟨c0, c1, c2, c3, c4, c5, c6, c7, c8, c9, _, _⟩ := P6.out
          go_wp2_with fail
          go_at_call 14
          refine KS6.out.mono ?_
          rintro e w7 ⟨hs, b7⟩
          obtain ⟨A7, C7, x7, cl7, rfl, hA7, _, hl7, hb7⟩ := sch_row hs
          obtain ⟨rfl, rfl⟩ := SchA.one HA6.out hA7
          have P7 := Lib.hid (P6.out.later b7)
          have KSM7 := Lib.hid (KSM.out w7 A7 A6 C7 C6 cl6 HB6.out hl7 (HL6.out.later b7))
          clear hs hA7 hl7 b7 hb7 hb6 c0 c1 c2 c3 c4 c5 c6 c7 c8 c9
          generalize cl6.length = nl at *
          go_wp2_with fail
          go_at_call 24
          refine KSM7.out.mono ?_
          rintro e w8 ⟨rfl, b8⟩
          have P8 := Lib.hid (P7.out.later b8)
          clear b8
          go_wp2
          go_ret
          exact ⟨by first | rfl | simp, P8.out.bel⟩
end Go.Proofs.YtpeglcnenagkbaaDoor

namespace Go.Proofs.YtpeglcnenagkbaaDoor
open Go.RowKit
open Cal
set_option linter.unusedVariables false
set_option linter.unusedSimpArgs false

theorem ownDates_full (a : Option Addr) (n cap : Nat) (ds : List Dt) (w : World) (h : HoD w a n cap ds) :
    Calls Tryd.prog 15 #[.slice a n cap] w fun e w' => ∃ A C, e = .returned (.slice A n C) ∧ Below w.heap.size w w' ∧ DL w' A n ds ∧
      RowKit.Hid (∀ W, Below w'.heap.size w' W → Calls Tryd.prog 25 #[.slice A n C, .slice a n cap] W fun e W' => e = .returned (.bool true) ∧ Below W.heap.size W W') := by
  have hd := h.dl
  rcases h with ⟨rfl, rfl, rfl, rfl⟩ | ⟨x, rfl, rfl, rfl⟩ | ⟨b, o, rfl, h1, h2, h3, h4⟩
  · refine (ownDates_nil w).mono ?_
    rintro e w' ⟨rfl, rfl⟩
    exact ⟨none, 0, rfl, Below.refl _ _, ⟨rfl, by omega, .inl rfl⟩, fun W _ => intactDates_nil W⟩
  · refine (ownDates_some x 0 cap [] w (by omega) (.inl rfl)).mono ?_
    rintro e w' ⟨⟨rfl, hq⟩, hb⟩
    obtain ⟨xs, p, q, r⟩ := hq.out
    exact ⟨_, _, rfl, hb, ⟨rfl, by omega, .inl rfl⟩, fun W hW => intactDates_some _ 0 cap x xs [] W (by omega) (p.later hW) q r (.inl rfl)⟩
  · refine (ownDates_some ⟨b, o, none⟩ n cap ds w h3 (.inr ⟨b, o, rfl, h1, h4⟩)).mono ?_
    rintro e w' ⟨⟨rfl, hq⟩, hb⟩
    obtain ⟨xs, p, q, r⟩ := hq.out
    exact ⟨_, _, rfl, hb, own_dl p q h2 h3, fun W hW => intactDates_some _ n cap ⟨b, o, none⟩ xs ds W h3 (p.later hW) q r (.inr ⟨b, o, rfl, Nat.lt_of_lt_of_le h1 (Nat.le_trans hb.size hW.size), fun i hi => (h4 i hi).later (hb.trans (hW.mono hb.size)) h1⟩)⟩
/-- A row that is written full: its first k numbers are c. -/
def Ful (xs : List Int) (k : Nat) (c : Int) : Prop := ∀ i, i < k → xs.getD i 0 = c
theorem Ful.set {xs : List Int} {k : Nat} {c : Int} (h : Ful xs k c) (hk : k < xs.length) : Ful (xs.set k c) (k + 1) c := fun i hi => by
  rw [getD_set' _ _ _ _ hk]
  split
  · rfl
  · exact h i (by omega)
theorem Ful.app {xs : List Int} {c : Int} (h : Ful xs xs.length c) : Ful (xs ++ [c]) (xs ++ [c]).length c := fun i hi => by
  simp at hi
  simp only [List.getD]
  by_cases e : i < xs.length
  · rw [List.getElem?_append_left e]; exact h i e
  · rw [List.getElem?_append_right (by omega), show i - xs.length = 0 by omega]; rfl
set_option maxRecDepth 100000 in
set_option maxHeartbeats 8000000 in
theorem calSchedules_of (y m d y2 m2 d2 N u conv : Int) (a : Option Addr) (n cap : Nat) (ds : List Dt) (w : World) (hT : Tz w) (hM : Mon w) (hH : HoD w a n cap ds)
    (late : ∀ W Aw Cw x (cl : List Int), Below w.heap.size w W → SchA y m d y2 m2 d2 N u conv ds x cl → Ls W Aw cl.length cl → Calls Tryd.prog 22 #[.agg #[.int .i64 y, .int .i64 m, .int .i64 d, .int .i64 y2, .int .i64 m2, .int .i64 d2, .int .i64 N, .int .i64 u, .int .i64 conv, .slice a n cap], .slice Aw cl.length Cw] W fun e w' => e = .returned (.bool true) ∧ Below W.heap.size W w') :
    Calls Tryd.prog 6 #[.agg #[.int .i64 y, .int .i64 m, .int .i64 d, .int .i64 y2, .int .i64 m2, .int .i64 d2, .int .i64 N, .int .i64 u, .int .i64 conv, .slice a n cap]] w fun e w' => e = .returned (.bool true) ∧ Below w.heap.size w w' := by
  have P0 := Lib.hid (pb_new w y m d y2 m2 d2 N u conv a n cap)
  obtain ⟨w0, hw0⟩ : ∃ w0, w.alloc (.cells #[.int .i64 y, .int .i64 m, .int .i64 d, .int .i64 y2, .int .i64 m2, .int .i64 d2, .int .i64 N, .int .i64 u, .int .i64 conv, .slice a n cap] 40) = w0 := ⟨_, rfl⟩
  rw [hw0] at P0
  have HT := Lib.hid (p := ∀ W, Below w.heap.size w W → Tz W) (fun W b => tz_below (Nat.le_refl _) b hT)
  have HM := Lib.hid (p := ∀ W, Below w.heap.size w W → Mon W) (fun W b => mon_below (Nat.le_refl _) b hM)
  have HD := Lib.hid (p := ∀ W, Below w.heap.size w W → HoD W a n cap ds) (fun W b => hH.later b)
  have KO := Lib.hid (ownDates_full a n cap ds w0 (HD.out w0 P0.out.bel))
  have KS := Lib.hid (fun W A C (q : Below w.heap.size w W) (l : DL W A n ds) => schedule_full y m d y2 m2 d2 N u conv A n C ds W (HT.out W q) (HM.out W q) l)
  have KR := Lib.hid (fun W (q : Below w.heap.size w W) => rschedule_any y m d y2 m2 d2 N u conv a n cap ds W (HD.out W q).dl)
  have KL := Lib.hid late
  have KTU := Lib.hid (fun W (q : Below w.heap.size w W) => turned_any y m d y2 m2 d2 N u conv a n cap ds W (HT.out W q) (HM.out W q) (HD.out W q))
  have KSM := Lib.hid (fun W A B C1 C2 (zs : List Int) (hn : zs.length ≤ 109574) (h1 : Ls W A zs.length zs) (h2 : Ls W B zs.length zs) => same_ls A B zs.length C1 C2 zs W (by omega) h1 h2)
  clear hT hM hH late
  obtain ⟨c0, c1, c2, c3, c4, c5, c6, c7, c8, c9, _, _⟩ := P0.out
  go_enter Tryd.func6, Tryd.ntmps6
  go_wp2_with fail
  try simp only [hw0]
  clear hw0
  go_at_call 15
  refine KO.out.mono ?_
  rintro e w1 ⟨Ai, Ci, rfl, b1, l1, hint⟩
  have P1 := Lib.hid (P0.out.later b1)
  have LI := Lib.hid (p := ∀ W, Below w1.heap.size w1 W → DL W Ai n ds) (fun W b => l1.later b)
  have KI := hint
  clear b1 l1 hint c0 c1 c2 c3 c4 c5 c6 c7 c8 c9
  obtain ⟨c0, c1, c2, c3, c4, c5, c6, c7, c8, c9, _, _⟩ := P1.out
  have KR1 := Lib.hid (KR.out w1 P1.out.bel)
  go_wp2_with fail
  go_at_call 21
  refine KR1.out.mono ?_
  rintro e w2 ⟨hs, b2⟩
  obtain ⟨Aw, Cw, xw, cl, rfl, hAw, _, hlw, hbw⟩ := sch_row hs
  have P2 := Lib.hid (P1.out.later b2)
  have R2 := Lib.hid b2
  have HAw := Lib.hid hAw
  have LW := Lib.hid (p := ∀ W, Below w2.heap.size w2 W → Ls W Aw cl.length cl) (fun W b => hlw.later b)
  have NB := Lib.hid hbw
  have KL2 := Lib.hid (KL.out w2 Aw Cw xw cl P2.out.bel hAw hlw)
  clear hs b2 hAw hlw hbw KL c0 c1 c2 c3 c4 c5 c6 c7 c8 c9
  obtain ⟨c0, c1, c2, c3, c4, c5, c6, c7, c8, c9, _, _⟩ := P2.out
  go_wp2_with fail
  go_at_call 22
  refine KL2.out.mono ?_
  rintro e w3 ⟨rfl, b3⟩
  have P3 := Lib.hid (P2.out.later b3)
  have R3 := Lib.hid b3
  have KT3 := Lib.hid (KTU.out w3 P3.out.bel)
  clear b3 c0 c1 c2 c3 c4 c5 c6 c7 c8 c9
  obtain ⟨c0, c1, c2, c3, c4, c5, c6, c7, c8, c9, _, _⟩ := P3.out
  go_wp2_with fail
  go_at_call 23
  refine KT3.out.mono ?_
  rintro e w4 ⟨rfl, b4⟩
  have P4 := Lib.hid (P3.out.later b4)
  have R24 := Lib.hid (p := Below w2.heap.size w2 w4) (R3.out.trans (b4.mono R3.out.size))
  have R14 := Lib.hid (p := Below w1.heap.size w1 w4) (R2.out.trans (R24.out.mono R2.out.size))
  have KS4 := Lib.hid (KS.out w4 Ai Ci P4.out.bel (LI.out w4 R14.out))
  clear b4 c0 c1 c2 c3 c4 c5 c6 c7 c8 c9
  obtain ⟨c0, c1, c2, c3, c4, c5, c6, c7, c8, c9, _, _⟩ := P4.out
  go_wp2_with fail
  go_at_call 14
  refine KS4.out.mono ?_
  rintro e w5 ⟨hs, b5⟩
  obtain ⟨Ax, Cx, xx, clx, rfl, hAx, hox, hlx, _⟩ := sch_row hs
  obtain ⟨rfl, rfl⟩ := SchA.one HAw.out hAx
  have P5 := Lib.hid (P4.out.later b5)
  have R45 := Lib.hid b5
  have KM5 := Lib.hid (KSM.out w5 Ax Aw Cx Cw cl NB.out hlx (LW.out w5 (R24.out.trans (b5.mono R24.out.size))))
  have OX := Lib.hid (p := w5.ownsRow w4.heap.size 3 1 (.slice Ax cl.length Cx) cl.length (cl.map (Value.int .i64))) hox
  obtain ⟨nl, hnl⟩ : ∃ nl, cl.length = nl := ⟨_, rfl⟩
  rw [hnl] at LW NB KM5 OX ⊢
  have HNL := Lib.hid hnl
  have nlb : nl ≤ 109574 := NB.out
  clear hs b5 hAx hox hlx hnl c0 c1 c2 c3 c4 c5 c6 c7 c8 c9
  go_wp2_with fail
  go_at_call 24
  refine KM5.out.mono ?_
  rintro e w6 ⟨rfl, b6⟩
  have R46 := Lib.hid (p := Below w4.heap.size w4 w6) (R45.out.trans (b6.mono R45.out.size))
  have OX6 := Lib.hid (p := w6.ownsRow w4.heap.size 3 1 (.slice Ax nl Cx) nl (cl.map (Value.int .i64))) (World.ownsRow.kept OX.out (row := none) ⟨b6.os, b6.tape, b6.output, b6.size, fun k hk _ => b6.block k hk⟩ (Classical.em _))
  clear b6
  go_wp2_with fail
  go_loopw [10] (fun i wr => ∃ (k : Nat) (xs : List Int), k ≤ nl ∧ i = .int .i64 (k : Int) ∧ xs.length = nl ∧ RowKit.Hid (wr.ownsRow w4.heap.size 3 1 (.slice Ax nl Cx) nl (xs.map (Value.int .i64)) ∧ Ful xs k (-5)) ∧ Below w4.heap.size w4 wr) (fun i _ => nl - (intOf i).toNat)
  case atStart => exact ⟨0, cl, by omega, rfl, HNL.out, ⟨OX6.out, fun i hi => absurd hi (by omega)⟩, R46.out⟩
  case round =>
    obtain ⟨k, xs, hk, rfl, hx, hO, hB⟩ := hrel
    rename World => wr
    have BB := Lib.hid hB
    by_cases hlt : k < nl
    · obtain ⟨g, rfl, hgb⟩ : ∃ g, Ax = some ⟨g, 0, none⟩ ∧ w4.heap.size ≤ g := by
        rcases hO.out.1.2 with ⟨q, q2⟩ | ⟨g, cp, cur, q, hb, _⟩
        · omega
        · injection q with q _ _; exact ⟨g, q, hb⟩
      have hwi := OwR.wi hO.out.1 hx
      have s1 := (hwi.2 k (by omega)).1
      have s2 := (hwi.2 k (by omega)).2
      have O2 := Lib.hid (OwR.set hO.out.1 k (-5))
      have F2 := Lib.hid (hO.out.2.set (by omega))
      generalize xs.getD k 0 = old at s1
      have kc : (k : Int) < (nl : Int) := by omega
      have kwk : IntKind.i64.wrap ((k : Int) + 1) = (k : Int) + 1 := by simp [IntKind.wrap, IntKind.bits, IntKind.signed]; omega
      clear hwi hO hB
      go_wp2
      go_roundw
      case rel => exact ⟨k + 1, xs.set k (-5), by omega, by first | rfl | simp, by simpa using hx, ⟨O2.out, F2.out⟩, BB.out.setCell (p := ⟨g, k, none⟩) hgb _⟩
      case measure => simp [intOf]; omega
    · obtain rfl : k = nl := by omega
      have kc : ¬ (k : Int) < (k : Int) := by omega
      have OF := Lib.hid (p := OwnD wr w4.heap.size (.slice Ax k Cx) xs) (by show wr.ownsRow _ _ _ _ xs.length _; rw [hx]; exact hO.out.1)
      have FF := Lib.hid (p := Ful xs xs.length (-5)) (by rw [hx]; exact hO.out.2)
      clear hO hB
      go_wp2_with fail
      go_loopw [11, 12] (fun v t wz => ∃ (j : Nat) (ys : List Int), j ≤ 40 ∧ t = .int .i64 (j : Int) ∧ ys.length = k + j ∧ RowKit.Hid (OwnD wz w4.heap.size v ys ∧ Ful ys ys.length (-5)) ∧ Below w4.heap.size w4 wz) (fun _ t _ => 40 - (intOf t).toNat)
      case atStart => exact ⟨0, xs, by omega, rfl, by omega, ⟨OF.out, FF.out⟩, BB.out⟩
      case round =>
        obtain ⟨j, ys, hj, rfl, hy, hO, hB⟩ := hrel
        rename World => wz
        have BZ := Lib.hid hB
        by_cases hj2 : j < 40
        · have kc2 : (j : Int) < 40 := by omega
          have kwj : IntKind.i64.wrap ((j : Int) + 1) = (j : Int) + 1 := by simp [IntKind.wrap, IntKind.bits, IntKind.signed]; omega
          have HOZ := Lib.hid hO.out.1
          have F3 := Lib.hid hO.out.2.app
          have HY := Lib.hid hy
          clear hO hB hy
          go_wp2_with (at_builtin; refine wp_day _ _ rfl _ _ rfl w4.heap.size _ ys rfl rfl HOZ.out (by have := HY.out; omega) BZ.out.size ?_; intro v6 w6' o6 g6; have O6 := Lib.hid o6; have B6 := Lib.hid (BZ.out.grown g6 BZ.out.size (fun k e => (HOZ.out.lt k e).1)); clear o6 g6)
          go_roundw
          case rel => exact ⟨j + 1, ys ++ [-5], by omega, by first | rfl | simp, by simp [HY.out]; omega, ⟨O6.out, F3.out⟩, B6.out⟩
          case measure => simp [intOf]; omega
        · obtain rfl : j = 40 := by omega
          have PZ := Lib.hid (P4.out.later hB)
          obtain ⟨c0, c1, c2, c3, c4, c5, c6, c7, c8, c9, _, _⟩ := PZ.out
          have hym : ys.length ≤ 140737488355328 := by omega
          obtain ⟨Am, Cm, hvm, hlm⟩ := own_ls hO.out.1 hym
          subst hvm
          have OM := Lib.hid hO.out.1
          have FM := Lib.hid hO.out.2
          have LM := Lib.hid hlm
          have R1Z := Lib.hid (p := Below w1.heap.size w1 wz) (R14.out.trans (hB.mono R14.out.size))
          have R2Z := Lib.hid (p := Below w2.heap.size w2 wz) (R24.out.trans (hB.mono R24.out.size))
          have KSZ := Lib.hid (KS.out wz Ai Ci PZ.out.bel (LI.out wz R1Z.out))
          obtain ⟨nm, hnm⟩ : ∃ nm, ys.length = nm := ⟨_, rfl⟩
          rw [hnm] at OM LM FM hym ⊢
          have HNM := Lib.hid hnm
          have hnm2 : nm = k + 40 := by omega
          have kc40 : ¬ ((40 : Nat) : Int) < 40 := by omega
          clear hO hB hlm hnm hy
          go_wp2_with fail
          go_at_call 14
          refine KSZ.out.mono ?_
          rintro e w7 ⟨hs, b7⟩
          obtain ⟨Ay, Cy, xy, cly, rfl, hAy, hoy, hly, _⟩ := sch_row hs
          obtain ⟨rfl, rfl⟩ := SchA.one HAw.out hAy
          have P7 := Lib.hid (PZ.out.later b7)
          have KM7 := Lib.hid (KSM.out w7 Ay Aw Cy Cw cl (by rw [HNL.out]; exact nlb) hly (by have := LW.out w7 (R2Z.out.trans (b7.mono R2Z.out.size)); rwa [← HNL.out] at this))
          have OY := Lib.hid (p := w7.ownsRow wz.heap.size 3 1 (.slice Ay cl.length Cy) cl.length (cl.map (Value.int .i64))) hoy
          have R7 := Lib.hid b7
          rw [HNL.out] at KM7 OY ⊢
          clear hs b7 hAy hoy hly c0 c1 c2 c3 c4 c5 c6 c7 c8 c9
          go_wp2_with fail
          go_at_call 24
          refine KM7.out.mono ?_
          rintro e w8 ⟨rfl, b8⟩
          have R78 := Lib.hid (p := Below wz.heap.size wz w8) (R7.out.trans (b8.mono R7.out.size))
          have OY8 := Lib.hid (p := w8.ownsRow wz.heap.size 3 1 (.slice Ay k Cy) k (cl.map (Value.int .i64))) (World.ownsRow.kept OY.out (row := none) ⟨b8.os, b8.tape, b8.output, b8.size, fun k hk _ => b8.block k hk⟩ (Classical.em _))
          clear b8
          go_wp2_with fail
          go_loopw [14] (fun i wq => ∃ (r : Nat) (zs : List Int), r ≤ k ∧ i = .int .i64 (r : Int) ∧ zs.length = k ∧ RowKit.Hid (wq.ownsRow wz.heap.size 3 1 (.slice Ay k Cy) k (zs.map (Value.int .i64))) ∧ Below wz.heap.size wz wq) (fun i _ => k - (intOf i).toNat)
          case atStart => exact ⟨0, cl, by omega, rfl, HNL.out, OY8.out, R78.out⟩
          case round =>
            obtain ⟨r, zs, hr, rfl, hz, hO, hB⟩ := hrel
            rename World => wq
            have BQ := Lib.hid hB
            by_cases hr2 : r < k
            · obtain ⟨g, rfl, hgb⟩ : ∃ g, Ay = some ⟨g, 0, none⟩ ∧ wz.heap.size ≤ g := by
                rcases hO.out.2 with ⟨q, q2⟩ | ⟨g, cp, cur, q, hb, _⟩
                · omega
                · injection q with q _ _; exact ⟨g, q, hb⟩
              have hwi := OwR.wi hO.out hz
              have s1 := (hwi.2 r (by omega)).1
              have s2 := (hwi.2 r (by omega)).2
              have O2 := Lib.hid (OwR.set hO.out r (-6))
              generalize zs.getD r 0 = old at s1
              have kcr : (r : Int) < (k : Int) := by omega
              have kwr : IntKind.i64.wrap ((r : Int) + 1) = (r : Int) + 1 := by simp [IntKind.wrap, IntKind.bits, IntKind.signed]; omega
              clear hwi hO hB
              go_wp2
              go_roundw
              case rel => exact ⟨r + 1, zs.set r (-6), by omega, by first | rfl | simp, by simpa using hz, O2.out, BQ.out.setCell (p := ⟨g, r, none⟩) hgb _⟩
              case measure => simp [intOf]; omega
            · obtain rfl : r = k := by omega
              have kcr : ¬ (r : Int) < (r : Int) := by omega
              have LMQ := Lib.hid (LM.out.later hB)
              have R1Q := Lib.hid (p := Below w1.heap.size w1 wq) (R1Z.out.trans (hB.mono R1Z.out.size))
              have PQ := Lib.hid (PZ.out.later hB)
              clear hO hB
              go_wp2_with fail
              go_loopw [15] (fun i wk => ∃ (t : Nat), t ≤ nm ∧ i = .int .i64 (t : Int) ∧ wk = wq) (fun i _ => nm - (intOf i).toNat)
              case atStart => exact ⟨0, by omega, rfl, rfl⟩
              case round =>
                obtain ⟨t, ht, rfl, hwk⟩ := hrel
                subst hwk
                rename World => wk
                by_cases ht2 : t < nm
                · obtain ⟨mb, mo, rfl, hmb, hmc⟩ : ∃ b o, Am = some ⟨b, o, none⟩ ∧ b < wk.heap.size ∧ ∀ i, i < nm → wk.cell? ⟨b, o + i, none⟩ = some (.int .i64 (ys.getD i 0)) := by
                    rcases LMQ.out.2.2 with q | q
                    · omega
                    · exact q
                  have lv := hmc t ht2
                  rw [FM.out t ht2] at lv
                  have kct : (t : Int) < (nm : Int) := by omega
                  have kwt : IntKind.i64.wrap ((t : Int) + 1) = (t : Int) + 1 := by simp [IntKind.wrap, IntKind.bits, IntKind.signed]; omega
                  clear hmc
                  go_wp2
                  go_roundw
                  case rel => exact ⟨t + 1, by omega, by first | rfl | simp, by trivial⟩
                  case measure => simp [intOf]; omega
                · obtain rfl : t = nm := by omega
                  have kct : ¬ (t : Int) < (t : Int) := by omega
                  obtain ⟨c0, c1, c2, c3, c4, c5, c6, c7, c8, c9, _, _⟩ := PQ.out
                  have KIQ := Lib.hid (KI.out wk R1Q.out)
                  go_wp2_with fail
                  go_at_call 25
                  refine KIQ.out.mono ?_
                  rintro e w9 ⟨rfl, b9⟩
                  have B9 := Lib.hid (PQ.out.bel.trans (b9.mono PQ.out.bel.size))
                  clear b9
                  go_wp2
                  go_ret
                  exact ⟨rfl, B9.out⟩
end Go.Proofs.YtpeglcnenagkbaaDoor
