import Derived.Test.YtjbbbejadhojlaaDoorXBE
import Derived.Test.YtjbbbejadhojlaaDoorXBL
import Derived.ArgAppend
namespace Go.Proofs.YtjbbbejadhojlaaDoor
open Go.RowKit
set_option linter.unusedVariables false
set_option linter.unusedSimpArgs false
def htL (s : Sg) (k : Nat) : List Nat := (List.range k).map (htF s)
theorem htL_len (s : Sg) (k : Nat) : (htL s k).length = k := by simp [htL]
theorem htL_next (s : Sg) (k : Nat) : htL s (k + 1) = htL s k ++ [htF s k] := by unfold htL; rw [List.range_succ, List.map_append]; rfl
/-- What the document's Heights answers. -/
structure HrE (w : World) (p : Pg) (sg : Int) (e : Ending) (w' : World) : Prop where
  bel : Below w.heap.size w w'
  bad : (vfyA p).1 ≠ 0 → e = .returned (.tuple #[.slice none 0 0, .int .i64 (vfyA p).1])
  out : (vfyA p).1 = 0 → (sg < 0 ∨ (p.days.length : Int) ≤ sg) → e = .returned (.tuple #[.slice none 0 0, .int .i64 2])
  ok : (vfyA p).1 = 0 → ∀ d : Nat, sg = (d : Int) → d < p.days.length → ∃ a c, e = .returned (.tuple #[.slice a (p.days.getD d default).code.length c, .int .i64 0]) ∧ OwZ w' w.heap.size (.slice a (p.days.getD d default).code.length c) (intsN (htL (p.days.getD d default) (p.days.getD d default).code.length))
set_option maxRecDepth 100000 in
set_option maxHeartbeats 3200000 in
theorem refHeights_any {w : World} {p : Pg} {sg : Int} (h : PV w p) : Calls Tryd.prog 11 #[p.agg, .int .i64 sg] w fun e w' => HrE w p sg e w' := by
  have B0 := Lib.hid (allocBP w p.box)
  have KV := Lib.hid (refVerify_any (h.later B0.out))
  have TB := Lib.hid (p := BkP (w.alloc p.box) w.heap.size p.arr 26) (heapN _ _)
  have EB := Lib.hid (p := (vfyA p).1 ≠ 0 → ∀ V, Below w.heap.size w V → HrE w p sg (.returned (.tuple #[.slice none 0 0, .int .i64 (vfyA p).1])) V) (fun z V b => ⟨b, fun _ => rfl, fun q => absurd q z, fun q => absurd q z⟩)
  have EO := Lib.hid (p := (vfyA p).1 = 0 → (sg < 0 ∨ (p.days.length : Int) ≤ sg) → ∀ V, Below w.heap.size w V → HrE w p sg (.returned (.tuple #[.slice none 0 0, .int .i64 2])) V) (fun z o V b => ⟨b, fun q => absurd z q, fun _ _ => rfl, fun _ d e1 e2 => by omega⟩)
  have EK := Lib.hid (p := (vfyA p).1 = 0 → ∀ d : Nat, sg = (d : Int) → d < p.days.length → ∀ V a c, Below w.heap.size w V → OwZ V w.heap.size (.slice a (p.days.getD d default).code.length c) (intsN (htL (p.days.getD d default) (p.days.getD d default).code.length)) → HrE w p sg (.returned (.tuple #[.slice a (p.days.getD d default).code.length c, .int .i64 0])) V) (fun z d e1 e2 V a c b o => ⟨b, fun q => absurd z q, fun _ y => by omega, fun _ d' e3 e4 => by
    have : d = d' := by omega
    subst this
    exact ⟨a, c, rfl, o⟩⟩)
  have OK := Lib.hid (p := (vfyA p).1 = 0 → ∀ d, d < p.days.length → SgOk (p.days.getD d default) ∧ (vRun (p.days.getD d default).day (p.days.getD d default).code (p.days.getD d default).code.length).1 = 0) (fun z d hd => by
    have cp : canP p := by
      refine Classical.byContradiction fun y => ?_
      unfold vfyA at z
      rw [if_neg y] at z
      simp at z
    have vk : (vfy p).1 = 0 := by
      unfold vfyA at z
      rw [if_pos cp] at z
      exact z
    exact ⟨sg_ok cp hd, all_ok (vfy_ok vk).1 hd⟩)
  have DR := Lib.hid h.days.2.2.2.2
  have DG := Lib.hid h.days.2.2.2.1
  generalize vfyA p = r at *
  clear h
  unfold vfV at KV
  unfold Pg.agg at *
  unfold Pg.box at *
  unfold Pg.arr at TB
  obtain ⟨na, nc, names, ua, uc, curs, pa, pc, pool, hor, cells, slots, stack, da, dc, days⟩ := p
  obtain ⟨r1, r2, r3, ⟨st, fu, ba, rs, ce⟩⟩ := r
  simp only at *
  obtain ⟨x0, x1, x2, x3, x4, x5, x6, x7⟩ := box_all8 TB.out
  go_enter Tryd.func11, Tryd.ntmps11
  go_upto_region 1 with fail
  go_cut [9] (fun v wx => v = .int .i64 r1 ∧ RowKit.Hid (Below (w.alloc (.cells #[.slice na names.length nc, .slice ua curs.length uc, .slice pa pool.length pc, .int .i64 hor, .int .i64 cells, .int .i64 slots, .int .i64 stack, .slice da days.length dc] 26)).heap.size (w.alloc (.cells #[.slice na names.length nc, .slice ua curs.length uc, .slice pa pool.length pc, .int .i64 hor, .int .i64 cells, .int .i64 slots, .int .i64 stack, .slice da days.length dc] 26)) wx))
  case first =>
    go_wp2_with (go_at_call 7; refine KV.out.mono ?_; rintro e w1 ⟨rfl, h1⟩; have B1 := Lib.hid (p := ∀ o, Below (w.alloc (.cells #[.slice na names.length nc, .slice ua curs.length uc, .slice pa pool.length pc, .int .i64 hor, .int .i64 cells, .int .i64 slots, .int .i64 stack, .slice da days.length dc] 26)).heap.size (w.alloc (.cells #[.slice na names.length nc, .slice ua curs.length uc, .slice pa pool.length pc, .int .i64 hor, .int .i64 cells, .int .i64 slots, .int .i64 stack, .slice da days.length dc] 26)) (w1.alloc o)) (fun o => h1.trans ((allocBP w1 o).mono h1.size)); clear h1)
    go_meet
    case rel => exact ⟨rfl, B1.out _⟩
  case rest =>
    obtain ⟨rfl, hcut⟩ := hcut
    have bw := B0.out.trans (hcut.out.mono B0.out.size)
    have BW := Lib.hid bw
    clear x0 x1 x2 x3 x4 x5 x6 x7
    obtain ⟨x0, x1, x2, x3, x4, x5, x6, x7⟩ := box_all8 (BkP.lat TB.out hcut.out)
    by_cases z : r1 ≠ 0
    · have E := Lib.hid (EB.out z wc bw)
      have ne : (r1 != 0) = true := by simpa using z
      clear hcut bw
      go_wp2
      go_ret2
      exact E.out
    · have z : r1 = 0 := by simpa using z
      subst z
      by_cases s0 : sg < 0
      · have E := Lib.hid (EO.out rfl (.inl s0) wc bw)
        have sd : decide (sg < 0) = true := decide_eq_true s0
        clear hcut bw
        go_wp2
        go_ret2
        exact E.out
      · by_cases s1 : (days.length : Int) ≤ sg
        · have E := Lib.hid (EO.out rfl (.inr s1) wc bw)
          have sd : decide (sg < 0) = false := decide_eq_false s0
          have sd1 : decide ((days.length : Int) ≤ sg) = true := decide_eq_true s1
          clear hcut bw
          go_wp2
          go_ret2
          exact E.out
        · obtain ⟨d, rfl⟩ : ∃ d : Nat, sg = (d : Int) := ⟨sg.toNat, by omega⟩
          have hd : d < days.length := by omega
          have l2 : (d : Int) < (days.length : Int) := by omega
          have sd : decide ((d : Int) < 0) = false := decide_eq_false s0
          have sd1 : decide ((days.length : Int) ≤ (d : Int)) = false := decide_eq_false s1
          obtain ⟨ok, rn⟩ := OK.out rfl d hd
          have gv := DG.out _ (sg_mem (i := d) hd)
          have KS := states14_v (gv.later bw) ok
          have EKd := EK.out rfl d rfl hd
          have sll := ok.len
          obtain ⟨y, u, hda, ly, hc⟩ := DR.out.oneP (by omega)
          have c0 := (bw.cell (p := ⟨y, u + d * 2, none⟩) ly).trans (hc d hd 0 (by omega))
          have c1 := (bw.cell (p := ⟨y, u + d * 2 + 1, none⟩) ly).trans (hc d hd 1 (by omega))
          simp only [Sg.cs, Nat.add_zero, List.getD_cons_zero, List.getD_cons_succ] at c0 c1
          generalize days.getD d default = s at *
          unfold SsV at KS
          have KS2 := Lib.hid (p := Calls Tryd.prog 21 #[.agg #[.int .i64 s.day, .slice s.ca s.code.length s.cc]] wc fun e w' => ∃ lb, e = .returned (.tuple #[.slice (some ⟨lb, 0, none⟩) s.code.length s.code.length, .int .i64 0, .int .i64 0]) ∧ RowKit.Hid (Below wc.heap.size wc w' ∧ ∀ j, j < s.code.length → ∃ a c, w'.cell? ⟨lb, j * 3 + 1, none⟩ = some (.slice a (htF s j) c))) (KS.mono (fun e w' q => by
            obtain ⟨b, q⟩ := q
            rcases q with ⟨q, _⟩ | ⟨_, lb, e1, _, _, e3⟩
            · exact absurd rn q
            · exact ⟨lb, e1, b, e3⟩))
          have EF := Lib.hid EKd
          clear hcut bw ok rn gv KS EKd hc EB EO EK OK
          subst hda
          obtain ⟨sday, sa, sc, sl⟩ := s
          simp only at c0 c1 KS2 EF sll
          go_wp2_with (go_at_call 21; refine KS2.out.mono ?_; rintro e w3 ⟨lb, rfl, q3⟩; have B3 := Lib.hid (p := Below w.heap.size w w3) (BW.out.trans (q3.out.1.mono BW.out.size)); have H3 := Lib.hid q3.out.2; clear q3)
          go_loopw [13, 14] (fun v t w4 => ∃ (k : Nat) (a : Option Addr) (c : Nat), k ≤ sl.length ∧ v = .slice a k c ∧ t = .int .i64 (k : Int) ∧ RowKit.Hid (OwZ w4 w3.heap.size (.slice a k c) (intsN (htL ⟨sday, sa, sc, sl⟩ k)) ∧ Below w3.heap.size w3 w4)) (fun _ t _ => sl.length - (intOf t).toNat)
          case atStart => exact ⟨0, none, 0, by omega, rfl, rfl, OwZ.nil _ _, Below.refl _ _⟩
          case round =>
            rename World => w4
            obtain ⟨k, a, c, hk, rfl, rfl, hH⟩ := hrel
            obtain ⟨o4, b4⟩ := hH.out
            by_cases hlt : k < sl.length
            · have kc : (k : Int) < (sl.length : Int) := by omega
              have k0 : ¬ (k : Int) < 0 := by omega
              have ks : IntKind.i64.wrap ((k : Int) + 1) = (k : Int) + 1 := by simp [IntKind.wrap, IntKind.bits, IntKind.signed]; omega
              obtain ⟨ha, hc', hcell⟩ := H3.out k hlt
              have hcell4 := (b4.cell (p := ⟨lb, k * 3 + 1, none⟩) (cell_ltR hcell)).trans hcell
              have al := allocBP w4 (.cells #[.int .i64 (htF ⟨sday, sa, sc, sl⟩ k : Int)] 3)
              obtain ⟨a7, c7, w7, R7, q7⟩ := (o4.lat al).next (by rw [htL_len]; omega) (Nat.le_trans b4.size al.size) (htF ⟨sday, sa, sc, sl⟩ k) (heapN _ _)
              have R8 := Lib.hid R7
              have NX := Lib.hid (p := OwZ w7 w3.heap.size (.slice a7 (k + 1) c7) (intsN (htL ⟨sday, sa, sc, sl⟩ (k + 1))) ∧ Below w3.heap.size w3 w7) (by
                obtain ⟨o7, g7⟩ := q7.out
                rw [htL_next]
                refine ⟨o7, (b4.trans (al.mono b4.size)).trans ⟨g7.os, g7.tape, g7.output, g7.size, fun u hu => g7.block u (by have := al.size; have := b4.size; omega) (fun z => by have := (World.ownsRow.lt o4 u z.symm).1; omega)⟩⟩)
              clear hH o4 b4 hcell al R7 q7
              generalize htF ⟨sday, sa, sc, sl⟩ k = ht at *
              go_wp2_with (at_builtin; refine wp_app_runR rfl _ _ 23 rfl _ _ _ w7 rfl rfl R8.out ?_)
              refine ⟨⟨k + 1, a7, c7, by omega, rfl, by go_num, NX.out⟩, ?_⟩
              simp [intOf]
              omega
            · obtain rfl : sl.length = k := by omega
              have E := Lib.hid (EF.out w4 a c (B3.out.trans (b4.mono B3.out.size)) (by
                refine ⟨o4.1, ?_⟩
                rcases o4.2 with q | ⟨g, cap, cur, e1, e2, e3⟩
                · exact .inl q
                · exact .inr ⟨g, cap, cur, e1, Nat.le_trans B3.out.size e2, e3⟩))
              clear hH o4 b4
              go_wp2
              go_ret2
              exact E.out
end Go.Proofs.YtjbbbejadhojlaaDoor

namespace Go.Proofs.YtjbbbejadhojlaaDoor
open Go.RowKit
set_option linter.unusedVariables false
set_option linter.unusedSimpArgs false
theorem htL_at (s : Sg) {j n : Nat} (hj : j < n) : (htL s n).getD j 0 = htF s j := by
  unfold htL
  simp [List.getD, hj]
/-- What Heights comes to: its error, its heights. -/
noncomputable def hEr (p : Pg) (sg : Int) : Int := if (vfyA p).1 ≠ 0 then (vfyA p).1 else if sg < 0 ∨ (p.days.length : Int) ≤ sg then 2 else 0
noncomputable def hLs (p : Pg) (sg : Int) : List Nat := if (vfyA p).1 ≠ 0 then [] else if sg < 0 ∨ (p.days.length : Int) ≤ sg then [] else htL (p.days.getD sg.toNat default) (p.days.getD sg.toNat default).code.length
/-- A row of numbers, nil or with no room behind it. -/
def RwN (W : World) (lo : Nat) (a : Option Addr) (n c : Nat) (l : List Nat) : Prop := l.length = n ∧ n ≤ 262144 ∧ ((a = none ∧ n = 0 ∧ c = 0) ∨ ∃ hb, a = some ⟨hb, 0, none⟩ ∧ c = n ∧ lo ≤ hb ∧ BkP W hb (fullA (fun j => .int .i64 (l.getD j 0 : Int)) n) 3)
theorem RwN.lat {W W' : World} {lo : Nat} {a : Option Addr} {n c : Nat} {l : List Nat} (h : RwN W lo a n c l) (b : Below W.heap.size W W') : RwN W' lo a n c l := by
  refine ⟨h.1, h.2.1, ?_⟩
  rcases h.2.2 with z | ⟨hb, e1, e2, e3, e4⟩
  · exact .inl z
  · exact .inr ⟨hb, e1, e2, e3, e4.lat b⟩
theorem RwN.stk {W : World} {lo : Nat} {a : Option Addr} {n c : Nat} {l : List Nat} (h : RwN W lo a n c l) : StkL W a n l := by
  refine ⟨h.1, ?_⟩
  rcases h.2.2 with ⟨_, z, _⟩ | ⟨hb, e1, e2, e3, e4⟩
  · exact .inl z
  · refine .inr ⟨hb, 0, _, _, e1, e4, fun i hi j hj => ?_⟩
    have j0 : j = 0 := by omega
    subst j0
    rw [Nat.zero_add, Nat.mul_one, Nat.add_zero, e4.cell, fullA_at _ _ _ hi]
    rfl
theorem heightsQ_any {w : World} {p : Pg} {sg : Int} (h : PV w p) (hR : Rws w) (hU : Rul w) : Calls Tryd.prog 10 #[p.agg, .int .i64 sg] w fun e w' => ∃ a n c, e = .returned (.tuple #[.slice a n c, .int .i64 (hEr p sg)]) ∧ RwN w' w.heap.size a n c (hLs p sg) ∧ Below w.heap.size w w' := by
  refine (heights_any h hR hU).mono (fun e w' q => ?_)
  unfold hEr hLs
  by_cases z : (vfyA p).1 ≠ 0
  · rw [if_pos z, if_pos z]
    exact ⟨none, 0, 0, q.bad z, ⟨rfl, by omega, .inl ⟨rfl, rfl, rfl⟩⟩, q.bel⟩
  · rw [if_neg z, if_neg z]
    have z : (vfyA p).1 = 0 := by simpa using z
    by_cases o : sg < 0 ∨ (p.days.length : Int) ≤ sg
    · rw [if_pos o, if_pos o]
      exact ⟨none, 0, 0, q.out z o, ⟨rfl, by omega, .inl ⟨rfl, rfl, rfl⟩⟩, q.bel⟩
    · rw [if_neg o, if_neg o]
      obtain ⟨d, rfl⟩ : ∃ d : Nat, sg = (d : Int) := ⟨sg.toNat, by omega⟩
      have hd : d < p.days.length := by omega
      have cp : canP p := by
        refine Classical.byContradiction fun y => ?_
        unfold vfyA at z
        rw [if_neg y] at z
        simp at z
      obtain ⟨hb, q1, q2, q3⟩ := q.ok z d rfl hd
      have e : (d : Int).toNat = d := by simp
      rw [e]
      refine ⟨_, _, _, q2, ⟨htL_len _ _, (sg_ok cp hd).len, .inr ⟨hb, rfl, rfl, q1, ?_⟩⟩, q.bel⟩
      have : htA (htF (p.days.getD d default)) (p.days.getD d default).code.length (p.days.getD d default).code.length = fullA (fun j => .int .i64 ((htL (p.days.getD d default) (p.days.getD d default).code.length).getD j 0 : Int)) (p.days.getD d default).code.length := by
        apply Array.ext_getElem?
        intro j
        by_cases hj : j < (p.days.getD d default).code.length
        · rw [htA_at _ _ _ _ hj, fullA_at _ _ _ hj, if_pos hj]
          rw [htL_at _ hj]
        · rw [Array.getElem?_eq_none (by rw [htA_size]; omega), Array.getElem?_eq_none (by rw [fullA_size]; omega)]
      rw [← this]
      exact q3
theorem refHeightsQ_any {w : World} {p : Pg} {sg : Int} (h : PV w p) : Calls Tryd.prog 11 #[p.agg, .int .i64 sg] w fun e w' => ∃ a n c, e = .returned (.tuple #[.slice a n c, .int .i64 (hEr p sg)]) ∧ (OwZ w' w.heap.size (.slice a n c) (intsN (hLs p sg)) ∧ n ≤ 262144) ∧ Below w.heap.size w w' := by
  refine (refHeights_any h).mono (fun e w' q => ?_)
  unfold hEr hLs
  by_cases z : (vfyA p).1 ≠ 0
  · rw [if_pos z, if_pos z]
    exact ⟨none, 0, 0, q.bad z, ⟨OwZ.nil _ _, by omega⟩, q.bel⟩
  · rw [if_neg z, if_neg z]
    have z : (vfyA p).1 = 0 := by simpa using z
    by_cases o : sg < 0 ∨ (p.days.length : Int) ≤ sg
    · rw [if_pos o, if_pos o]
      exact ⟨none, 0, 0, q.out z o, ⟨OwZ.nil _ _, by omega⟩, q.bel⟩
    · rw [if_neg o, if_neg o]
      obtain ⟨d, rfl⟩ : ∃ d : Nat, sg = (d : Int) := ⟨sg.toNat, by omega⟩
      have hd : d < p.days.length := by omega
      have cp : canP p := by
        refine Classical.byContradiction fun y => ?_
        unfold vfyA at z
        rw [if_neg y] at z
        simp at z
      obtain ⟨a, c, q2, q3⟩ := q.ok z d rfl hd
      have e : (d : Int).toNat = d := by simp
      rw [e]
      exact ⟨_, _, _, q2, ⟨q3, (sg_ok cp hd).len⟩, q.bel⟩
theorem hEr_key {p q : Pg} (h : q.key = p.key) (sg : Int) : hEr q sg = hEr p sg ∧ hLs q sg = hLs p sg := by
  have e : q.days.map Sg.key = p.days.map Sg.key := congrArg (fun k => k.2.2.2.2.2.2.2) h
  have l := len_keyV e
  have f : ∀ d, htL (q.days.getD d default) (q.days.getD d default).code.length = htL (p.days.getD d default) (p.days.getD d default).code.length := fun d => by
    have := at_keyV e d
    unfold htL htF
    rw [this.1, this.2]
  unfold hEr hLs
  rw [vfyA_keyV h, l, f]
  exact ⟨rfl, rfl⟩
set_option maxRecDepth 100000 in
set_option maxHeartbeats 1600000 in
theorem sameInts_yes {w : World} {a b : Option Addr} {n c c' : Nat} {l : List Nat} (h1 : StkL w a n l) (h2 : StkL w b n l) (hn : n ≤ 262144) : Calls Tryd.prog 12 #[.slice a n c, .slice b n c'] w fun e w' => e = .returned (.bool true) ∧ Below w.heap.size w w' := by
  have CC := Lib.hid (p := ∀ k, k < n → ∃ y u z v, a = some ⟨y, u, none⟩ ∧ b = some ⟨z, v, none⟩ ∧ ∀ V, Below w.heap.size w V → V.cell? ⟨y, u + k, none⟩ = some (.int .i64 (l.getD k 0 : Int)) ∧ V.cell? ⟨z, v + k, none⟩ = some (.int .i64 (l.getD k 0 : Int))) (fun k hk => by
    obtain ⟨y, u, e1, l1, c1⟩ := h1.2.at hk
    obtain ⟨z, v, e2, l2, c2⟩ := h2.2.at hk
    refine ⟨y, u, z, v, e1, e2, fun V bb => ?_⟩
    have g1 := c1 0 (by omega)
    have g2 := c2 0 (by omega)
    rw [Nat.mul_one, Nat.add_zero] at g1 g2
    exact ⟨(bb.cell (p := ⟨y, u + k, none⟩) l1).trans g1, (bb.cell (p := ⟨z, v + k, none⟩) l2).trans g2⟩)
  clear h1 h2
  go_enter Tryd.func12, Tryd.ntmps12
  go_wp2
  go_loopw [5] (fun t wr => ∃ k : Nat, k ≤ n ∧ t = .int .i64 (k : Int) ∧ RowKit.Hid (Below w.heap.size w wr)) (fun t _ => n - (intOf t).toNat)
  case atStart => exact ⟨0, by omega, rfl, Below.refl _ _⟩
  case round =>
    rename World => wr
    obtain ⟨k, hk, rfl, hH⟩ := hrel
    by_cases hlt : k < n
    · have kc : (k : Int) < (n : Int) := by omega
      have k0 : ¬ (k : Int) < 0 := by omega
      have ks : IntKind.i64.wrap ((k : Int) + 1) = (k : Int) + 1 := by simp [IntKind.wrap, IntKind.bits, IntKind.signed]; omega
      obtain ⟨y, u, z, v, rfl, rfl, hc⟩ := CC.out k hlt
      obtain ⟨c0, c1⟩ := hc wr hH.out
      have NX := Lib.hid (p := ∀ q, Below w.heap.size w (wr.drewN q)) (fun q => hH.out.trans (drewN_below' wr q _))
      clear hH hc
      generalize l.getD k 0 = x at *
      go_wp2
      go_quiet (fail)
      go_wp2
      refine ⟨⟨k + 1, by omega, by go_num, NX.out _⟩, ?_⟩
      simp [intOf]
      omega
    · obtain rfl : n = k := by omega
      have E := Lib.hid hH.out
      clear hH
      go_wp2
      go_ret
      exact ⟨rfl, E.out⟩
end Go.Proofs.YtjbbbejadhojlaaDoor

namespace Go.Proofs.YtjbbbejadhojlaaDoor
open Go.RowKit
set_option linter.unusedVariables false
set_option linter.unusedSimpArgs false
theorem RwN.blk {W V : World} {lo : Nat} {a : Option Addr} {n c : Nat} {l : List Nat} (h : RwN W lo a n c l) (q : ∀ hb, lo ≤ hb → hb < W.heap.size → V.heap[hb]? = W.heap[hb]?) : RwN V lo a n c l := by
  refine ⟨h.1, h.2.1, ?_⟩
  rcases h.2.2 with z | ⟨hb, e1, e2, e3, e4⟩
  · exact .inl z
  · exact .inr ⟨hb, e1, e2, e3, (q hb e3 e4.lt).trans e4⟩
/-- What was handed out first, being written over. -/
def AWr (W : World) (lo hi : Nat) (a : Option Addr) (n c : Nat) (l : List Nat) (i : Nat) : Prop := n ≤ 262144 ∧ ((a = none ∧ n = 0 ∧ c = 0) ∨ ∃ hb, a = some ⟨hb, 0, none⟩ ∧ c = n ∧ lo ≤ hb ∧ hb < hi ∧ BkP W hb (mixA (fun _ => .int .i64 (-5)) (fun j => .int .i64 (l.getD j 0 : Int)) i n) 3)
theorem AWr.lat {W V : World} {lo hi : Nat} {a : Option Addr} {n c : Nat} {l : List Nat} {i : Nat} (h : AWr W lo hi a n c l i) (b : Below W.heap.size W V) : AWr V lo hi a n c l i := by
  refine ⟨h.1, ?_⟩
  rcases h.2 with z | ⟨hb, e1, e2, e3, e4, e5⟩
  · exact .inl z
  · exact .inr ⟨hb, e1, e2, e3, e4, e5.lat b⟩
theorem RwN.wr {W : World} {lo : Nat} {a : Option Addr} {n c : Nat} {l : List Nat} (h : RwN W lo a n c l) : AWr W lo W.heap.size a n c l 0 := by
  refine ⟨h.2.1, ?_⟩
  rcases h.2.2 with z | ⟨hb, e1, e2, e3, e4⟩
  · exact .inl z
  · refine .inr ⟨hb, e1, e2, e3, e4.lt, ?_⟩
    have : mixA (fun _ => .int .i64 (-5)) (fun j => .int .i64 (l.getD j 0 : Int)) 0 n = fullA (fun j => .int .i64 (l.getD j 0 : Int)) n := by
      unfold mixA fullA
      congr 1
    rw [this]
    exact e4
/-- What stays while it is written over: all but the blocks from lo to hi. -/
structure KpH (W1 W5 : World) (hi : Nat) (V : World) : Prop where
  be : Below W1.heap.size W1 V
  sz : W5.heap.size ≤ V.heap.size
  kp : ∀ u, hi ≤ u → u < W5.heap.size → V.heap[u]? = W5.heap[u]?
theorem KpH.lat {W1 W5 : World} {hi : Nat} {V V' : World} (h : KpH W1 W5 hi V) (b : Below V.heap.size V V') : KpH W1 W5 hi V' := ⟨h.be.trans (b.mono h.be.size), Nat.le_trans h.sz b.size, fun u h1 h2 => (b.block u (Nat.lt_of_lt_of_le h2 h.sz)).trans (h.kp u h1 h2)⟩
def grL (n i : Nat) : List Int := List.replicate n (-5) ++ List.replicate i (-6)
theorem grL_next (n i : Nat) : grL n i ++ [-6] = grL n (i + 1) := by
  unfold grL
  rw [List.append_assoc, ← List.replicate_succ']
theorem grL_len (n i : Nat) : (grL n i).length = n + i := by simp [grL]
theorem grL_at {n i j : Nat} (h : j < n + i) : (grL n i).getD j 0 = if j < n then -5 else -6 := by
  unfold grL
  simp only [List.getD]
  by_cases z : j < n
  · rw [if_pos z, List.getElem?_append_left (by simpa using z)]
    simp [z]
  · rw [if_neg z, List.getElem?_append_right (by simp; omega)]
    simp
    rw [List.getElem?_replicate]
    rw [if_pos (by omega)]
    rfl
/-- grown: as it was handed out, or a row of its own. -/
def GrV (W : World) (B : Nat) (a : Option Addr) (n c i : Nat) (v : Value) : Prop := (i = 0 ∧ v = .slice a n c) ∨ (0 < i ∧ OwZ W B v (grL n i))
theorem grow_first {W : World} {lo hi : Nat} {a : Option Addr} {n c : Nat} {l : List Nat} (h : AWr W lo hi a n c l n) {g : Nat} (bk : BkP W g #[.int .i64 (-6)] 3) : ∃ v' w', RowKit.Hid (∀ ty, (Builtin.append_ #[23, 23] ty #[.slice a n c, .slice (some ⟨g, 0, none⟩) 1 1]).run Tryd.prog W = .ok v' w') ∧ RowKit.Hid (OwZ w' W.heap.size v' (grL n 1) ∧ Below W.heap.size W w') := by
  obtain ⟨i0, hi0, hz0, hz1, hz2⟩ := info_parts infoZ
  have nb := h.1
  have news : ∀ j u, ([Value.int .i64 (-6)] : List Value)[j]? = some u → W.cell? ((⟨g, 0, none⟩ : Addr).add j) = some u := by
    intro j u hj
    have j0 : j = 0 := by
      cases j with
      | zero => rfl
      | succ j => simp at hj
    subst j0
    simp at hj
    subst hj
    rw [Addr.add_lit, Nat.zero_add, bk.cell]
    rfl
  have fin : ∀ v' w', w'.ownsRow W.heap.size 3 1 v' (n + 1) (zcs (List.replicate n (-5)) ++ [.int .i64 (-6)]) → OwZ w' W.heap.size v' (grL n 1) := fun v' w' o => by
    unfold OwZ
    rw [grL_len]
    have : zcs (grL n 1) = zcs (List.replicate n (-5)) ++ [.int .i64 (-6)] := by unfold grL; rw [zcs_append]; rfl
    rw [this]
    exact o
  rcases h.2 with ⟨rfl, rfl, rfl⟩ | ⟨hb, rfl, rfl, e3, e4, e5⟩
  · obtain ⟨v', w', r, o, gr, _⟩ := run_append_own (P := Tryd.prog) W W.heap.size 23 0 3 i0 _ 1 8 Tryd.underlying23 hi0 hz0 hz1 hz2 rfl (by decide) (.slice none 0 0) 0 [] (World.ownsRow_nil W _ _ _) ⟨g, 0, none⟩ 1 1 [.int .i64 (-6)] rfl news (by intro u hu; simp at hu; subst hu; rfl) (by unfold maxLen; omega) (by omega) (Nat.le_refl _)
    refine ⟨v', w', fun ty => ?_, fin v' w' o, ⟨gr.os, gr.tape, gr.output, gr.size, fun u hu => gr.block u hu (by simp [Value.ownBlock])⟩⟩
    have : (Builtin.append_ #[23, 23] ty #[.slice none 0 0, .slice (some ⟨g, 0, none⟩) 1 1]) = (Builtin.append_ #[23, 23] 0 #[.slice none 0 0, .slice (some ⟨g, 0, none⟩) 1 1]) := rfl
    rw [this]
    exact r
  · have olds : ∀ j u, (zcs (List.replicate c (-5)))[j]? = some u → W.cell? ((⟨hb, 0, none⟩ : Addr).add j) = some u := by
      intro j u hj
      have hj' : j < c := by
        have := (List.getElem?_eq_some_iff.1 hj).1
        simpa [zcs] using this
      rw [Addr.add_lit, Nat.zero_add, e5.cell, mixA_at _ _ _ _ _ hj', if_pos hj']
      simp [zcs, hj'] at hj
      rw [← hj]
    obtain ⟨v', w', r, o, gr⟩ := run_append_arg_grows (P := Tryd.prog) W 23 0 3 i0 _ 1 8 Tryd.underlying23 hi0 hz0 hz1 hz2 rfl (by decide) ⟨hb, 0, none⟩ c c (zcs (List.replicate c (-5))) (by simp [zcs]) olds ⟨g, 0, none⟩ 1 1 [.int .i64 (-6)] rfl news (by omega) (by unfold maxLen; omega) (by omega)
    refine ⟨v', w', fun ty => ?_, fin v' w' o, ⟨gr.os, gr.tape, gr.output, gr.size, fun u hu => gr.block u hu (by simp)⟩⟩
    have : (Builtin.append_ #[23, 23] ty #[.slice (some ⟨hb, 0, none⟩) c c, .slice (some ⟨g, 0, none⟩) 1 1]) = (Builtin.append_ #[23, 23] 0 #[.slice (some ⟨hb, 0, none⟩) c c, .slice (some ⟨g, 0, none⟩) 1 1]) := rfl
    rw [this]
    exact r
theorem grow_more {W : World} {B : Nat} {v : Value} {n i : Nat} (h : OwZ W B v (grL n i)) (hn : n + i ≤ 300000) (hB : B ≤ W.heap.size) {g : Nat} (bk : BkP W g #[.int .i64 (-6)] 3) : ∃ v' w', RowKit.Hid (∀ ty, (Builtin.append_ #[23, 23] ty #[v, .slice (some ⟨g, 0, none⟩) 1 1]).run Tryd.prog W = .ok v' w') ∧ RowKit.Hid (OwZ w' B v' (grL n (i + 1)) ∧ Below B W w') := by
  obtain ⟨i0, hi0, hz0, hz1, hz2⟩ := info_parts infoZ
  have h' : W.ownsRow B 3 1 v (n + i) (zcs (grL n i)) := by
    unfold OwZ at h
    rw [grL_len] at h
    exact h
  obtain ⟨a', c', w', r, o, gr, _⟩ := run_rowappR (T := 23) (E := 3) (k := 1) (bz := 8) Tryd.underlying23 hi0 hz0 hz1 hz2 rfl (by omega) h' (a := some ⟨g, 0, none⟩) (n := 1) (c := 1) (V := fun _ => [.int .i64 (-6)]) ⟨fun z => (by cases z), Nat.le_refl _, by unfold maxLen; omega⟩ (.inr ⟨g, 0, rfl, bk.lt, fun i hi j hj => by
    have i0 : i = 0 := by omega
    have j0 : j = 0 := by omega
    subst i0 j0
    rw [bk.cell]
    rfl⟩) (fun _ => rfl) (fun i u hu => by
      simp at hu
      subst hu
      rfl) (by unfold maxLen; omega) (by omega) hB
  refine ⟨_, w', r, ?_, ⟨gr.os, gr.tape, gr.output, gr.size, fun u hu => gr.block u (by omega) (fun z => by have := (World.ownsRow.lt h' u z.symm).1; omega)⟩⟩
  unfold OwZ
  rw [grL_len, ← grL_next, zcs_append, Nat.add_assoc] at *
  exact o
end Go.Proofs.YtjbbbejadhojlaaDoor
