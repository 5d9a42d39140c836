import Derived.Test.YtccjeipkljdhdaaGreatDoorXBI
namespace Go.Proofs.YtccjeipkljdhdaaGreatDoor
open Go.RowKit
set_option linter.unusedVariables false
set_option linter.unusedSimpArgs false
theorem lt_cellT {W : World} {b k : Nat} {v : Value} (h : W.cell? ⟨b, k, none⟩ = some v) : b < W.heap.size := by
  unfold World.cell? at h
  by_cases g : b < W.heap.size
  · exact g
  · rw [Array.getElem?_eq_none (by show W.heap.size ≤ b; omega)] at h
    simp at h
section
variable {W : World} {B U m : Nat} {P : Pg}
theorem nm_atW (h : PO W B U P) (q : Wd1 m P.names.length P) {k : Nat} (hk : k < P.names.length) : ∃ g, P.na = some ⟨g, 0, none⟩ ∧ W.cell? ⟨g, k, none⟩ = some (.string (wdB m k)) := by
  have on := h.on
  obtain ⟨g, cap, e⟩ := own_formQ on (by omega)
  injection e with e1 _ e3
  rw [e1] at on
  refine ⟨g, e1, (on.cellAt k (by omega)).trans ?_⟩
  have := q k hk
  rw [List.getElem?_map, List.getElem?_eq_getElem hk, ← this]
  simp [List.getD, hk]
theorem cu_atW (h : PO W B U P) (q : Wd2 m P.curs.length P) {k : Nat} (hk : k < P.curs.length) : ∃ g, P.ua = some ⟨g, 0, none⟩ ∧ W.cell? ⟨g, k, none⟩ = some (.string (wdB m k)) := by
  have on := h.ou
  obtain ⟨g, cap, e⟩ := own_formQ on (by omega)
  injection e with e1 _ e3
  rw [e1] at on
  refine ⟨g, e1, (on.cellAt k (by omega)).trans ?_⟩
  have := q k hk
  rw [List.getElem?_map, List.getElem?_eq_getElem hk, ← this]
  simp [List.getD, hk]
theorem po_atW (h : PO W B U P) (q : Wd3 m P.pool.length P) {k : Nat} (hk : k < P.pool.length) : ∃ g, P.pa = some ⟨g, 0, none⟩ ∧ W.cell? ⟨g, k, none⟩ = some (.int .i64 (-(m : Int))) := by
  have on := h.op
  unfold OwZs at on
  obtain ⟨g, cap, e⟩ := own_formQ on (by omega)
  injection e with e1 _ e3
  rw [e1] at on
  refine ⟨g, e1, (on.cellAt k (by omega)).trans ?_⟩
  have := q k hk
  unfold intsP
  rw [List.getElem?_map, List.getElem?_eq_getElem hk, ← this]
  simp [List.getD, hk]
theorem da_atW (h : PO W B U P) (q : Wd5 m P.days.length P) {k : Nat} (hk : k < P.days.length) : ∃ g, P.da = some ⟨g, 0, none⟩ ∧ W.cell? ⟨g, k * 2, none⟩ = some (.int .i64 (-(m : Int))) ∧ W.cell? ⟨g, k * 2 + 1, none⟩ = some (.slice (P.days.getD k default).ca (P.days.getD k default).code.length (P.days.getD k default).cc) := by
  have on := h.od
  obtain ⟨g, cap, e⟩ := own_formQ on (by omega)
  injection e with e1 _ e3
  rw [e1] at on
  have := q k hk
  exact ⟨g, e1, (on.cellAt (k * 2) (by omega)).trans (by rw [(sgs_getT _ _ hk).1, this]), sgs_atT on k hk⟩
theorem ics_getT : ∀ (l : List In) (k : Nat), k < l.length → (icsP l)[k * 3]? = some (.int .i64 (l.getD k default).o) ∧ (icsP l)[k * 3 + 1]? = some (.int .i64 (l.getD k default).a) ∧ (icsP l)[k * 3 + 2]? = some (.int .i64 (l.getD k default).b)
  | [], k, h => by simp at h
  | f :: l, 0, h => ⟨rfl, rfl, rfl⟩
  | f :: l, k + 1, h => by
    have ih := ics_getT l k (by simpa using h)
    have e : (icell f).length = 3 := rfl
    show (icell f ++ icsP l)[(k + 1) * 3]? = _ ∧ (icell f ++ icsP l)[(k + 1) * 3 + 1]? = _ ∧ (icell f ++ icsP l)[(k + 1) * 3 + 2]? = _
    rw [List.getElem?_append_right (by omega), List.getElem?_append_right (by omega), List.getElem?_append_right (by omega), e, show (k + 1) * 3 - 3 = k * 3 by omega, show (k + 1) * 3 + 1 - 3 = k * 3 + 1 by omega, show (k + 1) * 3 + 2 - 3 = k * 3 + 2 by omega]
    exact ih
theorem co_atW (h : PO W B U P) (q : Wd4 m P.days.length P) {i k : Nat} (hi : i < P.days.length) (hk : k < (P.days.getD i default).code.length) : ∃ g, (P.days.getD i default).ca = some ⟨g, 0, none⟩ ∧ W.cell? ⟨g, k * 3, none⟩ = some (.int .i64 (-(m : Int))) ∧ W.cell? ⟨g, k * 3 + 1, none⟩ = some (.int .i64 0) ∧ W.cell? ⟨g, k * 3 + 2, none⟩ = some (.int .i64 0) := by
  have on := h.oc i hi
  unfold Sg.cv at on
  obtain ⟨g, cap, e⟩ := own_formQ on (by omega)
  injection e with e1 _ e3
  rw [e1] at on
  have t := q i hi k hk
  have ig := ics_getT _ _ hk
  rw [t] at ig
  exact ⟨g, e1, (on.cellAt (k * 3) (by omega)).trans ig.1, (on.cellAt (k * 3 + 1) (by omega)).trans ig.2.1, (on.cellAt (k * 3 + 2) (by omega)).trans ig.2.2⟩
end
set_option maxRecDepth 100000 in
set_option maxHeartbeats 8000000 in
theorem wiped_any {w : World} {B U : Nat} {P : Pg} (h : PO w B U P) (m : Nat) (hm : m ≤ 1000000000000000000) (hW : IsW m P) :
    Calls Tryz.prog 15 #[P.agg, .int .i64 (-(m : Int))] w fun e w' => e = .returned (.bool true) ∧ Below w.heap.size w w' := by
  obtain ⟨W0, hW0⟩ : ∃ y, w.alloc P.box = y := ⟨_, rfl⟩
  have A0 := Lib.hid (p := Below w.heap.size w W0) (by rw [← hW0]; exact allocBP w P.box)
  have X0 : BkP W0 w.heap.size P.arr 27 := by rw [← hW0]; exact heapN w _
  have NX := Lib.hid (p := w.heap.size < W0.heap.size) (Array.getElem?_eq_some_iff.1 X0).1
  have KW := Lib.hid (fun i (hi : i ≤ 1000000000000000000) W => word_any m i hm hi W)
  have PX := Lib.hid (fun W (b : Below W0.heap.size W0 W) => pcells (X0.laterP b))
  have H0 := h.later A0.out
  have C1 := Lib.hid (fun W (b : Below W0.heap.size W0 W) k (hk : k < P.names.length) => nm_atW (H0.later b) hW.1 hk)
  have C2 := Lib.hid (fun W (b : Below W0.heap.size W0 W) k (hk : k < P.curs.length) => cu_atW (H0.later b) hW.2.1 hk)
  have C3 := Lib.hid (fun W (b : Below W0.heap.size W0 W) k (hk : k < P.pool.length) => po_atW (H0.later b) hW.2.2.1 hk)
  have C4 := Lib.hid (fun W (b : Below W0.heap.size W0 W) i k (hi : i < P.days.length) (hk : k < (P.days.getD i default).code.length) => co_atW (H0.later b) hW.2.2.2.1 hi hk)
  have C5 := Lib.hid (fun W (b : Below W0.heap.size W0 W) k (hk : k < P.days.length) => da_atW (H0.later b) hW.2.2.2.2 hk)
  have ZC := Lib.hid (fun i (hi : i < P.days.length) => h.lc i hi)
  have Z := Lib.hid (And.intro h.ln (And.intro h.lu (And.intro h.lp h.ld)))
  clear h H0 hW X0
  unfold Pg.box at hW0
  unfold Pg.agg
  generalize P.names.length = n1 at *
  generalize P.curs.length = n2 at *
  generalize P.pool.length = n3 at *
  obtain ⟨n4, hn4⟩ : ∃ n, P.days.length = n := ⟨_, rfl⟩
  rw [hn4] at hW0 Z
  simp only [hn4] at PX C4 C5 ZC
  rw [hn4]
  clear hn4
  generalize P.na = f0 at *
  generalize P.nc = f1 at *
  generalize P.ua = f2 at *
  generalize P.uc = f3 at *
  generalize P.pa = f4 at *
  generalize P.pc = f5 at *
  generalize P.hor = f6 at *
  generalize P.cells = f7 at *
  generalize P.slots = f8 at *
  generalize P.stack = f9 at *
  generalize P.da = fa at *
  generalize P.dc = fb at *
  generalize P.days = DD at *
  go_enter Tryz.func15, Tryz.ntmps15
  go_upto_region 1 with (fail)
  try rw [hW0]
  clear hW0
  go_wp2
  go_loopw [5] (fun t W => ∃ (k : Nat), k ≤ n1 ∧ t = .int .i64 (k : Int) ∧ RowKit.Hid (Below W0.heap.size W0 W)) (fun t _ => n1 - (intOf t).toNat)
  case atStart => exact ⟨0, Nat.zero_le _, rfl, Lib.hid (Below.refl _ _)⟩
  case round =>
    rename World => W
    try clear HB
    obtain ⟨k, hk, rfl, HB⟩ := hrel
    obtain ⟨x0, x1, x2, x3, x4, x5, x6, x7⟩ := PX.out W HB.out
    have xx := x0
    clear x0 x1 x2 x3 x4 x5 x6 x7
    by_cases hlt : k < n1
    · have kc : (k : Int) < (n1 : Int) := by omega
      have k64 : k ≤ 1000000000000000000 := by have := Z.out; omega
      obtain ⟨g, e, c0⟩ := C1.out W HB.out k hlt
      subst e
      have lx := lt_cellT xx
      have lg := lt_cellT c0
      have X := Lib.hid (p := ∀ W2, Below W.heap.size W W2 → W2.cell? ⟨w.heap.size, 0, none⟩ = some (.slice (some ⟨g, 0, none⟩) n1 f1) ∧ W2.cell? ⟨g, k, none⟩ = some (.string (wdB m k))) (fun W2 b => ⟨(b.cell (p := ⟨w.heap.size, 0, none⟩) lx).trans xx, (b.cell (p := ⟨g, k, none⟩) lg).trans c0⟩)
      have KW2 := Lib.hid (KW.out k k64 W.drew)
      generalize wdB m k = T at *
      clear lx lg hk
      go_upto_region 4 with (fail)
      go_region_held3 (fun w' => w'.cell? ⟨w.heap.size, 0, none⟩ = some (.slice (some ⟨g, 0, none⟩) n1 f1) ∧ w'.cell? ⟨g, k, none⟩ = some (.string T)) (first | exact ⟨xx, c0⟩ | exact X.out _ ((drew1B _).trans (B5.out.mono (Nat.le_refl _)))) (first | (go_at_call 32; refine KW2.out.mono ?_; rintro e w5 ⟨rfl, h5⟩; have B5 := Lib.hid h5; clear h5))
      have B6 := Lib.hid (p := Below W0.heap.size W0 w5) (HB.out.trans (((drew1B W).trans (B5.out.mono (Nat.le_refl _))).mono HB.out.size))
      have B6' := B6.out
      clear X KW2 xx c0
      go_wp2
      go_roundw
      case rel => exact ⟨k + 1, by omega, by go_num, B6⟩
      case measure => simp [intOf]; omega
    · obtain rfl : n1 = k := by omega
      clear hlt hk
      go_wp2
      clear xx
      go_loopw [6] (fun t W => ∃ (k : Nat), k ≤ n2 ∧ t = .int .i64 (k : Int) ∧ RowKit.Hid (Below W0.heap.size W0 W)) (fun t _ => n2 - (intOf t).toNat)
      case atStart => exact ⟨0, Nat.zero_le _, rfl, HB⟩
      case round =>
        rename World => W
        try clear HB
        obtain ⟨k, hk, rfl, HB⟩ := hrel
        obtain ⟨x0, x1, x2, x3, x4, x5, x6, x7⟩ := PX.out W HB.out
        have xx := x1
        clear x0 x1 x2 x3 x4 x5 x6 x7
        by_cases hlt : k < n2
        · have kc : (k : Int) < (n2 : Int) := by omega
          have k64 : k ≤ 1000000000000000000 := by have := Z.out; omega
          obtain ⟨g, e, c0⟩ := C2.out W HB.out k hlt
          subst e
          have lx := lt_cellT xx
          have lg := lt_cellT c0
          have X := Lib.hid (p := ∀ W2, Below W.heap.size W W2 → W2.cell? ⟨w.heap.size, 1, none⟩ = some (.slice (some ⟨g, 0, none⟩) n2 f3) ∧ W2.cell? ⟨g, k, none⟩ = some (.string (wdB m k))) (fun W2 b => ⟨(b.cell (p := ⟨w.heap.size, 1, none⟩) lx).trans xx, (b.cell (p := ⟨g, k, none⟩) lg).trans c0⟩)
          have KW2 := Lib.hid (KW.out k k64 W.drew)
          generalize wdB m k = T at *
          clear lx lg hk
          go_upto_region 9 with (fail)
          go_region_held3 (fun w' => w'.cell? ⟨w.heap.size, 1, none⟩ = some (.slice (some ⟨g, 0, none⟩) n2 f3) ∧ w'.cell? ⟨g, k, none⟩ = some (.string T)) (first | exact ⟨xx, c0⟩ | exact X.out _ ((drew1B _).trans (B5.out.mono (Nat.le_refl _)))) (first | (go_at_call 32; refine KW2.out.mono ?_; rintro e w5 ⟨rfl, h5⟩; have B5 := Lib.hid h5; clear h5))
          have B6 := Lib.hid (p := Below W0.heap.size W0 w5) (HB.out.trans (((drew1B W).trans (B5.out.mono (Nat.le_refl _))).mono HB.out.size))
          have B6' := B6.out
          clear X KW2 xx c0
          go_wp2
          go_roundw
          case rel => exact ⟨k + 1, by omega, by go_num, B6⟩
          case measure => simp [intOf]; omega
        · obtain rfl : n2 = k := by omega
          clear hlt hk
          go_wp2
          clear xx
          go_loopw [7] (fun t W => ∃ (k : Nat), k ≤ n3 ∧ t = .int .i64 (k : Int) ∧ RowKit.Hid (Below W0.heap.size W0 W)) (fun t _ => n3 - (intOf t).toNat)
          case atStart => exact ⟨0, Nat.zero_le _, rfl, HB⟩
          case round =>
            rename World => W
            clear HB
            obtain ⟨k, hk, rfl, HB⟩ := hrel
            obtain ⟨x0, x1, x2, x3, x4, x5, x6, x7⟩ := PX.out W HB.out
            clear x0 x1 x3 x4 x5 x6 x7
            by_cases hlt : k < n3
            · have kc : (k : Int) < (n3 : Int) := by omega
              have k64 : k ≤ 1000000000000000000 := by have := Z.out; omega
              obtain ⟨g, e, c0⟩ := C3.out W HB.out k hlt
              subst e
              go_wp2
              go_roundw
              case rel => exact ⟨k + 1, by omega, by go_num, HB⟩
              case measure => simp [intOf]; omega
            · obtain rfl : n3 = k := by omega
              clear hlt hk
              go_wp2
              clear x2
              go_loopw [8] (fun t W => ∃ (i : Nat), i ≤ n4 ∧ t = .int .i64 (i : Int) ∧ RowKit.Hid (Below W0.heap.size W0 W)) (fun t _ => n4 - (intOf t).toNat)
              case atStart => exact ⟨0, Nat.zero_le _, rfl, HB⟩
              case round =>
                rename World => W
                clear HB
                obtain ⟨i, hi, rfl, HB⟩ := hrel
                obtain ⟨x0, x1, x2, x3, x4, x5, x6, x7⟩ := PX.out W HB.out
                clear x0 x1 x2 x3 x4 x5 x6
                by_cases hlt : i < n4
                · have ic : (i : Int) < (n4 : Int) := by omega
                  have i64' : i ≤ 1000000000000000000 := by have := Z.out; omega
                  obtain ⟨g, e, c0, c1⟩ := C5.out W HB.out i hlt
                  have C41 := Lib.hid (fun W b k hk => C4.out W b i k hlt hk)
                  have zc := ZC.out i hlt
                  have C51 := Lib.hid (fun W b => C5.out W b i hlt)
                  subst e
                  generalize DD.getD i default = s at *
                  generalize s.code.length = M at *
                  generalize s.ca = y at *
                  generalize s.cc = z at *
                  go_upto_region 22 with (fail)
                  go_loopw [9] (fun t W => ∃ (k : Nat), k ≤ M ∧ t = .int .i64 (k : Int) ∧ RowKit.Hid (Below W0.heap.size W0 W)) (fun t _ => M - (intOf t).toNat)
                  case atStart => exact ⟨0, Nat.zero_le _, rfl, HB⟩
                  case round =>
                    rename World => W'
                    clear HB x7 c0 c1
                    obtain ⟨k, hk, rfl, HB⟩ := hrel
                    obtain ⟨x0, x1, x2, x3, x4, x5, x6, x7⟩ := PX.out W' HB.out
                    clear x0 x1 x2 x3 x4 x5 x6
                    obtain ⟨g', e', c0, c1⟩ := C51.out W' HB.out
                    injection e' with e'
                    injection e' with e' _
                    subst e'
                    by_cases hlt2 : k < M
                    · have kc : (k : Int) < (M : Int) := by omega
                      have k64 : k ≤ 1000000000000000000 := by omega
                      obtain ⟨g2, e2, d0, d1, d2⟩ := C41.out W' HB.out k hlt2
                      subst e2
                      go_wp2
                      go_roundw
                      case rel => exact ⟨k + 1, by omega, by go_num, HB⟩
                      case measure => simp [intOf]; omega
                    · obtain rfl : M = k := by omega
                      go_wp2
                      go_roundw
                      case rel => exact ⟨i + 1, by omega, by go_num, HB⟩
                      case measure => simp [intOf]; omega
                · obtain rfl : n4 = i := by omega
                  go_wp2
                  go_ret
                  exact ⟨rfl, A0.out.trans (HB.out.mono A0.out.size)⟩
end Go.Proofs.YtccjeipkljdhdaaGreatDoor

namespace Go.Proofs.YtccjeipkljdhdaaGreatDoor
open Go.RowKit
set_option linter.unusedVariables false
set_option linter.unusedSimpArgs false

def hcs (Ps : List Pg) : List Value := Ps.flatMap Pg.cs
theorem hcs_app (a b : List Pg) : hcs (a ++ b) = hcs a ++ hcs b := by simp [hcs]
theorem cs_len (P : Pg) : P.cs.length = 8 := rfl
theorem cs_arr (P : Pg) : P.cs = P.arr.toList := rfl
theorem hcs_get : ∀ (l : List Pg) (k : Nat), k < l.length → ∀ j, j < 8 → (hcs l)[k * 8 + j]? = (l.getD k default).cs[j]?
  | [], k, h, _, _ => by simp at h
  | P :: l, 0, h, j, hj => by
    show (P.cs ++ hcs l)[0 * 8 + j]? = P.cs[j]?
    rw [List.getElem?_append_left (by rw [cs_len]; omega), Nat.zero_mul, Nat.zero_add]
  | P :: l, k + 1, h, j, hj => by
    have ih := hcs_get l k (by simpa using h) j hj
    show (P.cs ++ hcs l)[(k + 1) * 8 + j]? = _
    rw [List.getElem?_append_right (by rw [cs_len]; omega), cs_len, show (k + 1) * 8 + j - 8 = k * 8 + j by omega, ih]
    rfl
theorem hcs_set : ∀ (l : List Pg) (k : Nat) (P' : Pg), k < l.length → P'.arr = (l.getD k default).arr → hcs (l.set k P') = hcs l
  | [], k, P', h, _ => by simp at h
  | P :: l, 0, P', h, e => by
    have e : P'.arr = P.arr := e
    show P'.cs ++ hcs l = P.cs ++ hcs l
    rw [cs_arr, cs_arr, e]
  | P :: l, k + 1, P', h, e => by
    have ih := hcs_set l k P' (by simpa using h) e
    show P.cs ++ hcs (l.set k P') = P.cs ++ hcs l
    rw [ih]
theorem PO.fr {W W' : World} {B U : Nat} {P : Pg} {D : Nat → Prop} (h : PO W B U P) (f : FrDX D W W') (q : ∀ z, B ≤ z → z < U → ¬ D z) : PO W' B U P :=
  ⟨f.own h.on (fun z e => q z (h.on.lt z e).1 (h.un z e)), f.own h.ou (fun z e => q z (h.ou.lt z e).1 (h.uu z e)), f.own h.op (fun z e => q z (h.op.lt z e).1 (h.up z e)), f.own h.od (fun z e => q z (h.od.lt z e).1 (h.ud z e)), fun i hi => f.own (h.oc i hi) (fun z e => q z ((h.oc i hi).lt z e).1 (h.uc i hi z e)), h.ap, h.nu, h.un, h.uu, h.up, h.ud, h.uc, h.ln, h.lu, h.lp, h.ld, h.lc⟩
theorem PO.kept {W W' : World} {B U B' n : Nat} {P : Pg} {v : Value} {xs : List Value} (h : PO W B U P) (o : W.ownsRow B' 27 8 v n xs) (g : W.grownBy W' v.ownBlock) : PO W' B U P :=
  ⟨h.on.kept g (own_apT h.on o (by decide)), h.ou.kept g (own_apT h.ou o (by decide)), h.op.kept g (own_apT h.op o (by decide)), h.od.kept g (own_apT h.od o (by decide)), fun i hi => (h.oc i hi).kept g (own_apT (h.oc i hi) o (by decide)), h.ap, h.nu, h.un, h.uu, h.up, h.ud, h.uc, h.ln, h.lu, h.lp, h.ld, h.lc⟩
/-- What is held: the programs, each with the blocks that it lies in. -/
structure HeD (W : World) (B0 : Nat) (v : Value) (Ps : List Pg) (Bs Us : Nat → Nat) : Prop where
  ow : W.ownsRow B0 27 8 v Ps.length (hcs Ps)
  po : ∀ k, k < Ps.length → PO W (Bs k) (Us k) (Ps.getD k default)
  od : ∀ j k, j < k → k < Ps.length → Us j ≤ Bs k
  lo : ∀ k, k < Ps.length → B0 ≤ Bs k
  hi : ∀ k, k < Ps.length → Us k ≤ W.heap.size
  nb : ∀ k, k < Ps.length → ∀ z, v.ownBlock = some z → z < Bs k ∨ Us k ≤ z
section
variable {W W' : World} {B0 : Nat} {v : Value} {Ps : List Pg} {Bs Us : Nat → Nat}
theorem HeD.nil (W : World) (B0 : Nat) : HeD W B0 (.slice none 0 0) [] (fun _ => 0) (fun _ => 0) :=
  ⟨World.ownsRow_nil _ _ _ _, (fun k hk => absurd hk (by simp)), (fun j k _ hk => absurd hk (by simp)), (fun k hk => absurd hk (by simp)), (fun k hk => absurd hk (by simp)), (fun k hk => absurd hk (by simp))⟩
theorem HeD.later (h : HeD W B0 v Ps Bs Us) (b : Below W.heap.size W W') : HeD W' B0 v Ps Bs Us :=
  ⟨own_belQ h.ow b, fun k hk => (h.po k hk).later b, h.od, h.lo, fun k hk => Nat.le_trans (h.hi k hk) b.size, h.nb⟩
theorem HeD.wipe (h : HeD W B0 v Ps Bs Us) {k : Nat} (hk : k < Ps.length) {P' : Pg} (hp : PO W' (Bs k) (Us k) P') (f : FrDX (fun z => Bs k ≤ z ∧ z < Us k) W W') (e : P'.arr = (Ps.getD k default).arr) : HeD W' B0 v (Ps.set k P') Bs Us := by
  have ln : (Ps.set k P').length = Ps.length := List.length_set
  refine ⟨?_, fun j hj => ?_, fun i j hij hj => h.od i j hij (by omega), fun j hj => h.lo j (by omega), fun j hj => Nat.le_trans (h.hi j (by omega)) f.size, fun j hj => h.nb j (by omega)⟩
  · rw [ln, hcs_set _ _ _ hk e]
    refine f.own h.ow (fun z q => ?_)
    have := h.nb k hk z q
    omega
  · rw [getD_setT _ _ _ _ hk]
    by_cases q : j = k
    · subst q; rw [if_pos rfl]; exact hp
    · rw [if_neg q]
      refine (h.po j (by omega)).fr f (fun z h1 h2 => ?_)
      rcases Nat.lt_or_gt_of_ne q with r | r
      · have := h.od j k r hk; omega
      · have := h.od k j r (by omega); omega
/-- Three more. -/
theorem HeD.push (h : HeD W B0 v Ps Bs Us) {o : Obj} {v' : Value} {p x y : Pg} {B1 U1 B2 U2 B3 U3 : Nat} (hp : PO W B1 U1 p) (hx : PO W B2 U2 x) (hy : PO W B3 U3 y)
    (l0 : ∀ k, k < Ps.length → Us k ≤ B1) (l1 : U1 ≤ B2) (l2 : U2 ≤ B3) (l3 : U3 ≤ W.heap.size) (m0 : B0 ≤ B1) (m1 : B1 ≤ U1) (m2 : B2 ≤ U2) (m3 : B3 ≤ U3) (nz : ∀ z, v.ownBlock = some z → z < B1)
    (ho : W'.ownsRow B0 27 8 v' (Ps.length + 3) (hcs Ps ++ (p.cs ++ x.cs ++ y.cs))) (g : (W.alloc o).grownBy W' v.ownBlock) (ly : v'.ownBlock = v.ownBlock ∨ v'.ownBlock = some (W.alloc o).heap.size) :
    HeD W' B0 v' (Ps ++ [p, x, y]) (fun k => if k < Ps.length then Bs k else [B1, B2, B3].getD (k - Ps.length) 0) (fun k => if k < Ps.length then Us k else [U1, U2, U3].getD (k - Ps.length) 0) := by
  have oA := h.ow.alloc o
  have bA := allocBP W o
  have sz : W.heap.size ≤ W'.heap.size := Nat.le_trans (by simp) g.size
  have up : ∀ {B U : Nat} {P : Pg}, PO W B U P → PO W' B U P := fun q => (q.later bA).kept oA g
  have ln : (Ps ++ [p, x, y]).length = Ps.length + 3 := by simp
  have cs : ∀ k, k < Ps.length + 3 → k < Ps.length ∨ k = Ps.length ∨ k = Ps.length + 1 ∨ k = Ps.length + 2 := fun k hk => by omega
  have g0 : ∀ k, k < Ps.length → (Ps ++ [p, x, y]).getD k default = Ps.getD k default := fun k hk => by simp only [List.getD]; rw [List.getElem?_append_left hk]
  have g1 : ∀ j, (Ps ++ [p, x, y]).getD (Ps.length + j) default = [p, x, y].getD j default := fun j => by simp only [List.getD]; rw [List.getElem?_append_right (by omega)]; congr 2; omega
  have b1 : ∀ j, (if Ps.length + j < Ps.length then Bs (Ps.length + j) else [B1, B2, B3].getD (Ps.length + j - Ps.length) 0) = [B1, B2, B3].getD j 0 := fun j => by rw [if_neg (by omega)]; congr 1; omega
  have u1 : ∀ j, (if Ps.length + j < Ps.length then Us (Ps.length + j) else [U1, U2, U3].getD (Ps.length + j - Ps.length) 0) = [U1, U2, U3].getD j 0 := fun j => by rw [if_neg (by omega)]; congr 1; omega
  have cc : ∀ k, k < Ps.length + 3 → k < Ps.length ∨ ∃ j, j < 3 ∧ k = Ps.length + j := fun k hk => by
    by_cases q : k < Ps.length
    · exact .inl q
    · exact .inr ⟨k - Ps.length, by omega, by omega⟩
  have lo3 : ∀ j, j < 3 → B1 ≤ [B1, B2, B3].getD j 0 := fun j hj => by
    match j, hj with
    | 0, _ => exact Nat.le_refl _
    | 1, _ => show B1 ≤ B2; omega
    | 2, _ => show B1 ≤ B3; omega
  have hiW : ∀ j, j < 3 → [U1, U2, U3].getD j 0 ≤ W.heap.size := fun j hj => by
    match j, hj with
    | 0, _ => show U1 ≤ _; omega
    | 1, _ => show U2 ≤ _; omega
    | 2, _ => exact l3
  refine ⟨?_, fun k hk => ?_, fun a b hab hb => ?_, fun k hk => ?_, fun k hk => ?_, fun k hk z hz => ?_⟩
  · rw [ln, hcs_app]
    have : hcs [p, x, y] = p.cs ++ x.cs ++ y.cs := by simp [hcs]
    rw [this]
    exact ho
  · rw [ln] at hk
    rcases cc k hk with q | ⟨j, hj, rfl⟩
    · simp only [if_pos q]
      rw [g0 k q]
      exact up (h.po k q)
    · simp only [b1, u1]
      rw [g1]
      match j, hj with
      | 0, _ => exact up hp
      | 1, _ => exact up hx
      | 2, _ => exact up hy
  · rw [ln] at hb
    rcases cc b hb with q | ⟨j, hj, rfl⟩
    · simp only [if_pos q, if_pos (show a < Ps.length by omega)]
      exact h.od a b hab q
    · rcases cc a (by omega) with r | ⟨i, hi, rfl⟩
      · simp only [if_pos r, b1]
        exact Nat.le_trans (l0 a r) (lo3 j hj)
      · simp only [b1, u1]
        match i, hi, j, hj with
        | 0, _, 1, _ => exact l1
        | 0, _, 2, _ => show U1 ≤ B3; omega
        | 1, _, 2, _ => exact l2
        | 0, _, 0, _ => omega
        | 1, _, 0, _ => omega
        | 1, _, 1, _ => omega
        | 2, _, 0, _ => omega
        | 2, _, 1, _ => omega
        | 2, _, 2, _ => omega
  · rw [ln] at hk
    rcases cc k hk with q | ⟨j, hj, rfl⟩
    · simp only [if_pos q]; exact h.lo k q
    · simp only [b1]; exact Nat.le_trans m0 (lo3 j hj)
  · rw [ln] at hk
    rcases cc k hk with q | ⟨j, hj, rfl⟩
    · simp only [if_pos q]; exact Nat.le_trans (h.hi k q) sz
    · simp only [u1]; exact Nat.le_trans (hiW j hj) sz
  · rw [ln] at hk
    rcases ly with r | r
    · rw [r] at hz
      rcases cc k hk with q | ⟨j, hj, rfl⟩
      · simp only [if_pos q]; exact h.nb k q z hz
      · simp only [b1]; exact .inl (Nat.lt_of_lt_of_le (nz z hz) (lo3 j hj))
    · rw [r] at hz
      injection hz with hz
      have e : (W.alloc o).heap.size = W.heap.size + 1 := by simp
      rw [e] at hz
      rcases cc k hk with q | ⟨j, hj, rfl⟩
      · simp only [if_pos q]; exact .inr (by have := h.hi k q; omega)
      · simp only [u1]; exact .inr (by have := hiW j hj; omega)
end
theorem HeD.cells {W : World} {B0 g n cap : Nat} {Ps : List Pg} {Bs Us : Nat → Nat} (h : HeD W B0 (.slice (some ⟨g, 0, none⟩) n cap) Ps Bs Us) (hn : Ps.length = n) {k : Nat} (hk : k < n) :
    W.cell? ⟨g, k * 8, none⟩ = some (.slice (Ps.getD k default).na (Ps.getD k default).names.length (Ps.getD k default).nc) ∧ W.cell? ⟨g, k * 8 + 1, none⟩ = some (.slice (Ps.getD k default).ua (Ps.getD k default).curs.length (Ps.getD k default).uc) ∧ W.cell? ⟨g, k * 8 + 2, none⟩ = some (.slice (Ps.getD k default).pa (Ps.getD k default).pool.length (Ps.getD k default).pc) ∧ W.cell? ⟨g, k * 8 + 3, none⟩ = some (.int .i64 (Ps.getD k default).hor) ∧ W.cell? ⟨g, k * 8 + 4, none⟩ = some (.int .i64 (Ps.getD k default).cells) ∧ W.cell? ⟨g, k * 8 + 5, none⟩ = some (.int .i64 (Ps.getD k default).slots) ∧ W.cell? ⟨g, k * 8 + 6, none⟩ = some (.int .i64 (Ps.getD k default).stack) ∧ W.cell? ⟨g, k * 8 + 7, none⟩ = some (.slice (Ps.getD k default).da (Ps.getD k default).days.length (Ps.getD k default).dc) := by
  subst hn
  have c : ∀ j, j < 8 → W.cell? ⟨g, k * 8 + j, none⟩ = (Ps.getD k default).cs[j]? := fun j hj => (h.ow.cellAt (k * 8 + j) (by omega)).trans (hcs_get Ps k hk j hj)
  exact ⟨c 0 (by omega), c 1 (by omega), c 2 (by omega), c 3 (by omega), c 4 (by omega), c 5 (by omega), c 6 (by omega), c 7 (by omega)⟩
theorem infoX8 : (Tryz.prog.info? 27).map (fun i => (i.zero, i.size, i.bytes)) = some (some (.agg #[.slice none 0 0, .slice none 0 0, .slice none 0 0, .int .i64 0, .int .i64 0, .int .i64 0, .int .i64 0, .slice none 0 0]), 8, 128) := by kernel_rfl
theorem wp_push3 {ops : Array Oper} {rest : List Oper} {o : Oper} {a : Act} {Q : Exit → Act → World → Prop} (w : World) (B0 n : Nat) (xs : List Value) (P1 P2 P3 : Pg) (hgd : o.guard = none) (s x : Operand)
    (ho : o.op = .call { callee := .builtin .append, args := #[s, x], argTypes := #[44, 44] }) (v : Value) (hs : a.eval s = v) (hown : w.ownsRow B0 27 8 v n xs)
    (hx : a.eval x = .slice (some ⟨w.heap.size, 0, none⟩) 3 3) (hn : n ≤ 100000000) (hB : B0 ≤ w.heap.size) (cs : Array Value) (hc : cs = (P1.cs ++ P2.cs ++ P3.cs).toArray)
    (h : ∀ v' w', w'.ownsRow B0 27 8 v' (n + 3) (xs ++ (P1.cs ++ P2.cs ++ P3.cs)) → (w.alloc (.cells cs 27)).grownBy w' v.ownBlock → (v'.ownBlock = v.ownBlock ∨ v'.ownBlock = some (w.alloc (.cells cs 27)).heap.size) → wpList Tryz.prog ops Q rest (a.put o.dst v') w') :
    wpList Tryz.prog ops Q (o :: rest) a (w.alloc (.cells cs 27)) := by
  obtain ⟨i0, hi, hz0, hz1, hz2⟩ := info_parts infoX8
  have one : ∀ (P : Pg), ∀ u ∈ P.cs, u.oneCell' = true := fun P u hu => by
    unfold Pg.cs at hu
    simp only [List.mem_cons, List.not_mem_nil, or_false] at hu
    rcases hu with rfl | rfl | rfl | rfl | rfl | rfl | rfl | rfl <;> rfl
  refine wpList_append_own_at _ hgd s x 44 ho B0 27 i0 _ 8 128 Tryz.underlying44 hi hz0 hz1 hz2 rfl (by decide) v n xs hs (hown.alloc _) ⟨w.heap.size, 0, none⟩ 3 3 (P1.cs ++ P2.cs ++ P3.cs) hx (by simp [cs_len]) ?_ ?_ (by unfold maxLen; omega) (by omega) (Nat.le_trans hB (by simp)) ?_
  · intro j u hj
    rw [Go.Addr.add_lit, Nat.zero_add, World.cell?_alloc_at _ _ _ _ rfl, hc]
    simpa using hj
  · intro u hu
    rcases List.mem_append.1 hu with hu | hu
    · rcases List.mem_append.1 hu with hu | hu
      · exact one _ u hu
      · exact one _ u hu
    · exact one _ u hu
  · intro v' w' k1 k2 _ k4
    exact h v' w' k1 k2 k4
end Go.Proofs.YtccjeipkljdhdaaGreatDoor
