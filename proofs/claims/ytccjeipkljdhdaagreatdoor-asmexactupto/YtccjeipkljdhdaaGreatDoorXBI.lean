import Derived.Test.YtccjeipkljdhdaaGreatDoorXBH
namespace Go.Proofs.YtccjeipkljdhdaaGreatDoor
open Go.RowKit
set_option linter.unusedVariables false
set_option linter.unusedSimpArgs false

theorem cell_neT {W : World} {b g : Nat} (h : b ≠ g) (j k : Nat) (v : Value) : (W.setCell ⟨g, k, none⟩ v).cell? ⟨b, j, none⟩ = W.cell? ⟨b, j, none⟩ := by
  have : ¬ g = b := fun e => h e.symm
  simp [World.cell?, World.setCell, Array.getElem?_modify, this]
theorem sgs_getT : ∀ (D : List Sg) (i : Nat), i < D.length → (sgsP D)[i * 2]? = some (.int .i64 (D.getD i default).day) ∧ (sgsP D)[i * 2 + 1]? = some (.slice (D.getD i default).ca (D.getD i default).code.length (D.getD i default).cc)
  | [], i, h => by simp at h
  | s :: D, 0, h => ⟨rfl, rfl⟩
  | s :: D, i + 1, h => by
    have ih := sgs_getT D i (by simpa using h)
    have e : s.cs.length = 2 := rfl
    show (s.cs ++ sgsP D)[(i + 1) * 2]? = _ ∧ (s.cs ++ sgsP D)[(i + 1) * 2 + 1]? = _
    rw [List.getElem?_append_right (by omega), List.getElem?_append_right (by omega), e, show (i + 1) * 2 - 2 = i * 2 by omega, show (i + 1) * 2 + 1 - 2 = i * 2 + 1 by omega]
    exact ih
theorem sgs_atT {W : World} {B g n c : Nat} {D : List Sg} (h : W.ownsRow B 39 2 (.slice (some ⟨g, 0, none⟩) n c) n (sgsP D)) (i : Nat) (hi : i < D.length) (hn : D.length = n := by rfl) : W.cell? ⟨g, i * 2 + 1, none⟩ = some (.slice (D.getD i default).ca (D.getD i default).code.length (D.getD i default).cc) :=
  (h.cellAt (i * 2 + 1) (by omega)).trans (sgs_getT D i hi).2
theorem infoX1 : (Tryz.prog.info? 9).map (fun i => (i.zero, i.size, i.bytes)) = some (some (.string ⟨#[]⟩), 1, 16) := by kernel_rfl
theorem infoX2 : (Tryz.prog.info? 3).map (fun i => (i.zero, i.size, i.bytes)) = some (some (.int .i64 0), 1, 8) := by kernel_rfl
theorem infoX3 : (Tryz.prog.info? 42).map (fun i => (i.zero, i.size, i.bytes)) = some (some (.agg #[.int .i64 0, .int .i64 0, .int .i64 0]), 3, 24) := by kernel_rfl
theorem infoX4 : (Tryz.prog.info? 39).map (fun i => (i.zero, i.size, i.bytes)) = some (some (.agg #[.int .i64 0, .slice none 0 0]), 2, 32) := by kernel_rfl
section
variable {w0 W w' : World} {B U : Nat} {P P' : Pg} {n : Nat} {o : Obj}
theorem WpS.own1 (h : WpS w0 W B U P P') (l : P'.names.length = n) : W.ownsRow B 9 1 (.slice P'.na n P'.nc) n (P'.names.map .string) := by have := h.po.on; unfold OwQ at this; rw [l] at this; exact this
theorem WpS.own2 (h : WpS w0 W B U P P') (l : P'.curs.length = n) : W.ownsRow B 9 1 (.slice P'.ua n P'.uc) n (P'.curs.map .string) := by have := h.po.ou; unfold OwQ at this; rw [l] at this; exact this
theorem WpS.own3 (h : WpS w0 W B U P P') (l : P'.pool.length = n) : W.ownsRow B 3 1 (.slice P'.pa n P'.pc) n (intsP P'.pool) := by have := h.po.op; unfold OwZs at this; rw [l] at this; exact this
theorem WpS.own4 (h : WpS w0 W B U P P') (l : P'.days.length = n) : W.ownsRow B 39 2 (.slice P'.da n P'.dc) n (sgsP P'.days) := by have := h.po.od; rw [l] at this; exact this
theorem own_upT {W w' : World} {B s n : Nat} {e : TypeId} {v : Value} {xs xs0 : List Value} (h : W.ownsRow B e s v n xs0) (k : w'.ownsRow 0 e s v n xs) : w'.ownsRow B e s v n xs :=
  ⟨k.1, k.2.imp_right fun ⟨g, cap, cur, e1, e2, e3⟩ => ⟨g, cap, cur, e1, (h.lt g (by rw [e1]; rfl)).1, e3⟩⟩
theorem WpS.app (h : WpS w0 W B U P P') {v : Value} (hv : ∀ z, v.ownBlock = some z → B ≤ z ∧ z < U) (g : (W.alloc o).grownBy w' v.ownBlock) (hp : PO w' B U P') : WpS w0 w' B U P P' :=
  ⟨hp, (h.later (allocBP W o)).bx.grown g (fun e => by have := (hv _ e.symm).2; have := h.ub; omega), (h.fr.alloc o).grown g (fun z e _ => hv z e), h.ub, h.e1, h.l1, h.l2, h.l3, h.l4⟩
theorem WpS.appN (h : WpS w0 W B U P P') (l : P'.names.length = n) (k : w'.ownsRow 0 9 1 (.slice P'.na n P'.nc) n (P'.names.map .string)) (g : (W.alloc o).grownBy w' (Value.slice P'.na n P'.nc).ownBlock) : WpS w0 w' B U P P' := by
  subst l
  exact h.app (fun z e => ⟨(h.po.on.lt z e).1, h.po.un z e⟩) g ((h.po.later (allocBP W o)).appN (own_upT h.po.on k) g)
theorem WpS.appU (h : WpS w0 W B U P P') (l : P'.curs.length = n) (k : w'.ownsRow 0 9 1 (.slice P'.ua n P'.uc) n (P'.curs.map .string)) (g : (W.alloc o).grownBy w' (Value.slice P'.ua n P'.uc).ownBlock) : WpS w0 w' B U P P' := by
  subst l
  exact h.app (fun z e => ⟨(h.po.ou.lt z e).1, h.po.uu z e⟩) g ((h.po.later (allocBP W o)).appU (own_upT h.po.ou k) g)
theorem WpS.appP (h : WpS w0 W B U P P') (l : P'.pool.length = n) (k : w'.ownsRow 0 3 1 (.slice P'.pa n P'.pc) n (intsP P'.pool)) (g : (W.alloc o).grownBy w' (Value.slice P'.pa n P'.pc).ownBlock) : WpS w0 w' B U P P' := by
  subst l
  exact h.app (fun z e => ⟨(h.po.op.lt z e).1, h.po.up z e⟩) g ((h.po.later (allocBP W o)).appP (own_upT h.po.op k) g)
theorem WpS.appD (h : WpS w0 W B U P P') (l : P'.days.length = n) (k : w'.ownsRow 0 39 2 (.slice P'.da n P'.dc) n (sgsP P'.days)) (g : (W.alloc o).grownBy w' (Value.slice P'.da n P'.dc).ownBlock) : WpS w0 w' B U P P' := by
  subst l
  exact h.app (fun z e => ⟨(h.po.od.lt z e).1, h.po.ud z e⟩) g ((h.po.later (allocBP W o)).appD (own_upT h.po.od k) g)
theorem WpS.appC (h : WpS w0 W B U P P') {i : Nat} (hi : i < P'.days.length) (k : w'.ownsRow 0 42 3 (P'.days.getD i default).cv (P'.days.getD i default).code.length (icsP (P'.days.getD i default).code)) (g : (W.alloc o).grownBy w' (P'.days.getD i default).cv.ownBlock) : WpS w0 w' B U P P' :=
  h.app (fun z e => ⟨((h.po.oc i hi).lt z e).1, h.po.uc i hi z e⟩) g ((h.po.later (allocBP W o)).appC hi (own_upT (h.po.oc i hi) k) g)
end
def Wd1 (m k : Nat) (P : Pg) : Prop := ∀ j, j < k → P.names.getD j default = wdB m j
def Wd2 (m k : Nat) (P : Pg) : Prop := ∀ j, j < k → P.curs.getD j default = wdB m j
def Wd3 (m k : Nat) (P : Pg) : Prop := ∀ j, j < k → P.pool.getD j default = -(m : Int)
def Wd4 (m i : Nat) (P : Pg) : Prop := ∀ a, a < i → ∀ b, b < (P.days.getD a default).code.length → (P.days.getD a default).code.getD b default = ⟨-(m : Int), 0, 0⟩
def Wd5 (m k : Nat) (P : Pg) : Prop := ∀ j, j < k → (P.days.getD j default).day = -(m : Int)
/-- A program's lists hold nothing but a mark. -/
def IsW (m : Nat) (P : Pg) : Prop := Wd1 m P.names.length P ∧ Wd2 m P.curs.length P ∧ Wd3 m P.pool.length P ∧ Wd4 m P.days.length P ∧ Wd5 m P.days.length P
theorem setT {α : Type} [Inhabited α] {l : List α} {f : Nat → α} {k : Nat} (hk : k < l.length) (h : ∀ j, j < k → l.getD j default = f j) : ∀ j, j < k + 1 → (l.set k (f k)).getD j default = f j := by
  intro j hj
  rw [getD_setT _ _ _ _ hk]
  by_cases e : j = k
  · subst e; rw [if_pos rfl]
  · rw [if_neg e]; exact h j (by omega)
set_option maxRecDepth 100000 in
set_option maxHeartbeats 8000000 in
theorem wipe_any {w : World} {B U : Nat} {P : Pg} (h : PO w B U P) (hU : U ≤ w.heap.size) (m : Nat) (hm : m ≤ 1000000000000000000) :
    Calls Tryz.prog 14 #[P.agg, .int .i64 (-(m : Int))] w fun e w' => ∃ P', e = .returned (.tuple #[]) ∧ P'.arr = P.arr ∧ PO w' B U P' ∧ IsW m P' ∧ FrDX (fun z => B ≤ z ∧ z < U) w w' := by
  obtain ⟨W0, hW0⟩ : ∃ y, w.alloc P.box = y := ⟨_, rfl⟩
  have HS0 := Lib.hid (p := WpS w W0 B U P P) (by
    rw [← hW0]
    exact ⟨h.later (allocBP w P.box), heapN w _, FrDX.below (allocBP w P.box), hU, rfl, rfl, rfl, rfl, rfl⟩)
  have KW := Lib.hid (fun i (hi : i ≤ 1000000000000000000) W => word_any m i hm hi W)
  have Z := Lib.hid (And.intro h.ln (And.intro h.lu (And.intro h.lp h.ld)))
  have BU := Lib.hid (p := U ≤ w.heap.size) hU
  clear h hU
  unfold Pg.box at hW0
  unfold Pg.agg
  obtain ⟨n1, hn1⟩ : ∃ n, P.names.length = n := ⟨_, rfl⟩
  obtain ⟨n2, hn2⟩ : ∃ n, P.curs.length = n := ⟨_, rfl⟩
  obtain ⟨n3, hn3⟩ : ∃ n, P.pool.length = n := ⟨_, rfl⟩
  obtain ⟨n4, hn4⟩ : ∃ n, P.days.length = n := ⟨_, rfl⟩
  rw [hn1, hn2, hn3, hn4] at hW0 Z
  rw [hn1, hn2, hn3, hn4]
  have N1 := Lib.hid hn1
  have N2 := Lib.hid hn2
  have N3 := Lib.hid hn3
  have N4 := Lib.hid hn4
  clear hn1 hn2 hn3 hn4
  generalize P.na = f0 at *
  generalize P.nc = f1 at *
  generalize P.ua = f2 at *
  generalize P.uc = f3 at *
  generalize P.pa = f4 at *
  generalize P.pc = f5 at *
  generalize P.hor = f6 at *
  generalize P.cells = f7 at *
  generalize P.slots = f8 at *
  generalize P.stack = f9 at *
  generalize P.da = fa at *
  generalize P.dc = fb at *
  go_enter Tryz.func14, Tryz.ntmps14
  go_upto_region 1 with (fail)
  try rw [hW0]
  clear hW0
  go_wp2
  go_loopw [4] (fun t W => ∃ (k : Nat) (P' : Pg), k ≤ n1 ∧ t = .int .i64 (k : Int) ∧ RowKit.Hid (WpS w W B U P P') ∧ RowKit.Hid (Wd1 m k P')) (fun t _ => n1 - (intOf t).toNat)
  case atStart => exact ⟨0, _, Nat.zero_le _, rfl, HS0, Lib.hid (fun j hj => absurd hj (by omega))⟩
  case round =>
    rename World => W
    clear HS0
    obtain ⟨k, P', hk, rfl, HS, HK⟩ := hrel
    have l1 : P'.names.length = n1 := by rw [← N1.out]; exact HS.out.l1
    obtain ⟨x0, x1, x2, x3, x4, x5, x6, x7⟩ := pcells HS.out.bx
    have xx := x0
    rw [l1] at xx
    clear x0 x1 x2 x3 x4 x5 x6 x7
    by_cases hlt : k < n1
    · have kc : (k : Int) < (n1 : Int) := by omega
      have on := HS.out.po.on
      obtain ⟨g, cap, e⟩ := own_formQ on (by omega)
      injection e with e1 _ e3
      subst e3
      rw [e1] at on xx
      have len : (P'.names.map Value.string).length = P'.names.length := by simp
      have c0 := on.cellAt k (by omega)
      rw [List.getElem?_eq_getElem (by omega)] at c0
      have f0 := on.frozenAt k
      generalize (P'.names.map Value.string)[k]'(by omega) = z0 at c0
      clear on len
      have k64 : k ≤ 1000000000000000000 := by have := Z.out; omega
      have KW2 := Lib.hid (KW.out k k64 W.drew)
      have gl : g < W.heap.size := (HS.out.po.on.lt g (by rw [e1]; rfl)).2
      have X := Lib.hid (p := ∀ W2, Below W.heap.size W W2 → W2.cell? ⟨w.heap.size, 0, none⟩ = some (.slice (some ⟨g, 0, none⟩) n1 P'.nc) ∧ W2.cell? ⟨g, k, none⟩ = some z0 ∧ W2.frozen? ⟨g, k, none⟩ = false) (fun W2 b => ⟨(b.cell (p := ⟨w.heap.size, 0, none⟩) HS.out.nx).trans xx, (b.cell (p := ⟨g, k, none⟩) gl).trans c0, (World.frozen?_of_block (a := ⟨g, k, none⟩) (b.block g gl)).trans f0⟩)
      have HE := Lib.hid e1
      have HL := Lib.hid l1
      have ng : w.heap.size ≠ g := by
        have := HS.out.ub
        have := HS.out.po.un g (by rw [e1]; rfl)
        omega
      clear c0 f0 gl l1 e1
      go_upto_region 4 with (fail)
      go_region_held3 (fun w' => w'.cell? ⟨w.heap.size, 0, none⟩ = some (.slice (some ⟨g, 0, none⟩) n1 P'.nc)) (first | exact xx | exact (X.out _ ((drew1B _).trans (B5.out.mono (Nat.le_refl _)))).1 | exact (cell_neT ng _ _ _).trans (X.out _ ((drew1B _).trans (B5.out.mono (Nat.le_refl _)))).1) (first | (go_at_call 32; refine KW2.out.mono ?_; rintro e w5 ⟨rfl, h5⟩; have B5 := Lib.hid h5; obtain ⟨-, c0, f0⟩ := X.out _ ((drew1B _).trans (h5.mono (Nat.le_refl _))); clear h5))
      have B6 := Lib.hid (p := Below W.heap.size W w5) ((drew1B W).trans (B5.out.mono (Nat.le_refl _)))
      clear X KW2 c0 f0 xx
      go_wp2
      go_roundw
      case rel => exact ⟨k + 1, _, by omega, by go_num, (HS.out.later B6.out).setN HE.out (wdB m k) (by rw [HL.out]; exact hlt), Lib.hid (setT (f := wdB m) (by rw [HL.out]; exact hlt) HK.out)⟩
      case measure => simp [intOf]; omega
    · obtain rfl : n1 = k := by omega
      clear hlt hk l1
      go_wp2
      clear xx
      go_loopw [5] (fun t W => ∃ (k : Nat) (P' : Pg), k ≤ n2 ∧ t = .int .i64 (k : Int) ∧ RowKit.Hid (WpS w W B U P P') ∧ RowKit.Hid (Wd1 m n1 P') ∧ RowKit.Hid (Wd2 m k P')) (fun t _ => n2 - (intOf t).toNat)
      case atStart => exact ⟨0, _, Nat.zero_le _, rfl, HS, HK, Lib.hid (fun j hj => absurd hj (by omega))⟩
      case round =>
        rename World => W
        clear HS HK
        obtain ⟨k, P', hk, rfl, HS, H1, HK⟩ := hrel
        have l1 : P'.curs.length = n2 := by rw [← N2.out]; exact HS.out.l2
        obtain ⟨x0, x1, x2, x3, x4, x5, x6, x7⟩ := pcells HS.out.bx
        have xx := x1
        rw [l1] at xx
        clear x0 x1 x2 x3 x4 x5 x6 x7
        by_cases hlt : k < n2
        · have kc : (k : Int) < (n2 : Int) := by omega
          have on := HS.out.po.ou
          obtain ⟨g, cap, e⟩ := own_formQ on (by omega)
          injection e with e1 _ e3
          subst e3
          rw [e1] at on xx
          have len : (P'.curs.map Value.string).length = P'.curs.length := by simp
          have c0 := on.cellAt k (by omega)
          rw [List.getElem?_eq_getElem (by omega)] at c0
          have f0 := on.frozenAt k
          generalize (P'.curs.map Value.string)[k]'(by omega) = z0 at c0
          clear on len
          have k64 : k ≤ 1000000000000000000 := by have := Z.out; omega
          have KW2 := Lib.hid (KW.out k k64 W.drew)
          have gl : g < W.heap.size := (HS.out.po.ou.lt g (by rw [e1]; rfl)).2
          have X := Lib.hid (p := ∀ W2, Below W.heap.size W W2 → W2.cell? ⟨w.heap.size, 1, none⟩ = some (.slice (some ⟨g, 0, none⟩) n2 P'.uc) ∧ W2.cell? ⟨g, k, none⟩ = some z0 ∧ W2.frozen? ⟨g, k, none⟩ = false) (fun W2 b => ⟨(b.cell (p := ⟨w.heap.size, 1, none⟩) HS.out.nx).trans xx, (b.cell (p := ⟨g, k, none⟩) gl).trans c0, (World.frozen?_of_block (a := ⟨g, k, none⟩) (b.block g gl)).trans f0⟩)
          have HE := Lib.hid e1
          have HL := Lib.hid l1
          have ng : w.heap.size ≠ g := by
            have := HS.out.ub
            have := HS.out.po.uu g (by rw [e1]; rfl)
            omega
          clear c0 f0 gl l1 e1
          go_upto_region 8 with (fail)
          go_region_held3 (fun w' => w'.cell? ⟨w.heap.size, 1, none⟩ = some (.slice (some ⟨g, 0, none⟩) n2 P'.uc)) (first | exact xx | exact (X.out _ ((drew1B _).trans (B5.out.mono (Nat.le_refl _)))).1 | exact (cell_neT ng _ _ _).trans (X.out _ ((drew1B _).trans (B5.out.mono (Nat.le_refl _)))).1) (first | (go_at_call 32; refine KW2.out.mono ?_; rintro e w5 ⟨rfl, h5⟩; have B5 := Lib.hid h5; obtain ⟨-, c0, f0⟩ := X.out _ ((drew1B _).trans (h5.mono (Nat.le_refl _))); clear h5))
          have B6 := Lib.hid (p := Below W.heap.size W w5) ((drew1B W).trans (B5.out.mono (Nat.le_refl _)))
          clear X KW2 c0 f0 xx
          go_wp2
          go_roundw
          case rel => exact ⟨k + 1, _, by omega, by go_num, (HS.out.later B6.out).setU HE.out (wdB m k) (by rw [HL.out]; exact hlt), H1, Lib.hid (setT (f := wdB m) (by rw [HL.out]; exact hlt) HK.out)⟩
          case measure => simp [intOf]; omega
        · obtain rfl : n2 = k := by omega
          clear hlt hk l1
          go_wp2
          clear xx
          go_loopw [6] (fun t W => ∃ (k : Nat) (P' : Pg), k ≤ n3 ∧ t = .int .i64 (k : Int) ∧ RowKit.Hid (WpS w W B U P P') ∧ RowKit.Hid (Wd1 m n1 P') ∧ RowKit.Hid (Wd2 m n2 P') ∧ RowKit.Hid (Wd3 m k P')) (fun t _ => n3 - (intOf t).toNat)
          case atStart => exact ⟨0, _, Nat.zero_le _, rfl, HS, H1, HK, Lib.hid (fun j hj => absurd hj (by omega))⟩
          case round =>
            rename World => W
            clear HS H1 HK
            obtain ⟨k, P', hk, rfl, HS, H1, H2, HK⟩ := hrel
            have l1 : P'.pool.length = n3 := by rw [← N3.out]; exact HS.out.l3
            obtain ⟨x0, x1, x2, x3, x4, x5, x6, x7⟩ := pcells HS.out.bx
            have xx := x2
            rw [l1] at xx
            clear x0 x1 x2 x3 x4 x5 x6 x7
            by_cases hlt : k < n3
            · have kc : (k : Int) < (n3 : Int) := by omega
              have on := HS.out.po.op
              obtain ⟨g, cap, e⟩ := own_formQ on (by omega)
              injection e with e1 _ e3
              subst e3
              rw [e1] at on xx
              have len : (intsP P'.pool).length = P'.pool.length := by simp [intsP]
              unfold OwZs at on
              have c0 := on.cellAt k (by omega)
              rw [List.getElem?_eq_getElem (by omega)] at c0
              have f0 := on.frozenAt k
              generalize (intsP P'.pool)[k]'(by omega) = z0 at c0
              have HE := Lib.hid e1
              have HL := Lib.hid l1
              have k64 : k ≤ 1000000000000000000 := by have := Z.out; omega
              clear on len l1 e1
              go_wp2
              go_roundw
              case rel => exact ⟨k + 1, _, by omega, by go_num, HS.out.setP HE.out (-(m : Int)) (by rw [HL.out]; exact hlt), H1, H2, Lib.hid (setT (f := fun _ => -(m : Int)) (by rw [HL.out]; exact hlt) HK.out)⟩
              case measure => simp [intOf]; omega
            · obtain rfl : n3 = k := by omega
              clear hlt hk l1
              go_wp2
              clear xx
              go_loopw [7] (fun t W => ∃ (i : Nat) (P' : Pg), i ≤ n4 ∧ t = .int .i64 (i : Int) ∧ RowKit.Hid (WpS w W B U P P') ∧ RowKit.Hid (Wd1 m n1 P') ∧ RowKit.Hid (Wd2 m n2 P') ∧ RowKit.Hid (Wd3 m n3 P') ∧ RowKit.Hid (Wd4 m i P')) (fun t _ => n4 - (intOf t).toNat)
              case atStart => exact ⟨0, _, Nat.zero_le _, rfl, HS, H1, H2, HK, Lib.hid (fun a ha => absurd ha (by omega))⟩
              case round =>
                rename World => W
                clear HS H1 H2 HK
                obtain ⟨i, P', hik, rfl, HS, H1, H2, H3, H4⟩ := hrel
                have l1 : P'.days.length = n4 := by rw [← N4.out]; exact HS.out.l4
                obtain ⟨x0, x1, x2, x3, x4, x5, x6, x7⟩ := pcells HS.out.bx
                rw [l1] at x7
                clear x0 x1 x2 x3 x4 x5 x6
                by_cases hi : i < n4
                · have ic : (i : Int) < (n4 : Int) := by omega
                  obtain ⟨M, hM⟩ : ∃ M, (P'.days.getD i default).code.length = M := ⟨_, rfl⟩
                  go_upto_region 17 with (fail)
                  go_loopw [8] (fun t W => ∃ (k : Nat) (P' : Pg), k ≤ M ∧ t = .int .i64 (k : Int) ∧ RowKit.Hid (WpS w W B U P P') ∧ RowKit.Hid (Wd1 m n1 P') ∧ RowKit.Hid (Wd2 m n2 P') ∧ RowKit.Hid (Wd3 m n3 P') ∧ RowKit.Hid (Wd4 m i P') ∧ RowKit.Hid ((P'.days.getD i default).code.length = M) ∧ RowKit.Hid (∀ b, b < k → (P'.days.getD i default).code.getD b default = ⟨-(m : Int), 0, 0⟩)) (fun t _ => M - (intOf t).toNat)
                  case atStart => exact ⟨0, P', Nat.zero_le _, rfl, HS, H1, H2, H3, H4, Lib.hid hM, Lib.hid (fun b hb => absurd hb (by omega))⟩
                  case round =>
                    clear HS H1 H2 H3 H4 x7 l1 hM
                    rename World => W'
                    obtain ⟨k, P', hk, rfl, HS, H1, H2, H3, H4, HM, HK⟩ := hrel
                    have l1 : P'.days.length = n4 := by rw [← N4.out]; exact HS.out.l4
                    obtain ⟨x0, x1, x2, x3, x4, x5, x6, x7⟩ := pcells HS.out.bx
                    rw [l1] at x7
                    clear x0 x1 x2 x3 x4 x5 x6
                    have od := HS.out.po.od
                    obtain ⟨g, cap, e⟩ := own_formQ od (by omega)
                    injection e with e1 _ e3
                    subst e3
                    rw [e1] at od x7
                    have r1 := sgs_atT od i (by omega)
                    rw [HM.out] at r1
                    by_cases hlt : k < M
                    · have kc : (k : Int) < (M : Int) := by omega
                      have oc := HS.out.po.oc i (by omega)
                      obtain ⟨g2, cap2, e⟩ := own_formQ oc (by rw [HM.out]; omega)
                      unfold Sg.cv at e
                      injection e with e5 _ e6
                      rw [e5] at r1
                      unfold Sg.cv at oc
                      rw [e5, HM.out] at oc
                      have len : (icsP (P'.days.getD i default).code).length = M * 3 := by rw [icsP_len, HM.out]
                      have c0 := oc.cellAt (k * 3) (by omega)
                      have c1 := oc.cellAt (k * 3 + 1) (by omega)
                      have c2 := oc.cellAt (k * 3 + 2) (by omega)
                      rw [List.getElem?_eq_getElem (by omega)] at c0 c1 c2
                      have f0' := oc.frozenAt (k * 3)
                      have f1' := oc.frozenAt (k * 3 + 1)
                      have f2' := oc.frozenAt (k * 3 + 2)
                      generalize (icsP (P'.days.getD i default).code)[k * 3]'(by omega) = z0 at c0
                      generalize (icsP (P'.days.getD i default).code)[k * 3 + 1]'(by omega) = z1 at c1
                      generalize (icsP (P'.days.getD i default).code)[k * 3 + 2]'(by omega) = z2 at c2
                      have HE := Lib.hid e5
                      have HL := Lib.hid l1
                      have k64 : k ≤ 1000000000000000000 := by have := HS.out.po.lc i (by omega); have := HM.out; omega
                      have hi' : i < P'.days.length := by omega
                      clear od oc len e1 e5 l1
                      go_wp2
                      go_roundw
                      case rel => exact ⟨k + 1, _, by omega, by go_num, HS.out.setC hi' (by rw [HM.out]; exact hlt) HE.out ⟨-(m : Int), 0, 0⟩, H1, H2, H3, Lib.hid (fun a ha b hb => by
                        simp only [getD_setT _ _ _ _ hi'] at hb ⊢
                        rw [if_neg (show ¬ a = i by omega)] at hb ⊢
                        exact H4.out a ha b hb), Lib.hid (by
                        simp only [getD_setT _ _ _ _ hi', if_pos, List.length_set]
                        exact HM.out), Lib.hid (by
                        simp only [getD_setT _ _ _ _ hi', if_pos]
                        exact setT (f := fun _ => (⟨-(m : Int), 0, 0⟩ : In)) (by rw [HM.out]; exact hlt) HK.out)⟩
                      case measure => simp [intOf]; omega
                    · obtain rfl : M = k := by omega
                      have i64' : i ≤ 1000000000000000000 := by have := Z.out; omega
                      clear od e1 l1
                      go_wp2
                      go_roundw
                      case rel => exact ⟨i + 1, P', by omega, by go_num, HS, H1, H2, H3, Lib.hid (fun a ha b hb => by
                        by_cases q : a = i
                        · subst q; exact HK.out b (by have := HM.out; omega)
                        · exact H4.out a (by omega) b hb)⟩
                      case measure => simp [intOf]; omega
                · obtain rfl : n4 = i := by omega
                  clear hi hik l1
                  go_wp2
                  clear x7
                  go_loopw [9] (fun t W => ∃ (k : Nat) (P' : Pg), k ≤ n4 ∧ t = .int .i64 (k : Int) ∧ RowKit.Hid (WpS w W B U P P') ∧ RowKit.Hid (Wd1 m n1 P') ∧ RowKit.Hid (Wd2 m n2 P') ∧ RowKit.Hid (Wd3 m n3 P') ∧ RowKit.Hid (Wd4 m n4 P') ∧ RowKit.Hid (Wd5 m k P')) (fun t _ => n4 - (intOf t).toNat)
                  case atStart => exact ⟨0, _, Nat.zero_le _, rfl, HS, H1, H2, H3, H4, Lib.hid (fun a ha => absurd ha (by omega))⟩
                  case round =>
                    rename World => W
                    clear HS H1 H2 H3 H4
                    obtain ⟨k, P', hk, rfl, HS, H1, H2, H3, H4, HK⟩ := hrel
                    have l1 : P'.days.length = n4 := by rw [← N4.out]; exact HS.out.l4
                    obtain ⟨x0, x1, x2, x3, x4, x5, x6, x7⟩ := pcells HS.out.bx
                    rw [l1] at x7
                    clear x0 x1 x2 x3 x4 x5 x6
                    by_cases hlt : k < n4
                    · have kc : (k : Int) < (n4 : Int) := by omega
                      have od := HS.out.po.od
                      obtain ⟨g, cap, e⟩ := own_formQ od (by omega)
                      injection e with e1 _ e3
                      subst e3
                      rw [e1] at od x7
                      have len : (sgsP P'.days).length = P'.days.length * 2 := od.1
                      have c0 := od.cellAt (k * 2) (by omega)
                      rw [List.getElem?_eq_getElem (by omega)] at c0
                      have f0' := od.frozenAt (k * 2)
                      generalize (sgsP P'.days)[k * 2]'(by omega) = z0 at c0
                      have HE := Lib.hid e1
                      have k64 : k ≤ 1000000000000000000 := by have := Z.out; omega
                      have hi' : k < P'.days.length := by omega
                      clear od len e1 l1
                      go_wp2
                      go_roundw
                      case rel => exact ⟨k + 1, _, by omega, by go_num, HS.out.setD HE.out hi' (-(m : Int)), H1, H2, H3, Lib.hid (fun a ha b hb => by
                        have e : ∀ a, ((P'.days.set k { P'.days.getD k default with day := -(m : Int) }).getD a default).code = (P'.days.getD a default).code := fun a => by
                          rw [getD_setT _ _ _ _ hi']
                          by_cases q : a = k
                          · subst q; rw [if_pos rfl]
                          · rw [if_neg q]
                        simp only [e] at hb ⊢
                        exact H4.out a ha b hb), Lib.hid (fun j hj => by
                        simp only [getD_setT _ _ _ _ hi']
                        by_cases q : j = k
                        · subst q; rw [if_pos rfl]
                        · rw [if_neg q]; exact HK.out j (by omega))⟩
                      case measure => simp [intOf]; omega
                    · obtain rfl : n4 = k := by omega
                      clear hlt hk l1
                      clear x7
                      have L1 := Lib.hid (p := P'.names.length = n1) (by rw [← N1.out]; exact HS.out.l1)
                      have L2 := Lib.hid (p := P'.curs.length = n2) (by rw [← N2.out]; exact HS.out.l2)
                      have L3 := Lib.hid (p := P'.pool.length = n3) (by rw [← N3.out]; exact HS.out.l3)
                      have L4 := Lib.hid (p := P'.days.length = n4) (by rw [← N4.out]; exact HS.out.l4)
                      have LZ := Z.out
                      have BW : B ≤ W.heap.size ∨ True := .inr trivial
                      have CX := Lib.hid (p := ∀ W2, WpS w W2 B U P P' → W2.cell? ⟨w.heap.size, 0, none⟩ = some (.slice P'.na n1 P'.nc) ∧ W2.cell? ⟨w.heap.size, 1, none⟩ = some (.slice P'.ua n2 P'.uc) ∧ W2.cell? ⟨w.heap.size, 2, none⟩ = some (.slice P'.pa n3 P'.pc) ∧ W2.cell? ⟨w.heap.size, 7, none⟩ = some (.slice P'.da n4 P'.dc)) (fun W2 h => by
                        obtain ⟨x0, x1, x2, x3, x4, x5, x6, x7⟩ := pcells h.bx
                        rw [L1.out] at x0
                        rw [L2.out] at x1
                        rw [L3.out] at x2
                        rw [L4.out] at x7
                        exact ⟨x0, x1, x2, x7⟩)
                      obtain ⟨x0, x1, x2, x7⟩ := CX.out _ HS.out
                      go_upto_region 25 with (at_builtin; refine wp_appSX Tryz.underlying23 infoX1 rfl (by decide) _ 0 (Nat.zero_le _) 2 _ rfl rfl rfl _ _ rfl _ _ _ rfl (own_monoQ (HS.out.own1 L1.out) (Nat.zero_le _)) rfl (by unfold maxLen; omega) (by omega) ?_; intro v1 w1 o1 g1; have HS1 := Lib.hid (HS.out.appN L1.out o1 g1); clear o1 g1)
                      clear x0 x1 x2 x7 HS
                      obtain ⟨x0, x1, x2, x7⟩ := CX.out _ HS1.out
                      go_upto_region 26 with (at_builtin; refine wp_appSX Tryz.underlying23 infoX1 rfl (by decide) _ 0 (Nat.zero_le _) 2 _ rfl rfl rfl _ _ rfl _ _ _ rfl (own_monoQ (HS1.out.own2 L2.out) (Nat.zero_le _)) rfl (by unfold maxLen; omega) (by omega) ?_; intro v2 w2 o1 g1; have HS2 := Lib.hid (HS1.out.appU L2.out o1 g1); clear o1 g1)
                      clear x0 x1 x2 x7 HS1
                      obtain ⟨x0, x1, x2, x7⟩ := CX.out _ HS2.out
                      go_upto_region 27 with (at_builtin; refine wp_appSX Tryz.underlying24 infoX2 rfl (by decide) _ 0 (Nat.zero_le _) 3 _ rfl rfl rfl _ _ rfl _ _ _ rfl (own_monoQ (HS2.out.own3 L3.out) (Nat.zero_le _)) rfl (by unfold maxLen; omega) (by omega) ?_; intro v3 w3 o1 g1; have HS3 := Lib.hid (HS2.out.appP L3.out o1 g1); clear o1 g1)
                      clear x0 x1 x2 x7 HS2
                      go_wp2
                      go_loopw [10] (fun t W => ∃ (k : Nat), k ≤ n4 ∧ t = .int .i64 (k : Int) ∧ RowKit.Hid (WpS w W B U P P')) (fun t _ => n4 - (intOf t).toNat)
                      case atStart => exact ⟨0, Nat.zero_le _, rfl, HS3⟩
                      case round =>
                        rename World => W9
                        clear HS3
                        obtain ⟨k, hk, rfl, HS⟩ := hrel
                        obtain ⟨x0, x1, x2, x7⟩ := CX.out _ HS.out
                        clear x0 x1 x2
                        by_cases hlt : k < n4
                        · have kc : (k : Int) < (n4 : Int) := by omega
                          have k64 : k ≤ 1000000000000000000 := by omega
                          have hi' : k < P'.days.length := by have := L4.out; omega
                          have od := HS.out.po.od
                          obtain ⟨g, cap, e⟩ := own_formQ od (by omega)
                          injection e with e1 _ e3
                          subst e3
                          rw [e1] at od x7
                          have r1 := sgs_atT od k hi'
                          have lc := HS.out.po.lc k hi'
                          have oc := HS.out.po.oc k hi'
                          unfold Sg.cv at oc
                          have AC := Lib.hid (fun (W : World) (w' : World) (h : WpS w W B U P P') (o : Obj) (q1 : w'.ownsRow 0 42 3 (.slice (P'.days.getD k default).ca (P'.days.getD k default).code.length (P'.days.getD k default).cc) (P'.days.getD k default).code.length (icsP (P'.days.getD k default).code)) (q2 : (W.alloc o).grownBy w' (Value.slice (P'.days.getD k default).ca (P'.days.getD k default).code.length (P'.days.getD k default).cc).ownBlock) => h.appC (o := o) hi' q1 q2)
                          generalize P'.days.getD k default = s at *
                          generalize s.code.length = M at *
                          generalize s.ca = y at *
                          generalize s.cc = z at *
                          have OC := Lib.hid oc
                          clear od oc
                          go_wp2_with (at_builtin; refine wp_appSX Tryz.underlying37 infoX3 rfl (by decide) _ 0 (Nat.zero_le _) 2 _ rfl rfl rfl _ _ rfl _ _ _ rfl (own_monoQ OC.out (Nat.zero_le _)) rfl (by unfold maxLen; omega) (by omega) ?_; intro v4 w4 o1 g1; have HS4 := Lib.hid (AC.out _ _ HS.out _ o1 g1); clear o1 g1)
                          go_roundw
                          case rel => exact ⟨k + 1, by omega, by omega⟩
                          case measure => simp [intOf]; omega
                        · obtain rfl : n4 = k := by omega
                          go_wp2_with (at_builtin; refine wp_appSX Tryz.underlying25 infoX4 rfl (by decide) _ 0 (Nat.zero_le _) 1 _ rfl rfl rfl _ _ rfl _ _ _ rfl (own_monoQ (HS.out.own4 L4.out) (Nat.zero_le _)) rfl (by unfold maxLen; omega) (by omega) ?_; intro v5 w5 o1 g1; have HS5 := Lib.hid (HS.out.appD L4.out o1 g1); clear o1 g1)
                          ((try simp only [Exit.inBlock, Exit.then]); refine bodyPost_end (results_none rfl _ _ _) rfl ?_)
                          exact ⟨rfl, P', HS5.out.e1, HS5.out.po, ⟨by rw [L1.out]; exact H1.out, by rw [L2.out]; exact H2.out, by rw [L3.out]; exact H3.out, by rw [L4.out]; exact H4.out, by rw [L4.out]; exact HK.out⟩, HS5.out.fr⟩
end Go.Proofs.YtccjeipkljdhdaaGreatDoor
