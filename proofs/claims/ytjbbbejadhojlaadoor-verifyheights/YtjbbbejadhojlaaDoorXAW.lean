import Derived.Test.YtjbbbejadhojlaaDoorXAV
import Derived.Deep.CutBlock
namespace Go.Proofs.YtjbbbejadhojlaaDoor
open Go.RowKit
set_option linter.unusedVariables false
set_option linter.unusedSimpArgs false
/-- What behind answers. -/
def BhE (w : World) (d : Ds) (e : Ending) (w' : World) : Prop := ∃ a c ka kc, e = .returned (.agg #[.bool true, .slice a d.st.length c, .slice ka d.sl.length kc]) ∧ StV w' a c ka d ∧ Below w.heap.size w w'
theorem drew1R (w : World) : Below w.heap.size w w.drew := ⟨rfl, rfl, rfl, Nat.le_refl _, fun _ _ => rfl⟩
theorem be_end {w : World} {d : Ds} {ob : Nat} {s0 i0 : Array Value} {x : Option Addr} {c : Nat} {ka : Option Addr} {kc : Nat} {W : World} (h : BeI w s0 i0 ob d.st x c (.slice ka d.sl.length kc) W) (hk : KptL W ka d.sl.length d.sl) : ∀ V, Below w.heap.size w V → (∀ u, u ≠ w.heap.size + 2 → V.heap[u]? = W.heap[u]?) → BhE w d (.returned (.agg #[.bool true, .slice x d.st.length c, .slice ka d.sl.length kc])) V := by
  intro V b q
  have o : OwZ V w.heap.size (.slice x d.st.length c) (intsN d.st) := h.own.blk (fun g hg => q g (fun z => own_neB h.own h.rb (by decide) (by rw [hg, z])))
  refine ⟨x, c, ka, kc, rfl, ⟨o.stk.1, o.stk.2, hk.1, hk.2.blk (fun y cur fr e => q y (fun z => ?_))⟩, b⟩
  have := h.rb
  rw [z] at e
  unfold BkP at this
  rw [this] at e
  injection e with e
  injection e with _ e2 _
  exact absurd e2 (by decide)
theorem cell_ltR {w : World} {b o : Nat} {v : Value} (h : w.cell? ⟨b, o, none⟩ = some v) : b < w.heap.size := by
  by_cases z : b < w.heap.size
  · exact z
  · simp [World.cell?, Array.getElem?_eq_none (Nat.le_of_not_lt z)] at h
theorem ps_all : ∀ k, k < 29 → k ≠ 6 → k ≠ 7 → (psA k = 0 ↔ ptA k = 0) ∧ ((k = 2 ∨ k = 25) → psA k = 2) ∧ (k ≠ 2 → k ≠ 25 → psA k ≠ 0 → psA k = if 19 ≤ k ∧ k ≤ 24 then 2 else 1) := all29 (by decide)
set_option maxRecDepth 100000 in
set_option maxHeartbeats 6400000 in
theorem behind14_any {w : World} {d : Ds} {sa ka : Option Addr} {sc kc : Nat} (hs : StV w sa sc ka d) (ls : d.st.length ≤ 300000) (lk : d.sl.length ≤ 300000) {k a : Nat} {b : Int} (hk : k < 29) (ht : (dTk k).length ≤ d.st.length) : Calls Tryd.prog 33 #[.agg #[.bool true, .slice sa d.st.length sc, .slice ka d.sl.length kc], .agg #[.int .i64 (k : Int), .int .i64 (a : Int), .int .i64 b]] w fun e w' => BhE w (dBe d ⟨(k : Int), (a : Int), b⟩) e w' := by
  obtain ⟨W0, hW0⟩ : ∃ W, ((w.alloc (.cells #[.bool true, .slice sa d.st.length sc, .slice ka d.sl.length kc] 72)).alloc (.cells #[.int .i64 (k : Int), .int .i64 (a : Int), .int .i64 b] 51)).alloc (.cells #[.bool false, .slice none 0 0, .slice none 0 0] 72) = W := ⟨_, rfl⟩
  obtain ⟨W1, h1⟩ : ∃ W, w.alloc (.cells #[.bool true, .slice sa d.st.length sc, .slice ka d.sl.length kc] 72) = W := ⟨_, rfl⟩
  obtain ⟨W2, h2⟩ : ∃ W, W1.alloc (.cells #[.int .i64 (k : Int), .int .i64 (a : Int), .int .i64 b] 51) = W := ⟨_, rfl⟩
  rw [h1, h2] at hW0
  have s1 : W1.heap.size = w.heap.size + 1 := by rw [← h1]; simp
  have s2 : W2.heap.size = w.heap.size + 2 := by rw [← h2]; simp [s1]
  have s3 : W0.heap.size = w.heap.size + 3 := by rw [← hW0]; simp [s2]
  have b1 : Below w.heap.size w W1 := by rw [← h1]; exact allocBP _ _
  have b2 : Below W1.heap.size W1 W2 := by rw [← h2]; exact allocBP _ _
  have b3 : Below W2.heap.size W2 W0 := by rw [← hW0]; exact allocBP _ _
  have b12 := b1.trans (b2.mono b1.size)
  have B0 := b12.trans (b3.mono b12.size)
  have t1 : BkP W1 w.heap.size #[.bool true, .slice sa d.st.length sc, .slice ka d.sl.length kc] 72 := by rw [← h1]; exact heapN _ _
  have t2 : BkP W2 W1.heap.size #[.int .i64 (k : Int), .int .i64 (a : Int), .int .i64 b] 51 := by rw [← h2]; exact heapN _ _
  have t3 : BkP W0 W2.heap.size #[.bool false, .slice none 0 0, .slice none 0 0] 72 := by rw [← hW0]; exact heapN _ _
  rw [s1] at t2
  rw [s2] at t3
  have P0 := (t1.lat b2).lat b3
  have Q0 := t2.lat b3
  have CL := Lib.hid (p := ∀ V, Below W0.heap.size W0 V → (V.cell? ⟨w.heap.size, 0, none⟩ = some (.bool true) ∧ V.cell? ⟨w.heap.size, 1, none⟩ = some (.slice sa d.st.length sc) ∧ V.cell? ⟨w.heap.size, 2, none⟩ = some (.slice ka d.sl.length kc)) ∧ (V.cell? ⟨w.heap.size + 1, 0, none⟩ = some (.int .i64 (k : Int)) ∧ V.cell? ⟨w.heap.size + 1, 1, none⟩ = some (.int .i64 (a : Int)) ∧ V.cell? ⟨w.heap.size + 1, 2, none⟩ = some (.int .i64 b))) (fun V bb => ⟨box_3R (P0.lat bb), box_3R (Q0.lat bb)⟩)
  have BI := Lib.hid (p := ∀ V, Below W0.heap.size W0 V → BeI w #[.bool true, .slice sa d.st.length sc, .slice ka d.sl.length kc] #[.int .i64 (k : Int), .int .i64 (a : Int), .int .i64 b] V.heap.size [] none 0 (.slice ka d.sl.length kc) (V.alloc (.cells #[.bool true, .slice none 0 0, .slice ka d.sl.length kc] 72))) (fun V bb => by
    have al := allocBP V (.cells #[.bool true, .slice none 0 0, .slice ka d.sl.length kc] 72)
    have bv := B0.trans (bb.mono B0.size)
    exact ⟨bv.trans (al.mono bv.size), (P0.lat bb).lat al, (Q0.lat bb).lat al, (t3.lat bb).lat al, by have := bb.size; omega, heapN _ _, OwZ.nil _ _⟩)
  have CD := Lib.hid (p := ∀ m x c q ob V, BeI w #[.bool true, .slice sa d.st.length sc, .slice ka d.sl.length kc] #[.int .i64 (k : Int), .int .i64 (a : Int), .int .i64 b] ob m x c q V → (V.cell? ⟨w.heap.size, 0, none⟩ = some (.bool true) ∧ V.cell? ⟨w.heap.size, 1, none⟩ = some (.slice sa d.st.length sc) ∧ V.cell? ⟨w.heap.size, 2, none⟩ = some (.slice ka d.sl.length kc)) ∧ (V.cell? ⟨w.heap.size + 1, 0, none⟩ = some (.int .i64 (k : Int)) ∧ V.cell? ⟨w.heap.size + 1, 1, none⟩ = some (.int .i64 (a : Int)) ∧ V.cell? ⟨w.heap.size + 1, 2, none⟩ = some (.int .i64 b)) ∧ (V.cell? ⟨ob, 0, none⟩ = some (.bool true) ∧ V.cell? ⟨ob, 1, none⟩ = some (.slice x m.length c) ∧ V.cell? ⟨ob, 2, none⟩ = some q)) (fun m x c q ob V z => ⟨box_3R z.sb, box_3R z.ib, box_3R z.bx⟩)
  obtain ⟨T, hT⟩ : ∃ T, (dTk k).length = T := ⟨_, rfl⟩
  have tl : T ≤ 3 := by rw [← hT, (tk_all k hk).1]; exact (tk_all k hk).2.1
  have KT := Lib.hid (p := ∀ V, Calls Tryd.prog 51 #[.int .i64 (k : Int)] V fun e w1 => ∃ ta tc, e = .returned (.slice ta T tc) ∧ Below V.heap.size V w1) (fun V => (takes14_any (w := V) hk).mono (fun e w1 z => by
    obtain ⟨ta, tc, rfl, _, bb⟩ := z
    exact ⟨ta, tc, by rw [hT], bb⟩))
  rw [hT] at ht
  obtain ⟨st, sl⟩ := d
  obtain ⟨hst, hhd, hkp⟩ := hs
  simp only at *
  have SV := Lib.hid (p := ∀ V, Below w.heap.size w V → StkL V sa st.length st ∧ KptL V ka sl.length sl) (fun V bb => ⟨⟨hst.1, hst.2.lat bb⟩, ⟨hkp.1, hkp.2.lat bb⟩⟩)
  have HD := Lib.hid hhd
  have HW := Lib.hid hW0
  have H1 := Lib.hid h1
  have H2 := Lib.hid h2
  obtain ⟨h, hh⟩ : ∃ h, st.length - T = h := ⟨_, rfl⟩
  have hle : h ≤ st.length := by omega
  have kh : IntKind.i64.wrap ((st.length : Int) - (T : Int)) = (h : Int) := by simp [IntKind.wrap, IntKind.bits, IntKind.signed]; omega
  have k0 : ¬ (h : Int) < 0 := by omega
  have scl := hhd.2.1
  have scm := hhd.2.2
  have hsc : h ≤ sc := by omega
  have ek : (⟨(k : Int), (a : Int), b⟩ : In).o.toNat = k := rfl
  have ea : (⟨(k : Int), (a : Int), b⟩ : In).a.toNat = a := rfl
  have E6 := Lib.hid (p := k = 6 → dBe ⟨st, sl⟩ ⟨(k : Int), (a : Int), b⟩ = ⟨st.take h ++ [st.getD h 0], dOut sl a ++ [(a, st.getD h 0)]⟩) (fun z => by unfold dBe; simp only [ek, ea]; rw [if_pos z, hT, hh])
  have E7 := Lib.hid (p := k = 7 → dBe ⟨st, sl⟩ ⟨(k : Int), (a : Int), b⟩ = ⟨st.take h ++ [dSlot sl a], sl⟩) (fun z => by unfold dBe; simp only [ek, ea]; rw [if_neg (by omega), if_pos z, hT, hh])
  have E0 := Lib.hid (p := k ≠ 6 → k ≠ 7 → psA k = 0 → dBe ⟨st, sl⟩ ⟨(k : Int), (a : Int), b⟩ = ⟨st.take h, sl⟩) (fun z1 z2 z => by unfold dBe; simp only [ek, ea]; rw [if_neg z1, if_neg z2, if_pos z, hT, hh])
  have E1 := Lib.hid (p := k ≠ 6 → k ≠ 7 → psA k ≠ 0 → dBe ⟨st, sl⟩ ⟨(k : Int), (a : Int), b⟩ = ⟨st.take h ++ [psA k], sl⟩) (fun z1 z2 z => by unfold dBe; simp only [ek, ea]; rw [if_neg z1, if_neg z2, if_neg z, hT, hh])
  have h6 := Lib.hid (p := k = 6 → h < st.length) (fun z => by subst z; have : T = 1 := by rw [← hT]; rfl
                                                               omega)
  have lth : (st.take h).length = h := by rw [List.length_take]; omega
  obtain ⟨⟨p0, p1, p2⟩, ⟨q0, q1, q2⟩⟩ := CL.out W0 (Below.refl _ _)
  have B00 := Lib.hid B0
  clear P0 Q0 B0 hW0 h1 h2 t1 t2 t3 b1 b2 b3 b12 s1 s2 s3 hst hkp hhd hT ek ea
  go_enter Tryd.func33, Tryd.ntmps33
  go_upto_region 1 with fail
  rw [H1.out, H2.out, HW.out]
  go_cut [5] (fun hv wx => hv = .int .i64 (h : Int) ∧ RowKit.Hid (Below W0.heap.size W0 wx))
  case first =>
    go_region_held3 (fun w' => w'.cell? ⟨w.heap.size, 1, none⟩ = some (.slice sa st.length sc) ∧ w'.cell? ⟨w.heap.size + 1, 0, none⟩ = some (.int .i64 (k : Int)))
      (go_keep)
      (first | (go_at_call 51; refine (KT.out _).mono ?_; rintro e w1 ⟨ta, tc, rfl, h2⟩; have B1 := Lib.hid (p := Below W0.heap.size W0 w1) (by first | exact h2 | exact (drew1R W0).trans h2 | exact (drewN_below' W0 2 _).trans h2); obtain ⟨⟨y0, y1, y2⟩, ⟨y3, y4, y5⟩⟩ := CL.out w1 B1.out; clear h2))
    all_goals
      go_wp2
      go_meet
      case rel => exact ⟨by first | rfl | simp, by first | exact B1.out | exact B1.out.trans (drewN_below' _ 1 _) | exact B1.out.trans ⟨rfl, rfl, rfl, Nat.le_refl _, fun _ _ => rfl⟩⟩
  case rest =>
    obtain ⟨hcv, hcut⟩ := hcut
    subst hcv
    have hbi := BI.out wc hcut.out
    obtain ⟨⟨p0, p1, p2⟩, ⟨q0, q1, q2⟩⟩ := CL.out wc hcut.out
    obtain ⟨W3, h3⟩ : ∃ W, wc.alloc (.cells #[.bool true, .slice none 0 0, .slice ka sl.length kc] 72) = W := ⟨_, rfl⟩
    obtain ⟨ob, hob⟩ : ∃ ob, wc.heap.size = ob := ⟨_, rfl⟩
    have H3 := Lib.hid h3
    have HO := Lib.hid hob
    rw [h3, hob] at hbi
    obtain ⟨x3, c3, w3, r3, q3⟩ := app_cutR (SV.out _ (hbi.drewB 1).bel).1 HD.out hle (by omega) w.heap.size (hbi.drewB 1).bel.size
    have R3 := Lib.hid r3
    have C3 := Lib.hid (p := BkP w3 w.heap.size #[.bool true, .slice sa st.length sc, .slice ka sl.length kc] 72 ∧ w3.frozen? ⟨ob, 1, none⟩ = false ∧ w3.cell? ⟨ob, 1, none⟩ = some (.slice none 0 0) ∧ BeI w #[.bool true, .slice sa st.length sc, .slice ka sl.length kc] #[.int .i64 (k : Int), .int .i64 (a : Int), .int .i64 b] ob (st.take h) x3 c3 (.slice ka sl.length kc) (w3.setCell ⟨ob, 1, none⟩ (.slice x3 h c3))) (by
      obtain ⟨o3, g3⟩ := q3.out
      have hd := hbi.drewB 1
      have bb : Below (W3.drewN 1).heap.size (W3.drewN 1) w3 := ⟨g3.os, g3.tape, g3.output, g3.size, fun u hu => g3.block u hu (by simp)⟩
      have sb := hd.sb.lat bb
      have ib := hd.ib.lat bb
      have rb := hd.rb.lat bb
      have bx := hd.bx.lat bb
      have og := hd.og
      refine ⟨sb, bx.frozen 1, by rw [bx.cell]; rfl, ⟨(hd.bel.trans (bb.mono hd.bel.size)).setCell (by exact (by omega : w.heap.size ≤ ob)) _, sb.other _ _ _ (by omega), ib.other _ _ _ (by omega), rb.other _ _ _ (by omega), og, ?_, ?_⟩⟩
      · have := bx.set2 1 (.slice x3 h c3) (by simp)
        rw [lth]
        simpa using this
      · rw [lth]
        exact o3.blk (fun u hu => bk_blockG (fun z => own_neB o3 bx (by decide) (by rw [hu, z]))))
    obtain ⟨⟨z0, z1, z2⟩, _, ⟨x0, x1, x2⟩⟩ := CD.out _ _ _ _ _ _ hbi
    have xd : W3.drew.cell? ⟨ob, 1, none⟩ = some (.slice none 0 0) := x1
    have zd : W3.drew.cell? ⟨w.heap.size, 1, none⟩ = some (.slice sa st.length sc) := z1
    clear hcut hbi r3 q3 h3 hob
    go_upto_region 3 with fail
    rw [H3.out, HO.out]
    clear p0 p1 p2 q0 q1 q2
    go_cut [] (fun wx => RowKit.Hid (BeI w #[.bool true, .slice sa st.length sc, .slice ka sl.length kc] #[.int .i64 (k : Int), .int .i64 (a : Int), .int .i64 b] ob (st.take h) x3 c3 (.slice ka sl.length kc) wx))
    case first =>
      refine wp_region_held_drew (S := (fun w' => w'.cell? ⟨w.heap.size, 1, none⟩ = some (.slice sa st.length sc))) (by kernel_rfl) ?_ (fun hHeld => ?_)
      · (try dsimp only)
        exact z1
      refine wpAnyH_take (i := 0) (oi := { dst := some 23, op := Op.fieldAddr 72 (Operand.tmp 6) 1, type := 0, pos := "ref.go:122", after := #[], guard := none }) (v := ?_) rfl (by kernel_rfl) (by kernel_rfl) (by kernel_rfl) (fun _ _ _ h => h) (Or.inl ⟨by rfl, ?_⟩) (by assumption) ?_
      rotate_left 1
      · intro w' hSw; (try dsimp only at hSw); go_simp; try with_reducible rfl
      (try simp only [Act.put, List.setIfInBounds_toArray, List.set_cons_zero, List.set_cons_succ])
      refine wpAnyH_take (i := 2) (oi := { dst := some 25, op := Op.fieldAddr 72 (Operand.tmp 2) 1, type := 0, pos := "ref.go:122", after := #[], guard := none }) (v := ?_) rfl (by kernel_rfl) (by kernel_rfl) (by kernel_rfl) (fun _ _ _ h => h) (Or.inl ⟨by rfl, ?_⟩) (by assumption) ?_
      rotate_left 1
      · intro w' hSw; (try dsimp only at hSw); go_simp; try with_reducible rfl
      (try simp only [Act.put, List.setIfInBounds_toArray, List.set_cons_zero, List.set_cons_succ])
      refine wpAnyH_take (i := 3) (oi := { dst := some 26, op := Op.load 23 (Operand.tmp 25), type := 23, pos := "ref.go:122", after := #[{ on := 2, ground := Ground.data }], guard := none }) (v := ?_) rfl (by kernel_rfl) (by kernel_rfl) (by kernel_rfl) (fun _ _ _ h => h) (Or.inl ⟨by rfl, ?_⟩) (by assumption) ?_
      rotate_left 1
      · intro w' hSw; (try dsimp only at hSw); go_simp; try with_reducible rfl
      (try simp only [Act.put, List.setIfInBounds_toArray, List.set_cons_zero, List.set_cons_succ])
      refine wpAnyH_take (i := 4) (oi := { dst := some 27, op := Op.move (Operand.tmp 5), type := 3, pos := "ref.go:122", after := #[], guard := none }) (v := ?_) rfl (by kernel_rfl) (by kernel_rfl) (by kernel_rfl) (fun _ _ _ h => h) (Or.inl ⟨by rfl, ?_⟩) (by assumption) ?_
      rotate_left 1
      · intro w' hSw; (try dsimp only at hSw); go_simp; try with_reducible rfl
      (try simp only [Act.put, List.setIfInBounds_toArray, List.set_cons_zero, List.set_cons_succ])
      refine wpAnyH_take (i := 5) (oi := { dst := some 28, op := Op.slice 23 (Operand.tmp 26) none (some (Operand.tmp 27)) none, type := 23, pos := "ref.go:122", after := #[{ on := 3, ground := Ground.data }, { on := 4, ground := Ground.data }], guard := none }) (v := ?_) rfl (by kernel_rfl) (by kernel_rfl) (by kernel_rfl) (fun _ _ _ h => h) (Or.inl ⟨by rfl, ?_⟩) (by assumption) ?_
      rotate_left 1
      · intro w' hSw; (try dsimp only at hSw); go_simp; try with_reducible rfl
      (try simp only [Act.put, List.setIfInBounds_toArray, List.set_cons_zero, List.set_cons_succ])
      refine wpAnyH_ready (rs := [1]) (by kernel_rfl) (by simp) ?_
      refine AllReadyH.cons (o := { dst := some 24, op := Op.load 23 (Operand.tmp 23), type := 23, pos := "ref.go:122", after := #[{ on := 0, ground := Ground.data }], guard := none }) rfl (fun K' hK => ?_) AllReadyH.nil
      go_simp
      refine hK.out _ _ ?_ (fun hHeld => ?_)
      · (try dsimp only)
        exact hHeld
      clear hK K'
      (try simp only [Act.put, List.setIfInBounds_toArray, List.set_cons_zero, List.set_cons_succ])
      refine wpAnyH_ready (rs := [6]) (by kernel_rfl) (by simp) ?_
      refine AllReadyH.cons (o := { dst := some 29, op := Op.call { callee := Callee.builtin Builtin.append, args := #[Operand.tmp 24, Operand.tmp 28], argTypes := #[23, 23] }, type := 23, pos := "ref.go:122", after := #[{ on := 1, ground := Ground.data }, { on := 5, ground := Ground.data }], guard := none }) rfl (fun K' hK => ?_) AllReadyH.nil
      refine step_app_runR rfl _ _ 23 rfl _ _ _ w3 rfl rfl R3.out ?_
      refine hK.out _ _ ?_ (fun hHeld => ?_)
      · (try dsimp only)
        exact (box_3R C3.out.1).2.1
      clear hK K'
      (try simp only [Act.put, List.setIfInBounds_toArray, List.set_cons_zero, List.set_cons_succ])
      refine wpAnyH_take (i := 7) (oi := { dst := some 30, op := Op.fieldAddr 72 (Operand.tmp 6) 1, type := 0, pos := "ref.go:122", after := #[{ on := 0, ground := Ground.phase }, { on := 1, ground := Ground.phase }, { on := 2, ground := Ground.phase }, { on := 3, ground := Ground.phase }, { on := 4, ground := Ground.phase }, { on := 5, ground := Ground.phase }, { on := 6, ground := Ground.phase }], guard := none }) (v := ?_) rfl (by kernel_rfl) (by kernel_rfl) (by kernel_rfl) (fun _ _ _ h => h) (Or.inl ⟨by rfl, ?_⟩) (by assumption) ?_
      rotate_left 1
      · intro w' hSw; (try dsimp only at hSw); go_simp; try with_reducible rfl
      (try simp only [Act.put, List.setIfInBounds_toArray, List.set_cons_zero, List.set_cons_succ])
      refine wpAnyH_ready (rs := [8]) (by kernel_rfl) (by simp) ?_
      refine AllReadyH.cons (o := { dst := none, op := Op.store 23 (Operand.tmp 30) (Operand.tmp 29), type := 0, pos := "ref.go:122", after := #[{ on := 7, ground := Ground.data }, { on := 6, ground := Ground.data }, { on := 6, ground := Ground.chain }, { on := 0, ground := Ground.phase }, { on := 1, ground := Ground.phase }, { on := 2, ground := Ground.phase }, { on := 3, ground := Ground.phase }, { on := 4, ground := Ground.phase }, { on := 5, ground := Ground.phase }, { on := 6, ground := Ground.phase }], guard := none }) rfl (fun K' hK => ?_) AllReadyH.nil
      have v1 := C3.out.2.2.1
      have v2 := C3.out.2.1
      go_simp
      refine hK.out _ _ ?_ (fun hHeld => ?_)
      · (try dsimp only)
        exact (CD.out _ _ _ _ _ _ C3.out.2.2.2).1.2.1
      clear hK K'
      (try simp only [Act.put, List.setIfInBounds_toArray, List.set_cons_zero, List.set_cons_succ])
      refine wpAnyH_done (by kernel_rfl) ?_ _
      go_wp2
      go_meet
      case rel => exact C3.out.2.2.2
    case rest =>
      have hb3 := hcut.out
      clear H3 HO R3 C3 x0 x1 x2 z0 z1 z2 xd zd hcut
      obtain ⟨⟨p0, p1, p2⟩, ⟨q0, q1, q2⟩, ⟨x0, x1, x2⟩⟩ := CD.out _ _ _ _ _ _ hb3
      have HB := Lib.hid hb3
      go_upto_block 0 with fail
      go_cut [] (fun wx => ∃ x c ka' kc', RowKit.Hid (BeI w #[.bool true, .slice sa st.length sc, .slice ka sl.length kc] #[.int .i64 (k : Int), .int .i64 (a : Int), .int .i64 b] ob (dBe ⟨st, sl⟩ ⟨(k : Int), (a : Int), b⟩).st x c (.slice ka' (dBe ⟨st, sl⟩ ⟨(k : Int), (a : Int), b⟩).sl.length kc') wx ∧ KptL wx ka' (dBe ⟨st, sl⟩ ⟨(k : Int), (a : Int), b⟩).sl.length (dBe ⟨st, sl⟩ ⟨(k : Int), (a : Int), b⟩).sl))
      case first =>
        rw [lth] at x1
        by_cases c6 : k = 6
        · have e6 := E6.out c6
          subst c6
          have hlt := h6.out rfl
          obtain ⟨y, u, rfl, ly, hc⟩ := (SV.out _ hb3.bel).1.2.at hlt
          have e0 : wc.cell? ⟨y, u + h, none⟩ = some (.int .i64 (st.getD h 0 : Int)) := by
            have := hc 0 (by omega)
            rw [Nat.mul_one, Nat.add_zero] at this
            exact this
          have kl : (h : Int) < (st.length : Int) := by omega
          obtain ⟨x4, c4, w4, r4, v1, v2, q4⟩ := (hb3.lat (allocBP wc (.cells #[.int .i64 (st.getD h 0 : Int)] 3))).push (by rw [lth]; omega) (st.getD h 0) (heapN _ _)
          obtain ⟨_, _, hb4⟩ := q4.out
          obtain ⟨W4, h4⟩ : ∃ W, w4.setCell ⟨ob, 1, none⟩ (.slice x4 (h + 1) c4) = W := ⟨_, rfl⟩
          rw [lth] at hb4 r4 v1
          rw [h4] at hb4
          have H4 := Lib.hid h4
          have R4 := Lib.hid r4
          have l4 : (st.take h ++ [st.getD h 0]).length = h + 1 := by simp [lth]
          have CE := Lib.hid (p := ∀ V, Below W4.heap.size W4 V → V.cell? ⟨w.heap.size, 2, none⟩ = some (.slice ka sl.length kc) ∧ V.cell? ⟨w.heap.size + 1, 1, none⟩ = some (.int .i64 (a : Int))) (fun V bb => ⟨(CD.out _ _ _ _ _ _ (hb4.lat bb)).1.2.2, (CD.out _ _ _ _ _ _ (hb4.lat bb)).2.1.2.1⟩)
          have KW := Lib.hid (p := ∀ V, Below W4.heap.size W4 V → Calls Tryd.prog 53 #[.slice ka sl.length kc, .int .i64 (a : Int)] V fun e w' => ∃ a6 c6, e = .returned (.slice a6 (dOut sl a).length c6) ∧ RowKit.Hid (OwKp w' V.heap.size (.slice a6 (dOut sl a).length c6) (dOut sl a) ∧ Below V.heap.size V w')) (fun V bb => (without14_any (SV.out V (hb4.lat bb).bel).2 (by omega) a).mono (fun e w' z => by
            obtain ⟨a6, c6, rfl, o, b6⟩ := z
            exact ⟨a6, c6, rfl, o, b6⟩))
          have NK := Lib.hid (p := ∀ (V : World) (B g : Nat) (a6 : Option Addr) (c6 : Nat), Below W4.heap.size W4 V → w.heap.size ≤ B → B ≤ V.heap.size → OwKp V B (.slice a6 (dOut sl a).length c6) (dOut sl a) → BkP V g #[.int .i64 (a : Int), .int .i64 (st.getD h 0 : Int)] 112 → ∃ a7 c7 w7, RowKit.Hid (∀ ty, (Builtin.append_ #[70, 70] ty #[.slice a6 (dOut sl a).length c6, .slice (some ⟨g, 0, none⟩) 1 1]).run Tryd.prog V = .ok (.slice a7 ((dOut sl a).length + 1) c7) w7) ∧ w7.cell? ⟨ob, 2, none⟩ = some (.slice ka sl.length kc) ∧ w7.frozen? ⟨ob, 2, none⟩ = false ∧ RowKit.Hid ((w7.cell? ⟨w.heap.size, 2, none⟩ = some (.slice ka sl.length kc) ∧ w7.cell? ⟨w.heap.size + 1, 1, none⟩ = some (.int .i64 (a : Int))) ∧ ((w7.setCell ⟨ob, 2, none⟩ (.slice a7 ((dOut sl a).length + 1) c7)).cell? ⟨w.heap.size, 2, none⟩ = some (.slice ka sl.length kc) ∧ (w7.setCell ⟨ob, 2, none⟩ (.slice a7 ((dOut sl a).length + 1) c7)).cell? ⟨w.heap.size + 1, 1, none⟩ = some (.int .i64 (a : Int))) ∧ ∃ x c ka' kc', RowKit.Hid (BeI w #[.bool true, .slice (some ⟨y, u, none⟩) st.length sc, .slice ka sl.length kc] #[.int .i64 ((6 : Nat) : Int), .int .i64 (a : Int), .int .i64 b] ob (st.take h ++ [st.getD h 0]) x c (.slice ka' (dOut sl a ++ [(a, st.getD h 0)]).length kc') (w7.setCell ⟨ob, 2, none⟩ (.slice a7 ((dOut sl a).length + 1) c7)) ∧ KptL (w7.setCell ⟨ob, 2, none⟩ (.slice a7 ((dOut sl a).length + 1) c7)) ka' (dOut sl a ++ [(a, st.getD h 0)]).length (dOut sl a ++ [(a, st.getD h 0)])))) (fun V B g a6 c6 bb hB hv o bk => by
            obtain ⟨a7, c7, w7, r, y1, y2, z⟩ := (hb4.lat bb).keep hB o (by have := dOut_len (l := sl) (x := a); omega) hv (a, st.getD h 0) bk
            obtain ⟨sb7, ib7, be7, kp7⟩ := z.out
            have ll : (dOut sl a ++ [(a, st.getD h 0)]).length = (dOut sl a).length + 1 := by simp
            refine ⟨a7, c7, w7, r, y1, y2, ⟨⟨(box_3R sb7).2.2, (box_3R ib7).2.1⟩, ⟨(box_3R be7.sb).2.2, (box_3R be7.ib).2.1⟩, x4, c4, a7, c7, ?_⟩⟩
            rw [ll]
            exact ⟨be7, kp7⟩)
          have BW := Lib.hid hb4.bel
          have X2 := Lib.hid (p := ∀ V, Below W4.heap.size W4 V → V.cell? ⟨ob, 2, none⟩ = some (.slice ka sl.length kc)) (fun V bb => (CD.out _ _ _ _ _ _ (hb4.lat bb)).2.2.2.2)
          have e5 : (wc.alloc (.cells #[.int .i64 (st.getD h 0 : Int)] 3)).cell? ⟨ob, 1, none⟩ = some (.slice x3 h c3) := ((allocBP wc _).cell (p := ⟨ob, 1, none⟩) hb3.bx.lt).trans x1
          clear hb3 hb4 q4 r4 h4 hc
          generalize st.getD h 0 = tp at *
          generalize (dOut sl a).length = nO at *
          go_upto_region 14 with (at_builtin; refine wp_app_runR rfl _ _ 23 rfl _ _ _ w4 rfl rfl R4.out ?_)
          rw [H4.out]
          obtain ⟨s2, t1⟩ := CE.out W4 (Below.refl _ _)
          clear x0 x1 x2 p0 p1 p2 q0 q1 q2 v1 v2 e0 e5
          have bB : Below W4.heap.size W4 (W4.drew.alloc (.cells #[.int .i64 (a : Int), .int .i64 (tp : Int)] 112)) := (drew1R W4).trans (allocBP W4.drew _)
          refine wp_region_held_drew (S := (fun w' => w'.cell? ⟨w.heap.size, 2, none⟩ = some (.slice ka sl.length kc) ∧ w'.cell? ⟨w.heap.size + 1, 1, none⟩ = some (.int .i64 (a : Int)))) (by kernel_rfl) ?_ (fun hHeld => ?_)
          · (try dsimp only)
            exact ⟨s2, t1⟩
          refine wpAnyH_take (i := 0) (oi := { dst := some 69, op := Op.fieldAddr 72 (Operand.tmp 2) 2, type := 0, pos := "ref.go:127", after := #[], guard := none }) (v := ?_) rfl (by kernel_rfl) (by kernel_rfl) (by kernel_rfl) (fun _ _ _ h => h) (Or.inl ⟨by rfl, ?_⟩) (by assumption) ?_
          rotate_left 1
          · intro w' hSw; (try dsimp only at hSw); go_simp; try with_reducible rfl
          (try simp only [Act.put, List.setIfInBounds_toArray, List.set_cons_zero, List.set_cons_succ])
          refine wpAnyH_take (i := 1) (oi := { dst := some 70, op := Op.load 70 (Operand.tmp 69), type := 70, pos := "ref.go:127", after := #[{ on := 0, ground := Ground.data }], guard := none }) (v := ?_) rfl (by kernel_rfl) (by kernel_rfl) (by kernel_rfl) (fun _ _ _ h => h) (Or.inl ⟨by rfl, ?_⟩) (by assumption) ?_
          rotate_left 1
          · intro w' hSw; (try dsimp only at hSw); go_simp; try with_reducible rfl
          (try simp only [Act.put, List.setIfInBounds_toArray, List.set_cons_zero, List.set_cons_succ])
          refine wpAnyH_take (i := 2) (oi := { dst := some 71, op := Op.fieldAddr 51 (Operand.tmp 3) 1, type := 0, pos := "ref.go:127", after := #[], guard := none }) (v := ?_) rfl (by kernel_rfl) (by kernel_rfl) (by kernel_rfl) (fun _ _ _ h => h) (Or.inl ⟨by rfl, ?_⟩) (by assumption) ?_
          rotate_left 1
          · intro w' hSw; (try dsimp only at hSw); go_simp; try with_reducible rfl
          (try simp only [Act.put, List.setIfInBounds_toArray, List.set_cons_zero, List.set_cons_succ])
          refine wpAnyH_take (i := 3) (oi := { dst := some 72, op := Op.load 3 (Operand.tmp 71), type := 3, pos := "ref.go:127", after := #[{ on := 2, ground := Ground.data }], guard := none }) (v := ?_) rfl (by kernel_rfl) (by kernel_rfl) (by kernel_rfl) (fun _ _ _ h => h) (Or.inl ⟨by rfl, ?_⟩) (by assumption) ?_
          rotate_left 1
          · intro w' hSw; (try dsimp only at hSw); go_simp; try with_reducible rfl
          (try simp only [Act.put, List.setIfInBounds_toArray, List.set_cons_zero, List.set_cons_succ])
          refine wpAnyH_take (i := 5) (oi := { dst := some 74, op := Op.fieldAddr 51 (Operand.tmp 3) 1, type := 0, pos := "ref.go:127", after := #[], guard := none }) (v := ?_) rfl (by kernel_rfl) (by kernel_rfl) (by kernel_rfl) (fun _ _ _ h => h) (Or.inl ⟨by rfl, ?_⟩) (by assumption) ?_
          rotate_left 1
          · intro w' hSw; (try dsimp only at hSw); go_simp; try with_reducible rfl
          (try simp only [Act.put, List.setIfInBounds_toArray, List.set_cons_zero, List.set_cons_succ])
          refine wpAnyH_take (i := 6) (oi := { dst := some 75, op := Op.load 3 (Operand.tmp 74), type := 3, pos := "ref.go:127", after := #[{ on := 5, ground := Ground.data }], guard := none }) (v := ?_) rfl (by kernel_rfl) (by kernel_rfl) (by kernel_rfl) (fun _ _ _ h => h) (Or.inl ⟨by rfl, ?_⟩) (by assumption) ?_
          rotate_left 1
          · intro w' hSw; (try dsimp only at hSw); go_simp; try with_reducible rfl
          (try simp only [Act.put, List.setIfInBounds_toArray, List.set_cons_zero, List.set_cons_succ])
          refine wpAnyH_take (i := 7) (oi := { dst := some 76, op := Op.move (Operand.tmp 7), type := 3, pos := "ref.go:127", after := #[], guard := none }) (v := ?_) rfl (by kernel_rfl) (by kernel_rfl) (by kernel_rfl) (fun _ _ _ h => h) (Or.inl ⟨by rfl, ?_⟩) (by assumption) ?_
          rotate_left 1
          · intro w' hSw; (try dsimp only at hSw); go_simp; try with_reducible rfl
          (try simp only [Act.put, List.setIfInBounds_toArray, List.set_cons_zero, List.set_cons_succ])
          refine wpAnyH_take (i := 8) (oi := { dst := some 77, op := Op.build 112 #[(0, Operand.tmp 75), (1, Operand.tmp 76)], type := 112, pos := "ref.go:127", after := #[{ on := 6, ground := Ground.data }, { on := 7, ground := Ground.data }], guard := none }) (v := ?_) rfl (by kernel_rfl) (by kernel_rfl) (by kernel_rfl) (fun _ _ _ h => h) (Or.inl ⟨by rfl, ?_⟩) (by assumption) ?_
          rotate_left 1
          · intro w' hSw; (try dsimp only at hSw); go_simp; try with_reducible rfl
          (try simp only [Act.put, List.setIfInBounds_toArray, List.set_cons_zero, List.set_cons_succ])
          refine wpAnyH_ready (rs := [4, 9]) (by kernel_rfl) (by simp) ?_
          refine AllReadyH.cons (o := { dst := some 73, op := Op.call { callee := Callee.value (Operand.func 53), args := #[Operand.tmp 70, Operand.tmp 72], argTypes := #[70, 3] }, type := 70, pos := "ref.go:127", after := #[{ on := 1, ground := Ground.data }, { on := 3, ground := Ground.data }], guard := none }) rfl (fun K' hK => ?_) (AllReadyH.cons (o := { dst := some 78, op := Op.buildSlice 70 1 #[(0, Operand.tmp 77)], type := 70, pos := "ref.go:127", after := #[{ on := 8, ground := Ground.data }], guard := none }) rfl (fun K' hK => ?_) AllReadyH.nil)
          · go_simp
            go_at_call 53; refine (KW.out _ (drew1R W4)).mono ?_; rintro e w6 ⟨a6, c6, rfl, o6⟩; have b6 : Below W4.heap.size W4 w6 := (drew1R W4).trans o6.out.2; obtain ⟨g2, g1⟩ := CE.out w6 b6
            (try go_wp2_with fail)
            refine hK.out _ _ ?_ (fun hHeld => ?_)
            · (try dsimp only)
              exact CE.out w6 b6
            clear hK K'
            (try simp only [Act.put, List.setIfInBounds_toArray, List.set_cons_zero, List.set_cons_succ])
            refine wpAnyH_ready (rs := [9]) (by kernel_rfl) (by simp) ?_
            refine AllReadyH.cons (o := { dst := some 78, op := Op.buildSlice 70 1 #[(0, Operand.tmp 77)], type := 70, pos := "ref.go:127", after := #[{ on := 8, ground := Ground.data }], guard := none }) rfl (fun K' hK => ?_) AllReadyH.nil
            go_simp
            refine hK.out _ _ ?_ (fun hHeld => ?_)
            · (try dsimp only)
              exact CE.out _ (b6.trans ((allocBP w6 _).mono b6.size))
            clear hK K'
            (try simp only [Act.put, List.setIfInBounds_toArray, List.set_cons_zero, List.set_cons_succ])
            refine wpAnyH_ready (rs := [10]) (by kernel_rfl) (by simp) ?_
            refine AllReadyH.cons (o := { dst := some 79, op := Op.call { callee := Callee.builtin Builtin.append, args := #[Operand.tmp 73, Operand.tmp 78], argTypes := #[70, 70] }, type := 70, pos := "ref.go:127", after := #[{ on := 4, ground := Ground.data }, { on := 9, ground := Ground.data }, { on := 4, ground := Ground.chain }], guard := none }) rfl (fun K' hK => ?_) AllReadyH.nil
            obtain ⟨a7, c7, w7, R7, y1, y2, Z7⟩ := NK.out (w6.alloc (.cells #[.int .i64 (a : Int), .int .i64 (tp : Int)] 112)) W4.heap.size w6.heap.size a6 c6 (b6.trans ((allocBP w6 _).mono b6.size)) BW.out.size (Nat.le_trans b6.size (allocBP w6 _).size) (o6.out.1.lat (allocBP w6 _)) (heapN _ _)
            refine step_app_runR rfl _ _ 70 rfl _ _ _ w7 rfl rfl R7.out ?_
            refine hK.out _ _ ?_ (fun hHeld => ?_)
            · (try dsimp only)
              exact Z7.out.1
            clear hK K'
            (try simp only [Act.put, List.setIfInBounds_toArray, List.set_cons_zero, List.set_cons_succ])
            refine wpAnyH_take (i := 11) (oi := { dst := some 80, op := Op.fieldAddr 72 (Operand.tmp 6) 2, type := 0, pos := "ref.go:127", after := #[{ on := 0, ground := Ground.phase }, { on := 1, ground := Ground.phase }, { on := 2, ground := Ground.phase }, { on := 3, ground := Ground.phase }, { on := 4, ground := Ground.phase }, { on := 5, ground := Ground.phase }, { on := 6, ground := Ground.phase }, { on := 7, ground := Ground.phase }, { on := 8, ground := Ground.phase }, { on := 9, ground := Ground.phase }, { on := 10, ground := Ground.phase }], guard := none }) (v := ?_) rfl (by kernel_rfl) (by kernel_rfl) (by kernel_rfl) (fun _ _ _ h => h) (Or.inl ⟨by rfl, ?_⟩) (by assumption) ?_
            rotate_left 1
            · intro w' hSw; (try dsimp only at hSw); go_simp; try with_reducible rfl
            (try simp only [Act.put, List.setIfInBounds_toArray, List.set_cons_zero, List.set_cons_succ])
            refine wpAnyH_ready (rs := [12]) (by kernel_rfl) (by simp) ?_
            refine AllReadyH.cons (o := { dst := none, op := Op.store 70 (Operand.tmp 80) (Operand.tmp 79), type := 0, pos := "ref.go:127", after := #[{ on := 11, ground := Ground.data }, { on := 10, ground := Ground.data }, { on := 10, ground := Ground.chain }, { on := 0, ground := Ground.phase }, { on := 1, ground := Ground.phase }, { on := 2, ground := Ground.phase }, { on := 3, ground := Ground.phase }, { on := 4, ground := Ground.phase }, { on := 5, ground := Ground.phase }, { on := 6, ground := Ground.phase }, { on := 7, ground := Ground.phase }, { on := 8, ground := Ground.phase }, { on := 9, ground := Ground.phase }, { on := 10, ground := Ground.phase }], guard := none }) rfl (fun K' hK => ?_) AllReadyH.nil
            go_simp
            refine hK.out _ _ ?_ (fun hHeld => ?_)
            · (try dsimp only)
              exact Z7.out.2.1
            clear hK K'
            (try simp only [Act.put, List.setIfInBounds_toArray, List.set_cons_zero, List.set_cons_succ])
            refine wpAnyH_done (by kernel_rfl) ?_ _
            go_wp2
            go_meet
            case rel => rw [e6]; exact Z7.out.2.2
          · go_simp
            refine hK.out _ _ ?_ (fun hHeld => ?_)
            · (try dsimp only)
              exact CE.out _ bB
            clear hK K'
            (try simp only [Act.put, List.setIfInBounds_toArray, List.set_cons_zero, List.set_cons_succ])
            refine wpAnyH_ready (rs := [4]) (by kernel_rfl) (by simp) ?_
            refine AllReadyH.cons (o := { dst := some 73, op := Op.call { callee := Callee.value (Operand.func 53), args := #[Operand.tmp 70, Operand.tmp 72], argTypes := #[70, 3] }, type := 70, pos := "ref.go:127", after := #[{ on := 1, ground := Ground.data }, { on := 3, ground := Ground.data }], guard := none }) rfl (fun K' hK => ?_) AllReadyH.nil
            go_simp
            go_at_call 53; refine (KW.out _ bB).mono ?_; rintro e w6 ⟨a6, c6, rfl, o6⟩; have b6 : Below W4.heap.size W4 w6 := bB.trans (o6.out.2.mono bB.size); obtain ⟨g2, g1⟩ := CE.out w6 b6
            (try go_wp2_with fail)
            refine hK.out _ _ ?_ (fun hHeld => ?_)
            · (try dsimp only)
              exact CE.out w6 b6
            clear hK K'
            (try simp only [Act.put, List.setIfInBounds_toArray, List.set_cons_zero, List.set_cons_succ])
            refine wpAnyH_ready (rs := [10]) (by kernel_rfl) (by simp) ?_
            refine AllReadyH.cons (o := { dst := some 79, op := Op.call { callee := Callee.builtin Builtin.append, args := #[Operand.tmp 73, Operand.tmp 78], argTypes := #[70, 70] }, type := 70, pos := "ref.go:127", after := #[{ on := 4, ground := Ground.data }, { on := 9, ground := Ground.data }, { on := 4, ground := Ground.chain }], guard := none }) rfl (fun K' hK => ?_) AllReadyH.nil
            obtain ⟨a7, c7, w7, R7, y1, y2, Z7⟩ := NK.out w6 (W4.drew.alloc (.cells #[.int .i64 (a : Int), .int .i64 (tp : Int)] 112)).heap.size W4.heap.size a6 c6 b6 (Nat.le_trans BW.out.size bB.size) o6.out.2.size o6.out.1 (BkP.lat (heapN W4.drew (.cells #[.int .i64 (a : Int), .int .i64 (tp : Int)] 112)) o6.out.2)
            refine step_app_runR rfl _ _ 70 rfl _ _ _ w7 rfl rfl R7.out ?_
            refine hK.out _ _ ?_ (fun hHeld => ?_)
            · (try dsimp only)
              exact Z7.out.1
            clear hK K'
            (try simp only [Act.put, List.setIfInBounds_toArray, List.set_cons_zero, List.set_cons_succ])
            refine wpAnyH_take (i := 11) (oi := { dst := some 80, op := Op.fieldAddr 72 (Operand.tmp 6) 2, type := 0, pos := "ref.go:127", after := #[{ on := 0, ground := Ground.phase }, { on := 1, ground := Ground.phase }, { on := 2, ground := Ground.phase }, { on := 3, ground := Ground.phase }, { on := 4, ground := Ground.phase }, { on := 5, ground := Ground.phase }, { on := 6, ground := Ground.phase }, { on := 7, ground := Ground.phase }, { on := 8, ground := Ground.phase }, { on := 9, ground := Ground.phase }, { on := 10, ground := Ground.phase }], guard := none }) (v := ?_) rfl (by kernel_rfl) (by kernel_rfl) (by kernel_rfl) (fun _ _ _ h => h) (Or.inl ⟨by rfl, ?_⟩) (by assumption) ?_
            rotate_left 1
            · intro w' hSw; (try dsimp only at hSw); go_simp; try with_reducible rfl
            (try simp only [Act.put, List.setIfInBounds_toArray, List.set_cons_zero, List.set_cons_succ])
            refine wpAnyH_ready (rs := [12]) (by kernel_rfl) (by simp) ?_
            refine AllReadyH.cons (o := { dst := none, op := Op.store 70 (Operand.tmp 80) (Operand.tmp 79), type := 0, pos := "ref.go:127", after := #[{ on := 11, ground := Ground.data }, { on := 10, ground := Ground.data }, { on := 10, ground := Ground.chain }, { on := 0, ground := Ground.phase }, { on := 1, ground := Ground.phase }, { on := 2, ground := Ground.phase }, { on := 3, ground := Ground.phase }, { on := 4, ground := Ground.phase }, { on := 5, ground := Ground.phase }, { on := 6, ground := Ground.phase }, { on := 7, ground := Ground.phase }, { on := 8, ground := Ground.phase }, { on := 9, ground := Ground.phase }, { on := 10, ground := Ground.phase }], guard := none }) rfl (fun K' hK => ?_) AllReadyH.nil
            go_simp
            refine hK.out _ _ ?_ (fun hHeld => ?_)
            · (try dsimp only)
              exact Z7.out.2.1
            clear hK K'
            (try simp only [Act.put, List.setIfInBounds_toArray, List.set_cons_zero, List.set_cons_succ])
            refine wpAnyH_done (by kernel_rfl) ?_ _
            go_wp2
            go_meet
            case rel => rw [e6]; exact Z7.out.2.2
        have n6 : ¬ (k : Int) = 6 := by omega
        have PU := Lib.hid (p := ∀ (y : Nat) (V : World), Below wc.heap.size wc V → ∃ x' c' w', RowKit.Hid (∀ ty, (Builtin.append_ #[23, 23] ty #[.slice x3 h c3, .slice (some ⟨V.heap.size, 0, none⟩) 1 1]).run Tryd.prog (V.alloc (.cells #[.int .i64 (y : Int)] 3)) = .ok (.slice x' (h + 1) c') w') ∧ w'.cell? ⟨ob, 1, none⟩ = some (.slice x3 h c3) ∧ w'.frozen? ⟨ob, 1, none⟩ = false ∧ RowKit.Hid ((w'.cell? ⟨w.heap.size, 2, none⟩ = some (.slice ka sl.length kc) ∧ w'.cell? ⟨w.heap.size + 1, 1, none⟩ = some (.int .i64 (a : Int))) ∧ ((w'.setCell ⟨ob, 1, none⟩ (.slice x' (h + 1) c')).cell? ⟨w.heap.size, 2, none⟩ = some (.slice ka sl.length kc) ∧ (w'.setCell ⟨ob, 1, none⟩ (.slice x' (h + 1) c')).cell? ⟨w.heap.size + 1, 1, none⟩ = some (.int .i64 (a : Int))) ∧ ∃ x c ka' kc', RowKit.Hid (BeI w #[.bool true, .slice sa st.length sc, .slice ka sl.length kc] #[.int .i64 (k : Int), .int .i64 (a : Int), .int .i64 b] ob (st.take h ++ [y]) x c (.slice ka' sl.length kc') (w'.setCell ⟨ob, 1, none⟩ (.slice x' (h + 1) c')) ∧ KptL (w'.setCell ⟨ob, 1, none⟩ (.slice x' (h + 1) c')) ka' sl.length sl))) (fun y V bb => by
          obtain ⟨x', c', w', r, v1, v2, q4⟩ := ((hb3.lat bb).lat (allocBP V (.cells #[.int .i64 (y : Int)] 3))).push (by rw [lth]; omega) y (heapN _ _)
          obtain ⟨sb4, ib4, hb4⟩ := q4.out
          rw [lth] at r v1 hb4
          refine ⟨x', c', w', r, v1, v2, ⟨(box_3R sb4).2.2, (box_3R ib4).2.1⟩, ⟨(box_3R hb4.sb).2.2, (box_3R hb4.ib).2.1⟩, x', c', ka, kc, hb4, (SV.out _ hb4.bel).2⟩)
        have BW := Lib.hid hb3.bel
        have NP := Lib.hid (p := ∃ x c ka' kc', RowKit.Hid (BeI w #[.bool true, .slice sa st.length sc, .slice ka sl.length kc] #[.int .i64 (k : Int), .int .i64 (a : Int), .int .i64 b] ob (st.take h) x c (.slice ka' sl.length kc') wc ∧ KptL wc ka' sl.length sl)) ⟨x3, c3, ka, kc, hb3, (SV.out _ hb3.bel).2⟩
        have CW := Lib.hid (p := ∀ V, Below wc.heap.size wc V → (V.cell? ⟨w.heap.size, 2, none⟩ = some (.slice ka sl.length kc) ∧ V.cell? ⟨w.heap.size + 1, 1, none⟩ = some (.int .i64 (a : Int))) ∧ V.cell? ⟨w.heap.size + 1, 0, none⟩ = some (.int .i64 (k : Int)) ∧ V.cell? ⟨ob, 1, none⟩ = some (.slice x3 h c3)) (fun V bb => by
          obtain ⟨⟨i0, i1, i2⟩, ⟨j0, j1, j2⟩, ⟨m0, m1, m2⟩⟩ := CD.out _ _ _ _ _ _ (hb3.lat bb)
          rw [lth] at m1
          exact ⟨⟨i2, j1⟩, j0, m1⟩)
        by_cases c7 : k = 7
        · have e7 := E7.out c7
          subst c7
          have KS := Lib.hid (p := ∀ V, Below wc.heap.size wc V → Calls Tryd.prog 52 #[.slice ka sl.length kc, .int .i64 (a : Int)] V fun e w' => e = .returned (.int .i64 (dSlot sl a : Int)) ∧ w' = V) (fun V bb => slot14_any (SV.out V (hb3.lat bb).bel).2 (by omega) a)
          obtain ⟨x7, c7, w7, R7, v1, v2, Z7⟩ := PU.out (dSlot sl a) wc.drew (drew1R wc)
          clear hb3
          go_upto_region 16 with fail
          obtain ⟨⟨s2, t1⟩, _, m1⟩ := CW.out wc (Below.refl _ _)
          obtain ⟨_, _, md⟩ := CW.out wc.drew (drew1R _)
          clear x0 x1 x2 p0 p1 p2 q0 q1 q2
          have S1 := Lib.hid (CW.out wc.drew (drew1R _)).1
          have S2 := Lib.hid (CW.out (wc.drew.alloc (.cells #[.int .i64 (dSlot sl a : Int)] 3)) ((drew1R wc).trans (allocBP wc.drew _)))
          have ma := S2.out.2.2
          have mb : (wc.alloc (.cells #[.int .i64 (dSlot sl a : Int)] 3)).cell? ⟨ob, 1, none⟩ = some (.slice x3 h c3) := ma
          generalize dSlot sl a = ds at *
          refine wp_region_held_drew (S := (fun w' => w'.cell? ⟨w.heap.size, 2, none⟩ = some (.slice ka sl.length kc) ∧ w'.cell? ⟨w.heap.size + 1, 1, none⟩ = some (.int .i64 (a : Int)))) (by kernel_rfl) ?_ (fun hHeld => ?_)
          · (try dsimp only)
            exact ⟨s2, t1⟩
          refine wpAnyH_take (i := 0) (oi := { dst := some 83, op := Op.fieldAddr 72 (Operand.tmp 6) 1, type := 0, pos := "ref.go:129", after := #[], guard := none }) (v := ?_) rfl (by kernel_rfl) (by kernel_rfl) (by kernel_rfl) (fun _ _ _ h => h) (Or.inl ⟨by rfl, ?_⟩) (by assumption) ?_
          rotate_left 1
          · intro w' hSw; (try dsimp only at hSw); go_simp; try with_reducible rfl
          (try simp only [Act.put, List.setIfInBounds_toArray, List.set_cons_zero, List.set_cons_succ])
          refine wpAnyH_take (i := 2) (oi := { dst := some 85, op := Op.fieldAddr 72 (Operand.tmp 2) 2, type := 0, pos := "ref.go:129", after := #[], guard := none }) (v := ?_) rfl (by kernel_rfl) (by kernel_rfl) (by kernel_rfl) (fun _ _ _ h => h) (Or.inl ⟨by rfl, ?_⟩) (by assumption) ?_
          rotate_left 1
          · intro w' hSw; (try dsimp only at hSw); go_simp; try with_reducible rfl
          (try simp only [Act.put, List.setIfInBounds_toArray, List.set_cons_zero, List.set_cons_succ])
          refine wpAnyH_take (i := 3) (oi := { dst := some 86, op := Op.load 70 (Operand.tmp 85), type := 70, pos := "ref.go:129", after := #[{ on := 2, ground := Ground.data }], guard := none }) (v := ?_) rfl (by kernel_rfl) (by kernel_rfl) (by kernel_rfl) (fun _ _ _ h => h) (Or.inl ⟨by rfl, ?_⟩) (by assumption) ?_
          rotate_left 1
          · intro w' hSw; (try dsimp only at hSw); go_simp; try with_reducible rfl
          (try simp only [Act.put, List.setIfInBounds_toArray, List.set_cons_zero, List.set_cons_succ])
          refine wpAnyH_take (i := 4) (oi := { dst := some 87, op := Op.fieldAddr 51 (Operand.tmp 3) 1, type := 0, pos := "ref.go:129", after := #[], guard := none }) (v := ?_) rfl (by kernel_rfl) (by kernel_rfl) (by kernel_rfl) (fun _ _ _ h => h) (Or.inl ⟨by rfl, ?_⟩) (by assumption) ?_
          rotate_left 1
          · intro w' hSw; (try dsimp only at hSw); go_simp; try with_reducible rfl
          (try simp only [Act.put, List.setIfInBounds_toArray, List.set_cons_zero, List.set_cons_succ])
          refine wpAnyH_take (i := 5) (oi := { dst := some 88, op := Op.load 3 (Operand.tmp 87), type := 3, pos := "ref.go:129", after := #[{ on := 4, ground := Ground.data }], guard := none }) (v := ?_) rfl (by kernel_rfl) (by kernel_rfl) (by kernel_rfl) (fun _ _ _ h => h) (Or.inl ⟨by rfl, ?_⟩) (by assumption) ?_
          rotate_left 1
          · intro w' hSw; (try dsimp only at hSw); go_simp; try with_reducible rfl
          (try simp only [Act.put, List.setIfInBounds_toArray, List.set_cons_zero, List.set_cons_succ])
          refine wpAnyH_ready (rs := [1, 6]) (by kernel_rfl) (by simp) ?_
          refine AllReadyH.cons (o := { dst := some 84, op := Op.load 23 (Operand.tmp 83), type := 23, pos := "ref.go:129", after := #[{ on := 0, ground := Ground.data }], guard := none }) rfl (fun K' hK => ?_) (AllReadyH.cons (o := { dst := some 89, op := Op.call { callee := Callee.value (Operand.func 52), args := #[Operand.tmp 86, Operand.tmp 88], argTypes := #[70, 3] }, type := 3, pos := "ref.go:129", after := #[{ on := 3, ground := Ground.data }, { on := 5, ground := Ground.data }], guard := none }) rfl (fun K' hK => ?_) AllReadyH.nil)
          · go_simp
            refine hK.out _ _ ?_ (fun hHeld => ?_)
            · (try dsimp only)
              exact hHeld
            clear hK K'
            (try simp only [Act.put, List.setIfInBounds_toArray, List.set_cons_zero, List.set_cons_succ])
            refine wpAnyH_ready (rs := [6]) (by kernel_rfl) (by simp) ?_
            refine AllReadyH.cons (o := { dst := some 89, op := Op.call { callee := Callee.value (Operand.func 52), args := #[Operand.tmp 86, Operand.tmp 88], argTypes := #[70, 3] }, type := 3, pos := "ref.go:129", after := #[{ on := 3, ground := Ground.data }, { on := 5, ground := Ground.data }], guard := none }) rfl (fun K' hK => ?_) AllReadyH.nil
            go_simp
            go_at_call 52; refine (KS.out _ (drew1R wc)).mono ?_; rintro e w6 ⟨rfl, hw6⟩; subst hw6
            (try go_wp2_with fail)
            refine hK.out _ _ ?_ (fun hHeld => ?_)
            · (try dsimp only)
              exact S1.out
            clear hK K'
            (try simp only [Act.put, List.setIfInBounds_toArray, List.set_cons_zero, List.set_cons_succ])
            refine wpAnyH_ready (rs := [7]) (by kernel_rfl) (by simp) ?_
            refine AllReadyH.cons (o := { dst := some 90, op := Op.buildSlice 23 1 #[(0, Operand.tmp 89)], type := 23, pos := "ref.go:129", after := #[{ on := 6, ground := Ground.data }], guard := none }) rfl (fun K' hK => ?_) AllReadyH.nil
            go_simp
            refine hK.out _ _ ?_ (fun hHeld => ?_)
            · (try dsimp only)
              exact S2.out.1
            clear hK K'
            (try simp only [Act.put, List.setIfInBounds_toArray, List.set_cons_zero, List.set_cons_succ])
            refine wpAnyH_ready (rs := [8]) (by kernel_rfl) (by simp) ?_
            refine AllReadyH.cons (o := { dst := some 91, op := Op.call { callee := Callee.builtin Builtin.append, args := #[Operand.tmp 84, Operand.tmp 90], argTypes := #[23, 23] }, type := 23, pos := "ref.go:129", after := #[{ on := 1, ground := Ground.data }, { on := 7, ground := Ground.data }, { on := 6, ground := Ground.chain }], guard := none }) rfl (fun K' hK => ?_) AllReadyH.nil
            refine step_app_runR rfl _ _ 23 rfl _ _ _ w7 rfl rfl R7.out ?_
            refine hK.out _ _ ?_ (fun hHeld => ?_)
            · (try dsimp only)
              exact Z7.out.1
            clear hK K'
            (try simp only [Act.put, List.setIfInBounds_toArray, List.set_cons_zero, List.set_cons_succ])
            refine wpAnyH_take (i := 9) (oi := { dst := some 92, op := Op.fieldAddr 72 (Operand.tmp 6) 1, type := 0, pos := "ref.go:129", after := #[{ on := 0, ground := Ground.phase }, { on := 1, ground := Ground.phase }, { on := 2, ground := Ground.phase }, { on := 3, ground := Ground.phase }, { on := 4, ground := Ground.phase }, { on := 5, ground := Ground.phase }, { on := 6, ground := Ground.phase }, { on := 7, ground := Ground.phase }, { on := 8, ground := Ground.phase }], guard := none }) (v := ?_) rfl (by kernel_rfl) (by kernel_rfl) (by kernel_rfl) (fun _ _ _ h => h) (Or.inl ⟨by rfl, ?_⟩) (by assumption) ?_
            rotate_left 1
            · intro w' hSw; (try dsimp only at hSw); go_simp; try with_reducible rfl
            (try simp only [Act.put, List.setIfInBounds_toArray, List.set_cons_zero, List.set_cons_succ])
            refine wpAnyH_ready (rs := [10]) (by kernel_rfl) (by simp) ?_
            refine AllReadyH.cons (o := { dst := none, op := Op.store 23 (Operand.tmp 92) (Operand.tmp 91), type := 0, pos := "ref.go:129", after := #[{ on := 9, ground := Ground.data }, { on := 8, ground := Ground.data }, { on := 8, ground := Ground.chain }, { on := 0, ground := Ground.phase }, { on := 1, ground := Ground.phase }, { on := 2, ground := Ground.phase }, { on := 3, ground := Ground.phase }, { on := 4, ground := Ground.phase }, { on := 5, ground := Ground.phase }, { on := 6, ground := Ground.phase }, { on := 7, ground := Ground.phase }, { on := 8, ground := Ground.phase }], guard := none }) rfl (fun K' hK => ?_) AllReadyH.nil
            go_simp
            refine hK.out _ _ ?_ (fun hHeld => ?_)
            · (try dsimp only)
              exact Z7.out.2.1
            clear hK K'
            (try simp only [Act.put, List.setIfInBounds_toArray, List.set_cons_zero, List.set_cons_succ])
            refine wpAnyH_done (by kernel_rfl) ?_ _
            go_wp2
            go_meet
            case rel => rw [e7]; exact Z7.out.2.2
          · go_simp
            go_at_call 52; refine (KS.out _ (drew1R wc)).mono ?_; rintro e w6 ⟨rfl, hw6⟩; subst hw6
            (try go_wp2_with fail)
            refine hK.out _ _ ?_ (fun hHeld => ?_)
            · (try dsimp only)
              exact S1.out
            clear hK K'
            (try simp only [Act.put, List.setIfInBounds_toArray, List.set_cons_zero, List.set_cons_succ])
            refine wpAnyH_ready (rs := [1, 7]) (by kernel_rfl) (by simp) ?_
            refine AllReadyH.cons (o := { dst := some 84, op := Op.load 23 (Operand.tmp 83), type := 23, pos := "ref.go:129", after := #[{ on := 0, ground := Ground.data }], guard := none }) rfl (fun K' hK => ?_) (AllReadyH.cons (o := { dst := some 90, op := Op.buildSlice 23 1 #[(0, Operand.tmp 89)], type := 23, pos := "ref.go:129", after := #[{ on := 6, ground := Ground.data }], guard := none }) rfl (fun K' hK => ?_) AllReadyH.nil)
            · go_simp
              refine hK.out _ _ ?_ (fun hHeld => ?_)
              · (try dsimp only)
                exact hHeld
              clear hK K'
              (try simp only [Act.put, List.setIfInBounds_toArray, List.set_cons_zero, List.set_cons_succ])
              refine wpAnyH_ready (rs := [7]) (by kernel_rfl) (by simp) ?_
              refine AllReadyH.cons (o := { dst := some 90, op := Op.buildSlice 23 1 #[(0, Operand.tmp 89)], type := 23, pos := "ref.go:129", after := #[{ on := 6, ground := Ground.data }], guard := none }) rfl (fun K' hK => ?_) AllReadyH.nil
              go_simp
              refine hK.out _ _ ?_ (fun hHeld => ?_)
              · (try dsimp only)
                exact S2.out.1
              clear hK K'
              (try simp only [Act.put, List.setIfInBounds_toArray, List.set_cons_zero, List.set_cons_succ])
              refine wpAnyH_ready (rs := [8]) (by kernel_rfl) (by simp) ?_
              refine AllReadyH.cons (o := { dst := some 91, op := Op.call { callee := Callee.builtin Builtin.append, args := #[Operand.tmp 84, Operand.tmp 90], argTypes := #[23, 23] }, type := 23, pos := "ref.go:129", after := #[{ on := 1, ground := Ground.data }, { on := 7, ground := Ground.data }, { on := 6, ground := Ground.chain }], guard := none }) rfl (fun K' hK => ?_) AllReadyH.nil
              refine step_app_runR rfl _ _ 23 rfl _ _ _ w7 rfl rfl R7.out ?_
              refine hK.out _ _ ?_ (fun hHeld => ?_)
              · (try dsimp only)
                exact Z7.out.1
              clear hK K'
              (try simp only [Act.put, List.setIfInBounds_toArray, List.set_cons_zero, List.set_cons_succ])
              refine wpAnyH_take (i := 9) (oi := { dst := some 92, op := Op.fieldAddr 72 (Operand.tmp 6) 1, type := 0, pos := "ref.go:129", after := #[{ on := 0, ground := Ground.phase }, { on := 1, ground := Ground.phase }, { on := 2, ground := Ground.phase }, { on := 3, ground := Ground.phase }, { on := 4, ground := Ground.phase }, { on := 5, ground := Ground.phase }, { on := 6, ground := Ground.phase }, { on := 7, ground := Ground.phase }, { on := 8, ground := Ground.phase }], guard := none }) (v := ?_) rfl (by kernel_rfl) (by kernel_rfl) (by kernel_rfl) (fun _ _ _ h => h) (Or.inl ⟨by rfl, ?_⟩) (by assumption) ?_
              rotate_left 1
              · intro w' hSw; (try dsimp only at hSw); go_simp; try with_reducible rfl
              (try simp only [Act.put, List.setIfInBounds_toArray, List.set_cons_zero, List.set_cons_succ])
              refine wpAnyH_ready (rs := [10]) (by kernel_rfl) (by simp) ?_
              refine AllReadyH.cons (o := { dst := none, op := Op.store 23 (Operand.tmp 92) (Operand.tmp 91), type := 0, pos := "ref.go:129", after := #[{ on := 9, ground := Ground.data }, { on := 8, ground := Ground.data }, { on := 8, ground := Ground.chain }, { on := 0, ground := Ground.phase }, { on := 1, ground := Ground.phase }, { on := 2, ground := Ground.phase }, { on := 3, ground := Ground.phase }, { on := 4, ground := Ground.phase }, { on := 5, ground := Ground.phase }, { on := 6, ground := Ground.phase }, { on := 7, ground := Ground.phase }, { on := 8, ground := Ground.phase }], guard := none }) rfl (fun K' hK => ?_) AllReadyH.nil
              go_simp
              refine hK.out _ _ ?_ (fun hHeld => ?_)
              · (try dsimp only)
                exact Z7.out.2.1
              clear hK K'
              (try simp only [Act.put, List.setIfInBounds_toArray, List.set_cons_zero, List.set_cons_succ])
              refine wpAnyH_done (by kernel_rfl) ?_ _
              go_wp2
              go_meet
              case rel => rw [e7]; exact Z7.out.2.2
            · go_simp
              refine hK.out _ _ ?_ (fun hHeld => ?_)
              · (try dsimp only)
                exact S2.out.1
              clear hK K'
              (try simp only [Act.put, List.setIfInBounds_toArray, List.set_cons_zero, List.set_cons_succ])
              refine wpAnyH_ready (rs := [1]) (by kernel_rfl) (by simp) ?_
              refine AllReadyH.cons (o := { dst := some 84, op := Op.load 23 (Operand.tmp 83), type := 23, pos := "ref.go:129", after := #[{ on := 0, ground := Ground.data }], guard := none }) rfl (fun K' hK => ?_) AllReadyH.nil
              go_simp
              refine hK.out _ _ ?_ (fun hHeld => ?_)
              · (try dsimp only)
                exact hHeld
              clear hK K'
              (try simp only [Act.put, List.setIfInBounds_toArray, List.set_cons_zero, List.set_cons_succ])
              refine wpAnyH_ready (rs := [8]) (by kernel_rfl) (by simp) ?_
              refine AllReadyH.cons (o := { dst := some 91, op := Op.call { callee := Callee.builtin Builtin.append, args := #[Operand.tmp 84, Operand.tmp 90], argTypes := #[23, 23] }, type := 23, pos := "ref.go:129", after := #[{ on := 1, ground := Ground.data }, { on := 7, ground := Ground.data }, { on := 6, ground := Ground.chain }], guard := none }) rfl (fun K' hK => ?_) AllReadyH.nil
              refine step_app_runR rfl _ _ 23 rfl _ _ _ w7 rfl rfl R7.out ?_
              refine hK.out _ _ ?_ (fun hHeld => ?_)
              · (try dsimp only)
                exact Z7.out.1
              clear hK K'
              (try simp only [Act.put, List.setIfInBounds_toArray, List.set_cons_zero, List.set_cons_succ])
              refine wpAnyH_take (i := 9) (oi := { dst := some 92, op := Op.fieldAddr 72 (Operand.tmp 6) 1, type := 0, pos := "ref.go:129", after := #[{ on := 0, ground := Ground.phase }, { on := 1, ground := Ground.phase }, { on := 2, ground := Ground.phase }, { on := 3, ground := Ground.phase }, { on := 4, ground := Ground.phase }, { on := 5, ground := Ground.phase }, { on := 6, ground := Ground.phase }, { on := 7, ground := Ground.phase }, { on := 8, ground := Ground.phase }], guard := none }) (v := ?_) rfl (by kernel_rfl) (by kernel_rfl) (by kernel_rfl) (fun _ _ _ h => h) (Or.inl ⟨by rfl, ?_⟩) (by assumption) ?_
              rotate_left 1
              · intro w' hSw; (try dsimp only at hSw); go_simp; try with_reducible rfl
              (try simp only [Act.put, List.setIfInBounds_toArray, List.set_cons_zero, List.set_cons_succ])
              refine wpAnyH_ready (rs := [10]) (by kernel_rfl) (by simp) ?_
              refine AllReadyH.cons (o := { dst := none, op := Op.store 23 (Operand.tmp 92) (Operand.tmp 91), type := 0, pos := "ref.go:129", after := #[{ on := 9, ground := Ground.data }, { on := 8, ground := Ground.data }, { on := 8, ground := Ground.chain }, { on := 0, ground := Ground.phase }, { on := 1, ground := Ground.phase }, { on := 2, ground := Ground.phase }, { on := 3, ground := Ground.phase }, { on := 4, ground := Ground.phase }, { on := 5, ground := Ground.phase }, { on := 6, ground := Ground.phase }, { on := 7, ground := Ground.phase }, { on := 8, ground := Ground.phase }], guard := none }) rfl (fun K' hK => ?_) AllReadyH.nil
              go_simp
              refine hK.out _ _ ?_ (fun hHeld => ?_)
              · (try dsimp only)
                exact Z7.out.2.1
              clear hK K'
              (try simp only [Act.put, List.setIfInBounds_toArray, List.set_cons_zero, List.set_cons_succ])
              refine wpAnyH_done (by kernel_rfl) ?_ _
              go_wp2
              go_meet
              case rel => rw [e7]; exact Z7.out.2.2
        have n7 : ¬ (k : Int) = 7 := by omega
        obtain ⟨f1, f2, f3⟩ := ps_all k hk c6 c7
        by_cases c2 : k = 2 ∨ k = 25
        · have e1 := E1.out c6 c7 (by rw [f2 c2]; decide)
          rw [f2 c2] at e1
          obtain ⟨x7, c7, w7, R7, v1, v2, Z7⟩ := PU.out 2 wc (Below.refl _ _)
          have R8 := Lib.hid (p := ∀ ty, (Builtin.append_ #[23, 23] ty #[.slice x3 h c3, .slice (some ⟨wc.heap.size, 0, none⟩) 1 1]).run Tryd.prog (wc.alloc (.cells #[.int .i64 2] 3)) = .ok (.slice x7 (h + 1) c7) w7) R7.out
          clear hb3 R7
          rcases c2 with rfl | rfl
          · go_wp2_with (at_builtin; refine wp_app_runR rfl _ _ 23 rfl _ _ _ w7 rfl rfl R8.out ?_)
            go_meet
            case rel => rw [e1]; exact Z7.out.2.2
          · go_wp2_with (at_builtin; refine wp_app_runR rfl _ _ 23 rfl _ _ _ w7 rfl rfl R8.out ?_)
            go_meet
            case rel => rw [e1]; exact Z7.out.2.2
        · have n2 : ¬ (k : Int) = 2 := by omega
          have n25 : ¬ (k : Int) = 25 := by omega
          have d2 : ((k : Int) == 2) = false := by simpa using n2
          have d25 : ((k : Int) == 25) = false := by simpa using n25
          have d6 : ((k : Int) == 6) = false := by simpa using n6
          have d7 : ((k : Int) == 7) = false := by simpa using n7
          have KE := Lib.hid (refEffect_any (ref_inR hk) wc)
          have m2 : ¬ k = 2 := by omega
          have m25 : ¬ k = 25 := by omega
          by_cases z : psA k = 0
          · have pz : ptA k = 0 := f1.1 z
            have e1 := E0.out c6 c7 z
            have NL := Lib.hid (p := ∀ V, Below wc.heap.size wc V → ∃ x c ka' kc', RowKit.Hid (BeI w #[.bool true, .slice sa st.length sc, .slice ka sl.length kc] #[.int .i64 (k : Int), .int .i64 (a : Int), .int .i64 b] ob (st.take h) x c (.slice ka' sl.length kc') V ∧ KptL V ka' sl.length sl)) (fun V bb => ⟨x3, c3, ka, kc, hb3.lat bb, (SV.out _ (hb3.lat bb).bel).2⟩)
            rw [pz] at KE
            clear hb3 f1 f2 f3
            go_wp2_with (go_at_call 54; refine KE.out.mono ?_; rintro e w1 ⟨rfl, h1⟩; have B1 := Lib.hid h1; clear h1)
            go_meet
            case rel => rw [e1]; exact NL.out _ B1.out
          · have pz : ptA k ≠ 0 := fun q => z (f1.2 q)
            have e1 := E1.out c6 c7 z
            have f4 := f3 m2 m25 z
            have pl : (0 : Int) < (ptA k : Int) := by omega
            have CW2 := Lib.hid CW.out
            clear hb3 f1 f2 f3
            generalize ptA k = pt at *
            by_cases r : 19 ≤ k ∧ k ≤ 24
            · rw [if_pos r] at f4
              rw [f4] at e1
              have r1 : (19 : Int) ≤ (k : Int) := by omega
              have r2 : (k : Int) ≤ 24 := by omega
              go_wp2_with (first | (go_at_call 54; refine KE.out.mono ?_; rintro e w1 ⟨rfl, h1⟩; have B1 := Lib.hid h1; clear h1; obtain ⟨_, k1, x1'⟩ := CW2.out w1 B1.out; obtain ⟨x7, c7, w7, R7, v1, v2, Z7⟩ := PU.out 2 w1 B1.out; have x2' := ((allocBP w1 (.cells #[.int .i64 2] 3)).cell (p := ⟨ob, 1, none⟩) (cell_ltR x1')).trans x1') | (at_builtin; refine wp_app_runR rfl _ _ 23 rfl _ _ _ w7 rfl rfl R7.out ?_))
              go_meet
              case rel => rw [e1]; exact Z7.out.2.2
            · rw [if_neg r] at f4
              rw [f4] at e1
              by_cases r0 : 19 ≤ k
              · have r1 : (19 : Int) ≤ (k : Int) := by omega
                have r2 : ¬ (k : Int) ≤ 24 := by omega
                go_wp2_with (first | (go_at_call 54; refine KE.out.mono ?_; rintro e w1 ⟨rfl, h1⟩; have B1 := Lib.hid h1; clear h1; obtain ⟨_, k1, x1'⟩ := CW2.out w1 B1.out; obtain ⟨x7, c7, w7, R7, v1, v2, Z7⟩ := PU.out 1 w1 B1.out; have x2' := ((allocBP w1 (.cells #[.int .i64 1] 3)).cell (p := ⟨ob, 1, none⟩) (cell_ltR x1')).trans x1') | (at_builtin; refine wp_app_runR rfl _ _ 23 rfl _ _ _ w7 rfl rfl R7.out ?_))
                go_meet
                case rel => rw [e1]; exact Z7.out.2.2
              · have r1 : ¬ (19 : Int) ≤ (k : Int) := by omega
                go_wp2_with (first | (go_at_call 54; refine KE.out.mono ?_; rintro e w1 ⟨rfl, h1⟩; have B1 := Lib.hid h1; clear h1; obtain ⟨_, k1, x1'⟩ := CW2.out w1 B1.out; obtain ⟨x7, c7, w7, R7, v1, v2, Z7⟩ := PU.out 1 w1 B1.out; have x2' := ((allocBP w1 (.cells #[.int .i64 1] 3)).cell (p := ⟨ob, 1, none⟩) (cell_ltR x1')).trans x1') | (at_builtin; refine wp_app_runR rfl _ _ 23 rfl _ _ _ w7 rfl rfl R7.out ?_))
                go_meet
                case rel => rw [e1]; exact Z7.out.2.2
      case rest =>
        obtain ⟨x, c, ka', kc', hq⟩ := hcut
        obtain ⟨hbe, hkp⟩ := hq.out
        obtain ⟨_, _, ⟨u0, u1, u2⟩⟩ := CD.out _ _ _ _ _ _ hbe
        have f0 := hbe.rb.frozen 0
        have f1 := hbe.rb.frozen 1
        have f2 := hbe.rb.frozen 2
        obtain ⟨n0, n1, n2⟩ := box_3R hbe.rb
        have BW := Lib.hid hbe.bel
        have FX := Lib.hid (be_end hbe hkp)
        clear hbe hkp hq
        generalize hdd : dBe ⟨st, sl⟩ ⟨(k : Int), (a : Int), b⟩ = dd at *
        have DE := Lib.hid hdd
        clear hdd
        go_wp2
        refine bodyPost_ret (v := .agg #[.bool true, .slice x dd.st.length c, .slice ka' dd.sl.length kc']) ?r rfl ?s
        case r => simp [results, Tryd.results33, go_sem, n0, n1, n2, f0, f1, f2]
        case s =>
          rw [DE.out]
          refine FX.out _ ?fxb ?fxc
          case fxb => exact ((BW.out.setCell (Nat.le_add_right w.heap.size 2) _).setCell (Nat.le_add_right w.heap.size 2) _).setCell (Nat.le_add_right w.heap.size 2) _
          case fxc =>
            intro x hx
            rw [bk_blockG hx, bk_blockG hx, bk_blockG hx]
end Go.Proofs.YtjbbbejadhojlaaDoor
