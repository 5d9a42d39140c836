import Derived.Test.YtpfjnnkjoabgbaaGreatDoorXAO
namespace Go.Proofs.YtpfjnnkjoabgbaaGreatDoor
open Go.RowKit
set_option linter.unusedVariables false
set_option linter.unusedSimpArgs false
structure MeetE (w : World) (B : Nat) (G : Tg) (x tb : Nat) (s : Vs) (g : Nat → Nat) (e : Ending) (w' : World) : Prop where
  ret : e = .returned (.tuple #[])
  gro : w.grownBy w' (some x)
  sta : ∃ ps, SvR w' B G x tb ps ⟨s.st, vMeet s.sl g⟩
def psL2 (ps : Nat → Option Nat) : List Value := (List.range 16).map (fun j => ptN (ps j))
theorem slots_info : (Tryz.prog.info? 99).map (·.size) = some 16 := by kernel_rfl
theorem range_st {W : World} {x tb h : Nat} {ps : Nat → Option Nat} (hb : BkP W x (stA tb h ps) 101) : W.rangeAt x 2 (psL2 ps) := by
  have hr := World.rangeAt_of_block hb 2 16
  have he : (stA tb h ps).extract 2 (2 + 16) = (psL2 ps).toArray := by
    apply Array.ext_getElem?
    intro k
    by_cases hk : k < 16
    · rw [Array.getElem?_extract]
      rw [if_pos (by rw [stA_size]; omega), stA_sh _ _ _ k hk]
      simp [psL2, hk]
    · rw [Array.getElem?_eq_none (by simp [stA_size]; omega), Array.getElem?_eq_none (by simp [psL2]; omega)]
  rw [he] at hr
  exact hr
theorem range_ps {W : World} {x : Nat} {ps : Nat → Option Nat} (hb : BkP W x (psV ps) 99) : W.rangeAt x 0 (psL2 ps) := by
  have hr := World.rangeAt_of_block hb 0 16
  have he : (psV ps).extract 0 (0 + 16) = psV ps := by
    have : (psV ps).size = 16 := by simp [psV]
    simp only [Nat.zero_add]
    rw [← this, Array.extract_size]
  rw [he] at hr
  exact hr
theorem stA_setO (tb h : Nat) (ps : Nat → Option Nat) (j : Nat) (c : Option Nat) (hj : j < 16) : (stA tb h ps).set! (2 + j) (ptN c) = stA tb h (fun i => if i = j then c else ps i) := by
  apply Array.ext_getElem?
  intro k
  rw [Array.set!_eq_setIfInBounds, Array.getElem?_setIfInBounds]
  by_cases hk : k < 18
  · match k with
    | 0 => rw [if_neg (by omega), stA_top, stA_top]
    | 1 => rw [if_neg (by omega), stA_ht, stA_ht]
    | k + 2 =>
      rw [show k + 2 = 2 + k by omega, stA_sh _ _ _ k (by omega), stA_sh _ _ _ k (by omega), stA_size]
      by_cases e : k = j
      · subst e
        rw [if_pos rfl, if_pos (by omega), if_pos rfl]
      · rw [if_neg (by omega), if_neg e]
  · rw [if_neg (by omega), Array.getElem?_eq_none (by rw [stA_size]; omega), Array.getElem?_eq_none (by rw [stA_size]; omega)]
theorem meet_same {w : World} {B : Nat} {G : Tg} {x tb : Nat} {ps qs : Nat → Option Nat} {s : Vs} {g : Nat → Nat} (h : SvR w B G x tb ps s) (hq : SlR w B qs g) (e : ∀ k, k < 16 → ps k = qs k) : SvR w B G x tb ps ⟨s.st, vMeet s.sl g⟩ :=
  ⟨h.top, h.box, fun j hj => (h.slt j hj).congr (fun m hm => by
    show vMeet s.sl g (j * 1024 + m) = s.sl (j * 1024 + m)
    have k := hq j hj
    rw [← e j hj] at k
    unfold vMeet
    rw [if_pos ((h.slt j hj).same k m hm)]), h.low⟩
theorem meet_next {w wr W : World} {B : Nat} {G : Tg} {x tb : Nat} {ps qs pk : Nat → Option Nat} {s : Vs} {g : Nat → Nat} {k : Nat} {r : Option Nat} (h : SvR w B G x tb ps s) (hk : k < 16) (hX : BkP wr x (stA tb s.st.length pk) 101) (hP : RowKit.Hid (∀ j, j < k → PaR wr B (pk j) (fun m => vMeet s.sl g (j * 1024 + m)))) (hR : RowKit.Hid (∀ j, k ≤ j → pk j = ps j)) (hO : BkP wr w.heap.size (psV qs) 99) (hg : w.grownBy wr (some x)) (b : Below wr.heap.size wr W) (hr : PaR W B r (fun m => if s.sl (k * 1024 + m) = g (k * 1024 + m) then s.sl (k * 1024 + m) else 0)) :
    ∃ pk' : Nat → Option Nat, BkP (W.setCell ⟨x, 2 + k, none⟩ (ptN r)) x (stA tb s.st.length pk') 101 ∧ RowKit.Hid (∀ j, j < k + 1 → PaR (W.setCell ⟨x, 2 + k, none⟩ (ptN r)) B (pk' j) (fun m => vMeet s.sl g (j * 1024 + m))) ∧ RowKit.Hid (∀ j, k + 1 ≤ j → pk' j = ps j) ∧ BkP (W.setCell ⟨x, 2 + k, none⟩ (ptN r)) w.heap.size (psV qs) 99 ∧ w.grownBy (W.setCell ⟨x, 2 + k, none⟩ (ptN r)) (some x) := by
  have XW := hX.lat b
  have g1 := setCell_gr W x (2 + k) (ptN r)
  refine ⟨fun i => if i = k then r else pk i, ?_, ?_, ?_, ?_, ?_⟩
  · have := XW.set2 (2 + k) (ptN r) (by rw [stA_size]; omega)
    have e : (stA tb s.st.length pk).set! (2 + k) (ptN r) = stA tb s.st.length (fun i => if i = k then r else pk i) := stA_setO _ _ _ _ _ hk
    rw [e] at this
    exact this
  · intro j hj
    by_cases e : j = k
    · subst e
      simp only [if_pos]
      exact (hr.other g1 XW (by decide)).congr (fun m hm => rfl)
    · simp only [if_neg e]
      exact ((hP.out j (by omega)).later b).other g1 XW (by decide)
  · intro j hj
    simp only [if_neg (show ¬ j = k by omega)]
    exact hR.out j (by omega)
  · exact (hO.lat b).other x _ _ (by have := h.box.lt; omega)
  · exact gx_at (gx_bel hg b) _ _
theorem meet_end {w wr : World} {B : Nat} {G : Tg} {x tb : Nat} {ps pk : Nat → Option Nat} {s : Vs} {g : Nat → Nat} (h : SvR w B G x tb ps s) (hX : BkP wr x (stA tb s.st.length pk) 101) (hP : ∀ j, j < 16 → PaR wr B (pk j) (fun m => vMeet s.sl g (j * 1024 + m))) (hg : w.grownBy wr (some x)) : MeetE w B G x tb s g (.returned (.tuple #[])) wr :=
  ⟨rfl, hg, pk, ⟨h.top, hX, hP, h.low⟩⟩
set_option maxRecDepth 100000 in
set_option maxHeartbeats 4000000 in
theorem meet_any {w : World} {B : Nat} {G : Tg} {x tb : Nat} {ps qs : Nat → Option Nat} {s : Vs} {g : Nat → Nat} (h : SvR w B G x tb ps s) (hq : SlR w B qs g) (hB : B ≤ w.heap.size) :
    Calls Tryz.prog 136 #[.pointer (some ⟨x, 2, none⟩), .agg (psV qs)] w fun e w' => MeetE w B G x tb s g e w' := by
  have S1 := Lib.hid (p := (w.alloc (.cells (psV qs) 99)).rangeAt x 2 (psL2 ps) ∧ (w.alloc (.cells (psV qs) 99)).rangeAt w.heap.size 0 (psL2 qs)) ⟨range_st (h.box.lat (allocBP _ _)), range_ps (heapN _ _)⟩
  have hu : Tryz.prog.underlying 99 = some (.array 16 97) := by kernel_rfl
  have i0 : (Tryz.prog.info? 99).map (·.size) = some (psL2 ps).length := by rw [slots_info]; simp [psL2]
  have i1 : (Tryz.prog.info? 99).map (·.size) = some (psL2 qs).length := by rw [slots_info]; simp [psL2]
  have Q0 : ∀ W, (Below w.heap.size w W) → (Op.equalIn 10000 99 (.agg (psL2 ps).toArray) (.agg (psL2 qs).toArray)).run Tryz.prog W = _ := fun W b => eq_slots W ps qs (fun j hj c e => ((h.slt j hj).later b).blk c e) (fun j hj c e => ((hq j hj).later b).blk c e)
  have HX := Lib.hid h
  have HQ := Lib.hid hq
  have HB := Lib.hid hB
  clear h hq hB
  go_enter Tryz.func136, Tryz.ntmps136
  go_wp2
  cases q0 : (List.range 16).all (fun j => decide (ps j = qs j)) with
  | true =>
    simp only [q0] at Q0
    have EE := slots_eq q0
    have E := Lib.hid (meet_same HX.out HQ.out EE)
    clear q0 EE
    refine wp_region_held_drew (S := fun W => W.rangeAt x 2 (psL2 ps) ∧ W.rangeAt w.heap.size 0 (psL2 qs) ∧ Below w.heap.size w W) (by kernel_rfl) ?_ (fun hHeld => ?_)
    · exact ⟨S1.out.1, S1.out.2, (allocBP _ _).drew⟩
    refine wpAnyH_take (i := 0) (oi := { dst := some 5, op := Op.move (Operand.tmp 0), type := 178, pos := "slots.go:64", after := #[], guard := none }) (v := ?_) rfl (by kernel_rfl) (by kernel_rfl) (by kernel_rfl) (fun _ _ _ h => h) (Or.inl ⟨by rfl, ?_⟩) (by assumption) ?_
    rotate_left 1
    · intro w' hSw; go_simp; try with_reducible rfl
    (try simp only [Act.put, List.setIfInBounds_toArray, List.set_cons_zero, List.set_cons_succ])
    refine wpAnyH_take (i := 1) (oi := { dst := some 6, op := Op.nilCheck (Operand.tmp 5), type := 0, pos := "slots.go:64", after := #[{ on := 0, ground := Ground.data }], guard := none }) (v := ?_) rfl (by kernel_rfl) (by kernel_rfl) (by kernel_rfl) (fun _ _ _ h => h) (Or.inl ⟨by rfl, ?_⟩) (by assumption) ?_
    rotate_left 1
    · intro w' hSw; go_simp; try with_reducible rfl
    (try simp only [Act.put, List.setIfInBounds_toArray, List.set_cons_zero, List.set_cons_succ])
    refine wpAnyH_take (i := 2) (oi := { dst := some 7, op := Op.load 99 (Operand.tmp 6), type := 99, pos := "slots.go:64", after := #[{ on := 1, ground := Ground.data }], guard := none }) (v := _) rfl (by kernel_rfl) (by kernel_rfl) (by kernel_rfl) (fun _ _ _ h => h) (yieldsIf_load_mid (by rfl) _ _ rfl _ _ rfl _ _ (fun W h => h.1) hu rfl i0) (by assumption) ?_
    (try simp only [Act.put, List.setIfInBounds_toArray, List.set_cons_zero, List.set_cons_succ])
    refine wpAnyH_take (i := 3) (oi := { dst := some 8, op := Op.load 99 (Operand.tmp 3), type := 99, pos := "slots.go:64", after := #[], guard := none }) (v := _) rfl (by kernel_rfl) (by kernel_rfl) (by kernel_rfl) (fun _ _ _ h => h) (yieldsIf_load_mid (by rfl) _ _ rfl _ _ rfl _ _ (fun W h => h.2.1) hu rfl i1) (by assumption) ?_
    (try simp only [Act.put, List.setIfInBounds_toArray, List.set_cons_zero, List.set_cons_succ])
    refine wpAnyH_take (i := 4) (oi := { dst := some 9, op := Op.binOp BinOp.eql 99 (Operand.tmp 7) (Operand.tmp 8) 99, type := 4, pos := "slots.go:64", after := #[{ on := 2, ground := Ground.data }, { on := 3, ground := Ground.data }], guard := none }) (v := ?_) rfl (by kernel_rfl) (by kernel_rfl) (by kernel_rfl) (fun _ _ _ h => h) (Or.inl ⟨by rfl, ?_⟩) (by assumption) ?_
    rotate_left 1
    · intro w' hSw; have qq := Q0 w' hSw.2.2; go_simp; try with_reducible rfl
    (try simp only [Act.put, List.setIfInBounds_toArray, List.set_cons_zero, List.set_cons_succ])
    refine wpAnyH_done (by kernel_rfl) ?_ _
    clear hHeld
    go_wp2
    refine bodyPost_ret (results_none rfl _ _ _) rfl ?_
    exact ⟨rfl, gx_drew (gx_alloc (gx_refl _ _) _), ps, (E.out.later (allocBP _ _)).later (drew1B _)⟩
  | false =>
    simp only [q0] at Q0
    clear q0
    refine wp_region_held_drew (S := fun W => W.rangeAt x 2 (psL2 ps) ∧ W.rangeAt w.heap.size 0 (psL2 qs) ∧ Below w.heap.size w W) (by kernel_rfl) ?_ (fun hHeld => ?_)
    · exact ⟨S1.out.1, S1.out.2, (allocBP _ _).drew⟩
    refine wpAnyH_take (i := 0) (oi := { dst := some 5, op := Op.move (Operand.tmp 0), type := 178, pos := "slots.go:64", after := #[], guard := none }) (v := ?_) rfl (by kernel_rfl) (by kernel_rfl) (by kernel_rfl) (fun _ _ _ h => h) (Or.inl ⟨by rfl, ?_⟩) (by assumption) ?_
    rotate_left 1
    · intro w' hSw; go_simp; try with_reducible rfl
    (try simp only [Act.put, List.setIfInBounds_toArray, List.set_cons_zero, List.set_cons_succ])
    refine wpAnyH_take (i := 1) (oi := { dst := some 6, op := Op.nilCheck (Operand.tmp 5), type := 0, pos := "slots.go:64", after := #[{ on := 0, ground := Ground.data }], guard := none }) (v := ?_) rfl (by kernel_rfl) (by kernel_rfl) (by kernel_rfl) (fun _ _ _ h => h) (Or.inl ⟨by rfl, ?_⟩) (by assumption) ?_
    rotate_left 1
    · intro w' hSw; go_simp; try with_reducible rfl
    (try simp only [Act.put, List.setIfInBounds_toArray, List.set_cons_zero, List.set_cons_succ])
    refine wpAnyH_take (i := 2) (oi := { dst := some 7, op := Op.load 99 (Operand.tmp 6), type := 99, pos := "slots.go:64", after := #[{ on := 1, ground := Ground.data }], guard := none }) (v := _) rfl (by kernel_rfl) (by kernel_rfl) (by kernel_rfl) (fun _ _ _ h => h) (yieldsIf_load_mid (by rfl) _ _ rfl _ _ rfl _ _ (fun W h => h.1) hu rfl i0) (by assumption) ?_
    (try simp only [Act.put, List.setIfInBounds_toArray, List.set_cons_zero, List.set_cons_succ])
    refine wpAnyH_take (i := 3) (oi := { dst := some 8, op := Op.load 99 (Operand.tmp 3), type := 99, pos := "slots.go:64", after := #[], guard := none }) (v := _) rfl (by kernel_rfl) (by kernel_rfl) (by kernel_rfl) (fun _ _ _ h => h) (yieldsIf_load_mid (by rfl) _ _ rfl _ _ rfl _ _ (fun W h => h.2.1) hu rfl i1) (by assumption) ?_
    (try simp only [Act.put, List.setIfInBounds_toArray, List.set_cons_zero, List.set_cons_succ])
    refine wpAnyH_take (i := 4) (oi := { dst := some 9, op := Op.binOp BinOp.eql 99 (Operand.tmp 7) (Operand.tmp 8) 99, type := 4, pos := "slots.go:64", after := #[{ on := 2, ground := Ground.data }, { on := 3, ground := Ground.data }], guard := none }) (v := ?_) rfl (by kernel_rfl) (by kernel_rfl) (by kernel_rfl) (fun _ _ _ h => h) (Or.inl ⟨by rfl, ?_⟩) (by assumption) ?_
    rotate_left 1
    · intro w' hSw; have qq := Q0 w' hSw.2.2; go_simp; try with_reducible rfl
    (try simp only [Act.put, List.setIfInBounds_toArray, List.set_cons_zero, List.set_cons_succ])
    refine wpAnyH_done (by kernel_rfl) ?_ _
    clear hHeld
    clear Q0 i0 i1 hu S1
    go_wp2
    go_loopw [10] (fun t wr => ∃ (k : Nat) (pk : Nat → Option Nat), k ≤ 16 ∧ t = .int .i64 (k : Int) ∧ BkP wr x (stA tb s.st.length pk) 101 ∧ RowKit.Hid (∀ j, j < k → PaR wr B (pk j) (fun m => vMeet s.sl g (j * 1024 + m))) ∧ RowKit.Hid (∀ j, k ≤ j → pk j = ps j) ∧ BkP wr w.heap.size (psV qs) 99 ∧ w.grownBy wr (some x)) (fun t _ => 16 - (intOf t).toNat)
    case atStart =>
      exact ⟨0, ps, by omega, rfl, (HX.out.box.lat (allocBP _ _)).lat (drew1B _), (fun j hj => absurd hj (by omega)), (fun j _ => rfl), BkP.lat (heapN _ _) (drew1B _), gx_drew (gx_alloc (gx_refl _ _) _)⟩
    case round =>
      rename World => wr
      obtain ⟨k, pk, hk, rfl, hX, hP, hR, hO, hg⟩ := hrel
      by_cases hlt : k < 16
      · have kc : (k : Int) < 16 := by omega
        have kn : ¬ (k : Int) < 0 := by omega
        have ks : IntKind.i64.wrap ((k : Int) + 1) = (k : Int) + 1 := by simp [IntKind.wrap, IntKind.bits, IntKind.signed]; omega
        have p1 := (HX.out.slt k hlt).other hg HX.out.box (by decide)
        have p2 := (HQ.out k hlt).other hg HX.out.box (by decide)
        have c0 := hX.cell (2 + k)
        have c1 := hO.cell k
        have c2 := (hX.lat (drew1B wr)).cell (2 + k)
        have c3 := (hO.lat (drew1B wr)).cell k
        rw [stA_sh _ _ _ _ hlt, hR.out k (Nat.le_refl _)] at c0 c2
        rw [psV_at _ _ hlt] at c1 c3
        have KC := Lib.hid (p := ∀ W, Below wr.heap.size wr W → Calls Tryz.prog 149 #[ptN (ps k), ptN (qs k)] W fun e w' => ∃ r, e = .returned (ptN r) ∧ PaR w' B r (fun m => if s.sl (k * 1024 + m) = g (k * 1024 + m) then s.sl (k * 1024 + m) else 0) ∧ Below wr.heap.size wr w') (fun W b => (common_any (p1.later b) (p2.later b) (Nat.le_trans HB.out (Nat.le_trans hg.size b.size))).mono (fun e w' h => ⟨h.ret.choose, h.ret.choose_spec.1, h.ret.choose_spec.2, b.trans (h.bel.mono b.size)⟩))
        have MK := Lib.hid (fun W r (b : Below wr.heap.size wr W) (hr : PaR W B r (fun m => if s.sl (k * 1024 + m) = g (k * 1024 + m) then s.sl (k * 1024 + m) else 0)) => meet_next HX.out hlt hX hP hR hO hg b hr)
        have XL := Lib.hid (fun W (b : Below wr.heap.size wr W) => hX.lat b)
        generalize hp : ps k = p at *
        generalize hq : qs k = q at *
        clear hp hq p1 p2 hX hP hR hO hg
        unfold ptN at c0 c1 c2 c3 KC
        generalize Option.map (fun x => (⟨x, 0, none⟩ : Addr)) p = pa at *
        generalize Option.map (fun x => (⟨x, 0, none⟩ : Addr)) q = qa at *
        go_wp2
        go_region_with (go_at_call 149; refine (KC.out _ (by first | exact Below.refl _ _ | exact drew1B _ | exact (drew1B _).trans (drew1B _))).mono ?_; rintro e w3 ⟨r, rfl, hr, hb⟩; have c4 := (XL.out w3 hb).cell (2 + k); rw [stA_sh _ _ _ _ hlt] at c4; have f4 := (XL.out w3 hb).frozen (2 + k); have M := Lib.hid (MK.out w3 r hb hr); clear hr hb; unfold ptN at M; generalize Option.map (fun x => (⟨x, 0, none⟩ : Addr)) r = ra at *)
        all_goals
          go_wp2
          obtain ⟨pk', m1, m2, m3, m4, m5⟩ := M.out
          first
            | exact ⟨⟨k + 1, pk', by omega, by go_num, m1, m2, m3, m4, m5⟩, by simp [intOf]; omega⟩
            | exact ⟨⟨k + 1, pk', by omega, by go_num, m1.lat (drew1B _), fun j hj => (m2.out j hj).later (drew1B _), m3, m4.lat (drew1B _), gx_drew m5⟩, by simp [intOf]; omega⟩
      · obtain rfl : k = 16 := by omega
        have E := Lib.hid (meet_end HX.out hX hP.out hg)
        clear hX hP hR hO hg
        go_wp2
        go_end0
        exact E.out
end Go.Proofs.YtpfjnnkjoabgbaaGreatDoor
