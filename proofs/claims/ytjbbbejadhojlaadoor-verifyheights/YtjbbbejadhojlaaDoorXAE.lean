import Derived.Test.YtjbbbejadhojlaaDoorXAD
namespace Go.Proofs.YtjbbbejadhojlaaDoor
open Go.RowKit
set_option linter.unusedVariables false
set_option linter.unusedSimpArgs false
def shL (sh : Nat → Nat) : List Value := (List.range 32).map (fun k => Value.int .u64 ((sh k : Nat) : Int))
theorem shL_len (sh : Nat → Nat) : (Tryd.prog.info? 132).map (·.size) = some (shL sh).length := by rw [sh_info]; simp [shL]
theorem range_sh {W : World} {b : Nat} {sh : Nat → Nat} (hb : BkP W b (shA sh) 132) : W.rangeAt b 0 (shL sh) := by
  have hr := World.rangeAt_of_block hb 0 32
  have he : (shA sh).extract 0 (0 + 32) = shA sh := by
    have := shA_size sh
    simp only [Nat.zero_add]
    rw [← this, Array.extract_size]
  rw [he] at hr
  exact hr
def cellsS (b k : Nat) (a : Nat → Nat) (W : World) : Prop := W.cell? ⟨b, k * 2, none⟩ = some (.int .u64 ((a (k * 2) : Nat) : Int)) ∧ W.cell? ⟨b, k * 2 + 1, none⟩ = some (.int .u64 ((a (k * 2 + 1) : Nat) : Int))
theorem cells_of {W : World} {b0 b1 k : Nat} {a b : Nat → Nat} (hk : k < 16) (ha : ShR W b0 a) (hb : ShR W b1 b) : cellsS b0 k a W ∧ cellsS b1 k b W := by
  refine ⟨⟨?_, ?_⟩, ?_, ?_⟩
  · rw [ha.box.cell, shA_at _ _ (by omega)]
  · rw [ha.box.cell, shA_at _ _ (by omega)]
  · rw [hb.box.cell, shA_at _ _ (by omega)]
  · rw [hb.box.cell, shA_at _ _ (by omega)]
set_option maxRecDepth 100000 in
set_option maxHeartbeats 4000000 in
theorem common_hard {w : World} {B : Nat} {b0 b1 : Nat} {a b : Nat → Nat} {f g : Nat → Nat} (hn : b0 ≠ b1) (l0 : B ≤ b0) (l1 : B ≤ b1) (ha : ShR w b0 a) (hb : ShR w b1 b) (hf : ∀ m, m < 1024 → f m = bitS a m) (hg : ∀ m, m < 1024 → g m = bitS b m) (hB : B ≤ w.heap.size) :
    Calls Tryd.prog 79 #[ptN (some b0), ptN (some b1)] w fun e w' => ComE w B f g e w' := by
  obtain ⟨i, hi⟩ := sheet_info2
  have E0 := eq_ptr (P := Tryd.prog) (w := w) (d := 9999) (t := 57) (te := 132) (i := i) (by kernel_rfl) hi (by rw [show Tryd.prog.cellsOf 132 = 32 by kernel_rfl]; decide) (some b0) (some b1) (by intro x e; injection e with e; subst e; exact ⟨_, _, ha.box⟩) (by intro x e; injection e with e; subst e; exact ⟨_, _, hb.box⟩)
  simp only [Nat.reduceAdd] at E0
  have E1 := bin_ptr E0
  have d0 : decide (some b0 = some b1) = false := by simpa using hn
  rw [d0] at E1
  have HA := Lib.hid (fun W (k : Below w.heap.size w W) => ha.later k)
  have HB := Lib.hid (fun W (k : Below w.heap.size w W) => hb.later k)
  have LA := Lib.hid (ha.box.lt)
  have LB := Lib.hid (hb.box.lt)
  have FF := Lib.hid (p := ∀ m, m < 1024 → (if f m = g m then f m else 0) = bitS (shI a b) m) (fun m hm => by rw [hf m hm, hg m hm, bitS_and ⟨ha.sz, ha.ap⟩ ⟨hb.sz, hb.ap⟩ m hm])
  have OK := Lib.hid (shI_ok ⟨ha.sz, ha.ap⟩ ⟨hb.sz, hb.ap⟩)
  have ZA := Lib.hid ha.sz
  have ZB := Lib.hid hb.sz
  have LL := Lib.hid (p := B ≤ b0 ∧ B ≤ b1 ∧ B ≤ w.heap.size) ⟨l0, l1, hB⟩
  clear d0 E0 ha hb hf hg hi l0 l1 hB hn
  simp only [ptN, Option.map_some] at *
  go_enter Tryd.func79, Tryd.ntmps79
  go_wp2_with (with_reducible show wpList _ _ _ (Oper.mk _ (Op.alloc 132) _ _ _ _ :: _) _ _; refine alloc_sh rfl rfl ?_)
  clear E1
  go_loopw [18] (fun t wr => ∃ k : Nat, k ≤ 16 ∧ t = .int .i64 (k : Int) ∧ BkP wr w.heap.size (shA (shK a b k)) 132 ∧ Below w.heap.size w wr) (fun t _ => 16 - (intOf t).toNat)
  case atStart =>
    refine ⟨0, by omega, rfl, ?_, allocBP _ _⟩
    have : shA (shK a b 0) = shA (fun _ => 0) := by
      unfold shA shK
      simp
    rw [this]
    exact heapN _ _
  case round =>
    rename World => wr
    obtain ⟨k, hk, rfl, hC, hbel⟩ := hrel
    by_cases hlt : k < 16
    · have kc : (k : Int) < 16 := by omega
      have kn : ¬ (k : Int) < 0 := by omega
      have ks : IntKind.i64.wrap ((k : Int) + 1) = (k : Int) + 1 := by simp [IntKind.wrap, IntKind.bits, IntKind.signed]; omega
      have a0 := (HA.out wr hbel).box.cell (k * 2)
      have a1 := (HA.out wr hbel).box.cell (k * 2 + 1)
      have b0' := (HB.out wr hbel).box.cell (k * 2)
      have b1' := (HB.out wr hbel).box.cell (k * 2 + 1)
      rw [shA_at _ _ (by omega)] at a0 a1 b0' b1'
      have n0 := and_bits (a (k * 2)) (b (k * 2)) (ZA.out _) (ZB.out _)
      have n1 := and_bits (a (k * 2 + 1)) (b (k * 2 + 1)) (ZA.out _) (ZB.out _)
      have CC := Lib.hid hC
      have BB := Lib.hid hbel
      have SS := Lib.hid (p := cellsS b0 k a wr ∧ cellsS b1 k b wr) ⟨⟨a0, a1⟩, b0', b1'⟩
      have dc := hC.cell (k * 2)
      have df := hC.frozen (k * 2)
      rw [shA_at _ _ (by omega)] at dc
      have D2 := hC.set2 (k * 2) (.int .u64 ((a (k * 2) &&& b (k * 2) : Nat) : Int)) (by rw [shA_size]; omega)
      have ec : ∃ z, (wr.setCell ⟨w.heap.size, k * 2, none⟩ (.int .u64 ((a (k * 2) &&& b (k * 2) : Nat) : Int))).cell? ⟨w.heap.size, k * 2 + 1, none⟩ = some z := by
        rw [D2.cell]
        exact ⟨_, Array.getElem?_eq_getElem (by simp [shA]; omega)⟩
      obtain ⟨z, ec⟩ := ec
      have ef := D2.frozen (k * 2 + 1)
      have D3 := D2.set2 (k * 2 + 1) (.int .u64 ((a (k * 2 + 1) &&& b (k * 2 + 1) : Nat) : Int)) (by simp [shA]; omega)
      rw [shK_next a b k hlt] at D3
      have DD := Lib.hid D3
      have GG := Lib.hid (p := Below w.heap.size w ((wr.setCell ⟨w.heap.size, k * 2, none⟩ (.int .u64 ((a (k * 2) &&& b (k * 2) : Nat) : Int))).setCell ⟨w.heap.size, k * 2 + 1, none⟩ (.int .u64 ((a (k * 2 + 1) &&& b (k * 2 + 1) : Nat) : Int)))) ((hbel.setCell (p := ⟨w.heap.size, k * 2, none⟩) (Nat.le_refl _) _).setCell (p := ⟨w.heap.size, k * 2 + 1, none⟩) (Nat.le_refl _) _)
      have S2 := Lib.hid (cells_of hlt (HA.out _ GG.out) (HB.out _ GG.out))
      clear hC hbel D2 D3
      generalize a (k * 2) &&& b (k * 2) = u0 at *
      generalize a (k * 2 + 1) &&& b (k * 2 + 1) = u1 at *
      go_wp2
      go_region_held3 (fun W => (W.cell? ⟨b0, k * 2, none⟩ = some (.int .u64 ((a (k * 2) : Nat) : Int)) ∧ W.cell? ⟨b0, k * 2 + 1, none⟩ = some (.int .u64 ((a (k * 2 + 1) : Nat) : Int))) ∧ W.cell? ⟨b1, k * 2, none⟩ = some (.int .u64 ((b (k * 2) : Nat) : Int)) ∧ W.cell? ⟨b1, k * 2 + 1, none⟩ = some (.int .u64 ((b (k * 2 + 1) : Nat) : Int)))
        (first | exact SS.out | exact S2.out)
        (fail)
      go_wp2
      exact ⟨⟨k + 1, by omega, by go_num, DD.out.lat (drew1B _), GG.out.drew⟩, by simp [intOf]; omega⟩
    · obtain rfl : k = 16 := by omega
      rw [shK_end] at hC
      have CC := Lib.hid hC
      have BB := Lib.hid hbel
      have S1 := Lib.hid (p := wr.rangeAt w.heap.size 0 (shL (shI a b)) ∧ wr.rangeAt b0 0 (shL a) ∧ wr.rangeAt b1 0 (shL b)) ⟨range_sh hC, range_sh (HA.out wr hbel).box, range_sh (HB.out wr hbel).box⟩
      have S2 := Lib.hid (p := wr.drew.rangeAt w.heap.size 0 (shL (shI a b)) ∧ wr.drew.rangeAt b0 0 (shL a) ∧ wr.drew.rangeAt b1 0 (shL b)) ⟨range_sh (hC.lat (drew1B _)), range_sh (HA.out wr.drew hbel.drew).box, range_sh (HB.out wr.drew hbel.drew).box⟩
      have hu : Tryd.prog.underlying 132 = some (.array 16 130) := by kernel_rfl
      have i0 := shL_len (shI a b)
      have i1 := shL_len a
      have i2 := shL_len b
      have Q0 : ∀ W, (Op.equalIn 10000 132 (.agg (shL (shI a b)).toArray) (.agg (shL a).toArray)).run Tryd.prog W = _ := fun W => eq_sheet W (shI a b) a
      have Q1 : ∀ W, (Op.equalIn 10000 132 (.agg (shL (shI a b)).toArray) (.agg (shL b).toArray)).run Tryd.prog W = _ := fun W => eq_sheet W (shI a b) b
      clear hC hbel
      cases q0 : (List.range 16).all (fun j => ((shI a b (j * 2) : Int) == (a (j * 2) : Int)) && ((shI a b (j * 2 + 1) : Int) == (a (j * 2 + 1) : Int))) with
      | true =>
        simp only [q0] at Q0
        have RR := Lib.hid (sheet_eq q0)
        clear q0 Q1
        go_wp2
        refine wp_region_held_drew (S := fun W => W.rangeAt w.heap.size 0 (shL (shI a b)) ∧ W.rangeAt b0 0 (shL a) ∧ W.rangeAt b1 0 (shL b)) (by kernel_rfl) ?_ (fun hHeld => ?_)
        · exact S1.out
        refine wpAnyH_take (i := 0) (oi := { dst := some 51, op := Op.load 132 (Operand.tmp 5), type := 132, pos := "slots.go:85", after := #[], guard := none }) (v := _) rfl (by kernel_rfl) (by kernel_rfl) (by kernel_rfl) (fun _ _ _ h => h) (yieldsIf_load_mid (by rfl) _ _ rfl _ _ rfl _ _ (fun W h => h.1) hu rfl i0) (by assumption) ?_
        (try simp only [Act.put, List.setIfInBounds_toArray, List.set_cons_zero, List.set_cons_succ])
        refine wpAnyH_take (i := 1) (oi := { dst := some 52, op := Op.move (Operand.tmp 0), type := 57, pos := "slots.go:85", after := #[], guard := none }) (v := ?_) rfl (by kernel_rfl) (by kernel_rfl) (by kernel_rfl) (fun _ _ _ h => h) (Or.inl ⟨by rfl, ?_⟩) (by assumption) ?_
        rotate_left 1
        · intro w' hSw; go_simp; try with_reducible rfl
        (try simp only [Act.put, List.setIfInBounds_toArray, List.set_cons_zero, List.set_cons_succ])
        refine wpAnyH_take (i := 2) (oi := { dst := some 53, op := Op.nilCheck (Operand.tmp 52), type := 0, pos := "slots.go:85", after := #[{ on := 1, ground := Ground.data }], guard := none }) (v := ?_) rfl (by kernel_rfl) (by kernel_rfl) (by kernel_rfl) (fun _ _ _ h => h) (Or.inl ⟨by rfl, ?_⟩) (by assumption) ?_
        rotate_left 1
        · intro w' hSw; go_simp; try with_reducible rfl
        (try simp only [Act.put, List.setIfInBounds_toArray, List.set_cons_zero, List.set_cons_succ])
        refine wpAnyH_take (i := 3) (oi := { dst := some 54, op := Op.load 132 (Operand.tmp 53), type := 132, pos := "slots.go:85", after := #[{ on := 2, ground := Ground.data }], guard := none }) (v := _) rfl (by kernel_rfl) (by kernel_rfl) (by kernel_rfl) (fun _ _ _ h => h) (yieldsIf_load_mid (by rfl) _ _ rfl _ _ rfl _ _ (fun W h => h.2.1) hu rfl i1) (by assumption) ?_
        (try simp only [Act.put, List.setIfInBounds_toArray, List.set_cons_zero, List.set_cons_succ])
        refine wpAnyH_take (i := 4) (oi := { dst := some 55, op := Op.binOp BinOp.eql 132 (Operand.tmp 51) (Operand.tmp 54) 132, type := 4, pos := "slots.go:85", after := #[{ on := 0, ground := Ground.data }, { on := 3, ground := Ground.data }], guard := none }) (v := ?_) rfl (by kernel_rfl) (by kernel_rfl) (by kernel_rfl) (fun _ _ _ h => h) (Or.inl ⟨by rfl, ?_⟩) (by assumption) ?_
        rotate_left 1
        · intro w' hSw; go_simp; try with_reducible rfl
        (try simp only [Act.put, List.setIfInBounds_toArray, List.set_cons_zero, List.set_cons_succ])
        refine wpAnyH_done (by kernel_rfl) ?_ _
        clear hHeld
        go_wp2
        go_ret
        exact ⟨⟨some b0, rfl, .inr ⟨b0, a, rfl, LL.out.1, HA.out _ BB.out.drew, fun m hm => (FF.out m hm).trans (bitS_congr RR.out m hm)⟩⟩, BB.out.drew⟩
      | false =>
        simp only [q0] at Q0
        clear q0
        cases q1 : (List.range 16).all (fun j => ((shI a b (j * 2) : Int) == (b (j * 2) : Int)) && ((shI a b (j * 2 + 1) : Int) == (b (j * 2 + 1) : Int))) with
        | true =>
          simp only [q1] at Q1
          have RR := Lib.hid (sheet_eq q1)
          clear q1
          go_wp2
          refine wp_region_held_drew (S := fun W => W.rangeAt w.heap.size 0 (shL (shI a b)) ∧ W.rangeAt b0 0 (shL a) ∧ W.rangeAt b1 0 (shL b)) (by kernel_rfl) ?_ (fun hHeld => ?_)
          · exact S1.out
          refine wpAnyH_take (i := 0) (oi := { dst := some 51, op := Op.load 132 (Operand.tmp 5), type := 132, pos := "slots.go:85", after := #[], guard := none }) (v := _) rfl (by kernel_rfl) (by kernel_rfl) (by kernel_rfl) (fun _ _ _ h => h) (yieldsIf_load_mid (by rfl) _ _ rfl _ _ rfl _ _ (fun W h => h.1) hu rfl i0) (by assumption) ?_
          (try simp only [Act.put, List.setIfInBounds_toArray, List.set_cons_zero, List.set_cons_succ])
          refine wpAnyH_take (i := 1) (oi := { dst := some 52, op := Op.move (Operand.tmp 0), type := 57, pos := "slots.go:85", after := #[], guard := none }) (v := ?_) rfl (by kernel_rfl) (by kernel_rfl) (by kernel_rfl) (fun _ _ _ h => h) (Or.inl ⟨by rfl, ?_⟩) (by assumption) ?_
          rotate_left 1
          · intro w' hSw; go_simp; try with_reducible rfl
          (try simp only [Act.put, List.setIfInBounds_toArray, List.set_cons_zero, List.set_cons_succ])
          refine wpAnyH_take (i := 2) (oi := { dst := some 53, op := Op.nilCheck (Operand.tmp 52), type := 0, pos := "slots.go:85", after := #[{ on := 1, ground := Ground.data }], guard := none }) (v := ?_) rfl (by kernel_rfl) (by kernel_rfl) (by kernel_rfl) (fun _ _ _ h => h) (Or.inl ⟨by rfl, ?_⟩) (by assumption) ?_
          rotate_left 1
          · intro w' hSw; go_simp; try with_reducible rfl
          (try simp only [Act.put, List.setIfInBounds_toArray, List.set_cons_zero, List.set_cons_succ])
          refine wpAnyH_take (i := 3) (oi := { dst := some 54, op := Op.load 132 (Operand.tmp 53), type := 132, pos := "slots.go:85", after := #[{ on := 2, ground := Ground.data }], guard := none }) (v := _) rfl (by kernel_rfl) (by kernel_rfl) (by kernel_rfl) (fun _ _ _ h => h) (yieldsIf_load_mid (by rfl) _ _ rfl _ _ rfl _ _ (fun W h => h.2.1) hu rfl i1) (by assumption) ?_
          (try simp only [Act.put, List.setIfInBounds_toArray, List.set_cons_zero, List.set_cons_succ])
          refine wpAnyH_take (i := 4) (oi := { dst := some 55, op := Op.binOp BinOp.eql 132 (Operand.tmp 51) (Operand.tmp 54) 132, type := 4, pos := "slots.go:85", after := #[{ on := 0, ground := Ground.data }, { on := 3, ground := Ground.data }], guard := none }) (v := ?_) rfl (by kernel_rfl) (by kernel_rfl) (by kernel_rfl) (fun _ _ _ h => h) (Or.inl ⟨by rfl, ?_⟩) (by assumption) ?_
          rotate_left 1
          · intro w' hSw; go_simp; try with_reducible rfl
          (try simp only [Act.put, List.setIfInBounds_toArray, List.set_cons_zero, List.set_cons_succ])
          refine wpAnyH_done (by kernel_rfl) ?_ _
          clear hHeld
          go_wp2
          refine wp_region_held_drew (S := fun W => W.rangeAt w.heap.size 0 (shL (shI a b)) ∧ W.rangeAt b0 0 (shL a) ∧ W.rangeAt b1 0 (shL b)) (by kernel_rfl) ?_ (fun hHeld => ?_)
          · exact S2.out
          refine wpAnyH_take (i := 0) (oi := { dst := some 57, op := Op.load 132 (Operand.tmp 5), type := 132, pos := "slots.go:88", after := #[], guard := none }) (v := _) rfl (by kernel_rfl) (by kernel_rfl) (by kernel_rfl) (fun _ _ _ h => h) (yieldsIf_load_mid (by rfl) _ _ rfl _ _ rfl _ _ (fun W h => h.1) hu rfl i0) (by assumption) ?_
          (try simp only [Act.put, List.setIfInBounds_toArray, List.set_cons_zero, List.set_cons_succ])
          refine wpAnyH_take (i := 1) (oi := { dst := some 58, op := Op.move (Operand.tmp 1), type := 57, pos := "slots.go:88", after := #[], guard := none }) (v := ?_) rfl (by kernel_rfl) (by kernel_rfl) (by kernel_rfl) (fun _ _ _ h => h) (Or.inl ⟨by rfl, ?_⟩) (by assumption) ?_
          rotate_left 1
          · intro w' hSw; go_simp; try with_reducible rfl
          (try simp only [Act.put, List.setIfInBounds_toArray, List.set_cons_zero, List.set_cons_succ])
          refine wpAnyH_take (i := 2) (oi := { dst := some 59, op := Op.nilCheck (Operand.tmp 58), type := 0, pos := "slots.go:88", after := #[{ on := 1, ground := Ground.data }], guard := none }) (v := ?_) rfl (by kernel_rfl) (by kernel_rfl) (by kernel_rfl) (fun _ _ _ h => h) (Or.inl ⟨by rfl, ?_⟩) (by assumption) ?_
          rotate_left 1
          · intro w' hSw; go_simp; try with_reducible rfl
          (try simp only [Act.put, List.setIfInBounds_toArray, List.set_cons_zero, List.set_cons_succ])
          refine wpAnyH_take (i := 3) (oi := { dst := some 60, op := Op.load 132 (Operand.tmp 59), type := 132, pos := "slots.go:88", after := #[{ on := 2, ground := Ground.data }], guard := none }) (v := _) rfl (by kernel_rfl) (by kernel_rfl) (by kernel_rfl) (fun _ _ _ h => h) (yieldsIf_load_mid (by rfl) _ _ rfl _ _ rfl _ _ (fun W h => h.2.2) hu rfl i2) (by assumption) ?_
          (try simp only [Act.put, List.setIfInBounds_toArray, List.set_cons_zero, List.set_cons_succ])
          refine wpAnyH_take (i := 4) (oi := { dst := some 61, op := Op.binOp BinOp.eql 132 (Operand.tmp 57) (Operand.tmp 60) 132, type := 4, pos := "slots.go:88", after := #[{ on := 0, ground := Ground.data }, { on := 3, ground := Ground.data }], guard := none }) (v := ?_) rfl (by kernel_rfl) (by kernel_rfl) (by kernel_rfl) (fun _ _ _ h => h) (Or.inl ⟨by rfl, ?_⟩) (by assumption) ?_
          rotate_left 1
          · intro w' hSw; go_simp; try with_reducible rfl
          (try simp only [Act.put, List.setIfInBounds_toArray, List.set_cons_zero, List.set_cons_succ])
          refine wpAnyH_done (by kernel_rfl) ?_ _
          clear hHeld
          go_wp2
          go_ret
          exact ⟨⟨some b1, rfl, .inr ⟨b1, b, rfl, LL.out.2.1, HB.out _ BB.out.drew.drew, fun m hm => (FF.out m hm).trans (bitS_congr RR.out m hm)⟩⟩, BB.out.drew.drew⟩
        | false =>
          simp only [q1] at Q1
          clear q1
          have C2 := Lib.hid (p := BkP wr.drew.drew w.heap.size (shA (shI a b)) 132) ((CC.out.lat (drew1B _)).lat (drew1B _))
          go_wp2
          refine wp_region_held_drew (S := fun W => W.rangeAt w.heap.size 0 (shL (shI a b)) ∧ W.rangeAt b0 0 (shL a) ∧ W.rangeAt b1 0 (shL b)) (by kernel_rfl) ?_ (fun hHeld => ?_)
          · exact S1.out
          refine wpAnyH_take (i := 0) (oi := { dst := some 51, op := Op.load 132 (Operand.tmp 5), type := 132, pos := "slots.go:85", after := #[], guard := none }) (v := _) rfl (by kernel_rfl) (by kernel_rfl) (by kernel_rfl) (fun _ _ _ h => h) (yieldsIf_load_mid (by rfl) _ _ rfl _ _ rfl _ _ (fun W h => h.1) hu rfl i0) (by assumption) ?_
          (try simp only [Act.put, List.setIfInBounds_toArray, List.set_cons_zero, List.set_cons_succ])
          refine wpAnyH_take (i := 1) (oi := { dst := some 52, op := Op.move (Operand.tmp 0), type := 57, pos := "slots.go:85", after := #[], guard := none }) (v := ?_) rfl (by kernel_rfl) (by kernel_rfl) (by kernel_rfl) (fun _ _ _ h => h) (Or.inl ⟨by rfl, ?_⟩) (by assumption) ?_
          rotate_left 1
          · intro w' hSw; go_simp; try with_reducible rfl
          (try simp only [Act.put, List.setIfInBounds_toArray, List.set_cons_zero, List.set_cons_succ])
          refine wpAnyH_take (i := 2) (oi := { dst := some 53, op := Op.nilCheck (Operand.tmp 52), type := 0, pos := "slots.go:85", after := #[{ on := 1, ground := Ground.data }], guard := none }) (v := ?_) rfl (by kernel_rfl) (by kernel_rfl) (by kernel_rfl) (fun _ _ _ h => h) (Or.inl ⟨by rfl, ?_⟩) (by assumption) ?_
          rotate_left 1
          · intro w' hSw; go_simp; try with_reducible rfl
          (try simp only [Act.put, List.setIfInBounds_toArray, List.set_cons_zero, List.set_cons_succ])
          refine wpAnyH_take (i := 3) (oi := { dst := some 54, op := Op.load 132 (Operand.tmp 53), type := 132, pos := "slots.go:85", after := #[{ on := 2, ground := Ground.data }], guard := none }) (v := _) rfl (by kernel_rfl) (by kernel_rfl) (by kernel_rfl) (fun _ _ _ h => h) (yieldsIf_load_mid (by rfl) _ _ rfl _ _ rfl _ _ (fun W h => h.2.1) hu rfl i1) (by assumption) ?_
          (try simp only [Act.put, List.setIfInBounds_toArray, List.set_cons_zero, List.set_cons_succ])
          refine wpAnyH_take (i := 4) (oi := { dst := some 55, op := Op.binOp BinOp.eql 132 (Operand.tmp 51) (Operand.tmp 54) 132, type := 4, pos := "slots.go:85", after := #[{ on := 0, ground := Ground.data }, { on := 3, ground := Ground.data }], guard := none }) (v := ?_) rfl (by kernel_rfl) (by kernel_rfl) (by kernel_rfl) (fun _ _ _ h => h) (Or.inl ⟨by rfl, ?_⟩) (by assumption) ?_
          rotate_left 1
          · intro w' hSw; go_simp; try with_reducible rfl
          (try simp only [Act.put, List.setIfInBounds_toArray, List.set_cons_zero, List.set_cons_succ])
          refine wpAnyH_done (by kernel_rfl) ?_ _
          clear hHeld
          go_wp2
          refine wp_region_held_drew (S := fun W => W.rangeAt w.heap.size 0 (shL (shI a b)) ∧ W.rangeAt b0 0 (shL a) ∧ W.rangeAt b1 0 (shL b)) (by kernel_rfl) ?_ (fun hHeld => ?_)
          · exact S2.out
          refine wpAnyH_take (i := 0) (oi := { dst := some 57, op := Op.load 132 (Operand.tmp 5), type := 132, pos := "slots.go:88", after := #[], guard := none }) (v := _) rfl (by kernel_rfl) (by kernel_rfl) (by kernel_rfl) (fun _ _ _ h => h) (yieldsIf_load_mid (by rfl) _ _ rfl _ _ rfl _ _ (fun W h => h.1) hu rfl i0) (by assumption) ?_
          (try simp only [Act.put, List.setIfInBounds_toArray, List.set_cons_zero, List.set_cons_succ])
          refine wpAnyH_take (i := 1) (oi := { dst := some 58, op := Op.move (Operand.tmp 1), type := 57, pos := "slots.go:88", after := #[], guard := none }) (v := ?_) rfl (by kernel_rfl) (by kernel_rfl) (by kernel_rfl) (fun _ _ _ h => h) (Or.inl ⟨by rfl, ?_⟩) (by assumption) ?_
          rotate_left 1
          · intro w' hSw; go_simp; try with_reducible rfl
          (try simp only [Act.put, List.setIfInBounds_toArray, List.set_cons_zero, List.set_cons_succ])
          refine wpAnyH_take (i := 2) (oi := { dst := some 59, op := Op.nilCheck (Operand.tmp 58), type := 0, pos := "slots.go:88", after := #[{ on := 1, ground := Ground.data }], guard := none }) (v := ?_) rfl (by kernel_rfl) (by kernel_rfl) (by kernel_rfl) (fun _ _ _ h => h) (Or.inl ⟨by rfl, ?_⟩) (by assumption) ?_
          rotate_left 1
          · intro w' hSw; go_simp; try with_reducible rfl
          (try simp only [Act.put, List.setIfInBounds_toArray, List.set_cons_zero, List.set_cons_succ])
          refine wpAnyH_take (i := 3) (oi := { dst := some 60, op := Op.load 132 (Operand.tmp 59), type := 132, pos := "slots.go:88", after := #[{ on := 2, ground := Ground.data }], guard := none }) (v := _) rfl (by kernel_rfl) (by kernel_rfl) (by kernel_rfl) (fun _ _ _ h => h) (yieldsIf_load_mid (by rfl) _ _ rfl _ _ rfl _ _ (fun W h => h.2.2) hu rfl i2) (by assumption) ?_
          (try simp only [Act.put, List.setIfInBounds_toArray, List.set_cons_zero, List.set_cons_succ])
          refine wpAnyH_take (i := 4) (oi := { dst := some 61, op := Op.binOp BinOp.eql 132 (Operand.tmp 57) (Operand.tmp 60) 132, type := 4, pos := "slots.go:88", after := #[{ on := 0, ground := Ground.data }, { on := 3, ground := Ground.data }], guard := none }) (v := ?_) rfl (by kernel_rfl) (by kernel_rfl) (by kernel_rfl) (fun _ _ _ h => h) (Or.inl ⟨by rfl, ?_⟩) (by assumption) ?_
          rotate_left 1
          · intro w' hSw; go_simp; try with_reducible rfl
          (try simp only [Act.put, List.setIfInBounds_toArray, List.set_cons_zero, List.set_cons_succ])
          refine wpAnyH_done (by kernel_rfl) ?_ _
          clear hHeld
          go_wp2_with (first | (with_reducible show wpList _ _ _ (Oper.mk _ (Op.alloc 132) _ _ _ _ :: _) _ _; refine alloc_sh rfl rfl ?_) | (with_reducible show wpList _ _ _ (Oper.mk _ (Op.load 132 _) _ _ _ _ :: _) _ _; refine load_sh rfl _ rfl w.heap.size rfl (shI a b) C2.out ?_) | (with_reducible show wpList _ _ _ (Oper.mk _ (Op.store 132 _ _) _ _ _ _ :: _) _ _; refine store_sh rfl _ _ rfl _ rfl (shI a b) rfl rfl ?_))
          go_ret
          have GB := BB.out.drew.drew.alloc BB.out.drew.drew.size (.cells (shA (shI a b)) 132)
          exact ⟨⟨some wr.drew.drew.heap.size, rfl, .inr ⟨_, shI a b, rfl, Nat.le_trans LL.out.2.2 BB.out.drew.drew.size, ⟨heapN _ _, OK.out.1, OK.out.2⟩, FF.out⟩⟩, GB⟩
theorem common_any {w : World} {B : Nat} {p q : Option Nat} {f g : Nat → Nat} (hp : PaR w B p f) (hq : PaR w B q g) (hB : B ≤ w.heap.size) :
    Calls Tryd.prog 79 #[ptN p, ptN q] w fun e w' => ComE w B f g e w' := by
  by_cases he : p = q ∨ p = none ∨ q = none
  · exact common_easy hp hq he
  · have hp2 := hp
    have hq2 := hq
    rcases hp2 with ⟨p1, _⟩ | ⟨b0, a, rfl, l0, ha, hf⟩
    · exact absurd (.inr (.inl p1)) he
    · rcases hq2 with ⟨q1, _⟩ | ⟨b1, b, rfl, l1, hb, hg⟩
      · exact absurd (.inr (.inr q1)) he
      · exact common_hard (fun e => he (.inl (by rw [e]))) l0 l1 ha hb hf hg hB
end Go.Proofs.YtjbbbejadhojlaaDoor

namespace Go.Proofs.YtjbbbejadhojlaaDoor
open Go.RowKit
set_option linter.unusedVariables false
set_option linter.unusedSimpArgs false
structure MeetE (w : World) (B : Nat) (G : Tg) (x tb : Nat) (s : Vs) (g : Nat → Nat) (e : Ending) (w' : World) : Prop where
  ret : e = .returned (.tuple #[])
  gro : w.grownBy w' (some x)
  sta : ∃ ps, SvR w' B G x tb ps ⟨s.st, vMeet s.sl g⟩
def psL2 (ps : Nat → Option Nat) : List Value := (List.range 16).map (fun j => ptN (ps j))
theorem slots_info : (Tryd.prog.info? 59).map (·.size) = some 16 := by kernel_rfl
theorem range_st {W : World} {x tb h : Nat} {ps : Nat → Option Nat} (hb : BkP W x (stA tb h ps) 61) : W.rangeAt x 2 (psL2 ps) := by
  have hr := World.rangeAt_of_block hb 2 16
  have he : (stA tb h ps).extract 2 (2 + 16) = (psL2 ps).toArray := by
    apply Array.ext_getElem?
    intro k
    by_cases hk : k < 16
    · rw [Array.getElem?_extract]
      rw [if_pos (by rw [stA_size]; omega), stA_sh _ _ _ k hk]
      simp [psL2, hk]
    · rw [Array.getElem?_eq_none (by simp [stA_size]; omega), Array.getElem?_eq_none (by simp [psL2]; omega)]
  rw [he] at hr
  exact hr
theorem range_ps {W : World} {x : Nat} {ps : Nat → Option Nat} (hb : BkP W x (psV ps) 59) : W.rangeAt x 0 (psL2 ps) := by
  have hr := World.rangeAt_of_block hb 0 16
  have he : (psV ps).extract 0 (0 + 16) = psV ps := by
    have : (psV ps).size = 16 := by simp [psV]
    simp only [Nat.zero_add]
    rw [← this, Array.extract_size]
  rw [he] at hr
  exact hr
theorem stA_setO (tb h : Nat) (ps : Nat → Option Nat) (j : Nat) (c : Option Nat) (hj : j < 16) : (stA tb h ps).set! (2 + j) (ptN c) = stA tb h (fun i => if i = j then c else ps i) := by
  apply Array.ext_getElem?
  intro k
  rw [Array.set!_eq_setIfInBounds, Array.getElem?_setIfInBounds]
  by_cases hk : k < 18
  · match k with
    | 0 => rw [if_neg (by omega), stA_top, stA_top]
    | 1 => rw [if_neg (by omega), stA_ht, stA_ht]
    | k + 2 =>
      rw [show k + 2 = 2 + k by omega, stA_sh _ _ _ k (by omega), stA_sh _ _ _ k (by omega), stA_size]
      by_cases e : k = j
      · subst e
        rw [if_pos rfl, if_pos (by omega), if_pos rfl]
      · rw [if_neg (by omega), if_neg e]
  · rw [if_neg (by omega), Array.getElem?_eq_none (by rw [stA_size]; omega), Array.getElem?_eq_none (by rw [stA_size]; omega)]
theorem meet_same {w : World} {B : Nat} {G : Tg} {x tb : Nat} {ps qs : Nat → Option Nat} {s : Vs} {g : Nat → Nat} (h : SvR w B G x tb ps s) (hq : SlR w B qs g) (e : ∀ k, k < 16 → ps k = qs k) : SvR w B G x tb ps ⟨s.st, vMeet s.sl g⟩ :=
  ⟨h.top, h.box, fun j hj => (h.slt j hj).congr (fun m hm => by
    show vMeet s.sl g (j * 1024 + m) = s.sl (j * 1024 + m)
    have k := hq j hj
    rw [← e j hj] at k
    unfold vMeet
    rw [if_pos ((h.slt j hj).same k m hm)]), h.low⟩
theorem meet_next {w wr W : World} {B : Nat} {G : Tg} {x tb : Nat} {ps qs pk : Nat → Option Nat} {s : Vs} {g : Nat → Nat} {k : Nat} {r : Option Nat} (h : SvR w B G x tb ps s) (hk : k < 16) (hX : BkP wr x (stA tb s.st.length pk) 61) (hP : RowKit.Hid (∀ j, j < k → PaR wr B (pk j) (fun m => vMeet s.sl g (j * 1024 + m)))) (hR : RowKit.Hid (∀ j, k ≤ j → pk j = ps j)) (hO : BkP wr w.heap.size (psV qs) 59) (hg : w.grownBy wr (some x)) (b : Below wr.heap.size wr W) (hr : PaR W B r (fun m => if s.sl (k * 1024 + m) = g (k * 1024 + m) then s.sl (k * 1024 + m) else 0)) :
    ∃ pk' : Nat → Option Nat, BkP (W.setCell ⟨x, 2 + k, none⟩ (ptN r)) x (stA tb s.st.length pk') 61 ∧ RowKit.Hid (∀ j, j < k + 1 → PaR (W.setCell ⟨x, 2 + k, none⟩ (ptN r)) B (pk' j) (fun m => vMeet s.sl g (j * 1024 + m))) ∧ RowKit.Hid (∀ j, k + 1 ≤ j → pk' j = ps j) ∧ BkP (W.setCell ⟨x, 2 + k, none⟩ (ptN r)) w.heap.size (psV qs) 59 ∧ w.grownBy (W.setCell ⟨x, 2 + k, none⟩ (ptN r)) (some x) := by
  have XW := hX.lat b
  have g1 := setCell_gr W x (2 + k) (ptN r)
  refine ⟨fun i => if i = k then r else pk i, ?_, ?_, ?_, ?_, ?_⟩
  · have := XW.set2 (2 + k) (ptN r) (by rw [stA_size]; omega)
    have e : (stA tb s.st.length pk).set! (2 + k) (ptN r) = stA tb s.st.length (fun i => if i = k then r else pk i) := stA_setO _ _ _ _ _ hk
    rw [e] at this
    exact this
  · intro j hj
    by_cases e : j = k
    · subst e
      simp only [if_pos]
      exact (hr.other g1 XW (by decide)).congr (fun m hm => rfl)
    · simp only [if_neg e]
      exact ((hP.out j (by omega)).later b).other g1 XW (by decide)
  · intro j hj
    simp only [if_neg (show ¬ j = k by omega)]
    exact hR.out j (by omega)
  · exact (hO.lat b).other x _ _ (by have := h.box.lt; omega)
  · exact gx_at (gx_bel hg b) _ _
theorem meet_end {w wr : World} {B : Nat} {G : Tg} {x tb : Nat} {ps pk : Nat → Option Nat} {s : Vs} {g : Nat → Nat} (h : SvR w B G x tb ps s) (hX : BkP wr x (stA tb s.st.length pk) 61) (hP : ∀ j, j < 16 → PaR wr B (pk j) (fun m => vMeet s.sl g (j * 1024 + m))) (hg : w.grownBy wr (some x)) : MeetE w B G x tb s g (.returned (.tuple #[])) wr :=
  ⟨rfl, hg, pk, ⟨h.top, hX, hP, h.low⟩⟩
set_option maxRecDepth 100000 in
set_option maxHeartbeats 4000000 in
theorem meet_any {w : World} {B : Nat} {G : Tg} {x tb : Nat} {ps qs : Nat → Option Nat} {s : Vs} {g : Nat → Nat} (h : SvR w B G x tb ps s) (hq : SlR w B qs g) (hB : B ≤ w.heap.size) :
    Calls Tryd.prog 66 #[.pointer (some ⟨x, 2, none⟩), .agg (psV qs)] w fun e w' => MeetE w B G x tb s g e w' := by
  have S1 := Lib.hid (p := (w.alloc (.cells (psV qs) 59)).rangeAt x 2 (psL2 ps) ∧ (w.alloc (.cells (psV qs) 59)).rangeAt w.heap.size 0 (psL2 qs)) ⟨range_st (h.box.lat (allocBP _ _)), range_ps (heapN _ _)⟩
  have hu : Tryd.prog.underlying 59 = some (.array 16 57) := by kernel_rfl
  have i0 : (Tryd.prog.info? 59).map (·.size) = some (psL2 ps).length := by rw [slots_info]; simp [psL2]
  have i1 : (Tryd.prog.info? 59).map (·.size) = some (psL2 qs).length := by rw [slots_info]; simp [psL2]
  have Q0 : ∀ W, (Below w.heap.size w W) → (Op.equalIn 10000 59 (.agg (psL2 ps).toArray) (.agg (psL2 qs).toArray)).run Tryd.prog W = _ := fun W b => eq_slots W ps qs (fun j hj c e => ((h.slt j hj).later b).blk c e) (fun j hj c e => ((hq j hj).later b).blk c e)
  have HX := Lib.hid h
  have HQ := Lib.hid hq
  have HB := Lib.hid hB
  clear h hq hB
  go_enter Tryd.func66, Tryd.ntmps66
  go_wp2
  cases q0 : (List.range 16).all (fun j => decide (ps j = qs j)) with
  | true =>
    simp only [q0] at Q0
    have EE := slots_eq q0
    have E := Lib.hid (meet_same HX.out HQ.out EE)
    clear q0 EE
    refine wp_region_held_drew (S := fun W => W.rangeAt x 2 (psL2 ps) ∧ W.rangeAt w.heap.size 0 (psL2 qs) ∧ Below w.heap.size w W) (by kernel_rfl) ?_ (fun hHeld => ?_)
    · exact ⟨S1.out.1, S1.out.2, (allocBP _ _).drew⟩
    refine wpAnyH_take (i := 0) (oi := { dst := some 5, op := Op.move (Operand.tmp 0), type := 125, pos := "slots.go:64", after := #[], guard := none }) (v := ?_) rfl (by kernel_rfl) (by kernel_rfl) (by kernel_rfl) (fun _ _ _ h => h) (Or.inl ⟨by rfl, ?_⟩) (by assumption) ?_
    rotate_left 1
    · intro w' hSw; go_simp; try with_reducible rfl
    (try simp only [Act.put, List.setIfInBounds_toArray, List.set_cons_zero, List.set_cons_succ])
    refine wpAnyH_take (i := 1) (oi := { dst := some 6, op := Op.nilCheck (Operand.tmp 5), type := 0, pos := "slots.go:64", after := #[{ on := 0, ground := Ground.data }], guard := none }) (v := ?_) rfl (by kernel_rfl) (by kernel_rfl) (by kernel_rfl) (fun _ _ _ h => h) (Or.inl ⟨by rfl, ?_⟩) (by assumption) ?_
    rotate_left 1
    · intro w' hSw; go_simp; try with_reducible rfl
    (try simp only [Act.put, List.setIfInBounds_toArray, List.set_cons_zero, List.set_cons_succ])
    refine wpAnyH_take (i := 2) (oi := { dst := some 7, op := Op.load 59 (Operand.tmp 6), type := 59, pos := "slots.go:64", after := #[{ on := 1, ground := Ground.data }], guard := none }) (v := _) rfl (by kernel_rfl) (by kernel_rfl) (by kernel_rfl) (fun _ _ _ h => h) (yieldsIf_load_mid (by rfl) _ _ rfl _ _ rfl _ _ (fun W h => h.1) hu rfl i0) (by assumption) ?_
    (try simp only [Act.put, List.setIfInBounds_toArray, List.set_cons_zero, List.set_cons_succ])
    refine wpAnyH_take (i := 3) (oi := { dst := some 8, op := Op.load 59 (Operand.tmp 3), type := 59, pos := "slots.go:64", after := #[], guard := none }) (v := _) rfl (by kernel_rfl) (by kernel_rfl) (by kernel_rfl) (fun _ _ _ h => h) (yieldsIf_load_mid (by rfl) _ _ rfl _ _ rfl _ _ (fun W h => h.2.1) hu rfl i1) (by assumption) ?_
    (try simp only [Act.put, List.setIfInBounds_toArray, List.set_cons_zero, List.set_cons_succ])
    refine wpAnyH_take (i := 4) (oi := { dst := some 9, op := Op.binOp BinOp.eql 59 (Operand.tmp 7) (Operand.tmp 8) 59, type := 4, pos := "slots.go:64", after := #[{ on := 2, ground := Ground.data }, { on := 3, ground := Ground.data }], guard := none }) (v := ?_) rfl (by kernel_rfl) (by kernel_rfl) (by kernel_rfl) (fun _ _ _ h => h) (Or.inl ⟨by rfl, ?_⟩) (by assumption) ?_
    rotate_left 1
    · intro w' hSw; have qq := Q0 w' hSw.2.2; go_simp; try with_reducible rfl
    (try simp only [Act.put, List.setIfInBounds_toArray, List.set_cons_zero, List.set_cons_succ])
    refine wpAnyH_done (by kernel_rfl) ?_ _
    clear hHeld
    go_wp2
    refine bodyPost_ret (results_none rfl _ _ _) rfl ?_
    exact ⟨rfl, gx_drew (gx_alloc (gx_refl _ _) _), ps, (E.out.later (allocBP _ _)).later (drew1B _)⟩
  | false =>
    simp only [q0] at Q0
    clear q0
    refine wp_region_held_drew (S := fun W => W.rangeAt x 2 (psL2 ps) ∧ W.rangeAt w.heap.size 0 (psL2 qs) ∧ Below w.heap.size w W) (by kernel_rfl) ?_ (fun hHeld => ?_)
    · exact ⟨S1.out.1, S1.out.2, (allocBP _ _).drew⟩
    refine wpAnyH_take (i := 0) (oi := { dst := some 5, op := Op.move (Operand.tmp 0), type := 125, pos := "slots.go:64", after := #[], guard := none }) (v := ?_) rfl (by kernel_rfl) (by kernel_rfl) (by kernel_rfl) (fun _ _ _ h => h) (Or.inl ⟨by rfl, ?_⟩) (by assumption) ?_
    rotate_left 1
    · intro w' hSw; go_simp; try with_reducible rfl
    (try simp only [Act.put, List.setIfInBounds_toArray, List.set_cons_zero, List.set_cons_succ])
    refine wpAnyH_take (i := 1) (oi := { dst := some 6, op := Op.nilCheck (Operand.tmp 5), type := 0, pos := "slots.go:64", after := #[{ on := 0, ground := Ground.data }], guard := none }) (v := ?_) rfl (by kernel_rfl) (by kernel_rfl) (by kernel_rfl) (fun _ _ _ h => h) (Or.inl ⟨by rfl, ?_⟩) (by assumption) ?_
    rotate_left 1
    · intro w' hSw; go_simp; try with_reducible rfl
    (try simp only [Act.put, List.setIfInBounds_toArray, List.set_cons_zero, List.set_cons_succ])
    refine wpAnyH_take (i := 2) (oi := { dst := some 7, op := Op.load 59 (Operand.tmp 6), type := 59, pos := "slots.go:64", after := #[{ on := 1, ground := Ground.data }], guard := none }) (v := _) rfl (by kernel_rfl) (by kernel_rfl) (by kernel_rfl) (fun _ _ _ h => h) (yieldsIf_load_mid (by rfl) _ _ rfl _ _ rfl _ _ (fun W h => h.1) hu rfl i0) (by assumption) ?_
    (try simp only [Act.put, List.setIfInBounds_toArray, List.set_cons_zero, List.set_cons_succ])
    refine wpAnyH_take (i := 3) (oi := { dst := some 8, op := Op.load 59 (Operand.tmp 3), type := 59, pos := "slots.go:64", after := #[], guard := none }) (v := _) rfl (by kernel_rfl) (by kernel_rfl) (by kernel_rfl) (fun _ _ _ h => h) (yieldsIf_load_mid (by rfl) _ _ rfl _ _ rfl _ _ (fun W h => h.2.1) hu rfl i1) (by assumption) ?_
    (try simp only [Act.put, List.setIfInBounds_toArray, List.set_cons_zero, List.set_cons_succ])
    refine wpAnyH_take (i := 4) (oi := { dst := some 9, op := Op.binOp BinOp.eql 59 (Operand.tmp 7) (Operand.tmp 8) 59, type := 4, pos := "slots.go:64", after := #[{ on := 2, ground := Ground.data }, { on := 3, ground := Ground.data }], guard := none }) (v := ?_) rfl (by kernel_rfl) (by kernel_rfl) (by kernel_rfl) (fun _ _ _ h => h) (Or.inl ⟨by rfl, ?_⟩) (by assumption) ?_
    rotate_left 1
    · intro w' hSw; have qq := Q0 w' hSw.2.2; go_simp; try with_reducible rfl
    (try simp only [Act.put, List.setIfInBounds_toArray, List.set_cons_zero, List.set_cons_succ])
    refine wpAnyH_done (by kernel_rfl) ?_ _
    clear hHeld
    clear Q0 i0 i1 hu S1
    go_wp2
    go_loopw [10] (fun t wr => ∃ (k : Nat) (pk : Nat → Option Nat), k ≤ 16 ∧ t = .int .i64 (k : Int) ∧ BkP wr x (stA tb s.st.length pk) 61 ∧ RowKit.Hid (∀ j, j < k → PaR wr B (pk j) (fun m => vMeet s.sl g (j * 1024 + m))) ∧ RowKit.Hid (∀ j, k ≤ j → pk j = ps j) ∧ BkP wr w.heap.size (psV qs) 59 ∧ w.grownBy wr (some x)) (fun t _ => 16 - (intOf t).toNat)
    case atStart =>
      exact ⟨0, ps, by omega, rfl, (HX.out.box.lat (allocBP _ _)).lat (drew1B _), (fun j hj => absurd hj (by omega)), (fun j _ => rfl), BkP.lat (heapN _ _) (drew1B _), gx_drew (gx_alloc (gx_refl _ _) _)⟩
    case round =>
      rename World => wr
      obtain ⟨k, pk, hk, rfl, hX, hP, hR, hO, hg⟩ := hrel
      by_cases hlt : k < 16
      · have kc : (k : Int) < 16 := by omega
        have kn : ¬ (k : Int) < 0 := by omega
        have ks : IntKind.i64.wrap ((k : Int) + 1) = (k : Int) + 1 := by simp [IntKind.wrap, IntKind.bits, IntKind.signed]; omega
        have p1 := (HX.out.slt k hlt).other hg HX.out.box (by decide)
        have p2 := (HQ.out k hlt).other hg HX.out.box (by decide)
        have c0 := hX.cell (2 + k)
        have c1 := hO.cell k
        have c2 := (hX.lat (drew1B wr)).cell (2 + k)
        have c3 := (hO.lat (drew1B wr)).cell k
        rw [stA_sh _ _ _ _ hlt, hR.out k (Nat.le_refl _)] at c0 c2
        rw [psV_at _ _ hlt] at c1 c3
        have KC := Lib.hid (p := ∀ W, Below wr.heap.size wr W → Calls Tryd.prog 79 #[ptN (ps k), ptN (qs k)] W fun e w' => ∃ r, e = .returned (ptN r) ∧ PaR w' B r (fun m => if s.sl (k * 1024 + m) = g (k * 1024 + m) then s.sl (k * 1024 + m) else 0) ∧ Below wr.heap.size wr w') (fun W b => (common_any (p1.later b) (p2.later b) (Nat.le_trans HB.out (Nat.le_trans hg.size b.size))).mono (fun e w' h => ⟨h.ret.choose, h.ret.choose_spec.1, h.ret.choose_spec.2, b.trans (h.bel.mono b.size)⟩))
        have MK := Lib.hid (fun W r (b : Below wr.heap.size wr W) (hr : PaR W B r (fun m => if s.sl (k * 1024 + m) = g (k * 1024 + m) then s.sl (k * 1024 + m) else 0)) => meet_next HX.out hlt hX hP hR hO hg b hr)
        have XL := Lib.hid (fun W (b : Below wr.heap.size wr W) => hX.lat b)
        generalize hp : ps k = p at *
        generalize hq : qs k = q at *
        clear hp hq p1 p2 hX hP hR hO hg
        unfold ptN at c0 c1 c2 c3 KC
        generalize Option.map (fun x => (⟨x, 0, none⟩ : Addr)) p = pa at *
        generalize Option.map (fun x => (⟨x, 0, none⟩ : Addr)) q = qa at *
        go_wp2
        go_region_with (go_at_call 79; refine (KC.out _ (by first | exact Below.refl _ _ | exact drew1B _ | exact (drew1B _).trans (drew1B _))).mono ?_; rintro e w3 ⟨r, rfl, hr, hb⟩; have c4 := (XL.out w3 hb).cell (2 + k); rw [stA_sh _ _ _ _ hlt] at c4; have f4 := (XL.out w3 hb).frozen (2 + k); have M := Lib.hid (MK.out w3 r hb hr); clear hr hb; unfold ptN at M; generalize Option.map (fun x => (⟨x, 0, none⟩ : Addr)) r = ra at *)
        all_goals
          go_wp2
          obtain ⟨pk', m1, m2, m3, m4, m5⟩ := M.out
          first
            | exact ⟨⟨k + 1, pk', by omega, by go_num, m1, m2, m3, m4, m5⟩, by simp [intOf]; omega⟩
            | exact ⟨⟨k + 1, pk', by omega, by go_num, m1.lat (drew1B _), fun j hj => (m2.out j hj).later (drew1B _), m3, m4.lat (drew1B _), gx_drew m5⟩, by simp [intOf]; omega⟩
      · obtain rfl : k = 16 := by omega
        have E := Lib.hid (meet_end HX.out hX hP.out hg)
        clear hX hP hR hO hg
        go_wp2
        go_end0
        exact E.out
end Go.Proofs.YtjbbbejadhojlaaDoor
