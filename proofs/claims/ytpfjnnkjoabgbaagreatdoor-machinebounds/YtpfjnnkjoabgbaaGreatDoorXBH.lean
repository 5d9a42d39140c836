import Derived.Test.YtpfjnnkjoabgbaaGreatDoorXBE
import Derived.Deep.RegionHeld3
import Derived.Deep.RegionHeld2
namespace Go.Proofs.YtpfjnnkjoabgbaaGreatDoor
open Go.RowKit
set_option linter.unusedVariables false
set_option linter.unusedSimpArgs false
set_option maxRecDepth 100000 in
set_option maxHeartbeats 6400000 in
theorem flow_deed {K : Kx} {E : EvM} (hE : KE K E) {w : World} {steps : Int} {r : Rn} (h : RoE K w steps r) (i : In) (ha : 0 ≤ i.a) (hi : i.a.toNat < E.curs.length) {x : Int} {l : List Int} (e : r.st = x :: l) (hl : r.fl.length ≤ 300000) : Calls Tryz.prog 89 #[.pointer (some ⟨K.rb, 0, none⟩), iAgg i] w fun e w' => e = .returned (.int .i64 0) ∧ RoE K w' steps { r with fl := r.fl ++ [⟨E.t, E.curs.getD i.a.toNat ⟨#[]⟩, x⟩], st := l } := by
  obtain ⟨io, ia, ib0⟩ := i
  simp only at *
  obtain ⟨W, hW⟩ : ∃ W, w.alloc (.cells #[.int .i64 io, .int .i64 ia, .int .i64 ib0] 68) = W := ⟨_, rfl⟩
  have h1 := h.lat (allocBP w (.cells #[.int .i64 io, .int .i64 ia, .int .i64 ib0] 68))
  have IB : BkP (w.alloc (.cells #[.int .i64 io, .int .i64 ia, .int .i64 ib0] 68)) w.heap.size #[.int .i64 io, .int .i64 ia, .int .i64 ib0] 68 := heapN _ _
  rw [hW] at h1 IB
  have i1 := IB.cell 1
  simp only [List.getElem?_toArray, List.getElem?_cons_zero, List.getElem?_cons_succ] at i1
  obtain ⟨stv, slv, flv, h2⟩ := id h1
  obtain ⟨a, rfl⟩ : ∃ a : Nat, ia = (a : Int) := ⟨ia.toNat, by omega⟩
  simp only [Int.toNat_natCast] at *
  obtain ⟨cx, co, hua, hc⟩ := hE.curs W h2.on _ hi
  have c0 := (run_cells h2).1
  have c7 := (run_cells h2).2.2.2.2.2.2.2
  have m1 := (mach_cells h2).1
  have m11 := (mach_cells h2).2.2.1
  rw [hua, hE.clen] at m1
  rw [← hE.t] at m11
  have KT := Lib.hid (fun V (b : Below W.heap.size W V) => take_ro (h2.lat b) e)
  obtain ⟨cur, hcur⟩ : ∃ c, E.curs.getD a ⟨#[]⟩ = c := ⟨_, rfl⟩
  rw [hcur] at hc ⊢
  obtain ⟨td, htd⟩ : ∃ t, E.t = t := ⟨_, rfl⟩
  rw [htd] at m11 ⊢
  have AF := Lib.hid (p := ∀ V w1, Below W.heap.size W V → (∃ sv, RO K w1 sv slv flv steps { r with st := l }) → Sty V w1 → w1.cell? ⟨K.rb, 0, none⟩ = some (.pointer (some ⟨K.mb, 0, none⟩)) ∧ w1.cell? ⟨K.rb, 7, none⟩ = some flv ∧ w1.cell? ⟨K.mb, 1, none⟩ = some (.slice (some ⟨cx, co, none⟩) E.curs.length K.p.uc) ∧ w1.cell? ⟨K.mb, 11, none⟩ = some (.int .i64 td) ∧ w1.cell? ⟨w.heap.size, 1, none⟩ = some (.int .i64 (a : Int)) ∧ w1.cell? ⟨cx, co + a, none⟩ = some (.string cur) ∧ OwF w1 K.B flv r.fl ∧ K.B ≤ w1.heap.size ∧ ∀ g cap w2, OwF w2 K.B (.slice (some ⟨g, 0, none⟩) (r.fl.length + 1) cap) (r.fl ++ [⟨td, cur, x⟩]) → (w1.alloc (.cells #[.int .i64 td, .string cur, .int .i64 x] 54)).grownBy w2 flv.ownBlock → (flv.ownBlock = some g ∨ g = w1.heap.size + 1) → w2.cell? ⟨K.rb, 7, none⟩ = some flv ∧ w2.frozen? ⟨K.rb, 7, none⟩ = false ∧ RoE K (w2.setCell ⟨K.rb, 7, none⟩ (.slice (some ⟨g, 0, none⟩) (r.fl.length + 1) cap)) steps { r with fl := r.fl ++ [⟨td, cur, x⟩], st := l } ∧ (w2.cell? ⟨K.rb, 0, none⟩ = some (.pointer (some ⟨K.mb, 0, none⟩)) ∧ w2.cell? ⟨K.mb, 1, none⟩ = some (.slice (some ⟨cx, co, none⟩) E.curs.length K.p.uc) ∧ w2.cell? ⟨K.mb, 11, none⟩ = some (.int .i64 td) ∧ w2.cell? ⟨w.heap.size, 1, none⟩ = some (.int .i64 (a : Int)) ∧ w2.cell? ⟨cx, co + a, none⟩ = some (.string cur)) ∧ ((w2.setCell ⟨K.rb, 7, none⟩ (.slice (some ⟨g, 0, none⟩) (r.fl.length + 1) cap)).cell? ⟨K.rb, 0, none⟩ = some (.pointer (some ⟨K.mb, 0, none⟩)) ∧ (w2.setCell ⟨K.rb, 7, none⟩ (.slice (some ⟨g, 0, none⟩) (r.fl.length + 1) cap)).cell? ⟨K.mb, 1, none⟩ = some (.slice (some ⟨cx, co, none⟩) E.curs.length K.p.uc) ∧ (w2.setCell ⟨K.rb, 7, none⟩ (.slice (some ⟨g, 0, none⟩) (r.fl.length + 1) cap)).cell? ⟨K.mb, 11, none⟩ = some (.int .i64 td) ∧ (w2.setCell ⟨K.rb, 7, none⟩ (.slice (some ⟨g, 0, none⟩) (r.fl.length + 1) cap)).cell? ⟨w.heap.size, 1, none⟩ = some (.int .i64 (a : Int)) ∧ (w2.setCell ⟨K.rb, 7, none⟩ (.slice (some ⟨g, 0, none⟩) (r.fl.length + 1) cap)).cell? ⟨cx, co + a, none⟩ = some (.string cur))) (fun V w1 b hr s => by
    obtain ⟨sv, q⟩ := hr
    have ib := (s _ _ _ (IB.lat b) (by decide)).cell 1
    simp only [List.getElem?_toArray, List.getElem?_cons_zero, List.getElem?_cons_succ] at ib
    obtain ⟨cx', co', hua', hc'⟩ := hE.curs w1 q.on _ hi
    rw [hua] at hua'
    injection hua' with z
    injection z with z1 z2
    subst z1 z2
    rw [hcur] at hc'
    have n1 := (mach_cells q).1
    have n11 := (mach_cells q).2.2.1
    rw [hua, hE.clen] at n1
    rw [← hE.t, htd] at n11
    refine ⟨(run_cells q).1, (run_cells q).2.2.2.2.2.2.2, n1, n11, ib, hc', q.fl, q.BB, fun g cap w2 o2 g2 p2 => ?_⟩
    have q' := q.lat (allocBP w1 (.cells #[.int .i64 td, .string cur, .int .i64 x] 54))
    have k : BkP w2 K.rb (rArr K sv slv flv { r with st := l }) 83 := q'.rb.grown g2 (fun e => own_neB q'.fl q'.rb (by decide) e.symm)
    have q2 := q'.flows g2 o2 (by
      rcases p2 with z | z
      · exact .inl z
      · exact .inr ⟨w1.heap.size + 1, by simp, by rw [z]; rfl⟩)
    have ib2 : BkP w2 w.heap.size #[.int .i64 io, .int .i64 (a : Int), .int .i64 ib0] 68 := ((s _ _ _ (IB.lat b) (by decide)).lat (allocBP w1 _)).grown g2 (fun e => own_neB q'.fl ((s _ _ _ (IB.lat b) (by decide)).lat (allocBP w1 (.cells #[.int .i64 td, .string cur, .int .i64 x] 54))) (by decide) e.symm)
    have ib3 := ib2.other K.rb 7 (.slice (some ⟨g, 0, none⟩) (r.fl.length + 1) cap) (bk_ne k ib2 (by decide))
    obtain ⟨_, _, _, _, g5, _, g7, _⟩ := q'.grow g2 (fun k' e => (World.ownsRow.lt q'.fl k' e).1) q'.d3 (fun e => own_neB q'.fl q'.rb (by decide) e.symm)
    have CU : ∀ V2, K.On V2 → V2.cell? ⟨cx, co + a, none⟩ = some (.string cur) := fun V2 hO => by
      obtain ⟨cx2, co2, hu2, hc2⟩ := hE.curs V2 hO _ hi
      rw [hua] at hu2
      injection hu2 with z
      injection z with z1 z2
      subst z1 z2
      rw [hcur] at hc2
      exact hc2
    have M1 : w2.cell? ⟨K.mb, 1, none⟩ = some (.slice (some ⟨cx, co, none⟩) E.curs.length K.p.uc) := by rw [g7.cell, ← hE.clen, ← hua]; rfl
    have M11 : w2.cell? ⟨K.mb, 11, none⟩ = some (.int .i64 td) := by rw [g7.cell, ← htd, hE.t]; rfl
    have r1 := (mach_cells q2).1
    have r11 := (mach_cells q2).2.2.1
    rw [hua, hE.clen] at r1
    rw [← hE.t, htd] at r11
    have i2 := ib2.cell 1
    have i3 := ib3.cell 1
    simp only [List.getElem?_toArray, List.getElem?_cons_zero, List.getElem?_cons_succ] at i2 i3
    exact ⟨by rw [k.cell]; rfl, k.frozen 7, ⟨sv, slv, _, q2⟩, ⟨by rw [k.cell]; rfl, M1, M11, i2, CU w2 g5⟩, ⟨(run_cells q2).1, r1, r11, i3, CU _ q2.on⟩⟩)
  have a0 : ¬ (a : Int) < 0 := by omega
  have a1 : (a : Int) < (E.curs.length : Int) := by omega
  have LL := Lib.hid (p := r.fl.length ≤ 1000000000) (by omega)
  have HW := Lib.hid hW
  clear h h1 h2 ha hi hW hua IB e hl hE hcur htd
  unfold iAgg
  generalize E.curs.length = cn at *
  simp only at *
  go_enter Tryz.func89, Tryz.ntmps89
  go_wp2
  rw [HW.out]
  refine wp_region_held_drew (S := (fun w' => w'.cell? ⟨K.rb, 0, none⟩ = some (.pointer (some ⟨K.mb, 0, none⟩)) ∧ w'.cell? ⟨K.mb, 1, none⟩ = some (.slice (some ⟨cx, co, none⟩) cn K.p.uc) ∧ w'.cell? ⟨K.mb, 11, none⟩ = some (.int .i64 td) ∧ w'.cell? ⟨w.heap.size, 1, none⟩ = some (.int .i64 (a : Int)) ∧ w'.cell? ⟨cx, co + a, none⟩ = some (.string cur))) (by kernel_rfl) ?_ (fun hHeld => ?_)
  · (try dsimp only)
    exact ⟨c0, m1, m11, i1, hc⟩
  refine wpAnyH_take (i := 0) (oi := { dst := some 5, op := Op.move (Operand.tmp 0), type := 78, pos := "deeds.go:165", after := #[], guard := none }) (v := ?_) rfl (by kernel_rfl) (by kernel_rfl) (by kernel_rfl) (fun _ _ _ h => h) (Or.inl ⟨by rfl, ?_⟩) (by assumption) ?_
  rotate_left 1
  · intro w' hSw; (try dsimp only at hSw); go_simp; try with_reducible rfl
  (try simp only [Act.put, List.setIfInBounds_toArray, List.set_cons_zero, List.set_cons_succ])
  refine wpAnyH_take (i := 1) (oi := { dst := some 6, op := Op.move (Operand.tmp 0), type := 78, pos := "deeds.go:165", after := #[], guard := none }) (v := ?_) rfl (by kernel_rfl) (by kernel_rfl) (by kernel_rfl) (fun _ _ _ h => h) (Or.inl ⟨by rfl, ?_⟩) (by assumption) ?_
  rotate_left 1
  · intro w' hSw; (try dsimp only at hSw); go_simp; try with_reducible rfl
  (try simp only [Act.put, List.setIfInBounds_toArray, List.set_cons_zero, List.set_cons_succ])
  refine wpAnyH_take (i := 2) (oi := { dst := some 7, op := Op.nilCheck (Operand.tmp 6), type := 0, pos := "deeds.go:165", after := #[{ on := 1, ground := Ground.data }], guard := none }) (v := ?_) rfl (by kernel_rfl) (by kernel_rfl) (by kernel_rfl) (fun _ _ _ h => h) (Or.inl ⟨by rfl, ?_⟩) (by assumption) ?_
  rotate_left 1
  · intro w' hSw; (try dsimp only at hSw); go_simp; try with_reducible rfl
  (try simp only [Act.put, List.setIfInBounds_toArray, List.set_cons_zero, List.set_cons_succ])
  refine wpAnyH_take (i := 3) (oi := { dst := some 8, op := Op.fieldAddr 83 (Operand.tmp 7) 7, type := 0, pos := "deeds.go:165", after := #[{ on := 2, ground := Ground.data }], guard := none }) (v := ?_) rfl (by kernel_rfl) (by kernel_rfl) (by kernel_rfl) (fun _ _ _ h => h) (Or.inl ⟨by rfl, ?_⟩) (by assumption) ?_
  rotate_left 1
  · intro w' hSw; (try dsimp only at hSw); go_simp; try with_reducible rfl
  (try simp only [Act.put, List.setIfInBounds_toArray, List.set_cons_zero, List.set_cons_succ])
  refine wpAnyH_take (i := 5) (oi := { dst := some 10, op := Op.move (Operand.tmp 0), type := 78, pos := "deeds.go:165", after := #[], guard := none }) (v := ?_) rfl (by kernel_rfl) (by kernel_rfl) (by kernel_rfl) (fun _ _ _ h => h) (Or.inl ⟨by rfl, ?_⟩) (by assumption) ?_
  rotate_left 1
  · intro w' hSw; (try dsimp only at hSw); go_simp; try with_reducible rfl
  (try simp only [Act.put, List.setIfInBounds_toArray, List.set_cons_zero, List.set_cons_succ])
  refine wpAnyH_take (i := 6) (oi := { dst := some 11, op := Op.nilCheck (Operand.tmp 10), type := 0, pos := "deeds.go:165", after := #[{ on := 5, ground := Ground.data }], guard := none }) (v := ?_) rfl (by kernel_rfl) (by kernel_rfl) (by kernel_rfl) (fun _ _ _ h => h) (Or.inl ⟨by rfl, ?_⟩) (by assumption) ?_
  rotate_left 1
  · intro w' hSw; (try dsimp only at hSw); go_simp; try with_reducible rfl
  (try simp only [Act.put, List.setIfInBounds_toArray, List.set_cons_zero, List.set_cons_succ])
  refine wpAnyH_take (i := 7) (oi := { dst := some 12, op := Op.fieldAddr 83 (Operand.tmp 11) 0, type := 0, pos := "deeds.go:165", after := #[{ on := 6, ground := Ground.data }], guard := none }) (v := ?_) rfl (by kernel_rfl) (by kernel_rfl) (by kernel_rfl) (fun _ _ _ h => h) (Or.inl ⟨by rfl, ?_⟩) (by assumption) ?_
  rotate_left 1
  · intro w' hSw; (try dsimp only at hSw); go_simp; try with_reducible rfl
  (try simp only [Act.put, List.setIfInBounds_toArray, List.set_cons_zero, List.set_cons_succ])
  refine wpAnyH_take (i := 8) (oi := { dst := some 13, op := Op.load 37 (Operand.tmp 12), type := 37, pos := "deeds.go:165", after := #[{ on := 7, ground := Ground.data }], guard := none }) (v := ?_) rfl (by kernel_rfl) (by kernel_rfl) (by kernel_rfl) (fun _ _ _ h => h) (Or.inl ⟨by rfl, ?_⟩) (by assumption) ?_
  rotate_left 1
  · intro w' hSw; (try dsimp only at hSw); go_simp; try with_reducible rfl
  (try simp only [Act.put, List.setIfInBounds_toArray, List.set_cons_zero, List.set_cons_succ])
  refine wpAnyH_take (i := 9) (oi := { dst := some 14, op := Op.nilCheck (Operand.tmp 13), type := 0, pos := "deeds.go:165", after := #[{ on := 8, ground := Ground.data }], guard := none }) (v := ?_) rfl (by kernel_rfl) (by kernel_rfl) (by kernel_rfl) (fun _ _ _ h => h) (Or.inl ⟨by rfl, ?_⟩) (by assumption) ?_
  rotate_left 1
  · intro w' hSw; (try dsimp only at hSw); go_simp; try with_reducible rfl
  (try simp only [Act.put, List.setIfInBounds_toArray, List.set_cons_zero, List.set_cons_succ])
  refine wpAnyH_take (i := 10) (oi := { dst := some 15, op := Op.fieldAddr 75 (Operand.tmp 14) 2, type := 0, pos := "deeds.go:165", after := #[{ on := 9, ground := Ground.data }], guard := none }) (v := ?_) rfl (by kernel_rfl) (by kernel_rfl) (by kernel_rfl) (fun _ _ _ h => h) (Or.inl ⟨by rfl, ?_⟩) (by assumption) ?_
  rotate_left 1
  · intro w' hSw; (try dsimp only at hSw); go_simp; try with_reducible rfl
  (try simp only [Act.put, List.setIfInBounds_toArray, List.set_cons_zero, List.set_cons_succ])
  refine wpAnyH_take (i := 11) (oi := { dst := some 16, op := Op.fieldAddr 51 (Operand.tmp 15) 0, type := 0, pos := "deeds.go:165", after := #[{ on := 10, ground := Ground.data }], guard := none }) (v := ?_) rfl (by kernel_rfl) (by kernel_rfl) (by kernel_rfl) (fun _ _ _ h => h) (Or.inl ⟨by rfl, ?_⟩) (by assumption) ?_
  rotate_left 1
  · intro w' hSw; (try dsimp only at hSw); go_simp; try with_reducible rfl
  (try simp only [Act.put, List.setIfInBounds_toArray, List.set_cons_zero, List.set_cons_succ])
  refine wpAnyH_take (i := 12) (oi := { dst := some 17, op := Op.load 3 (Operand.tmp 16), type := 3, pos := "deeds.go:165", after := #[{ on := 11, ground := Ground.data }], guard := none }) (v := ?_) rfl (by kernel_rfl) (by kernel_rfl) (by kernel_rfl) (fun _ _ _ h => h) (Or.inl ⟨by rfl, ?_⟩) (by assumption) ?_
  rotate_left 1
  · intro w' hSw; (try dsimp only at hSw); go_simp; try with_reducible rfl
  (try simp only [Act.put, List.setIfInBounds_toArray, List.set_cons_zero, List.set_cons_succ])
  refine wpAnyH_take (i := 13) (oi := { dst := some 18, op := Op.move (Operand.tmp 0), type := 78, pos := "deeds.go:165", after := #[], guard := none }) (v := ?_) rfl (by kernel_rfl) (by kernel_rfl) (by kernel_rfl) (fun _ _ _ h => h) (Or.inl ⟨by rfl, ?_⟩) (by assumption) ?_
  rotate_left 1
  · intro w' hSw; (try dsimp only at hSw); go_simp; try with_reducible rfl
  (try simp only [Act.put, List.setIfInBounds_toArray, List.set_cons_zero, List.set_cons_succ])
  refine wpAnyH_take (i := 14) (oi := { dst := some 19, op := Op.nilCheck (Operand.tmp 18), type := 0, pos := "deeds.go:165", after := #[{ on := 13, ground := Ground.data }], guard := none }) (v := ?_) rfl (by kernel_rfl) (by kernel_rfl) (by kernel_rfl) (fun _ _ _ h => h) (Or.inl ⟨by rfl, ?_⟩) (by assumption) ?_
  rotate_left 1
  · intro w' hSw; (try dsimp only at hSw); go_simp; try with_reducible rfl
  (try simp only [Act.put, List.setIfInBounds_toArray, List.set_cons_zero, List.set_cons_succ])
  refine wpAnyH_take (i := 15) (oi := { dst := some 20, op := Op.fieldAddr 83 (Operand.tmp 19) 0, type := 0, pos := "deeds.go:165", after := #[{ on := 14, ground := Ground.data }], guard := none }) (v := ?_) rfl (by kernel_rfl) (by kernel_rfl) (by kernel_rfl) (fun _ _ _ h => h) (Or.inl ⟨by rfl, ?_⟩) (by assumption) ?_
  rotate_left 1
  · intro w' hSw; (try dsimp only at hSw); go_simp; try with_reducible rfl
  (try simp only [Act.put, List.setIfInBounds_toArray, List.set_cons_zero, List.set_cons_succ])
  refine wpAnyH_take (i := 16) (oi := { dst := some 21, op := Op.load 37 (Operand.tmp 20), type := 37, pos := "deeds.go:165", after := #[{ on := 15, ground := Ground.data }], guard := none }) (v := ?_) rfl (by kernel_rfl) (by kernel_rfl) (by kernel_rfl) (fun _ _ _ h => h) (Or.inl ⟨by rfl, ?_⟩) (by assumption) ?_
  rotate_left 1
  · intro w' hSw; (try dsimp only at hSw); go_simp; try with_reducible rfl
  (try simp only [Act.put, List.setIfInBounds_toArray, List.set_cons_zero, List.set_cons_succ])
  refine wpAnyH_take (i := 17) (oi := { dst := some 22, op := Op.nilCheck (Operand.tmp 21), type := 0, pos := "deeds.go:165", after := #[{ on := 16, ground := Ground.data }], guard := none }) (v := ?_) rfl (by kernel_rfl) (by kernel_rfl) (by kernel_rfl) (fun _ _ _ h => h) (Or.inl ⟨by rfl, ?_⟩) (by assumption) ?_
  rotate_left 1
  · intro w' hSw; (try dsimp only at hSw); go_simp; try with_reducible rfl
  (try simp only [Act.put, List.setIfInBounds_toArray, List.set_cons_zero, List.set_cons_succ])
  refine wpAnyH_take (i := 18) (oi := { dst := some 23, op := Op.fieldAddr 75 (Operand.tmp 22) 0, type := 0, pos := "deeds.go:165", after := #[{ on := 17, ground := Ground.data }], guard := none }) (v := ?_) rfl (by kernel_rfl) (by kernel_rfl) (by kernel_rfl) (fun _ _ _ h => h) (Or.inl ⟨by rfl, ?_⟩) (by assumption) ?_
  rotate_left 1
  · intro w' hSw; (try dsimp only at hSw); go_simp; try with_reducible rfl
  (try simp only [Act.put, List.setIfInBounds_toArray, List.set_cons_zero, List.set_cons_succ])
  refine wpAnyH_take (i := 19) (oi := { dst := some 24, op := Op.fieldAddr 26 (Operand.tmp 23) 1, type := 0, pos := "deeds.go:165", after := #[{ on := 18, ground := Ground.data }], guard := none }) (v := ?_) rfl (by kernel_rfl) (by kernel_rfl) (by kernel_rfl) (fun _ _ _ h => h) (Or.inl ⟨by rfl, ?_⟩) (by assumption) ?_
  rotate_left 1
  · intro w' hSw; (try dsimp only at hSw); go_simp; try with_reducible rfl
  (try simp only [Act.put, List.setIfInBounds_toArray, List.set_cons_zero, List.set_cons_succ])
  refine wpAnyH_take (i := 20) (oi := { dst := some 25, op := Op.load 22 (Operand.tmp 24), type := 22, pos := "deeds.go:165", after := #[{ on := 19, ground := Ground.data }], guard := none }) (v := ?_) rfl (by kernel_rfl) (by kernel_rfl) (by kernel_rfl) (fun _ _ _ h => h) (Or.inl ⟨by rfl, ?_⟩) (by assumption) ?_
  rotate_left 1
  · intro w' hSw; (try dsimp only at hSw); go_simp; try with_reducible rfl
  (try simp only [Act.put, List.setIfInBounds_toArray, List.set_cons_zero, List.set_cons_succ])
  refine wpAnyH_take (i := 21) (oi := { dst := some 26, op := Op.fieldAddr 68 (Operand.tmp 3) 1, type := 0, pos := "deeds.go:165", after := #[], guard := none }) (v := ?_) rfl (by kernel_rfl) (by kernel_rfl) (by kernel_rfl) (fun _ _ _ h => h) (Or.inl ⟨by rfl, ?_⟩) (by assumption) ?_
  rotate_left 1
  · intro w' hSw; (try dsimp only at hSw); go_simp; try with_reducible rfl
  (try simp only [Act.put, List.setIfInBounds_toArray, List.set_cons_zero, List.set_cons_succ])
  refine wpAnyH_take (i := 22) (oi := { dst := some 27, op := Op.load 3 (Operand.tmp 26), type := 3, pos := "deeds.go:165", after := #[{ on := 21, ground := Ground.data }], guard := none }) (v := ?_) rfl (by kernel_rfl) (by kernel_rfl) (by kernel_rfl) (fun _ _ _ h => h) (Or.inl ⟨by rfl, ?_⟩) (by assumption) ?_
  rotate_left 1
  · intro w' hSw; (try dsimp only at hSw); go_simp; try with_reducible rfl
  (try simp only [Act.put, List.setIfInBounds_toArray, List.set_cons_zero, List.set_cons_succ])
  refine wpAnyH_take (i := 23) (oi := { dst := some 28, op := Op.indexAddr 22 (Operand.tmp 25) (Operand.tmp 27), type := 0, pos := "deeds.go:165", after := #[{ on := 20, ground := Ground.data }, { on := 22, ground := Ground.data }], guard := none }) (v := ?_) rfl (by kernel_rfl) (by kernel_rfl) (by kernel_rfl) (fun _ _ _ h => h) (Or.inl ⟨by rfl, ?_⟩) (by assumption) ?_
  rotate_left 1
  · intro w' hSw; (try dsimp only at hSw); go_simp; try with_reducible rfl
  (try simp only [Act.put, List.setIfInBounds_toArray, List.set_cons_zero, List.set_cons_succ])
  refine wpAnyH_take (i := 24) (oi := { dst := some 29, op := Op.load 9 (Operand.tmp 28), type := 9, pos := "deeds.go:165", after := #[{ on := 23, ground := Ground.data }], guard := none }) (v := ?_) rfl (by kernel_rfl) (by kernel_rfl) (by kernel_rfl) (fun _ _ _ h => h) (Or.inl ⟨by rfl, ?_⟩) (by assumption) ?_
  rotate_left 1
  · intro w' hSw; (try dsimp only at hSw); go_simp; try with_reducible rfl
  (try simp only [Act.put, List.setIfInBounds_toArray, List.set_cons_zero, List.set_cons_succ])
  refine wpAnyH_take (i := 25) (oi := { dst := some 30, op := Op.move (Operand.tmp 0), type := 78, pos := "deeds.go:165", after := #[], guard := none }) (v := ?_) rfl (by kernel_rfl) (by kernel_rfl) (by kernel_rfl) (fun _ _ _ h => h) (Or.inl ⟨by rfl, ?_⟩) (by assumption) ?_
  rotate_left 1
  · intro w' hSw; (try dsimp only at hSw); go_simp; try with_reducible rfl
  (try simp only [Act.put, List.setIfInBounds_toArray, List.set_cons_zero, List.set_cons_succ])
  refine wpAnyH_ready (rs := [4, 26]) (by kernel_rfl) (by simp) ?_
  refine AllReadyH.cons (o := { dst := some 9, op := Op.load 29 (Operand.tmp 8), type := 29, pos := "deeds.go:165", after := #[{ on := 3, ground := Ground.data }], guard := none }) rfl (fun K' hK => ?_) (AllReadyH.cons (o := { dst := some 31, op := Op.call { callee := Callee.value (Operand.func 109), args := #[Operand.tmp 30], argTypes := #[78] }, type := 3, pos := "deeds.go:165", after := #[{ on := 25, ground := Ground.data }], guard := none }) rfl (fun K' hK => ?_) AllReadyH.nil)
  · go_simp
    refine hK.out _ _ ?_ (fun hHeld => ?_)
    · (try dsimp only)
      exact hHeld
    clear hK K'
    (try simp only [Act.put, List.setIfInBounds_toArray, List.set_cons_zero, List.set_cons_succ])
    refine wpAnyH_ready (rs := [26]) (by kernel_rfl) (by simp) ?_
    refine AllReadyH.cons (o := { dst := some 31, op := Op.call { callee := Callee.value (Operand.func 109), args := #[Operand.tmp 30], argTypes := #[78] }, type := 3, pos := "deeds.go:165", after := #[{ on := 25, ground := Ground.data }], guard := none }) rfl (fun K' hK => ?_) AllReadyH.nil
    go_simp
    go_at_call 109; refine (KT.out W.drew (drew1 W)).mono ?_; rintro e w1 ⟨rfl, h1, s1⟩; obtain ⟨y0, y1, y2, y3, y4, y5, y6, y7, y8⟩ := AF.out W.drew w1 (drew1 W) h1 s1; have Y6 := Lib.hid y6; have Y7 := Lib.hid y7; have Y8 := Lib.hid y8; have y1a := fun o => below_cell (allocBP w1 o) y1; have SA := Lib.hid (fun o => And.intro (below_cell (allocBP w1 o) y0) (And.intro (below_cell (allocBP w1 o) y2) (And.intro (below_cell (allocBP w1 o) y3) (And.intro (below_cell (allocBP w1 o) y4) (below_cell (allocBP w1 o) y5))))); have SW := Lib.hid (And.intro y0 (And.intro y2 (And.intro y3 (And.intro y4 y5)))); clear h1 s1 y6 y7 y8
    refine hK.out _ _ ?_ (fun hHeld => ?_)
    · (try dsimp only)
      exact SW.out
    clear hK K'
    (try simp only [Act.put, List.setIfInBounds_toArray, List.set_cons_zero, List.set_cons_succ])
    refine wpAnyH_take (i := 27) (oi := { dst := some 32, op := Op.build 54 #[(0, Operand.tmp 17), (1, Operand.tmp 29), (2, Operand.tmp 31)], type := 54, pos := "deeds.go:165", after := #[{ on := 12, ground := Ground.data }, { on := 24, ground := Ground.data }, { on := 26, ground := Ground.data }], guard := none }) (v := ?_) rfl (by kernel_rfl) (by kernel_rfl) (by kernel_rfl) (fun _ _ _ h => h) (Or.inl ⟨by rfl, ?_⟩) (by assumption) ?_
    rotate_left 1
    · intro w' hSw; (try dsimp only at hSw); go_simp; try with_reducible rfl
    (try simp only [Act.put, List.setIfInBounds_toArray, List.set_cons_zero, List.set_cons_succ])
    refine wpAnyH_ready (rs := [28]) (by kernel_rfl) (by simp) ?_
    refine AllReadyH.cons (o := { dst := some 33, op := Op.buildSlice 29 1 #[(0, Operand.tmp 32)], type := 29, pos := "deeds.go:165", after := #[{ on := 27, ground := Ground.data }], guard := none }) rfl (fun K' hK => ?_) AllReadyH.nil
    go_simp
    refine hK.out _ _ ?_ (fun hHeld => ?_)
    · (try dsimp only)
      exact SA.out _
    clear hK K'
    (try simp only [Act.put, List.setIfInBounds_toArray, List.set_cons_zero, List.set_cons_succ])
    refine wpAnyH_ready (rs := [29]) (by kernel_rfl) (by simp) ?_
    refine AllReadyH.cons (o := { dst := some 34, op := Op.call { callee := Callee.builtin Builtin.append, args := #[Operand.tmp 9, Operand.tmp 33], argTypes := #[29, 29] }, type := 29, pos := "deeds.go:165", after := #[{ on := 4, ground := Ground.data }, { on := 28, ground := Ground.data }, { on := 26, ground := Ground.chain }], guard := none }) rfl (fun K' hK => ?_) AllReadyH.nil
    refine step_fl w1 rfl _ _ rfl K.B flv r.fl ⟨td, cur, x⟩ rfl Y6.out rfl LL.out Y7.out ?_; intro g cap w2 k1 k2 k3; obtain ⟨e1, e2, e3, e4, e5⟩ := Y8.out g cap w2 k1 k2 k3; have E3 := Lib.hid e3; have S2 := Lib.hid e4; have S3 := Lib.hid e5; clear k1 k2 k3 e3 e4 e5
    refine hK.out _ _ ?_ (fun hHeld => ?_)
    · (try dsimp only)
      exact S2.out
    clear hK K'
    (try simp only [Act.put, List.setIfInBounds_toArray, List.set_cons_zero, List.set_cons_succ])
    refine wpAnyH_take (i := 30) (oi := { dst := some 35, op := Op.nilCheck (Operand.tmp 5), type := 0, pos := "deeds.go:165", after := #[{ on := 0, ground := Ground.data }, { on := 0, ground := Ground.phase }, { on := 1, ground := Ground.phase }, { on := 2, ground := Ground.phase }, { on := 3, ground := Ground.phase }, { on := 4, ground := Ground.phase }, { on := 5, ground := Ground.phase }, { on := 6, ground := Ground.phase }, { on := 7, ground := Ground.phase }, { on := 8, ground := Ground.phase }, { on := 9, ground := Ground.phase }, { on := 10, ground := Ground.phase }, { on := 11, ground := Ground.phase }, { on := 12, ground := Ground.phase }, { on := 13, ground := Ground.phase }, { on := 14, ground := Ground.phase }, { on := 15, ground := Ground.phase }, { on := 16, ground := Ground.phase }, { on := 17, ground := Ground.phase }, { on := 18, ground := Ground.phase }, { on := 19, ground := Ground.phase }, { on := 20, ground := Ground.phase }, { on := 21, ground := Ground.phase }, { on := 22, ground := Ground.phase }, { on := 23, ground := Ground.phase }, { on := 24, ground := Ground.phase }, { on := 25, ground := Ground.phase }, { on := 26, ground := Ground.phase }, { on := 27, ground := Ground.phase }, { on := 28, ground := Ground.phase }, { on := 29, ground := Ground.phase }], guard := none }) (v := ?_) rfl (by kernel_rfl) (by kernel_rfl) (by kernel_rfl) (fun _ _ _ h => h) (Or.inl ⟨by rfl, ?_⟩) (by assumption) ?_
    rotate_left 1
    · intro w' hSw; (try dsimp only at hSw); go_simp; try with_reducible rfl
    (try simp only [Act.put, List.setIfInBounds_toArray, List.set_cons_zero, List.set_cons_succ])
    refine wpAnyH_take (i := 31) (oi := { dst := some 36, op := Op.fieldAddr 83 (Operand.tmp 35) 7, type := 0, pos := "deeds.go:165", after := #[{ on := 30, ground := Ground.data }, { on := 0, ground := Ground.phase }, { on := 1, ground := Ground.phase }, { on := 2, ground := Ground.phase }, { on := 3, ground := Ground.phase }, { on := 4, ground := Ground.phase }, { on := 5, ground := Ground.phase }, { on := 6, ground := Ground.phase }, { on := 7, ground := Ground.phase }, { on := 8, ground := Ground.phase }, { on := 9, ground := Ground.phase }, { on := 10, ground := Ground.phase }, { on := 11, ground := Ground.phase }, { on := 12, ground := Ground.phase }, { on := 13, ground := Ground.phase }, { on := 14, ground := Ground.phase }, { on := 15, ground := Ground.phase }, { on := 16, ground := Ground.phase }, { on := 17, ground := Ground.phase }, { on := 18, ground := Ground.phase }, { on := 19, ground := Ground.phase }, { on := 20, ground := Ground.phase }, { on := 21, ground := Ground.phase }, { on := 22, ground := Ground.phase }, { on := 23, ground := Ground.phase }, { on := 24, ground := Ground.phase }, { on := 25, ground := Ground.phase }, { on := 26, ground := Ground.phase }, { on := 27, ground := Ground.phase }, { on := 28, ground := Ground.phase }, { on := 29, ground := Ground.phase }], guard := none }) (v := ?_) rfl (by kernel_rfl) (by kernel_rfl) (by kernel_rfl) (fun _ _ _ h => h) (Or.inl ⟨by rfl, ?_⟩) (by assumption) ?_
    rotate_left 1
    · intro w' hSw; (try dsimp only at hSw); go_simp; try with_reducible rfl
    (try simp only [Act.put, List.setIfInBounds_toArray, List.set_cons_zero, List.set_cons_succ])
    refine wpAnyH_ready (rs := [32]) (by kernel_rfl) (by simp) ?_
    refine AllReadyH.cons (o := { dst := none, op := Op.store 29 (Operand.tmp 36) (Operand.tmp 34), type := 0, pos := "deeds.go:165", after := #[{ on := 31, ground := Ground.data }, { on := 29, ground := Ground.data }, { on := 29, ground := Ground.chain }, { on := 0, ground := Ground.phase }, { on := 1, ground := Ground.phase }, { on := 2, ground := Ground.phase }, { on := 3, ground := Ground.phase }, { on := 4, ground := Ground.phase }, { on := 5, ground := Ground.phase }, { on := 6, ground := Ground.phase }, { on := 7, ground := Ground.phase }, { on := 8, ground := Ground.phase }, { on := 9, ground := Ground.phase }, { on := 10, ground := Ground.phase }, { on := 11, ground := Ground.phase }, { on := 12, ground := Ground.phase }, { on := 13, ground := Ground.phase }, { on := 14, ground := Ground.phase }, { on := 15, ground := Ground.phase }, { on := 16, ground := Ground.phase }, { on := 17, ground := Ground.phase }, { on := 18, ground := Ground.phase }, { on := 19, ground := Ground.phase }, { on := 20, ground := Ground.phase }, { on := 21, ground := Ground.phase }, { on := 22, ground := Ground.phase }, { on := 23, ground := Ground.phase }, { on := 24, ground := Ground.phase }, { on := 25, ground := Ground.phase }, { on := 26, ground := Ground.phase }, { on := 27, ground := Ground.phase }, { on := 28, ground := Ground.phase }, { on := 29, ground := Ground.phase }], guard := none }) rfl (fun K' hK => ?_) AllReadyH.nil
    go_simp
    refine hK.out _ _ ?_ (fun hHeld => ?_)
    · (try dsimp only)
      exact S3.out
    clear hK K'
    (try simp only [Act.put, List.setIfInBounds_toArray, List.set_cons_zero, List.set_cons_succ])
    refine wpAnyH_done (by kernel_rfl) ?_ _
    go_wp2
    go_ret
    exact ⟨rfl, E3.out⟩
  · go_simp
    go_at_call 109; refine (KT.out W.drew (drew1 W)).mono ?_; rintro e w1 ⟨rfl, h1, s1⟩; obtain ⟨y0, y1, y2, y3, y4, y5, y6, y7, y8⟩ := AF.out W.drew w1 (drew1 W) h1 s1; have Y6 := Lib.hid y6; have Y7 := Lib.hid y7; have Y8 := Lib.hid y8; have y1a := fun o => below_cell (allocBP w1 o) y1; have SA := Lib.hid (fun o => And.intro (below_cell (allocBP w1 o) y0) (And.intro (below_cell (allocBP w1 o) y2) (And.intro (below_cell (allocBP w1 o) y3) (And.intro (below_cell (allocBP w1 o) y4) (below_cell (allocBP w1 o) y5))))); have SW := Lib.hid (And.intro y0 (And.intro y2 (And.intro y3 (And.intro y4 y5)))); clear h1 s1 y6 y7 y8
    refine hK.out _ _ ?_ (fun hHeld => ?_)
    · (try dsimp only)
      exact SW.out
    clear hK K'
    (try simp only [Act.put, List.setIfInBounds_toArray, List.set_cons_zero, List.set_cons_succ])
    refine wpAnyH_take (i := 27) (oi := { dst := some 32, op := Op.build 54 #[(0, Operand.tmp 17), (1, Operand.tmp 29), (2, Operand.tmp 31)], type := 54, pos := "deeds.go:165", after := #[{ on := 12, ground := Ground.data }, { on := 24, ground := Ground.data }, { on := 26, ground := Ground.data }], guard := none }) (v := ?_) rfl (by kernel_rfl) (by kernel_rfl) (by kernel_rfl) (fun _ _ _ h => h) (Or.inl ⟨by rfl, ?_⟩) (by assumption) ?_
    rotate_left 1
    · intro w' hSw; (try dsimp only at hSw); go_simp; try with_reducible rfl
    (try simp only [Act.put, List.setIfInBounds_toArray, List.set_cons_zero, List.set_cons_succ])
    refine wpAnyH_ready (rs := [4, 28]) (by kernel_rfl) (by simp) ?_
    refine AllReadyH.cons (o := { dst := some 9, op := Op.load 29 (Operand.tmp 8), type := 29, pos := "deeds.go:165", after := #[{ on := 3, ground := Ground.data }], guard := none }) rfl (fun K' hK => ?_) (AllReadyH.cons (o := { dst := some 33, op := Op.buildSlice 29 1 #[(0, Operand.tmp 32)], type := 29, pos := "deeds.go:165", after := #[{ on := 27, ground := Ground.data }], guard := none }) rfl (fun K' hK => ?_) AllReadyH.nil)
    · go_simp
      refine hK.out _ _ ?_ (fun hHeld => ?_)
      · (try dsimp only)
        exact hHeld
      clear hK K'
      (try simp only [Act.put, List.setIfInBounds_toArray, List.set_cons_zero, List.set_cons_succ])
      refine wpAnyH_ready (rs := [28]) (by kernel_rfl) (by simp) ?_
      refine AllReadyH.cons (o := { dst := some 33, op := Op.buildSlice 29 1 #[(0, Operand.tmp 32)], type := 29, pos := "deeds.go:165", after := #[{ on := 27, ground := Ground.data }], guard := none }) rfl (fun K' hK => ?_) AllReadyH.nil
      go_simp
      refine hK.out _ _ ?_ (fun hHeld => ?_)
      · (try dsimp only)
        exact SA.out _
      clear hK K'
      (try simp only [Act.put, List.setIfInBounds_toArray, List.set_cons_zero, List.set_cons_succ])
      refine wpAnyH_ready (rs := [29]) (by kernel_rfl) (by simp) ?_
      refine AllReadyH.cons (o := { dst := some 34, op := Op.call { callee := Callee.builtin Builtin.append, args := #[Operand.tmp 9, Operand.tmp 33], argTypes := #[29, 29] }, type := 29, pos := "deeds.go:165", after := #[{ on := 4, ground := Ground.data }, { on := 28, ground := Ground.data }, { on := 26, ground := Ground.chain }], guard := none }) rfl (fun K' hK => ?_) AllReadyH.nil
      refine step_fl w1 rfl _ _ rfl K.B flv r.fl ⟨td, cur, x⟩ rfl Y6.out rfl LL.out Y7.out ?_; intro g cap w2 k1 k2 k3; obtain ⟨e1, e2, e3, e4, e5⟩ := Y8.out g cap w2 k1 k2 k3; have E3 := Lib.hid e3; have S2 := Lib.hid e4; have S3 := Lib.hid e5; clear k1 k2 k3 e3 e4 e5
      refine hK.out _ _ ?_ (fun hHeld => ?_)
      · (try dsimp only)
        exact S2.out
      clear hK K'
      (try simp only [Act.put, List.setIfInBounds_toArray, List.set_cons_zero, List.set_cons_succ])
      refine wpAnyH_take (i := 30) (oi := { dst := some 35, op := Op.nilCheck (Operand.tmp 5), type := 0, pos := "deeds.go:165", after := #[{ on := 0, ground := Ground.data }, { on := 0, ground := Ground.phase }, { on := 1, ground := Ground.phase }, { on := 2, ground := Ground.phase }, { on := 3, ground := Ground.phase }, { on := 4, ground := Ground.phase }, { on := 5, ground := Ground.phase }, { on := 6, ground := Ground.phase }, { on := 7, ground := Ground.phase }, { on := 8, ground := Ground.phase }, { on := 9, ground := Ground.phase }, { on := 10, ground := Ground.phase }, { on := 11, ground := Ground.phase }, { on := 12, ground := Ground.phase }, { on := 13, ground := Ground.phase }, { on := 14, ground := Ground.phase }, { on := 15, ground := Ground.phase }, { on := 16, ground := Ground.phase }, { on := 17, ground := Ground.phase }, { on := 18, ground := Ground.phase }, { on := 19, ground := Ground.phase }, { on := 20, ground := Ground.phase }, { on := 21, ground := Ground.phase }, { on := 22, ground := Ground.phase }, { on := 23, ground := Ground.phase }, { on := 24, ground := Ground.phase }, { on := 25, ground := Ground.phase }, { on := 26, ground := Ground.phase }, { on := 27, ground := Ground.phase }, { on := 28, ground := Ground.phase }, { on := 29, ground := Ground.phase }], guard := none }) (v := ?_) rfl (by kernel_rfl) (by kernel_rfl) (by kernel_rfl) (fun _ _ _ h => h) (Or.inl ⟨by rfl, ?_⟩) (by assumption) ?_
      rotate_left 1
      · intro w' hSw; (try dsimp only at hSw); go_simp; try with_reducible rfl
      (try simp only [Act.put, List.setIfInBounds_toArray, List.set_cons_zero, List.set_cons_succ])
      refine wpAnyH_take (i := 31) (oi := { dst := some 36, op := Op.fieldAddr 83 (Operand.tmp 35) 7, type := 0, pos := "deeds.go:165", after := #[{ on := 30, ground := Ground.data }, { on := 0, ground := Ground.phase }, { on := 1, ground := Ground.phase }, { on := 2, ground := Ground.phase }, { on := 3, ground := Ground.phase }, { on := 4, ground := Ground.phase }, { on := 5, ground := Ground.phase }, { on := 6, ground := Ground.phase }, { on := 7, ground := Ground.phase }, { on := 8, ground := Ground.phase }, { on := 9, ground := Ground.phase }, { on := 10, ground := Ground.phase }, { on := 11, ground := Ground.phase }, { on := 12, ground := Ground.phase }, { on := 13, ground := Ground.phase }, { on := 14, ground := Ground.phase }, { on := 15, ground := Ground.phase }, { on := 16, ground := Ground.phase }, { on := 17, ground := Ground.phase }, { on := 18, ground := Ground.phase }, { on := 19, ground := Ground.phase }, { on := 20, ground := Ground.phase }, { on := 21, ground := Ground.phase }, { on := 22, ground := Ground.phase }, { on := 23, ground := Ground.phase }, { on := 24, ground := Ground.phase }, { on := 25, ground := Ground.phase }, { on := 26, ground := Ground.phase }, { on := 27, ground := Ground.phase }, { on := 28, ground := Ground.phase }, { on := 29, ground := Ground.phase }], guard := none }) (v := ?_) rfl (by kernel_rfl) (by kernel_rfl) (by kernel_rfl) (fun _ _ _ h => h) (Or.inl ⟨by rfl, ?_⟩) (by assumption) ?_
      rotate_left 1
      · intro w' hSw; (try dsimp only at hSw); go_simp; try with_reducible rfl
      (try simp only [Act.put, List.setIfInBounds_toArray, List.set_cons_zero, List.set_cons_succ])
      refine wpAnyH_ready (rs := [32]) (by kernel_rfl) (by simp) ?_
      refine AllReadyH.cons (o := { dst := none, op := Op.store 29 (Operand.tmp 36) (Operand.tmp 34), type := 0, pos := "deeds.go:165", after := #[{ on := 31, ground := Ground.data }, { on := 29, ground := Ground.data }, { on := 29, ground := Ground.chain }, { on := 0, ground := Ground.phase }, { on := 1, ground := Ground.phase }, { on := 2, ground := Ground.phase }, { on := 3, ground := Ground.phase }, { on := 4, ground := Ground.phase }, { on := 5, ground := Ground.phase }, { on := 6, ground := Ground.phase }, { on := 7, ground := Ground.phase }, { on := 8, ground := Ground.phase }, { on := 9, ground := Ground.phase }, { on := 10, ground := Ground.phase }, { on := 11, ground := Ground.phase }, { on := 12, ground := Ground.phase }, { on := 13, ground := Ground.phase }, { on := 14, ground := Ground.phase }, { on := 15, ground := Ground.phase }, { on := 16, ground := Ground.phase }, { on := 17, ground := Ground.phase }, { on := 18, ground := Ground.phase }, { on := 19, ground := Ground.phase }, { on := 20, ground := Ground.phase }, { on := 21, ground := Ground.phase }, { on := 22, ground := Ground.phase }, { on := 23, ground := Ground.phase }, { on := 24, ground := Ground.phase }, { on := 25, ground := Ground.phase }, { on := 26, ground := Ground.phase }, { on := 27, ground := Ground.phase }, { on := 28, ground := Ground.phase }, { on := 29, ground := Ground.phase }], guard := none }) rfl (fun K' hK => ?_) AllReadyH.nil
      go_simp
      refine hK.out _ _ ?_ (fun hHeld => ?_)
      · (try dsimp only)
        exact S3.out
      clear hK K'
      (try simp only [Act.put, List.setIfInBounds_toArray, List.set_cons_zero, List.set_cons_succ])
      refine wpAnyH_done (by kernel_rfl) ?_ _
      go_wp2
      go_ret
      exact ⟨rfl, E3.out⟩
    · go_simp
      refine hK.out _ _ ?_ (fun hHeld => ?_)
      · (try dsimp only)
        exact SA.out _
      clear hK K'
      (try simp only [Act.put, List.setIfInBounds_toArray, List.set_cons_zero, List.set_cons_succ])
      refine wpAnyH_ready (rs := [4]) (by kernel_rfl) (by simp) ?_
      refine AllReadyH.cons (o := { dst := some 9, op := Op.load 29 (Operand.tmp 8), type := 29, pos := "deeds.go:165", after := #[{ on := 3, ground := Ground.data }], guard := none }) rfl (fun K' hK => ?_) AllReadyH.nil
      go_simp
      refine hK.out _ _ ?_ (fun hHeld => ?_)
      · (try dsimp only)
        exact hHeld
      clear hK K'
      (try simp only [Act.put, List.setIfInBounds_toArray, List.set_cons_zero, List.set_cons_succ])
      refine wpAnyH_ready (rs := [29]) (by kernel_rfl) (by simp) ?_
      refine AllReadyH.cons (o := { dst := some 34, op := Op.call { callee := Callee.builtin Builtin.append, args := #[Operand.tmp 9, Operand.tmp 33], argTypes := #[29, 29] }, type := 29, pos := "deeds.go:165", after := #[{ on := 4, ground := Ground.data }, { on := 28, ground := Ground.data }, { on := 26, ground := Ground.chain }], guard := none }) rfl (fun K' hK => ?_) AllReadyH.nil
      refine step_fl w1 rfl _ _ rfl K.B flv r.fl ⟨td, cur, x⟩ rfl Y6.out rfl LL.out Y7.out ?_; intro g cap w2 k1 k2 k3; obtain ⟨e1, e2, e3, e4, e5⟩ := Y8.out g cap w2 k1 k2 k3; have E3 := Lib.hid e3; have S2 := Lib.hid e4; have S3 := Lib.hid e5; clear k1 k2 k3 e3 e4 e5
      refine hK.out _ _ ?_ (fun hHeld => ?_)
      · (try dsimp only)
        exact S2.out
      clear hK K'
      (try simp only [Act.put, List.setIfInBounds_toArray, List.set_cons_zero, List.set_cons_succ])
      refine wpAnyH_take (i := 30) (oi := { dst := some 35, op := Op.nilCheck (Operand.tmp 5), type := 0, pos := "deeds.go:165", after := #[{ on := 0, ground := Ground.data }, { on := 0, ground := Ground.phase }, { on := 1, ground := Ground.phase }, { on := 2, ground := Ground.phase }, { on := 3, ground := Ground.phase }, { on := 4, ground := Ground.phase }, { on := 5, ground := Ground.phase }, { on := 6, ground := Ground.phase }, { on := 7, ground := Ground.phase }, { on := 8, ground := Ground.phase }, { on := 9, ground := Ground.phase }, { on := 10, ground := Ground.phase }, { on := 11, ground := Ground.phase }, { on := 12, ground := Ground.phase }, { on := 13, ground := Ground.phase }, { on := 14, ground := Ground.phase }, { on := 15, ground := Ground.phase }, { on := 16, ground := Ground.phase }, { on := 17, ground := Ground.phase }, { on := 18, ground := Ground.phase }, { on := 19, ground := Ground.phase }, { on := 20, ground := Ground.phase }, { on := 21, ground := Ground.phase }, { on := 22, ground := Ground.phase }, { on := 23, ground := Ground.phase }, { on := 24, ground := Ground.phase }, { on := 25, ground := Ground.phase }, { on := 26, ground := Ground.phase }, { on := 27, ground := Ground.phase }, { on := 28, ground := Ground.phase }, { on := 29, ground := Ground.phase }], guard := none }) (v := ?_) rfl (by kernel_rfl) (by kernel_rfl) (by kernel_rfl) (fun _ _ _ h => h) (Or.inl ⟨by rfl, ?_⟩) (by assumption) ?_
      rotate_left 1
      · intro w' hSw; (try dsimp only at hSw); go_simp; try with_reducible rfl
      (try simp only [Act.put, List.setIfInBounds_toArray, List.set_cons_zero, List.set_cons_succ])
      refine wpAnyH_take (i := 31) (oi := { dst := some 36, op := Op.fieldAddr 83 (Operand.tmp 35) 7, type := 0, pos := "deeds.go:165", after := #[{ on := 30, ground := Ground.data }, { on := 0, ground := Ground.phase }, { on := 1, ground := Ground.phase }, { on := 2, ground := Ground.phase }, { on := 3, ground := Ground.phase }, { on := 4, ground := Ground.phase }, { on := 5, ground := Ground.phase }, { on := 6, ground := Ground.phase }, { on := 7, ground := Ground.phase }, { on := 8, ground := Ground.phase }, { on := 9, ground := Ground.phase }, { on := 10, ground := Ground.phase }, { on := 11, ground := Ground.phase }, { on := 12, ground := Ground.phase }, { on := 13, ground := Ground.phase }, { on := 14, ground := Ground.phase }, { on := 15, ground := Ground.phase }, { on := 16, ground := Ground.phase }, { on := 17, ground := Ground.phase }, { on := 18, ground := Ground.phase }, { on := 19, ground := Ground.phase }, { on := 20, ground := Ground.phase }, { on := 21, ground := Ground.phase }, { on := 22, ground := Ground.phase }, { on := 23, ground := Ground.phase }, { on := 24, ground := Ground.phase }, { on := 25, ground := Ground.phase }, { on := 26, ground := Ground.phase }, { on := 27, ground := Ground.phase }, { on := 28, ground := Ground.phase }, { on := 29, ground := Ground.phase }], guard := none }) (v := ?_) rfl (by kernel_rfl) (by kernel_rfl) (by kernel_rfl) (fun _ _ _ h => h) (Or.inl ⟨by rfl, ?_⟩) (by assumption) ?_
      rotate_left 1
      · intro w' hSw; (try dsimp only at hSw); go_simp; try with_reducible rfl
      (try simp only [Act.put, List.setIfInBounds_toArray, List.set_cons_zero, List.set_cons_succ])
      refine wpAnyH_ready (rs := [32]) (by kernel_rfl) (by simp) ?_
      refine AllReadyH.cons (o := { dst := none, op := Op.store 29 (Operand.tmp 36) (Operand.tmp 34), type := 0, pos := "deeds.go:165", after := #[{ on := 31, ground := Ground.data }, { on := 29, ground := Ground.data }, { on := 29, ground := Ground.chain }, { on := 0, ground := Ground.phase }, { on := 1, ground := Ground.phase }, { on := 2, ground := Ground.phase }, { on := 3, ground := Ground.phase }, { on := 4, ground := Ground.phase }, { on := 5, ground := Ground.phase }, { on := 6, ground := Ground.phase }, { on := 7, ground := Ground.phase }, { on := 8, ground := Ground.phase }, { on := 9, ground := Ground.phase }, { on := 10, ground := Ground.phase }, { on := 11, ground := Ground.phase }, { on := 12, ground := Ground.phase }, { on := 13, ground := Ground.phase }, { on := 14, ground := Ground.phase }, { on := 15, ground := Ground.phase }, { on := 16, ground := Ground.phase }, { on := 17, ground := Ground.phase }, { on := 18, ground := Ground.phase }, { on := 19, ground := Ground.phase }, { on := 20, ground := Ground.phase }, { on := 21, ground := Ground.phase }, { on := 22, ground := Ground.phase }, { on := 23, ground := Ground.phase }, { on := 24, ground := Ground.phase }, { on := 25, ground := Ground.phase }, { on := 26, ground := Ground.phase }, { on := 27, ground := Ground.phase }, { on := 28, ground := Ground.phase }, { on := 29, ground := Ground.phase }], guard := none }) rfl (fun K' hK => ?_) AllReadyH.nil
      go_simp
      refine hK.out _ _ ?_ (fun hHeld => ?_)
      · (try dsimp only)
        exact S3.out
      clear hK K'
      (try simp only [Act.put, List.setIfInBounds_toArray, List.set_cons_zero, List.set_cons_succ])
      refine wpAnyH_done (by kernel_rfl) ?_ _
      go_wp2
      go_ret
      exact ⟨rfl, E3.out⟩
end Go.Proofs.YtpfjnnkjoabgbaaGreatDoor
