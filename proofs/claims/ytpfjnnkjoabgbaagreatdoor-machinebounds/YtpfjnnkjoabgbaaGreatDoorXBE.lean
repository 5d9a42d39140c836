import Derived.Test.YtpfjnnkjoabgbaaGreatDoorXBD
import Derived.Deep.RegionHeld3
import Derived.Deep.RegionLaw
namespace Go.Proofs.YtpfjnnkjoabgbaaGreatDoor
open Go.RowKit
set_option linter.unusedVariables false
set_option linter.unusedSimpArgs false
theorem drew1B2 (w : World) (n : Nat) : Below n w w.drew := ⟨rfl, rfl, rfl, Nat.le_refl _, fun _ _ => rfl⟩
theorem adr (W : World) (o : Obj) : Below W.heap.size W (W.alloc o).drew := (allocBP W o).trans (drew1B2 _ _)
theorem below_cell {w V : World} (b : Below w.heap.size w V) {a : Addr} {v : Value} (h : w.cell? a = some v) : V.cell? a = some v := (b.cell (World.block_lt_of_cell? w a h)).trans h
set_option maxRecDepth 100000 in
set_option maxHeartbeats 1600000 in
theorem seen_any {K : Kx} {E : EvM} (hE : KE K E) {w : World} {steps : Int} {r : Rn} (h : RoE K w steps r) (b i : Nat) (hb : b ≤ E.past.length) (hi : i < (E.seen b).length) (hp : E.past.length ≤ 100000) : ∃ y u z, ∀ V, Below w.heap.size w V → (Calls Tryz.prog 108 #[.pointer (some ⟨K.rb, 0, none⟩), .int .i64 (b : Int)] V fun e w' => e = .returned (.slice (some ⟨y, u, none⟩) (E.seen b).length z) ∧ w' = V) ∧ V.cell? ⟨y, u + i * 2, none⟩ = some (.bool ((E.seen b).getD i default).h) ∧ V.cell? ⟨y, u + i * 2 + 1, none⟩ = some (.int .i64 ((E.seen b).getD i default).v) := by
  obtain ⟨stv, slv, flv, h⟩ := h
  obtain ⟨d0, _, _, _, d4, _, _, _⟩ := run_cells h
  have d14 := (mach_cells h).2.2.2.2.2
  by_cases b0 : b = 0
  · subst b0
    have es : E.seen 0 = E.row := by unfold EvM.seen; rw [if_pos rfl]
    rw [es] at hi ⊢
    obtain ⟨x, o, c, hr, q1, q2⟩ := hE.row w h.on i hi
    refine ⟨x, o, c, fun V bV => ⟨?_, below_cell bV q1, below_cell bV q2⟩⟩
    rw [hr] at d4
    have c4 := below_cell bV d4
    clear h hE hi hb hp q1 q2 hr es d14 d0 d4 bV
    go_enter Tryz.func108, Tryz.ntmps108
    go_wp2
    go_ret
    exact ⟨rfl, rfl⟩
  · have es : E.seen b = E.past.getD (E.past.length - b) [] := by unfold EvM.seen; rw [if_neg b0]
    rw [es] at hi ⊢
    obtain ⟨x, o, c, y, u, z, hr, q0, q1, q2⟩ := hE.past w h.on (E.past.length - b) (by omega) i hi
    refine ⟨y, u, z, fun V bV => ⟨?_, below_cell bV q1, below_cell bV q2⟩⟩
    rw [hr] at d14
    obtain ⟨d, hd⟩ : ∃ d, E.past.length - b = d := ⟨_, rfl⟩
    rw [hd] at q0 ⊢
    have ew : IntKind.i64.wrap ((E.past.length : Int) - (b : Int)) = (d : Int) := by simp [IntKind.wrap, IntKind.bits, IntKind.signed]; omega
    have e0 : ¬ (d : Int) < 0 := by omega
    have e1 : (d : Int) < (E.past.length : Int) := by omega
    have bz : ((b : Int) == 0) = false := by simp; omega
    have c0 := below_cell bV d0
    have c14 := below_cell bV d14
    have cq := below_cell bV q0
    clear h hE hi hb hp q1 q2 hr es d4 hd b0 d0 d14 q0 bV
    generalize (E.past.getD d []).length = n at *
    generalize E.past.length = m at *
    go_enter Tryz.func108, Tryz.ntmps108
    go_wp2
    go_ret
    exact ⟨rfl, rfl⟩
set_option maxRecDepth 100000 in
set_option maxHeartbeats 3200000 in
theorem observe_deed {K : Kx} {E : EvM} (hE : KE K E) {w : World} {steps : Int} {r : Rn} (h : RoE K w steps r) (i : In) (ha : 0 ≤ i.a) (hb : 0 ≤ i.b) (hb2 : i.b.toNat ≤ E.past.length) (hi : i.a.toNat < (E.seen i.b.toNat).length) (hp : E.past.length ≤ 100000) (hl : r.st.length ≤ 300000) : Calls Tryz.prog 64 #[.pointer (some ⟨K.rb, 0, none⟩), iAgg i] w fun e w' => e = .returned (.int .i64 (if ((E.seen i.b.toNat).getD i.a.toNat default).h then 0 else 3)) ∧ RoE K w' steps (if ((E.seen i.b.toNat).getD i.a.toNat default).h then r.put ((E.seen i.b.toNat).getD i.a.toNat default).v else r) := by
  obtain ⟨io, ia, ib⟩ := i
  simp only at *
  obtain ⟨W, hW⟩ : ∃ W, w.alloc (.cells #[.int .i64 io, .int .i64 ia, .int .i64 ib] 68) = W := ⟨_, rfl⟩
  have h1 := h.lat (allocBP w (.cells #[.int .i64 io, .int .i64 ia, .int .i64 ib] 68))
  have IB : BkP (w.alloc (.cells #[.int .i64 io, .int .i64 ia, .int .i64 ib] 68)) w.heap.size #[.int .i64 io, .int .i64 ia, .int .i64 ib] 68 := heapN _ _
  rw [hW] at h1 IB
  have i1 := IB.cell 1
  have i2 := IB.cell 2
  simp only [List.getElem?_toArray, List.getElem?_cons_zero, List.getElem?_cons_succ] at i1 i2
  obtain ⟨a, rfl⟩ : ∃ a : Nat, ia = (a : Int) := ⟨ia.toNat, by omega⟩
  obtain ⟨b, rfl⟩ : ∃ b : Nat, ib = (b : Int) := ⟨ib.toNat, by omega⟩
  simp only [Int.toNat_natCast] at *
  have inv : inR ((E.seen b).getD a default).v := by
    have q := getD_mem (d := default) hi
    unfold EvM.seen at q ⊢
    split
    · rename_i z; rw [if_pos z] at q; exact hE.ir _ q
    · rename_i z
      rw [if_neg z] at q
      exact hE.ia _ (getD_mem (by omega)) _ q
  obtain ⟨y, u, z, KS0⟩ := seen_any hE h1 b a hb2 hi hp
  have KS := Lib.hid KS0
  clear KS0
  have KPU := Lib.hid (fun V (b' : Below W.heap.size W V) => mput_any (h1.lat b') ((E.seen b).getD a default).v inv (by omega))
  have HR := Lib.hid (fun V (b' : Below W.heap.size W V) => h1.lat b')
  have a0 : ¬ (a : Int) < 0 := by omega
  have a1 : (a : Int) < ((E.seen b).length : Int) := by omega
  have HW := Lib.hid hW
  have IBH := Lib.hid IB
  clear h h1 ha hb hb2 hi hp hl hE inv hW IB
  unfold iAgg
  generalize (E.seen b).length = n at *
  obtain ⟨cv, hcv⟩ : ∃ v, ((E.seen b).getD a default).v = v := ⟨_, rfl⟩
  rw [hcv] at KPU KS ⊢
  clear hcv
  by_cases hch : ((E.seen b).getD a default).h = true
  · rw [if_pos hch, if_pos hch]
    rw [hch] at KS
    clear hch
    obtain ⟨_, q1', q2'⟩ := KS.out W (Below.refl _ _)
    have n1 := World.new_ne W ⟨y, u + a * 2, none⟩ q1'
    have n2 := World.new_ne W ⟨w.heap.size, 1, none⟩ i1
    simp only at n1 n2
    go_enter Tryz.func64, Tryz.ntmps64
    go_wp2
    rw [HW.out]
    go_region_held3 (fun w' => w'.cell? ⟨w.heap.size, 1, none⟩ = some (.int .i64 (a : Int)) ∧ w'.cell? ⟨w.heap.size, 2, none⟩ = some (.int .i64 (b : Int)) ∧ w'.cell? ⟨y, u + a * 2, none⟩ = some (.bool true) ∧ w'.cell? ⟨y, u + a * 2 + 1, none⟩ = some (.int .i64 cv))
      (go_keep)
      (first | (go_at_call 108; refine (KS.out _ (by first | exact Below.refl _ _ | exact drew1 _ | exact allocBP _ _ | exact (allocBP W _).trans (drew1B2 _ _))).1.mono ?_; rintro e w1 ⟨rfl, rfl⟩))
    all_goals go_wp2_with (go_at_call 107; refine (KPU.out _ (by first | exact adr _ _ | exact allocBP _ _)).mono ?_; rintro e w2 ⟨rfl, h1⟩; have H1 := Lib.hid h1; clear h1)
    all_goals go_ret
    all_goals exact ⟨rfl, H1.out⟩
  · rw [if_neg hch, if_neg hch]
    have hf : ((E.seen b).getD a default).h = false := by simpa using hch
    rw [hf] at KS
    clear hch hf
    obtain ⟨_, q1', q2'⟩ := KS.out W (Below.refl _ _)
    have n1 := World.new_ne W ⟨y, u + a * 2, none⟩ q1'
    have n2 := World.new_ne W ⟨w.heap.size, 1, none⟩ i1
    simp only at n1 n2
    go_enter Tryz.func64, Tryz.ntmps64
    go_wp2
    rw [HW.out]
    go_region_held3 (fun w' => w'.cell? ⟨w.heap.size, 1, none⟩ = some (.int .i64 (a : Int)) ∧ w'.cell? ⟨w.heap.size, 2, none⟩ = some (.int .i64 (b : Int)) ∧ w'.cell? ⟨y, u + a * 2, none⟩ = some (.bool false) ∧ w'.cell? ⟨y, u + a * 2 + 1, none⟩ = some (.int .i64 cv))
      (go_keep)
      (first | (go_at_call 108; refine (KS.out _ (by first | exact Below.refl _ _ | exact drew1 _ | exact allocBP _ _ | exact (allocBP W _).trans (drew1B2 _ _))).1.mono ?_; rintro e w1 ⟨rfl, rfl⟩))
    all_goals go_wp2
    all_goals go_ret
    all_goals first
      | exact ⟨rfl, HR.out _ (allocBP _ _)⟩
      | exact ⟨rfl, HR.out _ (adr _ _)⟩
end Go.Proofs.YtpfjnnkjoabgbaaGreatDoor

namespace Go.Proofs.YtpfjnnkjoabgbaaGreatDoor
open Go.RowKit
set_option linter.unusedVariables false
set_option linter.unusedSimpArgs false
/-- The run's flows are another row. -/
theorem RO.flows {K : Kx} {w : World} {stv slv flv : Value} {steps : Int} {r : Rn} (h : RO K w stv slv flv steps r) {w' : World} (g : w.grownBy w' flv.ownBlock) {fv : Value} {l : List Fl} (hs : OwF w' K.B fv l) (hb : flv.ownBlock = fv.ownBlock ∨ (∃ H, w.heap.size ≤ H ∧ fv.ownBlock = some H)) : RO K (w'.setCell ⟨K.rb, 7, none⟩ fv) stv slv fv steps { r with fl := l } := by
  have hB : ∀ k, flv.ownBlock = some k → K.B ≤ k := fun k e => (World.ownsRow.lt h.fl k e).1
  have nr : some K.rb ≠ flv.ownBlock := fun e => own_neB h.fl h.rb (by decide) e.symm
  obtain ⟨g1, g2, g3, g4, g5, g6, g7, g8⟩ := h.grow g hB h.d3 nr
  have s1 : OwZ w' K.B stv r.st.reverse := h.st.grown g (own_neO h.st h.fl (by decide))
  have s2 : OwZ w' K.B slv r.sl := h.sl.grown g (own_neO h.sl h.fl (by decide))
  have x1 := g6.set2 7 fv (by simp [rArr])
  have rw_ : ∀ {t : TypeId} {k : Nat} {u : Value} {n : Nat} {xs : List Value} {C : Nat}, w'.ownsRow C t k u n xs → t ≠ 83 → (w'.setCell ⟨K.rb, 7, none⟩ fv).ownsRow C t k u n xs := fun q ht => own_blkG q (fun g hg => bk_block (fun z => own_neB q g6 ht (by rw [hg, z])))
  refine ⟨g1, g2, g3, by rw [set_size]; exact g4, fun k hk => (bk_block (fun z => h.dr (by rw [← z]; exact hk))).trans (g5 k hk), by simpa [rArr] using x1, h.rB, g7.other _ _ _ (by have := h.mB; have := h.rB; omega), h.mB, rw_ s1 (by decide), rw_ s2 (by decide), rw_ hs (by decide), h.ap, ?_, h.cB, h.r1, h.r2, h.r3, h.dl, h.dr, h.dm, h.dc, h.d1, h.d2, ?_⟩
  · rcases g8 with q | q
    · exact .inl q
    · exact .inr (rw_ q (by decide))
  · intro y hy hd
    rcases hb with q | ⟨H, q1, q2⟩
    · rw [← q] at hy; exact h.d3 y hy hd
    · rw [q2] at hy
      injection hy with hy
      have := h.dl y hd
      have := h.sz
      omega
/-- A flow is appended, where the order is drawn. -/
theorem step_fl {ops : Array Oper} {o : Oper} {a : Act} {K : Act → World → Prop} {Q : Exit → Act → World → Prop} {E : Prop} (w : World) (hgd : o.guard = none) (s x : Operand)
    (ho : o.op = .call { callee := .builtin .append, args := #[s, x], argTypes := #[29, 29] }) (B : Nat) (v : Value) (l : List Fl) (f : Fl) (hs : a.eval s = v)
    (hown : OwF w B v l) (hx : a.eval x = .slice (some ⟨w.heap.size, 0, none⟩) 1 1) (hl : l.length ≤ 1000000000) (hb : B ≤ w.heap.size)
    (h : ∀ g cap w', OwF w' B (.slice (some ⟨g, 0, none⟩) (l.length + 1) cap) (l ++ [f]) → (w.alloc (.cells #[.int .i64 f.d, .string f.c, .int .i64 f.a] 54)).grownBy w' v.ownBlock → (v.ownBlock = some g ∨ g = w.heap.size + 1) → K (a.put o.dst (.slice (some ⟨g, 0, none⟩) (l.length + 1) cap)) w') :
    if Region.wanted o (yielded ops a.tmps) = true then Oper.wp Tryz.prog o a (w.alloc (.cells #[.int .i64 f.d, .string f.c, .int .i64 f.a] 54)) K Q else E := by
  obtain ⟨i0, hi, hz0, hz1, hz2⟩ := info_parts infoFo
  refine step_append_lies _ hgd s x 29 ho B 54 i0 (.agg #[.int .i64 0, .string ⟨#[]⟩, .int .i64 0]) 3 32 Tryz.underlying29 hi hz0 hz1 hz2 rfl (by decide) v _ _ hs (World.ownsRow.alloc hown _) ⟨w.heap.size, 0, none⟩ 1 1 (fo3 f) hx rfl ?_ ?_ (by omega) (by unfold maxLen; omega) (by omega) (by simp; omega) (w.heap.size + 1) (by simp) (fun g cap w' h1 h2 h3 _ => h g cap w' ?_ h2 h3)
  · intro j u hj
    match j, hj with
    | 0, hj => simp [fo3] at hj; subst hj; simp [Addr.add]
    | 1, hj => simp [fo3] at hj; subst hj; simp [Addr.add]
    | 2, hj => simp [fo3] at hj; subst hj; simp [Addr.add]
  · intro u hu
    simp [fo3] at hu
    rcases hu with rfl | rfl | rfl <;> rfl
  · unfold OwF
    rw [focs_append, List.length_append]
    exact h1
end Go.Proofs.YtpfjnnkjoabgbaaGreatDoor
