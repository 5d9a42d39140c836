import Derived.Test.YtccjeipkljdhdaaGreatDoorXAM
namespace Go.Proofs.YtccjeipkljdhdaaGreatDoor
open Go.RowKit Go.Shelf Go.Maps
attribute [local go_sem] Oper.semAt_some
set_option linter.unusedVariables false
set_option linter.unusedSimpArgs false

/-- A map of places, or none yet. -/
def MpqS (W : World) (v : Value) (f : ByteArray → Option Int) : Prop := (v = .map none ∧ ∀ c, f c = none) ∨ ∃ b, v = .map (some b) ∧ MapS W 0 b f
def MpqZ (W : World) (v : Value) (f : Int → Option Int) : Prop := (v = .map none ∧ ∀ c, f c = none) ∨ ∃ b, v = .map (some b) ∧ MapZ W 0 b f
theorem MapS.later {W W' : World} {B b : Nat} {f : ByteArray → Option Int} (h : MapS W B b f) (k : Below W.heap.size W W') : MapS W' B b f := by
  obtain ⟨m, D, h1, h2, h3⟩ := h
  exact ⟨m, D, h1.kept ⟨k.os, k.tape, k.output, k.size, fun i hi _ => k.block i hi⟩ (row := none) (fun e => by cases e), h2, h3⟩
theorem MapZ.later {W W' : World} {B b : Nat} {f : Int → Option Int} (h : MapZ W B b f) (k : Below W.heap.size W W') : MapZ W' B b f := by
  obtain ⟨m, D, h1, h2, h3⟩ := h
  exact ⟨m, D, h1.kept ⟨k.os, k.tape, k.output, k.size, fun i hi _ => k.block i hi⟩ (row := none) (fun e => by cases e), h2, h3⟩
theorem MpqS.later {W W' : World} {v : Value} {f : ByteArray → Option Int} (h : MpqS W v f) (k : Below W.heap.size W W') : MpqS W' v f := h.imp_right fun ⟨b, e, m⟩ => ⟨b, e, m.later k⟩
theorem MpqZ.later {W W' : World} {v : Value} {f : Int → Option Int} (h : MpqZ W v f) (k : Below W.heap.size W W') : MpqZ W' v f := h.imp_right fun ⟨b, e, m⟩ => ⟨b, e, m.later k⟩
theorem mpqS_run {W : World} {v : Value} {f : ByteArray → Option Int} (h : MpqS W v f) (z : ByteArray) (hz : z.size ≤ 140737488351232) : ∃ i : Int, (Instr.lookup 49 v (.string z) true).run Tryz.prog W = .ok (.tuple #[.int .i64 i, .bool (f z).isSome]) W ∧ ∀ j, f z = some j → i = j := by
  rcases h with ⟨rfl, h⟩ | ⟨b, rfl, m, D, h1, h2, _⟩
  · refine ⟨0, ?_, fun j e => by rw [h z] at e; cases e⟩
    rw [h z]
    simpa using Maps.look_nil (w := W) true lawT Tryz.underlying49 (zeroJ _) (keyT hz)
  · obtain ⟨u, ps, hr, hv⟩ := h1.look_ok lawT Tryz.underlying49 (zeroJ W) (plainElem_int (H := Unit) (P := Tryz.prog) Tryz.underlying3 (show (Lit.int .i64 0).wf = true by decide)) (keyT hz)
    obtain ⟨c, rfl, hc, _⟩ := plainElem_int_inv Tryz.underlying3 hv
    have hat := congrArg Prod.fst hc
    simp only at hat
    rw [h2.2.1 z] at hat
    refine ⟨c, by rw [hr, h2.2.2 z], fun j e => ?_⟩
    rw [e] at hat
    exact (Lit.int.inj (DataW.lit.inj hat)).2.symm
theorem mpqZ_run {W : World} {v : Value} {f : Int → Option Int} (h : MpqZ W v f) (z : Int) (hz : i64 z) : ∃ i : Int, (Instr.lookup 50 v (.int .i64 z) true).run Tryz.prog W = .ok (.tuple #[.int .i64 i, .bool (f z).isSome]) W ∧ ∀ j, f z = some j → i = j := by
  rcases h with ⟨rfl, h⟩ | ⟨b, rfl, m, D, h1, h2, _⟩
  · refine ⟨0, ?_, fun j e => by rw [h z] at e; cases e⟩
    rw [h z]
    simpa using Maps.look_nil (w := W) true lawZ Tryz.underlying50 (zeroJ _) (keyZ hz)
  · obtain ⟨u, ps, hr, hv⟩ := h1.look_ok lawZ Tryz.underlying50 (zeroJ W) (plainElem_int (H := Unit) (P := Tryz.prog) Tryz.underlying3 (show (Lit.int .i64 0).wf = true by decide)) (keyZ hz)
    obtain ⟨c, rfl, hc, _⟩ := plainElem_int_inv Tryz.underlying3 hv
    have hat := congrArg Prod.fst hc
    simp only at hat
    rw [h2.2.1 z] at hat
    refine ⟨c, by rw [hr, h2.2.2 z], fun j e => ?_⟩
    rw [e] at hat
    exact (Lit.int.inj (DataW.lit.inj hat)).2.symm
/-- The modes' words. -/
def mdT : List Value := (List.range 5).map fun k => Value.string (mdA k)
theorem mdT_len : mdT.length = 5 := by kernel_rfl
theorem Mds.range {w : World} (h : Mds w) : w.rangeAt 4 0 mdT := by
  intro j v hv
  have hj : j < 5 := by have := (List.getElem?_eq_some_iff.1 hv).1; rw [mdT_len] at this; exact this
  have e : mdT[j]? = some (.string (mdA j)) := by simp [mdT, hj]
  rw [e] at hv
  rw [Nat.zero_add, ← hv]
  exact h.2 j hj
theorem load_md {ops : Array Oper} {rest : List Oper} {op : Oper} {a : Act} {w : World} {Q : Exit → Act → World → Prop} (hgd : op.guard = none) (x : Operand) (ho : op.op = .load 106 x) (hx : a.eval x = .pointer (some ⟨4, 0, none⟩)) (hR : Mds w) (h : wpList Tryz.prog ops Q rest (a.put op.dst (.agg mdT.toArray)) w) : wpList Tryz.prog ops Q (op :: rest) a w :=
  wpList_load_mid hgd 106 x ho 4 0 hx mdT _ hR.range Tryz.underlying106 rfl (by rw [mdT_len]; kernel_rfl) h
theorem index_md {k : Nat} (hk : k < 5) (W : World) : (Instr.index 106 (.agg mdT.toArray) (.int .i64 (k : Int))).run Tryz.prog W = .ok (.string (mdA k)) W := by
  have h1 : (0 : Int) ≤ (k : Int) ∧ (k : Int) < ((5 : Nat) : Int) := by omega
  obtain ⟨i, hi, hs⟩ : ∃ i, Tryz.prog.info? 9 = some i ∧ i.size = 1 := by
    have : (Tryz.prog.info? 9).map (·.size) = some 1 := by kernel_rfl
    cases hq : Tryz.prog.info? 9 with
    | none => rw [hq] at this; cases this
    | some i => rw [hq] at this; exact ⟨i, rfl, by simpa using this⟩
  have hagg : (isAgg 9).run Tryz.prog W = .ok false W := by
    unfold isAgg
    rw [Sem.run_bind, run_underlying Tryz.underlying9 W]
    simp
  simp [Instr.index, run_underlying Tryz.underlying106, asIntOf, h1, sizeOf, typeInfo, hi, hs, part, Sem.run_bind, hagg, hk, mdT]
theorem plc_at {α : Type} [DecidableEq α] {l : List α} {x : α} {k : Nat} (hk : k < l.length) (h : l[k] = x) (hn : ∀ j (hj : j < k), l[j]'(by omega) ≠ x) : plcW l x = some (k : Int) := by
  have hm : x ∈ l := h ▸ List.getElem_mem hk
  unfold plcW
  rw [if_pos hm]
  congr 2
  exact (List.findIdx_eq hk).2 ⟨by simp [h], fun j hj => by simp [hn j hj]⟩
theorem plc_not {α : Type} [DecidableEq α] {l : List α} {x : α} (h : ∀ j (hj : j < l.length), l[j] ≠ x) : plcW l x = none := by
  unfold plcW
  rw [if_neg]
  intro hm
  obtain ⟨j, hj, e⟩ := List.getElem_of_mem hm
  exact h j hj e
/-- A number or none. -/
def OnE (w : World) (o : Option Int) (e : Ending) (w' : World) : Prop := (∃ i : Int, e = .returned (.tuple #[.int .i64 i, .bool o.isSome]) ∧ ∀ j, o = some j → i = j) ∧ Below w.heap.size w w'
set_option maxRecDepth 100000 in
set_option maxHeartbeats 2000000 in
theorem modeOf_any (s : ByteArray) (w : World) (hR : Mds w) :
    Calls Tryz.prog 133 #[.string s] w fun e w' => OnE w (plcW mdL s) e w' := by
  have RR := Lib.hid hR
  have IX := Lib.hid (fun (k : Nat) (hk : k < 5) W => index_md hk W)
  have m5 : mdL.length = 5 := rfl
  have mg : ∀ k (hk : k < 5), mdL[k]'(by rw [m5]; exact hk) = mdA k := fun k hk => by simp [mdA, List.getD, m5, hk]
  have HT := Lib.hid (p := ∀ k : Nat, k < 5 → mdA k = s → (∀ j, j < k → mdA j ≠ s) → plcW mdL s = some (k : Int)) (fun k hk e hn => plc_at (by rw [m5]; exact hk) ((mg k hk).trans e) (fun j hj => by rw [mg j (by omega)]; exact hn j hj))
  have HM := Lib.hid (p := (∀ k : Nat, k < 5 → mdA k ≠ s) → plcW mdL s = none) (fun hn => plc_not (fun j hj => by rw [m5] at hj; rw [mg j hj]; exact hn j hj))
  have LT := Lib.hid (fun (ops : Array Oper) (rest : List Oper) (op : Oper) (a : Act) (Q : Exit → Act → World → Prop) => @load_md ops rest op a w Q)
  obtain ⟨R, hRR⟩ : ∃ R, plcW mdL s = R := ⟨_, rfl⟩
  rw [hRR] at HT HM
  rw [hRR]
  clear hR hRR mg m5
  generalize hA : mdT.toArray = A at *
  clear hA
  go_enter Tryz.func133, Tryz.ntmps133
  go_wp2_with (first | (with_reducible show wpList _ _ _ (Oper.mk _ (Op.load 106 _) _ _ _ _ :: _) _ _; refine LT.out _ _ _ _ _ rfl _ rfl rfl RR.out ?_))
  go_loopw [7] (fun t wr => ∃ k : Nat, k ≤ 5 ∧ t = .int .i64 (k : Int) ∧ RowKit.Hid (∀ j : Nat, j < k → mdA j ≠ s) ∧ Below w.heap.size w wr) (fun t _ => 5 - (intOf t).toNat)
  case atStart => exact ⟨0, by omega, rfl, fun j hj => absurd hj (by omega), Below.refl _ _⟩
  case round =>
    obtain ⟨k, hk, rfl, hN, hB⟩ := hrel
    rename World => wr
    have BB := Lib.hid hB
    clear hB
    by_cases hlt : k < 5
    · have kc : (k : Int) < 5 := by omega
      have ix := IX.out k hlt
      have HTk := Lib.hid (fun e => HT.out k hlt e hN.out)
      have NX := Lib.hid (p := mdA k ≠ s → ∀ j : Nat, j < k + 1 → mdA j ≠ s) (fun g j hj => by
        rcases (show j < k ∨ j = k by omega) with q | q
        · exact hN.out j q
        · rw [q]; exact g)
      generalize mdA k = y at *
      by_cases hs : y = s
      · obtain rfl := HTk.out hs
        subst hs
        go_wp2
        go_ret2
        exact ⟨⟨_, rfl, fun j e => by injection e⟩, BB.out⟩
      · have hs' : (y.toList == s.toList) = false := by
          rw [beq_eq_false_iff_ne]; exact fun q => hs (bytes_eq q)
        have NS := Lib.hid (NX.out hs)
        clear hs
        go_wp2
        go_roundw
        case rel => exact ⟨k + 1, by omega, by go_num, NS.out, BB.out⟩
        case measure => simp [intOf]; omega
    · obtain rfl : k = 5 := by omega
      obtain rfl := HM.out hN.out
      go_wp2
      go_ret2
      exact ⟨⟨_, rfl, fun j e => by cases e⟩, BB.out⟩
set_option maxRecDepth 100000 in
set_option maxHeartbeats 4000000 in
theorem operandOf_any (rb k : Nat) (s : ByteArray) (p : Ap) (nm um pm : Value) (w : World) (hs : s.size ≤ 16777216) (hR : Mds w) (ht : Pows w) (hE : Ev w) (hn : w.cell? ⟨rb, 11, none⟩ = some nm) (hu : w.cell? ⟨rb, 12, none⟩ = some um) (hp : w.cell? ⟨rb, 13, none⟩ = some pm)
    (qn : MpqS w nm (plcW p.ns)) (qu : MpqS w um (plcW p.cs)) (qp : MpqZ w pm (plcW p.pl)) (hrb : rb < w.heap.size) :
    Calls Tryz.prog 116 #[.pointer (some ⟨rb, 0, none⟩), .int .i64 (k : Int), .string s] w fun e w' => OnE w (opdW p k s) e w' := by
  have KV := Lib.hid (valueOf_any s hs w ht hE)
  have KN := Lib.hid (numberOf_any s hs w ht hE)
  have KM := Lib.hid (modeOf_any s w hR)
  have QP := Lib.hid qp
  have CP := Lib.hid (fun W (b : Below w.heap.size w W) => (b.cell (p := ⟨rb, 13, none⟩) hrb).trans hp)
  have VI := Lib.hid (fun v (e : valW s = some v) => valW_in e)
  by_cases k1 : k = 1
  · subst k1
    have e0 : opdW p 1 s = (valW s).bind (plcW p.pl) := by simp [opdW]
    rw [e0]
    clear e0 qn qu qp hR ht hE hn hu hp KN KM
    cases hv : valW s with
    | none =>
      rw [hv] at KV
      obtain ⟨i, hr0, _⟩ := mpqZ_run QP.out 0 (show (Lit.int .i64 0).wf = true by decide)
      go_enter Tryz.func116, Tryz.ntmps116
      go_wp2_with (go_at_call 117; refine KV.out.mono ?_; rintro e w2 ⟨rfl, h2⟩; have B2 := Lib.hid h2; have c13 := CP.out _ h2; obtain ⟨i2, hr, _⟩ := mpqZ_run (QP.out.later h2) 0 (show (Lit.int .i64 0).wf = true by decide); clear h2)
      go_ret2
      exact ⟨⟨_, rfl, fun j e => by cases e⟩, B2.out⟩
    | some v =>
      rw [hv] at KV
      have vi : i64 v := by have := VI.out v hv; unfold inR at this; simp [i64, Lit.wf, IntKind.min, IntKind.max, IntKind.bits, IntKind.signed]; omega
      obtain ⟨R, hRR⟩ : ∃ R, plcW p.pl v = R := ⟨_, rfl⟩
      have HRR := Lib.hid hRR
      show Calls _ _ _ _ (fun e w' => OnE w (plcW p.pl v) e w')
      rw [hRR]
      clear hRR hv
      go_enter Tryz.func116, Tryz.ntmps116
      go_wp2_with (go_at_call 117; refine KV.out.mono ?_; rintro e w2 ⟨rfl, h2⟩; have B2 := Lib.hid h2; have c13 := CP.out _ h2; obtain ⟨i2, hr, hi2⟩ := mpqZ_run (QP.out.later h2) v vi; rw [HRR.out] at hr hi2; have HI2 := Lib.hid hi2; clear h2 hi2)
      go_ret2
      exact ⟨⟨i2, by simp, HI2.out⟩, B2.out⟩
  by_cases k3 : k = 3
  · subst k3
    have e0 : opdW p 3 s = plcW p.ns s := by simp [opdW]
    rw [e0]
    obtain ⟨i2, hr, hi2⟩ := mpqS_run qn s (by omega)
    generalize plcW p.ns s = R at *
    have HI2 := Lib.hid hi2
    clear e0 qn qu qp hR ht hE hu hp KN KM KV hi2 k1
    go_enter Tryz.func116, Tryz.ntmps116
    go_wp2
    go_ret2
    exact ⟨⟨i2, rfl, HI2.out⟩, Below.refl _ _⟩
  by_cases k28 : k = 28
  · subst k28
    have e0 : opdW p 28 s = plcW p.cs s := by simp [opdW]
    rw [e0]
    obtain ⟨i2, hr, hi2⟩ := mpqS_run qu s (by omega)
    generalize plcW p.cs s = R at *
    have HI2 := Lib.hid hi2
    clear e0 qn qu qp hR ht hE hn hp KN KM KV hi2 k1 k3
    go_enter Tryz.func116, Tryz.ntmps116
    go_wp2
    go_ret2
    exact ⟨⟨i2, rfl, HI2.out⟩, Below.refl _ _⟩
  by_cases k18 : k = 18
  · subst k18
    have e0 : opdW p 18 s = plcW mdL s := by simp [opdW]
    rw [e0]
    generalize plcW mdL s = R at *
    clear e0 qn qu qp hR ht hE hn hp hu KN KV k1 k3 k28
    go_enter Tryz.func116, Tryz.ntmps116
    go_wp2_with (go_at_call 133; refine KM.out.mono ?_; rintro e w2 ⟨⟨i, rfl, hi⟩, h2⟩; have HI := Lib.hid hi; have B2 := Lib.hid h2; clear hi h2)
    go_ret2
    exact ⟨⟨i, rfl, HI.out⟩, B2.out⟩
  have e0 : opdW p k s = numW s := by simp [opdW, k1, k3, k28, k18]
  rw [e0]
  generalize numW s = R at *
  have n1 : ((k : Int) == 1) = false := by simp; omega
  have n3 : ((k : Int) == 3) = false := by simp; omega
  have n28 : ((k : Int) == 28) = false := by simp; omega
  have n18 : ((k : Int) == 18) = false := by simp; omega
  clear e0 qn qu qp hR ht hE hn hp hu KM KV k1 k3 k28 k18
  go_enter Tryz.func116, Tryz.ntmps116
  go_wp2_with (go_at_call 96; refine KN.out.mono ?_; rintro e w2 ⟨⟨i, rfl, hi⟩, h2⟩; have HI := Lib.hid hi; have B2 := Lib.hid h2; clear hi h2)
  go_ret2
  exact ⟨⟨i, rfl, HI.out⟩, B2.out⟩
end Go.Proofs.YtccjeipkljdhdaaGreatDoor
