import Derived.Test.YtpfjnnkjoabgbaaGreatDoorXAO
import Derived.Test.YtpfjnnkjoabgbaaGreatDoorXAA
import Derived.Test.YtpfjnnkjoabgbaaGreatDoorXAB
namespace Go.Proofs.YtpfjnnkjoabgbaaGreatDoor
open Go.RowKit
set_option linter.unusedVariables false
set_option linter.unusedSimpArgs false
theorem one_st (tb len : Nat) (ps : Nat → Option Nat) : (stA tb len ps).all (·.oneCell') = true := by
  unfold stA
  apply all_oneCell_toArray
  intro v hv
  simp only [List.mem_cons, List.mem_map] at hv
  rcases hv with rfl | rfl | ⟨j, _, rfl⟩
  · rfl
  · rfl
  · rfl
theorem store_st {ops : Array Oper} {rest : List Oper} {op : Oper} {a : Act} {w : World} {Q : Exit → Act → World → Prop} (hgd : op.guard = none) (x y : Operand) (ho : op.op = .store 101 x y) (c : Array Value) (hc : c.size = 18) (tb len : Nat) (ps : Nat → Option Nat) (hx : a.eval x = .pointer (some ⟨w.heap.size, 0, none⟩)) (hy : a.eval y = .agg (stA tb len ps)) (h : wpList Tryz.prog ops Q rest (a.put op.dst undef) (w.alloc (.cells (stA tb len ps) 101))) : wpList Tryz.prog ops Q (op :: rest) a (w.alloc (.cells c 101)) := by
  refine wpList_plain hgd fun _ hK => ?_
  have hK := hK _ _ h
  unfold Oper.wp execOp
  simp only [ho, hx, hy, Instr.storeAt, Instr.sureAddr, Sem.run_bind, Sem.run_pure, Result.andThen_ok, run_storeVar_new w 101 c (stA tb len ps) (by rw [state_info, stA_size]) (by rw [hc, stA_size]) (one_st tb len ps)]
  exact hK
/-- What does not turn while a walk is made: the code, the tables. -/
structure Bs (w0 : World) (B : Nat) (ca : Option Addr) (cc n : Nat) (code : List In) : Prop where
  ir : IR w0 ca n cc code
  rw : Rws w0
  ru : Rul w0
  lo : w0.heap.size ≤ B
/-- What pass leaves. -/
structure PsE (W : World) (B wb ab : Nat) (day : Int) (ca : Option Addr) (cc n : Nat) (l : Nat → Option Vs) (i : In) (k : Nat) (e : Ending) (V : World) : Prop where
  ret : e = .returned (.int .i64 (vPass day n i k l).1)
  sta : ∃ G' A', WkR V B wb ab day ca cc n G' A' (vPass day n i k l).2
  bel : Below B W V
  stay : ∀ z y u, BkP W z y u → u ≠ 123 → u ≠ 101 → u ≠ 102 → BkP V z y u
set_option maxRecDepth 100000 in
set_option maxHeartbeats 800000 in
theorem pass_dead {W : World} {B wb ab : Nat} {day : Int} {ca : Option Addr} {cc n : Nat} {G : Tg} {A : Nat → Option Nat} {l : Nat → Option Vs} {k : Nat} {i : In} (h : WkR W B wb ab day ca cc n G A l) (hk : k < n) (hl : l k = none) :
    Calls Tryz.prog 37 #[.pointer (some ⟨wb, 0, none⟩), .int .i64 (k : Int)] W fun e w' => PsE W B wb ab day ca cc n l i k e w' := by
  have hA : A k = none := by
    rcases h.st k hk with ⟨_, q⟩ | ⟨x, u, tb', ps', q1, _⟩
    · exact q
    · rw [hl] at q1; cases q1
  have V : vPass day n i k l = (146, l) := by unfold vPass; rw [hl]
  have E := Lib.hid (p := PsE W B wb ab day ca cc n l i k (.returned (.int .i64 146)) W) ⟨by rw [V], ⟨G, A, by rw [V]; exact h⟩, Below.refl _ _, fun _ _ _ k _ _ _ => k⟩
  have c2 := h.wk.cell 2
  have d := h.ah.cell k
  rw [ahA_at _ _ _ hk, hA] at d
  simp [ptN] at c2 d
  have k0 : ¬ (k : Int) < 0 := by omega
  have k1 : (k : Int) < (n : Int) := by omega
  clear h hl hA hk V
  go_enter Tryz.func37, Tryz.ntmps37
  go_wp2
  go_ret
  exact E.out
theorem pass_do {W V : World} {B wb ab : Nat} {day : Int} {ca : Option Addr} {cc n : Nat} {G : Tg} {A : Nat → Option Nat} {l : Nat → Option Vs} {H : Tg} (h : WkR W B wb ab day ca cc n G A l) {o : Obj} {W' : World} (b : Below (W.alloc o).heap.size (W.alloc o) W') (c : Chg W' V B G H (fun z => z = W.heap.size)) {y : Array Value} {t : TypeId} (ho : o = .cells y 101) : WkR V B wb ab day ca cc n H A l := by
  have b1 : Below W.heap.size W W' := (allocBP W o).trans (b.mono (allocBP _ _).size)
  refine (h.later b1).chg c (fun z y' t' k e => ?_)
  subst e
  refine ⟨?_, fun j hj e => ?_⟩
  · have k2 : BkP W' W.heap.size y 101 := BkP.lat (by rw [ho]; exact heapN _ _) b
    have e := k.symm.trans k2
    injection e with e
    injection e with e1 e2
  · obtain ⟨y'', k''⟩ := h.stt hj e
    have := k''.lt
    omega
set_option maxRecDepth 100000 in
set_option maxHeartbeats 800000 in
theorem pass_live {w0 W : World} {B wb ab : Nat} {day : Int} {ca : Option Addr} {cc n : Nat} {G : Tg} {A : Nat → Option Nat} {l : Nat → Option Vs} {k : Nat} {code : List In} {u : Vs} (h : WkR W B wb ab day ca cc n G A l) (hB : B ≤ W.heap.size) (hk : k < n) (hn : n ≤ 262144) (hl : l k = some u) (hz : u.st.length ≤ 262143) (hb : Bs w0 B ca cc n code) (b0 : Below w0.heap.size w0 W) (i : In) (hi : code.getD k default = i) (hok : i.okP) (he : i.o = 0 ↔ k + 1 = n) :
    Calls Tryz.prog 37 #[.pointer (some ⟨wb, 0, none⟩), .int .i64 (k : Int)] W fun e w' => PsE W B wb ab day ca cc n l i k e w' := by
  obtain ⟨x, tx, px, hA, hx⟩ : ∃ x tx px, A k = some x ∧ SvR W B G x tx px u := by
    rcases h.st k hk with ⟨q, _⟩ | ⟨x, u', tb', ps', q1, q2, q3⟩
    · rw [hl] at q; cases q
    · rw [hl] at q1
      injection q1 with q1
      subst q1
      exact ⟨x, tb', ps', q2, q3⟩
  have hs := h.ok k u hl
  have V : vPass day n i k l = if (vDo day u i).1 ≠ 0 then ((vDo day u i).1, l) else vOn n i k (vDo day u i).2 l := by unfold vPass; rw [hl]
  have KD := Lib.hid (p := ∀ W', Below (W.alloc (hOb tx u.st.length px)).heap.size (W.alloc (hOb tx u.st.length px)) W' → Calls Tryz.prog 55 #[.pointer (some ⟨W.heap.size, 0, none⟩), .agg #[.int .i64 i.o, .int .i64 i.a, .int .i64 i.b], .int .i64 day] W' fun e w' => e = .returned (.int .i64 (vDo day u i).1) ∧ Below B W w' ∧ B ≤ w'.heap.size ∧ (∀ z y u, BkP W z y u → u ≠ 123 → u ≠ 101 → u ≠ 102 → BkP w' z y u) ∧ ∃ H, WkR w' B wb ab day ca cc n H A l ∧ ((vDo day u i).1 = 0 → ∃ tb ps, SvR w' B H W.heap.size tb ps (vDo day u i).2)) (fun W' b => by
    have b1 : Below W.heap.size W W' := (allocBP W _).trans (b.mono (allocBP _ _).size)
    have b2 : Below w0.heap.size w0 W' := b0.trans (b1.mono b0.size)
    have nb : BkP W' W.heap.size (stA tx u.st.length px) 101 := BkP.lat (heapN _ _) b
    refine (do_any (x := W.heap.size) (h.later b1).tri ⟨hx.top, nb, hx.slt.later b1, hB⟩ hs i hok day (hb.rw.below b2) (hb.ru.lat b2) (Nat.lt_of_lt_of_le hb.ru.1 hb.lo) (Nat.le_trans hB b1.size) hz).mono ?_
    rintro e w' ⟨p1, H, p2, p3⟩
    exact ⟨p1, (b1.mono hB).trans p2.bel, Nat.le_trans hB (Nat.le_trans b1.size p2.bel.size), fun z y t kk a b c => p2.stay z y t (kk.lat b1) (fun e => by have := kk.lt; omega) a, H, pass_do (t := 0) h b p2 rfl, p3⟩)
  have KO := Lib.hid (p := ∀ W' H tb ps, Below B W W' → B ≤ W'.heap.size → (∀ z y u, BkP W z y u → u ≠ 123 → u ≠ 101 → u ≠ 102 → BkP W' z y u) → WkR W' B wb ab day ca cc n H A l → (vDo day u i).1 = 0 → SvR W' B H W.heap.size tb ps (vDo day u i).2 → Calls Tryz.prog 56 #[.pointer (some ⟨wb, 0, none⟩), .int .i64 (k : Int), .agg (stA tb (vDo day u i).2.st.length ps)] W' fun e w' => PsE W B wb ab day ca cc n l i k e w') (fun W' H tb ps b1 b2 b4 hW e0 hS => by
    have b3 : Below w0.heap.size w0 W' := b0.trans (b1.mono hb.lo)
    refine (handOn_any hW b2 hk hn (vDo_ok hs hok e0) hS.top hS.slt (hb.ir.later b3) i hi hok he).mono ?_
    rintro e w' ⟨p1, ⟨A', p2⟩, p3, p4⟩
    have V2 : vPass day n i k l = vOn n i k (vDo day u i).2 l := by rw [V, if_neg (by simpa using e0)]
    exact ⟨by rw [V2]; exact p1, ⟨H, A', by rw [V2]; exact p2⟩, b1.trans p3, fun z y t kk a b c => p4 z y t (b4 z y t kk a b c) a b c⟩)
  have EE := Lib.hid (p := (vDo day u i).1 ≠ 0 → ∀ W' H, Below B W W' → (∀ z y u, BkP W z y u → u ≠ 123 → u ≠ 101 → u ≠ 102 → BkP W' z y u) → WkR W' B wb ab day ca cc n H A l → PsE W B wb ab day ca cc n l i k (.returned (.int .i64 (vDo day u i).1)) W') (fun e0 W' H b1 b4 hW => by
    have V2 : vPass day n i k l = ((vDo day u i).1, l) := by rw [V, if_pos e0]
    exact ⟨by rw [V2], ⟨H, A, by rw [V2]; exact hW⟩, b1, b4⟩)
  have h1 := h.later (allocBP W (hOb tx u.st.length px))
  have c2 := h.wk.cell 2
  have d := h.ah.cell k
  rw [ahA_at _ _ _ hk, hA] at d
  simp [ptN] at c2 d
  have XB := Lib.hid hx.box
  obtain ⟨cx, co, hca, _, hc⟩ := ((hb.ir.later b0).later (allocBP W (hOb tx u.st.length px))).2.2.2.2.oneP (by omega)
  have q0 := hc k hk 0 (by omega)
  have q1 := hc k hk 1 (by omega)
  have q2 := hc k hk 2 (by omega)
  rw [hi] at q0 q1 q2
  simp only [icell, Nat.add_zero, List.getD_cons_zero, List.getD_cons_succ] at q0 q1 q2
  subst hca
  have w10 := h1.wk.cell 0
  have w11 := h1.wk.cell 1
  simp at w10 w11
  have k0 : ¬ (k : Int) < 0 := by omega
  have k1 : (k : Int) < (n : Int) := by omega
  clear h h1 hl hA hk V hx hB hn hz hb b0 hi hok he hs hc
  obtain ⟨io, ia, ib⟩ := i
  generalize hv : vDo day u ⟨io, ia, ib⟩ = dd at *
  clear hv
  generalize u.st.length = len at *
  unfold hOb at *
  simp only at q0 q1 q2 KD
  cases ez : (dd.1 != 0) with
  | true =>
    have e0 : dd.1 ≠ 0 := by simpa using ez
    have E1 := Lib.hid (EE.out e0)
    clear e0
    go_enter Tryz.func37, Tryz.ntmps37
    go_wp2_with (first | (with_reducible show wpList _ _ _ (Oper.mk _ (Op.load 101 _) _ _ _ _ :: _) _ _; refine load_st rfl _ rfl x rfl tx len px XB.out ?_) | (with_reducible show wpList _ _ _ (Oper.mk _ (Op.store 101 _ _) _ _ _ _ :: _) _ _; refine store_st rfl _ _ rfl _ rfl tx len px rfl rfl ?_))
    go_region_with (go_at_call 55; refine (KD.out _ (by first | exact Below.refl _ _ | exact drew1B _)).mono ?_; rintro e w3 ⟨rfl, h1, h2, hy, H, h3, h4⟩; have B3 := Lib.hid h1; have R3 := Lib.hid h3; have Y3 := Lib.hid hy; clear h1 h2 h3 h4 hy)
    all_goals
      go_wp2
      go_ret
      first
        | exact E1.out _ H B3.out Y3.out R3.out
        | exact E1.out _ H B3.out.drew (fun z y t kk a b c => (Y3.out z y t kk a b c).lat (drew1B _)) (R3.out.later (drew1B _))
  | false =>
    have e0 : dd.1 = 0 := by simpa using ez
    have E0 := Lib.hid e0
    clear e0 EE
    go_enter Tryz.func37, Tryz.ntmps37
    go_wp2_with (first | (with_reducible show wpList _ _ _ (Oper.mk _ (Op.load 101 _) _ _ _ _ :: _) _ _; refine load_st rfl _ rfl x rfl tx len px XB.out ?_) | (with_reducible show wpList _ _ _ (Oper.mk _ (Op.store 101 _ _) _ _ _ _ :: _) _ _; refine store_st rfl _ _ rfl _ rfl tx len px rfl rfl ?_))
    go_region_with (go_at_call 55; refine (KD.out _ (by first | exact Below.refl _ _ | exact drew1B _)).mono ?_; rintro e w3 ⟨rfl, h1, h2, hy, H, h3, h4⟩; have Y3 := Lib.hid hy; have B3 := Lib.hid h1; have Z3 := Lib.hid h2; have R3 := Lib.hid h3; obtain ⟨tb3, ps3, s3⟩ := h4 E0.out; have S3 := Lib.hid s3; clear h1 h2 h3 h4 s3 hy)
    all_goals
      go_wp2_with (first | (with_reducible show wpList _ _ _ (Oper.mk _ (Op.load 101 _) _ _ _ _ :: _) _ _; refine load_st rfl _ rfl W.heap.size rfl tb3 dd.2.st.length ps3 (by first | exact S3.out.box | exact S3.out.box.lat (drew1B _)) ?_) | (go_at_call 56; (first | (refine (KO.out _ H tb3 ps3 B3.out Z3.out Y3.out R3.out E0.out S3.out).mono ?_) | (refine (KO.out _ H tb3 ps3 B3.out.drew Z3.out (fun z y t kk a b c => (Y3.out z y t kk a b c).lat (drew1B _)) (R3.out.later (drew1B _)) E0.out (S3.out.later (drew1B _))).mono ?_)); rintro e w4 ⟨rfl, h1, h2, h3⟩; have S4 := Lib.hid h1; have B4 := Lib.hid h2; have Y4 := Lib.hid h3; clear h1 h2 h3))
      go_ret
      exact ⟨rfl, S4.out, B4.out, Y4.out⟩
theorem pass_any {w0 W : World} {B wb ab : Nat} {day : Int} {ca : Option Addr} {cc n : Nat} {G : Tg} {A : Nat → Option Nat} {l : Nat → Option Vs} {k : Nat} {code : List In} (h : WkR W B wb ab day ca cc n G A l) (hB : B ≤ W.heap.size) (hk : k < n) (hn : n ≤ 262144) (hz : ∀ u, l k = some u → u.st.length ≤ 262143) (hb : Bs w0 B ca cc n code) (b0 : Below w0.heap.size w0 W) (hok : (code.getD k default).okP) (he : (code.getD k default).o = 0 ↔ k + 1 = n) :
    Calls Tryz.prog 37 #[.pointer (some ⟨wb, 0, none⟩), .int .i64 (k : Int)] W fun e w' => PsE W B wb ab day ca cc n l (code.getD k default) k e w' := by
  cases hl : l k with
  | none => exact pass_dead h hk hl
  | some u => exact pass_live h hB hk hn hl (hz u hl) hb b0 _ rfl hok he
end Go.Proofs.YtpfjnnkjoabgbaaGreatDoor

namespace Go.Proofs.YtpfjnnkjoabgbaaGreatDoor
set_option linter.unusedVariables false
set_option linter.unusedSimpArgs false
/-- The first d segments: the error, the segment, the place, the needs. -/
def vAll (days : List Sg) : Nat → Int × Nat × Nat × Nds
  | 0 => (0, 0, 0, ⟨0, 0, 0, 0, 0⟩)
  | d + 1 =>
    if (vAll days d).1 ≠ 0 then vAll days d
    else ((vRun (days.getD d default).day (days.getD d default).code (days.getD d default).code.length).1, d, (vRun (days.getD d default).day (days.getD d default).code (days.getD d default).code.length).2.1, vNeed (vAll days d).2.2.2 (days.getD d default).day (days.getD d default).code (days.getD d default).code.length)
def vFit (n : Nds) (p : Pg) : Prop := p.stack = n.stack ∧ p.slots = n.slots ∧ p.cells = n.cells
instance (n : Nds) (p : Pg) : Decidable (vFit n p) := by unfold vFit; exact inferInstance
/-- Verify of a canonical program. -/
def vfy (p : Pg) : Int × Nat × Nat × Nds :=
  if (vAll p.days p.days.length).1 ≠ 0 then ((vAll p.days p.days.length).1, (vAll p.days p.days.length).2.1, (vAll p.days p.days.length).2.2.1, ⟨0, 0, 0, 0, 0⟩)
  else if vFit (vAll p.days p.days.length).2.2.2 p then (0, 0, 0, (vAll p.days p.days.length).2.2.2)
  else (147, p.days.length, 0, ⟨0, 0, 0, 0, 0⟩)
theorem vHand_err {t : Option Vs} {s : Vs} : (vHand t s).1 = 0 ∨ (vHand t s).1 = 142 ∨ (vHand t s).1 = 143 := by
  unfold vHand
  cases t with
  | none => exact .inl rfl
  | some t =>
    simp only
    split
    · exact .inr (.inl rfl)
    split
    · exact .inr (.inr rfl)
    · exact .inl rfl
theorem vDo_err {day : Int} {s : Vs} {i : In} : (vDo day s i).1 = 0 ∨ (142 ≤ (vDo day s i).1 ∧ (vDo day s i).1 ≤ 145) := by
  unfold vDo
  simp only
  repeat' split
  all_goals simp
theorem vNx_err {i : In} {t : Option Vs} {s : Vs} : (vNx i t s).1 = 0 ∨ (vNx i t s).1 = 142 ∨ (vNx i t s).1 = 143 := by
  unfold vNx
  split
  · exact .inl rfl
  · exact vHand_err
theorem vOn_err {n k : Nat} {i : In} {s : Vs} {l : Nat → Option Vs} : (vOn n i k s l).1 = 0 ∨ (141 ≤ (vOn n i k s l).1 ∧ (vOn n i k s l).1 ≤ 143) := by
  unfold vOn
  split
  · right; simp
  split
  · have := vNx_err (i := i) (t := l (k + 1)) (s := s)
    simp only
    omega
  split
  · have := vHand_err (t := vSet l (k + 1) (vNx i (l (k + 1)) s).2 (k + 1 + i.a.toNat)) (s := s)
    simp only
    omega
  · exact .inl rfl
theorem vPass_err {day : Int} {n k : Nat} {i : In} {l : Nat → Option Vs} : (vPass day n i k l).1 = 0 ∨ (141 ≤ (vPass day n i k l).1 ∧ (vPass day n i k l).1 ≤ 146) := by
  unfold vPass
  cases hk : l k with
  | none => right; simp
  | some s =>
    simp only
    split
    · have := vDo_err (day := day) (s := s) (i := i)
      simp only
      omega
    · have := vOn_err (n := n) (k := k) (i := i) (s := (vDo day s i).2) (l := l)
      omega
/-- An instruction that does not jump behind the code does the same in longer code. -/
theorem vOn_len {n m k : Nat} {i : In} {s : Vs} {l : Nat → Option Vs} (h : (vOn n i k s l).1 ≠ 141) (hm : n ≤ m) : vOn m i k s l = vOn n i k s l := by
  by_cases e : isJ i ∧ n ≤ k + 1 + i.a.toNat
  · exact absurd (by unfold vOn; rw [if_pos e]) h
  · have e2 : ¬ (isJ i ∧ m ≤ k + 1 + i.a.toNat) := fun q => e ⟨q.1, by omega⟩
    unfold vOn
    rw [if_neg e, if_neg e2]
theorem vPass_len {day : Int} {n m k : Nat} {i : In} {l : Nat → Option Vs} (h : (vPass day n i k l).1 ≠ 141) (hm : n ≤ m) : vPass day m i k l = vPass day n i k l := by
  unfold vPass at h ⊢
  cases hk : l k with
  | none => rfl
  | some s =>
    rw [hk] at h
    simp only at h ⊢
    split
    · rfl
    · rename_i z
      rw [if_neg z] at h
      exact vOn_len h hm
theorem vRun_same {day : Int} {c d : List In} : ∀ k, c.length ≤ d.length → (∀ j, j < k → c.getD j default = d.getD j default) → (vRun day c k).1 = 0 → vRun day d k = vRun day c k
  | 0, _, _, _ => rfl
  | k + 1, hl, hs, h => by
    have h0 := vRun_before h (Nat.le_succ k)
    have ih := vRun_same k hl (fun j hj => hs j (by omega)) h0
    have e1 := vRun_succ h0
    have e2 := vRun_succ (code := d) (day := day) (k := k) (by rw [ih]; exact h0)
    rw [e1] at h
    simp only at h
    rw [e1, e2, ih, ← hs k (by omega), vPass_len (by rw [h]; decide) hl]
/-- Where the first error lies. -/
theorem vRun_at {day : Int} {c : List In} : ∀ k, (vRun day c k).1 ≠ 0 → (vRun day c k).2.1 < k ∧ (vRun day c (vRun day c k).2.1).1 = 0 ∧ vRun day c ((vRun day c k).2.1 + 1) = vRun day c k
  | 0, h => absurd rfl h
  | k + 1, h => by
    by_cases e : (vRun day c k).1 = 0
    · have e1 := vRun_succ e
      rw [e1]
      exact ⟨Nat.lt_succ_self _, e, e1⟩
    · have e1 := vRun_stop e (k + 1) (Nat.le_succ k)
      rw [e1]
      obtain ⟨a, b, c⟩ := vRun_at k e
      exact ⟨by omega, b, c⟩
theorem vRun_first {day : Int} {c d : List In} (hl : c.length ≤ d.length) (h : (vRun day c c.length).1 ≠ 0) (h1 : (vRun day c c.length).1 ≠ 141) (hs : ∀ j, j < (vRun day c c.length).2.1 + 1 → c.getD j default = d.getD j default) :
    vRun day d d.length = vRun day c c.length := by
  obtain ⟨a, b, e⟩ := vRun_at c.length h
  generalize hi : (vRun day c c.length).2.1 = i at *
  have r := vRun_same i hl (fun j hj => hs j (by omega)) b
  have e1 := vRun_succ b
  have e2 := vRun_succ (code := d) (day := day) (k := i) (by rw [r]; exact b)
  have q : vRun day d (i + 1) = vRun day c (i + 1) := by
    rw [e2, r, ← hs i (by omega), e1]
    have g : (vPass day c.length (c.getD i default) i (vRun day c i).2.2).1 ≠ 141 := by
      intro z
      rw [e1] at e
      exact h1 (by rw [← e]; exact z)
    rw [vPass_len g hl]
  have z : (vRun day d (i + 1)).1 ≠ 0 := by rw [q, e]; exact h
  rw [vRun_stop z d.length (by omega), q, e]
theorem vAll_stop {l : List Sg} {k : Nat} (h : (vAll l k).1 ≠ 0) : ∀ m, k ≤ m → vAll l m = vAll l k
  | 0, hm => by rw [show k = 0 by omega]
  | m + 1, hm => by
    by_cases e : k = m + 1
    · rw [e]
    · have ih := vAll_stop h m (by omega)
      simp only [vAll]
      rw [ih, if_pos h]
theorem vAll_before {l : List Sg} {m : Nat} (h : (vAll l m).1 = 0) {k : Nat} (hk : k ≤ m) : (vAll l k).1 = 0 := by
  by_cases e : (vAll l k).1 = 0
  · exact e
  · rw [vAll_stop e m hk] at h
    exact absurd h e
theorem vAll_succ {l : List Sg} {d : Nat} (h : (vAll l d).1 = 0) : vAll l (d + 1) = ((vRun (l.getD d default).day (l.getD d default).code (l.getD d default).code.length).1, d, (vRun (l.getD d default).day (l.getD d default).code (l.getD d default).code.length).2.1, vNeed (vAll l d).2.2.2 (l.getD d default).day (l.getD d default).code (l.getD d default).code.length) := by
  simp [vAll, h]
theorem vAll_at {l : List Sg} : ∀ k, (vAll l k).1 ≠ 0 → (vAll l k).2.1 < k ∧ (vAll l (vAll l k).2.1).1 = 0 ∧ vAll l ((vAll l k).2.1 + 1) = vAll l k
  | 0, h => absurd rfl h
  | k + 1, h => by
    by_cases e : (vAll l k).1 = 0
    · have e1 := vAll_succ e
      rw [e1]
      exact ⟨Nat.lt_succ_self _, e, e1⟩
    · have e1 := vAll_stop e (k + 1) (Nat.le_succ k)
      rw [e1]
      obtain ⟨a, b, c⟩ := vAll_at k e
      exact ⟨by omega, b, c⟩
theorem vAll_same {l m : List Sg} : ∀ k, (∀ j, j < k → (l.getD j default).day = (m.getD j default).day ∧ (l.getD j default).code = (m.getD j default).code) → vAll m k = vAll l k
  | 0, _ => rfl
  | k + 1, h => by
    have ih := vAll_same k (fun j hj => h j (by omega)) (l := l) (m := m)
    obtain ⟨h1, h2⟩ := h k (by omega)
    simp only [vAll]
    rw [ih, ← h1, ← h2]
/-- P1404. -/
theorem vfy_first {p q : Pg} (h1 : 141 < (vfy p).1) (h2 : (vfy p).1 ≤ 146) (hs : (vfy p).2.1 < q.days.length) (hd : (p.days.getD (vfy p).2.1 default).day = (q.days.getD (vfy p).2.1 default).day)
    (hl : (p.days.getD (vfy p).2.1 default).code.length ≤ (q.days.getD (vfy p).2.1 default).code.length)
    (hc : ∀ j, j < (vfy p).2.2.1 + 1 → (p.days.getD (vfy p).2.1 default).code.getD j default = (q.days.getD (vfy p).2.1 default).code.getD j default)
    (hb : ∀ d, d < (vfy p).2.1 → (p.days.getD d default).day = (q.days.getD d default).day ∧ (p.days.getD d default).code = (q.days.getD d default).code) : vfy q = vfy p := by
  by_cases e : (vAll p.days p.days.length).1 = 0
  · exfalso
    unfold vfy at h1 h2
    rw [if_neg (by simpa using e)] at h1 h2
    split at h1
    · simp at h1
    · rename_i z; rw [if_neg z] at h2; simp at h2
  · have ev : vfy p = ((vAll p.days p.days.length).1, (vAll p.days p.days.length).2.1, (vAll p.days p.days.length).2.2.1, ⟨0, 0, 0, 0, 0⟩) := by unfold vfy; rw [if_pos e]
    rw [ev] at h1 h2 hs hd hl hc hb
    simp only at h1 h2 hs hd hl hc hb
    obtain ⟨a, b, c⟩ := vAll_at p.days.length e
    generalize hsg : (vAll p.days p.days.length).2.1 = s at *
    have c0 := vAll_succ b
    rw [c] at c0
    have r := vAll_same s hb
    have c1 := vAll_succ (l := q.days) (d := s) (by rw [r]; exact b)
    rw [c0] at h1 h2 hc e
    simp only at h1 h2 hc e
    have f := vRun_first hl e (by omega) hc
    rw [← hd, f] at c1
    have z : (vAll q.days (s + 1)).1 ≠ 0 := by rw [c1]; exact e
    have g := vAll_stop z q.days.length (by omega)
    rw [ev]
    unfold vfy
    rw [g, if_pos z, c1, c0]
end Go.Proofs.YtpfjnnkjoabgbaaGreatDoor

namespace Go.Proofs.YtpfjnnkjoabgbaaGreatDoor
set_option linter.unusedVariables false
set_option linter.unusedSimpArgs false
/-- No state is higher than k. -/
def Hle (k : Nat) (l : Nat → Option Vs) : Prop := ∀ j u, l j = some u → u.st.length ≤ k
theorem vDo_high {day : Int} {s : Vs} {i : In} : (vDo day s i).2.st.length ≤ s.st.length + 1 := by
  unfold vDo
  simp only
  repeat' split
  all_goals simp only [List.length_cons, List.length_drop]
  all_goals omega
theorem vHand_high {t : Option Vs} {s : Vs} {k : Nat} (ht : ∀ u, t = some u → u.st.length ≤ k) (hs : s.st.length ≤ k) : ∀ u, (vHand t s).2 = some u → u.st.length ≤ k := by
  intro u hu
  unfold vHand at hu
  cases t with
  | none => simp at hu; subst hu; exact hs
  | some t =>
    have ht := ht t rfl
    simp only at hu
    split at hu
    · simp at hu; subst hu; exact ht
    split at hu
    · simp at hu; subst hu; exact ht
    · simp at hu
      subst hu
      exact ht
theorem vSet_high {l : Nat → Option Vs} {k t : Nat} {v : Option Vs} (hl : Hle k l) (hv : ∀ u, v = some u → u.st.length ≤ k) : Hle k (vSet l t v) := by
  intro j u h
  unfold vSet at h
  split at h
  · exact hv u h
  · exact hl j u h
theorem vOn_high {n k m : Nat} {i : In} {s : Vs} {l : Nat → Option Vs} (hl : Hle m l) (hs : s.st.length ≤ m) : Hle m (vOn n i k s l).2 := by
  have h1 : ∀ u, (vNx i (l (k + 1)) s).2 = some u → u.st.length ≤ m := by
    intro u hu
    unfold vNx at hu
    split at hu
    · exact hl _ u hu
    · exact vHand_high (fun u hu => hl _ u hu) hs u hu
  have l1 := vSet_high (t := k + 1) hl h1
  unfold vOn
  generalize vNx i (l (k + 1)) s = h at *
  split
  · exact hl
  · split
    · exact hl
    · split
      · exact vSet_high l1 (vHand_high (fun u hu => l1 _ u hu) hs)
      · exact l1
theorem vPass_high {day : Int} {n k m : Nat} {i : In} {l : Nat → Option Vs} (hl : Hle m l) : Hle (m + 1) (vPass day n i k l).2 := by
  have up : Hle (m + 1) l := fun j u e => Nat.le_succ_of_le (hl j u e)
  unfold vPass
  cases hk : l k with
  | none => exact up
  | some s =>
    simp only
    split
    · exact up
    · rename_i h
      exact vOn_high up (Nat.le_trans vDo_high (by have := hl k s hk; omega))
theorem vRun_high {day : Int} {code : List In} : ∀ k, Hle k (vRun day code k).2.2
  | 0 => by
    intro j u h
    simp only [vRun, vStart] at h
    split at h
    · simp at h; subst h; simp
    · cases h
  | k + 1 => by
    have ih := vRun_high (day := day) (code := code) k
    simp only [vRun]
    split
    · exact fun j u e => Nat.le_succ_of_le (ih j u e)
    · exact vPass_high ih
end Go.Proofs.YtpfjnnkjoabgbaaGreatDoor

namespace Go.Proofs.YtpfjnnkjoabgbaaGreatDoor
open Go.RowKit
set_option linter.unusedVariables false
set_option linter.unusedSimpArgs false
theorem infoPtV : (Tryz.prog.info? 102).map (fun i => (i.zero, i.size, i.bytes)) = some (some (.pointer none), 1, 8) := by kernel_rfl
theorem make_ptrs (n : Nat) (hn : n ≤ 262144) (W : World) : (Instr.makeSlice 103 (.int .i64 (n : Int)) (.int .i64 (n : Int))).run Tryz.prog W = .ok (.slice (some ⟨W.heap.size, 0, none⟩) n n) (W.alloc (.cells (madeCells #[.pointer none] n) 102)) := by
  obtain ⟨i0, hi, hz0, hz1, hz2⟩ := info_parts infoPtV
  have := run_make (P := Tryz.prog) W 103 102 i0 _ Tryz.underlying103 hi hz0 .i64 .i64 n n (by omega) (by omega) (by rw [hz2]; omega) (by omega)
  rw [hz1] at this
  simpa [Value.cells] using this
theorem made_ptrs (n : Nat) : madeCells #[.pointer none] n = ahA (fun _ => none) n := by
  apply Array.ext_getElem?
  intro k
  by_cases hk : k < n
  · rw [ahA_at _ _ _ hk]
    unfold madeCells
    simp [hk, ptN, Nat.mod_one]
  · rw [Array.getElem?_eq_none (by simp [madeCells]; omega), Array.getElem?_eq_none (by rw [ahA_size]; omega)]
abbrev rootO : Obj := .cells #[.int .u8 0, .pointer none, .pointer none, .pointer none, .pointer none] 123
abbrev st0O (r : Nat) : Obj := .cells #[.pointer (some ⟨r, 0, none⟩), .int .i64 0, .pointer none, .pointer none, .pointer none, .pointer none, .pointer none, .pointer none, .pointer none, .pointer none, .pointer none, .pointer none, .pointer none, .pointer none, .pointer none, .pointer none, .pointer none, .pointer none] 101
theorem st0_eq (r : Nat) : (#[.pointer (some ⟨r, 0, none⟩), .int .i64 0, .pointer none, .pointer none, .pointer none, .pointer none, .pointer none, .pointer none, .pointer none, .pointer none, .pointer none, .pointer none, .pointer none, .pointer none, .pointer none, .pointer none, .pointer none, .pointer none] : Array Value) = stA r 0 (fun _ => none) := rfl
theorem enter_mk {V : World} {B wb ab : Nat} {day : Int} {ca : Option Addr} {cc n : Nat} (h1 : BkP V wb #[.int .i64 day, .slice ca n cc, .slice (some ⟨ab, 0, none⟩) n n] 105) (h2 : BkP V ab (ahA (fun _ => none) n) 102) (b1 : B ≤ wb) (b2 : B ≤ ab) (b3 : B ≤ V.heap.size) (hn : 0 < n) :
    ∃ G A, WkR (((V.alloc rootO).alloc (st0O V.heap.size)).setCell ⟨ab, 0, none⟩ (.pointer (some ⟨V.heap.size + 1, 0, none⟩))) B wb ab day ca cc n G A vStart := by
  have s1 : (V.alloc rootO).heap.size = V.heap.size + 1 := by simp
  have r0 : BkP (V.alloc rootO) V.heap.size #[.int .u8 0, .pointer none, .pointer none, .pointer none, .pointer none] 123 := heapN _ _
  have r1 := r0.lat (allocBP _ (st0O V.heap.size))
  have t1 : BkP ((V.alloc rootO).alloc (st0O V.heap.size)) (V.heap.size + 1) (stA V.heap.size 0 (fun _ => none)) 101 := by
    have := heapN (V.alloc rootO) (st0O V.heap.size)
    rw [s1] at this
    exact this
  have w1 := (h1.lat (allocBP _ rootO)).lat (allocBP _ (st0O V.heap.size))
  have a1 := (h2.lat (allocBP _ rootO)).lat (allocBP _ (st0O V.heap.size))
  have na : ab < V.heap.size := h2.lt
  have nw : wb ≠ ab := bk_ne h1 h2 (by decide)
  refine ⟨fun s => if s = [] then some V.heap.size else none, fun j => if j = 0 then some (V.heap.size + 1) else none, ?_, w1.other ab _ _ (Ne.symm nw), ?_, ?_, ?_, ⟨b1, b2⟩, vStart_ok⟩
  · refine ⟨⟨V.heap.size, by simp⟩, ?_, ?_, ?_⟩
    · intro s b e
      by_cases hs : s = []
      · subst hs
        simp at e
        subst e
        refine ⟨b3, ?_⟩
        have := r1.other ab 0 (.pointer (some ⟨V.heap.size + 1, 0, none⟩)) (by omega)
        simpa [cellA, blwN, ptN] using this
      · simp [hs] at e
    · intro s t b e1 e2
      by_cases hs : s = [] <;> by_cases ht : t = []
      · rw [hs, ht]
      · simp [ht] at e2
      · simp [hs] at e1
      · simp [hs] at e1
    · intro x s b e
      simp at e
  · have := a1.set2 0 (.pointer (some ⟨V.heap.size + 1, 0, none⟩)) (by rw [ahA_size]; exact hn)
    rw [ahA_set _ _ _ _ hn] at this
    have e : (fun i => if i = 0 then some (V.heap.size + 1) else (fun _ => none) i) = (fun j => if j = 0 then some (V.heap.size + 1) else (none : Option Nat)) := rfl
    rw [e] at this
    exact this
  · intro j hj
    by_cases e : j = 0
    · subst e
      refine .inr ⟨V.heap.size + 1, ⟨[], fun _ => 0⟩, V.heap.size, fun _ => none, by simp [vStart], by simp, by simp, t1.other ab _ _ (by omega), ?_, by omega⟩
      intro j hj
      exact .inl ⟨rfl, fun m hm => rfl⟩
    · exact .inl ⟨by simp [vStart, e], by simp [e]⟩
  · intro i j x hi hj e1 e2
    by_cases h1 : i = 0 <;> by_cases h2 : j = 0
    · rw [h1, h2]
    · simp [h2] at e2
    · simp [h1] at e1
    · simp [h1] at e1
structure EnE (w : World) (B : Nat) (day : Int) (ca : Option Addr) (cc n : Nat) (e : Ending) (w' : World) : Prop where
  ret : ∃ wb ab G A, e = .returned (.pointer (some ⟨wb, 0, none⟩)) ∧ WkR w' B wb ab day ca cc n G A vStart
  bel : Below w.heap.size w w'
theorem enter_world (w : World) (day : Int) (ca : Option Addr) (cc n : Nat) :
    BkP ((((w.alloc (.cells #[.int .i64 day, .slice ca n cc] 71)).alloc (.cells (madeCells #[.pointer none] n) 102)).alloc (.cells #[.int .i64 day, .slice ca n cc, .slice (some ⟨w.heap.size + 1, 0, none⟩) n n] 105)).drew) (w.heap.size + 1 + 1) #[.int .i64 day, .slice ca n cc, .slice (some ⟨w.heap.size + 1, 0, none⟩) n n] 105 ∧
    BkP ((((w.alloc (.cells #[.int .i64 day, .slice ca n cc] 71)).alloc (.cells (madeCells #[.pointer none] n) 102)).alloc (.cells #[.int .i64 day, .slice ca n cc, .slice (some ⟨w.heap.size + 1, 0, none⟩) n n] 105)).drew) (w.heap.size + 1) (ahA (fun _ => none) n) 102 ∧
    ((((w.alloc (.cells #[.int .i64 day, .slice ca n cc] 71)).alloc (.cells (madeCells #[.pointer none] n) 102)).alloc (.cells #[.int .i64 day, .slice ca n cc, .slice (some ⟨w.heap.size + 1, 0, none⟩) n n] 105)).drew).heap.size = w.heap.size + 3 ∧
    Below w.heap.size w ((((w.alloc (.cells #[.int .i64 day, .slice ca n cc] 71)).alloc (.cells (madeCells #[.pointer none] n) 102)).alloc (.cells #[.int .i64 day, .slice ca n cc, .slice (some ⟨w.heap.size + 1, 0, none⟩) n n] 105)).drew) := by
  have e1 : (w.alloc (.cells #[.int .i64 day, .slice ca n cc] 71)).heap.size = w.heap.size + 1 := by simp
  have e2 : ((w.alloc (.cells #[.int .i64 day, .slice ca n cc] 71)).alloc (.cells (madeCells #[.pointer none] n) 102)).heap.size = w.heap.size + 1 + 1 := by simp
  have k1 := heapN (w.alloc (.cells #[.int .i64 day, .slice ca n cc] 71)) (.cells (madeCells #[.pointer none] n) 102)
  have k2 := heapN ((w.alloc (.cells #[.int .i64 day, .slice ca n cc] 71)).alloc (.cells (madeCells #[.pointer none] n) 102)) (.cells #[.int .i64 day, .slice ca n cc, .slice (some ⟨w.heap.size + 1, 0, none⟩) n n] 105)
  rw [e1, made_ptrs] at k1
  rw [e2] at k2
  refine ⟨k2, ?_, by simp, ?_⟩
  · have k3 : BkP ((w.alloc (.cells #[.int .i64 day, .slice ca n cc] 71)).alloc (.cells (madeCells #[.pointer none] n) 102)) (w.heap.size + 1) (ahA (fun _ => none) n) 102 := by rw [made_ptrs]; exact k1
    exact (k3.lat (allocBP _ _)).lat (drew1B _)
  · exact ((((Below.refl _ w).alloc (Nat.le_refl _) _).alloc (by simp) _).alloc (by simp; omega) _).drew
set_option maxRecDepth 100000 in
set_option maxHeartbeats 800000 in
theorem enter_any {w : World} {B : Nat} {day : Int} {ca : Option Addr} {cc n : Nat} (hB : B ≤ w.heap.size) (hn : 0 < n) (h2 : n ≤ 262144) :
    Calls Tryz.prog 36 #[.agg #[.int .i64 day, .slice ca n cc]] w fun e w' => EnE w B day ca cc n e w' := by
  have M0 := make_ptrs n h2
  have k1 : (0 : Int) < (n : Int) := by omega
  have HB := Lib.hid hB
  have HN := Lib.hid hn
  clear hB hn h2
  go_enter Tryz.func36, Tryz.ntmps36
  go_wp2
  go_region
  have VF := enter_world w day ca cc n
  generalize hV : (((w.alloc (.cells #[.int .i64 day, .slice ca n cc] 71)).alloc (.cells (madeCells #[.pointer none] n) 102)).alloc (.cells #[.int .i64 day, .slice ca n cc, .slice (some ⟨w.heap.size + 1, 0, none⟩) n n] 105)).drew = V at *
  clear hV
  obtain ⟨f1, f2, f3, f4⟩ := VF
  have E := Lib.hid (enter_mk f1 f2 (B := B) (by have := HB.out; omega) (by have := HB.out; omega) (by have := HB.out; omega) HN.out)
  have BB := Lib.hid f4
  have c2 := f1.cell 2
  simp at c2
  have a1 := (f2.lat (allocBP _ rootO)).lat (allocBP _ (st0O V.heap.size))
  have d := a1.cell 0
  have f := a1.frozen 0
  rw [ahA_at _ _ _ HN.out] at d
  simp only [ptN, Option.map_none] at d
  unfold rootO st0O at *
  clear f1 f2 f3 f4 a1
  go_wp2
  go_ret
  obtain ⟨G, A, e⟩ := E.out
  exact ⟨⟨_, _, G, A, rfl, e⟩, ((BB.out.alloc BB.out.size _).alloc (Nat.le_trans BB.out.size (allocBP V _).size) _).setCell (p := ⟨w.heap.size + 1, 0, none⟩) (Nat.le_succ _) _⟩
end Go.Proofs.YtpfjnnkjoabgbaaGreatDoor
