import Derived.Test.YtpfjnnkjoabgbaaGreatDoorXAI
import Derived.Test.YtpfjnnkjoabgbaaGreatDoorXAN
namespace Go.Proofs.YtpfjnnkjoabgbaaGreatDoor
open Go.RowKit
set_option linter.unusedVariables false
set_option linter.unusedSimpArgs false
theorem state_info : (Tryz.prog.info? 101).map (·.size) = some 18 := by kernel_rfl
theorem state_desc : ∃ d, Tryz.prog.underlying 101 = some d ∧ d.isRow = true := ⟨_, Tryz.underlying101, rfl⟩
theorem load_st {ops : Array Oper} {rest : List Oper} {op : Oper} {a : Act} {w : World} {Q : Exit → Act → World → Prop} (hgd : op.guard = none) (x : Operand) (ho : op.op = .load 101 x) (b : Nat) (hx : a.eval x = .pointer (some ⟨b, 0, none⟩)) (tb len : Nat) (ps : Nat → Option Nat) (hb : BkP w b (stA tb len ps) 101) (h : wpList Tryz.prog ops Q rest (a.put op.dst (.agg (stA tb len ps))) w) : wpList Tryz.prog ops Q (op :: rest) a w := by
  have hr := World.rangeAt_of_block hb 0 18
  have he : (stA tb len ps).extract 0 (0 + 18) = stA tb len ps := by
    have := stA_size tb len ps
    simp only [Nat.zero_add]
    rw [← this, Array.extract_size]
  rw [he] at hr
  obtain ⟨d, d1, d2⟩ := state_desc
  refine wpList_load_mid hgd 101 x ho b 0 hx (stA tb len ps).toList d hr d1 d2 (by rw [state_info]; simp [stA]) ?_
  simpa using h
theorem vNx_err_id {i : In} {l : Nat → Option Vs} {k : Nat} {s : Vs} (h : (vHand (l k) s).1 ≠ 0) : vSet l k (vHand (l k) s).2 = l := by
  apply vSet_id
  unfold vHand at h ⊢
  cases hl : l k with
  | none => rw [hl] at h; exact absurd rfl h
  | some t =>
    rw [hl] at h
    simp only at h ⊢
    split
    · rfl
    split
    · rfl
    · rename_i q1 q2
      rw [if_neg q1, if_neg q2] at h
      exact absurd rfl h
theorem vOn_end {n k : Nat} {i : In} {s : Vs} {l : Nat → Option Vs} (ho : i.o = 0) : vOn n i k s l = (0, l) := by
  have j : ¬ isJ i := by unfold isJ; omega
  have nx : ∀ t, vNx i t s = (0, t) := fun t => by unfold vNx; rw [if_pos (.inr ho)]
  unfold vOn
  rw [if_neg (fun q => j q.1), nx, if_neg (by simp), if_neg j, vSet_id rfl]
theorem vOn_other {n k : Nat} {i : In} {s : Vs} {l : Nat → Option Vs} (h0 : i.o ≠ 0) (h6 : i.o ≠ 26) (h7 : i.o ≠ 27) : vOn n i k s l = ((vHand (l (k + 1)) s).1, vSet l (k + 1) (vHand (l (k + 1)) s).2) := by
  have j : ¬ isJ i := by unfold isJ; omega
  have nx : ∀ t, vNx i t s = vHand t s := fun t => by unfold vNx; rw [if_neg (by omega)]
  unfold vOn
  rw [if_neg (fun q => j q.1), nx]
  by_cases e : (vHand (l (k + 1)) s).1 = 0
  · rw [if_neg (by simpa using e), if_neg j, e]
  · rw [if_pos e, vNx_err_id (i := i) e]
theorem vOn_jump {n k : Nat} {i : In} {s : Vs} {l : Nat → Option Vs} (ho : i.o = 26) (hf : ¬ n ≤ k + 1 + i.a.toNat) : vOn n i k s l = ((vHand (l (k + 1 + i.a.toNat)) s).1, vSet l (k + 1 + i.a.toNat) (vHand (l (k + 1 + i.a.toNat)) s).2) := by
  have j : isJ i := .inl ho
  have nx : ∀ t, vNx i t s = (0, t) := fun t => by unfold vNx; rw [if_pos (.inl ho)]
  unfold vOn
  rw [if_neg (fun q => hf q.2), nx, if_neg (by simp), if_pos j]
  simp only
  rw [vSet_id (rfl : l (k + 1) = l (k + 1))]
theorem vOn_zero1 {n k : Nat} {i : In} {s : Vs} {l : Nat → Option Vs} (ho : i.o = 27) (hf : ¬ n ≤ k + 1 + i.a.toNat) (he : (vHand (l (k + 1)) s).1 ≠ 0) : vOn n i k s l = ((vHand (l (k + 1)) s).1, vSet l (k + 1) (vHand (l (k + 1)) s).2) := by
  have nx : ∀ t, vNx i t s = vHand t s := fun t => by unfold vNx; rw [if_neg (by omega)]
  unfold vOn
  rw [if_neg (fun q => hf q.2), nx, if_pos he, vNx_err_id (i := i) he]
theorem vOn_zero2 {n k : Nat} {i : In} {s : Vs} {l : Nat → Option Vs} (ho : i.o = 27) (hf : ¬ n ≤ k + 1 + i.a.toNat) (he : (vHand (l (k + 1)) s).1 = 0) : vOn n i k s l = ((vHand (vSet l (k + 1) (vHand (l (k + 1)) s).2 (k + 1 + i.a.toNat)) s).1, vSet (vSet l (k + 1) (vHand (l (k + 1)) s).2) (k + 1 + i.a.toNat) (vHand (vSet l (k + 1) (vHand (l (k + 1)) s).2 (k + 1 + i.a.toNat)) s).2) := by
  have j : isJ i := .inr ho
  have nx : ∀ t, vNx i t s = vHand t s := fun t => by unfold vNx; rw [if_neg (by omega)]
  unfold vOn
  rw [if_neg (fun q => hf q.2), nx, if_neg (by simpa using he), if_pos j]
/-- What handOn leaves. -/
structure HoE (W : World) (B wb ab : Nat) (day : Int) (ca : Option Addr) (cc n : Nat) (G : Tg) (A : Nat → Option Nat) (l : Nat → Option Vs) (i : In) (k : Nat) (s : Vs) (e : Ending) (V : World) : Prop where
  ret : e = .returned (.int .i64 (vOn n i k s l).1)
  sta : ∃ A', WkR V B wb ab day ca cc n G A' (vOn n i k s l).2
  bel : Below B W V
  stay : ∀ z y u, BkP W z y u → u ≠ 123 → u ≠ 101 → u ≠ 102 → BkP V z y u
theorem WkR.noY {W : World} {B wb ab : Nat} {day : Int} {ca : Option Addr} {cc n : Nat} {G : Tg} {A : Nat → Option Nat} {l : Nat → Option Vs} (h : WkR W B wb ab day ca cc n G A l) {z : Nat} (hz : W.heap.size ≤ z) : ¬ chX ab n A z := by
  rintro (e | ⟨j, hj, e⟩)
  · have := h.ah.lt; omega
  · obtain ⟨y, k⟩ := h.stt hj e
    have := k.lt
    omega
theorem WkR.noT {W : World} {B wb ab : Nat} {day : Int} {ca : Option Addr} {cc n : Nat} {G : Tg} {A : Nat → Option Nat} {l : Nat → Option Vs} (h : WkR W B wb ab day ca cc n G A l) {z : Nat} {y : Array Value} {t : TypeId} (k : BkP W z y t) (h1 : t ≠ 102) (h2 : t ≠ 101) : ¬ chX ab n A z := by
  rintro (e | ⟨j, hj, e⟩)
  · exact bk_ne k h.ah h1 e
  · obtain ⟨y', k'⟩ := h.stt hj e
    exact bk_ne k k' h2 rfl
set_option maxRecDepth 100000 in
set_option maxHeartbeats 800000 in
theorem on_far_j {w0 W : World} {B wb ab : Nat} {day : Int} {ca : Option Addr} {cc n : Nat} {G : Tg} {A : Nat → Option Nat} {l : Nat → Option Vs} {k tb : Nat} {s : Vs} {ps : Nat → Option Nat} {code : List In} (h : WkR W B wb ab day ca cc n G A l) (hB : B ≤ W.heap.size) (hk : k < n) (hn : n ≤ 262144) (hs : s.ok) (hg : G s.st = some tb) (hp : SlR W B ps s.sl) (hI : IR W ca n cc code) (o a b : Nat) (hi : code.getD k default = ⟨o, a, b⟩) (ha : a < 262144) (ho : o = 26) (hf : n ≤ k + 1 + a) :
    Calls Tryz.prog 56 #[.pointer (some ⟨wb, 0, none⟩), .int .i64 (k : Int), .agg (stA tb s.st.length ps)] W fun e w' => HoE W B wb ab day ca cc n G A l ⟨o, a, b⟩ k s e w' := by
  have W1 := Lib.hid (h.later (allocBP W (hOb tb s.st.length ps)))
  have W2 := Lib.hid (fun q => (h.later (allocBP W (hOb tb s.st.length ps))).later (bel_drV (allocBP (W.alloc (hOb tb s.st.length ps)) (ibx o a b)) q))
  have BY := Lib.hid (fun V (bb : Below (W.alloc (hOb tb s.st.length ps)).heap.size (W.alloc (hOb tb s.st.length ps)) V) => BkP.lat (heapN W (hOb tb s.st.length ps)) bb)
  have HB := Lib.hid hB
  obtain ⟨x, of, hca, _, hc⟩ := (hI.later (allocBP W (hOb tb s.st.length ps))).2.2.2.2.oneP (by omega)
  have c0 := hc k hk 0 (by omega)
  have c1 := hc k hk 1 (by omega)
  have c2 := hc k hk 2 (by omega)
  rw [hi] at c0 c1 c2
  simp only [icell, Nat.add_zero, List.getD_cons_zero, List.getD_cons_succ] at c0 c1 c2
  subst hca
  have d1 := W1.out.wk.cell 1
  simp at d1
  have e1 := (W1.out.later (allocBP _ (ibx o a b))).wk.cell 1
  simp at e1
  have k0 : ¬ (k : Int) < 0 := by omega
  have k1 : (k : Int) < (n : Int) := by omega
  have ks : IntKind.i64.wrap ((k : Int) + 1) = (k : Int) + 1 := by simp [IntKind.wrap, IntKind.bits, IntKind.signed]; omega
  have ts : IntKind.i64.wrap ((k : Int) + 1 + (a : Int)) = (k : Int) + 1 + (a : Int) := by simp [IntKind.wrap, IntKind.bits, IntKind.signed]; omega
  have V := Lib.hid (p := vOn n ⟨o, a, b⟩ k s l = (141, l)) (by unfold vOn; rw [if_pos ⟨by unfold isJ; simp only; omega, by simpa using hf⟩])
  have g0 : (n : Int) ≤ (k : Int) + 1 + (a : Int) := by omega
  have b26 : ((o : Int) == 26) = true := by simp; omega
  have m26 : ((o : Int) != 26) = false := by simp; omega
  have b27 : ((o : Int) == 27) = false := by simp; omega
  have m27 : ((o : Int) != 27) = true := by simp; omega
  have b0 : ((o : Int) == 0) = false := by simp; omega
  have m0 : ((o : Int) != 0) = true := by simp; omega
  clear h hI hk hn hs hg hp hi ha hc hB
  unfold ibx hOb at *
  clear ho hf
  go_enter Tryz.func56, Tryz.ntmps56
  go_wp2
  go_quiet (fail)
  go_wp2
  go_ret
  exact ⟨by rw [V.out]; rfl, ⟨A, by rw [V.out]; exact W2.out _⟩, ((Below.refl B W).alloc HB.out _).trans (Below.mono (bel_drV (allocBP _ _) _) (Nat.le_trans HB.out (allocBP W _).size)), fun z y u kk _ _ _ => kk.lat ((allocBP _ _).trans (Below.mono (bel_drV (allocBP _ _) _) (allocBP _ _).size))⟩
set_option maxRecDepth 100000 in
set_option maxHeartbeats 800000 in
theorem on_far_z {w0 W : World} {B wb ab : Nat} {day : Int} {ca : Option Addr} {cc n : Nat} {G : Tg} {A : Nat → Option Nat} {l : Nat → Option Vs} {k tb : Nat} {s : Vs} {ps : Nat → Option Nat} {code : List In} (h : WkR W B wb ab day ca cc n G A l) (hB : B ≤ W.heap.size) (hk : k < n) (hn : n ≤ 262144) (hs : s.ok) (hg : G s.st = some tb) (hp : SlR W B ps s.sl) (hI : IR W ca n cc code) (o a b : Nat) (hi : code.getD k default = ⟨o, a, b⟩) (ha : a < 262144) (ho : o = 27) (hf : n ≤ k + 1 + a) :
    Calls Tryz.prog 56 #[.pointer (some ⟨wb, 0, none⟩), .int .i64 (k : Int), .agg (stA tb s.st.length ps)] W fun e w' => HoE W B wb ab day ca cc n G A l ⟨o, a, b⟩ k s e w' := by
  have W1 := Lib.hid (h.later (allocBP W (hOb tb s.st.length ps)))
  have W2 := Lib.hid (fun q => (h.later (allocBP W (hOb tb s.st.length ps))).later (bel_drV (allocBP (W.alloc (hOb tb s.st.length ps)) (ibx o a b)) q))
  have BY := Lib.hid (fun V (bb : Below (W.alloc (hOb tb s.st.length ps)).heap.size (W.alloc (hOb tb s.st.length ps)) V) => BkP.lat (heapN W (hOb tb s.st.length ps)) bb)
  have HB := Lib.hid hB
  obtain ⟨x, of, hca, _, hc⟩ := (hI.later (allocBP W (hOb tb s.st.length ps))).2.2.2.2.oneP (by omega)
  have c0 := hc k hk 0 (by omega)
  have c1 := hc k hk 1 (by omega)
  have c2 := hc k hk 2 (by omega)
  rw [hi] at c0 c1 c2
  simp only [icell, Nat.add_zero, List.getD_cons_zero, List.getD_cons_succ] at c0 c1 c2
  subst hca
  have d1 := W1.out.wk.cell 1
  simp at d1
  have e1 := (W1.out.later (allocBP _ (ibx o a b))).wk.cell 1
  simp at e1
  have k0 : ¬ (k : Int) < 0 := by omega
  have k1 : (k : Int) < (n : Int) := by omega
  have ks : IntKind.i64.wrap ((k : Int) + 1) = (k : Int) + 1 := by simp [IntKind.wrap, IntKind.bits, IntKind.signed]; omega
  have ts : IntKind.i64.wrap ((k : Int) + 1 + (a : Int)) = (k : Int) + 1 + (a : Int) := by simp [IntKind.wrap, IntKind.bits, IntKind.signed]; omega
  have V := Lib.hid (p := vOn n ⟨o, a, b⟩ k s l = (141, l)) (by unfold vOn; rw [if_pos ⟨by unfold isJ; simp only; omega, by simpa using hf⟩])
  have g0 : (n : Int) ≤ (k : Int) + 1 + (a : Int) := by omega
  have b26 : ((o : Int) == 26) = false := by simp; omega
  have m26 : ((o : Int) != 26) = true := by simp; omega
  have b27 : ((o : Int) == 27) = true := by simp; omega
  have m27 : ((o : Int) != 27) = false := by simp; omega
  have b0 : ((o : Int) == 0) = false := by simp; omega
  have m0 : ((o : Int) != 0) = true := by simp; omega
  clear h hI hk hn hs hg hp hi ha hc hB
  unfold ibx hOb at *
  clear ho hf
  go_enter Tryz.func56, Tryz.ntmps56
  go_wp2
  go_quiet (fail)
  go_wp2
  go_ret
  exact ⟨by rw [V.out]; rfl, ⟨A, by rw [V.out]; exact W2.out _⟩, ((Below.refl B W).alloc HB.out _).trans (Below.mono (bel_drV (allocBP _ _) _) (Nat.le_trans HB.out (allocBP W _).size)), fun z y u kk _ _ _ => kk.lat ((allocBP _ _).trans (Below.mono (bel_drV (allocBP _ _) _) (allocBP _ _).size))⟩
set_option maxRecDepth 100000 in
set_option maxHeartbeats 800000 in
theorem on_end {w0 W : World} {B wb ab : Nat} {day : Int} {ca : Option Addr} {cc n : Nat} {G : Tg} {A : Nat → Option Nat} {l : Nat → Option Vs} {k tb : Nat} {s : Vs} {ps : Nat → Option Nat} {code : List In} (h : WkR W B wb ab day ca cc n G A l) (hB : B ≤ W.heap.size) (hk : k < n) (hn : n ≤ 262144) (hs : s.ok) (hg : G s.st = some tb) (hp : SlR W B ps s.sl) (hI : IR W ca n cc code) (o a b : Nat) (hi : code.getD k default = ⟨o, a, b⟩) (ha : a < 262144) (ho : o = 0) :
    Calls Tryz.prog 56 #[.pointer (some ⟨wb, 0, none⟩), .int .i64 (k : Int), .agg (stA tb s.st.length ps)] W fun e w' => HoE W B wb ab day ca cc n G A l ⟨o, a, b⟩ k s e w' := by
  have W1 := Lib.hid (h.later (allocBP W (hOb tb s.st.length ps)))
  have W2 := Lib.hid (fun q => (h.later (allocBP W (hOb tb s.st.length ps))).later (bel_drV (allocBP (W.alloc (hOb tb s.st.length ps)) (ibx o a b)) q))
  have BY := Lib.hid (fun V (bb : Below (W.alloc (hOb tb s.st.length ps)).heap.size (W.alloc (hOb tb s.st.length ps)) V) => BkP.lat (heapN W (hOb tb s.st.length ps)) bb)
  have HB := Lib.hid hB
  obtain ⟨x, of, hca, _, hc⟩ := (hI.later (allocBP W (hOb tb s.st.length ps))).2.2.2.2.oneP (by omega)
  have c0 := hc k hk 0 (by omega)
  have c1 := hc k hk 1 (by omega)
  have c2 := hc k hk 2 (by omega)
  rw [hi] at c0 c1 c2
  simp only [icell, Nat.add_zero, List.getD_cons_zero, List.getD_cons_succ] at c0 c1 c2
  subst hca
  have d1 := W1.out.wk.cell 1
  simp at d1
  have e1 := (W1.out.later (allocBP _ (ibx o a b))).wk.cell 1
  simp at e1
  have k0 : ¬ (k : Int) < 0 := by omega
  have k1 : (k : Int) < (n : Int) := by omega
  have ks : IntKind.i64.wrap ((k : Int) + 1) = (k : Int) + 1 := by simp [IntKind.wrap, IntKind.bits, IntKind.signed]; omega
  have ts : IntKind.i64.wrap ((k : Int) + 1 + (a : Int)) = (k : Int) + 1 + (a : Int) := by simp [IntKind.wrap, IntKind.bits, IntKind.signed]; omega
  have V := Lib.hid (p := vOn n ⟨o, a, b⟩ k s l = (0, l)) (vOn_end (by simp only; omega))
  have b26 : ((o : Int) == 26) = false := by simp; omega
  have m26 : ((o : Int) != 26) = true := by simp; omega
  have b27 : ((o : Int) == 27) = false := by simp; omega
  have m27 : ((o : Int) != 27) = true := by simp; omega
  have b0 : ((o : Int) == 0) = true := by simp; omega
  have m0 : ((o : Int) != 0) = false := by simp; omega
  clear h hI hk hn hs hg hp hi ha hc hB
  unfold ibx hOb at *
  clear ho
  go_enter Tryz.func56, Tryz.ntmps56
  go_wp2
  go_quiet (fail)
  go_wp2
  go_ret
  exact ⟨by rw [V.out]; rfl, ⟨A, by rw [V.out]; exact W2.out _⟩, ((Below.refl B W).alloc HB.out _).trans (Below.mono (bel_drV (allocBP _ _) _) (Nat.le_trans HB.out (allocBP W _).size)), fun z y u kk _ _ _ => kk.lat ((allocBP _ _).trans (Below.mono (bel_drV (allocBP _ _) _) (allocBP _ _).size))⟩
end Go.Proofs.YtpfjnnkjoabgbaaGreatDoor

namespace Go.Proofs.YtpfjnnkjoabgbaaGreatDoor
open Go.RowKit
set_option linter.unusedVariables false
set_option linter.unusedSimpArgs false
structure HsE (W V : World) (B wb ab : Nat) (day : Int) (ca : Option Addr) (cc n : Nat) (G : Tg) (l : Nat → Option Vs) (t : Nat) (s : Vs) (ps : Nat → Option Nat) (e : Ending) (w' : World) : Prop where
  ret : e = .returned (.int .i64 (vHand (l t) s).1)
  sta : ∃ A', WkR w' B wb ab day ca cc n G A' (vSet l t (vHand (l t) s).2)
  stay : ∀ z y u, BkP V z y u → W.heap.size ≤ z → u ≠ 123 → BkP w' z y u
  slt : SlR w' B ps s.sl
  bel : Below B W w'
  siz : B ≤ w'.heap.size
  oth : ∀ z y u, BkP V z y u → u ≠ 123 → u ≠ 101 → u ≠ 102 → BkP w' z y u
theorem hand_step {W V : World} {B wb ab : Nat} {day : Int} {ca : Option Addr} {cc n : Nat} {G : Tg} {A : Nat → Option Nat} {l : Nat → Option Vs} {t tb : Nat} {s : Vs} {ps : Nat → Option Nat} (h : WkR W B wb ab day ca cc n G A l) (hB : B ≤ W.heap.size) (ht : t < n) (hs : s.ok) (hg : G s.st = some tb) (hp : SlR W B ps s.sl) (bV : Below W.heap.size W V) :
    Calls Tryz.prog 105 #[.pointer (some ⟨wb, 0, none⟩), .int .i64 (t : Int), .agg (stA tb s.st.length ps)] V fun e w' => HsE W V B wb ab day ca cc n G l t s ps e w' := by
  have hW := h.later bV
  refine (hand_any hW (Nat.le_trans hB bV.size) ht hs hg (hp.later bV)).mono ?_
  rintro e w' ⟨p1, ⟨A', p2, p3⟩, p4⟩
  have nsh : ∀ z y, BkP V z y 185 → ¬ chX ab n A z := fun z y k => hW.noT k (by decide) (by decide)
  exact ⟨p1, ⟨A', p2⟩, fun z y u k hz hu => p4.stay z y u k (h.noY hz) hu, (hp.later bV).chg p4 nsh, (bV.mono hB).trans p4.bel, Nat.le_trans hB (Nat.le_trans bV.size p4.bel.size), fun z y u k a b c => p4.stay z y u k (hW.noT k c b) a⟩
set_option maxRecDepth 100000 in
set_option maxHeartbeats 800000 in
theorem on_other0 {w0 W : World} {B wb ab : Nat} {day : Int} {ca : Option Addr} {cc n : Nat} {G : Tg} {A : Nat → Option Nat} {l : Nat → Option Vs} {k tb : Nat} {s : Vs} {ps : Nat → Option Nat} {code : List In} (h : WkR W B wb ab day ca cc n G A l) (hB : B ≤ W.heap.size) (hk : k < n) (hn : n ≤ 262144) (hs : s.ok) (hg : G s.st = some tb) (hp : SlR W B ps s.sl) (hI : IR W ca n cc code) (o a b : Nat) (hi : code.getD k default = ⟨o, a, b⟩) (ha : a < 262144) (h0 : o ≠ 0) (h6 : o ≠ 26) (h7 : o ≠ 27) (hk2 : k + 1 < n) (he : (vHand (l (k + 1)) s).1 = 0) :
    Calls Tryz.prog 56 #[.pointer (some ⟨wb, 0, none⟩), .int .i64 (k : Int), .agg (stA tb s.st.length ps)] W fun e w' => HoE W B wb ab day ca cc n G A l ⟨o, a, b⟩ k s e w' := by
  have W1 := Lib.hid (h.later (allocBP W (hOb tb s.st.length ps)))
  have W2 := Lib.hid (fun q => (h.later (allocBP W (hOb tb s.st.length ps))).later (bel_drV (allocBP (W.alloc (hOb tb s.st.length ps)) (ibx o a b)) q))
  have BY := Lib.hid (fun V (bb : Below (W.alloc (hOb tb s.st.length ps)).heap.size (W.alloc (hOb tb s.st.length ps)) V) => BkP.lat (heapN W (hOb tb s.st.length ps)) bb)
  have HB := Lib.hid hB
  obtain ⟨x, of, hca, _, hc⟩ := (hI.later (allocBP W (hOb tb s.st.length ps))).2.2.2.2.oneP (by omega)
  have c0 := hc k hk 0 (by omega)
  have c1 := hc k hk 1 (by omega)
  have c2 := hc k hk 2 (by omega)
  rw [hi] at c0 c1 c2
  simp only [icell, Nat.add_zero, List.getD_cons_zero, List.getD_cons_succ] at c0 c1 c2
  subst hca
  have d1 := W1.out.wk.cell 1
  simp at d1
  have e1 := (W1.out.later (allocBP _ (ibx o a b))).wk.cell 1
  simp at e1
  have k0 : ¬ (k : Int) < 0 := by omega
  have k1 : (k : Int) < (n : Int) := by omega
  have ks : IntKind.i64.wrap ((k : Int) + 1) = (k : Int) + 1 := by simp [IntKind.wrap, IntKind.bits, IntKind.signed]; omega
  have ts : IntKind.i64.wrap ((k : Int) + 1 + (a : Int)) = (k : Int) + 1 + (a : Int) := by simp [IntKind.wrap, IntKind.bits, IntKind.signed]; omega
  have KH := Lib.hid (fun V t (ht : t < n) (bV : Below W.heap.size W V) => hand_step h hB ht hs hg hp bV)
  have KH2 := Lib.hid (fun V A' l' t (hV : WkR V B wb ab day (some ⟨x, of, none⟩) cc n G A' l') (hb : B ≤ V.heap.size) (hp' : SlR V B ps s.sl) (ht : t < n) => hand_step hV hb ht hs hg hp' (Below.refl _ _))
  have V := Lib.hid (vOn_other (n := n) (k := k) (i := ⟨o, a, b⟩) (s := s) (l := l) (by simp only; omega) (by simp only; omega) (by simp only; omega))
  have HT := Lib.hid hk2
  have Q1 : True := trivial
  have b26 : ((o : Int) == 26) = false := by simp; omega
  have m26 : ((o : Int) != 26) = true := by simp; omega
  have b27 : ((o : Int) == 27) = false := by simp; omega
  have m27 : ((o : Int) != 27) = true := by simp; omega
  have b0 : ((o : Int) == 0) = false := by simp; omega
  have m0 : ((o : Int) != 0) = true := by simp; omega
  have z1 : ((vHand (l (k + 1)) s).1 != 0) = false := by simpa using he
  clear h hI hk hn hs hg hp hi ha hc hB
  unfold ibx hOb at *
  have HE := Lib.hid he
  clear h0 h6 h7 hk2 he
  go_enter Tryz.func56, Tryz.ntmps56
  go_wp2
  go_quiet (fail)
  go_wp2_with (first | (with_reducible show wpList _ _ _ (Oper.mk _ (Op.load 101 _) _ _ _ _ :: _) _ _; have qq := Q1; refine load_st rfl _ rfl W.heap.size rfl tb s.st.length ps (BY.out _ (by first | exact bel_drV (allocBP _ _) _ | exact allocBP _ _)) ?_; clear qq) | (go_at_call 105; have qq := Q1; refine (KH.out _ (k + 1) HT.out (by first | exact (allocBP _ _).trans (Below.mono (bel_drV (allocBP _ _) _) (allocBP _ _).size) | exact (allocBP _ _).trans (Below.mono (allocBP _ _) (allocBP _ _).size))).mono ?_; clear qq Q1; rintro e w3 ⟨rfl, h1, h2, h3, h4, h5, h6⟩; have R3 := Lib.hid h1; have BL3 := Lib.hid h4; have SY3 := Lib.hid (p := ∀ z y u, BkP W z y u → u ≠ 123 → u ≠ 101 → u ≠ 102 → BkP w3 z y u) (fun z y u kk a b c => h6 z y u (kk.lat (by first | exact (allocBP _ _).trans (Below.mono (bel_drV (allocBP _ _) _) (allocBP _ _).size) | exact (allocBP _ _).trans (Below.mono (allocBP _ _) (allocBP _ _).size))) a b c); clear h1 h2 h3 h4 h5 h6))
  go_ret
  obtain ⟨A3, r3⟩ := R3.out
  exact ⟨by rw [V.out, HE.out]; rfl, ⟨A3, by rw [V.out]; exact r3⟩, BL3.out, SY3.out⟩
set_option maxRecDepth 100000 in
set_option maxHeartbeats 800000 in
theorem on_other1 {w0 W : World} {B wb ab : Nat} {day : Int} {ca : Option Addr} {cc n : Nat} {G : Tg} {A : Nat → Option Nat} {l : Nat → Option Vs} {k tb : Nat} {s : Vs} {ps : Nat → Option Nat} {code : List In} (h : WkR W B wb ab day ca cc n G A l) (hB : B ≤ W.heap.size) (hk : k < n) (hn : n ≤ 262144) (hs : s.ok) (hg : G s.st = some tb) (hp : SlR W B ps s.sl) (hI : IR W ca n cc code) (o a b : Nat) (hi : code.getD k default = ⟨o, a, b⟩) (ha : a < 262144) (h0 : o ≠ 0) (h6 : o ≠ 26) (h7 : o ≠ 27) (hk2 : k + 1 < n) (he : (vHand (l (k + 1)) s).1 ≠ 0) :
    Calls Tryz.prog 56 #[.pointer (some ⟨wb, 0, none⟩), .int .i64 (k : Int), .agg (stA tb s.st.length ps)] W fun e w' => HoE W B wb ab day ca cc n G A l ⟨o, a, b⟩ k s e w' := by
  have W1 := Lib.hid (h.later (allocBP W (hOb tb s.st.length ps)))
  have W2 := Lib.hid (fun q => (h.later (allocBP W (hOb tb s.st.length ps))).later (bel_drV (allocBP (W.alloc (hOb tb s.st.length ps)) (ibx o a b)) q))
  have BY := Lib.hid (fun V (bb : Below (W.alloc (hOb tb s.st.length ps)).heap.size (W.alloc (hOb tb s.st.length ps)) V) => BkP.lat (heapN W (hOb tb s.st.length ps)) bb)
  have HB := Lib.hid hB
  obtain ⟨x, of, hca, _, hc⟩ := (hI.later (allocBP W (hOb tb s.st.length ps))).2.2.2.2.oneP (by omega)
  have c0 := hc k hk 0 (by omega)
  have c1 := hc k hk 1 (by omega)
  have c2 := hc k hk 2 (by omega)
  rw [hi] at c0 c1 c2
  simp only [icell, Nat.add_zero, List.getD_cons_zero, List.getD_cons_succ] at c0 c1 c2
  subst hca
  have d1 := W1.out.wk.cell 1
  simp at d1
  have e1 := (W1.out.later (allocBP _ (ibx o a b))).wk.cell 1
  simp at e1
  have k0 : ¬ (k : Int) < 0 := by omega
  have k1 : (k : Int) < (n : Int) := by omega
  have ks : IntKind.i64.wrap ((k : Int) + 1) = (k : Int) + 1 := by simp [IntKind.wrap, IntKind.bits, IntKind.signed]; omega
  have ts : IntKind.i64.wrap ((k : Int) + 1 + (a : Int)) = (k : Int) + 1 + (a : Int) := by simp [IntKind.wrap, IntKind.bits, IntKind.signed]; omega
  have KH := Lib.hid (fun V t (ht : t < n) (bV : Below W.heap.size W V) => hand_step h hB ht hs hg hp bV)
  have KH2 := Lib.hid (fun V A' l' t (hV : WkR V B wb ab day (some ⟨x, of, none⟩) cc n G A' l') (hb : B ≤ V.heap.size) (hp' : SlR V B ps s.sl) (ht : t < n) => hand_step hV hb ht hs hg hp' (Below.refl _ _))
  have V := Lib.hid (vOn_other (n := n) (k := k) (i := ⟨o, a, b⟩) (s := s) (l := l) (by simp only; omega) (by simp only; omega) (by simp only; omega))
  have HT := Lib.hid hk2
  have Q1 : True := trivial
  have b26 : ((o : Int) == 26) = false := by simp; omega
  have m26 : ((o : Int) != 26) = true := by simp; omega
  have b27 : ((o : Int) == 27) = false := by simp; omega
  have m27 : ((o : Int) != 27) = true := by simp; omega
  have b0 : ((o : Int) == 0) = false := by simp; omega
  have m0 : ((o : Int) != 0) = true := by simp; omega
  have z1 : ((vHand (l (k + 1)) s).1 != 0) = true := by simpa using he
  clear h hI hk hn hs hg hp hi ha hc hB
  unfold ibx hOb at *
  clear h0 h6 h7 hk2 he
  go_enter Tryz.func56, Tryz.ntmps56
  go_wp2
  go_quiet (fail)
  go_wp2_with (first | (with_reducible show wpList _ _ _ (Oper.mk _ (Op.load 101 _) _ _ _ _ :: _) _ _; have qq := Q1; refine load_st rfl _ rfl W.heap.size rfl tb s.st.length ps (BY.out _ (by first | exact bel_drV (allocBP _ _) _ | exact allocBP _ _)) ?_; clear qq) | (go_at_call 105; have qq := Q1; refine (KH.out _ (k + 1) HT.out (by first | exact (allocBP _ _).trans (Below.mono (bel_drV (allocBP _ _) _) (allocBP _ _).size) | exact (allocBP _ _).trans (Below.mono (allocBP _ _) (allocBP _ _).size))).mono ?_; clear qq Q1; rintro e w3 ⟨rfl, h1, h2, h3, h4, h5, h6⟩; have R3 := Lib.hid h1; have BL3 := Lib.hid h4; have SY3 := Lib.hid (p := ∀ z y u, BkP W z y u → u ≠ 123 → u ≠ 101 → u ≠ 102 → BkP w3 z y u) (fun z y u kk a b c => h6 z y u (kk.lat (by first | exact (allocBP _ _).trans (Below.mono (bel_drV (allocBP _ _) _) (allocBP _ _).size) | exact (allocBP _ _).trans (Below.mono (allocBP _ _) (allocBP _ _).size))) a b c); clear h1 h2 h3 h4 h5 h6))
  go_ret
  obtain ⟨A3, r3⟩ := R3.out
  exact ⟨by rw [V.out]; rfl, ⟨A3, by rw [V.out]; exact r3⟩, BL3.out, SY3.out⟩
set_option maxRecDepth 100000 in
set_option maxHeartbeats 800000 in
theorem on_jump {w0 W : World} {B wb ab : Nat} {day : Int} {ca : Option Addr} {cc n : Nat} {G : Tg} {A : Nat → Option Nat} {l : Nat → Option Vs} {k tb : Nat} {s : Vs} {ps : Nat → Option Nat} {code : List In} (h : WkR W B wb ab day ca cc n G A l) (hB : B ≤ W.heap.size) (hk : k < n) (hn : n ≤ 262144) (hs : s.ok) (hg : G s.st = some tb) (hp : SlR W B ps s.sl) (hI : IR W ca n cc code) (o a b : Nat) (hi : code.getD k default = ⟨o, a, b⟩) (ha : a < 262144) (ho : o = 26) (hf : ¬ n ≤ k + 1 + a) :
    Calls Tryz.prog 56 #[.pointer (some ⟨wb, 0, none⟩), .int .i64 (k : Int), .agg (stA tb s.st.length ps)] W fun e w' => HoE W B wb ab day ca cc n G A l ⟨o, a, b⟩ k s e w' := by
  have W1 := Lib.hid (h.later (allocBP W (hOb tb s.st.length ps)))
  have W2 := Lib.hid (fun q => (h.later (allocBP W (hOb tb s.st.length ps))).later (bel_drV (allocBP (W.alloc (hOb tb s.st.length ps)) (ibx o a b)) q))
  have BY := Lib.hid (fun V (bb : Below (W.alloc (hOb tb s.st.length ps)).heap.size (W.alloc (hOb tb s.st.length ps)) V) => BkP.lat (heapN W (hOb tb s.st.length ps)) bb)
  have HB := Lib.hid hB
  obtain ⟨x, of, hca, _, hc⟩ := (hI.later (allocBP W (hOb tb s.st.length ps))).2.2.2.2.oneP (by omega)
  have c0 := hc k hk 0 (by omega)
  have c1 := hc k hk 1 (by omega)
  have c2 := hc k hk 2 (by omega)
  rw [hi] at c0 c1 c2
  simp only [icell, Nat.add_zero, List.getD_cons_zero, List.getD_cons_succ] at c0 c1 c2
  subst hca
  have d1 := W1.out.wk.cell 1
  simp at d1
  have e1 := (W1.out.later (allocBP _ (ibx o a b))).wk.cell 1
  simp at e1
  have k0 : ¬ (k : Int) < 0 := by omega
  have k1 : (k : Int) < (n : Int) := by omega
  have ks : IntKind.i64.wrap ((k : Int) + 1) = (k : Int) + 1 := by simp [IntKind.wrap, IntKind.bits, IntKind.signed]; omega
  have ts : IntKind.i64.wrap ((k : Int) + 1 + (a : Int)) = (k : Int) + 1 + (a : Int) := by simp [IntKind.wrap, IntKind.bits, IntKind.signed]; omega
  have KH := Lib.hid (fun V t (ht : t < n) (bV : Below W.heap.size W V) => hand_step h hB ht hs hg hp bV)
  have KH2 := Lib.hid (fun V A' l' t (hV : WkR V B wb ab day (some ⟨x, of, none⟩) cc n G A' l') (hb : B ≤ V.heap.size) (hp' : SlR V B ps s.sl) (ht : t < n) => hand_step hV hb ht hs hg hp' (Below.refl _ _))
  have V := Lib.hid (vOn_jump (n := n) (k := k) (i := ⟨o, a, b⟩) (s := s) (l := l) (by simp only; omega) (by simpa using hf))
  simp only [Int.toNat_natCast] at V
  have HT := Lib.hid (p := k + 1 + a < n) (by omega)
  have tc : ((k + 1 + a : Nat) : Int) = (k : Int) + 1 + (a : Int) := by omega

  have g0 : ¬ (n : Int) ≤ (k : Int) + 1 + (a : Int) := by omega
  have Q1 : True := trivial
  have b26 : ((o : Int) == 26) = true := by simp; omega
  have m26 : ((o : Int) != 26) = false := by simp; omega
  have b27 : ((o : Int) == 27) = false := by simp; omega
  have m27 : ((o : Int) != 27) = true := by simp; omega
  have b0 : ((o : Int) == 0) = false := by simp; omega
  have m0 : ((o : Int) != 0) = true := by simp; omega
  clear h hI hk hn hs hg hp hi ha hc hB
  unfold ibx hOb at *
  clear ho hf tc
  go_enter Tryz.func56, Tryz.ntmps56
  go_wp2
  go_quiet (fail)
  have KH3 := Lib.hid (fun V bV => KH.out V (k + 1 + a) HT.out bV)
  simp only [show ((k + 1 + a : Nat) : Int) = (k : Int) + 1 + (a : Int) by omega] at KH3
  go_wp2_with (first | (with_reducible show wpList _ _ _ (Oper.mk _ (Op.load 101 _) _ _ _ _ :: _) _ _; have qq := Q1; refine load_st rfl _ rfl W.heap.size rfl tb s.st.length ps (BY.out _ (by first | exact bel_drV (allocBP _ _) _ | exact allocBP _ _)) ?_; clear qq) | (go_at_call 105; have qq := Q1; refine (KH3.out _ (by first | exact (allocBP _ _).trans (Below.mono (bel_drV (allocBP _ _) _) (allocBP _ _).size) | exact (allocBP _ _).trans (Below.mono (allocBP _ _) (allocBP _ _).size))).mono ?_; clear qq Q1; rintro e w3 ⟨rfl, h1, h2, h3, h4, h5, h6⟩; have R3 := Lib.hid h1; have BL3 := Lib.hid h4; have SY3 := Lib.hid (p := ∀ z y u, BkP W z y u → u ≠ 123 → u ≠ 101 → u ≠ 102 → BkP w3 z y u) (fun z y u kk a b c => h6 z y u (kk.lat (by first | exact (allocBP _ _).trans (Below.mono (bel_drV (allocBP _ _) _) (allocBP _ _).size) | exact (allocBP _ _).trans (Below.mono (allocBP _ _) (allocBP _ _).size))) a b c); clear h1 h2 h3 h4 h5 h6))
  go_ret
  obtain ⟨A3, r3⟩ := R3.out
  exact ⟨by rw [V.out]; rfl, ⟨A3, by rw [V.out]; exact r3⟩, BL3.out, SY3.out⟩
end Go.Proofs.YtpfjnnkjoabgbaaGreatDoor

namespace Go.Proofs.YtpfjnnkjoabgbaaGreatDoor
open Go.RowKit
set_option linter.unusedVariables false
set_option linter.unusedSimpArgs false
set_option maxRecDepth 100000 in
set_option maxHeartbeats 800000 in
theorem on_zero1 {w0 W : World} {B wb ab : Nat} {day : Int} {ca : Option Addr} {cc n : Nat} {G : Tg} {A : Nat → Option Nat} {l : Nat → Option Vs} {k tb : Nat} {s : Vs} {ps : Nat → Option Nat} {code : List In} (h : WkR W B wb ab day ca cc n G A l) (hB : B ≤ W.heap.size) (hk : k < n) (hn : n ≤ 262144) (hs : s.ok) (hg : G s.st = some tb) (hp : SlR W B ps s.sl) (hI : IR W ca n cc code) (o a b : Nat) (hi : code.getD k default = ⟨o, a, b⟩) (ha : a < 262144) (ho : o = 27) (hf : ¬ n ≤ k + 1 + a) (he : (vHand (l (k + 1)) s).1 ≠ 0) :
    Calls Tryz.prog 56 #[.pointer (some ⟨wb, 0, none⟩), .int .i64 (k : Int), .agg (stA tb s.st.length ps)] W fun e w' => HoE W B wb ab day ca cc n G A l ⟨o, a, b⟩ k s e w' := by
  have W1 := Lib.hid (h.later (allocBP W (hOb tb s.st.length ps)))
  have W2 := Lib.hid (fun q => (h.later (allocBP W (hOb tb s.st.length ps))).later (bel_drV (allocBP (W.alloc (hOb tb s.st.length ps)) (ibx o a b)) q))
  have BY := Lib.hid (fun V (bb : Below (W.alloc (hOb tb s.st.length ps)).heap.size (W.alloc (hOb tb s.st.length ps)) V) => BkP.lat (heapN W (hOb tb s.st.length ps)) bb)
  have HB := Lib.hid hB
  obtain ⟨x, of, hca, _, hc⟩ := (hI.later (allocBP W (hOb tb s.st.length ps))).2.2.2.2.oneP (by omega)
  have c0 := hc k hk 0 (by omega)
  have c1 := hc k hk 1 (by omega)
  have c2 := hc k hk 2 (by omega)
  rw [hi] at c0 c1 c2
  simp only [icell, Nat.add_zero, List.getD_cons_zero, List.getD_cons_succ] at c0 c1 c2
  subst hca
  have d1 := W1.out.wk.cell 1
  simp at d1
  have e1 := (W1.out.later (allocBP _ (ibx o a b))).wk.cell 1
  simp at e1
  have k0 : ¬ (k : Int) < 0 := by omega
  have k1 : (k : Int) < (n : Int) := by omega
  have ks : IntKind.i64.wrap ((k : Int) + 1) = (k : Int) + 1 := by simp [IntKind.wrap, IntKind.bits, IntKind.signed]; omega
  have ts : IntKind.i64.wrap ((k : Int) + 1 + (a : Int)) = (k : Int) + 1 + (a : Int) := by simp [IntKind.wrap, IntKind.bits, IntKind.signed]; omega
  have KH := Lib.hid (fun V t (ht : t < n) (bV : Below W.heap.size W V) => hand_step h hB ht hs hg hp bV)
  have KH2 := Lib.hid (fun V A' l' t (hV : WkR V B wb ab day (some ⟨x, of, none⟩) cc n G A' l') (hb : B ≤ V.heap.size) (hp' : SlR V B ps s.sl) (ht : t < n) => hand_step hV hb ht hs hg hp' (Below.refl _ _))
  have V := Lib.hid (vOn_zero1 (n := n) (k := k) (i := ⟨o, a, b⟩) (s := s) (l := l) (by simp only; omega) (by simpa using hf) he)
  have HT := Lib.hid (p := k + 1 < n) (by omega)
  have HT2 := Lib.hid (p := k + 1 + a < n) (by omega)
  have g0 : ¬ (n : Int) ≤ (k : Int) + 1 + (a : Int) := by omega
  have IBF := Lib.hid (p := ∀ V, Below ((W.alloc (hOb tb s.st.length ps)).alloc (ibx o a b)).heap.size ((W.alloc (hOb tb s.st.length ps)).alloc (ibx o a b)) V → BkP V (W.heap.size + 1) #[.int .i64 (o : Int), .int .i64 (a : Int), .int .i64 (b : Int)] 68) (fun V bV => by
    have e : (W.alloc (hOb tb s.st.length ps)).heap.size = W.heap.size + 1 := by simp
    have := BkP.lat (heapN (W.alloc (hOb tb s.st.length ps)) (ibx o a b)) bV
    rw [e] at this
    exact this)
  have Q1 : True := trivial
  have b26 : ((o : Int) == 26) = false := by simp; omega
  have m26 : ((o : Int) != 26) = true := by simp; omega
  have b27 : ((o : Int) == 27) = true := by simp; omega
  have m27 : ((o : Int) != 27) = false := by simp; omega
  have b0 : ((o : Int) == 0) = false := by simp; omega
  have m0 : ((o : Int) != 0) = true := by simp; omega
  have z1 : ((vHand (l (k + 1)) s).1 != 0) = true := by simpa using he
  clear h hI hk hn hs hg hp hi ha hc hB
  unfold ibx hOb at *
  clear ho hf he
  go_enter Tryz.func56, Tryz.ntmps56
  go_wp2
  go_quiet (fail)
  go_wp2_with (first | (with_reducible show wpList _ _ _ (Oper.mk _ (Op.load 101 _) _ _ _ _ :: _) _ _; have qq := Q1; refine load_st rfl _ rfl W.heap.size rfl tb s.st.length ps (BY.out _ (by first | exact bel_drV (allocBP _ _) _ | exact allocBP _ _)) ?_; clear qq) | (go_at_call 105; have qq := Q1; refine (KH.out _ (k + 1) HT.out (by first | exact (allocBP _ _).trans (Below.mono (bel_drV (allocBP _ _) _) (allocBP _ _).size) | exact (allocBP _ _).trans (Below.mono (allocBP _ _) (allocBP _ _).size))).mono ?_; clear qq Q1; rintro e w3 ⟨rfl, h1, h2, h3, h4, h5, h6⟩; have R3 := Lib.hid h1; have BL3 := Lib.hid h4; have SY3 := Lib.hid (p := ∀ z y u, BkP W z y u → u ≠ 123 → u ≠ 101 → u ≠ 102 → BkP w3 z y u) (fun z y u kk a b c => h6 z y u (kk.lat (by first | exact (allocBP _ _).trans (Below.mono (bel_drV (allocBP _ _) _) (allocBP _ _).size) | exact (allocBP _ _).trans (Below.mono (allocBP _ _) (allocBP _ _).size))) a b c); clear h1 h2 h3 h4 h5 h6))
  go_ret
  obtain ⟨A3, r3⟩ := R3.out
  exact ⟨by rw [V.out]; rfl, ⟨A3, by rw [V.out]; exact r3⟩, BL3.out, SY3.out⟩
set_option maxRecDepth 100000 in
set_option maxHeartbeats 800000 in
theorem on_zero2 {w0 W : World} {B wb ab : Nat} {day : Int} {ca : Option Addr} {cc n : Nat} {G : Tg} {A : Nat → Option Nat} {l : Nat → Option Vs} {k tb : Nat} {s : Vs} {ps : Nat → Option Nat} {code : List In} (h : WkR W B wb ab day ca cc n G A l) (hB : B ≤ W.heap.size) (hk : k < n) (hn : n ≤ 262144) (hs : s.ok) (hg : G s.st = some tb) (hp : SlR W B ps s.sl) (hI : IR W ca n cc code) (o a b : Nat) (hi : code.getD k default = ⟨o, a, b⟩) (ha : a < 262144) (ho : o = 27) (hf : ¬ n ≤ k + 1 + a) (he : (vHand (l (k + 1)) s).1 = 0) :
    Calls Tryz.prog 56 #[.pointer (some ⟨wb, 0, none⟩), .int .i64 (k : Int), .agg (stA tb s.st.length ps)] W fun e w' => HoE W B wb ab day ca cc n G A l ⟨o, a, b⟩ k s e w' := by
  have W1 := Lib.hid (h.later (allocBP W (hOb tb s.st.length ps)))
  have W2 := Lib.hid (fun q => (h.later (allocBP W (hOb tb s.st.length ps))).later (bel_drV (allocBP (W.alloc (hOb tb s.st.length ps)) (ibx o a b)) q))
  have BY := Lib.hid (fun V (bb : Below (W.alloc (hOb tb s.st.length ps)).heap.size (W.alloc (hOb tb s.st.length ps)) V) => BkP.lat (heapN W (hOb tb s.st.length ps)) bb)
  have HB := Lib.hid hB
  obtain ⟨x, of, hca, _, hc⟩ := (hI.later (allocBP W (hOb tb s.st.length ps))).2.2.2.2.oneP (by omega)
  have c0 := hc k hk 0 (by omega)
  have c1 := hc k hk 1 (by omega)
  have c2 := hc k hk 2 (by omega)
  rw [hi] at c0 c1 c2
  simp only [icell, Nat.add_zero, List.getD_cons_zero, List.getD_cons_succ] at c0 c1 c2
  subst hca
  have d1 := W1.out.wk.cell 1
  simp at d1
  have e1 := (W1.out.later (allocBP _ (ibx o a b))).wk.cell 1
  simp at e1
  have k0 : ¬ (k : Int) < 0 := by omega
  have k1 : (k : Int) < (n : Int) := by omega
  have ks : IntKind.i64.wrap ((k : Int) + 1) = (k : Int) + 1 := by simp [IntKind.wrap, IntKind.bits, IntKind.signed]; omega
  have ts : IntKind.i64.wrap ((k : Int) + 1 + (a : Int)) = (k : Int) + 1 + (a : Int) := by simp [IntKind.wrap, IntKind.bits, IntKind.signed]; omega
  have KH := Lib.hid (fun V t (ht : t < n) (bV : Below W.heap.size W V) => hand_step h hB ht hs hg hp bV)
  have KH2 := Lib.hid (fun V A' l' t (hV : WkR V B wb ab day (some ⟨x, of, none⟩) cc n G A' l') (hb : B ≤ V.heap.size) (hp' : SlR V B ps s.sl) (ht : t < n) => hand_step hV hb ht hs hg hp' (Below.refl _ _))
  have V := Lib.hid (vOn_zero2 (n := n) (k := k) (i := ⟨o, a, b⟩) (s := s) (l := l) (by simp only; omega) (by simpa using hf) he)
  simp only [Int.toNat_natCast] at V
  have HT := Lib.hid (p := k + 1 < n) (by omega)
  have HT2 := Lib.hid (p := k + 1 + a < n) (by omega)
  have g0 : ¬ (n : Int) ≤ (k : Int) + 1 + (a : Int) := by omega
  have IBF := Lib.hid (p := ∀ V, Below ((W.alloc (hOb tb s.st.length ps)).alloc (ibx o a b)).heap.size ((W.alloc (hOb tb s.st.length ps)).alloc (ibx o a b)) V → BkP V (W.heap.size + 1) #[.int .i64 (o : Int), .int .i64 (a : Int), .int .i64 (b : Int)] 68) (fun V bV => by
    have e : (W.alloc (hOb tb s.st.length ps)).heap.size = W.heap.size + 1 := by simp
    have := BkP.lat (heapN (W.alloc (hOb tb s.st.length ps)) (ibx o a b)) bV
    rw [e] at this
    exact this)
  have Q1 : True := trivial
  have b26 : ((o : Int) == 26) = false := by simp; omega
  have m26 : ((o : Int) != 26) = true := by simp; omega
  have b27 : ((o : Int) == 27) = true := by simp; omega
  have m27 : ((o : Int) != 27) = false := by simp; omega
  have b0 : ((o : Int) == 0) = false := by simp; omega
  have m0 : ((o : Int) != 0) = true := by simp; omega
  have z1 : ((vHand (l (k + 1)) s).1 != 0) = false := by simpa using he
  clear h hI hk hn hs hg hp hi ha hc hB
  unfold ibx hOb at *
  clear ho hf he
  have KH3 := Lib.hid (fun V A' (hV : WkR V B wb ab day (some ⟨x, of, none⟩) cc n G A' (vSet l (k + 1) (vHand (l (k + 1)) s).2)) hb hp' => KH2.out V A' _ (k + 1 + a) hV hb hp' HT2.out)
  simp only [show ((k + 1 + a : Nat) : Int) = (k : Int) + 1 + (a : Int) by omega] at KH3
  go_enter Tryz.func56, Tryz.ntmps56
  go_wp2
  go_quiet (fail)
  go_wp2_with (first | (with_reducible show wpList _ _ _ (Oper.mk _ (Op.load 101 _) _ _ _ _ :: _) _ _; have qq := Q1; refine load_st rfl _ rfl W.heap.size rfl tb s.st.length ps (BY.out _ (by first | exact bel_drV (allocBP _ _) _ | exact allocBP _ _)) ?_; clear qq) | (go_at_call 105; have qq := Q1; refine (KH.out _ (k + 1) HT.out (by first | exact (allocBP _ _).trans (Below.mono (bel_drV (allocBP _ _) _) (allocBP _ _).size) | exact (allocBP _ _).trans (Below.mono (allocBP _ _) (allocBP _ _).size))).mono ?_; clear qq Q1; rintro e w3 ⟨rfl, h1, h2, h3, h4, h5, h6⟩; have BL3 := Lib.hid h4; have SY3 := Lib.hid (p := ∀ z y u, BkP W z y u → u ≠ 123 → u ≠ 101 → u ≠ 102 → BkP w3 z y u) (fun z y u kk a b c => h6 z y u (kk.lat (by first | exact (allocBP _ _).trans (Below.mono (bel_drV (allocBP _ _) _) (allocBP _ _).size) | exact (allocBP _ _).trans (Below.mono (allocBP _ _) (allocBP _ _).size))) a b c); have Y3 := Lib.hid (h2 _ _ _ (BY.out _ (by first | exact bel_drV (allocBP _ _) _ | exact allocBP _ _)) (Nat.le_refl _) (by decide)); have i3 := (h2 _ _ _ (IBF.out _ (by first | exact bel_drV (Below.refl _ _) _ | exact Below.refl _ _)) (Nat.le_succ _) (by decide)).cell 1; simp at i3; have P3 := Lib.hid h3; have Z3 := Lib.hid h5; obtain ⟨A3, r3⟩ := h1; have R3 := Lib.hid r3; clear r3; clear h2 h3 h4 h5 h6; have Q2 : True := trivial) | (with_reducible show wpList _ _ _ (Oper.mk _ (Op.load 101 _) _ _ _ _ :: _) _ _; have qq := Q2; refine load_st rfl _ rfl W.heap.size rfl tb s.st.length ps Y3.out ?_; clear qq) | (go_at_call 105; have qq := Q2; refine (KH3.out w3 A3 R3.out Z3.out P3.out).mono ?_; clear qq; rintro e w4 ⟨rfl, h1, h2, h3, h4, h5, h6⟩; have R4 := Lib.hid h1; have BL4 := Lib.hid (BL3.out.trans h4); have SY4 := Lib.hid (p := ∀ z y u, BkP W z y u → u ≠ 123 → u ≠ 101 → u ≠ 102 → BkP w4 z y u) (fun z y u kk a b c => h6 z y u (SY3.out z y u kk a b c) a b c); clear h1 h2 h3 h4 h5 h6))
  go_ret
  obtain ⟨A4, r4⟩ := R4.out
  exact ⟨by rw [V.out]; rfl, ⟨A4, by rw [V.out]; exact r4⟩, BL4.out, SY4.out⟩
theorem handOn_any {W : World} {B wb ab : Nat} {day : Int} {ca : Option Addr} {cc n : Nat} {G : Tg} {A : Nat → Option Nat} {l : Nat → Option Vs} {k tb : Nat} {s : Vs} {ps : Nat → Option Nat} {code : List In} (h : WkR W B wb ab day ca cc n G A l) (hB : B ≤ W.heap.size) (hk : k < n) (hn : n ≤ 262144) (hs : s.ok) (hg : G s.st = some tb) (hp : SlR W B ps s.sl) (hI : IR W ca n cc code) (i : In) (hi : code.getD k default = i) (hok : i.okP) (he : i.o = 0 ↔ k + 1 = n) :
    Calls Tryz.prog 56 #[.pointer (some ⟨wb, 0, none⟩), .int .i64 (k : Int), .agg (stA tb s.st.length ps)] W fun e w' => HoE W B wb ab day ca cc n G A l i k s e w' := by
  obtain ⟨o, a, b⟩ := i
  have ho := hok.1
  have ho2 := hok.2.1
  have ha := hok.2.2.1
  have ha2 := hok.2.2.2.1
  have hb := hok.2.2.2.2.1
  have hm := tab_facts o.toNat (by simp at ho ho2 ⊢; omega)
  simp only at ho ho2 ha hb ha2 hm he
  obtain ⟨o, rfl⟩ : ∃ k : Nat, o = (k : Int) := ⟨o.toNat, by omega⟩
  obtain ⟨a, rfl⟩ : ∃ x : Nat, a = (x : Int) := ⟨a.toNat, by omega⟩
  obtain ⟨b, rfl⟩ : ∃ y : Nat, b = (y : Int) := ⟨b.toNat, by omega⟩
  simp only [Int.toNat_natCast] at hm ha2
  have a1 : a < 262144 := by omega
  clear hok
  by_cases e0 : o = 0
  · exact on_end (w0 := W) h hB hk hn hs hg hp hI o a b hi a1 e0
  have k2 : k + 1 < n := by
    have : ¬ k + 1 = n := fun q => e0 (by have := he.2 q; omega)
    omega
  by_cases e6 : o = 26
  · by_cases f : n ≤ k + 1 + a
    · exact on_far_j (w0 := W) h hB hk hn hs hg hp hI o a b hi a1 e6 f
    · exact on_jump (w0 := W) h hB hk hn hs hg hp hI o a b hi a1 e6 f
  by_cases e7 : o = 27
  · by_cases f : n ≤ k + 1 + a
    · exact on_far_z (w0 := W) h hB hk hn hs hg hp hI o a b hi a1 e7 f
    · by_cases g : (vHand (l (k + 1)) s).1 = 0
      · exact on_zero2 (w0 := W) h hB hk hn hs hg hp hI o a b hi a1 e7 f g
      · exact on_zero1 (w0 := W) h hB hk hn hs hg hp hI o a b hi a1 e7 f g
  by_cases g : (vHand (l (k + 1)) s).1 = 0
  · exact on_other0 (w0 := W) h hB hk hn hs hg hp hI o a b hi a1 e0 e6 e7 k2 g
  · exact on_other1 (w0 := W) h hB hk hn hs hg hp hI o a b hi a1 e0 e6 e7 k2 g
end Go.Proofs.YtpfjnnkjoabgbaaGreatDoor
