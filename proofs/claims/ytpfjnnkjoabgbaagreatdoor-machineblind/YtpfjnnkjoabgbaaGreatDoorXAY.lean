import Derived.Test.YtpfjnnkjoabgbaaGreatDoorXAX
import Derived.Test.YtpfjnnkjoabgbaaGreatDoorXAF
namespace Go.Proofs.YtpfjnnkjoabgbaaGreatDoor
open Go.RowKit
set_option linter.unusedVariables false
set_option linter.unusedSimpArgs false
set_option maxRecDepth 100000 in
set_option maxHeartbeats 800000 in
theorem on_zero1 {w0 W : World} {B wb ab : Nat} {day : Int} {ca : Option Addr} {cc n : Nat} {G : Tg} {A : Nat → Option Nat} {l : Nat → Option Vs} {k tb : Nat} {s : Vs} {ps : Nat → Option Nat} {code : List In} (h : WkR W B wb ab day ca cc n G A l) (hB : B ≤ W.heap.size) (hk : k < n) (hn : n ≤ 262144) (hs : s.ok) (hg : G s.st = some tb) (hp : SlR W B ps s.sl) (hI : IR W ca n cc code) (o a b : Nat) (hi : code.getD k default = ⟨o, a, b⟩) (ha : a < 262144) (ho : o = 27) (hf : ¬ n ≤ k + 1 + a) (he : (vHand (l (k + 1)) s).1 ≠ 0) :
    Calls Tryz.prog 56 #[.pointer (some ⟨wb, 0, none⟩), .int .i64 (k : Int), .agg (stA tb s.st.length ps)] W fun e w' => HoE W B wb ab day ca cc n G A l ⟨o, a, b⟩ k s e w' := by
  have W1 := Lib.hid (h.later (allocBP W (hOb tb s.st.length ps)))
  have W2 := Lib.hid (fun q => (h.later (allocBP W (hOb tb s.st.length ps))).later (bel_drV (allocBP (W.alloc (hOb tb s.st.length ps)) (ibx o a b)) q))
  have BY := Lib.hid (fun V (bb : Below (W.alloc (hOb tb s.st.length ps)).heap.size (W.alloc (hOb tb s.st.length ps)) V) => BkP.lat (heapN W (hOb tb s.st.length ps)) bb)
  have HB := Lib.hid hB
  obtain ⟨x, of, hca, _, hc⟩ := (hI.later (allocBP W (hOb tb s.st.length ps))).2.2.2.2.oneP (by omega)
  have c0 := hc k hk 0 (by omega)
  have c1 := hc k hk 1 (by omega)
  have c2 := hc k hk 2 (by omega)
  rw [hi] at c0 c1 c2
  simp only [icell, Nat.add_zero, List.getD_cons_zero, List.getD_cons_succ] at c0 c1 c2
  subst hca
  have d1 := W1.out.wk.cell 1
  simp at d1
  have e1 := (W1.out.later (allocBP _ (ibx o a b))).wk.cell 1
  simp at e1
  have k0 : ¬ (k : Int) < 0 := by omega
  have k1 : (k : Int) < (n : Int) := by omega
  have ks : IntKind.i64.wrap ((k : Int) + 1) = (k : Int) + 1 := by simp [IntKind.wrap, IntKind.bits, IntKind.signed]; omega
  have ts : IntKind.i64.wrap ((k : Int) + 1 + (a : Int)) = (k : Int) + 1 + (a : Int) := by simp [IntKind.wrap, IntKind.bits, IntKind.signed]; omega
  have KH := Lib.hid (fun V t (ht : t < n) (bV : Below W.heap.size W V) => hand_step h hB ht hs hg hp bV)
  have KH2 := Lib.hid (fun V A' l' t (hV : WkR V B wb ab day (some ⟨x, of, none⟩) cc n G A' l') (hb : B ≤ V.heap.size) (hp' : SlR V B ps s.sl) (ht : t < n) => hand_step hV hb ht hs hg hp' (Below.refl _ _))
  have V := Lib.hid (vOn_zero1 (n := n) (k := k) (i := ⟨o, a, b⟩) (s := s) (l := l) (by simp only; omega) (by simpa using hf) he)
  have HT := Lib.hid (p := k + 1 < n) (by omega)
  have HT2 := Lib.hid (p := k + 1 + a < n) (by omega)
  have g0 : ¬ (n : Int) ≤ (k : Int) + 1 + (a : Int) := by omega
  have IBF := Lib.hid (p := ∀ V, Below ((W.alloc (hOb tb s.st.length ps)).alloc (ibx o a b)).heap.size ((W.alloc (hOb tb s.st.length ps)).alloc (ibx o a b)) V → BkP V (W.heap.size + 1) #[.int .i64 (o : Int), .int .i64 (a : Int), .int .i64 (b : Int)] 68) (fun V bV => by
    have e : (W.alloc (hOb tb s.st.length ps)).heap.size = W.heap.size + 1 := by simp
    have := BkP.lat (heapN (W.alloc (hOb tb s.st.length ps)) (ibx o a b)) bV
    rw [e] at this
    exact this)
  have Q1 : True := trivial
  have b26 : ((o : Int) == 26) = false := by simp; omega
  have m26 : ((o : Int) != 26) = true := by simp; omega
  have b27 : ((o : Int) == 27) = true := by simp; omega
  have m27 : ((o : Int) != 27) = false := by simp; omega
  have b0 : ((o : Int) == 0) = false := by simp; omega
  have m0 : ((o : Int) != 0) = true := by simp; omega
  have z1 : ((vHand (l (k + 1)) s).1 != 0) = true := by simpa using he
  clear h hI hk hn hs hg hp hi ha hc hB
  unfold ibx hOb at *
  clear ho hf he
  go_enter Tryz.func56, Tryz.ntmps56
  go_wp2
  go_quiet (fail)
  go_wp2_with (first | (with_reducible show wpList _ _ _ (Oper.mk _ (Op.load 101 _) _ _ _ _ :: _) _ _; have qq := Q1; refine load_st rfl _ rfl W.heap.size rfl tb s.st.length ps (BY.out _ (by first | exact bel_drV (allocBP _ _) _ | exact allocBP _ _)) ?_; clear qq) | (go_at_call 105; have qq := Q1; refine (KH.out _ (k + 1) HT.out (by first | exact (allocBP _ _).trans (Below.mono (bel_drV (allocBP _ _) _) (allocBP _ _).size) | exact (allocBP _ _).trans (Below.mono (allocBP _ _) (allocBP _ _).size))).mono ?_; clear qq Q1; rintro e w3 ⟨rfl, h1, h2, h3, h4, h5, h6⟩; have R3 := Lib.hid h1; have BL3 := Lib.hid h4; have SY3 := Lib.hid (p := ∀ z y u, BkP W z y u → u ≠ 123 → u ≠ 101 → u ≠ 102 → BkP w3 z y u) (fun z y u kk a b c => h6 z y u (kk.lat (by first | exact (allocBP _ _).trans (Below.mono (bel_drV (allocBP _ _) _) (allocBP _ _).size) | exact (allocBP _ _).trans (Below.mono (allocBP _ _) (allocBP _ _).size))) a b c); clear h1 h2 h3 h4 h5 h6))
  go_ret
  obtain ⟨A3, r3⟩ := R3.out
  exact ⟨by rw [V.out]; rfl, ⟨A3, by rw [V.out]; exact r3⟩, BL3.out, SY3.out⟩
set_option maxRecDepth 100000 in
set_option maxHeartbeats 800000 in
theorem on_zero2 {w0 W : World} {B wb ab : Nat} {day : Int} {ca : Option Addr} {cc n : Nat} {G : Tg} {A : Nat → Option Nat} {l : Nat → Option Vs} {k tb : Nat} {s : Vs} {ps : Nat → Option Nat} {code : List In} (h : WkR W B wb ab day ca cc n G A l) (hB : B ≤ W.heap.size) (hk : k < n) (hn : n ≤ 262144) (hs : s.ok) (hg : G s.st = some tb) (hp : SlR W B ps s.sl) (hI : IR W ca n cc code) (o a b : Nat) (hi : code.getD k default = ⟨o, a, b⟩) (ha : a < 262144) (ho : o = 27) (hf : ¬ n ≤ k + 1 + a) (he : (vHand (l (k + 1)) s).1 = 0) :
    Calls Tryz.prog 56 #[.pointer (some ⟨wb, 0, none⟩), .int .i64 (k : Int), .agg (stA tb s.st.length ps)] W fun e w' => HoE W B wb ab day ca cc n G A l ⟨o, a, b⟩ k s e w' := by
  have W1 := Lib.hid (h.later (allocBP W (hOb tb s.st.length ps)))
  have W2 := Lib.hid (fun q => (h.later (allocBP W (hOb tb s.st.length ps))).later (bel_drV (allocBP (W.alloc (hOb tb s.st.length ps)) (ibx o a b)) q))
  have BY := Lib.hid (fun V (bb : Below (W.alloc (hOb tb s.st.length ps)).heap.size (W.alloc (hOb tb s.st.length ps)) V) => BkP.lat (heapN W (hOb tb s.st.length ps)) bb)
  have HB := Lib.hid hB
  obtain ⟨x, of, hca, _, hc⟩ := (hI.later (allocBP W (hOb tb s.st.length ps))).2.2.2.2.oneP (by omega)
  have c0 := hc k hk 0 (by omega)
  have c1 := hc k hk 1 (by omega)
  have c2 := hc k hk 2 (by omega)
  rw [hi] at c0 c1 c2
  simp only [icell, Nat.add_zero, List.getD_cons_zero, List.getD_cons_succ] at c0 c1 c2
  subst hca
  have d1 := W1.out.wk.cell 1
  simp at d1
  have e1 := (W1.out.later (allocBP _ (ibx o a b))).wk.cell 1
  simp at e1
  have k0 : ¬ (k : Int) < 0 := by omega
  have k1 : (k : Int) < (n : Int) := by omega
  have ks : IntKind.i64.wrap ((k : Int) + 1) = (k : Int) + 1 := by simp [IntKind.wrap, IntKind.bits, IntKind.signed]; omega
  have ts : IntKind.i64.wrap ((k : Int) + 1 + (a : Int)) = (k : Int) + 1 + (a : Int) := by simp [IntKind.wrap, IntKind.bits, IntKind.signed]; omega
  have KH := Lib.hid (fun V t (ht : t < n) (bV : Below W.heap.size W V) => hand_step h hB ht hs hg hp bV)
  have KH2 := Lib.hid (fun V A' l' t (hV : WkR V B wb ab day (some ⟨x, of, none⟩) cc n G A' l') (hb : B ≤ V.heap.size) (hp' : SlR V B ps s.sl) (ht : t < n) => hand_step hV hb ht hs hg hp' (Below.refl _ _))
  have V := Lib.hid (vOn_zero2 (n := n) (k := k) (i := ⟨o, a, b⟩) (s := s) (l := l) (by simp only; omega) (by simpa using hf) he)
  simp only [Int.toNat_natCast] at V
  have HT := Lib.hid (p := k + 1 < n) (by omega)
  have HT2 := Lib.hid (p := k + 1 + a < n) (by omega)
  have g0 : ¬ (n : Int) ≤ (k : Int) + 1 + (a : Int) := by omega
  have IBF := Lib.hid (p := ∀ V, Below ((W.alloc (hOb tb s.st.length ps)).alloc (ibx o a b)).heap.size ((W.alloc (hOb tb s.st.length ps)).alloc (ibx o a b)) V → BkP V (W.heap.size + 1) #[.int .i64 (o : Int), .int .i64 (a : Int), .int .i64 (b : Int)] 68) (fun V bV => by
    have e : (W.alloc (hOb tb s.st.length ps)).heap.size = W.heap.size + 1 := by simp
    have := BkP.lat (heapN (W.alloc (hOb tb s.st.length ps)) (ibx o a b)) bV
    rw [e] at this
    exact this)
  have Q1 : True := trivial
  have b26 : ((o : Int) == 26) = false := by simp; omega
  have m26 : ((o : Int) != 26) = true := by simp; omega
  have b27 : ((o : Int) == 27) = true := by simp; omega
  have m27 : ((o : Int) != 27) = false := by simp; omega
  have b0 : ((o : Int) == 0) = false := by simp; omega
  have m0 : ((o : Int) != 0) = true := by simp; omega
  have z1 : ((vHand (l (k + 1)) s).1 != 0) = false := by simpa using he
  clear h hI hk hn hs hg hp hi ha hc hB
  unfold ibx hOb at *
  clear ho hf he
  have KH3 := Lib.hid (fun V A' (hV : WkR V B wb ab day (some ⟨x, of, none⟩) cc n G A' (vSet l (k + 1) (vHand (l (k + 1)) s).2)) hb hp' => KH2.out V A' _ (k + 1 + a) hV hb hp' HT2.out)
  simp only [show ((k + 1 + a : Nat) : Int) = (k : Int) + 1 + (a : Int) by omega] at KH3
  go_enter Tryz.func56, Tryz.ntmps56
  go_wp2
  go_quiet (fail)
  go_wp2_with (first | (with_reducible show wpList _ _ _ (Oper.mk _ (Op.load 101 _) _ _ _ _ :: _) _ _; have qq := Q1; refine load_st rfl _ rfl W.heap.size rfl tb s.st.length ps (BY.out _ (by first | exact bel_drV (allocBP _ _) _ | exact allocBP _ _)) ?_; clear qq) | (go_at_call 105; have qq := Q1; refine (KH.out _ (k + 1) HT.out (by first | exact (allocBP _ _).trans (Below.mono (bel_drV (allocBP _ _) _) (allocBP _ _).size) | exact (allocBP _ _).trans (Below.mono (allocBP _ _) (allocBP _ _).size))).mono ?_; clear qq Q1; rintro e w3 ⟨rfl, h1, h2, h3, h4, h5, h6⟩; have BL3 := Lib.hid h4; have SY3 := Lib.hid (p := ∀ z y u, BkP W z y u → u ≠ 123 → u ≠ 101 → u ≠ 102 → BkP w3 z y u) (fun z y u kk a b c => h6 z y u (kk.lat (by first | exact (allocBP _ _).trans (Below.mono (bel_drV (allocBP _ _) _) (allocBP _ _).size) | exact (allocBP _ _).trans (Below.mono (allocBP _ _) (allocBP _ _).size))) a b c); have Y3 := Lib.hid (h2 _ _ _ (BY.out _ (by first | exact bel_drV (allocBP _ _) _ | exact allocBP _ _)) (Nat.le_refl _) (by decide)); have i3 := (h2 _ _ _ (IBF.out _ (by first | exact bel_drV (Below.refl _ _) _ | exact Below.refl _ _)) (Nat.le_succ _) (by decide)).cell 1; simp at i3; have P3 := Lib.hid h3; have Z3 := Lib.hid h5; obtain ⟨A3, r3⟩ := h1; have R3 := Lib.hid r3; clear r3; clear h2 h3 h4 h5 h6; have Q2 : True := trivial) | (with_reducible show wpList _ _ _ (Oper.mk _ (Op.load 101 _) _ _ _ _ :: _) _ _; have qq := Q2; refine load_st rfl _ rfl W.heap.size rfl tb s.st.length ps Y3.out ?_; clear qq) | (go_at_call 105; have qq := Q2; refine (KH3.out w3 A3 R3.out Z3.out P3.out).mono ?_; clear qq; rintro e w4 ⟨rfl, h1, h2, h3, h4, h5, h6⟩; have R4 := Lib.hid h1; have BL4 := Lib.hid (BL3.out.trans h4); have SY4 := Lib.hid (p := ∀ z y u, BkP W z y u → u ≠ 123 → u ≠ 101 → u ≠ 102 → BkP w4 z y u) (fun z y u kk a b c => h6 z y u (SY3.out z y u kk a b c) a b c); clear h1 h2 h3 h4 h5 h6))
  go_ret
  obtain ⟨A4, r4⟩ := R4.out
  exact ⟨by rw [V.out]; rfl, ⟨A4, by rw [V.out]; exact r4⟩, BL4.out, SY4.out⟩
theorem handOn_any {W : World} {B wb ab : Nat} {day : Int} {ca : Option Addr} {cc n : Nat} {G : Tg} {A : Nat → Option Nat} {l : Nat → Option Vs} {k tb : Nat} {s : Vs} {ps : Nat → Option Nat} {code : List In} (h : WkR W B wb ab day ca cc n G A l) (hB : B ≤ W.heap.size) (hk : k < n) (hn : n ≤ 262144) (hs : s.ok) (hg : G s.st = some tb) (hp : SlR W B ps s.sl) (hI : IR W ca n cc code) (i : In) (hi : code.getD k default = i) (hok : i.okP) (he : i.o = 0 ↔ k + 1 = n) :
    Calls Tryz.prog 56 #[.pointer (some ⟨wb, 0, none⟩), .int .i64 (k : Int), .agg (stA tb s.st.length ps)] W fun e w' => HoE W B wb ab day ca cc n G A l i k s e w' := by
  obtain ⟨o, a, b⟩ := i
  have ho := hok.1
  have ho2 := hok.2.1
  have ha := hok.2.2.1
  have ha2 := hok.2.2.2.1
  have hb := hok.2.2.2.2.1
  have hm := tab_facts o.toNat (by simp at ho ho2 ⊢; omega)
  simp only at ho ho2 ha hb ha2 hm he
  obtain ⟨o, rfl⟩ : ∃ k : Nat, o = (k : Int) := ⟨o.toNat, by omega⟩
  obtain ⟨a, rfl⟩ : ∃ x : Nat, a = (x : Int) := ⟨a.toNat, by omega⟩
  obtain ⟨b, rfl⟩ : ∃ y : Nat, b = (y : Int) := ⟨b.toNat, by omega⟩
  simp only [Int.toNat_natCast] at hm ha2
  have a1 : a < 262144 := by omega
  clear hok
  by_cases e0 : o = 0
  · exact on_end (w0 := W) h hB hk hn hs hg hp hI o a b hi a1 e0
  have k2 : k + 1 < n := by
    have : ¬ k + 1 = n := fun q => e0 (by have := he.2 q; omega)
    omega
  by_cases e6 : o = 26
  · by_cases f : n ≤ k + 1 + a
    · exact on_far_j (w0 := W) h hB hk hn hs hg hp hI o a b hi a1 e6 f
    · exact on_jump (w0 := W) h hB hk hn hs hg hp hI o a b hi a1 e6 f
  by_cases e7 : o = 27
  · by_cases f : n ≤ k + 1 + a
    · exact on_far_z (w0 := W) h hB hk hn hs hg hp hI o a b hi a1 e7 f
    · by_cases g : (vHand (l (k + 1)) s).1 = 0
      · exact on_zero2 (w0 := W) h hB hk hn hs hg hp hI o a b hi a1 e7 f g
      · exact on_zero1 (w0 := W) h hB hk hn hs hg hp hI o a b hi a1 e7 f g
  by_cases g : (vHand (l (k + 1)) s).1 = 0
  · exact on_other0 (w0 := W) h hB hk hn hs hg hp hI o a b hi a1 e0 e6 e7 k2 g
  · exact on_other1 (w0 := W) h hB hk hn hs hg hp hI o a b hi a1 e0 e6 e7 k2 g
end Go.Proofs.YtpfjnnkjoabgbaaGreatDoor

namespace Go.Proofs.YtpfjnnkjoabgbaaGreatDoor
open Go.RowKit
set_option linter.unusedVariables false
set_option linter.unusedSimpArgs false
theorem one_st (tb len : Nat) (ps : Nat → Option Nat) : (stA tb len ps).all (·.oneCell') = true := by
  unfold stA
  apply all_oneCell_toArray
  intro v hv
  simp only [List.mem_cons, List.mem_map] at hv
  rcases hv with rfl | rfl | ⟨j, _, rfl⟩
  · rfl
  · rfl
  · rfl
theorem store_st {ops : Array Oper} {rest : List Oper} {op : Oper} {a : Act} {w : World} {Q : Exit → Act → World → Prop} (hgd : op.guard = none) (x y : Operand) (ho : op.op = .store 101 x y) (c : Array Value) (hc : c.size = 18) (tb len : Nat) (ps : Nat → Option Nat) (hx : a.eval x = .pointer (some ⟨w.heap.size, 0, none⟩)) (hy : a.eval y = .agg (stA tb len ps)) (h : wpList Tryz.prog ops Q rest (a.put op.dst undef) (w.alloc (.cells (stA tb len ps) 101))) : wpList Tryz.prog ops Q (op :: rest) a (w.alloc (.cells c 101)) := by
  refine wpList_plain hgd fun _ hK => ?_
  have hK := hK _ _ h
  unfold Oper.wp execOp
  simp only [ho, hx, hy, Instr.storeAt, Instr.sureAddr, Sem.run_bind, Sem.run_pure, Result.andThen_ok, run_storeVar_new w 101 c (stA tb len ps) (by rw [state_info, stA_size]) (by rw [hc, stA_size]) (one_st tb len ps)]
  exact hK
/-- What does not turn while a walk is made: the code, the tables. -/
structure Bs (w0 : World) (B : Nat) (ca : Option Addr) (cc n : Nat) (code : List In) : Prop where
  ir : IR w0 ca n cc code
  rw : Rws w0
  ru : Rul w0
  lo : w0.heap.size ≤ B
/-- What pass leaves. -/
structure PsE (W : World) (B wb ab : Nat) (day : Int) (ca : Option Addr) (cc n : Nat) (l : Nat → Option Vs) (i : In) (k : Nat) (e : Ending) (V : World) : Prop where
  ret : e = .returned (.int .i64 (vPass day n i k l).1)
  sta : ∃ G' A', WkR V B wb ab day ca cc n G' A' (vPass day n i k l).2
  bel : Below B W V
  stay : ∀ z y u, BkP W z y u → u ≠ 123 → u ≠ 101 → u ≠ 102 → BkP V z y u
set_option maxRecDepth 100000 in
set_option maxHeartbeats 800000 in
theorem pass_dead {W : World} {B wb ab : Nat} {day : Int} {ca : Option Addr} {cc n : Nat} {G : Tg} {A : Nat → Option Nat} {l : Nat → Option Vs} {k : Nat} {i : In} (h : WkR W B wb ab day ca cc n G A l) (hk : k < n) (hl : l k = none) :
    Calls Tryz.prog 37 #[.pointer (some ⟨wb, 0, none⟩), .int .i64 (k : Int)] W fun e w' => PsE W B wb ab day ca cc n l i k e w' := by
  have hA : A k = none := by
    rcases h.st k hk with ⟨_, q⟩ | ⟨x, u, tb', ps', q1, _⟩
    · exact q
    · rw [hl] at q1; cases q1
  have V : vPass day n i k l = (146, l) := by unfold vPass; rw [hl]
  have E := Lib.hid (p := PsE W B wb ab day ca cc n l i k (.returned (.int .i64 146)) W) ⟨by rw [V], ⟨G, A, by rw [V]; exact h⟩, Below.refl _ _, fun _ _ _ k _ _ _ => k⟩
  have c2 := h.wk.cell 2
  have d := h.ah.cell k
  rw [ahA_at _ _ _ hk, hA] at d
  simp [ptN] at c2 d
  have k0 : ¬ (k : Int) < 0 := by omega
  have k1 : (k : Int) < (n : Int) := by omega
  clear h hl hA hk V
  go_enter Tryz.func37, Tryz.ntmps37
  go_wp2
  go_ret
  exact E.out
theorem pass_do {W V : World} {B wb ab : Nat} {day : Int} {ca : Option Addr} {cc n : Nat} {G : Tg} {A : Nat → Option Nat} {l : Nat → Option Vs} {H : Tg} (h : WkR W B wb ab day ca cc n G A l) {o : Obj} {W' : World} (b : Below (W.alloc o).heap.size (W.alloc o) W') (c : Chg W' V B G H (fun z => z = W.heap.size)) {y : Array Value} {t : TypeId} (ho : o = .cells y 101) : WkR V B wb ab day ca cc n H A l := by
  have b1 : Below W.heap.size W W' := (allocBP W o).trans (b.mono (allocBP _ _).size)
  refine (h.later b1).chg c (fun z y' t' k e => ?_)
  subst e
  refine ⟨?_, fun j hj e => ?_⟩
  · have k2 : BkP W' W.heap.size y 101 := BkP.lat (by rw [ho]; exact heapN _ _) b
    have e := k.symm.trans k2
    injection e with e
    injection e with e1 e2
  · obtain ⟨y'', k''⟩ := h.stt hj e
    have := k''.lt
    omega
set_option maxRecDepth 100000 in
set_option maxHeartbeats 800000 in
theorem pass_live {w0 W : World} {B wb ab : Nat} {day : Int} {ca : Option Addr} {cc n : Nat} {G : Tg} {A : Nat → Option Nat} {l : Nat → Option Vs} {k : Nat} {code : List In} {u : Vs} (h : WkR W B wb ab day ca cc n G A l) (hB : B ≤ W.heap.size) (hk : k < n) (hn : n ≤ 262144) (hl : l k = some u) (hz : u.st.length ≤ 262143) (hb : Bs w0 B ca cc n code) (b0 : Below w0.heap.size w0 W) (i : In) (hi : code.getD k default = i) (hok : i.okP) (he : i.o = 0 ↔ k + 1 = n) :
    Calls Tryz.prog 37 #[.pointer (some ⟨wb, 0, none⟩), .int .i64 (k : Int)] W fun e w' => PsE W B wb ab day ca cc n l i k e w' := by
  obtain ⟨x, tx, px, hA, hx⟩ : ∃ x tx px, A k = some x ∧ SvR W B G x tx px u := by
    rcases h.st k hk with ⟨q, _⟩ | ⟨x, u', tb', ps', q1, q2, q3⟩
    · rw [hl] at q; cases q
    · rw [hl] at q1
      injection q1 with q1
      subst q1
      exact ⟨x, tb', ps', q2, q3⟩
  have hs := h.ok k u hl
  have V : vPass day n i k l = if (vDo day u i).1 ≠ 0 then ((vDo day u i).1, l) else vOn n i k (vDo day u i).2 l := by unfold vPass; rw [hl]
  have KD := Lib.hid (p := ∀ W', Below (W.alloc (hOb tx u.st.length px)).heap.size (W.alloc (hOb tx u.st.length px)) W' → Calls Tryz.prog 55 #[.pointer (some ⟨W.heap.size, 0, none⟩), .agg #[.int .i64 i.o, .int .i64 i.a, .int .i64 i.b], .int .i64 day] W' fun e w' => e = .returned (.int .i64 (vDo day u i).1) ∧ Below B W w' ∧ B ≤ w'.heap.size ∧ (∀ z y u, BkP W z y u → u ≠ 123 → u ≠ 101 → u ≠ 102 → BkP w' z y u) ∧ ∃ H, WkR w' B wb ab day ca cc n H A l ∧ ((vDo day u i).1 = 0 → ∃ tb ps, SvR w' B H W.heap.size tb ps (vDo day u i).2)) (fun W' b => by
    have b1 : Below W.heap.size W W' := (allocBP W _).trans (b.mono (allocBP _ _).size)
    have b2 : Below w0.heap.size w0 W' := b0.trans (b1.mono b0.size)
    have nb : BkP W' W.heap.size (stA tx u.st.length px) 101 := BkP.lat (heapN _ _) b
    refine (do_any (x := W.heap.size) (h.later b1).tri ⟨hx.top, nb, hx.slt.later b1, hB⟩ hs i hok day (hb.rw.below b2) (hb.ru.lat b2) (Nat.lt_of_lt_of_le hb.ru.1 hb.lo) (Nat.le_trans hB b1.size) hz).mono ?_
    rintro e w' ⟨p1, H, p2, p3⟩
    exact ⟨p1, (b1.mono hB).trans p2.bel, Nat.le_trans hB (Nat.le_trans b1.size p2.bel.size), fun z y t kk a b c => p2.stay z y t (kk.lat b1) (fun e => by have := kk.lt; omega) a, H, pass_do (t := 0) h b p2 rfl, p3⟩)
  have KO := Lib.hid (p := ∀ W' H tb ps, Below B W W' → B ≤ W'.heap.size → (∀ z y u, BkP W z y u → u ≠ 123 → u ≠ 101 → u ≠ 102 → BkP W' z y u) → WkR W' B wb ab day ca cc n H A l → (vDo day u i).1 = 0 → SvR W' B H W.heap.size tb ps (vDo day u i).2 → Calls Tryz.prog 56 #[.pointer (some ⟨wb, 0, none⟩), .int .i64 (k : Int), .agg (stA tb (vDo day u i).2.st.length ps)] W' fun e w' => PsE W B wb ab day ca cc n l i k e w') (fun W' H tb ps b1 b2 b4 hW e0 hS => by
    have b3 : Below w0.heap.size w0 W' := b0.trans (b1.mono hb.lo)
    refine (handOn_any hW b2 hk hn (vDo_ok hs hok e0) hS.top hS.slt (hb.ir.later b3) i hi hok he).mono ?_
    rintro e w' ⟨p1, ⟨A', p2⟩, p3, p4⟩
    have V2 : vPass day n i k l = vOn n i k (vDo day u i).2 l := by rw [V, if_neg (by simpa using e0)]
    exact ⟨by rw [V2]; exact p1, ⟨H, A', by rw [V2]; exact p2⟩, b1.trans p3, fun z y t kk a b c => p4 z y t (b4 z y t kk a b c) a b c⟩)
  have EE := Lib.hid (p := (vDo day u i).1 ≠ 0 → ∀ W' H, Below B W W' → (∀ z y u, BkP W z y u → u ≠ 123 → u ≠ 101 → u ≠ 102 → BkP W' z y u) → WkR W' B wb ab day ca cc n H A l → PsE W B wb ab day ca cc n l i k (.returned (.int .i64 (vDo day u i).1)) W') (fun e0 W' H b1 b4 hW => by
    have V2 : vPass day n i k l = ((vDo day u i).1, l) := by rw [V, if_pos e0]
    exact ⟨by rw [V2], ⟨H, A, by rw [V2]; exact hW⟩, b1, b4⟩)
  have h1 := h.later (allocBP W (hOb tx u.st.length px))
  have c2 := h.wk.cell 2
  have d := h.ah.cell k
  rw [ahA_at _ _ _ hk, hA] at d
  simp [ptN] at c2 d
  have XB := Lib.hid hx.box
  obtain ⟨cx, co, hca, _, hc⟩ := ((hb.ir.later b0).later (allocBP W (hOb tx u.st.length px))).2.2.2.2.oneP (by omega)
  have q0 := hc k hk 0 (by omega)
  have q1 := hc k hk 1 (by omega)
  have q2 := hc k hk 2 (by omega)
  rw [hi] at q0 q1 q2
  simp only [icell, Nat.add_zero, List.getD_cons_zero, List.getD_cons_succ] at q0 q1 q2
  subst hca
  have w10 := h1.wk.cell 0
  have w11 := h1.wk.cell 1
  simp at w10 w11
  have k0 : ¬ (k : Int) < 0 := by omega
  have k1 : (k : Int) < (n : Int) := by omega
  clear h h1 hl hA hk V hx hB hn hz hb b0 hi hok he hs hc
  obtain ⟨io, ia, ib⟩ := i
  generalize hv : vDo day u ⟨io, ia, ib⟩ = dd at *
  clear hv
  generalize u.st.length = len at *
  unfold hOb at *
  simp only at q0 q1 q2 KD
  cases ez : (dd.1 != 0) with
  | true =>
    have e0 : dd.1 ≠ 0 := by simpa using ez
    have E1 := Lib.hid (EE.out e0)
    clear e0
    go_enter Tryz.func37, Tryz.ntmps37
    go_wp2_with (first | (with_reducible show wpList _ _ _ (Oper.mk _ (Op.load 101 _) _ _ _ _ :: _) _ _; refine load_st rfl _ rfl x rfl tx len px XB.out ?_) | (with_reducible show wpList _ _ _ (Oper.mk _ (Op.store 101 _ _) _ _ _ _ :: _) _ _; refine store_st rfl _ _ rfl _ rfl tx len px rfl rfl ?_))
    go_region_with (go_at_call 55; refine (KD.out _ (by first | exact Below.refl _ _ | exact drew1B _)).mono ?_; rintro e w3 ⟨rfl, h1, h2, hy, H, h3, h4⟩; have B3 := Lib.hid h1; have R3 := Lib.hid h3; have Y3 := Lib.hid hy; clear h1 h2 h3 h4 hy)
    all_goals
      go_wp2
      go_ret
      first
        | exact E1.out _ H B3.out Y3.out R3.out
        | exact E1.out _ H B3.out.drew (fun z y t kk a b c => (Y3.out z y t kk a b c).lat (drew1B _)) (R3.out.later (drew1B _))
  | false =>
    have e0 : dd.1 = 0 := by simpa using ez
    have E0 := Lib.hid e0
    clear e0 EE
    go_enter Tryz.func37, Tryz.ntmps37
    go_wp2_with (first | (with_reducible show wpList _ _ _ (Oper.mk _ (Op.load 101 _) _ _ _ _ :: _) _ _; refine load_st rfl _ rfl x rfl tx len px XB.out ?_) | (with_reducible show wpList _ _ _ (Oper.mk _ (Op.store 101 _ _) _ _ _ _ :: _) _ _; refine store_st rfl _ _ rfl _ rfl tx len px rfl rfl ?_))
    go_region_with (go_at_call 55; refine (KD.out _ (by first | exact Below.refl _ _ | exact drew1B _)).mono ?_; rintro e w3 ⟨rfl, h1, h2, hy, H, h3, h4⟩; have Y3 := Lib.hid hy; have B3 := Lib.hid h1; have Z3 := Lib.hid h2; have R3 := Lib.hid h3; obtain ⟨tb3, ps3, s3⟩ := h4 E0.out; have S3 := Lib.hid s3; clear h1 h2 h3 h4 s3 hy)
    all_goals
      go_wp2_with (first | (with_reducible show wpList _ _ _ (Oper.mk _ (Op.load 101 _) _ _ _ _ :: _) _ _; refine load_st rfl _ rfl W.heap.size rfl tb3 dd.2.st.length ps3 (by first | exact S3.out.box | exact S3.out.box.lat (drew1B _)) ?_) | (go_at_call 56; (first | (refine (KO.out _ H tb3 ps3 B3.out Z3.out Y3.out R3.out E0.out S3.out).mono ?_) | (refine (KO.out _ H tb3 ps3 B3.out.drew Z3.out (fun z y t kk a b c => (Y3.out z y t kk a b c).lat (drew1B _)) (R3.out.later (drew1B _)) E0.out (S3.out.later (drew1B _))).mono ?_)); rintro e w4 ⟨rfl, h1, h2, h3⟩; have S4 := Lib.hid h1; have B4 := Lib.hid h2; have Y4 := Lib.hid h3; clear h1 h2 h3))
      go_ret
      exact ⟨rfl, S4.out, B4.out, Y4.out⟩
theorem pass_any {w0 W : World} {B wb ab : Nat} {day : Int} {ca : Option Addr} {cc n : Nat} {G : Tg} {A : Nat → Option Nat} {l : Nat → Option Vs} {k : Nat} {code : List In} (h : WkR W B wb ab day ca cc n G A l) (hB : B ≤ W.heap.size) (hk : k < n) (hn : n ≤ 262144) (hz : ∀ u, l k = some u → u.st.length ≤ 262143) (hb : Bs w0 B ca cc n code) (b0 : Below w0.heap.size w0 W) (hok : (code.getD k default).okP) (he : (code.getD k default).o = 0 ↔ k + 1 = n) :
    Calls Tryz.prog 37 #[.pointer (some ⟨wb, 0, none⟩), .int .i64 (k : Int)] W fun e w' => PsE W B wb ab day ca cc n l (code.getD k default) k e w' := by
  cases hl : l k with
  | none => exact pass_dead h hk hl
  | some u => exact pass_live h hB hk hn hl (hz u hl) hb b0 _ rfl hok he
end Go.Proofs.YtpfjnnkjoabgbaaGreatDoor

namespace Go.Proofs.YtpfjnnkjoabgbaaGreatDoor
open Go.RowKit
set_option linter.unusedVariables false
set_option linter.unusedSimpArgs false
theorem infoPtV : (Tryz.prog.info? 102).map (fun i => (i.zero, i.size, i.bytes)) = some (some (.pointer none), 1, 8) := by kernel_rfl
theorem make_ptrs (n : Nat) (hn : n ≤ 262144) (W : World) : (Instr.makeSlice 103 (.int .i64 (n : Int)) (.int .i64 (n : Int))).run Tryz.prog W = .ok (.slice (some ⟨W.heap.size, 0, none⟩) n n) (W.alloc (.cells (madeCells #[.pointer none] n) 102)) := by
  obtain ⟨i0, hi, hz0, hz1, hz2⟩ := info_parts infoPtV
  have := run_make (P := Tryz.prog) W 103 102 i0 _ Tryz.underlying103 hi hz0 .i64 .i64 n n (by omega) (by omega) (by rw [hz2]; omega) (by omega)
  rw [hz1] at this
  simpa [Value.cells] using this
theorem made_ptrs (n : Nat) : madeCells #[.pointer none] n = ahA (fun _ => none) n := by
  apply Array.ext_getElem?
  intro k
  by_cases hk : k < n
  · rw [ahA_at _ _ _ hk]
    unfold madeCells
    simp [hk, ptN, Nat.mod_one]
  · rw [Array.getElem?_eq_none (by simp [madeCells]; omega), Array.getElem?_eq_none (by rw [ahA_size]; omega)]
abbrev rootO : Obj := .cells #[.int .u8 0, .pointer none, .pointer none, .pointer none, .pointer none] 123
abbrev st0O (r : Nat) : Obj := .cells #[.pointer (some ⟨r, 0, none⟩), .int .i64 0, .pointer none, .pointer none, .pointer none, .pointer none, .pointer none, .pointer none, .pointer none, .pointer none, .pointer none, .pointer none, .pointer none, .pointer none, .pointer none, .pointer none, .pointer none, .pointer none] 101
theorem st0_eq (r : Nat) : (#[.pointer (some ⟨r, 0, none⟩), .int .i64 0, .pointer none, .pointer none, .pointer none, .pointer none, .pointer none, .pointer none, .pointer none, .pointer none, .pointer none, .pointer none, .pointer none, .pointer none, .pointer none, .pointer none, .pointer none, .pointer none] : Array Value) = stA r 0 (fun _ => none) := rfl
theorem enter_mk {V : World} {B wb ab : Nat} {day : Int} {ca : Option Addr} {cc n : Nat} (h1 : BkP V wb #[.int .i64 day, .slice ca n cc, .slice (some ⟨ab, 0, none⟩) n n] 105) (h2 : BkP V ab (ahA (fun _ => none) n) 102) (b1 : B ≤ wb) (b2 : B ≤ ab) (b3 : B ≤ V.heap.size) (hn : 0 < n) :
    ∃ G A, WkR (((V.alloc rootO).alloc (st0O V.heap.size)).setCell ⟨ab, 0, none⟩ (.pointer (some ⟨V.heap.size + 1, 0, none⟩))) B wb ab day ca cc n G A vStart := by
  have s1 : (V.alloc rootO).heap.size = V.heap.size + 1 := by simp
  have r0 : BkP (V.alloc rootO) V.heap.size #[.int .u8 0, .pointer none, .pointer none, .pointer none, .pointer none] 123 := heapN _ _
  have r1 := r0.lat (allocBP _ (st0O V.heap.size))
  have t1 : BkP ((V.alloc rootO).alloc (st0O V.heap.size)) (V.heap.size + 1) (stA V.heap.size 0 (fun _ => none)) 101 := by
    have := heapN (V.alloc rootO) (st0O V.heap.size)
    rw [s1] at this
    exact this
  have w1 := (h1.lat (allocBP _ rootO)).lat (allocBP _ (st0O V.heap.size))
  have a1 := (h2.lat (allocBP _ rootO)).lat (allocBP _ (st0O V.heap.size))
  have na : ab < V.heap.size := h2.lt
  have nw : wb ≠ ab := bk_ne h1 h2 (by decide)
  refine ⟨fun s => if s = [] then some V.heap.size else none, fun j => if j = 0 then some (V.heap.size + 1) else none, ?_, w1.other ab _ _ (Ne.symm nw), ?_, ?_, ?_, ⟨b1, b2⟩, vStart_ok⟩
  · refine ⟨⟨V.heap.size, by simp⟩, ?_, ?_, ?_⟩
    · intro s b e
      by_cases hs : s = []
      · subst hs
        simp at e
        subst e
        refine ⟨b3, ?_⟩
        have := r1.other ab 0 (.pointer (some ⟨V.heap.size + 1, 0, none⟩)) (by omega)
        simpa [cellA, blwN, ptN] using this
      · simp [hs] at e
    · intro s t b e1 e2
      by_cases hs : s = [] <;> by_cases ht : t = []
      · rw [hs, ht]
      · simp [ht] at e2
      · simp [hs] at e1
      · simp [hs] at e1
    · intro x s b e
      simp at e
  · have := a1.set2 0 (.pointer (some ⟨V.heap.size + 1, 0, none⟩)) (by rw [ahA_size]; exact hn)
    rw [ahA_set _ _ _ _ hn] at this
    have e : (fun i => if i = 0 then some (V.heap.size + 1) else (fun _ => none) i) = (fun j => if j = 0 then some (V.heap.size + 1) else (none : Option Nat)) := rfl
    rw [e] at this
    exact this
  · intro j hj
    by_cases e : j = 0
    · subst e
      refine .inr ⟨V.heap.size + 1, ⟨[], fun _ => 0⟩, V.heap.size, fun _ => none, by simp [vStart], by simp, by simp, t1.other ab _ _ (by omega), ?_, by omega⟩
      intro j hj
      exact .inl ⟨rfl, fun m hm => rfl⟩
    · exact .inl ⟨by simp [vStart, e], by simp [e]⟩
  · intro i j x hi hj e1 e2
    by_cases h1 : i = 0 <;> by_cases h2 : j = 0
    · rw [h1, h2]
    · simp [h2] at e2
    · simp [h1] at e1
    · simp [h1] at e1
structure EnE (w : World) (B : Nat) (day : Int) (ca : Option Addr) (cc n : Nat) (e : Ending) (w' : World) : Prop where
  ret : ∃ wb ab G A, e = .returned (.pointer (some ⟨wb, 0, none⟩)) ∧ WkR w' B wb ab day ca cc n G A vStart
  bel : Below w.heap.size w w'
theorem enter_world (w : World) (day : Int) (ca : Option Addr) (cc n : Nat) :
    BkP ((((w.alloc (.cells #[.int .i64 day, .slice ca n cc] 71)).alloc (.cells (madeCells #[.pointer none] n) 102)).alloc (.cells #[.int .i64 day, .slice ca n cc, .slice (some ⟨w.heap.size + 1, 0, none⟩) n n] 105)).drew) (w.heap.size + 1 + 1) #[.int .i64 day, .slice ca n cc, .slice (some ⟨w.heap.size + 1, 0, none⟩) n n] 105 ∧
    BkP ((((w.alloc (.cells #[.int .i64 day, .slice ca n cc] 71)).alloc (.cells (madeCells #[.pointer none] n) 102)).alloc (.cells #[.int .i64 day, .slice ca n cc, .slice (some ⟨w.heap.size + 1, 0, none⟩) n n] 105)).drew) (w.heap.size + 1) (ahA (fun _ => none) n) 102 ∧
    ((((w.alloc (.cells #[.int .i64 day, .slice ca n cc] 71)).alloc (.cells (madeCells #[.pointer none] n) 102)).alloc (.cells #[.int .i64 day, .slice ca n cc, .slice (some ⟨w.heap.size + 1, 0, none⟩) n n] 105)).drew).heap.size = w.heap.size + 3 ∧
    Below w.heap.size w ((((w.alloc (.cells #[.int .i64 day, .slice ca n cc] 71)).alloc (.cells (madeCells #[.pointer none] n) 102)).alloc (.cells #[.int .i64 day, .slice ca n cc, .slice (some ⟨w.heap.size + 1, 0, none⟩) n n] 105)).drew) := by
  have e1 : (w.alloc (.cells #[.int .i64 day, .slice ca n cc] 71)).heap.size = w.heap.size + 1 := by simp
  have e2 : ((w.alloc (.cells #[.int .i64 day, .slice ca n cc] 71)).alloc (.cells (madeCells #[.pointer none] n) 102)).heap.size = w.heap.size + 1 + 1 := by simp
  have k1 := heapN (w.alloc (.cells #[.int .i64 day, .slice ca n cc] 71)) (.cells (madeCells #[.pointer none] n) 102)
  have k2 := heapN ((w.alloc (.cells #[.int .i64 day, .slice ca n cc] 71)).alloc (.cells (madeCells #[.pointer none] n) 102)) (.cells #[.int .i64 day, .slice ca n cc, .slice (some ⟨w.heap.size + 1, 0, none⟩) n n] 105)
  rw [e1, made_ptrs] at k1
  rw [e2] at k2
  refine ⟨k2, ?_, by simp, ?_⟩
  · have k3 : BkP ((w.alloc (.cells #[.int .i64 day, .slice ca n cc] 71)).alloc (.cells (madeCells #[.pointer none] n) 102)) (w.heap.size + 1) (ahA (fun _ => none) n) 102 := by rw [made_ptrs]; exact k1
    exact (k3.lat (allocBP _ _)).lat (drew1B _)
  · exact ((((Below.refl _ w).alloc (Nat.le_refl _) _).alloc (by simp) _).alloc (by simp; omega) _).drew
set_option maxRecDepth 100000 in
set_option maxHeartbeats 800000 in
theorem enter_any {w : World} {B : Nat} {day : Int} {ca : Option Addr} {cc n : Nat} (hB : B ≤ w.heap.size) (hn : 0 < n) (h2 : n ≤ 262144) :
    Calls Tryz.prog 36 #[.agg #[.int .i64 day, .slice ca n cc]] w fun e w' => EnE w B day ca cc n e w' := by
  have M0 := make_ptrs n h2
  have k1 : (0 : Int) < (n : Int) := by omega
  have HB := Lib.hid hB
  have HN := Lib.hid hn
  clear hB hn h2
  go_enter Tryz.func36, Tryz.ntmps36
  go_wp2
  go_region
  have VF := enter_world w day ca cc n
  generalize hV : (((w.alloc (.cells #[.int .i64 day, .slice ca n cc] 71)).alloc (.cells (madeCells #[.pointer none] n) 102)).alloc (.cells #[.int .i64 day, .slice ca n cc, .slice (some ⟨w.heap.size + 1, 0, none⟩) n n] 105)).drew = V at *
  clear hV
  obtain ⟨f1, f2, f3, f4⟩ := VF
  have E := Lib.hid (enter_mk f1 f2 (B := B) (by have := HB.out; omega) (by have := HB.out; omega) (by have := HB.out; omega) HN.out)
  have BB := Lib.hid f4
  have c2 := f1.cell 2
  simp at c2
  have a1 := (f2.lat (allocBP _ rootO)).lat (allocBP _ (st0O V.heap.size))
  have d := a1.cell 0
  have f := a1.frozen 0
  rw [ahA_at _ _ _ HN.out] at d
  simp only [ptN, Option.map_none] at d
  unfold rootO st0O at *
  clear f1 f2 f3 f4 a1
  go_wp2
  go_ret
  obtain ⟨G, A, e⟩ := E.out
  exact ⟨⟨_, _, G, A, rfl, e⟩, ((BB.out.alloc BB.out.size _).alloc (Nat.le_trans BB.out.size (allocBP V _).size) _).setCell (p := ⟨w.heap.size + 1, 0, none⟩) (Nat.le_succ _) _⟩
end Go.Proofs.YtpfjnnkjoabgbaaGreatDoor
