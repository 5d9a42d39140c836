import Derived.Test.YtjbbbejadhojlaaDoorXAN
import Derived.Test.YtjbbbejadhojlaaDoorXAA
namespace Go.Proofs.YtjbbbejadhojlaaDoor
open Go.RowKit
set_option linter.unusedVariables false
set_option linter.unusedSimpArgs false
structure HsE (W V : World) (B wb ab : Nat) (day : Int) (ca : Option Addr) (cc n : Nat) (G : Tg) (l : Nat → Option Vs) (t : Nat) (s : Vs) (ps : Nat → Option Nat) (e : Ending) (w' : World) : Prop where
  ret : e = .returned (.int .i64 (vHand (l t) s).1)
  sta : ∃ A', WkR w' B wb ab day ca cc n G A' (vSet l t (vHand (l t) s).2)
  stay : ∀ z y u, BkP V z y u → W.heap.size ≤ z → u ≠ 78 → BkP w' z y u
  slt : SlR w' B ps s.sl
  bel : Below B W w'
  siz : B ≤ w'.heap.size
  oth : ∀ z y u, BkP V z y u → u ≠ 78 → u ≠ 61 → u ≠ 62 → BkP w' z y u
theorem hand_step {W V : World} {B wb ab : Nat} {day : Int} {ca : Option Addr} {cc n : Nat} {G : Tg} {A : Nat → Option Nat} {l : Nat → Option Vs} {t tb : Nat} {s : Vs} {ps : Nat → Option Nat} (h : WkR W B wb ab day ca cc n G A l) (hB : B ≤ W.heap.size) (ht : t < n) (hs : s.ok) (hg : G s.st = some tb) (hp : SlR W B ps s.sl) (bV : Below W.heap.size W V) :
    Calls Tryd.prog 45 #[.pointer (some ⟨wb, 0, none⟩), .int .i64 (t : Int), .agg (stA tb s.st.length ps)] V fun e w' => HsE W V B wb ab day ca cc n G l t s ps e w' := by
  have hW := h.later bV
  refine (hand_any hW (Nat.le_trans hB bV.size) ht hs hg (hp.later bV)).mono ?_
  rintro e w' ⟨p1, ⟨A', p2, p3⟩, p4⟩
  have nsh : ∀ z y, BkP V z y 132 → ¬ chX ab n A z := fun z y k => hW.noT k (by decide) (by decide)
  exact ⟨p1, ⟨A', p2⟩, fun z y u k hz hu => p4.stay z y u k (h.noY hz) hu, (hp.later bV).chg p4 nsh, (bV.mono hB).trans p4.bel, Nat.le_trans hB (Nat.le_trans bV.size p4.bel.size), fun z y u k a b c => p4.stay z y u k (hW.noT k c b) a⟩
set_option maxRecDepth 100000 in
set_option maxHeartbeats 800000 in
theorem on_other0 {w0 W : World} {B wb ab : Nat} {day : Int} {ca : Option Addr} {cc n : Nat} {G : Tg} {A : Nat → Option Nat} {l : Nat → Option Vs} {k tb : Nat} {s : Vs} {ps : Nat → Option Nat} {code : List In} (h : WkR W B wb ab day ca cc n G A l) (hB : B ≤ W.heap.size) (hk : k < n) (hn : n ≤ 262144) (hs : s.ok) (hg : G s.st = some tb) (hp : SlR W B ps s.sl) (hI : IR W ca n cc code) (o a b : Nat) (hi : code.getD k default = ⟨o, a, b⟩) (ha : a < 262144) (h0 : o ≠ 0) (h6 : o ≠ 26) (h7 : o ≠ 27) (hk2 : k + 1 < n) (he : (vHand (l (k + 1)) s).1 = 0) :
    Calls Tryd.prog 27 #[.pointer (some ⟨wb, 0, none⟩), .int .i64 (k : Int), .agg (stA tb s.st.length ps)] W fun e w' => HoE W B wb ab day ca cc n G A l ⟨o, a, b⟩ k s e w' := by
  have W1 := Lib.hid (h.later (allocBP W (hOb tb s.st.length ps)))
  have W2 := Lib.hid (fun q => (h.later (allocBP W (hOb tb s.st.length ps))).later (bel_drV (allocBP (W.alloc (hOb tb s.st.length ps)) (ibx o a b)) q))
  have BY := Lib.hid (fun V (bb : Below (W.alloc (hOb tb s.st.length ps)).heap.size (W.alloc (hOb tb s.st.length ps)) V) => BkP.lat (heapN W (hOb tb s.st.length ps)) bb)
  have HB := Lib.hid hB
  obtain ⟨x, of, hca, _, hc⟩ := (hI.later (allocBP W (hOb tb s.st.length ps))).2.2.2.2.oneP (by omega)
  have c0 := hc k hk 0 (by omega)
  have c1 := hc k hk 1 (by omega)
  have c2 := hc k hk 2 (by omega)
  rw [hi] at c0 c1 c2
  simp only [icell, Nat.add_zero, List.getD_cons_zero, List.getD_cons_succ] at c0 c1 c2
  subst hca
  have d1 := W1.out.wk.cell 1
  simp at d1
  have e1 := (W1.out.later (allocBP _ (ibx o a b))).wk.cell 1
  simp at e1
  have k0 : ¬ (k : Int) < 0 := by omega
  have k1 : (k : Int) < (n : Int) := by omega
  have ks : IntKind.i64.wrap ((k : Int) + 1) = (k : Int) + 1 := by simp [IntKind.wrap, IntKind.bits, IntKind.signed]; omega
  have ts : IntKind.i64.wrap ((k : Int) + 1 + (a : Int)) = (k : Int) + 1 + (a : Int) := by simp [IntKind.wrap, IntKind.bits, IntKind.signed]; omega
  have KH := Lib.hid (fun V t (ht : t < n) (bV : Below W.heap.size W V) => hand_step h hB ht hs hg hp bV)
  have KH2 := Lib.hid (fun V A' l' t (hV : WkR V B wb ab day (some ⟨x, of, none⟩) cc n G A' l') (hb : B ≤ V.heap.size) (hp' : SlR V B ps s.sl) (ht : t < n) => hand_step hV hb ht hs hg hp' (Below.refl _ _))
  have V := Lib.hid (vOn_other (n := n) (k := k) (i := ⟨o, a, b⟩) (s := s) (l := l) (by simp only; omega) (by simp only; omega) (by simp only; omega))
  have HT := Lib.hid hk2
  have Q1 : True := trivial
  have b26 : ((o : Int) == 26) = false := by simp; omega
  have m26 : ((o : Int) != 26) = true := by simp; omega
  have b27 : ((o : Int) == 27) = false := by simp; omega
  have m27 : ((o : Int) != 27) = true := by simp; omega
  have b0 : ((o : Int) == 0) = false := by simp; omega
  have m0 : ((o : Int) != 0) = true := by simp; omega
  have z1 : ((vHand (l (k + 1)) s).1 != 0) = false := by simpa using he
  clear h hI hk hn hs hg hp hi ha hc hB
  unfold ibx hOb at *
  have HE := Lib.hid he
  clear h0 h6 h7 hk2 he
  go_enter Tryd.func27, Tryd.ntmps27
  go_wp2
  go_quiet (fail)
  go_wp2_with (first | (with_reducible show wpList _ _ _ (Oper.mk _ (Op.load 61 _) _ _ _ _ :: _) _ _; have qq := Q1; refine load_st rfl _ rfl W.heap.size rfl tb s.st.length ps (BY.out _ (by first | exact bel_drV (allocBP _ _) _ | exact allocBP _ _)) ?_; clear qq) | (go_at_call 45; have qq := Q1; refine (KH.out _ (k + 1) HT.out (by first | exact (allocBP _ _).trans (Below.mono (bel_drV (allocBP _ _) _) (allocBP _ _).size) | exact (allocBP _ _).trans (Below.mono (allocBP _ _) (allocBP _ _).size))).mono ?_; clear qq Q1; rintro e w3 ⟨rfl, h1, h2, h3, h4, h5, h6⟩; have R3 := Lib.hid h1; have BL3 := Lib.hid h4; have SY3 := Lib.hid (p := ∀ z y u, BkP W z y u → u ≠ 78 → u ≠ 61 → u ≠ 62 → BkP w3 z y u) (fun z y u kk a b c => h6 z y u (kk.lat (by first | exact (allocBP _ _).trans (Below.mono (bel_drV (allocBP _ _) _) (allocBP _ _).size) | exact (allocBP _ _).trans (Below.mono (allocBP _ _) (allocBP _ _).size))) a b c); clear h1 h2 h3 h4 h5 h6))
  go_ret
  obtain ⟨A3, r3⟩ := R3.out
  exact ⟨by rw [V.out, HE.out]; rfl, ⟨A3, by rw [V.out]; exact r3⟩, BL3.out, SY3.out⟩
set_option maxRecDepth 100000 in
set_option maxHeartbeats 800000 in
theorem on_other1 {w0 W : World} {B wb ab : Nat} {day : Int} {ca : Option Addr} {cc n : Nat} {G : Tg} {A : Nat → Option Nat} {l : Nat → Option Vs} {k tb : Nat} {s : Vs} {ps : Nat → Option Nat} {code : List In} (h : WkR W B wb ab day ca cc n G A l) (hB : B ≤ W.heap.size) (hk : k < n) (hn : n ≤ 262144) (hs : s.ok) (hg : G s.st = some tb) (hp : SlR W B ps s.sl) (hI : IR W ca n cc code) (o a b : Nat) (hi : code.getD k default = ⟨o, a, b⟩) (ha : a < 262144) (h0 : o ≠ 0) (h6 : o ≠ 26) (h7 : o ≠ 27) (hk2 : k + 1 < n) (he : (vHand (l (k + 1)) s).1 ≠ 0) :
    Calls Tryd.prog 27 #[.pointer (some ⟨wb, 0, none⟩), .int .i64 (k : Int), .agg (stA tb s.st.length ps)] W fun e w' => HoE W B wb ab day ca cc n G A l ⟨o, a, b⟩ k s e w' := by
  have W1 := Lib.hid (h.later (allocBP W (hOb tb s.st.length ps)))
  have W2 := Lib.hid (fun q => (h.later (allocBP W (hOb tb s.st.length ps))).later (bel_drV (allocBP (W.alloc (hOb tb s.st.length ps)) (ibx o a b)) q))
  have BY := Lib.hid (fun V (bb : Below (W.alloc (hOb tb s.st.length ps)).heap.size (W.alloc (hOb tb s.st.length ps)) V) => BkP.lat (heapN W (hOb tb s.st.length ps)) bb)
  have HB := Lib.hid hB
  obtain ⟨x, of, hca, _, hc⟩ := (hI.later (allocBP W (hOb tb s.st.length ps))).2.2.2.2.oneP (by omega)
  have c0 := hc k hk 0 (by omega)
  have c1 := hc k hk 1 (by omega)
  have c2 := hc k hk 2 (by omega)
  rw [hi] at c0 c1 c2
  simp only [icell, Nat.add_zero, List.getD_cons_zero, List.getD_cons_succ] at c0 c1 c2
  subst hca
  have d1 := W1.out.wk.cell 1
  simp at d1
  have e1 := (W1.out.later (allocBP _ (ibx o a b))).wk.cell 1
  simp at e1
  have k0 : ¬ (k : Int) < 0 := by omega
  have k1 : (k : Int) < (n : Int) := by omega
  have ks : IntKind.i64.wrap ((k : Int) + 1) = (k : Int) + 1 := by simp [IntKind.wrap, IntKind.bits, IntKind.signed]; omega
  have ts : IntKind.i64.wrap ((k : Int) + 1 + (a : Int)) = (k : Int) + 1 + (a : Int) := by simp [IntKind.wrap, IntKind.bits, IntKind.signed]; omega
  have KH := Lib.hid (fun V t (ht : t < n) (bV : Below W.heap.size W V) => hand_step h hB ht hs hg hp bV)
  have KH2 := Lib.hid (fun V A' l' t (hV : WkR V B wb ab day (some ⟨x, of, none⟩) cc n G A' l') (hb : B ≤ V.heap.size) (hp' : SlR V B ps s.sl) (ht : t < n) => hand_step hV hb ht hs hg hp' (Below.refl _ _))
  have V := Lib.hid (vOn_other (n := n) (k := k) (i := ⟨o, a, b⟩) (s := s) (l := l) (by simp only; omega) (by simp only; omega) (by simp only; omega))
  have HT := Lib.hid hk2
  have Q1 : True := trivial
  have b26 : ((o : Int) == 26) = false := by simp; omega
  have m26 : ((o : Int) != 26) = true := by simp; omega
  have b27 : ((o : Int) == 27) = false := by simp; omega
  have m27 : ((o : Int) != 27) = true := by simp; omega
  have b0 : ((o : Int) == 0) = false := by simp; omega
  have m0 : ((o : Int) != 0) = true := by simp; omega
  have z1 : ((vHand (l (k + 1)) s).1 != 0) = true := by simpa using he
  clear h hI hk hn hs hg hp hi ha hc hB
  unfold ibx hOb at *
  clear h0 h6 h7 hk2 he
  go_enter Tryd.func27, Tryd.ntmps27
  go_wp2
  go_quiet (fail)
  go_wp2_with (first | (with_reducible show wpList _ _ _ (Oper.mk _ (Op.load 61 _) _ _ _ _ :: _) _ _; have qq := Q1; refine load_st rfl _ rfl W.heap.size rfl tb s.st.length ps (BY.out _ (by first | exact bel_drV (allocBP _ _) _ | exact allocBP _ _)) ?_; clear qq) | (go_at_call 45; have qq := Q1; refine (KH.out _ (k + 1) HT.out (by first | exact (allocBP _ _).trans (Below.mono (bel_drV (allocBP _ _) _) (allocBP _ _).size) | exact (allocBP _ _).trans (Below.mono (allocBP _ _) (allocBP _ _).size))).mono ?_; clear qq Q1; rintro e w3 ⟨rfl, h1, h2, h3, h4, h5, h6⟩; have R3 := Lib.hid h1; have BL3 := Lib.hid h4; have SY3 := Lib.hid (p := ∀ z y u, BkP W z y u → u ≠ 78 → u ≠ 61 → u ≠ 62 → BkP w3 z y u) (fun z y u kk a b c => h6 z y u (kk.lat (by first | exact (allocBP _ _).trans (Below.mono (bel_drV (allocBP _ _) _) (allocBP _ _).size) | exact (allocBP _ _).trans (Below.mono (allocBP _ _) (allocBP _ _).size))) a b c); clear h1 h2 h3 h4 h5 h6))
  go_ret
  obtain ⟨A3, r3⟩ := R3.out
  exact ⟨by rw [V.out]; rfl, ⟨A3, by rw [V.out]; exact r3⟩, BL3.out, SY3.out⟩
set_option maxRecDepth 100000 in
set_option maxHeartbeats 800000 in
theorem on_jump {w0 W : World} {B wb ab : Nat} {day : Int} {ca : Option Addr} {cc n : Nat} {G : Tg} {A : Nat → Option Nat} {l : Nat → Option Vs} {k tb : Nat} {s : Vs} {ps : Nat → Option Nat} {code : List In} (h : WkR W B wb ab day ca cc n G A l) (hB : B ≤ W.heap.size) (hk : k < n) (hn : n ≤ 262144) (hs : s.ok) (hg : G s.st = some tb) (hp : SlR W B ps s.sl) (hI : IR W ca n cc code) (o a b : Nat) (hi : code.getD k default = ⟨o, a, b⟩) (ha : a < 262144) (ho : o = 26) (hf : ¬ n ≤ k + 1 + a) :
    Calls Tryd.prog 27 #[.pointer (some ⟨wb, 0, none⟩), .int .i64 (k : Int), .agg (stA tb s.st.length ps)] W fun e w' => HoE W B wb ab day ca cc n G A l ⟨o, a, b⟩ k s e w' := by
  have W1 := Lib.hid (h.later (allocBP W (hOb tb s.st.length ps)))
  have W2 := Lib.hid (fun q => (h.later (allocBP W (hOb tb s.st.length ps))).later (bel_drV (allocBP (W.alloc (hOb tb s.st.length ps)) (ibx o a b)) q))
  have BY := Lib.hid (fun V (bb : Below (W.alloc (hOb tb s.st.length ps)).heap.size (W.alloc (hOb tb s.st.length ps)) V) => BkP.lat (heapN W (hOb tb s.st.length ps)) bb)
  have HB := Lib.hid hB
  obtain ⟨x, of, hca, _, hc⟩ := (hI.later (allocBP W (hOb tb s.st.length ps))).2.2.2.2.oneP (by omega)
  have c0 := hc k hk 0 (by omega)
  have c1 := hc k hk 1 (by omega)
  have c2 := hc k hk 2 (by omega)
  rw [hi] at c0 c1 c2
  simp only [icell, Nat.add_zero, List.getD_cons_zero, List.getD_cons_succ] at c0 c1 c2
  subst hca
  have d1 := W1.out.wk.cell 1
  simp at d1
  have e1 := (W1.out.later (allocBP _ (ibx o a b))).wk.cell 1
  simp at e1
  have k0 : ¬ (k : Int) < 0 := by omega
  have k1 : (k : Int) < (n : Int) := by omega
  have ks : IntKind.i64.wrap ((k : Int) + 1) = (k : Int) + 1 := by simp [IntKind.wrap, IntKind.bits, IntKind.signed]; omega
  have ts : IntKind.i64.wrap ((k : Int) + 1 + (a : Int)) = (k : Int) + 1 + (a : Int) := by simp [IntKind.wrap, IntKind.bits, IntKind.signed]; omega
  have KH := Lib.hid (fun V t (ht : t < n) (bV : Below W.heap.size W V) => hand_step h hB ht hs hg hp bV)
  have KH2 := Lib.hid (fun V A' l' t (hV : WkR V B wb ab day (some ⟨x, of, none⟩) cc n G A' l') (hb : B ≤ V.heap.size) (hp' : SlR V B ps s.sl) (ht : t < n) => hand_step hV hb ht hs hg hp' (Below.refl _ _))
  have V := Lib.hid (vOn_jump (n := n) (k := k) (i := ⟨o, a, b⟩) (s := s) (l := l) (by simp only; omega) (by simpa using hf))
  simp only [Int.toNat_natCast] at V
  have HT := Lib.hid (p := k + 1 + a < n) (by omega)
  have tc : ((k + 1 + a : Nat) : Int) = (k : Int) + 1 + (a : Int) := by omega

  have g0 : ¬ (n : Int) ≤ (k : Int) + 1 + (a : Int) := by omega
  have Q1 : True := trivial
  have b26 : ((o : Int) == 26) = true := by simp; omega
  have m26 : ((o : Int) != 26) = false := by simp; omega
  have b27 : ((o : Int) == 27) = false := by simp; omega
  have m27 : ((o : Int) != 27) = true := by simp; omega
  have b0 : ((o : Int) == 0) = false := by simp; omega
  have m0 : ((o : Int) != 0) = true := by simp; omega
  clear h hI hk hn hs hg hp hi ha hc hB
  unfold ibx hOb at *
  clear ho hf tc
  go_enter Tryd.func27, Tryd.ntmps27
  go_wp2
  go_quiet (fail)
  have KH3 := Lib.hid (fun V bV => KH.out V (k + 1 + a) HT.out bV)
  simp only [show ((k + 1 + a : Nat) : Int) = (k : Int) + 1 + (a : Int) by omega] at KH3
  go_wp2_with (first | (with_reducible show wpList _ _ _ (Oper.mk _ (Op.load 61 _) _ _ _ _ :: _) _ _; have qq := Q1; refine load_st rfl _ rfl W.heap.size rfl tb s.st.length ps (BY.out _ (by first | exact bel_drV (allocBP _ _) _ | exact allocBP _ _)) ?_; clear qq) | (go_at_call 45; have qq := Q1; refine (KH3.out _ (by first | exact (allocBP _ _).trans (Below.mono (bel_drV (allocBP _ _) _) (allocBP _ _).size) | exact (allocBP _ _).trans (Below.mono (allocBP _ _) (allocBP _ _).size))).mono ?_; clear qq Q1; rintro e w3 ⟨rfl, h1, h2, h3, h4, h5, h6⟩; have R3 := Lib.hid h1; have BL3 := Lib.hid h4; have SY3 := Lib.hid (p := ∀ z y u, BkP W z y u → u ≠ 78 → u ≠ 61 → u ≠ 62 → BkP w3 z y u) (fun z y u kk a b c => h6 z y u (kk.lat (by first | exact (allocBP _ _).trans (Below.mono (bel_drV (allocBP _ _) _) (allocBP _ _).size) | exact (allocBP _ _).trans (Below.mono (allocBP _ _) (allocBP _ _).size))) a b c); clear h1 h2 h3 h4 h5 h6))
  go_ret
  obtain ⟨A3, r3⟩ := R3.out
  exact ⟨by rw [V.out]; rfl, ⟨A3, by rw [V.out]; exact r3⟩, BL3.out, SY3.out⟩
end Go.Proofs.YtjbbbejadhojlaaDoor

namespace Go.Proofs.YtjbbbejadhojlaaDoor
open Go.RowKit
set_option linter.unusedVariables false
set_option linter.unusedSimpArgs false
set_option maxRecDepth 100000 in
set_option maxHeartbeats 800000 in
theorem on_zero1 {w0 W : World} {B wb ab : Nat} {day : Int} {ca : Option Addr} {cc n : Nat} {G : Tg} {A : Nat → Option Nat} {l : Nat → Option Vs} {k tb : Nat} {s : Vs} {ps : Nat → Option Nat} {code : List In} (h : WkR W B wb ab day ca cc n G A l) (hB : B ≤ W.heap.size) (hk : k < n) (hn : n ≤ 262144) (hs : s.ok) (hg : G s.st = some tb) (hp : SlR W B ps s.sl) (hI : IR W ca n cc code) (o a b : Nat) (hi : code.getD k default = ⟨o, a, b⟩) (ha : a < 262144) (ho : o = 27) (hf : ¬ n ≤ k + 1 + a) (he : (vHand (l (k + 1)) s).1 ≠ 0) :
    Calls Tryd.prog 27 #[.pointer (some ⟨wb, 0, none⟩), .int .i64 (k : Int), .agg (stA tb s.st.length ps)] W fun e w' => HoE W B wb ab day ca cc n G A l ⟨o, a, b⟩ k s e w' := by
  have W1 := Lib.hid (h.later (allocBP W (hOb tb s.st.length ps)))
  have W2 := Lib.hid (fun q => (h.later (allocBP W (hOb tb s.st.length ps))).later (bel_drV (allocBP (W.alloc (hOb tb s.st.length ps)) (ibx o a b)) q))
  have BY := Lib.hid (fun V (bb : Below (W.alloc (hOb tb s.st.length ps)).heap.size (W.alloc (hOb tb s.st.length ps)) V) => BkP.lat (heapN W (hOb tb s.st.length ps)) bb)
  have HB := Lib.hid hB
  obtain ⟨x, of, hca, _, hc⟩ := (hI.later (allocBP W (hOb tb s.st.length ps))).2.2.2.2.oneP (by omega)
  have c0 := hc k hk 0 (by omega)
  have c1 := hc k hk 1 (by omega)
  have c2 := hc k hk 2 (by omega)
  rw [hi] at c0 c1 c2
  simp only [icell, Nat.add_zero, List.getD_cons_zero, List.getD_cons_succ] at c0 c1 c2
  subst hca
  have d1 := W1.out.wk.cell 1
  simp at d1
  have e1 := (W1.out.later (allocBP _ (ibx o a b))).wk.cell 1
  simp at e1
  have k0 : ¬ (k : Int) < 0 := by omega
  have k1 : (k : Int) < (n : Int) := by omega
  have ks : IntKind.i64.wrap ((k : Int) + 1) = (k : Int) + 1 := by simp [IntKind.wrap, IntKind.bits, IntKind.signed]; omega
  have ts : IntKind.i64.wrap ((k : Int) + 1 + (a : Int)) = (k : Int) + 1 + (a : Int) := by simp [IntKind.wrap, IntKind.bits, IntKind.signed]; omega
  have KH := Lib.hid (fun V t (ht : t < n) (bV : Below W.heap.size W V) => hand_step h hB ht hs hg hp bV)
  have KH2 := Lib.hid (fun V A' l' t (hV : WkR V B wb ab day (some ⟨x, of, none⟩) cc n G A' l') (hb : B ≤ V.heap.size) (hp' : SlR V B ps s.sl) (ht : t < n) => hand_step hV hb ht hs hg hp' (Below.refl _ _))
  have V := Lib.hid (vOn_zero1 (n := n) (k := k) (i := ⟨o, a, b⟩) (s := s) (l := l) (by simp only; omega) (by simpa using hf) he)
  have HT := Lib.hid (p := k + 1 < n) (by omega)
  have HT2 := Lib.hid (p := k + 1 + a < n) (by omega)
  have g0 : ¬ (n : Int) ≤ (k : Int) + 1 + (a : Int) := by omega
  have IBF := Lib.hid (p := ∀ V, Below ((W.alloc (hOb tb s.st.length ps)).alloc (ibx o a b)).heap.size ((W.alloc (hOb tb s.st.length ps)).alloc (ibx o a b)) V → BkP V (W.heap.size + 1) #[.int .i64 (o : Int), .int .i64 (a : Int), .int .i64 (b : Int)] 51) (fun V bV => by
    have e : (W.alloc (hOb tb s.st.length ps)).heap.size = W.heap.size + 1 := by simp
    have := BkP.lat (heapN (W.alloc (hOb tb s.st.length ps)) (ibx o a b)) bV
    rw [e] at this
    exact this)
  have Q1 : True := trivial
  have b26 : ((o : Int) == 26) = false := by simp; omega
  have m26 : ((o : Int) != 26) = true := by simp; omega
  have b27 : ((o : Int) == 27) = true := by simp; omega
  have m27 : ((o : Int) != 27) = false := by simp; omega
  have b0 : ((o : Int) == 0) = false := by simp; omega
  have m0 : ((o : Int) != 0) = true := by simp; omega
  have z1 : ((vHand (l (k + 1)) s).1 != 0) = true := by simpa using he
  clear h hI hk hn hs hg hp hi ha hc hB
  unfold ibx hOb at *
  clear ho hf he
  go_enter Tryd.func27, Tryd.ntmps27
  go_wp2
  go_quiet (fail)
  go_wp2_with (first | (with_reducible show wpList _ _ _ (Oper.mk _ (Op.load 61 _) _ _ _ _ :: _) _ _; have qq := Q1; refine load_st rfl _ rfl W.heap.size rfl tb s.st.length ps (BY.out _ (by first | exact bel_drV (allocBP _ _) _ | exact allocBP _ _)) ?_; clear qq) | (go_at_call 45; have qq := Q1; refine (KH.out _ (k + 1) HT.out (by first | exact (allocBP _ _).trans (Below.mono (bel_drV (allocBP _ _) _) (allocBP _ _).size) | exact (allocBP _ _).trans (Below.mono (allocBP _ _) (allocBP _ _).size))).mono ?_; clear qq Q1; rintro e w3 ⟨rfl, h1, h2, h3, h4, h5, h6⟩; have R3 := Lib.hid h1; have BL3 := Lib.hid h4; have SY3 := Lib.hid (p := ∀ z y u, BkP W z y u → u ≠ 78 → u ≠ 61 → u ≠ 62 → BkP w3 z y u) (fun z y u kk a b c => h6 z y u (kk.lat (by first | exact (allocBP _ _).trans (Below.mono (bel_drV (allocBP _ _) _) (allocBP _ _).size) | exact (allocBP _ _).trans (Below.mono (allocBP _ _) (allocBP _ _).size))) a b c); clear h1 h2 h3 h4 h5 h6))
  go_ret
  obtain ⟨A3, r3⟩ := R3.out
  exact ⟨by rw [V.out]; rfl, ⟨A3, by rw [V.out]; exact r3⟩, BL3.out, SY3.out⟩
set_option maxRecDepth 100000 in
set_option maxHeartbeats 800000 in
theorem on_zero2 {w0 W : World} {B wb ab : Nat} {day : Int} {ca : Option Addr} {cc n : Nat} {G : Tg} {A : Nat → Option Nat} {l : Nat → Option Vs} {k tb : Nat} {s : Vs} {ps : Nat → Option Nat} {code : List In} (h : WkR W B wb ab day ca cc n G A l) (hB : B ≤ W.heap.size) (hk : k < n) (hn : n ≤ 262144) (hs : s.ok) (hg : G s.st = some tb) (hp : SlR W B ps s.sl) (hI : IR W ca n cc code) (o a b : Nat) (hi : code.getD k default = ⟨o, a, b⟩) (ha : a < 262144) (ho : o = 27) (hf : ¬ n ≤ k + 1 + a) (he : (vHand (l (k + 1)) s).1 = 0) :
    Calls Tryd.prog 27 #[.pointer (some ⟨wb, 0, none⟩), .int .i64 (k : Int), .agg (stA tb s.st.length ps)] W fun e w' => HoE W B wb ab day ca cc n G A l ⟨o, a, b⟩ k s e w' := by
  have W1 := Lib.hid (h.later (allocBP W (hOb tb s.st.length ps)))
  have W2 := Lib.hid (fun q => (h.later (allocBP W (hOb tb s.st.length ps))).later (bel_drV (allocBP (W.alloc (hOb tb s.st.length ps)) (ibx o a b)) q))
  have BY := Lib.hid (fun V (bb : Below (W.alloc (hOb tb s.st.length ps)).heap.size (W.alloc (hOb tb s.st.length ps)) V) => BkP.lat (heapN W (hOb tb s.st.length ps)) bb)
  have HB := Lib.hid hB
  obtain ⟨x, of, hca, _, hc⟩ := (hI.later (allocBP W (hOb tb s.st.length ps))).2.2.2.2.oneP (by omega)
  have c0 := hc k hk 0 (by omega)
  have c1 := hc k hk 1 (by omega)
  have c2 := hc k hk 2 (by omega)
  rw [hi] at c0 c1 c2
  simp only [icell, Nat.add_zero, List.getD_cons_zero, List.getD_cons_succ] at c0 c1 c2
  subst hca
  have d1 := W1.out.wk.cell 1
  simp at d1
  have e1 := (W1.out.later (allocBP _ (ibx o a b))).wk.cell 1
  simp at e1
  have k0 : ¬ (k : Int) < 0 := by omega
  have k1 : (k : Int) < (n : Int) := by omega
  have ks : IntKind.i64.wrap ((k : Int) + 1) = (k : Int) + 1 := by simp [IntKind.wrap, IntKind.bits, IntKind.signed]; omega
  have ts : IntKind.i64.wrap ((k : Int) + 1 + (a : Int)) = (k : Int) + 1 + (a : Int) := by simp [IntKind.wrap, IntKind.bits, IntKind.signed]; omega
  have KH := Lib.hid (fun V t (ht : t < n) (bV : Below W.heap.size W V) => hand_step h hB ht hs hg hp bV)
  have KH2 := Lib.hid (fun V A' l' t (hV : WkR V B wb ab day (some ⟨x, of, none⟩) cc n G A' l') (hb : B ≤ V.heap.size) (hp' : SlR V B ps s.sl) (ht : t < n) => hand_step hV hb ht hs hg hp' (Below.refl _ _))
  have V := Lib.hid (vOn_zero2 (n := n) (k := k) (i := ⟨o, a, b⟩) (s := s) (l := l) (by simp only; omega) (by simpa using hf) he)
  simp only [Int.toNat_natCast] at V
  have HT := Lib.hid (p := k + 1 < n) (by omega)
  have HT2 := Lib.hid (p := k + 1 + a < n) (by omega)
  have g0 : ¬ (n : Int) ≤ (k : Int) + 1 + (a : Int) := by omega
  have IBF := Lib.hid (p := ∀ V, Below ((W.alloc (hOb tb s.st.length ps)).alloc (ibx o a b)).heap.size ((W.alloc (hOb tb s.st.length ps)).alloc (ibx o a b)) V → BkP V (W.heap.size + 1) #[.int .i64 (o : Int), .int .i64 (a : Int), .int .i64 (b : Int)] 51) (fun V bV => by
    have e : (W.alloc (hOb tb s.st.length ps)).heap.size = W.heap.size + 1 := by simp
    have := BkP.lat (heapN (W.alloc (hOb tb s.st.length ps)) (ibx o a b)) bV
    rw [e] at this
    exact this)
  have Q1 : True := trivial
  have b26 : ((o : Int) == 26) = false := by simp; omega
  have m26 : ((o : Int) != 26) = true := by simp; omega
  have b27 : ((o : Int) == 27) = true := by simp; omega
  have m27 : ((o : Int) != 27) = false := by simp; omega
  have b0 : ((o : Int) == 0) = false := by simp; omega
  have m0 : ((o : Int) != 0) = true := by simp; omega
  have z1 : ((vHand (l (k + 1)) s).1 != 0) = false := by simpa using he
  clear h hI hk hn hs hg hp hi ha hc hB
  unfold ibx hOb at *
  clear ho hf he
  have KH3 := Lib.hid (fun V A' (hV : WkR V B wb ab day (some ⟨x, of, none⟩) cc n G A' (vSet l (k + 1) (vHand (l (k + 1)) s).2)) hb hp' => KH2.out V A' _ (k + 1 + a) hV hb hp' HT2.out)
  simp only [show ((k + 1 + a : Nat) : Int) = (k : Int) + 1 + (a : Int) by omega] at KH3
  go_enter Tryd.func27, Tryd.ntmps27
  go_wp2
  go_quiet (fail)
  go_wp2_with (first | (with_reducible show wpList _ _ _ (Oper.mk _ (Op.load 61 _) _ _ _ _ :: _) _ _; have qq := Q1; refine load_st rfl _ rfl W.heap.size rfl tb s.st.length ps (BY.out _ (by first | exact bel_drV (allocBP _ _) _ | exact allocBP _ _)) ?_; clear qq) | (go_at_call 45; have qq := Q1; refine (KH.out _ (k + 1) HT.out (by first | exact (allocBP _ _).trans (Below.mono (bel_drV (allocBP _ _) _) (allocBP _ _).size) | exact (allocBP _ _).trans (Below.mono (allocBP _ _) (allocBP _ _).size))).mono ?_; clear qq Q1; rintro e w3 ⟨rfl, h1, h2, h3, h4, h5, h6⟩; have BL3 := Lib.hid h4; have SY3 := Lib.hid (p := ∀ z y u, BkP W z y u → u ≠ 78 → u ≠ 61 → u ≠ 62 → BkP w3 z y u) (fun z y u kk a b c => h6 z y u (kk.lat (by first | exact (allocBP _ _).trans (Below.mono (bel_drV (allocBP _ _) _) (allocBP _ _).size) | exact (allocBP _ _).trans (Below.mono (allocBP _ _) (allocBP _ _).size))) a b c); have Y3 := Lib.hid (h2 _ _ _ (BY.out _ (by first | exact bel_drV (allocBP _ _) _ | exact allocBP _ _)) (Nat.le_refl _) (by decide)); have i3 := (h2 _ _ _ (IBF.out _ (by first | exact bel_drV (Below.refl _ _) _ | exact Below.refl _ _)) (Nat.le_succ _) (by decide)).cell 1; simp at i3; have P3 := Lib.hid h3; have Z3 := Lib.hid h5; obtain ⟨A3, r3⟩ := h1; have R3 := Lib.hid r3; clear r3; clear h2 h3 h4 h5 h6; have Q2 : True := trivial) | (with_reducible show wpList _ _ _ (Oper.mk _ (Op.load 61 _) _ _ _ _ :: _) _ _; have qq := Q2; refine load_st rfl _ rfl W.heap.size rfl tb s.st.length ps Y3.out ?_; clear qq) | (go_at_call 45; have qq := Q2; refine (KH3.out w3 A3 R3.out Z3.out P3.out).mono ?_; clear qq; rintro e w4 ⟨rfl, h1, h2, h3, h4, h5, h6⟩; have R4 := Lib.hid h1; have BL4 := Lib.hid (BL3.out.trans h4); have SY4 := Lib.hid (p := ∀ z y u, BkP W z y u → u ≠ 78 → u ≠ 61 → u ≠ 62 → BkP w4 z y u) (fun z y u kk a b c => h6 z y u (SY3.out z y u kk a b c) a b c); clear h1 h2 h3 h4 h5 h6))
  go_ret
  obtain ⟨A4, r4⟩ := R4.out
  exact ⟨by rw [V.out]; rfl, ⟨A4, by rw [V.out]; exact r4⟩, BL4.out, SY4.out⟩
theorem handOn_any {W : World} {B wb ab : Nat} {day : Int} {ca : Option Addr} {cc n : Nat} {G : Tg} {A : Nat → Option Nat} {l : Nat → Option Vs} {k tb : Nat} {s : Vs} {ps : Nat → Option Nat} {code : List In} (h : WkR W B wb ab day ca cc n G A l) (hB : B ≤ W.heap.size) (hk : k < n) (hn : n ≤ 262144) (hs : s.ok) (hg : G s.st = some tb) (hp : SlR W B ps s.sl) (hI : IR W ca n cc code) (i : In) (hi : code.getD k default = i) (hok : i.okP) (he : i.o = 0 ↔ k + 1 = n) :
    Calls Tryd.prog 27 #[.pointer (some ⟨wb, 0, none⟩), .int .i64 (k : Int), .agg (stA tb s.st.length ps)] W fun e w' => HoE W B wb ab day ca cc n G A l i k s e w' := by
  obtain ⟨o, a, b⟩ := i
  have ho := hok.1
  have ho2 := hok.2.1
  have ha := hok.2.2.1
  have ha2 := hok.2.2.2.1
  have hb := hok.2.2.2.2.1
  have hm := tab_facts o.toNat (by simp at ho ho2 ⊢; omega)
  simp only at ho ho2 ha hb ha2 hm he
  obtain ⟨o, rfl⟩ : ∃ k : Nat, o = (k : Int) := ⟨o.toNat, by omega⟩
  obtain ⟨a, rfl⟩ : ∃ x : Nat, a = (x : Int) := ⟨a.toNat, by omega⟩
  obtain ⟨b, rfl⟩ : ∃ y : Nat, b = (y : Int) := ⟨b.toNat, by omega⟩
  simp only [Int.toNat_natCast] at hm ha2
  have a1 : a < 262144 := by omega
  clear hok
  by_cases e0 : o = 0
  · exact on_end (w0 := W) h hB hk hn hs hg hp hI o a b hi a1 e0
  have k2 : k + 1 < n := by
    have : ¬ k + 1 = n := fun q => e0 (by have := he.2 q; omega)
    omega
  by_cases e6 : o = 26
  · by_cases f : n ≤ k + 1 + a
    · exact on_far_j (w0 := W) h hB hk hn hs hg hp hI o a b hi a1 e6 f
    · exact on_jump (w0 := W) h hB hk hn hs hg hp hI o a b hi a1 e6 f
  by_cases e7 : o = 27
  · by_cases f : n ≤ k + 1 + a
    · exact on_far_z (w0 := W) h hB hk hn hs hg hp hI o a b hi a1 e7 f
    · by_cases g : (vHand (l (k + 1)) s).1 = 0
      · exact on_zero2 (w0 := W) h hB hk hn hs hg hp hI o a b hi a1 e7 f g
      · exact on_zero1 (w0 := W) h hB hk hn hs hg hp hI o a b hi a1 e7 f g
  by_cases g : (vHand (l (k + 1)) s).1 = 0
  · exact on_other0 (w0 := W) h hB hk hn hs hg hp hI o a b hi a1 e0 e6 e7 k2 g
  · exact on_other1 (w0 := W) h hB hk hn hs hg hp hI o a b hi a1 e0 e6 e7 k2 g
end Go.Proofs.YtjbbbejadhojlaaDoor

namespace Go.Proofs.YtjbbbejadhojlaaDoor
open Go.RowKit
set_option linter.unusedVariables false
set_option linter.unusedSimpArgs false
theorem one_st (tb len : Nat) (ps : Nat → Option Nat) : (stA tb len ps).all (·.oneCell') = true := by
  unfold stA
  apply all_oneCell_toArray
  intro v hv
  simp only [List.mem_cons, List.mem_map] at hv
  rcases hv with rfl | rfl | ⟨j, _, rfl⟩
  · rfl
  · rfl
  · rfl
theorem store_st {ops : Array Oper} {rest : List Oper} {op : Oper} {a : Act} {w : World} {Q : Exit → Act → World → Prop} (hgd : op.guard = none) (x y : Operand) (ho : op.op = .store 61 x y) (c : Array Value) (hc : c.size = 18) (tb len : Nat) (ps : Nat → Option Nat) (hx : a.eval x = .pointer (some ⟨w.heap.size, 0, none⟩)) (hy : a.eval y = .agg (stA tb len ps)) (h : wpList Tryd.prog ops Q rest (a.put op.dst undef) (w.alloc (.cells (stA tb len ps) 61))) : wpList Tryd.prog ops Q (op :: rest) a (w.alloc (.cells c 61)) := by
  refine wpList_plain hgd fun _ hK => ?_
  have hK := hK _ _ h
  unfold Oper.wp execOp
  simp only [ho, hx, hy, Instr.storeAt, Instr.sureAddr, Sem.run_bind, Sem.run_pure, Result.andThen_ok, run_storeVar_new w 61 c (stA tb len ps) (by rw [state_info, stA_size]) (by rw [hc, stA_size]) (one_st tb len ps)]
  exact hK
/-- What does not turn while a walk is made: the code, the tables. -/
structure Bs (w0 : World) (B : Nat) (ca : Option Addr) (cc n : Nat) (code : List In) : Prop where
  ir : IR w0 ca n cc code
  rw : Rws w0
  ru : Rul w0
  lo : w0.heap.size ≤ B
/-- What pass leaves. -/
structure PsE (W : World) (B wb ab : Nat) (day : Int) (ca : Option Addr) (cc n : Nat) (l : Nat → Option Vs) (i : In) (k : Nat) (e : Ending) (V : World) : Prop where
  ret : e = .returned (.int .i64 (vPass day n i k l).1)
  sta : ∃ G' A', WkR V B wb ab day ca cc n G' A' (vPass day n i k l).2
  bel : Below B W V
  stay : ∀ z y u, BkP W z y u → u ≠ 78 → u ≠ 61 → u ≠ 62 → BkP V z y u
set_option maxRecDepth 100000 in
set_option maxHeartbeats 800000 in
theorem pass_dead {W : World} {B wb ab : Nat} {day : Int} {ca : Option Addr} {cc n : Nat} {G : Tg} {A : Nat → Option Nat} {l : Nat → Option Vs} {k : Nat} {i : In} (h : WkR W B wb ab day ca cc n G A l) (hk : k < n) (hl : l k = none) :
    Calls Tryd.prog 17 #[.pointer (some ⟨wb, 0, none⟩), .int .i64 (k : Int)] W fun e w' => PsE W B wb ab day ca cc n l i k e w' := by
  have hA : A k = none := by
    rcases h.st k hk with ⟨_, q⟩ | ⟨x, u, tb', ps', q1, _⟩
    · exact q
    · rw [hl] at q1; cases q1
  have V : vPass day n i k l = (146, l) := by unfold vPass; rw [hl]
  have E := Lib.hid (p := PsE W B wb ab day ca cc n l i k (.returned (.int .i64 146)) W) ⟨by rw [V], ⟨G, A, by rw [V]; exact h⟩, Below.refl _ _, fun _ _ _ k _ _ _ => k⟩
  have c2 := h.wk.cell 2
  have d := h.ah.cell k
  rw [ahA_at _ _ _ hk, hA] at d
  simp [ptN] at c2 d
  have k0 : ¬ (k : Int) < 0 := by omega
  have k1 : (k : Int) < (n : Int) := by omega
  clear h hl hA hk V
  go_enter Tryd.func17, Tryd.ntmps17
  go_wp2
  go_ret
  exact E.out
theorem pass_do {W V : World} {B wb ab : Nat} {day : Int} {ca : Option Addr} {cc n : Nat} {G : Tg} {A : Nat → Option Nat} {l : Nat → Option Vs} {H : Tg} (h : WkR W B wb ab day ca cc n G A l) {o : Obj} {W' : World} (b : Below (W.alloc o).heap.size (W.alloc o) W') (c : Chg W' V B G H (fun z => z = W.heap.size)) {y : Array Value} {t : TypeId} (ho : o = .cells y 61) : WkR V B wb ab day ca cc n H A l := by
  have b1 : Below W.heap.size W W' := (allocBP W o).trans (b.mono (allocBP _ _).size)
  refine (h.later b1).chg c (fun z y' t' k e => ?_)
  subst e
  refine ⟨?_, fun j hj e => ?_⟩
  · have k2 : BkP W' W.heap.size y 61 := BkP.lat (by rw [ho]; exact heapN _ _) b
    have e := k.symm.trans k2
    injection e with e
    injection e with e1 e2
  · obtain ⟨y'', k''⟩ := h.stt hj e
    have := k''.lt
    omega
set_option maxRecDepth 100000 in
set_option maxHeartbeats 800000 in
theorem pass_live {w0 W : World} {B wb ab : Nat} {day : Int} {ca : Option Addr} {cc n : Nat} {G : Tg} {A : Nat → Option Nat} {l : Nat → Option Vs} {k : Nat} {code : List In} {u : Vs} (h : WkR W B wb ab day ca cc n G A l) (hB : B ≤ W.heap.size) (hk : k < n) (hn : n ≤ 262144) (hl : l k = some u) (hz : u.st.length ≤ 262143) (hb : Bs w0 B ca cc n code) (b0 : Below w0.heap.size w0 W) (i : In) (hi : code.getD k default = i) (hok : i.okP) (he : i.o = 0 ↔ k + 1 = n) :
    Calls Tryd.prog 17 #[.pointer (some ⟨wb, 0, none⟩), .int .i64 (k : Int)] W fun e w' => PsE W B wb ab day ca cc n l i k e w' := by
  obtain ⟨x, tx, px, hA, hx⟩ : ∃ x tx px, A k = some x ∧ SvR W B G x tx px u := by
    rcases h.st k hk with ⟨q, _⟩ | ⟨x, u', tb', ps', q1, q2, q3⟩
    · rw [hl] at q; cases q
    · rw [hl] at q1
      injection q1 with q1
      subst q1
      exact ⟨x, tb', ps', q2, q3⟩
  have hs := h.ok k u hl
  have V : vPass day n i k l = if (vDo day u i).1 ≠ 0 then ((vDo day u i).1, l) else vOn n i k (vDo day u i).2 l := by unfold vPass; rw [hl]
  have KD := Lib.hid (p := ∀ W', Below (W.alloc (hOb tx u.st.length px)).heap.size (W.alloc (hOb tx u.st.length px)) W' → Calls Tryd.prog 26 #[.pointer (some ⟨W.heap.size, 0, none⟩), .agg #[.int .i64 i.o, .int .i64 i.a, .int .i64 i.b], .int .i64 day] W' fun e w' => e = .returned (.int .i64 (vDo day u i).1) ∧ Below B W w' ∧ B ≤ w'.heap.size ∧ (∀ z y u, BkP W z y u → u ≠ 78 → u ≠ 61 → u ≠ 62 → BkP w' z y u) ∧ ∃ H, WkR w' B wb ab day ca cc n H A l ∧ ((vDo day u i).1 = 0 → ∃ tb ps, SvR w' B H W.heap.size tb ps (vDo day u i).2)) (fun W' b => by
    have b1 : Below W.heap.size W W' := (allocBP W _).trans (b.mono (allocBP _ _).size)
    have b2 : Below w0.heap.size w0 W' := b0.trans (b1.mono b0.size)
    have nb : BkP W' W.heap.size (stA tx u.st.length px) 61 := BkP.lat (heapN _ _) b
    refine (do_any (x := W.heap.size) (h.later b1).tri ⟨hx.top, nb, hx.slt.later b1, hB⟩ hs i hok day (hb.rw.below b2) (hb.ru.lat b2) (Nat.lt_of_lt_of_le hb.ru.1 hb.lo) (Nat.le_trans hB b1.size) hz).mono ?_
    rintro e w' ⟨p1, H, p2, p3⟩
    exact ⟨p1, (b1.mono hB).trans p2.bel, Nat.le_trans hB (Nat.le_trans b1.size p2.bel.size), fun z y t kk a b c => p2.stay z y t (kk.lat b1) (fun e => by have := kk.lt; omega) a, H, pass_do (t := 0) h b p2 rfl, p3⟩)
  have KO := Lib.hid (p := ∀ W' H tb ps, Below B W W' → B ≤ W'.heap.size → (∀ z y u, BkP W z y u → u ≠ 78 → u ≠ 61 → u ≠ 62 → BkP W' z y u) → WkR W' B wb ab day ca cc n H A l → (vDo day u i).1 = 0 → SvR W' B H W.heap.size tb ps (vDo day u i).2 → Calls Tryd.prog 27 #[.pointer (some ⟨wb, 0, none⟩), .int .i64 (k : Int), .agg (stA tb (vDo day u i).2.st.length ps)] W' fun e w' => PsE W B wb ab day ca cc n l i k e w') (fun W' H tb ps b1 b2 b4 hW e0 hS => by
    have b3 : Below w0.heap.size w0 W' := b0.trans (b1.mono hb.lo)
    refine (handOn_any hW b2 hk hn (vDo_ok hs hok e0) hS.top hS.slt (hb.ir.later b3) i hi hok he).mono ?_
    rintro e w' ⟨p1, ⟨A', p2⟩, p3, p4⟩
    have V2 : vPass day n i k l = vOn n i k (vDo day u i).2 l := by rw [V, if_neg (by simpa using e0)]
    exact ⟨by rw [V2]; exact p1, ⟨H, A', by rw [V2]; exact p2⟩, b1.trans p3, fun z y t kk a b c => p4 z y t (b4 z y t kk a b c) a b c⟩)
  have EE := Lib.hid (p := (vDo day u i).1 ≠ 0 → ∀ W' H, Below B W W' → (∀ z y u, BkP W z y u → u ≠ 78 → u ≠ 61 → u ≠ 62 → BkP W' z y u) → WkR W' B wb ab day ca cc n H A l → PsE W B wb ab day ca cc n l i k (.returned (.int .i64 (vDo day u i).1)) W') (fun e0 W' H b1 b4 hW => by
    have V2 : vPass day n i k l = ((vDo day u i).1, l) := by rw [V, if_pos e0]
    exact ⟨by rw [V2], ⟨H, A, by rw [V2]; exact hW⟩, b1, b4⟩)
  have h1 := h.later (allocBP W (hOb tx u.st.length px))
  have c2 := h.wk.cell 2
  have d := h.ah.cell k
  rw [ahA_at _ _ _ hk, hA] at d
  simp [ptN] at c2 d
  have XB := Lib.hid hx.box
  obtain ⟨cx, co, hca, _, hc⟩ := ((hb.ir.later b0).later (allocBP W (hOb tx u.st.length px))).2.2.2.2.oneP (by omega)
  have q0 := hc k hk 0 (by omega)
  have q1 := hc k hk 1 (by omega)
  have q2 := hc k hk 2 (by omega)
  rw [hi] at q0 q1 q2
  simp only [icell, Nat.add_zero, List.getD_cons_zero, List.getD_cons_succ] at q0 q1 q2
  subst hca
  have w10 := h1.wk.cell 0
  have w11 := h1.wk.cell 1
  simp at w10 w11
  have k0 : ¬ (k : Int) < 0 := by omega
  have k1 : (k : Int) < (n : Int) := by omega
  clear h h1 hl hA hk V hx hB hn hz hb b0 hi hok he hs hc
  obtain ⟨io, ia, ib⟩ := i
  generalize hv : vDo day u ⟨io, ia, ib⟩ = dd at *
  clear hv
  generalize u.st.length = len at *
  unfold hOb at *
  simp only at q0 q1 q2 KD
  cases ez : (dd.1 != 0) with
  | true =>
    have e0 : dd.1 ≠ 0 := by simpa using ez
    have E1 := Lib.hid (EE.out e0)
    clear e0
    go_enter Tryd.func17, Tryd.ntmps17
    go_wp2_with (first | (with_reducible show wpList _ _ _ (Oper.mk _ (Op.load 61 _) _ _ _ _ :: _) _ _; refine load_st rfl _ rfl x rfl tx len px XB.out ?_) | (with_reducible show wpList _ _ _ (Oper.mk _ (Op.store 61 _ _) _ _ _ _ :: _) _ _; refine store_st rfl _ _ rfl _ rfl tx len px rfl rfl ?_))
    go_region_with (go_at_call 26; refine (KD.out _ (by first | exact Below.refl _ _ | exact drew1B _)).mono ?_; rintro e w3 ⟨rfl, h1, h2, hy, H, h3, h4⟩; have B3 := Lib.hid h1; have R3 := Lib.hid h3; have Y3 := Lib.hid hy; clear h1 h2 h3 h4 hy)
    all_goals
      go_wp2
      go_ret
      first
        | exact E1.out _ H B3.out Y3.out R3.out
        | exact E1.out _ H B3.out.drew (fun z y t kk a b c => (Y3.out z y t kk a b c).lat (drew1B _)) (R3.out.later (drew1B _))
  | false =>
    have e0 : dd.1 = 0 := by simpa using ez
    have E0 := Lib.hid e0
    clear e0 EE
    go_enter Tryd.func17, Tryd.ntmps17
    go_wp2_with (first | (with_reducible show wpList _ _ _ (Oper.mk _ (Op.load 61 _) _ _ _ _ :: _) _ _; refine load_st rfl _ rfl x rfl tx len px XB.out ?_) | (with_reducible show wpList _ _ _ (Oper.mk _ (Op.store 61 _ _) _ _ _ _ :: _) _ _; refine store_st rfl _ _ rfl _ rfl tx len px rfl rfl ?_))
    go_region_with (go_at_call 26; refine (KD.out _ (by first | exact Below.refl _ _ | exact drew1B _)).mono ?_; rintro e w3 ⟨rfl, h1, h2, hy, H, h3, h4⟩; have Y3 := Lib.hid hy; have B3 := Lib.hid h1; have Z3 := Lib.hid h2; have R3 := Lib.hid h3; obtain ⟨tb3, ps3, s3⟩ := h4 E0.out; have S3 := Lib.hid s3; clear h1 h2 h3 h4 s3 hy)
    all_goals
      go_wp2_with (first | (with_reducible show wpList _ _ _ (Oper.mk _ (Op.load 61 _) _ _ _ _ :: _) _ _; refine load_st rfl _ rfl W.heap.size rfl tb3 dd.2.st.length ps3 (by first | exact S3.out.box | exact S3.out.box.lat (drew1B _)) ?_) | (go_at_call 27; (first | (refine (KO.out _ H tb3 ps3 B3.out Z3.out Y3.out R3.out E0.out S3.out).mono ?_) | (refine (KO.out _ H tb3 ps3 B3.out.drew Z3.out (fun z y t kk a b c => (Y3.out z y t kk a b c).lat (drew1B _)) (R3.out.later (drew1B _)) E0.out (S3.out.later (drew1B _))).mono ?_)); rintro e w4 ⟨rfl, h1, h2, h3⟩; have S4 := Lib.hid h1; have B4 := Lib.hid h2; have Y4 := Lib.hid h3; clear h1 h2 h3))
      go_ret
      exact ⟨rfl, S4.out, B4.out, Y4.out⟩
theorem pass_any {w0 W : World} {B wb ab : Nat} {day : Int} {ca : Option Addr} {cc n : Nat} {G : Tg} {A : Nat → Option Nat} {l : Nat → Option Vs} {k : Nat} {code : List In} (h : WkR W B wb ab day ca cc n G A l) (hB : B ≤ W.heap.size) (hk : k < n) (hn : n ≤ 262144) (hz : ∀ u, l k = some u → u.st.length ≤ 262143) (hb : Bs w0 B ca cc n code) (b0 : Below w0.heap.size w0 W) (hok : (code.getD k default).okP) (he : (code.getD k default).o = 0 ↔ k + 1 = n) :
    Calls Tryd.prog 17 #[.pointer (some ⟨wb, 0, none⟩), .int .i64 (k : Int)] W fun e w' => PsE W B wb ab day ca cc n l (code.getD k default) k e w' := by
  cases hl : l k with
  | none => exact pass_dead h hk hl
  | some u => exact pass_live h hB hk hn hl (hz u hl) hb b0 _ rfl hok he
end Go.Proofs.YtjbbbejadhojlaaDoor

namespace Go.Proofs.YtjbbbejadhojlaaDoor
set_option linter.unusedVariables false
set_option linter.unusedSimpArgs false
/-- The first d segments: the error, the segment, the place, the needs. -/
def vAll (days : List Sg) : Nat → Int × Nat × Nat × Nds
  | 0 => (0, 0, 0, ⟨0, 0, 0, 0, 0⟩)
  | d + 1 =>
    if (vAll days d).1 ≠ 0 then vAll days d
    else ((vRun (days.getD d default).day (days.getD d default).code (days.getD d default).code.length).1, d, (vRun (days.getD d default).day (days.getD d default).code (days.getD d default).code.length).2.1, vNeed (vAll days d).2.2.2 (days.getD d default).day (days.getD d default).code (days.getD d default).code.length)
def vFit (n : Nds) (p : Pg) : Prop := p.stack = n.stack ∧ p.slots = n.slots ∧ p.cells = n.cells
instance (n : Nds) (p : Pg) : Decidable (vFit n p) := by unfold vFit; exact inferInstance
/-- Verify of a canonical program. -/
def vfy (p : Pg) : Int × Nat × Nat × Nds :=
  if (vAll p.days p.days.length).1 ≠ 0 then ((vAll p.days p.days.length).1, (vAll p.days p.days.length).2.1, (vAll p.days p.days.length).2.2.1, ⟨0, 0, 0, 0, 0⟩)
  else if vFit (vAll p.days p.days.length).2.2.2 p then (0, 0, 0, (vAll p.days p.days.length).2.2.2)
  else (147, p.days.length, 0, ⟨0, 0, 0, 0, 0⟩)
theorem vAll_stop {l : List Sg} {k : Nat} (h : (vAll l k).1 ≠ 0) : ∀ m, k ≤ m → vAll l m = vAll l k
  | 0, hm => by rw [show k = 0 by omega]
  | m + 1, hm => by
    by_cases e : k = m + 1
    · rw [e]
    · have ih := vAll_stop h m (by omega)
      simp only [vAll]
      rw [ih, if_pos h]
theorem vAll_before {l : List Sg} {m : Nat} (h : (vAll l m).1 = 0) {k : Nat} (hk : k ≤ m) : (vAll l k).1 = 0 := by
  by_cases e : (vAll l k).1 = 0
  · exact e
  · rw [vAll_stop e m hk] at h
    exact absurd h e
theorem vAll_succ {l : List Sg} {d : Nat} (h : (vAll l d).1 = 0) : vAll l (d + 1) = ((vRun (l.getD d default).day (l.getD d default).code (l.getD d default).code.length).1, d, (vRun (l.getD d default).day (l.getD d default).code (l.getD d default).code.length).2.1, vNeed (vAll l d).2.2.2 (l.getD d default).day (l.getD d default).code (l.getD d default).code.length) := by
  simp [vAll, h]
end Go.Proofs.YtjbbbejadhojlaaDoor

namespace Go.Proofs.YtjbbbejadhojlaaDoor
set_option linter.unusedVariables false
set_option linter.unusedSimpArgs false
/-- No state is higher than k. -/
def Hle (k : Nat) (l : Nat → Option Vs) : Prop := ∀ j u, l j = some u → u.st.length ≤ k
theorem vDo_high {day : Int} {s : Vs} {i : In} : (vDo day s i).2.st.length ≤ s.st.length + 1 := by
  unfold vDo
  simp only
  repeat' split
  all_goals simp only [List.length_cons, List.length_drop]
  all_goals omega
theorem vHand_high {t : Option Vs} {s : Vs} {k : Nat} (ht : ∀ u, t = some u → u.st.length ≤ k) (hs : s.st.length ≤ k) : ∀ u, (vHand t s).2 = some u → u.st.length ≤ k := by
  intro u hu
  unfold vHand at hu
  cases t with
  | none => simp at hu; subst hu; exact hs
  | some t =>
    have ht := ht t rfl
    simp only at hu
    split at hu
    · simp at hu; subst hu; exact ht
    split at hu
    · simp at hu; subst hu; exact ht
    · simp at hu
      subst hu
      exact ht
theorem vSet_high {l : Nat → Option Vs} {k t : Nat} {v : Option Vs} (hl : Hle k l) (hv : ∀ u, v = some u → u.st.length ≤ k) : Hle k (vSet l t v) := by
  intro j u h
  unfold vSet at h
  split at h
  · exact hv u h
  · exact hl j u h
theorem vOn_high {n k m : Nat} {i : In} {s : Vs} {l : Nat → Option Vs} (hl : Hle m l) (hs : s.st.length ≤ m) : Hle m (vOn n i k s l).2 := by
  have h1 : ∀ u, (vNx i (l (k + 1)) s).2 = some u → u.st.length ≤ m := by
    intro u hu
    unfold vNx at hu
    split at hu
    · exact hl _ u hu
    · exact vHand_high (fun u hu => hl _ u hu) hs u hu
  have l1 := vSet_high (t := k + 1) hl h1
  unfold vOn
  generalize vNx i (l (k + 1)) s = h at *
  split
  · exact hl
  · split
    · exact hl
    · split
      · exact vSet_high l1 (vHand_high (fun u hu => l1 _ u hu) hs)
      · exact l1
theorem vPass_high {day : Int} {n k m : Nat} {i : In} {l : Nat → Option Vs} (hl : Hle m l) : Hle (m + 1) (vPass day n i k l).2 := by
  have up : Hle (m + 1) l := fun j u e => Nat.le_succ_of_le (hl j u e)
  unfold vPass
  cases hk : l k with
  | none => exact up
  | some s =>
    simp only
    split
    · exact up
    · rename_i h
      exact vOn_high up (Nat.le_trans vDo_high (by have := hl k s hk; omega))
theorem vRun_high {day : Int} {code : List In} : ∀ k, Hle k (vRun day code k).2.2
  | 0 => by
    intro j u h
    simp only [vRun, vStart] at h
    split at h
    · simp at h; subst h; simp
    · cases h
  | k + 1 => by
    have ih := vRun_high (day := day) (code := code) k
    simp only [vRun]
    split
    · exact fun j u e => Nat.le_succ_of_le (ih j u e)
    · exact vPass_high ih
end Go.Proofs.YtjbbbejadhojlaaDoor
