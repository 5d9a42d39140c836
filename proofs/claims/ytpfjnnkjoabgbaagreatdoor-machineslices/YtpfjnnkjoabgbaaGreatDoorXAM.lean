import Derived.Test.YtpfjnnkjoabgbaaGreatDoorXAL
import Derived.Deep.MidRow
namespace Go.Proofs.YtpfjnnkjoabgbaaGreatDoor
open Go.RowKit
set_option linter.unusedVariables false
set_option linter.unusedSimpArgs false

def al (a b ra rb : Int) : Bool := decide (0 ≤ a ∧ a ≤ ra ∧ 0 ≤ b ∧ b ≤ rb)
set_option maxHeartbeats 1000000 in
theorem allows_any (n : ByteArray) (o t p ra rb a b : Int) (h1 : 0 ≤ ra ∧ ra ≤ 262143) (h2 : 0 ≤ rb ∧ rb ≤ 3660) (w : World) :
    Calls Tryz.prog 153 #[rowV n o t p ra rb, .int .i64 a, .int .i64 b] w fun e w' => e = .returned (.bool (al a b ra rb)) ∧ Below w.heap.size w w' := by
  have q1 : IntKind.i64.wrap ra = ra := wrap_id (by omega)
  have q2 : IntKind.i64.wrap rb = rb := wrap_id (by omega)
  clear h1 h2
  have R := Lib.hid (p := al a b ra rb = decide (0 ≤ a ∧ a ≤ ra ∧ 0 ≤ b ∧ b ≤ rb)) rfl
  by_cases c0 : 0 ≤ a
  · by_cases c1 : a ≤ ra
    · by_cases c2 : 0 ≤ b
      · by_cases c3 : b ≤ rb
        · have R := Lib.hid (p := al a b ra rb = true) (by rw [R.out]; exact decide_eq_true ⟨c0, c1, c2, c3⟩)
          go_enter Tryz.func153, Tryz.ntmps153
          go_wp2
          go_ret
          exact ⟨by rw [R.out]; rfl, (Below.refl w.heap.size w).alloc (Nat.le_refl _) _⟩
        · have R := Lib.hid (p := al a b ra rb = false) (by rw [R.out]; exact decide_eq_false (fun q => c3 q.2.2.2))
          have c3' : decide (b ≤ rb) = false := decide_eq_false c3
          go_enter Tryz.func153, Tryz.ntmps153
          go_wp2
          go_ret
          exact ⟨by rw [R.out]; rfl, (Below.refl w.heap.size w).alloc (Nat.le_refl _) _⟩
      · have R := Lib.hid (p := al a b ra rb = false) (by rw [R.out]; exact decide_eq_false (fun q => c2 q.2.2.1))
        have c2' : decide (0 ≤ b) = false := decide_eq_false c2
        go_enter Tryz.func153, Tryz.ntmps153
        go_wp2
        go_ret
        exact ⟨by rw [R.out]; rfl, (Below.refl w.heap.size w).alloc (Nat.le_refl _) _⟩
    · have R := Lib.hid (p := al a b ra rb = false) (by rw [R.out]; exact decide_eq_false (fun q => c1 q.2.1))
      have c1' : decide (a ≤ ra) = false := decide_eq_false c1
      go_enter Tryz.func153, Tryz.ntmps153
      go_wp2
      go_ret
      exact ⟨by rw [R.out]; rfl, (Below.refl w.heap.size w).alloc (Nat.le_refl _) _⟩
  · have R := Lib.hid (p := al a b ra rb = false) (by rw [R.out]; exact decide_eq_false (fun q => c0 q.1))
    have c0' : decide (0 ≤ a) = false := decide_eq_false c0
    go_enter Tryz.func153, Tryz.ntmps153
    go_wp2
    go_ret
    exact ⟨by rw [R.out]; rfl, (Below.refl w.heap.size w).alloc (Nat.le_refl _) _⟩

/-- What Valid answers. -/
def okV (i : In) : Int := if i.okP then 0 else 111
theorem okV_pos {i : In} (h : i.okP) : okV i = 0 := if_pos h
theorem okV_neg {i : In} (h : ¬ i.okP) : okV i = 111 := if_neg h
theorem okV_in {k : Nat} (hk : k < 29) (a b : Int) : okV ⟨k, a, b⟩ = if al a b (baA k) (bbA k) = true then 0 else 111 := by
  by_cases h : 0 ≤ a ∧ a ≤ (baA k : Int) ∧ 0 ≤ b ∧ b ≤ (bbA k : Int)
  · rw [if_pos (show al a b (baA k) (bbA k) = true from decide_eq_true h)]
    exact okV_pos ⟨by simp, by simp; omega, h.1, by simpa using h.2.1, h.2.2.1, by simpa using h.2.2.2⟩
  · rw [if_neg (show ¬ al a b (baA k) (bbA k) = true from fun q => h (of_decide_eq_true q))]
    exact okV_neg (fun q => h ⟨q.2.2.1, by simpa using q.2.2.2.1, q.2.2.2.2.1, by simpa using q.2.2.2.2.2⟩)
theorem okV_out {o : Int} (h : o < 0 ∨ 29 ≤ o) (a b : Int) : okV ⟨o, a, b⟩ = 111 :=
  okV_neg (fun q => by have h1 : 0 ≤ o := q.1; have h2 : o < 29 := q.2.1; omega)
abbrev inV (i : In) : Value := .agg #[.int .i64 i.o, .int .i64 i.a, .int .i64 i.b]
set_option maxHeartbeats 1000000 in
theorem valid_any (o a b : Int) (w : World) (hR : Rws w) :
    Calls Tryz.prog 146 #[.agg #[.int .i64 o, .int .i64 a, .int .i64 b]] w fun e w' => e = .returned (.int .i64 (okV ⟨o, a, b⟩)) ∧ Below w.heap.size w w' := by
  obtain ⟨n, on, t, p, ra, rb, er, hE⟩ := row_ex o
  have sm := hE.small
  have KR := Lib.hid (rowOf_any hE (w.alloc (.cells #[.int .i64 o, .int .i64 a, .int .i64 b] 68)) (hR.alloc _))
  have A := Lib.hid ((Below.refl w.heap.size w).alloc (Nat.le_refl _) (.cells #[.int .i64 o, .int .i64 a, .int .i64 b] 68))
  have KA := Lib.hid (fun W => allows_any n on t p ra rb a b sm.2.2.2.1 sm.2.2.2.2.1 W)
  have CB := Lib.hid (p := ∀ w1, Below (w.alloc (.cells #[.int .i64 o, .int .i64 a, .int .i64 b] 68)).heap.size (w.alloc (.cells #[.int .i64 o, .int .i64 a, .int .i64 b] 68)) w1 → (∀ o, (w1.alloc o).cell? ⟨w.heap.size, 1, none⟩ = some (.int .i64 a)) ∧ (∀ o, (w1.alloc o).cell? ⟨w.heap.size, 2, none⟩ = some (.int .i64 b))) (fun w1 h => ⟨fun o => (((Below.refl w1.heap.size w1).alloc (Nat.le_refl _) o).cell (p := ⟨w.heap.size, 1, none⟩) (Nat.lt_of_lt_of_le (by simp) h.size)).trans ((h.cell (p := ⟨w.heap.size, 1, none⟩) (by simp)).trans (by simp)), fun o => (((Below.refl w1.heap.size w1).alloc (Nat.le_refl _) o).cell (p := ⟨w.heap.size, 2, none⟩) (Nat.lt_of_lt_of_le (by simp) h.size)).trans ((h.cell (p := ⟨w.heap.size, 2, none⟩) (by simp)).trans (by simp))⟩)
  have SZ := Lib.hid (p := ∀ w1, Below (w.alloc (.cells #[.int .i64 o, .int .i64 a, .int .i64 b] 68)).heap.size (w.alloc (.cells #[.int .i64 o, .int .i64 a, .int .i64 b] 68)) w1 → ¬ w.heap.size = w1.heap.size ∧ ¬ w1.heap.size = w.heap.size) (fun w1 h => by have := h.size; simp at this; omega)
  rcases hE.say with ⟨k, hk, rfl, e1, e2, e3, e4, rfl, rfl, rfl⟩ | ⟨hr, e1, e2, e3, e4, e5, e6, rfl⟩
  · rw [okV_in hk]
    clear hR hE sm e1 e2 e3 e4
    generalize ((baA k : Nat) : Int) = ra at *
    generalize ((bbA k : Nat) : Int) = rb at *
    cases hv : al a b ra rb with
    | true =>
      rw [hv] at KA
      go_enter Tryz.func146, Tryz.ntmps146
      go_wp2_with (first
        | (go_at_call 134; refine KR.out.mono ?_; rintro e w1 ⟨rfl, h1⟩; have B1 := Lib.hid (A.out.trans (h1.mono A.out.size)); obtain ⟨d1, d2⟩ := CB.out w1 h1; obtain ⟨n1, n2⟩ := SZ.out w1 h1; clear h1)
        | (go_at_call 153; refine (KA.out _).mono ?_; rintro e w2 ⟨rfl, h2⟩; have B2 := Lib.hid ((B1.out.alloc B1.out.size _).trans (h2.mono (by have := B1.out.size; simp; omega))); clear h2))
      go_ret
      exact ⟨rfl, B2.out⟩
    | false =>
      rw [hv] at KA
      go_enter Tryz.func146, Tryz.ntmps146
      go_wp2_with (first
        | (go_at_call 134; refine KR.out.mono ?_; rintro e w1 ⟨rfl, h1⟩; have B1 := Lib.hid (A.out.trans (h1.mono A.out.size)); obtain ⟨d1, d2⟩ := CB.out w1 h1; obtain ⟨n1, n2⟩ := SZ.out w1 h1; clear h1)
        | (go_at_call 153; refine (KA.out _).mono ?_; rintro e w2 ⟨rfl, h2⟩; have B2 := Lib.hid ((B1.out.alloc B1.out.size _).trans (h2.mono (by have := B1.out.size; simp; omega))); clear h2))
      go_ret
      exact ⟨rfl, B2.out⟩
  · rw [okV_out hr]
    clear hR hE sm hr e1 e2 e3 e4 e5 e6
    go_enter Tryz.func146, Tryz.ntmps146
    go_wp2_with (first
      | (go_at_call 134; refine KR.out.mono ?_; rintro e w1 ⟨rfl, h1⟩; have B1 := Lib.hid (A.out.trans (h1.mono A.out.size)); obtain ⟨d1, d2⟩ := CB.out w1 h1; obtain ⟨n1, n2⟩ := SZ.out w1 h1; clear h1))
    go_ret
    exact ⟨rfl, B1.out.alloc B1.out.size _⟩
theorem wi_al {k : Nat} (hk : k < 29) (a b : Int) : (wi a (rfs k).a && wi b (rfs k).b) = al a b (baA k) (bbA k) := by
  obtain ⟨t1, t2, t3, t4, t5, t6, t7⟩ := tab_facts k hk
  unfold wi al rfs
  rw [Bool.eq_iff_iff]
  simp only [Bool.and_eq_true, decide_eq_true_eq]
  by_cases h1 : 1 ≤ onA k
  · by_cases h2 : 2 ≤ onA k
    · simp only [h1, h2, if_true]
      rw [if_neg (by omega), if_neg (by omega)]
      omega
    · have := t7 (by omega)
      simp only [h1, h2, if_true, if_false]
      rw [if_neg (by omega), if_pos (by omega)]
      omega
  · have := t6 (by omega)
    have := t7 (by omega)
    simp only [h1, show ¬ 2 ≤ onA k by omega, if_false]
    rw [if_pos (by omega), if_pos (by omega)]
    omega
end Go.Proofs.YtpfjnnkjoabgbaaGreatDoor

namespace Go.Proofs.YtpfjnnkjoabgbaaGreatDoor
open Go.RowKit
set_option linter.unusedVariables false
set_option linter.unusedSimpArgs false
/-- Is what an instruction names there? -/
def inB (p : Pg) (i : In) : Prop := (i.o = 1 → i.a < p.pool.length) ∧ (i.o = 3 → i.a < p.names.length) ∧ (i.o = 28 → i.a < p.curs.length) ∧ (i.o = 4 ∨ i.o = 5 → i.a < p.cells) ∧ (i.o = 6 ∨ i.o = 7 → i.a < p.slots)
def mkB (op : Int) (bs : List Bool) (i : In) : List Bool := if i.o = op then bs.set i.a.toNat true else bs
/-- The marks, where they lie. -/
structure US (W : World) (p : Pg) (B ub gn gu gp : Nat) (bn bu bp : List Bool) : Prop where
  box : BkP W ub #[.slice (some ⟨gn, 0, none⟩) bn.length bn.length, .slice (some ⟨gu, 0, none⟩) bu.length bu.length, .slice (some ⟨gp, 0, none⟩) bp.length bp.length, .int .i64 p.cells, .int .i64 p.slots] 170
  rn : RBo W B gn bn
  ru : RBo W B gu bu
  rp : RBo W B gp bp
  ln : bn.length = p.names.length
  lu : bu.length = p.curs.length
  lp : bp.length = p.pool.length
  ne : gn ≠ gu ∧ gn ≠ gp ∧ gu ≠ gp ∧ ub ≠ gn ∧ ub ≠ gu ∧ ub ≠ gp
  bb : B ≤ ub ∧ B ≤ gn ∧ B ≤ gu ∧ B ≤ gp
theorem US.later {W W' : World} {p : Pg} {B ub gn gu gp : Nat} {bn bu bp : List Bool} (h : US W p B ub gn gu gp bn bu bp) (g : Below W.heap.size W W') : US W' p B ub gn gu gp bn bu bp :=
  ⟨h.box.laterP g, h.rn.later g, h.ru.later g, h.rp.later g, h.ln, h.lu, h.lp, h.ne, h.bb⟩
theorem box_set (W : World) (g i : Nat) (v : Value) {b : Nat} {cs : Array Value} {t : TypeId} (h : BkP W b cs t) (hn : b ≠ g) : BkP (W.setCell ⟨g, i, none⟩ v) b cs t := h.other g i v (fun e => hn e.symm)
theorem US.setN {W : World} {p : Pg} {B ub gn gu gp : Nat} {bn bu bp : List Bool} (h : US W p B ub gn gu gp bn bu bp) (i : Nat) : US (W.setCell ⟨gn, i, none⟩ (.bool true)) p B ub gn gu gp (bn.set i true) bu bp :=
  ⟨by rw [List.length_set]; exact box_set W gn i _ h.box h.ne.2.2.2.1, h.rn.set i, h.ru.far (setCell_gr W gn i _) h.ne.1, h.rp.far (setCell_gr W gn i _) h.ne.2.1, by rw [List.length_set]; exact h.ln, h.lu, h.lp, h.ne, h.bb⟩
theorem US.setU {W : World} {p : Pg} {B ub gn gu gp : Nat} {bn bu bp : List Bool} (h : US W p B ub gn gu gp bn bu bp) (i : Nat) : US (W.setCell ⟨gu, i, none⟩ (.bool true)) p B ub gn gu gp bn (bu.set i true) bp :=
  ⟨by rw [List.length_set]; exact box_set W gu i _ h.box h.ne.2.2.2.2.1, h.rn.far (setCell_gr W gu i _) (fun e => h.ne.1 e.symm), h.ru.set i, h.rp.far (setCell_gr W gu i _) h.ne.2.2.1, h.ln, by rw [List.length_set]; exact h.lu, h.lp, h.ne, h.bb⟩
theorem US.setP {W : World} {p : Pg} {B ub gn gu gp : Nat} {bn bu bp : List Bool} (h : US W p B ub gn gu gp bn bu bp) (i : Nat) : US (W.setCell ⟨gp, i, none⟩ (.bool true)) p B ub gn gu gp bn bu (bp.set i true) :=
  ⟨by rw [List.length_set]; exact box_set W gp i _ h.box h.ne.2.2.2.2.2, h.rn.far (setCell_gr W gp i _) (fun e => h.ne.2.1 e.symm), h.ru.far (setCell_gr W gp i _) (fun e => h.ne.2.2.1 e.symm), h.rp.set i, h.ln, h.lu, by rw [List.length_set]; exact h.lp, h.ne, h.bb⟩
theorem box_all5P {w : World} {x : Nat} {a b c d e : Value} {t : TypeId} (k : w.heap[x]? = some (.cells #[a, b, c, d, e] t)) : w.cell? ⟨x, 0, none⟩ = some a ∧ w.cell? ⟨x, 1, none⟩ = some b ∧ w.cell? ⟨x, 2, none⟩ = some c ∧ w.cell? ⟨x, 3, none⟩ = some d ∧ w.cell? ⟨x, 4, none⟩ = some e := by
  refine ⟨?_, ?_, ?_, ?_, ?_⟩ <;> simp [World.cell?, k]
/-- What take leaves. -/
structure TkE (w : World) (p : Pg) (B ub gn gu gp : Nat) (bn bu bp : List Bool) (i : In) (e : Ending) (w' : World) : Prop where
  say : ∃ b, e = .returned (.bool b) ∧ (b = true ↔ inB p i) ∧ (b = true → US w' p B ub gn gu gp (mkB 3 bn i) (mkB 28 bu i) (mkB 1 bp i))
  bel : Below B w w'
end Go.Proofs.YtpfjnnkjoabgbaaGreatDoor

namespace Go.Proofs.YtpfjnnkjoabgbaaGreatDoor
open Go.RowKit
set_option linter.unusedVariables false
set_option linter.unusedSimpArgs false
theorem bel_drB {B : Nat} {w W : World} (b : Below B w W) (q : Nat) : Below B w (W.drewN q) := ⟨b.os, b.tape, b.output, b.size, b.block⟩
theorem gr_bel {B g : Nat} {W : World} (i : Nat) (v : Value) (h : B ≤ g) (hs : B ≤ W.heap.size) : Below B W (W.setCell ⟨g, i, none⟩ v) := (Below.refl B W).grown (setCell_gr W g i v) hs (fun k e => by injection e with e; omega)
set_option maxRecDepth 100000 in
set_option maxHeartbeats 2000000 in
theorem take1_any (w : World) (p : Pg) (B ub gn gu gp : Nat) (bn bu bp : List Bool) (x y : Nat) (h : US w p B ub gn gu gp bn bu bp) (hB : B ≤ w.heap.size) (hx : x ≤ 262143) :
    Calls Tryz.prog 147 #[.pointer (some ⟨ub, 0, none⟩), .agg #[.int .i64 1, .int .i64 (x : Int), .int .i64 (y : Int)]] w fun e w' => TkE w p B ub gn gu gp bn bu bp ⟨1, x, y⟩ e w' := by
  have H0 := Lib.hid (h.later (allocBP w (.cells #[.int .i64 1, .int .i64 (x : Int), .int .i64 (y : Int)] 68)))
  have H1 := Lib.hid ((h.later (allocBP w (.cells #[.int .i64 1, .int .i64 (x : Int), .int .i64 (y : Int)] 68))).later (drew1B _))
  have BD := Lib.hid (p := Below B w (w.alloc (.cells #[.int .i64 1, .int .i64 (x : Int), .int .i64 (y : Int)] 68)).drew) ((((Below.refl B w).alloc hB _)).drew)
  have TI := Lib.hid (p := BkP (w.alloc (.cells #[.int .i64 1, .int .i64 (x : Int), .int .i64 (y : Int)] 68)) w.heap.size #[.int .i64 1, .int .i64 (x : Int), .int .i64 (y : Int)] 68) (heapN _ _)
  obtain ⟨u0, u1, u2, u3, u4⟩ := box_all5P ((h.later (allocBP w (.cells #[.int .i64 1, .int .i64 (x : Int), .int .i64 (y : Int)] 68))).box)
  have i1 := TI.out.cell 1
  simp at i1
  have GL := Lib.hid (World.ownsRow.lt h.rp gp rfl).2
  by_cases hlt : x < bp.length
  · have KN := Lib.hid (p := ∀ W, RBo W B gp bp → Calls Tryz.prog 154 #[.slice (some ⟨gp, 0, none⟩) bp.length bp.length, .int .i64 (x : Int)] W fun e w' => e = .returned (.bool true) ∧ w' = W.setCell ⟨gp, x, none⟩ (.bool true)) (fun W q => by
      refine (note_any x q (by omega)).mono ?_
      rintro e w' (⟨_, h1, h2⟩ | ⟨h0, _, _⟩)
      · exact ⟨h1, h2⟩
      · exact absurd hlt h0)
    have IB := Lib.hid (p := inB p ⟨1, x, y⟩) (by have := h.lp; refine ⟨?_, ?_, ?_, ?_, ?_⟩ <;> intro q <;> simp at q ⊢ <;> omega)
    have BX := Lib.hid (gr_bel (W := (w.alloc (.cells #[.int .i64 1, .int .i64 (x : Int), .int .i64 (y : Int)] 68)).drew) x (.bool true) (show B ≤ gp from h.bb.2.2.2) (Nat.le_trans hB BD.out.size))
    clear h hB
    go_enter Tryz.func147, Tryz.ntmps147
    go_wp2
    go_region_held3 (fun w' => w'.cell? ⟨ub, 2, none⟩ = some (.slice (some ⟨gp, 0, none⟩) bp.length bp.length) ∧ w'.cell? ⟨w.heap.size, 1, none⟩ = some (.int .i64 (x : Int)))
      (refine ⟨?_, ?_⟩ <;> first | assumption | (go_simp; done))
      (first
      | (go_at_call 154; refine (KN.out _ H1.out.rp).mono ?_; rintro e w3 ⟨rfl, h2⟩; subst h2; have z1 := (H1.out.setP x).box; obtain ⟨v0, v1, v2, v3, v4⟩ := box_all5P z1; have z2 := (TI.out.laterP (drew1B _)).other gp x (.bool true) (by have := GL.out; omega); have z3 := z2.cell 1; simp at z3 v0 v1 v2))
    go_wp2
    go_ret
    exact ⟨⟨true, rfl, ⟨fun _ => IB.out, fun _ => rfl⟩, fun _ => by simpa [mkB] using (H0.out.setP x).later (drew1B _)⟩, BD.out.trans BX.out⟩
  · have KN := Lib.hid (p := ∀ W, RBo W B gp bp → Calls Tryz.prog 154 #[.slice (some ⟨gp, 0, none⟩) bp.length bp.length, .int .i64 (x : Int)] W fun e w' => e = .returned (.bool false) ∧ w' = W) (fun W q => by
      refine (note_any x q (by omega)).mono ?_
      rintro e w' (⟨h0, _, _⟩ | ⟨_, h1, h2⟩)
      · exact absurd h0 hlt
      · exact ⟨h1, h2⟩)
    have IB := Lib.hid (p := ¬ inB p ⟨1, x, y⟩) (by
      intro q
      have q2 := q.1 rfl
      have := h.lp
      simp at q2
      omega)
    have j1 := (TI.out.laterP (drew1B _)).cell 1
    obtain ⟨v0, v1, v2, v3, v4⟩ := box_all5P H1.out.box
    simp at j1
    clear h hB
    go_enter Tryz.func147, Tryz.ntmps147
    go_wp2
    go_region_held3 (fun w' => w'.cell? ⟨ub, 2, none⟩ = some (.slice (some ⟨gp, 0, none⟩) bp.length bp.length) ∧ w'.cell? ⟨w.heap.size, 1, none⟩ = some (.int .i64 (x : Int)))
      (refine ⟨?_, ?_⟩ <;> first | assumption | (go_simp; done))
      (first
      | (go_at_call 154; refine (KN.out _ H1.out.rp).mono ?_; rintro e w3 ⟨rfl, h2⟩; subst h2))
    go_wp2
    go_ret
    exact ⟨⟨false, rfl, ⟨(fun e => by cases e), fun q => absurd q IB.out⟩, (fun e => by cases e)⟩, BD.out⟩
set_option maxRecDepth 100000 in
set_option maxHeartbeats 2000000 in
theorem take3_any (w : World) (p : Pg) (B ub gn gu gp : Nat) (bn bu bp : List Bool) (x y : Nat) (h : US w p B ub gn gu gp bn bu bp) (hB : B ≤ w.heap.size) (hx : x ≤ 262143) :
    Calls Tryz.prog 147 #[.pointer (some ⟨ub, 0, none⟩), .agg #[.int .i64 3, .int .i64 (x : Int), .int .i64 (y : Int)]] w fun e w' => TkE w p B ub gn gu gp bn bu bp ⟨3, x, y⟩ e w' := by
  have H0 := Lib.hid (h.later (allocBP w (.cells #[.int .i64 3, .int .i64 (x : Int), .int .i64 (y : Int)] 68)))
  have H1 := Lib.hid ((h.later (allocBP w (.cells #[.int .i64 3, .int .i64 (x : Int), .int .i64 (y : Int)] 68))).later (drew1B _))
  have BD := Lib.hid (p := Below B w (w.alloc (.cells #[.int .i64 3, .int .i64 (x : Int), .int .i64 (y : Int)] 68)).drew) ((((Below.refl B w).alloc hB _)).drew)
  have TI := Lib.hid (p := BkP (w.alloc (.cells #[.int .i64 3, .int .i64 (x : Int), .int .i64 (y : Int)] 68)) w.heap.size #[.int .i64 3, .int .i64 (x : Int), .int .i64 (y : Int)] 68) (heapN _ _)
  obtain ⟨u0, u1, u2, u3, u4⟩ := box_all5P ((h.later (allocBP w (.cells #[.int .i64 3, .int .i64 (x : Int), .int .i64 (y : Int)] 68))).box)
  have i1 := TI.out.cell 1
  simp at i1
  have GL := Lib.hid (World.ownsRow.lt h.rn gn rfl).2
  by_cases hlt : x < bn.length
  · have KN := Lib.hid (p := ∀ W, RBo W B gn bn → Calls Tryz.prog 154 #[.slice (some ⟨gn, 0, none⟩) bn.length bn.length, .int .i64 (x : Int)] W fun e w' => e = .returned (.bool true) ∧ w' = W.setCell ⟨gn, x, none⟩ (.bool true)) (fun W q => by
      refine (note_any x q (by omega)).mono ?_
      rintro e w' (⟨_, h1, h2⟩ | ⟨h0, _, _⟩)
      · exact ⟨h1, h2⟩
      · exact absurd hlt h0)
    have IB := Lib.hid (p := inB p ⟨3, x, y⟩) (by have := h.ln; refine ⟨?_, ?_, ?_, ?_, ?_⟩ <;> intro q <;> simp at q ⊢ <;> omega)
    have BX := Lib.hid (gr_bel (W := (w.alloc (.cells #[.int .i64 3, .int .i64 (x : Int), .int .i64 (y : Int)] 68)).drew) x (.bool true) (show B ≤ gn from h.bb.2.1) (Nat.le_trans hB BD.out.size))
    clear h hB
    go_enter Tryz.func147, Tryz.ntmps147
    go_wp2
    go_region_held3 (fun w' => w'.cell? ⟨ub, 0, none⟩ = some (.slice (some ⟨gn, 0, none⟩) bn.length bn.length) ∧ w'.cell? ⟨w.heap.size, 1, none⟩ = some (.int .i64 (x : Int)))
      (refine ⟨?_, ?_⟩ <;> first | assumption | (go_simp; done))
      (first
      | (go_at_call 154; refine (KN.out _ H1.out.rn).mono ?_; rintro e w3 ⟨rfl, h2⟩; subst h2; have z1 := (H1.out.setN x).box; obtain ⟨v0, v1, v2, v3, v4⟩ := box_all5P z1; have z2 := (TI.out.laterP (drew1B _)).other gn x (.bool true) (by have := GL.out; omega); have z3 := z2.cell 1; simp at z3 v0 v1 v2))
    go_wp2
    go_ret
    exact ⟨⟨true, rfl, ⟨fun _ => IB.out, fun _ => rfl⟩, fun _ => by simpa [mkB] using (H0.out.setN x).later (drew1B _)⟩, BD.out.trans BX.out⟩
  · have KN := Lib.hid (p := ∀ W, RBo W B gn bn → Calls Tryz.prog 154 #[.slice (some ⟨gn, 0, none⟩) bn.length bn.length, .int .i64 (x : Int)] W fun e w' => e = .returned (.bool false) ∧ w' = W) (fun W q => by
      refine (note_any x q (by omega)).mono ?_
      rintro e w' (⟨h0, _, _⟩ | ⟨_, h1, h2⟩)
      · exact absurd h0 hlt
      · exact ⟨h1, h2⟩)
    have IB := Lib.hid (p := ¬ inB p ⟨3, x, y⟩) (by
      intro q
      have q2 := q.2.1 rfl
      have := h.ln
      simp at q2
      omega)
    have j1 := (TI.out.laterP (drew1B _)).cell 1
    obtain ⟨v0, v1, v2, v3, v4⟩ := box_all5P H1.out.box
    simp at j1
    clear h hB
    go_enter Tryz.func147, Tryz.ntmps147
    go_wp2
    go_region_held3 (fun w' => w'.cell? ⟨ub, 0, none⟩ = some (.slice (some ⟨gn, 0, none⟩) bn.length bn.length) ∧ w'.cell? ⟨w.heap.size, 1, none⟩ = some (.int .i64 (x : Int)))
      (refine ⟨?_, ?_⟩ <;> first | assumption | (go_simp; done))
      (first
      | (go_at_call 154; refine (KN.out _ H1.out.rn).mono ?_; rintro e w3 ⟨rfl, h2⟩; subst h2))
    go_wp2
    go_ret
    exact ⟨⟨false, rfl, ⟨(fun e => by cases e), fun q => absurd q IB.out⟩, (fun e => by cases e)⟩, BD.out⟩
set_option maxRecDepth 100000 in
set_option maxHeartbeats 2000000 in
theorem take28_any (w : World) (p : Pg) (B ub gn gu gp : Nat) (bn bu bp : List Bool) (x y : Nat) (h : US w p B ub gn gu gp bn bu bp) (hB : B ≤ w.heap.size) (hx : x ≤ 262143) :
    Calls Tryz.prog 147 #[.pointer (some ⟨ub, 0, none⟩), .agg #[.int .i64 28, .int .i64 (x : Int), .int .i64 (y : Int)]] w fun e w' => TkE w p B ub gn gu gp bn bu bp ⟨28, x, y⟩ e w' := by
  have H0 := Lib.hid (h.later (allocBP w (.cells #[.int .i64 28, .int .i64 (x : Int), .int .i64 (y : Int)] 68)))
  have H1 := Lib.hid ((h.later (allocBP w (.cells #[.int .i64 28, .int .i64 (x : Int), .int .i64 (y : Int)] 68))).later (drew1B _))
  have BD := Lib.hid (p := Below B w (w.alloc (.cells #[.int .i64 28, .int .i64 (x : Int), .int .i64 (y : Int)] 68)).drew) ((((Below.refl B w).alloc hB _)).drew)
  have TI := Lib.hid (p := BkP (w.alloc (.cells #[.int .i64 28, .int .i64 (x : Int), .int .i64 (y : Int)] 68)) w.heap.size #[.int .i64 28, .int .i64 (x : Int), .int .i64 (y : Int)] 68) (heapN _ _)
  obtain ⟨u0, u1, u2, u3, u4⟩ := box_all5P ((h.later (allocBP w (.cells #[.int .i64 28, .int .i64 (x : Int), .int .i64 (y : Int)] 68))).box)
  have i1 := TI.out.cell 1
  simp at i1
  have GL := Lib.hid (World.ownsRow.lt h.ru gu rfl).2
  by_cases hlt : x < bu.length
  · have KN := Lib.hid (p := ∀ W, RBo W B gu bu → Calls Tryz.prog 154 #[.slice (some ⟨gu, 0, none⟩) bu.length bu.length, .int .i64 (x : Int)] W fun e w' => e = .returned (.bool true) ∧ w' = W.setCell ⟨gu, x, none⟩ (.bool true)) (fun W q => by
      refine (note_any x q (by omega)).mono ?_
      rintro e w' (⟨_, h1, h2⟩ | ⟨h0, _, _⟩)
      · exact ⟨h1, h2⟩
      · exact absurd hlt h0)
    have IB := Lib.hid (p := inB p ⟨28, x, y⟩) (by have := h.lu; refine ⟨?_, ?_, ?_, ?_, ?_⟩ <;> intro q <;> simp at q ⊢ <;> omega)
    have BX := Lib.hid (gr_bel (W := (w.alloc (.cells #[.int .i64 28, .int .i64 (x : Int), .int .i64 (y : Int)] 68)).drew) x (.bool true) (show B ≤ gu from h.bb.2.2.1) (Nat.le_trans hB BD.out.size))
    clear h hB
    go_enter Tryz.func147, Tryz.ntmps147
    go_wp2
    go_region_held3 (fun w' => w'.cell? ⟨ub, 1, none⟩ = some (.slice (some ⟨gu, 0, none⟩) bu.length bu.length) ∧ w'.cell? ⟨w.heap.size, 1, none⟩ = some (.int .i64 (x : Int)))
      (refine ⟨?_, ?_⟩ <;> first | assumption | (go_simp; done))
      (first
      | (go_at_call 154; refine (KN.out _ H1.out.ru).mono ?_; rintro e w3 ⟨rfl, h2⟩; subst h2; have z1 := (H1.out.setU x).box; obtain ⟨v0, v1, v2, v3, v4⟩ := box_all5P z1; have z2 := (TI.out.laterP (drew1B _)).other gu x (.bool true) (by have := GL.out; omega); have z3 := z2.cell 1; simp at z3 v0 v1 v2))
    go_wp2
    go_ret
    exact ⟨⟨true, rfl, ⟨fun _ => IB.out, fun _ => rfl⟩, fun _ => by simpa [mkB] using (H0.out.setU x).later (drew1B _)⟩, BD.out.trans BX.out⟩
  · have KN := Lib.hid (p := ∀ W, RBo W B gu bu → Calls Tryz.prog 154 #[.slice (some ⟨gu, 0, none⟩) bu.length bu.length, .int .i64 (x : Int)] W fun e w' => e = .returned (.bool false) ∧ w' = W) (fun W q => by
      refine (note_any x q (by omega)).mono ?_
      rintro e w' (⟨h0, _, _⟩ | ⟨_, h1, h2⟩)
      · exact absurd h0 hlt
      · exact ⟨h1, h2⟩)
    have IB := Lib.hid (p := ¬ inB p ⟨28, x, y⟩) (by
      intro q
      have q2 := q.2.2.1 rfl
      have := h.lu
      simp at q2
      omega)
    have j1 := (TI.out.laterP (drew1B _)).cell 1
    obtain ⟨v0, v1, v2, v3, v4⟩ := box_all5P H1.out.box
    simp at j1
    clear h hB
    go_enter Tryz.func147, Tryz.ntmps147
    go_wp2
    go_region_held3 (fun w' => w'.cell? ⟨ub, 1, none⟩ = some (.slice (some ⟨gu, 0, none⟩) bu.length bu.length) ∧ w'.cell? ⟨w.heap.size, 1, none⟩ = some (.int .i64 (x : Int)))
      (refine ⟨?_, ?_⟩ <;> first | assumption | (go_simp; done))
      (first
      | (go_at_call 154; refine (KN.out _ H1.out.ru).mono ?_; rintro e w3 ⟨rfl, h2⟩; subst h2))
    go_wp2
    go_ret
    exact ⟨⟨false, rfl, ⟨(fun e => by cases e), fun q => absurd q IB.out⟩, (fun e => by cases e)⟩, BD.out⟩
set_option maxRecDepth 100000 in
set_option maxHeartbeats 2000000 in
theorem take4_any (w : World) (p : Pg) (B ub gn gu gp : Nat) (bn bu bp : List Bool) (x y : Nat) (h : US w p B ub gn gu gp bn bu bp) (hB : B ≤ w.heap.size) (hx : x ≤ 262143) :
    Calls Tryz.prog 147 #[.pointer (some ⟨ub, 0, none⟩), .agg #[.int .i64 4, .int .i64 (x : Int), .int .i64 (y : Int)]] w fun e w' => TkE w p B ub gn gu gp bn bu bp ⟨4, x, y⟩ e w' := by
  have U1 := Lib.hid (h.later (allocBP w (.cells #[.int .i64 4, .int .i64 (x : Int), .int .i64 (y : Int)] 68)))
  have BD := Lib.hid (p := Below B w (w.alloc (.cells #[.int .i64 4, .int .i64 (x : Int), .int .i64 (y : Int)] 68))) ((Below.refl B w).alloc hB _)
  have TI := Lib.hid (p := BkP (w.alloc (.cells #[.int .i64 4, .int .i64 (x : Int), .int .i64 (y : Int)] 68)) w.heap.size #[.int .i64 4, .int .i64 (x : Int), .int .i64 (y : Int)] 68) (heapN _ _)
  obtain ⟨u0, u1, u2, u3, u4⟩ := box_all5P U1.out.box
  have IB := Lib.hid (p := inB p ⟨4, x, y⟩ ↔ (x : Int) < p.cells) (by unfold inB; simp)
  by_cases hlt : (x : Int) < p.cells
  · have b1 : decide ((x : Int) < p.cells) = true := decide_eq_true hlt
    clear h hB
    go_enter Tryz.func147, Tryz.ntmps147
    go_wp2
    generalize hW : w.alloc (.cells #[.int .i64 4, .int .i64 (x : Int), .int .i64 (y : Int)] 68) = W1 at *
    clear hW
    have i1 := TI.out.cell 1
    simp at i1
    go_quiet (fail)
    go_wp2
    go_ret
    exact ⟨⟨true, rfl, ⟨fun _ => IB.out.2 hlt, fun _ => rfl⟩, fun _ => by simpa [mkB] using U1.out.later (drewBP _ _)⟩, bel_drB BD.out _⟩
  · have b1 : decide ((x : Int) < p.cells) = false := decide_eq_false hlt
    clear h hB
    go_enter Tryz.func147, Tryz.ntmps147
    go_wp2
    generalize hW : w.alloc (.cells #[.int .i64 4, .int .i64 (x : Int), .int .i64 (y : Int)] 68) = W1 at *
    clear hW
    have i1 := TI.out.cell 1
    simp at i1
    go_quiet (fail)
    go_wp2
    go_ret
    exact ⟨⟨false, rfl, ⟨(fun e => by cases e), fun q => absurd (IB.out.1 q) (by omega)⟩, (fun e => by cases e)⟩, bel_drB BD.out _⟩
set_option maxRecDepth 100000 in
set_option maxHeartbeats 2000000 in
theorem take5_any (w : World) (p : Pg) (B ub gn gu gp : Nat) (bn bu bp : List Bool) (x y : Nat) (h : US w p B ub gn gu gp bn bu bp) (hB : B ≤ w.heap.size) (hx : x ≤ 262143) :
    Calls Tryz.prog 147 #[.pointer (some ⟨ub, 0, none⟩), .agg #[.int .i64 5, .int .i64 (x : Int), .int .i64 (y : Int)]] w fun e w' => TkE w p B ub gn gu gp bn bu bp ⟨5, x, y⟩ e w' := by
  have U1 := Lib.hid (h.later (allocBP w (.cells #[.int .i64 5, .int .i64 (x : Int), .int .i64 (y : Int)] 68)))
  have BD := Lib.hid (p := Below B w (w.alloc (.cells #[.int .i64 5, .int .i64 (x : Int), .int .i64 (y : Int)] 68))) ((Below.refl B w).alloc hB _)
  have TI := Lib.hid (p := BkP (w.alloc (.cells #[.int .i64 5, .int .i64 (x : Int), .int .i64 (y : Int)] 68)) w.heap.size #[.int .i64 5, .int .i64 (x : Int), .int .i64 (y : Int)] 68) (heapN _ _)
  obtain ⟨u0, u1, u2, u3, u4⟩ := box_all5P U1.out.box
  have IB := Lib.hid (p := inB p ⟨5, x, y⟩ ↔ (x : Int) < p.cells) (by unfold inB; simp)
  by_cases hlt : (x : Int) < p.cells
  · have b1 : decide ((x : Int) < p.cells) = true := decide_eq_true hlt
    clear h hB
    go_enter Tryz.func147, Tryz.ntmps147
    go_wp2
    generalize hW : w.alloc (.cells #[.int .i64 5, .int .i64 (x : Int), .int .i64 (y : Int)] 68) = W1 at *
    clear hW
    have i1 := TI.out.cell 1
    simp at i1
    go_quiet (fail)
    go_wp2
    go_ret
    exact ⟨⟨true, rfl, ⟨fun _ => IB.out.2 hlt, fun _ => rfl⟩, fun _ => by simpa [mkB] using U1.out.later (drewBP _ _)⟩, bel_drB BD.out _⟩
  · have b1 : decide ((x : Int) < p.cells) = false := decide_eq_false hlt
    clear h hB
    go_enter Tryz.func147, Tryz.ntmps147
    go_wp2
    generalize hW : w.alloc (.cells #[.int .i64 5, .int .i64 (x : Int), .int .i64 (y : Int)] 68) = W1 at *
    clear hW
    have i1 := TI.out.cell 1
    simp at i1
    go_quiet (fail)
    go_wp2
    go_ret
    exact ⟨⟨false, rfl, ⟨(fun e => by cases e), fun q => absurd (IB.out.1 q) (by omega)⟩, (fun e => by cases e)⟩, bel_drB BD.out _⟩
set_option maxRecDepth 100000 in
set_option maxHeartbeats 2000000 in
theorem take6_any (w : World) (p : Pg) (B ub gn gu gp : Nat) (bn bu bp : List Bool) (x y : Nat) (h : US w p B ub gn gu gp bn bu bp) (hB : B ≤ w.heap.size) (hx : x ≤ 262143) :
    Calls Tryz.prog 147 #[.pointer (some ⟨ub, 0, none⟩), .agg #[.int .i64 6, .int .i64 (x : Int), .int .i64 (y : Int)]] w fun e w' => TkE w p B ub gn gu gp bn bu bp ⟨6, x, y⟩ e w' := by
  have U1 := Lib.hid (h.later (allocBP w (.cells #[.int .i64 6, .int .i64 (x : Int), .int .i64 (y : Int)] 68)))
  have BD := Lib.hid (p := Below B w (w.alloc (.cells #[.int .i64 6, .int .i64 (x : Int), .int .i64 (y : Int)] 68))) ((Below.refl B w).alloc hB _)
  have TI := Lib.hid (p := BkP (w.alloc (.cells #[.int .i64 6, .int .i64 (x : Int), .int .i64 (y : Int)] 68)) w.heap.size #[.int .i64 6, .int .i64 (x : Int), .int .i64 (y : Int)] 68) (heapN _ _)
  obtain ⟨u0, u1, u2, u3, u4⟩ := box_all5P U1.out.box
  have IB := Lib.hid (p := inB p ⟨6, x, y⟩ ↔ (x : Int) < p.slots) (by unfold inB; simp)
  by_cases hlt : (x : Int) < p.slots
  · have b1 : decide ((x : Int) < p.slots) = true := decide_eq_true hlt
    clear h hB
    go_enter Tryz.func147, Tryz.ntmps147
    go_wp2
    generalize hW : w.alloc (.cells #[.int .i64 6, .int .i64 (x : Int), .int .i64 (y : Int)] 68) = W1 at *
    clear hW
    have i1 := TI.out.cell 1
    simp at i1
    go_quiet (fail)
    go_wp2
    go_ret
    exact ⟨⟨true, rfl, ⟨fun _ => IB.out.2 hlt, fun _ => rfl⟩, fun _ => by simpa [mkB] using U1.out.later (drewBP _ _)⟩, bel_drB BD.out _⟩
  · have b1 : decide ((x : Int) < p.slots) = false := decide_eq_false hlt
    clear h hB
    go_enter Tryz.func147, Tryz.ntmps147
    go_wp2
    generalize hW : w.alloc (.cells #[.int .i64 6, .int .i64 (x : Int), .int .i64 (y : Int)] 68) = W1 at *
    clear hW
    have i1 := TI.out.cell 1
    simp at i1
    go_quiet (fail)
    go_wp2
    go_ret
    exact ⟨⟨false, rfl, ⟨(fun e => by cases e), fun q => absurd (IB.out.1 q) (by omega)⟩, (fun e => by cases e)⟩, bel_drB BD.out _⟩
set_option maxRecDepth 100000 in
set_option maxHeartbeats 2000000 in
theorem take7_any (w : World) (p : Pg) (B ub gn gu gp : Nat) (bn bu bp : List Bool) (x y : Nat) (h : US w p B ub gn gu gp bn bu bp) (hB : B ≤ w.heap.size) (hx : x ≤ 262143) :
    Calls Tryz.prog 147 #[.pointer (some ⟨ub, 0, none⟩), .agg #[.int .i64 7, .int .i64 (x : Int), .int .i64 (y : Int)]] w fun e w' => TkE w p B ub gn gu gp bn bu bp ⟨7, x, y⟩ e w' := by
  have U1 := Lib.hid (h.later (allocBP w (.cells #[.int .i64 7, .int .i64 (x : Int), .int .i64 (y : Int)] 68)))
  have BD := Lib.hid (p := Below B w (w.alloc (.cells #[.int .i64 7, .int .i64 (x : Int), .int .i64 (y : Int)] 68))) ((Below.refl B w).alloc hB _)
  have TI := Lib.hid (p := BkP (w.alloc (.cells #[.int .i64 7, .int .i64 (x : Int), .int .i64 (y : Int)] 68)) w.heap.size #[.int .i64 7, .int .i64 (x : Int), .int .i64 (y : Int)] 68) (heapN _ _)
  obtain ⟨u0, u1, u2, u3, u4⟩ := box_all5P U1.out.box
  have IB := Lib.hid (p := inB p ⟨7, x, y⟩ ↔ (x : Int) < p.slots) (by unfold inB; simp)
  by_cases hlt : (x : Int) < p.slots
  · have b1 : decide ((x : Int) < p.slots) = true := decide_eq_true hlt
    clear h hB
    go_enter Tryz.func147, Tryz.ntmps147
    go_wp2
    generalize hW : w.alloc (.cells #[.int .i64 7, .int .i64 (x : Int), .int .i64 (y : Int)] 68) = W1 at *
    clear hW
    have i1 := TI.out.cell 1
    simp at i1
    go_quiet (fail)
    go_wp2
    go_ret
    exact ⟨⟨true, rfl, ⟨fun _ => IB.out.2 hlt, fun _ => rfl⟩, fun _ => by simpa [mkB] using U1.out.later (drewBP _ _)⟩, bel_drB BD.out _⟩
  · have b1 : decide ((x : Int) < p.slots) = false := decide_eq_false hlt
    clear h hB
    go_enter Tryz.func147, Tryz.ntmps147
    go_wp2
    generalize hW : w.alloc (.cells #[.int .i64 7, .int .i64 (x : Int), .int .i64 (y : Int)] 68) = W1 at *
    clear hW
    have i1 := TI.out.cell 1
    simp at i1
    go_quiet (fail)
    go_wp2
    go_ret
    exact ⟨⟨false, rfl, ⟨(fun e => by cases e), fun q => absurd (IB.out.1 q) (by omega)⟩, (fun e => by cases e)⟩, bel_drB BD.out _⟩
set_option maxRecDepth 100000 in
set_option maxHeartbeats 2000000 in
theorem takeE_any (k : Nat) (n1 : k ≠ 1) (n3 : k ≠ 3) (n28 : k ≠ 28) (n4 : k ≠ 4) (n5 : k ≠ 5) (n6 : k ≠ 6) (n7 : k ≠ 7) (w : World) (p : Pg) (B ub gn gu gp : Nat) (bn bu bp : List Bool) (x y : Nat) (h : US w p B ub gn gu gp bn bu bp) (hB : B ≤ w.heap.size) (hx : x ≤ 262143) :
    Calls Tryz.prog 147 #[.pointer (some ⟨ub, 0, none⟩), .agg #[.int .i64 (k : Int), .int .i64 (x : Int), .int .i64 (y : Int)]] w fun e w' => TkE w p B ub gn gu gp bn bu bp ⟨k, x, y⟩ e w' := by
  have U1 := Lib.hid (h.later (allocBP w (.cells #[.int .i64 (k : Int), .int .i64 (x : Int), .int .i64 (y : Int)] 68)))
  have BD := Lib.hid (p := Below B w (w.alloc (.cells #[.int .i64 (k : Int), .int .i64 (x : Int), .int .i64 (y : Int)] 68))) ((Below.refl B w).alloc hB _)
  have IB := Lib.hid (p := inB p ⟨k, x, y⟩) (by refine ⟨?_, ?_, ?_, ?_, ?_⟩ <;> intro q <;> simp at q <;> omega)
  have MB := Lib.hid (p := mkB 3 bn ⟨k, x, y⟩ = bn ∧ mkB 28 bu ⟨k, x, y⟩ = bu ∧ mkB 1 bp ⟨k, x, y⟩ = bp) (by unfold mkB; simp; omega)
  have b1 : ((k : Int) == 1) = false := by simp; omega
  have b3 : ((k : Int) == 3) = false := by simp; omega
  have b28 : ((k : Int) == 28) = false := by simp; omega
  have b4 : ((k : Int) == 4) = false := by simp; omega
  have b5 : ((k : Int) == 5) = false := by simp; omega
  have b6 : ((k : Int) == 6) = false := by simp; omega
  have b7 : ((k : Int) == 7) = false := by simp; omega
  clear h hB n1 n3 n28 n4 n5 n6 n7
  go_enter Tryz.func147, Tryz.ntmps147
  go_wp2
  go_ret
  exact ⟨⟨true, rfl, ⟨fun _ => IB.out, fun _ => rfl⟩, fun _ => by rw [MB.out.1, MB.out.2.1, MB.out.2.2]; exact U1.out⟩, BD.out⟩
theorem take_any (i : In) (hi : i.okP) (w : World) (p : Pg) (B ub gn gu gp : Nat) (bn bu bp : List Bool) (h : US w p B ub gn gu gp bn bu bp) (hB : B ≤ w.heap.size) :
    Calls Tryz.prog 147 #[.pointer (some ⟨ub, 0, none⟩), .agg #[.int .i64 i.o, .int .i64 i.a, .int .i64 i.b]] w fun e w' => TkE w p B ub gn gu gp bn bu bp i e w' := by
  obtain ⟨o, a, b⟩ := i
  have ho := hi.1
  have ho2 := hi.2.1
  have ha := hi.2.2.1
  have hb := hi.2.2.2.2.1
  have ha2 := hi.2.2.2.1
  have hm := (tab_facts o.toNat (by simp at ho ho2 ⊢; omega)).2.1
  simp only at ho ho2 ha hb ha2 hm
  obtain ⟨k, rfl⟩ : ∃ k : Nat, o = (k : Int) := ⟨o.toNat, by omega⟩
  obtain ⟨x, rfl⟩ : ∃ x : Nat, a = (x : Int) := ⟨a.toNat, by omega⟩
  obtain ⟨y, rfl⟩ : ∃ y : Nat, b = (y : Int) := ⟨b.toNat, by omega⟩
  have hx : x ≤ 262143 := by omega
  clear hi
  by_cases e1 : k = 1
  · subst e1; exact take1_any w p B ub gn gu gp bn bu bp x y h hB hx
  by_cases e3 : k = 3
  · subst e3; exact take3_any w p B ub gn gu gp bn bu bp x y h hB hx
  by_cases e28 : k = 28
  · subst e28; exact take28_any w p B ub gn gu gp bn bu bp x y h hB hx
  by_cases e4 : k = 4
  · subst e4; exact take4_any w p B ub gn gu gp bn bu bp x y h hB hx
  by_cases e5 : k = 5
  · subst e5; exact take5_any w p B ub gn gu gp bn bu bp x y h hB hx
  by_cases e6 : k = 6
  · subst e6; exact take6_any w p B ub gn gu gp bn bu bp x y h hB hx
  by_cases e7 : k = 7
  · subst e7; exact take7_any w p B ub gn gu gp bn bu bp x y h hB hx
  exact takeE_any k e1 e3 e28 e4 e5 e6 e7 w p B ub gn gu gp bn bu bp x y h hB hx
end Go.Proofs.YtpfjnnkjoabgbaaGreatDoor
