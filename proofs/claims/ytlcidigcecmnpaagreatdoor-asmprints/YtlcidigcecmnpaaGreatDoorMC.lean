/-
  WALKS: an instruction's words, of the program.
-/
import Derived.Test.YtlcidigcecmnpaaGreatDoorPlainAsm
import Derived.Test.YtlcidigcecmnpaaGreatDoorWCode5
import Derived.Test.YtlcidigcecmnpaaGreatDoorMA
import Derived.Test.YtlcidigcecmnpaaGreatDoorWImg2
import Derived.Test.YtlcidigcecmnpaaGreatDoorWImg7
import Derived.Lib.ItoaLen
import Derived.Test.YtlcidigcecmnpaaGreatDoorShelf
import Derived.Lib.AppendStr
import Derived.Lib.AppendIntMem
import Derived.Lib.OthersKept
import Derived.Lib.ConvBytes
import Derived.Laws.AppendOwn
import Derived.Laws.IdiomStrings
import Derived.Test.YtlcidigcecmnpaaGreatDoorMB
namespace Go.Proofs.YtlcidigcecmnpaaGreatDoor
open Go.RowKit
set_option linter.unusedVariables false
set_option linter.unusedSimpArgs false

theorem Pows.later {w w' : World} (h : Pows w) (b : Below w.heap.size w w') : Pows w' := Lib.tabBelow_of_tabIs h w' b
theorem word_eq13 (v : Int) (u : Nat) (hu : absI v = u) : decS (decide (v < 0)) 0 (Lib.decDigits u) = Lib.itoa v := by
  have e : padTo 0 (Lib.decDigits u) = Lib.decDigits u := by
    unfold padTo
    have : 1 ≤ (Lib.decDigits u).length := by
      rw [Lib.decDigits_length]
      unfold Lib.nDigits
      split <;> omega
    rw [show 0 + 1 - (Lib.decDigits u).length = 0 by omega]; rfl
  unfold decS pointed
  simp only [e, if_true]
  unfold Lib.itoa
  by_cases h : v < 0
  · rw [decide_eq_true h, if_pos rfl, if_pos h, show v.natAbs = u by rw [absI_neg h] at hu; omega]
  · rw [decide_eq_false h, if_neg (by simp), if_neg h, show v.toNat = u by rw [absI_pos h] at hu; omega]
theorem numText13 (v : Int) (hv : i64 v) (w : World) (ht : Pows w) :
    Calls Tryz.prog 58 #[.int .i64 v, .int .i64 0] w fun e w' => e = .returned (.tuple #[.string (txA v), .int .i64 0]) ∧ Below w.heap.size w w' := by
  have hv' : inR v := wf_inR hv
  obtain ⟨u, hu⟩ : ∃ u : Nat, absI v = u := ⟨(absI v).toNat, by have := absI_bd v hv'; omega⟩
  have := text_in v hv' u hu 0 (by omega) w ht
  rw [word_eq13 v u hu] at this
  exact this
theorem valueText_any (v : Int) (hv : i64 v) (w : World) (ht : Pows w) :
    Calls Tryz.prog 36 #[.int .i64 v] w fun e w' => e = .returned (.string (txA v)) ∧ Below w.heap.size w w' := by
  have K := Lib.hid (numText13 v hv w ht)
  clear hv ht
  generalize txA v = s at *
  go_enter Tryz.func36, Tryz.ntmps36
  go_wp2_with (go_at_call 58; refine K.out.mono ?_; rintro e w1 ⟨rfl, h1⟩; have B1 := Lib.hid h1; clear h1)
  go_ret
  exact ⟨rfl, B1.out⟩
theorem atI_any {w : World} {a : Option Addr} {n c : Nat} {l : List Int} (h : NR w a n c l) (k : Nat) :
    Calls Tryz.prog 60 #[.slice a n c, .int .i64 (k : Int)] w fun e w' => e = .returned (.tuple #[.int .i64 (l.getD k 0), .bool (decide ((k : Int) < (l.length : Int)))]) ∧ w' = w := by
  obtain ⟨_, l1, b1, _, r1⟩ := h
  by_cases hlt : k < n
  · obtain ⟨x, o, rfl, hc⟩ : ∃ x o, a = some ⟨x, o, none⟩ ∧ w.cell? ⟨x, o + k, none⟩ = some (.int .i64 (l.getD k 0)) := by
      rcases r1 with q | ⟨b, o, e, h1, h2⟩
      · omega
      · exact ⟨b, o, e, by simpa using h2 k hlt 0 (by omega)⟩
    have q1 : decide ((k : Int) < (l.length : Int)) = true := decide_eq_true (by omega)
    have q2 : (k : Int) < (n : Int) := by omega
    have q3 : decide (n ≤ k) = false := decide_eq_false (by omega)
    have q4 : decide ((n : Int) ≤ (k : Int)) = false := decide_eq_false (by omega)
    rw [q1]
    generalize l.getD k 0 = v at *
    clear l1 b1 r1 q1
    go_enter Tryz.func60, Tryz.ntmps60
    go_wp2
    go_ret2
    exact ⟨rfl, rfl⟩
  · have q1 : decide ((k : Int) < (l.length : Int)) = false := decide_eq_false (by omega)
    have q2 : l.getD k 0 = 0 := by simp [List.getD, List.getElem?_eq_none (show l.length ≤ k by omega)]
    have q3 : decide (n ≤ k) = true := decide_eq_true (by omega)
    have q4 : decide ((n : Int) ≤ (k : Int)) = true := decide_eq_true (by omega)
    rw [q1, q2]
    clear l1 b1 r1 q1 q2
    go_enter Tryz.func60, Tryz.ntmps60
    go_wp2
    go_ret2
    exact ⟨rfl, rfl⟩
theorem atS_any {w : World} {a : Option Addr} {n c : Nat} {l : List ByteArray} (h : SR w a n c l) (k : Nat) :
    Calls Tryz.prog 61 #[.slice a n c, .int .i64 (k : Int)] w fun e w' => e = .returned (.tuple #[.string (l.getD k ⟨#[]⟩), .bool (decide ((k : Int) < (l.length : Int)))]) ∧ w' = w := by
  obtain ⟨_, l1, b1, _, r1⟩ := h
  by_cases hlt : k < n
  · have hk : k < l.length := by omega
    obtain ⟨x, o, rfl, hc⟩ : ∃ x o, a = some ⟨x, o, none⟩ ∧ w.cell? ⟨x, o + k, none⟩ = some (.string (l.getD k ⟨#[]⟩)) := by
      rcases r1 with q | ⟨b, o, e, h1, h2⟩
      · omega
      · refine ⟨b, o, e, ?_⟩
        have := h2 k hlt 0 (by omega)
        simp [List.getD, hk] at this
        simpa [List.getD, hk] using this
    have q1 : decide ((k : Int) < (l.length : Int)) = true := decide_eq_true (by omega)
    have q2 : (k : Int) < (n : Int) := by omega
    have q3 : decide (n ≤ k) = false := decide_eq_false (by omega)
    have q4 : decide ((n : Int) ≤ (k : Int)) = false := decide_eq_false (by omega)
    rw [q1]
    generalize l.getD k ⟨#[]⟩ = v at *
    clear l1 b1 r1 q1 hk
    go_enter Tryz.func61, Tryz.ntmps61
    go_wp2
    go_ret2
    exact ⟨rfl, rfl⟩
  · have q1 : decide ((k : Int) < (l.length : Int)) = false := decide_eq_false (by omega)
    have q2 : l.getD k ⟨#[]⟩ = ⟨#[]⟩ := by simp [List.getD, List.getElem?_eq_none (show l.length ≤ k by omega)]
    have q3 : decide (n ≤ k) = true := decide_eq_true (by omega)
    have q4 : decide ((n : Int) ≤ (k : Int)) = true := decide_eq_true (by omega)
    rw [q1, q2]
    clear l1 b1 r1 q1 q2
    go_enter Tryz.func61, Tryz.ntmps61
    go_wp2
    go_ret2
    exact ⟨rfl, rfl⟩
/-- The words of the roundings, where the program keeps them. -/
def Mds (w : World) : Prop := 2 < w.heap.size ∧ ∀ k, k < 5 → w.cell? ⟨2, k, none⟩ = some (.string (mdA k))
theorem Mds.later {w w' : World} (h : Mds w) (b : Below w.heap.size w w') : Mds w' := ⟨Nat.lt_of_lt_of_le h.1 b.size, fun k hk => (b.cell (p := ⟨2, k, none⟩) h.1).trans (h.2 k hk)⟩
end Go.Proofs.YtlcidigcecmnpaaGreatDoor

namespace Go.Proofs.YtlcidigcecmnpaaGreatDoor
open Go.RowKit
set_option linter.unusedVariables false
set_option linter.unusedSimpArgs false

abbrev inC (i : In) : Obj := .cells #[.int .i64 i.o, .int .i64 i.a, .int .i64 i.b] 37
/-- The boxes of a program and an instruction. -/
structure PI (w W : World) (p : Pg) (i : In) : Prop where
  bel : Below w.heap.size w W
  p0 : BkP W w.heap.size p.arr 26
  i0 : BkP W (w.heap.size + 1) #[.int .i64 i.o, .int .i64 i.a, .int .i64 i.b] 37
theorem PI.later {w W W' : World} {p : Pg} {i : In} (h : PI w W p i) (b : Below W.heap.size W W') : PI w W' p i :=
  ⟨h.bel.trans (b.mono h.bel.size), h.p0.grown (gr_below b none) (fun e => by cases e), h.i0.grown (gr_below b none) (fun e => by cases e)⟩
theorem pi_start (w : World) (p : Pg) (i : In) : PI w ((w.alloc (.cells p.arr 26)).alloc (inC i)) p i := by
  have e1 : (w.alloc (.cells p.arr 26)).heap.size = w.heap.size + 1 := by simp
  refine ⟨alloc2 w _ _, (Below.heap_alloc _ _ _ (by simp)).trans (heapN w _), ?_⟩
  have := heapN (w.alloc (.cells p.arr 26)) (inC i)
  rwa [e1] at this
structure PI.cells (w W : World) (p : Pg) (i : In) : Prop where
  c0 : W.cell? ⟨w.heap.size, 0, none⟩ = some (.slice p.na p.names.length p.nc)
  c1 : W.cell? ⟨w.heap.size, 1, none⟩ = some (.slice p.ua p.curs.length p.uc)
  c2 : W.cell? ⟨w.heap.size, 2, none⟩ = some (.slice p.pa p.pool.length p.pc)
  c3 : W.cell? ⟨w.heap.size, 3, none⟩ = some (.int .i64 p.hor)
  c4 : W.cell? ⟨w.heap.size, 4, none⟩ = some (.int .i64 p.cells)
  c5 : W.cell? ⟨w.heap.size, 5, none⟩ = some (.int .i64 p.slots)
  c6 : W.cell? ⟨w.heap.size, 6, none⟩ = some (.int .i64 p.stack)
  c7 : W.cell? ⟨w.heap.size, 7, none⟩ = some (.slice p.da p.days.length p.dc)
  d0 : W.cell? ⟨w.heap.size + 1, 0, none⟩ = some (.int .i64 i.o)
  d1 : W.cell? ⟨w.heap.size + 1, 1, none⟩ = some (.int .i64 i.a)
  d2 : W.cell? ⟨w.heap.size + 1, 2, none⟩ = some (.int .i64 i.b)
theorem PI.get {w W : World} {p : Pg} {i : In} (h : PI w W p i) : PI.cells w W p i :=
  ⟨h.p0.cell 0, h.p0.cell 1, h.p0.cell 2, h.p0.cell 3, h.p0.cell 4, h.p0.cell 5, h.p0.cell 6, h.p0.cell 7, h.i0.cell 0, h.i0.cell 1, h.i0.cell 2⟩
theorem i64_nat {k : Nat} (h : k ≤ 1000000) : i64 (k : Int) := by
  unfold i64
  simp [Lit.wf, IntKind.min, IntKind.max, IntKind.bits, IntKind.signed]; omega
theorem pool_i64 {w : World} {p : Pg} (h : PV w p) (k : Nat) : i64 (p.pool.getD k 0) := by
  by_cases hk : k < p.pool.length
  · have := h.pool.2.2.2.1 (p.pool.getD k 0) (by simp [List.getD, hk])
    exact this
  · rw [show p.pool.getD k 0 = 0 by simp [List.getD, List.getElem?_eq_none (show p.pool.length ≤ k by omega)]]
    exact i64_nat (k := 0) (by omega)
set_option maxRecDepth 100000 in
set_option maxHeartbeats 4000000 in
theorem operandText_any {w : World} {p : Pg} (h : PV w p) (i : In) (hi : i.okP) (hP : Pows w) (hM : Mds w) :
    Calls Tryz.prog 39 #[p.agg, .agg #[.int .i64 i.o, .int .i64 i.a, .int .i64 i.b]] w fun e w' => e = .returned (.tuple #[.string (fstW p.names p.curs p.pool i), .bool (fstB p.names p.curs p.pool i)]) ∧ Below w.heap.size w w' := by
  obtain ⟨h1, h2, h3, h4, h5, h6⟩ := hi
  obtain ⟨o, a, b⟩ := i
  simp only at h1 h2 h3 h4 h5 h6
  obtain ⟨x, rfl⟩ : ∃ x : Nat, a = x := ⟨a.toNat, by omega⟩
  have hx : x ≤ 262143 := by have := (tab_facts o.toNat (by omega)).2.1; omega
  have X0 := pi_start w p ⟨o, x, b⟩
  obtain ⟨c0, c1, c2, c3, c4, c5, c6, c7, d0, d1, d2⟩ := X0.get
  have B0 := Lib.hid X0.bel
  have KI := Lib.hid (fun W (b : Below w.heap.size w W) => atI_any (h.pool.later b) x)
  have KN := Lib.hid (fun W (b : Below w.heap.size w W) => atS_any (h.names.later b) x)
  have KU := Lib.hid (fun W (b : Below w.heap.size w W) => atS_any (h.curs.later b) x)
  have KV := Lib.hid (fun W (b : Below w.heap.size w W) => valueText_any (p.pool.getD x 0) (pool_i64 h x) W (hP.later b))
  have KA := Lib.hid (fun W (b : Below w.heap.size w W) => valueText_any (x : Int) (i64_nat (by omega)) W (hP.later b))
  have MM := Lib.hid (fun W (b : Below w.heap.size w W) => hM.later b)
  unfold inC at *
  unfold Pg.arr at *
  unfold Pg.agg
  unfold fstW fstB
  simp only [Int.toNat_natCast] at *
  clear X0 h hP hM h3 h5 h6
  generalize hW0 : (w.alloc _).alloc _ = W0 at *
  by_cases e1 : o = 1
  · subst e1
    simp only [if_true]
    clear KN KU KA MM
    generalize p.pool.getD x 0 = v at *
    generalize decide ((x : Int) < (p.pool.length : Int)) = z at *
    go_enter Tryz.func39, Tryz.ntmps39
    go_wp2_with (first
      | (go_at_call 60; refine (KI.out _ B0.out).mono ?_; rintro e w1 ⟨rfl, rfl⟩)
      | (go_at_call 36; refine (KV.out _ B0.out).mono ?_; rintro e w2 ⟨rfl, b2⟩; have B2 := Lib.hid (B0.out.trans (b2.mono B0.out.size)); clear b2))
    go_ret2
    exact ⟨rfl, B2.out⟩
  · by_cases e2 : o = 3
    · subst e2
      simp only [show ¬ (3 : Int) = 1 by decide, if_true, if_false]
      clear KI KU KA KV MM
      generalize p.names.getD x ⟨#[]⟩ = v at *
      generalize decide ((x : Int) < (p.names.length : Int)) = z at *
      go_enter Tryz.func39, Tryz.ntmps39
      go_wp2_with (first
        | (go_at_call 61; refine (KN.out _ B0.out).mono ?_; rintro e w1 ⟨rfl, rfl⟩))
      go_ret2
      exact ⟨rfl, B0.out⟩
    · by_cases e3 : o = 28
      · subst e3
        simp only [show ¬ (28 : Int) = 1 by decide, show ¬ (28 : Int) = 3 by decide, if_true, if_false]
        clear KI KN KA KV MM
        generalize p.curs.getD x ⟨#[]⟩ = v at *
        generalize decide ((x : Int) < (p.curs.length : Int)) = z at *
        go_enter Tryz.func39, Tryz.ntmps39
        go_wp2_with (first
          | (go_at_call 61; refine (KU.out _ B0.out).mono ?_; rintro e w1 ⟨rfl, rfl⟩))
        go_ret2
        exact ⟨rfl, B0.out⟩
      · by_cases e4 : o = 18
        · subst e4
          simp only [show ¬ (18 : Int) = 1 by decide, show ¬ (18 : Int) = 3 by decide, show ¬ (18 : Int) = 28 by decide, if_true, if_false]
          have hx5 : x < 5 := by have : baA (18 : Int).toNat = 4 := rfl; omega
          have m0 := (MM.out _ B0.out).2 x hx5
          have q1 : (x : Int) < 5 := by omega
          clear KI KN KU KA KV MM
          generalize mdA x = v at *
          go_enter Tryz.func39, Tryz.ntmps39
          go_wp2
          go_ret2
          exact ⟨rfl, B0.out⟩
        · simp only [if_neg e1, if_neg e2, if_neg e3, if_neg e4]
          clear KI KN KU KV MM
          have f1 : (o == 1) = false := by simpa using e1
          have f2 : (o == 3) = false := by simpa using e2
          have f3 : (o == 28) = false := by simpa using e3
          have f4 : (o == 18) = false := by simpa using e4
          go_enter Tryz.func39, Tryz.ntmps39
          go_wp2_with (first
            | (go_at_call 36; refine (KA.out _ B0.out).mono ?_; rintro e w2 ⟨rfl, b2⟩; have B2 := Lib.hid (B0.out.trans (b2.mono B0.out.size)); clear b2))
          go_ret2
          exact ⟨rfl, B2.out⟩
end Go.Proofs.YtlcidigcecmnpaaGreatDoor

namespace Go.Proofs.YtlcidigcecmnpaaGreatDoor
open Go.RowKit
set_option linter.unusedVariables false
set_option linter.unusedSimpArgs false
/-- Three texts in a row of their own. -/
def Tx3 (W : World) (g : Nat) (a b c : ByteArray) : Prop := g < W.heap.size ∧ W.cell? ⟨g, 0, none⟩ = some (.string a) ∧ W.cell? ⟨g, 1, none⟩ = some (.string b) ∧ W.cell? ⟨g, 2, none⟩ = some (.string c)
set_option maxRecDepth 100000 in
set_option maxHeartbeats 4000000 in
theorem instrWords_any {w : World} {p : Pg} (h : PV w p) (i : In) (hi : i.okP) (hR : Rws w) (hP : Pows w) (hM : Mds w) :
    Calls Tryz.prog 21 #[p.agg, .agg #[.int .i64 i.o, .int .i64 i.a, .int .i64 i.b]] w fun e w' => ∃ g, e = .returned (.tuple #[.slice (some ⟨g, 0, none⟩) (1 + onA i.o.toNat) 3, .bool (fstB p.names p.curs p.pool i)]) ∧ Tx3 w' g (nmA i.o.toNat) (fstW p.names p.curs p.pool i) (txA i.b) ∧ Below w.heap.size w w' := by
  have hi' := hi
  obtain ⟨h1, h2, h3, h4, h5, h6⟩ := hi
  obtain ⟨o, a, b⟩ := i
  simp only at h1 h2 h3 h4 h5 h6 hi'
  obtain ⟨k, rfl⟩ : ∃ x : Nat, o = x := ⟨o.toNat, by omega⟩
  have hk : k < 29 := by omega
  have tf := tab_facts k hk
  have hb : i64 b := by
    obtain ⟨y, rfl⟩ : ∃ x : Nat, b = x := ⟨b.toNat, by omega⟩
    refine i64_nat ?_
    simp only [Int.toNat_natCast] at h6
    omega
  have RE : RowE (k : Int) (nmA k) (onA k) (tkA k) (ptA k) (baA k) (bbA k) 0 := ⟨.inl ⟨k, hk, rfl, rfl, rfl, rfl, rfl, rfl, rfl, rfl⟩⟩
  have X0 := pi_start w p ⟨(k : Int), a, b⟩
  obtain ⟨c0, c1, c2, c3, c4, c5, c6, c7, d0, d1, d2⟩ := X0.get
  have X := Lib.hid X0
  have KN := Lib.hid (fun W (b : Below w.heap.size w W) => name_any RE W (hR.below b))
  have KO := Lib.hid (fun W (b : Below w.heap.size w W) => operands_any RE W (hR.below b))
  have KT := Lib.hid (fun W (b : Below w.heap.size w W) => operandText_any (h.later b) _ hi' (hP.later b) (hM.later b))
  have KV := Lib.hid (fun W (q : Below w.heap.size w W) => valueText_any b hb W (hP.later q))
  have on2 := tf.1
  unfold inC at *
  unfold Pg.arr at *
  unfold Pg.agg at *
  simp only [Int.toNat_natCast] at *
  clear h h3 h4 h5 h6 hi' hb RE tf hR hP hM X0 h1 h2
  generalize fstW p.names p.curs p.pool ⟨(k : Int), a, b⟩ = fw at *
  generalize fstB p.names p.curs p.pool ⟨(k : Int), a, b⟩ = fb at *
  generalize nmA k = nm at *
  generalize txA b = tb at *
  generalize onA k = on at *
  have wo : IntKind.i64.wrap (1 + (on : Int)) = ((1 + on : Nat) : Int) := by simp [IntKind.wrap, IntKind.bits, IntKind.signed]; omega
  have wo3 : (1 + on : Nat) ≤ 3 := by omega
  generalize hW0 : (w.alloc _).alloc _ = W0 at *
  go_enter Tryz.func21, Tryz.ntmps21
  go_wp2_with (first
    | (go_at_call 37; refine (KN.out _ X.out.bel).mono ?_; rintro e w1 ⟨rfl, b1⟩; have X1 := Lib.hid (X.out.later b1); clear b1 c0 c1 c2 c3 c4 c5 c6 c7 d0 d1 d2; obtain ⟨c0, c1, c2, c3, c4, c5, c6, c7, d0, d1, d2⟩ := X1.out.get; simp only at c0 c1 c2 c3 c4 c5 c6 c7 d0 d1 d2)
    | (go_at_call 38; refine (KO.out _ X1.out.bel).mono ?_; rintro e w2 ⟨rfl, b1⟩; have X2 := Lib.hid (X1.out.later b1); clear b1 c0 c1 c2 c3 c4 c5 c6 c7 d0 d1 d2; obtain ⟨c0, c1, c2, c3, c4, c5, c6, c7, d0, d1, d2⟩ := X2.out.get; simp only at c0 c1 c2 c3 c4 c5 c6 c7 d0 d1 d2)
    | (go_at_call 39; refine (KT.out _ X2.out.bel).mono ?_; rintro e w3 ⟨rfl, b1⟩; have X3 := Lib.hid (X2.out.later b1); clear b1 c0 c1 c2 c3 c4 c5 c6 c7 d0 d1 d2; obtain ⟨c0, c1, c2, c3, c4, c5, c6, c7, d0, d1, d2⟩ := X3.out.get; simp only at c0 c1 c2 c3 c4 c5 c6 c7 d0 d1 d2)
    | (go_at_call 36; refine (KV.out _ X3.out.bel).mono ?_; rintro e w4 ⟨rfl, b1⟩; have X4 := Lib.hid (X3.out.later b1); clear b1))
  go_ret2
  refine ⟨_, rfl, ⟨by simp, ?_, ?_, ?_⟩, X4.out.bel.alloc X4.out.bel.size _⟩ <;> simp
theorem tx3_cells {W : World} {g : Nat} {a b c : ByteArray} (h : Tx3 W g a b c) (n : Nat) : ∀ (j : Nat) x, ([a, b, c].take n)[j]? = some x → W.cell? ⟨g, 0 + j, none⟩ = some (.string x) := by
  intro j x hj
  have hj' : [a, b, c][j]? = some x := by
    rw [List.getElem?_take] at hj
    split at hj
    · exact hj
    · cases hj
  rw [Nat.zero_add]
  match j, hj' with
  | 0, hj => simp at hj; subst hj; exact h.2.1
  | 1, hj => simp at hj; subst hj; exact h.2.2.1
  | 2, hj => simp at hj; subst hj; exact h.2.2.2
theorem join_size (a b c : ByteArray) (n : Nat) (hn : 1 ≤ n ∧ n ≤ 3) (h : a.size + b.size + c.size ≤ 140737488355000) : (Lib.join (([a, b, c].take n).map (·.data.toList)) [32]).length ≤ 140737488355328 := by
  have la : a.data.toList.length = a.size := Array.length_toList
  have lb : b.data.toList.length = b.size := Array.length_toList
  have lc : c.data.toList.length = c.size := Array.length_toList
  match n, hn with
  | 1, _ => simp [Lib.join_cons, Lib.joinTail]; omega
  | 2, _ => simp [Lib.join_cons, Lib.joinTail]; omega
  | 3, _ => simp [Lib.join_cons, Lib.joinTail]; omega
theorem fst_size {w : World} {p : Pg} (h : PV w p) (i : In) (hi : i.okP) : (fstW p.names p.curs p.pool i).size ≤ 140737488351232 := by
  obtain ⟨h1, h2, h3, h4, h5, h6⟩ := hi
  have hx : i.a ≤ 262143 := by have := (tab_facts i.o.toNat (by omega)).2.1; omega
  have gs : ∀ (l : List ByteArray) (k : Nat), (∀ s ∈ l, s.size ≤ 140737488351232) → (l.getD k ⟨#[]⟩).size ≤ 140737488351232 := fun l k hl => by
    by_cases hk : k < l.length
    · exact hl _ (by simp [List.getD, hk])
    · rw [show l.getD k ⟨#[]⟩ = ⟨#[]⟩ by simp [List.getD, List.getElem?_eq_none (show l.length ≤ k by omega)]]; decide
  unfold fstW
  split
  · have := txA_len (pool_i64 h i.a.toNat); omega
  split
  · exact gs _ _ h.names.2.2.2.1
  split
  · exact gs _ _ h.curs.2.2.2.1
  split
  · rename_i e
    rw [e] at h4
    have : baA (18 : Int).toNat = 4 := rfl
    have := md_some i.a.toNat (by omega)
    omega
  · obtain ⟨x, hx'⟩ : ∃ x : Nat, i.a = x := ⟨i.a.toNat, by omega⟩
    rw [hx']
    have := txA_len (i64_nat (k := x) (by omega)); omega
end Go.Proofs.YtlcidigcecmnpaaGreatDoor

namespace Go.Proofs.YtlcidigcecmnpaaGreatDoor
open Go.RowKit
set_option linter.unusedVariables false
set_option linter.unusedSimpArgs false

theorem baCat (a b : List UInt8) : (⟨a.toArray⟩ : ByteArray) ++ ⟨b.toArray⟩ = ⟨(a ++ b).toArray⟩ := by
  apply ByteArray.ext
  rw [ByteArray.data_append]
  simp
theorem catT (a b : List UInt8) (h : a.length + b.length ≤ 1000) (W : World) : (Op.stringOp .add ⟨a.toArray⟩ ⟨b.toArray⟩).run Tryz.prog W = .ok (.string ⟨(a ++ b).toArray⟩) W := by
  rw [← baCat]
  have h1 : ((⟨a.toArray⟩ : ByteArray).size : Int) ≤ 8388608 := by simp [ByteArray.size]; omega
  have h2 : ((⟨b.toArray⟩ : ByteArray).size : Int) ≤ 8388608 := by simp [ByteArray.size]; omega
  exact run_string_add W _ _ h1 h2
theorem conv1 (wr : World) (dig : Int) (h : 0 ≤ dig ∧ dig ≤ 9) : (convert 40 9 (.slice (some ⟨wr.heap.size, 0, none⟩) 1 1)).run Tryz.prog (wr.alloc (.cells #[.int .u8 (48 + dig)] 5)) = .ok (.string ⟨[UInt8.ofNat (48 + dig.toNat)].toArray⟩) (wr.alloc (.cells #[.int .u8 (48 + dig)] 5)) := by
  refine run_convert_bytes_back (P := Tryz.prog) _ 40 9 5 ⟨wr.heap.size, 0, none⟩ 1 [UInt8.ofNat (48 + dig.toNat)] (by kernel_rfl) (by kernel_rfl) (by kernel_rfl) (fun j hj => ?_)
  have : j = 0 := by simpa using hj
  subst this
  rw [Lib.add_plain, World.cell?_alloc_new]
  obtain ⟨n, rfl⟩ : ∃ n : Nat, dig = n := ⟨dig.toNat, by omega⟩
  have hn : n ≤ 9 := by omega
  simp
  omega
theorem ret_st {a b : List UInt8} (h : a = b) : Ending.returned (.string ⟨a.toArray⟩) = .returned (.string ⟨b.toArray⟩) := by rw [h]
/-- The digits of a number above 0; none of 0. -/
def dd (x : Nat) : List UInt8 := if x = 0 then [] else Lib.decDigits x
theorem dd_step {x : Nat} (h : 0 < x) : dd x = dd (x / 10) ++ [UInt8.ofNat (48 + x % 10)] := by
  unfold dd
  rw [if_neg (by omega)]
  by_cases h10 : x < 10
  · rw [if_pos (by omega), Lib.decDigits_one h10, Nat.mod_eq_of_lt h10]; rfl
  · rw [if_neg (by omega), Lib.decDigits, dif_neg h10]

set_option maxRecDepth 100000 in
set_option maxHeartbeats 2000000 in
theorem digits_pos (u : Nat) (hu : 0 < u) (hm : u ≤ 9223372036854775807) (w : World) :
    Calls Tryz.prog 29 #[.int .i64 ((u : Int))] w fun e w' => e = .returned (.string ⟨(Lib.itoa ((u : Int))).toArray⟩) ∧ Below w.heap.size w w' := by
  have IT := Lib.hid (p := Lib.itoa ((u : Int)) = dd u) (by rw [Lib.itoa_nonneg]; unfold dd; rw [if_neg (by omega)])
  have u0 : ¬ ((u : Int)) = 0 := by omega
  have u1 : (((u : Int)) == 0) = false := by simp; omega
  have LEN := Lib.hid (p := (dd u).length ≤ 21) (by
    have := Lib.itoa_length_le ((u : Int)) (by omega) (by omega)
    rw [Lib.itoa_nonneg] at this
    unfold dd; rw [if_neg (by omega)]; exact this)
  go_enter Tryz.func29, Tryz.ntmps29
  go_wp2
  go_loopw [3, 4] (fun a b wr => ∃ (x : Nat) (t : List UInt8), x ≤ u ∧ a = .string ⟨t.toArray⟩ ∧ b = .int .i64 ((x : Int)) ∧ RowKit.Hid (dd x ++ t = dd u) ∧ Below w.heap.size w wr) (fun _ b _ => (intOf b).natAbs)
  case atStart => exact ⟨u, [], Nat.le_refl _, rfl, rfl, List.append_nil _, Below.refl _ _⟩
  case round =>
    obtain ⟨x, t, hx, rfl, rfl, hD, hB⟩ := hrel
    have BB := Lib.hid hB
    clear hB
    by_cases h0 : x = 0
    · subst h0
      have TT := Lib.hid (p := t = dd u) (by have := hD.out; simpa [dd] using this)
      have un : ¬ (u : Int) < 0 := by omega
      go_wp2
      go_ret
      exact ⟨ret_st (by rw [IT.out, TT.out]), BB.out⟩
    · have m0 : ¬ ((x : Int)) = 0 := by omega
      have m1 : (((x : Int)) == 0) = false := by simp; omega
      obtain ⟨r, hr⟩ : ∃ r : Nat, x % 10 = r := ⟨_, rfl⟩
      obtain ⟨q, hq⟩ : ∃ q : Nat, x / 10 = q := ⟨_, rfl⟩
      have r1 : Int.tmod ((x : Int)) 10 = (r : Int) := by rw [Int.tmod_eq_emod_of_nonneg (by omega)]; omega
      have q1 : Int.tdiv ((x : Int)) 10 = (q : Int) := by rw [Int.tdiv_eq_ediv_of_nonneg (by omega)]; omega
      have r9 : r ≤ 9 := by omega
      have X10 := Lib.hid (show q < x by omega)
      have ST := Lib.hid (p := dd q ++ (UInt8.ofNat (48 + r) :: t) = dd u) (by have := hD.out; rw [dd_step (by omega), hr, hq] at this; simpa using this)
      have TL := Lib.hid (p := t.length ≤ 21) (by have := congrArg List.length hD.out; have := LEN.out; simp at *; omega)
      have tl := TL.out
      have cv := conv1 wr (r : Int) (by omega)
      rw [show ((r : Int)).toNat = r by omega] at cv
      have cat := catT [UInt8.ofNat (48 + r)] t (by simp; omega)
      have w1 : IntKind.i64.wrap (48 + (r : Int)) = 48 + (r : Int) := by rw [IntKind.wrap_i64]; omega
      have w2 : IntKind.u8.wrap (48 + (r : Int)) = 48 + (r : Int) := by simp [IntKind.wrap, IntKind.bits, IntKind.signed]; omega
      have w3 : IntKind.i64.wrap ((q : Int)) = (q : Int) := by rw [IntKind.wrap_i64]; omega
      have w4 : IntKind.i64.wrap ((r : Int)) = (r : Int) := by rw [IntKind.wrap_i64]; omega
      have w5 : IntKind.i64.wrap (r : Int) = (r : Int) := by rw [IntKind.wrap_i64]; omega
      have rd : ¬ (r : Int) < 0 := by omega
      obtain ⟨bb, hbb⟩ : ∃ bb, UInt8.ofNat (48 + r) = bb := ⟨_, rfl⟩
      rw [hbb] at cv cat
      have ST2 := Lib.hid (p := dd q ++ (bb :: t) = dd u) (by rw [← hbb]; exact ST.out)
      clear hr hq hbb tl
      go_wp2
      go_roundw
      case rel => exact ⟨q, bb :: t, by have := X10.out; omega, by first | rfl | simp, rfl, ST2.out, BB.out.alloc BB.out.size _⟩
      case measure => have := X10.out; simp [intOf]; omega
set_option maxRecDepth 100000 in
set_option maxHeartbeats 2000000 in
theorem digits_neg (u : Nat) (hu : 0 < u) (hm : u ≤ 9223372036854775808) (w : World) :
    Calls Tryz.prog 29 #[.int .i64 (-(u : Int))] w fun e w' => e = .returned (.string ⟨(Lib.itoa (-(u : Int))).toArray⟩) ∧ Below w.heap.size w w' := by
  have IT := Lib.hid (p := Lib.itoa (-(u : Int)) = 45 :: dd u) (by rw [Lib.itoa_neg u hu]; unfold dd; rw [if_neg (by omega)])
  have u0 : ¬ (-(u : Int)) = 0 := by omega
  have u1 : ((-(u : Int)) == 0) = false := by simp; omega
  have LEN := Lib.hid (p := (dd u).length ≤ 21) (by
    have := Lib.itoa_length_le (-(u : Int)) (by omega) (by omega)
    rw [Lib.itoa_neg u hu] at this
    unfold dd; rw [if_neg (by omega)]; simp at this; omega)
  go_enter Tryz.func29, Tryz.ntmps29
  go_wp2
  go_loopw [3, 4] (fun a b wr => ∃ (x : Nat) (t : List UInt8), x ≤ u ∧ a = .string ⟨t.toArray⟩ ∧ b = .int .i64 (-(x : Int)) ∧ RowKit.Hid (dd x ++ t = dd u) ∧ Below w.heap.size w wr) (fun _ b _ => (intOf b).natAbs)
  case atStart => exact ⟨u, [], Nat.le_refl _, rfl, rfl, List.append_nil _, Below.refl _ _⟩
  case round =>
    obtain ⟨x, t, hx, rfl, rfl, hD, hB⟩ := hrel
    have BB := Lib.hid hB
    clear hB
    by_cases h0 : x = 0
    · subst h0
      have TT := Lib.hid (p := t = dd u) (by have := hD.out; simpa [dd] using this)
      have un : -(u : Int) < 0 := by omega
      have tl : t.length ≤ 21 := by rw [TT.out]; exact LEN.out
      have cat := catT [45] t (by simp; omega)
      go_wp2
      go_ret
      exact ⟨by rw [IT.out, TT.out]; rfl, BB.out⟩
    · have m0 : ¬ (-(x : Int)) = 0 := by omega
      have m1 : ((-(x : Int)) == 0) = false := by simp; omega
      obtain ⟨r, hr⟩ : ∃ r : Nat, x % 10 = r := ⟨_, rfl⟩
      obtain ⟨q, hq⟩ : ∃ q : Nat, x / 10 = q := ⟨_, rfl⟩
      have r1 : Int.tmod (-(x : Int)) 10 = -(r : Int) := by rw [Int.neg_tmod, Int.tmod_eq_emod_of_nonneg (by omega)]; omega
      have q1 : Int.tdiv (-(x : Int)) 10 = -(q : Int) := by rw [Int.neg_tdiv, Int.tdiv_eq_ediv_of_nonneg (by omega)]; omega
      have r9 : r ≤ 9 := by omega
      have X10 := Lib.hid (show q < x by omega)
      have ST := Lib.hid (p := dd q ++ (UInt8.ofNat (48 + r) :: t) = dd u) (by have := hD.out; rw [dd_step (by omega), hr, hq] at this; simpa using this)
      have TL := Lib.hid (p := t.length ≤ 21) (by have := congrArg List.length hD.out; have := LEN.out; simp at *; omega)
      have tl := TL.out
      have cv := conv1 wr (r : Int) (by omega)
      rw [show ((r : Int)).toNat = r by omega] at cv
      have cat := catT [UInt8.ofNat (48 + r)] t (by simp; omega)
      have w1 : IntKind.i64.wrap (48 + (r : Int)) = 48 + (r : Int) := by rw [IntKind.wrap_i64]; omega
      have w2 : IntKind.u8.wrap (48 + (r : Int)) = 48 + (r : Int) := by simp [IntKind.wrap, IntKind.bits, IntKind.signed]; omega
      have w3 : IntKind.i64.wrap (-(q : Int)) = -(q : Int) := by rw [IntKind.wrap_i64]; omega
      have w4 : IntKind.i64.wrap (-(r : Int)) = -(r : Int) := by rw [IntKind.wrap_i64]; omega
      have w5 : IntKind.i64.wrap (r : Int) = (r : Int) := by rw [IntKind.wrap_i64]; omega
      have rd : ¬ (r : Int) < 0 := by omega
      obtain ⟨bb, hbb⟩ : ∃ bb, UInt8.ofNat (48 + r) = bb := ⟨_, rfl⟩
      rw [hbb] at cv cat
      have ST2 := Lib.hid (p := dd q ++ (bb :: t) = dd u) (by rw [← hbb]; exact ST.out)
      clear hr hq hbb tl
      by_cases rz : r = 0
      · subst rz
        have r2 : Int.tmod (-(x : Int)) 10 = 0 := by rw [r1]; rfl
        simp only [Int.natCast_zero, Int.add_zero] at cv
        clear r1 w1 w2 w4 w5 rd
        go_wp2
        go_roundw
        case rel => exact ⟨q, bb :: t, by have := X10.out; omega, by first | rfl | simp, rfl, ST2.out, BB.out.alloc BB.out.size _⟩
        case measure => have := X10.out; simp [intOf]; omega
      · have rn : -(r : Int) < 0 := by omega
        have w6 : IntKind.i64.wrap (- -(r : Int)) = (r : Int) := by rw [IntKind.wrap_i64]; omega
        go_wp2
        go_roundw
        case rel => exact ⟨q, bb :: t, by have := X10.out; omega, by first | rfl | simp, rfl, ST2.out, BB.out.alloc BB.out.size _⟩
        case measure => have := X10.out; simp [intOf]; omega
theorem digits13_zero (w : World) : Calls Tryz.prog 29 #[.int .i64 0] w fun e w' => e = .returned (.string (txA 0)) ∧ Below w.heap.size w w' := by
  have e0 : txA 0 = ⟨#[48]⟩ := by unfold txA; rw [show (0 : Int) = ((0 : Nat) : Int) from rfl, Lib.itoa_nonneg, Lib.decDigits_one (by omega)]; rfl
  rw [e0]
  clear e0
  go_enter Tryz.func29, Tryz.ntmps29
  go_wp2
  go_ret
  exact ⟨rfl, Below.refl _ _⟩
theorem digits13_any (v : Int) (hv : i64 v) (w : World) : Calls Tryz.prog 29 #[.int .i64 v] w fun e w' => e = .returned (.string (txA v)) ∧ Below w.heap.size w w' := by
  have b := i64_bd hv
  rcases (show v = 0 ∨ 0 < v ∨ v < 0 by omega) with h | h | h
  · subst h; exact digits13_zero w
  · obtain ⟨u, rfl⟩ : ∃ u : Nat, v = u := ⟨v.toNat, by omega⟩
    exact digits_pos u (by omega) (by omega) w
  · obtain ⟨u, rfl⟩ : ∃ u : Nat, v = -(u : Int) := ⟨(-v).toNat, by omega⟩
    exact digits_neg u (by omega) (by omega) w
end Go.Proofs.YtlcidigcecmnpaaGreatDoor

namespace Go.Proofs.YtlcidigcecmnpaaGreatDoor
open Go.RowKit
set_option linter.unusedVariables false
set_option linter.unusedSimpArgs false
theorem info8a : (Tryz.prog.info? 5).map (fun i => (i.zero, i.size, i.bytes)) = some (some (.int .u8 0), 1, 1) := by kernel_rfl
theorem conv_bytes13 {w : World} {B : Nat} {v : Value} {bs : List UInt8} (h : w.ownsRow B 5 1 v bs.length (Lib.byteCells bs)) (h0 : bs ≠ []) : ∃ g cap, v = .slice (some ⟨g, 0, none⟩) bs.length cap ∧ (convert 40 9 v).run Tryz.prog w = .ok (.string ⟨bs.toArray⟩) w := by
  have hh := h
  obtain ⟨h1, h2⟩ := h
  rcases h2 with ⟨h3, h2⟩ | ⟨g, cap, cur, rfl, hB, hg, hn, hm, hs, ht⟩
  · exact absurd (List.length_eq_zero_iff.1 h2) h0
  · refine ⟨g, cap, rfl, run_convert_bytes_back (P := Tryz.prog) w 40 9 5 ⟨g, 0, none⟩ cap bs (by kernel_rfl) (by kernel_rfl) (by kernel_rfl) (fun j hj => ?_)⟩
    rw [Lib.add_plain, Nat.zero_add, hh.cellAt j (by omega)]
    simp [Lib.byteCells, hj]
/-- The first words, joined. -/
def jP (xs : List ByteArray) (k : Nat) : List UInt8 := Lib.join ((xs.take k).map (·.data.toList)) [32]
theorem join_snoc (l : List (List UInt8)) (x sep : List UInt8) (h : l ≠ []) : Lib.join (l ++ [x]) sep = Lib.join l sep ++ sep ++ x := by
  cases l with
  | nil => exact absurd rfl h
  | cons y r => rw [List.cons_append, Lib.join_cons, Lib.join_cons]; simp [Lib.joinTail]
theorem jP_step {xs : List ByteArray} {k : Nat} (hk : k < xs.length) : jP xs (k + 1) = (if k = 0 then [] else jP xs k ++ [32]) ++ (xs.getD k ⟨#[]⟩).data.toList := by
  unfold jP
  have e : xs[k]? = some (xs.getD k ⟨#[]⟩) := by simp [List.getD, hk]
  rw [List.take_add_one, e]
  by_cases h : k = 0
  · subst h; simp [Lib.join_one]
  · rw [if_neg h, List.map_append]
    rw [show ((some (xs.getD k ⟨#[]⟩)).toList.map (·.data.toList)) = [(xs.getD k ⟨#[]⟩).data.toList] from rfl, join_snoc _ _ _ (by simp; exact ⟨h, fun q => by subst q; simp at hk⟩)]
theorem jP_mono (xs : List ByteArray) : ∀ (d k : Nat), k + d ≤ xs.length → (jP xs k).length ≤ (jP xs (k + d)).length
  | 0, k, _ => Nat.le_refl _
  | d + 1, k, h => by
    refine Nat.le_trans (jP_mono xs d k (by omega)) ?_
    rw [show k + (d + 1) = (k + d) + 1 by omega, jP_step (by omega)]
    by_cases q : k + d = 0
    · rw [q]; simp [jP, Lib.join_nil]
    · rw [if_neg q]; simp
theorem strCells_bytes (s : ByteArray) : Lib.strCells s = Lib.byteCells s.data.toList := by
  unfold Lib.strCells Lib.byteCells
  first | rfl | simp
set_option maxRecDepth 100000 in
set_option maxHeartbeats 4000000 in
theorem joined_any (w : World) (g n c : Nat) (xs : List ByteArray) (hl : xs.length = n) (hn : n ≤ 1000000) (hc : ∀ j x, xs[j]? = some x → w.cell? ⟨g, j, none⟩ = some (.string x)) (hg : g < w.heap.size) (hz : (jP xs n).length ≤ 140737488355328) (h0 : jP xs n ≠ []) :
    Calls Tryz.prog 13 #[.slice (some ⟨g, 0, none⟩) n c] w fun e w' => e = .returned (.string ⟨(jP xs n).toArray⟩) ∧ Below w.heap.size w w' := by
  obtain ⟨i0, hi, hz0, hz1, hz2⟩ := info_parts info8a
  have HZ := Lib.hid (p := ∀ k, k ≤ n → (jP xs k).length ≤ 140737488355328) (fun k hk => by
    have := jP_mono xs (n - k) k (by omega)
    rw [show k + (n - k) = n by omega] at this
    omega)
  have HC := Lib.hid (p := ∀ W, Below w.heap.size w W → ∀ k, k < n → W.cell? ⟨g, k, none⟩ = some (.string (xs.getD k ⟨#[]⟩))) (fun W b k hk => (b.cell (p := ⟨g, k, none⟩) hg).trans (hc k _ (by simp [List.getD, show k < xs.length by omega])))
  have H0 := Lib.hid h0
  have HL := Lib.hid hl
  clear hc hz h0 hl
  go_enter Tryz.func13, Tryz.ntmps13
  go_wp2
  go_loopw [3, 4] (fun t u wr => ∃ (k : Nat) (v : Value), k ≤ n ∧ v = t ∧ u = .int .i64 (k : Int) ∧ wr.ownsRow w.heap.size 5 1 v (jP xs k).length (Lib.byteCells (jP xs k)) ∧ Below w.heap.size w wr) (fun t u _ => n - (intOf u).toNat)
  case atStart => exact ⟨0, _, by omega, rfl, rfl, World.ownsRow_nil _ _ _ _, Below.refl _ _⟩
  case round =>
    rename World => wr
    obtain ⟨k, v, hk, rfl, rfl, hO, hB⟩ := hrel
    have O := Lib.hid hO
    have B := Lib.hid hB
    clear hO hB
    by_cases hlt : k < n
    · have kc : (k : Int) < (n : Int) := by omega
      have ST := Lib.hid (jP_step (xs := xs) (k := k) (by rw [HL.out]; exact hlt))
      have Z1 := HZ.out (k + 1) (by omega)
      rw [ST.out] at Z1
      have sz : (xs.getD k ⟨#[]⟩).data.toList.length = (xs.getD k ⟨#[]⟩).size := Array.length_toList
      by_cases hk0 : k = 0
      · subst hk0
        simp only [if_true, List.nil_append] at ST Z1
        have x0 := HC.out _ B.out 0 hlt
        generalize xs.getD 0 ⟨#[]⟩ = s at *
        have j0 : jP xs 0 = [] := by simp [jP, Lib.join_nil]
        have O' := O.out
        rw [j0] at O'
        have O1 := Lib.hid O'
        have Z2 := Lib.hid (p := 0 + s.size ≤ maxLen ∧ 0 + s.size ≤ 140737488355328) (by unfold maxLen; omega)
        clear O' Z1 sz j0
        go_wp2_with (at_builtin; refine Lib.wpList_append_own_string _ rfl _ _ 40 9 rfl w.heap.size 5 i0 Tryz.underlying40 Tryz.underlying9 hi hz0 hz1 hz2 _ 0 [] rfl O1.out s rfl Z2.out.1 Z2.out.2 B.out.size ?_; intro v1 w1 k1 k2 _; have O2 := Lib.hid k1; have B2 := Lib.hid (B.out.grown k2 B.out.size (fun k e => (O.out.lt k e).1)); clear k1 k2)
        go_roundw
        case rel =>
          refine ⟨1, _, by omega, rfl, rfl, ?_, B2.out⟩
          have := O2.out
          rw [strCells_bytes, List.nil_append] at this
          rw [show (1 : Nat) = 0 + 1 from rfl, ST.out]
          have e : s.data.toList.length = s.size := Array.length_toList
          rw [e, show s.size = 0 + s.size by omega]
          exact this
        case measure => simp [intOf]; omega
      · simp only [if_neg hk0] at ST Z1
        have kp : (0 : Int) < (k : Int) := by omega
        have x0 := HC.out _ B.out k hlt
        have XC := Lib.hid (fun W b => HC.out W b k hlt)
        generalize xs.getD k ⟨#[]⟩ = s at *
        have Z2 := Lib.hid (p := (jP xs k).length + 1 + s.size ≤ maxLen ∧ (jP xs k).length + 1 + s.size ≤ 140737488355328) (by unfold maxLen; simp at Z1; omega)
        clear Z1 sz
        have A0 : True := trivial
        go_wp2_with (first
          | (at_builtin; have qq := A0; refine wpList_append_own_at _ rfl _ _ 40 rfl w.heap.size 5 i0 _ 1 1 Tryz.underlying40 hi hz0 hz1 hz2 rfl (by decide) v (jP xs k).length (Lib.byteCells (jP xs k)) rfl (O.out.alloc _) ⟨wr.heap.size, 0, none⟩ 1 1 [.int .u8 32] rfl rfl (cell_one_new wr _ _) (by intro u hu; simp at hu; subst hu; rfl) (by have := Z2.out; omega) (by have := Z2.out; omega) (Nat.le_trans B.out.size (by simp)) ?_; intro v1 w1 k1 k2 k3 k4; have O1 := Lib.hid k1; have B1 := Lib.hid ((B.out.alloc B.out.size _).grown k2 (Nat.le_trans B.out.size (by simp)) (fun k e => (O.out.lt k e).1)); clear k1 k2 k3 k4 A0 x0; have x1 := XC.out _ B1.out)
          | (at_builtin; have qq := O1; refine Lib.wpList_append_own_string _ rfl _ _ 40 9 rfl w.heap.size 5 i0 Tryz.underlying40 Tryz.underlying9 hi hz0 hz1 hz2 _ _ _ rfl O1.out s rfl Z2.out.1 Z2.out.2 B1.out.size ?_; intro v2 w2 k1 k2 _; have O2 := Lib.hid k1; have B2 := Lib.hid (B1.out.grown k2 B1.out.size (fun k e => (O1.out.lt k e).1)); clear k1 k2))
        go_roundw
        case rel =>
          refine ⟨k + 1, _, by omega, rfl, by go_num, ?_, B2.out⟩
          have := O2.out
          rw [strCells_bytes] at this
          rw [ST.out]
          have e : s.data.toList.length = s.size := Array.length_toList
          have e2 : Lib.byteCells (jP xs k ++ [32] ++ s.data.toList) = Lib.byteCells (jP xs k) ++ [.int .u8 32] ++ Lib.byteCells s.data.toList := by simp [Lib.byteCells]
          rw [e2, List.length_append, List.length_append, e]
          exact this
        case measure => simp [intOf]; omega
    · obtain rfl : k = n := by omega
      obtain ⟨g', cap, rfl, CV⟩ := conv_bytes13 O.out H0.out
      clear O
      go_wp2
      go_ret
      exact ⟨rfl, B.out⟩
end Go.Proofs.YtlcidigcecmnpaaGreatDoor
