/-
  WALKS: readInstr.
-/
import Derived.Test.YtdbjdieegocdfaaDoorWCodeD
namespace Go.Proofs.YtdbjdieegocdfaaDoor
open Go.RowKit
set_option linter.unusedVariables false
set_option linter.unusedSimpArgs false

/-- An instruction, as it is read operand by operand. -/
structure DC (c : Nat) (cs : List Int) (x1 : Nat) (e1 : Int) (m1 : Nat) (x2 : Nat) (e2 : Int) (m2 : Nat) : Prop where
  a : uN cs (baA c) = (x1, e1, m1)
  b : uN (cs.drop m1) (bbA c) = (x2, e2, m2)
theorem DC.err1 {c : Nat} {cs : List Int} {x1 : Nat} {e1 : Int} {m1 x2 : Nat} {e2 : Int} {m2 : Nat} (h : DC c cs x1 e1 m1 x2 e2 m2) (hc : c < 29) (ho : 1 ≤ onA c) (he : e1 ≠ 0) : dec1 ((c : Int) :: cs) = (⟨0, 0, 0⟩, e1, 0, if e1 = 41 then 1 + cs.length else 1) := by
  rw [dec1, if_neg (by omega), Int.toNat_natCast, if_neg (by omega), h.a, if_pos he]
theorem DC.err2 {c : Nat} {cs : List Int} {x1 : Nat} {e1 : Int} {m1 x2 : Nat} {e2 : Int} {m2 : Nat} (h : DC c cs x1 e1 m1 x2 e2 m2) (hc : c < 29) (ho : 2 ≤ onA c) (h1 : e1 = 0) (he : e2 ≠ 0) : dec1 ((c : Int) :: cs) = (⟨0, 0, 0⟩, e2, 0, if e2 = 41 then 1 + cs.length else 1 + m1) := by
  rw [dec1, if_neg (by omega), Int.toNat_natCast, if_neg (by omega), h.a, if_neg (by simpa using h1), if_neg (by omega)]
  simp only
  rw [h.b, if_pos he]
def av (x j : Nat) : Nat := if 1 ≤ j then x else 0
def bv (x j : Nat) : Nat := if 2 ≤ j then x else 0
theorem DC.ok {c : Nat} {cs : List Int} {x1 : Nat} {e1 : Int} {m1 x2 : Nat} {e2 : Int} {m2 : Nat} (h : DC c cs x1 e1 m1 x2 e2 m2) (hc : c < 29) (h1 : 1 ≤ onA c → e1 = 0) (h2 : 2 ≤ onA c → e2 = 0) : dec1 ((c : Int) :: cs) = (⟨c, (av x1 (onA c) : Int), (bv x2 (onA c) : Int)⟩, 0, 1 + av m1 (onA c) + bv m2 (onA c), 0) := by
  have t := (tab_facts c hc).1
  rw [dec1, if_neg (by omega), Int.toNat_natCast]
  by_cases h0 : onA c = 0
  · rw [if_pos h0]; simp [av, bv, h0]
  · rw [if_neg h0, h.a, if_neg (by simpa using h1 (by omega))]
    by_cases q : onA c = 1
    · rw [if_pos q]; simp [av, bv, q]
    · rw [if_neg q]
      simp only
      rw [h.b, if_neg (by simpa using h2 (by omega))]
      simp [av, bv, show 1 ≤ onA c by omega, show 2 ≤ onA c by omega]
/-- What stands while the operands are read. -/
structure RL (w wr : World) (B p : Nat) (a : Option Addr) (n cap : Nat) (xs : List Int) (pos q q2 q3 : Nat) (ba bb x y : Int) : Prop where
  rs : RS w wr B p a n cap xs pos
  box : wr.heap[q]? = some (.cells #[.int .i64 0, .int .i64 0, .int .i64 0] 24)
  bnd : wr.heap[q2]? = some (.cells #[.int .i32 ba, .int .i32 bb] 73)
  ops : wr.heap[q3]? = some (.cells #[.int .i64 x, .int .i64 y] 54)
theorem set2a {w : World} {x : Nat} {a b a' : Value} {t : TypeId} (h : w.heap[x]? = some (.cells #[a, b] t)) : (w.setCell ⟨x, 0, none⟩ a').heap[x]? = some (.cells #[a', b] t) := Joins.block_setCell (i := 0) h a'
theorem set2b {w : World} {x : Nat} {a b b' : Value} {t : TypeId} (h : w.heap[x]? = some (.cells #[a, b] t)) : (w.setCell ⟨x, 1, none⟩ b').heap[x]? = some (.cells #[a, b'] t) := Joins.block_setCell (i := 1) h b'
theorem set_other {w : World} {x q o : Nat} {v : Value} {ob : Obj} (h : w.heap[q]? = some ob) (hne : x ≠ q) : (w.setCell ⟨x, o, none⟩ v).heap[q]? = some ob := by
  rw [← h]; simp [World.setCell, Array.getElem?_modify, hne]
theorem RL.turn {w wr w' : World} {B p : Nat} {a : Option Addr} {n cap : Nat} {xs : List Int} {pos pos' q q2 q3 : Nat} {ba bb x y : Int} (h : RL w wr B p a n cap xs pos q q2 q3 ba bb x y) (r : RB w' B p a n cap xs pos') (g : Gr p wr w') (hp : p < q) (h2 : q < q2) (h3 : q2 < q3) : RL w w' B p a n cap xs pos' q q2 q3 ba bb x y :=
  ⟨h.rs.turn r g, grown_block g h.box (by simp; omega), grown_block g h.bnd (by simp; omega), grown_block g h.ops (by simp; omega)⟩
theorem RL.later {w wr w' : World} {B p : Nat} {a : Option Addr} {n cap : Nat} {xs : List Int} {pos q q2 q3 : Nat} {ba bb x y : Int} (h : RL w wr B p a n cap xs pos q q2 q3 ba bb x y) (g : wr.grownBy w' none) : RL w w' B p a n cap xs pos q q2 q3 ba bb x y :=
  ⟨h.rs.later g, grown_block g h.box (by simp), grown_block g h.bnd (by simp), grown_block g h.ops (by simp)⟩
theorem RL.seta {w wr : World} {B p : Nat} {a : Option Addr} {n cap : Nat} {xs : List Int} {pos q q2 q3 : Nat} {ba bb x y : Int} (h : RL w wr B p a n cap xs pos q q2 q3 ba bb x y) (x' : Int) (hq : w.heap.size ≤ q3) (hp : p < w.heap.size) (ho : ∀ g, Value.ownBlock (.slice a n cap) = some g → g < w.heap.size) (h2 : q < q2) (h3 : q2 < q3) : RL w (wr.setCell ⟨q3, 0, none⟩ (.int .i64 x')) B p a n cap xs pos q q2 q3 ba bb x' y :=
  ⟨h.rs.set hq hp ho 0 _, set_other h.box (by omega), set_other h.bnd (by omega), set2a h.ops⟩
theorem RL.setb {w wr : World} {B p : Nat} {a : Option Addr} {n cap : Nat} {xs : List Int} {pos q q2 q3 : Nat} {ba bb x y : Int} (h : RL w wr B p a n cap xs pos q q2 q3 ba bb x y) (y' : Int) (hq : w.heap.size ≤ q3) (hp : p < w.heap.size) (ho : ∀ g, Value.ownBlock (.slice a n cap) = some g → g < w.heap.size) (h2 : q < q2) (h3 : q2 < q3) : RL w (wr.setCell ⟨q3, 1, none⟩ (.int .i64 y')) B p a n cap xs pos q q2 q3 ba bb x y' :=
  ⟨h.rs.set hq hp ho 1 _, set_other h.box (by omega), set_other h.bnd (by omega), set2b h.ops⟩
theorem RL.cast {w wr : World} {B p : Nat} {a : Option Addr} {n cap : Nat} {xs : List Int} {pos pos' q q2 q3 : Nat} {ba bb x y x' y' : Int} (h : RL w wr B p a n cap xs pos q q2 q3 ba bb x y) (hp : pos = pos') (hx : x = x') (hy : y = y') : RL w wr B p a n cap xs pos' q q2 q3 ba bb x' y' := by subst hp hx hy; exact h
theorem uN_small {bs : List Int} {lim x m : Nat} {e : Int} (hb : ∀ c ∈ bs, 0 ≤ c ∧ c ≤ 255) (h : uN bs lim = (x, e, m)) : x ≤ lim := by
  by_cases he : e = 0
  · have := uN_ok (bs := bs) (lim := lim) hb (by rw [h]; exact he)
    rw [h] at this; exact this.1
  · have := uN_err (bs := bs) (lim := lim) (by rw [h]; exact he)
    rw [h] at this; simp at this; omega
theorem row_in' {k : Nat} (hk : k < 29) : RowE k (nmA k) (onA k) (tkA k) (ptA k) (baA k) (bbA k) 0 := ⟨.inl ⟨k, hk, rfl, rfl, rfl, rfl, rfl, rfl, rfl, rfl⟩⟩
set_option maxRecDepth 100000 in
set_option maxHeartbeats 2000000 in
theorem readInstr_op (B p : Nat) (a : Option Addr) (n cap : Nat) (xs : List Int) (k : Nat) (w : World) (h : RB w B p a n cap xs k) (hk : k < n) (c : Nat) (hc : xs.getD k 0 = (c : Int)) (h29 : c < 29) (hR : Rws w) (hG : 0 < p) :
    Calls Tryd.prog 28 #[.pointer (some ⟨p, 0, none⟩)] w fun e w' => RdE w B p a n cap xs k e w' := by
  have hd : xs.drop k = (c : Int) :: xs.drop (k + 1) := by rw [← hc]; exact drop_cons (by have := h.len; omega)
  have hcsl : (xs.drop (k + 1)).length = n - (k + 1) := by rw [List.length_drop, h.len]
  have hcsb : ∀ d ∈ xs.drop (k + 1), 0 ≤ d ∧ d ≤ 255 := fun d hd => h.byte d (List.mem_of_mem_drop hd)
  obtain ⟨x1, e1, m1, ha⟩ : ∃ x e m, uN (xs.drop (k + 1)) (baA c) = (x, e, m) := ⟨_, _, _, rfl⟩
  obtain ⟨x2, e2, m2, hb⟩ : ∃ x e m, uN ((xs.drop (k + 1)).drop m1) (bbA c) = (x, e, m) := ⟨_, _, _, rfl⟩
  have DD : DC c (xs.drop (k + 1)) x1 e1 m1 x2 e2 m2 := ⟨ha, hb⟩
  obtain ⟨t1, t2, t3, _⟩ := tab_facts c h29
  have xs1 := uN_small hcsb ha
  have xs2 := uN_small (fun d hd => hcsb d (List.mem_of_mem_drop hd)) hb
  have D1 := Lib.hid (fun (ho : 1 ≤ onA c) (he : e1 ≠ 0) => (show dec1 (xs.drop k) = (⟨0, 0, 0⟩, e1, 0, if e1 = 41 then 1 + (xs.drop (k + 1)).length else 1) by rw [hd]; exact DD.err1 h29 ho he))
  have D2 := Lib.hid (fun (ho : 2 ≤ onA c) (h1 : e1 = 0) (he : e2 ≠ 0) => (show dec1 (xs.drop k) = (⟨0, 0, 0⟩, e2, 0, if e2 = 41 then 1 + (xs.drop (k + 1)).length else 1 + m1) by rw [hd]; exact DD.err2 h29 ho h1 he))
  have D3 := Lib.hid (fun (h1 : 1 ≤ onA c → e1 = 0) (h2 : 2 ≤ onA c → e2 = 0) => (show dec1 (xs.drop k) = (⟨c, (av x1 (onA c) : Int), (bv x2 (onA c) : Int)⟩, 0, 1 + av m1 (onA c) + bv m2 (onA c), 0) by rw [hd]; exact DD.ok h29 h1 h2))
  have plt := h.lt
  have OL := Lib.hid h.lt2
  have S0 := Lib.hid (p := RS w (w.alloc z3) B p a n cap xs k) ⟨h.later (below_gr ((Below.refl _ _).alloc (Nat.le_refl _) _) none), below_gr ((Below.refl _ _).alloc (Nat.le_refl _) _) _⟩
  have X0 := Lib.hid (heap_new w z3)
  have KP := Lib.hid (place_any B p a n cap xs k (w.alloc z3) S0.out.rd)
  have KT := Lib.hid (fun W (q : RB W B p a n cap xs k) => take_ok B p a n cap xs k 1 W q (by omega))
  have TK := Lib.hid (p := (xs.drop k).take 1 = [(c : Int)]) (by rw [hd]; rfl)
  rw [TK.out] at KT
  have KR := Lib.hid (fun W (q : Rws W) => rowOf_any (row_in' h29) W q)
  have cw : IntKind.i64.wrap (c : Int) = (c : Int) := wrap_id (by omega)
  have RR := Lib.hid hR
  have KU1 := Lib.hid (p := ∀ W, RB W B p a n cap xs (k + 1) → Calls Tryd.prog 35 #[.pointer (some ⟨p, 0, none⟩), .int .u64 ((baA c : Nat) : Int)] W fun e w' => e = .returned (.tuple #[.int .u64 (x1 : Int), .int .i64 e1]) ∧ RB w' B p a n cap xs (k + 1 + m1) ∧ Gr p W w') (fun W q => by
    have := uint_any B p a n cap xs (k + 1) (baA c) W q
    rw [uR_uN, ha] at this
    exact this)
  have KU2 := Lib.hid (p := ∀ W, RB W B p a n cap xs (k + 1 + m1) → Calls Tryd.prog 35 #[.pointer (some ⟨p, 0, none⟩), .int .u64 ((bbA c : Nat) : Int)] W fun e w' => e = .returned (.tuple #[.int .u64 (x2 : Int), .int .i64 e2]) ∧ RB w' B p a n cap xs (k + 1 + m1 + m2) ∧ Gr p W w') (fun W q => by
    have := uint_any B p a n cap xs (k + 1 + m1) (bbA c) W q
    rw [List.drop_drop] at hb
    rw [uR_uN, hb] at this
    exact this)
  have E1 := Lib.hid (p := e1 ≠ 0 → m1 = 0) (fun he => by
    have := uN_err (bs := xs.drop (k + 1)) (lim := baA c) (by rw [ha]; exact he)
    rw [ha] at this; exact this.2)
  have E2 := Lib.hid (p := e2 ≠ 0 → m2 = 0) (fun he => by
    have := uN_err (bs := (xs.drop (k + 1)).drop m1) (lim := bbA c) (by rw [hb]; exact he)
    rw [hb] at this; exact this.2)
  have KQ := Lib.hid (fun er pos W (q : RB W B p a n cap xs pos) => placeOf_any er B p a n cap xs pos W q)
  have wba : IntKind.u64.wrap ((baA c : Nat) : Int) = ((baA c : Nat) : Int) := by simp [IntKind.wrap, IntKind.bits, IntKind.signed]; omega
  have wbb : IntKind.u64.wrap ((bbA c : Nat) : Int) = ((bbA c : Nat) : Int) := by simp [IntKind.wrap, IntKind.bits, IntKind.signed]; omega
  have won : IntKind.i64.wrap ((onA c : Nat) : Int) = ((onA c : Nat) : Int) := wrap_id (by omega)
  have wx1 : IntKind.i64.wrap (x1 : Int) = (x1 : Int) := wrap_id (by omega)
  have wx2 : IntKind.i64.wrap (x2 : Int) = (x2 : Int) := wrap_id (by omega)
  have CB := Lib.hid (show 0 ≤ (c : Int) ∧ (c : Int) ≤ 255 by omega)
  have NK := Lib.hid (show (xs.drop (k + 1)).length = n - (k + 1) from hcsl)
  clear h hd hR hc TK hcsl hcsb ha hb DD t2 t3 xs1 xs2
  unfold z3 at *
  generalize nmA c = nm at *
  generalize ((baA c : Nat) : Int) = ba at *
  generalize ((bbA c : Nat) : Int) = bb at *
  generalize ((tkA c : Nat) : Int) = tk at *
  generalize ((ptA c : Nat) : Int) = pt at *
  generalize onA c = on at *
  go_enter Tryd.func28, Tryd.ntmps28
  go_wp2_with (first
    | (go_at_call 30; refine KP.out.mono ?_; rintro e w1 ⟨rfl, h1⟩; have S1 := Lib.hid (S0.out.later h1); have X1 := Lib.hid (grown_block h1 X0.out (by simp)); clear h1)
    | (go_at_call 34; refine (KT.out _ S1.out.rd).mono ?_; rintro e w2 ⟨v2, rfl, h1, h2, h3⟩; have S2 := Lib.hid (S1.out.turn h2 h3); have X2 := Lib.hid (RS.box h3 X1.out (Nat.le_refl _) plt); obtain ⟨sb, so, sc, hv2, hc2⟩ := sl_one h1 CB.out; subst hv2; clear h1 h2 h3)
    | (go_at_call 22; refine (KR.out _ (RR.out.gr S2.out.gr hG)).mono ?_; rintro e w3 ⟨rfl, h1⟩; have S3 := Lib.hid (S2.out.below h1); have X3 := Lib.hid (box_stay X2.out h1); clear h1))
  have HQ : w.heap.size < w3.heap.size := (Array.getElem?_eq_some_iff.1 X3.out).1
  obtain ⟨w4, hw4⟩ : ∃ w4, ((w3.alloc (.cells #[.string nm, .int .u8 (on : Int), .int .u8 tk, .int .u8 pt, .int .i32 ba, .int .i32 bb] 50)).alloc (.cells #[.int .i32 ba, .int .i32 bb] 73)).alloc (.cells #[.int .i64 0, .int .i64 0] 54) = w4 := ⟨_, rfl⟩
  have L0 := Lib.hid (p := RL w w4 B p a n cap xs (k + 1) w.heap.size (w3.heap.size + 1) (w3.heap.size + 1 + 1) ba bb 0 0) (by
    rw [← hw4]
    have b3 : Below w3.heap.size w3 (((w3.alloc (.cells #[.string nm, .int .u8 (on : Int), .int .u8 tk, .int .u8 pt, .int .i32 ba, .int .i32 bb] 50)).alloc (.cells #[.int .i32 ba, .int .i32 bb] 73)).alloc (.cells #[.int .i64 0, .int .i64 0] 54)) := (((Below.refl _ _).alloc (Nat.le_refl _) _).alloc (by simp) _).alloc (by simp; omega) _
    refine ⟨S3.out.below b3, box_stay X3.out b3, ?_, ?_⟩
    · refine (Below.heap_alloc _ _ _ (by simp)).trans ?_
      have := heap_new (w3.alloc (.cells #[.string nm, .int .u8 (on : Int), .int .u8 tk, .int .u8 pt, .int .i32 ba, .int .i32 bb] 50)) (.cells #[.int .i32 ba, .int .i32 bb] 73)
      simpa using this
    · have := heap_new ((w3.alloc (.cells #[.string nm, .int .u8 (on : Int), .int .u8 tk, .int .u8 pt, .int .i32 ba, .int .i32 bb] 50)).alloc (.cells #[.int .i32 ba, .int .i32 bb] 73)) (.cells #[.int .i64 0, .int .i64 0] 54)
      simpa using this)
  rw [hw4]
  clear hw4
  obtain ⟨q2, hq2⟩ : ∃ q2, w3.heap.size + 1 = q2 := ⟨_, rfl⟩
  rw [hq2] at L0 ⊢
  have HQ2 : w.heap.size < q2 := by omega
  clear hq2 HQ
  go_loopw [50] (fun t wr => ∃ j : Nat, j ≤ on ∧ t = .int .i64 (j : Int) ∧ RowKit.Hid (1 ≤ j → e1 = 0) ∧ RowKit.Hid (2 ≤ j → e2 = 0) ∧ RL w wr B p a n cap xs (k + 1 + av m1 j + bv m2 j) w.heap.size q2 (q2 + 1) ba bb (av x1 j : Int) (bv x2 j : Int)) (fun t _ => on - (intOf t).toNat)
  case atStart => exact ⟨0, by omega, rfl, fun h => absurd h (by omega), fun h => absurd h (by omega), by simpa [av, bv] using L0.out⟩
  case round =>
    rename World => wr
    obtain ⟨j, hj, rfl, h1, h2, hL⟩ := hrel
    have LL := Lib.hid hL
    clear hL
    by_cases hlt : j < on
    · have jc : (j : Int) < (on : Int) := by omega
      have hj2 : j = 0 ∨ j = 1 := by omega
      obtain ⟨d0, d1⟩ := box2 LL.out.bnd
      rcases hj2 with rfl | rfl
      · have A0 := Lib.hid (LL.out.cast (pos' := k + 1) (x' := 0) (y' := 0) (by simp [av, bv]) (by simp [av]) (by simp [bv]))
        clear LL
        by_cases he : e1 = 0
        · subst he
          have NX := Lib.hid (p := k + 1 + m1 = k + 1 + av m1 (0 + 1) + bv m2 (0 + 1)) (by simp [av, bv])
          go_wp2_with (first
            | (go_at_call 35; refine (KU1.out _ A0.out.rs.rd).mono ?_; rintro e w5 ⟨rfl, g1, g2⟩; have A1 := Lib.hid (A0.out.turn g1 g2 plt HQ2 (Nat.lt_succ_self _)); obtain ⟨o0, o1⟩ := box2 A1.out.ops; obtain ⟨z0, z1⟩ := frz2 A1.out.ops; clear g1 g2))
          go_roundw
          case rel => exact ⟨0 + 1, by omega, by go_num, (by first | exact (fun _ => trivial) | exact (fun _ => rfl)), fun h => absurd h (by omega), (A1.out.seta (x1 : Int) (by omega) plt OL.out HQ2 (Nat.lt_succ_self _)).cast NX.out (by simp [av]) (by simp [bv])⟩
          case measure => simp [intOf]; omega
        · have he' : (e1 == 0) = false := by simpa using he
          have DE := Lib.hid (D1.out (by omega) he)
          have M0 := E1.out he
          subst M0
          obtain ⟨pl, hpl⟩ : ∃ pl : Nat, (if e1 = 41 then n else k + 1 + 0) = pl := ⟨_, rfl⟩
          have PLC := Lib.hid (p := pl = k + (if e1 = 41 then 1 + (xs.drop (k + 1)).length else 1)) (by rw [← hpl]; have := NK.out; split <;> omega)
          have KQ1 := Lib.hid (p := ∀ W, RB W B p a n cap xs (k + 1 + 0) → Calls Tryd.prog 36 #[.int .i64 e1, .pointer (some ⟨p, 0, none⟩)] W fun e w' => e = .returned (.int .i64 (pl : Int)) ∧ W.grownBy w' none) (fun W q => by have := KQ.out e1 (k + 1 + 0) W q; rw [hpl] at this; exact this)
          clear hpl
          go_wp2_with (first
            | (go_at_call 35; refine (KU1.out _ A0.out.rs.rd).mono ?_; rintro e w5 ⟨rfl, g1, g2⟩; have A1 := Lib.hid (A0.out.turn g1 g2 plt HQ2 (Nat.lt_succ_self _)); clear g1 g2)
            | (go_at_call 36; refine (KQ1.out _ A1.out.rs.rd).mono ?_; rintro e w6 ⟨rfl, g1⟩; have A2 := Lib.hid (A1.out.later g1); obtain ⟨o0, o1, o2⟩ := box3 A2.out.box; obtain ⟨z0, z1, z2⟩ := frz3 A2.out.box; clear g1))
          obtain ⟨r0, r1, r2⟩ := box3 (set3 (a' := .int .i64 0) (b' := .int .i64 0) (c' := .int .i64 0) A2.out.box)
          have S4 := ((A2.out.rs.set (Nat.le_refl _) plt OL.out 0 (.int .i64 0)).set (Nat.le_refl _) plt OL.out 1 (.int .i64 0)).set (Nat.le_refl _) plt OL.out 2 (.int .i64 0)
          exact bodyPost_ret (v := .tuple #[.agg #[.int .i64 0, .int .i64 0, .int .i64 0], .int .i64 (pl : Int), .int .i64 e1]) (by simp [results, Tryd.results28, go_sem, r0, r1, r2]) rfl ⟨by rw [rdV_of DE.out, if_neg he, PLC.out], ⟨_, S4.rd, fun e => by rw [DE.out] at e; exact absurd e he⟩, S4.gr⟩
      · have A0 := Lib.hid (LL.out.cast (pos' := k + 1 + m1) (x' := x1) (y' := 0) (by simp [av, bv]) (by simp [av]) (by simp [bv]))
        have he1 := h1.out (Nat.le_refl _)
        clear LL
        by_cases he : e2 = 0
        · subst he
          have NX := Lib.hid (p := k + 1 + m1 + m2 = k + 1 + av m1 (1 + 1) + bv m2 (1 + 1)) (by simp [av, bv])
          have HE := Lib.hid he1
          clear he1
          go_wp2_with (first
            | (go_at_call 35; refine (KU2.out _ A0.out.rs.rd).mono ?_; rintro e w5 ⟨rfl, g1, g2⟩; have A1 := Lib.hid (A0.out.turn g1 g2 plt HQ2 (Nat.lt_succ_self _)); obtain ⟨o0, o1⟩ := box2 A1.out.ops; obtain ⟨z0, z1⟩ := frz2 A1.out.ops; clear g1 g2))
          go_roundw
          case rel => exact ⟨1 + 1, by omega, by go_num, fun _ => HE.out, (by first | exact (fun _ => trivial) | exact (fun _ => rfl)), (A1.out.setb (x2 : Int) (by omega) plt OL.out HQ2 (Nat.lt_succ_self _)).cast NX.out (by simp [av]) (by simp [bv])⟩
          case measure => simp [intOf]; omega
        · have he' : (e2 == 0) = false := by simpa using he
          have DE := Lib.hid (D2.out (by omega) he1 he)
          have M0 := E2.out he
          subst M0
          obtain ⟨pl, hpl⟩ : ∃ pl : Nat, (if e2 = 41 then n else k + 1 + m1 + 0) = pl := ⟨_, rfl⟩
          have PLC := Lib.hid (p := pl = k + (if e2 = 41 then 1 + (xs.drop (k + 1)).length else 1 + m1)) (by rw [← hpl]; have := NK.out; split <;> omega)
          have KQ1 := Lib.hid (p := ∀ W, RB W B p a n cap xs (k + 1 + m1 + 0) → Calls Tryd.prog 36 #[.int .i64 e2, .pointer (some ⟨p, 0, none⟩)] W fun e w' => e = .returned (.int .i64 (pl : Int)) ∧ W.grownBy w' none) (fun W q => by have := KQ.out e2 (k + 1 + m1 + 0) W q; rw [hpl] at this; exact this)
          clear hpl
          clear he1
          go_wp2_with (first
            | (go_at_call 35; refine (KU2.out _ A0.out.rs.rd).mono ?_; rintro e w5 ⟨rfl, g1, g2⟩; have A1 := Lib.hid (A0.out.turn g1 g2 plt HQ2 (Nat.lt_succ_self _)); clear g1 g2)
            | (go_at_call 36; refine (KQ1.out _ A1.out.rs.rd).mono ?_; rintro e w6 ⟨rfl, g1⟩; have A2 := Lib.hid (A1.out.later g1); obtain ⟨o0, o1, o2⟩ := box3 A2.out.box; obtain ⟨z0, z1, z2⟩ := frz3 A2.out.box; clear g1))
          obtain ⟨r0, r1, r2⟩ := box3 (set3 (a' := .int .i64 0) (b' := .int .i64 0) (c' := .int .i64 0) A2.out.box)
          have S4 := ((A2.out.rs.set (Nat.le_refl _) plt OL.out 0 (.int .i64 0)).set (Nat.le_refl _) plt OL.out 1 (.int .i64 0)).set (Nat.le_refl _) plt OL.out 2 (.int .i64 0)
          exact bodyPost_ret (v := .tuple #[.agg #[.int .i64 0, .int .i64 0, .int .i64 0], .int .i64 (pl : Int), .int .i64 e2]) (by simp [results, Tryd.results28, go_sem, r0, r1, r2]) rfl ⟨by rw [rdV_of DE.out, if_neg he, PLC.out], ⟨_, S4.rd, fun e => by rw [DE.out] at e; exact absurd e he⟩, S4.gr⟩
    · obtain rfl : j = on := by omega
      have DE := Lib.hid (D3.out h1.out h2.out)
      generalize av x1 j = xa at *
      generalize bv x2 j = xb at *
      obtain ⟨d0, d1⟩ := box2 LL.out.ops
      obtain ⟨o0, o1, o2⟩ := box3 LL.out.box
      obtain ⟨z0, z1, z2⟩ := frz3 LL.out.box
      go_wp2
      obtain ⟨r0, r1, r2⟩ := box3 (set3 (a' := .int .i64 (c : Int)) (b' := .int .i64 (xa : Int)) (c' := .int .i64 (xb : Int)) LL.out.box)
      have S4 := ((LL.out.rs.set (Nat.le_refl _) plt OL.out 0 (.int .i64 (c : Int))).set (Nat.le_refl _) plt OL.out 1 (.int .i64 (xa : Int))).set (Nat.le_refl _) plt OL.out 2 (.int .i64 (xb : Int))
      exact bodyPost_ret (v := .tuple #[.agg #[.int .i64 (c : Int), .int .i64 (xa : Int), .int .i64 (xb : Int)], .int .i64 0, .int .i64 0]) (by simp [results, Tryd.results28, go_sem, r0, r1, r2]) rfl ⟨by rw [rdV_of DE.out]; rfl, ⟨_, S4.rd, fun e => by rw [DE.out]; simp only; omega⟩, S4.gr⟩
theorem readInstr_any (B p : Nat) (a : Option Addr) (n cap : Nat) (xs : List Int) (k : Nat) (w : World) (h : RB w B p a n cap xs k) (hR : Rws w) (hG : 0 < p) :
    Calls Tryd.prog 28 #[.pointer (some ⟨p, 0, none⟩)] w fun e w' => RdE w B p a n cap xs k e w' := by
  rcases Nat.lt_or_ge k n with hk | hk
  · by_cases hc : 29 ≤ xs.getD k 0
    · exact readInstr_noOp B p a n cap xs k w h hk _ rfl hc hR hG
    · have cb : 0 ≤ xs.getD k 0 := by
        have hl : k < xs.length := by have := h.len; omega
        have : xs.getD k 0 ∈ xs := by
          rw [List.getD_eq_getElem?_getD, List.getElem?_eq_getElem hl, Option.getD_some]; exact List.getElem_mem hl
        exact (h.byte _ this).1
      exact readInstr_op B p a n cap xs k w h hk (xs.getD k 0).toNat (by omega) (by omega) hR hG
  · exact readInstr_end B p a n cap xs k w h (by have := h.le; omega)
end Go.Proofs.YtdbjdieegocdfaaDoor
