/-
  WALKS: the document's Encode.
-/
import Derived.Test.YtdbjdieegocdfaaDoorWCodeI
namespace Go.Proofs.YtdbjdieegocdfaaDoor
open Go.RowKit
set_option linter.unusedVariables false
set_option linter.unusedSimpArgs false

theorem ref_in {k : Nat} (hk : k < 29) : RefE k (nmA k) (rfs k).a (rfs k).b (tkA k) (ptA k) 0 := ⟨.inl ⟨k, hk, rfl, rfl, rfl, rfl, rfl, rfl, rfl⟩⟩
/-- What stands while an instruction's bytes are laid: the row, and the box with the table's row. -/
structure RN (w wr : World) (B : Nat) (v : Value) (n : Nat) (zs : List Int) (q : Nat) (nm : ByteArray) (ra rb tk pt : Int) : Prop where
  own : Own wr B v n zs
  bel : Below B w wr
  box : wr.heap[q]? = some (.cells #[.string nm, .int .i64 ra, .int .i64 rb, .int .i64 tk, .int .i64 pt] 38)
theorem RN.ext {w wr w' : World} {B : Nat} {v v' : Value} {n n' : Nat} {zs zs' : List Int} {q : Nat} {nm : ByteArray} {ra rb tk pt : Int} (h : RN w wr B v n zs q nm ra rb tk pt) (E : Ext B wr v n zs w' v' n' zs') (hB : B ≤ w.heap.size) : RN w w' B v' n' zs' q nm ra rb tk pt :=
  ⟨E.own, h.bel.trans (E.below (Nat.le_trans hB h.bel.size)), grown_block E.grown h.box (own_ne h.own h.box (by decide))⟩
theorem RN.later {w wr w' : World} {B : Nat} {v : Value} {n : Nat} {zs : List Int} {q : Nat} {nm : ByteArray} {ra rb tk pt : Int} (h : RN w wr B v n zs q nm ra rb tk pt) (g : Below wr.heap.size wr w') (hB : B ≤ wr.heap.size) : RN w w' B v n zs q nm ra rb tk pt :=
  ⟨own_later h.own (below_gr g none), h.bel.trans (g.mono hB), box_stay h.box g⟩
theorem wp_byteN {ops : Array Oper} {rest : List Oper} {o : Oper} {a : Act} {Q : Exit → Act → World → Prop} (w : World) (c : Int) (hgd : o.guard = none) (s x : Operand)
    (ho : o.op = .call { callee := .builtin .append, args := #[s, x], argTypes := #[25, 25] }) (B : Nat) (v : Value) (n : Nat) (xs : List Int) (hs : a.eval s = v) (N : Nat) (hN : N = w.heap.size)
    (hx : a.eval x = .slice (some ⟨N, 0, none⟩) 1 1) (hown : Own w B v n xs) (hl : n ≤ 140737488355000) (hb : B ≤ w.heap.size)
    (h : ∀ v' w', Ext B w v n xs w' v' (n + 1) (xs ++ [c]) → wpList Tryd.prog ops Q rest (a.put o.dst v') w') :
    wpList Tryd.prog ops Q (o :: rest) a (w.alloc (.cells #[.int .u8 c] 5)) := by
  subst hN; exact wp_byteK w c hgd s x ho B v n xs hs hx hown hl hb h
theorem nc_below {w W W' : World} {b o : Nat} {i : In} {B : Nat} (h : NC W b o i) (hb : b < B) (g : Below B W W') : NC W' b o i := h.later g hb
set_option maxRecDepth 100000 in
set_option maxHeartbeats 4000000 in
theorem refEncode_any (a : Option Addr) (n cap : Nat) (l : List In) (w : World) (h : LI w a n l) :
    Calls Tryd.prog 6 #[.slice a n cap] w fun e w' => EncE w l e w' := by
  obtain ⟨h1, h2, h3⟩ := h
  by_cases hl : 262144 < n
  · have EE := Lib.hid (encR_long (l := l) (by omega))
    have hl' : (262144 : Int) < (n : Int) := by omega
    clear h3
    go_enter Tryd.func6, Tryd.ntmps6
    go_wp2
    go_ret2
    exact (show EncE _ _ _ _ from ⟨_, by rw [EE.out]; rfl, by rw [EE.out]; exact own_nil _ _, Below.refl _ _⟩)
  · have hl' : ¬ (262144 : Int) < (n : Int) := by omega
    have HA := Lib.hid (p := ∀ j, j < n → ∃ b o, a = some ⟨b, o, none⟩ ∧ b < w.heap.size ∧ ∀ W, Below w.heap.size w W → NC W b (o + j * 3) (l.getD j default)) (fun j hj => by
      rcases h3 with h3 | ⟨b, o, e, hb, hc⟩
      · omega
      · exact ⟨b, o, e, hb, fun W q => (hc j hj).later q hb⟩)
    have HL := Lib.hid h1
    have EOk := Lib.hid (encR_ok (l := l) (by omega))
    have EOdd := Lib.hid (encR_odd (l := l) (by omega))
    have KV := Lib.hid (fun (i : In) W => refValid_any i.o i.a i.b W)
    have KR := Lib.hid (fun (k : Nat) (hk : k < 29) W => refRow_any (ref_in hk) W)
    have KU := Lib.hid (fun (x : Nat) (hx : x ≤ 262143) W => varintR_any x W (by omega))
    clear h1 h3 h2
    go_enter Tryd.func6, Tryd.ntmps6
    go_wp2
    go_loopw [4, 5] (fun b t wr => ∃ j : Nat, j ≤ n ∧ t = .int .i64 (j : Int) ∧ RowKit.Hid (∀ i, i < j → (l.getD i default).okP) ∧ Own wr w.heap.size b (encs (l.take j)).length (encs (l.take j)) ∧ Below w.heap.size w wr) (fun _ t _ => n - (intOf t).toNat)
    case atStart => exact ⟨0, by omega, rfl, fun i hi => absurd hi (by omega), by simpa [encs] using own_nil _ _, Below.refl _ _⟩
    case round =>
      rename World => wr
      obtain ⟨j, hj, rfl, hN, hO, hB⟩ := hrel
      have OO := Lib.hid hO
      have BB := Lib.hid hB
      clear hO hB
      by_cases hlt : j < n
      · have jc : (j : Int) < (n : Int) := by omega
        obtain ⟨b, o, rfl, hbw, hNC⟩ := HA.out j hlt
        have NCj := Lib.hid hNC
        obtain ⟨c0, c1, c2⟩ := hNC wr BB.out
        have SN := Lib.hid (take_snoc (l := l) (j := j) (by rw [HL.out]; exact hlt))
        have LN := Lib.hid (p := (encs (l.take j)).length ≤ 1048576) (by have := (encs_len (tk_ok hN.out)).1; simp at this; omega)
        clear HA hNC hbw
        by_cases hv : (l.getD j default).okP
        · obtain ⟨k, x, y, hi, hk, hx, hy⟩ := okP_nat hv
          have NX := Lib.hid (p := ∀ i, i < j + 1 → (l.getD i default).okP) (fun i hi => by
            rcases (show i < j ∨ i = j by omega) with q | q
            · exact hN.out i q
            · rw [q]; exact hv)
          have KVj := Lib.hid (KV.out ⟨(k : Int), (x : Int), (y : Int)⟩ wr)
          have VZ := Lib.hid (p := okV ⟨(k : Int), (x : Int), (y : Int)⟩ = 0) (okV_pos (by rw [← hi]; exact hv))
          rw [hi] at SN c0 c1 c2 NCj
          simp only at SN c0 c1 c2 KVj
          rw [VZ.out] at KVj
          obtain ⟨t1, t2, t3, _, _, _, _⟩ := tab_facts k hk
          have KRk := Lib.hid (KR.out k hk)
          have kw : IntKind.u8.wrap (k : Int) = (k : Int) := by simp [IntKind.wrap, IntKind.bits, IntKind.signed]; omega
          have xw : IntKind.u64.wrap (x : Int) = (x : Int) := by simp [IntKind.wrap, IntKind.bits, IntKind.signed]; omega
          have yw : IntKind.u64.wrap (y : Int) = (y : Int) := by simp [IntKind.wrap, IntKind.bits, IntKind.signed]; omega
          have XB := Lib.hid (show x ≤ 262143 by omega)
          have YB := Lib.hid (show y ≤ 262143 by omega)
          have XL := Lib.hid (vl_short (x := x) (by omega))
          have YL := Lib.hid (vl_short2 (x := y) (by omega))
          have XE := Lib.hid (vl_byte x)
          have YE := Lib.hid (vl_byte y)
          have EP := Lib.hid (enc_pre k x y)
          have P0 : True := trivial
          have P1 : True := trivial
          have RA := Lib.hid (p := (rfs k).a = if 1 ≤ onA k then (baA k : Int) else -1) rfl
          have RB' := Lib.hid (p := (rfs k).b = if 2 ≤ onA k then (bbA k : Int) else -1) rfl
          clear hi hv VZ
          rcases (show onA k = 0 ∨ onA k = 1 ∨ onA k = 2 by omega) with ho | ho | ho
          · have PB : preB x y 0 = [] := by simp [preB]
            rw [ho, PB] at EP
            rw [RA.out, RB'.out, ho] at KRk
            simp only [show ¬ (1 : Nat) ≤ 0 by omega, show ¬ (2 : Nat) ≤ 0 by omega, if_false] at KRk
            clear ho PB RA RB' t1 t2 t3 hk hx hy
            go_wp2_with (first
              | (go_at_call 13; refine KVj.out.mono ?_; rintro e w1 ⟨rfl, h1⟩; have B1 := Lib.hid (BB.out.trans (h1.mono BB.out.size)); have O1 := Lib.hid (own_later OO.out (below_gr h1 none)); obtain ⟨d0, d1, d2⟩ := NCj.out w1 B1.out; clear h1)
              | (go_at_call 14; refine (KRk.out _).mono ?_; rintro e w2 ⟨rfl, h1⟩; have B2 := Lib.hid (B1.out.trans (h1.mono B1.out.size)); have O2 := Lib.hid (own_later O1.out (below_gr h1 none)); have R2 := Lib.hid (p := RN w (w2.alloc (.cells #[.string (nmA k), .int .i64 (-1), .int .i64 (-1), .int .i64 (tkA k : Int), .int .i64 (ptA k : Int)] 38)) w.heap.size _ (encs (l.take j)).length (encs (l.take j)) w2.heap.size (nmA k) (-1) (-1) (tkA k : Int) (ptA k : Int)) ⟨O2.out.alloc _, B2.out.alloc B2.out.size _, heap_new w2 _⟩; obtain ⟨e0, e1, e2⟩ := NCj.out _ R2.out.bel; clear h1)
              | (at_builtin; have qq := P0; refine wp_byteN _ _ rfl _ _ rfl w.heap.size _ _ _ rfl _ (by simp) rfl R2.out.own (by have := LN.out; omega) R2.out.bel.size ?_; intro v3 w3 h1; have R3 := Lib.hid (R2.out.ext h1 (Nat.le_refl _)); obtain ⟨f0, f1, f2⟩ := NCj.out w3 R3.out.bel; obtain ⟨g0, g1, g2, g3, g4⟩ := box_all5 R3.out.box; clear h1 P0))
            go_roundw
            case rel => exact ⟨j + 1, by omega, by go_num, NX.out, by rw [SN.out, encs_snoc, EP.out]; have := R3.out.own; simpa [Nat.add_assoc, Nat.add_comm, Nat.add_left_comm] using this, R3.out.bel⟩
            case measure => simp [intOf]; omega
          · have PB : preB x y 1 = vl x := by simp [preB]
            rw [ho, PB] at EP
            rw [RA.out, RB'.out, ho] at KRk
            simp only [Nat.le_refl, show ¬ (2 : Nat) ≤ 1 by omega, if_true, if_false] at KRk
            have r1 : (0 : Int) ≤ (baA k : Int) := by omega
            clear ho PB RA RB' t1 t2 t3 hk hx hy
            go_wp2_with (first
              | (go_at_call 13; refine KVj.out.mono ?_; rintro e w1 ⟨rfl, h1⟩; have B1 := Lib.hid (BB.out.trans (h1.mono BB.out.size)); have O1 := Lib.hid (own_later OO.out (below_gr h1 none)); obtain ⟨d0, d1, d2⟩ := NCj.out w1 B1.out; clear h1)
              | (go_at_call 14; refine (KRk.out _).mono ?_; rintro e w2 ⟨rfl, h1⟩; have B2 := Lib.hid (B1.out.trans (h1.mono B1.out.size)); have O2 := Lib.hid (own_later O1.out (below_gr h1 none)); have R2 := Lib.hid (p := RN w (w2.alloc (.cells #[.string (nmA k), .int .i64 (baA k : Int), .int .i64 (-1), .int .i64 (tkA k : Int), .int .i64 (ptA k : Int)] 38)) w.heap.size _ (encs (l.take j)).length (encs (l.take j)) w2.heap.size (nmA k) (baA k : Int) (-1) (tkA k : Int) (ptA k : Int)) ⟨O2.out.alloc _, B2.out.alloc B2.out.size _, heap_new w2 _⟩; obtain ⟨e0, e1, e2⟩ := NCj.out _ R2.out.bel; clear h1)
              | (at_builtin; have qq := P0; refine wp_byteN _ _ rfl _ _ rfl w.heap.size _ _ _ rfl _ (by simp) rfl R2.out.own (by have := LN.out; omega) R2.out.bel.size ?_; intro v3 w3 h1; have R3 := Lib.hid (R2.out.ext h1 (Nat.le_refl _)); obtain ⟨f0, f1, f2⟩ := NCj.out w3 R3.out.bel; obtain ⟨g0, g1, g2, g3, g4⟩ := box_all5 R3.out.box; clear h1 P0)
              | (go_at_call 15; have qq := P1; refine (KU.out x XB.out _).mono ?_; rintro e w4 ⟨v4, rfl, h1, h2⟩; obtain ⟨A4, c4, hv4, hs4⟩ := own_sl h1 XE.out (by have := XL.out; omega); subst hv4; have S4 := Lib.hid hs4; have R4 := Lib.hid (R3.out.later h2 R3.out.bel.size); clear h1 h2 hs4 P1; have P2 : True := trivial)
              | (at_builtin; have qq := P2; refine wp_joinB _ rfl _ _ rfl w.heap.size _ _ _ rfl _ _ _ _ rfl R4.out.own S4.out.1 S4.out.2.1 (by have := LN.out; have := XL.out; omega) R4.out.bel.size ?_; intro v5 w5 h1; have R5 := Lib.hid (R4.out.ext h1 (Nat.le_refl _)); obtain ⟨i0, i1, i2⟩ := NCj.out w5 R5.out.bel; obtain ⟨k0, k1, k2, k3, k4⟩ := box_all5 R5.out.box; clear h1 P2))
            go_roundw
            case rel => exact ⟨j + 1, by omega, by go_num, NX.out, by rw [SN.out, encs_snoc, EP.out]; have := R5.out.own; simpa [Nat.add_assoc, Nat.add_comm, Nat.add_left_comm] using this, R5.out.bel⟩
            case measure => simp [intOf]; omega
          · have PB : preB x y 2 = vl x ++ vl y := by simp [preB]
            rw [ho, PB] at EP
            rw [RA.out, RB'.out, ho] at KRk
            simp only [show (1 : Nat) ≤ 2 by omega, Nat.le_refl, if_true] at KRk
            have r1 : (0 : Int) ≤ (baA k : Int) := by omega
            have r2 : (0 : Int) ≤ (bbA k : Int) := by omega
            clear ho PB RA RB' t1 t2 t3 hk hx hy
            go_wp2_with (first
              | (go_at_call 13; refine KVj.out.mono ?_; rintro e w1 ⟨rfl, h1⟩; have B1 := Lib.hid (BB.out.trans (h1.mono BB.out.size)); have O1 := Lib.hid (own_later OO.out (below_gr h1 none)); obtain ⟨d0, d1, d2⟩ := NCj.out w1 B1.out; clear h1)
              | (go_at_call 14; refine (KRk.out _).mono ?_; rintro e w2 ⟨rfl, h1⟩; have B2 := Lib.hid (B1.out.trans (h1.mono B1.out.size)); have O2 := Lib.hid (own_later O1.out (below_gr h1 none)); have R2 := Lib.hid (p := RN w (w2.alloc (.cells #[.string (nmA k), .int .i64 (baA k : Int), .int .i64 (bbA k : Int), .int .i64 (tkA k : Int), .int .i64 (ptA k : Int)] 38)) w.heap.size _ (encs (l.take j)).length (encs (l.take j)) w2.heap.size (nmA k) (baA k : Int) (bbA k : Int) (tkA k : Int) (ptA k : Int)) ⟨O2.out.alloc _, B2.out.alloc B2.out.size _, heap_new w2 _⟩; obtain ⟨e0, e1, e2⟩ := NCj.out _ R2.out.bel; clear h1)
              | (at_builtin; have qq := P0; refine wp_byteN _ _ rfl _ _ rfl w.heap.size _ _ _ rfl _ (by simp) rfl R2.out.own (by have := LN.out; omega) R2.out.bel.size ?_; intro v3 w3 h1; have R3 := Lib.hid (R2.out.ext h1 (Nat.le_refl _)); obtain ⟨f0, f1, f2⟩ := NCj.out w3 R3.out.bel; obtain ⟨g0, g1, g2, g3, g4⟩ := box_all5 R3.out.box; clear h1 P0)
              | (go_at_call 15; have qq := P1; refine (KU.out x XB.out _).mono ?_; rintro e w4 ⟨v4, rfl, h1, h2⟩; obtain ⟨A4, c4, hv4, hs4⟩ := own_sl h1 XE.out (by have := XL.out; omega); subst hv4; have S4 := Lib.hid hs4; have R4 := Lib.hid (R3.out.later h2 R3.out.bel.size); clear h1 h2 hs4 P1; have P2 : True := trivial)
              | (at_builtin; have qq := P2; refine wp_joinB _ rfl _ _ rfl w.heap.size _ _ _ rfl _ _ _ _ rfl R4.out.own S4.out.1 S4.out.2.1 (by have := LN.out; have := XL.out; omega) R4.out.bel.size ?_; intro v5 w5 h1; have R5 := Lib.hid (R4.out.ext h1 (Nat.le_refl _)); obtain ⟨i0, i1, i2⟩ := NCj.out w5 R5.out.bel; obtain ⟨k0, k1, k2, k3, k4⟩ := box_all5 R5.out.box; clear h1 P2)
              | (go_at_call 15; refine (KU.out y YB.out _).mono ?_; rintro e w6 ⟨v6, rfl, h1, h2⟩; obtain ⟨A6, c6, hv6, hs6⟩ := own_sl h1 YE.out (by have := YL.out; omega); subst hv6; have S6 := Lib.hid hs6; have R6 := Lib.hid (R5.out.later h2 R5.out.bel.size); clear h1 h2 hs6)
              | (at_builtin; refine wp_joinB _ rfl _ _ rfl w.heap.size _ _ _ rfl _ _ _ _ rfl R6.out.own S6.out.1 S6.out.2.1 (by have := LN.out; have := XL.out; have := YL.out; omega) R6.out.bel.size ?_; intro v7 w7 h1; have R7 := Lib.hid (R6.out.ext h1 (Nat.le_refl _)); clear h1))
            go_roundw
            case rel => exact ⟨j + 1, by omega, by go_num, NX.out, by rw [SN.out, encs_snoc, EP.out]; have := R7.out.own; simpa [Nat.add_assoc, Nat.add_comm, Nat.add_left_comm] using this, R7.out.bel⟩
            case measure => simp [intOf]; omega
        · have VZ := Lib.hid (p := okV (l.getD j default) = 111) (okV_neg hv)
          have EE := Lib.hid (EOdd.out (fun q => hv (q _ (getD_mem (by rw [HL.out]; exact hlt)))))
          have KV2 := Lib.hid (KV.out (l.getD j default) wr)
          clear hv
          generalize l.getD j default = i at *
          obtain ⟨io, ia, ib⟩ := i
          simp only at KV2 c0 c1 c2
          rw [VZ.out] at KV2
          clear VZ NCj
          go_wp2_with (first
            | (go_at_call 13; refine KV2.out.mono ?_; rintro e w1 ⟨rfl, h1⟩; have B1 := Lib.hid (BB.out.trans (h1.mono BB.out.size)); clear h1))
          go_ret2
          exact (show EncE _ _ _ _ from ⟨_, by rw [EE.out]; rfl, by rw [EE.out]; exact own_nil _ _, B1.out⟩)
      · obtain rfl : j = n := by omega
        have EE := Lib.hid (EOk.out (by have := tk_ok hN.out; rwa [List.take_of_length_le (by rw [HL.out]; exact Nat.le_refl _)] at this))
        have q0 := OO.out
        rw [List.take_of_length_le (by rw [HL.out]; exact Nat.le_refl _)] at q0
        have OX := Lib.hid q0
        clear q0
        go_wp2
        go_ret2
        exact (show EncE _ _ _ _ from ⟨_, by rw [EE.out]; rfl, by rw [EE.out]; exact OX.out, BB.out⟩)
end Go.Proofs.YtdbjdieegocdfaaDoor
