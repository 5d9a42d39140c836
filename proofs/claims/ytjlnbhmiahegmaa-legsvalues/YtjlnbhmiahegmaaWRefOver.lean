/-
  WALK: the document's answer (payoffref01): over.
-/
import Derived.Test.YtjlnbhmiahegmaaWRefMinus
import Derived.Test.YtjlnbhmiahegmaaWRefTimes
import Derived.Laws.AppendOwnNone
import Derived.Test.YtjlnbhmiahegmaaPlainOver
namespace Go.Proofs.Ytjlnbhmiahegmaa
open Go.RowKit
set_option maxRecDepth 100000
set_option linter.unusedVariables false

/-- 'append([]int{x}, r...)'. -/
theorem wp_cons {ops : Array Oper} {rest : List Oper} {o : Oper} {a : Act} {Q : Exit → Act → World → Prop} (w : World) (x : Int) (r : Value) (ds : List Int) (hgd : o.guard = none) (s y : Operand)
    (ho : o.op = .call { callee := .builtin .append, args := #[s, y], argTypes := #[26, 26] }) (base : Nat) (hs : a.eval s = .slice (some ⟨w.heap.size, 0, none⟩) 1 1)
    (hy : a.eval y = r) (hd : Dg w r ds) (hl : ds.length ≤ 900) (hb : base ≤ w.heap.size)
    (h : ∀ v' w', w'.ownsRow base 3 1 v' (x :: ds).length ((x :: ds).map (Value.int .i64)) → (w.alloc (.cells #[.int .i64 x] 3)).grownBy w' (some w.heap.size) → wpList Try.prog ops Q rest (a.put o.dst v') w') :
    wpList Try.prog ops Q (o :: rest) a (w.alloc (.cells #[.int .i64 x] 3)) := by
  obtain ⟨i0, hi, hz0, hz1, hz2⟩ := info_parts info3
  obtain ⟨h1, h2, ao, cap, rfl, hc, hm, hr⟩ := hd
  have lit : (w.alloc (.cells #[.int .i64 x] 3)).ownsRow base 3 1 (.slice (some ⟨w.heap.size, 0, none⟩) 1 1) 1 [.int .i64 x] := World.ownsRow_lit w #[.int .i64 x] 1 hb (by decide) rfl
  cases ao with
  | none =>
    have h0 : ds.length = 0 := by
      rcases hr with h0 | ⟨b, off, e, _⟩
      · exact h0
      · cases e
    have hnil := List.eq_nil_of_length_eq_zero h0
    have hcap : cap = 0 := hm.2 rfl
    refine wpList_append_own_none hgd s y 26 ho base 3 i0 1 Try.underlying26 hi _ 1 _ hs lit (by rw [hy, h0, hcap]) ?_
    refine h _ _ ?_ (World.grownBy.refl _ _)
    rw [hnil]; exact lit
  | some ad =>
    refine wpList_append_own _ hgd s y 26 ho base 3 i0 (.int .i64 0) 1 8 Try.underlying26 hi hz0 hz1 hz2 rfl (by decide) _ 1 _ hs lit ad ds.length cap (ds.map (Value.int .i64)) hy (by simp) ?_ (ints_oneCell _ _) (by unfold maxLen; omega) (by omega) (by simp; omega) ?_
    · intro j u hj
      rcases hr with h0 | ⟨b, off, e, hlt, hcell⟩
      · rw [List.eq_nil_of_length_eq_zero h0] at hj; simp at hj
      · injection e with e
        subst e
        have hjl : j < ds.length := by
          refine Nat.lt_of_not_le fun hc => ?_
          rw [List.getElem?_eq_none (by simpa using hc)] at hj
          cases hj
        have e2 : (⟨b, off, none⟩ : Addr).add j = ⟨b, off + j, none⟩ := by simp [Addr.add]
        rw [e2, World.cell?_alloc_past _ _ _ hlt, hcell j hjl, ← hj]
        simp [hjl]
    · intro v' w' g1 g2 _
      refine h v' w' ?_ g2
      have e : ([Value.int .i64 x] ++ ds.map (Value.int .i64)) = (x :: ds).map (Value.int .i64) := rfl
      rw [e] at g1
      rw [List.length_cons, Nat.add_comm]; exact g1

theorem own_later {w w' : World} {B : Nat} {v : Value} {n : Nat} {xs : List Value} (h : w.ownsRow B 3 1 v n xs) (hb : Below w.heap.size w w') : w'.ownsRow B 3 1 v n xs := by
  refine ⟨h.1, ?_⟩
  rcases h.2 with h0 | ⟨g, cap, cur, hv, hg, hh, rest⟩
  · exact Or.inl h0
  · refine Or.inr ⟨g, cap, cur, hv, hg, ?_, rest⟩
    have hlt := (h.lt g (by rw [hv]; rfl)).2
    rw [hb.block g hlt]; exact hh

/-- The number in a cell. -/
def cellN (w : World) (a : Addr) : Nat := match w.cell? a with
  | some v => (intOf v).toNat
  | none => 0
theorem cellN_of {w : World} {a : Addr} {n : Int} (h : w.cell? a = some (.int .i64 n)) : cellN w a = n.toNat := by unfold cellN; rw [h]; rfl

/-- What holds of the row of the quotient's digits. -/
structure QRow (w wr : World) (N : Nat) (qs : List Int) : Prop where
  len : qs.length = N
  dig : Digs qs
  own : wr.ownsRow w.heap.size 3 1 (.slice (some ⟨w.heap.size, 0, none⟩) N N) N (qs.map (Value.int .i64))
  bel : Below w.heap.size w wr
  lt : w.heap.size < wr.heap.size
theorem QRow.later {w wa wb : World} {N : Nat} {qs : List Int} (h : QRow w wa N qs) (hb : Below wa.heap.size wa wb) : QRow w wb N qs :=
  ⟨h.len, h.dig, own_later h.own hb, h.bel.trans (hb.mono (Nat.le_of_lt h.lt)), Nat.lt_of_lt_of_le h.lt hb.size⟩
/-- What holds of the rest. -/
structure RVal (w wr : World) (rv : Value) (rds : List Int) : Prop where
  dg : Dg wr rv rds
  norm : Norm rds
  fresh : Fresh (w.heap.size + 1) rv
theorem RVal.later {w wa wb : World} {rv : Value} {rds : List Int} (h : RVal w wa rv rds) (hb : Below wa.heap.size wa wb) : RVal w wb rv rds := ⟨h.dg.later hb, h.norm, h.fresh⟩

theorem QRow.draws {w wr : World} {N : Nat} {qs : List Int} (h : QRow w wr N qs) (n : Nat) : QRow w (wr.drewN n) N qs := ⟨h.len, h.dig, h.own, below_nq h.bel n, h.lt⟩
theorem RVal.draws {w wr : World} {rv : Value} {rds : List Int} (h : RVal w wr rv rds) (n : Nat) : RVal w (wr.drewN n) rv rds := ⟨h.dg, h.norm, h.fresh⟩
theorem QRow.set {w wr : World} {N : Nat} {qs : List Int} (h : QRow w wr N qs) (m : Nat) {d : Int} (h0 : 0 ≤ d) (h1 : d ≤ 9) : QRow w (wr.setCell ⟨w.heap.size, m, none⟩ (.int .i64 d)) N (qs.set m d) :=
  ⟨by simp [h.len], digs_set h.dig m h0 h1, own_set h.own m d, h.bel.setCell (Nat.le_refl _) _, by simpa using h.lt⟩
theorem RVal.set {w wr : World} {rv : Value} {rds : List Int} (h : RVal w wr rv rds) (m : Nat) (u : Value) : RVal w (wr.setCell ⟨w.heap.size, m, none⟩ u) rv rds := ⟨h.dg.set h.fresh (by omega) u, h.norm, h.fresh⟩

set_option maxHeartbeats 3200000 in
theorem over_any (va vb : Value) (a b : List Int) (w : World) (ha : Dg w va a) (hb : Dg w vb b) (nb : Norm b) (hB : 0 < dval b) (la : a.length ≤ 150) (lb : b.length ≤ 150) :
    Calls Try.prog 62 #[va, vb] w fun e w' => ∃ q r, e = .returned (.tuple #[q, r]) ∧ Below w.heap.size w w' ∧ ∃ qs rs, Dg w' q qs ∧ Norm qs ∧ Dg w' r rs ∧ Norm rs ∧ dval a = dval qs * dval b + dval rs ∧ dval rs < dval b := by
  obtain ⟨i0, hi, hz0, hz1, hz2⟩ := info_parts info3
  have HA := veil ha
  have HB := veil hb
  have NB := veil nb
  have HBP := veil hB
  obtain ⟨a1, a2, ao, cap, rfl, ac, am, ar⟩ := ha
  obtain ⟨b1, b2, bo, cap', rfl, bc, bm, br⟩ := hb
  have A1 := veil a1
  have B1 := veil b1
  have HC : ∀ i, i < a.length → ∃ p off, ao = some ⟨p, off, none⟩ ∧ p < w.heap.size ∧ w.cell? ⟨p, off + i, none⟩ = some (.int .i64 (a.getD i 0)) := by
    intro i hi
    rcases ar with h0 | ⟨p, off, h1, h2, h3⟩
    · omega
    · exact ⟨p, off, h1, h2, h3 i hi⟩
  have HC' := veil HC
  clear ar br a1 b1 ac bc a2 b2 HC nb hB
  go_enter Try.func62, Try.ntmps62
  go_wp2_with (at_make; refine wpList_make_full _ rfl _ _ 26 rfl w.heap.size 3 i0 (.int .i64 0) 1 Try.underlying26 hi hz0 hz1 .i64 .i64 _ _ a.length rfl rfl (by omega) (by omega) (by rw [hz2]; omega) (by unfold maxLen; omega) (Nat.le_refl _) ?_; intro w1 hown1 hgrow1)
  have own0 : w1.ownsRow w.heap.size 3 1 (.slice (some ⟨w.heap.size, 0, none⟩) a.length a.length) a.length ((List.replicate a.length (0 : Int)).map (Value.int .i64)) := by
    rw [List.map_replicate]
    have e := toList_madeCells_one (.int .i64 0) a.length
    rw [← e]
    have h := hown1
    rw [Nat.mul_one] at h
    exact h
  have bel0 : Below w.heap.size w w1 := (Below.refl _ _).grown hgrow1 (Nat.le_refl _) (by simp)
  have Q0 : QRow w w1 a.length (List.replicate a.length 0) := ⟨by simp, digs_replicate _, own0, bel0, (own0.lt w.heap.size rfl).2⟩
  have Q0' := veil Q0
  clear hown1 hgrow1 own0 bel0 Q0
  have E0 := veil (show dval (a.drop a.length) = dval ((List.replicate a.length (0 : Int)).drop a.length) * dval b + dval [] by rw [List.drop_of_length_le (Nat.le_refl _), List.drop_of_length_le (by simp)]; simp [dval])
  generalize hN : a.length = N at *
  have HN := veil hN
  clear hN
  go_loopw [7, 8] (fun r i wr => ∃ k : Nat, k ≤ N ∧ i = .int .i64 ((k : Int) - 1) ∧ ∃ rds qs : List Int, RVal w wr r rds ∧ QRow w wr N qs ∧ dval rds < dval b ∧ (∀ j, j < k → qs.getD j 0 = 0) ∧ dval (a.drop k) = dval (qs.drop k) * dval b + dval rds) (fun _ i _ => (intOf i + 1).toNat)
  case atStart =>
    refine ⟨N, Nat.le_refl _, rfl, [], _, ⟨⟨digs_nil, by simp, none, 0, rfl, by simp, ⟨by unfold maxLen; omega, fun _ => rfl⟩, Or.inl rfl⟩, Or.inl rfl, fun p n c e => by cases e⟩, unveil Q0', unveil HBP, ?_, unveil E0⟩
    intro j _
    simp only [List.getD_eq_getElem?_getD, List.getElem?_replicate]; split <;> simp
  case round =>
    obtain ⟨k, hk, rfl, rds, qs, hR0, hQ0, hlt0, hz0', hv0⟩ := hrel
    have hR := veil hR0
    have hQ := veil hQ0
    have hlt := veil hlt0
    have hz := veil hz0'
    have hv := veil hv0
    have hrl : rds.length ≤ b.length := by
      refine Nat.le_of_not_lt fun hc => ?_
      have := norm_longer hR0.dg.1 hR0.norm (unveil B1) hc
      omega
    have hql : qs.length ≤ N := by have := hQ0.len; omega
    obtain ⟨_, _, rao, rcap, rfl, _⟩ := id hR0.dg
    clear hR0 hQ0 hlt0 hz0' hv0
    cases k with
    | zero =>
      have F := veil (show dval a = dval qs * dval b + dval rds by have := unveil hv; simpa using this)
      have DQ := veil (dg_of_own (ds := qs) (by rw [(unveil hQ).len]; exact (unveil hQ).own) (unveil hQ).dig (by omega))
      go_wp2_with fail
      refine (trim_any _ qs wr (unveil DQ)).mono ?_
      rintro e w' ⟨v, rfl, rfl, dt, d1, d2, d3, d4, d5⟩
      go_wp2_with fail
      go_ret2
      exact ⟨_, _, rfl, (unveil hQ).bel, dt, rds, d1, d3, (unveil hR).dg, (unveil hR).norm, by rw [d2]; exact unveil F, unveil hlt⟩
    | succ m =>
      obtain ⟨p, off, rfl, hp, hcell⟩ := unveil HC' m (by omega)
      have EA : ∃ x, a.getD m 0 = x := ⟨_, rfl⟩
      obtain ⟨x, hx⟩ := EA
      have ba := unveil A1 m
      rw [hx] at hcell ba
      obtain ⟨ba1, ba2⟩ := ba
      have AX := veil hx
      have acell : wr.cell? ⟨p, off + m, none⟩ = some (.int .i64 x) := ((unveil hQ).bel.cell (p := ⟨p, off + m, none⟩) hp).trans hcell
      have hm : (((m + 1 : Nat) : Int) - 1) = (m : Int) := by omega
      rw [hm]
      clear hx hcell hm
      go_wp2_with (at_builtin; refine wp_cons wr x _ rds rfl _ _ rfl (w.heap.size + 1) rfl rfl (unveil hR).dg (by omega) (by have := (unveil hQ).lt; omega) ?_; intro v2 w2 hown2 hgrow2)
      have hb2 : Below wr.heap.size wr w2 := ((Below.refl wr.heap.size wr).alloc (Nat.le_refl _) _).grown hgrow2 (by simp) (fun k e => by injection e with e; omega)
      have Q2 := veil ((unveil hQ).later hb2)
      have D2 := veil (dg_of_own hown2 (digs_cons (unveil hR).dg.1 ba1 ba2) (by simp; omega))
      have F2 := veil (fresh_of_own hown2)
      clear hown2 hgrow2 hb2 acell
      refine (trim_any _ (x :: rds) w2 (unveil D2)).mono ?_
      rintro e w3 ⟨v3, rfl, rfl, ds3, d3, e3, n3, l3, f3⟩
      have R3 := veil (show RVal w w3 v3 ds3 from ⟨d3, n3, f3 _ (unveil F2)⟩)
      have bB := dval_bd b (unveil B1)
      have V3 : dval ds3 = x + 10 * dval rds := e3
      have T3 := veil (show dval ds3 < ten (b.length + 1) by rw [ten_succ, V3]; have := unveil hlt; omega)
      have C3 := veil (show x + 10 * dval rds = ((0 : Nat) : Int) * dval b + dval ds3 by rw [V3]; simp)
      have S0 : qs.set m ((0 : Nat) : Int) = qs := by
        have hmq : m < qs.length := by have := (unveil hQ).len; omega
        have e0 := unveil hz m (by omega)
        have e1 : qs.getD m 0 = qs[m] := by simp [hmq]
        have e2 : qs[m] = 0 := by rw [← e1]; exact e0
        refine List.ext_getElem (by simp) fun j h1 h2 => ?_
        rw [List.getElem_set]
        split
        · subst_vars; simp [e2]
        · rfl
      have Q3 := veil (show QRow w w3 N (qs.set m ((0 : Nat) : Int)) by rw [S0]; exact unveil Q2)
      clear d3 e3 n3 l3 f3 V3 S0 bB F2 D2 Q2
      go_wp2_with fail
      go_loopw [7] (fun r wq => ∃ (c : Nat) (ds : List Int), c ≤ 9 ∧ RVal w wq r ds ∧ QRow w wq N (qs.set m (c : Int)) ∧ dval ds < ten (b.length + 1) ∧ x + 10 * dval rds = (c : Int) * dval b + dval ds) (fun _ wq => 10 - cellN wq ⟨w.heap.size, m, none⟩)
      case atStart => exact ⟨0, ds3, by omega, unveil R3, unveil Q3, unveil T3, unveil C3⟩
      case round =>
        clear R3 Q3 T3 C3
        obtain ⟨c, ds, c9, r0, q0, t0, x0⟩ := hrel
        have hmq : m < (qs.set m (c : Int)).length := by have := (unveil hQ).len; simp; omega
        have qc : (qs.set m (c : Int)).getD m 0 = c := by simp at hmq; simp [hmq]
        have qcell := own_cell q0.own q0.len m (by omega)
        rw [qc] at qcell
        have MC := veil (cellN_of qcell)
        have R0 := veil r0
        have Q0 := veil q0
        have T0 := veil t0
        have X0 := veil x0
        have dl := norm_len r0.dg.1 r0.norm t0
        obtain ⟨_, _, dao, dcap, rfl, _⟩ := id r0.dg
        have AB := veil (above_any _ _ b ds wr ((unveil HB).later q0.bel) r0.dg (unveil NB) r0.norm)
        by_cases hcmp : dval b ≤ dval ds
        · have hlen : b.length ≤ ds.length := by
            refine Nat.le_of_not_lt fun hc => ?_
            have := norm_longer (unveil B1) (unveil NB) r0.dg.1 hc
            omega
          have c8 := over_nine (unveil HBP) (unveil hlt) ba2 x0 hcmp
          have NX := veil (show x + 10 * dval rds = ((c + 1 : Nat) : Int) * dval b + (dval ds - dval b) by
            rw [x0]; simp [Int.add_mul]; omega)
          have CMP := veil hcmp
          have AF := veil (show decide (dval ds < dval b) = false by simp; omega)
          clear r0 q0 t0 x0 qc qcell hmq hcmp
          go_wp2_with fail
          refine (unveil AB).mono ?_
          rintro e w4 ⟨rfl, n4, hw4⟩
          rw [unveil AF]
          have R4 := veil (show RVal w w4 (.slice dao ds.length dcap) ds by rw [hw4]; exact (unveil R0).draws n4)
          have Q4 := veil (show QRow w w4 N (qs.set m (c : Int)) by rw [hw4]; exact (unveil Q0).draws n4)
          clear hw4
          go_wp2_with fail
          refine (minus_any _ _ ds b w4 (unveil R4).dg ((unveil HB).later (unveil Q4).bel) (by omega) hlen (unveil CMP)).mono ?_
          rintro e w5 ⟨v5, rfl, hb5, ds5, d5, e5, n5, f5⟩
          have R5 := veil (show RVal w w5 v5 ds5 from ⟨d5, n5, f5.mono (by have := (unveil Q4).lt; omega)⟩)
          have Q5 := (unveil Q4).later hb5
          have qc5 : (qs.set m (c : Int)).getD m 0 = c := by
            have : m < qs.length := by have := (unveil hQ).len; omega
            simp [this]
          have cell5 := own_cell Q5.own Q5.len m (by omega)
          rw [qc5] at cell5
          have fro5 := Q5.own.frozenAt m
          have Q6 := veil (show QRow w (w5.setCell ⟨w.heap.size, m, none⟩ (.int .i64 ((c : Int) + 1))) N (qs.set m ((c + 1 : Nat) : Int)) by
            have := Q5.set m (d := (c : Int) + 1) (by omega) (by omega)
            rw [List.set_set] at this
            exact this)
          have R6 := veil ((unveil R5).set m (.int .i64 ((c : Int) + 1)))
          have E5 := veil e5
          have D5 := veil d5
          obtain ⟨_, _, ao5, cap5, rfl, _⟩ := id d5
          clear hb5 d5 e5 n5 f5 Q5 qc5
          go_wp2_with fail
          go_roundw
          case rel => exact ⟨c + 1, ds5, by omega, unveil R6, unveil Q6, by rw [unveil E5]; have := unveil T0; have := unveil HBP; omega, by rw [unveil E5]; exact unveil NX⟩
          case measure =>
            have m1 := unveil MC
            have m2 := cellN_of (World.cell?_setCell_same (w := w5) (a := ⟨w.heap.size, m, none⟩) (v := .int .i64 ((c : Int) + 1)) cell5)
            rw [m1, m2]; omega
        · have AT := veil (show decide (dval ds < dval b) = true by simp; omega)
          have NX := veil (over_digit (a := a) (q := qs) (by have := unveil HN; omega) (by have := (unveil hQ).len; omega) (unveil AX) (unveil hv) x0)
          have ZZ := veil (show ∀ j, j < m → (qs.set m (c : Int)).getD j 0 = 0 by
            intro j hj
            have := unveil hz j (by omega)
            simp only [List.getD_eq_getElem?_getD, List.getElem?_set] at *
            rw [if_neg (by omega)]; exact this)
          have CMP := veil hcmp
          clear r0 q0 t0 x0 qc qcell hmq hcmp
          go_wp2_with fail
          refine (unveil AB).mono ?_
          rintro e w4 ⟨rfl, n4, hw4⟩
          rw [unveil AT]
          have R4 := veil (show RVal w w4 (.slice dao ds.length dcap) ds by rw [hw4]; exact (unveil R0).draws n4)
          have Q4 := veil (show QRow w w4 N (qs.set m (c : Int)) by rw [hw4]; exact (unveil Q0).draws n4)
          clear hw4
          go_wp2_with fail
          go_roundw
          case rel => exact ⟨m, by omega, by go_num, ds, _, unveil R4, unveil Q4, by have := unveil CMP; omega, unveil ZZ, unveil NX⟩
          case measure => simp [intOf]

end Go.Proofs.Ytjlnbhmiahegmaa
