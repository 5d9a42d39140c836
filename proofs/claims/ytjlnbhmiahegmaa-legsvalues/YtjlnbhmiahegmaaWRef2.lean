/-
  WALKS: the document's answer (payoffref01): plus, minus.
-/
import Derived.Test.YtjlnbhmiahegmaaWRef1
namespace Go.Proofs.Ytjlnbhmiahegmaa
open Go.RowKit

theorem info3 : (Try.prog.info? 3).map (fun i => (i.zero, i.size, i.bytes)) = some (some (.int .i64 0), 1, 8) := by kernel_rfl

/-- What the call itself has gathered reads as digits. -/
theorem dg_of_own {w : World} {B : Nat} {v : Value} {ds : List Int} (h : w.ownsRow B 3 1 v ds.length (ds.map (Value.int .i64))) (hd : Digs ds) (hl : ds.length ≤ 1000) : Dg w v ds := by
  refine ⟨hd, hl, ?_⟩
  obtain ⟨_, h2⟩ := id h
  rcases h2 with ⟨rfl, h0⟩ | ⟨g, cap, cur, rfl, hb, hg, hc, hm, hs, ht⟩
  · exact ⟨none, 0, by rw [h0], by omega, ⟨by unfold maxLen; omega, fun _ => rfl⟩, Or.inl h0⟩
  · refine ⟨some ⟨g, 0, none⟩, cap, rfl, hc, ⟨hm, fun e => by cases e⟩, Or.inr ⟨g, 0, rfl, ?_, fun i hi => ?_⟩⟩
    · exact (h.lt g rfl).2
    · rw [Nat.zero_add, h.cellAt i (by omega)]
      simp [hi]

theorem fresh_of_own {w : World} {B n : Nat} {v : Value} {xs : List Value} (h : w.ownsRow B 3 1 v n xs) : Fresh B v := fun p m c e _ => by
  subst e
  exact (h.lt p.block rfl).1

/-- A digit more. -/
theorem own_snoc {w : World} {B : Nat} {v : Value} {ds : List Int} {d : Int} {n : Nat} (hn : ds.length = n) (h : w.ownsRow B 3 1 v (n + 1) (ds.map (Value.int .i64) ++ [.int .i64 d])) :
    w.ownsRow B 3 1 v (ds ++ [d]).length ((ds ++ [d]).map (Value.int .i64)) := by
  subst hn; simpa using h

/-- 'out = append(out, d)' of a list of digits that the call itself gathers. -/
theorem wp_digit {ops : Array Oper} {rest : List Oper} {o : Oper} {a : Act} {Q : Exit → Act → World → Prop} (w : World) (d : Int) (hgd : o.guard = none) (s x : Operand)
    (ho : o.op = .call { callee := .builtin .append, args := #[s, x], argTypes := #[26, 26] }) (base : Nat) (v : Value) (ds : List Int) (hs : a.eval s = v)
    (hx : a.eval x = .slice (some ⟨w.heap.size, 0, none⟩) 1 1) (hown : w.ownsRow base 3 1 v ds.length (ds.map (Value.int .i64))) (hl : ds.length ≤ 1000) (hb : base ≤ w.heap.size)
    (h : ∀ v' w', w'.ownsRow base 3 1 v' (ds ++ [d]).length ((ds ++ [d]).map (Value.int .i64)) → (w.alloc (.cells #[.int .i64 d] 3)).grownBy w' v.ownBlock → wpList Try.prog ops Q rest (a.put o.dst v') w') :
    wpList Try.prog ops Q (o :: rest) a (w.alloc (.cells #[.int .i64 d] 3)) := by
  obtain ⟨i0, hi, hz0, hz1, hz2⟩ := info_parts info3
  refine wpList_append_own _ hgd s x 26 ho base 3 i0 (.int .i64 0) 1 8 Try.underlying26 hi hz0 hz1 hz2 rfl (by decide) v _ _ hs (hown.alloc _) ⟨w.heap.size, 0, none⟩ 1 1 [.int .i64 d] hx rfl ?_ ?_ (by unfold maxLen; omega) (by omega) (by simp; omega) ?_
  · intro j u hj
    match j, hj with
    | 0, hj => simp at hj; subst hj; simp [Addr.add]
  · intro u hu; simp at hu; subst hu; rfl
  · intro v' w' h1 h2 _
    exact h v' w' (own_snoc rfl h1) h2

/-- One place of a sum. -/
theorem plus_step {a b ds : List Int} {k : Nat} {cc da db : Int} (hl : ds.length = k) (h : dval ds + ten k * cc = dval (a.take k) + dval (b.take k)) (ea : a.getD k 0 = da) (eb : b.getD k 0 = db) :
    dval (ds ++ [(da + db + cc) % 10]) + ten (k + 1) * ((da + db + cc) / 10) = dval (a.take (k + 1)) + dval (b.take (k + 1)) := by
  rw [dval_snoc, hl, dval_take_succ, dval_take_succ, ea, eb, ten_succ]
  have e1 : 10 * ten k * ((da + db + cc) / 10) = ten k * (10 * ((da + db + cc) / 10)) := by rw [Int.mul_comm 10, Int.mul_assoc]
  have e2 : ten k * ((da + db + cc) % 10) + ten k * (10 * ((da + db + cc) / 10)) = ten k * (da + db + cc) := by
    rw [← Int.mul_add]; congr 1; omega
  have e3 : ten k * (da + db + cc) = ten k * da + ten k * db + ten k * cc := by rw [Int.mul_add, Int.mul_add]
  omega

set_option maxHeartbeats 800000 in
theorem plus_any (va vb : Value) (a b : List Int) (w : World) (ha : Dg w va a) (hb : Dg w vb b) (M : Nat) (la : a.length ≤ M) (lb : b.length ≤ M) (hM : M ≤ 400) :
    Calls Try.prog 79 #[va, vb] w fun e w' => ∃ v, e = .returned v ∧ Below w.heap.size w w' ∧ ∃ ds, Dg w' v ds ∧ dval ds = dval a + dval b ∧ Norm ds ∧ Fresh w.heap.size v := by
  obtain ⟨i0, hi, hz0, hz1, hz2⟩ := info_parts info3
  have HA := veil ha
  have HB := veil hb
  obtain ⟨a1, a2, ao, cap, rfl, ac, am, ar⟩ := ha
  obtain ⟨b1, b2, bo, cap', rfl, bc, bm, br⟩ := hb
  have A1 := veil a1
  have B1 := veil b1
  have TA := veil (fun k h => dval_take_all a k h)
  have TB := veil (fun k h => dval_take_all b k h)
  clear ar br a1 b1 ac bc a2 b2
  go_enter Try.func79, Try.ntmps79
  go_wp2_with fail
  go_loopw [5, 6, 7] (fun o c i wr => ∃ k : Nat, k ≤ M + 1 ∧ i = .int .i64 k ∧ ∃ (cc : Int) (ds : List Int), c = .int .i64 cc ∧ 0 ≤ cc ∧ cc ≤ 1 ∧ ds.length = k ∧ Digs ds ∧ dval ds + ten k * cc = dval (a.take k) + dval (b.take k) ∧ (k = M + 1 → cc = 0) ∧
      wr.ownsRow w.heap.size 3 1 o ds.length (ds.map (Value.int .i64)) ∧ Below w.heap.size w wr) (fun _ _ i _ => M + 1 - (intOf i).toNat)
  case atStart => exact ⟨0, by omega, rfl, 0, [], rfl, by omega, by omega, rfl, digs_nil, by simp [dval], fun _ => rfl, World.ownsRow_nil _ _ _ _, Below.refl _ _⟩
  case round =>
    obtain ⟨k, hk, rfl, cc, ds, rfl, c0, c1, hlen0, hdig0, hval0, htop0, hown, hbel⟩ := hrel
    have hdig := veil hdig0
    have hval := veil hval0
    have htop := veil htop0
    have CA := veil (at_keep _ a k wr (by omega) ((unveil HA).later hbel))
    have CB := veil (at_keep _ b k wr (by omega) ((unveil HB).later hbel))
    have ba := unveil A1 k
    have bb := unveil B1 k
    have V := veil (plus_step hlen0 hval0 rfl rfl)
    have EA := veil (fun (h : ¬ k < a.length) => show a.getD k 0 = 0 by simp [List.getElem?_eq_none (Nat.le_of_not_lt h)])
    have EB := veil (fun (h : ¬ k < b.length) => show b.getD k 0 = 0 by simp [List.getElem?_eq_none (Nat.le_of_not_lt h)])
    have hlen := veil hlen0
    have hl : ds.length ≤ k := by omega
    clear hdig0 hval0 htop0 hlen0
    generalize a.getD k 0 = da at *
    generalize b.getD k 0 = db at *
    obtain ⟨ba1, ba2⟩ := ba
    obtain ⟨bb1, bb2⟩ := bb
    by_cases h1 : k < a.length
    · go_wp2_with fail
      refine (unveil CA).mono ?_; rintro e w' ⟨rfl, rfl⟩
      go_wp2_with fail
      refine (unveil CB).mono ?_; rintro e w' ⟨rfl, rfl⟩
      go_wp2_with (at_builtin; refine wpList_append_own _ rfl _ _ 26 rfl w.heap.size 3 i0 (.int .i64 0) 1 8 Try.underlying26 hi hz0 hz1 hz2 rfl (by decide) _ _ _ rfl (hown.alloc _) ⟨wr.heap.size, 0, none⟩ 1 1 [.int .i64 ((da + db + cc) % 10)] rfl rfl ?c1 ?c2 ?c3 ?c4 ?c5 ?_)
      case c1 =>
        intro j u hj
        match j, hj with
        | 0, hj => simp at hj; subst hj; simp [Addr.add]
      case c2 => intro u hu; simp at hu; subst hu; rfl
      case c3 => unfold maxLen; omega
      case c4 => omega
      case c5 => have := hbel.size; simp; omega
      intro v' w1 hown' hgrow _
      have R1 := veil (own_snoc rfl hown')
      have R2 := veil (((hbel.alloc hbel.size _).grown hgrow (by have := hbel.size; simp; omega) (fun k e => (hown.lt k e).1)))
      clear hown' hgrow hown hbel
      go_wp2_with fail
      go_roundw
      case rel => exact ⟨k + 1, by omega, by go_num, _, _, rfl, by omega, by omega, by simp [unveil hlen], digs_snoc (unveil hdig) (by omega) (by omega), unveil V, by omega, unveil R1, unveil R2⟩
      case measure => simp [intOf]; omega
    have h1' : decide ((k : Int) < (a.length : Int)) = false := by simp; omega
    by_cases h2 : k < b.length
    · go_wp2_with fail
      refine (unveil CA).mono ?_; rintro e w' ⟨rfl, rfl⟩
      go_wp2_with fail
      refine (unveil CB).mono ?_; rintro e w' ⟨rfl, rfl⟩
      go_wp2_with (at_builtin; refine wpList_append_own _ rfl _ _ 26 rfl w.heap.size 3 i0 (.int .i64 0) 1 8 Try.underlying26 hi hz0 hz1 hz2 rfl (by decide) _ _ _ rfl (hown.alloc _) ⟨wr.heap.size, 0, none⟩ 1 1 [.int .i64 ((da + db + cc) % 10)] rfl rfl ?c1 ?c2 ?c3 ?c4 ?c5 ?_)
      case c1 =>
        intro j u hj
        match j, hj with
        | 0, hj => simp at hj; subst hj; simp [Addr.add]
      case c2 => intro u hu; simp at hu; subst hu; rfl
      case c3 => unfold maxLen; omega
      case c4 => omega
      case c5 => have := hbel.size; simp; omega
      intro v' w1 hown' hgrow _
      have R1 := veil (own_snoc rfl hown')
      have R2 := veil (((hbel.alloc hbel.size _).grown hgrow (by have := hbel.size; simp; omega) (fun k e => (hown.lt k e).1)))
      clear hown' hgrow hown hbel
      go_wp2_with fail
      go_roundw
      case rel => exact ⟨k + 1, by omega, by go_num, _, _, rfl, by omega, by omega, by simp [unveil hlen], digs_snoc (unveil hdig) (by omega) (by omega), unveil V, by omega, unveil R1, unveil R2⟩
      case measure => simp [intOf]; omega
    have h2' : decide ((k : Int) < (b.length : Int)) = false := by simp; omega
    have za : da ≤ 0 := by have := unveil EA h1; omega
    have zb : db ≤ 0 := by have := unveil EB h2; omega
    by_cases h3 : 0 < cc
    · have hkM : k ≤ M := by
        have := unveil htop
        omega
      go_wp2_with fail
      refine (unveil CA).mono ?_; rintro e w' ⟨rfl, rfl⟩
      go_wp2_with fail
      refine (unveil CB).mono ?_; rintro e w' ⟨rfl, rfl⟩
      go_wp2_with (at_builtin; refine wpList_append_own _ rfl _ _ 26 rfl w.heap.size 3 i0 (.int .i64 0) 1 8 Try.underlying26 hi hz0 hz1 hz2 rfl (by decide) _ _ _ rfl (hown.alloc _) ⟨wr.heap.size, 0, none⟩ 1 1 [.int .i64 ((da + db + cc) % 10)] rfl rfl ?c1 ?c2 ?c3 ?c4 ?c5 ?_)
      case c1 =>
        intro j u hj
        match j, hj with
        | 0, hj => simp at hj; subst hj; simp [Addr.add]
      case c2 => intro u hu; simp at hu; subst hu; rfl
      case c3 => unfold maxLen; omega
      case c4 => omega
      case c5 => have := hbel.size; simp; omega
      intro v' w1 hown' hgrow _
      have R1 := veil (own_snoc rfl hown')
      have R2 := veil (((hbel.alloc hbel.size _).grown hgrow (by have := hbel.size; simp; omega) (fun k e => (hown.lt k e).1)))
      clear hown' hgrow hown hbel
      go_wp2_with fail
      go_roundw
      case rel => exact ⟨k + 1, by omega, by go_num, _, _, rfl, by omega, by omega, by simp [unveil hlen], digs_snoc (unveil hdig) (by omega) (by omega), unveil V, by omega, unveil R1, unveil R2⟩
      case measure => simp [intOf]; omega
    · have h3' : decide (0 < cc) = false := by simp; omega
      have hc : cc = 0 := by omega
      have F := veil (show dval ds = dval a + dval b by
        have := unveil hval
        rw [hc, unveil TA k (by omega), unveil TB k (by omega)] at this
        simpa using this)
      clear hc V
      go_wp2_with fail
      refine (trim_any _ ds wr (dg_of_own hown (unveil hdig) (by omega))).mono ?_
      have FR := veil (fresh_of_own hown)
      rintro e w' ⟨v, rfl, rfl, dt, d1, d2, d3, d4, d5⟩
      go_wp2_with fail
      go_ret
      exact ⟨_, rfl, hbel, dt, d1, d2.trans (unveil F), d3, d5 _ (unveil FR)⟩

end Go.Proofs.Ytjlnbhmiahegmaa
