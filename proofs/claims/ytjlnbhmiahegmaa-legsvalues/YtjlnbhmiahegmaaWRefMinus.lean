/-
  WALK: the document's answer (payoffref01): minus.
-/
import Derived.Test.YtjlnbhmiahegmaaWRef2
namespace Go.Proofs.Ytjlnbhmiahegmaa
open Go.RowKit

/-- One place of a difference. -/
theorem minus_step {a b ds : List Int} {k : Nat} {br br' da db d : Int} (hl : ds.length = k) (h : dval ds - ten k * br = dval (a.take k) - dval (b.take k)) (ea : a.getD k 0 = da) (eb : b.getD k 0 = db) (e : d - 10 * br' = da - db - br) :
    dval (ds ++ [d]) - ten (k + 1) * br' = dval (a.take (k + 1)) - dval (b.take (k + 1)) := by
  rw [dval_snoc, hl, dval_take_succ, dval_take_succ, ea, eb, ten_succ]
  have e1 : 10 * ten k * br' = ten k * (10 * br') := by rw [Int.mul_comm 10, Int.mul_assoc]
  have e2 : ten k * (d - 10 * br') = ten k * (da - db - br) := by rw [e]
  rw [Int.mul_sub, Int.mul_sub, Int.mul_sub] at e2
  omega
/-- At the end nothing is borrowed. -/
theorem minus_end {a b ds : List Int} {br : Int} (hd : Digs ds) (hl : ds.length = a.length) (hb : b.length ≤ a.length) (h : dval ds - ten a.length * br = dval (a.take a.length) - dval (b.take a.length)) (hge : dval b ≤ dval a) (b0 : 0 ≤ br) (b1 : br ≤ 1) :
    dval ds = dval a - dval b := by
  rw [dval_take_all a _ (Nat.le_refl _), dval_take_all b _ hb] at h
  have h2 := (dval_bd ds hd).2
  rw [hl] at h2
  have h3 : br = 0 ∨ br = 1 := by omega
  rcases h3 with rfl | rfl
  · simp at h; exact h
  · simp at h; omega

set_option maxHeartbeats 800000 in
theorem minus_any (va vb : Value) (a b : List Int) (w : World) (ha : Dg w va a) (hb : Dg w vb b) (la : a.length ≤ 400) (lb : b.length ≤ a.length) (hge : dval b ≤ dval a) :
    Calls Try.prog 81 #[va, vb] w fun e w' => ∃ v, e = .returned v ∧ Below w.heap.size w w' ∧ ∃ ds, Dg w' v ds ∧ dval ds = dval a - dval b ∧ Norm ds ∧ Fresh w.heap.size v := by
  obtain ⟨i0, hi, hz0, hz1, hz2⟩ := info_parts info3
  have HA := veil ha
  have HB := veil hb
  obtain ⟨a1, a2, ao, cap, rfl, ac, am, ar⟩ := ha
  obtain ⟨b1, b2, bo, cap', rfl, bc, bm, br⟩ := hb
  have A1 := veil a1
  have B1 := veil b1
  have FIN := veil (fun (ds : List Int) (br : Int) hd hl h b0 b1 => minus_end (a := a) (b := b) (ds := ds) (br := br) hd hl lb h hge b0 b1)
  have HC : ∀ i, i < a.length → ∃ p off, ao = some ⟨p, off, none⟩ ∧ p < w.heap.size ∧ w.cell? ⟨p, off + i, none⟩ = some (.int .i64 (a.getD i 0)) := by
    intro i hi
    rcases ar with h0 | ⟨p, off, h1, h2, h3⟩
    · omega
    · exact ⟨p, off, h1, h2, h3 i hi⟩
  have HC' := veil HC
  clear ar br a1 b1 ac bc a2 b2 hge HC
  go_enter Try.func81, Try.ntmps81
  go_wp2_with fail
  go_loopw [5, 6, 7] (fun o c i wr => ∃ k : Nat, k ≤ a.length ∧ i = .int .i64 k ∧ ∃ (br : Int) (ds : List Int), c = .int .i64 br ∧ 0 ≤ br ∧ br ≤ 1 ∧ ds.length = k ∧ Digs ds ∧ dval ds - ten k * br = dval (a.take k) - dval (b.take k) ∧
      wr.ownsRow w.heap.size 3 1 o ds.length (ds.map (Value.int .i64)) ∧ Below w.heap.size w wr) (fun _ _ i _ => a.length - (intOf i).toNat)
  case atStart => exact ⟨0, by omega, rfl, 0, [], rfl, by omega, by omega, rfl, digs_nil, by simp [dval], World.ownsRow_nil _ _ _ _, Below.refl _ _⟩
  case round =>
    obtain ⟨k, hk, rfl, br, ds, rfl, c0, c1, hlen0, hdig0, hval0, hown, hbel⟩ := hrel
    have hdig := veil hdig0
    have hval := veil hval0
    have hlen := veil hlen0
    have hl : ds.length ≤ k := by omega
    by_cases h1 : k < a.length
    · obtain ⟨p, off, rfl, hp, hcell⟩ := unveil HC' k h1
      have hcr : wr.cell? ⟨p, off + k, none⟩ = some (.int .i64 (a.getD k 0)) := (hbel.cell (p := ⟨p, off + k, none⟩) hp).trans hcell
      have CB := veil (fun n => at_any _ b k (wr.drewN n) (by omega) (((unveil HB).later hbel).draws n))
      have ba := unveil A1 k
      have bb := unveil B1 k
      have V := veil (fun (br' d : Int) e => minus_step (br' := br') (d := d) hlen0 hval0 rfl rfl e)
      clear hdig0 hval0 hlen0 hcell
      generalize a.getD k 0 = da at *
      generalize b.getD k 0 = db at *
      obtain ⟨ba1, ba2⟩ := ba
      obtain ⟨bb1, bb2⟩ := bb
      by_cases hs : da - db - br < 0
      · go_wp2_with fail
        go_quiet ((go_at_call 83; exact Calls.quiet_of_same (unveil CB _)))
        have hown2 : (wr.drewN nq).ownsRow w.heap.size 3 1 u5 ds.length (ds.map (Value.int .i64)) := hown
        have hbel2 : Below w.heap.size w (wr.drewN nq) := below_nq hbel nq
        clear hown hbel CB hcr
        generalize wr.drewN nq = wq at *
        go_wp2_with (at_builtin; refine wpList_append_own _ rfl _ _ 26 rfl w.heap.size 3 i0 (.int .i64 0) 1 8 Try.underlying26 hi hz0 hz1 hz2 rfl (by decide) _ _ _ rfl (hown2.alloc _) ⟨wq.heap.size, 0, none⟩ 1 1 [.int .i64 (da - db - br + 10)] rfl rfl ?c1 ?c2 ?c3 ?c4 ?c5 ?_)
        case c1 =>
          intro j u hj
          match j, hj with
          | 0, hj => simp at hj; subst hj; simp [Addr.add]
        case c2 => intro u hu; simp at hu; subst hu; rfl
        case c3 => unfold maxLen; omega
        case c4 => omega
        case c5 => have := hbel2.size; simp; omega
        intro v' w1 hown' hgrow _
        have R1 := veil (own_snoc rfl hown')
        have R2 := veil (((hbel2.alloc hbel2.size _).grown hgrow (by have := hbel2.size; simp; omega) (fun k e => (hown2.lt k e).1)))
        clear hown' hgrow hown2 hbel2
        go_wp2_with fail
        go_roundw
        case rel => exact ⟨k + 1, by omega, by go_num, 1, _, rfl, by omega, by omega, by simp [unveil hlen], digs_snoc (unveil hdig) (by omega) (by omega), unveil V 1 (da - db - br + 10) (by omega), unveil R1, unveil R2⟩
        case measure => simp [intOf]; omega
      · have hs' : decide (da - db - br < 0) = false := by simp; omega
        go_wp2_with fail
        go_quiet ((go_at_call 83; exact Calls.quiet_of_same (unveil CB _)))
        have hown2 : (wr.drewN nq).ownsRow w.heap.size 3 1 u5 ds.length (ds.map (Value.int .i64)) := hown
        have hbel2 : Below w.heap.size w (wr.drewN nq) := below_nq hbel nq
        clear hown hbel CB hcr
        generalize wr.drewN nq = wq at *
        go_wp2_with (at_builtin; refine wpList_append_own _ rfl _ _ 26 rfl w.heap.size 3 i0 (.int .i64 0) 1 8 Try.underlying26 hi hz0 hz1 hz2 rfl (by decide) _ _ _ rfl (hown2.alloc _) ⟨wq.heap.size, 0, none⟩ 1 1 [.int .i64 (da - db - br)] rfl rfl ?c1 ?c2 ?c3 ?c4 ?c5 ?_)
        case c1 =>
          intro j u hj
          match j, hj with
          | 0, hj => simp at hj; subst hj; simp [Addr.add]
        case c2 => intro u hu; simp at hu; subst hu; rfl
        case c3 => unfold maxLen; omega
        case c4 => omega
        case c5 => have := hbel2.size; simp; omega
        intro v' w1 hown' hgrow _
        have R1 := veil (own_snoc rfl hown')
        have R2 := veil (((hbel2.alloc hbel2.size _).grown hgrow (by have := hbel2.size; simp; omega) (fun k e => (hown2.lt k e).1)))
        clear hown' hgrow hown2 hbel2
        go_wp2_with fail
        go_roundw
        case rel => exact ⟨k + 1, by omega, by go_num, 0, _, rfl, by omega, by omega, by simp [unveil hlen], digs_snoc (unveil hdig) (by omega) (by omega), unveil V 0 (da - db - br) (by omega), unveil R1, unveil R2⟩
        case measure => simp [intOf]; omega
    · have hka : k = a.length := by omega
      have F := veil (unveil FIN ds br hdig0 (by omega) (by rw [← hka]; exact hval0) c0 c1)
      subst hka
      clear hdig0 hval0 hlen0
      go_wp2_with fail
      refine (trim_any _ ds wr (dg_of_own hown (unveil hdig) (by omega))).mono ?_
      have FR := veil (fresh_of_own hown)
      rintro e w' ⟨v, rfl, rfl, dt, d1, d2, d3, d4, d5⟩
      go_wp2_with fail
      go_ret
      exact ⟨_, rfl, hbel, dt, d1, d2.trans (unveil F), d3, d5 _ (unveil FR)⟩

end Go.Proofs.Ytjlnbhmiahegmaa
