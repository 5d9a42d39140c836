/-
  WALKS: what an expression may read: the document's Reads; wellShaped.
-/
import Derived.Test.YtmhfegdjcdnneaaWX2
import Derived.Test.YtmhfegdjcdnneaaWX7
namespace Go.Proofs.Ytmhfegdjcdnneaa
open Go.RowKit
set_option linter.unusedVariables false
set_option linter.unusedSimpArgs false

mutual
/-- The observations that an expression may read. -/
def Xt.rds : Xt → List (Int × Int)
  | .mk op num day ks => if shp op = (ks.length : Int) then (if op = 5 then [(num, day)] else Xt.rdss ks) else []
def Xt.rdss : List Xt → List (Int × Int)
  | [] => []
  | e :: r => e.rds ++ Xt.rdss r
end
theorem Xt.rdss_take : ∀ (l : List Xt) (k : Nat), k < l.length → Xt.rdss (l.take (k + 1)) = Xt.rdss (l.take k) ++ (l.getD k default).rds
  | e :: r, 0, _ => by simp [Xt.rdss]
  | e :: r, k + 1, h => by
    have := Xt.rdss_take r k (by simpa using h)
    simp only [List.take_succ_cons, Xt.rdss, List.getD_cons_succ] at this ⊢
    rw [this, List.append_assoc]
theorem Xt.rds_len (e : Xt) : e.rds.length ≤ e.n := by
  refine Xt.ind (p := fun e => e.rds.length ≤ e.n) (fun e ih => ?_) e
  cases e with
  | mk op num day ks =>
    have key : ∀ l : List Xt, (∀ k ∈ l, k.rds.length ≤ k.n) → (Xt.rdss l).length ≤ Xt.ns l := by
      intro l
      induction l with
      | nil => intro _; simp [Xt.rdss]
      | cons a r ihr => intro h; have h1 := h a (by simp); have h2 := ihr (fun k hk => h k (by simp [hk])); simp only [Xt.rdss, Xt.ns, List.length_append]; omega
    have := key ks ih
    simp only [Xt.rds, Xt.n]
    split
    · split
      · simp
      · omega
    · simp
theorem Xt.rdss_len (l : List Xt) : (Xt.rdss l).length ≤ Xt.ns l := by
  induction l with
  | nil => simp [Xt.rdss]
  | cons a r ih => have := a.rds_len; simp only [Xt.rdss, Xt.ns, List.length_append]; omega
theorem Xt.rdss_pre : ∀ (l : List Xt) (k : Nat), Xt.rdss (l.take k) <+: Xt.rdss l
  | [], k => by simp [Xt.rdss]
  | e :: r, 0 => by simp [Xt.rdss]
  | e :: r, k + 1 => by
    obtain ⟨t, ht⟩ := Xt.rdss_pre r k
    exact ⟨t, by simp only [List.take_succ_cons, Xt.rdss, List.append_assoc, ht]⟩
def SyP (b : Bool) (w : World) (e : Ending) (w' : World) : Prop := e = .returned (.bool b) ∧ ∃ n, w' = w.drewN n
/-- Is it well shaped? -/
theorem wellShaped_any (p q : Nat) (op : Int) (ka : Option Addr) (n kc : Nat) (w : World) (c0 : w.cell? ⟨p, q, none⟩ = some (.int .i64 op)) (c3 : w.cell? ⟨p, q + 3, none⟩ = some (.slice ka n kc)) :
    Calls Try.prog 47 #[.pointer (some ⟨p, q, none⟩)] w fun e w' => e = .returned (.bool (decide ((n : Int) = shp op))) ∧ w' = w.drew := by
  go_enter Try.func47, Try.ntmps47
  go_wp2
  go_region_held3 (fun w' => w'.cell? ⟨p, q, none⟩ = some (.int .i64 op) ∧ w'.cell? ⟨p, q + 3, none⟩ = some (.slice ka n kc)) (refine ⟨?_, ?_⟩ <;> first | assumption | (go_simp; done))
    (first | (go_at_call 62; refine (kidsOf_any _ _).mono ?_; rintro e w' ⟨rfl, rfl⟩))
  all_goals go_wp2
  all_goals go_ret
  all_goals exact ⟨rfl, rfl⟩
/-- The cells of a list of reads. -/
def rcs (l : List (Int × Int)) : List Value := l.flatMap (fun p => [.int .i64 p.1, .int .i64 p.2])
theorem rcs_len (l : List (Int × Int)) : (rcs l).length = l.length * 2 := by
  induction l with
  | nil => rfl
  | cons p r ih => simp [rcs] at ih ⊢; omega
theorem rcs_append (a b : List (Int × Int)) : rcs (a ++ b) = rcs a ++ rcs b := by simp [rcs]
theorem rcs_one (l : List (Int × Int)) : ∀ u ∈ rcs l, u.oneCell' = true := by
  intro u hu
  simp only [rcs, List.mem_flatMap] at hu
  obtain ⟨p, _, hp⟩ := hu
  simp at hp
  rcases hp with rfl | rfl <;> rfl
theorem infoRd : (Try.prog.info? 35).map (fun i => (i.zero, i.size, i.bytes)) = some (some (.agg #[.int .i64 0, .int .i64 0]), 2, 16) := by kernel_rfl
def OwR (w : World) (B : Nat) (v : Value) (l : List (Int × Int)) : Prop := w.ownsRow B 35 2 v l.length (rcs l)
/-- 'l = append(l, more...)' of reads. -/
theorem wp_reads {ops : Array Oper} {rest : List Oper} {o : Oper} {a : Act} {Q : Exit → Act → World → Prop} (w : World) (hgd : o.guard = none) (s y : Operand)
    (ho : o.op = .call { callee := .builtin .append, args := #[s, y], argTypes := #[27, 27] }) (B C : Nat) (v u : Value) (l k : List (Int × Int)) (hs : a.eval s = v) (hy : a.eval y = u)
    (hv : OwR w B v l) (hu : OwR w C u k) (hl : l.length + k.length ≤ 4398046511000) (hb : B ≤ w.heap.size)
    (h : ∀ v' w', OwR w' B v' (l ++ k) → w.grownBy w' v.ownBlock → wpList Try.prog ops Q rest (a.put o.dst v') w') : wpList Try.prog ops Q (o :: rest) a w := by
  obtain ⟨i0, hi, hz0, hz1, hz2⟩ := info_parts infoRd
  have hlen : k.length * 2 = (rcs k).length := (rcs_len k).symm
  rcases hu.2 with ⟨rfl, h0⟩ | ⟨g, cap, cur, rfl, e2, e3, e4, e5, e6, e7⟩
  · have : k = [] := List.length_eq_zero_iff.1 h0
    subst this
    exact wpList_append_own_none hgd s y 27 ho B 35 i0 2 Try.underlying27 hi v l.length (rcs l) hs hv hy (h v w (by rw [List.append_nil]; exact hv) ⟨rfl, rfl, rfl, Nat.le_refl _, fun _ _ _ => rfl⟩)
  · refine wpList_append_own _ hgd s y 27 ho B 35 i0 (.agg #[.int .i64 0, .int .i64 0]) 2 16 Try.underlying27 hi hz0 hz1 hz2 rfl (by decide) v _ _ hs hv ⟨g, 0, none⟩ k.length cap (rcs k) hy (rcs_len k) ?_ (rcs_one k) (by unfold maxLen; omega) (by omega) hb ?_
    · intro j u' hj
      have hj' : j < k.length * 2 := by rw [hlen]; exact (List.getElem?_eq_some_iff.1 hj).1
      rw [Addr.add_lit, Nat.zero_add]
      simp only [World.cell?, e3]
      rw [← e7, List.getElem?_take_of_lt hj'] at hj
      simpa using hj
    · intro v' w' h1 h2 _
      refine h v' w' ?_ h2
      unfold OwR
      rw [rcs_append, List.length_append]
      exact h1
def RdP (e : Xt) (w : World) (e' : Ending) (w' : World) : Prop := ∃ v, e' = .returned v ∧ OwR w' w.heap.size v e.rds ∧ Below w.heap.size w w'
theorem OwR.later {w w' : World} {B C : Nat} {v : Value} {l : List (Int × Int)} (h : OwR w B v l) (b : Below w.heap.size w w') (hC : C ≤ B) : OwR w' C v l := by
  refine ⟨h.1, ?_⟩
  rcases h.2 with h | ⟨g, cap, cur, rfl, e2, e3, e4⟩
  · exact .inl h
  · exact .inr ⟨g, cap, cur, rfl, by omega, (b.block g (Array.getElem?_eq_some_iff.1 e3).1).trans e3, e4⟩
set_option maxHeartbeats 1000000 in
theorem rReads_any {w0 : World} {e : Xt} {vs : List Value} (hE : XV w0 e vs) : ∀ (w : World), Below w0.heap.size w0 w → e.n ≤ 1048576 →
    Calls Try.prog 9 #[.agg vs.toArray] w (RdP e w) := by
  induction hE with
  | @mk op num day kids ka kc V wop wnum wday hk hn hr hkids ih =>
    intro w hB hN
    obtain ⟨w1, hw1⟩ : ∃ w1, w.alloc (.cells #[.int .i64 op, .int .i64 num, .int .i64 day, .slice ka kids.length kc] 24) = w1 := ⟨_, rfl⟩
    obtain ⟨b1, x1, z1⟩ := NW.is hw1
    have B1 := Lib.hid b1
    have X1 := Lib.hid x1
    have IH := Lib.hid ih
    have HR := Lib.hid hr
    have HK := Lib.hid hkids
    have HB := Lib.hid hB
    have N1 := Lib.hid (show 1 + Xt.ns kids ≤ 1048576 by simpa [Xt.n] using hN)
    have c0 := x1.c0
    have c1 := x1.c1
    have c2 := x1.c2
    have c3 := x1.c3
    clear b1 x1 ih hr hkids hB hN
    by_cases hs : shp op = (kids.length : Int)
    · by_cases h5 : op = 5
      · subst h5
        have ER : (Xt.mk 5 num day kids).rds = [(num, day)] := by simp only [Xt.rds, if_pos hs, if_true]
        have hs1 : (shp 5 != (kids.length : Int)) = false := by simpa using hs
        have hs2 : (shp 5 == (kids.length : Int)) = true := by simpa using hs
        clear hs
        go_enter Try.func9, Try.ntmps9
        go_wp2
        try rw [hw1]
        go_region_held3 (fun w' => w'.cell? ⟨w.heap.size, 0, none⟩ = some (.int .i64 5) ∧ w'.cell? ⟨w.heap.size, 3, none⟩ = some (.slice ka kids.length kc)) (refine ⟨?_, ?_⟩ <;> first | assumption | (go_simp; done))
          (first | (go_at_call 31; refine (shape_any _ _).mono ?_; rintro e w' ⟨rfl, rfl⟩))
        all_goals go_wp2
        all_goals go_ret
        all_goals exact ⟨_, rfl, by rw [ER]; exact ⟨rfl, .inr ⟨_, 1, #[.int .i64 num, .int .i64 day], rfl, by omega, by rw [← z1]; exact heap_alloc_new w1 _, Nat.le_refl _, by unfold maxLen; omega, rfl, rfl⟩⟩, (B1.out.alloc B1.out.size _).drew⟩
      · have ER := Lib.hid (show (Xt.mk op num day kids).rds = Xt.rdss kids by simp only [Xt.rds, if_pos hs, if_neg h5])
        have hs1 : (shp op != (kids.length : Int)) = false := by simpa using hs
        have hs2 : (shp op == (kids.length : Int)) = true := by simpa using hs
        have h51 : (op == 5) = false := by simpa using h5
        clear hs
        go_enter Try.func9, Try.ntmps9
        go_wp2
        try rw [hw1]
        go_region_held3 (fun w' => w'.cell? ⟨w.heap.size, 0, none⟩ = some (.int .i64 op) ∧ w'.cell? ⟨w.heap.size, 3, none⟩ = some (.slice ka kids.length kc)) (refine ⟨?_, ?_⟩ <;> first | assumption | (go_simp; done))
          (first | (go_at_call 31; refine (shape_any _ _).mono ?_; rintro e w' ⟨rfl, rfl⟩))
        go_wp2
        go_loopw [3, 4] (fun v t wr => ∃ (k : Nat), k ≤ kids.length ∧ t = .int .i64 k ∧ OwR wr w1.heap.size v (Xt.rdss (kids.take k)) ∧ Below w1.heap.size w1 wr) (fun _ t _ => kids.length - (intOf t).toNat)
        case atStart => exact ⟨0, by omega, rfl, World.ownsRow_nil _ _ _ _, (Below.refl _ _).drew⟩
        case round =>
          rename World => wr
          obtain ⟨k, hk, rfl, hO, hBr⟩ := hrel
          have OO := Lib.hid hO
          have BQ := Lib.hid hBr
          have BR := Lib.hid (B1.out.trans (hBr.mono B1.out.size))
          have d3 := (X1.out.later hBr).c3
          clear hO hBr
          by_cases kl : k < kids.length
          · have kc : (k : Int) < (kids.length : Int) := by omega
            have BW := Lib.hid (HB.out.trans (BR.out.mono HB.out.size))
            obtain ⟨x, of, rfl, hx, hc⟩ := HR.out.at BW.out (by omega)
            obtain ⟨v0, v1, v2, v3, hv⟩ := (HK.out k kl).four
            have e0 := hc k kl 0 (by omega)
            have e1 := hc k kl 1 (by omega)
            have e2 := hc k kl 2 (by omega)
            have e3 := hc k kl 3 (by omega)
            have NK : (kids.getD k default).n + Xt.ns (kids.take k) ≤ 1048576 := by have := N1.out; have := Xt.ns_take kids k kl; have := Xt.ns_le_take kids (k + 1); omega
            have I1 := IH.out k kl wr BW.out (by omega)
            rw [hv] at e0 e1 e2 e3 I1
            simp only [List.getD_cons_succ, List.getD_cons_zero, Nat.add_zero] at e0 e1 e2 e3
            have IQ := Lib.hid I1
            have RT := Lib.hid (Xt.rdss_take kids k kl)
            have RB := Lib.hid (show (Xt.rdss (kids.take k)).length + ((kids.getD k default).rds).length ≤ 4398046511000 by
              have h1 := (kids.getD k default).rds_len
              have h2 := (Xt.mk 0 0 0 (kids.take k)).rds_len
              have h3 := (Xt.rdss_len (kids.take k))
              omega)
            clear hc hv I1
            go_wp2_with fail
            go_at_call 9
            refine IQ.out.mono ?_
            rintro e' w5 ⟨u, rfl, ho5, hb5⟩
            have O5 := Lib.hid ho5
            have V5 := Lib.hid (OO.out.later hb5 (Nat.le_refl _))
            have B5 := Lib.hid (BQ.out.trans (hb5.mono BQ.out.size))
            clear ho5 hb5
            go_wp2_with (at_builtin; refine wp_reads _ rfl _ _ rfl w1.heap.size wr.heap.size _ _ _ _ rfl rfl V5.out O5.out RB.out B5.out.size ?_; intro v' w6 h1 h2; have O6 := Lib.hid h1; have B6 := Lib.hid (B5.out.grown h2 B5.out.size (fun j e => (V5.out.lt j e).1)); clear h1 h2)
            exact ⟨⟨k + 1, by omega, by simp, by rw [RT.out]; exact O6.out, B6.out⟩, by simp [intOf]; omega⟩
          · obtain rfl : k = kids.length := by omega
            go_wp2
            go_ret
            exact ⟨_, rfl, by rw [ER.out]; have := OO.out; rw [List.take_length] at this; exact this.later (Below.refl _ _) B1.out.size, BR.out⟩
    · have ER : (Xt.mk op num day kids).rds = [] := by simp only [Xt.rds, if_neg hs]
      have hs1 : (shp op != (kids.length : Int)) = true := by simpa using hs
      have hs2 : (shp op == (kids.length : Int)) = false := by simpa using hs
      go_enter Try.func9, Try.ntmps9
      go_wp2
      try rw [hw1]
      go_region_held3 (fun w' => w'.cell? ⟨w.heap.size, 0, none⟩ = some (.int .i64 op) ∧ w'.cell? ⟨w.heap.size, 3, none⟩ = some (.slice ka kids.length kc)) (refine ⟨?_, ?_⟩ <;> first | assumption | (go_simp; done))
        (first | (go_at_call 31; refine (shape_any _ _).mono ?_; rintro e w' ⟨rfl, rfl⟩))
      all_goals go_wp2
      all_goals go_ret
      all_goals exact ⟨_, rfl, by rw [ER]; exact World.ownsRow_nil _ _ _ _, B1.out.drew⟩
end Go.Proofs.Ytmhfegdjcdnneaa
