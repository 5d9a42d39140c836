/-
  WALK: OctetStay; a copy of bytes by append; lists of calls in memory.
-/
import Derived.Test.YtdbjdieegocdfaaDoorWOct6
import Derived.Test.YtdbjdieegocdfaaDoorOpenOp
namespace Go.Proofs.YtdbjdieegocdfaaDoor
open Go.RowKit
set_option linter.unusedVariables false
set_option linter.unusedSimpArgs false

/-- 'append(own, bytes...)'. -/
theorem wp_joinB {ops : Array Oper} {rest : List Oper} {o : Oper} {a : Act} {Q : Exit → Act → World → Prop} (w : World) (hgd : o.guard = none) (s x : Operand)
    (ho : o.op = .call { callee := .builtin .append, args := #[s, x], argTypes := #[25, 25] }) (B : Nat) (v : Value) (n : Nat) (xs : List Int) (hs : a.eval s = v)
    (ad : Option Addr) (m c : Nat) (ys : List Int) (hx : a.eval x = .slice ad m c) (hown : Own w B v n xs) (hbl : BL w ad m ys) (h0 : ad = none → m = 0 ∧ c = 0) (hl : n + m ≤ 140737488355328) (hb : B ≤ w.heap.size)
    (h : ∀ v' w', Ext B w v n xs w' v' (n + m) (xs ++ ys) → wpList Tryd.prog ops Q rest (a.put o.dst v') w') :
    wpList Tryd.prog ops Q (o :: rest) a w := by
  obtain ⟨i0, hi, hz0, hz1, hz2⟩ := info_parts info8
  have hlen := hbl.1
  rcases ad with _ | ad
  · obtain ⟨rfl, rfl⟩ := h0 rfl
    have : ys = [] := List.length_eq_zero_iff.1 hlen
    subst this
    refine wpList_append_own_none hgd s x 25 ho B 5 i0 1 Tryd.underlying25 hi v n (bcs xs) hs hown hx ?_
    exact h v w (by simpa using Ext.start hown)
  · have hnews : ∀ j u, (bcs ys)[j]? = some u → w.cell? (ad.add j) = some u := by
      intro j u hj
      have hjm : j < m := by have := (List.getElem?_eq_some_iff.1 hj).1; rw [bcs_len] at this; omega
      rcases hbl.2.2.2 with q | ⟨b, o', e, hb', hc⟩
      · omega
      · injection e with e
        subst e
        rw [Go.Addr.add_lit, hc j hjm]
        have : j < ys.length := by omega
        simp [bcs, this] at hj
        simp [List.getD, this, hj]
    have h1 : ∀ u ∈ bcs ys, u.oneCell' = true := by intro u hu; obtain ⟨z, _, rfl⟩ := List.mem_map.1 hu; rfl
    have hl' : (bcs ys).length = m * 1 := by rw [bcs_len]; omega
    obtain ⟨v', w', hr, h2, h3, h4, h5⟩ := run_append_own_at (P := Tryd.prog) w B 25 o.type 5 i0 (.int .u8 0) 1 1 Tryd.underlying25 hi hz0 hz1 hz2 rfl (by decide) v n (bcs xs) hown ad m c (bcs ys) hl' hnews h1 (by unfold maxLen; omega) (by omega) hb
    have hk := append_keeps (w := w) B 25 o.type 5 i0 (.int .u8 0) 1 1 Tryd.underlying25 hi hz0 hz1 hz2 rfl (by decide) v n (bcs xs) hown ad m c (bcs ys) hl' hnews h1 (by unfold maxLen; omega) (by omega) hb v' w' hr
    have E : Ext B w v n xs w' v' (n + m) (xs ++ ys) := by
      refine ⟨by show w'.ownsRow _ _ _ _ _ (bcs (xs ++ ys)); rw [bcs_app]; exact h2, h3, hk, ?_, hown.lt⟩
      rcases h5 with h5 | h5
      · exact .inl h5
      · exact .inr ⟨_, h5, Nat.le_refl _⟩
    refine wpList_plain hgd fun K hK => ?_
    unfold Oper.wp execOp
    simp only [ho, resolve, invoke, builtin, Sem.run_bind, Sem.run_pure, Result.andThen_ok, List.map_toArray, List.map_cons, List.map_nil, hs, hx, hr]
    exact hK _ _ (h v' w' E)

/-- A list of calls, where the world holds it. -/
def OL (w : World) (a : Option Addr) (n : Nat) (fs : List Op3) : Prop :=
  fs.length = n ∧ n ≤ 140737488355328 ∧ (∀ f ∈ fs, f.wf) ∧ (n = 0 ∨ ∃ b o, a = some ⟨b, o, none⟩ ∧ b < w.heap.size ∧ ∀ i, i < n → w.cell? ⟨b, o + i * 3, none⟩ = some (.int .i64 (fs.getD i default).k) ∧ w.cell? ⟨b, o + i * 3 + 1, none⟩ = some (.int .u64 (fs.getD i default).l) ∧ w.cell? ⟨b, o + i * 3 + 2, none⟩ = some (.int .i64 (fs.getD i default).n))
theorem ol_of {w : World} {a : Option Addr} {len cap : Nat} {fs : List Op3} (hb : len * 24 ≤ 140737488351232) (h : IsOps w a len cap fs) : OL w a len fs := by
  rcases h with ⟨rfl, rfl, rfl, rfl⟩ | ⟨x, rfl, h1, h2, h3, h4, h5⟩
  · exact ⟨rfl, by omega, by simp, .inl rfl⟩
  · refine ⟨h3, by omega, h4, ?_⟩
    by_cases h0 : len = 0
    · exact .inl h0
    · obtain ⟨b, o, s⟩ := x
      have hc := (h5 0 (by omega)).1
      have hs : s = none := by simpa [Addr.add] using World.cell?_spot hc
      subst hs
      refine .inr ⟨b, o, rfl, ?_, fun i hi => ?_⟩
      · have : (w.cell? ⟨b, o, none⟩).isSome = true := by
          have e : (⟨b, o, none⟩ : Addr).add (0 * 3) = ⟨b, o, none⟩ := by simp [Addr.add]
          rw [e] at hc; rw [hc]; rfl
        by_cases hlt : b < w.heap.size
        · exact hlt
        · exfalso
          have hn : w.heap[b]? = none := by simp; omega
          simp [World.cell?, hn] at this
      · obtain ⟨q1, q2, q3⟩ := h5 i hi
        rw [Go.Addr.add_lit] at q1 q2 q3
        exact ⟨q1, by rw [Nat.add_assoc]; exact q2, by rw [Nat.add_assoc]; exact q3⟩

theorem left_q (B p : Nat) (a : Option Addr) (n cap : Nat) (xs : List Int) (k : Nat) (w : World) (h : RB w B p a n cap xs k) :
    Calls Tryd.prog 29 #[.pointer (some ⟨p, 0, none⟩)] w fun e w' => e = .returned (.int .i64 ((n - k : Nat) : Int)) ∧ ∃ q, w' = w.drewN q := by
  have h1 := h.t
  have h2 := h.ac
  have h3 := h.le
  have h4 := h.bnd
  clear h
  go_enter Tryd.func29, Tryd.ntmps29
  go_wp2
  go_quiet (fail)
  go_wp2
  go_ret
  exact ⟨by simp only [Array.getD]; simp; omega, _, rfl⟩
set_option maxRecDepth 100000 in
theorem take_shortq (B p : Nat) (a : Option Addr) (n cap : Nat) (xs : List Int) (k : Nat) (m : Int) (w : World) (h : RB w B p a n cap xs k) (hm : ((n - k : Nat) : Int) < m) :
    Calls Tryd.prog 34 #[.pointer (some ⟨p, 0, none⟩), .int .i64 m] w fun e w' => e = .returned (.tuple #[.slice none 0 0, .int .i64 41]) ∧ ∃ q, w' = w.drewN q := by
  have K := Lib.hid (left_q B p a n cap xs k w h)
  have m0 : ¬ m < 0 := by omega
  clear h
  generalize ((n - k : Nat) : Int) = r at *
  go_enter Tryd.func34, Tryd.ntmps34
  go_wp2_with (go_at_call 29; refine K.out.mono ?_; rintro e w1 ⟨rfl, q1, rfl⟩)
  go_ret2
  exact ⟨rfl, _, rfl⟩
theorem below_gr0' {B : Nat} {a b : World} (h : a.grownBy b none) (hB : B ≤ a.heap.size) : Below B a b := (Below.refl B a).grown h hB (fun k e => by cases e)
theorem uR_at (xs : List Int) (x : Nat) (h : x < 18446744073709551616) : uR ((xs ++ vl x).drop xs.length) x = (x, 0, (vl x).length) := by
  rw [List.drop_left]; exact uR_vl x h x (Nat.le_refl _)

theorem u64_nat' {z : Int} (h : (Lit.int .u64 z).wf = true) : ∃ n : Nat, z = (n : Int) ∧ n < 18446744073709551616 := by
  have : 0 ≤ z ∧ z ≤ 18446744073709551615 := by simpa [Lit.wf, IntKind.min, IntKind.max, IntKind.bits, IntKind.signed] using h
  exact ⟨z.toNat, by omega, by omega⟩
/-- A row that came in: a nil row has no room. -/
theorem row_nil {k : IntKind} {w : World} {a : Option Addr} {len cap : Nat} {zs : List Int}
    (h : (a = none ∧ len = 0 ∧ cap = 0 ∧ zs = []) ∨ ∃ x, a = some x ∧ len ≤ cap ∧ cap ≤ maxLen ∧ zs.length = cap ∧ (∀ i, i < zs.length → w.cell? (x.add i) = some (.int k (zs.getD i 0))) ∧ ∀ n ∈ zs, (Lit.int k n).wf = true) : a = none → len = 0 ∧ cap = 0 := by
  rcases h with ⟨rfl, rfl, rfl, rfl⟩ | ⟨x, rfl, _⟩
  · exact fun _ => ⟨rfl, rfl⟩
  · intro e; cases e
end Go.Proofs.YtdbjdieegocdfaaDoor
