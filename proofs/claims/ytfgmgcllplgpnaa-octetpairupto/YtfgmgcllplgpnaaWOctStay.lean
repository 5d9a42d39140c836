/-
  WALK: OctetStay; a copy of bytes by append; lists of calls in memory.
-/
import Derived.Test.YtfgmgcllplgpnaaWOct6
import Derived.Test.YtfgmgcllplgpnaaOpenOp
namespace Go.Proofs.Ytfgmgcllplgpnaa
open Go.RowKit
set_option linter.unusedVariables false
set_option linter.unusedSimpArgs false

/-- 'append(own, bytes...)'. -/
theorem wp_joinB {ops : Array Oper} {rest : List Oper} {o : Oper} {a : Act} {Q : Exit → Act → World → Prop} (w : World) (hgd : o.guard = none) (s x : Operand)
    (ho : o.op = .call { callee := .builtin .append, args := #[s, x], argTypes := #[22, 22] }) (B : Nat) (v : Value) (n : Nat) (xs : List Int) (hs : a.eval s = v)
    (ad : Option Addr) (m c : Nat) (ys : List Int) (hx : a.eval x = .slice ad m c) (hown : Own w B v n xs) (hbl : BL w ad m ys) (h0 : ad = none → m = 0 ∧ c = 0) (hl : n + m ≤ 140737488355328) (hb : B ≤ w.heap.size)
    (h : ∀ v' w', Ext B w v n xs w' v' (n + m) (xs ++ ys) → wpList Try.prog ops Q rest (a.put o.dst v') w') :
    wpList Try.prog ops Q (o :: rest) a w := by
  obtain ⟨i0, hi, hz0, hz1, hz2⟩ := info_parts info8
  have hlen := hbl.1
  rcases ad with _ | ad
  · obtain ⟨rfl, rfl⟩ := h0 rfl
    have : ys = [] := List.length_eq_zero_iff.1 hlen
    subst this
    refine wpList_append_own_none hgd s x 22 ho B 5 i0 1 Try.underlying22 hi v n (bcs xs) hs hown hx ?_
    exact h v w (by simpa using Ext.start hown)
  · have hnews : ∀ j u, (bcs ys)[j]? = some u → w.cell? (ad.add j) = some u := by
      intro j u hj
      have hjm : j < m := by have := (List.getElem?_eq_some_iff.1 hj).1; rw [bcs_len] at this; omega
      rcases hbl.2.2.2 with q | ⟨b, o', e, hb', hc⟩
      · omega
      · injection e with e
        subst e
        rw [Go.Addr.add_lit, hc j hjm]
        have : j < ys.length := by omega
        simp [bcs, this] at hj
        simp [List.getD, this, hj]
    have h1 : ∀ u ∈ bcs ys, u.oneCell' = true := by intro u hu; obtain ⟨z, _, rfl⟩ := List.mem_map.1 hu; rfl
    have hl' : (bcs ys).length = m * 1 := by rw [bcs_len]; omega
    obtain ⟨v', w', hr, h2, h3, h4, h5⟩ := run_append_own_at (P := Try.prog) w B 22 o.type 5 i0 (.int .u8 0) 1 1 Try.underlying22 hi hz0 hz1 hz2 rfl (by decide) v n (bcs xs) hown ad m c (bcs ys) hl' hnews h1 (by unfold maxLen; omega) (by omega) hb
    have hk := append_keeps (w := w) B 22 o.type 5 i0 (.int .u8 0) 1 1 Try.underlying22 hi hz0 hz1 hz2 rfl (by decide) v n (bcs xs) hown ad m c (bcs ys) hl' hnews h1 (by unfold maxLen; omega) (by omega) hb v' w' hr
    have E : Ext B w v n xs w' v' (n + m) (xs ++ ys) := by
      refine ⟨by show w'.ownsRow _ _ _ _ _ (bcs (xs ++ ys)); rw [bcs_app]; exact h2, h3, hk, ?_, hown.lt⟩
      rcases h5 with h5 | h5
      · exact .inl h5
      · exact .inr ⟨_, h5, Nat.le_refl _⟩
    refine wpList_plain hgd fun K hK => ?_
    unfold Oper.wp execOp
    simp only [ho, resolve, invoke, builtin, Sem.run_bind, Sem.run_pure, Result.andThen_ok, List.map_toArray, List.map_cons, List.map_nil, hs, hx, hr]
    exact hK _ _ (h v' w' E)

/-- A list of calls, where the world holds it. -/
def OL (w : World) (a : Option Addr) (n : Nat) (fs : List Op3) : Prop :=
  fs.length = n ∧ n ≤ 140737488355328 ∧ (∀ f ∈ fs, f.wf) ∧ (n = 0 ∨ ∃ b o, a = some ⟨b, o, none⟩ ∧ b < w.heap.size ∧ ∀ i, i < n → w.cell? ⟨b, o + i * 3, none⟩ = some (.int .i64 (fs.getD i default).k) ∧ w.cell? ⟨b, o + i * 3 + 1, none⟩ = some (.int .u64 (fs.getD i default).l) ∧ w.cell? ⟨b, o + i * 3 + 2, none⟩ = some (.int .i64 (fs.getD i default).n))
theorem ol_of {w : World} {a : Option Addr} {len cap : Nat} {fs : List Op3} (hb : len * 24 ≤ 140737488351232) (h : IsOps w a len cap fs) : OL w a len fs := by
  rcases h with ⟨rfl, rfl, rfl, rfl⟩ | ⟨x, rfl, h1, h2, h3, h4, h5⟩
  · exact ⟨rfl, by omega, by simp, .inl rfl⟩
  · refine ⟨h3, by omega, h4, ?_⟩
    by_cases h0 : len = 0
    · exact .inl h0
    · obtain ⟨b, o, s⟩ := x
      have hc := (h5 0 (by omega)).1
      have hs : s = none := by simpa [Addr.add] using World.cell?_spot hc
      subst hs
      refine .inr ⟨b, o, rfl, ?_, fun i hi => ?_⟩
      · have : (w.cell? ⟨b, o, none⟩).isSome = true := by
          have e : (⟨b, o, none⟩ : Addr).add (0 * 3) = ⟨b, o, none⟩ := by simp [Addr.add]
          rw [e] at hc; rw [hc]; rfl
        by_cases hlt : b < w.heap.size
        · exact hlt
        · exfalso
          have hn : w.heap[b]? = none := by simp; omega
          simp [World.cell?, hn] at this
      · obtain ⟨q1, q2, q3⟩ := h5 i hi
        rw [Go.Addr.add_lit] at q1 q2 q3
        exact ⟨q1, by rw [Nat.add_assoc]; exact q2, by rw [Nat.add_assoc]; exact q3⟩

theorem left_q (B p : Nat) (a : Option Addr) (n cap : Nat) (xs : List Int) (k : Nat) (w : World) (h : RB w B p a n cap xs k) :
    Calls Try.prog 17 #[.pointer (some ⟨p, 0, none⟩)] w fun e w' => e = .returned (.int .i64 ((n - k : Nat) : Int)) ∧ ∃ q, w' = w.drewN q := by
  have h1 := h.t
  have h2 := h.ac
  have h3 := h.le
  have h4 := h.bnd
  clear h
  go_enter Try.func17, Try.ntmps17
  go_wp2
  go_quiet (fail)
  go_wp2
  go_ret
  exact ⟨by simp only [Array.getD]; simp; omega, _, rfl⟩
set_option maxRecDepth 100000 in
theorem take_shortq (B p : Nat) (a : Option Addr) (n cap : Nat) (xs : List Int) (k : Nat) (m : Int) (w : World) (h : RB w B p a n cap xs k) (hm : ((n - k : Nat) : Int) < m) :
    Calls Try.prog 18 #[.pointer (some ⟨p, 0, none⟩), .int .i64 m] w fun e w' => e = .returned (.tuple #[.slice none 0 0, .int .i64 41]) ∧ ∃ q, w' = w.drewN q := by
  have K := Lib.hid (left_q B p a n cap xs k w h)
  have m0 : ¬ m < 0 := by omega
  clear h
  generalize ((n - k : Nat) : Int) = r at *
  go_enter Try.func18, Try.ntmps18
  go_wp2_with (go_at_call 17; refine K.out.mono ?_; rintro e w1 ⟨rfl, q1, rfl⟩)
  go_ret2
  exact ⟨rfl, _, rfl⟩
theorem below_gr0' {B : Nat} {a b : World} (h : a.grownBy b none) (hB : B ≤ a.heap.size) : Below B a b := (Below.refl B a).grown h hB (fun k e => by cases e)
theorem uR_at (xs : List Int) (x : Nat) (h : x < 18446744073709551616) : uR ((xs ++ vl x).drop xs.length) x = (x, 0, (vl x).length) := by
  rw [List.drop_left]; exact uR_vl x h x (Nat.le_refl _)

set_option maxRecDepth 100000 in
set_option maxHeartbeats 4000000 in
theorem octetStay_any (a : Option Addr) (n cap : Nat) (xs : List Int) (x : Nat) (a2 : Option Addr) (n2 cap2 : Nat) (fs : List Op3) (w : World) (h : BL w a n xs) (h0 : a = none → n = 0 ∧ cap = 0) (hn : n ≤ 140737488351232) (hx : x < 18446744073709551616) (hf : OL w a2 n2 fs) :
    Calls Try.prog 5 #[.slice a n cap, .int .u64 (x : Int), .slice a2 n2 cap2] w fun e w' => e = .returned (.bool true) ∧ Below w.heap.size w w' := by
  have HL := Lib.hid h
  have N0 := Lib.hid h0
  have hl := h.1
  have lx := vl_len10 hx
  have BX := Lib.hid (p := ∀ c ∈ xs ++ vl x, 0 ≤ c ∧ c ≤ 255) (fun c hc => by
    rcases List.mem_append.1 hc with q | q
    · exact h.2.2.1 c q
    · exact vl_byte x c q)
  have KA := Lib.hid (fun v W (q : Own W w.heap.size v n xs) (q2 : w.heap.size ≤ W.heap.size) => appendUint_any v w.heap.size n xs x W q (by omega) q2 hx)
  have UR := uR_at xs x hx
  rw [hl] at UR
  obtain ⟨cx, tx, ex, _⟩ := vl_head x
  have NE := Lib.hid (p := 0 < n + (vl x).length) (by have := vl_pos x; omega)
  have NB := Lib.hid (p := n + (vl x).length ≤ 140737488355328) (by omega)
  have NL := Lib.hid (p := (xs ++ vl x).length = n + (vl x).length) (by simp [hl])
  obtain ⟨f1, f2, f3, f4⟩ := hf
  have F1 := Lib.hid f1
  have F3 := Lib.hid f3
  have FA := Lib.hid (p := 0 < n2 → ∃ b o, a2 = some ⟨b, o, none⟩ ∧ b < w.heap.size ∧ ∀ i, i < n2 → w.cell? ⟨b, o + i * 3, none⟩ = some (.int .i64 (fs.getD i default).k) ∧ w.cell? ⟨b, o + i * 3 + 1, none⟩ = some (.int .u64 (fs.getD i default).l)) (fun q => by
    rcases f4 with f4 | ⟨b, o, e, hb, hc⟩
    · omega
    · exact ⟨b, o, e, hb, fun i hi => ⟨(hc i hi).1, (hc i hi).2.1⟩⟩)
  generalize hm : (vl x).length = m at *
  generalize hz : xs ++ vl x = zs at *
  obtain ⟨N, hN⟩ : ∃ N, n + m = N := ⟨_, rfl⟩
  rw [hN] at KA NE NB NL
  have KN := Lib.hid (fun a cap W (q : BL W a N zs) (q0 : a = none → N = 0) => newReader_any a N cap zs W q q0)
  have KT := Lib.hid (fun B p a cap W (q : RB W B p a N cap zs 0) => take_ok B p a N cap zs 0 n W q (by omega))
  have KU := Lib.hid (fun B p a cap W (q : RB W B p a N cap zs n) => uint_any B p a N cap zs n x W q)
  rw [UR] at KU
  have KP := Lib.hid (fun B p a cap W (q : RB W B p a N cap zs n) => place_any B p a N cap zs n W q)
  have KL := Lib.hid (fun B p a cap W (q : RB W B p a N cap zs n) => left_q B p a N cap zs n W q)
  have KE := Lib.hid (fun B p a cap W (q : RB W B p a N cap zs N) => left_q B p a N cap zs N W q)
  have KS := Lib.hid (fun B p a cap W r (q : RB W B p a N cap zs n) (qr : ((N - n : Nat) : Int) < r) => take_shortq B p a N cap zs n r W q qr)
  have KX := Lib.hid (fun B p W r (qr : r < 0) => text_neg B p r W qr)
  simp only [Nat.zero_add] at KT
  simp only [hN] at KU
  rw [Nat.sub_self] at KE
  rw [show N - n = m by omega] at KS KL
  have m10 : m ≤ 10 := by omega
  have N47 : N ≤ 140737488355328 := by omega
  have L0 := Lib.hid (p := 0 + n = n ∧ [] ++ xs = xs) ⟨by omega, rfl⟩
  clear h h0 f1 f3 f4 UR ex hz lx hm hN
  go_enter Try.func5, Try.ntmps5
  go_wp2_with (first
    | (at_builtin; refine wp_joinB _ rfl _ _ rfl w.heap.size _ _ _ rfl _ _ _ _ rfl (show Own (w.alloc (.cells #[] 5)) w.heap.size (.slice (some ⟨w.heap.size, 0, none⟩) 0 0) 0 [] from World.ownsRow_made w #[] 0 (Nat.le_refl _) (Nat.zero_le _) rfl) (HL.out.later ((Below.refl _ w).alloc (Nat.le_refl _) _)) N0.out (by omega) (by simp) ?_; intro v1 w1 h1; have B1 := Lib.hid (((Below.refl _ w).alloc (Nat.le_refl _) _).trans (h1.below (by simp))); have O1' := h1.own; rw [L0.out.1, L0.out.2] at O1'; have O1 := Lib.hid O1'; clear h1 O1')
    | (go_at_call 13; refine (KA.out _ _ O1.out B1.out.size).mono ?_; rintro e w2 ⟨v2, rfl, h1⟩; have B2 := Lib.hid (B1.out.trans (h1.below B1.out.size)); obtain ⟨a3, cap3, rfl⟩ := own_form h1.own; have O2 := Lib.hid h1.own; clear h1)
    | (go_at_call 10; refine (KN.out _ _ _ (own_bl O2.out BX.out NB.out).1 (own_bl O2.out BX.out NB.out).2.1).mono ?_; rintro e w3 ⟨p, a4, cap4, rfl, h3, h4⟩; have R3 := Lib.hid h3; have B3 := Lib.hid (B2.out.trans (h4.mono B2.out.size)); have HP := Lib.hid (Nat.le_trans B2.out.size h3.base); clear h3 h4)
    | (go_at_call 18; refine (KT.out _ _ _ _ _ R3.out).mono ?_; rintro e w4 ⟨v4, rfl, _, h3, h4⟩; have R4 := Lib.hid h3; have B4 := Lib.hid (B3.out.trans (gr_out h4 HP.out B3.out.size)); clear h3 h4))
  go_loopw [11] (fun t wr => ∃ k : Nat, k ≤ n2 ∧ t = .int .i64 (k : Int) ∧ RB wr w2.heap.size p a4 N cap4 zs n ∧ Below w.heap.size w wr) (fun t _ => n2 - (intOf t).toNat)
  case atStart => exact ⟨0, by omega, rfl, R4.out, B4.out⟩
  case round =>
    rename World => wr
    obtain ⟨k, hk, rfl, hR, hB⟩ := hrel
    have RR := Lib.hid hR
    have BB := Lib.hid hB
    by_cases hlt : k < n2
    · obtain ⟨b, o, rfl, hb, hc⟩ := FA.out (by omega)
      obtain ⟨c1, c2⟩ := hc k hlt
      have d1 := (hB.cell (p := ⟨b, o + k * 3, none⟩) hb).trans c1
      have d2 := (hB.cell (p := ⟨b, o + k * 3 + 1, none⟩) hb).trans c2
      have wfk := F3.out (fs.getD k default) (by simp [List.getD, show k < fs.length by rw [F1.out]; omega])
      have wl : 0 ≤ (fs.getD k default).l ∧ (fs.getD k default).l ≤ 18446744073709551615 := by simpa [Lit.wf, IntKind.min, IntKind.max, IntKind.bits, IntKind.signed] using wfk.2.1
      have kc : (k : Int) < (n2 : Int) := by omega
      generalize (fs.getD k default).k = kind at *
      generalize (fs.getD k default).l = lim at *
      obtain ⟨r, hr⟩ : ∃ r : Int, lim % 1000 = r := ⟨_, rfl⟩
      have r0 : 0 ≤ r ∧ r < 1000 := by omega
      have r1 : Int.tmod lim 1000 = r := by rw [Int.tmod_eq_emod_of_nonneg wl.1]; exact hr
      have r2 : IntKind.i64.wrap ((m : Int) + 1) = (m : Int) + 1 := by simp [IntKind.wrap, IntKind.bits, IntKind.signed]; omega
      have r3 : IntKind.i64.wrap ((m : Int) + 1 + r) = (m : Int) + 1 + r := by simp [IntKind.wrap, IntKind.bits, IntKind.signed]; omega
      have r4 : IntKind.i64.wrap r = r := by simp [IntKind.wrap, IntKind.bits, IntKind.signed]; omega
      have r5 : IntKind.i64.wrap (-1 - r) = -1 - r := by simp [IntKind.wrap, IntKind.bits, IntKind.signed]; omega
      clear hR hB hc c1 c2 wfk
      by_cases hz : bits .and .i64 kind 1 = 0
      · go_wp2
        go_quiet (first | (go_at_call 17; exact Calls.quiet_of (KL.out _ _ _ _ _ (RR.out.drewN _))) | (go_at_call 18; exact Calls.quiet_of (KS.out _ _ _ _ _ _ (RR.out.drewN _) (by omega))))
        go_wp2_with (go_at_call 12; refine (KP.out _ _ _ _ _ (RR.out.drewN _)).mono ?_; rintro e w5 ⟨rfl, h3⟩; have G5 := Lib.hid h3; clear h3)
        go_roundw
        case rel => exact ⟨k + 1, by omega, by go_num, (RR.out.drewN _).later G5.out, (below_drewN BB.out _).trans (below_gr0' G5.out (below_drewN BB.out _).size)⟩
        case measure => simp [intOf]; omega
      · have hz' : (bits .and .i64 kind 1 == 0) = false := by simpa using hz
        go_wp2_with (first
          | (go_at_call 19; refine (KX.out 0 _ _ _ (by omega)).mono ?_; rintro e w4' ⟨rfl, h3⟩; subst h3; have M4 := Lib.hid hz)
          | (go_at_call 12; refine (KP.out _ _ _ _ _ RR.out).mono ?_; rintro e w5 ⟨rfl, h3⟩; have G5 := Lib.hid h3; clear h3))
        go_roundw
        case rel => exact ⟨k + 1, by omega, by go_num, RR.out.later G5.out, BB.out.trans (below_gr0' G5.out BB.out.size)⟩
        case measure => simp [intOf]; omega
    · obtain rfl : k = n2 := by omega
      clear hR hB
      go_wp2_with (first
        | (go_at_call 11; refine (KU.out _ _ _ _ _ RR.out).mono ?_; rintro e w5 ⟨rfl, h3, h4⟩; have R5 := Lib.hid h3; have B5 := Lib.hid (BB.out.trans (gr_out h4 HP.out BB.out.size)); clear h3 h4)
        | (go_at_call 17; refine (KE.out _ _ _ _ _ R5.out).mono ?_; rintro e w6 ⟨rfl, q6, rfl⟩; have B6 := Lib.hid (below_drewN B5.out q6)))
      go_ret
      exact ⟨by first | rfl | simp, B6.out⟩
theorem u64_nat' {z : Int} (h : (Lit.int .u64 z).wf = true) : ∃ n : Nat, z = (n : Int) ∧ n < 18446744073709551616 := by
  have : 0 ≤ z ∧ z ≤ 18446744073709551615 := by simpa [Lit.wf, IntKind.min, IntKind.max, IntKind.bits, IntKind.signed] using h
  exact ⟨z.toNat, by omega, by omega⟩
/-- A row that came in: a nil row has no room. -/
theorem row_nil {k : IntKind} {w : World} {a : Option Addr} {len cap : Nat} {zs : List Int}
    (h : (a = none ∧ len = 0 ∧ cap = 0 ∧ zs = []) ∨ ∃ x, a = some x ∧ len ≤ cap ∧ cap ≤ maxLen ∧ zs.length = cap ∧ (∀ i, i < zs.length → w.cell? (x.add i) = some (.int k (zs.getD i 0))) ∧ ∀ n ∈ zs, (Lit.int k n).wf = true) : a = none → len = 0 ∧ cap = 0 := by
  rcases h with ⟨rfl, rfl, rfl, rfl⟩ | ⟨x, rfl, _⟩
  · exact fun _ => ⟨rfl, rfl⟩
  · intro e; cases e
theorem octetStay_walk (a : Option Addr) (n cap : Nat) (xs : List Int) (x : Int) (a2 : Option Addr) (n2 cap2 : Nat) (fs : List Op3) (w : World) (h : BL w a n xs) (h0 : a = none → n = 0 ∧ cap = 0) (hn : n * 1 ≤ 140737488351232) (hx : (Lit.int .u64 x).wf = true) (hf : OL w a2 n2 fs) :
    Calls Try.prog 5 #[.slice a n cap, .int .u64 x, .slice a2 n2 cap2] w fun e w' => e = .returned (.bool true) ∧ Below w.heap.size w w' := by
  obtain ⟨y, rfl, hy⟩ := u64_nat' hx
  exact octetStay_any a n cap xs y a2 n2 cap2 fs w h h0 (by omega) hy hf
end Go.Proofs.Ytfgmgcllplgpnaa
