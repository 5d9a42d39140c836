/-
  WALK: takeCode.
-/
import Derived.Test.YteedkcmjhdabeaaDoorWCan8
namespace Go.Proofs.YteedkcmjhdabeaaDoor
open Go.RowKit
set_option linter.unusedVariables false
set_option linter.unusedSimpArgs false
def insI (p : Pg) (l : List In) (n : Nat) : Prop := ((l.getD n default).o = 0 ↔ n + 1 = l.length) ∧ (l.getD n default).okP ∧ inB p (l.getD n default)
def codeP (p : Pg) (l : List In) : Prop := 2 ≤ l.length ∧ ∀ n, n < l.length → insI p l n
theorem foldl_next (f : List Bool → In → List Bool) (bs : List Bool) (l : List In) (k : Nat) (h : k < l.length) : (l.take (k + 1)).foldl f bs = f ((l.take k).foldl f bs) (l.getD k default) := by
  rw [List.take_succ_eq_append_getElem h, List.foldl_append]
  simp [List.getD, h]
theorem box_all3P {w : World} {x : Nat} {a b c : Value} {t : TypeId} (k : BkP w x #[a, b, c] t) : w.cell? ⟨x, 0, none⟩ = some a ∧ w.cell? ⟨x, 1, none⟩ = some b ∧ w.cell? ⟨x, 2, none⟩ = some c := by
  unfold BkP at k
  refine ⟨?_, ?_, ?_⟩ <;> simp [World.cell?, k]
/-- What takeCode leaves. -/
structure TcE (w0 : World) (p : Pg) (ub gn gu gp : Nat) (bn bu bp : List Bool) (l : List In) (e : Ending) (w' : World) : Prop where
  say : ∃ b, e = .returned (.bool b) ∧ (b = true ↔ codeP p l) ∧ (b = true → US w' p w0.heap.size ub gn gu gp (l.foldl (mkB 3) bn) (l.foldl (mkB 28) bu) (l.foldl (mkB 1) bp))
  bel : Below w0.heap.size w0 w'
set_option maxRecDepth 100000 in
set_option maxHeartbeats 8000000 in
theorem takeCode_any (w0 w : World) (p : Pg) (ub gn gu gp : Nat) (bn bu bp : List Bool) (a : Option Addr) (n c : Nat) (l : List In) (hU : US w p w0.heap.size ub gn gu gp bn bu bp) (hI : IR w0 a n c l) (hR : Rws w0) (hB : Below w0.heap.size w0 w) :
    Calls Tryd.prog 42 #[.pointer (some ⟨ub, 0, none⟩), .slice a n c] w fun e w' => TcE w0 p ub gn gu gp bn bu bp l e w' := by
  obtain ⟨_, l1, b1, _, r1⟩ := hI
  have R1 := Lib.hid r1
  have L1 := Lib.hid l1
  have RR := Lib.hid hR
  have B0 := Lib.hid hB
  have U0 := Lib.hid hU
  clear r1 hR hB hU
  have kw : IntKind.i64.wrap ((n : Int) - 1) = (n : Int) - 1 := by simp [IntKind.wrap, IntKind.bits, IntKind.signed]; omega
  by_cases h2 : n < 2
  · have d1 : (n : Int) - 1 < 1 := by omega
    have d2 : decide ((n : Int) - 1 < 1) = true := decide_eq_true d1
    have NC := Lib.hid (p := ¬ codeP p l) (fun q => by have := q.1; omega)
    go_enter Tryd.func42, Tryd.ntmps42
    go_wp2
    go_ret
    exact ⟨⟨false, rfl, ⟨(fun e => by cases e), fun q => absurd q NC.out⟩, (fun e => by cases e)⟩, B0.out⟩
  · have d1 : ¬ (n : Int) - 1 < 1 := by omega
    have d2 : decide ((n : Int) - 1 < 1) = false := decide_eq_false d1
    have CP := Lib.hid (p := (∀ k, k < n → insI p l k) → codeP p l) (fun q => ⟨by omega, fun k hk => q k (by omega)⟩)
    have CN := Lib.hid (p := ∀ k, k < n → ¬ insI p l k → ¬ codeP p l) (fun k hk hn q => hn (q.2 k (by omega)))
    go_enter Tryd.func42, Tryd.ntmps42
    go_wp2
    clear d1 d2
    go_loopw [16] (fun t wr => ∃ k : Nat, k ≤ n ∧ t = .int .i64 (k : Int) ∧ RowKit.Hid (∀ i, i < k → insI p l i) ∧ US wr p w0.heap.size ub gn gu gp ((l.take k).foldl (mkB 3) bn) ((l.take k).foldl (mkB 28) bu) ((l.take k).foldl (mkB 1) bp) ∧ Below w0.heap.size w0 wr) (fun t _ => n - (intOf t).toNat)
    case atStart => exact ⟨0, by omega, rfl, (fun i hi => absurd hi (by omega)), U0.out, B0.out⟩
    case round =>
      clear U0 B0
      rename World => wr
      obtain ⟨k, hk, rfl, hE, hU, hB⟩ := hrel
      have UU := Lib.hid hU
      have BB := Lib.hid hB
      by_cases hlt : k < n
      · obtain ⟨x, o, rfl, _, hc⟩ := (R1.out.later hB).oneP (by omega)
        have c0 := hc k hlt 0 (by omega)
        have c1 := hc k hlt 1 (by omega)
        have c2 := hc k hlt 2 (by omega)
        simp only [icell, Nat.add_zero, List.getD_cons_zero, List.getD_cons_succ] at c0 c1 c2
        have kc : (k : Int) < (n : Int) := by omega
        have II := Lib.hid (p := insI p l k ↔ ((l.getD k default).o = 0 ↔ k + 1 = n) ∧ (l.getD k default).okP ∧ inB p (l.getD k default)) (by unfold insI; rw [l1])
        have F3 := Lib.hid (foldl_next (mkB 3) bn l k (by omega))
        have F28 := Lib.hid (foldl_next (mkB 28) bu l k (by omega))
        have F1 := Lib.hid (foldl_next (mkB 1) bp l k (by omega))
        have CNk := Lib.hid (CN.out k hlt)
        have NX := Lib.hid (p := insI p l k → ∀ i, i < k + 1 → insI p l i) (fun e i hi => by
          rcases (show i < k ∨ i = k by omega) with r | r
          · exact hE.out i r
          · rw [r]; exact e)
        generalize l.getD k default = s at *
        obtain ⟨so, sx, sy⟩ := s
        simp only at c0 c1 c2 II F3 F28 F1
        have U1 := Lib.hid (hU.later (allocBP wr (.cells #[.int .i64 so, .int .i64 sx, .int .i64 sy] 38)))
        have B1 := Lib.hid (hB.alloc hB.size (.cells #[.int .i64 so, .int .i64 sx, .int .i64 sy] 38))
        have KV := Lib.hid (fun W (b : Below w0.heap.size w0 W) => valid_any so sx sy W (RR.out.below b))
        clear hc hE hU hB
        have TI := Lib.hid (p := BkP (wr.alloc (.cells #[.int .i64 so, .int .i64 sx, .int .i64 sy] 38)) wr.heap.size #[.int .i64 so, .int .i64 sx, .int .i64 sy] 38) (heapN _ _)
        by_cases q : so = 0
        · by_cases r : k + 1 = n
          · have t2 : ((k : Int) == (n : Int) - 1) = true := by simp; omega
            have IFF := Lib.hid (p := so = 0 ↔ k + 1 = n) ⟨fun _ => r, fun _ => q⟩
            have t1 : (so == 0) = true := by simpa using q
            clear r q
            by_cases e2 : (⟨so, sx, sy⟩ : In).okP
            · rw [okV_pos e2] at KV
              by_cases e3 : inB p ⟨so, sx, sy⟩
              · have KT := Lib.hid (p := ∀ W, US W p w0.heap.size ub gn gu gp ((l.take k).foldl (mkB 3) bn) ((l.take k).foldl (mkB 28) bu) ((l.take k).foldl (mkB 1) bp) → w0.heap.size ≤ W.heap.size → Calls Tryd.prog 51 #[.pointer (some ⟨ub, 0, none⟩), .agg #[.int .i64 so, .int .i64 sx, .int .i64 sy]] W fun e w' => e = .returned (.bool true) ∧ US w' p w0.heap.size ub gn gu gp (mkB 3 ((l.take k).foldl (mkB 3) bn) ⟨so, sx, sy⟩) (mkB 28 ((l.take k).foldl (mkB 28) bu) ⟨so, sx, sy⟩) (mkB 1 ((l.take k).foldl (mkB 1) bp) ⟨so, sx, sy⟩) ∧ Below w0.heap.size W w') (fun W hW hS => by
                  refine (take_any ⟨so, sx, sy⟩ e2 W p w0.heap.size ub gn gu gp _ _ _ hW hS).mono ?_
                  rintro e w' ⟨⟨b, h1, h2, h3⟩, h4⟩
                  have hb := h2.2 e3
                  subst hb
                  exact ⟨h1, h3 rfl, h4⟩)
                have OK := Lib.hid (NX.out (II.out.2 ⟨IFF.out, e2, e3⟩))
                clear e2 e3
                go_wp2_with (first
                  | (go_at_call 50; refine (KV.out _ B1.out).mono ?_; rintro e w2 ⟨rfl, h2⟩; have B2 := Lib.hid (B1.out.trans (h2.mono B1.out.size)); have U2 := Lib.hid (U1.out.later h2); have T2 := TI.out.laterP h2; obtain ⟨v0, v1, v2⟩ := box_all3P T2; clear h2 T2)
                  | (go_at_call 51; refine (KT.out _ U2.out B2.out.size).mono ?_; rintro e w3 ⟨rfl, h2, h3⟩; have B3 := Lib.hid (B2.out.trans h3); have U3 := Lib.hid h2; clear h2 h3))
                go_roundw
                case rel => exact ⟨k + 1, by omega, by go_num, OK.out, by rw [F3.out, F28.out, F1.out]; exact U3.out, B3.out⟩
                case measure => simp [intOf]; omega
              · have KT := Lib.hid (p := ∀ W, US W p w0.heap.size ub gn gu gp ((l.take k).foldl (mkB 3) bn) ((l.take k).foldl (mkB 28) bu) ((l.take k).foldl (mkB 1) bp) → w0.heap.size ≤ W.heap.size → Calls Tryd.prog 51 #[.pointer (some ⟨ub, 0, none⟩), .agg #[.int .i64 so, .int .i64 sx, .int .i64 sy]] W fun e w' => e = .returned (.bool false) ∧ True ∧ Below w0.heap.size W w') (fun W hW hS => by
                  refine (take_any ⟨so, sx, sy⟩ e2 W p w0.heap.size ub gn gu gp _ _ _ hW hS).mono ?_
                  rintro e w' ⟨⟨b, h1, h2, h3⟩, h4⟩
                  have hb : b = false := by cases b with | false => rfl | true => exact absurd (h2.1 rfl) e3
                  subst hb
                  exact ⟨h1, trivial, h4⟩)
                have NO := Lib.hid (CNk.out (fun q => e3 (II.out.1 q).2.2))
                clear e2 e3
                go_wp2_with (first
                  | (go_at_call 50; refine (KV.out _ B1.out).mono ?_; rintro e w2 ⟨rfl, h2⟩; have B2 := Lib.hid (B1.out.trans (h2.mono B1.out.size)); have U2 := Lib.hid (U1.out.later h2); have T2 := TI.out.laterP h2; obtain ⟨v0, v1, v2⟩ := box_all3P T2; clear h2 T2)
                  | (go_at_call 51; refine (KT.out _ U2.out B2.out.size).mono ?_; rintro e w3 ⟨rfl, h2, h3⟩; have B3 := Lib.hid (B2.out.trans h3); have U3 := Lib.hid h2; clear h2 h3))
                go_ret
                exact ⟨⟨false, rfl, ⟨(fun e => by cases e), fun q => absurd q NO.out⟩, (fun e => by cases e)⟩, B3.out⟩
            · rw [okV_neg e2] at KV
              have NO := Lib.hid (CNk.out (fun q => e2 (II.out.1 q).2.1))
              clear e2
              go_wp2_with (go_at_call 50; refine (KV.out _ B1.out).mono ?_; rintro e w2 ⟨rfl, h2⟩; have B2 := Lib.hid (B1.out.trans (h2.mono B1.out.size)); have U2 := Lib.hid (U1.out.later h2); have T2 := TI.out.laterP h2; obtain ⟨v0, v1, v2⟩ := box_all3P T2; clear h2 T2)
              go_ret
              exact ⟨⟨false, rfl, ⟨(fun e => by cases e), fun q => absurd q NO.out⟩, (fun e => by cases e)⟩, B2.out⟩
          · have t2 : ((k : Int) == (n : Int) - 1) = false := by simp; omega
            have NI := Lib.hid (p := ¬ (so = 0 ↔ k + 1 = n)) (fun z => r (z.1 q))
            have t1 : (so == 0) = true := by simpa using q
            clear r q
            have NO := Lib.hid (CNk.out (fun z => NI.out (II.out.1 z).1))
            go_wp2
            go_ret
            exact ⟨⟨false, rfl, ⟨(fun e => by cases e), fun z => absurd z NO.out⟩, (fun e => by cases e)⟩, B1.out⟩
        · have t1 : (so == 0) = false := by simpa using q
          by_cases r : k + 1 = n
          · have t2 : ((k : Int) == (n : Int) - 1) = true := by simp; omega
            have NI := Lib.hid (p := ¬ (so = 0 ↔ k + 1 = n)) (fun z => q (z.2 r))
            clear r q
            have NO := Lib.hid (CNk.out (fun z => NI.out (II.out.1 z).1))
            go_wp2
            go_ret
            exact ⟨⟨false, rfl, ⟨(fun e => by cases e), fun z => absurd z NO.out⟩, (fun e => by cases e)⟩, B1.out⟩
          · have t2 : ((k : Int) == (n : Int) - 1) = false := by simp; omega
            have IFF := Lib.hid (p := so = 0 ↔ k + 1 = n) ⟨fun z => absurd z q, fun z => absurd z r⟩
            clear r q
            by_cases e2 : (⟨so, sx, sy⟩ : In).okP
            · rw [okV_pos e2] at KV
              by_cases e3 : inB p ⟨so, sx, sy⟩
              · have KT := Lib.hid (p := ∀ W, US W p w0.heap.size ub gn gu gp ((l.take k).foldl (mkB 3) bn) ((l.take k).foldl (mkB 28) bu) ((l.take k).foldl (mkB 1) bp) → w0.heap.size ≤ W.heap.size → Calls Tryd.prog 51 #[.pointer (some ⟨ub, 0, none⟩), .agg #[.int .i64 so, .int .i64 sx, .int .i64 sy]] W fun e w' => e = .returned (.bool true) ∧ US w' p w0.heap.size ub gn gu gp (mkB 3 ((l.take k).foldl (mkB 3) bn) ⟨so, sx, sy⟩) (mkB 28 ((l.take k).foldl (mkB 28) bu) ⟨so, sx, sy⟩) (mkB 1 ((l.take k).foldl (mkB 1) bp) ⟨so, sx, sy⟩) ∧ Below w0.heap.size W w') (fun W hW hS => by
                  refine (take_any ⟨so, sx, sy⟩ e2 W p w0.heap.size ub gn gu gp _ _ _ hW hS).mono ?_
                  rintro e w' ⟨⟨b, h1, h2, h3⟩, h4⟩
                  have hb := h2.2 e3
                  subst hb
                  exact ⟨h1, h3 rfl, h4⟩)
                have OK := Lib.hid (NX.out (II.out.2 ⟨IFF.out, e2, e3⟩))
                clear e2 e3
                go_wp2_with (first
                  | (go_at_call 50; refine (KV.out _ B1.out).mono ?_; rintro e w2 ⟨rfl, h2⟩; have B2 := Lib.hid (B1.out.trans (h2.mono B1.out.size)); have U2 := Lib.hid (U1.out.later h2); have T2 := TI.out.laterP h2; obtain ⟨v0, v1, v2⟩ := box_all3P T2; clear h2 T2)
                  | (go_at_call 51; refine (KT.out _ U2.out B2.out.size).mono ?_; rintro e w3 ⟨rfl, h2, h3⟩; have B3 := Lib.hid (B2.out.trans h3); have U3 := Lib.hid h2; clear h2 h3))
                go_roundw
                case rel => exact ⟨k + 1, by omega, by go_num, OK.out, by rw [F3.out, F28.out, F1.out]; exact U3.out, B3.out⟩
                case measure => simp [intOf]; omega
              · have KT := Lib.hid (p := ∀ W, US W p w0.heap.size ub gn gu gp ((l.take k).foldl (mkB 3) bn) ((l.take k).foldl (mkB 28) bu) ((l.take k).foldl (mkB 1) bp) → w0.heap.size ≤ W.heap.size → Calls Tryd.prog 51 #[.pointer (some ⟨ub, 0, none⟩), .agg #[.int .i64 so, .int .i64 sx, .int .i64 sy]] W fun e w' => e = .returned (.bool false) ∧ True ∧ Below w0.heap.size W w') (fun W hW hS => by
                  refine (take_any ⟨so, sx, sy⟩ e2 W p w0.heap.size ub gn gu gp _ _ _ hW hS).mono ?_
                  rintro e w' ⟨⟨b, h1, h2, h3⟩, h4⟩
                  have hb : b = false := by cases b with | false => rfl | true => exact absurd (h2.1 rfl) e3
                  subst hb
                  exact ⟨h1, trivial, h4⟩)
                have NO := Lib.hid (CNk.out (fun q => e3 (II.out.1 q).2.2))
                clear e2 e3
                go_wp2_with (first
                  | (go_at_call 50; refine (KV.out _ B1.out).mono ?_; rintro e w2 ⟨rfl, h2⟩; have B2 := Lib.hid (B1.out.trans (h2.mono B1.out.size)); have U2 := Lib.hid (U1.out.later h2); have T2 := TI.out.laterP h2; obtain ⟨v0, v1, v2⟩ := box_all3P T2; clear h2 T2)
                  | (go_at_call 51; refine (KT.out _ U2.out B2.out.size).mono ?_; rintro e w3 ⟨rfl, h2, h3⟩; have B3 := Lib.hid (B2.out.trans h3); have U3 := Lib.hid h2; clear h2 h3))
                go_ret
                exact ⟨⟨false, rfl, ⟨(fun e => by cases e), fun q => absurd q NO.out⟩, (fun e => by cases e)⟩, B3.out⟩
            · rw [okV_neg e2] at KV
              have NO := Lib.hid (CNk.out (fun q => e2 (II.out.1 q).2.1))
              clear e2
              go_wp2_with (go_at_call 50; refine (KV.out _ B1.out).mono ?_; rintro e w2 ⟨rfl, h2⟩; have B2 := Lib.hid (B1.out.trans (h2.mono B1.out.size)); have U2 := Lib.hid (U1.out.later h2); have T2 := TI.out.laterP h2; obtain ⟨v0, v1, v2⟩ := box_all3P T2; clear h2 T2)
              go_ret
              exact ⟨⟨false, rfl, ⟨(fun e => by cases e), fun q => absurd q NO.out⟩, (fun e => by cases e)⟩, B2.out⟩
      · obtain rfl : k = n := by omega
        have CC := Lib.hid (CP.out hE.out)
        have LT := Lib.hid (p := l.take k = l) (List.take_of_length_le (by omega))
        clear hE hU hB
        go_wp2
        go_ret
        exact ⟨⟨true, rfl, ⟨fun _ => CC.out, fun _ => rfl⟩, fun _ => by have := UU.out; rwa [LT.out] at this⟩, BB.out⟩
end Go.Proofs.YteedkcmjhdabeaaDoor
