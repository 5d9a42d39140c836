import Derived.Test.YtglgdfgdfkeogaaDoorXAF
namespace Go.Proofs.YtglgdfgdfkeogaaDoor
open Go.RowKit
set_option linter.unusedVariables false
set_option linter.unusedSimpArgs false

set_option maxRecDepth 100000 in
set_option maxHeartbeats 2000000 in
theorem intactNames_any (B : Nat) (a b : Option Addr) (n m cap c : Nat) (ss : List ByteArray) (w : World) (h : NL w a n ss) (hn : a = none → n = 0 ∧ cap = 0) (k : NO w B a (.slice b m c) n ss) :
    Calls Tryd.prog 21 #[.slice b m c, .slice a n cap] w fun e w' => e = .returned (.bool true) ∧ ∃ q, w' = w.drewN q := by
  obtain ⟨rfl, kl⟩ := k.nl h.1 h.2.1 h.2.2.1
  have KS := Lib.hid (sameNames_any b a m c cap ss w kl h)
  have hm := h.2.1
  have hl := h.1
  cases a with
  | none =>
    obtain ⟨rfl, rfl⟩ := hn rfl
    have en := eql_names none 0 0
    clear h kl k hn
    go_enter Tryd.func21, Tryd.ntmps21
    go_wp2_with (go_at_call 44; refine KS.out.mono ?_; rintro e w1 ⟨rfl, q, rfl⟩)
    go_ret
    exact ⟨rfl, _, rfl⟩
  | some x =>
    have en := eql_names (some x) m cap
    rcases k with ⟨k, _⟩ | ⟨g, c', e1, c1, c2, gl, hc⟩
    · cases k
    · injection e1 with e1 e2 e3
      subst e1 e3
      have c3 : (m : Int) + 2 ≤ (c : Int) := by omega
      have d0 : w.cell? ⟨g, m, none⟩ = some (.string ⟨#[66, 101, 104, 105, 110, 100]⟩) := by
        rw [hc m (by omega)]
        simp only [List.getD]
        rw [List.getElem?_append_right (by omega), hl, Nat.sub_self]; rfl
      have d1 : w.cell? ⟨g, m + 1, none⟩ = some (.string ⟨#[66, 101, 104, 105, 110, 100]⟩) := by
        rw [hc (m + 1) (by omega)]
        simp only [List.getD]
        rw [List.getElem?_append_right (by omega), hl, show m + 1 - m = 1 by omega]; rfl
      have m1 : (m : Int) + 1 < (m : Int) + 2 := by omega
      have mw : IntKind.i64.wrap ((m : Int) + 1) = (m : Int) + 1 := by simp [IntKind.wrap, IntKind.bits, IntKind.signed]; omega
      have m0 : ((m : Int) + 1).toNat = m + 1 := by omega
      clear h kl hc
      go_enter Tryd.func21, Tryd.ntmps21
      go_wp2_with (go_at_call 44; refine KS.out.mono ?_; rintro e w1 ⟨rfl, q, rfl⟩)
      go_ret
      exact ⟨rfl, _, rfl⟩

theorem ro_rl {w : World} {B : Nat} {b : Option Addr} {m c n : Nat} {rs : List Rw} (h : RO w B (.slice b m c) n rs) (hr : ∀ r ∈ rs, (∀ c ∈ r.cs, (Lit.int .i64 c.v).wf = true) ∧ r.cs.length ≤ 8796093021952) (hl : rs.length = n) (hn : n ≤ 5864062014635) : m = n ∧ ∃ qs, RL w b n qs ∧ qs.map (·.cs) = rs.map (·.cs) := by
  rcases h with ⟨h, rfl⟩ | ⟨g, c', qs, h1, h2, h3, h4, h5, h6⟩
  · injection h with e1 e2 e3
    subst e1 e2
    have : rs = [] := List.length_eq_zero_iff.1 hl
    subst this
    exact ⟨rfl, [], ⟨rfl, by omega, (fun r hr => by cases hr), .inl rfl⟩, rfl⟩
  · injection h1 with e1 e2 e3
    subst e1 e2 e3
    have mem : ∀ i (hi : i < m), rs.getD i default ∈ rs := fun i hi => by
      have hi' : i < rs.length := by omega
      rw [show rs.getD i default = rs[i] by simp [List.getD, hi']]; exact List.getElem_mem hi'
    -- the rows with what they hold
    refine ⟨rfl, (List.range m).map (fun i => { qs.getD i default with cs := (rs.getD i default).cs }), ⟨by simp, hn, fun r hr' => ?_, .inr ⟨g, 0, rfl, h3.2, fun i hi => ?_⟩⟩, ?_⟩
    · obtain ⟨i, hi, rfl⟩ := List.mem_map.1 hr'
      have hi' := List.mem_range.1 hi
      have R := h6 i hi'
      obtain ⟨r1, g0, r2, _⟩ := rowN_rc R (hr _ (mem i hi')).1 (hr _ (mem i hi')).2
      exact ⟨r1, (fun e => by rw [r2] at e; cases e), Nat.le_trans (Nat.le_add_right _ 2) R.2.1, R.2.2.1⟩
    · rw [Nat.zero_add, h5 i hi]
      simp [List.getD, hi]
    · apply List.ext_getElem
      · simp [hl]
      · intro i h7 h8
        have hi : i < m := by simpa using h7
        have hi' : i < rs.length := by omega
        simp [List.getD, hi']

set_option maxRecDepth 100000 in
set_option maxHeartbeats 4000000 in
theorem intact_any (B : Nat) (an ar b b2 : Option Addr) (ln cn lr cr m c m2 c2 : Nat) (ss : List ByteArray) (rs : List Rw) (w : World) (h : NL w an ln ss) (k : RL w ar lr rs) (hn : an = none → ln = 0 ∧ cn = 0) (hb : Bh w) (N : NO w B an (.slice b m c) ln ss) (R : RO w B (.slice b2 m2 c2) lr rs) :
    Calls Tryd.prog 11 #[.agg #[.slice b m c, .slice b2 m2 c2], .agg #[.slice an ln cn, .slice ar lr cr]] w fun e w' => e = .returned (.bool true) ∧ Below w.heap.size w w' := by
  have hB0 : Below w.heap.size w ((w.alloc (.cells #[.slice b m c, .slice b2 m2 c2] 25)).alloc (.cells #[.slice an ln cn, .slice ar lr cr] 25)) := ((Below.refl _ w).alloc (Nat.le_refl _) _).alloc (by simp) _
  have p0 : ((w.alloc (.cells #[.slice b m c, .slice b2 m2 c2] 25)).alloc (.cells #[.slice an ln cn, .slice ar lr cr] 25)).cell? ⟨w.heap.size, 0, none⟩ = some (.slice b m c) := by go_simp
  have p1 : ((w.alloc (.cells #[.slice b m c, .slice b2 m2 c2] 25)).alloc (.cells #[.slice an ln cn, .slice ar lr cr] 25)).cell? ⟨w.heap.size, 1, none⟩ = some (.slice b2 m2 c2) := by go_simp
  have p2 : ((w.alloc (.cells #[.slice b m c, .slice b2 m2 c2] 25)).alloc (.cells #[.slice an ln cn, .slice ar lr cr] 25)).cell? ⟨w.heap.size + 1, 0, none⟩ = some (.slice an ln cn) := by go_simp
  have p3 : ((w.alloc (.cells #[.slice b m c, .slice b2 m2 c2] 25)).alloc (.cells #[.slice an ln cn, .slice ar lr cr] 25)).cell? ⟨w.heap.size + 1, 1, none⟩ = some (.slice ar lr cr) := by go_simp
  obtain ⟨w0, hw0⟩ : ∃ w0, (w.alloc (.cells #[.slice b m c, .slice b2 m2 c2] 25)).alloc (.cells #[.slice an ln cn, .slice ar lr cr] 25) = w0 := ⟨_, rfl⟩
  rw [hw0] at hB0 p0 p1 p2 p3
  have hlr := k.2.1
  have RW : ∀ r ∈ rs, (∀ c ∈ r.cs, (Lit.int .i64 c.v).wf = true) ∧ r.cs.length ≤ 8796093021952 := fun r hr => ⟨(k.2.2.1 r hr).1.2.2.1, by rw [(k.2.2.1 r hr).1.1]; exact (k.2.2.1 r hr).1.2.1⟩
  have R0 := R.later hB0
  obtain ⟨rfl, qs, Q0, QE⟩ := ro_rl R0 RW k.1 hlr
  have KN := Lib.hid (fun q => intactNames_any B an b ln m cn c ss (w0.drewN q) ((h.later hB0).drewN q) hn (N.later (belowT_drewN hB0 q)))
  have K0 := k.later hB0
  have KR := Lib.hid (fun q => sameRows_any b2 ar m2 c2 cr qs rs (w0.drewN q) (Q0.drewN q) (K0.drewN q) QE)
  have B0 := Lib.hid hB0
  have G0 := Lib.hid (hb.later hB0)
  -- each row: the two that lie in their lists, and the cells behind
  have HA := Lib.hid (p := ∀ i, i < m2 → ∃ (x o y p : Nat) (a1 : Option Addr) (g n d d' : Nat), b2 = some ⟨x, o, none⟩ ∧ ar = some ⟨y, p, none⟩ ∧ w0.cell? ⟨x, o + i, none⟩ = some (.slice (some ⟨g, 0, none⟩) n d) ∧ w0.cell? ⟨y, p + i, none⟩ = some (.slice a1 n d') ∧ n + 2 ≤ d ∧ n ≤ 8796093021952 ∧ CC w0 g (n * 2) bc ∧ CC w0 g ((n + 1) * 2) bc) (fun i hi => by
    rcases R0 with ⟨_, e⟩ | ⟨g, c', qs', h1, h2, h3, h4, h5, h6⟩
    · omega
    · injection h1 with e1 e2 e3
      rcases K0.2.2.2 with e0 | ⟨y, p, e4, hy, h7⟩
      · omega
      · have hi' : i < rs.length := by rw [k.1]; exact hi
        have mem : rs.getD i default ∈ rs := by
          rw [show rs.getD i default = rs[i] by simp [List.getD, hi']]; exact List.getElem_mem hi'
        have Rn := h6 i hi
        obtain ⟨r1, g0, r2, r3, r4⟩ := rowN_rc Rn (RW _ mem).1 (RW _ mem).2
        have en : (rs.getD i default).n = (qs'.getD i default).n := by rw [Rn.1, (k.2.2.1 _ mem).1.1]
        have c5 := h5 i hi
        rw [r2] at c5
        have c7 := h7 i hi
        rw [en] at c7
        have cl : (rs.getD i default).cs.length = (qs'.getD i default).n := Rn.1.symm
        refine ⟨g, 0, y, p, _, g0, _, _, _, e1, e4, by rw [Nat.zero_add]; exact c5, c7, Rn.2.1, by rw [← cl]; exact (RW _ mem).2, ?_, ?_⟩
        · have := r4 (qs'.getD i default).n (by omega)
          rwa [show ((rs.getD i default).cs ++ [bc, bc]).getD (qs'.getD i default).n default = bc by
            simp only [List.getD] at cl ⊢; rw [List.getElem?_append_right (by omega), cl, Nat.sub_self]; rfl] at this
        · have := r4 ((qs'.getD i default).n + 1) (by omega)
          rwa [show ((rs.getD i default).cs ++ [bc, bc]).getD ((qs'.getD i default).n + 1) default = bc by
            simp only [List.getD] at cl ⊢; rw [List.getElem?_append_right (by omega), cl, Nat.add_sub_cancel_left]; rfl] at this)
  have HW := Lib.hid hw0
  clear h k hn hb N R R0 Q0 QE K0 hB0 RW
  go_enter Tryd.func11, Tryd.ntmps11
  go_wp2_with (first
    | (go_at_call 21; refine (KN.out 0).mono ?_; rintro e w1 ⟨rfl, q, rfl⟩)
    | (go_at_call 18; refine (KR.out _).mono ?_; rintro e w2 ⟨rfl, q2, rfl⟩))
  clear p0 p2
  go_loopw [7] (fun t wr => ∃ i : Nat, i ≤ m2 ∧ t = .int .i64 i ∧ ∃ q, wr = w0.drewN q) (fun t _ => m2 - (intOf t).toNat)
  case atStart => exact ⟨0, by omega, rfl, _, rfl⟩
  case round =>
    rename World => wr
    obtain ⟨i, hi, rfl, q, hq⟩ := hrel
    have HQ := Lib.hid hq
    have d1 : wr.cell? ⟨w.heap.size, 1, none⟩ = some (.slice b2 m2 c2) := by rw [hq]; exact p1
    have d3 : wr.cell? ⟨w.heap.size + 1, 1, none⟩ = some (.slice ar m2 cr) := by rw [hq]; exact p3
    by_cases hlt : i < m2
    · obtain ⟨x, o, y, p, a1, g, n, d, d', rfl, rfl, c0, c1, hd, hn, ⟨e0, e1⟩, e2, e3⟩ := HA.out i hlt
      obtain ⟨_, g0, g1⟩ := G0.out
      rw [← World.cell?_drewN (n := q), ← hq] at c0 c1 e0 e1 e2 e3 g0 g1
      simp only [bc] at e0 e1 e2 e3
      have ic : (i : Int) < (m2 : Int) := by omega
      have dc : (n : Int) + 2 ≤ (d : Int) := by omega
      have n1 : (n : Int) + 1 < (n : Int) + 2 := by omega
      have n2 : (n : Int) < (n : Int) + 2 := by omega
      have n3 : ((n : Int) + 1).toNat = n + 1 := by omega
      have n4 : IntKind.i64.wrap ((n : Int) + 1) = (n : Int) + 1 := by simp [IntKind.wrap, IntKind.bits, IntKind.signed]; omega
      have n5 : IntKind.i64.wrap ((n : Int) + 2) = (n : Int) + 2 := by simp [IntKind.wrap, IntKind.bits, IntKind.signed]; omega
      clear hq p1 p3
      go_wp2
      go_quiet (fail)
      go_wp2
      go_quiet (fail)
      go_wp2
      go_roundw
      case rel => exact ⟨i + 1, by omega, by go_num, _, by rw [HQ.out]; first | exact World.drewN_drewN _ _ _ | (simp only [World.drewN_drewN])⟩
      case measure => simp [intOf]; omega
    · obtain rfl : i = m2 := by omega
      have BF := Lib.hid (p := Below w.heap.size w wr) (by rw [hq]; exact belowT_drewN B0.out _)
      clear hq p1 p3
      go_wp2
      go_ret
      exact ⟨rfl, BF.out⟩
end Go.Proofs.YtglgdfgdfkeogaaDoor
