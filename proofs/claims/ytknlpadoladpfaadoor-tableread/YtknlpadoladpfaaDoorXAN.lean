import Derived.Test.YtknlpadoladpfaaDoorXAM
namespace Go.Proofs.YtknlpadoladpfaaDoor
open Go.RowKit
set_option linter.unusedVariables false
set_option linter.unusedSimpArgs false

theorem nilT_is (w : World) : TbIs w nilT [] [] := (psT_nil 0 w 0 0).is
theorem bnot_of {e : Int} (h : ¬ e = 0) : (e == 0) = false := by rw [beq_eq_false_iff_ne]; exact h
set_option maxRecDepth 100000 in
set_option maxHeartbeats 8000000 in
theorem tableRead_go (s : ByteArray) (w : World) (hs : s.size ≤ maxLen) (G : Grd w) :
    Calls Tryd.prog 4 #[.string s] w fun e w' => e = .returned (.bool true) ∧ Below w.heap.size w w' := by
  have KPL := Lib.hid (fun W => plain_any W)
  have KB := Lib.hid (fun p W (hp : TbIs W p plS plR) b => plainBack p w W hp G b)
  have KQ := Lib.hid (p := ∀ (W : World), Below w.heap.size w W → Calls Tryd.prog 11 #[.string s] W fun e w' => ∃ u : Tb, e = .returned (.tuple #[u.val, .int .i64 ((parseP s).pl : Int), .int .i64 (parseP s).e]) ∧ TbIs w' u (parseP s).ns (parseP s).rs ∧ Below W.heap.size W w') (fun W b => by
    refine (parseT_any s W (G.later b).po (G.later b).ev).mono ?_
    rintro e w' ⟨u, h1, h2, h3⟩
    exact ⟨u, h1, h2.is, h3⟩)
  have ALL := parseP_all s
  have LONG : 1048576 < s.size → parseP s = ⟨0, 6, [], []⟩ := fun k => by unfold parseP; rw [if_pos k]
  obtain ⟨R, hR⟩ : ∃ R, parseP s = R := ⟨_, rfl⟩
  rw [hR] at ALL LONG KQ
  have mx : (maxLen : Nat) = 9223372036854775807 := rfl
  obtain ⟨pl, E, ns, rs⟩ := R
  simp only at KQ ALL
  rcases ALL with ⟨b1, b2, b3, b4⟩ | ⟨g1, g2, g3⟩
  · simp only at b1 b2 b3 b4
    subst b3 b4
    have KS := Lib.hid (fun (W : World) (u v : Tb) (hu : TbIs W u [] []) (hv : TbIs W v [] []) => sameT_any u v [] [] W hu hv)
    by_cases hl : 1048576 < s.size
    · have := LONG hl
      injection this with e1 e2
      subst e1 e2
      have szI : (1048576 : Int) < (s.size : Int) := by omega
      have s0 : (0 : Int) ≤ (s.size : Int) := by omega
      clear LONG b1 b2 hR G
      go_enter Tryd.func4, Tryd.ntmps4
      go_wp2_with (first
        | (go_at_call 7; refine (KPL.out _).mono ?_; rintro e w1 ⟨⟨a1, n1, c1, s1, b1, m1, d1, q1⟩, rfl, hU, hB⟩; simp only [Tb.val]; have U1 := Lib.hid hU; have E1 := Lib.hid hB; clear hU hB)
        | (go_at_call 6; refine (KB.out _ _ U1.out E1.out).mono ?_; rintro e w2 ⟨rfl, hB⟩; have E2 := Lib.hid (E1.out.trans (hB.mono E1.out.size)); clear hB)
        | (go_at_call 11; refine (KQ.out _ E2.out).mono ?_; rintro e w3 ⟨⟨a3, n3, c3, s3, b3, m3, d3, q3⟩, rfl, hU, hB⟩; simp only [Tb.val]; have A3 := Lib.hid ((Below.refl w3.heap.size w3).alloc (Nat.le_refl _) (.cells #[.slice a3 n3 c3, .slice b3 m3 d3] 25)); have U3 := Lib.hid (hU.later A3.out); have E3 := Lib.hid ((E2.out.trans (hB.mono E2.out.size)).trans (A3.out.mono (E2.out.trans (hB.mono E2.out.size)).size)); clear hU hB)
        | (go_at_call 12; refine (KS.out _ _ nilT U3.out (nilT_is _)).mono ?_; rintro e w4 ⟨rfl, hB⟩; have E4 := Lib.hid (E3.out.trans (hB.mono E3.out.size)); clear hB))
      go_ret
      exact ⟨rfl, E4.out⟩
    · have szI : ¬ (1048576 : Int) < (s.size : Int) := by omega
      have p0 : (0 : Int) ≤ (pl : Int) := by omega
      have p1 : (pl : Int) ≤ (s.size : Int) := by omega
      have d1 : decide (pl ≤ s.size) = true := decide_eq_true b1
      clear LONG hR G b1
      rcases b2 with rfl | rfl | rfl
      all_goals
        go_enter Tryd.func4, Tryd.ntmps4
        go_wp2_with (first
          | (go_at_call 7; refine (KPL.out _).mono ?_; rintro e w1 ⟨⟨a1, n1, c1, s1, b1, m1, d1, q1⟩, rfl, hU, hB⟩; simp only [Tb.val]; have U1 := Lib.hid hU; have E1 := Lib.hid hB; clear hU hB)
          | (go_at_call 6; refine (KB.out _ _ U1.out E1.out).mono ?_; rintro e w2 ⟨rfl, hB⟩; have E2 := Lib.hid (E1.out.trans (hB.mono E1.out.size)); clear hB)
          | (go_at_call 11; refine (KQ.out _ E2.out).mono ?_; rintro e w3 ⟨⟨a3, n3, c3, s3, b3, m3, d3, q3⟩, rfl, hU, hB⟩; simp only [Tb.val]; have A3 := Lib.hid ((Below.refl w3.heap.size w3).alloc (Nat.le_refl _) (.cells #[.slice a3 n3 c3, .slice b3 m3 d3] 25)); have U3 := Lib.hid (hU.later A3.out); have E3 := Lib.hid ((E2.out.trans (hB.mono E2.out.size)).trans (A3.out.mono (E2.out.trans (hB.mono E2.out.size)).size)); clear hU hB)
          | (go_at_call 12; refine (KS.out _ _ nilT U3.out (nilT_is _)).mono ?_; rintro e w4 ⟨rfl, hB⟩; have E4 := Lib.hid (E3.out.trans (hB.mono E3.out.size)); clear hB))
        go_ret
        exact ⟨rfl, E4.out⟩
  · skip
    subst g1 g2
    have V0 := valid_gd g3
    have KV := Lib.hid (p := ∀ (W : World) (u : Tb), TbIs W u ns rs → Calls Tryd.prog 8 #[u.val] W fun e w' => e = .returned (.int .i64 0) ∧ Below W.heap.size W w') (fun W u hu => by
      have := validI_any u ns rs W hu
      rwa [V0] at this)
    have KP := Lib.hid (fun (W : World) (u : Tb) (hu : TbIs W u ns rs) (b : Below w.heap.size w W) => printI_any u ns rs W hu (G.later b).po)
    by_cases hl : (textT ns rs rs.length).length ≤ 1048576
    · have PG := Lib.hid (p := ∀ e, PrT ns rs e → e = .returned (.tuple #[.string (sOf (textT ns rs rs.length)), .int .i64 0])) (fun e k => print_good V0 hl k)
      have KBT := Lib.hid (fun (W : World) (u : Tb) (hu : TbIs W u ns rs) (b : Below w.heap.size w W) => back_any u ns rs W hu g3 hl (G.later b))
      have PM := Lib.hid True.intro
      clear LONG hR G V0 g3 hl
      generalize sOf (textT ns rs rs.length) = x at *
      go_enter Tryd.func4, Tryd.ntmps4
      go_wp2_with (first
        | (go_at_call 7; refine (KPL.out _).mono ?_; rintro e w1 ⟨⟨a1, n1, c1, s1, b1, m1, d1, q1⟩, rfl, hU, hB⟩; simp only [Tb.val]; have U1 := Lib.hid hU; have E1 := Lib.hid hB; clear hU hB)
        | (go_at_call 6; have qq := PM; refine (KB.out _ _ U1.out E1.out).mono ?_; rintro e w2 ⟨rfl, hB⟩; have E2 := Lib.hid (E1.out.trans (hB.mono E1.out.size)); clear hB PM qq)
        | (go_at_call 11; refine (KQ.out _ E2.out).mono ?_; rintro e w3 ⟨⟨a3, n3, c3, s3, b3, m3, d3, q3⟩, rfl, hU, hB⟩; simp only [Tb.val]; have A3 := Lib.hid ((Below.refl w3.heap.size w3).alloc (Nat.le_refl _) (.cells #[.slice a3 n3 c3, .slice b3 m3 d3] 25)); have U3 := Lib.hid (hU.later A3.out); have E3 := Lib.hid ((E2.out.trans (hB.mono E2.out.size)).trans (A3.out.mono (E2.out.trans (hB.mono E2.out.size)).size)); clear hU hB)
        | (go_at_call 10; refine (KP.out _ _ U3.out E3.out).mono ?_; rintro e w4 ⟨hp, hB⟩; have hp2 := PG.out _ hp; subst hp2; clear hp; have U4 := Lib.hid (U3.out.later hB); have D4 := Lib.hid hB; have E4 := Lib.hid (E3.out.trans (hB.mono E3.out.size)); obtain ⟨z0, z1⟩ := box_new2 hB; clear hB)
        | (go_at_call 8; refine (KV.out _ _ U4.out).mono ?_; rintro e w5 ⟨rfl, hB⟩; have U5 := Lib.hid (U4.out.later hB); have E5 := Lib.hid (E4.out.trans (hB.mono E4.out.size)); obtain ⟨x0, x1⟩ := box_new2 (D4.out.trans (hB.mono D4.out.size)); clear hB)
        | (go_at_call 6; have qq := U5; refine (KBT.out _ _ U5.out E5.out).mono ?_; rintro e w6 ⟨rfl, hB⟩; have E6 := Lib.hid (E5.out.trans (hB.mono E5.out.size)); clear hB qq))
      go_ret
      exact ⟨rfl, E6.out⟩
    · have PG := Lib.hid (p := ∀ e, PrT ns rs e → e = .returned (.tuple #[.string ⟨#[]⟩, .int .i64 6])) (fun e k => by
        rcases k with ⟨a, _⟩ | ⟨_, _, c⟩ | ⟨_, b, _⟩
        · exact absurd V0 a
        · exact c
        · omega)
      clear LONG hR G V0 g3 hl
      go_enter Tryd.func4, Tryd.ntmps4
      go_wp2_with (first
        | (go_at_call 7; refine (KPL.out _).mono ?_; rintro e w1 ⟨⟨a1, n1, c1, s1, b1, m1, d1, q1⟩, rfl, hU, hB⟩; simp only [Tb.val]; have U1 := Lib.hid hU; have E1 := Lib.hid hB; clear hU hB)
        | (go_at_call 6; refine (KB.out _ _ U1.out E1.out).mono ?_; rintro e w2 ⟨rfl, hB⟩; have E2 := Lib.hid (E1.out.trans (hB.mono E1.out.size)); clear hB)
        | (go_at_call 11; refine (KQ.out _ E2.out).mono ?_; rintro e w3 ⟨⟨a3, n3, c3, s3, b3, m3, d3, q3⟩, rfl, hU, hB⟩; simp only [Tb.val]; have A3 := Lib.hid ((Below.refl w3.heap.size w3).alloc (Nat.le_refl _) (.cells #[.slice a3 n3 c3, .slice b3 m3 d3] 25)); have U3 := Lib.hid (hU.later A3.out); have E3 := Lib.hid ((E2.out.trans (hB.mono E2.out.size)).trans (A3.out.mono (E2.out.trans (hB.mono E2.out.size)).size)); clear hU hB)
        | (go_at_call 10; refine (KP.out _ _ U3.out E3.out).mono ?_; rintro e w4 ⟨hp, hB⟩; have hp2 := PG.out _ hp; subst hp2; clear hp; have U4 := Lib.hid (U3.out.later hB); have E4 := Lib.hid (E3.out.trans (hB.mono E3.out.size)); obtain ⟨z0, z1⟩ := box_new2 hB; clear hB)
        | (go_at_call 8; refine (KV.out _ _ U4.out).mono ?_; rintro e w5 ⟨rfl, hB⟩; have E5 := Lib.hid (E4.out.trans (hB.mono E4.out.size)); clear hB))
      go_ret
      exact ⟨rfl, E5.out⟩
end Go.Proofs.YtknlpadoladpfaaDoor
