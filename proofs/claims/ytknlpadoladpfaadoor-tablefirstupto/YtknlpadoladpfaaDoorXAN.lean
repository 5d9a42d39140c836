import Derived.Test.YtknlpadoladpfaaDoorXAM
namespace Go.Proofs.YtknlpadoladpfaaDoor
open Go.RowKit
set_option linter.unusedVariables false
set_option linter.unusedSimpArgs false

theorem nilT_is (w : World) : TbIs w nilT [] [] := (psT_nil 0 w 0 0).is
theorem bnot_of {e : Int} (h : ¬ e = 0) : (e == 0) = false := by rw [beq_eq_false_iff_ne]; exact h
set_option maxRecDepth 100000 in
set_option maxHeartbeats 8000000 in
theorem tableRead_go (s : ByteArray) (w : World) (hs : s.size ≤ maxLen) (G : Grd w) :
    Calls Tryd.prog 4 #[.string s] w fun e w' => e = .returned (.bool true) ∧ Below w.heap.size w w' := by
  have KPL := Lib.hid (fun W => plain_any W)
  have KB := Lib.hid (fun p W (hp : TbIs W p plS plR) b => plainBack p w W hp G b)
  have KQ := Lib.hid (p := ∀ (W : World), Below w.heap.size w W → Calls Tryd.prog 11 #[.string s] W fun e w' => ∃ u : Tb, e = .returned (.tuple #[u.val, .int .i64 ((parseP s).pl : Int), .int .i64 (parseP s).e]) ∧ TbIs w' u (parseP s).ns (parseP s).rs ∧ Below W.heap.size W w') (fun W b => by
    refine (parseT_any s W (G.later b).po (G.later b).ev).mono ?_
    rintro e w' ⟨u, h1, h2, h3⟩
    exact ⟨u, h1, h2.is, h3⟩)
  have ALL := parseP_all s
  have LONG : 1048576 < s.size → parseP s = ⟨0, 6, [], []⟩ := fun k => by unfold parseP; rw [if_pos k]
  obtain ⟨R, hR⟩ : ∃ R, parseP s = R := ⟨_, rfl⟩
  rw [hR] at ALL LONG KQ
  have mx : (maxLen : Nat) = 9223372036854775807 := rfl
  obtain ⟨pl, E, ns, rs⟩ := R
  simp only at KQ ALL
  rcases ALL with ⟨b1, b2, b3, b4⟩ | ⟨g1, g2, g3⟩
  · simp only at b1 b2 b3 b4
    subst b3 b4
    have KS := Lib.hid (fun (W : World) (u v : Tb) (hu : TbIs W u [] []) (hv : TbIs W v [] []) => sameT_any u v [] [] W hu hv)
    by_cases hl : 1048576 < s.size
    · have := LONG hl
      injection this with e1 e2
      subst e1 e2
      have szI : (1048576 : Int) < (s.size : Int) := by omega
      have s0 : (0 : Int) ≤ (s.size : Int) := by omega
      clear LONG b1 b2 hR G
      go_enter Tryd.func4, Tryd.ntmps4
      go_wp2_with (first
        | (go_at_call 7; refine (KPL.out _).mono ?_; rintro e w1 ⟨⟨a1, n1, c1, s1, b1, m1, d1, q1⟩, rfl, hU, hB⟩; simp only [Tb.val]; have U1 := Lib.hid hU; have E1 := Lib.hid hB; clear hU hB)
        | (go_at_call 6; refine (KB.out _ _ U1.out E1.out).mono ?_; rintro e w2 ⟨rfl, hB⟩; have E2 := Lib.hid (E1.out.trans (hB.mono E1.out.size)); clear hB)
        | (go_at_call 11; refine (KQ.out _ E2.out).mono ?_; rintro e w3 ⟨⟨a3, n3, c3, s3, b3, m3, d3, q3⟩, rfl, hU, hB⟩; simp only [Tb.val]; have A3 := Lib.hid ((Below.refl w3.heap.size w3).alloc (Nat.le_refl _) (.cells #[.slice a3 n3 c3, .slice b3 m3 d3] 25)); have U3 := Lib.hid (hU.later A3.out); have E3 := Lib.hid ((E2.out.trans (hB.mono E2.out.size)).trans (A3.out.mono (E2.out.trans (hB.mono E2.out.size)).size)); clear hU hB)
        | (go_at_call 12; refine (KS.out _ _ nilT U3.out (nilT_is _)).mono ?_; rintro e w4 ⟨rfl, hB⟩; have E4 := Lib.hid (E3.out.trans (hB.mono E3.out.size)); clear hB))
      go_ret
      exact ⟨rfl, E4.out⟩
    · have szI : ¬ (1048576 : Int) < (s.size : Int) := by omega
      have p0 : (0 : Int) ≤ (pl : Int) := by omega
      have p1 : (pl : Int) ≤ (s.size : Int) := by omega
      have d1 : decide (pl ≤ s.size) = true := decide_eq_true b1
      clear LONG hR G b1
      rcases b2 with rfl | rfl | rfl
      all_goals
        go_enter Tryd.func4, Tryd.ntmps4
        go_wp2_with (first
          | (go_at_call 7; refine (KPL.out _).mono ?_; rintro e w1 ⟨⟨a1, n1, c1, s1, b1, m1, d1, q1⟩, rfl, hU, hB⟩; simp only [Tb.val]; have U1 := Lib.hid hU; have E1 := Lib.hid hB; clear hU hB)
          | (go_at_call 6; refine (KB.out _ _ U1.out E1.out).mono ?_; rintro e w2 ⟨rfl, hB⟩; have E2 := Lib.hid (E1.out.trans (hB.mono E1.out.size)); clear hB)
          | (go_at_call 11; refine (KQ.out _ E2.out).mono ?_; rintro e w3 ⟨⟨a3, n3, c3, s3, b3, m3, d3, q3⟩, rfl, hU, hB⟩; simp only [Tb.val]; have A3 := Lib.hid ((Below.refl w3.heap.size w3).alloc (Nat.le_refl _) (.cells #[.slice a3 n3 c3, .slice b3 m3 d3] 25)); have U3 := Lib.hid (hU.later A3.out); have E3 := Lib.hid ((E2.out.trans (hB.mono E2.out.size)).trans (A3.out.mono (E2.out.trans (hB.mono E2.out.size)).size)); clear hU hB)
          | (go_at_call 12; refine (KS.out _ _ nilT U3.out (nilT_is _)).mono ?_; rintro e w4 ⟨rfl, hB⟩; have E4 := Lib.hid (E3.out.trans (hB.mono E3.out.size)); clear hB))
        go_ret
        exact ⟨rfl, E4.out⟩
  · skip
    subst g1 g2
    have V0 := valid_gd g3
    have KV := Lib.hid (p := ∀ (W : World) (u : Tb), TbIs W u ns rs → Calls Tryd.prog 8 #[u.val] W fun e w' => e = .returned (.int .i64 0) ∧ Below W.heap.size W w') (fun W u hu => by
      have := validI_any u ns rs W hu
      rwa [V0] at this)
    have KP := Lib.hid (fun (W : World) (u : Tb) (hu : TbIs W u ns rs) (b : Below w.heap.size w W) => printI_any u ns rs W hu (G.later b).po)
    by_cases hl : (textT ns rs rs.length).length ≤ 1048576
    · have PG := Lib.hid (p := ∀ e, PrT ns rs e → e = .returned (.tuple #[.string (sOf (textT ns rs rs.length)), .int .i64 0])) (fun e k => print_good V0 hl k)
      have KBT := Lib.hid (fun (W : World) (u : Tb) (hu : TbIs W u ns rs) (b : Below w.heap.size w W) => back_any u ns rs W hu g3 hl (G.later b))
      have PM := Lib.hid True.intro
      clear LONG hR G V0 g3 hl
      generalize sOf (textT ns rs rs.length) = x at *
      go_enter Tryd.func4, Tryd.ntmps4
      go_wp2_with (first
        | (go_at_call 7; refine (KPL.out _).mono ?_; rintro e w1 ⟨⟨a1, n1, c1, s1, b1, m1, d1, q1⟩, rfl, hU, hB⟩; simp only [Tb.val]; have U1 := Lib.hid hU; have E1 := Lib.hid hB; clear hU hB)
        | (go_at_call 6; have qq := PM; refine (KB.out _ _ U1.out E1.out).mono ?_; rintro e w2 ⟨rfl, hB⟩; have E2 := Lib.hid (E1.out.trans (hB.mono E1.out.size)); clear hB PM qq)
        | (go_at_call 11; refine (KQ.out _ E2.out).mono ?_; rintro e w3 ⟨⟨a3, n3, c3, s3, b3, m3, d3, q3⟩, rfl, hU, hB⟩; simp only [Tb.val]; have A3 := Lib.hid ((Below.refl w3.heap.size w3).alloc (Nat.le_refl _) (.cells #[.slice a3 n3 c3, .slice b3 m3 d3] 25)); have U3 := Lib.hid (hU.later A3.out); have E3 := Lib.hid ((E2.out.trans (hB.mono E2.out.size)).trans (A3.out.mono (E2.out.trans (hB.mono E2.out.size)).size)); clear hU hB)
        | (go_at_call 10; refine (KP.out _ _ U3.out E3.out).mono ?_; rintro e w4 ⟨hp, hB⟩; have hp2 := PG.out _ hp; subst hp2; clear hp; have U4 := Lib.hid (U3.out.later hB); have D4 := Lib.hid hB; have E4 := Lib.hid (E3.out.trans (hB.mono E3.out.size)); obtain ⟨z0, z1⟩ := box_new2 hB; clear hB)
        | (go_at_call 8; refine (KV.out _ _ U4.out).mono ?_; rintro e w5 ⟨rfl, hB⟩; have U5 := Lib.hid (U4.out.later hB); have E5 := Lib.hid (E4.out.trans (hB.mono E4.out.size)); obtain ⟨x0, x1⟩ := box_new2 (D4.out.trans (hB.mono D4.out.size)); clear hB)
        | (go_at_call 6; have qq := U5; refine (KBT.out _ _ U5.out E5.out).mono ?_; rintro e w6 ⟨rfl, hB⟩; have E6 := Lib.hid (E5.out.trans (hB.mono E5.out.size)); clear hB qq))
      go_ret
      exact ⟨rfl, E6.out⟩
    · have PG := Lib.hid (p := ∀ e, PrT ns rs e → e = .returned (.tuple #[.string ⟨#[]⟩, .int .i64 6])) (fun e k => by
        rcases k with ⟨a, _⟩ | ⟨_, _, c⟩ | ⟨_, b, _⟩
        · exact absurd V0 a
        · exact c
        · omega)
      clear LONG hR G V0 g3 hl
      go_enter Tryd.func4, Tryd.ntmps4
      go_wp2_with (first
        | (go_at_call 7; refine (KPL.out _).mono ?_; rintro e w1 ⟨⟨a1, n1, c1, s1, b1, m1, d1, q1⟩, rfl, hU, hB⟩; simp only [Tb.val]; have U1 := Lib.hid hU; have E1 := Lib.hid hB; clear hU hB)
        | (go_at_call 6; refine (KB.out _ _ U1.out E1.out).mono ?_; rintro e w2 ⟨rfl, hB⟩; have E2 := Lib.hid (E1.out.trans (hB.mono E1.out.size)); clear hB)
        | (go_at_call 11; refine (KQ.out _ E2.out).mono ?_; rintro e w3 ⟨⟨a3, n3, c3, s3, b3, m3, d3, q3⟩, rfl, hU, hB⟩; simp only [Tb.val]; have A3 := Lib.hid ((Below.refl w3.heap.size w3).alloc (Nat.le_refl _) (.cells #[.slice a3 n3 c3, .slice b3 m3 d3] 25)); have U3 := Lib.hid (hU.later A3.out); have E3 := Lib.hid ((E2.out.trans (hB.mono E2.out.size)).trans (A3.out.mono (E2.out.trans (hB.mono E2.out.size)).size)); clear hU hB)
        | (go_at_call 10; refine (KP.out _ _ U3.out E3.out).mono ?_; rintro e w4 ⟨hp, hB⟩; have hp2 := PG.out _ hp; subst hp2; clear hp; have U4 := Lib.hid (U3.out.later hB); have E4 := Lib.hid (E3.out.trans (hB.mono E3.out.size)); obtain ⟨z0, z1⟩ := box_new2 hB; clear hB)
        | (go_at_call 8; refine (KV.out _ _ U4.out).mono ?_; rintro e w5 ⟨rfl, hB⟩; have E5 := Lib.hid (E4.out.trans (hB.mono E4.out.size)); clear hB))
      go_ret
      exact ⟨rfl, E5.out⟩
end Go.Proofs.YtknlpadoladpfaaDoor

namespace Go.Proofs.YtknlpadoladpfaaDoor
open Go.RowKit
set_option linter.unusedVariables false
set_option linter.unusedSimpArgs false

theorem catT (x y : ByteArray) (h : x.size + y.size ≤ 2097153) (W : World) : (Op.stringOp .add x y).run Tryd.prog W = .ok (.string (x ++ y)) W := by
  have h1 : ((x.size : Nat) : Int) ≤ 8388608 := by omega
  have h2 : ((y.size : Nat) : Int) ≤ 8388608 := by omega
  exact run_string_add W _ _ h1 h2
theorem app_size (x y : ByteArray) : (x ++ y).size = x.size + y.size := ByteArray.size_append
theorem bt_dataT (s : ByteArray) (j : Nat) : bt s j = (s.data[j]?.map fun b => (b.toNat : Int)).getD (-1) := by
  unfold bt
  by_cases h : j < s.size
  · rw [dif_pos h]
    have : s.data[j]? = some s[j] := Array.getElem?_eq_getElem h
    rw [this]; rfl
  · rw [dif_neg h]
    have : s.data[j]? = none := Array.getElem?_eq_none (Nat.le_of_not_lt h)
    rw [this]; rfl
theorem lk_of (s u : ByteArray) : Lk s (s ++ ⟨#[10]⟩ ++ u) := by
  have hd : (s ++ ⟨#[10]⟩ ++ u).data = s.data ++ #[10] ++ u.data := by simp [ByteArray.data_append]
  have e1 : s.data.size = s.size := rfl
  have ne : (⟨#[10]⟩ : ByteArray).size = 1 := rfl
  refine ⟨by rw [app_size, app_size, ne]; omega, fun j hj => ?_, ?_, fun p q hq => ?_⟩
  · rw [bt_dataT, bt_dataT, hd, Array.getElem?_append_left (by simp; omega), Array.getElem?_append_left (by omega)]
  · rw [bt_dataT, hd, Array.getElem?_append_left (by simp [e1]), Array.getElem?_append_right (by omega)]
    rw [e1, Nat.sub_self]
    rfl
  · apply ByteArray.ext
    rw [ByteArray.data_extract, ByteArray.data_extract, hd]
    apply Array.ext'
    simp only [Array.toList_extract, Array.toList_append, List.extract_eq_take_drop]
    have hl : s.data.toList.length = s.size := Array.length_toList
    rw [List.append_assoc]
    rcases Nat.lt_or_ge s.data.toList.length p with z | z
    · rw [show q - p = 0 by omega]; simp
    · rw [List.drop_append_of_le_length z, List.take_append_of_le_length (by rw [List.length_drop]; omega)]
set_option maxRecDepth 100000 in
set_option maxHeartbeats 8000000 in
theorem tableFirst_go (s u : ByteArray) (w : World) (hs : s.size ≤ 1048576) (hu : u.size ≤ 1048576) (G : Grd w) :
    Calls Tryd.prog 5 #[.string s, .string u] w fun e w' => e = .returned (.bool true) ∧ Below w.heap.size w w' := by
  have KPL := Lib.hid (fun W => plain_any W)
  have KB := Lib.hid (fun p W (hp : TbIs W p plS plR) b => plainBack p w W hp G b)
  have KQ := Lib.hid (p := ∀ (s : ByteArray) (W : World), Below w.heap.size w W → Calls Tryd.prog 11 #[.string s] W fun e w' => ∃ u : Tb, e = .returned (.tuple #[u.val, .int .i64 ((parseP s).pl : Int), .int .i64 (parseP s).e]) ∧ TbIs w' u (parseP s).ns (parseP s).rs ∧ Below W.heap.size W w') (fun s W b => by
    refine (parseT_any s W (G.later b).po (G.later b).ev).mono ?_
    rintro e w' ⟨u, h1, h2, h3⟩
    exact ⟨u, h1, h2.is, h3⟩)
  have LK := lk_of s u
  have SAME := Lib.hid (p := (s ++ ⟨#[10]⟩ ++ u).size ≤ 1048576 → ¬ (parseP s).e = 0 → (parseP s).pl < s.size → parseP (s ++ ⟨#[10]⟩ ++ u) = parseP s) (fun k1 k2 k3 => by
    have e1 : parseP s = prP s 0 none [] := by unfold parseP; rw [if_neg (by omega)]
    have e2 : parseP (s ++ ⟨#[10]⟩ ++ u) = prP (s ++ ⟨#[10]⟩ ++ u) 0 none [] := by unfold parseP; rw [if_neg (by omega)]
    rw [e1] at k2 k3
    rw [e1, e2]
    exact LK.pr _ 0 none [] rfl (Nat.zero_le _) k2 k3)
  have ne : (⟨#[10]⟩ : ByteArray).size = 1 := rfl
  have C1 := fun W => catT s ⟨#[10]⟩ (by rw [ne]; omega) W
  have C2 := fun W => catT (s ++ ⟨#[10]⟩) u (by rw [app_size, ne]; omega) W
  have KA := Lib.hid (KQ.out s)
  have KC := Lib.hid (KQ.out (s ++ ⟨#[10]⟩ ++ u))
  have MS : (s ++ ⟨#[10]⟩ ++ u).size ≤ 3145728 := by rw [app_size, app_size, ne]; omega
  generalize s ++ ⟨#[10]⟩ = x at *
  generalize x ++ u = y at *
  generalize parseP s = R at *
  generalize parseP y = R2 at *
  obtain ⟨pl, E, ns, rs⟩ := R
  obtain ⟨pl2, E2, ns2, rs2⟩ := R2
  simp only at KA KC SAME
  have p0 : (0 : Int) ≤ (pl : Int) := by omega
  have PM := Lib.hid True.intro
  clear LK KQ ne G
  by_cases h1 : 1048576 < y.size
  · have z1 : (1048576 : Int) < (y.size : Int) := by omega
    clear SAME KC
    go_enter Tryd.func5, Tryd.ntmps5
    go_wp2_with (first
      | (go_at_call 7; refine (KPL.out _).mono ?_; rintro e w1 ⟨⟨a1, n1, c1, s1, b1, m1, d1, q1⟩, rfl, hU, hB⟩; simp only [Tb.val]; have U1 := Lib.hid hU; have E1 := Lib.hid hB; clear hU hB)
      | (go_at_call 6; refine (KB.out _ _ U1.out E1.out).mono ?_; rintro e w2 ⟨rfl, hB⟩; have E2 := Lib.hid (E1.out.trans (hB.mono E1.out.size)); clear hB)
      | (go_at_call 11; refine (KA.out _ E2.out).mono ?_; rintro e w3 ⟨⟨a3, n3, c3, s3, b3, m3, d3, q3⟩, rfl, hU, hB⟩; simp only [Tb.val]; have A3 := Lib.hid ((Below.refl w3.heap.size w3).alloc (Nat.le_refl _) (.cells #[.slice a3 n3 c3, .slice b3 m3 d3] 25)); have E3 := Lib.hid ((E2.out.trans (hB.mono E2.out.size)).trans (A3.out.mono (E2.out.trans (hB.mono E2.out.size)).size)); clear hU hB))
    go_ret
    exact ⟨rfl, E3.out⟩
  · have z1 : ¬ (1048576 : Int) < (y.size : Int) := by omega
    have z1d : decide (1048576 < y.size) = false := decide_eq_false h1
    by_cases h2 : E = 0
    · subst h2
      clear SAME KC
      go_enter Tryd.func5, Tryd.ntmps5
      go_wp2_with (first
        | (go_at_call 7; refine (KPL.out _).mono ?_; rintro e w1 ⟨⟨a1, n1, c1, s1, b1, m1, d1, q1⟩, rfl, hU, hB⟩; simp only [Tb.val]; have U1 := Lib.hid hU; have E1 := Lib.hid hB; clear hU hB)
        | (go_at_call 6; refine (KB.out _ _ U1.out E1.out).mono ?_; rintro e w2 ⟨rfl, hB⟩; have E2 := Lib.hid (E1.out.trans (hB.mono E1.out.size)); clear hB)
        | (go_at_call 11; refine (KA.out _ E2.out).mono ?_; rintro e w3 ⟨⟨a3, n3, c3, s3, b3, m3, d3, q3⟩, rfl, hU, hB⟩; simp only [Tb.val]; have A3 := Lib.hid ((Below.refl w3.heap.size w3).alloc (Nat.le_refl _) (.cells #[.slice a3 n3 c3, .slice b3 m3 d3] 25)); have E3 := Lib.hid ((E2.out.trans (hB.mono E2.out.size)).trans (A3.out.mono (E2.out.trans (hB.mono E2.out.size)).size)); clear hU hB))
      go_ret
      exact ⟨rfl, E3.out⟩
    · have z2 : (E == 0) = false := bnot_of h2
      by_cases h3 : s.size ≤ pl
      · have z3 : (s.size : Int) ≤ (pl : Int) := by omega
        have z3d : decide (s.size ≤ pl) = true := decide_eq_true h3
        clear SAME KC
        go_enter Tryd.func5, Tryd.ntmps5
        go_wp2_with (first
          | (go_at_call 7; refine (KPL.out _).mono ?_; rintro e w1 ⟨⟨a1, n1, c1, s1, b1, m1, d1, q1⟩, rfl, hU, hB⟩; simp only [Tb.val]; have U1 := Lib.hid hU; have E1 := Lib.hid hB; clear hU hB)
          | (go_at_call 6; refine (KB.out _ _ U1.out E1.out).mono ?_; rintro e w2 ⟨rfl, hB⟩; have E2 := Lib.hid (E1.out.trans (hB.mono E1.out.size)); clear hB)
          | (go_at_call 11; refine (KA.out _ E2.out).mono ?_; rintro e w3 ⟨⟨a3, n3, c3, s3, b3, m3, d3, q3⟩, rfl, hU, hB⟩; simp only [Tb.val]; have A3 := Lib.hid ((Below.refl w3.heap.size w3).alloc (Nat.le_refl _) (.cells #[.slice a3 n3 c3, .slice b3 m3 d3] 25)); have E3 := Lib.hid ((E2.out.trans (hB.mono E2.out.size)).trans (A3.out.mono (E2.out.trans (hB.mono E2.out.size)).size)); clear hU hB))
        go_ret
        exact ⟨rfl, E3.out⟩
      · have z3 : ¬ (s.size : Int) ≤ (pl : Int) := by omega
        have z3d : decide (s.size ≤ pl) = false := decide_eq_false h3
        have SM := SAME.out (by omega) h2 (by omega)
        injection SM with e1 e2 e3 e4
        subst e1 e2 e3 e4
        clear SAME
        go_enter Tryd.func5, Tryd.ntmps5
        go_wp2_with (first
          | (go_at_call 7; refine (KPL.out _).mono ?_; rintro e w1 ⟨⟨a1, n1, c1, s1, b1, m1, d1, q1⟩, rfl, hU, hB⟩; simp only [Tb.val]; have U1 := Lib.hid hU; have E1 := Lib.hid hB; clear hU hB)
          | (go_at_call 6; refine (KB.out _ _ U1.out E1.out).mono ?_; rintro e w2 ⟨rfl, hB⟩; have E2 := Lib.hid (E1.out.trans (hB.mono E1.out.size)); clear hB)
          | (go_at_call 11; have qq := PM; refine (KA.out _ E2.out).mono ?_; rintro e w3 ⟨⟨a3, n3, c3, s3, b3, m3, d3, q3⟩, rfl, hU, hB⟩; simp only [Tb.val]; have A3 := Lib.hid ((Below.refl w3.heap.size w3).alloc (Nat.le_refl _) (.cells #[.slice a3 n3 c3, .slice b3 m3 d3] 25)); have E3 := Lib.hid ((E2.out.trans (hB.mono E2.out.size)).trans (A3.out.mono (E2.out.trans (hB.mono E2.out.size)).size)); clear hU hB PM qq)
          | (go_at_call 11; have qq := E3; refine (KC.out _ E3.out).mono ?_; rintro e w4 ⟨⟨a4, n4, c4, s4, b4, m4, d4, q4⟩, rfl, hU, hB⟩; simp only [Tb.val]; have A4 := Lib.hid ((Below.refl w4.heap.size w4).alloc (Nat.le_refl _) (.cells #[.slice a4 n4 c4, .slice b4 m4 d4] 25)); have E4 := Lib.hid ((E3.out.trans (hB.mono E3.out.size)).trans (A4.out.mono (E3.out.trans (hB.mono E3.out.size)).size)); clear hU hB qq))
        go_ret
        exact ⟨rfl, E4.out⟩
end Go.Proofs.YtknlpadoladpfaaDoor
