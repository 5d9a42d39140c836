/-
  THE STATEMENTS CodeBack, CodeOnly.
-/
import Derived.Test.YtklbbfmpgijhbaaDoorWCodeI
namespace Go.Proofs.YtklbbfmpgijhbaaDoor
open Go.RowKit
set_option linter.unusedVariables false
set_option linter.unusedSimpArgs false

theorem LI.upTo {w : World} {a : Option Addr} {n : Nat} {l : List In} (h : LI w a n l) (m : Nat) (hm : m ≤ n) : LI w a m (l.take m) := by
  obtain ⟨h1, h2, h3⟩ := h
  refine ⟨by simp; omega, by omega, ?_⟩
  rcases h3 with h3 | ⟨b, o, rfl, hb, hc⟩
  · left; omega
  · refine .inr ⟨b, o, rfl, hb, fun i hi => ?_⟩
    have e : (l.take m).getD i default = l.getD i default := by simp [List.getD, hi]
    rw [e]
    exact hc i (by omega)
theorem own_litB (w : World) : Own (w.alloc (.cells #[] 5)) w.heap.size (.slice (some ⟨w.heap.size, 0, none⟩) 0 0) 0 [] :=
  ⟨rfl, .inr ⟨w.heap.size, 0, #[], rfl, Nat.le_refl _, heap_new w _, Nat.le_refl _, by unfold maxLen; omega, rfl, rfl⟩⟩
theorem own_litZ (w : World) : OwI (w.alloc (.cells #[] 33)) w.heap.size (.slice (some ⟨w.heap.size, 0, none⟩) 0 0) [] := own_litI w w.heap.size (Nat.le_refl _) [] (by simp) _ rfl
theorem fewer_at {L : List In} {N1 : Nat} (h : ∀ i ∈ L, i.okP) (hN : L.length = N1 + 1) : decs N1 (encs L) = ([], 46, (encs (L.take N1)).length) := by
  have e : L = L.take N1 ++ [L.getD N1 default] := by rw [← take_snoc (by omega), List.take_of_length_le (by omega)]
  have hl : (L.take N1).length = N1 := by simp; omega
  have := decs_fewer (l := L.take N1) (i := L.getD N1 default) (fun j hj => h j (List.mem_of_mem_take hj)) (h _ (getD_mem (by omega)))
  rw [← e, hl] at this
  exact this
set_option maxRecDepth 100000 in
set_option maxHeartbeats 4000000 in
theorem codeBack_go (a : Option Addr) (n cap : Nat) (l : List In) (a' : Option Addr) (n' cap' : Nat) (l' : List In) (w : World) (h : LI w a n l) (h' : LI w a' n' l') (hn : n ≤ 5864062014634) (hn' : n' ≤ 5864062014634) (hR : Rws w) :
    Calls Tryd.prog 10 #[.slice a n cap, .slice a' n' cap'] w fun e w' => e = .returned (.bool true) ∧ Below w.heap.size w w' := by
  have KG2 := Lib.hid (fun W (q : Below w.heap.size w W) => good_any a' n' cap' l' W (h'.later q) (hR.below q))
  have OKc := Lib.hid (gdL_ok l')
  obtain ⟨cn, hcn⟩ : ∃ cn, (gdL l').length = cn := ⟨_, rfl⟩
  have cnb : cn ≤ 5864062014634 := by have := gdL_len l'; have := h'.1; omega
  have CN := Lib.hid hcn
  have CB := Lib.hid (p := cn ≤ 5864062014805) (by omega)
  have KP := Lib.hid (plain_any w)
  have KG := Lib.hid (fun W (q : Below w.heap.size w W) => good_any a n cap l W (h.later q) (hR.below q))
  have RR := Lib.hid hR
  have OKs := Lib.hid (pg_ok l)
  obtain ⟨gn, hgn⟩ : ∃ gn, (gdL l).length = gn := ⟨_, rfl⟩
  have gnb : gn ≤ 5864062014634 := by have := gdL_len l; have := h.1; omega
  have GN := Lib.hid hgn
  have GB := Lib.hid (p := gn ≤ 5864062014805) (by omega)
  obtain ⟨N, hN⟩ : ∃ N, (plL ++ gdL l).length = N := ⟨_, rfl⟩
  have hN7 : N = 7 + gn := by rw [← hN, List.length_append, hgn, plL_len]
  have NN := Lib.hid hN
  have NB := Lib.hid (p := N ≤ 5864062014805) (by omega)
  have PB := Lib.hid (p := plL.length + gn ≤ 5864062014805) (by rw [plL_len]; omega)
  have KE := Lib.hid (fun A c W (q : LI W A N (plL ++ gdL l)) (r : Rws W) => encode_any A N c (plL ++ gdL l) W q r)
  have KD := Lib.hid (fun A n c xs k W (q : BL W A n xs) (q0 : A = none → n = 0) (r : Rws W) => decode_any A n c xs k W q q0 r)
  clear h hR hN hgn
  have PG : True := trivial
  have PA : True := trivial
  clear h' hcn KE
  have sw : IntKind.i64.wrap ((N : Int) + (cn : Int)) = (N : Int) + (cn : Int) := by simp [IntKind.wrap, IntKind.bits, IntKind.signed]; omega
  by_cases hs : 262144 ≤ N + cn
  · have hs' : (262144 : Int) ≤ (N : Int) + (cn : Int) := by omega
    clear hN7 gnb cnb
    go_enter Tryd.func10, Tryd.ntmps10
    go_wp2_with (first
      | (go_at_call 29; refine KP.out.mono ?_; rintro e w1 ⟨⟨v1, rfl, h1⟩, h2⟩; have O1 := Lib.hid h1; have B1 := Lib.hid h2; clear h1 h2)
      | (go_at_call 30; have qq := PG; refine (KG.out _ B1.out).mono ?_; rintro e w2 ⟨⟨v2, rfl, h1⟩, h2⟩; obtain ⟨A2, c2, hv2, hl2, hn2, _⟩ := own_liN h1 GN.out GB.out; subst hv2; have L2 := Lib.hid hl2; have N2 := Lib.hid hn2; have B2 := Lib.hid (B1.out.trans (h2.mono B1.out.size)); have P2 := Lib.hid (owi_keep O1.out h2); clear h1 h2 hl2 hn2 PG)
      | (at_builtin; have qq := PA; refine wp_joinI _ rfl _ _ rfl w.heap.size _ plL rfl _ _ _ (gdL l) rfl P2.out L2.out N2.out PB.out B2.out.size ?_; intro v3 w3 o3 g3; obtain ⟨A3, c3, hv3, hl3, hn3, hk3⟩ := own_liN o3 NN.out NB.out; subst hv3; have L3 := Lib.hid hl3; have O3 := Lib.hid o3; have M3 := Lib.hid hn3; have K3 := Lib.hid hk3; have B3 := Lib.hid (B2.out.grown g3 B2.out.size (fun k e => (P2.out.lt k e).1)); clear o3 g3 hl3 hn3 hk3 PA)
      | (go_at_call 30; refine (KG2.out _ B3.out).mono ?_; rintro e w5 ⟨⟨v5, rfl, h1⟩, h2⟩; obtain ⟨A5, c5, hv5, hl5, hn5, _⟩ := own_liN h1 CN.out CB.out; subst hv5; have L5 := Lib.hid hl5; have N5 := Lib.hid hn5; have B5 := Lib.hid (B3.out.trans (h2.mono B3.out.size)); have Q5' := Lib.hid (L3.out.later h2); clear h1 h2 hl5 hn5))
    go_ret
    exact ⟨rfl, B5.out⟩
  · have hs' : (N : Int) + (cn : Int) < 262144 := by omega
    have hs2 : decide ((262144 : Int) ≤ (N : Int) + (cn : Int)) = false := by simp; omega
    have hs3 : decide (262144 ≤ N + cn) = false := by simp; omega
    obtain ⟨N1, hN1⟩ : ∃ N1, N = N1 + 1 := ⟨N - 1, by omega⟩
    have n1a : IntKind.i64.wrap ((N : Int) - 1) = (N1 : Int) := by simp [IntKind.wrap, IntKind.bits, IntKind.signed]; omega
    have n1b : (N : Int) - 1 = (N1 : Int) := by omega
    have n2a : IntKind.i64.wrap ((N : Int) + 1) = ((N + 1 : Nat) : Int) := by simp [IntKind.wrap, IntKind.bits, IntKind.signed]; omega
    have mw : IntKind.i64.wrap (4 * (N : Int)) = 4 * (N : Int) := by simp [IntKind.wrap, IntKind.bits, IntKind.signed]; omega
    obtain ⟨xn, hxn⟩ : ∃ xn, (encs (plL ++ gdL l)).length = xn := ⟨_, rfl⟩
    obtain ⟨yn, hyn⟩ : ∃ yn, (encs (gdL l')).length = yn := ⟨_, rfl⟩
    obtain ⟨un, hun⟩ : ∃ un, (encs ((plL ++ gdL l).take N1)).length = un := ⟨_, rfl⟩
    have xlen := encs_len OKs.out
    rw [NN.out, hxn] at xlen
    have ylen := encs_len OKc.out
    rw [CN.out, hyn] at ylen
    have DOk : ∀ i ∈ (plL ++ gdL l).take N1, i.okP := fun i hi => OKs.out i (List.mem_of_mem_take hi)
    have ulen := (encs_len DOk).1
    rw [hun] at ulen
    have x1 : ¬ 4 * (N : Int) < (xn : Int) := by omega
    have x1' : decide (4 * (N : Int) < (xn : Int)) = false := by simp; omega
    have x2 : ¬ (xn : Int) < (N : Int) := by omega
    have x3 : decide (xn < N) = false := by simp; omega
    have XN := Lib.hid hxn
    have YN := Lib.hid hyn
    have UN := Lib.hid hun
    have XB := Lib.hid (p := xn ≤ 140737488355328) (by omega)
    have YB := Lib.hid (p := yn ≤ 140737488355328) (by omega)
    have UB := Lib.hid (p := un ≤ 140737488355328) (by simp at ulen; omega)
    have ZB := Lib.hid (p := xn + yn ≤ 140737488355328) (by omega)
    have XE := Lib.hid (encs_byte OKs.out)
    have YE := Lib.hid (encs_byte OKc.out)
    have UE := Lib.hid (encs_byte DOk)
    have TB := Lib.hid (p := N + cn ≤ 5864062014805) (by omega)
    have N1B := Lib.hid (p := N1 ≤ N) (by omega)
    have N2B := Lib.hid (p := 0 + cn ≤ 5864062014805) (by omega)
    have KE1 := Lib.hid (p := ∀ A c W, LI W A N (plL ++ gdL l) → Rws W → Calls Tryd.prog 21 #[.slice A N c] W fun e w' => ∃ v', e = .returned (.tuple #[v', .int .i64 0]) ∧ Own w' W.heap.size v' (encs (plL ++ gdL l)).length (encs (plL ++ gdL l)) ∧ Below W.heap.size W w') (fun A c W q r => by
      have := encode_any A N c (plL ++ gdL l) W q r
      unfold EncE at this; rw [encR_ok (by rw [NN.out]; omega) OKs.out] at this; exact this)
    have KE2 := Lib.hid (p := ∀ A c W, LI W A cn (gdL l') → Rws W → Calls Tryd.prog 21 #[.slice A cn c] W fun e w' => ∃ v', e = .returned (.tuple #[v', .int .i64 0]) ∧ Own w' W.heap.size v' (encs (gdL l')).length (encs (gdL l')) ∧ Below W.heap.size W w') (fun A c W q r => by
      have := encode_any A cn c (gdL l') W q r
      unfold EncE at this; rw [encR_ok (by rw [CN.out]; omega) OKc.out] at this; exact this)
    have TL := Lib.hid (p := (plL ++ gdL l ++ gdL l').length = N + cn) (by rw [List.length_append, NN.out, CN.out])
    have KE3 := Lib.hid (p := ∀ A c W, LI W A (N + cn) (plL ++ gdL l ++ gdL l') → Rws W → Calls Tryd.prog 21 #[.slice A (N + cn) c] W fun e w' => ∃ v', e = .returned (.tuple #[v', .int .i64 0]) ∧ Own w' W.heap.size v' (encs (plL ++ gdL l ++ gdL l')).length (encs (plL ++ gdL l ++ gdL l')) ∧ Below W.heap.size W w') (fun A c W q r => by
      have := encode_any A (N + cn) c (plL ++ gdL l ++ gdL l') W q r
      unfold EncE at this; rw [encR_ok (by rw [TL.out]; omega) (all_ok OKs.out OKc.out)] at this; exact this)
    have KE4 := Lib.hid (p := ∀ A c W, LI W A N1 ((plL ++ gdL l).take N1) → Rws W → Calls Tryd.prog 21 #[.slice A N1 c] W fun e w' => ∃ v', e = .returned (.tuple #[v', .int .i64 0]) ∧ Own w' W.heap.size v' (encs ((plL ++ gdL l).take N1)).length (encs ((plL ++ gdL l).take N1)) ∧ Below W.heap.size W w') (fun A c W q r => by
      have := encode_any A N1 c ((plL ++ gdL l).take N1) W q r
      unfold EncE at this; rw [encR_ok (by simp; omega) DOk] at this; exact this)
    have ZL := Lib.hid (p := encs (plL ++ gdL l ++ gdL l') = encs (plL ++ gdL l) ++ encs (gdL l')) (encs_app _ _)
    rw [ZL.out] at KE3
    have ZN := Lib.hid (p := (encs (plL ++ gdL l) ++ encs (gdL l')).length = xn + yn) (by rw [List.length_append, hxn, hyn])
    have ZE := Lib.hid (p := ∀ c ∈ encs (plL ++ gdL l) ++ encs (gdL l'), 0 ≤ c ∧ c ≤ 255) (fun c hc => by
      rcases List.mem_append.1 hc with q | q
      · exact XE.out c q
      · exact YE.out c q)
    have DE1 := Lib.hid (p := decA (encs (plL ++ gdL l)) (N : Int) = (plL ++ gdL l, 0, 0)) (by rw [decA_nat (by omega), ← NN.out]; exact decs_encs OKs.out)
    have DE2 := Lib.hid (p := decA (encs (plL ++ gdL l)) (N1 : Int) = ([], 46, un)) (by rw [decA_nat (by omega), ← hun]; exact fewer_at OKs.out (by rw [NN.out]; omega))
    have DE3 := Lib.hid (p := decA (encs (plL ++ gdL l)) ((N + 1 : Nat) : Int) = ([], 41, xn)) (by rw [decA_nat (by omega), ← hxn]; have := decs_more OKs.out 0; rw [NN.out] at this; exact this)
    have KS := Lib.hid (fun A A' n n' c c' xs ys W (h : BL W A n xs) (h' : BL W A' n' ys) => same11_any A A' n n' c c' xs ys W h h')
    have KC := Lib.hid (fun A A' n n' c c' xs ys W (h : LI W A n xs) (h' : LI W A' n' ys) => sameCode_any A A' n n' c c' xs ys W h h')
    have NZ := Lib.hid (p := ([] : List In).length + N ≤ 5864062014805) (by simp; omega)
    have TC := Lib.hid (p := (plL ++ gdL l).length + cn ≤ 5864062014805) (by rw [NN.out]; omega)
    have ZX := Lib.hid (p := 0 + xn + yn = xn + yn) (by omega)
    have Q1 : True := trivial
    have Q2 : True := trivial
    have Q3 : True := trivial
    have Q4 : True := trivial
    have Q5 : True := trivial
    have Q6 : True := trivial
    have Q7 : True := trivial
    clear hN7 gnb cnb hxn hyn hun xlen ylen ulen DOk hN1 hs
    generalize hX : encs (plL ++ gdL l) = X at *
    generalize encs (gdL l') = Y at *
    generalize encs ((plL ++ gdL l).take N1) = U at *
    clear hX
    simp only [Int.natCast_add, Int.natCast_one] at n2a DE3
    go_enter Tryd.func10, Tryd.ntmps10
    go_wp2_with (first
      | (go_at_call 29; refine KP.out.mono ?_; rintro e w1 ⟨⟨v1, rfl, h1⟩, h2⟩; have O1 := Lib.hid h1; have B1 := Lib.hid h2; clear h1 h2)
      | (go_at_call 30; have qq := PG; refine (KG.out _ B1.out).mono ?_; rintro e w2 ⟨⟨v2, rfl, h1⟩, h2⟩; obtain ⟨A2, c2, hv2, hl2, hn2, _⟩ := own_liN h1 GN.out GB.out; subst hv2; have L2 := Lib.hid hl2; have N2 := Lib.hid hn2; have B2 := Lib.hid (B1.out.trans (h2.mono B1.out.size)); have P2 := Lib.hid (owi_keep O1.out h2); clear h1 h2 hl2 hn2 PG)
      | (at_builtin; have qq := PA; refine wp_joinI _ rfl _ _ rfl w.heap.size _ plL rfl _ _ _ (gdL l) rfl P2.out L2.out N2.out PB.out B2.out.size ?_; intro v3 w3 o3 g3; obtain ⟨A3, c3, hv3, hl3, hn3, hk3⟩ := own_liN o3 NN.out NB.out; subst hv3; have L3 := Lib.hid hl3; have O3 := Lib.hid o3; have M3 := Lib.hid hn3; have K3 := Lib.hid hk3; have B3 := Lib.hid (B2.out.grown g3 B2.out.size (fun k e => (P2.out.lt k e).1)); clear o3 g3 hl3 hn3 hk3 PA)
      | (go_at_call 30; refine (KG2.out _ B3.out).mono ?_; rintro e w5 ⟨⟨v5, rfl, h1⟩, h2⟩; obtain ⟨A5, c5, hv5, hl5, hn5, _⟩ := own_liN h1 CN.out CB.out; subst hv5; have L5 := Lib.hid hl5; have N5 := Lib.hid hn5; have B5 := Lib.hid (B3.out.trans (h2.mono B3.out.size)); have Q5' := Lib.hid (L3.out.later h2); clear h1 h2 hl5 hn5)
      | (go_at_call 21; have qq := Q1; refine (KE1.out _ _ _ Q5'.out (RR.out.below B5.out)).mono ?_; rintro e w6 ⟨v6, rfl, h1, h2⟩; obtain ⟨A6, c6, hv6, hs6⟩ := own_slN h1 XN.out XE.out XB.out; subst hv6; have S6 := Lib.hid hs6; have B6 := Lib.hid (B5.out.trans (h2.mono B5.out.size)); have L6 := Lib.hid (Q5'.out.later h2); have C6 := Lib.hid (L5.out.later h2); clear h1 h2 hs6 Q1)
      | (go_at_call 21; have qq := Q2; refine (KE2.out _ _ _ C6.out (RR.out.below B6.out)).mono ?_; rintro e w7 ⟨v7, rfl, h1, h2⟩; obtain ⟨A7, c7, hv7, hs7⟩ := own_slN h1 YN.out YE.out YB.out; subst hv7; have S7 := Lib.hid hs7; have X7 := Lib.hid (S6.out.later h2); have B7 := Lib.hid (B6.out.trans (h2.mono B6.out.size)); have L7 := Lib.hid (L6.out.later h2); have C7 := Lib.hid (C6.out.later h2); have Z7 := Lib.hid ((Below.refl w7.heap.size w7).alloc (Nat.le_refl _) (.cells #[] 33)); clear h1 h2 hs7 Q2)
      | (at_builtin; have qq := Q3; refine wp_joinI _ rfl _ _ rfl w7.heap.size _ [] rfl _ _ _ (plL ++ gdL l) rfl (own_litZ w7) (L7.out.later Z7.out) M3.out NZ.out Z7.out.size ?_; intro v8 w8 o8 g8; have O8 := Lib.hid (p := OwI w8 w7.heap.size v8 (plL ++ gdL l)) o8; have Z8 := Lib.hid (Z7.out.grown g8 Z7.out.size (fun k e => ((own_litZ w7).lt k e).1)); clear o8 g8 Q3)
      | (at_builtin; have qq := Q4; refine wp_joinI _ rfl _ _ rfl w7.heap.size _ (plL ++ gdL l) rfl _ _ _ (gdL l') rfl O8.out (C7.out.later Z8.out) N5.out TC.out Z8.out.size ?_; intro v9 w9 o9 g9; obtain ⟨A9, c9, hv9, hl9, _, _⟩ := own_liN o9 TL.out TB.out; subst hv9; have L9 := Lib.hid hl9; have Z9 := Lib.hid (Z8.out.grown g9 Z8.out.size (fun k e => (O8.out.lt k e).1)); have B9 := Lib.hid (B7.out.trans (Z9.out.mono B7.out.size)); clear o9 g9 hl9 Q4)
      | (go_at_call 21; have qq := Q5; refine (KE3.out _ _ _ L9.out (RR.out.below B9.out)).mono ?_; rintro e wa ⟨va, rfl, h1, h2⟩; obtain ⟨Aa, ca, hva, hsa⟩ := own_slN h1 ZN.out ZE.out ZB.out; subst hva; have Sa := Lib.hid hsa; have Xa := Lib.hid ((X7.out.later Z9.out).later h2); have Ya := Lib.hid ((S7.out.later Z9.out).later h2); have La := Lib.hid ((L7.out.later Z9.out).later h2); have Ba := Lib.hid (B9.out.trans (h2.mono B9.out.size)); have Za := Lib.hid ((Below.refl wa.heap.size wa).alloc (Nat.le_refl _) (.cells #[] 5)); clear h1 h2 hsa Q5)
      | (at_builtin; have qq := Q6; refine wp_joinB _ rfl _ _ rfl wa.heap.size _ _ _ rfl _ _ _ _ rfl (own_litB wa) (Xa.out.later Za.out).1 Xa.out.2.1 (by simpa using XB.out) Za.out.size ?_; intro vb wb hb; have Ob := Lib.hid (p := Own wb wa.heap.size vb (0 + xn) X) hb.own; have Zb := Lib.hid (Za.out.trans (hb.below Za.out.size)); clear hb Q6)
      | (at_builtin; refine wp_joinB _ rfl _ _ rfl wa.heap.size _ _ _ rfl _ _ _ _ rfl Ob.out (Ya.out.later Zb.out).1 Ya.out.2.1 (by simpa using ZB.out) Zb.out.size ?_; intro vc wc hc; obtain ⟨Ac, cc, hvc, hsc⟩ := own_slN hc.own ZX.out ZE.out ZB.out; subst hvc; have Sc := Lib.hid hsc; have Zc := Lib.hid (Zb.out.trans (hc.below Zb.out.size)); clear hc hsc)
      | (go_at_call 23; refine (KS.out _ _ _ _ _ _ _ _ _ (Sa.out.later Zc.out).1 Sc.out.1).mono ?_; rintro e wd ⟨he, q, h1⟩; subst h1; rw [decide_eq_true rfl] at he; subst he; have Zd := Lib.hid (below_drewN Zc.out q); have Bd := Lib.hid (Ba.out.trans (Zd.out.mono Ba.out.size)); have Xd := Lib.hid (Xa.out.later Zd.out); have Ld := Lib.hid (La.out.later Zd.out); generalize wc.drewN q = wd at *)
      | (go_at_call 31; have qq := Q7; refine (KD.out _ _ _ _ _ _ Xd.out.1 (fun e => (Xd.out.2.1 e).1) (RR.out.below Bd.out)).mono ?_; rintro e we ⟨⟨ve, he, h1⟩, h2⟩; rw [DE1.out] at he h1; subst he; obtain ⟨Ae, ce, hve, hle, _, _⟩ := own_liN h1 NN.out NB.out; subst hve; have Le := Lib.hid hle; have Xe := Lib.hid (Xd.out.later h2); have Me := Lib.hid (Ld.out.later h2); have Be := Lib.hid (Bd.out.trans (h2.mono Bd.out.size)); clear h1 h2 hle Q7)
      | (go_at_call 28; refine (KC.out _ _ _ _ _ _ _ _ _ Le.out Me.out).mono ?_; rintro e wf ⟨he, q, h1⟩; subst h1; rw [decide_eq_true rfl] at he; subst he; have Zf := Lib.hid (below_drewN (Below.refl we.heap.size we) q); have Bf := Lib.hid (Be.out.trans (Zf.out.mono Be.out.size)); have Xf := Lib.hid (Xe.out.later Zf.out); have Lf := Lib.hid (Me.out.later Zf.out); generalize we.drewN q = wf at *; have Q8 : True := trivial)
      | (go_at_call 31; have qq := Q8; refine (KD.out _ _ _ _ _ _ Xf.out.1 (fun e => (Xf.out.2.1 e).1) (RR.out.below Bf.out)).mono ?_; rintro e wg ⟨⟨vg, he, h1⟩, h2⟩; rw [DE2.out] at he h1; subst he; have Xg := Lib.hid (Xf.out.later h2); have Lg := Lib.hid (Lf.out.later h2); have Bg := Lib.hid (Bf.out.trans (h2.mono Bf.out.size)); have r1 : N1 ≤ c3 := Nat.le_trans N1B.out K3.out; clear h1 h2 Q8)
      | (go_at_call 21; refine (KE4.out _ _ _ (Lg.out.upTo N1 N1B.out) (RR.out.below Bg.out)).mono ?_; rintro e wh ⟨vh, rfl, h1, h2⟩; obtain ⟨Ah, ch, hvh, hsh⟩ := own_slN h1 UN.out UE.out UB.out; subst hvh; have Xh := Lib.hid (Xg.out.later h2); have Bh := Lib.hid (Bg.out.trans (h2.mono Bg.out.size)); clear h1 h2 hsh)
      | (go_at_call 31; refine (KD.out _ _ _ _ _ _ Xh.out.1 (fun e => (Xh.out.2.1 e).1) (RR.out.below Bh.out)).mono ?_; rintro e wi ⟨⟨vi, he, h1⟩, h2⟩; rw [DE3.out] at he h1; subst he; have Bi := Lib.hid (Bh.out.trans (h2.mono Bh.out.size)); clear h1 h2))
    go_ret
    exact ⟨rfl, Bi.out⟩
end Go.Proofs.YtklbbfmpgijhbaaDoor
