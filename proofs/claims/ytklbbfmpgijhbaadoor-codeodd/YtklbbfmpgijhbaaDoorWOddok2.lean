/-
  THE STATEMENT CodeOdd: a way through it.
-/
import Derived.Test.YtklbbfmpgijhbaaDoorWCodeL
namespace Go.Proofs.YtklbbfmpgijhbaaDoor
open Go.RowKit
set_option linter.unusedVariables false
set_option linter.unusedSimpArgs false

set_option maxRecDepth 100000 in
set_option maxHeartbeats 4000000 in
theorem codeOdd_ok2 (a : Option Addr) (n cap : Nat) (l : List In) (x y z : Int) (t : Nat) (w : World) (h : LI w a n l) (hn : n ≤ 5864062014634) (hR : Rws w) (hN4' : (plL ++ gdL l).length < 262144) (tN' : t ≤ (plL ++ gdL l).length) (nm : ByteArray) (on tk pt ra rb : Int) (hv : In.okP ⟨x, y, z⟩) (y3 : 0 ≤ y) (z3 : 0 ≤ z) (hE : RowE x nm 2 tk pt ra rb 0) :
    Calls Tryd.prog 11 #[.slice a n cap, .agg #[.int .i64 x, .int .i64 y, .int .i64 z], .int .i64 (t : Int)] w fun e w' => e = .returned (.bool true) ∧ Below w.heap.size w w' := by
  obtain ⟨w0, hw0⟩ : ∃ w0, w.alloc (.cells #[.int .i64 x, .int .i64 y, .int .i64 z] 33) = w0 := ⟨_, rfl⟩
  have b0 : Below w.heap.size w w0 := by rw [← hw0]; exact (Below.refl _ _).alloc (Nat.le_refl _) _
  have X0 := Lib.hid (p := w0.heap[w.heap.size]? = some (.cells #[.int .i64 x, .int .i64 y, .int .i64 z] 33)) (by rw [← hw0]; exact heap_new w _)
  have B0 := Lib.hid b0
  have h0 := h.later b0
  have hR0 := hR.below b0
  clear b0
  have KP := Lib.hid (plain_any w0)
  have KG := Lib.hid (fun W (q : Below w0.heap.size w0 W) => good_any a n cap l W (h0.later q) (hR0.below q))
  have RR := Lib.hid hR0
  have OKs := Lib.hid (pg_ok l)
  obtain ⟨gn, hgn⟩ : ∃ gn, (gdL l).length = gn := ⟨_, rfl⟩
  have gnb : gn ≤ 5864062014634 := by have := gdL_len l; have := h.1; omega
  have GN := Lib.hid hgn
  have GB := Lib.hid (p := gn ≤ 5864062014805) (by omega)
  obtain ⟨N, hN⟩ : ∃ N, (plL ++ gdL l).length = N := ⟨_, rfl⟩
  have hN7 : N = 7 + gn := by rw [← hN, List.length_append, hgn, plL_len]
  have NN := Lib.hid hN
  have NB := Lib.hid (p := N ≤ 5864062014805) (by omega)
  have PB := Lib.hid (p := plL.length + gn ≤ 5864062014805) (by rw [plL_len]; omega)
  have KE := Lib.hid (fun A c W (q : LI W A N (plL ++ gdL l)) (r : Rws W) => encode_any A N c (plL ++ gdL l) W q r)
  have KD := Lib.hid (fun A n c xs k W (q : BL W A n xs) (q0 : A = none → n = 0) (r : Rws W) => decode_any A n c xs k W q q0 r)
  clear h hR h0 hR0 hN hgn
  clear KE KD
  have FIN := Lib.hid (p := ∀ W, Below w0.heap.size w0 W → Below w.heap.size w W) (fun W q => B0.out.trans (q.mono B0.out.size))
  have hN4 : N < 262144 := by rw [← NN.out]; exact hN4'
  have tN : t ≤ N := by rw [← NN.out]; exact tN'
  have t1 : ¬ N < t := by omega
  have t1a : decide (N < t) = false := by simp; omega
  have t1b : decide ((N : Int) < (t : Int)) = false := by simp; omega
  have t2 : ¬ 262144 ≤ N := by omega
  have t2a : decide (262144 ≤ N) = false := by simp; omega
  have t2b : decide ((262144 : Int) ≤ (N : Int)) = false := by simp; omega
  have t0 : ¬ (t : Int) < 0 := by omega
  clear hN4' tN'
  clear hN7 gnb
  have TN := Lib.hid tN
  have T3 := Lib.hid (p := ∀ (A : Option Addr) (c : Nat), (A = none → N = 0 ∧ c = 0) → A = none → t = 0 ∧ c = 0) (fun A c q e => by have := q e; omega)
  have TL1 := Lib.hid (p := ([] : List In).length + t ≤ 5864062014805) (by simp; omega)
  have TL2 := Lib.hid (p := ([] ++ (plL ++ gdL l).take t).length + 1 ≤ 5864062014805) (by simp; omega)
  have TL3 := Lib.hid (p := (([] ++ (plL ++ gdL l).take t) ++ [(⟨x, y, z⟩ : In)]).length + (N - t) ≤ 5864062014805) (by simp; omega)
  have LL := Lib.hid (p := ((([] ++ (plL ++ gdL l).take t) ++ [(⟨x, y, z⟩ : In)]) ++ (plL ++ gdL l).drop t).length = N + 1) (by simp only [List.length_append, List.length_take, List.length_drop, List.length_nil, List.length_cons, NN.out]; omega)
  have LB := Lib.hid (p := N + 1 ≤ 5864062014805) (by omega)
  have OKe := Lib.hid (p := In.okP ⟨x, y, z⟩ → ∀ i ∈ ((([] ++ (plL ++ gdL l).take t) ++ [(⟨x, y, z⟩ : In)]) ++ (plL ++ gdL l).drop t), i.okP) (fun q i hi => by
    simp only [List.nil_append, List.mem_append, List.mem_singleton] at hi
    rcases hi with (hi | hi) | hi
    · exact OKs.out i (List.mem_of_mem_take hi)
    · rw [hi]; exact q
    · exact OKs.out i (List.mem_of_mem_drop hi))
  have NOe := Lib.hid (p := ¬ In.okP ⟨x, y, z⟩ → ¬ ∀ i ∈ ((([] ++ (plL ++ gdL l).take t) ++ [(⟨x, y, z⟩ : In)]) ++ (plL ++ gdL l).drop t), i.okP) (fun q k => q (k _ (by simp)))
  have KE := Lib.hid (fun A c W (q : LI W A (N + 1) ((([] ++ (plL ++ gdL l).take t) ++ [(⟨x, y, z⟩ : In)]) ++ (plL ++ gdL l).drop t)) (r : Rws W) => encode_any A (N + 1) c _ W q r)
  have KD := Lib.hid (fun A n c xs k W (q : BL W A n xs) (q0 : A = none → n = 0) (r : Rws W) => decode_any A n c xs k W q q0 r)
  have KV := Lib.hid (fun W (q : Rws W) => valid_any x y z W q)
  have KO := Lib.hid (fun (on er : Int) (n : ByteArray) (tk pt ra rb : Int) (hE : RowE x n on tk pt ra rb er) W (q : Rws W) => operands_any hE W q)
  have P1 : True := trivial
  have P2' : True := trivial
  unfold EncE at KE
  have EE := Lib.hid (encR_ok (by rw [LL.out]; omega) (OKe.out hv))
  rw [EE.out] at KE
  obtain ⟨M, hM⟩ : ∃ M, (encs ((([] ++ (plL ++ gdL l).take t) ++ [(⟨x, y, z⟩ : In)]) ++ (plL ++ gdL l).drop t)).length = M := ⟨_, rfl⟩
  have MM := Lib.hid hM
  have EB := Lib.hid (encs_byte (OKe.out hv))
  have MB := Lib.hid (p := M ≤ 140737488355328) (by have := (encs_len (OKe.out hv)).1; rw [LL.out, hM] at this; omega)
  have DE := Lib.hid (p := decA (encs ((([] ++ (plL ++ gdL l).take t) ++ [(⟨x, y, z⟩ : In)]) ++ (plL ++ gdL l).drop t)) ((N : Int) + 1) = ((([] ++ (plL ++ gdL l).take t) ++ [(⟨x, y, z⟩ : In)]) ++ (plL ++ gdL l).drop t, 0, 0)) (by
    have := decs_encs (OKe.out hv)
    rw [LL.out] at this
    rw [show (N : Int) + 1 = ((N + 1 : Nat) : Int) by omega, decA_nat (by omega)]
    exact this)
  have KC := Lib.hid (fun A A' n n' c c' xs ys W (h : LI W A n xs) (h' : LI W A' n' ys) => sameCode_any A A' n n' c c' xs ys W h h')
  have VZ := Lib.hid (okV_pos hv)
  rw [VZ.out] at KV
  replace KO := Lib.hid (KO.out _ _ _ _ _ _ _ hE)
  clear hM EE VZ hv OKe NOe hE
  generalize encs ((([] ++ (plL ++ gdL l).take t) ++ [(⟨x, y, z⟩ : In)]) ++ (plL ++ gdL l).drop t) = E at *
  go_enter Tryd.func11, Tryd.ntmps11
  go_wp2_with (first
    | (go_at_call 29; refine KP.out.mono ?_; rintro e w1 ⟨⟨v1, rfl, h1⟩, h2⟩; have O1 := Lib.hid h1; have B1 := Lib.hid h2; clear h1 h2)
    | (go_at_call 30; refine (KG.out _ B1.out).mono ?_; rintro e w2 ⟨⟨v2, rfl, h1⟩, h2⟩; obtain ⟨A2, c2, hv2, hl2, hn2, _⟩ := own_liN h1 GN.out GB.out; subst hv2; have L2 := Lib.hid hl2; have N2 := Lib.hid hn2; have B2 := Lib.hid (B1.out.trans (h2.mono B1.out.size)); have P2 := Lib.hid (owi_keep O1.out h2); clear h1 h2 hl2 hn2)
    | (at_builtin; refine wp_joinI _ rfl _ _ rfl w0.heap.size _ plL rfl _ _ _ (gdL l) rfl P2.out L2.out N2.out PB.out B2.out.size ?_; intro v3 w3 o3 g3; obtain ⟨A3, c3, hv3, hl3, hn3, hk3⟩ := own_liN o3 NN.out NB.out; subst hv3; have L3 := Lib.hid hl3; have O3 := Lib.hid o3; have M3 := Lib.hid hn3; have K3 := Lib.hid hk3; have B3 := Lib.hid (B2.out.grown g3 B2.out.size (fun k e => (P2.out.lt k e).1)); clear o3 g3 hl3 hn3 hk3))
  obtain ⟨b0, b1, b2⟩ := box3 (box_stay X0.out B3.out)
  obtain ⟨e0, e1, e2⟩ := box3 (box_stay (box_stay X0.out B3.out) ((Below.refl w3.heap.size w3).alloc (Nat.le_refl _) (.cells #[] 33)))
  have tc : t ≤ c3 := Nat.le_trans TN.out K3.out
  have t3 : ¬ (t : Int) < 0 := by omega
  go_region_law (first
    | (have qq := P1; refine step_joinI _ rfl _ _ rfl w3.heap.size _ [] rfl A3 t c3 ((plL ++ gdL l).take t) rfl (by first | exact own_empty (Nat.le_refl _) (heap_new w3 _) | exact own_empty (Nat.le_succ _) (heap_new1 w3 _ _) | exact own_empty (Nat.le_refl _) (heap_old1 w3 _ _)) ((L3.out.upTo t TN.out).later (by repeat (first | exact Below.refl _ _ | (with_reducible refine below_dr2 ?_) | (with_reducible refine Below.alloc ?_ (by first | exact Nat.le_refl _ | exact Nat.le_of_lt (by simp) | (simp; done) | (simp; omega)) _)))) (T3.out A3 c3 M3.out) TL1.out (by first | (simp; done) | (simp; omega)) ?_; intro v4 w4 o4 g4; have O4 := Lib.hid o4; have Y4 := Lib.hid (fun (N1 : Nat) (ob : Obj) hN hne => grown_block g4 (p := N1) (o := ob) hN hne); have B4 := Lib.hid (p := Below w3.heap.size w3 w4) (odd_grow g4 (by repeat (first | exact Below.refl _ _ | (with_reducible refine below_dr2 ?_) | (with_reducible refine Below.alloc ?_ (by first | exact Nat.le_refl _ | exact Nat.le_of_lt (by simp) | (simp; done) | (simp; omega)) _))) (by first | (simp; done) | (simp; omega)) (by first | exact own_empty (Nat.le_refl _) (heap_new w3 _) | exact own_empty (Nat.le_succ _) (heap_new1 w3 _ _) | exact own_empty (Nat.le_refl _) (heap_old1 w3 _ _))); obtain ⟨d0, d1, d2⟩ := box3 (box_stay (box_stay X0.out B3.out) B4.out); clear o4 g4 P1)
    | (have qq := P2'; refine step_joinI _ rfl _ _ rfl w3.heap.size _ _ rfl _ 1 1 [(⟨x, y, z⟩ : In)] rfl (by first | exact O4.out | exact O4.out.alloc _) (li_box (by first | exact heap_new w4 _ | exact Y4.out _ _ (heap_new1 w3 _ _) (fun e => by have e2 : some w3.heap.size = some (w3.heap.size + 1) := e; simp at e2) | exact Y4.out _ _ (heap_old1 w3 _ _) (fun e => by have e2 : some (w3.heap.size + 1) = some w3.heap.size := e; simp at e2))) (fun e => by cases e) TL2.out (by have := B4.out.size; first | exact this | (simp; omega)) ?_; intro v5 w5 o5 g5; have O5 := Lib.hid o5; have B5 := Lib.hid (p := Below w3.heap.size w3 w5) (odd_grow g5 (by repeat (first | exact B4.out | (with_reducible refine below_dr2 ?_) | (with_reducible refine Below.alloc ?_ B4.out.size _))) (by have := B4.out.size; first | exact this | (simp; omega)) (by first | exact O4.out | exact O4.out.alloc _)); clear o5 g5 P2')
    | (refine step_joinI _ rfl _ _ rfl w3.heap.size _ _ rfl _ (N - t) (c3 - t) ((plL ++ gdL l).drop t) rfl O5.out ((L3.out.from_ t TN.out K3.out).later B5.out) (li_none M3.out TN.out K3.out) TL3.out B5.out.size ?_; intro v6 w6 o6 g6; obtain ⟨A6, c6, hv6, hl6, _, _⟩ := own_liN o6 LL.out LB.out; subst hv6; have L6 := Lib.hid hl6; have B6 := Lib.hid (B3.out.trans ((odd_grow g6 B5.out B5.out.size O5.out).mono B3.out.size)); have X6 := Lib.hid (box_stay X0.out B6.out); clear o6 g6 hl6))
  all_goals go_wp2_with (first
    | (go_at_call 21; refine (KE.out _ _ _ L6.out (RR.out.below B6.out)).mono ?_; rintro e w7 ⟨v7, rfl, h1, h2⟩; obtain ⟨A7, c7, hv7, hs7⟩ := own_slN h1 MM.out EB.out MB.out; subst hv7; have S7 := Lib.hid hs7; have L7 := Lib.hid (L6.out.later h2); have B7 := Lib.hid (B6.out.trans (h2.mono B6.out.size)); have X7 := Lib.hid (box_stay X6.out h2); obtain ⟨p0, p1, p2⟩ := box3 X7.out; clear h1 h2 hs7)
    | (go_at_call 19; refine (KV.out _ (RR.out.below B7.out)).mono ?_; rintro e w8 ⟨rfl, h1⟩; have B8 := Lib.hid (B7.out.trans (h1.mono B7.out.size)); have X8 := Lib.hid (box_stay X7.out h1); obtain ⟨q0, q1, q2⟩ := box3 X8.out; have L8 := Lib.hid (L7.out.later h1); have S8 := Lib.hid (S7.out.later h1); clear h1)
    | (go_at_call 17; refine (KO.out _ (RR.out.below B8.out)).mono ?_; rintro e w9 ⟨rfl, h1⟩; have B9 := Lib.hid (B8.out.trans (h1.mono B8.out.size)); have X9 := Lib.hid (box_stay X8.out h1); obtain ⟨r0, r1, r2⟩ := box3 X9.out; have L9 := Lib.hid (L8.out.later h1); have S9 := Lib.hid (S8.out.later h1); clear h1)
    | (go_at_call 31; refine (KD.out _ _ _ _ _ _ S9.out.1 (fun e => (S9.out.2.1 e).1) (RR.out.below B9.out)).mono ?_; rintro e wa ⟨⟨va, he, h1⟩, h2⟩; rw [DE.out] at he h1; subst he; obtain ⟨Aa, ca, hva, hla, _, _⟩ := own_liN h1 LL.out LB.out; subst hva; have La := Lib.hid hla; have Lb := Lib.hid (L9.out.later h2); have Ba := Lib.hid (B9.out.trans (h2.mono B9.out.size)); obtain ⟨s0, s1, s2⟩ := box3 (box_stay X9.out h2); clear h1 h2 hla)
    | (go_at_call 28; refine (KC.out _ _ _ _ _ _ _ _ _ La.out Lb.out).mono ?_; rintro e wb ⟨he, q, h1⟩; subst h1; rw [decide_eq_true rfl] at he; subst he))
  all_goals go_ret
  all_goals exact ⟨rfl, below_drewN (FIN.out _ Ba.out) _⟩
end Go.Proofs.YtklbbfmpgijhbaaDoor
