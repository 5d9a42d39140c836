/-
  THE STATEMENT CodeOdd.
-/
import Derived.Test.YtklbbfmpgijhbaaDoorWOddok0
import Derived.Test.YtklbbfmpgijhbaaDoorWOddok1
import Derived.Test.YtklbbfmpgijhbaaDoorWOddok2
import Derived.Test.YtklbbfmpgijhbaaDoorWOddbadz
import Derived.Test.YtklbbfmpgijhbaaDoorWOddbady
import Derived.Test.YtklbbfmpgijhbaaDoorWOddbadn
import Derived.Test.YtklbbfmpgijhbaaDoorWOddbado
namespace Go.Proofs.YtklbbfmpgijhbaaDoor
open Go.RowKit
set_option linter.unusedVariables false
set_option linter.unusedSimpArgs false

set_option maxRecDepth 100000 in
set_option maxHeartbeats 4000000 in
theorem codeOdd_go (a : Option Addr) (n cap : Nat) (l : List In) (x y z : Int) (at_ : Int) (w : World) (h : LI w a n l) (hn : n ≤ 5864062014634) (hR : Rws w) :
    Calls Tryd.prog 11 #[.slice a n cap, .agg #[.int .i64 x, .int .i64 y, .int .i64 z], .int .i64 at_] w fun e w' => e = .returned (.bool true) ∧ Below w.heap.size w w' := by
  have hh0 := h
  have hRR := hR
  obtain ⟨w0, hw0⟩ : ∃ w0, w.alloc (.cells #[.int .i64 x, .int .i64 y, .int .i64 z] 33) = w0 := ⟨_, rfl⟩
  have b0 : Below w.heap.size w w0 := by rw [← hw0]; exact (Below.refl _ _).alloc (Nat.le_refl _) _
  have X0 := Lib.hid (p := w0.heap[w.heap.size]? = some (.cells #[.int .i64 x, .int .i64 y, .int .i64 z] 33)) (by rw [← hw0]; exact heap_new w _)
  have B0 := Lib.hid b0
  have h0 := h.later b0
  have hR0 := hR.below b0
  clear b0
  have KP := Lib.hid (plain_any w0)
  have KG := Lib.hid (fun W (q : Below w0.heap.size w0 W) => good_any a n cap l W (h0.later q) (hR0.below q))
  have RR := Lib.hid hR0
  have OKs := Lib.hid (pg_ok l)
  obtain ⟨gn, hgn⟩ : ∃ gn, (gdL l).length = gn := ⟨_, rfl⟩
  have gnb : gn ≤ 5864062014634 := by have := gdL_len l; have := h.1; omega
  have GN := Lib.hid hgn
  have GB := Lib.hid (p := gn ≤ 5864062014805) (by omega)
  obtain ⟨N, hN⟩ : ∃ N, (plL ++ gdL l).length = N := ⟨_, rfl⟩
  have hN7 : N = 7 + gn := by rw [← hN, List.length_append, hgn, plL_len]
  have NN := Lib.hid hN
  have NB := Lib.hid (p := N ≤ 5864062014805) (by omega)
  have PB := Lib.hid (p := plL.length + gn ≤ 5864062014805) (by rw [plL_len]; omega)
  have KE := Lib.hid (fun A c W (q : LI W A N (plL ++ gdL l)) (r : Rws W) => encode_any A N c (plL ++ gdL l) W q r)
  have KD := Lib.hid (fun A n c xs k W (q : BL W A n xs) (q0 : A = none → n = 0) (r : Rws W) => decode_any A n c xs k W q q0 r)
  clear h hR h0 hR0 hN hgn
  clear KE KD
  have FIN := Lib.hid (p := ∀ W, Below w0.heap.size w0 W → Below w.heap.size w W) (fun W q => B0.out.trans (q.mono B0.out.size))
  by_cases t0 : at_ < 0
  · clear hN7 gnb hh0 hRR
    go_enter Tryd.func11, Tryd.ntmps11
    go_wp2_with (first
      | (go_at_call 29; refine KP.out.mono ?_; rintro e w1 ⟨⟨v1, rfl, h1⟩, h2⟩; have O1 := Lib.hid h1; have B1 := Lib.hid h2; clear h1 h2)
      | (go_at_call 30; refine (KG.out _ B1.out).mono ?_; rintro e w2 ⟨⟨v2, rfl, h1⟩, h2⟩; obtain ⟨A2, c2, hv2, hl2, hn2, _⟩ := own_liN h1 GN.out GB.out; subst hv2; have L2 := Lib.hid hl2; have N2 := Lib.hid hn2; have B2 := Lib.hid (B1.out.trans (h2.mono B1.out.size)); have P2 := Lib.hid (owi_keep O1.out h2); clear h1 h2 hl2 hn2)
      | (at_builtin; refine wp_joinI _ rfl _ _ rfl w0.heap.size _ plL rfl _ _ _ (gdL l) rfl P2.out L2.out N2.out PB.out B2.out.size ?_; intro v3 w3 o3 g3; obtain ⟨A3, c3, hv3, hl3, hn3, hk3⟩ := own_liN o3 NN.out NB.out; subst hv3; have L3 := Lib.hid hl3; have O3 := Lib.hid o3; have M3 := Lib.hid hn3; have K3 := Lib.hid hk3; have B3 := Lib.hid (B2.out.grown g3 B2.out.size (fun k e => (P2.out.lt k e).1)); clear o3 g3 hl3 hn3 hk3))
    go_ret
    exact ⟨rfl, FIN.out _ B3.out⟩
  · obtain ⟨t, rfl⟩ : ∃ t : Nat, at_ = (t : Int) := ⟨at_.toNat, by omega⟩
    by_cases t1 : N < t
    · have t1' : (N : Int) < (t : Int) := by omega
      clear hN7 gnb hh0 hRR
      go_enter Tryd.func11, Tryd.ntmps11
      go_wp2_with (first
        | (go_at_call 29; refine KP.out.mono ?_; rintro e w1 ⟨⟨v1, rfl, h1⟩, h2⟩; have O1 := Lib.hid h1; have B1 := Lib.hid h2; clear h1 h2)
        | (go_at_call 30; refine (KG.out _ B1.out).mono ?_; rintro e w2 ⟨⟨v2, rfl, h1⟩, h2⟩; obtain ⟨A2, c2, hv2, hl2, hn2, _⟩ := own_liN h1 GN.out GB.out; subst hv2; have L2 := Lib.hid hl2; have N2 := Lib.hid hn2; have B2 := Lib.hid (B1.out.trans (h2.mono B1.out.size)); have P2 := Lib.hid (owi_keep O1.out h2); clear h1 h2 hl2 hn2)
        | (at_builtin; refine wp_joinI _ rfl _ _ rfl w0.heap.size _ plL rfl _ _ _ (gdL l) rfl P2.out L2.out N2.out PB.out B2.out.size ?_; intro v3 w3 o3 g3; obtain ⟨A3, c3, hv3, hl3, hn3, hk3⟩ := own_liN o3 NN.out NB.out; subst hv3; have L3 := Lib.hid hl3; have O3 := Lib.hid o3; have M3 := Lib.hid hn3; have K3 := Lib.hid hk3; have B3 := Lib.hid (B2.out.grown g3 B2.out.size (fun k e => (P2.out.lt k e).1)); clear o3 g3 hl3 hn3 hk3))
      go_ret
      exact ⟨rfl, FIN.out _ B3.out⟩
    · have t1a : decide (N < t) = false := by simp; omega
      have t1b : decide ((N : Int) < (t : Int)) = false := by simp; omega
      by_cases t2 : 262144 ≤ N
      · have t2' : (262144 : Int) ≤ (N : Int) := by omega
        clear hN7 gnb hh0 hRR
        go_enter Tryd.func11, Tryd.ntmps11
        go_wp2_with (first
          | (go_at_call 29; refine KP.out.mono ?_; rintro e w1 ⟨⟨v1, rfl, h1⟩, h2⟩; have O1 := Lib.hid h1; have B1 := Lib.hid h2; clear h1 h2)
          | (go_at_call 30; refine (KG.out _ B1.out).mono ?_; rintro e w2 ⟨⟨v2, rfl, h1⟩, h2⟩; obtain ⟨A2, c2, hv2, hl2, hn2, _⟩ := own_liN h1 GN.out GB.out; subst hv2; have L2 := Lib.hid hl2; have N2 := Lib.hid hn2; have B2 := Lib.hid (B1.out.trans (h2.mono B1.out.size)); have P2 := Lib.hid (owi_keep O1.out h2); clear h1 h2 hl2 hn2)
          | (at_builtin; refine wp_joinI _ rfl _ _ rfl w0.heap.size _ plL rfl _ _ _ (gdL l) rfl P2.out L2.out N2.out PB.out B2.out.size ?_; intro v3 w3 o3 g3; obtain ⟨A3, c3, hv3, hl3, hn3, hk3⟩ := own_liN o3 NN.out NB.out; subst hv3; have L3 := Lib.hid hl3; have O3 := Lib.hid o3; have M3 := Lib.hid hn3; have K3 := Lib.hid hk3; have B3 := Lib.hid (B2.out.grown g3 B2.out.size (fun k e => (P2.out.lt k e).1)); clear o3 g3 hl3 hn3 hk3))
        go_ret
        exact ⟨rfl, FIN.out _ B3.out⟩
      · have t2a : decide (262144 ≤ N) = false := by simp; omega
        have t2b : decide ((262144 : Int) ≤ (N : Int)) = false := by simp; omega
        have hN4' : (plL ++ gdL l).length < 262144 := by rw [NN.out]; omega
        have tN' : t ≤ (plL ++ gdL l).length := by rw [NN.out]; omega
        obtain ⟨nm, on, tk, pt, ra, rb, er, hE⟩ := row_ex x
        by_cases hv : In.okP ⟨x, y, z⟩
        · have hF : er = 0 ∧ 0 ≤ y ∧ 0 ≤ z ∧ (on = 0 ∨ on = 1 ∨ on = 2) ∧ (on = 0 → y = 0) ∧ (on ≤ 1 → z = 0) := by
            obtain ⟨v1, v2, v3, v4, v5, v6⟩ := hv
            simp only at v1 v2 v3 v4 v5 v6
            rcases hE.say with ⟨k, hk, e0, e1, e2, e3, e4, e5, e6, e7⟩ | ⟨hr, _⟩
            · obtain ⟨f1, f2, f3, _, _, f6, f7⟩ := tab_facts k hk
              have ek : x.toNat = k := by omega
              rw [ek] at v4 v6
              exact ⟨e7, v3, v5, by omega, fun q => by have := f6 (by omega); omega, fun q => by have := f7 (by omega); omega⟩
            · omega
          obtain ⟨rfl, y3, z3, o3, oy, oz⟩ := hF
          rcases o3 with rfl | rfl | rfl
          · exact codeOdd_ok0 a n cap l x y z t w hh0 hn hRR hN4' tN' nm 0 tk pt ra rb hv y3 z3 hE (by simpa using oy rfl) (by simpa using oz (by omega))
          · exact codeOdd_ok1 a n cap l x y z t w hh0 hn hRR hN4' tN' nm 1 tk pt ra rb hv y3 z3 hE (by simpa using oz (by omega))
          · exact codeOdd_ok2 a n cap l x y z t w hh0 hn hRR hN4' tN' nm 2 tk pt ra rb hv y3 z3 hE
        · have hE' := hE
          rcases hE.say with ⟨k, hk, ex, e1, e0, e2, e3, e4, e5, rfl⟩ | ⟨hr, e1, e2, e3, e4, e5, e6, rfl⟩
          · by_cases ho : on = 0
            · subst ho
              obtain ⟨f1, f2, f3, _, _, f6, f7⟩ := tab_facts k hk
              by_cases y0 : y = 0
              · have z0 : z ≠ 0 := by
                  intro z0
                  apply hv
                  rw [y0, z0, ex]
                  exact ⟨by simp, by simp; omega, by simp, by simp, by simp, by simp⟩
                exact codeOdd_badz a n cap l x y z t w hh0 hn hRR hN4' tN' nm 0 tk pt ra rb hv hE' (by simpa using y0) (by simpa using z0)
              · exact codeOdd_bady a n cap l x y z t w hh0 hn hRR hN4' tN' nm 0 tk pt ra rb hv hE' (by simpa using y0)
            · exact codeOdd_badn a n cap l x y z t w hh0 hn hRR hN4' tN' nm on tk pt ra rb hv hE' (by simpa using ho)
          · exact codeOdd_bado a n cap l x y z t w hh0 hn hRR hN4' tN' nm on tk pt ra rb hv hE'
end Go.Proofs.YtklbbfmpgijhbaaDoor
