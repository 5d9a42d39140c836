/-
  WALK: FlowUntils.
-/
import Derived.Test.YtmbnbediedpgmaaWUntil
import Derived.Test.YtmbnbediedpgmaaWHold
import Derived.Test.YtmbnbediedpgmaaWRoomy
namespace Go.Proofs.Ytmbnbediedpgmaa
open Go.RowKit
set_option linter.unusedVariables false
set_option linter.unusedSimpArgs false

theorem fl_of_is {w : World} {a : Option Addr} {len cap : Nat} {fs : List Fl} (hb : len * 32 ≤ 140737488351232) (h : IsFls w a len cap fs) : FL w a len fs := by
  rcases h with ⟨rfl, rfl, rfl, rfl⟩ | ⟨x, rfl, h1, h2, h3, h4, h5⟩
  · exact ⟨rfl, by omega, .inl rfl⟩
  · refine ⟨h3, by omega, ?_⟩
    by_cases h0 : len = 0
    · exact .inl h0
    · obtain ⟨b, o, s⟩ := x
      have hc := (h5 0 (by omega)).1
      have hs : s = none := by simpa [Addr.add] using World.cell?_spot hc
      subst hs
      refine .inr ⟨b, o, rfl, ?_, fun i hi => ?_⟩
      · have e : (⟨b, o, none⟩ : Addr).add (0 * 3) = ⟨b, o, none⟩ := by simp [Addr.add]
        rw [e] at hc
        by_cases hlt : b < w.heap.size
        · exact hlt
        · exfalso
          have hn : w.heap[b]? = none := by simp; omega
          simp [World.cell?, hn] at hc
      · have := h5 i hi
        rw [Go.Addr.add_lit, Go.Addr.add_lit, Go.Addr.add_lit] at this
        exact this
theorem own_later {w w' : World} {B e s n : Nat} {v : Value} {xs : List Value} (h : w.ownsRow B e s v n xs) (hb : Below w.heap.size w w') : w'.ownsRow B e s v n xs := by
  obtain ⟨h1, h2⟩ := h
  refine ⟨h1, ?_⟩
  rcases h2 with h2 | ⟨g, cap, cur, rfl, hB, hg, r⟩
  · exact .inl h2
  · exact .inr ⟨g, cap, cur, rfl, hB, (hb.block g (Array.getElem?_eq_some_iff.1 hg).1).trans hg, r⟩
theorem rf_fl {w : World} {g n : Nat} {fs : List Fl} {x y z : Fl} (h : Rf w g (fs ++ [x, y, z])) (hl : fs.length = n) (hn : n ≤ 4398046511000) : FL w (some ⟨g, 0, none⟩) n fs := by
  refine ⟨hl, hn, .inr ⟨g, 0, rfl, h.lt, fun i hi => ?_⟩⟩
  have := h.fc i (by simp; omega)
  rw [Nat.zero_add]
  rwa [show (fs ++ [x, y, z]).getD i default = fs.getD i default by simp only [List.getD]; rw [List.getElem?_append_left (by omega)]] at this

set_option maxHeartbeats 2000000 in
theorem flowUntils_walk (a : Option Addr) (n cap : Nat) (fs : List Fl) (day : Int) (w : World) (h : FL w a n fs) :
    Calls Try.prog 3 #[.slice a n cap, .int .i64 day] w fun e w' => e = .returned (.bool true) ∧ Below w.heap.size w w' := by
  have hl := h.1
  have hn := h.2.1
  have H := Lib.hid h
  have K1 := Lib.hid (roomy_any a n cap fs w h)
  have KU := Lib.hid (fun A C W (h : FL W A n fs) => until_any A n C fs day W h)
  have KR := Lib.hid (fun W (h : FL W a n fs) => rUntil_any a n cap fs day W h)
  have KK := Lib.hid (show (keep day fs).length ≤ 4398046511000 from Nat.le_trans (keep_len day fs) (by omega))
  have KS := Lib.hid (fun A B C D W (h : FL W A (keep day fs).length (keep day fs)) (h' : FL W B (keep day fs).length (keep day fs)) => same_fl A B _ C D _ W h h')
  have KH := Lib.hid (fun v B xs W (h : W.ownsRow B 32 3 v (keep day fs).length xs) (hB : B ≤ W.heap.size) => hold_any v _ B xs (-9) W h KK.out hB)
  have KT := Lib.hid (fun W g (h : FL W a n fs) hg hR => untouched_any a n cap g fs W h hg hR)
  generalize keep day fs = ks at *
  clear h
  go_enter Try.func3, Try.ntmps3
  go_wp2_with (first
    | (go_at_call 6; refine K1.out.mono ?_; rintro e w1 ⟨rfl, h1, h2⟩; have B1 := Lib.hid h1; have R1 := Lib.hid h2; clear h1 h2)
    | (go_at_call 7; refine (KU.out _ _ _ (rf_fl R1.out hl hn)).mono ?_; rintro e w2 ⟨v, rfl, h1, h2⟩; have B2 := Lib.hid h1; have O2 := Lib.hid h2; clear h1 h2; obtain ⟨A, C, rfl, hf⟩ := fl_of_own O2.out KK.out; have F2 := Lib.hid hf; clear hf)
    | (go_at_call 9; refine (KR.out _ (H.out.later (B1.out.trans (B2.out.mono B1.out.size)))).mono ?_; rintro e w3 ⟨v', rfl, h1, h2⟩; have B3 := Lib.hid h1; have O3 := Lib.hid h2; clear h1 h2; obtain ⟨A', C', rfl, hf⟩ := fl_of_own O3.out KK.out; have F3 := Lib.hid hf; clear hf)
    | (go_at_call 8; refine (KS.out _ _ _ _ _ (F2.out.later B3.out) F3.out).mono ?_; rintro e w4 ⟨rfl, h1⟩; have B4 := Lib.hid (B3.out.trans (h1.mono B3.out.size)); clear h1)
    | (go_at_call 10; refine (KH.out _ _ _ _ (own_later O2.out B4.out) (Nat.le_trans B2.out.size B4.out.size)).mono ?_; rintro e w5 ⟨r, rfl, h1⟩; have B5 := Lib.hid (show Below w1.heap.size w1 w5 from (B2.out.trans (B4.out.mono B2.out.size)).trans h1); clear h1)
    | (go_at_call 11; refine (KT.out _ _ (H.out.later (B1.out.trans (B5.out.mono B1.out.size))) (Nat.lt_of_lt_of_le R1.out.lt B5.out.size) (fun i hi => (R1.out.fc i (by simp; omega)).later B5.out R1.out.lt)).mono ?_; rintro e w6 ⟨rfl, h1⟩; have B6 := Lib.hid (B5.out.trans (h1.mono B5.out.size)); clear h1))
  all_goals go_ret
  all_goals exact ⟨rfl, B1.out.trans (B6.out.mono B1.out.size)⟩
end Go.Proofs.Ytmbnbediedpgmaa
