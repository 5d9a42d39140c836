/-
  WALK: FlowCut.
-/
import Derived.Test.YtmdgfcldohmjdaaDoorWHeads2
namespace Go.Proofs.YtmdgfcldohmjdaaDoor
open Go.RowKit
set_option linter.unusedVariables false
set_option linter.unusedSimpArgs false

theorem drewN_two (w : World) (a b : Nat) : ∃ c, (w.drewN a).drewN b = w.drewN c := ⟨a + b, by simp [World.drewN]; omega⟩
theorem fl_of_isC {w : World} {a : Option Addr} {len cap : Nat} {fs : List Fl} (hb : len * 32 ≤ 140737488351232) (h : IsFls w a len cap fs) : FL w a len fs := by
  rcases h with ⟨rfl, rfl, rfl, rfl⟩ | ⟨x, rfl, h1, h2, h3, h4, h5⟩
  · exact ⟨rfl, by omega, .inl rfl⟩
  · refine ⟨h3, by omega, ?_⟩
    by_cases h0 : len = 0
    · exact .inl h0
    · obtain ⟨b, o, s⟩ := x
      have hc := (h5 0 (by omega)).1
      have hs : s = none := by simpa [Addr.add] using World.cell?_spot hc
      subst hs
      refine .inr ⟨b, o, rfl, ?_, fun i hi => ?_⟩
      · have e : (⟨b, o, none⟩ : Addr).add (0 * 3) = ⟨b, o, none⟩ := by simp [Addr.add]
        rw [e] at hc
        by_cases hlt : b < w.heap.size
        · exact hlt
        · exfalso
          have hn : w.heap[b]? = none := by simp; omega
          simp [World.cell?, hn] at hc
      · have := h5 i hi
        rw [Go.Addr.add_lit, Go.Addr.add_lit, Go.Addr.add_lit] at this
        exact this
theorem keep_at {day : Int} {fs : List Fl} {i : Nat} {f : Fl} (hi : i < fs.length) (hf : fs.getD i default = f) (h : f.d ≤ day) : (keep day (fs.take i)).length < (keep day fs).length ∧ (keep day fs).getD (keep day (fs.take i)).length default = f := by
  have e : keep day fs = keep day (fs.take (i + 1)) ++ keep day (fs.drop (i + 1)) := by
    unfold keep
    rw [← List.filter_append, List.take_append_drop]
  rw [keep_yes hi hf h] at e
  rw [e]
  refine ⟨by simp, ?_⟩
  simp [List.getD]
set_option maxRecDepth 100000 in
set_option maxHeartbeats 2000000 in
theorem flowCut_walk (hsort : SortsN) (a : Option Addr) (n cap : Nat) (fs : List Fl) (day : Int) (w : World) (h : FL w a n fs) (hP : Pw w.heap.size w) :
    Calls Tryd.prog 5 #[.slice a n cap, .int .i64 day] w fun e w' => e = .returned (.bool true) ∧ Below w.heap.size w w' := by
  have HL := Lib.hid h.1
  have hn := h.2.1
  have H := Lib.hid h
  have KH := Lib.hid (heads_any hsort w hP)
  have KU := Lib.hid (fun W (h : FL W a n fs) => until_any a n cap fs day W h)
  have kl : (keep day fs).length ≤ n := by rw [← h.1]; exact keep_len day fs
  have KAT := Lib.hid (p := ∀ i, i < n → (fs.getD i default).d ≤ day → (keep day (fs.take i)).length < (keep day fs).length ∧ (keep day fs).getD (keep day (fs.take i)).length default = fs.getD i default ∧ (keep day (fs.take (i + 1))).length = (keep day (fs.take i)).length + 1) (fun i hi hd => by
    have := keep_at (fs := fs) (i := i) (by rw [HL.out]; exact hi) rfl hd
    exact ⟨this.1, this.2, by rw [keep_yes (by rw [HL.out]; exact hi) rfl hd]; simp⟩)
  have KNO := Lib.hid (p := ∀ i, i < n → ¬ (fs.getD i default).d ≤ day → (keep day (fs.take (i + 1))).length = (keep day (fs.take i)).length) (fun i hi hd => by rw [keep_no (by rw [HL.out]; exact hi) rfl hd])
  have KE := Lib.hid (p := (keep day (fs.take n)).length = (keep day fs).length) (by rw [List.take_of_length_le (by rw [HL.out]; exact Nat.le_refl _)])
  have K0 := Lib.hid (p := (keep day (fs.take 0)).length = 0) (by simp [keep])
  have FO := Lib.hid (fun (W : World) B v (o : W.ownsRow B 32 3 v (keep day fs).length (fcs (keep day fs))) => fl_of_own o (by omega))
  obtain ⟨ks, hks⟩ : ∃ ks, keep day fs = ks := ⟨_, rfl⟩
  rw [hks] at KAT KE FO kl KU
  obtain ⟨cnt, hcnt⟩ : ∃ cnt : Nat → Nat, (fun i => (keep day (fs.take i)).length) = cnt := ⟨_, rfl⟩
  have HC := Lib.hid (p := ∀ i, (keep day (fs.take i)).length = cnt i) (fun i => by rw [← hcnt])
  simp only [HC.out] at KAT KNO KE K0
  clear hks hcnt h hP HC
  go_enter Tryd.func5, Tryd.ntmps5
  go_wp2_with fail
  go_at_call 8
  refine KH.out.mono ?_
  rintro e w1 ⟨rfl, b1⟩
  have B1 := Lib.hid b1
  clear b1
  go_wp2_with fail
  go_at_call 13
  refine (KU.out _ (H.out.later B1.out)).mono ?_
  rintro e w2 ⟨v, rfl, b2, o2⟩
  obtain ⟨au, cu, rfl, fu⟩ := FO.out _ _ _ o2
  have B2 := Lib.hid (B1.out.trans (b2.mono B1.out.size))
  have FU := Lib.hid fu
  have FA := Lib.hid (H.out.later B2.out)
  clear b2 o2 fu
  go_wp2
  go_loopw [6, 7] (fun x t wr => ∃ (i : Nat), i ≤ n ∧ t = .int .i64 (i : Int) ∧ x = .int .i64 (cnt i : Int) ∧ ∃ q, wr = w2.drewN q) (fun _ t _ => n - (intOf t).toNat)
  case atStart => exact ⟨0, by omega, rfl, by rw [K0.out]; rfl, 0, rfl⟩
  case round =>
    obtain ⟨i, hi, rfl, rfl, q, hwr⟩ := hrel
    rename World => wr
    have HX := Lib.hid hwr
    by_cases hlt : i < n
    · obtain ⟨b, o, rfl, hb, hc⟩ : ∃ b o, a = some ⟨b, o, none⟩ ∧ b < w2.heap.size ∧ ∀ i, i < n → FC w2 b (o + i * 3) (fs.getD i default) := by
        rcases FA.out.2.2 with h | h
        · omega
        · exact h
      obtain ⟨c0, c1, c2⟩ := hc i hlt
      have c0' : wr.cell? ⟨b, o + i * 3, none⟩ = some (.int .i64 (fs.getD i default).d) := by rw [hwr]; exact c0
      have c1' : wr.cell? ⟨b, o + i * 3 + 1, none⟩ = some (.string (fs.getD i default).c) := by rw [hwr]; exact c1
      have c2' : wr.cell? ⟨b, o + i * 3 + 2, none⟩ = some (.int .i64 (fs.getD i default).a) := by rw [hwr]; exact c2
      have kc : (i : Int) < (n : Int) := by omega
      have kw : IntKind.i64.wrap ((i : Int) + 1) = (i : Int) + 1 := by simp [IntKind.wrap, IntKind.bits, IntKind.signed]; omega
      clear c0 c1 c2 hc
      by_cases hd : (fs.getD i default).d ≤ day
      · obtain ⟨k1, k2, k3⟩ := KAT.out i hlt hd
        obtain ⟨bu, ou, rfl, hbu, hcu⟩ : ∃ b o, au = some ⟨b, o, none⟩ ∧ b < w2.heap.size ∧ ∀ i, i < ks.length → FC w2 b (o + i * 3) (ks.getD i default) := by
          rcases FU.out.2.2 with h | h
          · omega
          · exact h
        obtain ⟨u0, u1, u2⟩ := hcu (cnt i) k1
        rw [k2] at u0 u1 u2
        have u0' : wr.cell? ⟨bu, ou + cnt i * 3, none⟩ = some (.int .i64 (fs.getD i default).d) := by rw [hwr]; exact u0
        have u1' : wr.cell? ⟨bu, ou + cnt i * 3 + 1, none⟩ = some (.string (fs.getD i default).c) := by rw [hwr]; exact u1
        have u2' : wr.cell? ⟨bu, ou + cnt i * 3 + 2, none⟩ = some (.int .i64 (fs.getD i default).a) := by rw [hwr]; exact u2
        have K3 := Lib.hid k3
        generalize fs.getD i default = f at *
        obtain ⟨fd, fc, fa⟩ := f
        simp only at c0' c1' c2' u0' u1' u2' hd
        obtain ⟨k, hk⟩ : ∃ k, cnt i = k := ⟨_, rfl⟩
        rw [hk] at k1 u0' u1' u2' K3 ⊢
        have d1 : ¬ (ks.length : Int) ≤ (k : Int) := by omega
        have d1' : decide ((ks.length : Int) ≤ (k : Int)) = false := decide_eq_false d1
        have d2 : (k : Int) < (ks.length : Int) := by omega
        have kw2 : IntKind.i64.wrap ((k : Int) + 1) = (k : Int) + 1 := by simp [IntKind.wrap, IntKind.bits, IntKind.signed]; omega
        have ss : (fc.toList == fc.toList) = true := by simp
        clear u0 u1 u2 hcu hwr k2 k3 hk
        go_wp2
        go_quiet (fail)
        go_wp2
        go_roundw
        case rel => exact ⟨i + 1, by omega, by simp, by rw [K3.out]; simp, by rw [HX.out]; exact drewN_two _ _ _⟩
        case measure => simp [intOf]; omega
      · have K3 := Lib.hid (KNO.out i hlt (by omega))
        generalize fs.getD i default = f at *
        obtain ⟨fd, fc, fa⟩ := f
        simp only at c0' c1' c2' hd
        clear hwr
        go_wp2
        go_roundw
        case rel => exact ⟨i + 1, by omega, by simp, by rw [K3.out], q, HX.out⟩
        case measure => simp [intOf]; omega
    · obtain rfl : i = n := by omega
      have E := KE.out
      have BX := Lib.hid (p := Below w.heap.size w wr) (by rw [hwr]; exact ⟨B2.out.os, B2.out.tape, B2.out.output, B2.out.size, B2.out.block⟩)
      clear hwr
      rw [E]
      go_wp2
      go_ret
      exact ⟨rfl, BX.out⟩
theorem flowCut_go (hsort : SortsN) (a : Option Addr) (n cap : Nat) (fs : List Fl) (day : Int) (w : World) (h : IsFls w a n cap fs) (hb : n * 32 ≤ 140737488351232) (hP : Pw w.heap.size w) :
    Calls Tryd.prog 5 #[.slice a n cap, .int .i64 day] w fun e w' => e = .returned (.bool true) ∧ Below w.heap.size w w' := flowCut_walk hsort a n cap fs day w (fl_of_isC hb h) hP
end Go.Proofs.YtmdgfcldohmjdaaDoor
