/-
  WALK: late.
-/
import Derived.Test.YtnoimmjijkgjaaaWBkLate
namespace Go.Proofs.Ytnoimmjijkgjaaa
open Go.RowKit
set_option linter.unusedVariables false
set_option linter.unusedSimpArgs false

theorem row_at {w : World} {e : TypeId} {B : Nat} {v : Value} {n i : Nat} {xs : List Value} {u : Value} (h : w.ownsRow B e 1 v n xs) (hu : xs[i]? = some u) : ∃ g cap, v = .slice (some ⟨g, 0, none⟩) n cap ∧ w.cell? ⟨g, i, none⟩ = some u := by
  have hi := (List.getElem?_eq_some_iff.1 hu).1
  have hl := h.1
  rcases h.2 with ⟨_, h0⟩ | ⟨g, cap, cur, e, _⟩
  · omega
  · subst e
    exact ⟨g, cap, rfl, by rw [h.cellAt i (by omega)]; exact hu⟩
theorem L2I.drewN {w0 wr : World} {B q : Nat} {R : Value} {c : Nat} {rs : List Value} {i : Nat} {L : Value} {ws : List Value} (h : L2I w0 wr B q R c rs i L ws) (r : Nat) : L2I w0 (wr.drewN r) B q R c rs i L ws :=
  ⟨⟨h.eb.l, h.eb.late, h.eb.f, h.eb.ty, h.eb.base, h.eb.own⟩, h.en, h.r, h.ro, h.rl, h.re, h.ap, ⟨h.bel.os, h.bel.tape, h.bel.output, h.bel.size, h.bel.block⟩, h.sz⟩
set_option maxRecDepth 100000 in
set_option maxHeartbeats 4000000 in
theorem late_any (B q c : Nat) (rs ss : List Value) (R S : Value) (w : World) (h : LBk w B q R S c c rs ss) (he : ∀ i, i < c → LEnt w B rs ss i) (pw : PW rs) (hc : c ≤ 400000000) (hB : B ≤ w.heap.size) :
    Calls Try.prog 13 #[.pointer (some ⟨q, 2, none⟩)] w fun e w' => e = .returned (.bool true) ∧ Below B w w' := by
  have c3 := h.late
  have f3 : w.frozen? ⟨q, 3, none⟩ = false := by obtain ⟨cs, ht⟩ := h.ty; exact nofz ht
  obtain ⟨I0, x5, oS, E0⟩ := h.start he hB
  have HI := Lib.hid I0
  have HS := Lib.hid oS
  have HE := Lib.hid E0
  have HP := Lib.hid pw
  have x4 := I0.r
  obtain ⟨aR, cR, rfl⟩ := rowL_form h.ownR
  obtain ⟨aS, cS, rfl⟩ := rowL_form h.ownS
  clear h he I0 oS E0 pw
  go_enter Try.func13, Try.ntmps13
  go_wp2
  generalize w.setCell ⟨q, 3, none⟩ (.bool false) = W0 at *
  clear c3 f3
  go_loopw [3] (fun t wr => ∃ i : Nat, i ≤ c ∧ t = .int .i64 (i : Int) ∧ ∃ r, wr = W0.drewN r) (fun t _ => c - (intOf t).toNat)
  case atStart => exact ⟨0, by omega, rfl, 0, rfl⟩
  case round =>
    obtain ⟨i, hi, rfl, r, rfl⟩ := hrel
    by_cases hlt : i < c
    · have ic : (i : Int) < (c : Int) := by omega
      obtain ⟨a, m, cp, ys, a2, c2, e1, e2, e3, e4, e5, e6⟩ := HE.out i hlt
      obtain ⟨gR, cR', hv, d1⟩ := row_at HI.out.ro e1
      injection hv with hv1 _ hv2
      subst hv1 hv2
      obtain ⟨gS, cS', hv, d2⟩ := row_at HS.out e2
      injection hv with hv1 _ hv2
      subst hv1 hv2
      have KS := Lib.hid (fun W (g : BL W a m ys) (g' : BL W a2 m ys) => same_any a a2 m m cp c2 ys ys W g g')
      rw [decide_eq_true rfl] at KS
      have T1 := Lib.hid (own_bt e3 e4 (by omega)).1
      have T2 := Lib.hid e6.1
      clear e1 e2 e3 e4 e6
      go_wp2
      go_region_held3 (fun w' => w'.cell? ⟨q, 4, none⟩ = some (.slice (some ⟨gR, 0, none⟩) c cR) ∧ w'.cell? ⟨q, 5, none⟩ = some (.slice (some ⟨gS, 0, none⟩) c cS) ∧ w'.cell? ⟨gR, i, none⟩ = some (.slice a m cp) ∧ w'.cell? ⟨gS, i, none⟩ = some (.slice a2 m c2))
        (refine ⟨?_, ?_, ?_, ?_⟩ <;> first | assumption | (go_simp; done))
        (first
        | (go_at_call 12; refine (KS.out _ (by exact BL.heap (by rfl) T1.out) (by exact BL.heap (by rfl) T2.out)).mono ?_; rintro e w3 ⟨rfl, i3, rfl⟩))
      go_wp2
      go_roundw
      case rel => exact ⟨i + 1, by omega, by go_num, _, by first | rfl | simp only [World.drewN_drewN]⟩
      case measure => simp [intOf]; omega
    · obtain rfl : i = c := by omega
      clear hlt hi
      have HI2 := Lib.hid (p := L2I w (W0.drewN r) B q (.slice aR i cR) i rs 0 (.slice none 0 0) []) (HI.out.drewN r)
      clear HI
      go_wp2
      generalize W0.drewN r = W1 at *
      clear x4 x5
      go_loopw [5] (fun t wr => ∃ (k : Nat) (L : Value) (ws : List Value), k ≤ i ∧ t = .int .i64 (k : Int) ∧ L2I w wr B q (.slice aR i cR) i rs k L ws) (fun t _ => i - (intOf t).toNat)
      case atStart => exact ⟨0, _, _, by omega, rfl, HI2.out⟩
      case round =>
        rename World => wr
        obtain ⟨k, L, ws, hk, rfl, hI⟩ := hrel
        have IK := Lib.hid hI
        have x4 := hI.r
        by_cases hlt : k < i
        · have kc : (k : Int) < (i : Int) := by omega
          obtain ⟨a, m, cp, ys, e1, e2, e3⟩ := hI.re k (Nat.le_refl _) hlt
          obtain ⟨gR, cR', hv, d1⟩ := row_at hI.ro e1
          injection hv with hv1 _ hv2
          subst hv1 hv2
          have KP := Lib.hid (put_e B q (2 * k) ws L a m cp B ys (1 + k % 120) wr hI.eb e2 (by omega) e3 (Nat.le_trans hI.sz hI.bel.size) (Nat.le_trans hI.sz hI.bel.size) (by rw [Nat.mul_div_cancel_left _ (by omega : 0 < 2)]))
          have E1 := Lib.hid e1
          have E2 := Lib.hid e2
          clear hI e1 e2
          go_wp2_with (go_at_call 23; refine KP.out.mono ?_; rintro e w9 ⟨rfl, L9, a9, c9, p1, p2, p3, p4⟩; have N9 := Lib.hid (IK.out.step HP.out hlt E1.out E2.out e3 p1 p2 p3 p4); clear p1 p2 p3 p4)
          go_roundw
          case rel => exact ⟨k + 1, _, _, by omega, by go_num, N9.out⟩
          case measure => simp [intOf]; omega
        · obtain rfl : k = i := by omega
          have KK := Lib.hid (kept_any B q k ws L wr hI.eb.l hI.eb.own hI.en (by omega))
          have BB := Lib.hid hI.bel
          clear hI
          go_wp2_with (go_at_call 10; refine KK.out.mono ?_; rintro e w9 ⟨rfl, r9, rfl⟩)
          go_ret
          exact ⟨rfl, BB.out.os, BB.out.tape, BB.out.output, BB.out.size, BB.out.block⟩
end Go.Proofs.Ytnoimmjijkgjaaa
