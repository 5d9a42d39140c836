/-
  WALK: the document's Take.
-/
import Derived.Test.YtdbjdieegocdfaaDoorWRefRd2
namespace Go.Proofs.YtdbjdieegocdfaaDoor
open Go.RowKit
set_option linter.unusedVariables false
set_option linter.unusedSimpArgs false

set_option maxRecDepth 100000 in
set_option maxHeartbeats 800000 in
theorem takeR_ok (B p : Nat) (a : Option Addr) (n cap : Nat) (xs : List Int) (k m : Nat) (w : World) (h : RE w B p a n cap xs k) (hm : k + m ≤ n) :
    Calls Tryd.prog 20 #[.pointer (some ⟨p, 0, none⟩), .int .i64 (m : Int)] w fun e w' => ∃ v', e = .returned (.tuple #[v', .int .i64 0]) ∧ Own w' w.heap.size v' m ((xs.drop k).take m) ∧ RE w' B p a n cap xs (k + m) ∧ Gr p w w' := by
  have KL := Lib.hid (leftR_q B p a n cap xs k w h)
  have HH := Lib.hid h
  have h1 := h.t
  have h2 := h.ac
  have h4 := h.le
  have h5 := h.bnd
  have h6 := h.cap
  have hlt := h.lt
  have KJ := Lib.hid (fun A c W (g : Sl W A m c ((xs.drop k).take m)) => joined_any A none m 0 c 0 ((xs.drop k).take m) [] W g (sl_nil W) (by omega))
  simp only [Nat.add_zero, List.append_nil] at KJ
  have m0 : ¬ (m : Int) < 0 := by omega
  have m1 : ¬ ((n - k : Nat) : Int) < (m : Int) := by omega
  have kw : IntKind.i64.wrap ((k : Int) + m) = (k : Int) + m := by simp [IntKind.wrap, IntKind.bits, IntKind.signed]; omega
  have d1 : ¬ (k : Int) < 0 := by omega
  have d2 : ((k : Int) + m).toNat = k + m := by omega
  have d3 : k + m ≤ cap := by omega
  have d4 : ¬ (k : Int) + m < 0 := by omega
  have d5 : k ≤ k + m := by omega
  have d6 : k + m - k = m := by omega
  have i1 : (0 : Int) ≤ (k : Int) := by omega
  have i2 : (k : Int) ≤ (k : Int) + m := by omega
  have i3 : (k : Int) + m ≤ (cap : Int) := by omega
  have i4 : (0 : Int) ≤ (k : Int) + m := by omega
  have PA := Lib.hid (p := ∀ W k', RE W B p a n cap xs k' → BL W (if cap = k then a else Option.map (fun x => x.add k) a) m ((xs.drop k).take m) ∧ ((if cap = k then a else Option.map (fun x => x.add k) a) = none → m = 0)) (fun W k' g => own_part g.own g.byte g.bnd k m hm)
  have CN := Lib.hid (p := a = none → n = 0 ∧ cap = 0) (fun e => by
    subst e
    rcases h.own.2 with ⟨e, h0⟩ | ⟨g, c, cur, e, _⟩
    · injection e with _ e1 e2; exact ⟨h0, e2⟩
    · cases e)
  clear h
  generalize hr : ((n - k : Nat) : Int) = r at *
  clear hr
  by_cases hck : cap = k
  · obtain rfl : n = cap := by omega
    subst hck
    obtain rfl : m = 0 := by omega
    rw [if_pos rfl] at PA
    have SLA := Lib.hid (p := ∀ W k', RE W B p a n n xs k' → Sl W a 0 0 ((xs.drop n).take 0)) (fun W k' g => ⟨(PA.out W k' g).1, fun e => ⟨rfl, rfl⟩, by omega⟩)
    clear kw d1 d2 d3 d4 d5 d6 i1 i2 i3 i4 m0 m1
    have j1 : IntKind.i64.wrap (n : Int) = (n : Int) := by simp [IntKind.wrap, IntKind.bits, IntKind.signed]; omega
    have j2 : (0 : Int) ≤ (n : Int) := by omega
    have j3 : ¬ (n : Int) < 0 := by omega
    have j4 : (n : Int) ≤ (n : Int) := by omega
    have KL' := Lib.hid (p := Calls Tryd.prog 18 #[.pointer (some ⟨p, 0, none⟩)] w fun e w' => e = .returned (.int .i64 0) ∧ ∃ q, w' = w.drewN q) (by have q := leftR_q B p a n n xs n w HH.out; rw [Nat.sub_self] at q; exact q)
    clear KL
    rename_i _
    have KL := KL'
    simp only [Int.natCast_zero, Nat.add_zero] at *
    go_enter Tryd.func20, Tryd.ntmps20
    go_wp2_with (go_at_call 18; refine KL.out.mono ?_; rintro e w1 ⟨rfl, q1, rfl⟩; have e1 := h1; have e2 := h2)
    go_region_held3 (fun w' => w'.cell? ⟨p, 0, none⟩ = some (.slice a n n) ∧ w'.cell? ⟨p, 1, none⟩ = some (.int .i64 (n : Int)))
      (refine ⟨?_, ?_⟩ <;> first | assumption | (go_simp; done))
      (first
      | (go_at_call 31; refine (KJ.out _ _ _ (SLA.out _ _ (HH.out.drewN _))).mono ?_; rintro e w2 ⟨v2, rfl, o2, b2⟩; have O2 := Lib.hid o2; have B2 := Lib.hid (show Below w.heap.size w w2 from (below_drewN (Below.refl w.heap.size w) _).trans b2); have x0 := (B2.out.cell (p := ⟨p, 0, none⟩) hlt).trans h1; have x1 := (B2.out.cell (p := ⟨p, 1, none⟩) hlt).trans h2; have x2 : w2.frozen? ⟨p, 1, none⟩ = false := (HH.out.later (below_gr B2.out none)).f; clear b2 o2))
    all_goals go_wp2
    all_goals go_ret2
    all_goals exact ⟨_, rfl, own_far (own_low O2.out (by simp)) hlt _ _, (HH.out.later (below_gr B2.out none)).set n (by omega), gr_set (below_gr B2.out _) 1 _⟩
  · rw [if_neg hck] at PA
    have SLA := Lib.hid (p := ∀ W k', RE W B p a n cap xs k' → Sl W (Option.map (fun x => x.add k) a) m (cap - k) ((xs.drop k).take m)) (fun W k' g => ⟨(PA.out W k' g).1, fun e => (by
      have e' : a = none := (by cases a <;> simp at e; rfl)
      have := CN.out e'
      omega), by omega⟩)
    go_enter Tryd.func20, Tryd.ntmps20
    go_wp2_with (go_at_call 18; refine KL.out.mono ?_; rintro e w1 ⟨rfl, q1, rfl⟩; have e1 := h1; have e2 := h2)
    go_region_held3 (fun w' => w'.cell? ⟨p, 0, none⟩ = some (.slice a n cap) ∧ w'.cell? ⟨p, 1, none⟩ = some (.int .i64 (k : Int)))
      (refine ⟨?_, ?_⟩ <;> first | assumption | (go_simp; done))
      (first
      | (go_at_call 31; refine (KJ.out _ _ _ (SLA.out _ _ (HH.out.drewN _))).mono ?_; rintro e w2 ⟨v2, rfl, o2, b2⟩; have O2 := Lib.hid o2; have B2 := Lib.hid (show Below w.heap.size w w2 from (below_drewN (Below.refl w.heap.size w) _).trans b2); have x0 := (B2.out.cell (p := ⟨p, 0, none⟩) hlt).trans h1; have x1 := (B2.out.cell (p := ⟨p, 1, none⟩) hlt).trans h2; have x2 : w2.frozen? ⟨p, 1, none⟩ = false := (HH.out.later (below_gr B2.out none)).f; clear b2 o2))
    all_goals go_wp2
    all_goals go_ret2
    all_goals exact ⟨_, rfl, own_far (own_low O2.out (by simp)) hlt _ _, (HH.out.later (below_gr B2.out none)).set (k + m) (by omega), gr_set (below_gr B2.out _) 1 _⟩
end Go.Proofs.YtdbjdieegocdfaaDoor
