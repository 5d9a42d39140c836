/-
  WALKS: the reader's Uint.
-/
import Derived.Test.YtdbjdieegocdfaaDoorWOct4
namespace Go.Proofs.YtdbjdieegocdfaaDoor
open Go.RowKit
set_option linter.unusedVariables false
set_option linter.unusedSimpArgs false

/-- What Uint answers, and how far it moves. -/
def uR (bs : List Int) (lim : Nat) : Nat × Int × Nat := if (rd bs).2.2 ≠ 0 then (0, (rd bs).2.2, 0) else if lim < (rd bs).1 then (0, 42, 0) else ((rd bs).1, 0, (rd bs).2.1)
theorem ret2' {x m : Nat} {e : Int} {r : Nat × Int × Nat} (h : r = (x, e, m)) : Ending.returned (.tuple #[.int .u64 (x : Int), .int .i64 e]) = .returned (.tuple #[.int .u64 (r.1 : Int), .int .i64 r.2.1]) := by rw [h]
set_option maxRecDepth 100000 in
set_option maxHeartbeats 2000000 in
theorem uint_any (B p : Nat) (a : Option Addr) (n cap : Nat) (xs : List Int) (k lim : Nat) (w : World) (h : RB w B p a n cap xs k) :
    Calls Tryd.prog 35 #[.pointer (some ⟨p, 0, none⟩), .int .u64 (lim : Int)] w fun e w' => e = .returned (.tuple #[.int .u64 ((uR (xs.drop k) lim).1 : Int), .int .i64 (uR (xs.drop k) lim).2.1]) ∧ RB w' B p a n cap xs (k + (uR (xs.drop k) lim).2.2) ∧ Gr p w w' := by
  have HH := Lib.hid h
  have h1 := h.t
  have h2 := h.ac
  have h3 := h.f
  have h4 := h.le
  have h5 := h.bnd
  have h6 := h.cap
  have KV := Lib.hid (fun W A (g : BL W A (n - k) (xs.drop k)) => varint_any A (n - k) (cap - k) (xs.drop k) W (by omega) g)
  have ON := Lib.hid (fun (q : (rd (xs.drop k)).2.2 = 0) => rd_only (bs := xs.drop k) (fun c hc => h.byte c (List.mem_of_mem_drop hc)) q)
  have CO := Lib.hid (show (rd (xs.drop k)).2.2 = 0 ∨ (rd (xs.drop k)).2.2 = 41 ∨ (rd (xs.drop k)).2.2 = 42 from rdf_codes (xs.drop k) 0)
  have LN := Lib.hid h.len
  clear h
  have c1 : ¬ (k : Int) < 0 := by omega
  have c2 : (k : Int) ≤ (n : Int) := by omega
  have c3 : n ≤ cap := by omega
  rcases hR : rd (xs.drop k) with ⟨x, m, er⟩
  have RR := Lib.hid hR
  rw [hR] at KV ON CO
  simp only at KV ON CO
  by_cases e0 : er = 0
  · subst e0
    obtain ⟨_, o2, o3, o4, o5⟩ := ON.out rfl
    rw [List.length_drop, LN.out] at o4
    by_cases hl : lim < x
    · have hl' : (lim : Int) < (x : Int) := by omega
      have UU := Lib.hid (p := uR (xs.drop k) lim = (0, 42, 0)) (by unfold uR; rw [RR.out]; simp [hl])
      go_enter Tryd.func35, Tryd.ntmps35
      go_wp2
      go_quiet (first | (go_at_call 39; exact Calls.quiet_of_same (KV.out _ _ (by first | exact (HH.out.drewN _).rest | exact (HH.out.drewN _).rest2 (by omega)))))
      go_wp2
      go_ret2
      exact ⟨ret2' UU.out, by rw [UU.out]; exact HH.out.drewN _, gr_drewN (gr_refl _ _) _⟩
    · have hl' : ¬ (lim : Int) < (x : Int) := by omega
      have UU := Lib.hid (p := uR (xs.drop k) lim = (x, 0, m)) (by unfold uR; rw [RR.out]; simp [hl])
      have kw : IntKind.i64.wrap ((k : Int) + m) = (k : Int) + m := by simp [IntKind.wrap, IntKind.bits, IntKind.signed]; omega
      go_enter Tryd.func35, Tryd.ntmps35
      go_wp2
      go_quiet (first | (go_at_call 39; exact Calls.quiet_of_same (KV.out _ _ (by first | exact (HH.out.drewN _).rest | exact (HH.out.drewN _).rest2 (by omega)))))
      go_wp2
      go_ret2
      exact ⟨ret2' UU.out, by rw [UU.out]; exact (HH.out.drewN _).set (k + m) (by omega), gr_set (gr_drewN (gr_refl _ _) _) 1 _⟩
  · have e0' : (er == 0) = false := by simpa using e0
    have UU := Lib.hid (p := uR (xs.drop k) lim = (0, er, 0)) (by unfold uR; rw [RR.out]; simp [e0])
    go_enter Tryd.func35, Tryd.ntmps35
    go_wp2
    go_quiet (first | (go_at_call 39; exact Calls.quiet_of_same (KV.out _ _ (by first | exact (HH.out.drewN _).rest | exact (HH.out.drewN _).rest2 (by omega)))))
    all_goals go_wp2
    all_goals
      go_ret2
      refine ⟨ret2' UU.out, ?_, gr_drewN (gr_refl _ _) _⟩
      rw [UU.out]
      first | exact HH.out.drewN _ | (have q := HH.out; rw [show cap = k by assumption] at q; exact q.drewN _)

theorem ret2i {x : Int} {x' : Int} {e e' : Int} (h1 : x = x') (h2 : e = e') : Ending.returned (.tuple #[.int .i64 x, .int .i64 e]) = .returned (.tuple #[.int .i64 x', .int .i64 e']) := by rw [h1, h2]
/-- Clone, wherever the bytes lie. -/
theorem clone_any (a : Option Addr) (n cap : Nat) (xs : List Int) (w : World) (h : BL w a n xs) (h0 : a = none → n = 0) :
    Calls Tryd.prog 33 #[.slice a n cap] w fun e w' => ∃ v', e = .returned v' ∧ Own w' w.heap.size v' n xs ∧ Below w.heap.size w w' := by
  obtain ⟨h1, h2, h3, h4⟩ := h
  rcases a with _ | a
  · refine (Tryd.bytes_Clone_nil n cap w).mono ?_
    rintro e w' ⟨rfl, rfl⟩
    have := h0 rfl
    subst this
    have : xs = [] := List.length_eq_zero_iff.1 h1
    subst this
    exact ⟨_, rfl, ⟨rfl, .inl ⟨rfl, rfl⟩⟩, Below.refl _ _⟩
  · refine (Tryd.bytes_Clone_at a n cap xs w h1 h2 ?_).mono ?_
    · intro i hi
      rcases h4 with h4 | ⟨b, o, e, hb, hc⟩
      · omega
      · injection e with e
        subst e
        have : (⟨b, o, none⟩ : Addr).add i = ⟨b, o + i, none⟩ := by unfold Addr.add; split <;> simp_all
        rw [this]
        exact hc i hi
    · rintro e w' ⟨v', rfl, h5, _, h6⟩
      exact ⟨v', rfl, h5, h6⟩

theorem own_form {w : World} {B : Nat} {v : Value} {n : Nat} {xs : List Int} (h : Own w B v n xs) : ∃ a cap, v = .slice a n cap := by
  rcases h.2 with ⟨q, q0⟩ | ⟨g, c, cur, q, _⟩
  · exact ⟨none, 0, by rw [q, q0]⟩
  · exact ⟨_, c, q⟩
/-- NewReader of any bytes. -/
theorem newReader_any (a : Option Addr) (n cap : Nat) (xs : List Int) (w : World) (h : BL w a n xs) (h0 : a = none → n = 0) :
    Calls Tryd.prog 27 #[.slice a n cap] w fun e w' => ∃ p a' cap', e = .returned (.pointer (some ⟨p, 0, none⟩)) ∧ RB w' w.heap.size p a' n cap' xs 0 ∧ Below w.heap.size w w' := by
  have K1 := Lib.hid (clone_any a n cap xs w h h0)
  have HB := Lib.hid h.2.2.1
  have H2 := Lib.hid h.2.1
  clear h
  go_enter Tryd.func27, Tryd.ntmps27
  go_wp2_with (first
    | (go_at_call 33; refine K1.out.mono ?_; rintro e w1 ⟨v1, rfl, h1, h2⟩; obtain ⟨a1, cap1, rfl⟩ := own_form h1; have O1 := Lib.hid h1; have B1 := Lib.hid h2; clear h1 h2))
  go_ret
  refine ⟨w1.heap.size, a1, cap1, rfl, ⟨by simp, by simp, by simp, ⟨#[.slice a1 n cap1, .int .i64 0], (0, 0), (by show (w1.heap.push _)[w1.heap.size]? = _; simp)⟩, B1.out.size, O1.out.alloc _, H2.out, Nat.zero_le _, HB.out⟩, B1.out.alloc B1.out.size _⟩
end Go.Proofs.YtdbjdieegocdfaaDoor
