/-
  WALKS: the reader of the program: Left, Place, Uint, Int.
-/
import Derived.Test.YtdbjdieegocdfaaDoorWOct3
import Derived.Test.YtdbjdieegocdfaaDoorShelf
import Derived.Deep.RegionHeld3
namespace Go.Proofs.YtdbjdieegocdfaaDoor
open Go.RowKit
set_option linter.unusedVariables false
set_option linter.unusedSimpArgs false

/-- A reader in block p, of bytes that the call owns. -/
structure RB (w : World) (B p : Nat) (a : Option Addr) (n cap : Nat) (xs : List Int) (k : Nat) : Prop where
  t : w.cell? ⟨p, 0, none⟩ = some (.slice a n cap)
  ac : w.cell? ⟨p, 1, none⟩ = some (.int .i64 k)
  f : w.frozen? ⟨p, 1, none⟩ = false
  ty : ∃ cs fz, w.heap[p]? = some (.cells cs 72 fz)
  base : B ≤ p
  own : Own w B (.slice a n cap) n xs
  bnd : n ≤ 140737488355328
  le : k ≤ n
  byte : ∀ c ∈ xs, 0 ≤ c ∧ c ≤ 255
theorem RB.lt {w : World} {B p : Nat} {a : Option Addr} {n cap : Nat} {xs : List Int} {k : Nat} (h : RB w B p a n cap xs k) : p < w.heap.size := by
  obtain ⟨cs, fz, e⟩ := h.ty; exact (Array.getElem?_eq_some_iff.1 e).1
theorem RB.len {w : World} {B p : Nat} {a : Option Addr} {n cap : Nat} {xs : List Int} {k : Nat} (h : RB w B p a n cap xs k) : xs.length = n := by
  have := h.own.1; rw [bcs_len] at this; omega
theorem RB.cap {w : World} {B p : Nat} {a : Option Addr} {n cap : Nat} {xs : List Int} {k : Nat} (h : RB w B p a n cap xs k) : n ≤ cap ∧ cap ≤ maxLen := by
  rcases h.own.2 with ⟨e, h0⟩ | ⟨g, c, cur, e, _, _, h1, h2, _⟩
  · injection e with _ e1 e2; subst e2; unfold maxLen; omega
  · injection e with _ e1 e2; subst e2; exact ⟨h1, h2⟩
theorem RB.sep {w : World} {B p : Nat} {a : Option Addr} {n cap : Nat} {xs : List Int} {k : Nat} (h : RB w B p a n cap xs k) : Value.ownBlock (.slice a n cap) ≠ some p := by
  intro e
  obtain ⟨cs, fz, ht⟩ := h.ty
  rcases h.own.2 with ⟨e', h0⟩ | ⟨g, c, cur, e', _, hg, _⟩
  · rw [e'] at e; cases e
  · rw [e'] at e
    simp [Value.ownBlock] at e
    subst e
    rw [hg] at ht
    injection ht with ht
    injection ht with _ ht _
    revert ht; decide
/-- The world has changed at most in the block p, and grown. -/
abbrev Gr (p : Nat) (w w' : World) : Prop := w.grownBy w' (some p)
theorem gr_refl (r : Option Nat) (w : World) : w.grownBy w r := ⟨rfl, rfl, rfl, Nat.le_refl _, fun _ _ _ => rfl⟩
theorem gr_trans {r : Option Nat} {a b c : World} (h : a.grownBy b r) (k : b.grownBy c r) : a.grownBy c r :=
  ⟨k.os.trans h.os, k.tape.trans h.tape, k.output.trans h.output, Nat.le_trans h.size k.size, fun i hi hn => (k.block i (Nat.lt_of_lt_of_le hi h.size) hn).trans (h.block i hi hn)⟩
theorem gr_drewN {r : Option Nat} {a b : World} (h : a.grownBy b r) (n : Nat) : a.grownBy (b.drewN n) r := ⟨h.os, h.tape, h.output, h.size, h.block⟩
theorem gr_set {p : Nat} {a b : World} (h : Gr p a b) (o : Nat) (v : Value) : Gr p a (b.setCell ⟨p, o, none⟩ v) := by
  refine gr_trans h ⟨rfl, rfl, rfl, by simp, fun i hi hn => ?_⟩
  have hp : ¬ p = i := fun e => hn (by rw [e])
  simp [World.setCell, Array.getElem?_modify, hp]
theorem gr_below {r : Option Nat} {a b : World} (h : a.grownBy b none) (r : Option Nat) : a.grownBy b r := ⟨h.os, h.tape, h.output, h.size, fun i hi _ => h.block i hi (by simp)⟩
theorem below_gr {a b : World} (h : Below a.heap.size a b) (r : Option Nat) : a.grownBy b r := ⟨h.os, h.tape, h.output, h.size, fun i hi _ => h.block i hi⟩
theorem gr_out {B p : Nat} {a b : World} (h : Gr p a b) (hB : B ≤ p) (hs : B ≤ a.heap.size) : Below B a b := (Below.refl B a).grown h hs (fun k e => by injection e with e; omega)
/-- What stays, when a block that is neither the reader nor its bytes has changed. -/
theorem RB.kept {w w' : World} {B p : Nat} {a : Option Addr} {n cap : Nat} {xs : List Int} {k : Nat} {r : Option Nat} (h : RB w B p a n cap xs k) (g : w.grownBy w' r) (h1 : r ≠ some p) (h2 : ∀ q, Value.ownBlock (.slice a n cap) = some q → r ≠ some q) : RB w' B p a n cap xs k := by
  have e := g.block p h.lt (fun e => h1 e.symm)
  refine ⟨(World.cell?_of_block (a := ⟨p, 0, none⟩) e).trans h.t, (World.cell?_of_block (a := ⟨p, 1, none⟩) e).trans h.ac, (World.frozen?_of_block (a := ⟨p, 1, none⟩) e).trans h.f, ?_, h.base, h.own.kept g ?_, h.bnd, h.le, h.byte⟩
  · obtain ⟨cs, fz, ht⟩ := h.ty; exact ⟨cs, fz, e.trans ht⟩
  · rcases hv : Value.ownBlock (.slice a n cap) with _ | q
    · exact .inl rfl
    · exact .inr (fun e => h2 q hv e.symm)
theorem RB.later {w w' : World} {B p : Nat} {a : Option Addr} {n cap : Nat} {xs : List Int} {k : Nat} (h : RB w B p a n cap xs k) (g : w.grownBy w' none) : RB w' B p a n cap xs k := h.kept g (by simp) (by simp)
theorem RB.drewN {w : World} {B p : Nat} {a : Option Addr} {n cap : Nat} {xs : List Int} {k : Nat} (h : RB w B p a n cap xs k) (m : Nat) : RB (w.drewN m) B p a n cap xs k := h.later (gr_drewN (gr_refl none w) m)
theorem RB.set {w : World} {B p : Nat} {a : Option Addr} {n cap : Nat} {xs : List Int} {k : Nat} (h : RB w B p a n cap xs k) (k' : Nat) (hk : k' ≤ n) : RB (w.setCell ⟨p, 1, none⟩ (.int .i64 k')) B p a n cap xs k' := by
  refine ⟨by rw [World.cell?_setCell_other _ _ _ _ (by simp)]; exact h.t, World.cell?_setCell_same' _ _ _ (by rw [h.ac]; rfl), by rw [World.frozen?_setCell]; exact h.f, ?_, h.base, h.own.kept (gr_set (gr_refl (some p) w) 1 _) ?_, h.bnd, hk, h.byte⟩
  · obtain ⟨cs, fz, ht⟩ := h.ty
    refine ⟨cs.setIfInBounds 1 (.int .i64 k'), fz, ?_⟩
    simp [World.setCell, Array.getElem?_modify, ht]
  · exact .inr h.sep
/-- The bytes from the reader's place on. -/
theorem RB.rest {w : World} {B p : Nat} {a : Option Addr} {n cap : Nat} {xs : List Int} {k : Nat} (h : RB w B p a n cap xs k) : BL w (if cap = k then a else Option.map (fun x => x.add k) a) (n - k) (xs.drop k) := by
  refine ⟨by rw [List.length_drop, h.len], by have := h.bnd; omega, fun c hc => h.byte c (List.mem_of_mem_drop hc), ?_⟩
  rcases Nat.lt_or_ge k n with q | q
  · right
    rcases h.own.2 with ⟨e, h0⟩ | ⟨g, c, cur, e, _, hg, hn, hm, hs, ht⟩
    · omega
    · injection e with e1 e2 e3
      subst e1 e3
      rw [if_neg (by omega)]
      refine ⟨g, k, ?_, (Array.getElem?_eq_some_iff.1 hg).1, fun i hi => ?_⟩
      · simp [Addr.add]; omega
      · rw [World.ownsRow.cellAt h.own (k + i) (by omega)]
        have : k + i < xs.length := by rw [h.len]; omega
        simp [bcs, List.getD, this]
  · left; omega

theorem RB.rest2 {w : World} {B p : Nat} {a : Option Addr} {n cap : Nat} {xs : List Int} {k : Nat} (h : RB w B p a n cap xs k) (hk : cap ≠ k) : BL w (Option.map (fun x => x.add k) a) (n - k) (xs.drop k) := by
  have := h.rest
  rwa [if_neg hk] at this

theorem left_any (B p : Nat) (a : Option Addr) (n cap : Nat) (xs : List Int) (k : Nat) (w : World) (h : RB w B p a n cap xs k) :
    Calls Tryd.prog 29 #[.pointer (some ⟨p, 0, none⟩)] w fun e w' => e = .returned (.int .i64 ((n - k : Nat) : Int)) ∧ w.grownBy w' none := by
  have h1 := h.t
  have h2 := h.ac
  have h3 := h.le
  have h4 := h.bnd
  clear h
  go_enter Tryd.func29, Tryd.ntmps29
  go_wp2
  go_quiet (fail)
  go_wp2
  go_ret
  exact ⟨by simp only [Array.getD]; simp; omega, gr_drewN (gr_refl _ _) _⟩
theorem place_any (B p : Nat) (a : Option Addr) (n cap : Nat) (xs : List Int) (k : Nat) (w : World) (h : RB w B p a n cap xs k) :
    Calls Tryd.prog 30 #[.pointer (some ⟨p, 0, none⟩)] w fun e w' => e = .returned (.int .i64 (k : Int)) ∧ w.grownBy w' none := by
  have h2 := h.ac
  clear h
  go_enter Tryd.func30, Tryd.ntmps30
  go_wp2
  go_ret
  exact ⟨rfl, gr_refl _ _⟩

end Go.Proofs.YtdbjdieegocdfaaDoor
