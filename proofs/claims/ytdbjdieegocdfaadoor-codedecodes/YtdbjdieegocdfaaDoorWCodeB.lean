/-
  WALKS: placeOf, readInstr.
-/
import Derived.Test.YtdbjdieegocdfaaDoorWSame11
namespace Go.Proofs.YtdbjdieegocdfaaDoor
open Go.RowKit
set_option linter.unusedVariables false
set_option linter.unusedSimpArgs false

theorem uR_uN (bs : List Int) (lim : Nat) : uR bs lim = uN bs lim := rfl
theorem gr_new {p q : Nat} {a b : World} (h : Gr p a b) (hq : a.heap.size ≤ q) (o : Nat) (v : Value) : Gr p a (b.setCell ⟨q, o, none⟩ v) := by
  refine ⟨h.os, h.tape, h.output, by simpa using h.size, fun i hi hn => ?_⟩
  have hp : ¬ q = i := by omega
  rw [show (b.setCell ⟨q, o, none⟩ v).heap[i]? = b.heap[i]? by simp [World.setCell, Array.getElem?_modify, hp]]
  exact h.block i hi hn
theorem gr_alloc {p : Nat} {a b : World} (h : Gr p a b) (o : Obj) : Gr p a (b.alloc o) := by
  refine ⟨h.os, h.tape, h.output, Nat.le_trans h.size (by simp), fun i hi hn => ?_⟩
  rw [Below.heap_alloc b o i (Nat.lt_of_lt_of_le hi h.size)]
  exact h.block i hi hn
theorem gr_any {r : Option Nat} {a b c : World} {p : Nat} (h : Gr p a b) (k : b.grownBy c none) : Gr p a c :=
  gr_trans h ⟨k.os, k.tape, k.output, k.size, fun i hi _ => k.block i hi (by simp)⟩
/-- What stands while an instruction is read: the reader, and that nothing else has turned. -/
structure RS (w wr : World) (B p : Nat) (a : Option Addr) (n cap : Nat) (xs : List Int) (pos : Nat) : Prop where
  rd : RB wr B p a n cap xs pos
  gr : Gr p w wr
theorem RS.later {w wr w' : World} {B p : Nat} {a : Option Addr} {n cap : Nat} {xs : List Int} {pos : Nat} (h : RS w wr B p a n cap xs pos) (g : wr.grownBy w' none) : RS w w' B p a n cap xs pos :=
  ⟨h.rd.later g, gr_trans h.gr ⟨g.os, g.tape, g.output, g.size, fun i hi _ => g.block i hi (by simp)⟩⟩
theorem RS.below {w wr w' : World} {B p : Nat} {a : Option Addr} {n cap : Nat} {xs : List Int} {pos : Nat} (h : RS w wr B p a n cap xs pos) (g : Below wr.heap.size wr w') : RS w w' B p a n cap xs pos := h.later (below_gr g none)
theorem RS.turn {w wr w' : World} {B p : Nat} {a : Option Addr} {n cap : Nat} {xs : List Int} {pos pos' : Nat} (h : RS w wr B p a n cap xs pos) (r : RB w' B p a n cap xs pos') (g : Gr p wr w') : RS w w' B p a n cap xs pos' := ⟨r, gr_trans h.gr g⟩
theorem RS.set {w wr : World} {B p : Nat} {a : Option Addr} {n cap : Nat} {xs : List Int} {pos : Nat} (h : RS w wr B p a n cap xs pos) {q : Nat} (hq : w.heap.size ≤ q) (hp : p < w.heap.size) (ho : ∀ g, Value.ownBlock (.slice a n cap) = some g → g < w.heap.size) (o : Nat) (v : Value) : RS w (wr.setCell ⟨q, o, none⟩ v) B p a n cap xs pos := by
  refine ⟨h.rd.kept (r := some q) (gr_set (gr_refl (some q) wr) o v) (by simp; omega) (fun g hg e => ?_), gr_new h.gr hq o v⟩
  injection e with e
  have := ho g hg
  omega
theorem RB.lt2 {w : World} {B p : Nat} {a : Option Addr} {n cap : Nat} {xs : List Int} {k : Nat} (h : RB w B p a n cap xs k) : ∀ g, Value.ownBlock (.slice a n cap) = some g → g < w.heap.size := fun g hg => (h.own.lt g hg).2
theorem RS.box {w wr w' : World} {p q : Nat} {o : Obj} (g : Gr p wr w') (h : wr.heap[q]? = some o) (hq : w.heap.size ≤ q) (hp : p < w.heap.size) : w'.heap[q]? = some o :=
  grown_block g h (by simp; omega)
theorem Rws.gr {w w' : World} {p : Nat} (h : Rws w) (g : Gr p w w') (hp : 0 < p) : Rws w' := by
  have e := g.block 0 h.1 (by simp; omega)
  refine ⟨Nat.lt_of_lt_of_le h.1 g.size, fun k hk => ?_⟩
  have c : ∀ o, w'.cell? ⟨0, o, none⟩ = w.cell? ⟨0, o, none⟩ := fun o => World.cell?_of_block (a := ⟨0, o, none⟩) e
  rw [c, c, c, c, c, c]
  exact h.2 k hk

theorem placeOf_any (er : Int) (B p : Nat) (a : Option Addr) (n cap : Nat) (xs : List Int) (k : Nat) (w : World) (h : RB w B p a n cap xs k) :
    Calls Tryd.prog 36 #[.int .i64 er, .pointer (some ⟨p, 0, none⟩)] w fun e w' => e = .returned (.int .i64 ((if er = 41 then n else k : Nat) : Int)) ∧ w.grownBy w' none := by
  have KP := Lib.hid (place_any B p a n cap xs k w h)
  have KL := Lib.hid (fun W (q : RB W B p a n cap xs k) => left_any B p a n cap xs k W q)
  have HH := Lib.hid h
  have hle := h.le
  have hb := h.bnd
  clear h
  by_cases he : er = 41
  · subst he
    have sw : IntKind.i64.wrap ((k : Int) + ((n - k : Nat) : Int)) = (n : Int) := by simp [IntKind.wrap, IntKind.bits, IntKind.signed]; omega
    have sm : (k : Int) + ((n - k : Nat) : Int) = (n : Int) := by omega
    go_enter Tryd.func36, Tryd.ntmps36
    go_wp2_with (first
      | (go_at_call 30; refine KP.out.mono ?_; rintro e w1 ⟨rfl, h1⟩; have G1 := Lib.hid h1; clear h1)
      | (go_at_call 29; refine (KL.out _ (HH.out.later G1.out)).mono ?_; rintro e w2 ⟨rfl, h1⟩; have G2 := Lib.hid (gr_trans G1.out h1); clear h1))
    go_ret
    exact ⟨by simp <;> first | done | exact sm | omega, G2.out⟩
  · have he' : (er == 41) = false := by simpa using he
    go_enter Tryd.func36, Tryd.ntmps36
    go_wp2_with (first
      | (go_at_call 30; refine KP.out.mono ?_; rintro e w1 ⟨rfl, h1⟩; have G1 := Lib.hid h1; clear h1))
    go_ret
    exact ⟨rfl, G1.out⟩
end Go.Proofs.YtdbjdieegocdfaaDoor
