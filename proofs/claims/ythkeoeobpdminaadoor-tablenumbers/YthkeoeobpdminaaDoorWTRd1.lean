/-
  The table's reader in memory; isBlank, isOfWord.
-/
import Derived.Test.YthkeoeobpdminaaDoorWTDay
import Derived.Lib.SmallJoins
import Derived.Deep.RegionHeld3
namespace Go.Proofs.YthkeoeobpdminaaDoor
open Go.RowKit
set_option linter.unusedVariables false
set_option linter.unusedSimpArgs false

/-- The byte at a place; -1 at the end. -/
def bt (s : ByteArray) (i : Nat) : Int := if h : i < s.size then (s[i].toNat : Int) else -1
theorem bt_lt {s : ByteArray} {i : Nat} (h : i < s.size) : bt s i = (s[i].toNat : Int) := by unfold bt; rw [dif_pos h]
theorem bt_end {s : ByteArray} {i : Nat} (h : ¬ i < s.size) : bt s i = -1 := by unfold bt; rw [dif_neg h]
def blB (c : Int) : Bool := c == 32 || c == 9 || c == 13
def wdB (c : Int) : Bool := decide (0 ≤ c) && !(blB c) && c != 35 && c != 10
/-- The reader in block g. -/
structure TR (w : World) (g : Nat) (s : ByteArray) (at_ pl : Nat) (m nm rw : Value) : Prop where
  hb : w.heap[g]? = some (.cells #[.string s, .int .i64 at_, .int .i64 pl, m, nm, rw] 60)
  sz : s.size ≤ 1048576
  le : at_ ≤ s.size
theorem TR.lt {w : World} {g : Nat} {s : ByteArray} {at_ pl : Nat} {m nm rw : Value} (h : TR w g s at_ pl m nm rw) : g < w.heap.size := (Array.getElem?_eq_some_iff.1 h.hb).1
theorem TR.c {w : World} {g : Nat} {s : ByteArray} {at_ pl : Nat} {m nm rw : Value} (h : TR w g s at_ pl m nm rw) :
    w.cell? ⟨g, 0, none⟩ = some (.string s) ∧ w.cell? ⟨g, 1, none⟩ = some (.int .i64 at_) ∧ w.cell? ⟨g, 2, none⟩ = some (.int .i64 pl) ∧ w.cell? ⟨g, 3, none⟩ = some m ∧ w.cell? ⟨g, 4, none⟩ = some nm ∧ w.cell? ⟨g, 5, none⟩ = some rw := by
  refine ⟨?_, ?_, ?_, ?_, ?_, ?_⟩ <;> simp [World.cell?, h.hb]
theorem TR.f {w : World} {g : Nat} {s : ByteArray} {at_ pl : Nat} {m nm rw : Value} (h : TR w g s at_ pl m nm rw) (i : Nat) : w.frozen? ⟨g, i, none⟩ = false := Joins.unfrozen_of_block h.hb i
theorem TR.drewN {w : World} {g : Nat} {s : ByteArray} {at_ pl : Nat} {m nm rw : Value} (h : TR w g s at_ pl m nm rw) (n : Nat) : TR (w.drewN n) g s at_ pl m nm rw := ⟨h.hb, h.sz, h.le⟩
theorem TR.setAt {w : World} {g : Nat} {s : ByteArray} {at_ pl : Nat} {m nm rw : Value} (h : TR w g s at_ pl m nm rw) (k : Nat) (hk : k ≤ s.size) : TR (w.setCell ⟨g, 1, none⟩ (.int .i64 k)) g s k pl m nm rw :=
  ⟨Joins.block_setCell h.hb _, h.sz, hk⟩
theorem TR.setPl {w : World} {g : Nat} {s : ByteArray} {at_ pl : Nat} {m nm rw : Value} (h : TR w g s at_ pl m nm rw) (k : Nat) : TR (w.setCell ⟨g, 2, none⟩ (.int .i64 k)) g s at_ k m nm rw :=
  ⟨Joins.block_setCell h.hb _, h.sz, h.le⟩
/-- At most the block g has turned. -/
def Gr (g : Nat) (w w' : World) : Prop := w.grownBy w' (some g)
theorem Gr.refl (g : Nat) (w : World) : Gr g w w := ⟨rfl, rfl, rfl, Nat.le_refl _, fun _ _ _ => rfl⟩
theorem Gr.trans {g : Nat} {a b c : World} (h : Gr g a b) (k : Gr g b c) : Gr g a c :=
  ⟨k.os.trans h.os, k.tape.trans h.tape, k.output.trans h.output, Nat.le_trans h.size k.size, fun i hi hn => (k.block i (Nat.lt_of_lt_of_le hi h.size) hn).trans (h.block i hi hn)⟩
theorem Gr.drewN {g : Nat} {a b : World} (h : Gr g a b) (n : Nat) : Gr g a (b.drewN n) := ⟨h.os, h.tape, h.output, h.size, h.block⟩
theorem Gr.set {g : Nat} {a b : World} (h : Gr g a b) (o : Nat) (v : Value) : Gr g a (b.setCell ⟨g, o, none⟩ v) := by
  refine h.trans ⟨rfl, rfl, rfl, by simp, fun i hi hn => ?_⟩
  have hp : ¬ g = i := fun e => hn (by rw [e])
  simp [World.setCell, Array.getElem?_modify, hp]
def posT (g : Nat) (w : World) : Nat := match w.cell? ⟨g, 1, none⟩ with | some (.int _ z) => z.toNat | _ => 0
theorem TR.pos {w : World} {g : Nat} {s : ByteArray} {at_ pl : Nat} {m nm rw : Value} (h : TR w g s at_ pl m nm rw) : posT g w = at_ := by unfold posT; rw [h.c.2.1]; simp
theorem ret_bool {a b : Bool} (h : a = b) : Ending.returned (.bool a) = .returned (.bool b) := by rw [h]

theorem isBlank_any (c : Int) (w : World) : Calls Tryd.prog 54 #[.int .u8 c] w fun e w' => e = .returned (.bool (blB c)) ∧ w' = w := by
  by_cases h1 : c = 32
  · subst h1
    go_enter Tryd.func54, Tryd.ntmps54
    go_wp2
    go_ret
    exact ⟨rfl, rfl⟩
  · have e1 : (c == 32) = false := by rw [beq_eq_false_iff_ne]; exact h1
    by_cases h2 : c = 9
    · subst h2
      go_enter Tryd.func54, Tryd.ntmps54
      go_wp2
      go_ret
      exact ⟨rfl, rfl⟩
    · have e2 : (c == 9) = false := by rw [beq_eq_false_iff_ne]; exact h2
      have e : blB c = (c == 13) := by unfold blB; rw [e1, e2]; rfl
      rw [e]
      clear e
      go_enter Tryd.func54, Tryd.ntmps54
      go_wp2
      go_ret
      exact ⟨rfl, rfl⟩
theorem isOfWord_any (c : Int) (h0 : 0 ≤ c) (w : World) : Calls Tryd.prog 56 #[.int .u8 c] w fun e w' => e = .returned (.bool (wdB c)) ∧ w' = w := by
  have K := Lib.hid (isBlank_any c w)
  have e : wdB c = (!(blB c) && c != 35 && c != 10) := by unfold wdB; rw [decide_eq_true h0]; rfl
  rw [e]
  clear e
  cases hb : blB c with
  | true =>
    rw [hb] at K
    go_enter Tryd.func56, Tryd.ntmps56
    go_wp2_with (go_at_call 54; refine K.out.mono ?_; rintro e w1 ⟨rfl, rfl⟩)
    go_ret
    exact ⟨rfl, rfl⟩
  | false =>
    rw [hb] at K
    by_cases h1 : c = 35
    · subst h1
      go_enter Tryd.func56, Tryd.ntmps56
      go_wp2_with (go_at_call 54; refine K.out.mono ?_; rintro e w1 ⟨rfl, rfl⟩)
      go_ret
      exact ⟨rfl, rfl⟩
    · have e1 : (c != 35) = true := by rw [bne_iff_ne]; exact h1
      rw [e1]
      go_enter Tryd.func56, Tryd.ntmps56
      go_wp2_with (go_at_call 54; refine K.out.mono ?_; rintro e w1 ⟨rfl, rfl⟩)
      go_ret
      exact ⟨rfl, rfl⟩
end Go.Proofs.YthkeoeobpdminaaDoor
