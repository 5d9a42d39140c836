import Derived.Test.YtccjeipkljdhdaaGreatDoorXAA
import Derived.Lib.Join
import Derived.Lib.ItoaLen
namespace Go.Proofs.YtccjeipkljdhdaaGreatDoor
open Go.RowKit
set_option linter.unusedVariables false
set_option linter.unusedSimpArgs false

def mdL : List ByteArray := [⟨#[100, 111, 119, 110]⟩, ⟨#[102, 108, 111, 111, 114]⟩, ⟨#[99, 101, 105, 108]⟩, ⟨#[104, 97, 108, 102, 95, 117, 112]⟩, ⟨#[104, 97, 108, 102, 95, 101, 118, 101, 110]⟩]
def mdA (k : Nat) : ByteArray := mdL.getD k ⟨#[]⟩
/-- A number's text. -/
def txA (v : Int) : ByteArray := ⟨(Lib.itoa v).toArray⟩
theorem i64_bd {v : Int} (h : i64 v) : -9223372036854775808 ≤ v ∧ v ≤ 9223372036854775807 := by
  unfold i64 at h
  simpa [Lit.wf, IntKind.min, IntKind.max, IntKind.bits, IntKind.signed] using h
theorem txA_len {v : Int} (h : i64 v) : (txA v).size ≤ 21 := by
  have := Lib.itoa_length_le v (i64_bd h).1 (i64_bd h).2
  simpa [txA, ByteArray.size] using this
/-- The first operand's word. -/
def fstW (ns cs : List ByteArray) (pl : List Int) (i : In) : ByteArray :=
  if i.o = 1 then txA (pl.getD i.a.toNat 0) else if i.o = 3 then ns.getD i.a.toNat ⟨#[]⟩ else if i.o = 28 then cs.getD i.a.toNat ⟨#[]⟩ else if i.o = 18 then mdA i.a.toNat else txA i.a
/-- Whether the program has it. -/
def fstB (ns cs : List ByteArray) (pl : List Int) (i : In) : Bool :=
  if i.o = 1 then decide (i.a < (pl.length : Int)) else if i.o = 3 then decide (i.a < (ns.length : Int)) else if i.o = 28 then decide (i.a < (cs.length : Int)) else true
/-- An instruction's words. -/
def wdsA (ns cs : List ByteArray) (pl : List Int) (i : In) : List ByteArray := [nmA i.o.toNat, fstW ns cs pl i, txA i.b].take (1 + onA i.o.toNat)
/-- Words with a space between each two. -/
def jnA (l : List ByteArray) : ByteArray := ⟨(Lib.join (l.map (·.data.toList)) [32]).toArray⟩
/-- What is printed of an instruction. -/
def prE (ns cs : List ByteArray) (pl : List Int) (i : In) : Int := if i.okP then (if fstB ns cs pl i = true then 0 else 2) else 111
def prT (ns cs : List ByteArray) (pl : List Int) (i : In) : ByteArray := if i.okP then (if fstB ns cs pl i = true then jnA (wdsA ns cs pl i) else ⟨#[]⟩) else ⟨#[]⟩
theorem md_some : ∀ k, k < 5 → (mdA k).size ≤ 9 := by
  intro k hk
  match k, hk with
  | 0, _ => decide
  | 1, _ => decide
  | 2, _ => decide
  | 3, _ => decide
  | 4, _ => decide
theorem nm_size : ∀ k, k < 29 → (nmA k).size ≤ 5 := by
  have h : ∀ k, k < 29 → (nmA k).data.toList.length ≤ 5 := all29 (by decide)
  intro k hk
  have := h k hk
  rw [Array.length_toList] at this
  exact this
end Go.Proofs.YtccjeipkljdhdaaGreatDoor
