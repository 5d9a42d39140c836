import Derived.Test.YtccjeipkljdhdaaGreatDoorXAA
import Derived.Test.YtccjeipkljdhdaaGreatDoorRows
import Derived.WalkKit
import Derived.Laws.RangeAny
import Derived.Lib.Join
import Derived.Lib.ItoaLen
import Derived.Laws.BitsAllLaws
import Derived.WalkSpells
import Derived.Lib.Mul64
namespace Go.Proofs.YtccjeipkljdhdaaGreatDoor
open Go.ChangeShapes Go.WideShapes Go.ChangeAt Go.RowKit Go.Deep
set_option linter.unusedVariables false

theorem bulkT_one {H : Type} (d : DataW H) : 1 ≤ Rows.uptoBulk d := by
  cases d with
  | lit l => cases l <;> simp [Rows.uptoBulk]
  | nil => simp [Rows.uptoBulk]
  | ptr d => simp [Rows.uptoBulk]
  | slice elems spare => simp [Rows.uptoBulk]
  | agg parts => simp [Rows.uptoBulk]
  | iface t d => simp [Rows.uptoBulk]
  | map entries => simp [Rows.uptoBulk]
  | held h => simp [Rows.uptoBulk]
theorem bulkT_len {H : Type} (l : List (DataW H)) : l.length ≤ Rows.uptoBulkAll l := by
  induction l with
  | nil => simp [Rows.uptoBulkAll]
  | cons x r ih => have := bulkT_one x; simp only [Rows.uptoBulkAll, List.length_cons]; omega
section
variable {H : Type} {enc : TypeId × Value → H} {P : Program} {W : World} {base : Nat} {sp : Nat → Bool} {held : Bool}
theorem open_textsUp (T : PT P) {fuel : Nat} {a : Option Addr} {len cap : Nat} {x : DataW H × List MemPlace}
    (h : DataW.trod enc P W base sp held fuel T.SS [.slice a len cap] = some x) (hz : ∀ n ∈ x.1.weights P T.SS, n ≤ reachBytes) (hk : Rows.uptoBulk x.1 ≤ 1048576) : ∃ zs, SR W a len cap zs ∧ len ≤ 1048576 := by
  have lb : len ≤ 1048576 := by
    rcases DataW.trod_slice T.hSS h with ⟨h0, _⟩ | ⟨y, l, c, elems, rest, n, hn, h0, hx1, hb, hl, hm, hlen, _⟩
    · simp at h0; omega
    · simp at h0
      obtain ⟨_, rfl, _⟩ := h0
      rw [hx1] at hk
      simp only [Rows.uptoBulk] at hk
      have := bulkT_len (elems.map (·.1))
      simp at this
      omega
  obtain ⟨a', cap', l, e, r⟩ := rd_texts T ⟨x, h, hz⟩
  simp at e
  obtain ⟨rfl, rfl, rfl⟩ := e
  exact ⟨l, r, lb⟩
end
end Go.Proofs.YtccjeipkljdhdaaGreatDoor

namespace Go.Proofs.YtccjeipkljdhdaaGreatDoor
open Go.RowKit
set_option linter.unusedVariables false
set_option linter.unusedSimpArgs false

/-- The byte at a place; -1 behind the end. -/
def yb (s : ByteArray) (i : Nat) : Int := if h : i < s.size then (s[i].toNat : Int) else -1
theorem yb_lt {s : ByteArray} {i : Nat} (h : i < s.size) : yb s i = (s[i].toNat : Int) := by unfold yb; rw [dif_pos h]
/-- The first place from i on where p no longer holds. -/
def fy (p : Int → Bool) (s : ByteArray) (i : Nat) : Nat :=
  if h : i < s.size ∧ p (yb s i) = true then fy p s (i + 1) else i
termination_by s.size - i
decreasing_by omega
theorem fy_go {p : Int → Bool} {s : ByteArray} {i : Nat} (h : i < s.size) (hp : p (yb s i) = true) : fy p s i = fy p s (i + 1) := by
  rw [fy, dif_pos ⟨h, hp⟩]
theorem fy_stop {p : Int → Bool} {s : ByteArray} {i : Nat} (h : ¬ (i < s.size ∧ p (yb s i) = true)) : fy p s i = i := by
  rw [fy, dif_neg h]
theorem fy_all (p : Int → Bool) (s : ByteArray) : ∀ (n i : Nat), s.size - i = n → i ≤ fy p s i ∧ (i ≤ s.size → fy p s i ≤ s.size) ∧ ¬ (fy p s i < s.size ∧ p (yb s (fy p s i)) = true)
  | 0, i, hn => by
    have e : fy p s i = i := fy_stop (fun h => by omega)
    rw [e]
    exact ⟨Nat.le_refl _, fun h => h, fun h => by omega⟩
  | n + 1, i, hn => by
    by_cases h : i < s.size ∧ p (yb s i) = true
    · obtain ⟨a, b, d⟩ := fy_all p s n (i + 1) (by omega)
      rw [fy_go h.1 h.2]
      exact ⟨by omega, fun _ => b (by omega), d⟩
    · rw [fy_stop h]
      exact ⟨Nat.le_refl _, fun h => h, h⟩
theorem fy_ge (p : Int → Bool) (s : ByteArray) (i : Nat) : i ≤ fy p s i := (fy_all p s _ i rfl).1
theorem fy_le {p : Int → Bool} {s : ByteArray} {i : Nat} (h : i ≤ s.size) : fy p s i ≤ s.size := (fy_all p s _ i rfl).2.1 h
theorem fy_out (p : Int → Bool) (s : ByteArray) (i : Nat) : ¬ (fy p s i < s.size ∧ p (yb s (fy p s i)) = true) := (fy_all p s _ i rfl).2.2
theorem fy_run {p : Int → Bool} {s : ByteArray} {i : Nat} : ∀ k : Nat, (∀ j, j < k → i + j < s.size ∧ p (yb s (i + j)) = true) → fy p s i = fy p s (i + k)
  | 0, _ => rfl
  | k + 1, h => by
    rw [fy_run k (fun j hj => h j (by omega))]
    exact fy_go (h k (by omega)).1 (h k (by omega)).2
/-- A blank; a byte of a word. -/
def bkA (c : Int) : Bool := c == 32 || c == 9 || c == 13
def wrA (c : Int) : Bool := decide (0 ≤ c) && !bkA c && c != 59
/-- A line's words from a place on. -/
def wdsL (s : ByteArray) (i : Nat) : List ByteArray :=
  if h : fy bkA s i < s.size ∧ wrA (yb s (fy bkA s i)) = true then s.extract (fy bkA s i) (fy wrA s (fy bkA s i)) :: wdsL s (fy wrA s (fy bkA s i)) else []
termination_by s.size - i
decreasing_by
  have a := fy_ge bkA s i
  have b := fy_go h.1 h.2
  have c := fy_ge wrA s (fy bkA s i + 1)
  omega
theorem wrA_bk {c : Int} (h : wrA c = true) : bkA c = false := by
  unfold wrA at h
  simp only [Bool.and_eq_true, Bool.not_eq_true'] at h
  exact h.1.2
theorem wdsL_word {s : ByteArray} {i : Nat} (h : i < s.size) (hw : wrA (yb s i) = true) : wdsL s i = s.extract i (fy wrA s i) :: wdsL s (fy wrA s i) := by
  have e : fy bkA s i = i := fy_stop (fun q => by rw [wrA_bk hw] at q; exact absurd q.2 (by decide))
  rw [wdsL, e, dif_pos ⟨h, hw⟩]
theorem wdsL_blank {s : ByteArray} {i : Nat} (h : i < s.size) (hb : bkA (yb s i) = true) : wdsL s i = wdsL s (i + 1) := by
  rw [wdsL, wdsL.eq_def s (i + 1), fy_go h hb]
theorem wdsL_end {s : ByteArray} {i : Nat} (h : ¬ i < s.size) : wdsL s i = [] := by
  have e : fy bkA s i = i := fy_stop (fun q => h q.1)
  rw [wdsL, e, dif_neg (fun q => h q.1)]
theorem wdsL_rem {s : ByteArray} {i : Nat} (h : yb s i = 59) : wdsL s i = [] := by
  have e : fy bkA s i = i := fy_stop (fun q => by rw [h] at q; exact absurd q.2 (by decide))
  rw [wdsL, e, dif_neg (fun q => by rw [h] at q; exact absurd q.2 (by decide))]
/-- A rune and the bytes that it takes. -/
theorem get_bang {s : ByteArray} {i : Nat} (h : i < s.size) : s.get! i = s[i] := by
  show s.data[i]! = s.data[i]
  exact getElem!_pos s.data i h
theorem rune_high {s : ByteArray} {i : Nat} (h : i < s.size) (ha : 128 ≤ (s[i]'h).toNat) : ∀ j, j < (Utf8.decode s i).2 → i + j < s.size ∧ 128 ≤ yb s (i + j) := by
  have g0 := get_bang h
  have key : ∀ k, i + k < s.size → (s.get! (i + k)).toNat / 64 = 2 → 128 ≤ yb s (i + k) := fun k hk e => by
    rw [yb_lt hk, ← get_bang hk]; omega
  have b0 : 128 ≤ yb s (i + 0) := by rw [Nat.add_zero, yb_lt h]; omega
  have hn : ¬ (s.get! (i + 0)).toNat < 128 := by rw [Nat.add_zero, g0]; omega
  intro j hj
  simp only [Utf8.decode] at hj
  rw [if_neg hn] at hj
  have one : j = 0 → i + j < s.size ∧ 128 ≤ yb s (i + j) := fun e => by subst e; exact ⟨by omega, b0⟩
  split at hj
  · rename_i c
    simp only [Bool.and_eq_true, decide_eq_true_eq, beq_iff_eq] at c
    have hj2 : j < 2 := by
      split at hj <;> simp only at hj <;> omega
    match j, hj2 with
    | 0, _ => exact one rfl
    | 1, _ => exact ⟨c.2.1, key 1 c.2.1 c.2.2⟩
  · split at hj
    · rename_i c
      simp only [Bool.and_eq_true, decide_eq_true_eq, beq_iff_eq] at c
      have hj2 : j < 3 := by
        split at hj <;> simp only at hj <;> omega
      match j, hj2 with
      | 0, _ => exact one rfl
      | 1, _ => exact ⟨c.1.2.1, key 1 c.1.2.1 c.1.2.2⟩
      | 2, _ => exact ⟨c.2.1, key 2 c.2.1 c.2.2⟩
    · split at hj
      · rename_i c
        simp only [Bool.and_eq_true, decide_eq_true_eq, beq_iff_eq] at c
        have hj2 : j < 4 := by
          split at hj <;> simp only at hj <;> omega
        match j, hj2 with
        | 0, _ => exact one rfl
        | 1, _ => exact ⟨c.1.1.2.1, key 1 c.1.1.2.1 c.1.1.2.2⟩
        | 2, _ => exact ⟨c.1.2.1, key 2 c.1.2.1 c.1.2.2⟩
        | 3, _ => exact ⟨c.2.1, key 3 c.2.1 c.2.2⟩
      · simp only at hj
        exact one (by omega)
/-- What a rune says of the words: the rune, its width. -/
inductive RuneAt (s : ByteArray) (i : Nat) : Int → Nat → Prop
  | word {c : Int} {k : Nat} (h : ∀ j, j < k → i + j < s.size ∧ wrA (yb s (i + j)) = true) (k0 : 0 < k) (hc : c ≠ 32 ∧ c ≠ 9 ∧ c ≠ 13 ∧ c ≠ 59) : RuneAt s i c k
  | blank {c : Int} (h : bkA (yb s i) = true) (hc : c = 32 ∨ c = 9 ∨ c = 13) : RuneAt s i c 1
  | rem (h : yb s i = 59) : RuneAt s i 59 1
theorem rune_at {s : ByteArray} {i : Nat} (h : i < s.size) : RuneAt s i ((Utf8.decode s i).1 : Int) (Utf8.decode s i).2 := by
  by_cases ha : (s[i]'h).toNat < 128
  · rw [decode_ascii s i h ha]
    have y := yb_lt h
    simp only
    by_cases b : bkA (yb s i) = true
    · refine .blank b ?_
      unfold bkA at b
      simp only [Bool.or_eq_true, beq_iff_eq] at b
      omega
    · by_cases r : yb s i = 59
      · have : ((s[i].toNat : Nat) : Int) = 59 := by omega
        rw [this]
        exact .rem r
      · have b' : ¬ (yb s i = 32 ∨ yb s i = 9 ∨ yb s i = 13) := fun q => b (by unfold bkA; simp only [Bool.or_eq_true, beq_iff_eq]; omega)
        refine .word (fun j hj => ?_) (by omega) (by omega)
        obtain rfl : j = 0 := by omega
        refine ⟨h, ?_⟩
        rw [Nat.add_zero]
        unfold wrA
        rw [Bool.eq_false_iff.2 b]
        simp [r]
        omega
  · have hd := decode_high s i h (by omega)
    refine .word (fun j hj => ?_) (by omega) (by omega)
    obtain ⟨h1, h2⟩ := rune_high h (by omega) j hj
    refine ⟨h1, ?_⟩
    unfold wrA bkA
    simp
    omega
end Go.Proofs.YtccjeipkljdhdaaGreatDoor

namespace Go.Proofs.YtccjeipkljdhdaaGreatDoor
open Go.RowKit
set_option linter.unusedVariables false
set_option linter.unusedSimpArgs false

def mdL : List ByteArray := [⟨#[100, 111, 119, 110]⟩, ⟨#[102, 108, 111, 111, 114]⟩, ⟨#[99, 101, 105, 108]⟩, ⟨#[104, 97, 108, 102, 95, 117, 112]⟩, ⟨#[104, 97, 108, 102, 95, 101, 118, 101, 110]⟩]
def mdA (k : Nat) : ByteArray := mdL.getD k ⟨#[]⟩
end Go.Proofs.YtccjeipkljdhdaaGreatDoor

namespace Go.Proofs.YtccjeipkljdhdaaGreatDoor
open Go.RowKit

/-- A fact, kept out of the walk's sight. -/
theorem veil {p : Prop} (h : p) : Hid p := h
theorem unveil {p : Prop} (h : Hid p) : p := h

/-- A number of 64 bits. -/
def inR (n : Int) : Prop := -9223372036854775808 ≤ n ∧ n ≤ 9223372036854775807
end Go.Proofs.YtccjeipkljdhdaaGreatDoor

namespace Go.Proofs.YtccjeipkljdhdaaGreatDoor
open Go.RowKit

/-- A number without its sign. -/
def absI (a : Int) : Int := if a < 0 then -a else a
theorem absI_neg {a : Int} (h : a < 0) : absI a = -a := by unfold absI; rw [if_pos h]
theorem absI_pos {a : Int} (h : ¬ a < 0) : absI a = a := by unfold absI; rw [if_neg h]
theorem absI_bd (a : Int) (h : inR a) : 0 ≤ absI a ∧ absI a ≤ 9223372036854775808 := by
  unfold inR at h; unfold absI; split <;> omega
theorem absI_nonneg (a : Int) : 0 ≤ absI a := by unfold absI; split <;> omega
end Go.Proofs.YtccjeipkljdhdaaGreatDoor

namespace Go.Proofs.YtccjeipkljdhdaaGreatDoor
open Go.RowKit

end Go.Proofs.YtccjeipkljdhdaaGreatDoor

namespace Go.Proofs.YtccjeipkljdhdaaGreatDoor
open Go.RowKit

theorem ret_i {k : IntKind} {a b : Int} (h : a = b) : Ending.returned (.int k a) = .returned (.int k b) := by rw [h]
theorem neg_u64 (a : Int) (h : a < 0) (h1 : -9223372036854775808 ≤ a) : IntKind.u64.wrap (-IntKind.u64.wrap a) = -a := by
  rw [IntKind.wrap_u64, IntKind.wrap_u64]; omega
theorem sizeOf_any (a : Int) (ha : inR a) (w : World) :
    Calls Tryz.prog 125 #[.int .i64 a] w fun e w' => e = .returned (.int .u64 (absI a)) ∧ w' = w := by
  unfold inR at ha
  obtain ⟨h1, h2⟩ := ha
  by_cases h : a < 0
  · rw [absI_neg h]
    go_enter Tryz.func125, Tryz.ntmps125
    go_wp2
    go_ret
    exact ⟨ret_i (neg_u64 a h h1), rfl⟩
  · rw [absI_pos h]
    go_enter Tryz.func125, Tryz.ntmps125
    go_wp2
    go_ret
    exact ⟨rfl, rfl⟩

end Go.Proofs.YtccjeipkljdhdaaGreatDoor
