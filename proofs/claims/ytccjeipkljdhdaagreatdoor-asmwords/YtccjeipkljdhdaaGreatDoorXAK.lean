import Derived.Test.YtccjeipkljdhdaaGreatDoorXAB
import Derived.ProofKit
import Derived.Lib.AtoiAll
import Derived.Test.YtccjeipkljdhdaaGreatDoorRows
import Derived.Below
import Derived.BigCall
import Derived.BigGuard
import Derived.BigQuiet
import Derived.Deep.QuietTactic
import Derived.WalkKit
import Derived.WalkSpells
import Derived.Lib.Hide
import Derived.Lib.SmallJoins
import Derived.RangeFuncRecord
import Derived.Maps.OwnSet
import Derived.Laws.AppendOwn
import Derived.Laws.AppendOwnNone
import Derived.Laws.OwnMore
import Derived.Maps.AppendAt
import Derived.OpenShut
namespace Go.Proofs.YtccjeipkljdhdaaGreatDoor
open Go.RowKit
set_option linter.unusedVariables false
set_option linter.unusedSimpArgs false
theorem box_all8 {w : World} {x : Nat} {a b c d e f g h : Value} {t : TypeId} (k : w.heap[x]? = some (.cells #[a, b, c, d, e, f, g, h] t)) : w.cell? ⟨x, 0, none⟩ = some a ∧ w.cell? ⟨x, 1, none⟩ = some b ∧ w.cell? ⟨x, 2, none⟩ = some c ∧ w.cell? ⟨x, 3, none⟩ = some d ∧ w.cell? ⟨x, 4, none⟩ = some e ∧ w.cell? ⟨x, 5, none⟩ = some f ∧ w.cell? ⟨x, 6, none⟩ = some g ∧ w.cell? ⟨x, 7, none⟩ = some h := by
  refine ⟨?_, ?_, ?_, ?_, ?_, ?_, ?_, ?_⟩ <;> simp [World.cell?, k]
end Go.Proofs.YtccjeipkljdhdaaGreatDoor

namespace Go.Proofs.YtccjeipkljdhdaaGreatDoor
open Go.RowKit
set_option linter.unusedVariables false
set_option linter.unusedSimpArgs false
end Go.Proofs.YtccjeipkljdhdaaGreatDoor

namespace Go.Proofs.YtccjeipkljdhdaaGreatDoor
open Go.RowKit
set_option linter.unusedVariables false
set_option linter.unusedSimpArgs false
theorem own_cellsP {W : World} {B g k m c : Nat} {T : TypeId} {n : Nat} {xs : List Value} (h : W.ownsRow B T k (.slice (some ⟨g, 0, none⟩) m c) n xs) (j : Nat) (u : Value) (hj : xs[j]? = some u) : W.cell? ⟨g, j, none⟩ = some u := by
  have := h.cells (g := g) rfl j u hj
  rw [Go.Addr.add_lit, Nat.zero_add] at this
  exact this
theorem intsP_at (l : List Int) (m : List Value) (i : Nat) (h : i < l.length) : (intsP l ++ m)[i]? = some (.int .i64 (l.getD i 0)) := by
  rw [List.getElem?_append_left (by simpa [intsP] using h)]
  simp [intsP, List.getD, h]
end Go.Proofs.YtccjeipkljdhdaaGreatDoor

namespace Go.Proofs.YtccjeipkljdhdaaGreatDoor.Cal

/-- 1 in a leap year, else 0. -/
def lp (y : Int) : Int := if y % 4 = 0 ∧ (¬ y % 100 = 0 ∨ y % 400 = 0) then 1 else 0
/-- A month's length (1 to 12). -/
def len (y m : Int) : Int := if m = 2 then 28 + lp y else if m = 4 ∨ m = 6 ∨ m = 9 ∨ m = 11 then 30 else 31
/-- The number of a year's first day. -/
def ys (y : Int) : Int := 365 * (y - 1900) + ((y - 1) / 4 - (y - 1) / 100 + (y - 1) / 400) - 460
/-- The days of a year ahead of a month. -/
def cum (y m : Int) : Int :=
  if m ≤ 1 then 0 else if m = 2 then 31 else (if m = 3 then 59 else if m = 4 then 90 else if m = 5 then 120 else if m = 6 then 151 else if m = 7 then 181 else if m = 8 then 212
    else if m = 9 then 243 else if m = 10 then 273 else if m = 11 then 304 else if m = 12 then 334 else 365) + lp y
def num (y m d : Int) : Int := ys y + cum y m + d - 1

end Go.Proofs.YtccjeipkljdhdaaGreatDoor.Cal

namespace Go.Proofs.YtccjeipkljdhdaaGreatDoor
namespace Lx
set_option linter.unusedVariables false
set_option linter.unusedSimpArgs false

abbrev L := List UInt8
def smN (c : Nat) : Bool := decide (97 ≤ c) && decide (c ≤ 122)
def cpN (c : Nat) : Bool := decide (65 ≤ c) && decide (c ≤ 90)
def dgN (c : Nat) : Bool := decide (48 ≤ c) && decide (c ≤ 57)
def rnN (c : Nat) : Bool := smN c || cpN c || dgN c || decide (c = 95)
def fitN (c f : Nat) : Bool := if f = 48 then dgN c else decide (c = f)
def form : List Nat := [48, 48, 48, 48, 45, 48, 48, 45, 48, 48]
/-- Begins with the form, and then no byte of a run. -/
def fits : List Nat → L → Bool
  | [], [] => true
  | [], c :: _ => !rnN c.toNat
  | _ :: _, [] => false
  | f :: fs, c :: r => fitN c.toNat f && fits fs r
def run (r : L) : L := r.takeWhile (fun c => rnN c.toNat)
structure Tok where
  k : Int
  t : L
  a : Int
  num : Int
  y : Int
  m : Int
  d : Int
  n : Int
  u : Int
  deriving DecidableEq
/-- A name's byte. -/
def nmN (p : Nat → Bool) (c : Nat) : Bool := p c || dgN c || decide (c = 95)
def nameI (p : Nat → Bool) (r : L) : Nat := (r.takeWhile (fun c => nmN p c.toNat)).length
def nameE (p : Nat → Bool) (r : L) : Nat × Int := if nameI p r < r.length then (nameI p r, 61) else if 31 < r.length then (0, 6) else (0, 0)
end Lx
end Go.Proofs.YtccjeipkljdhdaaGreatDoor

namespace Go.Proofs.YtccjeipkljdhdaaGreatDoor
open Go.RowKit Lx
set_option linter.unusedVariables false
set_option linter.unusedSimpArgs false

theorem cpN_no1 {c : Nat} (h : ¬ 65 ≤ c) : cpN c = false := by unfold cpN; rw [decide_eq_false h]; rfl
theorem cpN_at {c : Nat} (h : 65 ≤ c) : cpN c = decide (c ≤ 90) := by unfold cpN; rw [decide_eq_true h]; rfl
theorem isCapital_any (c : Nat) (w : World) : Calls Tryz.prog 105 #[.int .u8 (c : Int)] w fun e w' => e = .returned (.bool (cpN c)) ∧ w' = w := by
  by_cases h1 : 65 ≤ c
  · have h1' : (65 : Int) ≤ (c : Int) := by omega
    by_cases h2 : c ≤ 90
    · have h2' : (c : Int) ≤ 90 := by omega
      rw [cpN_at h1, decide_eq_true h2]
      clear h1 h2
      go_enter Tryz.func105, Tryz.ntmps105
      go_wp2
      go_ret
      exact ⟨rfl, rfl⟩
    · have h2' : ¬ (c : Int) ≤ 90 := by omega
      rw [cpN_at h1, decide_eq_false h2]
      clear h1 h2
      go_enter Tryz.func105, Tryz.ntmps105
      go_wp2
      go_ret
      exact ⟨rfl, rfl⟩
  · have h1' : decide ((65 : Int) ≤ (c : Int)) = false := decide_eq_false (by omega)
    rw [cpN_no1 h1]
    clear h1
    go_enter Tryz.func105, Tryz.ntmps105
    go_wp2
    go_ret
    exact ⟨rfl, rfl⟩
theorem dgN_no1 {c : Nat} (h : ¬ 48 ≤ c) : dgN c = false := by unfold dgN; rw [decide_eq_false h]; rfl
theorem dgN_at {c : Nat} (h : 48 ≤ c) : dgN c = decide (c ≤ 57) := by unfold dgN; rw [decide_eq_true h]; rfl
theorem isDigit_any (c : Nat) (w : World) : Calls Tryz.prog 135 #[.int .u8 (c : Int)] w fun e w' => e = .returned (.bool (dgN c)) ∧ w' = w := by
  by_cases h1 : 48 ≤ c
  · have h1' : (48 : Int) ≤ (c : Int) := by omega
    by_cases h2 : c ≤ 57
    · have h2' : (c : Int) ≤ 57 := by omega
      rw [dgN_at h1, decide_eq_true h2]
      clear h1 h2
      go_enter Tryz.func135, Tryz.ntmps135
      go_wp2
      go_ret
      exact ⟨rfl, rfl⟩
    · have h2' : ¬ (c : Int) ≤ 57 := by omega
      rw [dgN_at h1, decide_eq_false h2]
      clear h1 h2
      go_enter Tryz.func135, Tryz.ntmps135
      go_wp2
      go_ret
      exact ⟨rfl, rfl⟩
  · have h1' : decide ((48 : Int) ≤ (c : Int)) = false := decide_eq_false (by omega)
    rw [dgN_no1 h1]
    clear h1
    go_enter Tryz.func135, Tryz.ntmps135
    go_wp2
    go_ret
    exact ⟨rfl, rfl⟩
end Go.Proofs.YtccjeipkljdhdaaGreatDoor

namespace Go.Proofs.YtccjeipkljdhdaaGreatDoor
namespace Lx
set_option linter.unusedVariables false
set_option linter.unusedSimpArgs false

def nthN (r : L) (i : Nat) : Nat := (r.getD i 0).toNat
/-- A run does not go on over the place k. -/
def Bd (r : L) (k : Nat) : Prop := k < r.length → 0 < k → rnN (nthN r (k - 1)) = true → rnN (nthN r k) = false
theorem Bd.drop {r : L} {n k : Nat} (h : Bd (r.drop n) k) (hk : 0 < k) : Bd r (n + k) := by
  intro h1 h2 h3
  have e : ∀ i, nthN (r.drop n) i = nthN r (n + i) := fun i => by simp [nthN, List.getD]
  have := h (by rw [List.length_drop]; omega) hk (by rw [e, show n + (k - 1) = n + k - 1 by omega]; exact h3)
  rwa [e] at this
end Lx
end Go.Proofs.YtccjeipkljdhdaaGreatDoor

namespace Go.Proofs.YtccjeipkljdhdaaGreatDoor
open Go.RowKit Lx
set_option linter.unusedVariables false
set_option linter.unusedSimpArgs false

def lst (s : ByteArray) : L := s.data.toList
def bs (l : L) : ByteArray := ⟨l.toArray⟩
theorem lst_len (s : ByteArray) : (lst s).length = s.size := by
  show s.data.toList.length = s.size
  rw [Array.length_toList]; rfl
theorem nth_lst {s : ByteArray} {k : Nat} (h : k < s.size) : nthN (lst s) k = s[k].toNat := by
  have h' : k < s.data.toList.length := by rw [Array.length_toList]; exact h
  have : (lst s).getD k 0 = s[k] := by
    unfold lst
    rw [List.getD_eq_getElem?_getD, List.getElem?_eq_getElem h', Option.getD_some]
    rfl
  unfold nthN; rw [this]
theorem takeW_at (p : UInt8 → Bool) : ∀ (l : L) (k : Nat), (∀ i, i < k → p (l.getD i 0) = true) → k ≤ l.length → (k < l.length → p (l.getD k 0) = false) → l.takeWhile p = l.take k
  | [], k, _, _, _ => by simp
  | c :: l, 0, _, _, h => by have := h (by simp); simp at this; simp [this]
  | c :: l, k + 1, h1, h2, h3 => by
    have h0 := h1 0 (by omega)
    simp at h0
    simp only [List.takeWhile_cons, h0, if_true, List.take_succ_cons]
    rw [takeW_at p l k (fun i hi => by simpa using h1 (i + 1) (by omega)) (by simpa using h2) (fun hk => by simpa using h3 (by simpa using hk))]
theorem nameI_at {p : Nat → Bool} {l : L} {k : Nat} (h : ∀ i, i < k → nmN p (nthN l i) = true) (hk : k ≤ l.length) (he : k < l.length → nmN p (nthN l k) = false) : nameI p l = k := by
  unfold nameI
  rw [takeW_at (fun c => nmN p c.toNat) l k h hk he, List.length_take]
  omega
def intV (t : Value) : Nat := match t with | .int _ z => z.toNat | _ => 0

end Go.Proofs.YtccjeipkljdhdaaGreatDoor

namespace Go.Proofs.YtccjeipkljdhdaaGreatDoor
open Go.RowKit Lx
set_option linter.unusedVariables false
set_option linter.unusedSimpArgs false

/-- A box of a token, anywhere. -/
structure RB (w : World) (g : Nat) (a0 a1 a2 a3 a4 a5 a6 a7 a8 : Value) : Prop where
  hb : w.heap[g]? = some (.cells #[a0, a1, a2, a3, a4, a5, a6, a7, a8] 159)
theorem RB.c {w : World} {g : Nat} {a0 a1 a2 a3 a4 a5 a6 a7 a8 : Value} (h : RB w g a0 a1 a2 a3 a4 a5 a6 a7 a8) :
    w.cell? ⟨g, 0, none⟩ = some a0 ∧ w.cell? ⟨g, 1, none⟩ = some a1 ∧ w.cell? ⟨g, 2, none⟩ = some a2 ∧ w.cell? ⟨g, 3, none⟩ = some a3 ∧ w.cell? ⟨g, 4, none⟩ = some a4 ∧ w.cell? ⟨g, 5, none⟩ = some a5 ∧ w.cell? ⟨g, 6, none⟩ = some a6 ∧ w.cell? ⟨g, 7, none⟩ = some a7 ∧ w.cell? ⟨g, 8, none⟩ = some a8 ∧ ∀ i, w.frozen? ⟨g, i, none⟩ = false := by
  refine ⟨?_, ?_, ?_, ?_, ?_, ?_, ?_, ?_, ?_, fun i => Joins.unfrozen_of_block h.hb i⟩ <;> simp [World.cell?, h.hb]
end Go.Proofs.YtccjeipkljdhdaaGreatDoor

namespace Go.Proofs.YtccjeipkljdhdaaGreatDoor
namespace Lx
set_option linter.unusedVariables false
set_option linter.unusedSimpArgs false

end Lx
end Go.Proofs.YtccjeipkljdhdaaGreatDoor

namespace Go.Proofs.YtccjeipkljdhdaaGreatDoor
namespace Lx
set_option linter.unusedVariables false
set_option linter.unusedSimpArgs false

def nameB (p : Nat → Bool) (l : L) : Bool := !l.isEmpty && p (l.headD 0).toNat && decide ((nameE p l).2 = 0)
def curB : L → Bool
  | [a, b, c] => cpN a.toNat && cpN b.toNat && cpN c.toNat
  | _ => false
def z1 (t : Tok) : Tok := { t with a := 0 }
end Lx
end Go.Proofs.YtccjeipkljdhdaaGreatDoor

namespace Go.Proofs.YtccjeipkljdhdaaGreatDoor
open Go.RowKit Lx
set_option linter.unusedVariables false
set_option linter.unusedSimpArgs false

set_option maxHeartbeats 1000000 in
theorem nameErrorM_capital (s : ByteArray) (w : World) (hs : s.size ≤ 9223372036854775807) :
    Calls Tryz.prog 121 #[.string s, .func (.func 105) #[] #[]] w fun e w' => e = .returned (.tuple #[.int .i64 ((nameE cpN (lst s)).1 : Nat), .int .i64 (nameE cpN (lst s)).2]) ∧ w' = w := by
  obtain ⟨A, hA⟩ : ∃ A, nameE cpN (lst s) = A := ⟨_, rfl⟩
  have HO := Lib.hid (p := ∀ k, (∀ i, i < k → nmN cpN (nthN (lst s) i) = true) → k < s.size → nmN cpN (nthN (lst s) k) = false → A = (k, 61)) (fun k a b c => by
    rw [← hA]; unfold nameE
    rw [nameI_at a (by rw [lst_len]; omega) (fun _ => c), if_pos (by rw [lst_len]; exact b)])
  have HE := Lib.hid (p := (∀ i, i < s.size → nmN cpN (nthN (lst s) i) = true) → A = if 31 < s.size then (0, 6) else (0, 0)) (fun a => by
    rw [← hA]; unfold nameE
    rw [nameI_at a (by rw [lst_len]; omega) (fun h => by rw [lst_len] at h; omega), if_neg (by rw [lst_len]; omega), lst_len])
  rw [hA]
  clear hA
  go_enter Tryz.func121, Tryz.ntmps121
  go_wp2
  go_loop [10] (fun t => ∃ k : Nat, k ≤ s.size ∧ t = .int .i64 k ∧ RowKit.Hid (∀ i, i < k → nmN cpN (nthN (lst s) i) = true)) (fun t => s.size - intV t)
  case atStart => exact ⟨0, by omega, rfl, fun i hi => absurd hi (by omega)⟩
  case round =>
    obtain ⟨k, hk, rfl, hN⟩ := hrel
    by_cases hlt : k < s.size
    · have kc : (k : Int) < (s.size : Int) := by omega
      have E := nth_lst hlt
      have KL := Lib.hid (fun W => isCapital_any (s[k].toNat) W)
      have KD := Lib.hid (fun W => isDigit_any (s[k].toNat) W)
      have kw : IntKind.i64.wrap ((k : Int) + 1) = (k : Int) + 1 := by simp [IntKind.wrap, IntKind.bits, IntKind.signed]; omega
      have ME := Lib.hid (p := s.size - intV (.int .i64 ((k : Int) + 1)) < s.size - intV (.int .i64 (k : Int))) (by simp only [intV]; omega)
      have NX := Lib.hid (p := nmN cpN (s[k].toNat) = true → ∀ i, i < k + 1 → nmN cpN (nthN (lst s) i) = true) (fun g i hi => by
        rcases (show i < k ∨ i = k by omega) with q | q
        · exact hN.out i q
        · rw [q, E]; exact g)
      have NO := Lib.hid (p := nmN cpN (s[k].toNat) = false → A = (k, 61)) (fun g => HO.out k hN.out hlt (by rw [E]; exact g))
      clear hN E
      cases h1 : cpN (s[k].toNat) with
      | true =>
        rw [h1] at KL
        have Y := Lib.hid (NX.out (by unfold nmN; rw [h1]; rfl))
        clear h1
        go_wp2_with (go_at_call 105; refine (KL.out _).mono ?_; rintro e w1 ⟨rfl, rfl⟩)
        go_round
        case rel => exact ⟨k + 1, by omega, by simp, Y.out⟩
        case measure => exact ME.out
      | false =>
        rw [h1] at KL
        cases h2 : dgN (s[k].toNat) with
        | true =>
          rw [h2] at KD
          have Y := Lib.hid (NX.out (by unfold nmN; rw [h1, h2]; rfl))
          clear h1 h2
          go_wp2_with (first
            | (go_at_call 105; refine (KL.out _).mono ?_; rintro e w1 ⟨rfl, rfl⟩)
            | (go_at_call 135; refine (KD.out _).mono ?_; rintro e w1 ⟨rfl, rfl⟩))
          go_round
          case rel => exact ⟨k + 1, by omega, by simp, Y.out⟩
          case measure => exact ME.out
        | false =>
          rw [h2] at KD
          by_cases h3 : s[k].toNat = 95
          · have Y := Lib.hid (NX.out (by unfold nmN; rw [h1, h2, decide_eq_true h3]; rfl))
            have h3' : ((s[k].toNat : Int) != 95) = false := by rw [h3]; rfl
            clear h1 h2 h3
            go_wp2_with (first
              | (go_at_call 105; refine (KL.out _).mono ?_; rintro e w1 ⟨rfl, rfl⟩)
              | (go_at_call 135; refine (KD.out _).mono ?_; rintro e w1 ⟨rfl, rfl⟩))
            go_round
            case rel => exact ⟨k + 1, by omega, by simp, Y.out⟩
            case measure => exact ME.out
          · have Y := Lib.hid (NO.out (by unfold nmN; rw [h1, h2, decide_eq_false h3]; rfl))
            have h3' : ((s[k].toNat : Int) != 95) = true := by rw [bne_iff_ne]; omega
            clear h1 h2 h3
            go_wp2_with (first
              | (go_at_call 105; refine (KL.out _).mono ?_; rintro e w1 ⟨rfl, rfl⟩)
              | (go_at_call 135; refine (KD.out _).mono ?_; rintro e w1 ⟨rfl, rfl⟩))
            go_ret2
            rw [Y.out]
            exact ⟨rfl, rfl⟩
    · obtain rfl : k = s.size := by omega
      have Y := Lib.hid (HE.out hN.out)
      clear hN
      by_cases h31 : 31 < s.size
      · have h31' : (31 : Int) < (s.size : Int) := by omega
        rw [if_pos h31] at Y
        go_wp2
        go_ret2
        rw [Y.out]
        exact ⟨rfl, rfl⟩
      · have h31' : ¬ (31 : Int) < (s.size : Int) := by omega
        rw [if_neg h31] at Y
        go_wp2
        go_ret2
        rw [Y.out]
        exact ⟨rfl, rfl⟩
end Go.Proofs.YtccjeipkljdhdaaGreatDoor

namespace Go.Proofs.YtccjeipkljdhdaaGreatDoor
open Go.RowKit Go.Maps Lx
set_option linter.unusedVariables false
set_option linter.unusedSimpArgs false

theorem isEmpty_lst (s : ByteArray) : s.toList.isEmpty = (lst s).isEmpty := by
  obtain ⟨⟨l⟩⟩ := s
  rw [ByteArray.toList_mk]; rfl
set_option maxHeartbeats 1000000 in
theorem isName_capital (s : ByteArray) (w : World) (hs : s.size ≤ 9223372036854775807) :
    Calls Tryz.prog 104 #[.string s, .func (.func 105) #[] #[]] w fun e w' => e = .returned (.bool (nameB cpN (lst s))) ∧ w' = w := by
  by_cases h0 : s.size = 0
  · have e0 : (lst s).isEmpty = true := by
      have := lst_len s
      cases hl : lst s with
      | nil => rfl
      | cons c q => rw [hl] at this; simp at this; omega
    have e1 : s.toList.isEmpty = true := by rw [isEmpty_lst]; exact e0
    rw [show nameB cpN (lst s) = false by unfold nameB; rw [e0]; rfl]
    clear e0
    go_enter Tryz.func104, Tryz.ntmps104
    go_wp2
    go_ret
    exact ⟨rfl, rfl⟩
  · have h1 : 0 < s.size := by omega
    have e0 : (lst s).isEmpty = false := by
      have := lst_len s
      cases hl : lst s with
      | nil => rw [hl] at this; simp at this; omega
      | cons c q => rfl
    have e1 : s.toList.isEmpty = false := by rw [isEmpty_lst]; exact e0
    have EH : (List.headD (lst s) 0).toNat = s[0].toNat := by
      rw [← nth_lst h1]
      cases hl : lst s <;> rfl
    have KL := Lib.hid (fun W => isCapital_any (s[0].toNat) W)
    have NB : nameB cpN (lst s) = (cpN (s[0].toNat) && decide ((nameE cpN (lst s)).2 = 0)) := by unfold nameB; rw [e0, EH]; rfl
    rw [NB]
    cases hp : cpN (s[0].toNat) with
    | false =>
      rw [hp] at KL
      clear e0 EH NB hp
      go_enter Tryz.func104, Tryz.ntmps104
      go_wp2_with (go_at_call 105; refine (KL.out _).mono ?_; rintro e w1 ⟨rfl, rfl⟩)
      go_ret
      exact ⟨rfl, rfl⟩
    | true =>
      rw [hp] at KL
      have KN := Lib.hid (fun W => nameErrorM_capital s W hs)
      clear e0 EH NB hp
      generalize nameE cpN (lst s) = ne at *
      obtain ⟨ni, er⟩ := ne
      simp only at KN ⊢
      by_cases her : er = 0
      · subst her
        rw [decide_eq_true rfl]
        go_enter Tryz.func104, Tryz.ntmps104
        go_wp2_with (first
          | (go_at_call 105; refine (KL.out _).mono ?_; rintro e w1 ⟨rfl, rfl⟩)
          | (go_at_call 121; refine (KN.out _).mono ?_; rintro e w1 ⟨rfl, rfl⟩))
        go_ret
        exact ⟨rfl, rfl⟩
      · rw [decide_eq_false her]
        have er0 : (er == 0) = false := by rw [beq_eq_false_iff_ne]; exact her
        go_enter Tryz.func104, Tryz.ntmps104
        go_wp2_with (first
          | (go_at_call 105; refine (KL.out _).mono ?_; rintro e w1 ⟨rfl, rfl⟩)
          | (go_at_call 121; refine (KN.out _).mono ?_; rintro e w1 ⟨rfl, rfl⟩))
        go_ret
        exact ⟨by simp [her], rfl⟩

theorem capital_any (s : ByteArray) (w : World) (hs : s.size ≤ 9223372036854775807) : Calls Tryz.prog 76 #[.string s] w fun e w' => e = .returned (.bool (nameB cpN (lst s))) ∧ w' = w := by
  have KI := Lib.hid (fun W => isName_capital s W hs)
  go_enter Tryz.func76, Tryz.ntmps76
  go_wp2_with (go_at_call 104; refine (KI.out _).mono ?_; rintro e w1 ⟨rfl, rfl⟩)
  go_ret
  exact ⟨rfl, rfl⟩
theorem three_of {s : ByteArray} (h : s.size = 3) : lst s = [s[0], s[1], s[2]] := by
  have hl := lst_len s
  apply List.ext_getElem
  · rw [hl]; exact h
  · intro i h1 h2
    have e : ∀ k (hk : k < s.size) (hk' : k < (lst s).length), (lst s)[k]'hk' = s[k]'hk := fun k hk hk' => by
      have := nth_lst hk
      simp only [nthN] at this
      rw [List.getD_eq_getElem?_getD, List.getElem?_eq_getElem hk', Option.getD_some] at this
      exact UInt8.toNat_inj.1 this
    match i, h1, h2 with
    | 0, h1, _ => exact e 0 (by omega) h1
    | 1, h1, _ => exact e 1 (by omega) h1
    | 2, h1, _ => exact e 2 (by omega) h1
set_option maxHeartbeats 1000000 in
theorem currency_any (s : ByteArray) (w : World) : Calls Tryz.prog 78 #[.string s] w fun e w' => e = .returned (.bool (curB (lst s))) ∧ w' = w := by
  by_cases h3 : s.size = 3
  · have h3' : (s.size : Int) = 3 := by omega
    have hb : ((s.size : Int) == 3) = true := by rw [h3]; rfl
    have z0 : 0 < s.size := by omega
    have z1 : 1 < s.size := by omega
    have z2 : 2 < s.size := by omega
    have EC : curB (lst s) = (cpN (s[0]'z0).toNat && cpN (s[1]'z1).toNat && cpN (s[2]'z2).toNat) := by rw [three_of h3]; rfl
    rw [EC]
    clear EC
    have K0 := Lib.hid (fun W => isCapital_any (s[0].toNat) W)
    have K1 := Lib.hid (fun W => isCapital_any (s[1].toNat) W)
    have K2 := Lib.hid (fun W => isCapital_any (s[2].toNat) W)
    cases c0 : cpN (s[0].toNat) with
    | false =>
      rw [c0] at K0
      clear h3 h3'
      go_enter Tryz.func78, Tryz.ntmps78
      go_wp2_with (go_at_call 105; refine (K0.out _).mono ?_; rintro e w1 ⟨rfl, rfl⟩)
      go_ret
      exact ⟨rfl, rfl⟩
    | true =>
      rw [c0] at K0
      cases c1 : cpN (s[1].toNat) with
      | false =>
        rw [c1] at K1
        clear h3 h3'
        go_enter Tryz.func78, Tryz.ntmps78
        go_wp2_with (first
          | (go_at_call 105; have qq := K0; refine (K0.out _).mono ?_; rintro e w1 ⟨rfl, rfl⟩; clear K0)
          | (go_at_call 105; refine (K1.out _).mono ?_; rintro e w1 ⟨rfl, rfl⟩))
        go_ret
        exact ⟨rfl, rfl⟩
      | true =>
        rw [c1] at K1
        generalize cpN (s[2].toNat) = b2 at *
        clear h3 h3'
        go_enter Tryz.func78, Tryz.ntmps78
        go_wp2_with (first
          | (go_at_call 105; have qq := K0; refine (K0.out _).mono ?_; rintro e w1 ⟨rfl, rfl⟩; clear K0)
          | (go_at_call 105; have qq := K1; refine (K1.out _).mono ?_; rintro e w1 ⟨rfl, rfl⟩; clear K1)
          | (go_at_call 105; refine (K2.out _).mono ?_; rintro e w1 ⟨rfl, rfl⟩))
        go_ret
        exact ⟨rfl, rfl⟩
  · have h3' : ¬ (s.size : Int) = 3 := by omega
    have hb : ((s.size : Int) == 3) = false := by rw [beq_eq_false_iff_ne]; exact h3'
    have e : curB (lst s) = false := by
      have := lst_len s
      match hl : lst s with
      | [] => rfl
      | [a] => rfl
      | [a, b] => rfl
      | [a, b, c] => rw [hl] at this; simp at this; omega
      | a :: b :: c :: d :: q => rfl
    rw [e]
    clear e h3
    go_enter Tryz.func78, Tryz.ntmps78
    go_wp2
    go_ret
    exact ⟨rfl, rfl⟩
end Go.Proofs.YtccjeipkljdhdaaGreatDoor

namespace Go.Proofs.YtccjeipkljdhdaaGreatDoor
open Go.RowKit Lx
set_option linter.unusedVariables false
set_option linter.unusedSimpArgs false

theorem infoStr : (Tryz.prog.info? 9).map (fun i => (i.zero, i.size, i.bytes)) = some (some (.string ⟨#[]⟩), 1, 16) := by kernel_rfl
end Go.Proofs.YtccjeipkljdhdaaGreatDoor

namespace Go.Proofs.YtccjeipkljdhdaaGreatDoor
open Go.RowKit
set_option linter.unusedVariables false
set_option linter.unusedSimpArgs false
theorem Row.oneP {w : World} {a : Option Addr} {n k : Nat} {V : Nat → List Value} (h : Row w a n k V) : 0 < n → ∃ x o, a = some ⟨x, o, none⟩ ∧ x < w.heap.size ∧ ∀ i, i < n → ∀ j, j < k → w.cell? ⟨x, o + i * k + j, none⟩ = some ((V i).getD j default) := by
  intro h0
  rcases h with h | h
  · omega
  · exact h
def capP (s : ByteArray) : Bool := Lx.nameB Lx.cpN (lst s)
def curP (s : ByteArray) : Bool := Lx.curB (lst s)
theorem all_of {α : Type} [Inhabited α] {P : α → Bool} {l : List α} (h : ∀ i, i < l.length → P (l.getD i default) = true) : l.all P = true := by
  rw [List.all_eq_true]
  intro x hx
  obtain ⟨i, hi, rfl⟩ := List.getElem_of_mem hx
  have := h i hi
  simpa [List.getD, hi] using this
theorem not_all {α : Type} [Inhabited α] {P : α → Bool} {l : List α} {i : Nat} (hi : i < l.length) (h : P (l.getD i default) = false) : l.all P = false := by
  rw [List.all_eq_false]
  refine ⟨l[i], List.getElem_mem hi, ?_⟩
  have e : l.getD i default = l[i] := by simp [List.getD, hi]
  rw [e] at h
  simp [h]
theorem tx_mem {l : List ByteArray} {i : Nat} (h : i < l.length) : l.getD i default ∈ l := by
  rw [List.getD_eq_getElem?_getD, List.getElem?_eq_getElem h, Option.getD_some]; exact List.getElem_mem h
theorem cap_c (s : ByteArray) (h : s.size ≤ 140737488351232) (W : World) : Calls Tryz.prog 76 #[.string s] W fun e w' => e = .returned (.bool (capP s)) ∧ w' = W := capital_any s W (by omega)
theorem cur_c (s : ByteArray) (h : s.size ≤ 140737488351232) (W : World) : Calls Tryz.prog 78 #[.string s] W fun e w' => e = .returned (.bool (curP s)) ∧ w' = W := currency_any s W
theorem litC_any (s : ByteArray) (hs : s.size ≤ 140737488351232) (pb : Nat) (w : World) (hp : w.cell? ⟨pb, 0, none⟩ = some (.func (.func 76) #[] #[])) :
    Calls Tryz.prog 103 #[.string s, .pointer (some ⟨pb, 0, none⟩)] w fun e w' => e = .returned (.bool (!(capP s))) ∧ w' = w := by
  have KC := Lib.hid (cap_c s hs w)
  go_enter Tryz.func103, Tryz.ntmps103
  go_wp2_with (go_at_call 76; refine KC.out.mono ?_; rintro e w1 ⟨rfl, h2⟩; subst h2)
  go_ret
  exact ⟨rfl, rfl⟩
set_option maxRecDepth 100000 in
set_option maxHeartbeats 1000000 in
theorem indexC_any {w : World} {a : Option Addr} {n c : Nat} {ss : List ByteArray} (pb : Nat) (h : SR w a n c ss) (hp : w.cell? ⟨pb, 0, none⟩ = some (.func (.func 76) #[] #[])) :
    Calls Tryz.prog 120 #[.slice a n c, .func (.func 103) #[] #[.pointer (some ⟨pb, 0, none⟩)]] w fun e w' => (∃ i : Int, e = .returned (.int .i64 i) ∧ (ss.all capP = true → i = -1) ∧ (ss.all capP = false → 0 ≤ i)) ∧ w' = w := by
  obtain ⟨_, l1, b1, s1, r1⟩ := h
  have R1 := Lib.hid r1
  have L1 := Lib.hid l1
  have S1 := Lib.hid s1
  clear l1 r1 s1
  go_enter Tryz.func120, Tryz.ntmps120
  go_wp2
  go_loopw [8] (fun t wr => ∃ k : Nat, k ≤ n ∧ t = .int .i64 k ∧ RowKit.Hid (∀ i, i < k → capP (ss.getD i default) = true) ∧ w = wr) (fun t _ => n - (intOf t).toNat)
  case atStart => exact ⟨0, by omega, rfl, fun i hi => absurd hi (by omega), rfl⟩
  case round =>
    obtain ⟨k, hk, rfl, hE, rfl⟩ := hrel
    by_cases hlt : k < n
    · obtain ⟨x, o, rfl, _, hc⟩ := R1.out.oneP (by omega)
      have c0 := hc k hlt 0 (by omega)
      simp only [Nat.mul_one, Nat.add_zero, List.getD_cons_zero] at c0
      have kc : (k : Int) < (n : Int) := by omega
      have KC := Lib.hid (litC_any (ss.getD k default) (S1.out _ (tx_mem (by rw [L1.out]; exact hlt))) pb w hp)
      have NX := Lib.hid (p := capP (ss.getD k default) = true → ∀ i, i < k + 1 → capP (ss.getD i default) = true) (fun e i hi => by
        rcases (show i < k ∨ i = k by omega) with r | r
        · exact hE.out i r
        · rw [r]; exact e)
      have NA := Lib.hid (p := capP (ss.getD k default) = false → ss.all capP = false) (fun e => not_all (by rw [L1.out]; exact hlt) e)
      clear hc hE
      generalize ss.getD k default = z at *
      cases hb : capP z with
      | true =>
        rw [hb] at KC NX
        go_wp2_with (go_at_call 103; refine KC.out.mono ?_; rintro e w1 ⟨rfl, h2⟩; subst h2)
        go_roundw
        case rel => exact ⟨k + 1, by omega, by go_num, NX.out (by first | rfl | trivial), by first | rfl | trivial⟩
        case measure => simp [intOf]; omega
      | false =>
        rw [hb] at KC NA
        go_wp2_with (go_at_call 103; refine KC.out.mono ?_; rintro e w1 ⟨rfl, h2⟩; subst h2)
        go_ret
        exact ⟨⟨_, rfl, (fun e => by rw [NA.out (by first | rfl | trivial)] at e; cases e), (fun _ => by omega)⟩, rfl⟩
    · obtain rfl : k = n := by omega
      have AA := Lib.hid (p := ss.all capP = true) (all_of (fun i hi => hE.out i (by rw [L1.out] at hi; exact hi)))
      clear hE
      go_wp2
      go_ret
      exact ⟨⟨_, rfl, (fun _ => rfl), (fun e => by rw [AA.out] at e; cases e)⟩, rfl⟩
set_option maxRecDepth 100000 in
theorem containsC_any {w : World} {a : Option Addr} {n c : Nat} {ss : List ByteArray} (pb : Nat) (h : SR w a n c ss) (hp : w.cell? ⟨pb, 0, none⟩ = some (.func (.func 76) #[] #[])) :
    Calls Tryz.prog 102 #[.slice a n c, .func (.func 103) #[] #[.pointer (some ⟨pb, 0, none⟩)]] w fun e w' => e = .returned (.bool (!(ss.all capP))) ∧ w' = w := by
  have KI := Lib.hid (indexC_any pb h hp)
  clear h hp
  cases hb : ss.all capP with
  | true =>
    rw [hb] at KI
    go_enter Tryz.func102, Tryz.ntmps102
    go_wp2_with (go_at_call 120; refine KI.out.mono ?_; rintro e w1 ⟨⟨i, rfl, h1, _⟩, h2⟩; subst h2; obtain rfl := h1 rfl)
    go_ret
    exact ⟨rfl, rfl⟩
  | false =>
    rw [hb] at KI
    go_enter Tryz.func102, Tryz.ntmps102
    go_wp2_with (go_at_call 120; refine KI.out.mono ?_; rintro e w1 ⟨⟨i, rfl, _, h1⟩, h2⟩; subst h2; have i0 := h1 rfl; have i1 : decide (0 ≤ i) = true := decide_eq_true i0; clear h1)
    go_ret
    exact ⟨by first | rfl | simp [i1], rfl⟩
set_option maxRecDepth 100000 in
theorem eachC_any {w : World} {a : Option Addr} {n c : Nat} {ss : List ByteArray} (h : SR w a n c ss) :
    Calls Tryz.prog 75 #[.slice a n c, .func (.func 76) #[] #[]] w fun e w' => e = .returned (.bool (ss.all capP)) ∧ Below w.heap.size w w' := by
  have KC := Lib.hid (containsC_any w.heap.size (h.later (allocBP w (.cells #[.func (.func 76) #[] #[]] 35))) (by simp))
  clear h
  go_enter Tryz.func75, Tryz.ntmps75
  go_wp2_with (go_at_call 102; refine KC.out.mono ?_; rintro e w1 ⟨rfl, h2⟩; subst h2)
  go_ret
  exact ⟨by simp, allocBP w _⟩
theorem litU_any (s : ByteArray) (hs : s.size ≤ 140737488351232) (pb : Nat) (w : World) (hp : w.cell? ⟨pb, 0, none⟩ = some (.func (.func 78) #[] #[])) :
    Calls Tryz.prog 103 #[.string s, .pointer (some ⟨pb, 0, none⟩)] w fun e w' => e = .returned (.bool (!(curP s))) ∧ w' = w := by
  have KC := Lib.hid (cur_c s hs w)
  go_enter Tryz.func103, Tryz.ntmps103
  go_wp2_with (go_at_call 78; refine KC.out.mono ?_; rintro e w1 ⟨rfl, h2⟩; subst h2)
  go_ret
  exact ⟨rfl, rfl⟩
set_option maxRecDepth 100000 in
set_option maxHeartbeats 1000000 in
theorem indexU_any {w : World} {a : Option Addr} {n c : Nat} {ss : List ByteArray} (pb : Nat) (h : SR w a n c ss) (hp : w.cell? ⟨pb, 0, none⟩ = some (.func (.func 78) #[] #[])) :
    Calls Tryz.prog 120 #[.slice a n c, .func (.func 103) #[] #[.pointer (some ⟨pb, 0, none⟩)]] w fun e w' => (∃ i : Int, e = .returned (.int .i64 i) ∧ (ss.all curP = true → i = -1) ∧ (ss.all curP = false → 0 ≤ i)) ∧ w' = w := by
  obtain ⟨_, l1, b1, s1, r1⟩ := h
  have R1 := Lib.hid r1
  have L1 := Lib.hid l1
  have S1 := Lib.hid s1
  clear l1 r1 s1
  go_enter Tryz.func120, Tryz.ntmps120
  go_wp2
  go_loopw [8] (fun t wr => ∃ k : Nat, k ≤ n ∧ t = .int .i64 k ∧ RowKit.Hid (∀ i, i < k → curP (ss.getD i default) = true) ∧ w = wr) (fun t _ => n - (intOf t).toNat)
  case atStart => exact ⟨0, by omega, rfl, fun i hi => absurd hi (by omega), rfl⟩
  case round =>
    obtain ⟨k, hk, rfl, hE, rfl⟩ := hrel
    by_cases hlt : k < n
    · obtain ⟨x, o, rfl, _, hc⟩ := R1.out.oneP (by omega)
      have c0 := hc k hlt 0 (by omega)
      simp only [Nat.mul_one, Nat.add_zero, List.getD_cons_zero] at c0
      have kc : (k : Int) < (n : Int) := by omega
      have KC := Lib.hid (litU_any (ss.getD k default) (S1.out _ (tx_mem (by rw [L1.out]; exact hlt))) pb w hp)
      have NX := Lib.hid (p := curP (ss.getD k default) = true → ∀ i, i < k + 1 → curP (ss.getD i default) = true) (fun e i hi => by
        rcases (show i < k ∨ i = k by omega) with r | r
        · exact hE.out i r
        · rw [r]; exact e)
      have NA := Lib.hid (p := curP (ss.getD k default) = false → ss.all curP = false) (fun e => not_all (by rw [L1.out]; exact hlt) e)
      clear hc hE
      generalize ss.getD k default = z at *
      cases hb : curP z with
      | true =>
        rw [hb] at KC NX
        go_wp2_with (go_at_call 103; refine KC.out.mono ?_; rintro e w1 ⟨rfl, h2⟩; subst h2)
        go_roundw
        case rel => exact ⟨k + 1, by omega, by go_num, NX.out (by first | rfl | trivial), by first | rfl | trivial⟩
        case measure => simp [intOf]; omega
      | false =>
        rw [hb] at KC NA
        go_wp2_with (go_at_call 103; refine KC.out.mono ?_; rintro e w1 ⟨rfl, h2⟩; subst h2)
        go_ret
        exact ⟨⟨_, rfl, (fun e => by rw [NA.out (by first | rfl | trivial)] at e; cases e), (fun _ => by omega)⟩, rfl⟩
    · obtain rfl : k = n := by omega
      have AA := Lib.hid (p := ss.all curP = true) (all_of (fun i hi => hE.out i (by rw [L1.out] at hi; exact hi)))
      clear hE
      go_wp2
      go_ret
      exact ⟨⟨_, rfl, (fun _ => rfl), (fun e => by rw [AA.out] at e; cases e)⟩, rfl⟩
set_option maxRecDepth 100000 in
theorem containsU_any {w : World} {a : Option Addr} {n c : Nat} {ss : List ByteArray} (pb : Nat) (h : SR w a n c ss) (hp : w.cell? ⟨pb, 0, none⟩ = some (.func (.func 78) #[] #[])) :
    Calls Tryz.prog 102 #[.slice a n c, .func (.func 103) #[] #[.pointer (some ⟨pb, 0, none⟩)]] w fun e w' => e = .returned (.bool (!(ss.all curP))) ∧ w' = w := by
  have KI := Lib.hid (indexU_any pb h hp)
  clear h hp
  cases hb : ss.all curP with
  | true =>
    rw [hb] at KI
    go_enter Tryz.func102, Tryz.ntmps102
    go_wp2_with (go_at_call 120; refine KI.out.mono ?_; rintro e w1 ⟨⟨i, rfl, h1, _⟩, h2⟩; subst h2; obtain rfl := h1 rfl)
    go_ret
    exact ⟨rfl, rfl⟩
  | false =>
    rw [hb] at KI
    go_enter Tryz.func102, Tryz.ntmps102
    go_wp2_with (go_at_call 120; refine KI.out.mono ?_; rintro e w1 ⟨⟨i, rfl, _, h1⟩, h2⟩; subst h2; have i0 := h1 rfl; have i1 : decide (0 ≤ i) = true := decide_eq_true i0; clear h1)
    go_ret
    exact ⟨by first | rfl | simp [i1], rfl⟩
set_option maxRecDepth 100000 in
theorem eachU_any {w : World} {a : Option Addr} {n c : Nat} {ss : List ByteArray} (h : SR w a n c ss) :
    Calls Tryz.prog 75 #[.slice a n c, .func (.func 78) #[] #[]] w fun e w' => e = .returned (.bool (ss.all curP)) ∧ Below w.heap.size w w' := by
  have KC := Lib.hid (containsU_any w.heap.size (h.later (allocBP w (.cells #[.func (.func 78) #[] #[]] 35))) (by simp))
  clear h
  go_enter Tryz.func75, Tryz.ntmps75
  go_wp2_with (go_at_call 102; refine KC.out.mono ?_; rintro e w1 ⟨rfl, h2⟩; subst h2)
  go_ret
  exact ⟨by simp, allocBP w _⟩
end Go.Proofs.YtccjeipkljdhdaaGreatDoor
