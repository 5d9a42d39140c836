/-
  WALK: Digits (the document's; made by wip/gen/gen_digits.py).
-/
import Derived.Test.YtlcidigcecmnpaaDoorWAs6
import Derived.Lib.AppendStr
import Derived.Lib.AppendIntMem
import Derived.Lib.OthersKept
import Derived.Lib.ItoaLen
import Derived.Lib.ConvBytes
import Derived.Laws.AppendOwn
import Derived.Laws.IdiomStrings
namespace Go.Proofs.YtlcidigcecmnpaaDoor
open Go.RowKit
set_option linter.unusedVariables false
set_option linter.unusedSimpArgs false

theorem baCat (a b : List UInt8) : (⟨a.toArray⟩ : ByteArray) ++ ⟨b.toArray⟩ = ⟨(a ++ b).toArray⟩ := by
  apply ByteArray.ext
  rw [ByteArray.data_append]
  simp
theorem catT (a b : List UInt8) (h : a.length + b.length ≤ 1000) (W : World) : (Op.stringOp .add ⟨a.toArray⟩ ⟨b.toArray⟩).run Tryd.prog W = .ok (.string ⟨(a ++ b).toArray⟩) W := by
  rw [← baCat]
  have h1 : ((⟨a.toArray⟩ : ByteArray).size : Int) ≤ 8388608 := by simp [ByteArray.size]; omega
  have h2 : ((⟨b.toArray⟩ : ByteArray).size : Int) ≤ 8388608 := by simp [ByteArray.size]; omega
  exact run_string_add W _ _ h1 h2
theorem conv1 (wr : World) (dig : Int) (h : 0 ≤ dig ∧ dig ≤ 9) : (convert 61 9 (.slice (some ⟨wr.heap.size, 0, none⟩) 1 1)).run Tryd.prog (wr.alloc (.cells #[.int .u8 (48 + dig)] 5)) = .ok (.string ⟨[UInt8.ofNat (48 + dig.toNat)].toArray⟩) (wr.alloc (.cells #[.int .u8 (48 + dig)] 5)) := by
  refine run_convert_bytes_back (P := Tryd.prog) _ 61 9 5 ⟨wr.heap.size, 0, none⟩ 1 [UInt8.ofNat (48 + dig.toNat)] (by kernel_rfl) (by kernel_rfl) (by kernel_rfl) (fun j hj => ?_)
  have : j = 0 := by simpa using hj
  subst this
  rw [Lib.add_plain, World.cell?_alloc_new]
  obtain ⟨n, rfl⟩ : ∃ n : Nat, dig = n := ⟨dig.toNat, by omega⟩
  have hn : n ≤ 9 := by omega
  simp
  omega
theorem ret_st {a b : List UInt8} (h : a = b) : Ending.returned (.string ⟨a.toArray⟩) = .returned (.string ⟨b.toArray⟩) := by rw [h]
/-- The digits of a number above 0; none of 0. -/
def dd (x : Nat) : List UInt8 := if x = 0 then [] else Lib.decDigits x
theorem dd_step {x : Nat} (h : 0 < x) : dd x = dd (x / 10) ++ [UInt8.ofNat (48 + x % 10)] := by
  unfold dd
  rw [if_neg (by omega)]
  by_cases h10 : x < 10
  · rw [if_pos (by omega), Lib.decDigits_one h10, Nat.mod_eq_of_lt h10]; rfl
  · rw [if_neg (by omega), Lib.decDigits, dif_neg h10]

set_option maxRecDepth 100000 in
set_option maxHeartbeats 2000000 in
theorem digits_pos (u : Nat) (hu : 0 < u) (hm : u ≤ 9223372036854775807) (w : World) :
    Calls Tryd.prog 28 #[.int .i64 ((u : Int))] w fun e w' => e = .returned (.string ⟨(Lib.itoa ((u : Int))).toArray⟩) ∧ Below w.heap.size w w' := by
  have IT := Lib.hid (p := Lib.itoa ((u : Int)) = dd u) (by rw [Lib.itoa_nonneg]; unfold dd; rw [if_neg (by omega)])
  have u0 : ¬ ((u : Int)) = 0 := by omega
  have u1 : (((u : Int)) == 0) = false := by simp; omega
  have LEN := Lib.hid (p := (dd u).length ≤ 21) (by
    have := Lib.itoa_length_le ((u : Int)) (by omega) (by omega)
    rw [Lib.itoa_nonneg] at this
    unfold dd; rw [if_neg (by omega)]; exact this)
  go_enter Tryd.func28, Tryd.ntmps28
  go_wp2
  go_loopw [3, 4] (fun a b wr => ∃ (x : Nat) (t : List UInt8), x ≤ u ∧ a = .string ⟨t.toArray⟩ ∧ b = .int .i64 ((x : Int)) ∧ RowKit.Hid (dd x ++ t = dd u) ∧ Below w.heap.size w wr) (fun _ b _ => (intOf b).natAbs)
  case atStart => exact ⟨u, [], Nat.le_refl _, rfl, rfl, List.append_nil _, Below.refl _ _⟩
  case round =>
    obtain ⟨x, t, hx, rfl, rfl, hD, hB⟩ := hrel
    have BB := Lib.hid hB
    clear hB
    by_cases h0 : x = 0
    · subst h0
      have TT := Lib.hid (p := t = dd u) (by have := hD.out; simpa [dd] using this)
      have un : ¬ (u : Int) < 0 := by omega
      go_wp2
      go_ret
      exact ⟨ret_st (by rw [IT.out, TT.out]), BB.out⟩
    · have m0 : ¬ ((x : Int)) = 0 := by omega
      have m1 : (((x : Int)) == 0) = false := by simp; omega
      obtain ⟨r, hr⟩ : ∃ r : Nat, x % 10 = r := ⟨_, rfl⟩
      obtain ⟨q, hq⟩ : ∃ q : Nat, x / 10 = q := ⟨_, rfl⟩
      have r1 : Int.tmod ((x : Int)) 10 = (r : Int) := by rw [Int.tmod_eq_emod_of_nonneg (by omega)]; omega
      have q1 : Int.tdiv ((x : Int)) 10 = (q : Int) := by rw [Int.tdiv_eq_ediv_of_nonneg (by omega)]; omega
      have r9 : r ≤ 9 := by omega
      have X10 := Lib.hid (show q < x by omega)
      have ST := Lib.hid (p := dd q ++ (UInt8.ofNat (48 + r) :: t) = dd u) (by have := hD.out; rw [dd_step (by omega), hr, hq] at this; simpa using this)
      have TL := Lib.hid (p := t.length ≤ 21) (by have := congrArg List.length hD.out; have := LEN.out; simp at *; omega)
      have tl := TL.out
      have cv := conv1 wr (r : Int) (by omega)
      rw [show ((r : Int)).toNat = r by omega] at cv
      have cat := catT [UInt8.ofNat (48 + r)] t (by simp; omega)
      have w1 : IntKind.i64.wrap (48 + (r : Int)) = 48 + (r : Int) := by rw [IntKind.wrap_i64]; omega
      have w2 : IntKind.u8.wrap (48 + (r : Int)) = 48 + (r : Int) := by simp [IntKind.wrap, IntKind.bits, IntKind.signed]; omega
      have w3 : IntKind.i64.wrap ((q : Int)) = (q : Int) := by rw [IntKind.wrap_i64]; omega
      have w4 : IntKind.i64.wrap ((r : Int)) = (r : Int) := by rw [IntKind.wrap_i64]; omega
      have w5 : IntKind.i64.wrap (r : Int) = (r : Int) := by rw [IntKind.wrap_i64]; omega
      have rd : ¬ (r : Int) < 0 := by omega
      obtain ⟨bb, hbb⟩ : ∃ bb, UInt8.ofNat (48 + r) = bb := ⟨_, rfl⟩
      rw [hbb] at cv cat
      have ST2 := Lib.hid (p := dd q ++ (bb :: t) = dd u) (by rw [← hbb]; exact ST.out)
      clear hr hq hbb tl
      go_wp2
      go_roundw
      case rel => exact ⟨q, bb :: t, by have := X10.out; omega, by first | rfl | simp, rfl, ST2.out, BB.out.alloc BB.out.size _⟩
      case measure => have := X10.out; simp [intOf]; omega
set_option maxRecDepth 100000 in
set_option maxHeartbeats 2000000 in
theorem digits_neg (u : Nat) (hu : 0 < u) (hm : u ≤ 9223372036854775808) (w : World) :
    Calls Tryd.prog 28 #[.int .i64 (-(u : Int))] w fun e w' => e = .returned (.string ⟨(Lib.itoa (-(u : Int))).toArray⟩) ∧ Below w.heap.size w w' := by
  have IT := Lib.hid (p := Lib.itoa (-(u : Int)) = 45 :: dd u) (by rw [Lib.itoa_neg u hu]; unfold dd; rw [if_neg (by omega)])
  have u0 : ¬ (-(u : Int)) = 0 := by omega
  have u1 : ((-(u : Int)) == 0) = false := by simp; omega
  have LEN := Lib.hid (p := (dd u).length ≤ 21) (by
    have := Lib.itoa_length_le (-(u : Int)) (by omega) (by omega)
    rw [Lib.itoa_neg u hu] at this
    unfold dd; rw [if_neg (by omega)]; simp at this; omega)
  go_enter Tryd.func28, Tryd.ntmps28
  go_wp2
  go_loopw [3, 4] (fun a b wr => ∃ (x : Nat) (t : List UInt8), x ≤ u ∧ a = .string ⟨t.toArray⟩ ∧ b = .int .i64 (-(x : Int)) ∧ RowKit.Hid (dd x ++ t = dd u) ∧ Below w.heap.size w wr) (fun _ b _ => (intOf b).natAbs)
  case atStart => exact ⟨u, [], Nat.le_refl _, rfl, rfl, List.append_nil _, Below.refl _ _⟩
  case round =>
    obtain ⟨x, t, hx, rfl, rfl, hD, hB⟩ := hrel
    have BB := Lib.hid hB
    clear hB
    by_cases h0 : x = 0
    · subst h0
      have TT := Lib.hid (p := t = dd u) (by have := hD.out; simpa [dd] using this)
      have un : -(u : Int) < 0 := by omega
      have tl : t.length ≤ 21 := by rw [TT.out]; exact LEN.out
      have cat := catT [45] t (by simp; omega)
      go_wp2
      go_ret
      exact ⟨by rw [IT.out, TT.out]; rfl, BB.out⟩
    · have m0 : ¬ (-(x : Int)) = 0 := by omega
      have m1 : ((-(x : Int)) == 0) = false := by simp; omega
      obtain ⟨r, hr⟩ : ∃ r : Nat, x % 10 = r := ⟨_, rfl⟩
      obtain ⟨q, hq⟩ : ∃ q : Nat, x / 10 = q := ⟨_, rfl⟩
      have r1 : Int.tmod (-(x : Int)) 10 = -(r : Int) := by rw [Int.neg_tmod, Int.tmod_eq_emod_of_nonneg (by omega)]; omega
      have q1 : Int.tdiv (-(x : Int)) 10 = -(q : Int) := by rw [Int.neg_tdiv, Int.tdiv_eq_ediv_of_nonneg (by omega)]; omega
      have r9 : r ≤ 9 := by omega
      have X10 := Lib.hid (show q < x by omega)
      have ST := Lib.hid (p := dd q ++ (UInt8.ofNat (48 + r) :: t) = dd u) (by have := hD.out; rw [dd_step (by omega), hr, hq] at this; simpa using this)
      have TL := Lib.hid (p := t.length ≤ 21) (by have := congrArg List.length hD.out; have := LEN.out; simp at *; omega)
      have tl := TL.out
      have cv := conv1 wr (r : Int) (by omega)
      rw [show ((r : Int)).toNat = r by omega] at cv
      have cat := catT [UInt8.ofNat (48 + r)] t (by simp; omega)
      have w1 : IntKind.i64.wrap (48 + (r : Int)) = 48 + (r : Int) := by rw [IntKind.wrap_i64]; omega
      have w2 : IntKind.u8.wrap (48 + (r : Int)) = 48 + (r : Int) := by simp [IntKind.wrap, IntKind.bits, IntKind.signed]; omega
      have w3 : IntKind.i64.wrap (-(q : Int)) = -(q : Int) := by rw [IntKind.wrap_i64]; omega
      have w4 : IntKind.i64.wrap (-(r : Int)) = -(r : Int) := by rw [IntKind.wrap_i64]; omega
      have w5 : IntKind.i64.wrap (r : Int) = (r : Int) := by rw [IntKind.wrap_i64]; omega
      have rd : ¬ (r : Int) < 0 := by omega
      obtain ⟨bb, hbb⟩ : ∃ bb, UInt8.ofNat (48 + r) = bb := ⟨_, rfl⟩
      rw [hbb] at cv cat
      have ST2 := Lib.hid (p := dd q ++ (bb :: t) = dd u) (by rw [← hbb]; exact ST.out)
      clear hr hq hbb tl
      by_cases rz : r = 0
      · subst rz
        have r2 : Int.tmod (-(x : Int)) 10 = 0 := by rw [r1]; rfl
        simp only [Int.natCast_zero, Int.add_zero] at cv
        clear r1 w1 w2 w4 w5 rd
        go_wp2
        go_roundw
        case rel => exact ⟨q, bb :: t, by have := X10.out; omega, by first | rfl | simp, rfl, ST2.out, BB.out.alloc BB.out.size _⟩
        case measure => have := X10.out; simp [intOf]; omega
      · have rn : -(r : Int) < 0 := by omega
        have w6 : IntKind.i64.wrap (- -(r : Int)) = (r : Int) := by rw [IntKind.wrap_i64]; omega
        go_wp2
        go_roundw
        case rel => exact ⟨q, bb :: t, by have := X10.out; omega, by first | rfl | simp, rfl, ST2.out, BB.out.alloc BB.out.size _⟩
        case measure => have := X10.out; simp [intOf]; omega
theorem digits13_zero (w : World) : Calls Tryd.prog 28 #[.int .i64 0] w fun e w' => e = .returned (.string (txA 0)) ∧ Below w.heap.size w w' := by
  have e0 : txA 0 = ⟨#[48]⟩ := by unfold txA; rw [show (0 : Int) = ((0 : Nat) : Int) from rfl, Lib.itoa_nonneg, Lib.decDigits_one (by omega)]; rfl
  rw [e0]
  clear e0
  go_enter Tryd.func28, Tryd.ntmps28
  go_wp2
  go_ret
  exact ⟨rfl, Below.refl _ _⟩
theorem digits13_any (v : Int) (hv : i64 v) (w : World) : Calls Tryd.prog 28 #[.int .i64 v] w fun e w' => e = .returned (.string (txA v)) ∧ Below w.heap.size w w' := by
  have b := i64_bd hv
  rcases (show v = 0 ∨ 0 < v ∨ v < 0 by omega) with h | h | h
  · subst h; exact digits13_zero w
  · obtain ⟨u, rfl⟩ : ∃ u : Nat, v = u := ⟨v.toNat, by omega⟩
    exact digits_pos u (by omega) (by omega) w
  · obtain ⟨u, rfl⟩ : ∃ u : Nat, v = -(u : Int) := ⟨(-v).toNat, by omega⟩
    exact digits_neg u (by omega) (by omega) w
end Go.Proofs.YtlcidigcecmnpaaDoor
