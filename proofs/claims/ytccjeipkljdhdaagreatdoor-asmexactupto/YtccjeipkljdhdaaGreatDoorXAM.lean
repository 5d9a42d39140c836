import Derived.Test.YtccjeipkljdhdaaGreatDoorXAK
import Derived.Test.YtccjeipkljdhdaaGreatDoorXAL
import Derived.Lib.SliceRun
import Derived.Maps.OwnSet
import Derived.Maps.RangeWalk
namespace Go.Proofs.YtccjeipkljdhdaaGreatDoor
open Go.RowKit
set_option linter.unusedVariables false
set_option linter.unusedSimpArgs false

theorem litCA_any (s : ByteArray) (hs : s.size ≤ 140737488351232) (pb : Nat) (w : World) (hp : w.cell? ⟨pb, 0, none⟩ = some (.func (.func 76) #[] #[])) :
    Calls Tryz.prog 118 #[.string s, .pointer (some ⟨pb, 0, none⟩)] w fun e w' => e = .returned (.bool (!(capP s))) ∧ w' = w := by
  have KC := Lib.hid (cap_c s hs w)
  go_enter Tryz.func118, Tryz.ntmps118
  go_wp2_with (go_at_call 76; refine KC.out.mono ?_; rintro e w1 ⟨rfl, h2⟩; subst h2)
  go_ret
  exact ⟨rfl, rfl⟩
set_option maxRecDepth 100000 in
set_option maxHeartbeats 1000000 in
theorem indexCA_any {w : World} {a : Option Addr} {n c : Nat} {ss : List ByteArray} (pb : Nat) (h : SR w a n c ss) (hp : w.cell? ⟨pb, 0, none⟩ = some (.func (.func 76) #[] #[])) :
    Calls Tryz.prog 120 #[.slice a n c, .func (.func 118) #[] #[.pointer (some ⟨pb, 0, none⟩)]] w fun e w' => (∃ i : Int, e = .returned (.int .i64 i) ∧ (ss.all capP = true → i = -1) ∧ (ss.all capP = false → 0 ≤ i)) ∧ w' = w := by
  obtain ⟨_, l1, b1, s1, r1⟩ := h
  have R1 := Lib.hid r1
  have L1 := Lib.hid l1
  have S1 := Lib.hid s1
  clear l1 r1 s1
  go_enter Tryz.func120, Tryz.ntmps120
  go_wp2
  go_loopw [8] (fun t wr => ∃ k : Nat, k ≤ n ∧ t = .int .i64 k ∧ RowKit.Hid (∀ i, i < k → capP (ss.getD i default) = true) ∧ w = wr) (fun t _ => n - (intOf t).toNat)
  case atStart => exact ⟨0, by omega, rfl, fun i hi => absurd hi (by omega), rfl⟩
  case round =>
    obtain ⟨k, hk, rfl, hE, rfl⟩ := hrel
    by_cases hlt : k < n
    · obtain ⟨x, o, rfl, _, hc⟩ := R1.out.oneP (by omega)
      have c0 := hc k hlt 0 (by omega)
      simp only [Nat.mul_one, Nat.add_zero, List.getD_cons_zero] at c0
      have kc : (k : Int) < (n : Int) := by omega
      have KC := Lib.hid (litCA_any (ss.getD k default) (S1.out _ (tx_mem (by rw [L1.out]; exact hlt))) pb w hp)
      have NX := Lib.hid (p := capP (ss.getD k default) = true → ∀ i, i < k + 1 → capP (ss.getD i default) = true) (fun e i hi => by
        rcases (show i < k ∨ i = k by omega) with r | r
        · exact hE.out i r
        · rw [r]; exact e)
      have NA := Lib.hid (p := capP (ss.getD k default) = false → ss.all capP = false) (fun e => not_all (by rw [L1.out]; exact hlt) e)
      clear hc hE
      generalize ss.getD k default = z at *
      cases hb : capP z with
      | true =>
        rw [hb] at KC NX
        go_wp2_with (go_at_call 118; refine KC.out.mono ?_; rintro e w1 ⟨rfl, h2⟩; subst h2)
        go_roundw
        case rel => exact ⟨k + 1, by omega, by go_num, NX.out (by first | rfl | trivial), by first | rfl | trivial⟩
        case measure => simp [intOf]; omega
      | false =>
        rw [hb] at KC NA
        go_wp2_with (go_at_call 118; refine KC.out.mono ?_; rintro e w1 ⟨rfl, h2⟩; subst h2)
        go_ret
        exact ⟨⟨_, rfl, (fun e => by rw [NA.out (by first | rfl | trivial)] at e; cases e), (fun _ => by omega)⟩, rfl⟩
    · obtain rfl : k = n := by omega
      have AA := Lib.hid (p := ss.all capP = true) (all_of (fun i hi => hE.out i (by rw [L1.out] at hi; exact hi)))
      clear hE
      go_wp2
      go_ret
      exact ⟨⟨_, rfl, (fun _ => rfl), (fun e => by rw [AA.out] at e; cases e)⟩, rfl⟩
set_option maxRecDepth 100000 in
theorem containsCA_any {w : World} {a : Option Addr} {n c : Nat} {ss : List ByteArray} (pb : Nat) (h : SR w a n c ss) (hp : w.cell? ⟨pb, 0, none⟩ = some (.func (.func 76) #[] #[])) :
    Calls Tryz.prog 102 #[.slice a n c, .func (.func 118) #[] #[.pointer (some ⟨pb, 0, none⟩)]] w fun e w' => e = .returned (.bool (!(ss.all capP))) ∧ w' = w := by
  have KI := Lib.hid (indexCA_any pb h hp)
  clear h hp
  cases hb : ss.all capP with
  | true =>
    rw [hb] at KI
    go_enter Tryz.func102, Tryz.ntmps102
    go_wp2_with (go_at_call 120; refine KI.out.mono ?_; rintro e w1 ⟨⟨i, rfl, h1, _⟩, h2⟩; subst h2; obtain rfl := h1 rfl)
    go_ret
    exact ⟨rfl, rfl⟩
  | false =>
    rw [hb] at KI
    go_enter Tryz.func102, Tryz.ntmps102
    go_wp2_with (go_at_call 120; refine KI.out.mono ?_; rintro e w1 ⟨⟨i, rfl, _, h1⟩, h2⟩; subst h2; have i0 := h1 rfl; have i1 : decide (0 ≤ i) = true := decide_eq_true i0; clear h1)
    go_ret
    exact ⟨by first | rfl | simp [i1], rfl⟩
theorem litUA_any (s : ByteArray) (hs : s.size ≤ 140737488351232) (pb : Nat) (w : World) (hp : w.cell? ⟨pb, 0, none⟩ = some (.func (.func 78) #[] #[])) :
    Calls Tryz.prog 118 #[.string s, .pointer (some ⟨pb, 0, none⟩)] w fun e w' => e = .returned (.bool (!(curP s))) ∧ w' = w := by
  have KC := Lib.hid (cur_c s hs w)
  go_enter Tryz.func118, Tryz.ntmps118
  go_wp2_with (go_at_call 78; refine KC.out.mono ?_; rintro e w1 ⟨rfl, h2⟩; subst h2)
  go_ret
  exact ⟨rfl, rfl⟩
set_option maxRecDepth 100000 in
set_option maxHeartbeats 1000000 in
theorem indexUA_any {w : World} {a : Option Addr} {n c : Nat} {ss : List ByteArray} (pb : Nat) (h : SR w a n c ss) (hp : w.cell? ⟨pb, 0, none⟩ = some (.func (.func 78) #[] #[])) :
    Calls Tryz.prog 120 #[.slice a n c, .func (.func 118) #[] #[.pointer (some ⟨pb, 0, none⟩)]] w fun e w' => (∃ i : Int, e = .returned (.int .i64 i) ∧ (ss.all curP = true → i = -1) ∧ (ss.all curP = false → 0 ≤ i)) ∧ w' = w := by
  obtain ⟨_, l1, b1, s1, r1⟩ := h
  have R1 := Lib.hid r1
  have L1 := Lib.hid l1
  have S1 := Lib.hid s1
  clear l1 r1 s1
  go_enter Tryz.func120, Tryz.ntmps120
  go_wp2
  go_loopw [8] (fun t wr => ∃ k : Nat, k ≤ n ∧ t = .int .i64 k ∧ RowKit.Hid (∀ i, i < k → curP (ss.getD i default) = true) ∧ w = wr) (fun t _ => n - (intOf t).toNat)
  case atStart => exact ⟨0, by omega, rfl, fun i hi => absurd hi (by omega), rfl⟩
  case round =>
    obtain ⟨k, hk, rfl, hE, rfl⟩ := hrel
    by_cases hlt : k < n
    · obtain ⟨x, o, rfl, _, hc⟩ := R1.out.oneP (by omega)
      have c0 := hc k hlt 0 (by omega)
      simp only [Nat.mul_one, Nat.add_zero, List.getD_cons_zero] at c0
      have kc : (k : Int) < (n : Int) := by omega
      have KC := Lib.hid (litUA_any (ss.getD k default) (S1.out _ (tx_mem (by rw [L1.out]; exact hlt))) pb w hp)
      have NX := Lib.hid (p := curP (ss.getD k default) = true → ∀ i, i < k + 1 → curP (ss.getD i default) = true) (fun e i hi => by
        rcases (show i < k ∨ i = k by omega) with r | r
        · exact hE.out i r
        · rw [r]; exact e)
      have NA := Lib.hid (p := curP (ss.getD k default) = false → ss.all curP = false) (fun e => not_all (by rw [L1.out]; exact hlt) e)
      clear hc hE
      generalize ss.getD k default = z at *
      cases hb : curP z with
      | true =>
        rw [hb] at KC NX
        go_wp2_with (go_at_call 118; refine KC.out.mono ?_; rintro e w1 ⟨rfl, h2⟩; subst h2)
        go_roundw
        case rel => exact ⟨k + 1, by omega, by go_num, NX.out (by first | rfl | trivial), by first | rfl | trivial⟩
        case measure => simp [intOf]; omega
      | false =>
        rw [hb] at KC NA
        go_wp2_with (go_at_call 118; refine KC.out.mono ?_; rintro e w1 ⟨rfl, h2⟩; subst h2)
        go_ret
        exact ⟨⟨_, rfl, (fun e => by rw [NA.out (by first | rfl | trivial)] at e; cases e), (fun _ => by omega)⟩, rfl⟩
    · obtain rfl : k = n := by omega
      have AA := Lib.hid (p := ss.all curP = true) (all_of (fun i hi => hE.out i (by rw [L1.out] at hi; exact hi)))
      clear hE
      go_wp2
      go_ret
      exact ⟨⟨_, rfl, (fun _ => rfl), (fun e => by rw [AA.out] at e; cases e)⟩, rfl⟩
set_option maxRecDepth 100000 in
theorem containsUA_any {w : World} {a : Option Addr} {n c : Nat} {ss : List ByteArray} (pb : Nat) (h : SR w a n c ss) (hp : w.cell? ⟨pb, 0, none⟩ = some (.func (.func 78) #[] #[])) :
    Calls Tryz.prog 102 #[.slice a n c, .func (.func 118) #[] #[.pointer (some ⟨pb, 0, none⟩)]] w fun e w' => e = .returned (.bool (!(ss.all curP))) ∧ w' = w := by
  have KI := Lib.hid (indexUA_any pb h hp)
  clear h hp
  cases hb : ss.all curP with
  | true =>
    rw [hb] at KI
    go_enter Tryz.func102, Tryz.ntmps102
    go_wp2_with (go_at_call 120; refine KI.out.mono ?_; rintro e w1 ⟨⟨i, rfl, h1, _⟩, h2⟩; subst h2; obtain rfl := h1 rfl)
    go_ret
    exact ⟨rfl, rfl⟩
  | false =>
    rw [hb] at KI
    go_enter Tryz.func102, Tryz.ntmps102
    go_wp2_with (go_at_call 120; refine KI.out.mono ?_; rintro e w1 ⟨⟨i, rfl, _, h1⟩, h2⟩; subst h2; have i0 := h1 rfl; have i1 : decide (0 ≤ i) = true := decide_eq_true i0; clear h1)
    go_ret
    exact ⟨by first | rfl | simp [i1], rfl⟩
theorem strs1 (ss : List ByteArray) : ∀ u ∈ ss.map Value.string, u.oneCell' = true := by
  intro u hu
  obtain ⟨x, _, rfl⟩ := List.mem_map.1 hu
  rfl
/-- A list of texts of the call's own. -/
abbrev OwQ (w : World) (B : Nat) (v : Value) (ss : List ByteArray) : Prop := w.ownsRow B 9 1 v ss.length (ss.map .string)
set_option maxHeartbeats 1000000 in
theorem cloneS_any {w : World} {a : Option Addr} {n c : Nat} {ss : List ByteArray} (h : SR w a n c ss) (ha : a ≠ none) (hn : n ≤ 16777216) :
    Calls Tryz.prog 119 #[.slice a n c] w fun e w' => ∃ v, e = .returned v ∧ OwQ w' w.heap.size v ss ∧ Below w.heap.size w w' := by
  obtain ⟨x, rfl⟩ : ∃ x, a = some x := by cases a with | none => exact absurd rfl ha | some x => exact ⟨x, rfl⟩
  have nq : ∀ W, (binOp .eql 23 (.slice (some x) n c) (.slice none 0 0)).run Tryz.prog W = .ok (.bool false) W := fun W => Lib.run_eql_slice_nil W 23 9 (some x) n c 0 0 (by kernel_rfl)
  have ll : ss.length = n := h.2.1
  have HD := h.1
  have NW := Lib.hid (sr_newsH (h.later (allocBP w (.cells #[] 9))))
  have O0 := Lib.hid (lit_rowP w 9 1)
  have A0 := Lib.hid (allocBP w (.cells #[] 9))
  obtain ⟨i0, hi, hz0, hz1, hz2⟩ := info_parts infoStr
  have KI := Lib.hid (And.intro hi (And.intro hz0 (And.intro hz1 hz2)))
  clear h ha hi hz0 hz1 hz2
  go_enter Tryz.func119, Tryz.ntmps119
  go_wp2_with (at_builtin; refine wp_appH rfl _ _ 23 rfl w.heap.size 9 i0 (.string ⟨#[]⟩) 1 16 Tryz.underlying23 KI.out.1 KI.out.2.1 KI.out.2.2.1 KI.out.2.2.2 rfl (by decide) _ 0 [] rfl O0.out (fun e => by cases e) (some x) n c (ss.map Value.string) HD rfl (by rw [List.length_map, ll, Nat.mul_one]) NW.out (strs1 ss) (by unfold maxLen; omega) (by omega) A0.out.size ?_; intro v2 w2 o2 g2 _; have O2 := Lib.hid o2; have G2 := Lib.hid (A0.out.grown g2 A0.out.size (fun k e => (O0.out.lt k e).1)); clear o2 g2)
  go_ret
  refine ⟨_, rfl, ?_, G2.out⟩
  have := O2.out
  rw [Nat.zero_add, List.nil_append] at this
  show World.ownsRow _ _ _ _ _ _ _
  rw [ll]
  exact this
/-- A value's word, a number's. -/
theorem valueOf_any (s : ByteArray) (hs : s.size ≤ 16777216) (w : World) (ht : Pows w) (hE : Ev w) :
    Calls Tryz.prog 117 #[.string s] w fun e w' => e = .returned (.tuple #[.int .i64 ((valW s).getD 0), .bool (valW s).isSome]) ∧ Below w.heap.size w w' := by
  have el : (⟨s.data.toList.toArray⟩ : ByteArray) = s := rfl
  have sz : s.data.toList.length = s.size := Array.length_toList
  by_cases q : s.size ≤ 21
  · have K := Lib.hid (parse_in s.data.toList 0 (by omega) (by omega) w ht hE)
    rw [el] at K
    unfold prsV prsE at K
    unfold valW
    clear ht hE el
    cases hv : prs 0 s.data.toList with
    | none =>
      rw [hv] at K
      go_enter Tryz.func117, Tryz.ntmps117
      go_wp2_with (go_at_call 134; refine K.out.mono ?_; rintro e w2 ⟨rfl, h2⟩; have B2 := Lib.hid h2; clear h2)
      go_ret2
      exact ⟨rfl, B2.out⟩
    | some v =>
      rw [hv] at K
      go_enter Tryz.func117, Tryz.ntmps117
      go_wp2_with (go_at_call 134; refine K.out.mono ?_; rintro e w2 ⟨rfl, h2⟩; have B2 := Lib.hid h2; clear h2)
      go_ret2
      exact ⟨rfl, B2.out⟩
  · have K := Lib.hid (parse_long s 0 (by omega) q (by omega) w)
    have e : valW s = none := by
      unfold valW
      cases hv : prs 0 s.data.toList with
      | none => rfl
      | some v =>
        obtain ⟨h1, h2⟩ := prs_some hv
        have := dtx_len v (atoi_inR h2) 0 (by omega)
        rw [h1, sz] at this
        omega
    rw [e]
    clear ht hE el e
    go_enter Tryz.func117, Tryz.ntmps117
    go_wp2_with (go_at_call 134; refine K.out.mono ?_; rintro e w2 ⟨rfl, h2⟩; have h2' := h2.symm; subst h2')
    go_ret2
    exact ⟨rfl, Below.refl _ _⟩
theorem valW_in {s : ByteArray} {v : Int} (h : valW s = some v) : inR v := by
  obtain ⟨_, h2⟩ := prs_some h
  exact atoi_inR h2
theorem numberOf_any (s : ByteArray) (hs : s.size ≤ 16777216) (w : World) (ht : Pows w) (hE : Ev w) :
    Calls Tryz.prog 96 #[.string s] w fun e w' => (∃ v : Int, e = .returned (.tuple #[.int .i64 v, .bool (numW s).isSome]) ∧ (∀ n, numW s = some n → v = n)) ∧ Below w.heap.size w w' := by
  have K := Lib.hid (valueOf_any s hs w ht hE)
  clear ht hE
  unfold numW
  cases hv : valW s with
  | none =>
    rw [hv] at K
    go_enter Tryz.func96, Tryz.ntmps96
    go_wp2_with (go_at_call 117; refine K.out.mono ?_; rintro e w2 ⟨rfl, h2⟩; have B2 := Lib.hid h2; clear h2)
    go_ret2
    exact ⟨⟨_, rfl, fun n e => by cases e⟩, B2.out⟩
  | some v =>
    rw [hv] at K
    by_cases q : 0 ≤ v
    · have E : (Option.bind (some v) fun v => if 0 ≤ v then some v else none) = some v := by simp [q]
      rw [E]
      clear hv E
      go_enter Tryz.func96, Tryz.ntmps96
      go_wp2_with (go_at_call 117; refine K.out.mono ?_; rintro e w2 ⟨rfl, h2⟩; have B2 := Lib.hid h2; clear h2)
      go_ret2
      exact ⟨⟨_, rfl, fun n e => by injection e⟩, B2.out⟩
    · have E : (Option.bind (some v) fun v => if 0 ≤ v then some v else none) = none := by simp [q]
      rw [E]
      clear hv E
      go_enter Tryz.func96, Tryz.ntmps96
      go_wp2_with (go_at_call 117; refine K.out.mono ?_; rintro e w2 ⟨rfl, h2⟩; have B2 := Lib.hid h2; clear h2)
      go_ret2
      exact ⟨⟨v, by simp [q], fun n e => by cases e⟩, B2.out⟩
end Go.Proofs.YtccjeipkljdhdaaGreatDoor

namespace Go.Proofs.YtccjeipkljdhdaaGreatDoor
open Go.RowKit
set_option linter.unusedVariables false
set_option linter.unusedSimpArgs false

def TxE (w : World) (ss : List ByteArray) (b : Bool) (e : Ending) (w' : World) : Prop := ∃ v, e = .returned (.tuple #[v, .bool b]) ∧ OwQ w' w.heap.size v ss ∧ Below w.heap.size w w'
set_option maxHeartbeats 1000000 in
theorem textsC_any {w : World} {a : Option Addr} {n c : Nat} {ss : List ByteArray} (h : SR w a n c ss) (ha : a ≠ none) (hn : n ≤ 16777216) :
    Calls Tryz.prog 97 #[.slice a n c, .func (.func 76) #[] #[]] w fun e w' => TxE w ss (ss.all capP) e w' := by
  have KC := Lib.hid (containsCA_any w.heap.size (h.later (allocBP w (.cells #[.func (.func 76) #[] #[]] 35))) (by simp))
  have KL := Lib.hid (fun W (b : Below w.heap.size w W) => cloneS_any (h.later b) ha hn)
  have A0 := Lib.hid (allocBP w (.cells #[.func (.func 76) #[] #[]] 35))
  obtain ⟨B, hB⟩ : ∃ B, ss.all capP = B := ⟨_, rfl⟩
  rw [hB] at KC ⊢
  clear h hB
  go_enter Tryz.func97, Tryz.ntmps97
  go_wp2_with (first
    | (go_at_call 102; refine KC.out.mono ?_; rintro e w1 ⟨rfl, h2⟩; subst h2)
    | (go_at_call 119; refine (KL.out _ A0.out).mono ?_; rintro e w2 ⟨v, rfl, h1, h2⟩; have O2 := Lib.hid h1; have B2 := Lib.hid (A0.out.trans (h2.mono A0.out.size)); clear h1 h2))
  go_ret2
  refine ⟨v, rfl, ?_, B2.out⟩
  obtain ⟨q1, q2⟩ := O2.out
  exact ⟨q1, q2.imp_right (fun ⟨g, cap, cur, e1, e2, e3⟩ => ⟨g, cap, cur, e1, Nat.le_trans A0.out.size e2, e3⟩)⟩
set_option maxHeartbeats 1000000 in
theorem textsU_any {w : World} {a : Option Addr} {n c : Nat} {ss : List ByteArray} (h : SR w a n c ss) (ha : a ≠ none) (hn : n ≤ 16777216) :
    Calls Tryz.prog 97 #[.slice a n c, .func (.func 78) #[] #[]] w fun e w' => TxE w ss (ss.all curP) e w' := by
  have KC := Lib.hid (containsUA_any w.heap.size (h.later (allocBP w (.cells #[.func (.func 78) #[] #[]] 35))) (by simp))
  have KL := Lib.hid (fun W (b : Below w.heap.size w W) => cloneS_any (h.later b) ha hn)
  have A0 := Lib.hid (allocBP w (.cells #[.func (.func 78) #[] #[]] 35))
  obtain ⟨B, hB⟩ : ∃ B, ss.all curP = B := ⟨_, rfl⟩
  rw [hB] at KC ⊢
  clear h hB
  go_enter Tryz.func97, Tryz.ntmps97
  go_wp2_with (first
    | (go_at_call 102; refine KC.out.mono ?_; rintro e w1 ⟨rfl, h2⟩; subst h2)
    | (go_at_call 119; refine (KL.out _ A0.out).mono ?_; rintro e w2 ⟨v, rfl, h1, h2⟩; have O2 := Lib.hid h1; have B2 := Lib.hid (A0.out.trans (h2.mono A0.out.size)); clear h1 h2))
  go_ret2
  refine ⟨v, rfl, ?_, B2.out⟩
  obtain ⟨q1, q2⟩ := O2.out
  exact ⟨q1, q2.imp_right (fun ⟨g, cap, cur, e1, e2, e3⟩ => ⟨g, cap, cur, e1, Nat.le_trans A0.out.size e2, e3⟩)⟩
/-- A list of numbers of the call's own. -/
def OwZs (w : World) (B : Nat) (v : Value) (l : List Int) : Prop := w.ownsRow B 3 1 v l.length (intsP l)
theorem valsW_snoc : ∀ (a : List ByteArray) (w : ByteArray), valsW (a ++ [w]) = (valsW a).bind fun l => (valW w).map fun v => l ++ [v]
  | [], w => by
    simp only [List.nil_append, valsW]
    cases valW w <;> simp
  | x :: a, w => by
    have ih := valsW_snoc a w
    simp only [List.cons_append, valsW, ih]
    cases valW x with
    | none => simp
    | some v =>
      cases valsW a with
      | none => simp
      | some l => cases valW w <;> simp
theorem valsW_bad {a b : List ByteArray} (h : valsW a = none) : valsW (a ++ b) = none := by
  induction a with
  | nil => simp [valsW] at h
  | cons x a ih =>
    simp only [List.cons_append, valsW] at h ⊢
    cases hv : valW x with
    | none => rfl
    | some v =>
      rw [hv] at h
      simp only [Option.map_eq_none_iff] at h
      simp [ih h]
theorem valsW_in : ∀ {a : List ByteArray} {l : List Int}, valsW a = some l → ∀ x ∈ l, inR x
  | [], l, h => by
    simp only [valsW, Option.some.injEq] at h
    subst h
    intro x hx
    cases hx
  | w :: a, l, h => by
    simp only [valsW] at h
    cases hv : valW w with
    | none => rw [hv] at h; cases h
    | some v =>
      rw [hv] at h
      obtain ⟨m, hm, rfl⟩ := Option.map_eq_some_iff.1 h
      intro x hx
      rcases List.mem_cons.1 hx with rfl | hx
      · exact valW_in hv
      · exact valsW_in hm x hx
theorem infoZ : (Tryz.prog.info? 3).map (fun i => (i.zero, i.size, i.bytes)) = some (some (.int .i64 0), 1, 8) := by kernel_rfl
theorem wp_intA {ops : Array Oper} {rest : List Oper} {o : Oper} {a : Act} {Q : Exit → Act → World → Prop} (W : World) (B : Nat) (u : Int) (l : List Int) (hgd : o.guard = none) (sl x : Operand)
    (ho : o.op = .call { callee := .builtin .append, args := #[sl, x], argTypes := #[24, 24] }) (v : Value) (hs : a.eval sl = v)
    (hx : a.eval x = .slice (some ⟨W.heap.size, 0, none⟩) 1 1) (hown : OwZs W B v l) (hl : l.length ≤ 1073741824) (hb : B ≤ W.heap.size)
    (h : ∀ v' w', OwZs w' B v' (l ++ [u]) → (W.alloc (.cells #[.int .i64 u] 3)).grownBy w' v.ownBlock → wpList Tryz.prog ops Q rest (a.put o.dst v') w') :
    wpList Tryz.prog ops Q (o :: rest) a (W.alloc (.cells #[.int .i64 u] 3)) := by
  obtain ⟨i0, hi, hz0, hz1, hz2⟩ := info_parts infoZ
  refine wpList_append_own _ hgd sl x 24 ho B 3 i0 (.int .i64 0) 1 8 Tryz.underlying24 hi hz0 hz1 hz2 rfl (by decide) v _ _ hs (World.ownsRow.alloc hown _) ⟨W.heap.size, 0, none⟩ 1 1 [.int .i64 u] hx rfl ?_ ?_ (by unfold maxLen; omega) (by omega) (by simp; omega) ?_
  · intro j v hj
    match j, hj with
    | 0, hj => simp at hj; subst hj; simp [Addr.add]
  · intro v hv
    rw [List.mem_singleton.1 hv]; rfl
  · intro v' w' h1 h2 _
    refine h v' w' ?_ h2
    unfold OwZs intsP
    rw [List.length_append, List.map_append]
    exact h1
def VsE (w : World) (ss : List ByteArray) (e : Ending) (w' : World) : Prop := (∃ v b, e = .returned (.tuple #[v, .bool b]) ∧ b = (valsW ss).isSome ∧ ∃ l, OwZs w' w.heap.size v l ∧ (∀ k, valsW ss = some k → l = k) ∧ (∀ x ∈ l, inR x) ∧ l.length ≤ ss.length) ∧ Below w.heap.size w w'
set_option maxHeartbeats 2000000 in
theorem valuesOf_any {w : World} {a : Option Addr} {n c : Nat} {ss : List ByteArray} (h : SR w a n c ss) (hn : n ≤ 16777216) (hz : ∀ s ∈ ss, s.size ≤ 16777216) (ht : Pows w) (hE : Ev w) :
    Calls Tryz.prog 99 #[.slice a n c] w fun e w' => VsE w ss e w' := by
  obtain ⟨_, l1, b1, s1, r1⟩ := h
  have R1 := Lib.hid r1
  have L1 := Lib.hid l1
  have HZ := Lib.hid hz
  have KV := Lib.hid (fun (s : ByteArray) (q : s.size ≤ 16777216) (W : World) (b : Below w.heap.size w W) => valueOf_any s q W (pows_below ht b) (ev_below hE b))
  clear l1 r1 s1 hz ht hE
  go_enter Tryz.func99, Tryz.ntmps99
  go_wp2
  go_loopw [4, 11] (fun v t W => ∃ (k : Nat) (u : Value) (l : List Int), u = v ∧ k ≤ n ∧ t = .int .i64 k ∧ valsW (ss.take k) = some l ∧ l.length = k ∧ OwZs W w.heap.size u l ∧ Below w.heap.size w W) (fun _ t _ => n - (intOf t).toNat)
  case atStart => exact ⟨0, _, [], rfl, by omega, rfl, rfl, rfl, World.ownsRow_nil _ _ _ _, Below.refl _ _⟩
  case round =>
    rename World => W
    obtain ⟨k, u, l, rfl, hk, rfl, hv, hll, hO, hB⟩ := hrel
    have VV := Lib.hid hv
    have LL := Lib.hid hll
    have OO := Lib.hid hO
    have BB := Lib.hid hB
    have lb : l.length ≤ 1073741824 := by omega
    by_cases hlt : k < n
    · obtain ⟨x, o, rfl, hx, hc⟩ := R1.out.oneP (by omega)
      have c0 := hc k hlt 0 (by omega)
      simp only [Nat.mul_one, Nat.add_zero, List.getD_cons_zero] at c0
      have c1 : W.cell? ⟨x, o + k, none⟩ = some (.string (ss.getD k default)) := (hB.cell (p := ⟨x, o + k, none⟩) hx).trans c0
      have kc : (k : Int) < (n : Int) := by omega
      have lk : k < ss.length := by rw [L1.out]; exact hlt
      have K := Lib.hid (KV.out (ss.getD k default) (HZ.out _ (tx_mem lk)) W hB)
      have TK := Lib.hid (p := ss.take (k + 1) = ss.take k ++ [ss.getD k default]) (by rw [List.take_succ_eq_append_getElem lk]; simp [List.getD, lk])
      have TD := Lib.hid (p := ss = ss.take (k + 1) ++ ss.drop (k + 1)) (List.take_append_drop _ _).symm
      have SN := Lib.hid (valsW_snoc (ss.take k) (ss.getD k default))
      generalize ss.getD k default = z at *
      clear hc c0 hv hll hO hB
      cases hz : valW z with
      | none =>
        have E := Lib.hid (p := valsW ss = none) (by
          have e1 := SN.out
          rw [← TK.out, VV.out, hz] at e1
          rw [TD.out]
          exact valsW_bad (by simpa using e1))
        rw [hz] at K
        clear hz SN TK TD
        go_wp2_with (go_at_call 117; refine K.out.mono ?_; rintro e w2 ⟨rfl, h2⟩; have B2 := Lib.hid (BB.out.trans (h2.mono BB.out.size)); clear h2)
        go_ret2
        exact ⟨⟨_, _, rfl, by rw [E.out]; rfl, [], World.ownsRow_nil _ _ _ _, (fun k e => by rw [E.out] at e; cases e), (fun x hx => by cases hx), Nat.zero_le _⟩, B2.out⟩
      | some q =>
        have NV := Lib.hid (p := valsW (ss.take (k + 1)) = some (l ++ [q])) (by
          rw [TK.out, SN.out, VV.out, hz]; rfl)
        rw [hz] at K
        clear hz SN TK TD
        go_wp2_with (first
          | (go_at_call 117; refine K.out.mono ?_; rintro e w2 ⟨rfl, h2⟩; have O2 := Lib.hid (p := OwZs w2 w.heap.size u l) (World.ownsRow.kept OO.out ⟨h2.os, h2.tape, h2.output, h2.size, fun i hi _ => h2.block i hi⟩ (Classical.em _)); have B2 := Lib.hid (BB.out.trans (h2.mono BB.out.size)); have s2 := B2.out.size; clear h2)
          | (at_builtin; refine wp_intA _ w.heap.size q l rfl _ _ rfl u rfl rfl O2.out lb s2 ?_; intro v3 w3 o3 g3; have O3 := Lib.hid o3; have B3 := Lib.hid ((B2.out.alloc B2.out.size _).grown g3 (Nat.le_trans B2.out.size (by simp)) (fun k e => (World.ownsRow.lt O2.out k e).1)); clear o3 g3))
        go_roundw
        case rel => exact ⟨k + 1, _, l ++ [q], rfl, by omega, by go_num, NV.out, by simp [LL.out], O3.out, B3.out⟩
        case measure => simp [intOf]; omega
    · obtain rfl : k = n := by omega
      have E := Lib.hid (p := valsW ss = some l) (by have := VV.out; rwa [List.take_of_length_le (by rw [L1.out]; exact Nat.le_refl _)] at this)
      clear hv hll hO hB
      go_wp2
      go_ret2
      exact ⟨⟨_, _, rfl, by rw [E.out]; rfl, l, OO.out, (fun k e => by rw [E.out] at e; injection e), valsW_in E.out, by rw [LL.out, L1.out]; exact Nat.le_refl _⟩, BB.out⟩
end Go.Proofs.YtccjeipkljdhdaaGreatDoor

namespace Go.Proofs.YtccjeipkljdhdaaGreatDoor
open Go.RowKit Go.Shelf Go.Maps
attribute [local go_sem] Oper.semAt_some
set_option linter.unusedVariables false
set_option linter.unusedSimpArgs false

theorem plc_snoc {α : Type} [DecidableEq α] (l : List α) (z c : α) : plcW (l ++ [z]) c = match plcW l c with | some i => some i | none => if c = z then some (l.length : Int) else none := by
  unfold plcW
  by_cases h : c ∈ l
  · have hf : (l.findIdx fun y => decide (y = c)) < l.length := List.findIdx_lt_length_of_exists ⟨c, h, by simp⟩
    rw [if_pos h, if_pos (List.mem_append.2 (.inl h)), List.findIdx_append, if_pos hf]
  · rw [if_neg h]
    by_cases e : c = z
    · subst e
      have hf : ¬ (l.findIdx fun y => decide (y = c)) < l.length := by
        intro q
        obtain ⟨x, hx, e⟩ := List.findIdx_lt_length.1 q
        exact h (by simp at e; rwa [← e])
      rw [if_pos (by simp), List.findIdx_append, if_neg hf]
      simp [List.findIdx_cons]
    · rw [if_neg (by simp [h, e])]
      simp [e]
/-- A map says what f says. -/
def litT (c : ByteArray) : Lit := .string c.data.toList
theorem litT_ne {c c' : ByteArray} (h : c' ≠ c) : litT c' ≠ litT c := fun e => h (by
  unfold litT at e
  injection e with e
  obtain ⟨⟨x⟩⟩ := c; obtain ⟨⟨y⟩⟩ := c'
  simp at e; rw [e])
def MpS (D : DataW Unit) (f : ByteArray → Option Int) : Prop :=
  IsMap D ∧ (∀ c, D.atKey (litT c) (.lit (.int .i64 0)) = .lit (.int .i64 ((f c).getD 0))) ∧ ∀ c, Maps.has D (litT c) = (f c).isSome
theorem MpS.none : MpS (.map []) (fun _ => none) := ⟨isMap_empty, fun _ => rfl, fun _ => rfl⟩
theorem MpS.put {D : DataW Unit} {f : ByteArray → Option Int} (h : MpS D f) (z : ByteArray) (v : Int) : MpS (D.put (litT z) (.lit (.int .i64 v))) (fun c => if c = z then some v else f c) := by
  obtain ⟨h1, h2, h3⟩ := h
  refine ⟨h1.put _ _, fun c => ?_, fun c => ?_⟩
  · by_cases e : c = z
    · simp only [if_pos e]; rw [e, atKey_put_same h1 (k := litT z) trivial]; rfl
    · simp only [if_neg e]; rw [atKey_put_other (litT_ne e), h2]
  · by_cases e : c = z
    · simp only [if_pos e]; rw [e, has_put_same h1 (k := litT z) trivial]; rfl
    · simp only [if_neg e]; rw [has_put_other (litT_ne e), h3]
theorem MpS.congr {D : DataW Unit} {f g : ByteArray → Option Int} (h : MpS D f) (e : ∀ c, f c = g c) : MpS D g := by
  have : f = g := funext e
  rwa [← this]
theorem lawT : Keyed Tryz.prog 9 := string_keyed Tryz.underlying9
theorem zeroJ (w : World) : (zeroValue 3).run Tryz.prog w = .ok (.int .i64 0) w := by kernel_rfl
theorem keyT {c : ByteArray} (h : c.size ≤ 140737488351232) : keyOf Tryz.prog 9 (.string c) = some (litT c) := WideMaps.keyOf_string_mk Tryz.underlying9 (by unfold maxLen; omega)
theorem mk_mapS (W : World) : (Instr.makeMap 49 none).run Tryz.prog W = .ok (.map (some W.heap.size)) (W.alloc (.map #[] 0)) := by
  simp [Instr.makeMap, run_underlying Tryz.underlying49]
/-- A map of first places, in memory. -/
def MapS (w : World) (B b : Nat) (f : ByteArray → Option Int) : Prop := ∃ m D, w.ownsMap Tryz.prog 9 (plainElem (H := Unit) Tryz.prog 3) b m D ∧ MpS D f ∧ B ≤ b
def FpS (w : World) (ss : List ByteArray) (e : Ending) (w' : World) : Prop := ∃ b, e = .returned (.map (some b)) ∧ MapS w' w.heap.size b (plcW ss) ∧ Below w.heap.size w w'
set_option maxRecDepth 100000 in
set_option maxHeartbeats 2000000 in
theorem firstS_any {w : World} {a : Option Addr} {n c : Nat} {ss : List ByteArray} (h : SR w a n c ss) (hn : n ≤ 16777216) :
    Calls Tryz.prog 98 #[.slice a n c] w fun e w' => FpS w ss e w' := by
  obtain ⟨_, l1, b1, s1, r1⟩ := h
  have R1 := Lib.hid r1
  have L1 := Lib.hid l1
  have S1 := Lib.hid s1
  have mk := mk_mapS
  have M0 := Lib.hid (World.ownsMap_made w Tryz.prog 9 (plainElem (H := Unit) Tryz.prog 3))
  have A0 := Lib.hid (allocBP w (.map #[] 0))
  clear l1 r1 s1
  go_enter Tryz.func98, Tryz.ntmps98
  go_wp2
  clear mk
  go_loopw [11] (fun t W => ∃ (k m : Nat) (D : DataW Unit), k ≤ n ∧ t = .int .i64 k ∧ m ≤ k ∧ W.ownsMap Tryz.prog 9 (plainElem (H := Unit) Tryz.prog 3) w.heap.size m D ∧ MpS D (plcW (ss.take k)) ∧ Below w.heap.size w W) (fun t _ => n - (intOf t).toNat)
  case atStart => exact ⟨0, 0, _, by omega, rfl, by omega, M0.out, MpS.none.congr (fun c => by simp [plcW]), A0.out⟩
  case round =>
    rename World => W
    obtain ⟨k, m, D, hk, rfl, hm, hM, hD, hB⟩ := hrel
    have MM := Lib.hid hM
    have DD := Lib.hid hD
    have BB := Lib.hid hB
    by_cases hlt : k < n
    · obtain ⟨x, o, rfl, hx, hc⟩ := R1.out.oneP (by omega)
      have c0 := hc k hlt 0 (by omega)
      simp only [Nat.mul_one, Nat.add_zero, List.getD_cons_zero] at c0
      have c1 : W.cell? ⟨x, o + k, none⟩ = some (.string (ss.getD k default)) := (hB.cell (p := ⟨x, o + k, none⟩) hx).trans c0
      have kc : (k : Int) < (n : Int) := by omega
      have lk : k < ss.length := by rw [L1.out]; exact hlt
      have zs := S1.out _ (tx_mem lk)
      have TK := Lib.hid (p := ss.take (k + 1) = ss.take k ++ [ss.getD k default]) (by rw [List.take_succ_eq_append_getElem lk]; simp [List.getD, lk])
      have TL := Lib.hid (p := (ss.take k).length = k) (by rw [List.length_take]; omega)
      generalize ss.getD k default = z at *
      have hkey := keyT zs
      have HB0 := hD.2.2 z
      have PE := Lib.hid (plainElem_int (H := Unit) (P := Tryz.prog) Tryz.underlying3 (show (Lit.int .i64 (k : Int)).wf = true by simp [Lit.wf, IntKind.min, IntKind.max, IntKind.bits, IntKind.signed]; omega))
      clear hc c0 hM hD hB zs
      cases hp : plcW (ss.take k) z with
      | none =>
        have HB := Lib.hid (p := Maps.has D (litT z) = false) (by rw [HB0, hp]; rfl)
        have ND := Lib.hid (p := MpS (D.put (litT z) (.lit (.int .i64 (k : Int)))) (plcW (ss.take (k + 1)))) ((DD.out.put z (k : Int)).congr (fun c => by
          rw [TK.out, plc_snoc, TL.out]
          by_cases e : c = z
          · rw [if_pos e, e, hp]; simp
          · rw [if_neg e]
            cases plcW (ss.take k) c with
            | none => simp [e]
            | some i => rfl))
        clear hp HB0
        go_wp2_with (first
          | (at_lookup; refine wpList_lookup_own_ok_int _ rfl _ _ 49 rfl 9 3 .i64 lawT Tryz.underlying49 Tryz.underlying3 (zeroJ _) w.heap.size m _ rfl MM.out _ _ rfl hkey ?_; intro q hat hwc; rw [HB.out]; clear hat hwc)
          | (at_mapUpdate; refine wpList_mapUpdate_own _ rfl _ _ _ 49 rfl 9 3 lawT Tryz.underlying49 _ w.heap.size m _ rfl MM.out (by unfold maxLen; omega) _ _ _ rfl rfl hkey _ [] PE.out ?_; intro w3 o3 g3; have O3 := Lib.hid o3; have B3 := Lib.hid (BB.out.grown g3 BB.out.size (fun k e => by cases e; exact Nat.le_refl _)); clear o3 g3))
        go_roundw
        case rel => exact ⟨k + 1, m + 1, _, by omega, by go_num, by omega, O3.out, ND.out, B3.out⟩
        case measure => simp [intOf]; omega
      | some i =>
        have HB := Lib.hid (p := Maps.has D (litT z) = true) (by rw [HB0, hp]; rfl)
        have ND := Lib.hid (p := MpS D (plcW (ss.take (k + 1)))) (DD.out.congr (fun c => by
          rw [TK.out, plc_snoc]
          by_cases e : c = z
          · rw [e, hp]
          · cases plcW (ss.take k) c with
            | none => simp [e]
            | some i => rfl))
        clear hp HB0
        go_wp2_with (at_lookup; refine wpList_lookup_own_ok_int _ rfl _ _ 49 rfl 9 3 .i64 lawT Tryz.underlying49 Tryz.underlying3 (zeroJ _) w.heap.size m _ rfl MM.out _ _ rfl hkey ?_; intro q hat hwc; rw [HB.out]; clear hat hwc)
        go_roundw
        case rel => exact ⟨k + 1, m, _, by omega, by go_num, by omega, MM.out, ND.out, BB.out⟩
        case measure => simp [intOf]; omega
    · obtain rfl : k = n := by omega
      have E := Lib.hid (p := MpS D (plcW ss)) (by have := DD.out; rwa [List.take_of_length_le (by rw [L1.out]; exact Nat.le_refl _)] at this)
      clear hM hD hB
      go_wp2
      go_ret
      exact ⟨_, rfl, ⟨m, D, MM.out, E.out, Nat.le_refl _⟩, BB.out⟩
end Go.Proofs.YtccjeipkljdhdaaGreatDoor

namespace Go.Proofs.YtccjeipkljdhdaaGreatDoor
open Go.RowKit Go.Shelf Go.Maps
attribute [local go_sem] Oper.semAt_some
set_option linter.unusedVariables false
set_option linter.unusedSimpArgs false

def litZ (c : Int) : Lit := .int .i64 c
theorem litZ_ne {c c' : Int} (h : c' ≠ c) : litZ c' ≠ litZ c := fun e => h (by
  unfold litZ at e
  injection e)
def MpZ (D : DataW Unit) (f : Int → Option Int) : Prop :=
  IsMap D ∧ (∀ c, D.atKey (litZ c) (.lit (.int .i64 0)) = .lit (.int .i64 ((f c).getD 0))) ∧ ∀ c, Maps.has D (litZ c) = (f c).isSome
theorem MpZ.none : MpZ (.map []) (fun _ => none) := ⟨isMap_empty, fun _ => rfl, fun _ => rfl⟩
theorem MpZ.put {D : DataW Unit} {f : Int → Option Int} (h : MpZ D f) (z : Int) (v : Int) : MpZ (D.put (litZ z) (.lit (.int .i64 v))) (fun c => if c = z then some v else f c) := by
  obtain ⟨h1, h2, h3⟩ := h
  refine ⟨h1.put _ _, fun c => ?_, fun c => ?_⟩
  · by_cases e : c = z
    · simp only [if_pos e]; rw [e, atKey_put_same h1 (k := litZ z) trivial]; rfl
    · simp only [if_neg e]; rw [atKey_put_other (litZ_ne e), h2]
  · by_cases e : c = z
    · simp only [if_pos e]; rw [e, has_put_same h1 (k := litZ z) trivial]; rfl
    · simp only [if_neg e]; rw [has_put_other (litZ_ne e), h3]
theorem MpZ.congr {D : DataW Unit} {f g : Int → Option Int} (h : MpZ D f) (e : ∀ c, f c = g c) : MpZ D g := by
  have : f = g := funext e
  rwa [← this]
theorem lawZ : Keyed Tryz.prog 3 := int_keyed Tryz.underlying3
theorem keyZ {c : Int} (h : i64 c) : keyOf Tryz.prog 3 (.int .i64 c) = some (litZ c) := keyOf_int_mk Tryz.underlying3 h
theorem mk_mapZ (W : World) : (Instr.makeMap 50 none).run Tryz.prog W = .ok (.map (some W.heap.size)) (W.alloc (.map #[] 0)) := by
  simp [Instr.makeMap, run_underlying Tryz.underlying50]
/-- The same of numbers. -/
def MapZ (w : World) (B b : Nat) (f : Int → Option Int) : Prop := ∃ m D, w.ownsMap Tryz.prog 3 (plainElem (H := Unit) Tryz.prog 3) b m D ∧ MpZ D f ∧ B ≤ b
def FpZ (w : World) (ss : List Int) (e : Ending) (w' : World) : Prop := ∃ b, e = .returned (.map (some b)) ∧ MapZ w' w.heap.size b (plcW ss) ∧ Below w.heap.size w w'
set_option maxRecDepth 100000 in
set_option maxHeartbeats 2000000 in
theorem firstZ_any {w : World} {a : Option Addr} {n c : Nat} {ss : List Int} (h : NR w a n c ss) (hn : n ≤ 16777216) :
    Calls Tryz.prog 100 #[.slice a n c] w fun e w' => FpZ w ss e w' := by
  obtain ⟨_, l1, b1, s1, r1⟩ := h
  have R1 := Lib.hid r1
  have L1 := Lib.hid l1
  have S1 := Lib.hid s1
  have mk := mk_mapZ
  have M0 := Lib.hid (World.ownsMap_made w Tryz.prog 3 (plainElem (H := Unit) Tryz.prog 3))
  have A0 := Lib.hid (allocBP w (.map #[] 0))
  clear l1 r1 s1
  go_enter Tryz.func100, Tryz.ntmps100
  go_wp2
  clear mk
  go_loopw [11] (fun t W => ∃ (k m : Nat) (D : DataW Unit), k ≤ n ∧ t = .int .i64 k ∧ m ≤ k ∧ W.ownsMap Tryz.prog 3 (plainElem (H := Unit) Tryz.prog 3) w.heap.size m D ∧ MpZ D (plcW (ss.take k)) ∧ Below w.heap.size w W) (fun t _ => n - (intOf t).toNat)
  case atStart => exact ⟨0, 0, _, by omega, rfl, by omega, M0.out, MpZ.none.congr (fun c => by simp [plcW]), A0.out⟩
  case round =>
    rename World => W
    obtain ⟨k, m, D, hk, rfl, hm, hM, hD, hB⟩ := hrel
    have MM := Lib.hid hM
    have DD := Lib.hid hD
    have BB := Lib.hid hB
    by_cases hlt : k < n
    · obtain ⟨x, o, rfl, hx, hc⟩ := R1.out.oneP (by omega)
      have c0 := hc k hlt 0 (by omega)
      simp only [Nat.mul_one, Nat.add_zero, List.getD_cons_zero] at c0
      have c1 : W.cell? ⟨x, o + k, none⟩ = some (.int .i64 (ss.getD k 0)) := (hB.cell (p := ⟨x, o + k, none⟩) hx).trans c0
      have kc : (k : Int) < (n : Int) := by omega
      have lk : k < ss.length := by rw [L1.out]; exact hlt
      have zs := S1.out (ss.getD k 0) (by rw [show ss.getD k 0 = ss[k]'lk by simp [List.getD, lk]]; exact List.getElem_mem lk)
      have TK := Lib.hid (p := ss.take (k + 1) = ss.take k ++ [ss.getD k 0]) (by rw [List.take_succ_eq_append_getElem lk]; simp [List.getD, lk])
      have TL := Lib.hid (p := (ss.take k).length = k) (by rw [List.length_take]; omega)
      generalize ss.getD k 0 = z at *
      have hkey := keyZ zs
      have HB0 := hD.2.2 z
      have PE := Lib.hid (plainElem_int (H := Unit) (P := Tryz.prog) Tryz.underlying3 (show (Lit.int .i64 (k : Int)).wf = true by simp [Lit.wf, IntKind.min, IntKind.max, IntKind.bits, IntKind.signed]; omega))
      clear hc c0 hM hD hB zs
      cases hp : plcW (ss.take k) z with
      | none =>
        have HB := Lib.hid (p := Maps.has D (litZ z) = false) (by rw [HB0, hp]; rfl)
        have ND := Lib.hid (p := MpZ (D.put (litZ z) (.lit (.int .i64 (k : Int)))) (plcW (ss.take (k + 1)))) ((DD.out.put z (k : Int)).congr (fun c => by
          rw [TK.out, plc_snoc, TL.out]
          by_cases e : c = z
          · rw [if_pos e, e, hp]; simp
          · rw [if_neg e]
            cases plcW (ss.take k) c with
            | none => simp [e]
            | some i => rfl))
        clear hp HB0
        go_wp2_with (first
          | (at_lookup; refine wpList_lookup_own_ok_int _ rfl _ _ 50 rfl 3 3 .i64 lawZ Tryz.underlying50 Tryz.underlying3 (zeroJ _) w.heap.size m _ rfl MM.out _ _ rfl hkey ?_; intro q hat hwc; rw [HB.out]; clear hat hwc)
          | (at_mapUpdate; refine wpList_mapUpdate_own _ rfl _ _ _ 50 rfl 3 3 lawZ Tryz.underlying50 _ w.heap.size m _ rfl MM.out (by unfold maxLen; omega) _ _ _ rfl rfl hkey _ [] PE.out ?_; intro w3 o3 g3; have O3 := Lib.hid o3; have B3 := Lib.hid (BB.out.grown g3 BB.out.size (fun k e => by cases e; exact Nat.le_refl _)); clear o3 g3))
        go_roundw
        case rel => exact ⟨k + 1, m + 1, _, by omega, by go_num, by omega, O3.out, ND.out, B3.out⟩
        case measure => simp [intOf]; omega
      | some i =>
        have HB := Lib.hid (p := Maps.has D (litZ z) = true) (by rw [HB0, hp]; rfl)
        have ND := Lib.hid (p := MpZ D (plcW (ss.take (k + 1)))) (DD.out.congr (fun c => by
          rw [TK.out, plc_snoc]
          by_cases e : c = z
          · rw [e, hp]
          · cases plcW (ss.take k) c with
            | none => simp [e]
            | some i => rfl))
        clear hp HB0
        go_wp2_with (at_lookup; refine wpList_lookup_own_ok_int _ rfl _ _ 50 rfl 3 3 .i64 lawZ Tryz.underlying50 Tryz.underlying3 (zeroJ _) w.heap.size m _ rfl MM.out _ _ rfl hkey ?_; intro q hat hwc; rw [HB.out]; clear hat hwc)
        go_roundw
        case rel => exact ⟨k + 1, m, _, by omega, by go_num, by omega, MM.out, ND.out, BB.out⟩
        case measure => simp [intOf]; omega
    · obtain rfl : k = n := by omega
      have E := Lib.hid (p := MpZ D (plcW ss)) (by have := DD.out; rwa [List.take_of_length_le (by rw [L1.out]; exact Nat.le_refl _)] at this)
      clear hM hD hB
      go_wp2
      go_ret
      exact ⟨_, rfl, ⟨m, D, MM.out, E.out, Nat.le_refl _⟩, BB.out⟩
end Go.Proofs.YtccjeipkljdhdaaGreatDoor
