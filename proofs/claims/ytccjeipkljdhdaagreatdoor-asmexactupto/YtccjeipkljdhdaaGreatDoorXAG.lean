import Derived.Test.YtccjeipkljdhdaaGreatDoorXAF
import Derived.Laws.AppendOwn
import Derived.Laws.AppendOwnNone
import Derived.Laws.OwnMore
import Derived.Maps.AppendAt
import Derived.OpenShut
import Derived.Test.YtccjeipkljdhdaaGreatDoorXAE
namespace Go.Proofs.YtccjeipkljdhdaaGreatDoor
open Go.RowKit Lx
set_option linter.unusedVariables false
set_option linter.unusedSimpArgs false

theorem infoStr : (Tryz.prog.info? 9).map (fun i => (i.zero, i.size, i.bytes)) = some (some (.string ⟨#[]⟩), 1, 16) := by kernel_rfl
theorem toList_lst (b : ByteArray) : b.toList = lst b := by obtain ⟨⟨l⟩⟩ := b; rw [ByteArray.toList_mk]; rfl
theorem head_l {s : ByteArray} (h0 : 0 < s.size) : (List.headD (lst s) 0).toNat = s[0].toNat := by
  rw [← nth_lst h0]
  cases hl : lst s <;> rfl
theorem allrn_of {s : ByteArray} (h : run (lst s) = lst s) : ∀ i, i < s.size → rnN (nthN (lst s) i) = true := fun i hi => run_in (by rw [h, lst_len]; exact hi)
theorem namV_err {p : Nat → Bool} {k : Int} {l : L} {a : Nat} : (namV p k l a).2.2 = (nameE p l).2 := by
  unfold namV; split
  · rename_i h; rw [h]
  · rfl
set_option maxHeartbeats 2000000 in
theorem rcapitalName_any (s : ByteArray) (w : World) (hs : s.size ≤ 9223372036854775807) : Calls Tryz.prog 87 #[.string s] w fun e w' => e = .returned (.bool (nameB cpN (lst s))) ∧ Below w.heap.size w w' := by
  by_cases h0 : s.size = 0
  · have e0 : (lst s).isEmpty = true := by
      have := lst_len s
      cases hl : lst s with
      | nil => rfl
      | cons c q => rw [hl] at this; simp at this; omega
    have e1 : s.toList.isEmpty = true := by rw [isEmpty_lst]; exact e0
    have nb : nameB cpN (lst s) = false := by unfold nameB; rw [e0]; rfl
    rw [show (nameB cpN (lst s)) = false by rw [nb]]
    clear e0 nb
    go_enter Tryz.func87, Tryz.ntmps87
    go_wp2
    go_ret
    exact ⟨rfl, Below.refl _ _⟩
  · have h1 : 0 < s.size := by omega
    have e0 : (lst s).isEmpty = false := by
      have := lst_len s
      cases hl : lst s with
      | nil => rw [hl] at this; simp at this; omega
      | cons c q => rfl
    have e1 : s.toList.isEmpty = false := by rw [isEmpty_lst]; exact e0
    have EH := head_l h1
    have KL := Lib.hid (fun W => rcapital_any (s[0].toNat) W)
    have NB : nameB cpN (lst s) = (cpN (s[0].toNat) && decide ((nameE cpN (lst s)).2 = 0)) := by unfold nameB; rw [e0, EH]; rfl
    cases hp : cpN (s[0].toNat) with
    | false =>
      rw [hp] at KL NB
      rw [show (nameB cpN (lst s)) = false by rw [NB]; rfl]
      clear e0 EH NB hp
      go_enter Tryz.func87, Tryz.ntmps87
      go_wp2_with (go_at_call 111; refine (KL.out _).mono ?_; rintro e w1 ⟨rfl, rfl⟩)
      go_ret
      exact ⟨rfl, Below.refl _ _⟩
    | true =>
      rw [hp] at KL NB
      rw [Bool.true_and] at NB
      have KR := Lib.hid (fun W => rrun_any s 0 W hs (by omega))
      rw [List.drop_zero] at KR
      change RowKit.Hid (∀ W, Calls Tryz.prog 112 #[.string s, .int .i64 0] W fun e w' => e = .returned (.string (bs (run (lst s)))) ∧ w' = W) at KR
      by_cases hr : run (lst s) = lst s
      · have hcp : cpN (nthN (lst s) 0) = true := by rw [nth_lst h1]; exact hp
        have KN := Lib.hid (fun W => rnames_capital s 0 W h1 (by omega) (allrn_of hr) hcp)
        rw [hr, bs_lst] at KR
        have VE := namV_err (p := cpN) (k := 2) (l := lst s) (a := 0)
        change RowKit.Hid (∀ W, Calls Tryz.prog 113 #[.string s, .int .i64 0] W fun e w' => e = trEnd (namV cpN 2 (lst s) 0) ∧ Below W.heap.size W w') at KN
        generalize namV cpN 2 (lst s) 0 = V at *
        obtain ⟨T0, P, E⟩ := V
        obtain ⟨tk, tt, ta, tn, ty, tm, td, tnn, tu⟩ := T0
        simp only at VE
        simp only [trEnd, tokR] at KN
        generalize bs tt = st at *
        skip
        by_cases he : E = 0
        · subst he
          have NB' : nameB cpN (lst s) = true := by rw [NB, ← VE]; rfl
          rw [show (nameB cpN (lst s)) = true by rw [NB']]
          clear e0 EH NB hp hr hcp VE NB' 
          go_enter Tryz.func87, Tryz.ntmps87
          go_wp2_with (first | (go_at_call 111; refine (KL.out _).mono ?_; rintro e w1 ⟨rfl, hw⟩; have hw' := hw.symm; clear hw; subst hw') | (go_at_call 112; refine (KR.out _).mono ?_; rintro e w1 ⟨rfl, hw⟩; have hw' := hw.symm; clear hw; subst hw') | (go_at_call 113; refine (KN.out _).mono ?_; rintro e w2 ⟨rfl, b2⟩; have B2 := Lib.hid (b2.alloc b2.size (.cells #[.int .i64 tk, .string st, .int .i64 ta, .int .i64 tn, .int .i64 ty, .int .i64 tm, .int .i64 td, .int .i64 tnn, .int .i64 tu] 159)); clear b2))
          go_ret
          exact ⟨rfl, B2.out⟩
        · have NB' : nameB cpN (lst s) = false := by rw [NB, ← VE]; exact decide_eq_false he
          rw [show (nameB cpN (lst s)) = false by rw [NB']]
          have er0 : (E == 0) = false := by rw [beq_eq_false_iff_ne]; exact he
          clear e0 EH NB hp hr hcp VE NB' 
          go_enter Tryz.func87, Tryz.ntmps87
          go_wp2_with (first | (go_at_call 111; refine (KL.out _).mono ?_; rintro e w1 ⟨rfl, hw⟩; have hw' := hw.symm; clear hw; subst hw') | (go_at_call 112; refine (KR.out _).mono ?_; rintro e w1 ⟨rfl, hw⟩; have hw' := hw.symm; clear hw; subst hw') | (go_at_call 113; refine (KN.out _).mono ?_; rintro e w2 ⟨rfl, b2⟩; have B2 := Lib.hid (b2.alloc b2.size (.cells #[.int .i64 tk, .string st, .int .i64 ta, .int .i64 tn, .int .i64 ty, .int .i64 tm, .int .i64 td, .int .i64 tnn, .int .i64 tu] 159)); clear b2))
          go_ret
          exact ⟨by simp [he], B2.out⟩
      · have NB' : nameB cpN (lst s) = false := by
          rw [NB]; refine decide_eq_false (fun h => hr (run_name (fun c => rn_cp) h))
        rw [show (nameB cpN (lst s)) = false by rw [NB']]
        have ne : ((bs (run (lst s))).toList == s.toList) = false := by rw [beq_eq_false_iff_ne, toList_lst, toList_lst, lst_bs]; exact hr
        have ne' : ¬ (bs (run (lst s))).toList = s.toList := by rw [toList_lst, toList_lst, lst_bs]; exact hr
        generalize bs (run (lst s)) = sR at *
        clear e0 EH NB hp hr NB'
        go_enter Tryz.func87, Tryz.ntmps87
        go_wp2_with (first | (go_at_call 111; refine (KL.out _).mono ?_; rintro e w1 ⟨rfl, hw⟩; have hw' := hw.symm; clear hw; subst hw') | (go_at_call 112; refine (KR.out _).mono ?_; rintro e w1 ⟨rfl, hw⟩; have hw' := hw.symm; clear hw; subst hw'))
        go_ret
        exact ⟨rfl, Below.refl _ _⟩
set_option maxHeartbeats 1000000 in
theorem rcurrency_any (s : ByteArray) (w : World) : Calls Tryz.prog 88 #[.string s] w fun e w' => e = .returned (.bool (curB (lst s))) ∧ w' = w := by
  by_cases h3 : s.size = 3
  · have h3' : (s.size : Int) = 3 := by omega
    have hb : ((s.size : Int) == 3) = true := by rw [h3]; rfl
    have z0 : 0 < s.size := by omega
    have z1 : 1 < s.size := by omega
    have z2 : 2 < s.size := by omega
    have EC : curB (lst s) = (cpN (s[0]'z0).toNat && cpN (s[1]'z1).toNat && cpN (s[2]'z2).toNat) := by rw [three_of h3]; rfl
    rw [EC]
    clear EC
    have K0 := Lib.hid (fun W => rcapital_any (s[0].toNat) W)
    have K1 := Lib.hid (fun W => rcapital_any (s[1].toNat) W)
    have K2 := Lib.hid (fun W => rcapital_any (s[2].toNat) W)
    cases c0 : cpN (s[0].toNat) with
    | false =>
      rw [c0] at K0
      clear h3 h3'
      go_enter Tryz.func88, Tryz.ntmps88
      go_wp2_with (go_at_call 111; refine (K0.out _).mono ?_; rintro e w1 ⟨rfl, rfl⟩)
      go_ret
      exact ⟨rfl, rfl⟩
    | true =>
      rw [c0] at K0
      cases c1 : cpN (s[1].toNat) with
      | false =>
        rw [c1] at K1
        clear h3 h3'
        go_enter Tryz.func88, Tryz.ntmps88
        go_wp2_with (first
          | (go_at_call 111; have qq := K0; refine (K0.out _).mono ?_; rintro e w1 ⟨rfl, rfl⟩; clear K0)
          | (go_at_call 111; refine (K1.out _).mono ?_; rintro e w1 ⟨rfl, rfl⟩))
        go_ret
        exact ⟨rfl, rfl⟩
      | true =>
        rw [c1] at K1
        generalize cpN (s[2].toNat) = b2 at *
        clear h3 h3'
        go_enter Tryz.func88, Tryz.ntmps88
        go_wp2_with (first
          | (go_at_call 111; have qq := K0; refine (K0.out _).mono ?_; rintro e w1 ⟨rfl, rfl⟩; clear K0)
          | (go_at_call 111; have qq := K1; refine (K1.out _).mono ?_; rintro e w1 ⟨rfl, rfl⟩; clear K1)
          | (go_at_call 111; refine (K2.out _).mono ?_; rintro e w1 ⟨rfl, rfl⟩))
        go_ret
        exact ⟨rfl, rfl⟩
  · have h3' : ¬ (s.size : Int) = 3 := by omega
    have hb : ((s.size : Int) == 3) = false := by rw [beq_eq_false_iff_ne]; exact h3'
    have e : curB (lst s) = false := by
      have := lst_len s
      match hl : lst s with
      | [] => rfl
      | [a] => rfl
      | [a, b] => rfl
      | [a, b, c] => rw [hl] at this; simp at this; omega
      | a :: b :: c :: d :: q => rfl
    rw [e]
    clear e h3
    go_enter Tryz.func88, Tryz.ntmps88
    go_wp2
    go_ret
    exact ⟨rfl, rfl⟩
end Go.Proofs.YtccjeipkljdhdaaGreatDoor

namespace Go.Proofs.YtccjeipkljdhdaaGreatDoor
open Go.RowKit
set_option linter.unusedVariables false
set_option linter.unusedSimpArgs false
theorem Row.oneP {w : World} {a : Option Addr} {n k : Nat} {V : Nat → List Value} (h : Row w a n k V) : 0 < n → ∃ x o, a = some ⟨x, o, none⟩ ∧ x < w.heap.size ∧ ∀ i, i < n → ∀ j, j < k → w.cell? ⟨x, o + i * k + j, none⟩ = some ((V i).getD j default) := by
  intro h0
  rcases h with h | h
  · omega
  · exact h
def capP (s : ByteArray) : Bool := Lx.nameB Lx.cpN (lst s)
def curP (s : ByteArray) : Bool := Lx.curB (lst s)
theorem all_of {α : Type} [Inhabited α] {P : α → Bool} {l : List α} (h : ∀ i, i < l.length → P (l.getD i default) = true) : l.all P = true := by
  rw [List.all_eq_true]
  intro x hx
  obtain ⟨i, hi, rfl⟩ := List.getElem_of_mem hx
  have := h i hi
  simpa [List.getD, hi] using this
theorem not_all {α : Type} [Inhabited α] {P : α → Bool} {l : List α} {i : Nat} (hi : i < l.length) (h : P (l.getD i default) = false) : l.all P = false := by
  rw [List.all_eq_false]
  refine ⟨l[i], List.getElem_mem hi, ?_⟩
  have e : l.getD i default = l[i] := by simp [List.getD, hi]
  rw [e] at h
  simp [h]
theorem tx_mem {l : List ByteArray} {i : Nat} (h : i < l.length) : l.getD i default ∈ l := by
  rw [List.getD_eq_getElem?_getD, List.getElem?_eq_getElem h, Option.getD_some]; exact List.getElem_mem h
theorem cap_c (s : ByteArray) (h : s.size ≤ 140737488351232) (W : World) : Calls Tryz.prog 76 #[.string s] W fun e w' => e = .returned (.bool (capP s)) ∧ w' = W := capital_any s W (by omega)
theorem cur_c (s : ByteArray) (h : s.size ≤ 140737488351232) (W : World) : Calls Tryz.prog 78 #[.string s] W fun e w' => e = .returned (.bool (curP s)) ∧ w' = W := currency_any s W
theorem litC_any (s : ByteArray) (hs : s.size ≤ 140737488351232) (pb : Nat) (w : World) (hp : w.cell? ⟨pb, 0, none⟩ = some (.func (.func 76) #[] #[])) :
    Calls Tryz.prog 103 #[.string s, .pointer (some ⟨pb, 0, none⟩)] w fun e w' => e = .returned (.bool (!(capP s))) ∧ w' = w := by
  have KC := Lib.hid (cap_c s hs w)
  go_enter Tryz.func103, Tryz.ntmps103
  go_wp2_with (go_at_call 76; refine KC.out.mono ?_; rintro e w1 ⟨rfl, h2⟩; subst h2)
  go_ret
  exact ⟨rfl, rfl⟩
set_option maxRecDepth 100000 in
set_option maxHeartbeats 1000000 in
theorem indexC_any {w : World} {a : Option Addr} {n c : Nat} {ss : List ByteArray} (pb : Nat) (h : SR w a n c ss) (hp : w.cell? ⟨pb, 0, none⟩ = some (.func (.func 76) #[] #[])) :
    Calls Tryz.prog 120 #[.slice a n c, .func (.func 103) #[] #[.pointer (some ⟨pb, 0, none⟩)]] w fun e w' => (∃ i : Int, e = .returned (.int .i64 i) ∧ (ss.all capP = true → i = -1) ∧ (ss.all capP = false → 0 ≤ i)) ∧ w' = w := by
  obtain ⟨_, l1, b1, s1, r1⟩ := h
  have R1 := Lib.hid r1
  have L1 := Lib.hid l1
  have S1 := Lib.hid s1
  clear l1 r1 s1
  go_enter Tryz.func120, Tryz.ntmps120
  go_wp2
  go_loopw [8] (fun t wr => ∃ k : Nat, k ≤ n ∧ t = .int .i64 k ∧ RowKit.Hid (∀ i, i < k → capP (ss.getD i default) = true) ∧ w = wr) (fun t _ => n - (intOf t).toNat)
  case atStart => exact ⟨0, by omega, rfl, fun i hi => absurd hi (by omega), rfl⟩
  case round =>
    obtain ⟨k, hk, rfl, hE, rfl⟩ := hrel
    by_cases hlt : k < n
    · obtain ⟨x, o, rfl, _, hc⟩ := R1.out.oneP (by omega)
      have c0 := hc k hlt 0 (by omega)
      simp only [Nat.mul_one, Nat.add_zero, List.getD_cons_zero] at c0
      have kc : (k : Int) < (n : Int) := by omega
      have KC := Lib.hid (litC_any (ss.getD k default) (S1.out _ (tx_mem (by rw [L1.out]; exact hlt))) pb w hp)
      have NX := Lib.hid (p := capP (ss.getD k default) = true → ∀ i, i < k + 1 → capP (ss.getD i default) = true) (fun e i hi => by
        rcases (show i < k ∨ i = k by omega) with r | r
        · exact hE.out i r
        · rw [r]; exact e)
      have NA := Lib.hid (p := capP (ss.getD k default) = false → ss.all capP = false) (fun e => not_all (by rw [L1.out]; exact hlt) e)
      clear hc hE
      generalize ss.getD k default = z at *
      cases hb : capP z with
      | true =>
        rw [hb] at KC NX
        go_wp2_with (go_at_call 103; refine KC.out.mono ?_; rintro e w1 ⟨rfl, h2⟩; subst h2)
        go_roundw
        case rel => exact ⟨k + 1, by omega, by go_num, NX.out (by first | rfl | trivial), by first | rfl | trivial⟩
        case measure => simp [intOf]; omega
      | false =>
        rw [hb] at KC NA
        go_wp2_with (go_at_call 103; refine KC.out.mono ?_; rintro e w1 ⟨rfl, h2⟩; subst h2)
        go_ret
        exact ⟨⟨_, rfl, (fun e => by rw [NA.out (by first | rfl | trivial)] at e; cases e), (fun _ => by omega)⟩, rfl⟩
    · obtain rfl : k = n := by omega
      have AA := Lib.hid (p := ss.all capP = true) (all_of (fun i hi => hE.out i (by rw [L1.out] at hi; exact hi)))
      clear hE
      go_wp2
      go_ret
      exact ⟨⟨_, rfl, (fun _ => rfl), (fun e => by rw [AA.out] at e; cases e)⟩, rfl⟩
set_option maxRecDepth 100000 in
theorem containsC_any {w : World} {a : Option Addr} {n c : Nat} {ss : List ByteArray} (pb : Nat) (h : SR w a n c ss) (hp : w.cell? ⟨pb, 0, none⟩ = some (.func (.func 76) #[] #[])) :
    Calls Tryz.prog 102 #[.slice a n c, .func (.func 103) #[] #[.pointer (some ⟨pb, 0, none⟩)]] w fun e w' => e = .returned (.bool (!(ss.all capP))) ∧ w' = w := by
  have KI := Lib.hid (indexC_any pb h hp)
  clear h hp
  cases hb : ss.all capP with
  | true =>
    rw [hb] at KI
    go_enter Tryz.func102, Tryz.ntmps102
    go_wp2_with (go_at_call 120; refine KI.out.mono ?_; rintro e w1 ⟨⟨i, rfl, h1, _⟩, h2⟩; subst h2; obtain rfl := h1 rfl)
    go_ret
    exact ⟨rfl, rfl⟩
  | false =>
    rw [hb] at KI
    go_enter Tryz.func102, Tryz.ntmps102
    go_wp2_with (go_at_call 120; refine KI.out.mono ?_; rintro e w1 ⟨⟨i, rfl, _, h1⟩, h2⟩; subst h2; have i0 := h1 rfl; have i1 : decide (0 ≤ i) = true := decide_eq_true i0; clear h1)
    go_ret
    exact ⟨by first | rfl | simp [i1], rfl⟩
set_option maxRecDepth 100000 in
theorem eachC_any {w : World} {a : Option Addr} {n c : Nat} {ss : List ByteArray} (h : SR w a n c ss) :
    Calls Tryz.prog 75 #[.slice a n c, .func (.func 76) #[] #[]] w fun e w' => e = .returned (.bool (ss.all capP)) ∧ Below w.heap.size w w' := by
  have KC := Lib.hid (containsC_any w.heap.size (h.later (allocBP w (.cells #[.func (.func 76) #[] #[]] 35))) (by simp))
  clear h
  go_enter Tryz.func75, Tryz.ntmps75
  go_wp2_with (go_at_call 102; refine KC.out.mono ?_; rintro e w1 ⟨rfl, h2⟩; subst h2)
  go_ret
  exact ⟨by simp, allocBP w _⟩
theorem litU_any (s : ByteArray) (hs : s.size ≤ 140737488351232) (pb : Nat) (w : World) (hp : w.cell? ⟨pb, 0, none⟩ = some (.func (.func 78) #[] #[])) :
    Calls Tryz.prog 103 #[.string s, .pointer (some ⟨pb, 0, none⟩)] w fun e w' => e = .returned (.bool (!(curP s))) ∧ w' = w := by
  have KC := Lib.hid (cur_c s hs w)
  go_enter Tryz.func103, Tryz.ntmps103
  go_wp2_with (go_at_call 78; refine KC.out.mono ?_; rintro e w1 ⟨rfl, h2⟩; subst h2)
  go_ret
  exact ⟨rfl, rfl⟩
set_option maxRecDepth 100000 in
set_option maxHeartbeats 1000000 in
theorem indexU_any {w : World} {a : Option Addr} {n c : Nat} {ss : List ByteArray} (pb : Nat) (h : SR w a n c ss) (hp : w.cell? ⟨pb, 0, none⟩ = some (.func (.func 78) #[] #[])) :
    Calls Tryz.prog 120 #[.slice a n c, .func (.func 103) #[] #[.pointer (some ⟨pb, 0, none⟩)]] w fun e w' => (∃ i : Int, e = .returned (.int .i64 i) ∧ (ss.all curP = true → i = -1) ∧ (ss.all curP = false → 0 ≤ i)) ∧ w' = w := by
  obtain ⟨_, l1, b1, s1, r1⟩ := h
  have R1 := Lib.hid r1
  have L1 := Lib.hid l1
  have S1 := Lib.hid s1
  clear l1 r1 s1
  go_enter Tryz.func120, Tryz.ntmps120
  go_wp2
  go_loopw [8] (fun t wr => ∃ k : Nat, k ≤ n ∧ t = .int .i64 k ∧ RowKit.Hid (∀ i, i < k → curP (ss.getD i default) = true) ∧ w = wr) (fun t _ => n - (intOf t).toNat)
  case atStart => exact ⟨0, by omega, rfl, fun i hi => absurd hi (by omega), rfl⟩
  case round =>
    obtain ⟨k, hk, rfl, hE, rfl⟩ := hrel
    by_cases hlt : k < n
    · obtain ⟨x, o, rfl, _, hc⟩ := R1.out.oneP (by omega)
      have c0 := hc k hlt 0 (by omega)
      simp only [Nat.mul_one, Nat.add_zero, List.getD_cons_zero] at c0
      have kc : (k : Int) < (n : Int) := by omega
      have KC := Lib.hid (litU_any (ss.getD k default) (S1.out _ (tx_mem (by rw [L1.out]; exact hlt))) pb w hp)
      have NX := Lib.hid (p := curP (ss.getD k default) = true → ∀ i, i < k + 1 → curP (ss.getD i default) = true) (fun e i hi => by
        rcases (show i < k ∨ i = k by omega) with r | r
        · exact hE.out i r
        · rw [r]; exact e)
      have NA := Lib.hid (p := curP (ss.getD k default) = false → ss.all curP = false) (fun e => not_all (by rw [L1.out]; exact hlt) e)
      clear hc hE
      generalize ss.getD k default = z at *
      cases hb : curP z with
      | true =>
        rw [hb] at KC NX
        go_wp2_with (go_at_call 103; refine KC.out.mono ?_; rintro e w1 ⟨rfl, h2⟩; subst h2)
        go_roundw
        case rel => exact ⟨k + 1, by omega, by go_num, NX.out (by first | rfl | trivial), by first | rfl | trivial⟩
        case measure => simp [intOf]; omega
      | false =>
        rw [hb] at KC NA
        go_wp2_with (go_at_call 103; refine KC.out.mono ?_; rintro e w1 ⟨rfl, h2⟩; subst h2)
        go_ret
        exact ⟨⟨_, rfl, (fun e => by rw [NA.out (by first | rfl | trivial)] at e; cases e), (fun _ => by omega)⟩, rfl⟩
    · obtain rfl : k = n := by omega
      have AA := Lib.hid (p := ss.all curP = true) (all_of (fun i hi => hE.out i (by rw [L1.out] at hi; exact hi)))
      clear hE
      go_wp2
      go_ret
      exact ⟨⟨_, rfl, (fun _ => rfl), (fun e => by rw [AA.out] at e; cases e)⟩, rfl⟩
set_option maxRecDepth 100000 in
theorem containsU_any {w : World} {a : Option Addr} {n c : Nat} {ss : List ByteArray} (pb : Nat) (h : SR w a n c ss) (hp : w.cell? ⟨pb, 0, none⟩ = some (.func (.func 78) #[] #[])) :
    Calls Tryz.prog 102 #[.slice a n c, .func (.func 103) #[] #[.pointer (some ⟨pb, 0, none⟩)]] w fun e w' => e = .returned (.bool (!(ss.all curP))) ∧ w' = w := by
  have KI := Lib.hid (indexU_any pb h hp)
  clear h hp
  cases hb : ss.all curP with
  | true =>
    rw [hb] at KI
    go_enter Tryz.func102, Tryz.ntmps102
    go_wp2_with (go_at_call 120; refine KI.out.mono ?_; rintro e w1 ⟨⟨i, rfl, h1, _⟩, h2⟩; subst h2; obtain rfl := h1 rfl)
    go_ret
    exact ⟨rfl, rfl⟩
  | false =>
    rw [hb] at KI
    go_enter Tryz.func102, Tryz.ntmps102
    go_wp2_with (go_at_call 120; refine KI.out.mono ?_; rintro e w1 ⟨⟨i, rfl, _, h1⟩, h2⟩; subst h2; have i0 := h1 rfl; have i1 : decide (0 ≤ i) = true := decide_eq_true i0; clear h1)
    go_ret
    exact ⟨by first | rfl | simp [i1], rfl⟩
set_option maxRecDepth 100000 in
theorem eachU_any {w : World} {a : Option Addr} {n c : Nat} {ss : List ByteArray} (h : SR w a n c ss) :
    Calls Tryz.prog 75 #[.slice a n c, .func (.func 78) #[] #[]] w fun e w' => e = .returned (.bool (ss.all curP)) ∧ Below w.heap.size w w' := by
  have KC := Lib.hid (containsU_any w.heap.size (h.later (allocBP w (.cells #[.func (.func 78) #[] #[]] 35))) (by simp))
  clear h
  go_enter Tryz.func75, Tryz.ntmps75
  go_wp2_with (go_at_call 102; refine KC.out.mono ?_; rintro e w1 ⟨rfl, h2⟩; subst h2)
  go_ret
  exact ⟨by simp, allocBP w _⟩
end Go.Proofs.YtccjeipkljdhdaaGreatDoor
