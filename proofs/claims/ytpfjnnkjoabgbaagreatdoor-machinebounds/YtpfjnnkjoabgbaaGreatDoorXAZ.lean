import Derived.Test.YtpfjnnkjoabgbaaGreatDoorXAR
import Derived.Test.YtpfjnnkjoabgbaaGreatDoorXAY
import Derived.Test.YtpfjnnkjoabgbaaGreatDoorXAT
import Derived.Test.YtpfjnnkjoabgbaaGreatDoorXAJ
import Derived.Laws.AppendOwnNone
namespace Go.Proofs.YtpfjnnkjoabgbaaGreatDoor
open Go.RowKit
set_option linter.unusedVariables false
set_option linter.unusedSimpArgs false
def stV (l : List ByteArray) (i : Nat) : List Value := [.string (l.getD i default)]
def nuV (l : List Int) (i : Nat) : List Value := [.int .i64 (l.getD i 0)]
theorem flatV_st (l : List ByteArray) : l.map Value.string = flatV l.length (stV l) := by
  apply List.ext_getElem?
  intro j
  by_cases h : j < l.length
  · have := flatV_at (k := 1) (by omega) (stV l) l.length (fun _ _ => rfl) j h 0 (by omega)
    rw [Nat.mul_one, Nat.add_zero] at this
    rw [this]
    simp [stV, List.getD, h]
  · rw [List.getElem?_eq_none (by simp; omega), List.getElem?_eq_none (by rw [flatV_len (k := 1) (stV l) l.length (fun _ _ => rfl)]; omega)]
theorem flatV_nu (l : List Int) : zcs l = flatV l.length (nuV l) := by
  apply List.ext_getElem?
  intro j
  by_cases h : j < l.length
  · have := flatV_at (k := 1) (by omega) (nuV l) l.length (fun _ _ => rfl) j h 0 (by omega)
    rw [Nat.mul_one, Nat.add_zero] at this
    rw [this]
    simp [nuV, zcs, List.getD, h]
  · rw [List.getElem?_eq_none (by simp [zcs]; omega), List.getElem?_eq_none (by rw [flatV_len (k := 1) (nuV l) l.length (fun _ _ => rfl)]; omega)]
/-- An own row, as a list in memory; it stays as long as its block does. -/
theorem own_list {w : World} {B n k : Nat} {t : TypeId} {v : Value} {V : Nat → List Value} (hk : 0 < k) (hV : ∀ i, i < n → (V i).length = k) (h : w.ownsRow B t k v n (flatV n V)) : ∃ a cap, v = .slice a n cap ∧ Hd a n cap ∧ ∀ W, (∀ g, v.ownBlock = some g → W.heap[g]? = w.heap[g]?) → Row W a n k V := by
  rcases h.2 with ⟨rfl, h0⟩ | ⟨g, cap, cur, rfl, e2, e3, e4, e5, e6, e7⟩
  · subst h0
    exact ⟨none, 0, rfl, ⟨fun _ => ⟨rfl, rfl⟩, Nat.le_refl _, Nat.zero_le _⟩, fun W _ => .inl rfl⟩
  · refine ⟨some ⟨g, 0, none⟩, cap, rfl, ⟨fun z => (by cases z), e4, e5⟩, fun W hW => .inr ⟨g, 0, rfl, ?_, ?_⟩⟩
    · have := (hW g rfl).trans e3
      exact (Array.getElem?_eq_some_iff.1 this).1
    · exact (own_row hk hV (own_blkG h hW)).2.2.2.2.2
set_option maxRecDepth 100000 in
theorem cloneS_any {w : World} {a : Option Addr} {n c : Nat} {l : List ByteArray} (h : SR w a n c l) : Calls Tryz.prog 40 #[.slice a n c] w fun e w' => ∃ v', e = .returned v' ∧ w'.ownsRow w.heap.size 9 1 v' n (flatV n (stV l)) ∧ Below w.heap.size w w' := by
  obtain ⟨h1, h2, h3, h4, h5⟩ := h
  subst h2
  cases a with
  | none =>
    obtain ⟨z1, z2⟩ := h1.1 rfl
    have : l = [] := List.length_eq_zero_iff.1 z1
    subst this
    refine (Tryz.slices_Clone_string_nil 0 c w).mono ?_
    rintro e w' ⟨rfl, rfl⟩
    exact ⟨_, rfl, World.ownsRow_nil _ _ _ _, Below.refl _ _⟩
  | some ad =>
    rcases h5 with h5 | ⟨b, o, e, hb, hc⟩
    · have : l = [] := List.length_eq_zero_iff.1 h5
      subst this
      refine (Tryz.slices_Clone_string_zero ad c w).mono ?_
      rintro e w' ⟨v', rfl, q1, _, q2⟩
      exact ⟨_, rfl, q1, q2⟩
    · injection e with e
      subst e
      refine (Tryz.slices_Clone_string b o l.length c l w (Nat.le_refl _) (by omega) ?_).mono ?_
      · intro j hj
        have := hc j hj 0 (by omega)
        rw [Nat.mul_one, Nat.add_zero] at this
        rw [this]
        rfl
      · rintro e w' ⟨v', rfl, q1, _, q2⟩
        rw [List.take_length, flatV_st] at q1
        exact ⟨_, rfl, q1, q2⟩
set_option maxRecDepth 100000 in
theorem cloneN_any {w : World} {a : Option Addr} {n c : Nat} {l : List Int} (h : NR w a n c l) : Calls Tryz.prog 41 #[.slice a n c] w fun e w' => ∃ v', e = .returned v' ∧ w'.ownsRow w.heap.size 3 1 v' n (flatV n (nuV l)) ∧ Below w.heap.size w w' := by
  obtain ⟨h1, h2, h3, h4, h5⟩ := h
  subst h2
  cases a with
  | none =>
    obtain ⟨z1, z2⟩ := h1.1 rfl
    have : l = [] := List.length_eq_zero_iff.1 z1
    subst this
    refine (Tryz.slices_Clone_int_nil 0 c w).mono ?_
    rintro e w' ⟨rfl, rfl⟩
    exact ⟨_, rfl, World.ownsRow_nil _ _ _ _, Below.refl _ _⟩
  | some ad =>
    rcases h5 with h5 | ⟨b, o, e, hb, hc⟩
    · have : l = [] := List.length_eq_zero_iff.1 h5
      subst this
      refine (Tryz.slices_Clone_int_zero ad c w).mono ?_
      rintro e w' ⟨v', rfl, q1, _, q2⟩
      exact ⟨_, rfl, q1, q2⟩
    · injection e with e
      subst e
      refine (Tryz.slices_Clone_int b o l.length c l w (Nat.le_refl _) (by omega) ?_).mono ?_
      · intro j hj
        have := hc j hj 0 (by omega)
        rw [Nat.mul_one, Nat.add_zero] at this
        rw [this]
        rfl
      · rintro e w' ⟨v', rfl, q1, _, q2⟩
        rw [List.take_length] at q1
        have e : l.map (fun n => Value.int IntKind.i64 n) = flatV l.length (nuV l) := flatV_nu l
        exact ⟨_, rfl, by rw [← e]; exact q1, q2⟩
set_option maxRecDepth 100000 in
set_option maxHeartbeats 1600000 in
theorem cloneI_any {w : World} {a : Option Addr} {n c : Nat} {l : List In} (h : IR w a n c l) : Calls Tryz.prog 43 #[.slice a n c] w fun e w' => ∃ v', e = .returned v' ∧ w'.ownsRow w.heap.size 68 3 v' n (flatV n (inW l)) ∧ Below w.heap.size w w' := by
  obtain ⟨h1, h2, h3, h4, h5⟩ := h
  obtain ⟨i0, hi, hz0, hz1, hz2⟩ := info_parts infoIn
  cases a with
  | none =>
    obtain ⟨rfl, rfl⟩ := h1.1 rfl
    have N := Lib.hid (World.ownsRow_nil w w.heap.size 68 3)
    have nn : ∀ W, (binOp .eql 69 (.slice none 0 0) (.slice none 0 0)).run Tryz.prog W = .ok (.bool true) W := fun W => Lib.run_eql_slice_nil W 69 68 none 0 0 0 0 (by kernel_rfl)
    go_enter Tryz.func43, Tryz.ntmps43
    go_wp2
    go_ret
    exact ⟨_, rfl, N.out, Below.refl _ _⟩
  | some ad =>
    have nn : ∀ W, (binOp .eql 69 (.slice (some ad) n c) (.slice none 0 0)).run Tryz.prog W = .ok (.bool false) W := fun W => Lib.run_eql_slice_nil W 69 68 (some ad) n c 0 0 (by kernel_rfl)
    have nw : ∀ j u, (flatV n (inW l))[j]? = some u → (w.alloc (.cells #[] 68)).cell? (ad.add j) = some u := by
      rcases h5 with rfl | ⟨b, o, e, hb, hc⟩
      · intro j u hj; simp [flatV] at hj
      · injection e with e
        subst e
        exact row_news (by omega) (fun i _ => inW_len l i) (fun i hi j hj => by rw [(allocBP w (.cells #[] 68)).cell (p := ⟨b, o + i * 3 + j, none⟩) hb]; exact hc i hi j hj)
    have NW := Lib.hid nw
    have LN := Lib.hid (flatV_len (k := 3) (inW l) n (fun i _ => inW_len l i))
    have ON := Lib.hid (flatV_one (k := 3) (inW l) n (fun i _ => inW_one l i))
    have OW := Lib.hid (World.ownsRow_made (e := 68) (size := 3) w #[] 0 (Nat.le_refl w.heap.size) (by unfold maxLen; omega) rfl)
    have M := Lib.hid (p := 0 + n ≤ maxLen ∧ (0 + n) * 24 ≤ 140737488355328 ∧ w.heap.size ≤ (w.alloc (.cells #[] 68)).heap.size) ⟨by unfold maxLen; omega, by omega, by simp⟩
    have FE := Lib.hid (p := ∀ v' w', w'.ownsRow w.heap.size 68 3 v' (0 + n) ([] ++ flatV n (inW l)) → (w.alloc (.cells #[] 68)).grownBy w' (some w.heap.size) → w'.ownsRow w.heap.size 68 3 v' n (flatV n (inW l)) ∧ Below w.heap.size w w') (fun v' w' q g => by
      rw [Nat.zero_add, List.nil_append] at q
      refine ⟨q, ⟨g.os, g.tape, g.output, by have := g.size; simp at this; omega, fun x hx => ?_⟩⟩
      exact (g.block x (by simp; omega) (by intro z; injection z with z; omega)).trans ((allocBP w (.cells #[] 68)).block x hx))
    clear nw h1 h2 h3 h4 h5
    generalize flatV n (inW l) = fl at *
    go_enter Tryz.func43, Tryz.ntmps43
    go_wp2_with (at_builtin; refine wpList_append_own _ rfl _ _ 69 rfl w.heap.size 68 i0 (.agg #[.int .i64 0, .int .i64 0, .int .i64 0]) 3 24 Tryz.underlying69 hi hz0 hz1 hz2 rfl (by decide) _ 0 [] rfl OW.out ad n c fl rfl LN.out NW.out ON.out M.out.1 M.out.2.1 M.out.2.2 ?_; intro v' w' q1 q2 _; have Q := Lib.hid (FE.out v' w' q1 q2); clear q1 q2)
    go_ret
    exact ⟨_, rfl, Q.out.1, Q.out.2⟩
set_option maxRecDepth 100000 in
set_option maxHeartbeats 1600000 in
theorem cloneG_any {w : World} {a : Option Addr} {n c : Nat} {l : List Sg} (h1 : Hd a n c) (h3 : n ≤ 4398046510976) (h5 : Row w a n 2 (fun i => (l.getD i default).cs)) : Calls Tryz.prog 42 #[.slice a n c] w fun e w' => ∃ v', e = .returned v' ∧ w'.ownsRow w.heap.size 71 2 v' n (flatV n (sgV l)) ∧ Below w.heap.size w w' := by
  obtain ⟨i0, hi, hz0, hz1, hz2⟩ := info_parts infoSg
  cases a with
  | none =>
    obtain ⟨rfl, rfl⟩ := h1.1 rfl
    have N := Lib.hid (World.ownsRow_nil w w.heap.size 71 2)
    have nn : ∀ W, (binOp .eql 24 (.slice none 0 0) (.slice none 0 0)).run Tryz.prog W = .ok (.bool true) W := fun W => Lib.run_eql_slice_nil W 24 71 none 0 0 0 0 (by kernel_rfl)
    go_enter Tryz.func42, Tryz.ntmps42
    go_wp2
    go_ret
    exact ⟨_, rfl, N.out, Below.refl _ _⟩
  | some ad =>
    have nn : ∀ W, (binOp .eql 24 (.slice (some ad) n c) (.slice none 0 0)).run Tryz.prog W = .ok (.bool false) W := fun W => Lib.run_eql_slice_nil W 24 71 (some ad) n c 0 0 (by kernel_rfl)
    have nw : ∀ j u, (flatV n (sgV l))[j]? = some u → (w.alloc (.cells #[] 71)).cell? (ad.add j) = some u := by
      rcases h5 with rfl | ⟨b, o, e, hb, hc⟩
      · intro j u hj; simp [flatV] at hj
      · injection e with e
        subst e
        exact row_news (by omega) (fun i _ => sgV_len l i) (fun i hi j hj => by rw [(allocBP w (.cells #[] 71)).cell (p := ⟨b, o + i * 2 + j, none⟩) hb]; exact hc i hi j hj)
    have NW := Lib.hid nw
    have LN := Lib.hid (flatV_len (k := 2) (sgV l) n (fun i _ => sgV_len l i))
    have ON := Lib.hid (flatV_one (k := 2) (sgV l) n (fun i _ => sgV_one l i))
    have OW := Lib.hid (World.ownsRow_made (e := 71) (size := 2) w #[] 0 (Nat.le_refl w.heap.size) (by unfold maxLen; omega) rfl)
    have M := Lib.hid (p := 0 + n ≤ maxLen ∧ (0 + n) * 32 ≤ 140737488355328 ∧ w.heap.size ≤ (w.alloc (.cells #[] 71)).heap.size) ⟨by unfold maxLen; omega, by omega, by simp⟩
    have FE := Lib.hid (p := ∀ v' w', w'.ownsRow w.heap.size 71 2 v' (0 + n) ([] ++ flatV n (sgV l)) → (w.alloc (.cells #[] 71)).grownBy w' (some w.heap.size) → w'.ownsRow w.heap.size 71 2 v' n (flatV n (sgV l)) ∧ Below w.heap.size w w') (fun v' w' q g => by
      rw [Nat.zero_add, List.nil_append] at q
      refine ⟨q, ⟨g.os, g.tape, g.output, by have := g.size; simp at this; omega, fun x hx => ?_⟩⟩
      exact (g.block x (by simp; omega) (by intro z; injection z with z; omega)).trans ((allocBP w (.cells #[] 71)).block x hx))
    clear nw h1 h3 h5
    generalize flatV n (sgV l) = fl at *
    go_enter Tryz.func42, Tryz.ntmps42
    go_wp2_with (at_builtin; refine wpList_append_own _ rfl _ _ 24 rfl w.heap.size 71 i0 (.agg #[.int .i64 0, .slice none 0 0]) 2 32 Tryz.underlying24 hi hz0 hz1 hz2 rfl (by decide) _ 0 [] rfl OW.out ad n c fl rfl LN.out NW.out ON.out M.out.1 M.out.2.1 M.out.2.2 ?_; intro v' w' q1 q2 _; have Q := Lib.hid (FE.out v' w' q1 q2); clear q1 q2)
    go_ret
    exact ⟨_, rfl, Q.out.1, Q.out.2⟩
end Go.Proofs.YtpfjnnkjoabgbaaGreatDoor
