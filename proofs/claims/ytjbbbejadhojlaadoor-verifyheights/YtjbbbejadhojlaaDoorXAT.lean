import Derived.Test.YtjbbbejadhojlaaDoorXAS
import Derived.Deep.AppendLies
import Derived.Deep.RegionLaw
import Derived.Test.YtjbbbejadhojlaaDoorXAR
import Derived.Test.YtjbbbejadhojlaaDoorXAL
import Derived.Test.YtjbbbejadhojlaaDoorXAB
import Derived.Laws.AppendOwnNone
namespace Go.Proofs.YtjbbbejadhojlaaDoor
open Go.RowKit
set_option linter.unusedVariables false
set_option linter.unusedSimpArgs false
def flatV (n : Nat) (V : Nat → List Value) : List Value := (List.range n).flatMap V
theorem flatV_len {k : Nat} (V : Nat → List Value) : ∀ n, (∀ i, i < n → (V i).length = k) → (flatV n V).length = n * k
  | 0, _ => by simp [flatV]
  | n + 1, h => by
    have ih := flatV_len V n (fun i hi => h i (by omega))
    unfold flatV at ih ⊢
    rw [List.range_succ, List.flatMap_append, List.length_append, ih]
    simp [h n (by omega), Nat.add_mul]
theorem flatV_at {k : Nat} (hk : 0 < k) (V : Nat → List Value) : ∀ n, (∀ i, i < n → (V i).length = k) → ∀ i, i < n → ∀ j, j < k → (flatV n V)[i * k + j]? = (V i)[j]?
  | 0, _, i, hi, _, _ => by omega
  | n + 1, h, i, hi, j, hj => by
    have ih := flatV_at hk V n (fun i hi => h i (by omega))
    have len := flatV_len (k := k) V n (fun i hi => h i (by omega))
    unfold flatV at ih len ⊢
    rw [List.range_succ, List.flatMap_append]
    by_cases e : i = n
    · subst e
      rw [List.getElem?_append_right (by omega), len, show i * k + j - i * k = j by omega]
      simp
    · have lt : i < n := by omega
      have b : i * k + j < n * k := by
        have : (i + 1) * k ≤ n * k := Nat.mul_le_mul_right k lt
        rw [Nat.add_mul, Nat.one_mul] at this
        omega
      rw [List.getElem?_append_left (by rw [len]; exact b)]
      exact ih i lt j hj
/-- The cells of a row, for an append. -/
theorem row_news {w : World} {x o n k : Nat} {V : Nat → List Value} (hk : 0 < k) (hV : ∀ i, i < n → (V i).length = k) (h : ∀ i, i < n → ∀ j, j < k → w.cell? ⟨x, o + i * k + j, none⟩ = some ((V i).getD j default)) : ∀ j u, (flatV n V)[j]? = some u → w.cell? ((⟨x, o, none⟩ : Addr).add j) = some u := by
  intro j u hj
  have lt : j < n * k := by have := (List.getElem?_eq_some_iff.1 hj).1; rw [flatV_len V n hV] at this; exact this
  have e : j = (j / k) * k + j % k := by have := Nat.div_add_mod j k; rw [Nat.mul_comm] at this; omega
  have i1 : j / k < n := (Nat.div_lt_iff_lt_mul hk).2 lt
  have i2 : j % k < k := Nat.mod_lt _ hk
  rw [e, flatV_at hk V n hV _ i1 _ i2] at hj
  rw [Addr.add_lit, e, ← Nat.add_assoc, h _ i1 _ i2]
  have : (V (j / k)).getD (j % k) default = u := by simp [List.getD, hj]
  rw [this]
theorem flatV_one (V : Nat → List Value) {k : Nat} (n : Nat) (hV : ∀ i, i < n → ∀ u ∈ V i, u.oneCell' = true) : ∀ u ∈ flatV n V, u.oneCell' = true := by
  intro u hu
  unfold flatV at hu
  rw [List.mem_flatMap] at hu
  obtain ⟨i, hi, hu⟩ := hu
  exact hV i (List.mem_range.1 hi) u hu
end Go.Proofs.YtjbbbejadhojlaaDoor

namespace Go.Proofs.YtjbbbejadhojlaaDoor
open Go.RowKit
set_option linter.unusedVariables false
set_option linter.unusedSimpArgs false
/-- A list of things of k cells, in a block of type ty. -/
def LsT (ty : TypeId) (k : Nat) (w : World) (a : Option Addr) (n : Nat) (V : Nat → List Value) : Prop := n = 0 ∨ ∃ y u cur fr, a = some ⟨y, u, none⟩ ∧ w.heap[y]? = some (.cells cur ty fr) ∧ ∀ i, i < n → ∀ j, j < k → w.cell? ⟨y, u + i * k + j, none⟩ = some ((V i).getD j default)
theorem LsT.blk {ty : TypeId} {k : Nat} {w w' : World} {a : Option Addr} {n : Nat} {V : Nat → List Value} (h : LsT ty k w a n V) (hb : ∀ (y : Nat) (cur : Array Value) (fr : Nat × Nat), w.heap[y]? = some (.cells cur ty fr) → w'.heap[y]? = w.heap[y]?) : LsT ty k w' a n V := by
  rcases h with h | ⟨y, u, cur, fr, rfl, e, hc⟩
  · exact .inl h
  · have q := hb y cur fr e
    exact .inr ⟨y, u, cur, fr, rfl, q.trans e, fun i hi j hj => (World.cell?_of_block (a := ⟨y, u + i * k + j, none⟩) q).trans (hc i hi j hj)⟩
theorem LsT.lat {ty : TypeId} {k : Nat} {w w' : World} {a : Option Addr} {n : Nat} {V : Nat → List Value} (h : LsT ty k w a n V) (b : Below w.heap.size w w') : LsT ty k w' a n V := LsT.blk h (fun y cur fr e => b.block y (Array.getElem?_eq_some_iff.1 e).1)
def stkV (l : List Nat) (i : Nat) : List Value := [.int .i64 (l.getD i 0 : Int)]
def kptV (l : List (Nat × Nat)) (i : Nat) : List Value := [.int .i64 ((l.getD i default).1 : Int), .int .i64 ((l.getD i default).2 : Int)]
def StkL (w : World) (a : Option Addr) (n : Nat) (l : List Nat) : Prop := l.length = n ∧ LsT 3 1 w a n (stkV l)
def KptL (w : World) (a : Option Addr) (n : Nat) (l : List (Nat × Nat)) : Prop := l.length = n ∧ LsT 112 2 w a n (kptV l)
theorem dSlot_at : ∀ {l : List (Nat × Nat)} {k x : Nat}, k < l.length → (∀ i, i < k → (l.getD i default).1 ≠ x) → (l.getD k default).1 = x → dSlot l x = (l.getD k default).2
  | [], k, x, h, _, _ => by simp at h
  | a :: l, 0, x, _, _, e => by
    have e : a.1 = x := e
    unfold dSlot
    rw [List.find?_cons_of_pos (by simpa using e)]
    rfl
  | a :: l, k + 1, x, h, hn, e => by
    have n0 : a.1 ≠ x := hn 0 (by omega)
    have ih := dSlot_at (l := l) (k := k) (x := x) (by simpa using h) (fun i hi => hn (i + 1) (by omega)) e
    unfold dSlot at ih ⊢
    rw [List.find?_cons_of_neg (by simpa using n0)]
    exact ih
theorem dSlot_no {l : List (Nat × Nat)} {x : Nat} (h : ∀ i, i < l.length → (l.getD i default).1 ≠ x) : dSlot l x = 0 := by
  unfold dSlot
  have : l.find? (fun e => decide (e.1 = x)) = none := by
    rw [List.find?_eq_none]
    intro e he
    obtain ⟨i, hi, rfl⟩ := List.getElem_of_mem he
    have := h i hi
    simp only [List.getD, List.getElem?_eq_getElem hi, Option.getD_some] at this
    simpa using this
  rw [this]
set_option maxRecDepth 100000 in
theorem slot14_any {w : World} {a : Option Addr} {n c : Nat} {l : List (Nat × Nat)} (h : KptL w a n l) (hn : n ≤ 4000000000000) (x : Nat) : Calls Tryd.prog 52 #[.slice a n c, .int .i64 (x : Int)] w fun e w' => e = .returned (.int .i64 (dSlot l x : Int)) ∧ w' = w := by
  obtain ⟨h1, h2⟩ := h
  have CC := Lib.hid (p := ∀ k, k < n → ∃ y u, a = some ⟨y, u, none⟩ ∧ w.cell? ⟨y, u + k * 2, none⟩ = some (.int .i64 ((l.getD k default).1 : Int)) ∧ w.cell? ⟨y, u + k * 2 + 1, none⟩ = some (.int .i64 ((l.getD k default).2 : Int))) (fun k hk => by
    rcases h2 with h2 | ⟨y, u, cur, fr, rfl, e, hc⟩
    · omega
    · exact ⟨y, u, rfl, hc k hk 0 (by omega), hc k hk 1 (by omega)⟩)
  have L1 := Lib.hid h1
  clear h1 h2
  go_enter Tryd.func52, Tryd.ntmps52
  go_wp2
  go_loopw [5] (fun t wr => ∃ k : Nat, k ≤ n ∧ t = .int .i64 (k : Int) ∧ RowKit.Hid (∀ i, i < k → (l.getD i default).1 ≠ x) ∧ w = wr) (fun t _ => n - (intOf t).toNat)
  case atStart => exact ⟨0, by omega, rfl, fun i hi => by omega, rfl⟩
  case round =>
    obtain ⟨k, hk, rfl, hE, rfl⟩ := hrel
    by_cases hlt : k < n
    · obtain ⟨y, u, rfl, c0, c1⟩ := CC.out k hlt
      have kc : (k : Int) < (n : Int) := by omega
      have k0 : ¬ (k : Int) < 0 := by omega
      have ks : IntKind.i64.wrap ((k : Int) + 1) = (k : Int) + 1 := by simp [IntKind.wrap, IntKind.bits, IntKind.signed]; omega
      by_cases z : (l.getD k default).1 = x
      · have E := Lib.hid (dSlot_at (by rw [L1.out]; exact hlt) hE.out z)
        clear hE
        generalize l.getD k default = e at *
        obtain ⟨e1, e2⟩ := e
        simp only at c0 c1 z E
        subst z
        go_wp2
        go_ret
        exact ⟨by rw [E.out]; rfl, rfl⟩
      · have NX := Lib.hid (p := ∀ i, i < k + 1 → (l.getD i default).1 ≠ x) (fun i hi => by
          by_cases q : i = k
          · rw [q]; exact z
          · exact hE.out i (by omega))
        have z0 : ¬ ((l.getD k default).1 : Int) = (x : Int) := by omega
        clear hE
        generalize l.getD k default = e at *
        obtain ⟨e1, e2⟩ := e
        simp only at c0 c1 z z0
        go_wp2
        refine ⟨⟨k + 1, by omega, by simp, NX.out, by first | rfl | trivial⟩, ?_⟩
        simp [intOf]
        omega
    · obtain rfl : k = n := by omega
      have E := Lib.hid (dSlot_no (l := l) (x := x) (fun i hi => hE.out i (by rw [← L1.out]; exact hi)))
      clear hE
      go_wp2
      go_ret
      exact ⟨by rw [E.out]; rfl, rfl⟩
/-- What Takes answers. -/
def TkD (w : World) (k : Nat) (e : Ending) (w' : World) : Prop := ∃ a c, e = .returned (.slice a (dTk k).length c) ∧ OwZ w' w.heap.size (.slice a (dTk k).length c) ((dTk k).map (fun x : Nat => (x : Int))) ∧ Below w.heap.size w w'
theorem ref_inR {k : Nat} (hk : k < 29) : RefE k (nmA k) (rfs k).a (rfs k).b (tkA k) (ptA k) 0 := ⟨.inl ⟨k, hk, rfl, rfl, rfl, rfl, rfl, rfl, rfl⟩⟩
theorem tk_lit (w : World) {k x : Nat} (h : dTk k = [x]) : TkD w k (.returned (.slice (some ⟨w.heap.size, 0, none⟩) 1 1)) (w.alloc (.cells #[.int .i64 (x : Int)] 3)) := by
  refine ⟨some ⟨w.heap.size, 0, none⟩, 1, by rw [h]; rfl, ?_, (Below.refl _ _).alloc (Nat.le_refl _) _⟩
  rw [h]
  exact OwZ.lit w w.heap.size (x : Int) (Nat.le_refl _)
set_option maxRecDepth 100000 in
set_option maxHeartbeats 1600000 in
theorem takes14_any {w : World} {k : Nat} (hk : k < 29) : Calls Tryd.prog 51 #[.int .i64 (k : Int)] w fun e w' => TkD w k e w' := by
  by_cases c1 : k = 5 ∨ k = 28
  · have E := Lib.hid (tk_lit w (k := k) (x := 1) (by unfold dTk; rw [if_pos c1]))
    rcases c1 with rfl | rfl
    · go_enter Tryd.func51, Tryd.ntmps51
      go_wp2
      go_ret
      exact E.out
    · go_enter Tryd.func51, Tryd.ntmps51
      go_wp2
      go_ret
      exact E.out
  by_cases c2 : k = 6 ∨ k = 8
  · have E := Lib.hid (tk_lit w (k := k) (x := 0) (by unfold dTk; rw [if_neg c1, if_pos c2]))
    rcases c2 with rfl | rfl
    · go_enter Tryd.func51, Tryd.ntmps51
      go_wp2
      go_ret
      exact E.out
    · go_enter Tryd.func51, Tryd.ntmps51
      go_wp2
      go_ret
      exact E.out
  by_cases c3 : k = 25 ∨ k = 27
  · have E := Lib.hid (tk_lit w (k := k) (x := 2) (by unfold dTk; rw [if_neg c1, if_neg c2, if_pos c3]))
    rcases c3 with rfl | rfl
    · go_enter Tryd.func51, Tryd.ntmps51
      go_wp2
      go_ret
      exact E.out
    · go_enter Tryd.func51, Tryd.ntmps51
      go_wp2
      go_ret
      exact E.out
  have ed : dTk k = List.replicate (tkA k) 1 := by unfold dTk; rw [if_neg c1, if_neg c2, if_neg c3]
  have t3 := (tk_all k hk).2.1
  have KE := Lib.hid (refEffect_any (ref_inR hk) w)
  have n1 : ¬ (k : Int) = 5 := by omega
  have n2 : ¬ (k : Int) = 28 := by omega
  have n3 : ¬ (k : Int) = 6 := by omega
  have n4 : ¬ (k : Int) = 8 := by omega
  have n5 : ¬ (k : Int) = 25 := by omega
  have n6 : ¬ (k : Int) = 27 := by omega
  have m1 : ¬ k = 5 := by omega
  have m2 : ¬ k = 28 := by omega
  have m3 : ¬ k = 6 := by omega
  have m4 : ¬ k = 8 := by omega
  have m5 : ¬ k = 25 := by omega
  have m6 : ¬ k = 27 := by omega
  have FE := Lib.hid (p := ∀ a c W, OwZ W w.heap.size (.slice a (tkA k) c) (List.replicate (tkA k) 1) → Below w.heap.size w W → TkD w k (.returned (.slice a (tkA k) c)) W) (fun a c W o b => ⟨a, c, by rw [ed, List.length_replicate], by rw [ed, List.length_replicate]; simpa using o, b⟩)
  clear ed c1 c2 c3
  generalize tkA k = n at *
  go_enter Tryd.func51, Tryd.ntmps51
  go_wp2_with (go_at_call 54; refine KE.out.mono ?_; rintro e w1 ⟨rfl, h1⟩; have B1 := Lib.hid h1; clear h1)
  go_loopw [3, 7] (fun v t wr => ∃ (j : Nat) (a : Option Addr) (c : Nat), j ≤ n ∧ v = .slice a j c ∧ t = .int .i64 (j : Int) ∧ RowKit.Hid (OwZ wr w.heap.size (.slice a j c) (List.replicate j 1) ∧ Below w.heap.size w wr)) (fun _ t _ => n - (intOf t).toNat)
  case atStart => exact ⟨0, none, 0, by omega, rfl, rfl, OwZ.nil _ _, B1.out⟩
  case round =>
    clear B1
    rename World => wr
    obtain ⟨j, a, c, hj, rfl, rfl, hO⟩ := hrel
    by_cases hlt : j < n
    · have kc : (j : Int) < (n : Int) := by omega
      have ks : IntKind.i64.wrap ((j : Int) + 1) = (j : Int) + 1 := by simp [IntKind.wrap, IntKind.bits, IntKind.signed]; omega
      have NX := Lib.hid (p := OwZ (wr.alloc (.cells #[.int .i64 1] 3)) w.heap.size (.slice a j c) (List.replicate j 1) ∧ OwZ (wr.alloc (.cells #[.int .i64 1] 3)) 0 (.slice (some ⟨wr.heap.size, 0, none⟩) 1 1) [1] ∧ w.heap.size ≤ (wr.alloc (.cells #[.int .i64 1] 3)).heap.size ∧ ∀ v' w', OwZ w' w.heap.size v' (List.replicate j 1 ++ [1]) → (wr.alloc (.cells #[.int .i64 1] 3)).grownBy w' (Value.ownBlock (.slice a j c)) → ∃ a' c', v' = .slice a' (j + 1) c' ∧ RowKit.Hid (OwZ w' w.heap.size (.slice a' (j + 1) c') (List.replicate (j + 1) 1) ∧ Below w.heap.size w w')) (by
        obtain ⟨o, b⟩ := hO.out
        have al := allocBP wr (.cells #[.int .i64 1] 3)
        have ob := o.lat al
        have bb := b.trans (al.mono b.size)
        refine ⟨ob, OwZ.lit wr 0 1 (Nat.zero_le _), bb.size, fun v' w' o' g => ?_⟩
        rw [← List.replicate_succ'] at o'
        obtain ⟨a', c', e, _⟩ := o'.form
        rw [List.length_replicate] at e
        subst e
        exact ⟨a', c', rfl, o', bb.trans ⟨g.os, g.tape, g.output, g.size, fun x hx => g.block x (by have := bb.size; omega) (fun z => by have := (World.ownsRow.lt ob x z.symm).1; omega)⟩⟩)
      clear hO
      go_wp2_with (at_builtin; refine wp_ints (wr.alloc (.cells #[.int .i64 1] 3)) rfl _ _ rfl w.heap.size 0 (.slice a j c) (.slice (some ⟨wr.heap.size, 0, none⟩) 1 1) _ _ rfl rfl NX.out.1 NX.out.2.1 (by simp; omega) NX.out.2.2.1 ?_; intro v' w' q1 q2; obtain ⟨a', c', rfl, Y⟩ := NX.out.2.2.2 v' w' q1 q2; clear q1 q2)
      refine ⟨⟨j + 1, a', c', by omega, rfl, by simp, Y⟩, ?_⟩
      simp [intOf]
      omega
    · obtain rfl : j = n := by omega
      have E := Lib.hid (FE.out a c wr hO.out.1 hO.out.2)
      clear hO
      go_wp2
      go_ret
      exact E.out
end Go.Proofs.YtjbbbejadhojlaaDoor

namespace Go.Proofs.YtjbbbejadhojlaaDoor
open Go.RowKit
set_option linter.unusedVariables false
set_option linter.unusedSimpArgs false
/-- What goes wrong at an instruction. -/
noncomputable def dWr (day : Int) (s : Ds) (i : In) (at' n : Nat) : Int := if (dDo day s i).1 ≠ 0 then (dDo day s i).1 else if isJ i ∧ n ≤ at' + 1 + i.a.toNat then 141 else 0
theorem LsT.at {ty : TypeId} {k : Nat} {w : World} {a : Option Addr} {n : Nat} {V : Nat → List Value} (h : LsT ty k w a n V) {i : Nat} (hi : i < n) : ∃ y u, a = some ⟨y, u, none⟩ ∧ y < w.heap.size ∧ ∀ j, j < k → w.cell? ⟨y, u + i * k + j, none⟩ = some ((V i).getD j default) := by
  rcases h with h | ⟨y, u, cur, fr, rfl, e, hc⟩
  · omega
  · exact ⟨y, u, rfl, (Array.getElem?_eq_some_iff.1 e).1, hc i hi⟩
theorem box_3R {W : World} {x : Nat} {t : TypeId} {c0 c1 c2 : Value} (h : BkP W x #[c0, c1, c2] t) : W.cell? ⟨x, 0, none⟩ = some c0 ∧ W.cell? ⟨x, 1, none⟩ = some c1 ∧ W.cell? ⟨x, 2, none⟩ = some c2 := ⟨by rw [h.cell]; rfl, by rw [h.cell]; rfl, by rw [h.cell]; rfl⟩
theorem drewN_below' (w : World) (q B : Nat) : Below B w (w.drewN q) := ⟨rfl, rfl, rfl, Nat.le_refl _, fun _ _ => rfl⟩
/-- The six ways of wrong. -/
theorem dWr_142 {day : Int} {s : Ds} {i : In} {at' n : Nat} (h : s.st.length < (dTk i.o.toNat).length ∨ (i.o.toNat = 0 ∧ 0 < s.st.length)) : dWr day s i at' n = 142 := by
  have : (dDo day s i).1 = 142 := by unfold dDo; simp only; rw [if_pos h]
  unfold dWr
  rw [this, if_pos (by decide)]
theorem dWr_143 {day : Int} {s : Ds} {i : In} {at' n : Nat} (h : ¬ (s.st.length < (dTk i.o.toNat).length ∨ (i.o.toNat = 0 ∧ 0 < s.st.length))) (g : dSo i.o.toNat s.st) : dWr day s i at' n = 143 := by
  have : (dDo day s i).1 = 143 := by unfold dDo; simp only; rw [if_neg h, if_pos g]
  unfold dWr
  rw [this, if_pos (by decide)]
theorem dWr_144 {day : Int} {s : Ds} {i : In} {at' n : Nat} (h : ¬ (s.st.length < (dTk i.o.toNat).length ∨ (i.o.toNat = 0 ∧ 0 < s.st.length))) (g : ¬ dSo i.o.toNat s.st) (k : i.o.toNat = 7 ∧ dSlot s.sl i.a.toNat = 0) : dWr day s i at' n = 144 := by
  have : (dDo day s i).1 = 144 := by unfold dDo; simp only; rw [if_neg h, if_neg g, if_pos k]
  unfold dWr
  rw [this, if_pos (by decide)]
theorem dWr_145 {day : Int} {s : Ds} {i : In} {at' n : Nat} (h : ¬ (s.st.length < (dTk i.o.toNat).length ∨ (i.o.toNat = 0 ∧ 0 < s.st.length))) (g : ¬ dSo i.o.toNat s.st) (k : ¬ (i.o.toNat = 7 ∧ dSlot s.sl i.a.toNat = 0)) (b : i.o.toNat = 3 ∧ day < i.b) : dWr day s i at' n = 145 := by
  have : (dDo day s i).1 = 145 := by unfold dDo; simp only; rw [if_neg h, if_neg g, if_neg k, if_pos b]
  unfold dWr
  rw [this, if_pos (by decide)]
theorem dWr_end {day : Int} {s : Ds} {i : In} {at' n : Nat} (h : ¬ (s.st.length < (dTk i.o.toNat).length ∨ (i.o.toNat = 0 ∧ 0 < s.st.length))) (g : ¬ dSo i.o.toNat s.st) (k : ¬ (i.o.toNat = 7 ∧ dSlot s.sl i.a.toNat = 0)) (b : ¬ (i.o.toNat = 3 ∧ day < i.b)) : dWr day s i at' n = if isJ i ∧ n ≤ at' + 1 + i.a.toNat then 141 else 0 := by
  have : (dDo day s i).1 = 0 := by unfold dDo; simp only; rw [if_neg h, if_neg g, if_neg k, if_neg b]
  unfold dWr
  rw [this, if_neg (by simp)]
set_option maxRecDepth 100000 in
set_option maxHeartbeats 3200000 in
theorem wrong14_any {w : World} {d : Ds} {sa ka : Option Addr} {sc kc : Nat} (hs : StkL w sa d.st.length d.st) (hkp : KptL w ka d.sl.length d.sl) (ls : d.st.length ≤ 1000000) (lk : d.sl.length ≤ 1000000) {k a : Nat} {b : Int} (hk : k < 29) (ha : a ≤ 1000000000) (day : Int) {at' n : Nat} (h1 : at' ≤ 1000000000) (h2 : n ≤ 1000000000) : Calls Tryd.prog 32 #[.agg #[.bool true, .slice sa d.st.length sc, .slice ka d.sl.length kc], .agg #[.int .i64 (k : Int), .int .i64 (a : Int), .int .i64 b], .int .i64 day, .int .i64 (at' : Int), .int .i64 (n : Int)] w fun e w' => e = .returned (.int .i64 (dWr day d ⟨(k : Int), (a : Int), b⟩ at' n)) ∧ Below w.heap.size w w' := by
  obtain ⟨W0, hW0⟩ : ∃ W, (w.alloc (.cells #[.bool true, .slice sa d.st.length sc, .slice ka d.sl.length kc] 72)).alloc (.cells #[.int .i64 (k : Int), .int .i64 (a : Int), .int .i64 b] 51) = W := ⟨_, rfl⟩
  have B0 : Below w.heap.size w W0 := by rw [← hW0]; exact (allocBP w _).trans ((allocBP (w.alloc _) _).mono (by simp))
  have P0 : BkP W0 w.heap.size #[.bool true, .slice sa d.st.length sc, .slice ka d.sl.length kc] 72 := by rw [← hW0]; exact BkP.lat (heapN w _) (allocBP _ _)
  have Q0 : BkP W0 (w.heap.size + 1) #[.int .i64 (k : Int), .int .i64 (a : Int), .int .i64 b] 51 := by
    rw [← hW0]
    have := heapN (w.alloc (.cells #[.bool true, .slice sa d.st.length sc, .slice ka d.sl.length kc] 72)) (.cells #[.int .i64 (k : Int), .int .i64 (a : Int), .int .i64 b] 51)
    rw [show (w.alloc (.cells #[.bool true, .slice sa d.st.length sc, .slice ka d.sl.length kc] 72)).heap.size = w.heap.size + 1 by simp] at this
    exact this
  have CL := Lib.hid (p := ∀ V, Below W0.heap.size W0 V → (V.cell? ⟨w.heap.size, 0, none⟩ = some (.bool true) ∧ V.cell? ⟨w.heap.size, 1, none⟩ = some (.slice sa d.st.length sc) ∧ V.cell? ⟨w.heap.size, 2, none⟩ = some (.slice ka d.sl.length kc)) ∧ (V.cell? ⟨w.heap.size + 1, 0, none⟩ = some (.int .i64 (k : Int)) ∧ V.cell? ⟨w.heap.size + 1, 1, none⟩ = some (.int .i64 (a : Int)) ∧ V.cell? ⟨w.heap.size + 1, 2, none⟩ = some (.int .i64 b)) ∧ Below w.heap.size w V) (fun V bb => ⟨box_3R (P0.lat bb), box_3R (Q0.lat bb), B0.trans (bb.mono B0.size)⟩)
  have KT := Lib.hid (takes14_any (w := W0) hk)
  have SC := Lib.hid (p := ∀ j, j < d.st.length → ∃ y u, sa = some ⟨y, u, none⟩ ∧ ∀ V, Below W0.heap.size W0 V → V.cell? ⟨y, u + j, none⟩ = some (.int .i64 (d.st.getD j 0 : Int))) (fun j hj => by
    obtain ⟨y, u, e, ly, hc⟩ := hs.2.at hj
    refine ⟨y, u, e, fun V bb => ?_⟩
    have := hc 0 (by omega)
    rw [Nat.mul_one, Nat.add_zero] at this
    exact ((B0.trans (bb.mono B0.size)).cell (p := ⟨y, u + j, none⟩) ly).trans this)
  have KS := Lib.hid (p := ∀ V, Below W0.heap.size W0 V → Calls Tryd.prog 52 #[.slice ka d.sl.length kc, .int .i64 (a : Int)] V fun e w' => e = .returned (.int .i64 (dSlot d.sl a : Int)) ∧ w' = V) (fun V bb => slot14_any ⟨hkp.1, hkp.2.lat (B0.trans (bb.mono B0.size))⟩ (by omega) a)
  have HW := Lib.hid hW0
  obtain ⟨T, hT⟩ : ∃ T, dTk k = T := ⟨_, rfl⟩
  have tl : T.length ≤ 3 := by rw [← hT, (tk_all k hk).1]; exact (tk_all k hk).2.1
  have ek : (⟨(k : Int), (a : Int), b⟩ : In).o.toNat = k := rfl
  have ea : (⟨(k : Int), (a : Int), b⟩ : In).a.toNat = a := rfl
  obtain ⟨st, sl⟩ := d
  simp only at *
  have KT2 := Lib.hid (p := Calls Tryd.prog 51 #[.int .i64 (k : Int)] W0 fun e w1 => ∃ ta tc, e = .returned (.slice ta T.length tc) ∧ RowKit.Hid (Below W0.heap.size W0 w1 ∧ ∀ j, j < T.length → ∃ g, ta = some ⟨g, 0, none⟩ ∧ ∀ V, Below w1.heap.size w1 V → V.cell? ⟨g, j, none⟩ = some (.int .i64 (T.getD j 0 : Int)))) (KT.out.mono (fun e w1 z => by
    obtain ⟨ta, tc, rfl, o, b1⟩ := z
    rw [hT] at o ⊢
    refine ⟨ta, tc, rfl, b1, fun j hj => ?_⟩
    obtain ⟨a', cap, e, _, hne⟩ := o.form
    injection e with e1 e2 e3
    subst e1
    have ne : T.map (fun x : Nat => (x : Int)) ≠ [] := by intro z; simp at z; subst z; simp at hj
    obtain ⟨g, rfl, _, lt⟩ := hne ne
    refine ⟨g, rfl, fun V bV => ?_⟩
    have c := o.cell (i := j) (by simpa using hj)
    have := (bV.cell (p := ⟨g, j, none⟩) lt).trans c
    rw [this]
    simp [List.getD, hj]))
  clear KT P0 Q0 B0 hW0 hs hkp
  obtain ⟨⟨p0, p1, p2⟩, ⟨q0, q1, q2⟩, _⟩ := CL.out W0 (Below.refl _ _)
  have RT := Lib.hid (p := ∀ (V : World) (r : Int), Below W0.heap.size W0 V → dWr day ⟨st, sl⟩ ⟨(k : Int), (a : Int), b⟩ at' n = r → (Ending.returned (.int .i64 r) = Ending.returned (.int .i64 (dWr day ⟨st, sl⟩ ⟨(k : Int), (a : Int), b⟩ at' n))) ∧ Below w.heap.size w V) (fun V r bb e => ⟨by rw [e], (CL.out V bb).2.2⟩)
  by_cases c1 : st.length < T.length ∨ (k = 0 ∧ 0 < st.length)
  · have E := Lib.hid (dWr_142 (day := day) (s := ⟨st, sl⟩) (i := ⟨(k : Int), (a : Int), b⟩) (at' := at') (n := n) (by rw [ek, hT]; exact c1))
    go_enter Tryd.func32, Tryd.ntmps32
    go_upto_region 1 with fail
    rw [HW.out]
    go_wp2_with fail
    go_at_call 51
    refine KT2.out.mono ?_
    rintro e w1 ⟨ta, tc, rfl, hq⟩
    obtain ⟨b1, tcell⟩ := hq.out
    obtain ⟨⟨x0, x1, x2⟩, ⟨y0, y1, y2⟩, _⟩ := CL.out w1 b1
    have F := Lib.hid (RT.out w1 142 b1 E.out)
    clear hq b1 tcell
    by_cases c2 : st.length < T.length
    · have kc : (st.length : Int) < (T.length : Int) := by omega
      have kd : decide (st.length < T.length) = true := decide_eq_true c2
      go_wp2
      go_ret
      exact F.out
    · have kc : ¬ (st.length : Int) < (T.length : Int) := by omega
      have kd : decide (st.length < T.length) = false := decide_eq_false c2
      obtain ⟨k0, k1⟩ : k = 0 ∧ 0 < st.length := by
        rcases c1 with z | z
        · exact absurd z c2
        · exact z
      subst k0
      have k2 : (0 : Int) < (st.length : Int) := by omega
      have k3 : decide (0 < st.length) = true := decide_eq_true k1
      go_wp2
      go_ret
      exact F.out
  · have c2 : ¬ st.length < T.length := fun z => c1 (.inl z)
    have c3 : ¬ (k = 0 ∧ 0 < st.length) := fun z => c1 (.inr z)
    have E1 := Lib.hid (p := dSo k st → dWr day ⟨st, sl⟩ ⟨(k : Int), (a : Int), b⟩ at' n = 143) (fun g => dWr_143 (by rw [ek, hT]; exact c1) g)
    have E2 := Lib.hid (p := ¬ dSo k st → (k = 7 ∧ dSlot sl a = 0) → dWr day ⟨st, sl⟩ ⟨(k : Int), (a : Int), b⟩ at' n = 144) (fun g q => dWr_144 (by rw [ek, hT]; exact c1) g q)
    have E3 := Lib.hid (p := ¬ dSo k st → ¬ (k = 7 ∧ dSlot sl a = 0) → (k = 3 ∧ day < b) → dWr day ⟨st, sl⟩ ⟨(k : Int), (a : Int), b⟩ at' n = 145) (fun g q z => dWr_145 (by rw [ek, hT]; exact c1) g q z)
    have E4 := Lib.hid (p := ¬ dSo k st → ¬ (k = 7 ∧ dSlot sl a = 0) → ¬ (k = 3 ∧ day < b) → dWr day ⟨st, sl⟩ ⟨(k : Int), (a : Int), b⟩ at' n = if (k = 26 ∨ k = 27) ∧ n ≤ at' + 1 + a then 141 else 0) (fun g q z => by
      have q0 := dWr_end (day := day) (s := ⟨st, sl⟩) (i := ⟨(k : Int), (a : Int), b⟩) (at' := at') (n := n) (by rw [ek, hT]; exact c1) g q z
      rw [q0]
      have e1 : isJ (⟨(k : Int), (a : Int), b⟩ : In) ↔ (k = 26 ∨ k = 27) := by
        unfold isJ
        simp only
        omega
      have e2 : (⟨(k : Int), (a : Int), b⟩ : In).a.toNat = a := rfl
      rw [e2]
      simp only [e1])
    have DS := Lib.hid (p := dSo k st ↔ ∃ j, j < T.length ∧ T.getD j 0 ≠ 0 ∧ st.getD (st.length - T.length + j) 0 ≠ T.getD j 0) (by unfold dSo; rw [hT])
    clear hT c1 ek ea
    go_enter Tryd.func32, Tryd.ntmps32
    go_upto_region 1 with fail
    rw [HW.out]
    go_wp2_with fail
    go_at_call 51
    refine KT2.out.mono ?_
    rintro e w1 ⟨ta, tc, rfl, hq⟩
    have B1 := Lib.hid hq.out.1
    have TC := Lib.hid hq.out.2
    clear hq KT2
    obtain ⟨⟨x0, x1, x2⟩, ⟨y0, y1, y2⟩, _⟩ := CL.out w1 B1.out
    go_upto_region 4 with fail
    go_cut [35] (fun cv wx => cv = .bool false ∧ wx = w1)
    case first =>
      have kc : ¬ (st.length : Int) < (T.length : Int) := by omega
      have kd : decide (st.length < T.length) = false := decide_eq_false c2
      by_cases k0 : k = 0
      · have l2 : decide (0 < st.length) = false := decide_eq_false (by omega)
        have l3 : decide ((0 : Int) < (st.length : Int)) = false := decide_eq_false (by omega)
        clear c3
        subst k0
        go_wp2
        go_meet
        case rel => exact ⟨by first | rfl | simp [l2, kd, kc], rfl⟩
      · have k1 : ¬ (k : Int) = 0 := by omega
        go_wp2
        go_meet
        case rel => exact ⟨by first | rfl | simp [kd, kc], rfl⟩
    case rest =>
      obtain ⟨hcv, hwc⟩ := hcut
      subst hcv
      replace hwc := hwc.symm
      subst hwc
      clear x0 x1 x2 y0 y1 y2
      go_upto_region 6 with fail
      go_wp2
      go_loopw [12] (fun t wr => ∃ j : Nat, j ≤ T.length ∧ t = .int .i64 (j : Int) ∧ Below w1.heap.size w1 wr ∧ RowKit.Hid (∀ i, i < j → ¬ (T.getD i 0 ≠ 0 ∧ st.getD (st.length - T.length + i) 0 ≠ T.getD i 0))) (fun t _ => T.length - (intOf t).toNat)
      case atStart => exact ⟨0, by omega, rfl, Below.refl _ _, fun i hi => by omega⟩
      case round =>
        rename World => wr
        obtain ⟨j, hj, rfl, hB, hN⟩ := hrel
        have BR := Lib.hid (p := Below W0.heap.size W0 wr) (B1.out.trans (hB.mono B1.out.size))
        have BB := Lib.hid hB
        obtain ⟨⟨x0, x1, x2⟩, ⟨y0, y1, y2⟩, _⟩ := CL.out wr BR.out
        by_cases hlt : j < T.length
        · obtain ⟨g, rfl, tcj⟩ := TC.out j hlt
          have t0 := tcj wr hB
          obtain ⟨P0, hP0⟩ : ∃ P, st.length - T.length = P := ⟨_, rfl⟩
          obtain ⟨yy, uu, rfl, scj⟩ := SC.out (P0 + j) (by omega)
          have s0 := scj wr BR.out
          have kc : (j : Int) < (T.length : Int) := by omega
          have k0 : ¬ (j : Int) < 0 := by omega
          have ks : IntKind.i64.wrap ((j : Int) + 1) = (j : Int) + 1 := by simp [IntKind.wrap, IntKind.bits, IntKind.signed]; omega
          have kw1 : IntKind.i64.wrap ((st.length : Int) - (T.length : Int)) = (P0 : Int) := by simp [IntKind.wrap, IntKind.bits, IntKind.signed]; omega
          have kw2 : IntKind.i64.wrap ((P0 : Int) + (j : Int)) = ((P0 + j : Nat) : Int) := by simp [IntKind.wrap, IntKind.bits, IntKind.signed]; omega
          have kp1 : ((P0 + j : Nat) : Int) < (st.length : Int) := by omega
          have kp0 : ¬ ((P0 + j : Nat) : Int) < 0 := by omega
          have NX := Lib.hid (p := ¬ (T.getD j 0 ≠ 0 ∧ st.getD (P0 + j) 0 ≠ T.getD j 0) → ∀ i, i < j + 1 → ¬ (T.getD i 0 ≠ 0 ∧ st.getD (st.length - T.length + i) 0 ≠ T.getD i 0)) (fun z i hi => by
            by_cases q : i = j
            · rw [q, hP0]; exact z
            · exact hN.out i (by omega))
          have WR := Lib.hid (p := (T.getD j 0 ≠ 0 ∧ st.getD (P0 + j) 0 ≠ T.getD j 0) → dWr day ⟨st, sl⟩ ⟨(k : Int), (a : Int), b⟩ at' n = 143) (fun z => E1.out (DS.out.2 ⟨j, hlt, z.1, by rw [hP0]; exact z.2⟩))
          clear hN hB tcj scj DS E1
          generalize hpj : P0 + j = P at *
          generalize T.getD j 0 = tv at *
          generalize st.getD P 0 = sv at *
          by_cases z0 : tv = 0
          · have NX2 := Lib.hid (NX.out (fun q => q.1 z0))
            subst z0
            clear NX WR
            go_wp2
            go_quiet (fail)
            go_wp2
            refine ⟨⟨j + 1, by omega, by simp, BB.out.trans (drewN_below' wr nq w1.heap.size), NX2.out⟩, ?_⟩
            simp [intOf]
            omega
          · have z1 : ¬ (tv : Int) = 0 := by omega
            by_cases z2 : sv = tv
            · have NX2 := Lib.hid (NX.out (fun q => q.2 z2))
              subst z2
              clear NX WR
              go_wp2
              go_quiet (fail)
              go_wp2
              refine ⟨⟨j + 1, by omega, by simp, BB.out.trans (drewN_below' wr nq w1.heap.size), NX2.out⟩, ?_⟩
              simp [intOf]
              omega
            · have z3 : ¬ (sv : Int) = (tv : Int) := by omega
              have z4 : (sv != tv) = true := by simpa using z2
              have z6 : ((sv : Int) != (tv : Int)) = true := by simpa using z3
              have z8 : ((tv : Int) != 0) = true := by simpa using z1
              have E := Lib.hid (WR.out ⟨z0, z2⟩)
              clear NX WR
              go_wp2
              go_quiet (fail)
              go_wp2
              go_ret
              exact RT.out _ 143 (BR.out.trans (drewN_below' wr nq W0.heap.size)) E.out
        · obtain rfl : j = T.length := by omega
          have ns : ¬ dSo k st := fun z => by
            obtain ⟨i, hi, q1, q2⟩ := DS.out.1 z
            exact hN.out i hi ⟨q1, q2⟩
          have kc : ¬ (T.length : Int) < (T.length : Int) := by omega
          have S1 := Lib.hid (KS.out wr BR.out)
          have F2 := Lib.hid (E2.out ns)
          have F3 := Lib.hid (E3.out ns)
          have F4 := Lib.hid (E4.out ns)
          have kj1 : IntKind.i64.wrap ((at' : Int) + 1) = (at' : Int) + 1 := by simp [IntKind.wrap, IntKind.bits, IntKind.signed]; omega
          have kj2 : IntKind.i64.wrap ((at' : Int) + 1 + (a : Int)) = (at' : Int) + 1 + (a : Int) := by simp [IntKind.wrap, IntKind.bits, IntKind.signed]; omega
          clear hN hB DS E1 E2 E3 E4 ns TC SC
          by_cases k7 : k = 7
          · subst k7
            by_cases z : dSlot sl a = 0
            · have E := Lib.hid (F2.out ⟨rfl, z⟩)
              rw [z] at S1
              go_wp2_with (go_at_call 52; refine S1.out.mono ?_; rintro e wx ⟨rfl, hwx⟩; replace hwx := hwx.symm; subst hwx)
              go_ret
              exact RT.out _ 144 BR.out E.out
            · have z1 : ¬ (dSlot sl a : Int) = 0 := by omega
              have E := Lib.hid (F4.out (fun q => z q.2) (by omega))
              rw [if_neg (by omega)] at E
              generalize dSlot sl a = sv at *
              go_wp2_with (go_at_call 52; refine S1.out.mono ?_; rintro e wx ⟨rfl, hwx⟩; replace hwx := hwx.symm; subst hwx)
              go_ret
              exact RT.out _ 0 BR.out E.out
          have n7 : ¬ (k : Int) = 7 := by omega
          by_cases k3 : k = 3
          · subst k3
            by_cases z : day < b
            · have E := Lib.hid (F3.out (by omega) ⟨rfl, z⟩)
              have zd : decide (day < b) = true := decide_eq_true z
              go_wp2
              go_ret
              exact RT.out _ 145 BR.out E.out
            · have E := Lib.hid (F4.out (by omega) (by omega))
              rw [if_neg (by omega)] at E
              have zd : decide (day < b) = false := decide_eq_false z
              go_wp2
              go_ret
              exact RT.out _ 0 BR.out E.out
          have n3 : ¬ (k : Int) = 3 := by omega
          have E0 := Lib.hid (F4.out (by omega) (by omega))
          clear F2 F3 F4 S1
          by_cases kj : k = 26 ∨ k = 27
          · by_cases z : n ≤ at' + 1 + a
            · have E := E0
              rw [if_pos ⟨kj, z⟩] at E
              have z1 : (n : Int) ≤ (at' : Int) + 1 + (a : Int) := by omega
              have zd : decide ((n : Int) ≤ (at' : Int) + 1 + (a : Int)) = true := decide_eq_true z1
              rcases kj with rfl | rfl
              · go_wp2
                go_ret
                exact RT.out _ 141 BR.out E.out
              · go_wp2
                go_ret
                exact RT.out _ 141 BR.out E.out
            · have E := E0
              rw [if_neg (fun q => z q.2)] at E
              have z1 : ¬ (n : Int) ≤ (at' : Int) + 1 + (a : Int) := by omega
              have zd : decide ((n : Int) ≤ (at' : Int) + 1 + (a : Int)) = false := decide_eq_false z1
              rcases kj with rfl | rfl
              · go_wp2
                go_ret
                exact RT.out _ 0 BR.out E.out
              · go_wp2
                go_ret
                exact RT.out _ 0 BR.out E.out
          · have E := E0
            rw [if_neg (fun q => kj q.1)] at E
            have n26 : ¬ (k : Int) = 26 := by omega
            have n27 : ¬ (k : Int) = 27 := by omega
            go_wp2
            go_ret
            exact RT.out _ 0 BR.out E.out
end Go.Proofs.YtjbbbejadhojlaaDoor

namespace Go.Proofs.YtjbbbejadhojlaaDoor
open Go.RowKit
set_option linter.unusedVariables false
set_option linter.unusedSimpArgs false
theorem own_formR {w : World} {B n k : Nat} {t : TypeId} {v : Value} {xs : List Value} (h : w.ownsRow B t k v n xs) : ∃ a c, v = .slice a n c := by
  rcases h.2 with ⟨rfl, h0⟩ | ⟨g, cap, cur, rfl, _⟩
  · subst h0; exact ⟨_, _, rfl⟩
  · exact ⟨_, _, rfl⟩
theorem getD_snoc_ltR {α : Type} {l : List α} {x d : α} {i : Nat} (h : i < l.length) : (l ++ [x]).getD i d = l.getD i d := by
  simp only [List.getD]
  rw [List.getElem?_append_left h]
theorem getD_snoc_eqR {α : Type} {l : List α} {x d : α} : (l ++ [x]).getD l.length d = x := by simp [List.getD]
theorem flatV_snocR (V V' : Nat → List Value) (n : Nat) (h : ∀ i, i < n → V' i = V i) : flatV n V ++ V' n = flatV (n + 1) V' := by
  unfold flatV
  rw [List.range_succ, List.flatMap_append]
  have : (List.range n).flatMap V = (List.range n).flatMap V' := by
    rw [List.flatMap_def, List.flatMap_def]
    congr 1
    exact List.map_congr_left (fun i hi => (h i (List.mem_range.1 hi)).symm)
  rw [this]
  simp
theorem wp_app_runR {ops : Array Oper} {rest : List Oper} {o : Oper} {a : Act} {Q : Exit → Act → World → Prop} {w : World} (hgd : o.guard = none) (s x : Operand) (T : TypeId)
    (ho : o.op = .call { callee := .builtin .append, args := #[s, x], argTypes := #[T, T] }) (v u r : Value) (W1 : World) (hs : a.eval s = v) (hx : a.eval x = u) (hr : ∀ ty, (Builtin.append_ #[T, T] ty #[v, u]).run Tryd.prog w = .ok r W1)
    (h : wpList Tryd.prog ops Q rest (a.put o.dst r) W1) : wpList Tryd.prog ops Q (o :: rest) a w := by
  refine wpList_plain hgd fun _ hK => ?_
  have hK := hK _ _ h
  unfold Oper.wp execOp
  simp only [ho, resolve, invoke, builtin, Sem.run_bind, Sem.run_pure, Result.andThen_ok, List.map_toArray, List.map_cons, List.map_nil, hs, hx, hr]
  exact hK
theorem step_app_runR {ops : Array Oper} {o : Oper} {a : Act} {K : Act → World → Prop} {Q : Exit → Act → World → Prop} {E : Prop} {w : World} (hgd : o.guard = none) (s x : Operand) (T : TypeId)
    (ho : o.op = .call { callee := .builtin .append, args := #[s, x], argTypes := #[T, T] }) (v u r : Value) (W1 : World) (hs : a.eval s = v) (hx : a.eval x = u) (hr : ∀ ty, (Builtin.append_ #[T, T] ty #[v, u]).run Tryd.prog w = .ok r W1)
    (h : K (a.put o.dst r) W1) : if Region.wanted o (yielded ops a.tmps) = true then Oper.wp Tryd.prog o a w K Q else E := by
  have hw : Region.wanted o (yielded ops a.tmps) = true := by simp [Region.wanted, hgd]
  rw [if_pos hw]
  unfold Oper.wp execOp
  simp only [ho, resolve, invoke, builtin, Sem.run_bind, Sem.run_pure, Result.andThen_ok, List.map_toArray, List.map_cons, List.map_nil, hs, hx, hr]
  exact h
theorem run_rowappR {T E k bz : Nat} {i0 : TypeInfo} {z : Value} (hT : Tryd.prog.underlying T = some (.slice E)) (hi : Tryd.prog.info? E = some i0) (hz0 : i0.zero = some z) (hz1 : i0.size = k) (hz2 : i0.bytes = bz) (hzs : z.cells.size = k) (hk : 0 < k) {w : World} {B : Nat} {v : Value} {m : Nat} {xs : List Value} (hv : w.ownsRow B E k v m xs) {a : Option Addr} {n c : Nat} {V : Nat → List Value} (hh : Hd a n c) (hr : Row w a n k V) (hV : ∀ i, (V i).length = k) (h1 : ∀ i, ∀ u ∈ V i, u.oneCell' = true) (hm : m + n ≤ maxLen) (hb : (m + n) * bz ≤ 140737488355328) (hB : B ≤ w.heap.size) :
    ∃ a' c' w', (∀ ty, (Builtin.append_ #[T, T] ty #[v, .slice a n c]).run Tryd.prog w = .ok (.slice a' (m + n) c') w') ∧ w'.ownsRow B E k (.slice a' (m + n) c') (m + n) (xs ++ flatV n V) ∧ w.grownBy w' v.ownBlock ∧ (Value.ownBlock (.slice a' (m + n) c') = v.ownBlock ∨ Value.ownBlock (.slice a' (m + n) c') = some w.heap.size) := by
  cases a with
  | none =>
    obtain ⟨rfl, rfl⟩ := hh.1 rfl
    obtain ⟨a', c', rfl⟩ := own_formR hv
    refine ⟨a', c', w, fun ty => ?_, by simpa [flatV] using hv, ⟨rfl, rfl, rfl, Nat.le_refl _, fun _ _ _ => rfl⟩, .inl rfl⟩
    have q := run_append_owned_none (P := Tryd.prog) (w := w) B T ty E i0 k hT hi _ _ _ hv
    simpa using q
  | some ad =>
    have nw : ∀ j u, (flatV n V)[j]? = some u → w.cell? (ad.add j) = some u := by
      rcases hr with rfl | ⟨b, o, e, hb, hc⟩
      · intro j u hj; simp [flatV] at hj
      · injection e with e
        subst e
        exact row_news hk (fun i _ => hV i) hc
    have q := fun ty => run_append_own_at (P := Tryd.prog) w B T ty E i0 z k bz hT hi hz0 hz1 hz2 hzs hk v m xs hv ad n c (flatV n V) (flatV_len V n (fun i _ => hV i)) nw (flatV_one (k := k) V n (fun i _ => h1 i)) hm hb hB
    obtain ⟨v', w', r, o, g, _, p⟩ := q 0
    obtain ⟨a', c', rfl⟩ := own_formR o
    refine ⟨a', c', w', fun ty => ?_, o, g, p⟩
    have : (Builtin.append_ #[T, T] ty #[v, .slice (some ad) n c]) = (Builtin.append_ #[T, T] 0 #[v, .slice (some ad) n c]) := rfl
    rw [this]
    exact r
theorem infoKp : (Tryd.prog.info? 112).map (fun i => (i.zero, i.size, i.bytes)) = some (some (.agg #[.int .i64 0, .int .i64 0]), 2, 16) := by kernel_rfl
/-- A list of kept slots of one's own. -/
def OwKp (w : World) (B : Nat) (v : Value) (l : List (Nat × Nat)) : Prop := w.ownsRow B 112 2 v l.length (flatV l.length (kptV l))
theorem OwKp.lat {w w' : World} {B : Nat} {v : Value} {l : List (Nat × Nat)} (h : OwKp w B v l) (b : Below w.heap.size w w') : OwKp w' B v l := own_blkG h (fun g hg => b.block g (World.ownsRow.lt h g hg).2)
theorem OwKp.kpt {w : World} {B : Nat} {a : Option Addr} {n c : Nat} {l : List (Nat × Nat)} (h : OwKp w B (.slice a n c) l) : KptL w a n l := by
  rcases h.2 with ⟨e, h0⟩ | ⟨g, cap, cur, e, _, e3, _⟩
  · injection e with e1 e2 e3
    subst e2
    exact ⟨h0, .inl rfl⟩
  · injection e with e1 e2 e3'
    subst e1 e2
    refine ⟨rfl, .inr ⟨g, 0, cur, _, rfl, e3, fun i hi j hj => ?_⟩⟩
    rw [Nat.zero_add, World.ownsRow.cellAt h (i * 2 + j) (by omega), flatV_at (k := 2) (by omega) (kptV l) l.length (fun _ _ => rfl) i hi j hj]
    have : j < (kptV l i).length := hj
    simp [List.getD, this]
/-- One kept slot more. -/
theorem OwKp.next {w : World} {B : Nat} {a : Option Addr} {n c : Nat} {l : List (Nat × Nat)} (h : OwKp w B (.slice a n c) l) (hn : l.length ≤ 1000000) (hB : B ≤ w.heap.size) (e : Nat × Nat) : ∃ a' c' w', (∀ ty, (Builtin.append_ #[70, 70] ty #[.slice a n c, .slice (some ⟨w.heap.size, 0, none⟩) 1 1]).run Tryd.prog (w.alloc (.cells #[.int .i64 (e.1 : Int), .int .i64 (e.2 : Int)] 112)) = .ok (.slice a' (n + 1) c') w') ∧ RowKit.Hid (OwKp w' B (.slice a' (n + 1) c') (l ++ [e]) ∧ w.grownBy w' (Value.ownBlock (.slice a n c)) ∧ (∀ C, C ≤ B → Below C w w')) := by
  have al := allocBP w (.cells #[.int .i64 (e.1 : Int), .int .i64 (e.2 : Int)] 112)
  have h1 := h.lat al
  have nl : n = l.length := by
    obtain ⟨a2, c2, q⟩ := own_formR h
    injection q
  obtain ⟨i0, hi, hz0, hz1, hz2⟩ := info_parts infoKp
  obtain ⟨a', c', w3, r3, o3, g3, _⟩ := run_rowappR (V := fun _ => [.int .i64 (e.1 : Int), .int .i64 (e.2 : Int)]) Tryd.underlying70 hi hz0 hz1 hz2 rfl (by omega) h1 (a := some ⟨w.heap.size, 0, none⟩) (n := 1) (c := 1) ⟨fun z => (by cases z), Nat.le_refl _, by unfold maxLen; omega⟩ (.inr ⟨w.heap.size, 0, rfl, by simp, fun i hi j hj => by
    have i0 : i = 0 := by omega
    subst i0
    have bk : BkP (w.alloc (.cells #[.int .i64 (e.1 : Int), .int .i64 (e.2 : Int)] 112)) w.heap.size #[.int .i64 (e.1 : Int), .int .i64 (e.2 : Int)] 112 := heapN w _
    rw [bk.cell]
    rcases (show j = 0 ∨ j = 1 by omega) with rfl | rfl <;> rfl⟩) (fun _ => rfl) (fun i u hu => by
      simp at hu
      rcases hu with rfl | rfl <;> rfl) (by unfold maxLen; omega) (by omega) (Nat.le_trans hB al.size)
  have gw : w.grownBy w3 (Value.ownBlock (.slice a n c)) := ⟨g3.os, g3.tape, g3.output, Nat.le_trans al.size g3.size, fun x hx hn => (g3.block x (by have := al.size; omega) hn).trans (al.block x hx)⟩
  refine ⟨a', c', w3, by rw [nl]; rw [nl] at r3; exact r3, ?_, gw, fun C hC => ⟨gw.os, gw.tape, gw.output, gw.size, fun x hx => gw.block x (by omega) (fun z => by have := (World.ownsRow.lt h x z.symm).1; omega)⟩⟩
  unfold OwKp
  have ll : (l ++ [e]).length = l.length + 1 := by simp
  have e1 := flatV_snocR (kptV l) (kptV (l ++ [e])) l.length (fun i hi => by unfold kptV; rw [getD_snoc_ltR hi])
  have e2 : kptV (l ++ [e]) l.length = flatV 1 (fun _ => [Value.int .i64 (e.1 : Int), .int .i64 (e.2 : Int)]) := by
    unfold kptV
    rw [getD_snoc_eqR]
    rfl
  rw [e2] at e1
  rw [ll, ← e1, nl]
  exact o3
end Go.Proofs.YtjbbbejadhojlaaDoor

namespace Go.Proofs.YtjbbbejadhojlaaDoor
open Go.RowKit
set_option linter.unusedVariables false
set_option linter.unusedSimpArgs false
theorem dOut_next {l : List (Nat × Nat)} {x j : Nat} (hj : j < l.length) : dOut (l.take (j + 1)) x = if (l.getD j default).1 = x then dOut (l.take j) x else dOut (l.take j) x ++ [l.getD j default] := by
  unfold dOut
  rw [List.take_succ_eq_append_getElem hj, List.filter_append]
  have e : l.getD j default = l[j] := by simp [List.getD, hj]
  rw [e]
  by_cases z : l[j].1 = x
  · rw [if_pos z]
    simp [z]
  · rw [if_neg z]
    simp [z]
theorem dOut_len {l : List (Nat × Nat)} {x : Nat} : (dOut l x).length ≤ l.length := by unfold dOut; exact List.length_filter_le _ _
/-- What without answers. -/
def WoE (w : World) (l : List (Nat × Nat)) (x : Nat) (e : Ending) (w' : World) : Prop := ∃ a c, e = .returned (.slice a (dOut l x).length c) ∧ OwKp w' w.heap.size (.slice a (dOut l x).length c) (dOut l x) ∧ Below w.heap.size w w'
set_option maxRecDepth 100000 in
set_option maxHeartbeats 1600000 in
theorem without14_any {w : World} {a : Option Addr} {n c : Nat} {l : List (Nat × Nat)} (h : KptL w a n l) (hn : n ≤ 1000000) (x : Nat) : Calls Tryd.prog 53 #[.slice a n c, .int .i64 (x : Int)] w fun e w' => WoE w l x e w' := by
  obtain ⟨h1, h2⟩ := h
  have CC := Lib.hid (p := ∀ k, k < n → ∃ y u, a = some ⟨y, u, none⟩ ∧ ∀ V, Below w.heap.size w V → V.cell? ⟨y, u + k * 2, none⟩ = some (.int .i64 ((l.getD k default).1 : Int)) ∧ V.cell? ⟨y, u + k * 2 + 1, none⟩ = some (.int .i64 ((l.getD k default).2 : Int))) (fun k hk => by
    obtain ⟨y, u, e, ly, hc⟩ := h2.at hk
    exact ⟨y, u, e, fun V b => ⟨(b.cell (p := ⟨y, u + k * 2, none⟩) ly).trans (hc 0 (by omega)), (b.cell (p := ⟨y, u + k * 2 + 1, none⟩) ly).trans (hc 1 (by omega))⟩⟩)
  have L1 := Lib.hid h1
  have FE := Lib.hid (p := ∀ a' c' W, OwKp W w.heap.size (.slice a' (dOut (l.take n) x).length c') (dOut (l.take n) x) → Below w.heap.size w W → WoE w l x (.returned (.slice a' (dOut (l.take n) x).length c')) W) (fun a' c' W o b => by
    rw [← h1, List.take_length] at o ⊢
    exact ⟨a', c', rfl, o, b⟩)
  clear h1 h2
  go_enter Tryd.func53, Tryd.ntmps53
  go_wp2
  go_loopw [5, 6] (fun v t wr => ∃ (j : Nat) (a' : Option Addr) (c' : Nat), j ≤ n ∧ v = .slice a' (dOut (l.take j) x).length c' ∧ t = .int .i64 (j : Int) ∧ RowKit.Hid (OwKp wr w.heap.size (.slice a' (dOut (l.take j) x).length c') (dOut (l.take j) x) ∧ Below w.heap.size w wr)) (fun _ t _ => n - (intOf t).toNat)
  case atStart => exact ⟨0, none, 0, by omega, rfl, rfl, World.ownsRow_nil _ _ _ _, Below.refl _ _⟩
  case round =>
    rename World => wr
    obtain ⟨j, a', c', hj, rfl, rfl, hO⟩ := hrel
    by_cases hlt : j < n
    · obtain ⟨y, u, rfl, hcc⟩ := CC.out j hlt
      obtain ⟨c0, c1⟩ := hcc wr hO.out.2
      have kc : (j : Int) < (n : Int) := by omega
      have k0 : ¬ (j : Int) < 0 := by omega
      have ks : IntKind.i64.wrap ((j : Int) + 1) = (j : Int) + 1 := by simp [IntKind.wrap, IntKind.bits, IntKind.signed]; omega
      have nx := dOut_next (l := l) (x := x) (j := j) (by rw [L1.out]; exact hlt)
      by_cases z : (l.getD j default).1 = x
      · rw [if_pos z] at nx
        have Y := Lib.hid (p := (dOut (l.take j) x).length = (dOut (l.take (j + 1)) x).length ∧ RowKit.Hid (OwKp wr w.heap.size (.slice a' (dOut (l.take (j + 1)) x).length c') (dOut (l.take (j + 1)) x) ∧ Below w.heap.size w wr)) (by rw [nx]; exact ⟨rfl, hO.out⟩)
        have z0 : ((l.getD j default).1 : Int) = (x : Int) := by omega
        clear hO nx hcc
        generalize (dOut (l.take j) x).length = m at *
        generalize l.getD j default = e at *
        obtain ⟨e1, e2⟩ := e
        simp only at c0 c1 z z0
        subst z
        go_wp2
        refine ⟨⟨j + 1, a', c', by omega, by rw [Y.out.1], by simp, Y.out.2.out⟩, ?_⟩
        simp [intOf]
        omega
      · rw [if_neg z] at nx
        have z0 : ¬ ((l.getD j default).1 : Int) = (x : Int) := by omega
        have z4 : ((l.getD j default).1 != x) = true := by simpa using z
        obtain ⟨a2, c2, w2, r2, q2⟩ := hO.out.1.next (by have := dOut_len (l := l.take j) (x := x); have : (l.take j).length ≤ n := by rw [List.length_take]; omega
                                                         omega) hO.out.2.size (l.getD j default)
        have R2 := Lib.hid r2
        have Y := Lib.hid (p := (dOut (l.take j) x).length + 1 = (dOut (l.take (j + 1)) x).length ∧ RowKit.Hid (OwKp w2 w.heap.size (.slice a2 (dOut (l.take (j + 1)) x).length c2) (dOut (l.take (j + 1)) x) ∧ Below w.heap.size w w2)) (by
          obtain ⟨o2, g2, b2⟩ := q2.out
          rw [nx]
          refine ⟨by simp, ?_, hO.out.2.trans (b2 w.heap.size (Nat.le_refl _))⟩
          simpa using o2)
        clear hO nx hcc r2 q2
        generalize (dOut (l.take j) x).length = m at *
        generalize l.getD j default = e at *
        obtain ⟨e1, e2⟩ := e
        simp only at c0 c1 z z0 z4 R2
        go_wp2_with (at_builtin; refine wp_app_runR rfl _ _ 70 rfl _ _ _ w2 rfl rfl R2.out ?_)
        refine ⟨⟨j + 1, a2, c2, by omega, by rw [Y.out.1], by simp, Y.out.2.out⟩, ?_⟩
        simp [intOf]
        omega
    · obtain rfl : j = n := by omega
      have E := Lib.hid (FE.out a' c' wr hO.out.1 hO.out.2)
      clear hO
      generalize (dOut (l.take j) x).length = m at *
      go_wp2
      go_ret
      exact E.out
end Go.Proofs.YtjbbbejadhojlaaDoor
