/-
  LISTS OF BYTES IN MEMORY; an append of one; AppendUint.
-/
import Derived.Test.YtdbjdieegocdfaaDoorRows
import Derived.Test.YtdbjdieegocdfaaDoorPlainOct
import Derived.WalkKit
import Derived.WalkSpells
import Derived.Below
import Derived.BigCall
import Derived.BigGuard
import Derived.BigQuiet
import Derived.Deep.QuietTactic
import Derived.Lib.Hide
import Derived.Lib.Varint
import Derived.Laws.AppendOwn
import Derived.Laws.AppendOwnNone
import Derived.Laws.OwnMore
import Derived.Laws.BitsAllLaws
import Derived.Maps.AppendAt
namespace Go.Proofs.YtdbjdieegocdfaaDoor
open Go.RowKit
set_option linter.unusedVariables false
set_option linter.unusedSimpArgs false

/-- A list of bytes, as cells. -/
def bcs (xs : List Int) : List Value := xs.map (Value.int .u8)
theorem bcs_len (xs : List Int) : (bcs xs).length = xs.length := by simp [bcs]
theorem bcs_app (xs ys : List Int) : bcs (xs ++ ys) = bcs xs ++ bcs ys := by simp [bcs]
theorem info8 : (Tryd.prog.info? 5).map (fun i => (i.zero, i.size, i.bytes)) = some (some (.int .u8 0), 1, 1) := by kernel_rfl
/-- The row v of n bytes xs, the call's own. -/
abbrev Own (w : World) (B : Nat) (v : Value) (n : Nat) (xs : List Int) : Prop := w.ownsRow B 5 1 v n (bcs xs)

/-- An append leaves the row as it was, seen through the old slice. -/
theorem append_keeps {w : World} (base : Nat) (t ty e : TypeId) (i : TypeInfo) (z : Value) (size bytes : Nat) (ht : Tryd.prog.underlying t = some (.slice e)) (hi : Tryd.prog.info? e = some i) (hz : i.zero = some z)
    (hsize : i.size = size) (hby : i.bytes = bytes) (hzs : z.cells.size = size) (hsz : 0 < size)
    (v : Value) (n : Nat) (xs : List Value) (hown : w.ownsRow base e size v n xs)
    (a : Addr) (m c : Nat) (news : List Value) (hl : news.length = m * size) (hnews : ∀ j u, news[j]? = some u → w.cell? (a.add j) = some u) (h1 : ∀ u ∈ news, u.oneCell' = true)
    (h63 : n + m ≤ maxLen) (hbytes : (n + m) * bytes ≤ 140737488355328) (hbase : base ≤ w.heap.size) (v' : Value) (w' : World)
    (hr : (Builtin.append_ #[t, t] ty #[v, .slice (some a) m c]).run Tryd.prog w = .ok v' w') : w'.ownsRow base e size v n xs := by
  subst hsize
  subst hby
  have hsmall : n + m ≤ 9223372036854775807 := by simp only [maxLen] at h63; omega
  rcases hown.2 with ⟨rfl, rfl⟩ | ⟨g, cap, cur, rfl, hbg, hg, hnc, hcm, hcs, htake⟩
  · exact ⟨hown.1, .inl ⟨rfl, rfl⟩⟩
  · by_cases hroom : n + m ≤ cap
    · have hfit : n * i.size + news.length ≤ cur.size := by rw [hl, hcs, ← Nat.add_mul]; exact Nat.mul_le_mul_right _ hroom
      rw [run_append_room (P := Tryd.prog) w t ty e i ht hi g n cap cur hg a m c news hl hnews h1 hroom hfit] at hr
      injection hr with hr1 hr2
      subst hr2
      refine ⟨hown.1, .inr ⟨g, cap, _, rfl, hbg, setRow_heap w g cur _ e _ hg, hnc, hcm, ?_, ?_⟩⟩
      · simp only [List.size_toArray, List.length_append, List.length_take, List.length_drop, Array.length_toList]
        omega
      · simp only [List.append_assoc]
        rw [htake, ← hown.1]
        exact List.take_left
    · have holds : ∀ j u, xs[j]? = some u → w.cell? ((⟨g, 0, none⟩ : Addr).add j) = some u := hown.cells (g := g) rfl
      rw [run_append_grow (P := Tryd.prog) w t ty e i z ht hi hz ⟨g, 0, none⟩ n cap xs hown.1 holds a m c news hl hnews (by omega) (by omega) (growslice_fits (by omega) hbytes)] at hr
      injection hr with hr1 hr2
      subst hr2
      exact hown.kept (row := none) ⟨rfl, rfl, rfl, by simp, fun k hk _ => Below.heap_alloc w.drew _ k hk⟩ (by simp [Value.ownBlock])

/-- v' is the row v grown (in its memory, or in memory that is new). -/
structure Ext (B : Nat) (w : World) (v : Value) (n : Nat) (xs : List Int) (w' : World) (v' : Value) (m : Nat) (ys : List Int) : Prop where
  own : Own w' B v' m ys
  grown : w.grownBy w' v.ownBlock
  old : Own w' B v n xs
  at_ : v'.ownBlock = v.ownBlock ∨ ∃ g, v'.ownBlock = some g ∧ w.heap.size ≤ g
  lt : ∀ k, v.ownBlock = some k → B ≤ k ∧ k < w.heap.size
theorem Ext.start {B : Nat} {w : World} {v : Value} {n : Nat} {xs : List Int} (h : Own w B v n xs) : Ext B w v n xs w v n xs :=
  ⟨h, ⟨rfl, rfl, rfl, Nat.le_refl _, fun _ _ _ => rfl⟩, h, .inl rfl, h.lt⟩
theorem own_shrink {w : World} {B g m cap n : Nat} {xs ys : List Int} (h : Own w B (.slice (some ⟨g, 0, none⟩) m cap) m (xs ++ ys)) (hn : xs.length = n) : Own w B (.slice (some ⟨g, 0, none⟩) n cap) n xs := by
  obtain ⟨h1, h2⟩ := h
  rcases h2 with ⟨h2, _⟩ | ⟨g', cap', cur, h2, hB, hg, hnc, hm, hs, ht⟩
  · cases h2
  · injection h2 with h2 _ h3
    injection h2 with h2
    injection h2 with h2
    subst h2 h3
    have hl : m = n + ys.length := by rw [bcs_len] at h1; simp at h1; omega
    refine ⟨by rw [bcs_len]; omega, .inr ⟨g, cap, cur, rfl, hB, hg, by omega, hm, hs, ?_⟩⟩
    have : (cur.toList.take (m * 1)).take n = bcs xs := by rw [ht, bcs_app, ← hn, ← bcs_len xs]; exact List.take_left
    rw [List.take_take, show min n (m * 1) = n by omega] at this
    rw [Nat.mul_one]; exact this

/-- One step more. -/
theorem Ext.step {B : Nat} {w : World} {v : Value} {n : Nat} {xs : List Int} {w1 : World} {v1 : Value} {m : Nat} {ys : List Int} {w2 : World} {v2 : Value} {m2 : Nat} {zs : List Int}
    (h : Ext B w v n xs w1 v1 m (xs ++ ys)) (k : Ext B w1 v1 m (xs ++ ys) w2 v2 m2 (xs ++ ys ++ zs)) : Ext B w v n xs w2 v2 m2 (xs ++ ys ++ zs) := by
  obtain ⟨a1, a2, a3, a4, a5⟩ := h
  obtain ⟨b1, b2, b3, b4, b5⟩ := k
  have hx : xs.length = n := by have := a3.1; rw [bcs_len] at this; omega
  refine ⟨b1, ⟨b2.os.trans a2.os, b2.tape.trans a2.tape, b2.output.trans a2.output, Nat.le_trans a2.size b2.size, fun k hk hr => ?_⟩, ?_, ?_, a5⟩
  · rw [b2.block k (Nat.lt_of_lt_of_le hk a2.size) ?_, a2.block k hk hr]
    rcases a4 with a4 | ⟨g, a4, hg⟩
    · rw [a4]; exact hr
    · rw [a4]; intro e; injection e with e; omega
  · rcases a4 with a4 | ⟨g, a4, hg⟩
    · rcases a3.2 with ⟨hv, h0⟩ | ⟨g, cap, cur, rfl, hB, hgg, hnc, hm, hs, ht⟩
      · exact ⟨a3.1, .inl ⟨hv, h0⟩⟩
      · rcases a1.2 with ⟨rfl, _⟩ | ⟨g', cap', cur', rfl, hB', hgg', hnc', hm', hs', ht'⟩
        · simp [Value.ownBlock] at a4
        · simp [Value.ownBlock] at a4
          subst a4
          rw [hgg] at hgg'
          injection hgg' with hgg'
          injection hgg' with hcur
          subst hcur
          have : cap = cap' := by omega
          subst this
          exact own_shrink b3 hx
    · refine a3.kept b2 ?_
      rcases hv : v.ownBlock with _ | q
      · exact .inl rfl
      · right
        rw [a4]
        intro e
        injection e with e
        have := (a5 q hv).2
        omega
  · rcases b4 with b4 | ⟨g, b4, hg⟩
    · rw [b4]; exact a4
    · exact .inr ⟨g, b4, Nat.le_trans a2.size hg⟩
theorem Ext.below {B : Nat} {w w' : World} {v v' : Value} {n m : Nat} {xs ys : List Int} (h : Ext B w v n xs w' v' m ys) (hB : B ≤ w.heap.size) : Below B w w' :=
  (Below.refl B w).grown h.grown hB (fun k e => (h.lt k e).1)

/-- An append of one byte. -/
theorem wp_byteK {ops : Array Oper} {rest : List Oper} {o : Oper} {a : Act} {Q : Exit → Act → World → Prop} (w : World) (c : Int) (hgd : o.guard = none) (s x : Operand)
    (ho : o.op = .call { callee := .builtin .append, args := #[s, x], argTypes := #[25, 25] }) (B : Nat) (v : Value) (n : Nat) (xs : List Int) (hs : a.eval s = v)
    (hx : a.eval x = .slice (some ⟨w.heap.size, 0, none⟩) 1 1) (hown : Own w B v n xs) (hl : n ≤ 140737488355000) (hb : B ≤ w.heap.size)
    (h : ∀ v' w', Ext B w v n xs w' v' (n + 1) (xs ++ [c]) → wpList Tryd.prog ops Q rest (a.put o.dst v') w') :
    wpList Tryd.prog ops Q (o :: rest) a (w.alloc (.cells #[.int .u8 c] 5)) := by
  obtain ⟨i0, hi, hz0, hz1, hz2⟩ := info_parts info8
  have o1 : (w.alloc (.cells #[.int .u8 c] 5)).ownsRow B 5 1 v n (bcs xs) := hown.alloc _
  have hnews : ∀ j u, [Value.int .u8 c][j]? = some u → (w.alloc (.cells #[.int .u8 c] 5)).cell? ((⟨w.heap.size, 0, none⟩ : Addr).add j) = some u := by
    intro j u hj
    match j, hj with
    | 0, hj => simp at hj; subst hj; simp [Addr.add]
  have h1 : ∀ u ∈ [Value.int .u8 c], u.oneCell' = true := by intro u hu; simp at hu; subst hu; rfl
  have hB' : B ≤ (w.alloc (.cells #[.int .u8 c] 5)).heap.size := Nat.le_trans hb (by simp)
  obtain ⟨v', w', hr, h2, h3, h4, h5⟩ := run_append_own_at (P := Tryd.prog) (w.alloc (.cells #[.int .u8 c] 5)) B 25 o.type 5 i0 (.int .u8 0) 1 1 Tryd.underlying25 hi hz0 hz1 hz2 rfl (by decide) v n (bcs xs) o1 ⟨w.heap.size, 0, none⟩ 1 1 [.int .u8 c] rfl hnews h1 (by unfold maxLen; omega) (by omega) hB'
  have hk := append_keeps (w := w.alloc (.cells #[.int .u8 c] 5)) B 25 o.type 5 i0 (.int .u8 0) 1 1 Tryd.underlying25 hi hz0 hz1 hz2 rfl (by decide) v n (bcs xs) o1 ⟨w.heap.size, 0, none⟩ 1 1 [.int .u8 c] rfl hnews h1 (by unfold maxLen; omega) (by omega) hB' v' w' hr
  have E : Ext B w v n xs w' v' (n + 1) (xs ++ [c]) := by
    refine ⟨by show w'.ownsRow _ _ _ _ _ (bcs (xs ++ [c])); rw [bcs_app]; exact h2, ⟨h3.os, h3.tape, h3.output, Nat.le_trans (by simp) h3.size, fun k hk hr => ?_⟩, hk, ?_, hown.lt⟩
    · rw [h3.block k (Nat.lt_of_lt_of_le hk (by simp)) hr]
      exact Below.heap_alloc w _ k hk
    · rcases h5 with h5 | h5
      · exact .inl h5
      · exact .inr ⟨_, h5, by simp⟩
  refine wpList_plain hgd fun K hK => ?_
  unfold Oper.wp execOp
  simp only [ho, resolve, invoke, builtin, Sem.run_bind, Sem.run_pure, Result.andThen_ok, List.map_toArray, List.map_cons, List.map_nil, hs, hx, hr]
  exact hK _ _ (h v' w' E)

set_option maxHeartbeats 2000000 in
set_option maxRecDepth 100000 in
theorem appendUint_any (v : Value) (B n : Nat) (xs : List Int) (x : Nat) (w : World) (ho : Own w B v n xs) (hn : n ≤ 140737488354000) (hB : B ≤ w.heap.size) (hx : x < 18446744073709551616) :
    Calls Tryd.prog 24 #[v, .int .u64 (x : Int)] w fun e w' => ∃ v', e = .returned v' ∧ Ext B w v n xs w' v' (n + (vl x).length) (xs ++ vl x) := by
  have LEN := Lib.hid (vl_len10 hx)
  have O0 := Lib.hid ho
  clear ho
  go_enter Tryd.func24, Tryd.ntmps24
  go_wp2
  go_loopw [0, 1] (fun a b wr => ∃ (y : Nat) (ys : List Int), b = .int .u64 (y : Int) ∧ y ≤ x ∧ RowKit.Hid (ys ++ vl y = vl x) ∧ Ext B w v n xs wr a (n + ys.length) (xs ++ ys)) (fun _ b _ => (intOf b).natAbs)
  case atStart => exact ⟨x, [], rfl, Nat.le_refl _, rfl, by simpa using Ext.start O0.out⟩
  case round =>
    rename World => wr
    obtain ⟨y, ys, rfl, hy, hV, hE⟩ := hrel
    have EE := Lib.hid hE
    have YL := Lib.hid (p := ys.length ≤ 10) (by have := congrArg List.length hV.out; have := LEN.out; simp at *; omega)
    have SZ := Lib.hid (Nat.le_trans hB hE.grown.size)
    clear hE
    have c1 : IntKind.u8.wrap (y : Int) = (y : Int) % 256 := by simp [IntKind.wrap, IntKind.bits, IntKind.signed]
    by_cases h : y < 128
    · have g1 : (y : Int) < 128 := by omega
      have g2 : (y : Int) % 256 = (y : Int) := by omega
      rw [g2] at c1
      have VY := Lib.hid (p := ys ++ [(y : Int)] = vl x) (by rw [← vl_one h]; exact hV.out)
      clear g2
      go_wp2_with (at_builtin; refine wp_byteK _ _ rfl _ _ rfl B _ _ _ rfl rfl EE.out.own (by have := YL.out; omega) SZ.out ?_; intro v1 w1 h1; have E1 := Lib.hid (EE.out.step h1); clear h1)
      go_ret
      refine ⟨_, rfl, ?_⟩
      have := E1.out
      rw [List.append_assoc, VY.out] at this
      have e : n + ys.length + 1 = n + (vl x).length := by rw [← VY.out]; simp; omega
      rw [e] at this
      exact this
    · have g1 : ¬ (y : Int) < 128 := by omega
      have o1 : bits .or .u8 ((y : Int) % 256) 128 = ((y % 128 + 128 : Nat) : Int) := by rw [Lib.u8_or128_any _ (by omega) (by omega)]; omega
      obtain ⟨c, hc⟩ : ∃ c : Int, ((y % 128 + 128 : Nat) : Int) = c := ⟨_, rfl⟩
      obtain ⟨q, hq⟩ : ∃ q : Nat, y / 128 = q := ⟨_, rfl⟩
      have VY := Lib.hid (p := (ys ++ [c]) ++ vl q = vl x) (by have := hV.out; rw [vl_more (by omega), hc, hq] at this; simpa using this)
      rw [hc] at o1
      have Q1 := Lib.hid (show q < y by omega)
      clear hc
      go_wp2_with (at_builtin; refine wp_byteK _ _ rfl _ _ rfl B _ _ _ rfl rfl EE.out.own (by have := YL.out; omega) SZ.out ?_; intro v1 w1 h1; have E1 := Lib.hid (EE.out.step h1); clear h1)
      go_roundw
      case rel => exact ⟨q, ys ++ [c], by first | rfl | (simp; omega), by have := Q1.out; omega, VY.out, by have := E1.out; simpa [Nat.add_assoc] using this⟩
      case measure => have := Q1.out; simp [intOf]; omega
end Go.Proofs.YtdbjdieegocdfaaDoor
