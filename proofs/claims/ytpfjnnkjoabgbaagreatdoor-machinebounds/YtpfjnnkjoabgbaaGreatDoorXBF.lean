import Derived.Test.YtpfjnnkjoabgbaaGreatDoorXAQ
import Derived.Maps.AppendAt
namespace Go.Proofs.YtpfjnnkjoabgbaaGreatDoor
open Go.RowKit
set_option linter.unusedVariables false
set_option linter.unusedSimpArgs false
theorem zeroCells_int (m : Nat) : Builtin.zeroCells #[.int .i64 0] m = (zcs (List.replicate m 0)).toArray := by
  apply Array.ext'
  unfold Builtin.zeroCells zcs
  simp
  apply List.ext_getElem (by simp)
  intro i h1 h2
  simp [Nat.mod_one]
theorem run_zeros_room {w : World} {g n cap m : Nat} {cur : Array Value} (ty : TypeId) (hg : w.heap[g]? = some (.cells cur 3 (0, 0))) (hroom : n + m ≤ cap) (hs : cur.size = cap) (hm : 0 < m) (hb : m ≤ 100000000) :
    (Builtin.append_ #[23, 3] ty #[.slice (some ⟨g, 0, none⟩) n cap, .int .i64 (m : Int)]).run Tryz.prog w = .ok (.slice (some ⟨g, 0, none⟩) (n + m) cap) (w.setRow g (cur.toList.take n ++ zcs (List.replicate m 0) ++ cur.toList.drop (n + m)).toArray) := by
  obtain ⟨i0, hi, hz0, hz1, hz2⟩ := info_parts infoZ
  have ht := Tryz.underlying23
  have hI := Tryz.underlying3
  have hw : IntKind.i64.wrap (m : Int) = (m : Int) := by simp [IntKind.wrap, IntKind.bits, IntKind.signed]; omega
  have h0 : ¬ ((m : Int) < 0) := by omega
  have h48 : ¬ (281474976710656 < (m : Int) * 8) := by omega
  have hm0 : m ≠ 0 := by omega
  have hst := run_storeCells_at Tryz.prog g n 3 (zcs (List.replicate m 0)) 0 cur w hg (by simp [zcs]; omega) (zcs_one _)
  simp only [Nat.add_zero] at hst
  have len : (zcs (List.replicate m 0)).length = m := by simp [zcs]
  rw [len] at hst
  simp [Builtin.append_, run_underlying ht, run_underlying hI, sizeOf, typeInfo, zeroValue, hi, hz0, hz1, hz2, asInt, asIntOf, hw, h0, h48, hm0, hroom, Addr.add_lit, Value.cells, zeroCells_int, hst]
theorem run_zeros_grow {w : World} {n cap m : Nat} {base : Option Addr} {olds : List Value} (ty : TypeId) (hold : (Builtin.firstCells 1 n (.slice base n cap)).run Tryz.prog w.drew = .ok olds.toArray w.drew) (hg : cap < n + m) (hm : 0 < m) (hb : n + m ≤ 100000000) :
    (Builtin.append_ #[23, 3] ty #[.slice base n cap, .int .i64 (m : Int)]).run Tryz.prog w = .ok (.slice (some ⟨w.heap.size, 0, none⟩) (n + m) (grownCap w (n + m) cap 3)) (w.drew.alloc (.cells ((olds ++ zcs (List.replicate m 0)).toArray ++ Builtin.zeroCells #[.int .i64 0] (grownCap w (n + m) cap 3 - (n + m))) 3)) := by
  obtain ⟨i0, hi, hz0, hz1, hz2⟩ := info_parts infoZ
  have ht := Tryz.underlying23
  have hI := Tryz.underlying3
  have hw : IntKind.i64.wrap (m : Int) = (m : Int) := by simp [IntKind.wrap, IntKind.bits, IntKind.signed]; omega
  have h0 : ¬ ((m : Int) < 0) := by omega
  have h48 : ¬ (281474976710656 < (m : Int) * 8) := by omega
  have hm0 : m ≠ 0 := by omega
  have hn : ¬ (n + m ≤ cap) := by omega
  have h63 : ¬ (9223372036854775807 < ((n : Int) + (m : Int))) := by omega
  have fits := growslice_fits (need := n + m) (old := cap) (bytes := 8) hg (by omega)
  have h48' : ¬ (281474976710656 < Builtin.nextslicecap (n + m) cap * 8) := by omega
  simp [Builtin.append_, run_underlying ht, run_underlying hI, sizeOf, typeInfo, zeroValue, hi, hz0, hz1, hz2, asInt, asIntOf, hw, h0, h48, hm0, hn, h63, h48', Question.forced, Value.cells, hold, newRow, grownCap, zeroCells_int]
theorem run_zeros_own {w : World} {B : Nat} {v : Value} {l : List Int} {m : Nat} (ty : TypeId) (hown : OwZ w B v l) (hm : 0 < m) (hb : l.length + m ≤ 100000000) (hB : B ≤ w.heap.size) :
    ∃ g cap w', (Builtin.append_ #[23, 3] ty #[v, .int .i64 (m : Int)]).run Tryz.prog w = .ok (.slice (some ⟨g, 0, none⟩) (l.length + m) cap) w' ∧ OwZ w' B (.slice (some ⟨g, 0, none⟩) (l.length + m) cap) (l ++ List.replicate m 0) ∧ w.grownBy w' v.ownBlock ∧ (v.ownBlock = some g ∨ g = w.heap.size) := by
  have len : (l ++ List.replicate m 0).length = l.length + m := by simp
  have grown : ∀ (old : Nat), old < l.length + m → ∀ (row : Option Nat),
      OwZ (w.drew.alloc (.cells ((zcs l ++ zcs (List.replicate m 0)).toArray ++ Builtin.zeroCells #[.int .i64 0] (grownCap w (l.length + m) old 3 - (l.length + m))) 3)) B (.slice (some ⟨w.heap.size, 0, none⟩) (l.length + m) (grownCap w (l.length + m) old 3)) (l ++ List.replicate m 0) ∧
      w.grownBy (w.drew.alloc (.cells ((zcs l ++ zcs (List.replicate m 0)).toArray ++ Builtin.zeroCells #[.int .i64 0] (grownCap w (l.length + m) old 3 - (l.length + m))) 3)) row := by
    intro old ho row
    have hge := grownCap_ge w (l.length + m) old 3
    have hcm : grownCap w (l.length + m) old 3 ≤ maxLen := grownCap_le_maxLen w (l.length + m) old 3 (by unfold maxLen; omega)
    refine ⟨⟨by rw [zcs_len]; omega, .inr ⟨w.heap.size, _, _, by rw [len], hB, heap_alloc_new w.drew _, by rw [len]; exact hge, hcm, ?_, ?_⟩⟩, ⟨rfl, rfl, rfl, by simp, fun k hk _ => (allocBP w.drew _).block k hk⟩⟩
    · simp [size_zeroCells, zcs]
      omega
    · rw [len, Nat.mul_one, zcs_append]
      have e : (zcs l ++ zcs (List.replicate m 0)).length = l.length + m := by simp [zcs]
      rw [← e, Array.toList_append]
      exact List.take_left
  rcases hown.2 with ⟨rfl, h0⟩ | ⟨g, cap, cur, rfl, hbg, hg, hnc, hcm, hcs, htake⟩
  · have hl : l = [] := List.length_eq_zero_iff.1 h0
    subst hl
    have hr := run_zeros_grow (w := w) (n := 0) (cap := 0) (m := m) (base := none) (olds := []) ty (run_firstCells_none (P := Tryz.prog) w.drew 1 0 0 0) (by omega) hm (by simpa using hb)
    obtain ⟨g1, g2⟩ := grown 0 (by simp; omega) (Value.ownBlock (.slice none 0 0))
    exact ⟨_, _, _, hr, g1, g2, .inr rfl⟩
  · by_cases hroom : l.length + m ≤ cap
    · have hr := run_zeros_room (w := w) (g := g) (n := l.length) (cap := cap) (m := m) (cur := cur) ty hg hroom (by omega) hm (by omega)
      refine ⟨g, cap, _, hr, ⟨by rw [zcs_len]; omega, .inr ⟨g, cap, _, by rw [len], hbg, setRow_heap w g cur _ 3 _ hg, by rw [len]; exact hroom, hcm, ?_, ?_⟩⟩, ⟨rfl, rfl, rfl, by simp, fun k _ hk => setRow_other w g k _ (fun e => hk (by simp [Value.ownBlock, e]))⟩, .inl rfl⟩
      · simp only [List.size_toArray, List.length_append, List.length_take, List.length_drop, Array.length_toList, zcs_len, List.length_replicate]
        omega
      · rw [len, Nat.mul_one, zcs_append]
        rw [Nat.mul_one] at htake
        rw [htake]
        have e : (zcs l ++ zcs (List.replicate m 0)).length = l.length + m := by simp [zcs]
        rw [← e]
        exact List.take_left
    · have holds : ∀ j u, (zcs l)[j]? = some u → w.drew.cell? ((⟨g, 0, none⟩ : Addr).add j) = some u := World.ownsRow.cells (w := w) (g := g) hown rfl
      have hr := run_zeros_grow (w := w) (n := l.length) (cap := cap) (m := m) (base := some ⟨g, 0, none⟩) (olds := zcs l) ty (run_firstCells_some (P := Tryz.prog) w.drew 1 l.length ⟨g, 0, none⟩ l.length cap (zcs l) (by rw [zcs_len]; omega) holds) (by omega) hm hb
      obtain ⟨g1, g2⟩ := grown cap (by omega) (Value.ownBlock (.slice (some ⟨g, 0, none⟩) l.length cap))
      exact ⟨_, _, _, hr, g1, g2, .inr rfl⟩
/-- At the operation, for the walk. -/
theorem wp_zeros {ops : Array Oper} {rest : List Oper} {o : Oper} {a : Act} {Q : Exit → Act → World → Prop} (w : World) (hgd : o.guard = none) (s y : Operand)
    (ho : o.op = .call { callee := .builtin .append, args := #[s, y], argTypes := #[23, 3] }) (B : Nat) (v : Value) (l : List Int) (m : Nat) (hs : a.eval s = v) (hy : a.eval y = .int .i64 (m : Int))
    (hown : OwZ w B v l) (hm : 0 < m) (hb : l.length + m ≤ 100000000) (hB : B ≤ w.heap.size)
    (h : ∀ g cap w', OwZ w' B (.slice (some ⟨g, 0, none⟩) (l.length + m) cap) (l ++ List.replicate m 0) → w.grownBy w' v.ownBlock → (v.ownBlock = some g ∨ g = w.heap.size) → wpList Tryz.prog ops Q rest (a.put o.dst (.slice (some ⟨g, 0, none⟩) (l.length + m) cap)) w') : wpList Tryz.prog ops Q (o :: rest) a w := by
  obtain ⟨g, cap, w', hr, h1, h2, h3⟩ := run_zeros_own (w := w) (m := m) o.type hown hm hb hB
  refine wpList_plain hgd fun K hK => ?_
  unfold Oper.wp execOp
  simp only [ho, resolve, invoke, builtin, Sem.run_bind, Sem.run_pure, Result.andThen_ok, List.map_toArray, List.map_cons, List.map_nil, hs, hy, hr]
  exact hK _ _ (h g cap w' h1 h2 h3)
end Go.Proofs.YtpfjnnkjoabgbaaGreatDoor
