/-
  LISTS OF TOKENS IN MEMORY: an append that tells what stays.
-/
import Derived.Test.YtlihkmhhfnkkoaaDoorWLexT
namespace Go.Proofs.YtlihkmhhfnkkoaaDoor
open Go.RowKit Lx
set_option linter.unusedVariables false
set_option linter.unusedSimpArgs false

/-- An append leaves the row as it was, seen through the old slice. -/
theorem append_keeps {w : World} (base : Nat) (t ty e : TypeId) (i : TypeInfo) (z : Value) (size bytes : Nat) (ht : Tryd.prog.underlying t = some (.slice e)) (hi : Tryd.prog.info? e = some i) (hz : i.zero = some z)
    (hsize : i.size = size) (hby : i.bytes = bytes) (hzs : z.cells.size = size) (hsz : 0 < size)
    (v : Value) (n : Nat) (xs : List Value) (hown : w.ownsRow base e size v n xs)
    (a : Addr) (m c : Nat) (news : List Value) (hl : news.length = m * size) (hnews : ∀ j u, news[j]? = some u → w.cell? (a.add j) = some u) (h1 : ∀ u ∈ news, u.oneCell' = true)
    (h63 : n + m ≤ maxLen) (hbytes : (n + m) * bytes ≤ 140737488355328) (hbase : base ≤ w.heap.size) (v' : Value) (w' : World)
    (hr : (Builtin.append_ #[t, t] ty #[v, .slice (some a) m c]).run Tryd.prog w = .ok v' w') : w'.ownsRow base e size v n xs := by
  subst hsize
  subst hby
  have hsmall : n + m ≤ 9223372036854775807 := by simp only [maxLen] at h63; omega
  rcases hown.2 with ⟨rfl, rfl⟩ | ⟨g, cap, cur, rfl, hbg, hg, hnc, hcm, hcs, htake⟩
  · exact ⟨hown.1, .inl ⟨rfl, rfl⟩⟩
  · by_cases hroom : n + m ≤ cap
    · have hfit : n * i.size + news.length ≤ cur.size := by rw [hl, hcs, ← Nat.add_mul]; exact Nat.mul_le_mul_right _ hroom
      rw [run_append_room (P := Tryd.prog) w t ty e i ht hi g n cap cur hg a m c news hl hnews h1 hroom hfit] at hr
      injection hr with hr1 hr2
      subst hr2
      refine ⟨hown.1, .inr ⟨g, cap, _, rfl, hbg, setRow_heap w g cur _ e _ hg, hnc, hcm, ?_, ?_⟩⟩
      · simp only [List.size_toArray, List.length_append, List.length_take, List.length_drop, Array.length_toList]
        omega
      · simp only [List.append_assoc]
        rw [htake, ← hown.1]
        exact List.take_left
    · have holds : ∀ j u, xs[j]? = some u → w.cell? ((⟨g, 0, none⟩ : Addr).add j) = some u := hown.cells (g := g) rfl
      rw [run_append_grow (P := Tryd.prog) w t ty e i z ht hi hz ⟨g, 0, none⟩ n cap xs hown.1 holds a m c news hl hnews (by omega) (by omega) (growslice_fits (by omega) hbytes)] at hr
      injection hr with hr1 hr2
      subst hr2
      exact hown.kept (row := none) ⟨rfl, rfl, rfl, by simp, fun k hk _ => Below.heap_alloc w.drew _ k hk⟩ (by simp [Value.ownBlock])

/-- v' is the row v grown (in its memory, or in memory that is new). -/
structure ExtT (B : Nat) (w : World) (v : Value) (xs : List Tok) (w' : World) (v' : Value) (ys : List Tok) : Prop where
  own : OwT w' B v' ys
  grown : w.grownBy w' v.ownBlock
  old : OwT w' B v xs
  at_ : v'.ownBlock = v.ownBlock ∨ ∃ g, v'.ownBlock = some g ∧ w.heap.size ≤ g
  lt : ∀ k, v.ownBlock = some k → B ≤ k ∧ k < w.heap.size
theorem ExtT.start {B : Nat} {w : World} {v : Value} {xs : List Tok} (h : OwT w B v xs) : ExtT B w v xs w v xs :=
  ⟨h, ⟨rfl, rfl, rfl, Nat.le_refl _, fun _ _ _ => rfl⟩, h, .inl rfl, h.lt⟩
theorem tcs_app (xs ys : List Tok) : tcs (xs ++ ys) = tcs xs ++ tcs ys := by simp [tcs]
theorem own_shrinkT {w : World} {B g m cap : Nat} {xs ys : List Tok} (h : OwT w B (.slice (some ⟨g, 0, none⟩) m cap) (xs ++ ys)) : OwT w B (.slice (some ⟨g, 0, none⟩) xs.length cap) xs := by
  obtain ⟨h1, h2⟩ := h
  rcases h2 with ⟨h2, _⟩ | ⟨g', cap', cur, h2, hB, hg, hnc, hm, hs, ht⟩
  · cases h2
  · injection h2 with h2 h4 h3
    injection h2 with h2
    injection h2 with h2
    subst h2 h3
    have hl : (xs ++ ys).length = xs.length + ys.length := List.length_append
    refine ⟨tcs_len xs, .inr ⟨g, cap, cur, rfl, hB, hg, by omega, hm, hs, ?_⟩⟩
    have : (cur.toList.take ((xs ++ ys).length * 9)).take (xs.length * 9) = tcs xs := by rw [ht, tcs_app, ← tcs_len xs]; exact List.take_left
    rw [List.take_take, show min (xs.length * 9) ((xs ++ ys).length * 9) = xs.length * 9 by omega] at this
    exact this
/-- One step more. -/
theorem ExtT.step {B : Nat} {w : World} {v : Value} {xs : List Tok} {w1 : World} {v1 : Value} {ys : List Tok} {w2 : World} {v2 : Value} {zs : List Tok}
    (h : ExtT B w v xs w1 v1 (xs ++ ys)) (k : ExtT B w1 v1 (xs ++ ys) w2 v2 (xs ++ ys ++ zs)) : ExtT B w v xs w2 v2 (xs ++ ys ++ zs) := by
  obtain ⟨a1, a2, a3, a4, a5⟩ := h
  obtain ⟨b1, b2, b3, b4, b5⟩ := k
  refine ⟨b1, ⟨b2.os.trans a2.os, b2.tape.trans a2.tape, b2.output.trans a2.output, Nat.le_trans a2.size b2.size, fun k hk hr => ?_⟩, ?_, ?_, a5⟩
  · rw [b2.block k (Nat.lt_of_lt_of_le hk a2.size) ?_, a2.block k hk hr]
    rcases a4 with a4 | ⟨g, a4, hg⟩
    · rw [a4]; exact hr
    · rw [a4]; intro e; injection e with e; omega
  · rcases a4 with a4 | ⟨g, a4, hg⟩
    · rcases a3.2 with ⟨hv, h0⟩ | ⟨g, cap, cur, rfl, hB, hgg, hnc, hm, hs, ht⟩
      · exact ⟨a3.1, .inl ⟨hv, h0⟩⟩
      · rcases a1.2 with ⟨rfl, _⟩ | ⟨g', cap', cur', rfl, hB', hgg', hnc', hm', hs', ht'⟩
        · simp [Value.ownBlock] at a4
        · simp [Value.ownBlock] at a4
          subst a4
          rw [hgg] at hgg'
          injection hgg' with hgg'
          injection hgg' with hcur
          subst hcur
          have : cap = cap' := by omega
          subst this
          exact own_shrinkT b3
    · refine a3.kept b2 ?_
      rcases hv : v.ownBlock with _ | q
      · exact .inl rfl
      · right
        rw [a4]
        intro e
        injection e with e
        have := (a5 q hv).2
        omega
  · rcases b4 with b4 | ⟨g, b4, hg⟩
    · rw [b4]; exact a4
    · exact .inr ⟨g, b4, Nat.le_trans a2.size hg⟩
theorem ExtT.below {B : Nat} {w w' : World} {v v' : Value} {xs ys : List Tok} (h : ExtT B w v xs w' v' ys) (hB : B ≤ w.heap.size) : Below B w w' :=
  (Below.refl B w).grown h.grown hB (fun k e => (h.lt k e).1)
/-- An append of one token. -/
theorem wp_tokenK {ops : Array Oper} {rest : List Oper} {o : Oper} {a : Act} {Q : Exit → Act → World → Prop} (w : World) (t : Tok) (tx : ByteArray) (htx : tx = bs t.t) (N : Nat) (hN : N = w.heap.size) (hgd : o.guard = none) (s x : Operand)
    (ho : o.op = .call { callee := .builtin .append, args := #[s, x], argTypes := #[22, 22] }) (B : Nat) (v : Value) (ts : List Tok) (hs : a.eval s = v)
    (hx : a.eval x = .slice (some ⟨N, 0, none⟩) 1 1) (hown : OwT w B v ts) (hl : ts.length ≤ 70000) (hb : B ≤ w.heap.size)
    (h : ∀ v' w', ExtT B w v ts w' v' (ts ++ [t]) → wpList Tryd.prog ops Q rest (a.put o.dst v') w') :
    wpList Tryd.prog ops Q (o :: rest) a (w.alloc (.cells #[.int .i64 t.k, .string tx, .int .i64 t.a, .int .i64 t.num, .int .i64 t.y, .int .i64 t.m, .int .i64 t.d, .int .i64 t.n, .int .i64 t.u] 32)) := by
  subst htx; subst hN
  obtain ⟨i0, hi, hz0, hz1, hz2⟩ := partsTk
  have o1 : (w.alloc (.cells #[.int .i64 t.k, .string (bs t.t), .int .i64 t.a, .int .i64 t.num, .int .i64 t.y, .int .i64 t.m, .int .i64 t.d, .int .i64 t.n, .int .i64 t.u] 32)).ownsRow B 32 9 v ts.length (tcs ts) := World.ownsRow.alloc hown _
  obtain ⟨W, hW⟩ : ∃ W, w.alloc (.cells #[.int .i64 t.k, .string (bs t.t), .int .i64 t.a, .int .i64 t.num, .int .i64 t.y, .int .i64 t.m, .int .i64 t.d, .int .i64 t.n, .int .i64 t.u] 32) = W := ⟨_, rfl⟩
  have hnews : ∀ j u, (tcells t)[j]? = some u → W.cell? ((⟨w.heap.size, 0, none⟩ : Addr).add j) = some u := by
    rw [← hW]
    intro j u hj
    match j, hj with
    | 0, hj => simp [tcells] at hj; subst hj; simp [Addr.add]
    | 1, hj => simp [tcells] at hj; subst hj; simp [Addr.add]
    | 2, hj => simp [tcells] at hj; subst hj; simp [Addr.add]
    | 3, hj => simp [tcells] at hj; subst hj; simp [Addr.add]
    | 4, hj => simp [tcells] at hj; subst hj; simp [Addr.add]
    | 5, hj => simp [tcells] at hj; subst hj; simp [Addr.add]
    | 6, hj => simp [tcells] at hj; subst hj; simp [Addr.add]
    | 7, hj => simp [tcells] at hj; subst hj; simp [Addr.add]
    | 8, hj => simp [tcells] at hj; subst hj; simp [Addr.add]
  have h1 : ∀ u ∈ tcells t, u.oneCell' = true := by
    intro u hu
    simp [tcells] at hu
    rcases hu with rfl | rfl | rfl | rfl | rfl | rfl | rfl | rfl | rfl <;> rfl
  have hz : W.heap.size = w.heap.size + 1 := by rw [← hW]; simp
  have hblk : ∀ k, k < w.heap.size → W.heap[k]? = w.heap[k]? := fun k hk => by rw [← hW]; exact Below.heap_alloc w _ k hk
  have hos : W.os = w.os ∧ W.tape = w.tape ∧ W.output = w.output := by rw [← hW]; exact ⟨rfl, rfl, rfl⟩
  rw [hW] at o1 ⊢
  have hB' : B ≤ W.heap.size := by omega
  obtain ⟨v', w', hr, h2, h3, h4, h5⟩ := run_append_own_at (P := Tryd.prog) W B 22 o.type 32 i0 _ 9 80 Tryd.underlying22 hi hz0 hz1 hz2 rfl (by decide) v ts.length (tcs ts) o1 ⟨w.heap.size, 0, none⟩ 1 1 (tcells t) rfl hnews h1 (by unfold maxLen; omega) (by omega) hB'
  have hk := append_keeps (w := W) B 22 o.type 32 i0 _ 9 80 Tryd.underlying22 hi hz0 hz1 hz2 rfl (by decide) v ts.length (tcs ts) o1 ⟨w.heap.size, 0, none⟩ 1 1 (tcells t) rfl hnews h1 (by unfold maxLen; omega) (by omega) hB' v' w' hr
  have E : ExtT B w v ts w' v' (ts ++ [t]) := by
    refine ⟨own_snocT h2, ⟨h3.os.trans hos.1, h3.tape.trans hos.2.1, h3.output.trans hos.2.2, Nat.le_trans (by omega) h3.size, fun k hk hr => ?_⟩, hk, ?_, World.ownsRow.lt hown⟩
    · rw [h3.block k (by omega) hr]
      exact hblk k hk
    · rcases h5 with h5 | h5
      · exact .inl h5
      · exact .inr ⟨_, h5, by omega⟩
  refine wpList_plain hgd fun K hK => ?_
  unfold Oper.wp execOp
  simp only [ho, resolve, invoke, builtin, Sem.run_bind, Sem.run_pure, Result.andThen_ok, List.map_toArray, List.map_cons, List.map_nil, hs, hx, hr]
  exact hK _ _ (h v' w' E)
end Go.Proofs.YtlihkmhhfnkkoaaDoor
