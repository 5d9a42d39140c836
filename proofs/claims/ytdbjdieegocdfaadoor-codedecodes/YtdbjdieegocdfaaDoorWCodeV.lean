/-
  LISTS OF INSTRUCTIONS THAT ARE WRITTEN OVER: what stands, and where.
-/
import Derived.Test.YtdbjdieegocdfaaDoorWCodeU
namespace Go.Proofs.YtdbjdieegocdfaaDoor
open Go.RowKit
set_option linter.unusedVariables false
set_option linter.unusedSimpArgs false
theorem sl_of {w : World} {a : Option Addr} {len cap : Nat} {zs : List Int} (hb : len * 1 ≤ 140737488351232)
    (h : (a = none ∧ len = 0 ∧ cap = 0 ∧ zs = []) ∨ ∃ x, a = some x ∧ len ≤ cap ∧ cap ≤ maxLen ∧ zs.length = cap ∧ (∀ i, i < zs.length → w.cell? (x.add i) = some (.int .u8 (zs.getD i 0))) ∧ ∀ n ∈ zs, (Lit.int .u8 n).wf = true) : Sl w a len cap (zs.take len) := by
  refine ⟨(bl_of hb h).1, ?_⟩
  rcases h with ⟨rfl, rfl, rfl, rfl⟩ | ⟨x, rfl, h1, _⟩
  · exact ⟨fun _ => ⟨rfl, rfl⟩, Nat.le_refl _⟩
  · exact ⟨(fun e => by cases e), h1⟩
theorem decA_facts (xs : List Int) (c : Int) (h : ∀ c ∈ xs, 0 ≤ c ∧ c ≤ 255) : (decA xs c).1.length ≤ 262144 := by
  unfold decA
  split
  · simp
  · split
    · simp
    · rename_i h1 h2
      by_cases e : (decs c.toNat xs).2.1 = 0
      · have := (decs_ok c.toNat xs h e).2.1; omega
      · rw [(decs_err c.toNat xs h e).1]; simp
def m78 : In := ⟨78, 0, 0⟩
/-- The marks behind the bytes, as far as they are there. -/
def mk8 (k : Nat) : List Int := (List.range 8).map fun i => if i < k then 9 * (i : Int) else 0
theorem mk8_len (k : Nat) : (mk8 k).length = 8 := by simp [mk8]
theorem mk8_set : ∀ k, k < 8 → (mk8 k).set k (9 * (k : Int)) = mk8 (k + 1) := by
  intro k hk
  rcases (show k = 0 ∨ k = 1 ∨ k = 2 ∨ k = 3 ∨ k = 4 ∨ k = 5 ∨ k = 6 ∨ k = 7 by omega) with rfl | rfl | rfl | rfl | rfl | rfl | rfl | rfl <;> rfl
theorem mk8_byte (k : Nat) : ∀ c ∈ mk8 k, 0 ≤ c ∧ c ≤ 255 := by
  intro c hc
  obtain ⟨i, hi, rfl⟩ := List.mem_map.1 hc
  have := List.mem_range.1 hi
  split <;> omega
theorem mk8_at (xs : List Int) (n j : Nat) (hl : xs.length = n) (hj : j < 8) : (xs ++ mk8 8).getD (n + j) 0 = 9 * (j : Int) := by
  simp only [List.getD]
  rw [List.getElem?_append_right (by omega), hl, show n + j - n = j by omega]
  rcases (show j = 0 ∨ j = 1 ∨ j = 2 ∨ j = 3 ∨ j = 4 ∨ j = 5 ∨ j = 6 ∨ j = 7 by omega) with rfl | rfl | rfl | rfl | rfl | rfl | rfl | rfl <;> rfl
theorem mk8_zero (n : Nat) : (List.replicate (n + 8) (0 : Int)).drop n = mk8 0 := by rw [List.drop_replicate, show n + 8 - n = 8 by omega]; rfl
theorem bl_in {W : World} {S n : Nat} {xs : List Int} {k : Nat} (h : Own W S (.slice (some ⟨S, 0, none⟩) (n + 8) (n + 8)) (n + 8) (xs ++ mk8 k)) (hl : xs.length = n) (hb : ∀ c ∈ xs, 0 ≤ c ∧ c ≤ 255) (hn : n + 8 ≤ 140737488355328) : BL W (some ⟨S, 0, none⟩) n xs := by
  have := ((own_bl h (fun c hc => by rcases List.mem_append.1 hc with q | q; exact hb c q; exact mk8_byte k c q) hn).1).upTo n (by omega)
  rwa [List.take_left' hl] at this

/-- v' is the row v grown. -/
structure ExtI (B : Nat) (w : World) (v : Value) (xs : List In) (w' : World) (v' : Value) (ys : List In) : Prop where
  own : OwI w' B v' ys
  grown : w.grownBy w' v.ownBlock
  old : OwI w' B v xs
  at_ : v'.ownBlock = v.ownBlock ∨ ∃ g, v'.ownBlock = some g ∧ w.heap.size ≤ g
  lt : ∀ k, v.ownBlock = some k → B ≤ k ∧ k < w.heap.size
theorem ExtI.start {B : Nat} {w : World} {v : Value} {xs : List In} (h : OwI w B v xs) : ExtI B w v xs w v xs :=
  ⟨h, ⟨rfl, rfl, rfl, Nat.le_refl _, fun _ _ _ => rfl⟩, h, .inl rfl, h.lt⟩
theorem owi_shrink {w : World} {B g m cap n : Nat} {xs ys : List In} (h : OwI w B (.slice (some ⟨g, 0, none⟩) m cap) (xs ++ ys)) (hn : xs.length = n) : OwI w B (.slice (some ⟨g, 0, none⟩) n cap) xs := by
  obtain ⟨h1, h2⟩ := h
  rcases h2 with ⟨h2, _⟩ | ⟨g', cap', cur, h2, hB, hg, hnc, hm, hs, ht⟩
  · cases h2
  · injection h2 with h2 _ h3
    injection h2 with h2
    injection h2 with h2
    subst h2 h3 hn
    simp only [List.length_append] at hnc ht
    refine ⟨ics_len xs, .inr ⟨g, cap, cur, rfl, hB, hg, by omega, hm, hs, ?_⟩⟩
    have : (cur.toList.take ((xs.length + ys.length) * 3)).take (xs.length * 3) = ics xs := by rw [ht, ics_app, ← ics_len xs]; exact List.take_left
    rw [List.take_take, show min (xs.length * 3) ((xs.length + ys.length) * 3) = xs.length * 3 by omega] at this
    exact this
theorem ExtI.step {B : Nat} {w : World} {v : Value} {xs : List In} {w1 : World} {v1 : Value} {ys : List In} {w2 : World} {v2 : Value} {zs : List In}
    (h : ExtI B w v xs w1 v1 (xs ++ ys)) (k : ExtI B w1 v1 (xs ++ ys) w2 v2 (xs ++ ys ++ zs)) : ExtI B w v xs w2 v2 (xs ++ ys ++ zs) := by
  obtain ⟨a1, a2, a3, a4, a5⟩ := h
  obtain ⟨b1, b2, b3, b4, b5⟩ := k
  refine ⟨b1, ⟨b2.os.trans a2.os, b2.tape.trans a2.tape, b2.output.trans a2.output, Nat.le_trans a2.size b2.size, fun k hk hr => ?_⟩, ?_, ?_, a5⟩
  · rw [b2.block k (Nat.lt_of_lt_of_le hk a2.size) ?_, a2.block k hk hr]
    rcases a4 with a4 | ⟨g, a4, hg⟩
    · rw [a4]; exact hr
    · rw [a4]; intro e; injection e with e; omega
  · rcases a4 with a4 | ⟨g, a4, hg⟩
    · rcases a3.2 with ⟨hv, h0⟩ | ⟨g, cap, cur, rfl, hB, hgg, hnc, hm, hs, ht⟩
      · exact ⟨a3.1, .inl ⟨hv, h0⟩⟩
      · rcases a1.2 with ⟨rfl, _⟩ | ⟨g', cap', cur', rfl, hB', hgg', hnc', hm', hs', ht'⟩
        · simp [Value.ownBlock] at a4
        · simp [Value.ownBlock] at a4
          subst a4
          rw [hgg] at hgg'
          injection hgg' with hgg'
          injection hgg' with hcur
          subst hcur
          have : cap = cap' := by omega
          subst this
          exact owi_shrink b3 rfl
    · refine World.ownsRow.kept a3 b2 ?_
      rcases hv : v.ownBlock with _ | q
      · exact .inl rfl
      · right
        rw [a4]
        intro e
        injection e with e
        have := (a5 q hv).2
        omega
  · rcases b4 with b4 | ⟨g, b4, hg⟩
    · rw [b4]; exact a4
    · exact .inr ⟨g, b4, Nat.le_trans a2.size hg⟩
/-- An append of one instruction. -/
theorem wp_instrK {ops : Array Oper} {rest : List Oper} {o : Oper} {a : Act} {Q : Exit → Act → World → Prop} (w : World) (i : In) (hgd : o.guard = none) (s x : Operand)
    (ho : o.op = .call { callee := .builtin .append, args := #[s, x], argTypes := #[22, 22] }) (B : Nat) (v : Value) (l : List In) (hs : a.eval s = v) (N : Nat) (hN : N = w.heap.size)
    (hx : a.eval x = .slice (some ⟨N, 0, none⟩) 1 1) (hown : OwI w B v l) (hl : l.length ≤ 5864062014804) (hb : B ≤ w.heap.size) (C : Array Value) (hC : C = #[.int .i64 i.o, .int .i64 i.a, .int .i64 i.b])
    (h : ∀ v' w', ExtI B w v l w' v' (l ++ [i]) → wpList Tryd.prog ops Q rest (a.put o.dst v') w') :
    wpList Tryd.prog ops Q (o :: rest) a (w.alloc (.cells C 24)) := by
  subst hN hC
  obtain ⟨i0, hi, hz0, hz1, hz2⟩ := info_parts infoI
  have o1 : (w.alloc (.cells #[.int .i64 i.o, .int .i64 i.a, .int .i64 i.b] 24)).ownsRow B 24 3 v l.length (ics l) := World.ownsRow.alloc hown _
  have hnews : ∀ j u, i.cells[j]? = some u → (w.alloc (.cells #[.int .i64 i.o, .int .i64 i.a, .int .i64 i.b] 24)).cell? ((⟨w.heap.size, 0, none⟩ : Addr).add j) = some u := by
    intro j u hj
    match j, hj with
    | 0, hj => simp [In.cells] at hj; subst hj; simp [Addr.add]
    | 1, hj => simp [In.cells] at hj; subst hj; simp [Addr.add]
    | 2, hj => simp [In.cells] at hj; subst hj; simp [Addr.add]
  have h1 : ∀ u ∈ i.cells, u.oneCell' = true := by
    intro u hu
    simp [In.cells] at hu
    rcases hu with rfl | rfl | rfl <;> rfl
  have hB' : B ≤ (w.alloc (.cells #[.int .i64 i.o, .int .i64 i.a, .int .i64 i.b] 24)).heap.size := Nat.le_trans hb (by simp)
  obtain ⟨v', w', hr, h2, h3, h4, h5⟩ := run_append_own_at (P := Tryd.prog) (w.alloc (.cells #[.int .i64 i.o, .int .i64 i.a, .int .i64 i.b] 24)) B 22 o.type 24 i0 _ 3 24 Tryd.underlying22 hi hz0 hz1 hz2 rfl (by decide) v l.length (ics l) o1 ⟨w.heap.size, 0, none⟩ 1 1 i.cells rfl hnews h1 (by unfold maxLen; omega) (by omega) hB'
  have hk := append_keeps (w := w.alloc (.cells #[.int .i64 i.o, .int .i64 i.a, .int .i64 i.b] 24)) B 22 o.type 24 i0 _ 3 24 Tryd.underlying22 hi hz0 hz1 hz2 rfl (by decide) v l.length (ics l) o1 ⟨w.heap.size, 0, none⟩ 1 1 i.cells rfl hnews h1 (by unfold maxLen; omega) (by omega) hB' v' w' hr
  have E : ExtI B w v l w' v' (l ++ [i]) := by
    refine ⟨own_snocI h2, ⟨h3.os, h3.tape, h3.output, Nat.le_trans (by simp) h3.size, fun k hk hr => ?_⟩, hk, ?_, World.ownsRow.lt hown⟩
    · rw [h3.block k (Nat.lt_of_lt_of_le hk (by simp)) hr]
      exact Below.heap_alloc w _ k hk
    · rcases h5 with h5 | h5
      · exact .inl h5
      · exact .inr ⟨_, h5, by simp⟩
  refine wpList_plain hgd fun K hK => ?_
  unfold Oper.wp execOp
  simp only [ho, resolve, invoke, builtin, Sem.run_bind, Sem.run_pure, Result.andThen_ok, List.map_toArray, List.map_cons, List.map_nil, hs, hx, hr]
  exact hK _ _ (h v' w' E)
/-- What stands, while the first answer is written over. -/
structure CG (w W : World) (s1 s2 n : Nat) (ys : List Int) (va : Value) (A : List In) (rs : List (Value × List In)) : Prop where
  bel : Below w.heap.size w W
  inn : Own W w.heap.size (.slice (some ⟨w.heap.size, 0, none⟩) (n + 8) (n + 8)) (n + 8) ys
  a : OwI W s1 va A
  alt : ∀ k, va.ownBlock = some k → k < s2
  s0 : w.heap.size < s1
  s12 : s1 ≤ s2
  sz2 : s2 ≤ W.heap.size
  rest : ∀ r ∈ rs, OwI W s2 r.1 r.2
theorem CG.later {w W W' : World} {s1 s2 n : Nat} {ys : List Int} {va : Value} {A : List In} {rs : List (Value × List In)} (h : CG w W s1 s2 n ys va A rs) (g : Below W.heap.size W W') : CG w W' s1 s2 n ys va A rs :=
  ⟨h.bel.trans (g.mono h.bel.size), row_keep h.inn g, row_keep h.a g, h.alt, h.s0, h.s12, Nat.le_trans h.sz2 g.size, fun r hr => row_keep (h.rest r hr) g⟩
theorem CG.add {w W : World} {s1 s2 n : Nat} {ys : List Int} {va : Value} {A : List In} {rs : List (Value × List In)} (h : CG w W s1 s2 n ys va A rs) {B : Nat} {v : Value} {xs : List In} (o : OwI W B v xs) (hB : s2 ≤ B) : CG w W s1 s2 n ys va A ((v, xs) :: rs) :=
  ⟨h.bel, h.inn, h.a, h.alt, h.s0, h.s12, h.sz2, fun r hr => by
    rcases List.mem_cons.1 hr with rfl | q
    · exact row_mono o hB
    · exact h.rest r q⟩
theorem CG.grown {w W W' : World} {s1 s2 n : Nat} {ys : List Int} {va : Value} {A : List In} {rs : List (Value × List In)} (h : CG w W s1 s2 n ys va A rs) {A' : List In} (g : W.grownBy W' va.ownBlock) (o : OwI W' s1 va A') : CG w W' s1 s2 n ys va A' rs :=
  ⟨h.bel.grown g h.bel.size (fun k e => by have := (World.ownsRow.lt h.a k e).1; have := h.s0; omega), row_far h.inn g (fun k q e e2 => by have := (World.ownsRow.lt h.a k e).1; have := h.s0; have : w.heap.size = q := Option.some.inj e2; omega), o, h.alt, h.s0, h.s12, Nat.le_trans h.sz2 g.size,
    fun r hr => row_far (h.rest r hr) g (fun k q e e2 => by have := h.alt k e; have := (World.ownsRow.lt (h.rest r hr) q e2).1; omega)⟩
theorem owi_set {W : World} {B g cap n : Nat} {D : List In} (h : OwI W B (.slice (some ⟨g, 0, none⟩) n cap) D) (i : Nat) (hi : i < D.length) (f : In) :
    OwI (((W.setCell ⟨g, i * 3, none⟩ (.int .i64 f.o)).setCell ⟨g, i * 3 + 1, none⟩ (.int .i64 f.a)).setCell ⟨g, i * 3 + 2, none⟩ (.int .i64 f.b)) B (.slice (some ⟨g, 0, none⟩) n cap) (D.set i f) ∧ W.grownBy (((W.setCell ⟨g, i * 3, none⟩ (.int .i64 f.o)).setCell ⟨g, i * 3 + 1, none⟩ (.int .i64 f.a)).setCell ⟨g, i * 3 + 2, none⟩ (.int .i64 f.b)) (some g) := by
  have hn : n = D.length := by
    rcases h.2 with ⟨q, _⟩ | ⟨g', c', cur, q, _⟩
    · cases q
    · injection q with _ q
  subst hn
  have e1 := World.ownsRow.stored h (i * 3) (.int .i64 f.o)
  have e2 := e1.1.stored (i * 3 + 1) (.int .i64 f.a)
  have e3 := e2.1.stored (i * 3 + 2) (.int .i64 f.b)
  have o := e3.1
  rw [ics_set D i f hi] at o
  refine ⟨?_, (e1.2.trans e2.2).trans e3.2⟩
  unfold OwI
  rw [List.length_set]
  exact o
/-- What stands, while the bytes are turned about. -/
structure CH (w W : World) (s2 s3 n : Nat) (ys : List Int) (vd : Value) (D : List Int) (rs : List (Value × List In)) : Prop where
  bel : Below w.heap.size w W
  inn : Own W w.heap.size (.slice (some ⟨w.heap.size, 0, none⟩) (n + 8) (n + 8)) (n + 8) ys
  d : Own W s3 vd n D
  s0 : w.heap.size < s2
  s23 : s2 ≤ s3
  sz3 : s3 ≤ W.heap.size
  rest : ∀ r ∈ rs, OwI W s2 r.1 r.2 ∧ ∀ k, r.1.ownBlock = some k → k < s3
theorem CH.later {w W W' : World} {s2 s3 n : Nat} {ys : List Int} {vd : Value} {D : List Int} {rs : List (Value × List In)} (h : CH w W s2 s3 n ys vd D rs) (g : Below W.heap.size W W') : CH w W' s2 s3 n ys vd D rs :=
  ⟨h.bel.trans (g.mono h.bel.size), row_keep h.inn g, row_keep h.d g, h.s0, h.s23, Nat.le_trans h.sz3 g.size, fun r hr => ⟨row_keep (h.rest r hr).1 g, (h.rest r hr).2⟩⟩
theorem CG.turn {w W W' : World} {s1 s2 n : Nat} {ys : List Int} {va : Value} {A : List In} {rs : List (Value × List In)} (h : CG w W s1 s2 n ys va A rs) {vd v0 : Value} {D : List Int} (o : Own W' W.heap.size vd n D) (g : W.grownBy W' v0.ownBlock) (hv : ∀ k, v0.ownBlock = some k → W.heap.size ≤ k) : CH w W' s2 W.heap.size n ys vd D rs :=
  ⟨h.bel.grown g h.bel.size (fun k e => Nat.le_trans h.bel.size (hv k e)), row_far h.inn g (fun k q e e2 => by have := hv k e; have := (h.inn.lt q e2).2; omega), o, by have := h.s0; have := h.s12; omega, h.sz2, g.size,
    fun r hr => ⟨row_far (h.rest r hr) g (fun k q e e2 => by have := hv k e; have := (World.ownsRow.lt (h.rest r hr) q e2).2; omega), fun k e => (World.ownsRow.lt (h.rest r hr) k e).2⟩⟩
theorem CH.setD {w W : World} {s2 s3 n : Nat} {ys : List Int} {g cap : Nat} {D : List Int} {rs : List (Value × List In)} (h : CH w W s2 s3 n ys (.slice (some ⟨g, 0, none⟩) n cap) D rs) (i : Nat) (u : Int) :
    CH w (W.setCell ⟨g, i, none⟩ (.int .u8 u)) s2 s3 n ys (.slice (some ⟨g, 0, none⟩) n cap) (D.set i u) rs := by
  have hg := World.ownsRow.lt h.d g rfl
  have G := (World.ownsRow.stored h.d i (.int .u8 u)).2
  exact ⟨h.bel.grown G h.bel.size (fun k e => by injection e with e; have := h.s0; have := h.s23; omega), row_far h.inn G (fun k q e e2 => by injection e with e; have : w.heap.size = q := Option.some.inj e2; have := h.s0; have := h.s23; omega), own_set h.d i u, h.s0, h.s23, Nat.le_trans h.sz3 G.size, fun r hr => ⟨row_far (h.rest r hr).1 G (fun k q e e2 => by injection e with e; have := (h.rest r hr).2 q e2; omega), (h.rest r hr).2⟩⟩
theorem CH.setI {w W : World} {s2 s3 n : Nat} {ys : List Int} {vd : Value} {D : List Int} {rs : List (Value × List In)} (h : CH w W s2 s3 n ys vd D rs) (i : Nat) (u : Int) :
    CH w (W.setCell ⟨w.heap.size, i, none⟩ (.int .u8 u)) s2 s3 n (ys.set i u) vd D rs := by
  have G := (World.ownsRow.stored h.inn i (.int .u8 u)).2
  exact ⟨h.bel.grown G h.bel.size (fun k e => by injection e with e; omega), own_set h.inn i u, row_far h.d G (fun k q e e2 => by injection e with e; have := (World.ownsRow.lt h.d q e2).1; have := h.s0; have := h.s23; omega), h.s0, h.s23, Nat.le_trans h.sz3 G.size, fun r hr => ⟨row_far (h.rest r hr).1 G (fun k q e e2 => by injection e with e; have := (World.ownsRow.lt (h.rest r hr).1 q e2).1; have := h.s0; omega), (h.rest r hr).2⟩⟩
/-- Bytes half turned about. -/
def midB (l : List Int) (k : Nat) : List Int := l.reverse.take k ++ l.drop k
theorem midB_len (l : List Int) (k : Nat) (h : k ≤ l.length) : (midB l k).length = l.length := by simp [midB]; omega
theorem midB_zero (l : List Int) : midB l 0 = l := by simp [midB]
theorem midB_all (l : List Int) : midB l l.length = l.reverse := by unfold midB; rw [List.take_of_length_le (by simp), List.drop_length, List.append_nil]
theorem midB_next (l : List Int) (k : Nat) (h : k < l.length) : (midB l k).set k (l.getD (l.length - 1 - k) 0) = midB l (k + 1) := by
  unfold midB
  rw [List.set_append_right _ _ (by simp; omega), show (l.reverse.take k).length = k by simp; omega, Nat.sub_self, List.drop_eq_getElem_cons h, List.set_cons_zero, List.take_succ_eq_append_getElem (by simpa using h), List.append_assoc, List.singleton_append, List.getElem_reverse]
  simp [List.getD, show l.length - 1 - k < l.length by omega]
theorem over_setI (X : List In) (j : Nat) (u : In) (h : j < X.length) : (List.replicate j u ++ X.drop j).set j u = List.replicate (j + 1) u ++ X.drop (j + 1) := by
  rw [List.set_append_right _ _ (by simp), List.length_replicate, Nat.sub_self, List.drop_eq_getElem_cons h, List.set_cons_zero, List.replicate_succ', List.append_assoc, List.singleton_append]
theorem getD_replI (u : In) (m j : Nat) (h : j < m) : (List.replicate m u).getD j default = u := by simp [List.getD, List.getElem?_replicate, h]
theorem getD_app1I (u v : In) (m k j : Nat) (h : j < m) : (List.replicate m u ++ List.replicate k v).getD j default = u := by
  simp only [List.getD]
  rw [List.getElem?_append_left (by simpa using h)]
  simp [List.getElem?_replicate, h]
theorem getD_app2I (u v : In) (m k j : Nat) (h : ¬ j < m) (h2 : j < m + k) : (List.replicate m u ++ List.replicate k v).getD j default = v := by
  simp only [List.getD]
  rw [List.getElem?_append_right (by simp; omega)]
  simp [List.getElem?_replicate, show j - m < k by omega]
end Go.Proofs.YtdbjdieegocdfaaDoor
