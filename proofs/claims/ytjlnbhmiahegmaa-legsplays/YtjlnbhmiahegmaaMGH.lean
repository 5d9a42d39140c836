/-
  PLAIN: what actions come to does not ask where they lie; lists of flows that grow.
-/
import Derived.Test.YtjlnbhmiahegmaaMEF
namespace Go.Proofs.Ytjlnbhmiahegmaa
open Go.RowKit
set_option linter.unusedVariables false
set_option linter.unusedSimpArgs false

def St.er (s : St) : St := { s with x := [] }
def At.er (a : At) : At := { a with sa := none, sc := 0, x := [], ss := a.ss.map St.er }
theorem getD_mem {α : Type} [Inhabited α] {l : List α} {k : Nat} (h : k < l.length) : l.getD k default ∈ l := by
  rw [show l.getD k default = l[k] by simp [List.getD, h]]; exact List.getElem_mem h
theorem okS_er (R : List (List Cl)) (C : List Int) (s : St) : okS R C s.er ↔ okS R C s := Iff.rfl
theorem passF_er (R : List (List Cl)) (C : List Int) : ∀ l : List St, passF R C (l.map St.er) = passF R C l
  | [] => rfl
  | s :: r => by
    simp only [List.map_cons, passF]
    rw [passF_er R C r]
    by_cases h : okS R C s
    · rw [if_pos h, if_pos (show okS R C s.er from h)]
    · rw [if_neg h, if_neg (show ¬ okS R C s.er from h)]; rfl
theorem turnR_er (R : List (List Cl)) (C : List Int) : ∀ (l : List St) (v : Int × Int), turnR R C (l.map St.er) v = turnR R C l v
  | [], v => rfl
  | s :: r, v => by simp only [List.map_cons, turnR, turnR_er R C r v]; rfl
theorem doneR_er (R : List (List Cl)) (C : List Int) (a : At) : doneR R C a.er = doneR R C a := by
  unfold doneR At.er
  simp only [passF_er, turnR_er]
theorem playR_er (R : List (List Cl)) : ∀ (l : List At) (C : List Int), playR R (l.map At.er) C = playR R l C
  | [], C => rfl
  | a :: r, C => by simp only [List.map_cons, playR, doneR_er, playR_er R r]; rfl
theorem isA_er (a : At) (c : Int) : isA a.er c ↔ isA a c := by
  unfold isA At.er
  simp [St.er]
theorem day_er (l : List At) (i : Nat) (hi : i < l.length) : ((l.map At.er).getD i default).day = (l.getD i default).day := by
  simp [List.getD, hi, At.er]
theorem risen_er (l : List At) : risen (l.map At.er) ↔ risen l := by
  unfold risen
  constructor
  · intro h i hi
    have q := h i (by simpa using hi)
    rw [day_er l i hi] at q
    by_cases z : i = 0
    · subst z; simpa using q
    · rw [if_neg z] at q ⊢
      rw [day_er l (i - 1) (by omega)] at q
      exact q
  · intro h i hi
    have hi' : i < l.length := by simpa using hi
    have q := h i hi'
    rw [day_er l i hi']
    by_cases z : i = 0
    · subst z; simpa using q
    · rw [if_neg z] at q ⊢
      rw [day_er l (i - 1) (by omega)]
      exact q
theorem oddR_er (l : List At) (c : Int) : oddR (l.map At.er) c = oddR l c := by
  have e1 : (∀ a ∈ l.map At.er, isA a c) ↔ ∀ a ∈ l, isA a c := by
    constructor
    · intro h a ha
      exact (isA_er a c).1 (h a.er (List.mem_map.2 ⟨a, ha, rfl⟩))
    · intro h a ha
      obtain ⟨b, hb, rfl⟩ := List.mem_map.1 ha
      exact (isA_er b c).2 (h b hb)
  unfold oddR
  rw [List.length_map]
  by_cases z1 : c < 0 ∨ 512 < c
  · rw [if_pos z1, if_pos z1]
  · rw [if_neg z1, if_neg z1]
    by_cases z2 : ∀ a ∈ l, isA a c
    · rw [if_neg (show ¬ ¬ (∀ a ∈ l.map At.er, isA a c) from fun q => q (e1.2 z2)), if_neg (show ¬ ¬ (∀ a ∈ l, isA a c) from fun q => q z2)]
      by_cases z3 : risen l
      · rw [if_neg (show ¬ ¬ risen (l.map At.er) from fun q => q ((risen_er l).2 z3)), if_neg (show ¬ ¬ risen l from fun q => q z3)]
      · rw [if_pos (show ¬ risen (l.map At.er) from fun q => z3 ((risen_er l).1 q)), if_pos z3]
    · rw [if_pos (show ¬ (∀ a ∈ l.map At.er, isA a c) from fun q => z2 (e1.1 q)), if_pos z2]
theorem outR_er (R : List (List Cl)) (l : List At) (c : Int) : outR R (l.map At.er) c = outR R l c := by
  unfold outR; rw [oddR_er, playR_er]
theorem playR_len (R : List (List Cl)) : ∀ (l : List At) (C : List Int), (playR R l C).1.length ≤ l.length
  | [], C => by simp [playR]
  | a :: r, C => by
    simp only [playR, List.length_cons]
    split
    · simp
    · split
      · split
        · simp only [List.length_cons]; have := playR_len R r C; omega
        · have := playR_len R r (C.set a.cell.toNat (doneR R C a).1); omega
      · have := playR_len R r C; omega
theorem playR_day (R : List (List Cl)) : ∀ (l : List At) (C : List Int), (playR R l C).2.1 = 0 → (playR R l C).2.2 = 0
  | [], C => fun _ => rfl
  | a :: r, C => by
    simp only [playR]
    split
    · rename_i h; intro z; exact absurd z h
    · split
      · split
        · exact playR_day R r C
        · exact playR_day R r _
      · exact playR_day R r C
theorem outR_len (R : List (List Cl)) (l : List At) (c : Int) : (outR R l c).1.length ≤ l.length := by
  unfold outR; split
  · exact playR_len R l _
  · simp
theorem outR_day (R : List (List Cl)) (l : List At) (c : Int) : (outR R l c).2.1 = 0 → (outR R l c).2.2 = 0 := by
  unfold outR; split
  · exact playR_day R l _
  · intro _; rfl
/-- The actions that were handed in, as actions. -/
theorem HAs.al {w0 w : World} {pa : Option Addr} {b : Nat} {al : List At} {CUR : Array Value} {A : Nat → At} (hA : AL w0 pa al) (h : HAs w b al (al.length + 3) CUR A) : AL w (some ⟨b, 0, none⟩) ((List.range al.length).map A) ∧ ((List.range al.length).map A).map At.er = al.map At.er := by
  have hm : ∀ i, i < al.length → AV w0 (al.getD i default) := fun i hi => hA.2.1 _ (by rw [show al.getD i default = al[i] by simp [List.getD, hi]]; exact List.getElem_mem hi)
  refine ⟨⟨by simp; exact hA.1, fun a ha => ?_, .inr ⟨b, 0, rfl, h.bk.lt, fun i hi c hc => ?_⟩⟩, ?_⟩
  · obtain ⟨i, hi, rfl⟩ := List.mem_map.1 ha
    have hi' := List.mem_range.1 hi
    have q := h.act i (by omega) hi'
    obtain ⟨p1, p2, p3, p4, p5, p6, p7⟩ := hm i hi'
    obtain ⟨sb, cur, e1, e2⟩ := q.ss
    have sl6 : ∀ s ∈ (al.getD i default).ss, SV w0 s := p6.2.1
    refine ⟨by rw [q.day]; exact p1, by rw [q.kind]; exact p2, by rw [q.cell]; exact p3, by rw [q.e]; exact q.xh.xv, ?_, ⟨by rw [q.sl]; exact p6.1, fun s hs => ?_, .inr ⟨sb, 0, e1, e2.bk.lt, fun k hk c hc => ?_⟩⟩, by rw [q.cur]; exact p7⟩
    · refine ⟨(fun e => by rw [e1] at e; cases e), (by rw [q.sl, q.sc]; omega), ?_⟩
      rw [q.sc]; have := p6.1; unfold maxLen; omega
    · obtain ⟨k, hk, rfl⟩ := List.mem_iff_getElem.1 hs
      have hk' : k < (al.getD i default).ss.length := by rw [← q.sl]; exact hk
      have r := e2.st k (by omega) hk'
      rw [show (A i).ss.getD k default = (A i).ss[k] by simp [List.getD, hk]] at r
      refine ⟨by rw [r.kind]; exact (sl6 _ (by exact getD_mem hk')).1, by rw [r.e]; exact r.xh.xv⟩
    · have hk' : k < (al.getD i default).ss.length := by rw [← q.sl]; exact hk
      have r := e2.st k (by omega) hk'
      rw [Nat.zero_add, e2.bk.cell]
      exact r.cs c hc
  · have hi' : i < al.length := by simpa using hi
    rw [Nat.zero_add, h.bk.cell]
    show CUR[i * 9 + c]? = some ((((List.range al.length).map A).getD i default).cs.getD c default)
    rw [xgetD_map_range hi']
    exact (h.act i (by omega) hi').cs c hc
  · apply List.ext_getElem
    · simp
    · intro i h1 h2
      have hi' : i < al.length := by simpa using h2
      have q := h.act i (by omega) hi'
      obtain ⟨sb, cur, e1, e2⟩ := q.ss
      rw [show al.getD i default = al[i] by simp [List.getD, hi']] at q e2
      simp only [List.getElem_map, List.getElem_range]
      have ess : (A i).ss.map St.er = al[i].ss.map St.er := by
        apply List.ext_getElem
        · simp [q.sl]
        · intro k k1 k2
          have kA : k < (A i).ss.length := by simpa using k1
          have kO : k < al[i].ss.length := by simpa using k2
          have r := e2.st k (by omega) kO
          rw [show (A i).ss.getD k default = (A i).ss[k] by simp [List.getD, kA], show al[i].ss.getD k default = al[i].ss[k] by simp [List.getD, kO]] at r
          simp only [List.getElem_map, St.er]
          rw [r.kind, r.want, r.e]
      unfold At.er
      rw [ess, q.day, q.kind, q.e, q.cur, q.cell]
/-- An append leaves the row as it was, seen through the old slice. -/
theorem append_keepsF {w : World} (base : Nat) (t ty e : TypeId) (i : TypeInfo) (z : Value) (size bytes : Nat) (ht : Try.prog.underlying t = some (.slice e)) (hi : Try.prog.info? e = some i) (hz : i.zero = some z)
    (hsize : i.size = size) (hby : i.bytes = bytes) (hzs : z.cells.size = size) (hsz : 0 < size)
    (v : Value) (n : Nat) (xs : List Value) (hown : w.ownsRow base e size v n xs)
    (a : Addr) (m c : Nat) (news : List Value) (hl : news.length = m * size) (hnews : ∀ j u, news[j]? = some u → w.cell? (a.add j) = some u) (h1 : ∀ u ∈ news, u.oneCell' = true)
    (h63 : n + m ≤ maxLen) (hbytes : (n + m) * bytes ≤ 140737488355328) (hbase : base ≤ w.heap.size) (v' : Value) (w' : World)
    (hr : (Builtin.append_ #[t, t] ty #[v, .slice (some a) m c]).run Try.prog w = .ok v' w') (g : Nat) (hg : v.ownBlock = some g) : w'.heap[g]? = w.heap[g]? ∨ v'.ownBlock = some g := by
  subst hsize
  subst hby
  have hsmall : n + m ≤ 9223372036854775807 := by simp only [maxLen] at h63; omega
  rcases hown.2 with ⟨rfl, rfl⟩ | ⟨g', cap, cur, rfl, hbg, hgg, hnc, hcm, hcs, htake⟩
  · simp [Value.ownBlock] at hg
  · simp only [Value.ownBlock, Option.some.injEq] at hg
    subst hg
    by_cases hroom : n + m ≤ cap
    · have hfit : n * i.size + news.length ≤ cur.size := by rw [hl, hcs, ← Nat.add_mul]; exact Nat.mul_le_mul_right _ hroom
      rw [run_append_room (P := Try.prog) w t ty e i ht hi g' n cap cur hgg a m c news hl hnews h1 hroom hfit] at hr
      injection hr with hr1 hr2
      subst hr1
      exact .inr rfl
    · have holds : ∀ j u, xs[j]? = some u → w.cell? ((⟨g', 0, none⟩ : Addr).add j) = some u := hown.cells (g := g') rfl
      rw [run_append_grow (P := Try.prog) w t ty e i z ht hi hz ⟨g', 0, none⟩ n cap xs hown.1 holds a m c news hl hnews (by omega) (by omega) (growslice_fits (by omega) hbytes)] at hr
      injection hr with hr1 hr2
      subst hr2
      exact .inl (Below.heap_alloc w.drew _ g' (Array.getElem?_eq_some_iff.1 hgg).1)
end Go.Proofs.Ytjlnbhmiahegmaa

namespace Go.Proofs.Ytjlnbhmiahegmaa
open Go.RowKit
set_option linter.unusedVariables false
set_option linter.unusedSimpArgs false

/-- 'grown = append(grown, api.Flow{Day: -2})'. -/
theorem wp_grow {ops : Array Oper} {rest : List Oper} {o : Oper} {a : Act} {Q : Exit → Act → World → Prop} (w : World) (hgd : o.guard = none) (s x : Operand)
    (ho : o.op = .call { callee := .builtin .append, args := #[s, x], argTypes := #[42, 42] }) (B : Nat) (v : Value) (n : Nat) (xs : List Value) (hs : a.eval s = v)
    (hx : a.eval x = .slice (some ⟨w.heap.size, 0, none⟩) 1 1) (hown : w.ownsRow B 51 3 v n xs) (hl : n ≤ 4398046510000) (hb : B ≤ w.heap.size)
    (h : ∀ v' w', w'.ownsRow B 51 3 v' (n + 1) (xs ++ [.int .i64 (-2), .string ⟨#[]⟩, .int .i64 0]) → (w.alloc (.cells #[.int .i64 (-2), .string ⟨#[]⟩, .int .i64 0] 51)).grownBy w' v.ownBlock → (v'.ownBlock = v.ownBlock ∨ v'.ownBlock = some (w.heap.size + 1)) → (∀ g, v.ownBlock = some g → w'.heap[g]? = w.heap[g]? ∨ v'.ownBlock = some g) → wpList Try.prog ops Q rest (a.put o.dst v') w') :
    wpList Try.prog ops Q (o :: rest) a (w.alloc (.cells #[.int .i64 (-2), .string ⟨#[]⟩, .int .i64 0] 51)) := by
  obtain ⟨i0, hi, hz0, hz1, hz2⟩ := info_parts infoF
  have o1 := hown.alloc (.cells #[.int .i64 (-2), .string ⟨#[]⟩, .int .i64 0] 51)
  have hnews : ∀ j u, [Value.int .i64 (-2), .string ⟨#[]⟩, .int .i64 0][j]? = some u → (w.alloc (.cells #[.int .i64 (-2), .string ⟨#[]⟩, .int .i64 0] 51)).cell? ((⟨w.heap.size, 0, none⟩ : Addr).add j) = some u := by
    intro j u hj
    match j, hj with
    | 0, hj => simp at hj; subst hj; simp [Addr.add]
    | 1, hj => simp at hj; subst hj; simp [Addr.add]
    | 2, hj => simp at hj; subst hj; simp [Addr.add]
  have h1 : ∀ u ∈ [Value.int .i64 (-2), .string ⟨#[]⟩, .int .i64 0], u.oneCell' = true := by intro u hu; simp at hu; rcases hu with rfl | rfl | rfl <;> rfl
  have hB' : B ≤ (w.alloc (.cells #[.int .i64 (-2), .string ⟨#[]⟩, .int .i64 0] 51)).heap.size := Nat.le_trans hb (by simp)
  obtain ⟨v', w', hr, h2, h3, h4, h5⟩ := run_append_own_at (P := Try.prog) (w.alloc (.cells #[.int .i64 (-2), .string ⟨#[]⟩, .int .i64 0] 51)) B 42 o.type 51 i0 (.agg #[.int .i64 0, .string ⟨#[]⟩, .int .i64 0]) 3 32 Try.underlying42 hi hz0 hz1 hz2 rfl (by decide) v n xs o1 ⟨w.heap.size, 0, none⟩ 1 1 [.int .i64 (-2), .string ⟨#[]⟩, .int .i64 0] rfl hnews h1 (by unfold maxLen; omega) (by omega) hB'
  have hk := append_keepsF (w := w.alloc (.cells #[.int .i64 (-2), .string ⟨#[]⟩, .int .i64 0] 51)) B 42 o.type 51 i0 (.agg #[.int .i64 0, .string ⟨#[]⟩, .int .i64 0]) 3 32 Try.underlying42 hi hz0 hz1 hz2 rfl (by decide) v n xs o1 ⟨w.heap.size, 0, none⟩ 1 1 [.int .i64 (-2), .string ⟨#[]⟩, .int .i64 0] rfl hnews h1 (by unfold maxLen; omega) (by omega) hB' v' w' hr
  refine wpList_plain hgd fun K hK => ?_
  unfold Oper.wp execOp
  simp only [ho, resolve, invoke, builtin, Sem.run_bind, Sem.run_pure, Result.andThen_ok, List.map_toArray, List.map_cons, List.map_nil, hs, hx, hr]
  refine hK _ _ (h v' w' h2 h3 ?_ (fun g hg => ?_))
  · rcases h5 with h5 | h5
    · exact .inl h5
    · right; rw [h5]; simp
  · rcases hk g hg with q | q
    · left; rw [q]; exact Below.heap_alloc w _ g (hown.lt g hg).2
    · exact .inr q
/-- All but one block stays. -/
structure K1 (W wr : World) (g : Nat) : Prop where
  os : wr.os = W.os
  tape : wr.tape = W.tape
  output : wr.output = W.output
  size : W.heap.size ≤ wr.heap.size
  block : ∀ c, c ≠ g → c < W.heap.size → wr.heap[c]? = W.heap[c]?
/-- The first list of flows, written over, and what is grown of it. -/
structure GV (W wr : World) (g B : Nat) (n k : Nat) (gv : Value) : Prop where
  k1 : K1 W wr g
  af : ∀ j, j < n → wr.cell? ⟨g, j * 3, none⟩ = some (.int .i64 (-1))
  at_ : ∀ y, gv.ownBlock = some y → y = g ∨ W.heap.size ≤ y
  row : ∃ xs, wr.ownsRow B 51 3 gv (n + k) xs ∧ (∀ j, j < n → xs[j * 3]? = some (.int .i64 (-1))) ∧ ∀ j, n ≤ j → j < n + k → xs[j * 3]? = some (.int .i64 (-2))
theorem GV.next {W wr w' : World} {g B n k : Nat} {gv v' : Value} {xs : List Value} (h : GV W wr g B n k gv) (hx1 : wr.ownsRow B 51 3 gv (n + k) xs) (hx2 : ∀ j, j < n → xs[j * 3]? = some (.int .i64 (-1))) (hx3 : ∀ j, n ≤ j → j < n + k → xs[j * 3]? = some (.int .i64 (-2)))
    (hgl : n = 0 ∨ g < W.heap.size)
    (ho : w'.ownsRow B 51 3 v' (n + k + 1) (xs ++ [.int .i64 (-2), .string ⟨#[]⟩, .int .i64 0])) (hg : (wr.alloc (.cells #[.int .i64 (-2), .string ⟨#[]⟩, .int .i64 0] 51)).grownBy w' gv.ownBlock) (ha : v'.ownBlock = gv.ownBlock ∨ v'.ownBlock = some (wr.heap.size + 1)) (hk : ∀ y, gv.ownBlock = some y → w'.heap[y]? = wr.heap[y]? ∨ v'.ownBlock = some y) : GV W w' g B n (k + 1) v' := by
  have hlen : xs.length = (n + k) * 3 := hx1.1
  have x1 : ∀ j, j < n → (xs ++ [Value.int .i64 (-2), .string ⟨#[]⟩, .int .i64 0])[j * 3]? = some (.int .i64 (-1)) := fun j hj => by rw [List.getElem?_append_left (by omega)]; exact hx2 j hj
  have blk : ∀ c, c < wr.heap.size → some c ≠ gv.ownBlock → w'.heap[c]? = wr.heap[c]? := fun c hc hne => (hg.block c (by simp; omega) hne).trans (Below.heap_alloc wr _ c hc)
  refine ⟨⟨hg.os.trans h.k1.os, hg.tape.trans h.k1.tape, hg.output.trans h.k1.output, Nat.le_trans h.k1.size (Nat.le_trans (by simp) hg.size), fun c hc hlt => ?_⟩, fun j hj => ?_, fun y hy => ?_, _, ho, x1, fun j h1 h2 => ?_⟩
  · rw [blk c (Nat.lt_of_lt_of_le hlt h.k1.size) (fun e => by rcases h.at_ c e.symm with q | q <;> omega)]
    exact h.k1.block c hc hlt
  · have gl : g < wr.heap.size := by
      rcases hgl with q | q
      · omega
      · exact Nat.lt_of_lt_of_le q h.k1.size
    have old := h.af j hj
    by_cases e : gv.ownBlock = some g
    · rcases hk g e with q | q
      · rw [World.cell?_of_block (a := ⟨g, j * 3, none⟩) q]; exact old
      · rcases ho.2 with ⟨r, _⟩ | ⟨g', cap, cur, r, _⟩
        · rw [r] at q; cases q
        · rw [r] at q; simp only [Value.ownBlock, Option.some.injEq] at q
          subst q
          have := (r ▸ ho).cellAt (j * 3) (by omega)
          rw [this]; exact x1 j hj
    · rw [World.cell?_of_block (a := ⟨g, j * 3, none⟩) (blk g gl (fun q => e q.symm))]; exact old
  · rcases ha with q | q
    · exact h.at_ y (by rw [← q]; exact hy)
    · rw [q] at hy; injection hy with hy; right; have := h.k1.size; omega
  · by_cases e : j = n + k
    · subst e; rw [List.getElem?_append_right (by omega), show (n + k) * 3 - xs.length = 0 by omega]; rfl
    · rw [List.getElem?_append_left (by omega)]; exact hx3 j h1 (by omega)
/-- While the first list is written over. -/
structure OV (W wr : World) (g cap n i : Nat) (cur : Array Value) : Prop where
  k1 : K1 W wr g
  bk : Bk wr g cur 51
  sz : cur.size = cap * 3
  nc : n ≤ cap
  done : ∀ j, j < i → cur[j * 3]? = some (.int .i64 (-1))
theorem OV.next {W wr : World} {g cap n i : Nat} {cur : Array Value} (h : OV W wr g cap n i cur) (hi : i < n) (v1 v2 : Value) : ∃ cur', OV W (((wr.setCell ⟨g, i * 3, none⟩ (.int .i64 (-1))).setCell ⟨g, i * 3 + 1, none⟩ v1).setCell ⟨g, i * 3 + 2, none⟩ v2) g cap n (i + 1) cur' := by
  have s1 : i * 3 + 2 < cur.size := by have := h.sz; have := h.nc; omega
  obtain ⟨c2, q1, q2, q3, q4, q5⟩ := h.bk.set2 (i * 3) (.int .i64 (-1)) v1 (by omega)
  refine ⟨c2.set (i * 3 + 2) v2 (by omega), ⟨h.k1.os, h.k1.tape, h.k1.output, by have := h.k1.size; simpa [World.setCell] using this, fun c hc hlt => ?_⟩, q1.set _ _ (by omega), by simpa using q2.trans h.sz, h.nc, fun j hj => ?_⟩
  · rw [heap_set_other _ _ _ _ _ (Ne.symm hc), heap_set_other _ _ _ _ _ (Ne.symm hc), heap_set_other _ _ _ _ _ (Ne.symm hc)]; exact h.k1.block c hc hlt
  · rw [Array.getElem?_set_ne _ (by omega)]
    by_cases e : j = i
    · subst e; exact q4
    · rw [q3 _ (by omega)]; exact h.done j (by omega)
theorem OV.gv {W wr : World} {g cap n B : Nat} {cur : Array Value} (h : OV W wr g cap n n cur) (hB : B ≤ g) (hm : cap ≤ maxLen) : GV W wr g B n 0 (.slice (some ⟨g, 0, none⟩) n cap) := by
  refine ⟨h.k1, fun j hj => (h.bk.cell _).trans (h.done j hj), fun y hy => .inl (by simp [Value.ownBlock] at hy; exact hy.symm), cur.toList.take (n * 3), ⟨?_, .inr ⟨g, cap, cur, rfl, hB, h.bk, h.nc, hm, h.sz, by simp⟩⟩, fun j hj => ?_, fun j h1 h2 => by omega⟩
  · have := h.sz; have := h.nc; simp; omega
  · rw [List.getElem?_take, if_pos (by omega)]; simpa using h.done j hj
end Go.Proofs.Ytjlnbhmiahegmaa
