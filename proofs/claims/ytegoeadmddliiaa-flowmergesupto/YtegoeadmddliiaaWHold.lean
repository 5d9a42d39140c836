/-
  WALK: hold: what was handed out is written over, and appended to.
-/
import Derived.Test.YtegoeadmddliiaaWFlows
namespace Go.Proofs.Ytegoeadmddliiaa
open Go.RowKit
set_option linter.unusedVariables false
set_option linter.unusedSimpArgs false

theorem infoT : (Try.prog.info? 42).map (fun i => (i.zero, i.size, i.bytes)) = some (some (.agg #[.string ⟨#[]⟩, .int .i64 0]), 2, 24) := by kernel_rfl

/-- An append of a literal row of m flows. -/
theorem wp_app {ops : Array Oper} {rest : List Oper} {o : Oper} {a : Act} {Q : Exit → Act → World → Prop} (w : World) (m : Nat) (cs : Array Value) (hgd : o.guard = none) (s x : Operand)
    (ho : o.op = .call { callee := .builtin .append, args := #[s, x], argTypes := #[23, 23] }) (base : Nat) (v : Value) (n : Nat) (xs : List Value) (hs : a.eval s = v)
    (hx : a.eval x = .slice (some ⟨w.heap.size, 0, none⟩) m m) (hown : w.ownsRow base 36 3 v n xs) (hl : n ≤ 4398046511000) (hm : m ≤ 50) (hc : cs.size = m * 3) (h1 : cs.toList.all (fun u => u.oneCell') = true) (hb : base ≤ w.heap.size)
    (h : ∀ v' w', (w.alloc (.cells cs 36)).grownBy w' v.ownBlock → wpList Try.prog ops Q rest (a.put o.dst v') w') :
    wpList Try.prog ops Q (o :: rest) a (w.alloc (.cells cs 36)) := by
  obtain ⟨i0, hi, hz0, hz1, hz2⟩ := info_parts infoF
  refine wpList_append_own _ hgd s x 23 ho base 36 i0 (.agg #[.int .i64 0, .string ⟨#[]⟩, .int .i64 0]) 3 32 Try.underlying23 hi hz0 hz1 hz2 rfl (by decide) v _ _ hs (hown.alloc _) ⟨w.heap.size, 0, none⟩ m m cs.toList hx (by simpa using hc) ?_ (List.all_eq_true.1 h1) (by unfold maxLen; omega) (by omega) (by simp; omega) ?_
  · intro j u hj
    rw [Go.Addr.add_lit, Nat.zero_add, World.cell?_alloc_at _ _ _ _ rfl]
    simpa using hj
  · intro v' w' _ h2 _
    exact h v' w' h2
theorem wp_appT {ops : Array Oper} {rest : List Oper} {o : Oper} {a : Act} {Q : Exit → Act → World → Prop} (w : World) (m : Nat) (cs : Array Value) (hgd : o.guard = none) (s x : Operand)
    (ho : o.op = .call { callee := .builtin .append, args := #[s, x], argTypes := #[30, 30] }) (base : Nat) (v : Value) (n : Nat) (xs : List Value) (hs : a.eval s = v)
    (hx : a.eval x = .slice (some ⟨w.heap.size, 0, none⟩) m m) (hown : w.ownsRow base 42 2 v n xs) (hl : n ≤ 4398046511000) (hm : m ≤ 50) (hc : cs.size = m * 2) (h1 : cs.toList.all (fun u => u.oneCell') = true) (hb : base ≤ w.heap.size)
    (h : ∀ v' w', (w.alloc (.cells cs 42)).grownBy w' v.ownBlock → wpList Try.prog ops Q rest (a.put o.dst v') w') :
    wpList Try.prog ops Q (o :: rest) a (w.alloc (.cells cs 42)) := by
  obtain ⟨i0, hi, hz0, hz1, hz2⟩ := info_parts infoT
  refine wpList_append_own _ hgd s x 30 ho base 42 i0 (.agg #[.string ⟨#[]⟩, .int .i64 0]) 2 24 Try.underlying30 hi hz0 hz1 hz2 rfl (by decide) v _ _ hs (hown.alloc _) ⟨w.heap.size, 0, none⟩ m m cs.toList hx (by simpa using hc) ?_ (List.all_eq_true.1 h1) (by unfold maxLen; omega) (by omega) (by simp; omega) ?_
  · intro j u hj
    rw [Go.Addr.add_lit, Nat.zero_add, World.cell?_alloc_at _ _ _ _ rfl]
    simpa using hj
  · intro v' w' _ h2 _
    exact h v' w' h2

theorem own_cases {w : World} {B n : Nat} {v : Value} {xs : List Value} (h : w.ownsRow B 36 3 v n xs) : (v = .slice none 0 0 ∧ n = 0) ∨ ∃ g cap, v = .slice (some ⟨g, 0, none⟩) n cap ∧ B ≤ g ∧ g < w.heap.size := by
  have hl := h.lt
  obtain ⟨_, h2⟩ := h
  rcases h2 with h2 | ⟨g, cap, cur, rfl, hB, _⟩
  · exact .inl h2
  · exact .inr ⟨g, cap, rfl, hB, (hl g rfl).2⟩

/-- The box of hold's answer. -/
def BoxH (w W : World) : Prop := W.heap[w.heap.size]? = some (.cells #[.slice none 0 0, .slice none 0 0, .int .i64 0] 32 (0, 0))
theorem boxH_new (w : World) : BoxH w (w.alloc (.cells #[.slice none 0 0, .slice none 0 0, .int .i64 0] 32)) := by
  unfold BoxH
  show (w.heap.push _)[w.heap.size]? = _
  simp
theorem boxH_alloc {w W : World} (h : BoxH w W) (o : Obj) : BoxH w (W.alloc o) := (Below.heap_alloc W o _ (Array.getElem?_eq_some_iff.1 h).1).trans h
theorem boxH_grown {w W W' : World} {row : Option Nat} (h : BoxH w W) (hg : W.grownBy W' row) (hne : row ≠ some w.heap.size) : BoxH w W' := (hg.block _ (Array.getElem?_eq_some_iff.1 h).1 (fun e => hne e.symm)).trans h
theorem _root_.Go.RowKit.Below.block_set {B : Nat} {A W : World} (_ : Below B A W) {k : Nat} (p : Addr) (hp : p.block ≠ k) (v : Value) : (W.setCell p v).heap[k]? = W.heap[k]? := by
  have hp' : ¬ p.block = k := hp
  simp [World.setCell, Array.getElem?_modify, hp']
theorem boxH_set {w W : World} (h : BoxH w W) (p : Addr) (hp : p.block ≠ w.heap.size) (v : Value) : BoxH w (W.setCell p v) := by
  exact (((Below.refl (w.heap.size + 1) W)).block_set p hp v).trans h
theorem boxH_cells {w W : World} (h : BoxH w W) : W.cell? ⟨w.heap.size, 0, none⟩ = some (.slice none 0 0) ∧ W.cell? ⟨w.heap.size, 1, none⟩ = some (.slice none 0 0) ∧ W.cell? ⟨w.heap.size, 2, none⟩ = some (.int .i64 0) ∧
    W.frozen? ⟨w.heap.size, 0, none⟩ = false ∧ W.frozen? ⟨w.heap.size, 1, none⟩ = false ∧ W.frozen? ⟨w.heap.size, 2, none⟩ = false := by
  unfold BoxH at h
  refine ⟨?_, ?_, ?_, ?_, ?_, ?_⟩ <;> simp [World.cell?, World.frozen?, h]

set_option maxRecDepth 100000 in
set_option maxHeartbeats 2000000 in
theorem hold_any (v : Value) (n B : Nat) (xs : List Value) (mark : Int) (w : World) (h : w.ownsRow B 36 3 v n xs) (hn : n ≤ 4398046511000) (hB : B ≤ w.heap.size) :
    Calls Try.prog 8 #[v, .slice none 0 0, .int .i64 mark] w fun e w' => ∃ r, e = .returned r ∧ Below B w w' := by
  have HO := Lib.hid h
  rcases own_cases h with ⟨rfl, rfl⟩ | ⟨g, cap, rfl, h1, h2⟩
  · clear h
    have NB := Lib.hid (p := (Value.slice none 0 0).ownBlock ≠ some w.heap.size) (fun e => by cases e)
    go_enter Try.func8, Try.ntmps8
    go_wp2
    go_loopw [7] (fun t wr => t = .int .i64 0 ∧ wr = w.alloc (.cells #[.slice none 0 0, .slice none 0 0, .int .i64 0] 32)) (fun t _ => 0)
    case atStart => exact ⟨rfl, rfl⟩
    case round =>
      obtain ⟨rfl, rfl⟩ := hrel
      have BB := Lib.hid ((Below.refl B w).alloc hB (.cells #[.slice none 0 0, .slice none 0 0, .int .i64 0] 32))
      have OO := Lib.hid (HO.out.alloc (.cells #[.slice none 0 0, .slice none 0 0, .int .i64 0] 32))
      have XX := Lib.hid (boxH_new w)
      generalize w.alloc (.cells #[.slice none 0 0, .slice none 0 0, .int .i64 0] 32) = wr at *
      go_wp2
      go_loopw [8] (fun t ws => t = .int .i64 0 ∧ ws = wr) (fun t _ => 0)
      case atStart => exact ⟨rfl, rfl⟩
      case round =>
        obtain ⟨rfl, rfl⟩ := hrel
        go_wp2_with (first
          | (at_builtin; refine wp_app _ 3 _ rfl _ _ rfl B _ _ _ rfl rfl OO.out hn (by decide) (by rfl) (by rfl) (Nat.le_trans hB BB.out.size) ?_; intro v1 w1 hg1; have B1 := Lib.hid ((BB.out.alloc (Nat.le_trans hB BB.out.size) _).grown hg1 (Nat.le_trans (Nat.le_trans hB BB.out.size) (by simp)) (fun k e => (OO.out.lt k e).1)); have X1 := Lib.hid (boxH_grown (boxH_alloc XX.out _) hg1 (fun e => NB.out e)); clear hg1)
          | (at_builtin; refine wp_appT _ 2 _ rfl _ _ rfl B _ 0 [] rfl rfl (World.ownsRow_nil _ _ _ _) (by omega) (by decide) (by rfl) (by rfl) (Nat.le_trans hB B1.out.size) ?_; intro v2 w2 hg2; have B2 := Lib.hid ((B1.out.alloc (Nat.le_trans hB B1.out.size) _).grown hg2 (Nat.le_trans (Nat.le_trans hB B1.out.size) (by simp)) (fun k e => by cases e)); have X2 := boxH_grown (boxH_alloc X1.out _) hg2 (fun e => by cases e); obtain ⟨y0, y1, y2, y3, y4, y5⟩ := boxH_cells X2; clear hg2 X2))
        exact bodyPost_ret (by simp [results, Try.results8, go_sem, y0, y1, y2]; rfl) rfl ⟨_, rfl, ((B2.out.setCell (by simp; omega) _).setCell (by simp; omega) _).setCell (by simp; omega) _⟩
  · clear h
    have NB := Lib.hid (p := (Value.slice (some ⟨g, 0, none⟩) n cap).ownBlock ≠ some w.heap.size) (fun e => by simp [Value.ownBlock] at e; omega)
    go_enter Try.func8, Try.ntmps8
    go_wp2
    go_loopw [7] (fun t wr => ∃ (k : Nat) (xs : List Value), k ≤ n ∧ t = .int .i64 k ∧ Below B w wr ∧ wr.ownsRow B 36 3 (.slice (some ⟨g, 0, none⟩) n cap) n xs ∧ BoxH w wr) (fun t _ => n - (intOf t).toNat)
    case atStart => exact ⟨0, xs, by omega, rfl, (Below.refl B w).alloc hB _, HO.out.alloc _, boxH_new w⟩
    case round =>
      obtain ⟨k, xs, hk, rfl, hb, ho, hx⟩ := hrel
      have BB := Lib.hid hb
      have OO := Lib.hid ho
      have XX := Lib.hid hx
      by_cases hlt : k < n
      · have kc : (k : Int) < (n : Int) := by omega
        have len : xs.length = n * 3 := ho.1
        have c0 := ho.cellAt (k * 3) (by omega)
        have c1 := ho.cellAt (k * 3 + 1) (by omega)
        have c2 := ho.cellAt (k * 3 + 2) (by omega)
        rw [List.getElem?_eq_getElem (by omega)] at c0 c1 c2
        generalize xs[k * 3]'(by omega) = z0 at c0
        generalize xs[k * 3 + 1]'(by omega) = z1 at c1
        generalize xs[k * 3 + 2]'(by omega) = z2 at c2
        have f0 := ho.frozenAt (k * 3)
        have f1 := ho.frozenAt (k * 3 + 1)
        have f2 := ho.frozenAt (k * 3 + 2)
        clear hb ho hx
        go_wp2
        go_roundw
        case rel => exact ⟨k + 1, _, by omega, by go_num, ((BB.out.setCell (by simpa using h1) _).setCell (by simpa using h1) _).setCell (by simpa using h1) _, (((OO.out.stored _ _).1.stored _ _).1.stored _ _).1, boxH_set (boxH_set (boxH_set XX.out _ (by simp; omega) _) _ (by simp; omega) _) _ (by simp; omega) _⟩
        case measure => simp [intOf]; omega
      · obtain rfl : k = n := by omega
        clear hb ho hx
        go_wp2
        go_loopw [8] (fun t ws => t = .int .i64 0 ∧ ws = wr) (fun t _ => 0)
        case atStart => exact ⟨rfl, rfl⟩
        case round =>
          obtain ⟨rfl, rfl⟩ := hrel
          go_wp2_with (first
            | (at_builtin; refine wp_app _ 3 _ rfl _ _ rfl B _ _ _ rfl rfl OO.out hn (by decide) (by rfl) (by rfl) (Nat.le_trans hB BB.out.size) ?_; intro v1 w1 hg1; have B1 := Lib.hid ((BB.out.alloc (Nat.le_trans hB BB.out.size) _).grown hg1 (Nat.le_trans (Nat.le_trans hB BB.out.size) (by simp)) (fun k e => (OO.out.lt k e).1)); have X1 := Lib.hid (boxH_grown (boxH_alloc XX.out _) hg1 (fun e => NB.out e)); clear hg1)
            | (at_builtin; refine wp_appT _ 2 _ rfl _ _ rfl B _ 0 [] rfl rfl (World.ownsRow_nil _ _ _ _) (by omega) (by decide) (by rfl) (by rfl) (Nat.le_trans hB B1.out.size) ?_; intro v2 w2 hg2; have B2 := Lib.hid ((B1.out.alloc (Nat.le_trans hB B1.out.size) _).grown hg2 (Nat.le_trans (Nat.le_trans hB B1.out.size) (by simp)) (fun k e => by cases e)); have X2 := boxH_grown (boxH_alloc X1.out _) hg2 (fun e => by cases e); obtain ⟨y0, y1, y2, y3, y4, y5⟩ := boxH_cells X2; clear hg2 X2))
          exact bodyPost_ret (by simp [results, Try.results8, go_sem, y0, y1, y2]; rfl) rfl ⟨_, rfl, ((B2.out.setCell (by simp; omega) _).setCell (by simp; omega) _).setCell (by simp; omega) _⟩
end Go.Proofs.Ytegoeadmddliiaa
