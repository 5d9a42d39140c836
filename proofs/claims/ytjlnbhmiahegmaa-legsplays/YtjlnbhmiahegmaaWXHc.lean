/-
  What the law's raised writes.
-/
import Derived.Test.YtjlnbhmiahegmaaWXH9
import Derived.Laws.AppendOwn
import Derived.Laws.OwnMore
import Derived.Test.YtjlnbhmiahegmaaWXH8
import Derived.Test.YtjlnbhmiahegmaaWXV78
import Derived.Test.YtjlnbhmiahegmaaWXV10
import Derived.Laws.AppendOwnNone
namespace Go.Proofs.Ytjlnbhmiahegmaa
open Go.RowKit
set_option linter.unusedVariables false
set_option linter.unusedSimpArgs false

def ccs : List Cl → List Value
  | [] => []
  | c :: r => .bool c.h :: .int .i64 c.v :: ccs r
theorem ccs_len : ∀ l : List Cl, (ccs l).length = l.length * 2
  | [] => rfl
  | c :: r => by simp only [ccs, List.length_cons, ccs_len r]; omega
theorem ccs_app : ∀ a b : List Cl, ccs (a ++ b) = ccs a ++ ccs b
  | [], b => rfl
  | c :: r, b => by simp only [List.cons_append, ccs, ccs_app r b]
theorem ccs_at : ∀ (l : List Cl) (i : Nat), i < l.length → (ccs l)[i * 2]? = some (.bool (l.getD i default).h) ∧ (ccs l)[i * 2 + 1]? = some (.int .i64 (l.getD i default).v)
  | c :: r, 0, _ => by simp [ccs]
  | c :: r, i + 1, h => by
    have := ccs_at r i (by simpa using h)
    rw [show (i + 1) * 2 = i * 2 + 1 + 1 by omega]
    simpa [ccs] using this
def upc (i k : Nat) : Cl := ⟨true, 5 + (i : Int) + (k : Int)⟩
def upRow (i : Nat) (D : List Cl) : List Cl := (List.range D.length).map (upc i)
def upR (R : List (List Cl)) : List (List Cl) := (List.range R.length).map (fun i => upRow i (R.getD i []))
def mix (i k : Nat) (D : List Cl) : List Cl := (List.range D.length).map (fun j => if j < k then upc i j else D.getD j default)
theorem mix_len (i k : Nat) (D : List Cl) : (mix i k D).length = D.length := by simp [mix]
theorem mix_zero (i : Nat) (D : List Cl) : mix i 0 D = D := by
  apply List.ext_getElem
  · simp [mix]
  · intro j h1 h2; simp [mix, List.getD, h2]
theorem mix_all (i : Nat) (D : List Cl) : mix i D.length D = upRow i D := by
  apply List.ext_getElem
  · simp [mix, upRow]
  · intro j h1 h2
    have : j < D.length := by simpa [upRow] using h2
    simp [mix, upRow, this]
theorem mix_next (i k : Nat) (D : List Cl) (hk : k < D.length) : mix i (k + 1) D = (mix i k D).set k (upc i k) := by
  apply List.ext_getElem
  · simp [mix]
  · intro j h1 h2
    have hj : j < D.length := by simpa [mix] using h1
    rw [List.getElem_set]
    simp only [mix, List.getElem_map, List.getElem_range]
    by_cases e : k = j
    · subst e; simp
    · rw [if_neg e]
      by_cases l : j < k
      · rw [if_pos l, if_pos (by omega)]
      · rw [if_neg l, if_neg (by omega)]
theorem upRow_len (i : Nat) (D : List Cl) : (upRow i D).length = D.length := by simp [upRow]
theorem ccs_next (i k : Nat) : ccs ((List.range (k + 1)).map (upc i)) = ccs ((List.range k).map (upc i)) ++ [.bool true, .int .i64 (5 + (i : Int) + (k : Int))] := by
  rw [List.range_succ, List.map_append, ccs_app]; rfl
theorem HRw.put {w : World} {b : Nat} {D : List Cl} (h : HRw w b D) (k : Nat) (hk : k < D.length) (c : Cl) :
    HRw ((w.setCell ⟨b, k * 2, none⟩ (.bool c.h)).setCell ⟨b, k * 2 + 1, none⟩ (.int .i64 c.v)) b (D.set k c) := by
  obtain ⟨cur, h1, h2, h3⟩ := h
  obtain ⟨cur', q1, q2, q3, q4, q5⟩ := h1.set2 (k * 2) (.bool c.h) (.int .i64 c.v) (by omega)
  refine ⟨cur', q1, by rw [q2, h2, List.length_set], fun j hj => ?_⟩
  rw [List.length_set] at hj
  by_cases e : j = k
  · subst e
    rw [show dk (D.set j c) j = c by simp [dk, hk]]
    exact ⟨q4, q5⟩
  · rw [q3 _ (by omega), q3 _ (by omega), show dk (D.set k c) j = dk D j by
      simp only [dk, List.length_set, List.getD]
      rw [List.getElem?_set_ne (fun e' => e e'.symm)]]
    exact h3 j hj
theorem grown_set (w : World) (b k : Nat) (v : Value) : w.grownBy (w.setCell ⟨b, k, none⟩ v) (some b) :=
  ⟨rfl, rfl, rfl, by simp [World.setCell], fun c _ hc => heap_set_other _ _ _ _ _ (fun e => hc (by rw [e]))⟩
theorem grown_set2 (w : World) (b k j : Nat) (v u : Value) : w.grownBy ((w.setCell ⟨b, k, none⟩ v).setCell ⟨b, j, none⟩ u) (some b) :=
  ⟨rfl, rfl, rfl, by simp [World.setCell], fun c _ hc => by rw [heap_set_other _ _ _ _ _ (fun e => hc (by rw [e])), heap_set_other _ _ _ _ _ (fun e => hc (by rw [e]))]⟩
theorem own_mono {w : World} {B B' : Nat} {e : TypeId} {s : Nat} {v : Value} {n : Nat} {xs : List Value} (h : w.ownsRow B e s v n xs) (hB : B' ≤ B) : w.ownsRow B' e s v n xs := by
  refine ⟨h.1, ?_⟩
  rcases h.2 with q | ⟨g, cap, cur, q1, q2, q3⟩
  · exact .inl q
  · exact .inr ⟨g, cap, cur, q1, Nat.le_trans hB q2, q3⟩
theorem own_types {w : World} {B B' : Nat} {e e' : TypeId} {s s' : Nat} {v v' : Value} {n n' : Nat} {xs xs' : List Value} (h : w.ownsRow B e s v n xs) (h' : w.ownsRow B' e' s' v' n' xs') (he : e ≠ e') : v.ownBlock = none ∨ v.ownBlock ≠ v'.ownBlock := by
  rcases h.2 with ⟨rfl, _⟩ | ⟨g, cap, cur, rfl, _, q3, _⟩
  · exact .inl rfl
  · refine .inr (fun q => ?_)
    rcases h'.2 with ⟨rfl, _⟩ | ⟨g', cap', cur', rfl, _, q3', _⟩
    · simp [Value.ownBlock] at q
    · simp [Value.ownBlock] at q
      subst q
      rw [q3] at q3'
      injection q3' with q3'
      injection q3' with _ q4
      exact he q4
/-- While one row is raised. -/
structure RI (W wz : World) (B : Nat) (D : List Cl) (i k : Nat) (x : Value) : Prop where
  gr : W.grownBy wz (some B)
  row : wz.ownsRow W.heap.size 58 2 x k (ccs ((List.range k).map (upc i)))
  inn : HRw wz B (mix i k D)
theorem grown_trans {a b c : World} {B : Nat} {r : Option Nat} (h : a.grownBy b (some B)) (g : b.grownBy c r) (hr : ∀ x, r = some x → x = B ∨ a.heap.size ≤ x) : a.grownBy c (some B) :=
  ⟨g.os.trans h.os, g.tape.trans h.tape, g.output.trans h.output, Nat.le_trans h.size g.size, fun k hk hkB => (g.block k (Nat.lt_of_lt_of_le hk h.size) (fun e => by
    rcases hr k e.symm with q | q
    · exact hkB (by rw [q])
    · omega)).trans (h.block k hk hkB)⟩
theorem HRw.grown {w w' : World} {b : Nat} {D : List Cl} {r : Option Nat} (h : HRw w b D) (g : w.grownBy w' r) (hb : some b ≠ r) : HRw w' b D := h.keep (g.block b h.lt hb)
theorem RI.mid {W wz w2 : World} {B : Nat} {D : List Cl} {i k : Nat} {x : Value} (h : RI W wz B D i k x) (hB : B < W.heap.size) (o : Obj) (g : (wz.alloc o).grownBy w2 x.ownBlock) : W.grownBy w2 (some B) ∧ HRw w2 B (mix i k D) := by
  have q : ∀ y, x.ownBlock = some y → W.heap.size ≤ y := fun y e => (h.row.lt y e).1
  refine ⟨grown_trans (grown_trans h.gr (World.grownBy_alloc wz o none) (fun y e => by cases e)) g (fun y e => .inr (q y e)), (h.inn.grown (World.grownBy_alloc wz o none) (fun e => by cases e)).grown g (fun e => ?_)⟩
  have := q B e.symm
  omega
theorem RI.next {W wz w2 : World} {B : Nat} {D : List Cl} {i k : Nat} {x x' : Value} (h : RI W wz B D i k x) (hB : B < W.heap.size) (hk : k < D.length) (o : Obj) (g : (wz.alloc o).grownBy w2 x.ownBlock) (hr : w2.ownsRow W.heap.size 58 2 x' (k + 1) (ccs ((List.range k).map (upc i)) ++ [.bool true, .int .i64 (5 + (i : Int) + (k : Int))])) :
    RI W ((w2.setCell ⟨B, k * 2, none⟩ (.bool true)).setCell ⟨B, k * 2 + 1, none⟩ (.int .i64 (5 + (i : Int) + (k : Int)))) B D i (k + 1) x' := by
  obtain ⟨g1, h1⟩ := h.mid hB o g
  have s := grown_set2 w2 B (k * 2) (k * 2 + 1) (.bool true) (.int .i64 (5 + (i : Int) + (k : Int)))
  refine ⟨grown_trans g1 s (fun y e => .inl (by injection e with e; exact e.symm)), ?_, ?_⟩
  · rw [ccs_next]
    refine hr.kept s ?_
    cases hv : x'.ownBlock with
    | none => exact .inl rfl
    | some y => right; intro e; injection e with e; have := (hr.lt y hv).1; omega
  · rw [mix_next i k D hk]
    exact h1.put k (by rw [mix_len]; exact hk) (upc i k)
theorem RI.new {W : World} {B : Nat} {D : List Cl} (i : Nat) (h : HRw W B D) : RI W W B D i 0 (.slice none 0 0) :=
  ⟨⟨rfl, rfl, rfl, Nat.le_refl _, fun _ _ _ => rfl⟩, World.ownsRow_nil _ _ _ _, by rw [mix_zero]; exact h⟩
def sl (r : Rw) : Value := .slice r.a r.n r.cap
/-- While the rows are raised. -/
structure RM (w wo : World) (bs : Nat → Nat) (R : List (List Cl)) (i : Nat) (v : Value) (qs : List Rw) : Prop where
  os : wo.os = w.os
  tape : wo.tape = w.tape
  output : wo.output = w.output
  size : w.heap.size ≤ wo.heap.size
  block : ∀ c, c < w.heap.size → (∀ j, j < R.length → c ≠ bs j) → wo.heap[c]? = w.heap[c]?
  ql : qs.length = i
  l : wo.ownsRow w.heap.size 56 1 v i (qs.map sl)
  rows : ∀ j, j < i → (qs.getD j default).cs = upRow j (R.getD j []) ∧ (qs.getD j default).n = (R.getD j []).length ∧ wo.ownsRow w.heap.size 58 2 (sl (qs.getD j default)) (R.getD j []).length (ccs (upRow j (R.getD j [])))
  inn : ∀ j, j < R.length → HRw wo (bs j) (if j < i then upRow j (R.getD j []) else R.getD j [])
theorem RM.new {w : World} {bs : Nat → Nat} {R : List (List Cl)} (h : ∀ j, j < R.length → HRw w (bs j) (R.getD j [])) : RM w w bs R 0 (.slice none 0 0) [] :=
  ⟨rfl, rfl, rfl, Nat.le_refl _, fun _ _ _ => rfl, rfl, World.ownsRow_nil _ _ _ _, fun j hj => absurd hj (by omega), fun j hj => by rw [if_neg (by omega)]; exact h j hj⟩
theorem own_sl {w : World} {B : Nat} {e : TypeId} {s : Nat} {x : Value} {n : Nat} {xs : List Value} (h : w.ownsRow B e s x n xs) : ∃ a c, x = .slice a n c := by
  rcases h.2 with ⟨rfl, rfl⟩ | ⟨g, cap, cur, rfl, _⟩
  · exact ⟨_, _, rfl⟩
  · exact ⟨_, _, rfl⟩
theorem RM.next {w wo wz w2 : World} {bs : Nat → Nat} {R : List (List Cl)} {i : Nat} {v v' x : Value} {qs : List Rw} (h : RM w wo bs R i v qs) (hi : i < R.length) (hb : ∀ j, j < R.length → bs j < w.heap.size) (hj : ∀ j, j < R.length → j ≠ i → bs j ≠ bs i) {m : Nat} (hm : (R.getD i []).length = m)
    (g : RI wo wz (bs i) (R.getD i []) i m x) (o : Obj) (g2 : (wz.alloc o).grownBy w2 v.ownBlock) (hl : w2.ownsRow w.heap.size 56 1 v' (i + 1) (qs.map sl ++ [x])) : ∃ qs', RM w w2 bs R (i + 1) v' qs' := by
  subst hm
  obtain ⟨xa, xc, rfl⟩ := own_sl g.row
  have hvb : ∀ y, v.ownBlock = some y → w.heap.size ≤ y ∧ y < wo.heap.size := fun y e => h.l.lt y e
  have up : (List.range (R.getD i []).length).map (upc i) = upRow i (R.getD i []) := rfl
  have lz : wz.ownsRow w.heap.size 56 1 v i (qs.map sl) := h.l.kept g.gr (by
    cases hv : v.ownBlock with
    | none => exact .inl rfl
    | some y => right; intro e; injection e with e; have := (hvb y hv).1; have := hb i hi; omega)
  have la := lz.alloc o
  refine ⟨qs ++ [⟨xa, (R.getD i []).length, xc, upRow i (R.getD i [])⟩], g2.os.trans g.gr.os |>.trans h.os, g2.tape.trans g.gr.tape |>.trans h.tape, g2.output.trans g.gr.output |>.trans h.output, Nat.le_trans h.size (Nat.le_trans g.gr.size (Nat.le_trans (by simp) g2.size)), fun c hc hcb => ?_, by simp [h.ql], by simpa [sl] using hl, fun j hj' => ?_, fun j hj' => ?_⟩
  · have c1 : c < wo.heap.size := Nat.lt_of_lt_of_le hc h.size
    have c2 : c < wz.heap.size := Nat.lt_of_lt_of_le c1 g.gr.size
    rw [g2.block c (by simp; omega) (fun e => by have := (hvb c e.symm).1; omega), Below.heap_alloc wz o c c2, g.gr.block c c1 (fun e => by injection e with e; exact hcb i hi e)]
    exact h.block c hc hcb
  · by_cases e : j = i
    · subst e
      rw [show (qs ++ [(⟨xa, (R.getD j []).length, xc, upRow j (R.getD j [])⟩ : Rw)]).getD j default = ⟨xa, (R.getD j []).length, xc, upRow j (R.getD j [])⟩ by
        simp only [List.getD]; rw [List.getElem?_append_right (by rw [h.ql]; exact Nat.le_refl _), h.ql, Nat.sub_self]; rfl]
      refine ⟨rfl, rfl, ?_⟩
      have r1 := (own_mono g.row h.size).alloc o
      rw [up] at r1
      exact r1.kept g2 (own_types r1 la (by decide))
    · have q := h.rows j (by omega)
      rw [show (qs ++ [(⟨xa, (R.getD i []).length, xc, upRow i (R.getD i [])⟩ : Rw)]).getD j default = qs.getD j default by
        simp only [List.getD]; rw [List.getElem?_append_left (by rw [h.ql]; omega)]]
      refine ⟨q.1, q.2.1, ?_⟩
      have r1 := (q.2.2.kept g.gr (by
        cases hv : (sl (qs.getD j default)).ownBlock with
        | none => exact .inl rfl
        | some y => right; intro e; injection e with e; have := (q.2.2.lt y hv).1; have := hb i hi; omega)).alloc o
      exact r1.kept g2 (own_types r1 la (by decide))
  · have fin : ∀ D, HRw wz (bs j) D → HRw w2 (bs j) D := fun D q => (q.grown (World.grownBy_alloc wz o none) (fun e => by cases e)).grown g2 (fun e => by have := (hvb _ e.symm).1; have := hb j hj'; omega)
    by_cases e : j = i
    · subst e
      rw [if_pos (by omega)]
      have := g.inn
      rw [mix_all] at this
      exact fin _ this
    · rw [show (if j < i + 1 then upRow j (R.getD j []) else R.getD j []) = (if j < i then upRow j (R.getD j []) else R.getD j []) by
        by_cases l : j < i
        · rw [if_pos l, if_pos (by omega)]
        · rw [if_neg l, if_neg (by omega)]]
      exact fin _ ((h.inn j hj').grown g.gr (fun q => by injection q with q; exact hj j hj' e q))
end Go.Proofs.Ytjlnbhmiahegmaa

namespace Go.Proofs.Ytjlnbhmiahegmaa
open Go.RowKit
set_option linter.unusedVariables false
set_option linter.unusedSimpArgs false

theorem wp_cell {ops : Array Oper} {rest : List Oper} {o : Oper} {a : Act} {Q : Exit → Act → World → Prop} (w : World) (x : Bool) (y : Int) (hgd : o.guard = none) (s z : Operand)
    (ho : o.op = .call { callee := .builtin .append, args := #[s, z], argTypes := #[56, 56] }) (base : Nat) (v : Value) (n : Nat) (xs : List Value) (hs : a.eval s = v)
    (hx : a.eval z = .slice (some ⟨w.heap.size, 0, none⟩) 1 1) (hown : w.ownsRow base 58 2 v n xs) (hl : n ≤ 8796093021952) (hb : base ≤ w.heap.size)
    (h : ∀ v' w', w'.ownsRow base 58 2 v' (n + 1) (xs ++ [.bool x, .int .i64 y]) → (w.alloc (.cells #[.bool x, .int .i64 y] 58)).grownBy w' v.ownBlock → wpList Try.prog ops Q rest (a.put o.dst v') w') :
    wpList Try.prog ops Q (o :: rest) a (w.alloc (.cells #[.bool x, .int .i64 y] 58)) := by
  obtain ⟨i0, hi, hz0, hz1, hz2⟩ := info_parts infoC
  refine wpList_append_own _ hgd s z 56 ho base 58 i0 _ 2 16 Try.underlying56 hi hz0 hz1 hz2 rfl (by decide) v _ _ hs (hown.alloc _) ⟨w.heap.size, 0, none⟩ 1 1 [.bool x, .int .i64 y] hx rfl ?_ ?_ (by unfold maxLen; omega) (by omega) (by simp; omega) ?_
  · intro j u hj
    match j, hj with
    | 0, hj => simp at hj; subst hj; simp [Addr.add]
    | 1, hj => simp at hj; subst hj; simp [Addr.add]
  · intro u hu
    simp at hu
    rcases hu with rfl | rfl <;> rfl
  · intro v' w' h1 h2 _
    exact h v' w' h1 h2
theorem wp_sl {ops : Array Oper} {rest : List Oper} {o : Oper} {a : Act} {Q : Exit → Act → World → Prop} (w : World) (x : Value) (hx1 : x.oneCell' = true) (hgd : o.guard = none) (s z : Operand)
    (ho : o.op = .call { callee := .builtin .append, args := #[s, z], argTypes := #[25, 25] }) (base : Nat) (v : Value) (n : Nat) (xs : List Value) (hs : a.eval s = v)
    (hx : a.eval z = .slice (some ⟨w.heap.size, 0, none⟩) 1 1) (hown : w.ownsRow base 56 1 v n xs) (hl : n ≤ 5864062014635) (hb : base ≤ w.heap.size)
    (h : ∀ v' w', w'.ownsRow base 56 1 v' (n + 1) (xs ++ [x]) → (w.alloc (.cells #[x] 56)).grownBy w' v.ownBlock → wpList Try.prog ops Q rest (a.put o.dst v') w') :
    wpList Try.prog ops Q (o :: rest) a (w.alloc (.cells #[x] 56)) := by
  obtain ⟨i0, hi, hz0, hz1, hz2⟩ := info_parts infoR
  refine wpList_append_own _ hgd s z 25 ho base 56 i0 _ 1 24 Try.underlying25 hi hz0 hz1 hz2 rfl (by decide) v _ _ hs (hown.alloc _) ⟨w.heap.size, 0, none⟩ 1 1 [x] hx rfl ?_ ?_ (by unfold maxLen; omega) (by omega) (by simp; omega) ?_
  · intro j u hj
    match j, hj with
    | 0, hj => simp at hj; subst hj; simp [Addr.add]
  · intro u hu
    simp at hu
    subst hu
    exact hx1
  · intro v' w' h1 h2 _
    exact h v' w' h1 h2
theorem RM.cell {w wo u : World} {bs : Nat → Nat} {R : List (List Cl)} {i : Nat} {v : Value} {qs : List Rw} (h : RM w wo bs R i v qs) (hi : i < R.length) (g : wo.grownBy u (some (bs i))) (c o : Nat) (hc : c < w.heap.size) (hb : ∀ j, j < R.length → c ≠ bs j) : u.cell? ⟨c, o, none⟩ = w.cell? ⟨c, o, none⟩ :=
  World.cell?_of_block (a := ⟨c, o, none⟩) ((g.block c (Nat.lt_of_lt_of_le hc h.size) (fun e => by injection e with e; exact hb i hi e)).trans (h.block c hc hb))
set_option maxRecDepth 100000 in
set_option maxHeartbeats 1000000 in
theorem raised_any {w0 w : World} {a : Option Addr} {n k b : Nat} {rs : List Rw} {Cur : Array Value} {bs : Nat → Nat} (hI : RL w0 a n rs) (hB : Below w0.heap.size w0 w) (hlo : w0.heap.size ≤ b) (hbk : Bk w b Cur 56)
    (hrow : ∀ j, j < (Rws rs).length + 3 → b < bs j ∧ (∀ i, i < j → bs i < bs j) ∧ Cur[j]? = some (.slice (some ⟨bs j, 0, none⟩) ((Rws rs).getD j []).length (((Rws rs).getD j []).length + 3)) ∧ HRw w (bs j) ((Rws rs).getD j [])) :
    Calls Try.prog 14 #[.slice (some ⟨b, 0, none⟩) n (n + 3), .slice a n k] w fun e' w' => ∃ v qs, e' = .returned v ∧ RM w w' bs (Rws rs) n v qs := by
  obtain ⟨rfl, hn, hrc, hr⟩ := hI
  have hbl : b < w.heap.size := hbk.lt
  have RLn := Lib.hid (show (Rws rs).length = rs.length by simp [Rws])
  have INJ := Lib.hid (show ∀ i j, i < (Rws rs).length → j < (Rws rs).length → j ≠ i → bs j ≠ bs i from fun i j hi hj hne e => by
    rcases Nat.lt_or_gt_of_ne hne with q | q
    · have := (hrow i (by omega)).2.1 j q; omega
    · have := (hrow j (by omega)).2.1 i q; omega)
  have HR := Lib.hid hr
  have HC := Lib.hid hrc
  have HB := Lib.hid hbk
  have HW := Lib.hid hrow
  have BB := Lib.hid hB
  have HL := Lib.hid hlo
  have BS := Lib.hid (show ∀ j, j < (Rws rs).length → bs j < w.heap.size from fun j hj => (hrow j (by omega)).2.2.2.lt)
  clear hr hrc hbk hrow hB hlo
  go_enter Try.func14, Try.ntmps14
  go_wp2
  go_loopw [5, 6] (fun v t wr => ∃ (i : Nat) (qs : List Rw), i ≤ rs.length ∧ t = .int .i64 i ∧ RM w wr bs (Rws rs) i v qs) (fun _ t _ => rs.length - (intOf t).toNat)
  case atStart => exact ⟨0, [], by omega, rfl, RM.new (fun j hj => (HW.out j (by omega)).2.2.2)⟩
  case round =>
    rename World => wo
    obtain ⟨i, qs, hi, rfl, hS⟩ := hrel
    have SS := Lib.hid hS
    clear hS
    by_cases il : i < rs.length
    · have ic : (i : Int) < (rs.length : Int) := by omega
      have il' : i < (Rws rs).length := by rw [RLn.out]; exact il
      obtain ⟨hbi, _, hcur, _⟩ := HW.out i (by omega)
      rcases HR.out with h0 | ⟨g, o, rfl, hg, hc⟩
      · omega
      obtain ⟨r, hr⟩ : ∃ r, rs.getD i default = r := ⟨_, rfl⟩
      have hmem : r ∈ rs := by rw [← hr]; simp [List.getD, il]
      have hRi : (Rws rs).getD i [] = r.cs := by rw [← hr]; simp [Rws, List.getD, il]
      obtain ⟨⟨hcl, hcn, _, _⟩, _, _, _⟩ := HC.out r hmem
      rw [hRi, hcl] at hcur
      have C0 := Lib.hid (show ∀ u, wo.grownBy u (some (bs i)) → u.cell? ⟨g, o + i, none⟩ = some (.slice r.a r.n r.cap) from fun u hu => by
        rw [SS.out.cell il' hu g (o + i) (by have := BB.out.size; omega) (fun j hj => by have := (HW.out j (by omega)).1; have := HL.out; omega), BB.out.cell (p := ⟨g, o + i, none⟩) hg, hc i il, hr])
      have E0 := Lib.hid (show ∀ u, wo.grownBy u (some (bs i)) → u.cell? ⟨b, i, none⟩ = some (.slice (some ⟨bs i, 0, none⟩) r.n (r.n + 3)) from fun u hu => by
        rw [SS.out.cell il' hu b i hbl (fun j hj => by have := (HW.out j (by omega)).1; omega), HB.out.cell, hcur])
      have S4 := Lib.hid (show RI wo wo (bs i) r.cs i 0 (.slice none 0 0) from by
        have := SS.out.inn i il'
        rw [if_neg (by omega), hRi] at this
        exact RI.new i this)
      have HRI := Lib.hid hRi
      have HCL := Lib.hid hcl
      have bw : bs i < wo.heap.size := by have := BS.out i il'; have := SS.out.size; omega
      have BW := Lib.hid bw
      have wr1 : IntKind.i64.wrap (5 + (i : Int)) = 5 + (i : Int) := by simp [IntKind.wrap, IntKind.bits, IntKind.signed]; omega
      clear hc hr hmem hRi hcl hcur bw
      go_wp2
      go_loopw [7, 8] (fun x t wr => ∃ (k : Nat), k ≤ r.n ∧ t = .int .i64 k ∧ RI wo wr (bs i) r.cs i k x) (fun _ t _ => r.n - (intOf t).toNat)
      case atStart => exact ⟨0, by omega, rfl, S4.out⟩
      case round =>
        clear S4
        obtain ⟨k, hk, rfl, hT⟩ := hrel
        have TT := Lib.hid hT
        have c0 := C0.out wr hT.gr
        have OW3 := Lib.hid hT.row
        clear hT
        by_cases kl : k < r.n
        · have kc : (k : Int) < (r.n : Int) := by omega
          have kc3 : (k : Int) < (r.n : Int) + 3 := by omega
          have wr2 : IntKind.i64.wrap (5 + (i : Int) + (k : Int)) = 5 + (i : Int) + (k : Int) := by simp [IntKind.wrap, IntKind.bits, IntKind.signed]; omega
          go_wp2_with (at_builtin; refine wp_cell _ true (5 + (i : Int) + (k : Int)) rfl _ _ rfl wo.heap.size _ k _ rfl rfl OW3.out (by omega) TT.out.gr.size ?_; intro x' w4 h1' h2'; have O4 := Lib.hid h1'; have G4 := Lib.hid h2'; have M4 := Lib.hid (TT.out.mid BW.out _ h2'); clear h1' h2'; have e0 := E0.out _ M4.out.1; obtain ⟨cur, hck, hcs, _⟩ := M4.out.2; rw [mix_len, HCL.out] at hcs; obtain ⟨y0, d0⟩ := hck.some1 (k * 2) (by omega); obtain ⟨y1, d1⟩ := hck.some1 (k * 2 + 1) (by omega); have f0 := hck.frozen (k * 2); have f1 := hck.frozen (k * 2 + 1); clear hck hcs)
          go_roundw
          case rel => exact ⟨k + 1, by omega, by go_num, TT.out.next BW.out (by rw [HCL.out]; exact kl) _ G4.out O4.out⟩
          case measure => simp [intOf]; omega
        · obtain rfl : k = r.n := by omega
          obtain ⟨xa, xc, hx⟩ := own_sl OW3.out
          subst hx
          have LZ := Lib.hid (show wr.ownsRow w.heap.size 56 1 u5 i (qs.map sl) from SS.out.l.kept TT.out.gr (by
            cases hv : u5.ownBlock with
            | none => exact .inl rfl
            | some y => right; intro e; injection e with e; have := (SS.out.l.lt y hv).1; have := BS.out i il'; omega))
          go_wp2_with (at_builtin; refine wp_sl _ (.slice xa r.n xc) rfl rfl _ _ rfl w.heap.size _ i _ rfl rfl LZ.out (by omega) (Nat.le_trans SS.out.size TT.out.gr.size) ?_; intro v' w4 h1' h2'; have O4 := Lib.hid h1'; have G4 := Lib.hid h2'; clear h1' h2')
          go_roundw
          case rel =>
            obtain ⟨qs', hq⟩ := SS.out.next (m := r.n) il' BS.out (fun j hj hne => INJ.out i j il' hj hne) (by rw [HRI.out]; exact HCL.out) (by rw [HRI.out]; exact TT.out) _ G4.out O4.out
            exact ⟨i + 1, qs', by omega, by go_num, hq⟩
          case measure => simp [intOf]; omega
    · obtain rfl : i = rs.length := by omega
      obtain ⟨xa, xc, hx⟩ := own_sl SS.out.l
      subst hx
      go_wp2
      refine bodyPost_ret (v := .slice xa rs.length xc) (by simp [results, Try.results14, go_sem]) rfl ?_
      exact ⟨_, _, rfl, SS.out⟩
end Go.Proofs.Ytjlnbhmiahegmaa

namespace Go.Proofs.Ytjlnbhmiahegmaa
open Go.RowKit
set_option linter.unusedVariables false
set_option linter.unusedSimpArgs false

theorem rl_blocks {w : World} {b : Nat} {Cur : Array Value} {bs : Nat → Nat} {n : Nat} (R' : Nat → List Cl) (hbk : Bk w b Cur 56) (hn : n ≤ 5864062014635)
    (hcur : ∀ j, j < n → Cur[j]? = some (.slice (some ⟨bs j, 0, none⟩) (R' j).length ((R' j).length + 3))) (hrow : ∀ j, j < n → HRw w (bs j) (R' j)) (hl : ∀ j, j < n → (R' j).length ≤ 8796093021952) (hw : ∀ j, j < n → ∀ c ∈ R' j, (Lit.int .i64 c.v).wf = true) :
    ∃ ps, RL w (some ⟨b, 0, none⟩) n ps ∧ Rws ps = (List.range n).map R' := by
  refine ⟨(List.range n).map (fun j => ⟨some ⟨bs j, 0, none⟩, (R' j).length, (R' j).length + 3, R' j⟩), ⟨by simp, hn, fun r hr => ?_, .inr ⟨b, 0, rfl, hbk.lt, fun i hi => ?_⟩⟩, by simp [Rws]⟩
  · obtain ⟨j, hj, rfl⟩ := List.mem_map.1 hr
    have hj' := List.mem_range.1 hj
    have h1 := hrow j hj'
    have h2 := h1.lt
    obtain ⟨cur, q1, q2, q3⟩ := h1
    refine ⟨⟨rfl, hl j hj', hw j hj', .inr ⟨bs j, 0, rfl, h2, fun i hi => ?_⟩⟩, fun e => (by cases e), Nat.le_add_right _ _, by have := hl j hj'; show (R' j).length + 3 ≤ maxLen; unfold maxLen; omega⟩
    have q := q3 i (Nat.lt_of_lt_of_le hi (Nat.le_add_right _ _))
    rw [show dk (R' j) i = (R' j).getD i default by have hi' : i < (R' j).length := hi; simp only [dk, if_pos hi']] at q
    rw [Nat.zero_add]
    exact ⟨(q1.cell _).trans q.1, (q1.cell _).trans q.2⟩
  · rw [Nat.zero_add, hbk.cell, hcur i hi]
    simp [List.getD, hi]
theorem upRow_wf {i : Nat} {D : List Cl} (hi : i ≤ 5864062014635) (hD : D.length ≤ 8796093021952) : ∀ c ∈ upRow i D, (Lit.int .i64 c.v).wf = true := by
  intro c hc
  obtain ⟨j, hj, rfl⟩ := List.mem_map.1 hc
  have := List.mem_range.1 hj
  exact WalkArith.wf_i64 (by simp only [upc]; omega)
theorem ccs_cell {w : World} {g : Nat} {cur : Array Value} {e : TypeId} {n : Nat} {l : List Cl} (h : w.heap[g]? = some (.cells cur e (0, 0))) (hc : cur.toList.take (n * 2) = ccs l) (i : Nat) (hi : i < l.length) : CC w g (0 + i * 2) (l.getD i default) := by
  have hat : ∀ j (v : Value), (ccs l)[j]? = some v → cur[j]? = some v := fun j v hv => by
    have hj : j < (ccs l).length := (List.getElem?_eq_some_iff.1 hv).1
    rw [← hc] at hv hj
    rw [List.getElem?_take] at hv
    split at hv
    · simpa using hv
    · cases hv
  have q := ccs_at l i hi
  have hb : Bk w g cur e := h
  rw [Nat.zero_add]
  exact ⟨(hb.cell _).trans (hat _ _ q.1), (hb.cell _).trans (hat _ _ q.2)⟩
theorem RM.rl {w w1 w' : World} {bs : Nat → Nat} {R : List (List Cl)} {n : Nat} {va : Option Addr} {vc : Nat} {qs : List Rw} (h : RM w w1 bs R n (.slice va n vc) qs) (hk : ∀ k, w.heap.size ≤ k → k < w1.heap.size → w'.heap[k]? = w1.heap[k]?) (hn : n ≤ 5864062014635) (hR : R.length = n) (hl : ∀ j, j < n → (R.getD j []).length ≤ 8796093021952) :
    RL w' va n qs ∧ Rws qs = upR R := by
  have hq : ∀ r ∈ qs, ∃ j, j < n ∧ qs.getD j default = r := fun r hr => by
    obtain ⟨j, hj, rfl⟩ := List.mem_iff_getElem.1 hr
    exact ⟨j, by rw [← h.ql]; exact hj, by simp [List.getD, hj]⟩
  refine ⟨⟨h.ql, hn, fun r hr => ?_, ?_⟩, ?_⟩
  · obtain ⟨j, hj, rfl⟩ := hq r hr
    obtain ⟨q1, q2, q3⟩ := h.rows j hj
    have wf := upRow_wf (i := j) (D := R.getD j []) (by omega) (hl j hj)
    have ll := hl j hj
    generalize qs.getD j default = r at q1 q2 q3
    obtain ⟨ra, rn, rc, rcs⟩ := r
    simp only at q1 q2
    subst q1 q2
    rcases q3.2 with ⟨e, e0⟩ | ⟨g, cap, cur, e, hbg, hg0, h1, h2, h3, h4⟩
    · simp only [sl] at e
      injection e with e1 e2 e3
      subst e1 e3
      refine ⟨⟨by simp [upRow_len], by omega, wf, .inl e0⟩, fun _ => ⟨e0, rfl⟩, ?_, Nat.zero_le _⟩
      show (R.getD j []).length ≤ 0
      omega
    · simp only [sl] at e
      injection e with e1 e2 e3
      subst e1 e3
      have hg := (hk g hbg (Array.getElem?_eq_some_iff.1 hg0).1).trans hg0
      refine ⟨⟨upRow_len _ _, ll, wf, .inr ⟨g, 0, rfl, (Array.getElem?_eq_some_iff.1 hg).1, fun i hi => ccs_cell hg h4 i (by rw [upRow_len]; exact hi)⟩⟩, fun e => (by cases e), h1, h2⟩
  · rcases h.l.2 with ⟨e, e0⟩ | ⟨g, cap, cur, e, hbg, hg0, h1, h2, h3, h4⟩
    · exact .inl e0
    · injection e with e1 e2 e3
      subst e1
      have hg := (hk g hbg (Array.getElem?_eq_some_iff.1 hg0).1).trans hg0
      refine .inr ⟨g, 0, rfl, (Array.getElem?_eq_some_iff.1 hg).1, fun i hi => ?_⟩
      have hb : Bk w' g cur 56 := hg
      rw [Nat.zero_add, hb.cell]
      have hi' : i < qs.length := by rw [h.ql]; exact hi
      have : (cur.toList.take (n * 1))[i]? = some (sl (qs.getD i default)) := by rw [h4]; simp [List.getD, hi']
      rw [List.getElem?_take] at this
      split at this
      · simpa [sl] using this
      · cases this
  · apply List.ext_getElem
    · simp [Rws, upR, h.ql, hR]
    · intro j h1 h2
      have hj : j < n := by simpa [upR, hR] using h2
      have hj' : j < qs.length := by rw [h.ql]; exact hj
      have := (h.rows j hj).1
      simp only [List.getD, List.getElem?_eq_getElem hj', Option.getD_some] at this
      simp only [Rws, upR, List.getElem_map, List.getElem_range]
      exact this
/-- A block of numbers. -/
def IB (w : World) (g : Nat) (C : List Int) : Prop := ∃ cur, Bk w g cur 3 ∧ C.length ≤ cur.size ∧ ∀ i, i < C.length → cur[i]? = some (.int .i64 (C.getD i 0))
theorem IB.keep {w w' : World} {g : Nat} {C : List Int} (h : IB w g C) (hw : w'.heap[g]? = w.heap[g]?) : IB w' g C := by
  obtain ⟨cur, h1, h2⟩ := h; exact ⟨cur, hw.trans h1, h2⟩
theorem IB.lt {w : World} {g : Nat} {C : List Int} (h : IB w g C) : g < w.heap.size := by obtain ⟨_, h1, _⟩ := h; exact h1.lt
theorem IB.il {w : World} {g : Nat} {C : List Int} (h : IB w g C) (hn : C.length ≤ 17592186043904) (hC : ∀ x ∈ C, inR x) : IL w (some ⟨g, 0, none⟩) C.length C := by
  have hl := h.lt
  obtain ⟨cur, h2, h3, h4⟩ := h
  refine ⟨rfl, hn, hC, .inr ⟨g, 0, rfl, hl, fun i hi => ?_⟩⟩
  rw [Nat.zero_add, h2.cell]; exact h4 i hi
theorem IB.put {w : World} {g : Nat} {C : List Int} (h : IB w g C) (i : Nat) (hi : i < C.length) (x : Int) : IB (w.setCell ⟨g, i, none⟩ (.int .i64 x)) g (C.set i x) := by
  obtain ⟨cur, h1, h2, h3⟩ := h
  refine ⟨cur.set i (.int .i64 x) (by omega), h1.set i _ (by omega), by simpa using h2, fun j hj => ?_⟩
  rw [List.length_set] at hj
  by_cases e : j = i
  · subst e; simp [List.getD, hi, show j < cur.size by omega]
  · rw [Array.getElem?_set_ne _ (fun q => e q.symm), h3 j hj]
    simp only [List.getD]
    rw [List.getElem?_set_ne (fun q => e q.symm)]
theorem IO.ib {w : World} {lo b : Nat} {C : List Int} (h : IO w lo b C) : IB w b C := by
  obtain ⟨_, cur, h2, h3, h4, _⟩ := h
  exact ⟨cur, h2, by omega, h4⟩
def mixI (i : Nat) (C : List Int) : List Int := (List.range C.length).map (fun j => if j < i then 3 + (j : Int) else C.getD j 0)
theorem mixI_len (i : Nat) (C : List Int) : (mixI i C).length = C.length := by simp [mixI]
theorem mixI_zero (C : List Int) : mixI 0 C = C := by
  apply List.ext_getElem
  · simp [mixI]
  · intro j h1 h2; simp [mixI, List.getD, h2]
theorem mixI_next (i : Nat) (C : List Int) (hi : i < C.length) : mixI (i + 1) C = (mixI i C).set i (3 + (i : Int)) := by
  apply List.ext_getElem
  · simp [mixI]
  · intro j h1 h2
    rw [List.getElem_set]
    simp only [mixI, List.getElem_map, List.getElem_range]
    by_cases e : i = j
    · subst e; simp
    · rw [if_neg e]
      by_cases l : j < i
      · rw [if_pos l, if_pos (by omega)]
      · rw [if_neg l, if_neg (by omega)]
theorem mixI_in (C : List Int) (hn : C.length ≤ 17592186043904) : ∀ x ∈ mixI C.length C, inR x := by
  intro x hx
  obtain ⟨j, hj, rfl⟩ := List.mem_map.1 hx
  have := List.mem_range.1 hj
  rw [if_pos this]
  unfold inR; omega
/-- All but two blocks stays. -/
structure K2 (W wr : World) (g b : Nat) : Prop where
  os : wr.os = W.os
  tape : wr.tape = W.tape
  output : wr.output = W.output
  size : W.heap.size ≤ wr.heap.size
  block : ∀ c, c ≠ g → c ≠ b → c < W.heap.size → wr.heap[c]? = W.heap[c]?
theorem K2.refl (W : World) (g b : Nat) : K2 W W g b := ⟨rfl, rfl, rfl, Nat.le_refl _, fun _ _ _ _ => rfl⟩
/-- While the numbers are written over. -/
structure LI (W wr : World) (g b : Nat) (C : List Int) (i : Nat) : Prop where
  k : K2 W wr g b
  o : IB wr g (mixI i C)
  c : IB wr b (mixI i C)
theorem LI.next {W wr : World} {g b : Nat} {C : List Int} {i : Nat} (h : LI W wr g b C i) (hi : i < C.length) (hne : g ≠ b) :
    LI W ((wr.setCell ⟨g, i, none⟩ (.int .i64 (3 + (i : Int)))).setCell ⟨b, i, none⟩ (.int .i64 (3 + (i : Int)))) g b C (i + 1) := by
  refine ⟨⟨h.k.os, h.k.tape, h.k.output, by have := h.k.size; simpa [World.setCell] using this, fun c h1 h2 hc => ?_⟩, ?_, ?_⟩
  · rw [heap_set_other _ _ _ _ _ (Ne.symm h2), heap_set_other _ _ _ _ _ (Ne.symm h1)]; exact h.k.block c h1 h2 hc
  · rw [mixI_next i C hi]
    exact (h.o.put i (by rw [mixI_len]; exact hi) _).keep (heap_set_other _ _ _ _ _ (Ne.symm hne))
  · rw [mixI_next i C hi]
    exact (h.c.keep (heap_set_other _ _ _ _ _ hne)).put i (by rw [mixI_len]; exact hi) _
end Go.Proofs.Ytjlnbhmiahegmaa

namespace Go.Proofs.Ytjlnbhmiahegmaa
open Go.RowKit
set_option linter.unusedVariables false
set_option linter.unusedSimpArgs false

theorem Bk.four {w : World} {b : Nat} {v0 v1 v2 v3 : Value} {t : TypeId} (h : Bk w b #[v0, v1, v2, v3] t) : w.cell? ⟨b, 0, none⟩ = some v0 ∧ w.cell? ⟨b, 1, none⟩ = some v1 ∧ w.cell? ⟨b, 2, none⟩ = some v2 ∧ w.cell? ⟨b, 3, none⟩ = some v3 :=
  ⟨h.cell 0, h.cell 1, h.cell 2, h.cell 3⟩
theorem rl_inR {w : World} {a : Option Addr} {n : Nat} {rs : List Rw} (h : RL w a n rs) : ∀ r ∈ Rws rs, ∀ c ∈ r, inR c.v := by
  intro r hr c hc
  obtain ⟨q, hq, rfl⟩ := List.mem_map.1 hr
  exact wf_inR ((h.2.2.1 q hq).1.2.2.1 c hc)
theorem rws_range (rs : List Rw) : (List.range rs.length).map (fun j => (Rws rs).getD j []) = Rws rs := by
  apply List.ext_getElem
  · simp [Rws]
  · intro j h1 h2
    have : j < rs.length := by simpa using h1
    simp [Rws, List.getD, this]
theorem il_news {w : World} {a : Option Addr} {n : Nat} {C : List Int} (h : IL w a n C) : ∀ x, a = some x → ∀ j u, (C.map (Value.int .i64))[j]? = some u → w.cell? (x.add j) = some u := by
  intro x e j u hj
  obtain ⟨h1, _, _, h4⟩ := h
  have hjl : j < C.length := by have := (List.getElem?_eq_some_iff.1 hj).1; simpa using this
  rcases h4 with h4 | ⟨b, o, rfl, hb, hc⟩
  · omega
  · injection e with e; subst e
    rw [Go.Addr.add_lit, hc j (by omega)]
    rw [List.getElem?_map, List.getElem?_eq_getElem hjl] at hj
    simp at hj
    simp [List.getD, hjl, hj]
/-- 'append([]int{}, cells...)'. -/
theorem wp_ints {ops : Array Oper} {rest : List Oper} {o : Oper} {a : Act} {Q : Exit → Act → World → Prop} (w : World) (ad : Option Addr) (n cap : Nat) (C : List Int) (hI : IL w ad n C) (hn0 : ad = none → cap = 0)
    (hgd : o.guard = none) (s x : Operand) (ho : o.op = .call { callee := .builtin .append, args := #[s, x], argTypes := #[26, 26] }) (hs : a.eval s = .slice (some ⟨w.heap.size, 0, none⟩) 0 0) (hx : a.eval x = .slice ad n cap)
    (h : ∀ v' w', w'.ownsRow w.heap.size 3 1 v' n (C.map (Value.int .i64)) → Below w.heap.size w w' → wpList Try.prog ops Q rest (a.put o.dst v') w') : wpList Try.prog ops Q (o :: rest) a (w.alloc (.cells #[] 3)) := by
  obtain ⟨i0, hi, hz0, hz1, hz2⟩ := info_parts infoI
  have hown : (w.alloc (.cells #[] 3)).ownsRow w.heap.size 3 1 (.slice (some ⟨w.heap.size, 0, none⟩) 0 0) 0 [] := World.ownsRow_lit w #[] 0 (Nat.le_refl _) (by unfold maxLen; omega) rfl
  have hB : Below w.heap.size w (w.alloc (.cells #[] 3)) := (Below.refl _ _).alloc (Nat.le_refl _) _
  have hIL := hI.later hB
  cases ad with
  | none =>
    have hc := hn0 rfl
    subst hc
    obtain ⟨h1, h2, h3, h4⟩ := hI
    have : n = 0 := by
      rcases h4 with h4 | ⟨g, o, e, _⟩
      · exact h4
      · cases e
    subst this
    obtain rfl : C = [] := List.length_eq_zero_iff.1 h1
    exact wpList_append_own_none hgd s x 26 ho w.heap.size 3 i0 1 Try.underlying26 hi _ 0 [] hs hown hx (h _ _ hown hB)
  | some x1 =>
    refine wpList_append_own _ hgd s x 26 ho w.heap.size 3 i0 _ 1 8 Try.underlying26 hi hz0 hz1 hz2 rfl (by decide) _ 0 [] hs hown x1 n cap (C.map (Value.int .i64)) hx (by simp [hI.1]) (il_news hIL x1 rfl) ?_ (by have := hI.2.1; unfold maxLen; omega) (by have := hI.2.1; omega) (by simp) (fun v' w' h1 h2 _ => ?_)
    · intro u hu
      obtain ⟨y, _, rfl⟩ := List.mem_map.1 hu
      rfl
    · rw [Nat.zero_add, List.nil_append] at h1
      exact h v' w' h1 (hB.grown h2 (by simp) (fun k e => by simp [Value.ownBlock] at e; omega))
theorem own_ib {w : World} {B : Nat} {v : Value} {C : List Int} {n : Nat} (h : w.ownsRow B 3 1 v n (C.map (Value.int .i64))) (h0 : 0 < n) : ∃ g cap, v = .slice (some ⟨g, 0, none⟩) n cap ∧ B ≤ g ∧ IB w g C := by
  have hl : C.length = n := by have := h.1; simpa using this
  rcases h.2 with ⟨_, e⟩ | ⟨g, cap, cur, rfl, hb, hg, h1, h2, h3, h4⟩
  · omega
  · refine ⟨g, cap, rfl, hb, cur, hg, by omega, fun i hi => ?_⟩
    have : (cur.toList.take (n * 1))[i]? = some (.int .i64 (C.getD i 0)) := by rw [h4]; simp [List.getD, hi]
    rw [List.getElem?_take] at this
    split at this
    · simpa using this
    · cases this
theorem lvalue_is {w0 : World} {e : Xt} {vs : List Value} (hE : XV w0 e vs) {ra ca : Option Addr} {rn rc cn cc : Nat} {rs : List Rw} {C : List Int} {r : Int × Int} {R : List (List Cl)} (hR : Rws rs = R) (hN : e.n ≤ 1048576)
    (w : World) (hB : Below w0.heap.size w0 w) (hrl : RL w ra rn rs) (hil : IL w ca cn C) (hr : e.val R C = r) :
      Calls Try.prog 9 #[.agg vs.toArray, .slice ra rn rc, .slice ca cn cc] w fun e' w' => e' = .returned (.tuple #[.int .i64 r.1, .int .i64 r.2]) ∧ Below w.heap.size w w' := by
  subst hr hR
  exact lvalue_any hE (rl_inR hrl) hN w hB hrl hil
theorem rvalue_is {w0 : World} {e : Xt} {vs : List Value} (hE : XV w0 e vs) {ra ca : Option Addr} {rn rc cn cc : Nat} {rs : List Rw} {C : List Int} {r : Int × Int} {R : List (List Cl)} (hR : Rws rs = R)
    (w : World) (hB : Below w0.heap.size w0 w) (hrl : RL w ra rn rs) (hil : IL w ca cn C) (hr : e.val R C = r) :
      Calls Try.prog 10 #[.agg vs.toArray, .slice ra rn rc, .slice ca cn cc] w fun e' w' => e' = .returned (.tuple #[.int .i64 r.1, .int .i64 r.2]) ∧ Below w.heap.size w w' := by
  subst hr hR
  exact rvalue_any hE (rl_inR hrl) w hB hrl hil
set_option maxRecDepth 100000 in
set_option maxHeartbeats 4000000 in
theorem legsValues_walk {e : Xt} {vs : List Value} (w : World) (hE : XV w e vs) {ra ca : Option Addr} {rn rc cn cc : Nat} {rs : List Rw} {C : List Int} (hR : RL w ra rn rs) (hC : IL w ca cn C) (hc0 : ca = none → cc = 0) :
    Calls Try.prog 3 #[.agg vs.toArray, .slice ra rn rc, .slice ca cn cc] w fun e' w' => e' = .returned (.bool true) ∧ Below w.heap.size w w' := by
  have HE := Lib.hid hE
  obtain ⟨v0, v1, v2, v3, hv⟩ := hE.four
  subst hv
  obtain ⟨w0, hw0⟩ : ∃ w0, w.alloc (.cells #[v0, v1, v2, v3] 24) = w0 := ⟨_, rfl⟩
  have X0 := Lib.hid (NB.is hw0)
  have HW0 := Lib.hid hw0
  have HRL := Lib.hid hR
  have HIL := Lib.hid hC
  have HC0 := Lib.hid hc0
  obtain ⟨c0, c1, c2, c3⟩ := X0.out.2.four
  clear hE hw0 hR hC hc0
  go_enter Try.func3, Try.ntmps3
  go_wp2_with fail
  rw [HW0.out]
  clear HW0
  go_wp2_with fail
  go_at_call 5
  refine (few_any HE.out w0 X0.out.1).mono ?_
  rintro e' w1 ⟨bf, rfl, hfew, b1⟩
  have FW := Lib.hid hfew.out
  have BW1 := Lib.hid (X0.out.1.trans (b1.mono X0.out.1.size))
  have E1 := Lib.hid (X0.out.2.below b1 X0.out.2.lt)
  clear hfew b1 c0 c1 c2 c3
  cases bf with
  | false =>
    go_wp2
    exact bodyPost_ret (v := .bool true) (by simp [results, Try.results3, go_sem]) rfl ⟨rfl, BW1.out⟩
  | true =>
    have HN := Lib.hid (FW.out rfl)
    obtain ⟨c0, c1, c2, c3⟩ := E1.out.four
    clear FW
    go_wp2_with fail
    go_at_call 6
    refine (handX_any HE.out w1 BW1.out HN.out).mono ?_
    rintro e' w2 ⟨xs, rfl, hx2, b2⟩
    obtain ⟨x0, x1, x2, x3, x4, x5, hxf⟩ := hx2.form
    subst hxf
    obtain ⟨wb, hwb⟩ : ∃ wb, w2.alloc (.cells #[.int .i64 x0, .int .i64 x1, .int .i64 x2, .slice x3 x4 x5] 24) = wb := ⟨_, rfl⟩
    have XB := Lib.hid (NB.is hwb)
    have BW := Lib.hid (show Below w.heap.size w wb from (BW1.out.trans (b2.mono BW1.out.size)).trans (XB.out.1.mono (Nat.le_trans BW1.out.size b2.size)))
    have EB := Lib.hid (show Bk wb w.heap.size #[v0, v1, v2, v3] 24 from (E1.out.below b2 E1.out.lt).below XB.out.1 (Nat.lt_of_lt_of_le E1.out.lt b2.size))
    have HX := Lib.hid (hx2.later XB.out.1)
    clear hx2 b2 c0 c1 c2 c3
    go_wp2_with fail
    clear hwb
    go_at_call 7
    refine (handRows_any (HRL.out.later BW.out)).mono ?_
    rintro e' w3 ⟨b, rfl, hro, b3⟩
    have RO3 := Lib.hid hro
    have B3 := Lib.hid b3
    have BW3 := Lib.hid (BW.out.trans (b3.mono BW.out.size))
    clear hro b3
    go_wp2_with fail
    go_at_call 8
    refine (handInts_any (HIL.out.later BW3.out)).mono ?_
    rintro e' w4 ⟨bc, rfl, hio, b4⟩
    have IO4 := Lib.hid hio
    have B4 := Lib.hid b4
    have BB4 := Lib.hid (B3.out.trans (b4.mono B3.out.size))
    have BW4 := Lib.hid (BW3.out.trans (b4.mono BW3.out.size))
    have RO4 := Lib.hid (RO3.out.later b4)
    clear hio b4
    obtain ⟨c0, c1, c2, c3⟩ := (XB.out.2.below BB4.out XB.out.2.lt).four
    have hrn := HRL.out.1
    have hcn := HIL.out.1
    subst hrn hcn
    obtain ⟨ps, hps, hpr⟩ : ∃ ps, RL w4 (some ⟨b, 0, none⟩) rs.length ps ∧ Rws ps = Rws rs := by
      obtain ⟨_, Cur, bs, h2, h3, h4⟩ := RO4.out
      have hl : (Rws rs).length = rs.length := by simp [Rws]
      have hm : ∀ j, j < rs.length → ∃ r ∈ rs, (Rws rs).getD j [] = r.cs := fun j hj => ⟨rs[j], List.getElem_mem hj, by simp [Rws, List.getD, hj]⟩
      obtain ⟨ps, q1, q2⟩ := rl_blocks (n := rs.length) (fun j => (Rws rs).getD j []) h2 HRL.out.2.1 (fun j hj => (h4 j (by omega)).2.2.1) (fun j hj => (h4 j (by omega)).2.2.2) (fun j hj => by
        obtain ⟨r, hr, e⟩ := hm j hj
        rw [e, (HRL.out.2.2.1 r hr).1.1]; exact (HRL.out.2.2.1 r hr).1.2.1) (fun j hj => by
        obtain ⟨r, hr, e⟩ := hm j hj
        rw [e]; exact (HRL.out.2.2.1 r hr).1.2.2.1)
      exact ⟨ps, q1, q2.trans (rws_range rs)⟩
    have HPS := Lib.hid hps
    have HPR := Lib.hid hpr
    clear hps hpr
    obtain ⟨⟨r1, r2⟩, hr⟩ : ∃ r, e.val (Rws rs) C = r := ⟨_, rfl⟩
    have HV := Lib.hid hr
    clear hr
    go_wp2_with fail
    go_at_call 9
    refine (lvalue_is HX.out.xv HPR.out HN.out w4 BB4.out HPS.out (IO4.out.il HIL.out.2.1 HIL.out.2.2.1) HV.out).mono ?_
    rintro e' w5 ⟨rfl, b5⟩
    have B5 := Lib.hid b5
    have BW5 := Lib.hid (BW4.out.trans (b5.mono BW4.out.size))
    clear b5 c0 c1 c2 c3
    obtain ⟨c0, c1, c2, c3⟩ := (EB.out.below (BB4.out.trans (B5.out.mono BB4.out.size)) EB.out.lt).four
    go_wp2_with fail
    go_at_call 10
    refine (rvalue_is HE.out rfl w5 BW5.out (HRL.out.later BW5.out) (HIL.out.later BW5.out) HV.out).mono ?_
    rintro e' w6 ⟨rfl, b6⟩
    have B6 := Lib.hid (B5.out.trans (b6.mono B5.out.size))
    have BW6 := Lib.hid (BW5.out.trans (b6.mono BW5.out.size))
    clear b6 c0 c1 c2 c3
    obtain ⟨c0, c1, c2, c3⟩ := (EB.out.below (BB4.out.trans (B6.out.mono BB4.out.size)) EB.out.lt).four
    obtain ⟨d0, d1, d2, d3⟩ := (XB.out.2.below (BB4.out.trans (B6.out.mono BB4.out.size)) XB.out.2.lt).four
    go_wp2_with fail
    go_at_call 11
    refine (keptX_any HE.out w6 w1.heap.size _ BW6.out ((HX.out.later BB4.out).later B6.out)).mono ?_
    rintro e' w7 ⟨rfl, b7⟩
    have B7 := Lib.hid (B6.out.trans (b7.mono B6.out.size))
    have BW7 := Lib.hid (BW6.out.trans (b7.mono BW6.out.size))
    clear b7 c0 c1 c2 c3 d0 d1 d2 d3
    go_wp2_with fail
    go_at_call 12
    refine (keptRows_any (HRL.out.later BW7.out) (RO4.out.later B7.out)).mono ?_
    rintro e' w8 ⟨rfl, b8⟩
    have B8 := Lib.hid (B7.out.trans (b8.mono B7.out.size))
    have BW8 := Lib.hid (BW7.out.trans (b8.mono BW7.out.size))
    clear b8
    go_wp2_with fail
    go_at_call 13
    refine (keptInts_any (HIL.out.later BW8.out) (IO4.out.later B8.out)).mono ?_
    rintro e' w9 ⟨rfl, b9⟩
    have B9 := Lib.hid (B8.out.trans (b9.mono B8.out.size))
    have BW9 := Lib.hid (BW8.out.trans (b9.mono BW8.out.size))
    clear b9
    go_wp2_with fail
    obtain ⟨hb0, Cur, bs, hbk3, hsz3, hrow3⟩ := RO3.out
    have B39 := Lib.hid (show Below w3.heap.size w3 w9 from B4.out.trans (B9.out.mono B4.out.size))
    have HBK := Lib.hid (show Bk w9 b Cur 56 from hbk3.below B39.out hbk3.lt)
    have HROW := Lib.hid (show ∀ j, j < (Rws rs).length + 3 → b < bs j ∧ (∀ i, i < j → bs i < bs j) ∧ Cur[j]? = some (.slice (some ⟨bs j, 0, none⟩) ((Rws rs).getD j []).length (((Rws rs).getD j []).length + 3)) ∧ HRw w9 (bs j) ((Rws rs).getD j []) from fun j hj => ⟨(hrow3 j hj).1, (hrow3 j hj).2.1, (hrow3 j hj).2.2.1, (hrow3 j hj).2.2.2.keep (B39.out.block _ (hrow3 j hj).2.2.2.lt)⟩)
    have BSL := Lib.hid (show ∀ j, j < (Rws rs).length + 3 → bs j < w3.heap.size from fun j hj => (hrow3 j hj).2.2.2.lt)
    have HB0 := Lib.hid (show wb.heap.size ≤ b ∧ b < w3.heap.size from ⟨hb0, hbk3.lt⟩)
    have RLn := Lib.hid (show (Rws rs).length = rs.length by simp [Rws])
    have IC := Lib.hid (show w3.heap.size ≤ bc ∧ bc < w9.heap.size ∧ IB w9 bc C from ⟨IO4.out.1, (IO4.out.later B9.out).lt, (IO4.out.later B9.out).ib⟩)
    have RLL := Lib.hid (show ∀ j, j < rs.length → ((Rws rs).getD j []).length ≤ 8796093021952 from fun j hj => by
      rw [show (Rws rs).getD j [] = rs[j].cs by simp [Rws, List.getD, hj], (HRL.out.2.2.1 rs[j] (List.getElem_mem hj)).1.1]
      exact (HRL.out.2.2.1 rs[j] (List.getElem_mem hj)).1.2.1)
    clear hb0 hbk3 hsz3 hrow3
    go_at_call 14
    refine (raised_any HRL.out BW9.out (Nat.le_trans BW.out.size HB0.out.1) HBK.out HROW.out).mono ?_
    rintro e' wa ⟨v, qs, rfl, hrm⟩
    obtain ⟨va, vc, hva⟩ := own_sl hrm.l
    subst hva
    have KA := Lib.hid (show ∀ c, c < w9.heap.size → (∀ j, j < rs.length → c ≠ bs j) → wa.heap[c]? = w9.heap[c]? from fun c hc hcb => hrm.block c hc (fun j hj => hcb j (by rw [← RLn.out]; exact hj)))
    have NB1 := Lib.hid (show ∀ j, j < rs.length → b < bs j ∧ bs j < w3.heap.size from fun j hj => ⟨(HROW.out j (by have := RLn.out; omega)).1, BSL.out j (by have := RLn.out; omega)⟩)
    have BAA := Lib.hid (show Below wb.heap.size wb wa from by
      have q := BB4.out.trans (B9.out.mono BB4.out.size)
      exact ⟨hrm.os.trans q.os, hrm.tape.trans q.tape, hrm.output.trans q.output, Nat.le_trans q.size hrm.size, fun k hk => (KA.out k (Nat.lt_of_lt_of_le hk q.size) (fun j hj => by have := (NB1.out j hj).1; have := HB0.out.1; omega)).trans (q.block k hk)⟩)
    have BWA := Lib.hid (show Below w.heap.size w wa from BW.out.trans (BAA.out.mono BW.out.size))
    have ICA := Lib.hid (show IB wa bc C from IC.out.2.2.keep (KA.out bc IC.out.2.1 (fun j hj => by have := (NB1.out j hj).2; have := IC.out.1; omega)))
    have BKA := Lib.hid (show Bk wa b Cur 56 from (KA.out b HBK.out.lt (fun j hj => by have := (NB1.out j hj).1; omega)).trans HBK.out)
    have INA := Lib.hid (show ∀ j, j < rs.length → HRw wa (bs j) (upRow j ((Rws rs).getD j [])) from fun j hj => by
      have := hrm.inn j (by rw [RLn.out]; exact hj)
      rwa [if_pos hj] at this)
    have S9A := Lib.hid hrm.size
    have HRM := Lib.hid hrm
    clear hrm
    go_wp2_with (at_builtin; refine wp_ints wa ca C.length cc C (HIL.out.later BWA.out) HC0.out rfl _ _ rfl rfl rfl ?_; intro v' wc h1' h2'; obtain ⟨oa, oc, hoa⟩ := own_sl h1'; subst hoa; have OC := Lib.hid h1'; have BC := Lib.hid h2'; clear h1' h2')
    obtain ⟨g, hg1, hg2⟩ : ∃ g, wa.heap.size ≤ g ∧ (0 < C.length → oa = some ⟨g, 0, none⟩ ∧ IB wc g C) := by
      by_cases h0 : 0 < C.length
      · obtain ⟨g, cap, e, h1, h2⟩ := own_ib OC.out h0
        injection e with e1
        exact ⟨g, h1, fun _ => ⟨e1, h2⟩⟩
      · exact ⟨wa.heap.size, Nat.le_refl _, fun q => absurd q h0⟩
    have HG := Lib.hid hg2
    have HG1 := Lib.hid hg1
    have CN := HIL.out.2.1
    have HNE := Lib.hid (show g ≠ bc from by have := IC.out.2.1; have := S9A.out; omega)
    have ICC := Lib.hid (show IB wc bc C from ICA.out.keep (BC.out.block bc (Nat.lt_of_lt_of_le IC.out.2.1 S9A.out)))
    clear hg2 hg1
    go_loopw [19] (fun t wr => ∃ i : Nat, i ≤ C.length ∧ t = .int .i64 i ∧ K2 wc wr g bc ∧ (0 < C.length → LI wc wr g bc C i)) (fun t _ => C.length - (intOf t).toNat)
    case atStart => exact ⟨0, by omega, rfl, K2.refl _ _ _, fun h0 => ⟨K2.refl _ _ _, by rw [mixI_zero]; exact (HG.out h0).2, by rw [mixI_zero]; exact ICC.out⟩⟩
    case round =>
      obtain ⟨i, hi, rfl, hK, hL⟩ := hrel
      have HK := Lib.hid hK
      have HL := Lib.hid hL
      clear hK hL
      by_cases il : i < C.length
      · have ic : (i : Int) < (C.length : Int) := by omega
        obtain ⟨rfl, _⟩ := HG.out (by omega)
        obtain ⟨cur, q1, q2, q3⟩ := (HL.out (by omega)).o
        obtain ⟨cur', p1, p2, p3⟩ := (HL.out (by omega)).c
        rw [mixI_len] at q2 p2
        obtain ⟨y0, d0⟩ := q1.some1 i (by omega)
        obtain ⟨y1, d1⟩ := p1.some1 i (by omega)
        have f0 := q1.frozen i
        have f1 := p1.frozen i
        have n1 : ¬ g = bc := HNE.out
        have n2 : ¬ bc = g := fun e => HNE.out e.symm
        have wr1 : IntKind.i64.wrap (3 + (i : Int)) = 3 + (i : Int) := by simp [IntKind.wrap, IntKind.bits, IntKind.signed]; omega
        have ic3 : (i : Int) < (C.length : Int) + 3 := by omega
        clear q1 q2 q3 p1 p2 p3
        go_wp2
        go_roundw
        case rel => exact ⟨i + 1, by omega, by go_num, ((HL.out (by omega)).next il HNE.out).k, fun h0 => (HL.out h0).next il HNE.out⟩
        case measure => simp [intOf]; omega
      · obtain rfl : i = C.length := by omega
        have LL := Lib.hid (show mixI C.length C = [] ∧ C.length = 0 ∨ 0 < C.length ∧ LI wc wr g bc C C.length from by
          by_cases h0 : 0 < C.length
          · exact .inr ⟨h0, HL.out h0⟩
          · exact .inl ⟨List.length_eq_zero_iff.1 (by rw [mixI_len]; omega), by omega⟩)
        have KC := Lib.hid (show ∀ c, c < wa.heap.size → c ≠ bc → wr.heap[c]? = wa.heap[c]? from fun c hc hcb => (HK.out.block c (by have := HG1.out; omega) hcb (Nat.lt_of_lt_of_le hc BC.out.size)).trans (BC.out.block c hc))
        have BR := Lib.hid (show Below wb.heap.size wb wr from ⟨HK.out.os.trans (BC.out.os.trans BAA.out.os), HK.out.tape.trans (BC.out.tape.trans BAA.out.tape), HK.out.output.trans (BC.out.output.trans BAA.out.output), Nat.le_trans BAA.out.size (Nat.le_trans BC.out.size HK.out.size), fun k hk => (KC.out k (Nat.lt_of_lt_of_le hk BAA.out.size) (by have := IC.out.1; have := B3.out.size; omega)).trans (BAA.out.block k hk)⟩)
        have BWR := Lib.hid (BW.out.trans (BR.out.mono BW.out.size))
        have ILC := Lib.hid (show IL wr (some ⟨bc, 0, none⟩) C.length (mixI C.length C) from by
          rcases LL.out with ⟨e1, e2⟩ | ⟨h0, hL⟩
          · rw [e1, e2]; exact ⟨rfl, by omega, (fun x hx => by cases hx), .inl rfl⟩
          · have := hL.c.il (by rw [mixI_len]; exact CN) (mixI_in C CN)
            rwa [mixI_len] at this)
        have ILO := Lib.hid (show IL wr oa C.length (mixI C.length C) from by
          rcases LL.out with ⟨e1, e2⟩ | ⟨h0, hL⟩
          · rw [e1, e2]; exact ⟨rfl, by omega, (fun x hx => by cases hx), .inl rfl⟩
          · have := hL.o.il (by rw [mixI_len]; exact CN) (mixI_in C CN)
            rw [mixI_len] at this
            rw [(HG.out h0).1]; exact this)
        obtain ⟨ps', hps', hpr'⟩ : ∃ ps', RL wr (some ⟨b, 0, none⟩) rs.length ps' ∧ Rws ps' = upR (Rws rs) := by
          have bl : b < wa.heap.size := BKA.out.lt
          obtain ⟨ps', q1, q2⟩ := rl_blocks (n := rs.length) (fun j => upRow j ((Rws rs).getD j [])) ((KC.out b bl (by have := HB0.out.2; have := IC.out.1; omega)).trans BKA.out) HRL.out.2.1
            (fun j hj => by rw [upRow_len]; exact (HROW.out j (by have := RLn.out; omega)).2.2.1)
            (fun j hj => (INA.out j hj).keep (KC.out (bs j) (INA.out j hj).lt (by have := (NB1.out j hj).2; have := IC.out.1; omega)))
            (fun j hj => by rw [upRow_len]; exact RLL.out j hj) (fun j hj => upRow_wf (by have := HRL.out.2.1; omega) (RLL.out j hj))
          exact ⟨ps', q1, by rw [q2]; simp only [upR, RLn.out]⟩
        have HPS2 := Lib.hid hps'
        have HPR2 := Lib.hid hpr'
        have HQ := Lib.hid (HRM.out.rl (w' := wr) (fun k h1 h2 => KC.out k h2 (by have := IC.out.2.1; omega)) HRL.out.2.1 RLn.out RLL.out)
        obtain ⟨⟨s1, s2⟩, hs⟩ : ∃ r, e.val (upR (Rws rs)) (mixI C.length C) = r := ⟨_, rfl⟩
        have HV2 := Lib.hid hs
        obtain ⟨c0, c1, c2, c3⟩ := (XB.out.2.below BR.out XB.out.2.lt).four
        clear hps' hpr' hs
        go_wp2_with fail
        go_at_call 9
        refine (lvalue_is HX.out.xv HPR2.out HN.out wr BR.out HPS2.out ILC.out HV2.out).mono ?_
        rintro e' wy ⟨rfl, by1⟩
        have BY := Lib.hid by1
        have BWY := Lib.hid (BWR.out.trans (by1.mono BWR.out.size))
        have BBY := Lib.hid (BR.out.trans (by1.mono BR.out.size))
        clear by1 c0 c1 c2 c3
        obtain ⟨c0, c1, c2, c3⟩ := (EB.out.below BBY.out EB.out.lt).four
        go_wp2_with fail
        go_at_call 10
        refine (rvalue_is HE.out HQ.out.2 wy BWY.out (HQ.out.1.later BY.out) (ILO.out.later BY.out) HV2.out).mono ?_
        rintro e' wx ⟨rfl, bx⟩
        have BX := Lib.hid (BWY.out.trans (bx.mono BWY.out.size))
        clear bx c0 c1 c2 c3
        go_wp2
        exact bodyPost_ret (v := .bool true) (by simp [results, Try.results3, go_sem]) rfl ⟨rfl, BX.out⟩
end Go.Proofs.Ytjlnbhmiahegmaa

namespace Go.Proofs.Ytjlnbhmiahegmaa
open Go.RowKit
set_option linter.unusedVariables false
set_option linter.unusedSimpArgs false
theorem il_of {w : World} {a : Option Addr} {len cap : Nat} {zs : List Int} (hb : len * 8 ≤ 140737488351232)
    (h : (a = none ∧ len = 0 ∧ cap = 0 ∧ zs = []) ∨ ∃ x, a = some x ∧ len ≤ cap ∧ cap ≤ maxLen ∧ zs.length = cap ∧ (∀ i, i < zs.length → w.cell? (x.add i) = some (.int .i64 (zs.getD i 0))) ∧ ∀ n ∈ zs, (Lit.int .i64 n).wf = true) : IL w a len (zs.take len) ∧ (a = none → cap = 0) := by
  rcases h with ⟨rfl, rfl, rfl, rfl⟩ | ⟨x, rfl, h1, h2, h3, h4, h5⟩
  · exact ⟨⟨rfl, by omega, by simp, .inl rfl⟩, fun _ => rfl⟩
  · refine ⟨⟨by simp; omega, by omega, fun c hc => wf_inR (h5 c (List.mem_of_mem_take hc)), ?_⟩, (fun e => by cases e)⟩
    by_cases h0 : len = 0
    · exact .inl h0
    · obtain ⟨b, o, s⟩ := x
      have hc := h4 0 (by omega)
      have hs : s = none := by simpa [Addr.add] using World.cell?_spot hc
      subst hs
      refine .inr ⟨b, o, rfl, ?_, fun i hi => ?_⟩
      · have := World.block_lt_of_cell? w _ hc
        simpa [Addr.add] using this
      · have := h4 i (by omega)
        rw [show (Addr.add ⟨b, o, none⟩ i : Addr) = ⟨b, o + i, none⟩ by simp [Addr.add]] at this
        rw [this]
        simp only [List.getD, List.getElem?_take, if_pos hi]
end Go.Proofs.Ytjlnbhmiahegmaa
