import Derived.Test.YtjbbbejadhojlaaDoorXAU
namespace Go.Proofs.YtjbbbejadhojlaaDoor
open Go.RowKit
set_option linter.unusedVariables false
set_option linter.unusedSimpArgs false
/-- A state in memory: its stack, its slots. -/
def StV (W : World) (a : Option Addr) (c : Nat) (ka : Option Addr) (d : Ds) : Prop := StkL W a d.st.length d.st ∧ Hd a d.st.length c ∧ KptL W ka d.sl.length d.sl
def intsN (m : List Nat) : List Int := m.map (fun y : Nat => (y : Int))
theorem intsN_len (m : List Nat) : (intsN m).length = m.length := by simp [intsN]
theorem intsN_app (m : List Nat) (y : Nat) : intsN (m ++ [y]) = intsN m ++ [(y : Int)] := by simp [intsN]
theorem OwZ.stk {w : World} {B : Nat} {a : Option Addr} {n c : Nat} {m : List Nat} (h : OwZ w B (.slice a n c) (intsN m)) : StkL w a n m ∧ Hd a n c := by
  have hl := intsN_len m
  rcases h.2 with ⟨e, h0⟩ | ⟨g, cap, cur, e, _, e3, e4, e5, _⟩
  · injection e with e1 e2 e3
    subst e1 e2 e3
    refine ⟨⟨by omega, .inl rfl⟩, fun _ => ⟨rfl, rfl⟩, Nat.le_refl _, by unfold maxLen; omega⟩
  · injection e with e1 e2 e3'
    subst e1 e2 e3'
    refine ⟨⟨hl.symm, .inr ⟨g, 0, cur, _, rfl, e3, fun i hi j hj => ?_⟩⟩, fun z => (by cases z), e4, e5⟩
    have j0 : j = 0 := by omega
    subst j0
    rw [Nat.zero_add, Nat.mul_one, Nat.add_zero, OwZ.cell h hi]
    have : i < m.length := by omega
    simp [stkV, intsN, List.getD, this]
theorem LsT.row {ty : TypeId} {k : Nat} {w : World} {a : Option Addr} {n m : Nat} {V : Nat → List Value} (h : LsT ty k w a n V) (hm : m ≤ n) : Row w a m k V := by
  rcases h with h | ⟨y, u, cur, fr, rfl, e, hc⟩
  · exact .inl (by omega)
  · exact .inr ⟨y, u, rfl, (Array.getElem?_eq_some_iff.1 e).1, fun i hi j hj => by
      rw [hc i (by omega) j hj]⟩
theorem flat_stk (st : List Nat) : ∀ h, h ≤ st.length → flatV h (stkV st) = zcs (intsN (st.take h)) := by
  intro h hh
  induction h with
  | zero => rfl
  | succ h ih =>
    have e := flatV_snocR (stkV st) (stkV st) h (fun _ _ => rfl)
    rw [← e, ih (by omega), List.take_succ_eq_append_getElem (by omega), intsN_app, zcs_append]
    congr 1
    have : h < st.length := by omega
    simp [stkV, zcs, List.getD, this]
/-- append(nil, s.Stack[:h]...). -/
theorem app_cutR {w : World} {a : Option Addr} {n c h : Nat} {st : List Nat} (hs : StkL w a n st) (hd : Hd a n c) (hh : h ≤ n) (hn : n ≤ 1000000) (B : Nat) (hB : B ≤ w.heap.size) : ∃ a' c' w', (∀ ty, (Builtin.append_ #[23, 23] ty #[.slice none 0 0, .slice a h c]).run Tryd.prog w = .ok (.slice a' h c') w') ∧ RowKit.Hid (OwZ w' B (.slice a' h c') (intsN (st.take h)) ∧ w.grownBy w' none) := by
  obtain ⟨i0, hi, hz0, hz1, hz2⟩ := info_parts infoZ
  obtain ⟨a', c', w', r, o, g, _⟩ := run_rowappR (T := 23) (E := 3) (k := 1) (bz := 8) Tryd.underlying23 hi hz0 hz1 hz2 rfl (by omega) (World.ownsRow_nil w B 3 1) (a := a) (n := h) (c := c) (V := stkV st) ⟨fun z => by have := hd.1 z; omega, by have := hd.2.1; omega, hd.2.2⟩ (hs.2.row hh) (fun _ => rfl) (fun i u hu => by
    simp [stkV] at hu
    subst hu
    rfl) (by unfold maxLen; omega) (by omega) hB
  have hl : (st.take h).length = h := by rw [List.length_take]; have := hs.1; omega
  rw [Nat.zero_add] at r o
  rw [List.nil_append, flat_stk st h (by have := hs.1; omega)] at o
  refine ⟨a', c', w', fun ty => r ty, ?_, ?_⟩
  · unfold OwZ
    rw [intsN_len, hl]
    exact o
  · exact g
/-- append(l, y): a literal behind a row of one's own. -/
theorem OwZ.next {w : World} {B : Nat} {a : Option Addr} {n c : Nat} {m : List Nat} (h : OwZ w B (.slice a n c) (intsN m)) (hn : m.length ≤ 1000000) (hB : B ≤ w.heap.size) (y : Nat) {g : Nat} (bk : BkP w g #[.int .i64 (y : Int)] 3) : ∃ a' c' w', (∀ ty, (Builtin.append_ #[23, 23] ty #[.slice a n c, .slice (some ⟨g, 0, none⟩) 1 1]).run Tryd.prog w = .ok (.slice a' (n + 1) c') w') ∧ RowKit.Hid (OwZ w' B (.slice a' (n + 1) c') (intsN (m ++ [y])) ∧ w.grownBy w' (Value.ownBlock (.slice a n c))) := by
  obtain ⟨i0, hi, hz0, hz1, hz2⟩ := info_parts infoZ
  have nl : n = m.length := by
    obtain ⟨a2, c2, q, _⟩ := h.form
    rw [intsN_len] at q
    injection q
  have h' : w.ownsRow B 3 1 (.slice a n c) n (zcs (intsN m)) := by
    unfold OwZ at h
    rw [intsN_len, ← nl] at h
    exact h
  obtain ⟨a', c', w', r, o, gr, _⟩ := run_rowappR (T := 23) (E := 3) (k := 1) (bz := 8) Tryd.underlying23 hi hz0 hz1 hz2 rfl (by omega) h' (a := some ⟨g, 0, none⟩) (n := 1) (c := 1) (V := fun _ => [.int .i64 (y : Int)]) ⟨fun z => (by cases z), Nat.le_refl _, by unfold maxLen; omega⟩ (.inr ⟨g, 0, rfl, bk.lt, fun i hi j hj => by
    have i0 : i = 0 := by omega
    have j0 : j = 0 := by omega
    subst i0 j0
    rw [bk.cell]
    rfl⟩) (fun _ => rfl) (fun i u hu => by
      simp at hu
      subst hu
      rfl) (by unfold maxLen; omega) (by omega) hB
  refine ⟨a', c', w', r, ?_, gr⟩
  unfold OwZ
  rw [intsN_len, intsN_app, zcs_append, List.length_append, List.length_singleton, ← nl]
  exact o
theorem OwKp.nextG {w : World} {B : Nat} {a : Option Addr} {n c : Nat} {l : List (Nat × Nat)} (h : OwKp w B (.slice a n c) l) (hn : l.length ≤ 1000000) (hB : B ≤ w.heap.size) (e : Nat × Nat) {g : Nat} (bk : BkP w g #[.int .i64 (e.1 : Int), .int .i64 (e.2 : Int)] 112) : ∃ a' c' w', (∀ ty, (Builtin.append_ #[70, 70] ty #[.slice a n c, .slice (some ⟨g, 0, none⟩) 1 1]).run Tryd.prog w = .ok (.slice a' (n + 1) c') w') ∧ RowKit.Hid (OwKp w' B (.slice a' (n + 1) c') (l ++ [e]) ∧ w.grownBy w' (Value.ownBlock (.slice a n c))) := by
  have nl : n = l.length := by
    obtain ⟨a2, c2, q⟩ := own_formR h
    injection q
  obtain ⟨i0, hi, hz0, hz1, hz2⟩ := info_parts infoKp
  obtain ⟨a', c', w3, r3, o3, g3, _⟩ := run_rowappR (V := fun _ => [.int .i64 (e.1 : Int), .int .i64 (e.2 : Int)]) Tryd.underlying70 hi hz0 hz1 hz2 rfl (by omega) h (a := some ⟨g, 0, none⟩) (n := 1) (c := 1) ⟨fun z => (by cases z), Nat.le_refl _, by unfold maxLen; omega⟩ (.inr ⟨g, 0, rfl, bk.lt, fun i hi j hj => by
    have i0 : i = 0 := by omega
    subst i0
    rw [bk.cell]
    rcases (show j = 0 ∨ j = 1 by omega) with rfl | rfl <;> rfl⟩) (fun _ => rfl) (fun i u hu => by
      simp at hu
      rcases hu with rfl | rfl <;> rfl) (by unfold maxLen; omega) (by omega) hB
  refine ⟨a', c', w3, by rw [nl]; rw [nl] at r3; exact r3, ?_, g3⟩
  unfold OwKp
  have ll : (l ++ [e]).length = l.length + 1 := by simp
  have e1 := flatV_snocR (kptV l) (kptV (l ++ [e])) l.length (fun i hi => by unfold kptV; rw [getD_snoc_ltR hi])
  have e2 : kptV (l ++ [e]) l.length = flatV 1 (fun _ => [Value.int .i64 (e.1 : Int), .int .i64 (e.2 : Int)]) := by
    unfold kptV
    rw [getD_snoc_eqR]
    rfl
  rw [e2] at e1
  rw [ll, ← e1, nl]
  exact o3
theorem bk_blockG {w : World} {b c : Nat} {k : Nat} {v : Value} (hbc : b ≠ c) : (w.setCell ⟨c, k, none⟩ v).heap[b]? = w.heap[b]? := by
  simp only [World.setCell, Array.getElem?_modify, if_neg (Ne.symm hbc)]
/-- behind is at work: its boxes, the state that it makes. -/
structure BeI (w : World) (s0 i0 : Array Value) (ob : Nat) (m : List Nat) (x : Option Addr) (c : Nat) (q : Value) (W : World) : Prop where
  bel : Below w.heap.size w W
  sb : BkP W w.heap.size s0 72
  ib : BkP W (w.heap.size + 1) i0 51
  rb : BkP W (w.heap.size + 2) #[.bool false, .slice none 0 0, .slice none 0 0] 72
  og : w.heap.size + 2 < ob
  bx : BkP W ob #[.bool true, .slice x m.length c, q] 72
  own : OwZ W w.heap.size (.slice x m.length c) (intsN m)
section
variable {w : World} {s0 i0 : Array Value} {ob : Nat} {m : List Nat} {x : Option Addr} {c : Nat} {q : Value} {W : World}
theorem BeI.lat {W' : World} (h : BeI w s0 i0 ob m x c q W) (b : Below W.heap.size W W') : BeI w s0 i0 ob m x c q W' := ⟨h.bel.trans (b.mono h.bel.size), h.sb.lat b, h.ib.lat b, h.rb.lat b, h.og, h.bx.lat b, h.own.lat b⟩
theorem BeI.drewB (h : BeI w s0 i0 ob m x c q W) (n : Nat) : BeI w s0 i0 ob m x c q (W.drewN n) := h.lat (drewN_below' W n _)
/-- One sort more. -/
theorem BeI.push (h : BeI w s0 i0 ob m x c q W) (hm : m.length ≤ 1000000) (y : Nat) {g : Nat} (bk : BkP W g #[.int .i64 (y : Int)] 3) : ∃ x' c' w', (∀ ty, (Builtin.append_ #[23, 23] ty #[.slice x m.length c, .slice (some ⟨g, 0, none⟩) 1 1]).run Tryd.prog W = .ok (.slice x' (m.length + 1) c') w') ∧ w'.cell? ⟨ob, 1, none⟩ = some (.slice x m.length c) ∧ w'.frozen? ⟨ob, 1, none⟩ = false ∧ RowKit.Hid (BkP w' w.heap.size s0 72 ∧ BkP w' (w.heap.size + 1) i0 51 ∧ BeI w s0 i0 ob (m ++ [y]) x' c' q (w'.setCell ⟨ob, 1, none⟩ (.slice x' (m.length + 1) c'))) := by
  obtain ⟨x', c', w', r, z⟩ := h.own.next hm h.bel.size y bk
  obtain ⟨o', gr⟩ := z.out
  have bl : Below w.heap.size w w' := h.bel.trans ⟨gr.os, gr.tape, gr.output, gr.size, fun u hu => gr.block u (by have := h.bel.size; omega) (fun z => by have := (World.ownsRow.lt h.own u z.symm).1; omega)⟩
  have keepS : ∀ {u : Nat} {cs : Array Value} {t : TypeId}, t ≠ 3 → BkP W u cs t → BkP w' u cs t := fun {u cs t} ht bk => (gr.block u bk.lt (fun z => own_neB h.own bk (Ne.symm ht) z.symm)).trans bk
  have bx' := keepS (by decide) h.bx
  have sb' := keepS (by decide) h.sb
  have ib' := keepS (by decide) h.ib
  have rb' := keepS (by decide) h.rb
  have og := h.og
  refine ⟨x', c', w', r, by rw [bx'.cell]; rfl, bx'.frozen 1, sb', ib', ⟨bl.setCell (by exact (by omega : w.heap.size ≤ ob)) _, sb'.other _ _ _ (by omega), ib'.other _ _ _ (by omega), rb'.other _ _ _ (by omega), og, ?_, ?_⟩⟩
  · have := bx'.set2 1 (.slice x' (m.length + 1) c') (by simp)
    simpa using this
  · have ll : (m ++ [y]).length = m.length + 1 := by simp
    rw [ll]
    exact o'.blk (fun u hu => bk_blockG (fun z => own_neB o' bx' (by decide) (by rw [hu, z])))
/-- The slots with one kept anew. -/
theorem BeI.keep (h : BeI w s0 i0 ob m x c q W) {B : Nat} {a : Option Addr} {n c' : Nat} {L : List (Nat × Nat)} (hB : w.heap.size ≤ B) (o : OwKp W B (.slice a n c') L) (hL : L.length ≤ 1000000) (hv : B ≤ W.heap.size) (e : Nat × Nat) {g : Nat} (bk : BkP W g #[.int .i64 (e.1 : Int), .int .i64 (e.2 : Int)] 112) : ∃ a7 c7 w7, RowKit.Hid (∀ ty, (Builtin.append_ #[70, 70] ty #[.slice a n c', .slice (some ⟨g, 0, none⟩) 1 1]).run Tryd.prog W = .ok (.slice a7 (n + 1) c7) w7) ∧ w7.cell? ⟨ob, 2, none⟩ = some q ∧ w7.frozen? ⟨ob, 2, none⟩ = false ∧ RowKit.Hid (BkP w7 w.heap.size s0 72 ∧ BkP w7 (w.heap.size + 1) i0 51 ∧ BeI w s0 i0 ob m x c (.slice a7 (n + 1) c7) (w7.setCell ⟨ob, 2, none⟩ (.slice a7 (n + 1) c7)) ∧ KptL (w7.setCell ⟨ob, 2, none⟩ (.slice a7 (n + 1) c7)) a7 (n + 1) (L ++ [e])) := by
  obtain ⟨a7, c7, w7, r, z⟩ := o.nextG hL hv e bk
  obtain ⟨o', gr⟩ := z.out
  have bl : Below w.heap.size w w7 := h.bel.trans ⟨gr.os, gr.tape, gr.output, gr.size, fun u hu => gr.block u (by have := h.bel.size; omega) (fun z => by have := (World.ownsRow.lt o u z.symm).1; omega)⟩
  have keepS : ∀ {u : Nat} {cs : Array Value} {t : TypeId}, t ≠ 112 → BkP W u cs t → BkP w7 u cs t := fun {u cs t} ht bk => (gr.block u bk.lt (fun z => own_neB o bk (Ne.symm ht) z.symm)).trans bk
  have bx' := keepS (by decide) h.bx
  have sb' := keepS (by decide) h.sb
  have ib' := keepS (by decide) h.ib
  have rb' := keepS (by decide) h.rb
  have og := h.og
  have own' : OwZ w7 w.heap.size (.slice x m.length c) (intsN m) := h.own.grown gr (own_neO h.own o (by decide))
  have o2 : OwKp (w7.setCell ⟨ob, 2, none⟩ (.slice a7 (n + 1) c7)) B (.slice a7 (n + 1) c7) (L ++ [e]) := own_blkG o' (fun u hu => bk_blockG (fun z => own_neB o' bx' (by decide) (by rw [hu, z])))
  refine ⟨a7, c7, w7, r, by rw [bx'.cell]; rfl, bx'.frozen 2, sb', ib', ⟨bl.setCell (by exact (by omega : w.heap.size ≤ ob)) _, sb'.other _ _ _ (by omega), ib'.other _ _ _ (by omega), rb'.other _ _ _ (by omega), og, ?_, ?_⟩, o2.kpt⟩
  · have := bx'.set2 2 (.slice a7 (n + 1) c7) (by simp)
    simpa using this
  · exact own'.blk (fun u hu => bk_blockG (fun z => own_neB own' bx' (by decide) (by rw [hu, z])))
end
end Go.Proofs.YtjbbbejadhojlaaDoor
