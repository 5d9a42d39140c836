/-
  WALK: put into a book that is late.
-/
import Derived.Test.YtnoimmjijkgjaaaWKept
import Derived.Test.YtnoimmjijkgjaaaWOctStay
import Derived.Deep.AppendLies
import Derived.Deep.RegionLaw
namespace Go.Proofs.Ytnoimmjijkgjaaa
open Go.RowKit
set_option linter.unusedVariables false
set_option linter.unusedSimpArgs false

/-- A late book in the cells 2 to 5 of block q: the lists as they came, and their copies. -/
structure LBk (w : World) (B q : Nat) (R S : Value) (c d : Nat) (rs ss : List Value) : Prop where
  l : w.cell? ⟨q, 2, none⟩ = some (.slice none 0 0)
  late : w.cell? ⟨q, 3, none⟩ = some (.bool true)
  r : w.cell? ⟨q, 4, none⟩ = some R
  s : w.cell? ⟨q, 5, none⟩ = some S
  ty : ∃ cs, w.heap[q]? = some (.cells cs 36 (0, 0))
  base : B ≤ q
  ownR : w.ownsRow B 22 1 R c rs
  ownS : w.ownsRow B 22 1 S d ss
  apart : ∀ x, R.ownBlock = some x → S.ownBlock ≠ some x
theorem nofz {w : World} {q j : Nat} {cs : Array Value} {t : TypeId} (h : w.heap[q]? = some (.cells cs t (0, 0))) : w.frozen? ⟨q, j, none⟩ = false := by
  simp [World.frozen?, h]
/-- The blocks that a late put turns. -/
def LS (q : Nat) (R S : Value) : Nat → Prop := fun x => x = q ∨ R.ownBlock = some x ∨ S.ownBlock = some x
section
variable {w w' w1 w2 : World} {B q : Nat} {R S R' S' : Value} {c d : Nat} {rs ss rs' ss' : List Value}
theorem LBk.lt (h : LBk w B q R S c d rs ss) : q < w.heap.size := by
  obtain ⟨cs, e⟩ := h.ty; exact (Array.getElem?_eq_some_iff.1 e).1
theorem LBk.blk (h : LBk w B q R S c d rs ss) (e : w'.heap[q]? = w.heap[q]?) (er : ∀ g, R.ownBlock = some g ∨ S.ownBlock = some g → w'.heap[g]? = w.heap[g]?) : LBk w' B q R S c d rs ss := by
  refine ⟨(World.cell?_of_block (a := ⟨q, 2, none⟩) e).trans h.l, (World.cell?_of_block (a := ⟨q, 3, none⟩) e).trans h.late, (World.cell?_of_block (a := ⟨q, 4, none⟩) e).trans h.r, (World.cell?_of_block (a := ⟨q, 5, none⟩) e).trans h.s, ?_, h.base, own_blk h.ownR (fun g hg => er g (.inl hg)), own_blk h.ownS (fun g hg => er g (.inr hg)), h.apart⟩
  obtain ⟨cs, ht⟩ := h.ty; exact ⟨cs, e.trans ht⟩
theorem LBk.below (h : LBk w B q R S c d rs ss) (b : Below w.heap.size w w') : LBk w' B q R S c d rs ss :=
  h.blk (b.block q h.lt) (fun g hg => b.block g (by
    rcases hg with hg | hg
    · exact (h.ownR.lt g hg).2
    · exact (h.ownS.lt g hg).2))
/-- Bytes stay. -/
theorem LBk.bt (h : LBk w B q R S c d rs ss) (K : Keep w w' (LS q R S)) {a : Option Addr} {n : Nat} {xs : List Int} (T : BT w a n xs) : BT w' a n xs := by
  obtain ⟨cs, ht⟩ := h.ty
  refine T.kept K.size (fun b o cs' fz' h0 ha hb => K.block b (Array.getElem?_eq_some_iff.1 hb).1 ?_)
  rintro (e | e | e)
  · exact T.ne ht (by decide) b o h0 ha e
  · exact row_ne h.ownR hb (by decide) e
  · exact row_ne h.ownS hb (by decide) e
theorem setq_ne {x : Nat} {j : Nat} {v : Value} (h : x ≠ q) : (w.setCell ⟨q, j, none⟩ v).heap[x]? = w.heap[x]? := by
  have : ¬ q = x := fun e => h e.symm
  simp [World.setCell, Array.getElem?_modify, this]
theorem LBk.setR (h : LBk w B q R S c d rs ss) (g : w.grownBy w1 R.ownBlock) (ho : w1.ownsRow B 22 1 R' (c + 1) rs') (ha : R'.ownBlock = R.ownBlock ∨ ∃ g, R'.ownBlock = some g ∧ w.heap.size ≤ g) :
    LBk (w1.setCell ⟨q, 4, none⟩ R') B q R' S (c + 1) d rs' ss ∧ Keep w (w1.setCell ⟨q, 4, none⟩ R') (LS q R S) ∧ ∀ j, j ≠ 4 → (w1.setCell ⟨q, 4, none⟩ R').cell? ⟨q, j, none⟩ = w.cell? ⟨q, j, none⟩ := by
  obtain ⟨cs, ht⟩ := h.ty
  have hne := row_ne h.ownR ht (by decide)
  have e := g.block q h.lt (fun e => hne e.symm)
  have ht1 := e.trans ht
  have hne1 := row_ne ho ht1 (by decide)
  have hs := row_ne h.ownS ht (by decide)
  have rest : ∀ j, j ≠ 4 → (w1.setCell ⟨q, 4, none⟩ R').cell? ⟨q, j, none⟩ = w.cell? ⟨q, j, none⟩ := fun j hj => by
    rw [World.cell?_setCell_other _ _ _ _ (by first | (simp; done) | (simp; omega))]
    exact World.cell?_of_block (a := ⟨q, j, none⟩) e
  refine ⟨⟨(rest 2 (by omega)).trans h.l, (rest 3 (by omega)).trans h.late, World.cell?_setCell_same' _ _ _ (by rw [(World.cell?_of_block (a := ⟨q, 4, none⟩) e).trans h.r]; rfl), (rest 5 (by omega)).trans h.s, ⟨cs.setIfInBounds 4 R', by simp [World.setCell, Array.getElem?_modify, ht1]⟩, h.base, own_blk ho (fun x hx => setq_ne (fun e => hne1 (by rw [← e]; exact hx))), own_blk h.ownS (fun x hx => (setq_ne (fun e => hs (by rw [← e]; exact hx))).trans (g.block x (h.ownS.lt x hx).2 (fun e => h.apart x e.symm hx))), fun x hx hx' => ?_⟩, (Keep.of g (fun k _ e => .inr (.inl e))).step (gr_set (gr_refl (some q) w1) 4 R') (fun x _ e => by injection e with e; exact .inl e.symm), rest⟩
  rcases ha with r | ⟨y, r, hy⟩
  · exact h.apart x (by rw [← r]; exact hx) hx'
  · rw [r] at hx; injection hx with hx; have := (h.ownS.lt x hx').2; omega
theorem LBk.setS (h : LBk w B q R S c d rs ss) (g : w.grownBy w1 S.ownBlock) (ho : w1.ownsRow B 22 1 S' (d + 1) ss') (ha : S'.ownBlock = S.ownBlock ∨ ∃ g, S'.ownBlock = some g ∧ w.heap.size ≤ g) :
    LBk (w1.setCell ⟨q, 5, none⟩ S') B q R S' c (d + 1) rs ss' ∧ Keep w (w1.setCell ⟨q, 5, none⟩ S') (LS q R S) ∧ ∀ j, j ≠ 5 → (w1.setCell ⟨q, 5, none⟩ S').cell? ⟨q, j, none⟩ = w.cell? ⟨q, j, none⟩ := by
  obtain ⟨cs, ht⟩ := h.ty
  have hne := row_ne h.ownS ht (by decide)
  have e := g.block q h.lt (fun e => hne e.symm)
  have ht1 := e.trans ht
  have hne1 := row_ne ho ht1 (by decide)
  have hs := row_ne h.ownR ht (by decide)
  have rest : ∀ j, j ≠ 5 → (w1.setCell ⟨q, 5, none⟩ S').cell? ⟨q, j, none⟩ = w.cell? ⟨q, j, none⟩ := fun j hj => by
    rw [World.cell?_setCell_other _ _ _ _ (by first | (simp; done) | (simp; omega))]
    exact World.cell?_of_block (a := ⟨q, j, none⟩) e
  refine ⟨⟨(rest 2 (by omega)).trans h.l, (rest 3 (by omega)).trans h.late, (rest 4 (by omega)).trans h.r, World.cell?_setCell_same' _ _ _ (by rw [(World.cell?_of_block (a := ⟨q, 5, none⟩) e).trans h.s]; rfl), ⟨cs.setIfInBounds 5 S', by simp [World.setCell, Array.getElem?_modify, ht1]⟩, h.base, own_blk h.ownR (fun x hx => (setq_ne (fun e => hs (by rw [← e]; exact hx))).trans (g.block x (h.ownR.lt x hx).2 (fun e => h.apart x hx e.symm))), own_blk ho (fun x hx => setq_ne (fun e => hne1 (by rw [← e]; exact hx))), fun x hx hx' => ?_⟩, (Keep.of g (fun k _ e => .inr (.inr e))).step (gr_set (gr_refl (some q) w1) 5 S') (fun x _ e => by injection e with e; exact .inl e.symm), rest⟩
  rcases ha with r | ⟨y, r, hy⟩
  · exact h.apart x hx (by rw [← r]; exact hx')
  · rw [r] at hx'; injection hx' with hx'; have := (h.ownR.lt x hx).2; omega
end
/-- A row that is made new leaves all that was. -/
theorem ext_new {w wx w2 : World} {o : Obj} {v v2 : Value} {n m : Nat} {xs ys : List Int} (e : wx.heap = w.heap.push o) (e1 : wx.os = w.os) (e2 : wx.tape = w.tape) (e3 : wx.output = w.output) (h : Ext w.heap.size wx v n xs w2 v2 m ys) : Below w.heap.size w w2 := by
  have hs : w.heap.size < wx.heap.size := by rw [e]; simp
  refine ⟨h.grown.os.trans e1, h.grown.tape.trans e2, h.grown.output.trans e3, Nat.le_trans (Nat.le_of_lt hs) h.grown.size, fun k hk => ?_⟩
  rw [h.grown.block k (by omega) (fun e => by have := (h.lt k e.symm).1; omega), e]
  simp [Array.getElem?_push, Nat.ne_of_lt hk]
theorem Keep.ofBelow {w w' : World} (b : Below w.heap.size w w') (S : Nat → Prop) : Keep w w' S := ⟨b.os, b.tape, b.output, b.size, fun k hk _ => b.block k hk⟩
theorem own_h0 {w : World} {B : Nat} {a : Option Addr} {n cap : Nat} {xs : List Int} (h : Own w B (.slice a n cap) n xs) : a = none → n = 0 ∧ cap = 0 := by
  intro ha
  rcases h.2 with ⟨e, h0⟩ | ⟨g, c, cur, e, _⟩
  · injection e with _ _ e3; exact ⟨h0, e3⟩
  · injection e with e1; rw [ha] at e1; cases e1
theorem step_joinB {ops : Array Oper} {o : Oper} {a : Act} {K : Act → World → Prop} {Q : Exit → Act → World → Prop} {E : Prop} (w : World) (hgd : o.guard = none) (s x : Operand)
    (ho : o.op = .call { callee := .builtin .append, args := #[s, x], argTypes := #[22, 22] }) (B : Nat) (v : Value) (n : Nat) (xs : List Int) (hs : a.eval s = v)
    (ad : Option Addr) (m c : Nat) (ys : List Int) (hx : a.eval x = .slice ad m c) (hown : Own w B v n xs) (hbl : BL w ad m ys) (h0 : ad = none → m = 0 ∧ c = 0) (hl : n + m ≤ 140737488355328) (hb : B ≤ w.heap.size)
    (h : ∀ v' w', Ext B w v n xs w' v' (n + m) (xs ++ ys) → K (a.put o.dst v') w') :
    if Region.wanted o (yielded ops a.tmps) = true then Oper.wp Try.prog o a w K Q else E := by
  rw [if_pos (by simp [Region.wanted, hgd])]
  obtain ⟨i0, hi, hz0, hz1, hz2⟩ := info_parts info8
  have hlen := hbl.1
  rcases ad with _ | ad
  · obtain ⟨rfl, rfl⟩ := h0 rfl
    have : ys = [] := List.length_eq_zero_iff.1 hlen
    subst this
    have hrun := run_append_owned_none (P := Try.prog) (w := w) B 22 o.type 5 i0 1 Try.underlying22 hi v n (bcs xs) hown
    unfold Oper.wp execOp
    simp only [ho, resolve, invoke, builtin, Sem.run_bind, Sem.run_pure, Result.andThen_ok, List.map_toArray, List.map_cons, List.map_nil, hs, hx, hrun]
    exact h v w (by simpa using Ext.start hown)
  · have hnews : ∀ j u, (bcs ys)[j]? = some u → w.cell? (ad.add j) = some u := by
      intro j u hj
      have hjm : j < m := by have := (List.getElem?_eq_some_iff.1 hj).1; rw [bcs_len] at this; omega
      rcases hbl.2.2.2 with q | ⟨b, o', e, hb', hc⟩
      · omega
      · injection e with e
        subst e
        rw [Go.Addr.add_lit, hc j hjm]
        have : j < ys.length := by omega
        simp [bcs, this] at hj
        simp [List.getD, this, hj]
    have h1 : ∀ u ∈ bcs ys, u.oneCell' = true := by intro u hu; obtain ⟨z, _, rfl⟩ := List.mem_map.1 hu; rfl
    have hl' : (bcs ys).length = m * 1 := by rw [bcs_len]; omega
    obtain ⟨v', w', hr, h2, h3, h4, h5⟩ := run_append_own_at (P := Try.prog) w B 22 o.type 5 i0 (.int .u8 0) 1 1 Try.underlying22 hi hz0 hz1 hz2 rfl (by decide) v n (bcs xs) hown ad m c (bcs ys) hl' hnews h1 (by unfold maxLen; omega) (by omega) hb
    have hk := append_keeps (w := w) B 22 o.type 5 i0 (.int .u8 0) 1 1 Try.underlying22 hi hz0 hz1 hz2 rfl (by decide) v n (bcs xs) hown ad m c (bcs ys) hl' hnews h1 (by unfold maxLen; omega) (by omega) hb v' w' hr
    have EE : Ext B w v n xs w' v' (n + m) (xs ++ ys) := by
      refine ⟨by show w'.ownsRow _ _ _ _ _ (bcs (xs ++ ys)); rw [bcs_app]; exact h2, h3, hk, ?_, hown.lt⟩
      rcases h5 with h5 | h5
      · exact .inl h5
      · exact .inr ⟨_, h5, Nat.le_refl _⟩
    unfold Oper.wp execOp
    simp only [ho, resolve, invoke, builtin, Sem.run_bind, Sem.run_pure, Result.andThen_ok, List.map_toArray, List.map_cons, List.map_nil, hs, hx, hr]
    exact h v' w' EE
/-- 'append(lists, l)' in a region that draws. -/
theorem step_listL {ops : Array Oper} {o : Oper} {a : Act} {K : Act → World → Prop} {Q : Exit → Act → World → Prop} {E : Prop} (w : World) (hgd : o.guard = none) (s x : Operand)
    (ho : o.op = .call { callee := .builtin .append, args := #[s, x], argTypes := #[32, 32] }) (base : Nat) (v : Value) (k : Nat) (xs : List Value) (hs : a.eval s = v)
    (hown : w.ownsRow base 22 1 v k xs) (Bn : Nat) (ad : Option Addr) (n c : Nat) (fr : Nat × Nat) (hx : a.eval x = .slice (some ⟨Bn, 0, none⟩) 1 1) (hb : w.heap[Bn]? = some (.cells #[.slice ad n c] 22 fr)) (hl : k ≤ 1000000000000) (hbase : base ≤ w.heap.size)
    (h : ∀ v' w', w'.ownsRow base 22 1 v' (k + 1) (xs ++ [.slice ad n c]) → w.grownBy w' v.ownBlock → (v'.ownBlock = v.ownBlock ∨ ∃ g, v'.ownBlock = some g ∧ w.heap.size ≤ g) → K (a.put o.dst v') w') :
    if Region.wanted o (yielded ops a.tmps) = true then Oper.wp Try.prog o a w K Q else E := by
  obtain ⟨i0, hi, hz0, hz1, hz2⟩ := info_parts info22
  refine step_append_lies w hgd s x 32 ho base 22 i0 (.slice none 0 0) 1 24 Try.underlying32 hi hz0 hz1 hz2 rfl (by decide) v k xs hs hown ⟨Bn, 0, none⟩ 1 1 [.slice ad n c] hx rfl (fun j u hj => World.news_of_block hb j u hj) ?_ (by omega) (by unfold maxLen; omega) (by omega) hbase w.heap.size rfl (fun g cap w' h1 h2 h3 _ => h _ w' h1 h2 ?_)
  · intro u hu
    simp at hu; subst hu; rfl
  · rcases h3 with h3 | h3
    · exact .inl h3.symm
    · exact .inr ⟨g, rfl, by omega⟩
theorem gr_box {w wx w3 : World} {o : Obj} {r : Option Nat} (e : wx.heap = w.heap.push o) (e1 : wx.os = w.os) (e2 : wx.tape = w.tape) (e3 : wx.output = w.output) (g : wx.grownBy w3 r) : w.grownBy w3 r := by
  have hs : w.heap.size < wx.heap.size := by rw [e]; simp
  refine ⟨g.os.trans e1, g.tape.trans e2, g.output.trans e3, Nat.le_trans (Nat.le_of_lt hs) g.size, fun k hk hr => ?_⟩
  rw [g.block k (by omega) hr, e]
  simp [Array.getElem?_push, Nat.ne_of_lt hk]
theorem at_box {w wx : World} {o : Obj} {v v' : Value} (e : wx.heap = w.heap.push o) (h : v'.ownBlock = v.ownBlock ∨ ∃ g, v'.ownBlock = some g ∧ wx.heap.size ≤ g) : v'.ownBlock = v.ownBlock ∨ ∃ g, v'.ownBlock = some g ∧ w.heap.size ≤ g := by
  have hs : w.heap.size < wx.heap.size := by rw [e]; simp
  rcases h with h | ⟨g, h, hg⟩
  · exact .inl h
  · exact .inr ⟨g, h, by omega⟩
theorem LBk.nqS {w : World} {B q : Nat} {R S : Value} {c d : Nat} {rs ss : List Value} (h : LBk w B q R S c d rs ss) : S.ownBlock ≠ some q := by
  obtain ⟨cs, ht⟩ := h.ty
  exact row_ne h.ownS ht (by decide)
theorem LBk.fz {w w' : World} {B q : Nat} {R S : Value} {c d : Nat} {rs ss : List Value} (h : LBk w B q R S c d rs ss) (e : w'.heap[q]? = w.heap[q]?) (j : Nat) : w'.frozen? ⟨q, j, none⟩ = false := by
  obtain ⟨cs, ht⟩ := h.ty
  exact nofz (e.trans ht)
theorem BL.heap {w w' : World} {a : Option Addr} {n : Nat} {xs : List Int} (e : w'.heap = w.heap) (h : BL w a n xs) : BL w' a n xs := by
  obtain ⟨h1, h2, h3, h4⟩ := h
  refine ⟨h1, h2, h3, ?_⟩
  rcases h4 with h4 | ⟨b, o, ha, hb, hc⟩
  · exact .inl h4
  · exact .inr ⟨b, o, ha, by rw [e]; exact hb, fun i hi => (World.cell?_of_block (a := ⟨b, o + i, none⟩) (by rw [e])).trans (hc i hi)⟩
theorem heap_new (w : World) (o : Obj) : (w.alloc o).heap[w.heap.size]? = some o := by
  show (w.heap.push o)[w.heap.size]? = some o
  simp
theorem heap_push (w : World) (o : Obj) : w.heap.size < (w.alloc o).heap.size := by
  show w.heap.size < (w.heap.push o).size
  simp
/-- What a late put leaves. -/
def PutL (w w' : World) (B q : Nat) (R S : Value) (c : Nat) (rs ss : List Value) (a : Option Addr) (m cp : Nat) (ys : List Int) : Prop :=
  ∃ R' S' a2 c2, LBk w' B q R' S' (c + 1) (c + 1) (rs ++ [.slice a m cp]) (ss ++ [.slice a2 m c2]) ∧ Keep w w' (LS q R S) ∧ BT w' a2 m ys ∧ (∀ j, j < 2 → w'.cell? ⟨q, j, none⟩ = w.cell? ⟨q, j, none⟩)
set_option maxRecDepth 100000 in
set_option maxHeartbeats 4000000 in
theorem put_l (B q c : Nat) (rs ss : List Value) (R S : Value) (a : Option Addr) (m cp Bl : Nat) (ys : List Int) (w : World) (h : LBk w B q R S c c rs ss) (ho : Own w Bl (.slice a m cp) m ys) (hb : ∀ c ∈ ys, 0 ≤ c ∧ c ≤ 255) (hc : c ≤ 1000000000) (hm : m ≤ 140737488354000) (hB : B ≤ w.heap.size) :
    Calls Try.prog 23 #[.pointer (some ⟨q, 2, none⟩), .slice a m cp] w fun e w' => e = .returned (.tuple #[]) ∧ PutL w w' B q R S c rs ss a m cp ys := by
  have c2 := h.l
  have c3 := h.late
  have c4 := h.r
  have HH := Lib.hid h
  have HB := Lib.hid hb
  have A0 := Lib.hid (own_h0 ho)
  have T0 := Lib.hid (own_bt ho hb (by omega))
  obtain ⟨aR, cR, rfl⟩ := rowL_form h.ownR
  obtain ⟨aS, cS, rfl⟩ := rowL_form h.ownS
  obtain ⟨cs, ht⟩ := h.ty
  have HN := Lib.hid (row_ne h.ownR ht (by decide))
  have HT := Lib.hid ht
  clear h ho ht hb
  go_enter Try.func23, Try.ntmps23
  go_wp2_with (first
    | (at_builtin; refine wp_listL _ _ _ _ rfl _ _ rfl B _ _ _ rfl rfl HH.out.ownR (by omega) hB ?_; intro v1 w1 h1 h2 h3; obtain ⟨a1, cc1, rfl⟩ := rowL_form h1; obtain ⟨k1, k2, k3⟩ := HH.out.setR h2 h1 h3; have L1 := Lib.hid k1; have K1 := Lib.hid k2; have R1 := Lib.hid k3; have e1 := h2.block q HH.out.lt (fun e => HN.out e.symm); have x4 := (World.cell?_of_block (a := ⟨q, 4, none⟩) e1).trans c4; have f4 := nofz (j := 4) (e1.trans HT.out); have x5 := k1.s; have T1 := Lib.hid (HH.out.bt k2 T0.out); have AT := Lib.hid (p := (Value.slice a1 (c + 1) cc1).ownBlock = (Value.slice aR c cR).ownBlock ∨ ∃ g, (Value.slice a1 (c + 1) cc1).ownBlock = some g ∧ w.heap.size ≤ g) h3; clear h1 h2 h3 k1 k2 k3 e1 c2 c3 c4))
  generalize w1.setCell ⟨q, 4, none⟩ (.slice a1 (c + 1) cc1) = W1 at *
  clear x4 f4
  have xa : (W1.alloc (.cells #[] 5)).cell? ⟨q, 5, none⟩ = some (.slice aS c cS) := (((Below.refl _ W1).alloc (Nat.le_refl _) (.cells #[] 5)).cell (p := ⟨q, 5, none⟩) L1.out.lt).trans x5
  go_region_law (first
    | (refine step_joinB _ rfl _ _ rfl W1.heap.size (.slice (some ⟨W1.heap.size, 0, none⟩) 0 0) 0 [] rfl a m cp ys rfl (by exact (World.ownsRow_made W1 #[] 0 (Nat.le_refl _) (Nat.zero_le _) rfl : Own (W1.alloc (.cells #[] 5)) W1.heap.size (.slice (some ⟨W1.heap.size, 0, none⟩) 0 0) 0 [])) (by exact BL.heap (by rfl) (T1.out.1.later ((Below.refl _ W1).alloc (Nat.le_refl _) (.cells #[] 5)))) A0.out (by omega) (by exact Nat.le_of_lt (show W1.heap.size < (W1.heap.push _).size by simp)) ?_; intro v2 w2 h5; have b5 := ext_new (w := W1) (o := .cells #[] 5) (by rfl) (by rfl) (by rfl) (by rfl) h5; have o5 := h5.own; rw [Nat.zero_add, List.nil_append] at o5; obtain ⟨a2, c2, rfl⟩ := own_form o5; have y5 := (World.cell?_of_block (a := ⟨q, 5, none⟩) (b5.block q L1.out.lt)).trans x5; have T2 := Lib.hid (own_bt o5 HB.out (by omega)); have L2 := Lib.hid (L1.out.below b5); have ya : (w2.alloc (.cells #[.slice a2 m c2] 22)).cell? ⟨q, 5, none⟩ = some (.slice aS c cS) := (((Below.refl _ w2).alloc (Nat.le_refl _) (.cells #[.slice a2 m c2] 22)).cell (p := ⟨q, 5, none⟩) L2.out.lt).trans y5; have B5 := Lib.hid b5; clear h5 b5 o5)
    | (refine step_listL _ rfl _ _ rfl B (.slice aS c cS) c ss rfl (by exact L2.out.ownS.alloc (.cells #[.slice a2 m c2] 22)) w2.heap.size a2 m c2 (0, 0) rfl (by exact heap_new w2 (.cells #[.slice a2 m c2] 22)) (by omega) (by exact Nat.le_trans (Nat.le_trans hB K1.out.size) (Nat.le_trans B5.out.size (Nat.le_of_lt (heap_push w2 (.cells #[.slice a2 m c2] 22))))) ?_; intro v3 w3 h1 h2' h3'; have h2 := gr_box (w := w2) (o := .cells #[.slice a2 m c2] 22) (by rfl) (by rfl) (by rfl) (by rfl) h2'; have h3 := at_box (w := w2) (o := .cells #[.slice a2 m c2] 22) (by rfl) h3'; obtain ⟨a3, cc3, rfl⟩ := rowL_form h1; obtain ⟨k1, k2, k3⟩ := L2.out.setS h2 h1 h3; have L3 := Lib.hid k1; have K3 := Lib.hid k2; have R3 := Lib.hid k3; have T3 := Lib.hid (L2.out.bt k2 T2.out); have e3 := h2.block q L2.out.lt (fun e => (L2.out.nqS) e.symm); have z5 := (World.cell?_of_block (a := ⟨q, 5, none⟩) e3).trans L2.out.s; have f5 := L2.out.fz e3 5; clear h1 h2 h3 h2' h3' k1 k2 k3 e3))
  all_goals
    go_wp2
    refine bodyPost_ret (results_none rfl _ _ _) rfl ?_
    refine ⟨rfl, _, _, a2, c2, L3.out, (K1.out.trans (Keep.ofBelow B5.out (fun _ => False)) (fun x hx e => e.elim)).trans K3.out (fun x hx e => ?_), T3.out, fun j hj => (R3.out j (by omega)).trans ((World.cell?_of_block (a := ⟨q, j, none⟩) (B5.out.block q L1.out.lt)).trans (R1.out j (by omega)))⟩
    rcases e with e | e | e
    · exact .inl e
    · rcases AT.out with r | ⟨g, r, hg⟩
      · exact .inr (.inl (by rw [← r]; exact e))
      · rw [r] at e; injection e with e; omega
    · exact .inr (.inr e)
end Go.Proofs.Ytnoimmjijkgjaaa
