/-
  WALK: put.
-/
import Derived.Test.YtfgmgcllplgpnaaWPut
namespace Go.Proofs.Ytfgmgcllplgpnaa
open Go.RowKit
set_option linter.unusedVariables false
set_option linter.unusedSimpArgs false

theorem BK.blk {w w' : World} {B q : Nat} {L : Value} {c : Nat} (h : BK w B q L c) (e : w'.heap[q]? = w.heap[q]?) (er : ∀ g, L.ownBlock = some g → w'.heap[g]? = w.heap[g]?) : BK w' B q L c := by
  refine ⟨(World.cell?_of_block (a := ⟨q, 2, none⟩) e).trans h.l, (World.cell?_of_block (a := ⟨q, 3, none⟩) e).trans h.late, (World.frozen?_of_block (a := ⟨q, 2, none⟩) e).trans h.f, ?_, h.base, ?_⟩
  · obtain ⟨cs, fz, ht⟩ := h.ty; exact ⟨cs, fz, e.trans ht⟩
  · obtain ⟨ws, ho⟩ := h.own; exact ⟨ws, own_blk ho er⟩
theorem row_ne {w : World} {e t : TypeId} {B : Nat} {v : Value} {n : Nat} {xs : List Value} {q : Nat} {cs : Array Value} {fz : Nat × Nat} (h : w.ownsRow B e 1 v n xs) (hq : w.heap[q]? = some (.cells cs t fz)) (ht : t ≠ e) : v.ownBlock ≠ some q := by
  intro he
  rcases h.2 with ⟨rfl, _⟩ | ⟨g, cap, cur, rfl, _, hg, _⟩
  · cases he
  · simp [Value.ownBlock] at he
    subst he
    rw [hg] at hq
    injection hq with hq
    injection hq with _ hq _
    exact ht hq.symm
theorem rows_ne {w : World} {e t : TypeId} {B B' : Nat} {v v' : Value} {n n' : Nat} {xs ys : List Value} (h : w.ownsRow B e 1 v n xs) (k : w.ownsRow B' t 1 v' n' ys) (ht : t ≠ e) : ∀ g, v'.ownBlock = some g → v.ownBlock ≠ some g := by
  intro g hg
  rcases k.2 with ⟨rfl, _⟩ | ⟨g', cap, cur, rfl, _, hg', _⟩
  · cases hg
  · simp [Value.ownBlock] at hg
    subst hg
    exact row_ne h hg' ht
/-- The lists are put into the book. -/
theorem BK.setL {w : World} {B q : Nat} {L L' : Value} {c c' : Nat} {ws : List Value} (h : BK w B q L c) (ho : w.ownsRow B 22 1 L' c' ws) : BK (w.setCell ⟨q, 2, none⟩ L') B q L' c' := by
  obtain ⟨cs, fz, ht⟩ := h.ty
  refine ⟨World.cell?_setCell_same' _ _ _ (by rw [h.l]; rfl), by rw [World.cell?_setCell_other _ _ _ _ (by simp)]; exact h.late, by rw [World.frozen?_setCell]; exact h.f, ⟨cs.setIfInBounds 2 L', fz, by simp [World.setCell, Array.getElem?_modify, ht]⟩, h.base, ws, own_blk ho (fun g hg => ?_)⟩
  have hne := row_ne ho ht (by decide)
  have : ¬ q = g := fun e => hne (by rw [e]; exact hg)
  simp [World.setCell, Array.getElem?_modify, this]
/-- What put leaves. -/
structure PutP (w w' : World) (B q : Nat) (L l : Value) (c : Nat) (L' : Value) : Prop where
  bk : BK w' B q L' c
  keep : Keep w w' (fun x => x = q ∨ L.ownBlock = some x ∨ l.ownBlock = some x)
  at_ : L'.ownBlock = L.ownBlock ∨ ∃ g, L'.ownBlock = some g ∧ w.heap.size ≤ g
  rest : ∀ j, j ≠ 2 → w'.cell? ⟨q, j, none⟩ = w.cell? ⟨q, j, none⟩
theorem PutP.store {w w1 w2 : World} {B q : Nat} {L l : Value} {c : Nat} {L' : Value} (h : PutP w w1 B q L l c L') (g : w1.grownBy w2 l.ownBlock) (hq : l.ownBlock ≠ some q) (hL : ∀ x, L'.ownBlock = some x → l.ownBlock ≠ some x) : PutP w w2 B q L l c L' :=
  ⟨h.bk.blk (g.block q h.bk.lt (fun e => hq e.symm)) (fun x hx => by
      obtain ⟨ws, ho⟩ := h.bk.own
      exact g.block x (ho.lt x hx).2 (fun e => hL x hx e.symm)), h.keep.step g (fun x _ e => .inr (.inr e)), h.at_, fun j hj => (World.cell?_of_block (a := ⟨q, j, none⟩) (g.block q h.bk.lt (fun e => hq e.symm))).trans (h.rest j hj)⟩
/-- Another row, new or the list's own, has turned. -/
theorem PutP.store' {w w1 w2 : World} {B q : Nat} {L l v : Value} {c : Nat} {L' : Value} (h : PutP w w1 B q L l c L') (g : w1.grownBy w2 v.ownBlock) (hv : v.ownBlock = l.ownBlock ∨ ∃ x, v.ownBlock = some x ∧ w.heap.size ≤ x) (hq : v.ownBlock ≠ some q) (hL : ∀ x, L'.ownBlock = some x → v.ownBlock ≠ some x) : PutP w w2 B q L l c L' :=
  ⟨h.bk.blk (g.block q h.bk.lt (fun e => hq e.symm)) (fun x hx => by
      obtain ⟨ws, ho⟩ := h.bk.own
      exact g.block x (ho.lt x hx).2 (fun e => hL x hx e.symm)), h.keep.step g (fun x hx e => by
      rcases hv with r | ⟨y, r, hy⟩
      · exact .inr (.inr (by rw [← r]; exact e))
      · rw [r] at e; injection e with e; omega), h.at_, fun j hj => (World.cell?_of_block (a := ⟨q, j, none⟩) (g.block q h.bk.lt (fun e => hq e.symm))).trans (h.rest j hj)⟩
/-- The lists have grown, and the book has them. -/
theorem PutP.list {w w1 w2 : World} {B q : Nat} {L l : Value} {c : Nat} {L' L2 : Value} {ws : List Value} (h : PutP w w1 B q L l c L') (g : w1.grownBy w2 L'.ownBlock) (ho : w2.ownsRow B 22 1 L2 (c + 1) ws) (ha : L2.ownBlock = L'.ownBlock ∨ ∃ g, L2.ownBlock = some g ∧ w1.heap.size ≤ g) (hs : w.heap.size ≤ w1.heap.size) : PutP w (w2.setCell ⟨q, 2, none⟩ L2) B q L l (c + 1) L2 := by
  obtain ⟨ws0, ho0⟩ := h.bk.own
  obtain ⟨cs, fz, ht⟩ := h.bk.ty
  have hne := row_ne ho0 ht (by decide)
  have e := g.block q h.bk.lt (fun e => hne e.symm)
  have b2 : w2.cell? ⟨q, 2, none⟩ = some L' ∧ w2.cell? ⟨q, 3, none⟩ = some (.bool false) ∧ w2.frozen? ⟨q, 2, none⟩ = false := ⟨(World.cell?_of_block (a := ⟨q, 2, none⟩) e).trans h.bk.l, (World.cell?_of_block (a := ⟨q, 3, none⟩) e).trans h.bk.late, (World.frozen?_of_block (a := ⟨q, 2, none⟩) e).trans h.bk.f⟩
  have ht2 := e.trans ht
  have hne2 := row_ne ho ht2 (by decide)
  refine ⟨⟨World.cell?_setCell_same' _ _ _ (by rw [b2.1]; rfl), by rw [World.cell?_setCell_other _ _ _ _ (by simp)]; exact b2.2.1, by rw [World.frozen?_setCell]; exact b2.2.2, ⟨cs.setIfInBounds 2 L2, fz, by simp [World.setCell, Array.getElem?_modify, ht2]⟩, h.bk.base, ws, own_blk ho (fun x hx => ?_)⟩, (h.keep.step g (fun x hx e => ?_)).step (gr_set (gr_refl (some q) w2) 2 L2) (fun x _ e => by injection e with e; exact .inl e.symm), ?_, fun j hj => by rw [World.cell?_setCell_other _ _ _ _ (by first | (simp; done) | (simp; omega))]; exact (World.cell?_of_block (a := ⟨q, j, none⟩) e).trans (h.rest j hj)⟩
  · have : ¬ q = x := fun e => hne2 (by rw [e]; exact hx)
    simp [World.setCell, Array.getElem?_modify, this]
  · rcases h.at_ with r | ⟨y, r, hy⟩
    · exact .inr (.inl (by rw [← r]; exact e))
    · rw [r] at e; injection e with e; omega
  · rcases ha with r | ⟨y, r, hy⟩
    · rw [r]; exact h.at_
    · exact .inr ⟨y, r, by omega⟩

theorem PutP.at2 {w w1 w2 : World} {B q : Nat} {L l : Value} {c : Nat} {L' : Value} (h : PutP w w1 B q L l c L') (g : w1.grownBy w2 L'.ownBlock) : w2.cell? ⟨q, 2, none⟩ = some L' ∧ w2.frozen? ⟨q, 2, none⟩ = false := by
  obtain ⟨ws0, ho0⟩ := h.bk.own
  obtain ⟨cs, fz, ht⟩ := h.bk.ty
  have hne := row_ne ho0 ht (by decide)
  have e := g.block q h.bk.lt (fun e => hne e.symm)
  exact ⟨(World.cell?_of_block (a := ⟨q, 2, none⟩) e).trans h.bk.l, (World.frozen?_of_block (a := ⟨q, 2, none⟩) e).trans h.bk.f⟩
theorem rowL_form {w : World} {e : TypeId} {B : Nat} {v : Value} {n : Nat} {xs : List Value} (h : w.ownsRow B e 1 v n xs) : ∃ a cap, v = .slice a n cap := by
  rcases h.2 with ⟨q, q0⟩ | ⟨g, cc, cur, q, _⟩
  · exact ⟨none, 0, by rw [q, q0]⟩
  · exact ⟨_, cc, q⟩
/-- A row of bytes through a growing of the lists and a store into the book. -/
theorem own_list {w1 w2 : World} {B Bl q n : Nat} {v L' L2 : Value} {c c' : Nat} {zs : List Int} (o : Own w1 Bl v n zs) (b : BK w1 B q L' c) (g : w1.grownBy w2 L'.ownBlock) : Own (w2.setCell ⟨q, 2, none⟩ L2) Bl v n zs := by
  obtain ⟨ws0, ho0⟩ := b.own
  obtain ⟨cs, fz, ht⟩ := b.ty
  refine own_blk (own_blk o (fun x hx => g.block x (o.lt x hx).2 (fun e => ?_))) (fun x hx => ?_)
  · exact rows_ne o ho0 (by decide) x e.symm hx
  · have : ¬ q = x := fun e => row_ne o ht (by decide) (by rw [e]; exact hx)
    simp [World.setCell, Array.getElem?_modify, this]
set_option maxRecDepth 100000 in
set_option maxHeartbeats 4000000 in
theorem put_any (B q c : Nat) (L : Value) (a : Option Addr) (m cp Bl : Nat) (ys : List Int) (w : World) (h : BK w B q L c) (ho : Own w Bl (.slice a m cp) m ys) (hc : c ≤ 1000000000) (hm : m ≤ 140737488354000) (hB : B ≤ w.heap.size) (hBl : Bl ≤ w.heap.size) :
    Calls Try.prog 42 #[.pointer (some ⟨q, 2, none⟩), .slice a m cp] w fun e w' => e = .returned (.tuple #[]) ∧ ∃ L', PutP w w' B q L (.slice a m cp) (c + 2) L' := by
  have P0 := Lib.hid (p := PutP w w B q L (.slice a m cp) c L) ⟨h, Keep.refl _ _, .inl rfl, fun _ _ => rfl⟩
  have O0 := Lib.hid ho
  have c2 := h.l
  have c3 := h.late
  obtain ⟨ws, hL⟩ := h.own
  obtain ⟨aL, cL, rfl⟩ : ∃ aL cL, L = .slice aL c cL := by
    rcases hL.2 with ⟨q, q0⟩ | ⟨g, cc, cur, q, _⟩
    · exact ⟨none, 0, by rw [q, q0]⟩
    · exact ⟨_, cc, q⟩
  obtain ⟨μ, hμ⟩ : ∃ μ : Nat, 1 + c / 2 % 120 = μ := ⟨_, rfl⟩
  have t1 : Int.tdiv (c : Int) 2 = ((c / 2 : Nat) : Int) := by rw [Int.tdiv_eq_ediv_of_nonneg (by omega)]; omega
  have t2 : Int.tmod ((c / 2 : Nat) : Int) 120 = ((c / 2 % 120 : Nat) : Int) := by rw [Int.tmod_eq_emod_of_nonneg (by omega)]; omega
  have t1' : (c : Int) / 2 = ((c / 2 : Nat) : Int) := by omega
  have t2' : ((c / 2 : Nat) : Int) % 120 = ((c / 2 % 120 : Nat) : Int) := by omega
  have t3 : IntKind.i64.wrap (1 + ((c / 2 % 120 : Nat) : Int)) = (μ : Int) := by simp [IntKind.wrap, IntKind.bits, IntKind.signed]; omega
  have t4 : IntKind.u8.wrap (μ : Int) = (μ : Int) := by simp [IntKind.wrap, IntKind.bits, IntKind.signed]; omega
  have t5 : IntKind.u8.wrap ((μ : Int) + 121) = (μ : Int) + 121 := by simp [IntKind.wrap, IntKind.bits, IntKind.signed]; omega
  have μ0 : μ ≤ 120 := by omega
  have w1 : IntKind.i64.wrap ((c / 2 : Nat) : Int) = ((c / 2 : Nat) : Int) := by simp [IntKind.wrap, IntKind.bits, IntKind.signed]; omega
  have w2 : IntKind.i64.wrap ((c / 2 % 120 : Nat) : Int) = ((c / 2 % 120 : Nat) : Int) := by simp [IntKind.wrap, IntKind.bits, IntKind.signed]; omega
  generalize c / 2 % 120 = ν at *
  generalize c / 2 = κ at *
  have QN := Lib.hid (p := ∀ W v k zs, Own W Bl v k zs → ∀ L' c', BK W B q L' c' → v.ownBlock ≠ some q ∧ ∀ x, L'.ownBlock = some x → v.ownBlock ≠ some x) (fun W v k zs o L' c' b => by
    obtain ⟨cs, fz, ht⟩ := b.ty
    obtain ⟨wl, ol⟩ := b.own
    exact ⟨row_ne o ht (by decide), rows_ne o ol (by decide)⟩)
  clear h ho hL hμ
  go_enter Try.func42, Try.ntmps42
  go_wp2
  clear t1 t2 t1' t2' t3 w1 w2 c2 c3
  generalize hLL : Value.slice aL c cL = LL at *
  have HLL := Lib.hid hLL
  clear hLL
  go_loopw [5] (fun t wr => ∃ (k : Nat) (zs : List Int), k ≤ m ∧ t = .int .i64 (k : Int) ∧ Own wr Bl (.slice a m cp) m zs ∧ PutP w wr B q LL (.slice a m cp) c LL) (fun t _ => m - (intOf t).toNat)
  case atStart => exact ⟨0, ys, by omega, rfl, O0.out, P0.out⟩
  case round =>
    rename World => wr
    obtain ⟨k, zs, hk, rfl, hO, hP⟩ := hrel
    have OO := Lib.hid hO
    have PP := Lib.hid hP
    by_cases hlt : k < m
    · obtain ⟨g, rfl⟩ : ∃ g, a = some ⟨g, 0, none⟩ := by
        rcases hO.2 with ⟨e, h0⟩ | ⟨g, cc, cur, e, _⟩
        · omega
        · injection e with e; exact ⟨g, e⟩
      have kc : (k : Int) < (m : Int) := by omega
      obtain ⟨d1, d2⟩ := own_cell hO k hlt
      have SG := Lib.hid (World.ownsRow.stored hO k (.int .u8 (μ : Int))).2
      generalize zs.getD k 0 = old at d1
      clear hO hP
      go_wp2
      go_roundw
      case rel => exact ⟨k + 1, zs.set k (μ : Int), by omega, by go_num, own_set OO.out k _, PP.out.store SG.out (QN.out _ _ _ _ OO.out _ _ PP.out.bk).1 (QN.out _ _ _ _ OO.out _ _ PP.out.bk).2⟩
      case measure => simp [intOf]; omega
    · obtain rfl : k = m := by omega
      have x1 := hP.bk.l
      have SZ := Lib.hid (Nat.le_trans hB hP.keep.size)
      have SW := Lib.hid hP.keep.size
      obtain ⟨wsr, hor⟩ := hP.bk.own
      have LR := Lib.hid hor
      clear hO hP hor
      go_wp2_with (at_builtin; refine wp_listL _ _ _ _ rfl _ _ rfl B _ _ _ rfl rfl LR.out (by omega) SZ.out ?_; intro v2 w2 h1 h2 h3; obtain ⟨a2, cc2, rfl⟩ := rowL_form h1; obtain ⟨y1, y2⟩ := PP.out.at2 h2; have P2 := Lib.hid (PP.out.list h2 h1 h3 SW.out); have O2 := Lib.hid (own_list (L2 := .slice a2 (c + 1) cc2) (c' := 0) OO.out PP.out.bk h2); have S2 := Lib.hid (Nat.le_trans (Nat.le_trans hBl SW.out) h2.size); clear h1 h2 h3)
      go_loopw [1, 6] (fun v t wq => ∃ (i : Nat) (zs : List Int), i ≤ 90 ∧ t = .int .i64 (i : Int) ∧ Own wq Bl v (k + i) zs ∧ (v.ownBlock = Value.ownBlock (.slice a k cp) ∨ ∃ x, v.ownBlock = some x ∧ w.heap.size ≤ x) ∧ PutP w wq B q LL (.slice a k cp) (c + 1) (.slice a2 (c + 1) cc2)) (fun _ t _ => 90 - (intOf t).toNat)
      case atStart => exact ⟨0, _, by omega, rfl, O2.out, .inl rfl, P2.out⟩
      case round =>
        rename World => wq
        obtain ⟨i, zq, hi, rfl, hO, hV, hP⟩ := hrel
        have OQ := Lib.hid hO
        have PQ := Lib.hid hP
        have VQ := Lib.hid hV
        have SQ := Lib.hid hP.keep.size
        have QQ := Lib.hid (QN.out _ _ _ _ hO _ _ hP.bk)
        by_cases hlt : i < 90
        · have ic : (i : Int) < 90 := by omega
          clear hO hP hV
          go_wp2_with (at_builtin; refine wp_byteK _ _ rfl _ _ rfl Bl _ _ _ rfl rfl OQ.out (by omega) (Nat.le_trans hBl SQ.out) ?_; intro v3 w3 h1; have E3 := Lib.hid h1; clear h1)
          go_roundw
          case rel =>
            refine ⟨i + 1, _, by omega, by go_num, E3.out.own, ?_, PQ.out.store' E3.out.grown VQ.out QQ.out.1 QQ.out.2⟩
            rcases E3.out.at_ with r | ⟨x, r, hx⟩
            · rw [r]; exact VQ.out
            · exact .inr ⟨x, r, Nat.le_trans SQ.out hx⟩
          case measure => simp [intOf]; omega
        · obtain rfl : i = 90 := by omega
          obtain ⟨a9, c9, rfl⟩ := own_form hO
          have x1 := hP.bk.l
          have S9 := Lib.hid (Nat.le_trans hB hP.keep.size)
          obtain ⟨wsr, hor⟩ := hP.bk.own
          have LQ := Lib.hid hor
          clear hO hP hor hV
          go_wp2_with (at_builtin; refine wp_listL _ _ _ _ rfl _ _ rfl B _ _ _ rfl rfl LQ.out (by omega) S9.out ?_; intro v4 w4 h1 h2 h3; obtain ⟨a4, cc4, rfl⟩ := rowL_form h1; obtain ⟨y1, y2⟩ := PQ.out.at2 h2; have P4 := Lib.hid (PQ.out.list h2 h1 h3 SQ.out); clear h1 h2 h3)
          go_end0
          exact ⟨rfl, _, by rw [HLL.out]; exact P4.out⟩
end Go.Proofs.Ytfgmgcllplgpnaa
