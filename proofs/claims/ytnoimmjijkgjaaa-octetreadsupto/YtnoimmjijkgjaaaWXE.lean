/-
  WHAT STAYS WHILE A SCRIPT IS PLAYED: the bytes that were handed in, written over; a reader of them; the book.
-/
import Derived.Test.YtnoimmjijkgjaaaWBkLate2
import Derived.Test.YtnoimmjijkgjaaaWPX5
namespace Go.Proofs.Ytnoimmjijkgjaaa
open Go.RowKit
set_option linter.unusedVariables false
set_option linter.unusedSimpArgs false

/-- None of the two readers' blocks. -/
def NP (p p' : Nat) (v : Value) : Prop := ∀ x, v.ownBlock = some x → x ≠ p ∧ x ≠ p'
structure Out (w : World) (B p p' n gi ci p2 : Nat) (a2 : Option Addr) (c2 : Nat) : Prop where
  row : Own w B (.slice (some ⟨gi, 0, none⟩) (n + 90) ci) (n + 90) (List.replicate (n + 90) 238)
  rd : RB w B p2 a2 n c2 (List.replicate n 238) 0
  g1 : gi ≠ p ∧ gi ≠ p'
  r1 : p2 ≠ p ∧ p2 ≠ p'
  r2 : NP p p' (.slice a2 n c2)
section
variable {w w' : World} {B q p p' n gi ci p2 : Nat} {a2 : Option Addr} {c2 : Nat}
theorem Out.lt (h : Out w B p p' n gi ci p2 a2 c2) : gi < w.heap.size ∧ p2 < w.heap.size ∧ ∀ x, Value.ownBlock (.slice a2 n c2) = some x → x < w.heap.size :=
  ⟨(h.row.lt gi rfl).2, h.rd.lt, fun x hx => (h.rd.own.lt x hx).2⟩
theorem Out.blk (h : Out w B p p' n gi ci p2 a2 c2) (e1 : w'.heap[gi]? = w.heap[gi]?) (e2 : w'.heap[p2]? = w.heap[p2]?) (e3 : ∀ x, Value.ownBlock (.slice a2 n c2) = some x → w'.heap[x]? = w.heap[x]?) : Out w' B p p' n gi ci p2 a2 c2 :=
  ⟨own_blk h.row (fun g hg => by simp [Value.ownBlock] at hg; subst hg; exact e1), h.rd.blk e2 e3, h.g1, h.r1, h.r2⟩
theorem Out.st (h : Out w B p p' n gi ci p2 a2 c2) (e : ∀ k, k < w.heap.size → k ≠ p → k ≠ p' → w'.heap[k]? = w.heap[k]?) : Out w' B p p' n gi ci p2 a2 c2 :=
  h.blk (e _ h.lt.1 h.g1.1 h.g1.2) (e _ h.lt.2.1 h.r1.1 h.r1.2) (fun x hx => e x (h.lt.2.2 x hx) (h.r2 x hx).1 (h.r2 x hx).2)
/-- .. through a put: the blocks that it turns are a pair's, a row of lists, or new. -/
theorem Out.put (h : Out w B p p' n gi ci p2 a2 c2) {S : Nat → Prop} (K : Keep w w' S) (hS : ∀ x, S x → (∃ cs fz t, w.heap[x]? = some (.cells cs t fz) ∧ t ≠ 5 ∧ t ≠ 47) ∨ (x ≠ gi ∧ x ≠ p2 ∧ ∀ y, Value.ownBlock (.slice a2 n c2) = some y → x ≠ y)) : Out w' B p p' n gi ci p2 a2 c2 := by
  obtain ⟨cs, fz, tp⟩ := h.rd.ty
  refine h.blk (K.block _ h.lt.1 (fun s => ?_)) (K.block _ h.lt.2.1 (fun s => ?_)) (fun x hx => K.block x (h.lt.2.2 x hx) (fun s => ?_))
  · rcases hS _ s with ⟨cs', fz', t, ht, h1, h2⟩ | r
    · exact row_ne h.row ht h1 rfl
    · exact r.1 rfl
  · rcases hS _ s with ⟨cs', fz', t, ht, h1, h2⟩ | r
    · exact ty_ne ht tp h2 rfl
    · exact r.2.1 rfl
  · rcases hS _ s with ⟨cs', fz', t, ht, h1, h2⟩ | r
    · exact row_ne h.rd.own ht h1 hx
    · exact r.2.2 x hx rfl
/-- The book of a script that is played at once. -/
structure XE0 (w : World) (B q p p' : Nat) (L : Value) (c : Nat) (ws : List Value) : Prop where
  eb : EB w B q L (2 * c) ws
  en : ∀ j, j < c → Ent w ws j
  nq : q ≠ p ∧ q ≠ p'
  nL : NP p p' L
  nw : ∀ v ∈ ws, NP p p' v
theorem blk_map (a : Option Addr) (m cp : Nat) : Value.ownBlock (.slice a m cp) = a.map Addr.block := by cases a <;> rfl
theorem XE0.st {L : Value} {c : Nat} {ws : List Value} (h : XE0 w B q p p' L c ws) (hs : w.heap.size ≤ w'.heap.size) (e : ∀ k, k < w.heap.size → k ≠ p → k ≠ p' → w'.heap[k]? = w.heap[k]?) : XE0 w' B q p p' L c ws := by
  refine ⟨h.eb.blk (e q h.eb.lt h.nq.1 h.nq.2) (fun g hg => e g (h.eb.own.lt g hg).2 (h.nL g hg).1 (h.nL g hg).2), fun j hj => ?_, h.nq, h.nL, h.nw⟩
  obtain ⟨b, m, d, b4, d4, e1, e2, e3, e4, e5⟩ := h.en j hj
  refine ⟨b, m, d, b4, d4, e1, e2, e3, e4.kept hs (fun x o cs fz h0 ha hb => ?_), e5.kept hs (fun x o cs fz h0 ha hb => ?_)⟩
  · have := h.nw _ (List.mem_of_getElem? e1) x (by rw [blk_map, ha]; rfl)
    exact e x (Array.getElem?_eq_some_iff.1 hb).1 this.1 this.2
  · have := h.nw _ (List.mem_of_getElem? e2) x (by rw [blk_map, ha]; rfl)
    exact e x (Array.getElem?_eq_some_iff.1 hb).1 this.1 this.2
def XE (B q p p' n gi ci p2 : Nat) (a2 : Option Addr) (c2 : Nat) (i : Nat) (w : World) : Prop := ∃ L c ws, c ≤ i ∧ XE0 w B q p p' L c ws ∧ Out w B p p' n gi ci p2 a2 c2
theorem XE.st (i : Nat) : StX (XE B q p p' n gi ci p2 a2 c2 i) p p' := by
  rintro w w' ⟨L, c, ws, hc, h1, h2⟩ hs e
  exact ⟨L, c, ws, hc, h1.st hs e, h2.st e⟩
theorem XE.up {i : Nat} (h : XE B q p p' n gi ci p2 a2 c2 i w) : XE B q p p' n gi ci p2 a2 c2 (i + 1) w := by
  obtain ⟨L, c, ws, hc, h1⟩ := h
  exact ⟨L, c, ws, by omega, h1⟩
end
/-- A list is put into the book. -/
theorem putC_e (B q p : Nat) (a : Option Addr) (n cap : Nat) (xs : List Int) (p' : Nat) (a' : Option Addr) (cap' gi ci p2 : Nat) (a2 : Option Addr) (c2 i : Nat) (hn : n ≤ 140737488354000) (hi : i ≤ 400000000) :
    PutC B q p a n cap xs p' a' cap' (XE B q p p' n gi ci p2 a2 c2 i) (XE B q p p' n gi ci p2 a2 c2 (i + 1)) := by
  intro k0 k w0 W Bl s m cp l h0 K hW ho hBl hBlW hBW hm hb
  obtain ⟨L, c, ws, hc, hx, hO⟩ := h0.bk
  have e0 : ∀ k, k < w0.heap.size → k ≠ p → k ≠ p' → W.heap[k]? = w0.heap[k]? := fun k hk h1 h2 => K.block k hk (by rintro (e | e); exact h1 e; exact h2 e)
  have hX := hx.st K.size e0
  have hOW := hO.st e0
  have hBB : B ≤ w0.heap.size := by have := h0.rp.base; have := h0.rp.lt; omega
  refine (put_e B q (2 * c) ws L s m cp Bl l (1 + c % 120) W hX.eb ho (by omega) (by omega) hBW hBlW (by rw [Nat.mul_div_cancel_left _ (by omega : 0 < 2)])).mono ?_
  rintro e W' ⟨rfl, L', a4, c4, P, T1, T2, at4⟩
  obtain ⟨cs, fz, tq⟩ := hX.eb.ty
  obtain ⟨cs1, fz1, tp⟩ := hW.rp.ty
  obtain ⟨cs2, fz2, tr⟩ := hW.rr.ty
  have lp := hW.rp.lt
  have lp' := hW.rr.lt
  have nl : ∀ x, Value.ownBlock (.slice s m cp) = some x → w0.heap.size ≤ x := fun x hx' => Nat.le_trans hBl (ho.lt x hx').1
  have nlp : NP p p' (.slice s m cp) := fun x hx' => ⟨fun e => row_ne ho tp (by decide) (by rw [hx', e]), fun e => row_ne ho tr (by decide) (by rw [hx', e])⟩
  have wl : ws.length = 2 * c := by have := hX.eb.own.1; omega
  have kb : ∀ x, x < W.heap.size → x ≠ q → L.ownBlock ≠ some x → Value.ownBlock (.slice s m cp) ≠ some x → W'.heap[x]? = W.heap[x]? := fun x hx h1 h2 h3 => P.keep.block x hx (by
    rintro (e | e | e)
    · exact h1 e
    · exact h2 e
    · exact h3 e)
  have X' : XE0 W' B q p p' L' (c + 1) (ws ++ [.slice s m cp] ++ [.slice a4 (m + 90) c4]) := by
    refine ⟨by have := P.bk; rwa [show 2 * (c + 1) = 2 * c + 2 by omega], fun j hj => ?_, hX.nq, fun x hx' => ?_, fun v hv => ?_⟩
    · rcases (show j < c ∨ j = c by omega) with r | r
      · rw [List.append_assoc]
        refine ent_app ?_ (by omega)
        obtain ⟨b, m', d, b4, d4, e1, e2, e3, e4, e5⟩ := hX.en j r
        obtain ⟨b', m'', d', b4', d4', f1, f2, f3, f4, f5⟩ := hx.en j r
        rw [e1] at f1; injection f1 with f1; injection f1 with f1 f1' f1''; subst f1 f1' f1''
        rw [e2] at f2; injection f2 with f2; injection f2 with f2 f2' f2''; subst f2
        refine ⟨b, m', d, b4, d4, e1, e2, e3, e4.kept P.keep.size (fun x o cs' fz' g0 ha hb' => kb x (Array.getElem?_eq_some_iff.1 hb').1 (e4.ne tq (by decide) x o g0 ha) (row_ne hX.eb.own hb' (by decide)) (fun e => by have := nl x e; have := f4.lt x o g0 ha; omega)), e5.kept P.keep.size (fun x o cs' fz' g0 ha hb' => kb x (Array.getElem?_eq_some_iff.1 hb').1 (e5.ne tq (by decide) x o g0 ha) (row_ne hX.eb.own hb' (by decide)) (fun e => by have := nl x e; have := f5.lt x o g0 ha; omega))⟩
      · subst r
        refine ⟨s, m, cp, a4, c4, ?_, ?_, by omega, T1, T2⟩
        · rw [List.append_assoc, List.getElem?_append_right (by omega), wl]; simp
        · rw [List.append_assoc, List.getElem?_append_right (by omega), wl, show 2 * j + 1 - 2 * j = 1 by omega]; simp
    · rcases P.at_ with r | ⟨g, r, hg⟩
      · exact hX.nL x (by rw [← r]; exact hx')
      · rw [r] at hx'; injection hx' with hx'; exact ⟨by omega, by omega⟩
    · rw [List.append_assoc] at hv
      rcases List.mem_append.1 hv with hv | hv
      · exact hX.nw v hv
      · simp at hv
        rcases hv with rfl | rfl
        · exact nlp
        · rcases at4 with r | ⟨y, r, hy⟩
          · intro x hx'; rw [r] at hx'; exact nlp x hx'
          · intro x hx'; rw [r] at hx'; injection hx' with hx'; exact ⟨by omega, by omega⟩
  have O' : Out W' B p p' n gi ci p2 a2 c2 := hOW.put P.keep (fun x hx' => by
    rcases hx' with e | e | e
    · subst e; exact .inl ⟨cs, fz, _, tq, by decide, by decide⟩
    · rcases hX.eb.own.2 with ⟨e', _⟩ | ⟨g, c', cur, e', _, hg, _⟩
      · rw [e'] at e; cases e
      · rw [e'] at e; simp [Value.ownBlock] at e; subst e
        exact .inl ⟨cur, _, _, hg, by decide, by decide⟩
    · have := nl x e
      have h3 := hO.lt
      exact .inr ⟨by omega, by omega, fun y hy => by have := h3.2.2 y hy; omega⟩)
  have hne := hW.ne
  refine ⟨rfl, ⟨(P.rest 0 (by omega)).trans hW.c0, (P.rest 1 (by omega)).trans hW.c1, P.bk.ty, hW.base, ⟨L', c + 1, _, by omega, X', O'⟩, XE.st _, hW.rp.blk (kb p lp (fun e => hne.1 e.symm) (fun e => (hX.nL p e).1 rfl) (fun e => (nlp p e).1 rfl)) (fun x hx' => kb x (hW.rp.own.lt x hx').2 (fun e => hne.2.2.2.2.2.1 (by rw [hx', e])) (fun e => rows_ne hW.rp.own hX.eb.own (by decide) x e hx') (fun e => by have := nl x e; have := (h0.rp.own.lt x hx').2; omega)), hW.rr.blk (kb p' lp' (fun e => hne.2.1 e.symm) (fun e => (hX.nL p' e).2 rfl) (fun e => (nlp p' e).2 rfl)) (fun x hx' => kb x (hW.rr.own.lt x hx').2 (fun e => hne.2.2.2.2.2.2 (by rw [hx', e])) (fun e => rows_ne hW.rr.own hX.eb.own (by decide) x e hx') (fun e => by have := nl x e; have := (h0.rr.own.lt x hx').2; omega))⟩, P.keep.below (fun x hx' => ?_) hBW⟩
  rcases hx' with e | e | e
  · rw [e]; exact hW.base
  · exact (hX.eb.own.lt x e).1
  · have := nl x e; omega
end Go.Proofs.Ytnoimmjijkgjaaa
