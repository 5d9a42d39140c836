/-
  WHAT STAYS WHILE A SCRIPT IS PLAYED, THE BOOK BEING LATE.
-/
import Derived.Test.YtnoimmjijkgjaaaWXE
namespace Go.Proofs.Ytnoimmjijkgjaaa
open Go.RowKit
set_option linter.unusedVariables false
set_option linter.unusedSimpArgs false

section
variable {w w' : World} {B q p p' n gi ci p2 : Nat} {a2 : Option Addr} {c2 : Nat}
structure XL0 (w : World) (B q p p' : Nat) (R S : Value) (c : Nat) (rs ss : List Value) : Prop where
  lb : LBk w B q R S c c rs ss
  en : ∀ j, j < c → LEnt w B rs ss j
  pw : PW rs
  nq : q ≠ p ∧ q ≠ p'
  nR : NP p p' R
  nS : NP p p' S
  nr : ∀ v ∈ rs, NP p p' v
  ns : ∀ (i : Nat) a m d, ss[i]? = some (.slice a m d) → m ≠ 0 → ∀ b o, a = some ⟨b, o, none⟩ → b ≠ p ∧ b ≠ p'
theorem XL0.st {R S : Value} {c : Nat} {rs ss : List Value} (h : XL0 w B q p p' R S c rs ss) (hs : w.heap.size ≤ w'.heap.size) (e : ∀ k, k < w.heap.size → k ≠ p → k ≠ p' → w'.heap[k]? = w.heap[k]?) : XL0 w' B q p p' R S c rs ss := by
  refine ⟨h.lb.blk (e q h.lb.lt h.nq.1 h.nq.2) (fun g hg => ?_), fun j hj => ?_, h.pw, h.nq, h.nR, h.nS, h.nr, h.ns⟩
  · rcases hg with hg | hg
    · exact e g (h.lb.ownR.lt g hg).2 (h.nR g hg).1 (h.nR g hg).2
    · exact e g (h.lb.ownS.lt g hg).2 (h.nS g hg).1 (h.nS g hg).2
  · obtain ⟨a, m, cp, ys, a2, d2, e1, e2, e3, e4, e5, e6⟩ := h.en j hj
    refine ⟨a, m, cp, ys, a2, d2, e1, e2, own_blk e3 (fun x hx => ?_), e4, e5, e6.kept hs (fun x o cs fz h0 ha hb => ?_)⟩
    · have := h.nr _ (List.mem_of_getElem? e1) x hx
      exact e x (e3.lt x hx).2 this.1 this.2
    · have := h.ns j a2 m d2 e2 h0 x o ha
      exact e x (Array.getElem?_eq_some_iff.1 hb).1 this.1 this.2
def XL (B q p p' n gi ci p2 : Nat) (a2 : Option Addr) (c2 : Nat) (i : Nat) (w : World) : Prop := ∃ R S c rs ss, c ≤ i ∧ XL0 w B q p p' R S c rs ss ∧ Out w B p p' n gi ci p2 a2 c2
theorem XL.st (i : Nat) : StX (XL B q p p' n gi ci p2 a2 c2 i) p p' := by
  rintro w w' ⟨R, S, c, rs, ss, hc, h1, h2⟩ hs e
  exact ⟨R, S, c, rs, ss, hc, h1.st hs e, h2.st e⟩
theorem XL.up {i : Nat} (h : XL B q p p' n gi ci p2 a2 c2 i w) : XL B q p p' n gi ci p2 a2 c2 (i + 1) w := by
  obtain ⟨R, S, c, rs, ss, hc, h1⟩ := h
  exact ⟨R, S, c, rs, ss, by omega, h1⟩
end
theorem row_ty {w : World} {e : TypeId} {B : Nat} {v : Value} {n : Nat} {xs : List Value} (h : w.ownsRow B e 1 v n xs) : ∀ x, v.ownBlock = some x → ∃ cs fz, w.heap[x]? = some (.cells cs e fz) := by
  intro x hx
  rcases h.2 with ⟨e', _⟩ | ⟨g, c', cur, e', _, hg, _⟩
  · rw [e'] at hx; cases hx
  · rw [e'] at hx; simp [Value.ownBlock] at hx; subst hx; exact ⟨_, _, hg⟩
/-- A list is put into the book. -/
theorem putC_l (B q p : Nat) (a : Option Addr) (n cap : Nat) (xs : List Int) (p' : Nat) (a' : Option Addr) (cap' gi ci p2 : Nat) (a2 : Option Addr) (c2 i : Nat) (hn : n ≤ 140737488354000) (hi : i ≤ 400000000) :
    PutC B q p a n cap xs p' a' cap' (XL B q p p' n gi ci p2 a2 c2 i) (XL B q p p' n gi ci p2 a2 c2 (i + 1)) := by
  intro k0 k w0 W Bl s m cp l h0 K hW ho hBl hBlW hBW hm hb
  obtain ⟨R, S, c, rs, ss, hc, hx, hO⟩ := h0.bk
  have e0 : ∀ k, k < w0.heap.size → k ≠ p → k ≠ p' → W.heap[k]? = w0.heap[k]? := fun k hk h1 h2 => K.block k hk (by rintro (e | e); exact h1 e; exact h2 e)
  have hX := hx.st K.size e0
  have hOW := hO.st e0
  have hBB : B ≤ w0.heap.size := by have := h0.rp.base; have := h0.rp.lt; omega
  refine (put_l B q c rs ss R S s m cp Bl l W hX.lb ho hb (by omega) (by omega) hBW).mono ?_
  rintro e W' ⟨rfl, R', S', a9, c9, L9, K9, T9, C9⟩
  obtain ⟨cs, tq⟩ := hX.lb.ty
  obtain ⟨cs1, fz1, tp⟩ := hW.rp.ty
  obtain ⟨cs2, fz2, tr⟩ := hW.rr.ty
  have lp := hW.rp.lt
  have lp' := hW.rr.lt
  have nl : ∀ x, Value.ownBlock (.slice s m cp) = some x → w0.heap.size ≤ x := fun x hx' => Nat.le_trans hBl (ho.lt x hx').1
  have nlp : NP p p' (.slice s m cp) := fun x hx' => ⟨fun e => row_ne ho tp (by decide) (by rw [hx', e]), fun e => row_ne ho tr (by decide) (by rw [hx', e])⟩
  have rl : rs.length = c := by have := hX.lb.ownR.1; omega
  have sl : ss.length = c := by have := hX.lb.ownS.1; omega
  have kb : ∀ x, x < W.heap.size → x ≠ q → R.ownBlock ≠ some x → S.ownBlock ≠ some x → W'.heap[x]? = W.heap[x]? := fun x hx h1 h2 h3 => K9.block x hx (by
    rintro (e | e | e)
    · exact h1 e
    · exact h2 e
    · exact h3 e)
  have ob : ∀ {Bx : Nat} {v : Value} {nn : Nat} {zs : List Int}, Own W Bx v nn zs → Own W' Bx v nn zs := fun {Bx v nn zs} o => own_blk o (fun x hx' => kb x (o.lt x hx').2 (fun e => row_ne o tq (by decide) (by rw [hx', e])) (fun e => rows_ne o hX.lb.ownR (by decide) x e hx') (fun e => rows_ne o hX.lb.ownS (by decide) x e hx'))
  have ep := kb p lp (fun e => hW.ne.1 e.symm) (fun e => (hX.nR p e).1 rfl) (fun e => (hX.nS p e).1 rfl)
  have ep' := kb p' lp' (fun e => hW.ne.2.1 e.symm) (fun e => (hX.nR p' e).2 rfl) (fun e => (hX.nS p' e).2 rfl)
  have tyR := row_ty L9.ownR
  have tyS := row_ty L9.ownS
  have X' : XL0 W' B q p p' R' S' (c + 1) (rs ++ [.slice s m cp]) (ss ++ [.slice a9 m c9]) := by
    refine ⟨L9, fun j hj => ?_, fun i j u v hij hu hv x hx' e => ?_, hX.nq, fun x hx' => ?_, fun x hx' => ?_, fun v hv => ?_, fun j b m' d hj h0' b' o' hb' => ?_⟩
    · rcases (show j < c ∨ j = c by omega) with r | r
      · obtain ⟨b, m', d, ys, b2, d2, e1, e2, e3, e4, e5, e6⟩ := hX.en j r
        exact ⟨b, m', d, ys, b2, d2, by rw [List.getElem?_append_left (by omega)]; exact e1, by rw [List.getElem?_append_left (by omega)]; exact e2, ob e3, e4, e5, hX.lb.bt K9 e6⟩
      · subst r
        exact ⟨s, m, cp, l, a9, c9, by rw [List.getElem?_append_right (by omega), rl]; simp, by rw [List.getElem?_append_right (by omega), sl]; simp, own_low (ob ho) (by omega), hb, by omega, T9⟩
    · have hj := (List.getElem?_eq_some_iff.1 hv).1
      simp at hj
      rcases (show j < c ∨ j = c by omega) with r | r
      · rw [List.getElem?_append_left (by omega)] at hu hv
        exact hX.pw i j u v hij hu hv x hx' e
      · subst r
        rw [List.getElem?_append_left (by omega)] at hu
        rw [List.getElem?_append_right (by omega), rl] at hv
        simp at hv
        subst hv
        obtain ⟨b, m', d, ys, b2, d2, e1, e2, e3, e4, e5, e6⟩ := hx.en i (by omega)
        rw [hu] at e1; injection e1 with e1; subst e1
        have h1 := (e3.lt x hx').2
        have h2 := nl x e
        omega
    · obtain ⟨ds, gz, t⟩ := tyR x hx'
      exact ⟨fun e => ty_ne t (ep.trans tp) (by decide) e, fun e => ty_ne t (ep'.trans tr) (by decide) e⟩
    · obtain ⟨ds, gz, t⟩ := tyS x hx'
      exact ⟨fun e => ty_ne t (ep.trans tp) (by decide) e, fun e => ty_ne t (ep'.trans tr) (by decide) e⟩
    · rcases List.mem_append.1 hv with hv | hv
      · exact hX.nr v hv
      · simp at hv; subst hv; exact nlp
    · have hjl := (List.getElem?_eq_some_iff.1 hj).1
      simp at hjl
      rcases (show j < c ∨ j = c by omega) with r | r
      · rw [List.getElem?_append_left (by omega)] at hj
        exact hX.ns j b m' d hj h0' b' o' hb'
      · subst r
        rw [List.getElem?_append_right (by omega), sl] at hj
        simp at hj
        obtain ⟨r1, r2, r3⟩ := hj
        subst r1 r2 r3
        exact ⟨T9.ne (ep.trans tp) (by decide) b' o' h0' hb', T9.ne (ep'.trans tr) (by decide) b' o' h0' hb'⟩
  have O' : Out W' B p p' n gi ci p2 a2 c2 := hOW.put K9 (fun x hx' => by
    rcases hx' with e | e | e
    · subst e; exact .inl ⟨cs, _, _, tq, by decide, by decide⟩
    · obtain ⟨ds, gz, t⟩ := row_ty hX.lb.ownR x e; exact .inl ⟨ds, gz, _, t, by decide, by decide⟩
    · obtain ⟨ds, gz, t⟩ := row_ty hX.lb.ownS x e; exact .inl ⟨ds, gz, _, t, by decide, by decide⟩)
  obtain ⟨cs9, t9⟩ := L9.ty
  refine ⟨rfl, ⟨(C9 0 (by omega)).trans hW.c0, (C9 1 (by omega)).trans hW.c1, ⟨cs9, _, t9⟩, hW.base, ⟨R', S', c + 1, _, _, by omega, X', O'⟩, XL.st _, hW.rp.blk ep (fun x hx' => kb x (hW.rp.own.lt x hx').2 (fun e => hW.ne.2.2.2.2.2.1 (by rw [hx', e])) (fun e => rows_ne hW.rp.own hX.lb.ownR (by decide) x e hx') (fun e => rows_ne hW.rp.own hX.lb.ownS (by decide) x e hx')), hW.rr.blk ep' (fun x hx' => kb x (hW.rr.own.lt x hx').2 (fun e => hW.ne.2.2.2.2.2.2 (by rw [hx', e])) (fun e => rows_ne hW.rr.own hX.lb.ownR (by decide) x e hx') (fun e => rows_ne hW.rr.own hX.lb.ownS (by decide) x e hx'))⟩, K9.below (fun x hx' => ?_) hBW⟩
  rcases hx' with e | e | e
  · rw [e]; exact hW.base
  · exact (hX.lb.ownR.lt x e).1
  · exact (hX.lb.ownS.lt x e).1
end Go.Proofs.Ytnoimmjijkgjaaa
