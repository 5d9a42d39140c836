/-
  PLAIN: a reading hangs on the bytes up to its place.
-/
import Derived.Test.YtmdgfcldohmjdaaDoorPlainFlowOnly
namespace Go.Proofs.YtmdgfcldohmjdaaDoor
open Go.RowKit
set_option linter.unusedVariables false
set_option linter.unusedSimpArgs false

/-- Two texts that are alike up to a place; at the place the second has the same byte, or ends. -/
structure Ag (s s' : ByteArray) (p : Nat) : Prop where
  b : ∀ i, i < p → at8 s' i = at8 s i
  e : at8 s' p = at8 s p ∨ at8 s' p = 0
  x : ∀ a c, c ≤ p → s'.extract a c = s.extract a c
theorem Ag.no {s s' : ByteArray} {p i : Nat} (h : Ag s s' p) (hi : i ≤ p) {v : Int} (hv : v ≠ 0) (hn : at8 s i ≠ v) : at8 s' i ≠ v := by
  rcases Nat.lt_or_ge i p with q | q
  · rw [h.b i q]; exact hn
  · obtain rfl : i = p := by omega
    rcases h.e with e | e
    · rw [e]; exact hn
    · rw [e]; exact fun q => hv q.symm
theorem preD_ag {s s' : ByteArray} {p fr lim : Nat} (h : Ag s s' p) : ∀ j, fr + j ≤ p → preD s' fr lim j = preD s fr lim j
  | 0, _ => rfl
  | j + 1, hj => by
    unfold preD
    rw [preD_ag h j (by omega), h.b (fr + j) (by omega)]
theorem nd_ag {s s' : ByteArray} {p at_ lim k n : Nat} {wh : Bool} (h : Ag s s' p) (hk : k ≤ p) (hn : ND s at_ lim k n wh) : ND s' at_ lim k n wh := by
  rcases hn with ⟨h1, rfl, h3, h4⟩ | ⟨h1, j, h2, rfl, h4⟩
  · exact .inl ⟨by rw [h.b at_ (by omega)]; exact h1, rfl, h3, h4⟩
  · refine .inr ⟨h.no (by omega) (by omega) h1, j, ⟨by rw [preD_ag h j hk]; exact h2.1, ?_⟩, rfl, h4⟩
    have e1 : preD s' at_ lim j = some n := by rw [preD_ag h j hk]; exact h2.1
    rcases Nat.lt_or_ge (at_ + j) p with q | q
    · rw [preD_ag h (j + 1) (by omega)]; exact h2.2
    · have e0 : at_ + j = p := by omega
      rw [preD_succ e1]
      have e2 := h2.2
      rw [preD_succ h2.1] at e2
      rw [e0] at e2 ⊢
      rcases h.e with e | e
      · rw [e]; exact e2
      · rw [e]; unfold stepD; rw [if_neg (fun q => absurd q.1 (by decide))]
theorem cur_ag {s s' : ByteArray} {p at_ k : Nat} {wh : Bool} (h : Ag s s' p) (hk : k ≤ p) (hn : CurS s at_ k wh) : CurS s' at_ k wh := by
  obtain ⟨j, j1, rfl, j3, j4⟩ := hn
  refine ⟨j, j1, rfl, fun i hi => by rw [h.b (at_ + i) (by omega)]; exact j3 i hi, ?_⟩
  rcases j4 with j4 | ⟨q1, q2, q3⟩
  · exact .inl j4
  · refine .inr ⟨q1, q2, ?_⟩
    rcases Nat.lt_or_ge (at_ + j) p with q | q
    · rw [h.b _ q]; exact q3
    · have e0 : at_ + j = p := by omega
      rw [e0] at q3 ⊢
      rcases h.e with e | e
      · rw [e]; exact q3
      · rw [e]; decide
theorem sn_ag {s s' : ByteArray} {p at_ k : Nat} {m : Int} {wh : Bool} (h : Ag s s' p) (hk : k ≤ p) (hn : SN s at_ k m wh) : SN s' at_ k m wh := by
  rcases hn with ⟨a, n, b, c⟩ | ⟨a, a1, rfl, c, d⟩ | ⟨a, a1, n, b, c⟩
  · have := nd_le b
    exact .inl ⟨h.no (by omega) (by omega) a, n, nd_ag h hk b, c⟩
  · have a' : at8 s' at_ = 45 := by rw [h.b at_ (by omega)]; exact a
    by_cases q : at8 s' (at_ + 1) = 48
    · exact .inr (.inl ⟨a', q, rfl, c, d⟩)
    · refine .inr (.inr ⟨a', q, 0, .inr ⟨q, 0, ⟨rfl, ?_⟩, rfl, by rw [c]; rfl⟩, by rw [d]; rfl⟩)
      rw [preD_succ (n := 0) rfl, Nat.add_zero]
      have e0 : at_ + 1 = p := by
        rcases Nat.lt_or_ge (at_ + 1) p with r | r
        · exact absurd (by rw [h.b _ r]; exact a1) q
        · omega
      rcases h.e with e | e
      · exact absurd (by rw [e0, e, ← e0]; exact a1) q
      · rw [e0, e]; unfold stepD; rw [if_neg (fun q => absurd q.1 (by decide))]
  · have := nd_le b
    exact .inr (.inr ⟨by rw [h.b at_ (by omega)]; exact a, h.no (by omega) (by omega) a1, n, nd_ag h hk b, c⟩)
theorem sn_le {s : ByteArray} {at_ k : Nat} {m : Int} {wh : Bool} (n3 : SN s at_ k m wh) : at_ ≤ k := by
  rcases n3 with ⟨_, n, b, _⟩ | ⟨_, _, b, _⟩ | ⟨_, _, n, b, _⟩
  · exact nd_le b
  · omega
  · have := nd_le b; omega
theorem line_ag {s s' : ByteArray} {p at_ k : Nat} {r : Option Fl} (h : Ag s s' p) (hk : k ≤ p) (l : LineS s at_ k r) : LineS s' at_ k r := by
  obtain ⟨k1, d, wh1, n1, l⟩ := l
  have a1 := nd_le n1
  rcases l with ⟨a, rfl, c⟩ | ⟨a, a2, k2, wh2, n2, l⟩
  · refine ⟨k, d, wh1, nd_ag h hk n1, .inl ⟨?_, rfl, c⟩⟩
    rcases a with a | a
    · exact .inl a
    · exact .inr (h.no hk (by omega) a)
  have c2 : k1 + 1 ≤ k2 := by obtain ⟨j, _, q, _⟩ := n2; omega
  rcases l with ⟨b, rfl, c⟩ | ⟨b, b2, k3, m, wh3, n3, l⟩
  · refine ⟨k1, d, wh1, nd_ag h (by omega) n1, .inr ⟨a, by rw [h.b k1 (by omega)]; exact a2, k, wh2, cur_ag h hk n2, .inl ⟨?_, rfl, c⟩⟩⟩
    rcases b with b | b
    · exact .inl b
    · exact .inr (h.no hk (by omega) b)
  have c3 := sn_le n3
  rcases l with ⟨e, rfl, c⟩ | ⟨e, e2, rfl, c⟩
  · refine ⟨k1, d, wh1, nd_ag h (by omega) n1, .inr ⟨a, by rw [h.b k1 (by omega)]; exact a2, k2, wh2, cur_ag h (by omega) n2, .inr ⟨b, by rw [h.b k2 (by omega)]; exact b2, k, m, wh3, sn_ag h hk n3, .inl ⟨?_, rfl, c⟩⟩⟩⟩
    rcases e with e | e
    · exact .inl e
    · exact .inr (h.no hk (by omega) e)
  · have c4 : k1 + 4 ≤ k3 + 1 := by
      obtain ⟨j, _, q, _, q4⟩ := n2
      rcases q4 with q4 | q4
      · omega
      · rw [b] at q4; cases q4.1
    refine ⟨k1, d, wh1, nd_ag h (by omega) n1, .inr ⟨a, by rw [h.b k1 (by omega)]; exact a2, k2, wh2, cur_ag h (by omega) n2, .inr ⟨b, by rw [h.b k2 (by omega)]; exact b2, k3, m, wh3, sn_ag h (by omega) n3, .inr ⟨e, by rw [h.b k3 (by omega)]; exact e2, rfl, ?_⟩⟩⟩⟩
    rw [c, h.x _ _ (by omega)]
/-- The same error at the same place, whatever stands behind. -/
theorem run_more {s s' : ByteArray} {at_ p : Nat} {fs gs : List Fl} {e : Int} (r : Run s at_ fs gs p e) : at_ ≤ s.size → e ≠ 0 → Ag s s' p → p < s'.size → Run s' at_ fs [] p 31 := by
  induction r with
  | stop h => intro _ q; exact absurd rfl q
  | @bad at_ k fs h l =>
    intro ha _ ag hp
    have := ((run_fwd (.bad (fs := fs) h l)) ha).2 (by decide)
    exact .bad (by omega) (line_ag ag (Nat.le_refl _) l)
  | @step at_ k p fs gs f e h l r ih =>
    intro ha q ag hp
    obtain ⟨_, _, l3, l4, _⟩ := line_fwd l
    have hp2 := ((run_fwd r) l4).2 q
    exact .step (by omega) (line_ag ag hp2.2.2 l) (ih l4 q ag hp)
/-- Cut at the place of its error a text ends too early there, or is whole. -/
theorem run_cut {s s' : ByteArray} {at_ p : Nat} {fs gs : List Fl} {e : Int} (r : Run s at_ fs gs p e) : at_ ≤ s.size → e ≠ 0 → Ag s s' p → s'.size = p → ∃ gs' p' e', Run s' at_ fs gs' p' e' ∧ (e' = 0 ∨ p' = p) := by
  induction r with
  | stop h => intro _ q; exact absurd rfl q
  | @bad at_ k fs h l =>
    intro ha _ ag hp
    by_cases q : at_ < k
    · exact ⟨[], k, 31, .bad (by omega) (line_ag ag (Nat.le_refl _) l), .inr rfl⟩
    · exact ⟨fs, 0, 0, .stop (by omega), .inl rfl⟩
  | @step at_ k p fs gs f e h l r ih =>
    intro ha q ag hp
    obtain ⟨_, _, l3, l4, _⟩ := line_fwd l
    have hp2 := ((run_fwd r) l4).2 q
    obtain ⟨gs', p', e', r', h'⟩ := ih l4 q ag hp
    exact ⟨gs', p', e', .step (by omega) (line_ag ag hp2.2.2 l) r', h'⟩
theorem run_end {s : ByteArray} {at_ p : Nat} {fs gs : List Fl} {e : Int} (r : Run s at_ fs gs p e) : at_ ≤ s.size → p ≤ s.size := by
  induction r with
  | stop h => intro _; omega
  | @bad at_ k fs h l =>
    intro ha
    obtain ⟨k1, d, wh1, n1, l⟩ := l
    have up : ∀ {x lim y n : Nat} {w : Bool}, x ≤ s.size → ND s x lim y n w → y ≤ s.size := fun {x lim y n w} hx h => by
      rcases h with ⟨h1, rfl, _⟩ | ⟨h1, j, h2, rfl, _⟩
      · exact at8_pos (by rw [h1]; decide)
      · rcases Nat.eq_zero_or_pos j with q | q
        · omega
        · obtain ⟨i, rfl⟩ : ∃ i, j = i + 1 := ⟨j - 1, by omega⟩
          cases hp : preD s x lim i with
          | none => have := h2.1; rw [preD, hp] at this; cases this
          | some v =>
            have := h2.1
            rw [preD_succ hp] at this
            unfold stepD at this
            split at this
            · rename_i c
              have := at8_pos (s := s) (i := x + i) (fun e => by rw [e] at c; exact absurd c.1 (by decide))
              omega
            · cases this
    have u1 := up ha n1
    rcases l with ⟨a, rfl, c⟩ | ⟨a, a2, k2, wh2, n2, l⟩
    · exact u1
    have v1 := at8_pos (s := s) (i := k1) (by rw [a2]; decide)
    have u2 : k2 ≤ s.size := by
      obtain ⟨j, j1, rfl, j3, _⟩ := n2
      rcases Nat.eq_zero_or_pos j with q | q
      · omega
      · have := at8_pos (s := s) (i := k1 + 1 + (j - 1)) (fun e => by have := j3 (j - 1) (by omega); rw [e] at this; exact absurd this (by decide))
        omega
    rcases l with ⟨b, rfl, c⟩ | ⟨b, b2, k3, m, wh3, n3, l⟩
    · exact u2
    have v2 := at8_pos (s := s) (i := k2) (by rw [b2]; decide)
    have u3 : k3 ≤ s.size := by
      rcases n3 with ⟨_, n, q, _⟩ | ⟨q, _, r, _⟩ | ⟨q0, _, n, q, _⟩
      · exact up v2 q
      · have := at8_pos (s := s) (i := k2 + 1) (by rw [q]; decide)
        omega
      · have := at8_pos (s := s) (i := k2 + 1) (by rw [q0]; decide)
        exact up this q
    rcases l with ⟨e, rfl, c⟩ | ⟨e, e2, rfl, c⟩
    · exact u3
    · cases c
  | @step at_ k p fs gs f e h l r ih => intro ha; exact ih (line_fwd l).2.2.2.1
end Go.Proofs.YtmdgfcldohmjdaaDoor
