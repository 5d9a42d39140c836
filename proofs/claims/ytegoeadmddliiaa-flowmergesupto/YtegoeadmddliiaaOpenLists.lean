/-
  OPENING A SLICE OF SLICES OF FLOWS (own work), of bulk at most 1048576.
-/
import Derived.Test.YtegoeadmddliiaaWMerge1
import Derived.Test.YtegoeadmddliiaaRows
namespace Go.Proofs.Ytegoeadmddliiaa
open Go.ChangeShapes Go.WideShapes Go.ChangeAt Go.RowKit Go.Deep
set_option linter.unusedVariables false

theorem fl_of_isL {w : World} {a : Option Addr} {len cap : Nat} {fs : List Fl} (hb : len * 32 ≤ 140737488351232) (h : IsFls w a len cap fs) : FL w a len fs := by
  rcases h with ⟨rfl, rfl, rfl, rfl⟩ | ⟨x, rfl, h1, h2, h3, h4, h5⟩
  · exact ⟨rfl, by omega, .inl rfl⟩
  · refine ⟨h3, by omega, ?_⟩
    by_cases h0 : len = 0
    · exact .inl h0
    · obtain ⟨b, o, s⟩ := x
      have hc := (h5 0 (by omega)).1
      have hs : s = none := by simpa [Addr.add] using World.cell?_spot hc
      subst hs
      refine .inr ⟨b, o, rfl, ?_, fun i hi => ?_⟩
      · have e : (⟨b, o, none⟩ : Addr).add (0 * 3) = ⟨b, o, none⟩ := by simp [Addr.add]
        rw [e] at hc
        by_cases hlt : b < w.heap.size
        · exact hlt
        · exfalso
          have hn : w.heap[b]? = none := by simp; omega
          simp [World.cell?, hn] at hc
      · have := h5 i hi
        rw [Go.Addr.add_lit, Go.Addr.add_lit, Go.Addr.add_lit] at this
        exact this
def IsLists (W : World) (a : Option Addr) (len : Nat) (Zs : List (List Fl)) : Prop :=
  Zs.length = len ∧ (len = 0 ∨ ∃ y, a = some y ∧ ∀ i, i < len → ∃ xa l c, W.cell? (y.add i) = some (.slice xa l c) ∧ IsFls W xa l c (Zs.getD i []))
theorem IsFls.len {w : World} {a : Option Addr} {len cap : Nat} {fs : List Fl} (h : IsFls w a len cap fs) : fs.length = len := by
  rcases h with ⟨_, rfl, _, rfl⟩ | ⟨x, _, _, _, h, _⟩
  · rfl
  · exact h
theorem open_lists {H : Type} {enc : TypeId × Value → H} {P : Program} {W : World} {base : Nat} {sp : Nat → Bool} {held : Bool} {TT T t e s : TypeId} {fs : Array Field} {fuel : Nat} {a : Option Addr} {len cap : Nat} {x : DataW H × List MemPlace}
    (hTT : P.underlying TT = some (.slice T)) (hcT : P.cellsOf T = 1) (hT : P.underlying T = some (.slice t)) (ht : P.underlying t = some (.struct fs)) (hfs : fs.toList.map (fun f => (f.type, f.offset)) = [(e, 0), (s, 1), (e, 2)]) (he : P.underlying e = some (.int .i64)) (hs : P.underlying s = some .string) (hc : P.cellsOf e = 1) (hcs : P.cellsOf s = 1) (hct : P.cellsOf t = 3)
    (h : DataW.trod enc P W base sp held fuel TT [.slice a len cap] = some x) : ∃ Zs, IsLists W a len Zs ∧ (len = 0 ∨ ∃ (D : Nat → DataW H) (r : List (DataW H)), x.1 = .slice ((List.range len).map D) r ∧ ∀ i, i < len → ((Zs.getD i []).length = 0 ∨ ∃ l r, D i = .slice l r ∧ l.length = (Zs.getD i []).length)) := by
  rcases open_slice hTT h with ⟨h0, _⟩ | ⟨y, l, c, m, n, D, Pl, h0, hb, hl, hm, hmm, xe, hx⟩
  · simp at h0
    exact ⟨[], ⟨h0.2.1.symm, .inl h0.2.1⟩, .inl h0.2.1⟩
  · simp at h0
    obtain ⟨rfl, rfl, rfl⟩ := h0
    have hlm : len ≤ m := by rw [hmm]; split <;> omega
    obtain ⟨F, hF⟩ := choose_lt (α := List Fl) (n := len) (p := fun i f => (∃ xa l c, W.cell? (y.add i) = some (.slice xa l c) ∧ IsFls W xa l c f) ∧ (f.length = 0 ∨ ∃ l r, D i = .slice l r ∧ l.length = f.length)) (fun i hi => by
      obtain ⟨cs', h1, h2⟩ := hx i (by omega)
      rw [hcT] at h1
      obtain ⟨_, hl1, h3⟩ := World.cells?_some h1
      have a0 := h3 0 (by omega)
      rw [add_add, Nat.mul_one, Nat.add_zero] at a0
      obtain ⟨v, hv⟩ : ∃ v, cs' = [v] := by
        match cs', hl1 with
        | [v], _ => exact ⟨v, rfl⟩
      subst hv
      obtain ⟨xa, l', c', rfl⟩ : ∃ xa l c, v = .slice xa l c := by
        rcases open_slice hT h2 with ⟨q, _⟩ | ⟨y', l', c', _, _, _, _, q, _⟩
        · simp at q; exact ⟨_, _, _, q⟩
        · simp at q; exact ⟨_, _, _, q⟩
      obtain ⟨fl, g1, g2⟩ := open_flows hT ht hfs he hs hc hcs hct h2
      refine ⟨fl, ⟨xa, l', c', by simpa using a0, g1⟩, ?_⟩
      rcases g2 with g2 | ⟨l2, r2, g2, g3⟩
      · exact .inl (by rw [g1.len]; exact g2)
      · exact .inr ⟨l2, r2, g2, by rw [g1.len]; exact g3⟩)
    have g : ∀ i, i < len → ((List.range len).map F).getD i [] = F i := fun i hi => by simp [hi]
    refine ⟨(List.range len).map F, ⟨by simp, .inr ⟨y, rfl, fun i hi => by rw [g i hi]; exact (hF i hi).1⟩⟩, .inr ⟨D, _, by rw [xe], fun i hi => by rw [g i hi]; exact (hF i hi).2⟩⟩
theorem bulk_len' {H : Type} (l : List (DataW H)) : l.length ≤ Rows.uptoBulkAll l := by
  induction l with
  | nil => simp [Rows.uptoBulkAll]
  | cons x r ih =>
    simp only [Rows.uptoBulkAll, List.length_cons]
    have : 1 ≤ Rows.uptoBulk x := by
      cases x with
      | lit v => cases v <;> simp [Rows.uptoBulk]
      | _ => simp [Rows.uptoBulk]
    omega
theorem bulk_slice' {H : Type} {d : DataW H} {l r : List (DataW H)} (h : d = .slice l r) : l.length ≤ Rows.uptoBulk d := by
  subst h; have := bulk_len' l; simp only [Rows.uptoBulk]; omega
theorem bulk_lists {H : Type} : ∀ (Zs : List (List Fl)) (Ds : List (DataW H)), Zs.length = Ds.length → (∀ i, i < Zs.length → (Zs.getD i []).length ≤ Rows.uptoBulk (Ds.getD i .nil)) → ltot Zs ≤ Rows.uptoBulkAll Ds
  | [], [], _, _ => by simp [ltot]
  | [], _ :: _, h, _ => by simp at h
  | _ :: _, [], h, _ => by simp at h
  | z :: zs, d :: ds, h, hb => by
    have h0 := hb 0 (by simp)
    have ih := bulk_lists zs ds (by simpa using h) (fun i hi => by have := hb (i + 1) (by simp; omega); simpa using this)
    unfold ltot at ih ⊢
    simp only [List.map_cons, List.sum_cons, Rows.uptoBulkAll]
    simp only [List.getD_cons_zero] at h0
    omega
theorem ll_of {H : Type} {W : World} {a : Option Addr} {len : Nat} {Zs : List (List Fl)} {d : DataW H} (h : IsLists W a len Zs) (hd : len = 0 ∨ ∃ (D : Nat → DataW H) (r : List (DataW H)), d = .slice ((List.range len).map D) r ∧ ∀ i, i < len → ((Zs.getD i []).length = 0 ∨ ∃ l r, D i = .slice l r ∧ l.length = (Zs.getD i []).length)) (dk : Rows.uptoBulk d ≤ 1048576) : LL W a len Zs ∧ ltot Zs ≤ 1048576 := by
  obtain ⟨h1, h2⟩ := h
  by_cases h0 : len = 0
  · subst h0
    have : Zs = [] := List.length_eq_zero_iff.1 h1
    subst this
    exact ⟨⟨rfl, by omega, .inl rfl⟩, by simp [ltot]⟩
  · rcases hd with q | ⟨D, r, q, hD⟩
    · exact absurd q h0
    · subst q
      have b1 : ltot Zs ≤ Rows.uptoBulkAll ((List.range len).map D) := bulk_lists Zs _ (by simp [h1]) (fun i hi => by
        have hi' : i < len := by omega
        rw [show ((List.range len).map D).getD i .nil = D i by simp [hi']]
        rcases hD i hi' with q | ⟨l, r, q1, q2⟩
        · omega
        · rw [← q2]; exact bulk_slice' q1)
      have b2 := bulk_len' ((List.range len).map D)
      simp only [List.length_map, List.length_range] at b2
      simp only [Rows.uptoBulk] at dk
      refine ⟨⟨h1, by omega, .inr ?_⟩, by omega⟩
      rcases h2 with q | ⟨y, rfl, hy⟩
      · exact absurd q h0
      · obtain ⟨b, o, s⟩ := y
        obtain ⟨xa, l, c, hc, _⟩ := hy 0 (by omega)
        have hs : s = none := by simpa [Addr.add] using World.cell?_spot hc
        subst hs
        refine ⟨b, o, rfl, ?_, fun i hi => ?_⟩
        · have e : (⟨b, o, none⟩ : Addr).add 0 = ⟨b, o, none⟩ := by simp [Addr.add]
          rw [e] at hc
          by_cases hlt : b < W.heap.size
          · exact hlt
          · exfalso
            have hn : W.heap[b]? = none := by simp; omega
            simp [World.cell?, hn] at hc
        · obtain ⟨xa, l, c, hc, hf⟩ := hy i hi
          rw [Go.Addr.add_lit] at hc
          have hl := hf.len
          have lt := ltot_two Zs i
          refine ⟨_, hc, xa, c, by rw [hl], by rw [hl]; exact fl_of_isL (by omega) hf, ?_, ?_⟩
          · rcases hf with ⟨_, _, q, _⟩ | ⟨x, q, _⟩
            · exact fun _ => q
            · intro q'; rw [q] at q'; cases q'
          · rcases hf with ⟨_, _, q, q'⟩ | ⟨x, _, q, _⟩
            · rw [q']; exact Nat.zero_le _
            · rw [hl]; exact q
end Go.Proofs.Ytegoeadmddliiaa
