import Derived.Test.YtccjeipkljdhdaaGreatDoorXBR
import Derived.Test.YtccjeipkljdhdaaGreatDoorXBD
namespace Go.Proofs.YtccjeipkljdhdaaGreatDoor
open Go.RowKit
set_option linter.unusedVariables false
set_option linter.unusedSimpArgs false

/-- While a line may come its list is empty. -/
structure EmP (st : Nat × Ap) : Prop where
  le : st.1 ≤ 7
  dy : st.1 < 7 → st.2.days = []
  e0 : st.1 ≤ 0 → st.2.ns = []
  e1 : st.1 ≤ 1 → st.2.cs = []
  e2 : st.1 ≤ 2 → st.2.pl = []
theorem EmP.zero : EmP (0, Ap.zero) := ⟨by decide, fun _ => rfl, fun _ => rfl, fun _ => rfl, fun _ => rfl⟩
theorem lsD_stay {k : Nat} {ws : List ByteArray} {p q : Ap} (h : lsD k ws p = some q) : (k = 0 → q.cs = p.cs ∧ q.pl = p.pl) ∧ (k = 1 → q.pl = p.pl) := by
  unfold lsD at h
  refine ⟨fun e => ?_, fun e => ?_⟩
  · subst e
    rw [if_neg (by decide)] at h
    unfold apList at h
    split at h
    · cases h
    · rw [if_pos rfl] at h
      split at h
      · injection h with h; subst h; exact ⟨rfl, rfl⟩
      · cases h
  · subst e
    rw [if_neg (by decide)] at h
    unfold apList at h
    split at h
    · cases h
    · rw [if_neg (by decide), if_pos rfl] at h
      split at h
      · injection h with h; subst h; rfl
      · cases h
theorem EmP.step {st st' : Nat × Ap} {w : ByteArray} {ws : List ByteArray} (h : EmP st) (e : apLine st w ws = some st') : EmP st' := by
  have hd := dc_days e h.dy
  rw [dc_eq h.le h.dy] at e
  unfold dcLine at e
  by_cases h7 : st.1 < 7
  · rw [if_pos h7] at e
    by_cases hm : mayD st.1 (hdI w) = true
    · rw [if_pos hm] at e
      obtain ⟨q, h1, rfl⟩ := Option.map_eq_some_iff.1 e
      unfold mayD at hm
      simp only [Bool.and_eq_true, decide_eq_true_eq] at hm
      obtain ⟨⟨k7, kn⟩, _⟩ := hm
      have S := lsD_stay h1
      generalize hdI w = k at *
      exact ⟨k7, hd, fun q => absurd q (by simp), fun q => by
        have k0 : k = 0 := by simp only at q; omega
        simp only
        rw [(S.1 k0).1]; exact h.e1 (by omega), fun q => by
        simp only at q ⊢
        rcases (show k = 0 ∨ k = 1 by omega) with k0 | k0
        · rw [(S.1 k0).2]; exact h.e2 (by omega)
        · rw [S.2 k0]; exact h.e2 (by omega)⟩
    · rw [if_neg hm] at e; cases e
  · rw [if_neg h7] at e
    have e7 : st'.1 = 7 := by
      split at e
      · obtain ⟨q, _, rfl⟩ := Option.map_eq_some_iff.1 e; rfl
      · split at e
        · cases e
        · obtain ⟨q, _, rfl⟩ := Option.map_eq_some_iff.1 e; rfl
    exact ⟨by omega, hd, fun q => by omega, fun q => by omega, fun q => by omega⟩
theorem apAll_at (ls : List ByteArray) (i : Nat) (hi : i < ls.length) (n : Nat) (st : Nat × Ap) : apAll (ls.drop i) n st = match wdsL ls[i] 0 with
    | [] => apAll (ls.drop (i + 1)) (n + 1) st
    | w :: ws => match apLine st w ws with
      | none => .error (n + 1)
      | some st' => apAll (ls.drop (i + 1)) (n + 1) st' := by
  rw [List.drop_eq_getElem_cons hi]
  rfl
theorem DsP.zero {pb B : Nat} {W : World} (hb : BkP W pb (dsA (.slice none 0 0) (.slice none 0 0) (.slice none 0 0) 0 0 0 0 (.slice none 0 0)) 27) (h : pb < B) (hB : B ≤ W.heap.size) : DsP pb B W Ap.zero 0 :=
  ⟨_, _, _, _, [], hb, ⟨World.ownsRow_nil _ _ _ _, World.ownsRow_nil _ _ _ _, World.ownsRow_nil _ _ _ _, World.ownsRow_nil _ _ _ _, (fun i hi => absurd hi (by simp)), (fun i j _ hj => absurd hj (by simp)), .inl rfl, rfl, Nat.le_refl _, (fun i hi => absurd hi (by simp)), h, hB⟩⟩
theorem DsP.more {pb B m m' : Nat} {W : World} {p : Ap} (h : DsP pb B W p m) (hm : m ≤ m') : DsP pb B W p m' := by
  obtain ⟨vn, vu, vp, vd, D, hb, hl⟩ := h
  exact ⟨vn, vu, vp, vd, D, hb, hl.more hm⟩
theorem DsP.size {pb B m : Nat} {W : World} {p : Ap} (h : DsP pb B W p m) : B ≤ W.heap.size := by
  obtain ⟨vn, vu, vp, vd, D, hb, hl⟩ := h
  exact hl.sz
theorem DsP.apart {pb B m xb : Nat} {W W2 : World} {p : Ap} (h : DsP pb B W p m) (b : Below W.heap.size W W2) (h1 : W.heap.size ≤ xb) (h2 : xb < W2.heap.size) : DsX pb B xb W2 p m := by
  obtain ⟨vn, vu, vp, vd, D, hb, hl⟩ := h
  exact ⟨vn, vu, vp, vd, D, (b.block pb hb.lt).trans hb, hl.later b, fun e => by have := (hl.on.lt xb e).2; omega, fun e => by have := (hl.ou.lt xb e).2; omega, by have := hb.lt; omega, h2⟩
/-- The program that the document has read. -/
theorem DsP.pv {pb B m : Nat} {W : World} {p : Ap} (h : DsP pb B W p m) (ok : ApOk p) (hm : m ≤ 16777216) :
    ∃ (an au pa da : Option Addr) (cn cu pc dc : Nat) (D : List Sg), (∀ W' : World, (∀ i, B ≤ i → i < W.heap.size → W'.heap[i]? = W.heap[i]?) → PV W' ⟨an, cn, p.ns, au, cu, p.cs, pa, pc, p.pl, p.hor, p.cells, p.slots, p.stack, da, dc, D⟩) ∧ D.map Sg.key = p.days ∧
      BkP W pb (dsA (.slice an p.ns.length cn) (.slice au p.cs.length cu) (.slice pa p.pl.length pc) p.hor p.cells p.slots p.stack (.slice da D.length dc)) 27 ∧
      DsL pb B W p (.slice an p.ns.length cn) (.slice au p.cs.length cu) (.slice pa p.pl.length pc) (.slice da D.length dc) D m := by
  obtain ⟨vn, vu, vp, vd, D, hb, hl⟩ := h
  obtain ⟨an, cn, rfl⟩ := own_slQ hl.on
  obtain ⟨au, cu, rfl⟩ := own_slQ hl.ou
  obtain ⟨pa, pc, rfl⟩ := own_slQ hl.op
  obtain ⟨da, dc, rfl⟩ := own_slQ hl.od
  have nl := ok.nl
  have ul := ok.ul
  have ll := ok.ll
  have dl := hl.dl
  refine ⟨an, au, pa, da, cn, cu, pc, dc, D, fun W' kk => ⟨own_sr (own_highQ hl.on kk) (Nat.le_trans nl (by omega)) (fun s q => Nat.le_trans (ok.nz s q) (by omega)), own_sr (own_highQ hl.ou kk) (Nat.le_trans ul (by omega)) (fun s q => Nat.le_trans (ok.uz s q) (by omega)), own_nr (own_highQ hl.op kk) (Nat.le_trans ll (by omega)) (fun x q => inR_i64Q (ok.pv x q)), inR_i64Q ok.h0, inR_i64Q ok.h1, inR_i64Q ok.h2, inR_i64Q ok.h3, own_gl (own_highQ hl.od kk) (Nat.le_trans dl (Nat.le_trans hm (by omega))) (fun s hs => ?_)⟩, hl.days, hb, hl⟩
  have dm : s.key ∈ p.days := by rw [← hl.days]; exact List.mem_map_of_mem hs
  have dv := ok.dv _ dm
  obtain ⟨i, hi, rfl⟩ := List.getElem_of_mem hs
  have oc := hl.oc i hi
  have cl := hl.cl i hi
  rw [show D.getD i default = D[i] by simp [List.getD, hi]] at oc cl
  exact ⟨inR_i64Q dv.1, own_ir (own_highQ oc kk) (Nat.le_trans cl (Nat.le_trans hm (by omega))) (fun j hj => okP_i64Q (dv.2 j hj))⟩
end Go.Proofs.YtccjeipkljdhdaaGreatDoor
