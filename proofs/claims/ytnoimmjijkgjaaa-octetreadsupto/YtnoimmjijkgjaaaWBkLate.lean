/-
  WALK: late: the lists that were kept as they came.
-/
import Derived.Test.YtnoimmjijkgjaaaWPutL
namespace Go.Proofs.Ytnoimmjijkgjaaa
open Go.RowKit
set_option linter.unusedVariables false
set_option linter.unusedSimpArgs false

/-- The i-th list as it came, and its copy. -/
def LEnt (w : World) (B : Nat) (rs ss : List Value) (i : Nat) : Prop :=
  ∃ a m cp ys a2 c2, rs[i]? = some (.slice a m cp) ∧ ss[i]? = some (.slice a2 m c2) ∧ Own w B (.slice a m cp) m ys ∧ (∀ c ∈ ys, 0 ≤ c ∧ c ≤ 255) ∧ m ≤ 140737488354000 ∧ BT w a2 m ys
/-- The i-th list alone. -/
def REnt (w : World) (B : Nat) (rs : List Value) (i : Nat) : Prop :=
  ∃ a m cp ys, rs[i]? = some (.slice a m cp) ∧ Own w B (.slice a m cp) m ys ∧ m ≤ 140737488354000
def PW (rs : List Value) : Prop := ∀ (i j : Nat) (u v : Value), i < j → rs[i]? = some u → rs[j]? = some v → ∀ x, u.ownBlock = some x → v.ownBlock ≠ some x
/-- What holds while the lists are put. -/
structure L2I (w0 wr : World) (B q : Nat) (R : Value) (c : Nat) (rs : List Value) (i : Nat) (L : Value) (ws : List Value) : Prop where
  eb : EB wr B q L (2 * i) ws
  en : ∀ j, j < i → Ent wr ws j
  r : wr.cell? ⟨q, 4, none⟩ = some R
  ro : wr.ownsRow B 22 1 R c rs
  rl : ∀ x, R.ownBlock = some x → L.ownBlock ≠ some x
  re : ∀ k, i ≤ k → k < c → REnt wr B rs k
  ap : ∀ v ∈ ws, ∀ k u, i ≤ k → rs[k]? = some u → ∀ x, v.ownBlock = some x → u.ownBlock ≠ some x
  bel : Below B w0 wr
  sz : B ≤ w0.heap.size
theorem ent_app {w : World} {ws vs : List Value} {j : Nat} (h : Ent w ws j) (hj : 2 * j + 1 < ws.length) : Ent w (ws ++ vs) j := by
  obtain ⟨a, m, cp, a4, c4, h1, h2, h3⟩ := h
  exact ⟨a, m, cp, a4, c4, by rw [List.getElem?_append_left (by omega)]; exact h1, by rw [List.getElem?_append_left (by omega)]; exact h2, h3⟩
theorem L2I.step {w0 wr w' : World} {B q : Nat} {R : Value} {c : Nat} {rs : List Value} {i : Nat} {L L' : Value} {ws : List Value} {a : Option Addr} {m cp : Nat} {a4 : Option Addr} {c4 : Nat} (h : L2I w0 wr B q R c rs i L ws) (pw : PW rs) (hi : i < c) (hr : rs[i]? = some (.slice a m cp)) {ys : List Int} (ho : Own wr B (.slice a m cp) m ys) (hm : m ≤ 140737488354000)
    (P : PutE wr w' B q L (.slice a m cp) (2 * i + 2) (ws ++ [.slice a m cp] ++ [.slice a4 (m + 90) c4]) L') (T1 : BT w' a m (List.replicate m (Go.Proofs.Ytnoimmjijkgjaaa.mk i))) (T2 : BT w' a4 (m + 90) (List.replicate m (Go.Proofs.Ytnoimmjijkgjaaa.mk i) ++ List.replicate 90 (Go.Proofs.Ytnoimmjijkgjaaa.mk i + 121)))
    (at4 : Value.ownBlock (.slice a4 (m + 90) c4) = Value.ownBlock (.slice a m cp) ∨ ∃ x, Value.ownBlock (.slice a4 (m + 90) c4) = some x ∧ wr.heap.size ≤ x) : L2I w0 w' B q R c rs (i + 1) L' (ws ++ [.slice a m cp] ++ [.slice a4 (m + 90) c4]) := by
  have wl : ws.length = 2 * i := by have := h.eb.own.1; omega
  obtain ⟨cs, fz, ht⟩ := h.eb.ty
  have nL := row_ne h.eb.own ht (by decide)
  have nR := row_ne h.ro ht (by decide)
  have kb : ∀ x, x < wr.heap.size → x ≠ q → L.ownBlock ≠ some x → Value.ownBlock (.slice a m cp) ≠ some x → w'.heap[x]? = wr.heap[x]? := fun x hx h1 h2 h3 => P.keep.block x hx (by
    rintro (e | e | e)
    · exact h1 e
    · exact h2 e
    · exact h3 e)
  have btk : ∀ {b : Option Addr} {n : Nat} {xs : List Int} (v : Value), v.ownBlock = b.map Addr.block → v ∈ ws → BT wr b n xs → BT w' b n xs := fun {b n xs} v hv hw T => by
    refine T.kept P.keep.size (fun x o cs' fz' h0 ha hb => kb x (Array.getElem?_eq_some_iff.1 hb).1 (T.ne ht (by decide) x o h0 ha) (row_ne h.eb.own hb (by decide)) (h.ap v hw i _ (Nat.le_refl _) hr x (by rw [hv, ha]; rfl)))
  refine ⟨by have := P.bk; rwa [show 2 * (i + 1) = 2 * i + 2 by omega], fun j hj => ?_, (P.rest 4 (by omega)).trans h.r, own_blk h.ro (fun x hx => kb x (h.ro.lt x hx).2 (fun e => nR (by rw [← e]; exact hx)) (h.rl x hx) (fun e => ?_)), fun x hx e => ?_, fun k hk hkc => ?_, fun v hv k u hk hu x hx => ?_, h.bel.trans (P.keep.below (fun x hx => ?_) (Nat.le_trans h.sz h.bel.size)), h.sz⟩
  · rcases (show j < i ∨ j = i by omega) with r | r
    · have E := h.en j r
      rw [List.append_assoc]
      refine ent_app ?_ (by omega)
      obtain ⟨b, n, d, b4, d4, e1, e2, e3, e4, e5⟩ := E
      exact ⟨b, n, d, b4, d4, e1, e2, e3, btk (.slice b n d) (by cases b <;> rfl) (List.mem_of_getElem? e1) e4, btk (.slice b4 (n + 90) d4) (by cases b4 <;> rfl) (List.mem_of_getElem? e2) e5⟩
    · subst r
      refine ⟨a, m, cp, a4, c4, ?_, ?_, hm, T1, T2⟩
      · rw [List.append_assoc, List.getElem?_append_right (by omega), wl]; simp
      · rw [List.append_assoc, List.getElem?_append_right (by omega), wl, show 2 * j + 1 - 2 * j = 1 by omega]; simp
  · exact rows_ne ho h.ro (by decide) x hx e
  · rcases P.at_ with r | ⟨g, r, hg⟩
    · exact h.rl x hx (by rw [← r]; exact e)
    · rw [r] at e; injection e with e; have := (h.ro.lt x hx).2; omega
  · obtain ⟨b, n, d, zs, e1, e2, e3⟩ := h.re k (by omega) hkc
    refine ⟨b, n, d, zs, e1, own_blk e2 (fun x hx => kb x (e2.lt x hx).2 (fun e => row_ne e2 ht (by decide) (by rw [← e]; exact hx)) (fun e => rows_ne e2 h.eb.own (by decide) x e hx) (fun e => pw i k _ _ (by omega) hr e1 x e hx)), e3⟩
  · rw [List.append_assoc] at hv
    rcases List.mem_append.1 hv with hv | hv
    · exact h.ap v hv k u (by omega) hu x hx
    · simp at hv
      rcases hv with rfl | rfl
      · exact pw i k _ _ (by omega) hr hu x hx
      · rcases at4 with r | ⟨y, r, hy⟩
        · rw [r] at hx; exact pw i k _ _ (by omega) hr hu x hx
        · intro e
          rw [r] at hx; injection hx with hx
          by_cases hkc : k < c
          · obtain ⟨b, n, d, zs, e1, e2, e3⟩ := h.re k (by omega) hkc
            rw [hu] at e1; injection e1 with e1; subst e1
            have := (e2.lt x e).2; omega
          · have : rs.length = c := by have := h.ro.1; omega
            have := (List.getElem?_eq_some_iff.1 hu).1; omega
  · rcases hx with e | e | e
    · rw [e]; exact h.eb.base
    · exact (h.eb.own.lt x e).1
    · exact (ho.lt x e).1
/-- The flag is struck. -/
theorem LBk.start {w : World} {B q : Nat} {R S : Value} {c : Nat} {rs ss : List Value} (h : LBk w B q R S c c rs ss) (he : ∀ i, i < c → LEnt w B rs ss i) (hB : B ≤ w.heap.size) :
    L2I w (w.setCell ⟨q, 3, none⟩ (.bool false)) B q R c rs 0 (.slice none 0 0) [] ∧ (w.setCell ⟨q, 3, none⟩ (.bool false)).cell? ⟨q, 5, none⟩ = some S ∧ (w.setCell ⟨q, 3, none⟩ (.bool false)).ownsRow B 22 1 S c ss ∧ ∀ i, i < c → LEnt (w.setCell ⟨q, 3, none⟩ (.bool false)) B rs ss i := by
  obtain ⟨cs, ht⟩ := h.ty
  have nR := row_ne h.ownR ht (by decide)
  have nS := row_ne h.ownS ht (by decide)
  have rest : ∀ j, j ≠ 3 → (w.setCell ⟨q, 3, none⟩ (.bool false)).cell? ⟨q, j, none⟩ = w.cell? ⟨q, j, none⟩ := fun j hj => World.cell?_setCell_other _ _ _ _ (by first | (simp; done) | (simp; omega))
  have ht' : (w.setCell ⟨q, 3, none⟩ (.bool false)).heap[q]? = some (.cells (cs.setIfInBounds 3 (.bool false)) 36 (0, 0)) := by simp [World.setCell, Array.getElem?_modify, ht]
  have oR := own_blk (w' := w.setCell ⟨q, 3, none⟩ (.bool false)) h.ownR (fun x hx => setq_ne (fun e => nR (by rw [← e]; exact hx)))
  have oS := own_blk (w' := w.setCell ⟨q, 3, none⟩ (.bool false)) h.ownS (fun x hx => setq_ne (fun e => nS (by rw [← e]; exact hx)))
  have E : ∀ i, i < c → LEnt (w.setCell ⟨q, 3, none⟩ (.bool false)) B rs ss i := fun i hi => by
    obtain ⟨a, m, cp, ys, a2, c2, e1, e2, e3, e4, e5, e6⟩ := he i hi
    exact ⟨a, m, cp, ys, a2, c2, e1, e2, own_blk e3 (fun x hx => setq_ne (fun e => row_ne e3 ht (by decide) (by rw [← e]; exact hx))), e4, e5, e6.kept (by simp [World.setCell]) (fun b o cs' fz' h0 ha hb => setq_ne (e6.ne ht (by decide) b o h0 ha))⟩
  refine ⟨⟨⟨(rest 2 (by omega)).trans h.l, World.cell?_setCell_same' _ _ _ (by rw [h.late]; rfl), nofz ht', ⟨_, _, ht'⟩, h.base, ⟨rfl, .inl ⟨rfl, rfl⟩⟩⟩, fun j hj => absurd hj (by omega), (rest 4 (by omega)).trans h.r, oR, fun x hx e => (by cases e), fun k _ hk => ?_, fun v hv => (by cases hv), ⟨rfl, rfl, rfl, by simp [World.setCell], fun k hk => setq_ne (fun e => by have := h.base; omega)⟩, hB⟩, (rest 5 (by omega)).trans h.s, oS, E⟩
  obtain ⟨a, m, cp, ys, a2, c2, e1, e2, e3, e4, e5, e6⟩ := E k hk
  exact ⟨a, m, cp, ys, e1, e3, e5⟩
end Go.Proofs.Ytnoimmjijkgjaaa
