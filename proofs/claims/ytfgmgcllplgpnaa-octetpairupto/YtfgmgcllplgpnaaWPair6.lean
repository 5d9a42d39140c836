/-
  WALK: OctetPair.
-/
import Derived.Test.YtfgmgcllplgpnaaWPair5
import Derived.Test.YtfgmgcllplgpnaaWOctStay
import Derived.Test.YtfgmgcllplgpnaaOpenBool
namespace Go.Proofs.Ytfgmgcllplgpnaa
open Go.RowKit
set_option linter.unusedVariables false
set_option linter.unusedSimpArgs false

theorem RB.low {w : World} {B B' p : Nat} {a : Option Addr} {n cap : Nat} {xs : List Int} {k : Nat} (h : RB w B p a n cap xs k) (hB : B' ≤ B) : RB w B' p a n cap xs k := ⟨h.t, h.ac, h.f, h.ty, Nat.le_trans hB h.base, own_low h.own hB, h.bnd, h.le, h.byte⟩
theorem RE.low {w : World} {B B' p : Nat} {a : Option Addr} {n cap : Nat} {xs : List Int} {k : Nat} (h : RE w B p a n cap xs k) (hB : B' ≤ B) : RE w B' p a n cap xs k := ⟨h.t, h.ac, h.f, h.ty, Nat.le_trans hB h.base, own_low h.own hB, h.bnd, h.le, h.byte⟩
/-- The block of a new pair. -/
abbrev pairObj (p p' : Nat) : Obj := .cells #[.pointer (some ⟨p, 0, none⟩), .pointer (some ⟨p', 0, none⟩), .slice none 0 0, .bool false, .slice none 0 0, .slice none 0 0] 64
theorem po_new {w : World} {B p : Nat} {a : Option Addr} {n cap : Nat} {xs : List Int} {k p' : Nat} {a' : Option Addr} {cap' : Nat} (r : RB w B p a n cap xs k) (e : RE w B p' a' n cap' xs k) (hB : B ≤ w.heap.size) : PO (w.alloc (pairObj p p')) B w.heap.size p a n cap xs k p' a' cap' (.slice none 0 0) 0 := by
  have g := World.grownBy_alloc w (pairObj p p') none
  refine ⟨by simp, by simp, ⟨by simp, by simp, by simp, ⟨_, (0, 0), (by show (w.heap.push _)[w.heap.size]? = _; simp; rfl)⟩, hB, [], ⟨rfl, .inl ⟨rfl, rfl⟩⟩⟩, r.later g, e.later g⟩
section
variable {w w1 : World} {B q p : Nat} {a : Option Addr} {n cap : Nat} {xs : List Int} {k p' : Nat} {a' : Option Addr} {cap' : Nat} {L : Value} {c : Nat}
variable {q2 p2 : Nat} {a2 : Option Addr} {n2 cap2 : Nat} {xs2 : List Int} {k2 p2' : Nat} {a2' : Option Addr} {cap2' : Nat} {L2 : Value} {c2 : Nat}
/-- A step of the one pair leaves the other. -/
theorem PO.other (h : PO w B q p a n cap xs k p' a' cap' L c) (h2 : PO w B q2 p2 a2 n2 cap2 xs2 k2 p2' a2' cap2' L2 c2) (K : Keep w w1 (fun x => x = q ∨ x = p ∨ x = p' ∨ L.ownBlock = some x)) (hq : q2 ≠ q) (hp : p2 ≠ p) (hp' : p2' ≠ p') (hL : ∀ x, L2.ownBlock = some x → L.ownBlock ≠ some x) : PO w1 B q2 p2 a2 n2 cap2 xs2 k2 p2' a2' cap2' L2 c2 := by
  obtain ⟨cs, fz, tq⟩ := h.bk.ty
  obtain ⟨cs1, fz1, tp⟩ := h.rp.ty
  obtain ⟨cs2, fz2, tr⟩ := h.rr.ty
  obtain ⟨ws, ho⟩ := h.bk.own
  obtain ⟨ds, gz, uq⟩ := h2.bk.ty
  obtain ⟨ds1, gz1, up⟩ := h2.rp.ty
  obtain ⟨ds2, gz2, ur⟩ := h2.rr.ty
  obtain ⟨ws2, ho2⟩ := h2.bk.own
  refine h2.keep K ?_ ?_ ?_ (fun x hx => ?_) (fun x hx => ?_) (fun x hx => ?_)
  · rintro (e | e | e | e)
    · exact hq e
    · exact ty_ne uq tp (by decide) e
    · exact ty_ne uq tr (by decide) e
    · exact row_ne ho uq (by decide) e
  · rintro (e | e | e | e)
    · exact ty_ne up tq (by decide) e
    · exact hp e
    · exact ty_ne up tr (by decide) e
    · exact row_ne ho up (by decide) e
  · rintro (e | e | e | e)
    · exact ty_ne ur tq (by decide) e
    · exact ty_ne ur tp (by decide) e
    · exact hp' e
    · exact row_ne ho ur (by decide) e
  · rintro (e | e | e | e)
    · exact row_ne ho2 tq (by decide) (by rw [hx, e])
    · exact row_ne ho2 tp (by decide) (by rw [hx, e])
    · exact row_ne ho2 tr (by decide) (by rw [hx, e])
    · exact hL x hx e
  · rintro (e | e | e | e)
    · exact row_ne h2.rp.own tq (by decide) (by rw [hx, e])
    · exact row_ne h2.rp.own tp (by decide) (by rw [hx, e])
    · exact row_ne h2.rp.own tr (by decide) (by rw [hx, e])
    · exact rows_ne h2.rp.own ho (by decide) x e hx
  · rintro (e | e | e | e)
    · exact row_ne h2.rr.own tq (by decide) (by rw [hx, e])
    · exact row_ne h2.rr.own tp (by decide) (by rw [hx, e])
    · exact row_ne h2.rr.own tr (by decide) (by rw [hx, e])
    · exact rows_ne h2.rr.own ho (by decide) x e hx
theorem StepP.below (h : PO w B q p a n cap xs k p' a' cap' L c) (s : StepP w w1 B q p a n cap xs p' a' cap' L c) (hB : B ≤ w.heap.size) : Below B w w1 := by
  obtain ⟨k2, L2, c2, _, _, K, _⟩ := s
  obtain ⟨ws, ho⟩ := h.bk.own
  refine K.below (fun x hx => ?_) hB
  rcases hx with e | e | e | e
  · rw [e]; exact h.bk.base
  · rw [e]; exact h.rp.base
  · rw [e]; exact h.rr.base
  · exact (ho.lt x e).1
end
/-- The two pairs. -/
def Two (w : World) (B i q p : Nat) (a : Option Addr) (n cap : Nat) (xs : List Int) (p' : Nat) (a' : Option Addr) (cap' : Nat) (q2 p2 : Nat) (a2 : Option Addr) (n2 cap2 : Nat) (xs2 : List Int) (p2' : Nat) (a2' : Option Addr) (cap2' : Nat) : Prop :=
  ∃ k L c k2 L2 c2, PO w B q p a n cap xs k p' a' cap' L c ∧ PO w B q2 p2 a2 n2 cap2 xs2 k2 p2' a2' cap2' L2 c2 ∧ (∀ x, L2.ownBlock = some x → L.ownBlock ≠ some x) ∧ c ≤ 2 * i ∧ c2 ≤ 2 * i
theorem Two.swap {w : World} {B i q p : Nat} {a : Option Addr} {n cap : Nat} {xs : List Int} {p' : Nat} {a' : Option Addr} {cap' : Nat} {q2 p2 : Nat} {a2 : Option Addr} {n2 cap2 : Nat} {xs2 : List Int} {p2' : Nat} {a2' : Option Addr} {cap2' : Nat} (h : Two w B i q p a n cap xs p' a' cap' q2 p2 a2 n2 cap2 xs2 p2' a2' cap2') : Two w B i q2 p2 a2 n2 cap2 xs2 p2' a2' cap2' q p a n cap xs p' a' cap' := by
  obtain ⟨k, L, c, k2, L2, c2, h1, h2, h3, h4, h5⟩ := h
  exact ⟨k2, L2, c2, k, L, c, h2, h1, fun x hx e => h3 x e hx, h5, h4⟩
/-- One step of the first. -/
theorem two_step {w : World} {B i q p : Nat} {a : Option Addr} {n cap : Nat} {xs : List Int} {p' : Nat} {a' : Option Addr} {cap' : Nat} {q2 p2 : Nat} {a2 : Option Addr} {n2 cap2 : Nat} {xs2 : List Int} {p2' : Nat} {a2' : Option Addr} {cap2' : Nat} (f : Op3) (h : Two w B i q p a n cap xs p' a' cap' q2 p2 a2 n2 cap2 xs2 p2' a2' cap2') (hf : f.wf) (hn : n ≤ 140737488354000) (hi : i ≤ 1048576) (hB : B ≤ w.heap.size) (hq : q2 ≠ q) (hp : p2 ≠ p) (hp' : p2' ≠ p') :
    Calls Try.prog 28 #[.pointer (some ⟨q, 0, none⟩), .agg #[.int .i64 f.k, .int .u64 f.l, .int .i64 f.n]] w fun e w' => e = .returned (.bool true) ∧ Two w' B (i + 1) q p a n cap xs p' a' cap' q2 p2 a2 n2 cap2 xs2 p2' a2' cap2' ∧ Below B w w' := by
  obtain ⟨k, L, c, k2, L2, c2, h1, h2, h3, h4, h5⟩ := h
  refine (step_any B q p a n cap xs k p' a' cap' L c f w h1 hf hn (by omega) hB).mono ?_
  rintro e w' ⟨rfl, s⟩
  refine ⟨rfl, ?_, StepP.below h1 s hB⟩
  obtain ⟨k3, L3, c3, hc3, h6, K, hat⟩ := s
  refine ⟨k3, L3, c3, k2, L2, c2, h6, h1.other h2 K hq hp hp' h3, fun x hx => ?_, by omega, by omega⟩
  rcases hat with r | ⟨g, r, hg⟩
  · rw [r]; exact h3 x hx
  · rw [r]
    intro e
    injection e with e
    obtain ⟨ws2, ho2⟩ := h2.bk.own
    have := (ho2.lt x hx).2
    omega
/-- A row that is grown from nothing of one's own leaves all that was. -/
theorem Ext.below_new {B : Nat} {w w' : World} {v v' : Value} {n m g cp : Nat} {xs ys : List Int} (h : Ext B w v n xs w' v' m ys) (hv : v = .slice (some ⟨g, 0, none⟩) n cp) {B' : Nat} (hg : B' ≤ g) (hB : B' ≤ w.heap.size := by simp) : Below B' w w' :=
  (Below.refl B' w).grown h.grown hB (fun k e => by subst hv; simp [Value.ownBlock] at e; omega)
theorem made_at (w : World) (o : Obj) (B : Nat) (hB : B ≤ (w.alloc o).heap.size) : Own ((w.alloc o).alloc (.cells #[] 5)) B (.slice (some ⟨w.heap.size + 1, 0, none⟩) 0 0) 0 [] := by
  have q : Own ((w.alloc o).alloc (.cells #[] 5)) B (.slice (some ⟨(w.alloc o).heap.size, 0, none⟩) 0 0) 0 [] := World.ownsRow_made (w.alloc o) #[] 0 hB (Nat.zero_le _) rfl
  rwa [show (w.alloc o).heap.size = w.heap.size + 1 by simp] at q
/-- The turns. -/
def TL (w : World) (a : Option Addr) (n : Nat) (bs : List Bool) : Prop := n ≤ 140737488355328 ∧ (n = 0 ∨ ∃ b o, a = some ⟨b, o, none⟩ ∧ b < w.heap.size ∧ ∀ i, i < n → w.cell? ⟨b, o + i, none⟩ = some (.bool (bs.getD i default)))
theorem tl_of {w : World} {a : Option Addr} {len cap : Nat} {fs : List Bool} (hb : len * 1 ≤ 140737488351232) (h : IsBools w a len cap fs) : TL w a len fs := by
  rcases h with ⟨rfl, rfl, rfl, rfl⟩ | ⟨x, rfl, h1, h2, h3, h5⟩
  · exact ⟨by omega, .inl rfl⟩
  · refine ⟨by omega, ?_⟩
    by_cases h0 : len = 0
    · exact .inl h0
    · obtain ⟨b, o, s⟩ := x
      have hc := h5 0 (by omega)
      have hs : s = none := by simpa [Addr.add] using World.cell?_spot hc
      subst hs
      refine .inr ⟨b, o, rfl, ?_, fun i hi => ?_⟩
      · have : (w.cell? ⟨b, o, none⟩).isSome = true := by
          have e : (⟨b, o, none⟩ : Addr).add (0 * 1) = ⟨b, o, none⟩ := by simp [Addr.add]
          rw [e] at hc; rw [hc]; rfl
        by_cases hlt : b < w.heap.size
        · exact hlt
        · exfalso
          have hn : w.heap[b]? = none := by simp; omega
          simp [World.cell?, hn] at this
      · have := h5 i hi
        rw [Go.Addr.add_lit, Nat.mul_one] at this
        exact this
end Go.Proofs.Ytfgmgcllplgpnaa
