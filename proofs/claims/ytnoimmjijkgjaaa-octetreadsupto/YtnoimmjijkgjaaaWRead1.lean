/-
  READ: the world around a script, at once or late.
-/
import Derived.Test.YtnoimmjijkgjaaaWXL
import Derived.Test.YtnoimmjijkgjaaaWUnt
namespace Go.Proofs.Ytnoimmjijkgjaaa
open Go.RowKit
set_option linter.unusedVariables false
set_option linter.unusedSimpArgs false

def XX (lt : Bool) (B q p p' n gi ci p2 : Nat) (a2 : Option Addr) (c2 : Nat) (i : Nat) (w : World) : Prop := match lt with
  | false => XE B q p p' n gi ci p2 a2 c2 i w
  | true => XL B q p p' n gi ci p2 a2 c2 i w
section
variable {w w' : World} {lt : Bool} {B q p p' n gi ci p2 : Nat} {a2 : Option Addr} {c2 i : Nat}
theorem XX.st : StX (XX lt B q p p' n gi ci p2 a2 c2 i) p p' := by
  cases lt
  · exact XE.st i
  · exact XL.st i
theorem XX.up (h : XX lt B q p p' n gi ci p2 a2 c2 i w) : XX lt B q p p' n gi ci p2 a2 c2 (i + 1) w := by
  cases lt
  · exact XE.up h
  · exact XL.up h
theorem XX.out (h : XX lt B q p p' n gi ci p2 a2 c2 i w) : Out w B p p' n gi ci p2 a2 c2 := by
  cases lt
  · obtain ⟨L, c, ws, hc, h1, h2⟩ := h; exact h2
  · obtain ⟨R, S, c, rs, ss, hc, h1, h2⟩ := h; exact h2
theorem putC_x (a : Option Addr) (cap : Nat) (xs : List Int) (a' : Option Addr) (cap' : Nat) (hn : n ≤ 140737488354000) (hi : i ≤ 400000000) : PutC B q p a n cap xs p' a' cap' (XX lt B q p p' n gi ci p2 a2 c2 i) (XX lt B q p p' n gi ci p2 a2 c2 (i + 1)) := by
  cases lt
  · exact putC_e B q p a n cap xs p' a' cap' gi ci p2 a2 c2 i hn hi
  · exact putC_l B q p a n cap xs p' a' cap' gi ci p2 a2 c2 i hn hi
theorem kept_x (h : XX lt B q p p' n gi ci p2 a2 c2 i w) (hi : i ≤ 400000000) : Calls Try.prog 10 #[.pointer (some ⟨q, 2, none⟩)] w fun e w' => e = .returned (.bool true) ∧ ∃ r, w' = w.drewN r := by
  cases lt
  · obtain ⟨L, c, ws, hc, h1, h2⟩ := h
    exact kept_any B q c ws L w h1.eb.l h1.eb.own h1.en (by omega)
  · obtain ⟨R, S, c, rs, ss, hc, h1, h2⟩ := h
    exact kept_any B q 0 [] (.slice none 0 0) w h1.lb.l ⟨rfl, .inl ⟨rfl, rfl⟩⟩ (fun j hj => absurd hj (by omega)) (by omega)
/-- At the end, the last reader having moved. -/
theorem late_x (h : XL B q p p' n gi ci p2 a2 c2 i w) (K : Keep w w' (fun x => x = p2)) (hi : i ≤ 400000000) (hB : B ≤ w.heap.size) : Calls Try.prog 13 #[.pointer (some ⟨q, 2, none⟩)] w' fun e w'' => e = .returned (.bool true) ∧ Below B w' w'' := by
  obtain ⟨R, S, c, rs, ss, hc, h1, h2⟩ := h
  obtain ⟨cs, fz, tp⟩ := h2.rd.ty
  obtain ⟨cs', tq⟩ := h1.lb.ty
  have e : ∀ x, x < w.heap.size → x ≠ p2 → w'.heap[x]? = w.heap[x]? := fun x hx hn => K.block x hx hn
  refine late_any B q c rs ss R S w' (h1.lb.blk (e q h1.lb.lt (ty_ne tq tp (by decide))) (fun g hg => ?_)) (fun j hj => ?_) h1.pw (by omega) (Nat.le_trans hB K.size)
  · rcases hg with hg | hg
    · exact e g (h1.lb.ownR.lt g hg).2 (fun e' => row_ne h1.lb.ownR tp (by decide) (by rw [hg, e']))
    · exact e g (h1.lb.ownS.lt g hg).2 (fun e' => row_ne h1.lb.ownS tp (by decide) (by rw [hg, e']))
  · obtain ⟨a, m, cp, ys, b2, d2, e1, e2, e3, e4, e5, e6⟩ := h1.en j hj
    exact ⟨a, m, cp, ys, b2, d2, e1, e2, own_blk e3 (fun x hx => e x (e3.lt x hx).2 (fun e' => row_ne e3 tp (by decide) (by rw [hx, e']))), e4, e5, e6.kept K.size (fun x o cs1 fz1 g0 ha hb => e x (Array.getElem?_eq_some_iff.1 hb).1 (e6.ne tp (by decide) x o g0 ha))⟩
end
theorem marked_byte {n : Nat} {ys xs : List Int} (hl : ys.length = n + 90) (ht : ys.take n = xs) (hx : ∀ c ∈ xs, 0 ≤ c ∧ c ≤ 255) (hM : Marked n ys) : ∀ c ∈ ys, 0 ≤ c ∧ c ≤ 255 := by
  intro c hc
  obtain ⟨j, hj, e⟩ := List.getElem_of_mem hc
  by_cases h : j < n
  · refine hx c ?_
    rw [← ht]
    have : (ys.take n)[j]? = some c := by rw [List.getElem?_take_of_lt h, List.getElem?_eq_getElem hj, e]
    exact List.mem_of_getElem? this
  · have := hM (j - n) (by omega)
    rw [show n + (j - n) = j by omega, List.getD_eq_getElem?_getD, List.getElem?_eq_getElem hj, e] at this
    simp at this
    omega
/-- The world ahead of the script. -/
structure RS (w W : World) (q g p1 : Nat) (s2 : Option Addr) (c2 p1' : Nat) (s3 : Option Addr) (c3 n : Nat) (xs ys : List Int) (lt : Bool) : Prop where
  bel : Below w.heap.size w W
  row : Own W w.heap.size (.slice (some ⟨g, 0, none⟩) (n + 90) (n + 90)) (n + 90) ys
  qb : W.heap[q]? = some (.cells #[.pointer (some ⟨p1, 0, none⟩), .pointer (some ⟨p1', 0, none⟩), .slice none 0 0, .bool lt, .slice none 0 0, .slice none 0 0] 36 (0, 0))
  base : w.heap.size ≤ q
  rp : RB W w.heap.size p1 s2 n c2 xs 0
  rr : RE W w.heap.size p1' s3 n c3 xs 0
  ns : Value.ownBlock (.slice s2 n c2) ≠ some g ∧ Value.ownBlock (.slice s3 n c3) ≠ some g
section
variable {w W W' : World} {q g p1 : Nat} {s2 : Option Addr} {c2 p1' : Nat} {s3 : Option Addr} {c3 n : Nat} {xs ys : List Int} {lt : Bool}
theorem RS.later (h : RS w W q g p1 s2 c2 p1' s3 c3 n xs ys lt) (b : Below W.heap.size W W') : RS w W' q g p1 s2 c2 p1' s3 c3 n xs ys lt :=
  ⟨h.bel.trans (b.mono h.bel.size), own_blk h.row (fun x hx => b.block x (h.row.lt x hx).2), (b.block q (Array.getElem?_eq_some_iff.1 h.qb).1).trans h.qb, h.base, h.rp.blk (b.block p1 h.rp.lt) (fun x hx => b.block x (h.rp.own.lt x hx).2), h.rr.blk (b.block p1' h.rr.lt) (fun x hx => b.block x (h.rr.own.lt x hx).2), h.ns⟩
theorem RS.drewN (h : RS w W q g p1 s2 c2 p1' s3 c3 n xs ys lt) (r : Nat) : RS w (W.drewN r) q g p1 s2 c2 p1' s3 c3 n xs ys lt := h.later ⟨rfl, rfl, rfl, Nat.le_refl _, fun _ _ => rfl⟩
theorem RS.set (h : RS w W q g p1 s2 c2 p1' s3 c3 n xs ys lt) (j : Nat) (v : Int) : RS w (W.setCell ⟨g, j, none⟩ (.int .u8 v)) q g p1 s2 c2 p1' s3 c3 n xs (ys.set j v) lt := by
  obtain ⟨cs1, fz1, tp⟩ := h.rp.ty
  obtain ⟨cs2, fz2, tr⟩ := h.rr.ty
  have nq : q ≠ g := fun e => row_ne h.row h.qb (by decide) (by rw [e]; rfl)
  have n1 : p1 ≠ g := fun e => row_ne h.row tp (by decide) (by rw [e]; rfl)
  have n2 : p1' ≠ g := fun e => row_ne h.row tr (by decide) (by rw [e]; rfl)
  have lg := (h.row.lt g rfl).1
  refine ⟨h.bel.trans ⟨rfl, rfl, rfl, by simp [World.setCell], fun k hk => setq_ne (by omega)⟩, own_set h.row j v, (setq_ne nq).trans h.qb, h.base, h.rp.blk (setq_ne n1) (fun x hx => setq_ne (fun e => h.ns.1 (by rw [hx, e]))), h.rr.blk (setq_ne n2) (fun x hx => setq_ne (fun e => h.ns.2 (by rw [hx, e]))), h.ns⟩
theorem RS.cell (h : RS w W q g p1 s2 c2 p1' s3 c3 n xs ys lt) (j : Nat) : W.cell? ⟨q, j, none⟩ = (#[.pointer (some ⟨p1, 0, none⟩), .pointer (some ⟨p1', 0, none⟩), .slice none 0 0, .bool lt, .slice none 0 0, .slice none 0 0] : Array Value)[j]? := cell_of_row W q j _ _ _ h.qb
/-- The pair, as the script begins. -/
theorem RS.po (h : RS w W q g p1 s2 c2 p1' s3 c3 n xs (List.replicate (n + 90) 238) lt) {N p2 : Nat} {a2 : Option Addr} {c9 : Nat} (r : RB W N p2 a2 n c9 (List.replicate n 238) 0) (hN : w.heap.size ≤ N) (l1 : p1 < N) (l2 : p1' < N) :
    PO W w.heap.size q p1 s2 n c2 xs 0 p1' s3 c3 (XX lt w.heap.size q p1 p1' n g (n + 90) p2 a2 c9 0) := by
  obtain ⟨cs1, fz1, tp⟩ := h.rp.ty
  obtain ⟨cs2, fz2, tr⟩ := h.rr.ty
  have rb := r.base
  have nq : q ≠ p1 ∧ q ≠ p1' := ⟨ty_ne h.qb tp (by decide), ty_ne h.qb tr (by decide)⟩
  have O : Out W w.heap.size p1 p1' n g (n + 90) p2 a2 c9 := ⟨h.row, ⟨r.t, r.ac, r.f, r.ty, Nat.le_trans hN r.base, own_low r.own hN, r.bnd, r.le, r.byte⟩, ⟨fun e => row_ne h.row tp (by decide) (by rw [← e]; rfl), fun e => row_ne h.row tr (by decide) (by rw [← e]; rfl)⟩, ⟨by omega, by omega⟩, fun x hx => by have := (r.own.lt x hx).1; exact ⟨by omega, by omega⟩⟩
  refine ⟨h.cell 0, h.cell 1, ⟨_, _, h.qb⟩, h.base, ?_, XX.st, h.rp, h.rr⟩
  cases lt
  · exact ⟨.slice none 0 0, 0, [], by omega, ⟨⟨h.cell 2, h.cell 3, nofz h.qb, ⟨_, _, h.qb⟩, h.base, ⟨rfl, .inl ⟨rfl, rfl⟩⟩⟩, fun j hj => absurd hj (by omega), nq, fun x hx => (by cases hx), fun v hv => (by cases hv)⟩, O⟩
  · exact ⟨.slice none 0 0, .slice none 0 0, 0, [], [], by omega, ⟨⟨h.cell 2, h.cell 3, h.cell 4, h.cell 5, ⟨_, h.qb⟩, h.base, ⟨rfl, .inl ⟨rfl, rfl⟩⟩, ⟨rfl, .inl ⟨rfl, rfl⟩⟩, fun x hx => (by cases hx)⟩, fun j hj => absurd hj (by omega), fun i j u v _ hu => (by cases hu), nq, fun x hx => (by cases hx), fun x hx => (by cases hx), fun v hv => (by cases hv), fun i a m d hi => (by cases hi)⟩, O⟩
end
end Go.Proofs.Ytnoimmjijkgjaaa
