import Derived.Test.YtccjeipkljdhdaaGreatDoorXAO
import Derived.Test.YtccjeipkljdhdaaGreatDoorXAL
namespace Go.Proofs.YtccjeipkljdhdaaGreatDoor
open Go.RowKit
set_option linter.unusedVariables false
set_option linter.unusedSimpArgs false

/-- Blocks that a reader turns. -/
def RdT (o : Obj) : Prop := ∃ cs f, o = .cells cs 52 f ∨ o = .cells cs 39 f ∨ o = .cells cs 42 f
theorem RdT.ty {cs : Array Value} {T : TypeId} {f : Nat × Nat} (h : RdT (.cells cs T f)) : T = 52 ∨ T = 39 ∨ T = 42 := by
  obtain ⟨c, g, h | h | h⟩ := h <;> (injection h with _ e _; simp [e])
/-- From rb on blocks of these types alone turn. -/
structure FrR (rb : Nat) (w w' : World) : Prop where
  os : w'.os = w.os
  tape : w'.tape = w.tape
  out : w'.output = w.output
  size : w.heap.size ≤ w'.heap.size
  blk : ∀ k, k < w.heap.size → (k < rb ∨ ∀ o, w.heap[k]? = some o → ¬ RdT o) → w'.heap[k]? = w.heap[k]?
theorem FrR.refl (rb : Nat) (w : World) : FrR rb w w := ⟨rfl, rfl, rfl, Nat.le_refl _, fun _ _ _ => rfl⟩
theorem FrR.trans {rb : Nat} {a b c : World} (h : FrR rb a b) (k : FrR rb b c) : FrR rb a c :=
  ⟨k.os.trans h.os, k.tape.trans h.tape, k.out.trans h.out, Nat.le_trans h.size k.size, fun x h1 h2 =>
    (k.blk x (Nat.lt_of_lt_of_le h1 h.size) (h2.imp_right fun q o e => q o ((h.blk x h1 h2).symm.trans e))).trans (h.blk x h1 h2)⟩
theorem FrR.below {rb : Nat} {a b : World} (h : Below a.heap.size a b) : FrR rb a b := ⟨h.os, h.tape, h.output, h.size, fun x h1 _ => h.block x h1⟩
theorem FrR.bel {rb : Nat} {a b : World} (h : FrR rb a b) (hr : rb ≤ a.heap.size) : Below rb a b := ⟨h.os, h.tape, h.out, h.size, fun x h1 => h.blk x (Nat.lt_of_lt_of_le h1 hr) (.inl h1)⟩
theorem FrR.grown {rb : Nat} {a b : World} {r : Option Nat} (g : a.grownBy b r) (hr : ∀ z, r = some z → rb ≤ z ∧ ∃ o, a.heap[z]? = some o ∧ RdT o) : FrR rb a b :=
  ⟨g.os, g.tape, g.output, g.size, fun x h1 h2 => g.block x h1 (fun e => by
    obtain ⟨q1, o, q2, q3⟩ := hr x e.symm
    rcases h2 with h2 | h2
    · omega
    · exact h2 o q2 q3)⟩
theorem FrR.own {rb : Nat} {a b : World} {B s n : Nat} {E : TypeId} {v : Value} {xs : List Value} (h : FrR rb a b) (o : a.ownsRow B E s v n xs) (k : E ≠ 52 ∧ E ≠ 39 ∧ E ≠ 42) : b.ownsRow B E s v n xs := by
  obtain ⟨h1, h2⟩ := o
  refine ⟨h1, ?_⟩
  rcases h2 with h2 | ⟨g, cap, cur, rfl, hb, hg, r⟩
  · exact .inl h2
  · refine .inr ⟨g, cap, cur, rfl, hb, (h.blk g (Array.getElem?_eq_some_iff.1 hg).1 (.inr fun o e q => ?_)).trans hg, r⟩
    rw [hg] at e
    injection e with e
    subst e
    rcases q.ty with q | q | q
    · exact k.1 q
    · exact k.2.1 q
    · exact k.2.2 q
theorem FrR.mapS {rb : Nat} {a b : World} {B m : Nat} {f : ByteArray → Option Int} (h : FrR rb a b) (o : MapS a B m f) : MapS b B m f := by
  obtain ⟨n, D, ⟨es, clock, hb, F, hs, hD⟩, h2⟩ := o
  refine ⟨n, D, ⟨es, clock, (h.blk m (Array.getElem?_eq_some_iff.1 hb).1 (.inr fun o e q => ?_)).trans hb, F, hs, hD⟩, h2⟩
  rw [hb] at e
  injection e with e
  subst e
  obtain ⟨c, g, q | q | q⟩ := q <;> cases q
theorem FrR.mapZ {rb : Nat} {a b : World} {B m : Nat} {f : Int → Option Int} (h : FrR rb a b) (o : MapZ a B m f) : MapZ b B m f := by
  obtain ⟨n, D, ⟨es, clock, hb, F, hs, hD⟩, h2⟩ := o
  refine ⟨n, D, ⟨es, clock, (h.blk m (Array.getElem?_eq_some_iff.1 hb).1 (.inr fun o e q => ?_)).trans hb, F, hs, hD⟩, h2⟩
  rw [hb] at e
  injection e with e
  subst e
  obtain ⟨c, g, q | q | q⟩ := q <;> cases q
theorem FrR.mpqS {rb : Nat} {a b : World} {v : Value} {f : ByteArray → Option Int} (h : FrR rb a b) (o : MpqS a v f) : MpqS b v f := o.imp_right fun ⟨m, e, q⟩ => ⟨m, e, h.mapS q⟩
theorem FrR.mpqZ {rb : Nat} {a b : World} {v : Value} {f : Int → Option Int} (h : FrR rb a b) (o : MpqZ a v f) : MpqZ b v f := o.imp_right fun ⟨m, e, q⟩ => ⟨m, e, h.mapZ q⟩
theorem own_formQ {w : World} {B s n : Nat} {e : TypeId} {v : Value} {xs : List Value} (h : w.ownsRow B e s v n xs) (hn : 0 < n) : ∃ g cap, v = .slice (some ⟨g, 0, none⟩) n cap := by
  rcases h.2 with ⟨_, h0⟩ | ⟨g, cap, cur, hv, _⟩
  · omega
  · exact ⟨g, cap, hv⟩
theorem own_kQ {w : World} {B s n : Nat} {e : TypeId} {v : Value} {xs : List Value} (h : w.ownsRow B e s v n xs) : ∀ g, v.ownBlock = some g → ∃ c fz, w.heap[g]? = some (.cells c e fz) := by
  intro g hg
  rcases h.2 with ⟨rfl, _⟩ | ⟨x, c, cur, rfl, _, hb, _⟩
  · cases hg
  · simp only [Value.ownBlock, Option.some.injEq] at hg
    subst hg
    exact ⟨_, _, hb⟩
theorem own_apQ {w : World} {B B' s s' n n' : Nat} {e e' : TypeId} {v v' : Value} {xs xs' : List Value} (h : w.ownsRow B e s v n xs) (h' : w.ownsRow B' e' s' v' n' xs') (he : e ≠ e') : v.ownBlock = none ∨ v.ownBlock ≠ v'.ownBlock := by
  rcases h.2 with ⟨rfl, _⟩ | ⟨g, c, cur, rfl, _, hg, _⟩
  · exact .inl rfl
  · right
    intro q
    rcases h'.2 with ⟨rfl, _⟩ | ⟨g', c', cur', rfl, _, hg', _⟩
    · cases q
    · simp only [Value.ownBlock, Option.some.injEq] at q
      subst q
      rw [hg] at hg'
      injection hg' with q
      injection q with _ q
      exact he q
/-- A day's code, as a value. -/
def Sg.cv (s : Sg) : Value := .slice s.ca s.code.length s.cc
/-- A reader's cells. -/
def rdA (rest : ByteArray) (cnt next : Int) (vn vu vp : Value) (h c s t : Int) (vd fn fu fp : Value) : Array Value := #[.string rest, .int .i64 cnt, .int .i64 next, vn, vu, vp, .int .i64 h, .int .i64 c, .int .i64 s, .int .i64 t, vd, fn, fu, fp]
/-- The lists, as they lie. -/
structure RsL (rb : Nat) (W : World) (p : Ap) (vn vu vp vd fn fu fp : Value) (D : List Sg) (m : Nat) (av : Option Nat) : Prop where
  on : OwQ W (rb + 1) vn p.ns
  ou : OwQ W (rb + 1) vu p.cs
  op : OwZs W (rb + 1) vp p.pl
  od : W.ownsRow (rb + 1) 39 2 vd D.length (sgsP D)
  oc : ∀ i, i < D.length → W.ownsRow (rb + 1) 42 3 (D.getD i default).cv (D.getD i default).code.length (icsP (D.getD i default).code)
  ap : ∀ i j, i < j → j < D.length → (D.getD i default).cv.ownBlock = none ∨ (D.getD i default).cv.ownBlock ≠ (D.getD j default).cv.ownBlock
  mn : MpqS W fn (plcW p.ns)
  mu : MpqS W fu (plcW p.cs)
  mp : MpqZ W fp (plcW p.pl)
  days : D.map Sg.key = p.days
  dl : D.length ≤ m
  cl : ∀ i, i < D.length → (D.getD i default).code.length ≤ m
  sz : rb < W.heap.size
  an : av = none ∨ vn.ownBlock ≠ av
  au : av = none ∨ vu.ownBlock ≠ av
  nu : vn.ownBlock = none ∨ vn.ownBlock ≠ vu.ownBlock
/-- The whole reader: what is left, the lines' number, the line that may come, the program. -/
def RsP (rb : Nat) (W : World) (rest : ByteArray) (cnt next : Nat) (p : Ap) (m : Nat) (av : Option Nat) : Prop := ∃ vn vu vp vd fn fu fp D, BkP W rb (rdA rest cnt next vn vu vp p.hor p.cells p.slots p.stack vd fn fu fp) 52 ∧ RsL rb W p vn vu vp vd fn fu fp D m av
theorem rd_gr {rb : Nat} {W : World} {cs : Array Value} (h : BkP W rb cs 52) (j : Nat) (v : Value) : FrR rb W (W.setCell ⟨rb, j, none⟩ v) :=
  FrR.grown (setCell_gr W rb j v) (fun z e => by injection e with e; subst e; exact ⟨Nat.le_refl _, _, h, ⟨cs, (0, 0), .inl rfl⟩⟩)
theorem RsL.more {rb : Nat} {W : World} {p : Ap} {vn vu vp vd fn fu fp : Value} {D : List Sg} {m m' : Nat} {av : Option Nat} (h : RsL rb W p vn vu vp vd fn fu fp D m av) (hm : m ≤ m') : RsL rb W p vn vu vp vd fn fu fp D m' av :=
  ⟨h.on, h.ou, h.op, h.od, h.oc, h.ap, h.mn, h.mu, h.mp, h.days, Nat.le_trans h.dl hm, fun i hi => Nat.le_trans (h.cl i hi) hm, h.sz, h.an, h.au, h.nu⟩
/-- A cell of the reader is written. -/
theorem RsL.setB {rb : Nat} {W : World} {p : Ap} {vn vu vp vd fn fu fp : Value} {D : List Sg} {m : Nat} {av : Option Nat} (h : RsL rb W p vn vu vp vd fn fu fp D m av) {cs : Array Value} (hb : BkP W rb cs 52) (j : Nat) (v : Value) : RsL rb (W.setCell ⟨rb, j, none⟩ v) p vn vu vp vd fn fu fp D m av := by
  have g := setCell_gr W rb j v
  have f := rd_gr hb j v
  have no : ∀ {B s n : Nat} {E : TypeId} {x : Value} {xs : List Value}, W.ownsRow (rb + 1) E s x n xs → (W.setCell ⟨rb, j, none⟩ v).ownsRow (rb + 1) E s x n xs := fun {B s n E x xs} o => row_farP o g (fun k q e e2 => by injection e with e; have := (o.lt q e2).1; omega)
  exact ⟨no (B := 0) h.on, no (B := 0) h.ou, no (B := 0) h.op, no (B := 0) h.od, fun i hi => no (B := 0) (h.oc i hi), h.ap, f.mpqS h.mn, f.mpqS h.mu, f.mpqZ h.mp, h.days, h.dl, h.cl, by simpa using h.sz, h.an, h.au, h.nu⟩
theorem RsL.later {rb : Nat} {W W' : World} {p : Ap} {vn vu vp vd fn fu fp : Value} {D : List Sg} {m : Nat} {av : Option Nat} (h : RsL rb W p vn vu vp vd fn fu fp D m av) (b : Below W.heap.size W W') : RsL rb W' p vn vu vp vd fn fu fp D m av := by
  have g := gr_below b none
  have no : ∀ {B s n : Nat} {E : TypeId} {x : Value} {xs : List Value}, W.ownsRow (rb + 1) E s x n xs → W'.ownsRow (rb + 1) E s x n xs := fun {B s n E x xs} o => row_farP o g (fun k q e => by cases e)
  exact ⟨no (B := 0) h.on, no (B := 0) h.ou, no (B := 0) h.op, no (B := 0) h.od, fun i hi => no (B := 0) (h.oc i hi), h.ap, h.mn.later b, h.mu.later b, h.mp.later b, h.days, h.dl, h.cl, Nat.lt_of_lt_of_le h.sz b.size, h.an, h.au, h.nu⟩
theorem RsL.dayF {rb : Nat} {W W' : World} {p : Ap} {vn vu vp vd fn fu fp : Value} {D : List Sg} {m : Nat} {av : Option Nat} (h : RsL rb W p vn vu vp vd fn fu fp D m av) (g : W.grownBy W' vd.ownBlock) : FrR rb W W' := FrR.grown g (fun z e => by
    obtain ⟨_, q⟩ := h.od
    rcases q with ⟨q, _⟩ | ⟨x, cap, cur, rfl, hb, hg, r⟩
    · rw [q] at e; cases e
    · simp only [Value.ownBlock, Option.some.injEq] at e
      subst e
      exact ⟨by omega, _, hg, ⟨cur, _, .inr (.inl rfl)⟩⟩)
/-- A day more. -/
theorem RsL.day {rb : Nat} {W W' : World} {p : Ap} {vn vu vp vd vd' fn fu fp : Value} {D : List Sg} {m : Nat} {av : Option Nat} (h : RsL rb W p vn vu vp vd fn fu fp D m av) (n : Int) (g : W.grownBy W' vd.ownBlock) (o : W'.ownsRow (rb + 1) 39 2 vd' (D.length + 1) (sgsP D ++ [.int .i64 n, .slice none 0 0])) (hm : D.length + 1 ≤ m) :
    RsL rb W' { p with days := p.days ++ [(n, [])] } vn vu vp vd' fn fu fp (D ++ [⟨n, none, 0, []⟩]) m av := by
  have f : FrR rb W W' := h.dayF g
  have el : (D ++ [(⟨n, none, 0, []⟩ : Sg)]).length = D.length + 1 := by simp
  have old : ∀ i, i < D.length → (D ++ [(⟨n, none, 0, []⟩ : Sg)]).getD i default = D.getD i default := fun i hi => by simp [List.getD, List.getElem?_append_left hi]
  have new : (D ++ [(⟨n, none, 0, []⟩ : Sg)]).getD D.length default = ⟨n, none, 0, []⟩ := by simp [List.getD]
  refine ⟨f.own h.on (by decide), f.own h.ou (by decide), f.own h.op (by decide), ?_, ?_, ?_, f.mpqS h.mn, f.mpqS h.mu, f.mpqZ h.mp, ?_, by omega, ?_, Nat.lt_of_lt_of_le h.sz g.size, h.an, h.au, h.nu⟩
  · rw [el, sgsP_app]; exact o
  · intro i hi
    rw [el] at hi
    by_cases q : i < D.length
    · rw [old i q]
      exact row_farP (h.oc i q) g (fun k z e e2 => by
        rcases own_apQ (h.oc i q) h.od (by decide) with t | t
        · rw [t] at e2; cases e2
        · rintro rfl; exact t (e2.trans e.symm))
    · obtain rfl : i = D.length := by omega
      rw [new]
      exact ⟨by rfl, .inl ⟨rfl, rfl⟩⟩
  · intro i j hij hj
    rw [el] at hj
    by_cases q : j < D.length
    · rw [old i (by omega), old j q]; exact h.ap i j hij q
    · obtain rfl : j = D.length := by omega
      rw [old i hij, new]
      rcases hv : (D.getD i default).cv.ownBlock with _ | b
      · exact .inl rfl
      · exact .inr (by simp [Sg.cv, Value.ownBlock])
  · rw [List.map_append, h.days]; rfl
  · intro i hi
    rw [el] at hi
    by_cases q : i < D.length
    · rw [old i q]; exact h.cl i q
    · obtain rfl : i = D.length := by omega
      rw [new]; exact Nat.zero_le _
theorem sgs_set (D0 : List Sg) (s s' : Sg) (hd : s'.day = s.day) : (sgsP (D0 ++ [s])).set (D0.length * 2 + 1) s'.cv = sgsP (D0 ++ [s']) := by
  have l0 : (sgsP D0).length = D0.length * 2 := by
    induction D0 with
    | nil => rfl
    | cons x l ih => simp only [sgsP, List.flatMap_cons, List.length_append, List.length_cons, Sg.cs, List.length_nil] at ih ⊢; omega
  rw [sgsP_app, sgsP_app, List.set_append_right _ _ (by omega), l0, show D0.length * 2 + 1 - D0.length * 2 = 1 by omega]
  simp [sgsP, Sg.cs, Sg.cv, hd]
/-- An instruction more, at the last day. -/
theorem RsL.code {rb : Nat} {W W1 : World} {p : Ap} {vn vu vp fn fu fp : Value} {D0 : List Sg} {s : Sg} {m g cap a c : Nat} {av : Option Nat} (i : In) (h : RsL rb W p vn vu vp (.slice (some ⟨g, 0, none⟩) (D0.length + 1) cap) fn fu fp (D0 ++ [s]) m av) (gr : W.grownBy W1 s.cv.ownBlock)
    (o : W1.ownsRow (rb + 1) 42 3 (.slice (some ⟨a, 0, none⟩) (s.code.length + 1) c) (s.code.length + 1) (icsP s.code ++ icell i)) (lies : s.cv.ownBlock = some a ∨ a = W.heap.size) (hm : s.code.length + 1 ≤ m) :
    RsL rb (W1.setCell ⟨g, D0.length * 2 + 1, none⟩ (.slice (some ⟨a, 0, none⟩) (s.code.length + 1) c)) { p with days := addI p.days i } vn vu vp (.slice (some ⟨g, 0, none⟩) (D0.length + 1) cap) fn fu fp (D0 ++ [⟨s.day, some ⟨a, 0, none⟩, c, s.code ++ [i]⟩]) m av ∧
      FrR rb W (W1.setCell ⟨g, D0.length * 2 + 1, none⟩ (.slice (some ⟨a, 0, none⟩) (s.code.length + 1) c)) := by
  have el : (D0 ++ [s]).length = D0.length + 1 := by simp
  have old : ∀ (s' : Sg) i, i < D0.length → (D0 ++ [s']).getD i default = D0.getD i default := fun s' i hi => by simp [List.getD, List.getElem?_append_left hi]
  have new : ∀ s' : Sg, (D0 ++ [s']).getD D0.length default = s' := fun s' => by simp [List.getD]
  have OC := h.oc
  have AP := h.ap
  have os := OC D0.length (by omega)
  rw [new] at os
  have od := h.od
  rw [el] at od
  have hg := own_kQ od g rfl
  have f1 : FrR rb W W1 := FrR.grown gr (fun z e => by
    obtain ⟨cc, fz, hz⟩ := own_kQ os z e
    exact ⟨by have := (os.lt z e).1; omega, _, hz, ⟨cc, fz, .inr (.inr rfl)⟩⟩)
  have od1 := row_farP od gr (fun k z e e2 => by
    rcases own_apQ od os (by decide) with t | t
    · cases t
    · rintro rfl; exact t (e2.trans e.symm))
  obtain ⟨od2, g2⟩ := od1.stored (D0.length * 2 + 1) (.slice (some ⟨a, 0, none⟩) (s.code.length + 1) c)
  have f2 : FrR rb W1 (W1.setCell ⟨g, D0.length * 2 + 1, none⟩ (.slice (some ⟨a, 0, none⟩) (s.code.length + 1) c)) := FrR.grown g2 (fun z e => by
    injection e with e
    subst e
    obtain ⟨cc, fz, hz⟩ := own_kQ od1 g rfl
    exact ⟨by have := (od1.lt g rfl).1; omega, _, hz, ⟨cc, fz, .inr (.inl rfl)⟩⟩)
  have f := f1.trans f2
  have code2 : ∀ {v : Value} {n : Nat} {xs : List Value}, W1.ownsRow (rb + 1) 42 3 v n xs → (W1.setCell ⟨g, D0.length * 2 + 1, none⟩ (.slice (some ⟨a, 0, none⟩) (s.code.length + 1) c)).ownsRow (rb + 1) 42 3 v n xs := fun {v n xs} q => row_farP q g2 (fun k z e e2 => by
    rcases own_apQ q od1 (by decide) with t | t
    · rw [t] at e2; cases e2
    · rintro rfl; exact t (e2.trans e.symm))
  have ci : icsP (s.code ++ [i]) = icsP s.code ++ icell i := by simp [icsP]
  refine ⟨⟨f.own h.on (by decide), f.own h.ou (by decide), f.own h.op (by decide), ?_, ?_, ?_, f.mpqS h.mn, f.mpqS h.mu, f.mpqZ h.mp, ?_, by have := h.dl; simp at this ⊢; omega, ?_, Nat.lt_of_lt_of_le h.sz f.size, h.an, h.au, h.nu⟩, f⟩
  · rw [show (D0 ++ [(⟨s.day, some ⟨a, 0, none⟩, c, s.code ++ [i]⟩ : Sg)]).length = D0.length + 1 by simp]
    have e := sgs_set D0 s ⟨s.day, some ⟨a, 0, none⟩, c, s.code ++ [i]⟩ rfl
    rw [← e]
    simpa [Sg.cv] using od2
  · intro j hj
    simp only [List.length_append, List.length_cons, List.length_nil] at hj
    by_cases q : j < D0.length
    · rw [old _ j q]
      have x := OC j (by omega)
      rw [old _ j q] at x
      refine code2 (row_farP x gr (fun k z e e2 => ?_))
      have y := AP j D0.length q (by omega)
      rw [old _ j q, new] at y
      rcases y with t | t
      · rw [t] at e2; cases e2
      · rintro rfl; exact t (e2.trans e.symm)
    · obtain rfl : j = D0.length := by omega
      rw [new]
      simp only [Sg.cv, ci, List.length_append, List.length_cons, List.length_nil]
      exact code2 o
  · intro j k hjk hk
    simp only [List.length_append, List.length_cons, List.length_nil] at hk
    by_cases q : k < D0.length
    · have y := AP j k hjk (by omega)
      rw [old _ j (by omega), old _ k q] at y ⊢
      exact y
    · obtain rfl : k = D0.length := by omega
      have y := AP j D0.length hjk (by omega)
      have x := OC j (by omega)
      rw [old _ j hjk, new] at y
      rw [old _ j hjk] at x
      rw [old _ j hjk, new]
      rcases y with t | t
      · exact .inl t
      · right
        rcases lies with q1 | q1
        · rw [q1] at t; exact t
        · intro e
          have := (x.lt a (e.trans rfl)).2
          omega
  · show (D0 ++ [(⟨s.day, some ⟨a, 0, none⟩, c, s.code ++ [i]⟩ : Sg)]).map Sg.key = addI p.days i
    rw [← h.days]
    simp [addI, Sg.key]
  · intro j hj
    simp only [List.length_append, List.length_cons, List.length_nil] at hj
    by_cases q : j < D0.length
    · have y := h.cl j (by omega)
      rw [old _ j q] at y ⊢; exact y
    · obtain rfl : j = D0.length := by omega
      rw [new]; simpa using hm
end Go.Proofs.YtccjeipkljdhdaaGreatDoor

namespace Go.Proofs.YtccjeipkljdhdaaGreatDoor
open Go.RowKit
set_option linter.unusedVariables false
set_option linter.unusedSimpArgs false

theorem infoSq : (Tryz.prog.info? 39).map (fun i => (i.zero, i.size, i.bytes)) = some (some (.agg #[.int .i64 0, .slice none 0 0]), 2, 32) := by kernel_rfl
/-- A day is appended. -/
theorem wp_sgA {ops : Array Oper} {rest : List Oper} {o : Oper} {a : Act} {Q : Exit → Act → World → Prop} (W : World) (B : Nat) (u : Int) (l : List Sg) (hgd : o.guard = none) (sl x : Operand)
    (ho : o.op = .call { callee := .builtin .append, args := #[sl, x], argTypes := #[25, 25] }) (v : Value) (hs : a.eval sl = v)
    (hx : a.eval x = .slice (some ⟨W.heap.size, 0, none⟩) 1 1) (hown : W.ownsRow B 39 2 v l.length (sgsP l)) (hl : l.length ≤ 1073741824) (hb : B ≤ W.heap.size)
    (h : ∀ g cap w', w'.ownsRow B 39 2 (.slice (some ⟨g, 0, none⟩) (l.length + 1) cap) (l.length + 1) (sgsP l ++ [.int .i64 u, .slice none 0 0]) → (W.alloc (.cells #[.int .i64 u, .slice none 0 0] 39)).grownBy w' v.ownBlock → wpList Tryz.prog ops Q rest (a.put o.dst (.slice (some ⟨g, 0, none⟩) (l.length + 1) cap)) w') :
    wpList Tryz.prog ops Q (o :: rest) a (W.alloc (.cells #[.int .i64 u, .slice none 0 0] 39)) := by
  obtain ⟨i0, hi, hz0, hz1, hz2⟩ := info_parts infoSq
  refine wpList_append_own _ hgd sl x 25 ho B 39 i0 (.agg #[.int .i64 0, .slice none 0 0]) 2 32 Tryz.underlying25 hi hz0 hz1 hz2 rfl (by decide) v _ _ hs (World.ownsRow.alloc hown _) ⟨W.heap.size, 0, none⟩ 1 1 [.int .i64 u, .slice none 0 0] hx rfl ?_ ?_ (by unfold maxLen; omega) (by omega) (by simp; omega) ?_
  · intro j v hj
    match j, hj with
    | 0, hj => simp at hj; subst hj; simp [Addr.add]
    | 1, hj => simp at hj; subst hj; simp [Addr.add]
  · intro v hv
    simp only [List.mem_cons, List.not_mem_nil, or_false] at hv
    rcases hv with rfl | rfl <;> rfl
  · intro v' w' h1 h2 _
    obtain ⟨g, cap, rfl⟩ := own_formQ h1 (by omega)
    exact h g cap w' h1 h2
/-- What a line's reading leaves. -/
def TkQ (rb : Nat) (rest : ByteArray) (cnt next m : Nat) (av : Option Nat) (o : Option Ap) (w : World) (e : Ending) (w' : World) : Prop := e = .returned (.bool o.isSome) ∧ (FrR rb w w' ∧ w'.cell? ⟨rb, 1, none⟩ = some (.int .i64 (cnt : Int))) ∧ ∀ q, o = some q → RsP rb w' rest cnt next q m av
theorem rd_cells {rb : Nat} {W : World} {rest : ByteArray} {cnt next : Int} {vn vu vp vd fn fu fp : Value} {h c s t : Int} (hb : BkP W rb (rdA rest cnt next vn vu vp h c s t vd fn fu fp) 52) :
    W.cell? ⟨rb, 0, none⟩ = some (.string rest) ∧ W.cell? ⟨rb, 1, none⟩ = some (.int .i64 cnt) ∧ W.cell? ⟨rb, 2, none⟩ = some (.int .i64 next) ∧ W.cell? ⟨rb, 3, none⟩ = some vn ∧ W.cell? ⟨rb, 4, none⟩ = some vu ∧ W.cell? ⟨rb, 5, none⟩ = some vp ∧ W.cell? ⟨rb, 6, none⟩ = some (.int .i64 h) ∧ W.cell? ⟨rb, 7, none⟩ = some (.int .i64 c) ∧ W.cell? ⟨rb, 8, none⟩ = some (.int .i64 s) ∧ W.cell? ⟨rb, 9, none⟩ = some (.int .i64 t) ∧ W.cell? ⟨rb, 10, none⟩ = some vd ∧ W.cell? ⟨rb, 11, none⟩ = some fn ∧ W.cell? ⟨rb, 12, none⟩ = some fu ∧ W.cell? ⟨rb, 13, none⟩ = some fp :=
  ⟨hb.cell 0, hb.cell 1, hb.cell 2, hb.cell 3, hb.cell 4, hb.cell 5, hb.cell 6, hb.cell 7, hb.cell 8, hb.cell 9, hb.cell 10, hb.cell 11, hb.cell 12, hb.cell 13⟩
theorem BkP.belw {W W' : World} {b : Nat} {cs : Array Value} {t : TypeId} (h : BkP W b cs t) (k : Below W.heap.size W W') : BkP W' b cs t := (k.block b h.lt).trans h
set_option maxRecDepth 100000 in
set_option maxHeartbeats 4000000 in
theorem takeNumber_any {w : World} {rb cnt next m : Nat} {av : Option Nat} {rest : ByteArray} {p : Ap} {a : Option Addr} {n c : Nat} {ws : List ByteArray} (k : Nat) (hk3 : 3 ≤ k) (hk : k < 8) (h : RsP rb w rest cnt next p m av) (hs : SR w a n c ws) (hz : ∀ s ∈ ws, s.size ≤ 16777216) (ht : Pows w) (hE : Ev w) (hm : m ≤ 16777216) :
    Calls Tryz.prog 69 #[.pointer (some ⟨rb, 0, none⟩), .int .i64 (k : Int), .slice a n c] w fun e w' => TkQ rb rest cnt next (m + 1) av (apNum k ws p) w e w' := by
  obtain ⟨vn, vu, vp, vd, fn, fu, fp, D, hb, hl⟩ := h
  obtain ⟨_, l1, b1, s1, r1⟩ := hs
  by_cases q : n = 1
  · subst q
    obtain ⟨u, rfl⟩ := List.length_eq_one_iff.1 l1
    obtain ⟨x, o, rfl, hx, hc⟩ := r1.oneP (by omega)
    have c0 := hc 0 (by omega) 0 (by omega)
    simp only [Nat.mul_one, Nat.add_zero, List.getD_cons_zero, Nat.zero_mul] at c0
    have KN := Lib.hid (numberOf_any u (hz u (by simp)) w ht hE)
    have HB := Lib.hid hb
    have HL := Lib.hid hl
    obtain ⟨O, hO⟩ : ∃ O, numW u = O := ⟨_, rfl⟩
    rw [hO] at KN
    clear hc r1 s1 l1 hz ht hE hb hl
    have st : ∀ (W : World) (i : Int) (q : Ap) (j : Nat) (hj : j < (rdA rest cnt next vn vu vp p.hor p.cells p.slots p.stack vd fn fu fp).size), BkP W rb (rdA rest cnt next vn vu vp p.hor p.cells p.slots p.stack vd fn fu fp) 52 → RsL rb W p vn vu vp vd fn fu fp D m av →
        (rdA rest cnt next vn vu vp p.hor p.cells p.slots p.stack vd fn fu fp).set j (.int .i64 i) hj = rdA rest cnt next vn vu vp q.hor q.cells q.slots q.stack vd fn fu fp → q.ns = p.ns → q.cs = p.cs → q.pl = p.pl → q.days = p.days → RsP rb (W.setCell ⟨rb, j, none⟩ (.int .i64 i)) rest cnt next q (m + 1) av := by
      intro W i q j hj b1 l1 e e1 e2 e3 e4
      refine ⟨vn, vu, vp, vd, fn, fu, fp, D, ?_, ?_⟩
      · rw [← e]; exact b1.set j _ hj
      · have l2 := (l1.setB b1 j (.int .i64 i)).more (Nat.le_succ m)
        exact ⟨by rw [e1]; exact l2.on, by rw [e2]; exact l2.ou, by rw [e3]; exact l2.op, l2.od, l2.oc, l2.ap, by rw [e1]; exact l2.mn, by rw [e2]; exact l2.mu, by rw [e3]; exact l2.mp, by rw [e4]; exact l2.days, l2.dl, l2.cl, l2.sz, l2.an, l2.au, l2.nu⟩
    have ST := Lib.hid st
    clear st
    rcases (show k = 3 ∨ k = 4 ∨ k = 5 ∨ k = 6 ∨ k = 7 by omega) with rfl | rfl | rfl | rfl | rfl
    · have e0 : apNum 3 [u] p = O.map fun n => { p with hor := n } := by simp [apNum, hO]
      rw [e0]
      have e1 : (O.map fun n => { p with hor := n }).isSome = O.isSome := by simp
      unfold TkQ
      rw [e1]
      clear hO e0 e1
      go_enter Tryz.func69, Tryz.ntmps69
      go_wp2_with (go_at_call 96; refine KN.out.mono ?_; rintro e w1 ⟨⟨i, rfl, hi⟩, h2⟩; have HI := Lib.hid hi; have BK := Lib.hid (HB.out.belw h2); have RL := Lib.hid (HL.out.later h2); have F1 := Lib.hid (FrR.below (rb := rb) h2); have c6 := (HB.out.belw h2).cell 6; simp only [rdA, List.getElem?_toArray, List.getElem?_cons_zero, List.getElem?_cons_succ] at c6; have f6 := (HB.out.belw h2).frozen 6; clear hi h2)
      go_ret
      refine ⟨rfl, ⟨F1.out.trans (rd_gr BK.out 6 _), (BK.out.set 6 _ (by simp [rdA])).cell 1⟩, fun q hq => ?_⟩
      obtain ⟨n, e1, rfl⟩ := Option.map_eq_some_iff.1 hq
      obtain rfl := HI.out n e1
      exact ST.out _ _ _ 6 (by simp [rdA]) BK.out RL.out rfl rfl rfl rfl rfl
    · have e0 : apNum 4 [u] p = O.map fun n => { p with cells := n } := by simp [apNum, hO]
      rw [e0]
      have e1 : (O.map fun n => { p with cells := n }).isSome = O.isSome := by simp
      unfold TkQ
      rw [e1]
      clear hO e0 e1
      go_enter Tryz.func69, Tryz.ntmps69
      go_wp2_with (go_at_call 96; refine KN.out.mono ?_; rintro e w1 ⟨⟨i, rfl, hi⟩, h2⟩; have HI := Lib.hid hi; have BK := Lib.hid (HB.out.belw h2); have RL := Lib.hid (HL.out.later h2); have F1 := Lib.hid (FrR.below (rb := rb) h2); have c7 := (HB.out.belw h2).cell 7; simp only [rdA, List.getElem?_toArray, List.getElem?_cons_zero, List.getElem?_cons_succ] at c7; have f7 := (HB.out.belw h2).frozen 7; clear hi h2)
      go_ret
      refine ⟨rfl, ⟨F1.out.trans (rd_gr BK.out 7 _), (BK.out.set 7 _ (by simp [rdA])).cell 1⟩, fun q hq => ?_⟩
      obtain ⟨n, e1, rfl⟩ := Option.map_eq_some_iff.1 hq
      obtain rfl := HI.out n e1
      exact ST.out _ _ _ 7 (by simp [rdA]) BK.out RL.out rfl rfl rfl rfl rfl
    · have e0 : apNum 5 [u] p = O.map fun n => { p with slots := n } := by simp [apNum, hO]
      rw [e0]
      have e1 : (O.map fun n => { p with slots := n }).isSome = O.isSome := by simp
      unfold TkQ
      rw [e1]
      clear hO e0 e1
      go_enter Tryz.func69, Tryz.ntmps69
      go_wp2_with (go_at_call 96; refine KN.out.mono ?_; rintro e w1 ⟨⟨i, rfl, hi⟩, h2⟩; have HI := Lib.hid hi; have BK := Lib.hid (HB.out.belw h2); have RL := Lib.hid (HL.out.later h2); have F1 := Lib.hid (FrR.below (rb := rb) h2); have c8 := (HB.out.belw h2).cell 8; simp only [rdA, List.getElem?_toArray, List.getElem?_cons_zero, List.getElem?_cons_succ] at c8; have f8 := (HB.out.belw h2).frozen 8; clear hi h2)
      go_ret
      refine ⟨rfl, ⟨F1.out.trans (rd_gr BK.out 8 _), (BK.out.set 8 _ (by simp [rdA])).cell 1⟩, fun q hq => ?_⟩
      obtain ⟨n, e1, rfl⟩ := Option.map_eq_some_iff.1 hq
      obtain rfl := HI.out n e1
      exact ST.out _ _ _ 8 (by simp [rdA]) BK.out RL.out rfl rfl rfl rfl rfl
    · have e0 : apNum 6 [u] p = O.map fun n => { p with stack := n } := by simp [apNum, hO]
      rw [e0]
      have e1 : (O.map fun n => { p with stack := n }).isSome = O.isSome := by simp
      unfold TkQ
      rw [e1]
      clear hO e0 e1
      go_enter Tryz.func69, Tryz.ntmps69
      go_wp2_with (go_at_call 96; refine KN.out.mono ?_; rintro e w1 ⟨⟨i, rfl, hi⟩, h2⟩; have HI := Lib.hid hi; have BK := Lib.hid (HB.out.belw h2); have RL := Lib.hid (HL.out.later h2); have F1 := Lib.hid (FrR.below (rb := rb) h2); have c9 := (HB.out.belw h2).cell 9; simp only [rdA, List.getElem?_toArray, List.getElem?_cons_zero, List.getElem?_cons_succ] at c9; have f9 := (HB.out.belw h2).frozen 9; clear hi h2)
      go_ret
      refine ⟨rfl, ⟨F1.out.trans (rd_gr BK.out 9 _), (BK.out.set 9 _ (by simp [rdA])).cell 1⟩, fun q hq => ?_⟩
      obtain ⟨n, e1, rfl⟩ := Option.map_eq_some_iff.1 hq
      obtain rfl := HI.out n e1
      exact ST.out _ _ _ 9 (by simp [rdA]) BK.out RL.out rfl rfl rfl rfl rfl
    · have e0 : apNum 7 [u] p = O.map fun n => { p with days := p.days ++ [(n, [])] } := by simp [apNum, hO]
      rw [e0]
      have e1 : (O.map fun n => { p with days := p.days ++ [(n, [])] }).isSome = O.isSome := by simp
      unfold TkQ
      rw [e1]
      clear hO e0 e1
      go_enter Tryz.func69, Tryz.ntmps69
      go_wp2_with (first
        | (go_at_call 96; refine KN.out.mono ?_; rintro e w1 ⟨⟨i, rfl, hi⟩, h2⟩; have HI := Lib.hid hi; have BK := Lib.hid (HB.out.belw h2); have RL := Lib.hid (HL.out.later h2); have F1 := Lib.hid (FrR.below (rb := rb) h2); have c10 := (HB.out.belw h2).cell 10; simp only [rdA, List.getElem?_toArray, List.getElem?_cons_zero, List.getElem?_cons_succ] at c10; clear hi h2)
        | (at_builtin; refine wp_sgA w1 (rb + 1) i D rfl _ _ rfl vd rfl rfl RL.out.od (by have := RL.out.dl; omega) RL.out.sz ?_; intro g cap w2 ho hg; have RL1 := Lib.hid (RL.out.later (allocBP w1 (.cells #[.int .i64 i, .slice none 0 0] 39))); have NE := Lib.hid (p := some rb ≠ vd.ownBlock) (fun e => by have := (RL.out.od.lt rb e.symm).1; omega); have BK2 := Lib.hid ((BK.out.belw (allocBP w1 (.cells #[.int .i64 i, .slice none 0 0] 39))).grown hg NE.out); have RL2 := Lib.hid ((RL1.out.more (Nat.le_succ m)).day i hg ho (by have := RL.out.dl; omega)); have F2 := Lib.hid (F1.out.trans ((FrR.below (allocBP w1 (.cells #[.int .i64 i, .slice none 0 0] 39))).trans (RL1.out.dayF hg))); have c10 := BK2.out.cell 10; simp only [rdA, List.getElem?_toArray, List.getElem?_cons_zero, List.getElem?_cons_succ] at c10; have f10 := BK2.out.frozen 10; clear ho hg))
      go_ret
      refine ⟨rfl, ⟨F2.out.trans (rd_gr BK2.out 10 _), (BK2.out.set 10 _ (by simp [rdA])).cell 1⟩, fun q hq => ?_⟩
      obtain ⟨n, e1, rfl⟩ := Option.map_eq_some_iff.1 hq
      obtain rfl := HI.out n e1
      exact ⟨vn, vu, vp, _, fn, fu, fp, _, BK2.out.set 10 _ (by simp [rdA]), RL2.out.setB BK2.out 10 _⟩
  · have e0 : apNum k ws p = none := by
      unfold apNum
      split
      · simp at l1; omega
      · rfl
    rw [e0]
    have nc : ((n : Int) != 1) = true := by simp; omega
    have ncI : ¬ (n : Int) = 1 := by omega
    go_enter Tryz.func69, Tryz.ntmps69
    go_wp2
    go_ret
    exact ⟨rfl, ⟨FrR.refl _ _, hb.cell 1⟩, fun q hq => by cases hq⟩
end Go.Proofs.YtccjeipkljdhdaaGreatDoor
