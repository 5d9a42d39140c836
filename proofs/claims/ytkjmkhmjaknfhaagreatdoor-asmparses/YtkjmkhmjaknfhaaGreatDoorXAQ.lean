import Derived.Test.YtkjmkhmjaknfhaaGreatDoorXAP
import Derived.Test.YtkjmkhmjaknfhaaGreatDoorXAC
import Derived.Test.YtkjmkhmjaknfhaaGreatDoorXAG
import Derived.Test.YtkjmkhmjaknfhaaGreatDoorXAL
namespace Go.Proofs.YtkjmkhmjaknfhaaGreatDoor
open Go.RowKit
set_option linter.unusedVariables false
set_option linter.unusedSimpArgs false

/-- Below B all stays but the box. -/
structure FrB (pb B : Nat) (w w' : World) : Prop where
  os : w'.os = w.os
  tape : w'.tape = w.tape
  out : w'.output = w.output
  size : w.heap.size ≤ w'.heap.size
  blk : ∀ k, k < w.heap.size → k < B → k ≠ pb → w'.heap[k]? = w.heap[k]?
theorem FrB.refl (pb B : Nat) (w : World) : FrB pb B w w := ⟨rfl, rfl, rfl, Nat.le_refl _, fun _ _ _ _ => rfl⟩
theorem FrB.trans {pb B : Nat} {a b c : World} (h : FrB pb B a b) (k : FrB pb B b c) : FrB pb B a c :=
  ⟨k.os.trans h.os, k.tape.trans h.tape, k.out.trans h.out, Nat.le_trans h.size k.size, fun x h1 h2 h3 => (k.blk x (Nat.lt_of_lt_of_le h1 h.size) h2 h3).trans (h.blk x h1 h2 h3)⟩
theorem FrB.below {pb B : Nat} {a b : World} (h : Below a.heap.size a b) : FrB pb B a b := ⟨h.os, h.tape, h.output, h.size, fun x h1 _ _ => h.block x h1⟩
theorem FrB.bel {pb B B0 : Nat} {a b : World} (h : FrB pb B a b) (h0 : B0 ≤ pb) (h1 : pb < B) (h2 : B ≤ a.heap.size) : Below B0 a b := ⟨h.os, h.tape, h.out, by have := h.size; omega, fun x hx => h.blk x (by omega) (by omega) (by omega)⟩
theorem FrB.grown {pb B : Nat} {a b : World} {r : Option Nat} (g : a.grownBy b r) (hr : ∀ z, r = some z → B ≤ z ∨ z = pb) : FrB pb B a b :=
  ⟨g.os, g.tape, g.output, g.size, fun x h1 h2 h3 => g.block x h1 (fun e => by rcases hr x e.symm with q | q <;> omega)⟩
theorem FrB.set {pb B : Nat} (a : World) (j : Nat) (v : Value) : FrB pb B a (a.setCell ⟨pb, j, none⟩ v) := FrB.grown (setCell_gr a pb j v) (fun z e => by injection e with e; exact .inr e.symm)
/-- The program's cells. -/
def dsA (vn vu vp : Value) (h c s t : Int) (vd : Value) : Array Value := #[vn, vu, vp, .int .i64 h, .int .i64 c, .int .i64 s, .int .i64 t, vd]
/-- The lists, as they lie. -/
structure DsL (pb B : Nat) (W : World) (p : Ap) (vn vu vp vd : Value) (D : List Sg) (m : Nat) : Prop where
  on : OwQ W B vn p.ns
  ou : OwQ W B vu p.cs
  op : OwZs W B vp p.pl
  od : W.ownsRow B 41 2 vd D.length (sgsP D)
  oc : ∀ i, i < D.length → W.ownsRow B 44 3 (D.getD i default).cv (D.getD i default).code.length (icsP (D.getD i default).code)
  ap : ∀ i j, i < j → j < D.length → (D.getD i default).cv.ownBlock = none ∨ (D.getD i default).cv.ownBlock ≠ (D.getD j default).cv.ownBlock
  an : vn.ownBlock = none ∨ vn.ownBlock ≠ vu.ownBlock
  days : D.map Sg.key = p.days
  dl : D.length ≤ m
  cl : ∀ i, i < D.length → (D.getD i default).code.length ≤ m
  pb_lt : pb < B
  sz : B ≤ W.heap.size
def DsP (pb B : Nat) (W : World) (p : Ap) (m : Nat) : Prop := ∃ vn vu vp vd D, BkP W pb (dsA vn vu vp p.hor p.cells p.slots p.stack vd) 27 ∧ DsL pb B W p vn vu vp vd D m
theorem DsL.more {pb B : Nat} {W : World} {p : Ap} {vn vu vp vd : Value} {D : List Sg} {m m' : Nat} (h : DsL pb B W p vn vu vp vd D m) (hm : m ≤ m') : DsL pb B W p vn vu vp vd D m' :=
  ⟨h.on, h.ou, h.op, h.od, h.oc, h.ap, h.an, h.days, Nat.le_trans h.dl hm, fun i hi => Nat.le_trans (h.cl i hi) hm, h.pb_lt, h.sz⟩
theorem DsL.setB {pb B : Nat} {W : World} {p : Ap} {vn vu vp vd : Value} {D : List Sg} {m : Nat} (h : DsL pb B W p vn vu vp vd D m) (j : Nat) (v : Value) : DsL pb B (W.setCell ⟨pb, j, none⟩ v) p vn vu vp vd D m :=
  ⟨own_setQ h.on h.pb_lt, own_setQ h.ou h.pb_lt, own_setQ h.op h.pb_lt, own_setQ h.od h.pb_lt, fun i hi => own_setQ (h.oc i hi) h.pb_lt, h.ap, h.an, h.days, h.dl, h.cl, h.pb_lt, by simpa using h.sz⟩
theorem DsL.later {pb B : Nat} {W W' : World} {p : Ap} {vn vu vp vd : Value} {D : List Sg} {m : Nat} (h : DsL pb B W p vn vu vp vd D m) (b : Below W.heap.size W W') : DsL pb B W' p vn vu vp vd D m :=
  ⟨own_belQ h.on b, own_belQ h.ou b, own_belQ h.op b, own_belQ h.od b, fun i hi => own_belQ (h.oc i hi) b, h.ap, h.an, h.days, h.dl, h.cl, h.pb_lt, Nat.le_trans h.sz b.size⟩
theorem DsP.later {pb B : Nat} {W W' : World} {p : Ap} {m : Nat} (h : DsP pb B W p m) (b : Below W.heap.size W W') : DsP pb B W' p m := by
  obtain ⟨vn, vu, vp, vd, D, hb, hl⟩ := h
  exact ⟨vn, vu, vp, vd, D, (b.block pb hb.lt).trans hb, hl.later b⟩
/-- A row of another type beside one that turns. -/
theorem own_typQ {W W' : World} {B B' s s' n n' : Nat} {e e' : TypeId} {v v' : Value} {xs xs' : List Value} (h : W.ownsRow B e s v n xs) (h' : W.ownsRow B' e' s' v' n' xs') (ne : e ≠ e') (g : W.grownBy W' v'.ownBlock) : W'.ownsRow B e s v n xs := row_farP h g (fun k z q q2 => by
  rcases own_apQ h h' ne with t | t
  · rw [t] at q2; cases q2
  · rintro rfl; exact t (q2.trans q.symm))
/-- A name more. -/
theorem DsL.name {pb B : Nat} {W W' : World} {p : Ap} {vn vn' vu vp vd : Value} {D : List Sg} {m : Nat} (h : DsL pb B W p vn vu vp vd D m) (u : ByteArray) (g : W.grownBy W' vn.ownBlock) (o : OwQ W' B vn' (p.ns ++ [u])) (l : vn'.ownBlock = vn.ownBlock ∨ ∀ z, vn'.ownBlock = some z → W.heap.size ≤ z) :
    DsL pb B W' { p with ns := p.ns ++ [u] } vn' vu vp vd D m := by
  refine ⟨o, row_farP h.ou g (fun k z e e2 => ?_), own_typQ h.op h.on (by decide) g, own_typQ h.od h.on (by decide) g, fun i hi => own_typQ (h.oc i hi) h.on (by decide) g, h.ap, ?_, h.days, h.dl, h.cl, h.pb_lt, Nat.le_trans h.sz g.size⟩
  · rcases h.an with t | t
    · rw [t] at e; cases e
    · rintro rfl; exact t (e.trans e2.symm)
  · rcases l with l | l
    · rw [l]; exact h.an
    · rcases hv : vn'.ownBlock with _ | z
      · exact .inl rfl
      · exact .inr (fun e => by have := (h.ou.lt z e.symm).2; have := l z hv; omega)
/-- A currency more. -/
theorem DsL.cur {pb B : Nat} {W W' : World} {p : Ap} {vn vu vu' vp vd : Value} {D : List Sg} {m : Nat} (h : DsL pb B W p vn vu vp vd D m) (u : ByteArray) (g : W.grownBy W' vu.ownBlock) (o : OwQ W' B vu' (p.cs ++ [u])) (l : vu'.ownBlock = vu.ownBlock ∨ ∀ z, vu'.ownBlock = some z → W.heap.size ≤ z) :
    DsL pb B W' { p with cs := p.cs ++ [u] } vn vu' vp vd D m := by
  refine ⟨row_farP h.on g (fun k z e e2 => ?_), o, own_typQ h.op h.ou (by decide) g, own_typQ h.od h.ou (by decide) g, fun i hi => own_typQ (h.oc i hi) h.ou (by decide) g, h.ap, ?_, h.days, h.dl, h.cl, h.pb_lt, Nat.le_trans h.sz g.size⟩
  · rcases h.an with t | t
    · rw [t] at e2; cases e2
    · rintro rfl; exact t (e2.trans e.symm)
  · rcases l with l | l
    · rw [l]; exact h.an
    · rcases hv : vn.ownBlock with _ | z
      · exact .inl rfl
      · exact .inr (fun e => by have := (h.on.lt z hv).2; have := l z e.symm; omega)
/-- A value more. -/
theorem DsL.num {pb B : Nat} {W W' : World} {p : Ap} {vn vu vp vp' vd : Value} {D : List Sg} {m : Nat} (h : DsL pb B W p vn vu vp vd D m) (u : Int) (g : W.grownBy W' vp.ownBlock) (o : OwZs W' B vp' (p.pl ++ [u])) : DsL pb B W' { p with pl := p.pl ++ [u] } vn vu vp' vd D m :=
  ⟨own_typQ h.on h.op (by decide) g, own_typQ h.ou h.op (by decide) g, o, own_typQ h.od h.op (by decide) g, fun i hi => own_typQ (h.oc i hi) h.op (by decide) g, h.ap, h.an, h.days, h.dl, h.cl, h.pb_lt, Nat.le_trans h.sz g.size⟩
/-- A day more. -/
theorem DsL.day {pb B : Nat} {W W' : World} {p : Ap} {vn vu vp vd vd' : Value} {D : List Sg} {m : Nat} (h : DsL pb B W p vn vu vp vd D m) (n : Int) (g : W.grownBy W' vd.ownBlock) (o : W'.ownsRow B 41 2 vd' (D.length + 1) (sgsP D ++ [.int .i64 n, .slice none 0 0])) (hm : D.length + 1 ≤ m) :
    DsL pb B W' { p with days := p.days ++ [(n, [])] } vn vu vp vd' (D ++ [⟨n, none, 0, []⟩]) m := by
  have el : (D ++ [(⟨n, none, 0, []⟩ : Sg)]).length = D.length + 1 := by simp
  have old : ∀ i, i < D.length → (D ++ [(⟨n, none, 0, []⟩ : Sg)]).getD i default = D.getD i default := fun i hi => by simp [List.getD, List.getElem?_append_left hi]
  have new : (D ++ [(⟨n, none, 0, []⟩ : Sg)]).getD D.length default = ⟨n, none, 0, []⟩ := by simp [List.getD]
  refine ⟨own_typQ h.on h.od (by decide) g, own_typQ h.ou h.od (by decide) g, own_typQ h.op h.od (by decide) g, ?_, ?_, ?_, h.an, ?_, by omega, ?_, h.pb_lt, Nat.le_trans h.sz g.size⟩
  · rw [el, sgsP_app]; exact o
  · intro i hi
    rw [el] at hi
    by_cases q : i < D.length
    · rw [old i q]
      exact own_typQ (h.oc i q) h.od (by decide) g
    · obtain rfl : i = D.length := by omega
      rw [new]
      exact ⟨by rfl, .inl ⟨rfl, rfl⟩⟩
  · intro i j hij hj
    rw [el] at hj
    by_cases q : j < D.length
    · rw [old i (by omega), old j q]; exact h.ap i j hij q
    · obtain rfl : j = D.length := by omega
      rw [old i hij, new]
      rcases hv : (D.getD i default).cv.ownBlock with _ | b
      · exact .inl rfl
      · exact .inr (by simp [Sg.cv, Value.ownBlock])
  · rw [List.map_append, h.days]; rfl
  · intro i hi
    rw [el] at hi
    by_cases q : i < D.length
    · rw [old i q]; exact h.cl i q
    · obtain rfl : i = D.length := by omega
      rw [new]; exact Nat.zero_le _
/-- An instruction more, at the last day. -/
theorem DsL.code {pb B : Nat} {W W1 : World} {p : Ap} {vn vu vp : Value} {D0 : List Sg} {s : Sg} {m g cap a c : Nat} (i : In) (h : DsL pb B W p vn vu vp (.slice (some ⟨g, 0, none⟩) (D0.length + 1) cap) (D0 ++ [s]) m) (gr : W.grownBy W1 s.cv.ownBlock)
    (o : W1.ownsRow B 44 3 (.slice (some ⟨a, 0, none⟩) (s.code.length + 1) c) (s.code.length + 1) (icsP s.code ++ icell i)) (lies : s.cv.ownBlock = some a ∨ a = W.heap.size) (hm : s.code.length + 1 ≤ m) :
    DsL pb B (W1.setCell ⟨g, D0.length * 2 + 1, none⟩ (.slice (some ⟨a, 0, none⟩) (s.code.length + 1) c)) { p with days := addI p.days i } vn vu vp (.slice (some ⟨g, 0, none⟩) (D0.length + 1) cap) (D0 ++ [⟨s.day, some ⟨a, 0, none⟩, c, s.code ++ [i]⟩]) m ∧
      FrB pb B W (W1.setCell ⟨g, D0.length * 2 + 1, none⟩ (.slice (some ⟨a, 0, none⟩) (s.code.length + 1) c)) ∧ W1.cell? ⟨g, D0.length * 2 + 1, none⟩ = some s.cv ∧ W1.frozen? ⟨g, D0.length * 2 + 1, none⟩ = false ∧ some pb ≠ s.cv.ownBlock ∧ g ≠ pb := by
  have el : (D0 ++ [s]).length = D0.length + 1 := by simp
  have old : ∀ (s' : Sg) i, i < D0.length → (D0 ++ [s']).getD i default = D0.getD i default := fun s' i hi => by simp [List.getD, List.getElem?_append_left hi]
  have new : ∀ s' : Sg, (D0 ++ [s']).getD D0.length default = s' := fun s' => by simp [List.getD]
  have OC := h.oc
  have AP := h.ap
  have os := OC D0.length (by omega)
  rw [new] at os
  have od := h.od
  rw [el] at od
  have f1 : FrB pb B W W1 := FrB.grown gr (fun z e => .inl (os.lt z e).1)
  have od1 := own_typQ od os (by decide) gr
  obtain ⟨od2, g2⟩ := od1.stored (D0.length * 2 + 1) (.slice (some ⟨a, 0, none⟩) (s.code.length + 1) c)
  have f2 : FrB pb B W1 (W1.setCell ⟨g, D0.length * 2 + 1, none⟩ (.slice (some ⟨a, 0, none⟩) (s.code.length + 1) c)) := FrB.grown g2 (fun z e => by injection e with e; subst e; exact .inl (od1.lt g rfl).1)
  have two : ∀ {s' n : Nat} {e : TypeId} {v : Value} {xs : List Value}, W1.ownsRow B e s' v n xs → e ≠ 41 → (W1.setCell ⟨g, D0.length * 2 + 1, none⟩ (.slice (some ⟨a, 0, none⟩) (s.code.length + 1) c)).ownsRow B e s' v n xs := fun {s' n e v xs} q ne => own_typQ q od1 ne g2
  have ci : icsP (s.code ++ [i]) = icsP s.code ++ icell i := by simp [icsP]
  have cl : W1.cell? ⟨g, D0.length * 2 + 1, none⟩ = some s.cv := by
    have e := flat_at Sg.cs 2 (fun _ => rfl) (D0 ++ [s]) D0.length (by omega) 1 (by omega)
    have := od1.cells (g := g) rfl _ _ e
    rw [Go.Addr.add_lit, Nat.zero_add] at this
    rw [this]
    simp [List.getD, Sg.cs, Sg.cv]
  refine ⟨⟨two (own_typQ h.on os (by decide) gr) (by decide), two (own_typQ h.ou os (by decide) gr) (by decide), two (own_typQ h.op os (by decide) gr) (by decide), ?_, ?_, ?_, h.an, ?_, by have := h.dl; simp at this ⊢; omega, ?_, h.pb_lt, Nat.le_trans h.sz (f1.trans f2).size⟩, f1.trans f2, cl, od1.frozenAt _, fun e => by have := (os.lt pb e.symm).1; have := h.pb_lt; omega, by have := (od1.lt g rfl).1; have := h.pb_lt; omega⟩
  · rw [show (D0 ++ [(⟨s.day, some ⟨a, 0, none⟩, c, s.code ++ [i]⟩ : Sg)]).length = D0.length + 1 by simp]
    have e := sgs_set D0 s ⟨s.day, some ⟨a, 0, none⟩, c, s.code ++ [i]⟩ rfl
    rw [← e]
    simpa [Sg.cv] using od2
  · intro j hj
    simp only [List.length_append, List.length_cons, List.length_nil] at hj
    by_cases q : j < D0.length
    · rw [old _ j q]
      have x := OC j (by omega)
      rw [old _ j q] at x
      refine two (row_farP x gr (fun k z e e2 => ?_)) (by decide)
      have y := AP j D0.length q (by omega)
      rw [old _ j q, new] at y
      rcases y with t | t
      · rw [t] at e2; cases e2
      · rintro rfl; exact t (e2.trans e.symm)
    · obtain rfl : j = D0.length := by omega
      rw [new]
      simp only [Sg.cv, ci, List.length_append, List.length_cons, List.length_nil]
      exact two o (by decide)
  · intro j k hjk hk
    simp only [List.length_append, List.length_cons, List.length_nil] at hk
    by_cases q : k < D0.length
    · have y := AP j k hjk (by omega)
      rw [old _ j (by omega), old _ k q] at y ⊢
      exact y
    · obtain rfl : k = D0.length := by omega
      have y := AP j D0.length hjk (by omega)
      have x := OC j (by omega)
      rw [old _ j hjk, new] at y
      rw [old _ j hjk] at x
      rw [old _ j hjk, new]
      rcases y with t | t
      · exact .inl t
      · right
        rcases lies with q1 | q1
        · rw [q1] at t; exact t
        · intro e
          have := (x.lt a (e.trans rfl)).2
          omega
  · show (D0 ++ [(⟨s.day, some ⟨a, 0, none⟩, c, s.code ++ [i]⟩ : Sg)]).map Sg.key = addI p.days i
    rw [← h.days]
    simp [addI, Sg.key]
  · intro j hj
    simp only [List.length_append, List.length_cons, List.length_nil] at hj
    by_cases q : j < D0.length
    · have y := h.cl j (by omega)
      rw [old _ j q] at y ⊢; exact y
    · obtain rfl : j = D0.length := by omega
      rw [new]; simpa using hm
end Go.Proofs.YtkjmkhmjaknfhaaGreatDoor

namespace Go.Proofs.YtkjmkhmjaknfhaaGreatDoor
open Go.RowKit
set_option linter.unusedVariables false
set_option linter.unusedSimpArgs false

instance (c : UInt8) : Decidable (isD c) := by unfold isD; exact inferInstance
/-- The number of a row of digits. -/
def nvQ (acc : Nat) (l : List UInt8) : Nat := l.foldl (fun a c => 10 * a + (c.toNat - 48)) acc
theorem nvQ_nil (acc : Nat) : nvQ acc [] = acc := by unfold nvQ; rw [List.foldl_nil]
theorem nvQ_snoc (a : List UInt8) (c : UInt8) (acc : Nat) : nvQ acc (a ++ [c]) = 10 * nvQ acc a + (c.toNat - 48) := by
  unfold nvQ
  rw [List.foldl_append, List.foldl_cons, List.foldl_nil]
theorem nvQ_one (c : UInt8) : nvQ 0 [c] = c.toNat - 48 := by
  have := nvQ_snoc [] c 0
  rw [nvQ_nil, List.nil_append] at this
  omega
theorem snocQ {α : Type} {t : List α} (h : t ≠ []) : ∃ a c, t = a ++ [c] := ⟨t.dropLast, t.getLast h, (List.dropLast_concat_getLast h).symm⟩
theorem nvQ_lt : ∀ (n : Nat) (a : List UInt8), a.length = n → (∀ c ∈ a, isD c) → nvQ 0 a < 10 ^ n
  | 0, a, hn, h => by rw [List.length_eq_zero_iff.1 hn]; decide
  | n + 1, t, hn, h => by
    obtain ⟨a, c, rfl⟩ := snocQ (t := t) (fun e => by rw [e] at hn; cases hn)
    have := nvQ_lt n a (by simpa using hn) (fun x hx => h x (by simp [hx]))
    have hc := h c (by simp)
    unfold isD at hc
    rw [nvQ_snoc, Nat.pow_succ]
    omega
theorem decQ_next {n d : Nat} (hn : 1 ≤ n) (hd : d ≤ 9) : Lib.decDigits (10 * n + d) = Lib.decDigits n ++ [UInt8.ofNat (48 + d)] := by
  rw [Lib.decDigits, dif_neg (by omega), show (10 * n + d) / 10 = n by omega, show (10 * n + d) % 10 = d by omega]
theorem decQ_one {d : Nat} (hd : d ≤ 9) : Lib.decDigits d = [UInt8.ofNat (48 + d)] := by rw [Lib.decDigits, dif_pos (by omega)]
theorem nvQ_dec (n : Nat) : nvQ 0 (Lib.decDigits n) = n := by
  induction n using Nat.strongRecOn with
  | _ n ih =>
    by_cases h : n < 10
    · rw [decQ_one (by omega)]
      rw [nvQ_one, ofNat_d (by omega)]; omega
    · obtain ⟨m, d, rfl, hd, hm⟩ : ∃ m d, n = 10 * m + d ∧ d ≤ 9 ∧ 1 ≤ m := ⟨n / 10, n % 10, by omega, by omega, by omega⟩
      rw [decQ_next hm hd, nvQ_snoc, ih m (by omega), ofNat_d (by omega)]
      omega
theorem decQ_head (n : Nat) : 1 ≤ n → (Lib.decDigits n).head? ≠ some 48 := by
  induction n using Nat.strongRecOn with
  | _ n ih =>
    intro h1
    by_cases h : n < 10
    · rw [decQ_one (by omega)]
      intro e
      simp only [List.head?_cons, Option.some.injEq] at e
      have := congrArg UInt8.toNat e
      rw [ofNat_d (by omega)] at this
      have h48 : (48 : UInt8).toNat = 48 := rfl
      omega
    · obtain ⟨m, d, rfl, hd, hm⟩ : ∃ m d, n = 10 * m + d ∧ d ≤ 9 ∧ 1 ≤ m := ⟨n / 10, n % 10, by omega, by omega, by omega⟩
      rw [decQ_next hm hd]
      have := ih m (by omega) hm
      have ne := dec_neB m
      cases hl : Lib.decDigits m with
      | nil => exact absurd hl ne
      | cons x l => rw [hl] at this; simpa using this
/-- Digits without a zero ahead of others. -/
structure CanQ (t : List UInt8) : Prop where
  ne : t ≠ []
  d : ∀ c ∈ t, isD c
  z : ¬ (1 < t.length ∧ t.head? = some 48)
theorem CanQ.dec {t : List UInt8} (h : CanQ t) : Lib.decDigits (nvQ 0 t) = t := by
  obtain ⟨n, hn⟩ : ∃ n, t.length = n := ⟨_, rfl⟩
  induction n generalizing t with
  | zero => exact absurd (List.length_eq_zero_iff.1 hn) h.ne
  | succ n ih =>
    obtain ⟨a, c, rfl⟩ : ∃ a c, t = a ++ [c] := ⟨t.dropLast, t.getLast h.ne, (List.dropLast_concat_getLast h.ne).symm⟩
    have hc := h.d c (by simp)
    unfold isD at hc
    have cc : UInt8.ofNat (48 + (c.toNat - 48)) = c := UInt8.toNat_inj.1 (by rw [UInt8.toNat_ofNat']; omega)
    rw [nvQ_snoc]
    cases a with
    | nil => rw [nvQ_nil, show 10 * 0 + (c.toNat - 48) = c.toNat - 48 by omega, decQ_one (by omega), cc]; rfl
    | cons x a =>
      have hz := h.z
      simp only [List.length_append, List.length_cons, List.length_nil, List.cons_append, List.head?_cons] at hz
      have ca : CanQ (x :: a) := ⟨by simp, fun y hy => h.d y (List.mem_append_left _ hy), fun q => hz ⟨by omega, q.2⟩⟩
      have e := ih ca (by simpa using hn)
      have n1 : 1 ≤ nvQ 0 (x :: a) := by
        rcases Nat.eq_zero_or_pos (nvQ 0 (x :: a)) with q | q
        · rw [q, decQ_one (by omega)] at e
          injection e with e1 _
          exact absurd ⟨by omega, by rw [← e1]; rfl⟩ hz
        · exact q
      rw [decQ_next n1 (by omega), e, cc]
theorem decQ_can (n : Nat) : CanQ (Lib.decDigits n) := by
  refine ⟨dec_neB n, dec_d n, fun q => ?_⟩
  rcases Nat.eq_zero_or_pos n with h | h
  · subst h
    rw [decQ_one (by omega)] at q
    exact absurd q.1 (by simp)
  · exact decQ_head n h q.2
/-- A number's digits as the document reads them. -/
def rvD (t : List UInt8) : Option Nat := if t ≠ [] ∧ t.length ≤ 19 ∧ ¬ (1 < t.length ∧ t.head? = some 48) ∧ ∀ c ∈ t, isD c then some (nvQ 0 t) else none
theorem rvD_some {t : List UInt8} {n : Nat} (h : rvD t = some n) : t = Lib.decDigits n := by
  unfold rvD at h
  split at h
  · rename_i q
    injection h with h
    rw [← h]
    exact (CanQ.dec ⟨q.1, q.2.2.2, q.2.2.1⟩).symm
  · cases h
theorem rvD_dec {n : Nat} (h : n ≤ 9223372036854775808) : rvD (Lib.decDigits n) = some n := by
  have c := decQ_can n
  have l := dec_len 18 n (by have : (10 : Nat) ^ 19 = 10000000000000000000 := by decide
                             omega)
  unfold rvD
  rw [if_pos ⟨c.ne, l, c.z, c.d⟩, nvQ_dec]
/-- A value as the document reads it, signed or not. -/
def rvV (sg : Bool) (l : List UInt8) : Option Int :=
  if sg = true ∧ l.head? = some 45 then (if l.tail = [48] then none else (rvD l.tail).bind fun n => if 9223372036854775808 < n then none else some (-(n : Int)))
  else (rvD l).bind fun n => if 9223372036854775807 < n then none else some (n : Int)
theorem dtx0 (v : Int) : dtx v 0 = (if v < 0 then [45] else []) ++ Lib.decDigits (absI v).toNat := by
  rw [dtx_eq]
  unfold sg pointed padTo
  have : 0 + 1 - (Lib.decDigits (absI v).toNat).length = 0 := by have := List.length_pos_iff.2 (dec_neB (absI v).toNat); omega
  rw [if_pos rfl, this]
  rfl
theorem dtx_posQ (n : Nat) : dtx (n : Int) 0 = Lib.decDigits n := by
  rw [dtx0, if_neg (by omega), absI_pos (by omega)]
  simp
theorem dtx_negQ (n : Nat) (h : 1 ≤ n) : dtx (-(n : Int)) 0 = 45 :: Lib.decDigits n := by
  rw [dtx0, if_pos (by omega), absI_neg (by omega)]
  simp
theorem dec_no45 (n : Nat) : (Lib.decDigits n).head? ≠ some 45 := by
  intro e
  cases hl : Lib.decDigits n with
  | nil => rw [hl] at e; cases e
  | cons x l =>
    rw [hl] at e
    simp only [List.head?_cons, Option.some.injEq] at e
    have := dec_d n x (by rw [hl]; simp)
    unfold isD at this
    rw [e] at this
    exact absurd this (by decide)
theorem rvV_true (l : List UInt8) : rvV true l = prs 0 l := by
  have fwd : ∀ v, rvV true l = some v → prs 0 l = some v := by
    intro v h
    unfold rvV at h
    split at h
    · rename_i q
      split at h
      · cases h
      · rename_i ht
        obtain ⟨n, h1, h2⟩ := Option.bind_eq_some_iff.1 h
        split at h2
        · cases h2
        · rename_i hn
          injection h2 with h2
          subst h2
          have e := rvD_some h1
          have n1 : 1 ≤ n := by
            rcases Nat.eq_zero_or_pos n with z | z
            · subst z; rw [decQ_one (by omega)] at e; exact absurd e ht
            · exact z
          have el : l = dtx (-(n : Int)) 0 := by
            rw [dtx_negQ n n1, ← e]
            cases l with
            | nil => cases q.2
            | cons x l => simp only [List.head?_cons, Option.some.injEq] at q; rw [q.2]; rfl
          rw [el]
          exact prs_back _ (by unfold inR; omega) 0
    · obtain ⟨n, h1, h2⟩ := Option.bind_eq_some_iff.1 h
      split at h2
      · cases h2
      · injection h2 with h2
        subst h2
        rw [rvD_some h1, ← dtx_posQ]
        exact prs_back _ (by unfold inR; omega) 0
  have bwd : ∀ v, prs 0 l = some v → rvV true l = some v := by
    intro v h
    obtain ⟨e, a⟩ := prs_some h
    have iv : inR v := atoi_inR a
    unfold inR at iv
    unfold rvV
    by_cases hv : v < 0
    · obtain ⟨n, rfl, n1⟩ : ∃ n : Nat, v = -(n : Int) ∧ 1 ≤ n := ⟨(-v).toNat, by omega, by omega⟩
      rw [dtx_negQ n n1] at e
      subst e
      rw [if_pos ⟨rfl, rfl⟩, List.tail_cons, if_neg (fun q => by have := congrArg (nvQ 0) q; rw [nvQ_dec, nvQ_one] at this; have h48 : (48 : UInt8).toNat = 48 := rfl; omega), rvD_dec (by omega)]
      show (if 9223372036854775808 < n then none else some (-(n : Int))) = _
      rw [if_neg (by omega)]
    · obtain ⟨n, rfl⟩ : ∃ n : Nat, v = (n : Int) := ⟨v.toNat, by omega⟩
      rw [dtx_posQ] at e
      subst e
      rw [if_neg (fun q => dec_no45 n q.2), rvD_dec (by omega)]
      show (if 9223372036854775807 < n then none else some (n : Int)) = _
      rw [if_neg (by omega)]
  cases h : prs 0 l with
  | some v => exact bwd v h
  | none =>
    cases h2 : rvV true l with
    | none => rfl
    | some v => rw [fwd v h2] at h; cases h
theorem rvV_false (l : List UInt8) : rvV false l = (prs 0 l).bind fun v => if 0 ≤ v then some v else none := by
  have e0 : rvV false l = (rvD l).bind fun n => if 9223372036854775807 < n then none else some (n : Int) := by unfold rvV; rw [if_neg (by simp)]
  rw [e0]
  cases h : rvD l with
  | some n =>
    have e := rvD_some h
    show (if 9223372036854775807 < n then none else some (n : Int)) = _
    split
    · rename_i hn
      cases hp : prs 0 l with
      | none => rfl
      | some v =>
        obtain ⟨e1, a⟩ := prs_some hp
        have iv : inR v := atoi_inR a
        unfold inR at iv
        show none = (if 0 ≤ v then some v else none)
        rw [if_neg]
        intro hv
        obtain ⟨m, rfl⟩ : ∃ m : Nat, v = (m : Int) := ⟨v.toNat, by omega⟩
        rw [dtx_posQ, e] at e1
        have := congrArg (nvQ 0) e1
        rw [nvQ_dec, nvQ_dec] at this
        omega
    · rename_i hn
      rw [e, ← dtx_posQ, prs_back _ (by unfold inR; omega) 0]
      show _ = (if 0 ≤ (n : Int) then some (n : Int) else none)
      rw [if_pos (by omega)]
  | none =>
    cases hp : prs 0 l with
    | none => rfl
    | some v =>
      obtain ⟨e1, a⟩ := prs_some hp
      have iv : inR v := atoi_inR a
      unfold inR at iv
      show none = (if 0 ≤ v then some v else none)
      rw [if_neg]
      intro hv
      obtain ⟨m, rfl⟩ : ∃ m : Nat, v = (m : Int) := ⟨v.toNat, by omega⟩
      rw [dtx_posQ] at e1
      rw [← e1, rvD_dec (by omega)] at h
      cases h
end Go.Proofs.YtkjmkhmjaknfhaaGreatDoor

namespace Go.Proofs.YtkjmkhmjaknfhaaGreatDoor
open Go.RowKit
set_option linter.unusedVariables false
set_option linter.unusedSimpArgs false

/-- The variables that reading looks at. -/
structure GlA (W : World) : Prop where
  pw : Pows W
  ev : Ev W
  rw_ : Rws W
  md : Mds W
  ln : LnR W
theorem hdW_len : hdW.length = 8 := rfl
theorem hd_get (k : Nat) (hk : k < 8) : hdW[k]'(by rw [hdW_len]; exact hk) = hdA k := by
  unfold hdA
  rw [List.getD_eq_getElem?_getD, List.getElem?_eq_getElem (by rw [hdW_len]; exact hk), Option.getD_some]
theorem lnE_hdI (s : ByteArray) : (∃ k : Nat, k < 8 ∧ hdI s = k ∧ LnE s (k : Int) true) ∨ (¬ hdI s < 8 ∧ LnE s 0 false) := by
  by_cases h : ∃ k : Nat, k < 8 ∧ hdA k = s
  · obtain ⟨k, hk, e⟩ := h
    refine .inl ⟨k, hk, ?_, .inl ⟨k, hk, e, rfl, rfl⟩⟩
    unfold hdI
    rw [List.findIdx_eq (by rw [hdW_len]; exact hk)]
    refine ⟨by rw [hd_get k hk]; simp [e], fun j hj => ?_⟩
    rw [hd_get j (by omega)]
    simp only [decide_eq_false_iff_not]
    exact fun q => hd_ne j (by omega) k hk (by omega) (q.trans e.symm)
  · refine .inr ⟨fun q => h ⟨hdI s, q, ?_⟩, .inr ⟨fun k hk e => h ⟨k, hk, e⟩, rfl, rfl⟩⟩
    have := List.findIdx_getElem (xs := hdW) (p := fun x => decide (x = s)) (w := by rw [hdW_len]; exact q)
    rw [← hd_get (hdI s) q]
    exact of_decide_eq_true this
theorem sr_setQ {w : World} {xb xo n c rb j : Nat} {v : Value} {ss : List ByteArray} (h : SR w (some ⟨xb, xo, none⟩) n c ss) (hne : rb ≠ xb) : SR (w.setCell ⟨rb, j, none⟩ v) (some ⟨xb, xo, none⟩) n c ss := by
  refine ⟨h.1, h.2.1, h.2.2.1, h.2.2.2.1, ?_⟩
  rcases h.2.2.2.2 with q | ⟨b, o, e, h1, h2⟩
  · exact .inl q
  · refine .inr ⟨b, o, e, by simpa using h1, fun i hi k hk => ?_⟩
    injection e with e
    injection e with e1 e2
    subst e1
    rw [World.cell?_setCell_other _ _ _ _ (by first | (simp; done) | (simp; omega))]
    exact h2 i hi k hk
theorem sr_tail {w : World} {xb xo n c : Nat} {u : ByteArray} {ss : List ByteArray} (h : SR w (some ⟨xb, xo, none⟩) n c (u :: ss)) : SR w (some ⟨xb, xo + 1, none⟩) (n - 1) (c - 1) ss := by
  obtain ⟨h1, h2, h3, h4, h5⟩ := h
  simp only [List.length_cons] at h2
  refine ⟨⟨fun e => (by cases e), by have := h1.2.1; omega, by have := h1.2.2; omega⟩, by omega, by omega, fun s hs => h4 s (List.mem_cons_of_mem _ hs), ?_⟩
  rcases h5 with q | ⟨b, o, e, q1, q2⟩
  · omega
  · refine .inr ⟨b, o + 1, ?_, q1, fun i hi j hj => ?_⟩
    · injection e with e; injection e with e1 e2 _; subst e1 e2; first | done | rfl
    · have := q2 (i + 1) (by omega) j hj
      rw [show o + (i + 1) * 1 + j = o + 1 + i * 1 + j by omega] at this
      simpa using this
/-- What take leaves. -/
def TkG (rb : Nat) (rest : ByteArray) (cnt m : Nat) (av : Option Nat) (o : Option (Nat × Ap)) (w : World) (e : Ending) (w' : World) : Prop := e = .returned (.bool o.isSome) ∧ (FrR rb w w' ∧ w'.cell? ⟨rb, 1, none⟩ = some (.int .i64 (cnt : Int))) ∧ ∀ q, o = some q → RsP rb w' rest cnt q.1 q.2 m av
theorem RsP.later {rb : Nat} {W W' : World} {rest : ByteArray} {cnt next m : Nat} {av : Option Nat} {p : Ap} (h : RsP rb W rest cnt next p m av) (b : Below W.heap.size W W') : RsP rb W' rest cnt next p m av := by
  obtain ⟨vn, vu, vp, vd, fn, fu, fp, D, hb, hl⟩ := h
  exact ⟨vn, vu, vp, vd, fn, fu, fp, D, hb.belw b, hl.later b⟩
theorem RsP.more {rb : Nat} {W : World} {rest : ByteArray} {cnt next m m' : Nat} {av : Option Nat} {p : Ap} (h : RsP rb W rest cnt next p m av) (k : m ≤ m') : RsP rb W rest cnt next p m' av := by
  obtain ⟨vn, vu, vp, vd, fn, fu, fp, D, hb, hl⟩ := h
  exact ⟨vn, vu, vp, vd, fn, fu, fp, D, hb, hl.more k⟩
/-- The cells of a reader that is read: the rest, the count, the next line. -/
theorem RsP.head {rb : Nat} {W : World} {rest : ByteArray} {cnt next m : Nat} {av : Option Nat} {p : Ap} (h : RsP rb W rest cnt next p m av) : (W.cell? ⟨rb, 0, none⟩ = some (.string rest) ∧ W.frozen? ⟨rb, 0, none⟩ = false) ∧ (W.cell? ⟨rb, 1, none⟩ = some (.int .i64 cnt) ∧ W.frozen? ⟨rb, 1, none⟩ = false) ∧ (W.cell? ⟨rb, 2, none⟩ = some (.int .i64 next) ∧ W.frozen? ⟨rb, 2, none⟩ = false) ∧ rb < W.heap.size := by
  obtain ⟨vn, vu, vp, vd, fn, fu, fp, D, hb, hl⟩ := h
  exact ⟨⟨hb.cell 0, hb.frozen 0⟩, ⟨hb.cell 1, hb.frozen 1⟩, ⟨hb.cell 2, hb.frozen 2⟩, hb.lt⟩
theorem RsP.put0 {rb : Nat} {W : World} {rest : ByteArray} {cnt next m : Nat} {av : Option Nat} {p : Ap} (h : RsP rb W rest cnt next p m av) (x : ByteArray) : RsP rb (W.setCell ⟨rb, 0, none⟩ (.string x)) x cnt next p m av ∧ FrR rb W (W.setCell ⟨rb, 0, none⟩ (.string x)) := by
  obtain ⟨vn, vu, vp, vd, fn, fu, fp, D, hb, hl⟩ := h
  exact ⟨⟨vn, vu, vp, vd, fn, fu, fp, D, hb.set 0 _ (by simp [rdA]), hl.setB hb 0 _⟩, rd_gr hb 0 _⟩
theorem RsP.put1 {rb : Nat} {W : World} {rest : ByteArray} {cnt next m : Nat} {av : Option Nat} {p : Ap} (h : RsP rb W rest cnt next p m av) (x : Nat) : RsP rb (W.setCell ⟨rb, 1, none⟩ (.int .i64 x)) rest x next p m av ∧ FrR rb W (W.setCell ⟨rb, 1, none⟩ (.int .i64 x)) := by
  obtain ⟨vn, vu, vp, vd, fn, fu, fp, D, hb, hl⟩ := h
  exact ⟨⟨vn, vu, vp, vd, fn, fu, fp, D, hb.set 1 _ (by simp [rdA]), hl.setB hb 1 _⟩, rd_gr hb 1 _⟩
theorem RsP.put2 {rb : Nat} {W : World} {rest : ByteArray} {cnt next m : Nat} {av : Option Nat} {p : Ap} (h : RsP rb W rest cnt next p m av) (x : Nat) : RsP rb (W.setCell ⟨rb, 2, none⟩ (.int .i64 x)) rest cnt x p m av ∧ FrR rb W (W.setCell ⟨rb, 2, none⟩ (.int .i64 x)) := by
  obtain ⟨vn, vu, vp, vd, fn, fu, fp, D, hb, hl⟩ := h
  exact ⟨⟨vn, vu, vp, vd, fn, fu, fp, D, hb.set 2 _ (by simp [rdA]), hl.setB hb 2 _⟩, rd_gr hb 2 _⟩
theorem sr_tail0 {w : World} {xb n : Nat} {u : ByteArray} {ss : List ByteArray} (h : SR w (some ⟨xb, 0, none⟩) n 1 (u :: ss)) : SR w (some ⟨xb, 0, none⟩) (n - 1) 0 ss := by
  obtain ⟨h1, h2, h3, h4, h5⟩ := h
  simp only [List.length_cons] at h2
  have := h1.2.1
  exact ⟨⟨fun e => (by cases e), by omega, by unfold maxLen; omega⟩, by omega, by omega, fun s hs => h4 s (List.mem_cons_of_mem _ hs), .inl (by omega)⟩
set_option maxRecDepth 100000 in
set_option maxHeartbeats 400000 in
theorem takeL_any {w : World} {rb cnt next m : Nat} {av : Option Nat} {rest : ByteArray} {p : Ap} {xb n c : Nat} {w0 : ByteArray} {ws : List ByteArray} (h : RsP rb w rest cnt next p m av) (hav : ∀ z, av = some z → z < w.heap.size) (hs : SR w (some ⟨xb, 0, none⟩) n c (w0 :: ws)) (hx : rb ≠ xb) (hn : n ≤ 16777216) (hz : ∀ s ∈ w0 :: ws, s.size ≤ 16777216) (hG : ∀ W, Below rb w W → GlA W) (hm : m ≤ 16777216) (h7 : next ≤ 7) :
    Calls Tryz.prog 39 #[.pointer (some ⟨rb, 0, none⟩), .slice (some ⟨xb, 0, none⟩) n c] w fun e w' => TkG rb rest cnt (m + 1) av (apLine (next, p) w0 ws) w e w' := by
  have hl := h.head.2.2.2
  have len := hs.2.1
  simp only [List.length_cons] at len
  obtain ⟨hxb, c0⟩ : xb < w.heap.size ∧ w.cell? ⟨xb, 0, none⟩ = some (.string w0) := by
    rcases hs.2.2.2.2 with q | ⟨b, o, e, q1, q2⟩
    · omega
    · injection e with e
      injection e with e1 e2
      subst e1 e2
      have := q2 0 (by omega) 0 (by omega)
      exact ⟨q1, by simpa using this⟩
  have n0 : (0 : Int) < (n : Int) := by omega
  have n1 : (1 : Int) ≤ (n : Int) := by omega
  have nc : n ≤ c := hs.1.2.1
  have g0 := hG w (Below.refl _ _)
  have H := Lib.hid h
  have HS := Lib.hid hs
  have HZ := Lib.hid hz
  have HG := Lib.hid hG
  have HX := Lib.hid hx
  have HV := Lib.hid hav
  have LN := Lib.hid g0.ln
  have BL := Lib.hid (fun W (b : Below w.heap.size w W) => (b.mono (Nat.le_of_lt hl) : Below rb w W))
  have n1' : n - 1 ≤ 16777216 := by omega
  rcases lnE_hdI w0 with ⟨k, hk, ek, hF⟩ | ⟨nk, hF⟩
  · have KL := Lib.hid (lineOf_any w0 _ _ hF w LN.out)
    clear hF
    have e0 : apLine (next, p) w0 ws = if mayC next k = true then ((if 3 ≤ k then apNum k ws p else apList k ws p).map fun q => (min (k + 1) 7, q)) else none := by
      unfold apLine
      rw [ek, if_pos hk]
    rw [e0]
    clear e0
    have KM := Lib.hid (fun W (b : Below w.heap.size w W) => mayCome_any rb next k W (H.out.later b).head.2.2.1.1 (by omega) (by omega) (HG.out W (BL.out W b)).ln)
    cases hmc : mayC next k with
    | false =>
      rw [hmc] at KM
      rw [if_neg (by simp)]
      clear hG g0 h hs hz hx hxb len hav hmc
      go_enter Tryz.func39, Tryz.ntmps39
      go_wp2_with (first
        | (go_at_call 71; refine KL.out.mono ?_; rintro e w1 ⟨rfl, h2⟩; have B1 := Lib.hid h2; clear h2)
        | (go_at_call 40; refine (KM.out _ B1.out).mono ?_; rintro e w2 ⟨rfl, rfl⟩))
      go_ret
      exact ⟨rfl, ⟨FrR.below B1.out, (H.out.later B1.out).head.2.1.1⟩, fun q hq => by cases hq⟩
    | true =>
      rw [hmc] at KM
      rw [if_pos rfl]
      clear hmc
      have TL : (n = 1 ∧ c = 1 ∧ RowKit.Hid (∀ W, SR W (some ⟨xb, 0, none⟩) n c (w0 :: ws) → SR W (some ⟨xb, 0, none⟩) 0 0 ws)) ∨ (1 < c ∧ RowKit.Hid (∀ W, SR W (some ⟨xb, 0, none⟩) n c (w0 :: ws) → SR W (some ⟨xb, 1, none⟩) (n - 1) (c - 1) ws)) := by
        rcases (show c = 1 ∨ 1 < c by omega) with rfl | q
        · obtain rfl : n = 1 := by omega
          exact .inl ⟨rfl, rfl, fun W => sr_tail0⟩
        · exact .inr ⟨q, fun W => sr_tail⟩
      have P2 := Lib.hid (fun W (b : Below w.heap.size w W) => (H.out.later b).put2 (min (k + 1) 7))
      have F2 := Lib.hid (fun W (b : Below w.heap.size w W) => (FrR.below (rb := rb) b).trans (P2.out W b).2)
      have G2 := Lib.hid (fun W (b : Below w.heap.size w W) => HG.out _ ((F2.out W b).bel (Nat.le_of_lt hl)))
      have S2 := Lib.hid (fun W (b : Below w.heap.size w W) => sr_setQ (j := 2) (v := .int .i64 ((min (k + 1) 7 : Nat) : Int)) (HS.out.later b) hx)
      obtain ⟨nx, hnx⟩ : ∃ x, min (k + 1) 7 = x := ⟨_, rfl⟩
      have mn : (min ((k : Int) + 1) 7) = (nx : Int) := by omega
      rw [hnx] at P2 F2 G2 S2 ⊢
      by_cases k3 : 3 ≤ k
      · rw [if_pos k3]
        have k3' : (3 : Int) ≤ (k : Int) := by omega
        obtain ⟨O, hO⟩ : ∃ O, apNum k ws p = O := ⟨_, rfl⟩
        have KT := Lib.hid (fun W (b : Below w.heap.size w W) (x' : Addr) (n' c' : Nat) (q : SR (W.setCell ⟨rb, 2, none⟩ (.int .i64 (nx : Int))) (some x') n' c' ws) => takeNumber_any k k3 hk (P2.out W b).1 q (fun s q => HZ.out s (List.mem_cons_of_mem _ q)) (G2.out W b).pw (G2.out W b).ev hm)
        rw [hO] at KT ⊢
        have HO := Lib.hid (p := (O.map fun q => (nx, q)).isSome = O.isSome) (by simp)
        clear hG g0 h hs hz hx hxb len hav hnx hO
        rcases TL with ⟨rfl, rfl, TL⟩ | ⟨c1, TL⟩
        all_goals
          go_enter Tryz.func39, Tryz.ntmps39
          go_wp2_with (first
            | (go_at_call 71; refine KL.out.mono ?_; rintro e w1 ⟨rfl, h2⟩; have B1 := Lib.hid h2; clear h2)
            | (go_at_call 40; refine (KM.out _ B1.out).mono ?_; rintro e w2 ⟨rfl, rfl⟩; have c2 := (H.out.later B1.out).head.2.2.1.1; have f2 := (H.out.later B1.out).head.2.2.1.2)
            | (go_at_call 73; refine (KT.out _ B1.out _ _ _ (TL.out _ (S2.out _ B1.out))).mono ?_; rintro e w3 ⟨rfl, ⟨h3, h5⟩, h4⟩; have C3 := Lib.hid h5; have F3 := Lib.hid ((F2.out _ B1.out).trans h3); have R3 := Lib.hid h4; clear h3 h4 h5))
          go_ret
          refine ⟨by show Ending.returned (Value.bool O.isSome) = _; rw [HO.out], ⟨F3.out, C3.out⟩, fun q hq => ?_⟩
          obtain ⟨q', e1, rfl⟩ := Option.map_eq_some_iff.1 hq
          exact R3.out q' e1
      · rw [if_neg k3]
        have k3' : ¬ (3 : Int) ≤ (k : Int) := by omega
        obtain ⟨O, hO⟩ : ∃ O, apList k ws p = O := ⟨_, rfl⟩
        have KT := Lib.hid (fun W (b : Below w.heap.size w W) (x' : Addr) (n' c' : Nat) (hn' : n' ≤ 16777216) (q : SR (W.setCell ⟨rb, 2, none⟩ (.int .i64 (nx : Int))) (some x') n' c' ws) => takeList_any k (by omega) (P2.out W b).1 (fun z e => Nat.lt_of_lt_of_le (HV.out z e) (F2.out W b).size) q hn' (fun s q => HZ.out s (List.mem_cons_of_mem _ q)) (G2.out W b).pw (G2.out W b).ev)
        rw [hO] at KT ⊢
        have HO := Lib.hid (p := (O.map fun q => (nx, q)).isSome = O.isSome) (by simp)
        clear hG g0 h hs hz hx hxb len hav hnx hO
        rcases TL with ⟨rfl, rfl, TL⟩ | ⟨c1, TL⟩
        all_goals
          go_enter Tryz.func39, Tryz.ntmps39
          go_wp2_with (first
            | (go_at_call 71; refine KL.out.mono ?_; rintro e w1 ⟨rfl, h2⟩; have B1 := Lib.hid h2; clear h2)
            | (go_at_call 40; refine (KM.out _ B1.out).mono ?_; rintro e w2 ⟨rfl, rfl⟩; have c2 := (H.out.later B1.out).head.2.2.1.1; have f2 := (H.out.later B1.out).head.2.2.1.2)
            | (go_at_call 74; refine (KT.out _ B1.out _ _ _ (by omega) (TL.out _ (S2.out _ B1.out))).mono ?_; rintro e w3 ⟨rfl, ⟨h3, h5⟩, h4⟩; have C3 := Lib.hid h5; have F3 := Lib.hid ((F2.out _ B1.out).trans h3); have R3 := Lib.hid h4; clear h3 h4 h5))
          go_ret
          refine ⟨by show Ending.returned (Value.bool O.isSome) = _; rw [HO.out], ⟨F3.out, C3.out⟩, fun q hq => ?_⟩
          obtain ⟨q', e1, rfl⟩ := Option.map_eq_some_iff.1 hq
          exact R3.out q' e1
  · have KL := Lib.hid (lineOf_any w0 _ _ hF w LN.out)
    have e0 : apLine (next, p) w0 ws = (apIns p w0 ws).map fun q => (next, q) := by
      unfold apLine apIns
      rw [if_neg nk]
      simp only
      split
      · rfl
      · rw [Option.map_map]; rfl
    rw [e0]
    obtain ⟨O, hO⟩ : ∃ O, apIns p w0 ws = O := ⟨_, rfl⟩
    have KT := Lib.hid (fun W (b : Below w.heap.size w W) => takeInstr_any (H.out.later b) (HS.out.later b) HZ.out (HG.out W (BL.out W b)).rw_ (HG.out W (BL.out W b)).md (HG.out W (BL.out W b)).pw (HG.out W (BL.out W b)).ev hm)
    rw [hO] at KT ⊢
    have HO := Lib.hid (p := (O.map fun q => (next, q)).isSome = O.isSome) (by simp)
    clear hG g0 h hs hz hx hxb len hav hO e0 hF
    go_enter Tryz.func39, Tryz.ntmps39
    go_wp2_with (first
      | (go_at_call 71; refine KL.out.mono ?_; rintro e w1 ⟨rfl, h2⟩; have B1 := Lib.hid h2; clear h2)
      | (go_at_call 72; refine (KT.out _ B1.out).mono ?_; rintro e w3 ⟨rfl, ⟨h3, h5⟩, h4⟩; have C3 := Lib.hid h5; have F3 := Lib.hid ((FrR.below (rb := rb) B1.out).trans h3); have R3 := Lib.hid h4; clear h3 h4 h5))
    go_ret
    refine ⟨by show Ending.returned (Value.bool O.isSome) = _; rw [HO.out], ⟨F3.out, C3.out⟩, fun q hq => ?_⟩
    obtain ⟨q', e1, rfl⟩ := Option.map_eq_some_iff.1 hq
    exact R3.out q' e1
end Go.Proofs.YtkjmkhmjaknfhaaGreatDoor
