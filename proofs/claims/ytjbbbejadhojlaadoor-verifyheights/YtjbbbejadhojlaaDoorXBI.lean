import Derived.Test.YtjbbbejadhojlaaDoorXBH
namespace Go.Proofs.YtjbbbejadhojlaaDoor
open Go.RowKit
set_option linter.unusedVariables false
set_option linter.unusedSimpArgs false
def updL (cd : Nat → List In) (k : Nat) (x : List In) (d : Nat) : List In := if d = k then x else cd d
theorem updL_eq (cd : Nat → List In) (k : Nat) (x : List In) : updL cd k x k = x := if_pos rfl
theorem updL_ne {cd : Nat → List In} {k : Nat} {x : List In} {d : Nat} (h : d ≠ k) : updL cd k x d = cd d := if_neg h
def hdA (p : Pg) (gn gc gp gd : Nat) : Array Value := #[.slice (some ⟨gn, 0, none⟩) p.names.length (p.names.length + 3), .slice (some ⟨gc, 0, none⟩) p.curs.length (p.curs.length + 3), .slice (some ⟨gp, 0, none⟩) p.pool.length (p.pool.length + 3), .int .i64 p.hor, .int .i64 p.cells, .int .i64 p.slots, .int .i64 p.stack, .slice (some ⟨gd, 0, none⟩) p.days.length (p.days.length + 3)]
def qA (p : Pg) (qv : Value) : Array Value := #[.slice p.na p.names.length p.nc, .slice p.ua p.curs.length p.uc, .slice p.pa p.pool.length p.pc, .int .i64 p.hor, .int .i64 p.cells, .int .i64 p.slots, .int .i64 p.stack, qv]
def zeroP : Array Value := #[.slice none 0 0, .slice none 0 0, .slice none 0 0, .int .i64 0, .int .i64 0, .int .i64 0, .int .i64 0, .slice none 0 0]
structure TuI (wb w : World) (p : Pg) (gn gc gp gd : Nat) (cg : Nat → Nat) (cd : Nat → List In) (qv : Value) (Q : List Sg) (W : World) : Prop where
  be : Below wb.heap.size w W
  far : ∀ u, u < w.heap.size → (∀ d, d < p.days.length → u ≠ cg d) → W.heap[u]? = w.heap[u]?
  ib : BkP W w.heap.size (hdA p gn gc gp gd) 26
  pb : BkP W (w.heap.size + 1) p.arr 26
  rb : BkP W (w.heap.size + 2) zeroP 26
  qb : BkP W (w.heap.size + 3) (qA p qv) 26
  hn : HnP W wb.heap.size p gn gc gp gd cg cd
  cl : ∀ d, d < p.days.length → cg d < w.heap.size
  gl : gd < w.heap.size
  qo : OwSg W w.heap.size qv Q
  qs : ∀ s ∈ Q, GV W s ∧ ∀ y u m, s.ca = some ⟨y, u, m⟩ → w.heap.size ≤ y ∧ ∃ cur, BkP W y cur 51
section
variable {wb w : World} {p : Pg} {gn gc gp gd : Nat} {cg : Nat → Nat} {cd : Nat → List In} {qv : Value} {Q : List Sg} {W : World}
theorem TuI.lat {W' : World} (h : TuI wb w p gn gc gp gd cg cd qv Q W) (b : Below W.heap.size W W') (hb : wb.heap.size ≤ w.heap.size) : TuI wb w p gn gc gp gd cg cd qv Q W' := by
  have ws : w.heap.size + 3 < W.heap.size := h.qb.lt
  refine ⟨h.be.trans (b.mono (by omega)), fun u hu hn => (b.block u (by omega)).trans (h.far u hu hn), h.ib.lat b, h.pb.lat b, h.rb.lat b, h.qb.lat b, h.hn.lat b, h.cl, h.gl, own_blkG h.qo (fun g hg => b.block g (World.ownsRow.lt h.qo g hg).2), fun s hs => ⟨(h.qs s hs).1.later b, fun y u m e => ?_⟩⟩
  obtain ⟨q1, cur, q2⟩ := (h.qs s hs).2 y u m e
  exact ⟨q1, cur, q2.lat b⟩
/-- A day's code was turned about. -/
theorem TuI.turn (h : TuI wb w p gn gc gp gd cg cd qv Q W) {d : Nat} (hd : d < p.days.length) (hb : wb.heap.size ≤ w.heap.size) {V : World} (bb : Below wb.heap.size W V) (fa : ∀ u, u < W.heap.size → u ≠ cg d → V.heap[u]? = W.heap[u]?) {x : List In} (hl : x.length = (p.days.getD d default).code.length) (cb : BkP V (cg d) (fullA (inG x) (((p.days.getD d default).code.length + 3) * 3)) 51) : TuI wb w p gn gc gp gd cg (updL cd d x) qv Q V := by
  have ws : w.heap.size + 3 < W.heap.size := h.qb.lt
  have cl := h.cl d hd
  have old := (h.hn.bi d hd).1
  have keep : ∀ {u : Nat} {cs : Array Value} {t : TypeId}, BkP W u cs t → u ≠ cg d → BkP V u cs t := fun {u cs t} bk ne => (fa u bk.lt ne).trans bk
  have ne : ∀ {u : Nat} {cs : Array Value} {t : TypeId}, BkP W u cs t → t ≠ 51 → u ≠ cg d := fun {u cs t} bk ht z => bk_ne old bk (fun q => ht q.symm) z.symm
  have kk : ∀ {u : Nat} {cs : Array Value} {t : TypeId}, BkP W u cs t → t ≠ 51 → BkP V u cs t := fun {u cs t} bk ht => keep bk (ne bk ht)
  refine ⟨h.be.trans bb, fun u hu hn => (fa u (by omega) (hn d hd)).trans (h.far u hu hn), kk h.ib (by decide), kk h.pb (by decide), kk h.rb (by decide), kk h.qb (by decide), ⟨kk h.hn.bn (by decide), kk h.hn.bc (by decide), kk h.hn.bp (by decide), kk h.hn.bd (by decide), fun e he => ?_, h.hn.lo, h.hn.inj⟩, h.cl, h.gl, own_blkG h.qo (fun g hg => fa g (World.ownsRow.lt h.qo g hg).2 (by have := (World.ownsRow.lt h.qo g hg).1; omega)), fun s hs => ⟨⟨(h.qs s hs).1.1, (h.qs s hs).1.2.far bb.size (fun y u m e => ?_)⟩, fun y u m e => ?_⟩⟩
  · by_cases z : e = d
    · subst z
      rw [updL_eq]
      exact ⟨cb, hl, (h.hn.bi e he).2.2⟩
    · rw [updL_ne z]
      have q := h.hn.bi e he
      exact ⟨keep q.1 (fun y => z (h.hn.inj e d he hd y)), q.2⟩
  · obtain ⟨q1, cur, q2⟩ := (h.qs s hs).2 y u m e
    exact fa y q2.lt (by omega)
  · obtain ⟨q1, cur, q2⟩ := (h.qs s hs).2 y u m e
    exact ⟨q1, cur, keep q2 (by omega)⟩
/-- A segment more. -/
theorem TuI.push {qa : Option Addr} {qn qc : Nat} (h : TuI wb w p gn gc gp gd cg cd (.slice qa qn qc) Q W) (hb : wb.heap.size ≤ w.heap.size) (hQ : qn ≤ 4398046510990) {s : Sg} (hs : GV W s ∧ ∀ y u m, s.ca = some ⟨y, u, m⟩ → w.heap.size ≤ y ∧ ∃ cur, BkP W y cur 51) {g : Nat} (bk : BkP W g #[.int .i64 s.day, .slice s.ca s.code.length s.cc] 43) : ∃ a' c' w', RowKit.Hid (∀ ty, (Builtin.append_ #[24, 24] ty #[.slice qa qn qc, .slice (some ⟨g, 0, none⟩) 1 1]).run Tryd.prog W = .ok (.slice a' (qn + 1) c') w') ∧ w'.cell? ⟨w.heap.size + 3, 7, none⟩ = some (.slice qa qn qc) ∧ w'.frozen? ⟨w.heap.size + 3, 7, none⟩ = false ∧ RowKit.Hid (Below wb.heap.size w w' ∧ BkP w' (w.heap.size + 1) p.arr 26 ∧ TuI wb w p gn gc gp gd cg cd (.slice a' (qn + 1) c') (Q ++ [s]) (w'.setCell ⟨w.heap.size + 3, 7, none⟩ (.slice a' (qn + 1) c'))) := by
  have ws : w.heap.size + 3 < W.heap.size := h.qb.lt
  obtain ⟨a', c', w', r, z⟩ := h.qo.next hQ (by omega) s bk
  obtain ⟨o', gr⟩ := z.out
  have og : ∀ u, Value.ownBlock (.slice qa qn qc) = some u → w.heap.size ≤ u ∧ u < W.heap.size := fun u e => World.ownsRow.lt h.qo u e
  have kk : ∀ {u : Nat} {cs : Array Value} {t : TypeId}, BkP W u cs t → t ≠ 43 → BkP w' u cs t := fun {u cs t} bk ht => (gr.block u bk.lt (fun z => own_neB h.qo bk (fun q => ht q.symm) z.symm)).trans bk
  have bl : Below wb.heap.size w w' := h.be.trans ⟨gr.os, gr.tape, gr.output, gr.size, fun u hu => gr.block u (by omega) (fun z => by have := og u z.symm; omega)⟩
  have qb' := kk h.qb (by decide)
  have gl := h.gl
  have bd' : BkP w' gd (fullA (sgG p.days cg) ((p.days.length + 3) * 2)) 43 := (gr.block gd h.hn.bd.lt (fun z => by have := og gd z.symm; omega)).trans h.hn.bd
  have ib' := kk h.ib (by decide)
  have pb' := kk h.pb (by decide)
  have rb' := kk h.rb (by decide)
  have far : ∀ u, u ≠ w.heap.size + 3 → (w'.setCell ⟨w.heap.size + 3, 7, none⟩ (.slice a' (qn + 1) c')).heap[u]? = w'.heap[u]? := fun u hu => bk_blockG hu
  have ne : ∀ {u : Nat} {cs : Array Value} {t : TypeId}, BkP w' u cs t → t ≠ 26 → u ≠ w.heap.size + 3 := fun {u cs t} bk ht z => bk_ne qb' bk (fun q => ht q.symm) z.symm
  have k2 : ∀ {u : Nat} {cs : Array Value} {t : TypeId}, BkP w' u cs t → u ≠ w.heap.size + 3 → BkP (w'.setCell ⟨w.heap.size + 3, 7, none⟩ (.slice a' (qn + 1) c')) u cs t := fun {u cs t} bk hu => (far u hu).trans bk
  refine ⟨a', c', w', r, by rw [qb'.cell]; rfl, qb'.frozen 7, bl, pb', ⟨bl.setCell (by show wb.heap.size ≤ w.heap.size + 3; omega) _, fun u hu hn => ?_, k2 ib' (by omega), k2 pb' (by omega), k2 rb' (by omega), ?_, ⟨k2 (kk h.hn.bn (by decide)) (ne (kk h.hn.bn (by decide)) (by decide)), k2 (kk h.hn.bc (by decide)) (ne (kk h.hn.bc (by decide)) (by decide)), k2 (kk h.hn.bp (by decide)) (ne (kk h.hn.bp (by decide)) (by decide)), k2 bd' (by omega), fun e he => ?_, h.hn.lo, h.hn.inj⟩, h.cl, gl, ?_, fun t ht => ?_⟩⟩
  · exact ((far u (by omega)).trans (gr.block u (by omega) (fun z => by have := og u z.symm; omega))).trans (h.far u hu hn)
  · have := qb'.set2 7 (.slice a' (qn + 1) c') (by simp [qA])
    exact this
  · have q := h.hn.bi e he
    exact ⟨k2 (kk q.1 (by decide)) (ne (kk q.1 (by decide)) (by decide)), q.2⟩
  · unfold OwSg at o' ⊢
    exact own_blkG o' (fun u hu => far u (fun z => own_neB o' qb' (by decide) (by rw [hu, z])))
  · have old : ∀ s : Sg, (GV W s ∧ ∀ y u m, s.ca = some ⟨y, u, m⟩ → w.heap.size ≤ y ∧ ∃ cur, BkP W y cur 51) → GV (w'.setCell ⟨w.heap.size + 3, 7, none⟩ (.slice a' (qn + 1) c')) s ∧ ∀ y u m, s.ca = some ⟨y, u, m⟩ → w.heap.size ≤ y ∧ ∃ cur, BkP (w'.setCell ⟨w.heap.size + 3, 7, none⟩ (.slice a' (qn + 1) c')) y cur 51 := fun s hs => by
      have k3 : ∀ y u m, s.ca = some ⟨y, u, m⟩ → ∃ cur, BkP W y cur 51 ∧ BkP (w'.setCell ⟨w.heap.size + 3, 7, none⟩ (.slice a' (qn + 1) c')) y cur 51 := fun y u m e => by
        obtain ⟨q1, cur, q2⟩ := hs.2 y u m e
        exact ⟨cur, q2, k2 (kk q2 (by decide)) (ne (kk q2 (by decide)) (by decide))⟩
      refine ⟨⟨hs.1.1, hs.1.2.far (by have := gr.size; simpa using this) (fun y u m e => ?_)⟩, fun y u m e => ?_⟩
      · obtain ⟨cur, q2, q3⟩ := k3 y u m e
        exact q3.trans q2.symm
      · obtain ⟨cur, q2, q3⟩ := k3 y u m e
        exact ⟨(hs.2 y u m e).1, cur, q3⟩
    rcases List.mem_append.1 ht with ht | ht
    · exact old t (h.qs t ht)
    · rw [List.mem_singleton] at ht
      rw [ht]
      exact old s hs
end
/-- A day's code is being turned about. -/
structure TnI (wb Wd : World) (g : Nat) (l : List In) (i : Nat) (a : Option Addr) (c : Nat) (W : World) : Prop where
  bb : Below wb.heap.size Wd W
  fa : ∀ u, u < Wd.heap.size → u ≠ g → W.heap[u]? = Wd.heap[u]?
  cb : BkP W g (fullA (inG (revT l i)) ((l.length + 3) * 3)) 51
  lo : OwIn W Wd.heap.size (.slice a i c) (l.reverse.take i)
theorem TnI.sameH {wb Wd : World} {g : Nat} {l : List In} {i : Nat} {a : Option Addr} {c : Nat} {W V : World} (h : TnI wb Wd g l i a c W) (e : V.heap = W.heap) (b : Below wb.heap.size Wd V) : TnI wb Wd g l i a c V := ⟨b, fun u hu hn => by rw [e]; exact h.fa u hu hn, by unfold BkP; rw [e]; exact h.cb, own_blkG h.lo (fun u _ => by rw [e])⟩
theorem TnI.step {wb Wd : World} {g : Nat} {l : List In} {i : Nat} {a : Option Addr} {c : Nat} {W : World} (h : TnI wb Wd g l i a c W) (hi : i < l.length) (hl : l.length ≤ 5864062014640) (hg : g < Wd.heap.size) (hb : wb.heap.size ≤ g) {x : In} (hx : x = l.getD (l.length - 1 - i) default) : ∃ a' c' w', RowKit.Hid (∀ ty, (Builtin.append_ #[41, 41] ty #[.slice a i c, .slice (some ⟨W.heap.size, 0, none⟩) 1 1]).run Tryd.prog (W.alloc (.cells #[.int .i64 x.o, .int .i64 x.a, .int .i64 x.b] 51)) = .ok (.slice a' (i + 1) c') w') ∧ (∃ v0 v1 v2, w'.cell? ⟨g, i * 3, none⟩ = some v0 ∧ w'.cell? ⟨g, i * 3 + 1, none⟩ = some v1 ∧ w'.cell? ⟨g, i * 3 + 2, none⟩ = some v2) ∧ (w'.frozen? ⟨g, i * 3, none⟩ = false ∧ w'.frozen? ⟨g, i * 3 + 1, none⟩ = false ∧ w'.frozen? ⟨g, i * 3 + 2, none⟩ = false) ∧ RowKit.Hid (Below wb.heap.size Wd w' ∧ (∀ u, u < Wd.heap.size → u ≠ g → w'.heap[u]? = Wd.heap[u]?) ∧ TnI wb Wd g l (i + 1) a' c' (set3 w' g (i * 3) (.int .i64 x.o) (.int .i64 x.a) (.int .i64 x.b))) := by
  have al := allocBP W (.cells #[.int .i64 x.o, .int .i64 x.a, .int .i64 x.b] 51)
  have sz := h.bb.size
  have lo1 : OwIn (W.alloc (.cells #[.int .i64 x.o, .int .i64 x.a, .int .i64 x.b] 51)) Wd.heap.size (.slice a i c) (l.reverse.take i) := own_blkG h.lo (fun u hu => al.block u (World.ownsRow.lt h.lo u hu).2)
  obtain ⟨a', c', w', r, q⟩ := lo1.next (by omega) (by have := al.size; omega) x (heapN _ _)
  obtain ⟨o', gr⟩ := q.out
  have og : ∀ u, Value.ownBlock (.slice a i c) = some u → Wd.heap.size ≤ u := fun u e => (World.ownsRow.lt h.lo u e).1
  have cb1 : BkP w' g (fullA (inG (revT l i)) ((l.length + 3) * 3)) 51 := (gr.block g (h.cb.lat al).lt (fun z => by have := og g z.symm; omega)).trans (h.cb.lat al)
  have fa1 : ∀ u, u < Wd.heap.size → u ≠ g → w'.heap[u]? = Wd.heap[u]? := fun u hu hn => ((gr.block u (by have := al.size; omega) (fun z => by have := og u z.symm; omega)).trans (al.block u (by omega))).trans (h.fa u hu hn)
  have bb1 : Below wb.heap.size Wd w' := (h.bb.trans (al.mono (by omega))).trans ⟨gr.os, gr.tape, gr.output, gr.size, fun u hu => gr.block u (by have := al.size; omega) (fun z => by have := og u z.symm; omega)⟩
  have cl : ∀ k, k < 3 → ∃ v, w'.cell? ⟨g, i * 3 + k, none⟩ = some v := fun k hk => ⟨_, by rw [cb1.cell, fullA_at _ _ _ (by omega)]⟩
  refine ⟨a', c', w', r, ?_, ⟨cb1.frozen _, cb1.frozen _, cb1.frozen _⟩, bb1, fa1, ⟨?_, fun u hu hn => (set3_far hn).trans (fa1 u hu hn), turn_set cb1 hi rfl hx, ?_⟩⟩
  · obtain ⟨v0, e0⟩ := cl 0 (by omega)
    obtain ⟨v1, e1⟩ := cl 1 (by omega)
    obtain ⟨v2, e2⟩ := cl 2 (by omega)
    exact ⟨v0, v1, v2, e0, e1, e2⟩
  · unfold set3
    exact ((bb1.setCell (by exact hb) _).setCell (by exact hb) _).setCell (by exact hb) _
  · have ne : ∀ u, Value.ownBlock (.slice a' (i + 1) c') = some u → u ≠ g := fun u hu => by have := (World.ownsRow.lt o' u hu).1; omega
    rw [take_rev_next hi, ← hx]
    exact own_blkG o' (fun u hu => set3_far (ne u hu))
end Go.Proofs.YtjbbbejadhojlaaDoor
