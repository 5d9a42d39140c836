import Derived.Test.YtldplmchgmoopaaDoorXAX
import Derived.Test.YtldplmchgmoopaaDoorXAO
import Derived.Test.YtldplmchgmoopaaDoorXAL
import Derived.Test.YtldplmchgmoopaaDoorXAP
import Derived.Test.YtldplmchgmoopaaDoorXAW
import Derived.Test.YtldplmchgmoopaaDoorXAE
import Derived.Deep.RegionHeld3
import Derived.Test.YtldplmchgmoopaaDoorXAM
import Derived.Test.YtldplmchgmoopaaDoorXAA
namespace Go.Proofs.YtldplmchgmoopaaDoor
open Go.RowKit
set_option linter.unusedVariables false
set_option linter.unusedSimpArgs false

theorem atC_fit {r : List Cl} {c : Int} (h : ∀ x ∈ r, (Lit.int .i64 x.v).wf = true) : (Lit.int .i64 (atC r c).v).wf = true := by
  unfold atC
  split
  · rfl
  · unfold List.getD
    by_cases q : c.toNat < r.length
    · rw [List.getElem?_eq_getElem q]; exact h _ (List.getElem_mem q)
    · rw [List.getElem?_eq_none (by omega)]; rfl
theorem TbIs.wf {w : World} {t : Tb} {ss : List ByteArray} {rs : List (List Cl)} (h : TbIs w t ss rs) : ∀ r ∈ rs, ∀ c ∈ r, (Lit.int .i64 c.v).wf = true := fun r hr c hc => by
  rw [← h.rs] at hr
  obtain ⟨q, hq, rfl⟩ := List.mem_map.1 hr
  exact (h.rl.2.2.1 q hq).1.2.2.1 c hc
theorem bnd_fit {w : World} {t : Tb} {ss : List ByteArray} {rs : List (List Cl)} {ns : List ByteArray} {qs : List Rw} (h : TbIs w t ss rs) (hq : qs.map (·.cs) = if bindE ss rs ns = 0 then bndR ss rs ns else []) (hn : ns.length ≤ 2000000) : qs.length ≤ 4096 ∧ ∀ q ∈ qs, q.cs.length ≤ 2000000 ∧ ∀ c ∈ q.cs, (Lit.int .i64 c.v).wf = true := by
  by_cases e : bindE ss rs ns = 0
  · rw [if_pos e] at hq
    have g := gd_valid (bind_ok e).1 h.wf
    refine ⟨?_, fun q hq' => ?_⟩
    · have := congrArg List.length hq
      simp [bndR] at this
      rw [this]
      exact g.r4
    · have m : q.cs ∈ bndR ss rs ns := by rw [← hq]; exact List.mem_map.2 ⟨q, hq', rfl⟩
      unfold bndR at m
      obtain ⟨r, hr, er⟩ := List.mem_map.1 m
      rw [← er]
      refine ⟨by simpa using hn, fun c hc => ?_⟩
      obtain ⟨s, _, es⟩ := List.mem_map.1 hc
      rw [← es]
      exact atC_fit (h.wf r hr)
  · rw [if_neg e] at hq
    have : qs = [] := by simpa using hq
    subst this
    exact ⟨by simp, fun q hq => by cases hq⟩
theorem box_three {w : World} {x : Nat} {u v y : Value} {t : TypeId} (h : w.heap[x]? = some (.cells #[u, v, y] t)) : w.cell? ⟨x, 0, none⟩ = some u ∧ w.cell? ⟨x, 1, none⟩ = some v ∧ w.cell? ⟨x, 2, none⟩ = some y := by
  refine ⟨?_, ?_, ?_⟩ <;> simp [World.cell?, h]
structure AskC (W : World) (x : Nat) (ta tb : Tb) (kd : Int) (na : Option Addr) (nn nc : Nat) (N : Int) : Prop where
  a0 : W.cell? ⟨x, 0, none⟩ = some (.slice ta.an ta.ln ta.cn)
  a1 : W.cell? ⟨x, 1, none⟩ = some (.slice ta.ar ta.lr ta.cr)
  b0 : W.cell? ⟨x + 1, 0, none⟩ = some (.slice tb.an tb.ln tb.cn)
  b1 : W.cell? ⟨x + 1, 1, none⟩ = some (.slice tb.ar tb.lr tb.cr)
  x0 : W.cell? ⟨x + 1 + 1, 0, none⟩ = some (.int .i64 kd)
  x1 : W.cell? ⟨x + 1 + 1, 1, none⟩ = some (.slice na nn nc)
  x2 : W.cell? ⟨x + 1 + 1, 2, none⟩ = some (.int .i64 N)
/-- What ask leaves. -/
def AskE (B bk : Nat) (late : Bool) (K : Nat) (w : World) (e : Ending) (w' : World) : Prop := e = .returned (.bool true) ∧ BkS w' B bk late (K + 2) [] ∧ Fr B bk w w'
end Go.Proofs.YtldplmchgmoopaaDoor

namespace Go.Proofs.YtldplmchgmoopaaDoor
open Go.RowKit
set_option linter.unusedVariables false
set_option linter.unusedSimpArgs false

/-- A table that was handed out: its memory is its own. -/
structure OwT (B : Nat) (W : World) (u : Tb) : Prop where
  o1 : W.ownsRow B 9 1 (.slice u.an u.ln u.cn) u.ln (u.ss.map Value.string)
  o2 : RwO W B (.slice u.ar u.lr u.cr) u.rs
  n : u.ln ≤ 1000000
  s : ∀ s ∈ u.ss, s.size ≤ 140737488351232
  r : u.lr ≤ 4096
  q : ∀ q ∈ u.rs, q.cs.length ≤ 2000000 ∧ ∀ c ∈ q.cs, (Lit.int .i64 c.v).wf = true
theorem OwT.below {B : Nat} {W W' : World} {u : Tb} (h : OwT B W u) (b : Below W.heap.size W W') : OwT B W' u := ⟨own_back h.o1 b, h.o2.below b, h.n, h.s, h.r, h.q⟩
theorem owT_of {B : Nat} {W : World} {u : Tb} {R : PR} (p : PsT B W u R) (h1 : R.ns.length ≤ 64) (h2 : R.rs.length ≤ 4096) (h3 : ∀ r ∈ R.rs, r.length ≤ 64) : OwT B W u := by
  have e1 : u.ss.length = u.ln := p.ok.nl.1
  have e2 : u.rs.length = u.lr := p.ok.rl.1
  have no := p.no
  rw [← p.ns] at no
  rw [e1] at no
  refine ⟨no, p.ro, by rw [← e1, p.ns]; omega, p.ok.nl.2.2.1, ?_, fun q hq => ⟨?_, (p.ok.rl.2.2.1 q hq).1.2.2.1⟩⟩
  · have := congrArg List.length p.rs
    simp at this
    omega
  · have : q.cs ∈ R.rs := by rw [← p.rs]; exact List.mem_map.2 ⟨q, hq, rfl⟩
    have := h3 _ this
    omega
theorem owT_nil (B : Nat) (W : World) : OwT B W nilT := ⟨World.ownsRow_nil _ _ _ _, ⟨World.ownsRow_nil _ _ _ _, (fun q h => by cases h), List.Pairwise.nil⟩, Nat.zero_le _, (fun s h => by cases h), Nat.zero_le _, fun q h => by cases h⟩
theorem tabP_own {w0 w w' : World} {t : Tb} {ss : List ByteArray} {rs : List (List Cl)} {k : Int} {u : Tb} (h : TbIs w0 t ss rs) (q : (cutE ss rs k = 0 → PsT w.heap.size w' u ⟨0, 0, ss, rs.take k.toNat⟩) ∧ (cutE ss rs k ≠ 0 → u = nilT)) : OwT w.heap.size w' u := by
  by_cases e : cutE ss rs k = 0
  · have v : validE ss rs = 0 := by
      unfold cutE at e
      split at e
      · omega
      · exact e
    have g := gd_valid v h.wf
    refine owT_of (q.1 e) g.n64 ?_ (fun r hr => ?_)
    · have := g.r4
      simp
      omega
    · rw [g.rw r (List.mem_of_mem_take hr)]; exact g.n64
  · rw [q.2 e]; exact owT_nil _ _
theorem nilT_is (w : World) : TbIs w nilT [] [] := by
  obtain ⟨u, e, q, _⟩ := tabE_nil (ss := []) (rs := []) (E := 1) (w := w) (w' := w) (by omega) (Below.refl _ _)
  injection e with e
  injection e with e
  have : u.an = none ∧ u.ln = 0 ∧ u.cn = 0 ∧ u.ar = none ∧ u.lr = 0 ∧ u.cr = 0 := by
    simp [Tb.val] at e
    obtain ⟨⟨a1, a2, a3⟩, a4, a5, a6⟩ := e
    exact ⟨a1.symm, a2.symm, a3.symm, a4.symm, a5.symm, a6.symm⟩
  exact ⟨⟨rfl, Nat.zero_le _, (fun s h => by cases h), .inl rfl⟩, fun _ => ⟨rfl, rfl⟩, ⟨rfl, Nat.zero_le _, (fun s h => by cases h), .inl rfl⟩, fun _ => ⟨rfl, rfl⟩, rfl, rfl⟩
theorem tabP_is {w w' : World} {ss : List ByteArray} {rs : List (List Cl)} {E : Int} {u : Tb} (q : (E = 0 → PsT w.heap.size w' u ⟨0, 0, ss, rs⟩) ∧ (E ≠ 0 → u = nilT)) : TbIs w' u (if E = 0 then ss else []) (if E = 0 then rs else []) := by
  by_cases e : E = 0
  · rw [if_pos e, if_pos e]; exact (q.1 e).is
  · rw [if_neg e, if_neg e, q.2 e]; exact nilT_is w'
/-- A table that was handed out. -/
def HoE (ss : List ByteArray) (rs : List (List Cl)) (E : Int) (w : World) (e : Ending) (w' : World) : Prop := ∃ u : Tb, e = .returned (.tuple #[u.val, .int .i64 E]) ∧ TbIs w' u ss rs ∧ OwT w.heap.size w' u ∧ Below w.heap.size w w'
end Go.Proofs.YtldplmchgmoopaaDoor

namespace Go.Proofs.YtldplmchgmoopaaDoor
open Go.RowKit
set_option linter.unusedVariables false
set_option linter.unusedSimpArgs false

theorem wds_good {s : ByteArray} : ∀ (n i : Nat), s.size - i = n → ∀ u ∈ wdsP s i, u.1.size ≤ s.size := by
  intro n
  induction n using Nat.strongRecOn with
  | ind n ih =>
    intro i hn u hu
    rw [wdsP] at hu
    split at hu
    · rename_i h
      rcases List.mem_cons.1 hu with q | q
      · subst q
        unfold wrd
        rw [ByteArray.size_extract]
        omega
      · exact ih (s.size - wEn s i) (by omega) (wEn s i) rfl u q
    · cases hu
theorem lns_good {s : ByteArray} : ∀ (n i : Nat), s.size - i = n → ∀ l ∈ lnsP s i, l.1 ≠ [] ∧ l.1.length ≤ s.size ∧ ∀ u ∈ l.1, u.1.size ≤ s.size := by
  intro n
  induction n using Nat.strongRecOn with
  | ind n ih =>
    intro i hn l hl
    rw [lns_at, List.mem_append] at hl
    rcases hl with hl | hl
    · split at hl
      · cases hl
      · rename_i q
        rw [List.mem_singleton] at hl
        subst hl
        have := wds_len (s := s) _ i rfl
        exact ⟨q, by show (wdsP s i).length ≤ _; omega, wds_good _ i rfl⟩
    · split at hl
      · rename_i q
        have a := fnd_ge nlB s i
        exact ih (s.size - (fnd nlB s i + 1)) (by omega) (fnd nlB s i + 1) rfl l hl
      · cases hl
/-- A line is read. -/
structure LnR (W : World) (g i : Nat) (l : Lw) : Prop where
  lt : g < W.heap.size
  c0 : W.cell? ⟨g, i * 2, none⟩ = some (.slice l.a l.n l.c)
  c1 : W.cell? ⟨g, i * 2 + 1, none⟩ = some (.int .i64 (l.e : Int))
  wd : WdR W l.a l.n l.ws
theorem LnA.get {W : World} {B L c : Nat} {a : Option Addr} {ls : List Lw} (h : LnA W B (.slice a L c) ls) (hL : L = ls.length) {i : Nat} {l : Lw} (hl : ls[i]? = some l) : ∃ g, a = some ⟨g, 0, none⟩ ∧ LnR W g i l := by
  have hi : i < ls.length := by
    rcases Nat.lt_or_ge i ls.length with q | q
    · exact q
    · rw [List.getElem?_eq_none q] at hl; cases hl
  have el : ls[i] = l := by rw [List.getElem?_eq_getElem hi] at hl; injection hl
  have ho := h.own
  subst hL
  rcases h.own.2 with ⟨e, e0⟩ | ⟨g, cap, cur, e, _, hg, k1, k2, _⟩
  · omega
  · injection e with e1 e2 e3
    subst e1 e3
    obtain ⟨p, q⟩ := prv_at (fun l : Lw => .slice l.a l.n l.c) (fun l => .int .i64 (l.e : Int)) ls i hi
    rw [el] at p q
    have m : l ∈ ls := by rw [← el]; exact List.getElem_mem hi
    refine ⟨g, rfl, blk_lt hg, ?_, ?_, wdR_own (h.ok l m).1 (h.ok l m).2⟩
    · rw [World.ownsRow.cellAt ho (i * 2) (by omega)]; exact p
    · rw [World.ownsRow.cellAt ho (i * 2 + 1) (by omega)]; exact q
/-- The table that is being read. -/
structure PaI (w3 W : World) (T : Nat) (nv vr : Value) (qs : List Rw) : Prop where
  hT : W.heap[T]? = some (.cells #[nv, vr] 32)
  rw : RwA W (T + 1) vr qs
  bel : Below T w3 W
theorem PaI.below {w3 ws W : World} {T : Nat} {nv vr : Value} {qs : List Rw} (h : PaI w3 ws T nv vr qs) (b : Below ws.heap.size ws W) : PaI w3 W T nv vr qs :=
  ⟨(b.block T (blk_lt h.hT)).trans h.hT, h.rw.below b, h.bel.trans (b.mono (Nat.le_of_lt (blk_lt h.hT)))⟩
theorem PaI.lt {w3 ws : World} {T : Nat} {nv vr : Value} {qs : List Rw} (h : PaI w3 ws T nv vr qs) : T + 1 ≤ ws.heap.size := blk_lt h.hT
theorem PaI.fld {w3 ws W : World} {T : Nat} {nv vr : Value} {qs : List Rw} (h : PaI w3 ws T nv vr qs) (g : ws.grownBy W vr.ownBlock) : W.cell? ⟨T, 1, none⟩ = some vr ∧ W.frozen? ⟨T, 1, none⟩ = false := by
  have nT : vr.ownBlock ≠ some T := fun e => by have := (h.rw.own.lt T e).1; omega
  obtain ⟨_, a, _, b⟩ := box_all2 ((g.block T (blk_lt h.hT) (fun e => nT e.symm)).trans h.hT)
  exact ⟨a, b⟩
theorem PaI.row {w3 ws W : World} {T : Nat} {nv vr v' : Value} {qs : List Rw} {q : Rw} (h : PaI w3 ws T nv vr qs) (k : ws.ownsRow (T + 1) 65 2 (qv q) q.cs.length (clv q.cs)) (hn : q.n = q.cs.length) (o : W.ownsRow (T + 1) 50 1 v' (qs.length + 1) (qs.map qv ++ [qv q])) (g : ws.grownBy W vr.ownBlock) : PaI w3 (W.setCell ⟨T, 1, none⟩ v') T nv v' (qs ++ [q]) := by
  have nT : vr.ownBlock ≠ some T := fun e => by have := (h.rw.own.lt T e).1; omega
  have hT' := (g.block T (blk_lt h.hT) (fun e => nT e.symm)).trans h.hT
  have gs := grT_set W T 1 v'
  have R := h.rw.push k hn o g
  have kp : ∀ {E : TypeId} {s n : Nat} {v : Value} {xs : List Value}, W.ownsRow (T + 1) E s v n xs → (W.setCell ⟨T, 1, none⟩ v').ownsRow (T + 1) E s v n xs := fun {E s n v xs} p => own_keep p (fun b e => gs.block b (by obtain ⟨cur, q⟩ := own_blk p e; exact blk_lt q) (by intro q; injection q with q; have := (p.lt b e).1; omega))
  refine ⟨Joins.block_setCell (i := 1) hT' v', ⟨kp R.own, fun p hp => ⟨kp (R.ok p hp).1, (R.ok p hp).2⟩⟩, ?_⟩
  exact (h.bel.grown g (by have := blk_lt h.hT; omega) (fun k e => by have := (h.rw.own.lt k e).1; omega)).setCell (p := ⟨T, 1, none⟩) (Nat.le_refl _) _
/-- With a row that waits. -/
structure PaJ (w3 W : World) (T : Nat) (nv vr : Value) (qs : List Rw) (c : Rw) : Prop where
  pi : PaI w3 W T nv vr qs
  co : W.ownsRow (T + 1) 65 2 (qv c) c.cs.length (clv c.cs)
theorem PaJ.below {w3 ws W : World} {T : Nat} {nv vr : Value} {qs : List Rw} {c : Rw} (h : PaJ w3 ws T nv vr qs c) (b : Below ws.heap.size ws W) : PaJ w3 W T nv vr qs c := ⟨h.pi.below b, own_back h.co b⟩
theorem PaJ.row {w3 ws W : World} {T : Nat} {nv vr v' : Value} {qs : List Rw} {q c : Rw} (h : PaJ w3 ws T nv vr qs c) (k : ws.ownsRow (T + 1) 65 2 (qv q) q.cs.length (clv q.cs)) (hn : q.n = q.cs.length) (o : W.ownsRow (T + 1) 50 1 v' (qs.length + 1) (qs.map qv ++ [qv q])) (g : ws.grownBy W vr.ownBlock) : PaJ w3 (W.setCell ⟨T, 1, none⟩ v') T nv v' (qs ++ [q]) c := by
  refine ⟨h.pi.row k hn o g, ?_⟩
  have gs := grT_set W T 1 v'
  have p := h.co.kept g (own_apart h.co h.pi.rw.own (by decide))
  exact own_keep p (fun b e => gs.block b (by obtain ⟨cur, q⟩ := own_blk p e; exact blk_lt q) (by intro q; injection q with q; have := (p.lt b e).1; omega))
theorem made_own (w : World) (B N : Nat) (hB : B ≤ w.heap.size) (hN : N ≤ 64) : (w.alloc (.cells (madeCells #[.bool false, .int .i64 0] (N * 2)) 65)).ownsRow B 65 2 (.slice (some ⟨w.heap.size, 0, none⟩) N N) (List.replicate N zCl).length (clv (List.replicate N zCl)) := by
  rw [List.length_replicate]
  refine ⟨by rw [clv_len, List.length_replicate], .inr ⟨w.heap.size, N, _, rfl, hB, World.alloc_heap_new w _, Nat.le_refl _, by unfold maxLen; omega, by rw [size_madeCells], ?_⟩⟩
  rw [made_clv, List.take_of_length_le (by rw [clv_len, List.length_replicate]; omega)]
theorem padR_succ (k m : Nat) : padR (k + 1) m = padR k m ++ [List.replicate m zCl] := by
  unfold padR
  rw [List.replicate_succ']
  rfl
theorem cell_set2 {W : World} {b k o : Nat} {u v : Value} (ne : b < k) : ((W.setCell ⟨b, 0, none⟩ u).setCell ⟨b, 1, none⟩ v).cell? ⟨k, o, none⟩ = W.cell? ⟨k, o, none⟩ := by
  have n2 : ¬ b = k := by omega
  simp [World.cell?, World.setCell, Array.getElem?_modify, n2]
def lenT (T : Nat) (w : World) : Nat := match w.cell? ⟨T, 1, none⟩ with | some (.slice _ n _) => n | _ => 0
theorem PaI.len {w3 ws : World} {T n c : Nat} {nv : Value} {a : Option Addr} {qs : List Rw} (h : PaI w3 ws T nv (.slice a n c) qs) : lenT T ws = n := by
  unfold lenT
  rw [(box_all2 h.hT).2.1]
theorem headD_len : ∀ (ws : List Wp) (ns : List ByteArray), ns.length ≤ 64 → (headD ws ns).2.2.length ≤ 64
  | [], ns, h => h
  | (u, a) :: r, ns, h => by
    rw [headD]
    split
    · exact Nat.zero_le _
    · split
      · exact Nat.zero_le _
      · exact headD_len r _ (by rw [List.length_append, List.length_singleton]; omega)
theorem hdD_len (ws : List Wp) : (hdD ws).2.2.length ≤ 64 := by
  unfold hdD
  split
  · exact headD_len _ _ (Nat.zero_le _)
  · exact Nat.zero_le _
theorem parseD_hd (sz : Nat) (ws : List Wp) (e : Nat) (r : List Lp) : parseD sz ((ws, e) :: r) = if (hdD ws).2.1 = 0 then rowsD (hdD ws).2.2 r [] else ⟨(hdD ws).1, (hdD ws).2.1, [], []⟩ := by
  unfold hdD
  rw [parseD]
  split
  · rfl
  · rw [if_neg (by simp)]
theorem pa_done {W' : World} {T B nl nc m xc : Nat} {na xa : Option Addr} {ns : List ByteArray} {qs : List Rw} (h : RwA W' T (.slice xa m xc) qs) (nm : W'.ownsRow B 9 1 (.slice na nl nc) ns.length (ns.map Value.string)) (gd : Gd ns (qs.map (·.cs))) : TbIs W' ⟨na, nl, nc, ns, xa, m, xc, qs⟩ ns (qs.map (·.cs)) := by
  have e1 : nl = ns.length := by obtain ⟨x, y, e⟩ := own_form2 nm; injection e
  subst e1
  have ql : qs.length ≤ 4096 := by have := gd.r4; simpa using this
  have q1 : ∀ q ∈ qs, q.cs.length ≤ 64 := fun q hq => by rw [gd.rw q.cs (List.mem_map.2 ⟨q, hq, rfl⟩)]; exact gd.n64
  obtain ⟨e2, rl, rn⟩ := h.rl ql (fun q hq => by have := q1 q hq; omega) (fun q hq c hc => (gd.st q.cs (List.mem_map.2 ⟨q, hq, rfl⟩) c hc).2)
  refine ⟨nl_of_own nm (by have := gd.n64; show ns.length ≤ _; omega) (fun s hs => by have := name31 (gd.nm s hs); omega), ?_, rl, rn, rfl, rfl⟩
  intro e
  rcases nm.2 with ⟨z, z0⟩ | ⟨g, cap, cur, z, _⟩
  · injection z with _ _ z; exact ⟨z0, z⟩
  · injection z with z; simp only at e; rw [e] at z; cases z
/-- The document's table: its memory is its own. -/
structure DcT (B : Nat) (W : World) (u : Tb) (ns : List ByteArray) (rs : List (List Cl)) : Prop where
  nm : W.ownsRow B 9 1 (.slice u.an u.ln u.cn) ns.length (ns.map Value.string)
  rw : RwA W B (.slice u.ar u.lr u.cr) u.rs
  gd : Gd ns rs
  ss : u.ss = ns
  rs : u.rs.map (·.cs) = rs
theorem DcT.keep {B : Nat} {W W' : World} {u : Tb} {ns : List ByteArray} {rs : List (List Cl)} (h : DcT B W u ns rs) (k : ∀ b, B ≤ b → b < W.heap.size → W'.heap[b]? = W.heap[b]?) : DcT B W' u ns rs := by
  have kp : ∀ {E : TypeId} {s n : Nat} {v : Value} {xs : List Value}, W.ownsRow B E s v n xs → W'.ownsRow B E s v n xs := fun {E s n v xs} p => own_keep p (fun b e => k b (p.lt b e).1 (by obtain ⟨cur, q⟩ := own_blk p e; exact blk_lt q))
  exact ⟨kp h.nm, ⟨kp h.rw.own, fun q hq => ⟨kp (h.rw.ok q hq).1, (h.rw.ok q hq).2⟩⟩, h.gd, h.ss, h.rs⟩
theorem DcT.later {B : Nat} {W W' : World} {u : Tb} {ns : List ByteArray} {rs : List (List Cl)} (h : DcT B W u ns rs) (b : Below W.heap.size W W') : DcT B W' u ns rs := h.keep (fun x _ hx => b.block x hx)
theorem DcT.is {B : Nat} {W : World} {u : Tb} {ns : List ByteArray} {rs : List (List Cl)} (h : DcT B W u ns rs) : TbIs W u ns rs := by
  obtain ⟨an, ln, cn, ss, ar, lr, cr, qs⟩ := u
  obtain ⟨nm, rw, gd, e1, e2⟩ := h
  simp only at nm rw e1 e2
  subst e1 e2
  exact pa_done rw nm gd
/-- What Parse answers. -/
def RdE (R : PR) (w : World) (e : Ending) (w' : World) : Prop := ∃ u : Tb, e = .returned (.tuple #[u.val, .int .i64 (R.pl : Int), .int .i64 R.e]) ∧ DcT w.heap.size w' u R.ns R.rs ∧ Below w.heap.size w w'
theorem rdE_nil {pl : Nat} {e : Int} {w w' : World} (b : Below w.heap.size w w') : RdE ⟨pl, e, [], []⟩ w (.returned (.tuple #[.agg #[.slice none 0 0, .slice none 0 0], .int .i64 (pl : Int), .int .i64 e])) w' := ⟨nilT, rfl, ⟨World.ownsRow_nil _ _ _ _, RwA.nil _ _, gd_nil, rfl, rfl⟩, b⟩
end Go.Proofs.YtldplmchgmoopaaDoor

namespace Go.Proofs.YtldplmchgmoopaaDoor
open Go.RowKit
set_option linter.unusedVariables false
set_option linter.unusedSimpArgs false

def BadRD (s : ByteArray) (r : PR) : Prop := r.pl ≤ s.size ∧ (r.e = 6 ∨ r.e = 51 ∨ r.e = 52) ∧ r.ns = [] ∧ r.rs = []
theorem headP_eD (s : ByteArray) : ∀ (n i : Nat) (ns : List ByteArray), s.size - i = n → i ≤ s.size → (headP s i ns).2.2.1 = 0 ∨ (headP s i ns).2.2.1 = 6 ∨ (headP s i ns).2.2.1 = 52 := by
  intro n
  induction n using Nat.strongRecOn with
  | ind n ih =>
    intro i ns hn hi
    have a := wPl_ge s i
    have b := wEn_ge s i
    have c := wEn_le hi
    rw [headP]
    split
    · exact .inl rfl
    · split
      · exact .inr (.inl rfl)
      · split
        · exact .inr (.inr rfl)
        · rename_i h1 h2 h3
          rw [dif_pos ⟨by omega, c⟩]
          exact ih (s.size - wEn s i) (by omega) (wEn s i) (ns ++ [wrd s i]) rfl c
theorem stepP_finD {s : ByteArray} {i : Nat} {st : Option (List ByteArray)} {rs : List (List Cl)} {r : PR} (hi : i ≤ s.size) (h : stepP s i st rs = .fin r) : (∃ ns, st = some ns ∧ r = ⟨0, 0, ns, rs⟩) ∨ (BadRD s r ∧ (r.pl < s.size → ¬ (wEn s i = wPl s i ∧ wEn s i = s.size))) := by
  have a := wPl_ge s i
  have b := wEn_ge s i
  have c := wEn_le hi
  have d := wPl_le hi
  unfold stepP at h
  split at h
  · rename_i hw
    split at h
    · cases st with
      | none =>
        injection h with h1
        subst h1
        exact .inr ⟨⟨Nat.le_refl _, .inr (.inl rfl), rfl, rfl⟩, fun q => absurd q (Nat.lt_irrefl _)⟩
      | some ns =>
        injection h with h1
        subst h1
        exact .inl ⟨ns, rfl, rfl⟩
    · cases h
  · rename_i hw
    cases st with
    | none =>
      simp only at h
      split at h
      · split at h
        · cases h
        · rename_i he
          injection h with h1
          subst h1
          obtain ⟨x, y, z⟩ := headP_all s _ (wEn s i) [] rfl c
          refine .inr ⟨⟨Nat.le_trans y z, ?_, rfl, rfl⟩, fun _ q => hw q.1⟩
          rcases headP_eD s _ (wEn s i) [] rfl c with q | q | q
          · exact absurd q he
          · exact .inl q
          · exact .inr (.inr q)
      · injection h with h1
        subst h1
        exact .inr ⟨⟨d, .inr (.inl rfl), rfl, rfl⟩, fun _ q => hw q.1⟩
    | some ns =>
      simp only [rowP] at h
      split at h
      · injection h with h1
        subst h1
        exact .inr ⟨⟨d, .inr (.inl rfl), rfl, rfl⟩, fun _ q => hw q.1⟩
      · split at h
        · injection h with h1
          subst h1
          exact .inr ⟨⟨d, .inr (.inl rfl), rfl, rfl⟩, fun _ q => hw q.1⟩
        · split at h
          · injection h with h1
            subst h1
            exact .inr ⟨⟨d, .inl rfl, rfl, rfl⟩, fun _ q => hw q.1⟩
          · split at h
            · cases h
            · rename_i he
              injection h with h1
              subst h1
              obtain ⟨x, y, z⟩ := cellsP_all s ns.length (wEn s i) [] c
              refine .inr ⟨⟨Nat.le_trans y z, ?_, rfl, rfl⟩, fun _ q => hw q.1⟩
              rcases cellsP_e s ns.length (wEn s i) [] with q | q
              · exact absurd q he
              · exact .inr (.inl q)

theorem prP_allD (s : ByteArray) : ∀ (n i : Nat) (st : Option (List ByteArray)) (rs : List (List Cl)), s.size - i = n → i ≤ s.size → (st = none → rs = []) → (∀ ns, st = some ns → Gd ns rs) → BadRD s (prP s i st rs) ∨ ((prP s i st rs).e = 0 ∧ (prP s i st rs).pl = 0 ∧ Gd (prP s i st rs).ns (prP s i st rs).rs) := by
  intro n
  induction n using Nat.strongRecOn with
  | ind n ih =>
    intro i st rs hn hi h0 h
    cases q : stepP s i st rs with
    | fin r =>
      rw [prP_fin q]
      rcases stepP_finD hi q with ⟨ns, e, rfl⟩ | ⟨hb, _⟩
      · exact .inr ⟨rfl, rfl, h ns e⟩
      · exact .inl hb
    | on i' st' rs' =>
      obtain ⟨h1, h2⟩ := stepP_on hi q
      rw [prP_on q h1 h2]
      obtain ⟨h3, h4⟩ := stepP_gd hi h0 h q
      exact ih (s.size - i') (by omega) i' st' rs' rfl h2 h3 h4
theorem parseP_allD (s : ByteArray) : BadRD s (parseP s) ∨ ((parseP s).e = 0 ∧ (parseP s).pl = 0 ∧ Gd (parseP s).ns (parseP s).rs) := by
  unfold parseP
  split
  · exact .inl ⟨Nat.zero_le _, .inl rfl, rfl, rfl⟩
  · exact prP_allD s _ 0 none [] rfl (Nat.zero_le _) (fun _ => rfl) (fun ns h => by cases h)
theorem parseP_gd {s : ByteArray} (h : (parseP s).e = 0) : Gd (parseP s).ns (parseP s).rs := by
  rcases parseP_allD s with q | q
  · have := q.2.1; omega
  · exact q.2.2
theorem parseP_few (s : ByteArray) : (parseP s).ns.length ≤ 64 ∧ (parseP s).rs.length ≤ 4096 ∧ ∀ r ∈ (parseP s).rs, r.length ≤ 64 := by
  rcases parseP_allD s with q | q
  · have := q.2.2
    rw [this.1, this.2]
    exact ⟨by simp, by simp, fun r h => by cases h⟩
  · have g := q.2.2
    exact ⟨g.n64, g.r4, fun r hr => by rw [g.rw r hr]; exact g.n64⟩
end Go.Proofs.YtldplmchgmoopaaDoor

namespace Go.Proofs.YtldplmchgmoopaaDoor
open Go.RowKit
set_option linter.unusedVariables false
set_option linter.unusedSimpArgs false

theorem rParse_long (s : ByteArray) (w : World) (hs : 1048576 < s.size) : Calls Tryd.prog 4 #[.string s] w fun e w' => RdE (parseP s) w e w' := by
  have e : parseP s = ⟨0, 6, [], []⟩ := by unfold parseP; rw [if_pos hs]
  rw [e]
  have kc : (1048576 : Int) < (s.size : Int) := by omega
  have Q := Lib.hid (p := ∀ w', Below w.heap.size w w' → RdE ⟨0, 6, [], []⟩ w (.returned (.tuple #[.agg #[.slice none 0 0, .slice none 0 0], .int .i64 0, .int .i64 6])) w') (fun w' b => rdE_nil (pl := 0) b)
  have hb := World.alloc_heap_new w (.cells #[.slice none 0 0, .slice none 0 0] 32)
  obtain ⟨r0, r1, r2, r3⟩ := box_all2 hb
  obtain ⟨z0, z1, _, _⟩ := box_all2 (box_set2 (u := .slice none 0 0) (v := .slice none 0 0) hb)
  have BE := Lib.hid (((below_al w (.cells #[.slice none 0 0, .slice none 0 0] 32)).setCell (p := ⟨w.heap.size, 0, none⟩) (Nat.le_refl _) (.slice none 0 0)).setCell (p := ⟨w.heap.size, 1, none⟩) (Nat.le_refl _) (.slice none 0 0))
  have B1 := Lib.hid (below_al w (.cells #[.slice none 0 0, .slice none 0 0] 32))
  clear e hb
  go_enter Tryd.func4, Tryd.ntmps4
  go_wp2
  refine bodyPost_ret (v := .tuple #[.agg #[.slice none 0 0, .slice none 0 0], .int .i64 0, .int .i64 6]) (by simp [results, Tryd.results4, go_sem, z0, z1]) rfl ?_
  exact Q.out _ B1.out
set_option maxRecDepth 100000 in
set_option maxHeartbeats 8000000 in
theorem rParse_short (s : ByteArray) (w : World) (hs : s.size ≤ 1048576) : Calls Tryd.prog 4 #[.string s] w fun e w' => RdE (parseP s) w e w' := by
  have GDR := Lib.hid (p := (parseP s).e = 0 → Gd (parseP s).ns (parseP s).rs) parseP_gd
  have e := parse_D s hs
  obtain ⟨R, hR⟩ : ∃ R, parseP s = R := ⟨_, rfl⟩
  rw [hR] at e GDR
  rw [hR]
  have RD := Lib.hid e
  clear e hR
  have kc : ¬ (1048576 : Int) < (s.size : Int) := by omega
  have QN := Lib.hid (p := ∀ (pl : Nat) (e : Int) w', R = ⟨pl, e, [], []⟩ → Below w.heap.size w w' → RdE R w (.returned (.tuple #[.agg #[.slice none 0 0, .slice none 0 0], .int .i64 (pl : Int), .int .i64 e])) w') (fun pl e w' q b => by rw [q]; exact rdE_nil b)
  have LG := Lib.hid (p := ∀ l ∈ lnsP s 0, l.1 ≠ [] ∧ l.1.length ≤ s.size ∧ ∀ u ∈ l.1, u.1.size ≤ s.size) (lns_good _ 0 rfl)
  have LN := Lib.hid (p := (lnsP s 0).length ≤ s.size + 1) (by have := lns_len (s := s) _ 0 rfl; omega)
  have hb := World.alloc_heap_new w (.cells #[.slice none 0 0, .slice none 0 0] 32)
  have hb1 := below_al w (.cells #[.slice none 0 0, .slice none 0 0] 32)
  have hs1 : (w.alloc (.cells #[.slice none 0 0, .slice none 0 0] 32)).heap.size = w.heap.size + 1 := by simp
  have KL := Lib.hid (fun W => rLines_any s hs W)
  go_enter Tryd.func4, Tryd.ntmps4
  go_upto_region 3 with fail
  obtain ⟨w1, hw1⟩ : ∃ y, w.alloc (.cells #[.slice none 0 0, .slice none 0 0] 32) = y := ⟨_, rfl⟩
  rw [hw1] at hb hb1 hs1
  rw [hw1]
  clear hw1
  have RB := Lib.hid (p := ∀ W, Below (w.heap.size + 1) w1 W → W.heap[w.heap.size]? = some (.cells #[.slice none 0 0, .slice none 0 0] 32) ∧ Below w.heap.size w W) (fun W q => ⟨(q.block _ (Nat.lt_succ_self _)).trans hb, hb1.trans (q.mono (Nat.le_succ _))⟩)
  have S1 := Lib.hid hs1
  clear hb hb1 hs1
  go_upto_region 4 with (first | (go_at_call 10; refine (KL.out _).mono ?_; rintro e w2 ⟨v, ls, rfl, hA, hE, hB⟩; have LA := Lib.hid hA; have LE := Lib.hid hE; have D2 := Lib.hid (by rw [S1.out] at hB; exact hB); clear hA hE hB))
  clear KL
  obtain ⟨la, lc, hv⟩ := own_form2 LA.out.own
  subst hv
  have LLn := Lib.hid (p := ls.length ≤ s.size + 1) (by have := congrArg List.length LE.out; rw [List.length_map] at this; have := LN.out; omega)
  cases ls with
  | nil =>
    have R0 : R = ⟨s.size, 51, [], []⟩ := by
      rw [RD.out, ← LE.out]; rfl
    obtain ⟨hbx, hbl⟩ := RB.out _ D2.out
    obtain ⟨r0, r1, r2, r3⟩ := box_all2 hbx
    obtain ⟨z0, z1, _, _⟩ := box_all2 (box_set2 (u := .slice none 0 0) (v := .slice none 0 0) hbx)
    have BE := Lib.hid ((hbl.setCell (p := ⟨w.heap.size, 0, none⟩) (Nat.le_refl _) (.slice none 0 0)).setCell (p := ⟨w.heap.size, 1, none⟩) (Nat.le_refl _) (.slice none 0 0))
    have RR := Lib.hid R0
    clear hbx hbl R0
    go_wp2
    refine bodyPost_ret (v := .tuple #[.agg #[.slice none 0 0, .slice none 0 0], .int .i64 (s.size : Int), .int .i64 51]) (by simp [results, Tryd.results4, go_sem, z0, z1]) rfl ?_
    exact QN.out _ _ _ RR.out BE.out
  | cons l0 lr =>
    obtain ⟨L, hL⟩ : ∃ L, (l0 :: lr).length = L := ⟨_, rfl⟩
    have kL : ¬ (L : Int) = 0 := by rw [← hL]; simp; omega
    have L1 : 1 ≤ L := by rw [← hL]; simp
    have HL := Lib.hid hL
    rw [hL] at LA LLn
    rw [hL]
    have LQ := Lib.hid (p := ∀ (i : Nat) (l : Lw), (l0 :: lr)[i]? = some l → 0 < l.n ∧ l.n ≤ 2000000 ∧ l.n = l.ws.length ∧ ∀ u ∈ l.ws, u.1.size ≤ 1048576) (fun i l q => by
      have m : l ∈ l0 :: lr := List.mem_of_getElem? q
      have m2 : l.lp ∈ lnsP s 0 := by rw [← LE.out]; exact List.mem_map.2 ⟨l, m, rfl⟩
      obtain ⟨a, b, c⟩ := LG.out _ m2
      have e := (LA.out.ok l m).2
      have : 0 < l.ws.length := List.length_pos_iff.2 a
      have b2 : l.ws.length ≤ s.size := b
      exact ⟨by omega, by omega, e, fun u hu => Nat.le_trans (c u hu) hs⟩)
    clear hL
    obtain ⟨g, rfl, h0⟩ := LA.out.get HL.out.symm (i := 0) (l := l0) rfl
    obtain ⟨q1, q2, q3, q4⟩ := LQ.out 0 l0 rfl
    have KH := Lib.hid (rHead_any l0.a l0.n l0.c l0.e l0.ws w2 h0.wd q1 q2 q4 _ rfl)
    have c0 := h0.c0
    have c1 := h0.c1
    rw [Nat.zero_mul] at c0
    rw [Nat.zero_mul, Nat.zero_add] at c1
    have RH := RD.out
    rw [← LE.out] at RH
    change R = parseD s.size ((l0.ws, l0.e) :: lr.map Lw.lp) at RH
    rw [parseD_hd] at RH
    have HN := Lib.hid (hdD_len l0.ws)
    obtain ⟨H, hH⟩ : ∃ H, hdD l0.ws = H := ⟨_, rfl⟩
    rw [hH] at KH RH HN
    obtain ⟨hp, he, ns⟩ := H
    simp only at KH RH HN
    have RQ := Lib.hid RH
    clear hH RH h0 q1 q2 q3 q4
    go_upto_region 7 with (first | (go_at_call 11; refine KH.out.mono ?_; rintro e w3 ⟨v, rfl, hO, hB⟩; have ON := Lib.hid hO; have D3 := Lib.hid (D2.out.trans (hB.mono (by have := D2.out.size; rw [S1.out] at this; exact this))); have B3 := Lib.hid hB; clear hO hB))
    by_cases h0 : he = 0
    · subst h0
      have RR := RQ.out
      rw [if_pos rfl] at RR
      have R1 := Lib.hid RR
      clear RR RQ KH c0 c1
      obtain ⟨na, nc, hv⟩ := own_form2 ON.out
      subst hv
      have ST := Lib.hid (p := ∀ W, Below w3.heap.size w3 W → (W.heap[w.heap.size]? = some (.cells #[.slice none 0 0, .slice none 0 0] 32) ∧ Below w.heap.size w W) ∧ LnA W (w.heap.size + 1) (.slice (some ⟨g, 0, none⟩) L lc) (l0 :: lr) ∧ W.ownsRow w2.heap.size 9 1 (.slice na ns.length nc) ns.length (ns.map Value.string)) (fun W q => by
        have e3 : Below (w.heap.size + 1) w1 W := D3.out.trans (q.mono (by have := D3.out.size; rw [S1.out] at this; exact this))
        have l3 := (LA.out.below B3.out).below q
        rw [S1.out] at l3
        exact ⟨RB.out W e3, l3, own_back ON.out q⟩)
      have P0 := Lib.hid (p := PaI w3 (w3.alloc (.cells #[.slice na ns.length nc, .slice none 0 0] 32)) w3.heap.size (.slice na ns.length nc) (.slice none 0 0) []) ⟨World.alloc_heap_new _ _, RwA.nil _ _, below_al _ _⟩
      have HL2 := Lib.hid (p := (l0 :: lr).length = L) HL.out
      have SW2 := Lib.hid (p := w.heap.size < w2.heap.size) (by have := D2.out.size; have := S1.out; omega)
      have SWT := Lib.hid (p := w.heap.size < w3.heap.size) (by have := D3.out.size; have := S1.out; omega)
      clear LA ON D3 B3 RB D2 LE LG LN RD
      obtain ⟨T, hT⟩ : ∃ T, w3.heap.size = T := ⟨_, rfl⟩
      go_upto_region 11 with fail
      rw [hT] at ST P0 SWT
      try rw [hT]
      obtain ⟨w4, hw4⟩ : ∃ y, w3.alloc (.cells #[.slice na ns.length nc, .slice none 0 0] 32) = y := ⟨_, rfl⟩
      rw [hw4] at P0
      rw [hw4]
      clear hw4
      have HT := Lib.hid hT
      clear hT
      go_loopw [10] (fun t10 ww => ∃ (i : Nat) (vr : Value) (qs : List Rw), 1 ≤ i ∧ i ≤ L ∧ t10 = .int .i64 (i : Int) ∧ RowKit.Hid (PaI w3 ww T (.slice na ns.length nc) vr qs ∧ qs.length ≤ 4096 ∧ rowsD ns (((l0 :: lr).drop i).map Lw.lp) (qs.map (·.cs)) = R)) (fun t10 _ => L - (intOf t10).toNat)
      case atStart => exact ⟨1, _, [], Nat.le_refl _, L1, rfl, P0.out, by simp, R1.out.symm⟩
      case round =>
        clear P0 R1
        obtain ⟨i, vr, qs, h1i, hiL, rfl, hQ⟩ := hrel
        rename World => ww
        have PI := Lib.hid hQ.out.1
        have Q4 := Lib.hid hQ.out.2.1
        have RI := Lib.hid hQ.out.2.2
        clear hQ
        obtain ⟨⟨rb, bw⟩, la2, no2⟩ := ST.out _ PI.out.bel
        obtain ⟨t0, t1, _, _⟩ := box_all2 PI.out.hT
        obtain ⟨ra, rc, hv⟩ := own_form2 PI.out.rw.own
        subst hv
        by_cases hlt : i < L
        · have kl : (i : Int) < (L : Int) := by omega
          have kw : IntKind.i64.wrap ((i : Int) + 1) = (i : Int) + 1 := by simp [IntKind.wrap, IntKind.bits, IntKind.signed]; have := LLn.out; omega
          have hil : i < (l0 :: lr).length := by rw [HL2.out]; exact hlt
          obtain ⟨l, hl⟩ : ∃ l, (l0 :: lr)[i]? = some l := ⟨_, List.getElem?_eq_getElem hil⟩
          obtain ⟨g', e, LRR⟩ := la2.get HL2.out.symm hl
          injection e with e
          injection e with e
          subst e
          obtain ⟨q1, q2, q3, q4⟩ := LQ.out i l hl
          have RX := RI.out
          rw [List.drop_eq_getElem_cons hil, List.map_cons, show (l0 :: lr)[i] = l by rw [List.getElem?_eq_getElem hil] at hl; injection hl] at RX
          obtain ⟨xa, xn, xc, ws, le⟩ := l
          simp only at q1 q2 q3 q4
          obtain ⟨x, hxa, hxl, d0, d1⟩ := LRR.wd.at_ 0 q1
          simp only at hxa
          subst hxa
          have gx : w.heap.size < g := (la2.own.lt g rfl).1
          have xx : w.heap.size < x := ((la2.ok _ (List.mem_of_getElem? hl)).1.lt x rfl).1
          have lc0 := LRR.c0
          have lc1 := LRR.c1
          simp only at lc0 lc1 d0 d1
          rw [Nat.zero_mul] at d0
          rw [Nat.zero_mul, Nat.zero_add] at d1
          change rowsD ns ((ws, le) :: _) _ = R at RX
          cases ws with
          | nil => simp at q3; omega
          | cons p t =>
            obtain ⟨u, a⟩ := p
            rw [rowsD_cons] at RX
            simp only [List.getD_cons_zero] at d0 d1
            have hu : u.size ≤ 1048576 := q4 (u, a) (List.mem_cons_self ..)
            have KD := Lib.hid (rDay_any u hu ww)
            have dz := dayZ_in u
            have KR := Lib.hid (fun W (b : Below ww.heap.size ww W) => rRow_any (some ⟨x, 0, none⟩) xn xc le ns.length ((u, a) :: t) W (LRR.wd.later b) q1 q2 HN.out q4 _ rfl)
            simp only [List.drop_succ_cons, List.drop_zero] at KR
            obtain ⟨d, hd⟩ : ∃ d, dayZ u = d := ⟨_, rfl⟩
            rw [hd] at RX KD dz
            obtain ⟨r0, r1, r2, r3⟩ := box_all2 rb
            obtain ⟨z0, z1, _, _⟩ := box_all2 (box_set2 (u := .slice none 0 0) (v := .slice none 0 0) rb)
            have BE := Lib.hid ((bw.setCell (p := ⟨w.heap.size, 0, none⟩) (Nat.le_refl _) (.slice none 0 0)).setCell (p := ⟨w.heap.size, 1, none⟩) (Nat.le_refl _) (.slice none 0 0))
            rw [List.length_map] at RX
            clear hd q2 q3 q4 LRR hu hil hl
            by_cases h1 : 4096 ≤ d
            · rw [if_pos h1] at RX
              have R2 := Lib.hid RX.symm
              clear RX
              go_upto_region 15 with (first | (go_at_call 12; refine KD.out.mono ?_; rintro e w5 ⟨rfl, rfl⟩))
              go_region_held3 (fun w' => w'.cell? ⟨g, i * 2, none⟩ = some (.slice (some ⟨x, 0, none⟩) xn xc) ∧ w'.cell? ⟨x, 1, none⟩ = some (.int .i64 (a : Int))) (first | exact ⟨lc0, d1⟩ | exact ⟨(cell_set2 gx).trans lc0, (cell_set2 xx).trans d1⟩) (fail)
              go_wp2
              refine bodyPost_ret (v := .tuple #[.agg #[.slice none 0 0, .slice none 0 0], .int .i64 (a : Int), .int .i64 6]) (by first | (simp [results, Tryd.results4, go_sem, z0, z1]; done) | (have y0 := z0; have y1 := z1; simp [results, Tryd.results4, go_sem, World.drew, World.cell?] at y0 y1 ⊢; simp [y0, y1])) rfl ?_
              exact QN.out _ _ _ R2.out (below_eq BE.out rfl rfl rfl rfl)
            · rw [if_neg h1] at RX
              have h1' : d < 4096 := by omega
              by_cases h2 : d < (qs.length : Int)
              · rw [if_pos h2] at RX
                have R2 := Lib.hid RX.symm
                clear RX
                go_upto_region 17 with (first | (go_at_call 12; refine KD.out.mono ?_; rintro e w5 ⟨rfl, rfl⟩))
                go_region_held3 (fun w' => w'.cell? ⟨g, i * 2, none⟩ = some (.slice (some ⟨x, 0, none⟩) xn xc) ∧ w'.cell? ⟨x, 1, none⟩ = some (.int .i64 (a : Int))) (first | exact ⟨lc0, d1⟩ | exact ⟨(cell_set2 gx).trans lc0, (cell_set2 xx).trans d1⟩) (fail)
                go_wp2
                refine bodyPost_ret (v := .tuple #[.agg #[.slice none 0 0, .slice none 0 0], .int .i64 (a : Int), .int .i64 51]) (by first | (simp [results, Tryd.results4, go_sem, z0, z1]; done) | (have y0 := z0; have y1 := z1; simp [results, Tryd.results4, go_sem, World.drew, World.cell?] at y0 y1 ⊢; simp [y0, y1])) rfl ?_
                exact QN.out _ _ _ R2.out (below_eq BE.out rfl rfl rfl rfl)
              · rw [if_neg h2] at RX
                obtain ⟨dn, rfl⟩ : ∃ dn : Nat, d = (dn : Int) := ⟨d.toNat, by omega⟩
                rw [Int.toNat_natCast] at RX
                obtain ⟨C, hC⟩ : ∃ C, rowD ns.length le t [] = C := ⟨_, rfl⟩
                rw [hC] at RX KR
                obtain ⟨rp, re, cs⟩ := C
                simp only at RX KR
                clear hC
                have KRD := Lib.hid (KR.out ww (Below.refl _ _))
                by_cases h3 : re = 0
                · subst h3
                  rw [if_pos rfl] at RX
                  have R2 := Lib.hid RX
                  clear RX
                  clear r0 r1 r2 r3 z0 z1 BE rb bw no2
                  go_upto_region 21 with (first | (go_at_call 12; refine KD.out.mono ?_; rintro e w5 ⟨rfl, rfl⟩) | (go_at_call 13; refine KRD.out.mono ?_; rintro e w6 ⟨v6, rfl, hO, hB⟩; have O6 := Lib.hid hO; have B6 := Lib.hid hB; clear hO hB))
                  obtain ⟨ca, cc, hv⟩ := own_form2 O6.out
                  subst hv
                  have J0 := Lib.hid (p := PaJ w3 w6 T (.slice na ns.length nc) (.slice ra qs.length rc) qs ⟨ca, cs.length, cc, cs⟩) ⟨PI.out.below B6.out, own_mono O6.out PI.out.lt⟩
                  clear O6 B6 KRD KR KD lc0 lc1 d0 d1 t0 t1
                  go_loopw [98] (fun _ wy => ∃ (vr : Value) (qs2 : List Rw), RowKit.Hid (PaJ w3 wy T (.slice na ns.length nc) vr qs2 ⟨ca, cs.length, cc, cs⟩ ∧ qs.length ≤ qs2.length ∧ qs2.length ≤ dn ∧ qs2.map (·.cs) = qs.map (·.cs) ++ padR (qs2.length - qs.length) ns.length)) (fun _ wy => dn - lenT T wy)
                  case atStart => exact ⟨_, qs, J0.out, Nat.le_refl _, by omega, by simp [padR]⟩
                  case round =>
                    clear J0
                    obtain ⟨vr, qs2, hQ⟩ := hrel
                    rename World => wy
                    have PJ := Lib.hid hQ.out.1
                    have QA := Lib.hid hQ.out.2.1
                    have QB := Lib.hid hQ.out.2.2.1
                    have QE := Lib.hid hQ.out.2.2.2
                    clear hQ
                    obtain ⟨ya, yc, hv⟩ := own_form2 PJ.out.pi.rw.own
                    subst hv
                    obtain ⟨t0, t1, _, _⟩ := box_all2 PJ.out.pi.hT
                    have qb := QB.out
                    by_cases hq : qs2.length < dn
                    · have kq : (qs2.length : Int) < (dn : Int) := by omega
                      have n64 := HN.out
                      have mk := make_cellsN ns.length (by omega)
                      have LE0 := Lib.hid PJ.out.pi.len
                      obtain ⟨Wm, hWm⟩ : ∃ y, wy.alloc (.cells (madeCells #[.bool false, .int .i64 0] (ns.length * 2)) 65) = y := ⟨_, rfl⟩
                      have MO := made_own wy (T + 1) ns.length PJ.out.pi.lt n64
                      have BM := below_al wy (.cells (madeCells #[.bool false, .int .i64 0] (ns.length * 2)) 65)
                      have SM : Wm.heap.size = wy.heap.size + 1 := by rw [← hWm]; simp
                      rw [hWm] at MO BM
                      have BA := Lib.hid (p := Below Wm.heap.size Wm (Wm.alloc (.cells #[.slice (some ⟨wy.heap.size, 0, none⟩) ns.length ns.length] 50)).drew) (below_eq (below_al Wm (.cells #[.slice (some ⟨wy.heap.size, 0, none⟩) ns.length ns.length] 50)) rfl rfl rfl rfl)
                      have J2 := Lib.hid ((PJ.out.below BM).below BA.out)
                      have M2 := Lib.hid (own_back MO BA.out)
                      have NW := one_news Wm (.slice (some ⟨wy.heap.size, 0, none⟩) ns.length ns.length) 50
                      rw [SM] at NW
                      obtain ⟨v5, w5, hr, O5, G5, _⟩ := app_runD (T := 23) Tryd.underlying23 infoR rfl (by decide) (Wm.alloc (.cells #[.slice (some ⟨wy.heap.size, 0, none⟩) ns.length ns.length] 50)).drew (T + 1) J2.out.pi.lt (some ⟨wy.heap.size + 1, 0, none⟩) 1 1 [.slice (some ⟨wy.heap.size, 0, none⟩) ns.length ns.length] rfl NW (by simp) (by simp [Value.oneCell']) (.slice ya qs2.length yc) _ _ J2.out.pi.rw.own (by unfold maxLen; omega) (by omega)
                      obtain ⟨qa, qc, hv⟩ := own_form2 O5
                      subst hv
                      obtain ⟨y0, y1⟩ := J2.out.pi.fld G5
                      have P9 := Lib.hid (J2.out.row (q := ⟨some ⟨wy.heap.size, 0, none⟩, ns.length, ns.length, List.replicate ns.length zCl⟩) M2.out (by simp) O5 G5)
                      obtain ⟨_, t8, _, _⟩ := box_all2 ((BM.block T (by have := PJ.out.pi.lt; omega)).trans PJ.out.pi.hT)
                      obtain ⟨_, t9, _, _⟩ := box_all2 (((below_al Wm (.cells #[.slice (some ⟨wy.heap.size, 0, none⟩) ns.length ns.length] 50)).block T (by have := PJ.out.pi.lt; omega)).trans ((BM.block T (by have := PJ.out.pi.lt; omega)).trans PJ.out.pi.hT))
                      have NX := Lib.hid (p := (qs2 ++ [(⟨some ⟨wy.heap.size, 0, none⟩, ns.length, ns.length, List.replicate ns.length zCl⟩ : Rw)]).map (·.cs) = qs.map (·.cs) ++ padR ((qs2 ++ [(⟨some ⟨wy.heap.size, 0, none⟩, ns.length, ns.length, List.replicate ns.length zCl⟩ : Rw)]).length - qs.length) ns.length) (by
                        rw [List.map_append, QE.out, List.length_append, List.length_singleton, show qs2.length + 1 - qs.length = (qs2.length - qs.length) + 1 by have := QA.out; omega, padR_succ, List.append_assoc]
                        rfl)
                      subst hWm
                      clear O5 G5 J2 M2 BA BM MO NW
                      go_upto_region 22 with fail
                      go_region_law (first | (refine step_app_run rfl _ _ 23 rfl _ _ _ w5 rfl rfl hr ?_))
                      all_goals
                        go_wp2
                        go_roundw
                        case rel => exact ⟨_, _, by first | exact ⟨P9.out, by rw [List.length_append]; have := QA.out; omega, by rw [List.length_append, List.length_singleton]; omega, NX.out⟩ | exact ⟨P9.out.below (below_eq (Below.refl _ _) rfl rfl rfl rfl), by rw [List.length_append]; have := QA.out; omega, by rw [List.length_append, List.length_singleton]; omega, NX.out⟩⟩
                        case measure => first | (rw [P9.out.pi.len, LE0.out]; omega) | (show dn - lenT T (w5.setCell _ _) < _; rw [P9.out.pi.len, LE0.out]; omega)
                    · have kq : ¬ (qs2.length : Int) < (dn : Int) := by omega
                      obtain rfl : dn = qs2.length := by omega
                      have q4 : qs2.length < 4096 := by omega
                      have BA := Lib.hid (below_al wy (.cells #[.slice ca cs.length cc] 50))
                      have J2 := Lib.hid (PJ.out.below BA.out)
                      have FIN := Lib.hid (p := rowsD ns (((l0 :: lr).drop (i + 1)).map Lw.lp) ((qs2 ++ [(⟨ca, cs.length, cc, cs⟩ : Rw)]).map (·.cs)) = R) (by
                        rw [List.map_append, QE.out]
                        exact R2.out)
                      go_wp2_with (at_builtin; refine wp_appG Tryd.underlying23 infoR rfl (by decide) _ (T + 1) J2.out.pi.lt (some ⟨wy.heap.size, 0, none⟩) 1 1 [.slice ca cs.length cc] rfl (one_news wy _ _) (fun e => by cases e) (by simp [Value.oneCell']) rfl _ _ rfl _ _ _ rfl J2.out.pi.rw.own rfl (by unfold maxLen; omega) (by omega) ?_; intro v5 w5 O5 G5; obtain ⟨za, zc, hv5⟩ := own_form2 O5; subst hv5; obtain ⟨y0, y1⟩ := J2.out.pi.fld G5; have P5 := Lib.hid (J2.out.pi.row (q := ⟨ca, cs.length, cc, cs⟩) J2.out.co rfl O5 G5); clear O5 G5)
                      go_roundw
                      case rel => exact ⟨i + 1, _, _, by omega, by omega, by go_num, P5.out, by rw [List.length_append, List.length_singleton]; omega, FIN.out⟩
                      case measure => simp [intOf]; omega
                · rw [if_neg h3] at RX
                  have R2 := Lib.hid RX.symm
                  clear RX
                  go_upto_region 20 with (first | (go_at_call 12; refine KD.out.mono ?_; rintro e w5 ⟨rfl, rfl⟩) | (go_at_call 13; refine KRD.out.mono ?_; rintro e w6 ⟨v6, rfl, hO, hB⟩; have O6 := Lib.hid hO; have B6 := Lib.hid hB; clear hO hB))
                  obtain ⟨⟨rb6, bw6⟩, _, _⟩ := ST.out _ (PI.out.below B6.out).bel
                  clear r0 r1 r2 r3 z0 z1 BE
                  obtain ⟨r0, r1, r2, r3⟩ := box_all2 rb6
                  obtain ⟨z0, z1, _, _⟩ := box_all2 (box_set2 (u := .slice none 0 0) (v := .slice none 0 0) rb6)
                  have BE := Lib.hid ((bw6.setCell (p := ⟨w.heap.size, 0, none⟩) (Nat.le_refl _) (.slice none 0 0)).setCell (p := ⟨w.heap.size, 1, none⟩) (Nat.le_refl _) (.slice none 0 0))
                  go_wp2
                  refine bodyPost_ret (v := .tuple #[.agg #[.slice none 0 0, .slice none 0 0], .int .i64 (rp : Int), .int .i64 re]) (by simp [results, Tryd.results4, go_sem, z0, z1]) rfl ?_
                  exact QN.out _ _ _ R2.out BE.out
        · obtain rfl : i = L := by omega
          have kc2 : ¬ (i : Int) < (i : Int) := by omega
          have R2 := RI.out
          rw [List.drop_eq_nil_of_le (by rw [HL2.out]; omega)] at R2
          change PR.mk 0 0 ns (qs.map (·.cs)) = R at R2
          subst R2
          have gd := GDR.out rfl
          obtain ⟨r0, r1, r2, r3⟩ := box_all2 rb
          obtain ⟨z0, z1, _, _⟩ := box_all2 (box_set2 (u := .slice na ns.length nc) (v := .slice ra qs.length rc) rb)
          have BE := Lib.hid ((bw.setCell (p := ⟨w.heap.size, 0, none⟩) (Nat.le_refl _) (.slice na ns.length nc)).setCell (p := ⟨w.heap.size, 1, none⟩) (Nat.le_refl _) (.slice ra qs.length rc))
          have RES := Lib.hid (p := RdE ⟨0, 0, ns, qs.map (·.cs)⟩ w (.returned (.tuple #[.agg #[.slice na ns.length nc, .slice ra qs.length rc], .int .i64 0, .int .i64 0])) ((ww.setCell ⟨w.heap.size, 0, none⟩ (.slice na ns.length nc)).setCell ⟨w.heap.size, 1, none⟩ (.slice ra qs.length rc))) (by
            refine ⟨⟨na, ns.length, nc, ns, ra, qs.length, rc, qs⟩, rfl, ?_, BE.out⟩
            have kp : ∀ b, w.heap.size < b → ((ww.setCell ⟨w.heap.size, 0, none⟩ (.slice na ns.length nc)).setCell ⟨w.heap.size, 1, none⟩ (.slice ra qs.length rc)).heap[b]? = ww.heap[b]? := fun b hb => by
              have ne : ¬ w.heap.size = b := by omega
              simp [World.setCell, Array.getElem?_modify, ne]
            have sT : w.heap.size < T := SWT.out
            have s2 : w.heap.size < w2.heap.size := SW2.out
            have RA : RwA ((ww.setCell ⟨w.heap.size, 0, none⟩ (.slice na ns.length nc)).setCell ⟨w.heap.size, 1, none⟩ (.slice ra qs.length rc)) (T + 1) (.slice ra qs.length rc) qs := ⟨own_keep PI.out.rw.own (fun b e => kp b (by have := (PI.out.rw.own.lt b e).1; omega)), fun q hq => ⟨own_keep (PI.out.rw.ok q hq).1 (fun b e => kp b (by have := ((PI.out.rw.ok q hq).1.lt b e).1; omega)), (PI.out.rw.ok q hq).2⟩⟩
            exact ⟨own_mono (own_keep no2 (fun b e => kp b (by have := (no2.lt b e).1; omega))) (by omega), RA.mono (by omega), gd, rfl, rfl⟩)
          clear gd rb bw la2 no2
          go_wp2
          refine bodyPost_ret (v := .tuple #[.agg #[.slice na ns.length nc, .slice ra qs.length rc], .int .i64 0, .int .i64 0]) (by simp [results, Tryd.results4, go_sem, z0, z1]) rfl ?_
          exact RES.out
    · have kh : ¬ he = 0 := h0
      have RR := RQ.out
      rw [if_neg h0] at RR
      have R2 := Lib.hid RR
      obtain ⟨hbx, hbl⟩ := RB.out _ D3.out
      obtain ⟨r0, r1, r2, r3⟩ := box_all2 hbx
      obtain ⟨z0, z1, _, _⟩ := box_all2 (box_set2 (u := .slice none 0 0) (v := .slice none 0 0) hbx)
      have BE := Lib.hid ((hbl.setCell (p := ⟨w.heap.size, 0, none⟩) (Nat.le_refl _) (.slice none 0 0)).setCell (p := ⟨w.heap.size, 1, none⟩) (Nat.le_refl _) (.slice none 0 0))
      clear hbx hbl RR RQ
      go_wp2
      refine bodyPost_ret (v := .tuple #[.agg #[.slice none 0 0, .slice none 0 0], .int .i64 (hp : Int), .int .i64 he]) (by simp [results, Tryd.results4, go_sem, z0, z1]) rfl ?_
      exact QN.out _ _ _ R2.out BE.out
theorem rParseT_any (s : ByteArray) (w : World) : Calls Tryd.prog 4 #[.string s] w fun e w' => RdE (parseP s) w e w' := by
  by_cases h : 1048576 < s.size
  · exact rParse_long s w h
  · exact rParse_short s w (by omega)
end Go.Proofs.YtldplmchgmoopaaDoor

namespace Go.Proofs.YtldplmchgmoopaaDoor
open Go.RowKit
set_option linter.unusedVariables false
set_option linter.unusedSimpArgs false

/-- A question. -/
structure Aq where
  kd : Int
  na : Option Addr
  nn : Nat
  nc : Nat
  ns : List ByteArray
  N : Int
instance : Inhabited Aq := ⟨⟨0, none, 0, 0, [], 0⟩⟩
structure AqOk (w : World) (x : Aq) : Prop where
  nl : NL w x.na x.nn x.ns
  n0 : x.na = none → x.nn = 0 ∧ x.nc = 0
  le : x.nn ≤ 1048576
  N : -9223372036854775808 ≤ x.N ∧ x.N ≤ 9223372036854775807
theorem AqOk.later {w w' : World} {x : Aq} (h : AqOk w x) (b : Below w.heap.size w w') : AqOk w' x := ⟨h.nl.later b, h.n0, h.le, h.N⟩
/-- Questions as they lie. -/
def AqL (w : World) (a : Option Addr) (n : Nat) (xs : List Aq) : Prop :=
  xs.length = n ∧ n ≤ 1048576 ∧ (∀ x ∈ xs, AqOk w x) ∧ (n = 0 ∨ ∃ b o, a = some ⟨b, o, none⟩ ∧ b < w.heap.size ∧ ∀ i, i < n → w.cell? ⟨b, o + i * 3, none⟩ = some (.int .i64 (xs.getD i default).kd) ∧ w.cell? ⟨b, o + i * 3 + 1, none⟩ = some (.slice (xs.getD i default).na (xs.getD i default).nn (xs.getD i default).nc) ∧ w.cell? ⟨b, o + i * 3 + 2, none⟩ = some (.int .i64 (xs.getD i default).N))
theorem AqL.at {w w' : World} {a : Option Addr} {n i : Nat} {xs : List Aq} (h : AqL w a n xs) (b : Below w.heap.size w w') (hi : i < n) : ∃ z o x, a = some ⟨z, o, none⟩ ∧ AqOk w' x ∧ w'.cell? ⟨z, o + i * 3, none⟩ = some (.int .i64 x.kd) ∧ w'.cell? ⟨z, o + i * 3 + 1, none⟩ = some (.slice x.na x.nn x.nc) ∧ w'.cell? ⟨z, o + i * 3 + 2, none⟩ = some (.int .i64 x.N) := by
  obtain ⟨h1, h2, h3, h4⟩ := h
  rcases h4 with h4 | ⟨z, o, e, hz, hc⟩
  · omega
  · obtain ⟨c0, c1, c2⟩ := hc i hi
    have hi' : i < xs.length := by omega
    exact ⟨z, o, xs.getD i default, e, (h3 _ (by rw [show xs.getD i default = xs[i] by simp [List.getD, hi']]; exact List.getElem_mem hi')).later b, (b.cell (p := ⟨z, o + i * 3, none⟩) hz).trans c0, (b.cell (p := ⟨z, o + i * 3 + 1, none⟩) hz).trans c1, (b.cell (p := ⟨z, o + i * 3 + 2, none⟩) hz).trans c2⟩
theorem AqL.atAll {w : World} {a : Option Addr} {n i : Nat} {xs : List Aq} (h : AqL w a n xs) (hi : i < n) : ∃ z o x, a = some ⟨z, o, none⟩ ∧ AqOk w x ∧ ∀ w', Below w.heap.size w w' → w'.cell? ⟨z, o + i * 3, none⟩ = some (.int .i64 x.kd) ∧ w'.cell? ⟨z, o + i * 3 + 1, none⟩ = some (.slice x.na x.nn x.nc) ∧ w'.cell? ⟨z, o + i * 3 + 2, none⟩ = some (.int .i64 x.N) := by
  obtain ⟨h1, h2, h3, h4⟩ := h
  rcases h4 with h4 | ⟨z, o, e, hz, hc⟩
  · omega
  · obtain ⟨c0, c1, c2⟩ := hc i hi
    have hi' : i < xs.length := by omega
    exact ⟨z, o, xs.getD i default, e, h3 _ (by rw [show xs.getD i default = xs[i] by simp [List.getD, hi']]; exact List.getElem_mem hi'), fun w' b => ⟨(b.cell (p := ⟨z, o + i * 3, none⟩) hz).trans c0, (b.cell (p := ⟨z, o + i * 3 + 1, none⟩) hz).trans c1, (b.cell (p := ⟨z, o + i * 3 + 2, none⟩) hz).trans c2⟩⟩
/-- A book that is new. -/
def newB (late : Bool) : List Value := List.replicate 11 (.slice none 0 0) ++ [.int .i64 0, .bool late] ++ List.replicate 6 (.slice none 0 0)
theorem bkS_new {w : World} {bk : Nat} {late : Bool} (B : Nat) (h : w.heap[bk]? = some (.cells (newB late).toArray 30)) : BkS w B bk late 0 [] := by
  refine ⟨newB late, ⟨[], [], [], [], [], [], [], [], [], [], [], [], [], [], [], [], []⟩, [], [], [], [], 0, ⟨⟨⟨⟨h, rfl, fun f hf => ?_, ?_, fun p hp => by cases hp⟩, rfl, rfl⟩, List.nodup_nil, ?_⟩, ?_⟩, ?_, fun _ => ⟨rfl, rfl, rfl⟩⟩
  · unfold Bg.fs nats at hf
    simp only [List.map_nil, List.length_nil, List.mem_cons, List.not_mem_nil, or_false] at hf
    rcases hf with e | e | e | e | e | e | e | e | e | e | e | e | e | e | e | e | e <;> subst e <;> exact ⟨World.ownsRow_nil _ _ _ _, by decide, by decide⟩
  · unfold Bg.fs nats newB
    simp [List.getD, Value.ownBlock]
  · exact ⟨rfl, rfl, rfl, rfl, rfl, rfl, rfl, (fun k hk => absurd hk (Nat.not_lt_zero _)), (fun k hk => absurd hk (Nat.not_lt_zero _)), (fun k hk => absurd hk (Nat.not_lt_zero _)), (fun k hk => absurd hk (Nat.not_lt_zero _))⟩
  · exact ⟨rfl, rfl, rfl, rfl, rfl, rfl, (fun k hk => absurd hk (Nat.not_lt_zero _)), (fun k hk => absurd hk (Nat.not_lt_zero _)), (fun k hk => absurd hk (Nat.not_lt_zero _))⟩
  · exact ⟨⟨Int.le_refl _, Int.le_refl _⟩, Nat.le_refl _, Nat.le_refl _, Nat.le_refl _, Nat.le_refl _, Nat.le_refl _, Nat.le_refl _, Nat.le_refl _⟩
theorem Fr.split {B bk : Nat} {w w' : World} (f : Fr B bk w w') (hB : w.heap.size ≤ B) (hb : bk < w.heap.size) : ∃ v, w.grownBy v (some bk) ∧ Below v.heap.size v w' := by
  obtain ⟨o, ho⟩ : ∃ o, w'.heap[bk]? = some o := ⟨_, Array.getElem?_eq_getElem (Nat.lt_of_lt_of_le hb f.size)⟩
  refine ⟨{ w with heap := w.heap.setIfInBounds bk o }, ⟨rfl, rfl, rfl, by simp, fun k hk hr => ?_⟩, ⟨f.os, f.tape, f.out, by simpa using f.size, fun k hk => ?_⟩⟩
  · have : ¬ bk = k := fun e => hr (by rw [e])
    simp [Array.getElem?_setIfInBounds, this]
  · have hk' : k < w.heap.size := by simpa using hk
    simp only [Array.getElem?_setIfInBounds]
    by_cases e : bk = k
    · subst e
      rw [if_pos rfl, if_pos hb]
      exact ho
    · rw [if_neg e]
      exact f.blk k (by omega) (fun z => e z.symm)
theorem Fr.old {B bk s : Nat} {w0 w w' : World} (b : Below s w0 w) (f : Fr B bk w w') (h1 : s ≤ bk) (h2 : s ≤ B) : Below s w0 w' :=
  ⟨f.os.trans b.os, f.tape.trans b.tape, f.out.trans b.output, Nat.le_trans b.size f.size, fun k hk => (f.blk k (by omega) (by omega)).trans (b.block k hk)⟩
/-- A table of own, as it reads. -/
theorem tb_of_own {W : World} {B : Nat} {an b b2 : Option Addr} {ln m c lr m2 c2 : Nat} {ss : List ByteArray} {rs : List Rw} {w0 : World} {ar : Option Addr} (hn : NL w0 an ln ss) (hr : RL w0 ar lr rs) (N : NO W B an (.slice b m c) ln ss) (R : RO W B (.slice b2 m2 c2) lr rs) : ∃ qs, TbIs W ⟨b, m, c, ss, b2, m2, c2, qs⟩ ss (rs.map (·.cs)) ∧ m2 ≤ c2 := by
  obtain ⟨e1, nl⟩ := N.nl hn.1 hn.2.1 hn.2.2.1
  obtain ⟨e2, qs, rl, ec⟩ := ro_rl R (fun r hr' => ⟨(hr.2.2.1 r hr').1.2.2.1, by have := (hr.2.2.1 r hr').1; rw [this.1]; exact this.2.1⟩) hr.1 hr.2.1
  subst e1 e2
  refine ⟨qs, ⟨nl, ?_, rl, ?_, rfl, ec⟩, ?_⟩
  · intro e
    rcases N with ⟨_, h, h0⟩ | ⟨g, c', h, _⟩
    · injection h with _ _ h; exact ⟨h0, h⟩
    · injection h with h; simp only at e; rw [e] at h; cases h
  · intro e
    rcases R with ⟨h, h0⟩ | ⟨g, c', qs', h, _⟩
    · injection h with _ _ h; exact ⟨h0, h⟩
    · injection h with h; simp only at e; rw [e] at h; cases h
  · rcases R with ⟨h, h0⟩ | ⟨g, c', qs', h, hc, _⟩
    · omega
    · injection h with _ _ h; omega
end Go.Proofs.YtldplmchgmoopaaDoor

namespace Go.Proofs.YtldplmchgmoopaaDoor
open Go.RowKit
set_option linter.unusedVariables false
set_option linter.unusedSimpArgs false

theorem belowTD_drewN {B : Nat} {a w : World} (h : Below B a w) (n : Nat) : Below B a (w.drewN n) := h.trans ⟨rfl, rfl, rfl, Nat.le_refl _, fun _ _ => rfl⟩
theorem tb_lensD {w : World} {t : Tb} {ss : List ByteArray} {rs : List (List Cl)} (h : TbIs w t ss rs) : t.ln = ss.length ∧ t.lr = rs.length := by
  have a := h.nl.1
  have b := h.rl.1
  rw [h.ns] at a
  have c := congrArg List.length h.rs
  rw [List.length_map] at c
  exact ⟨a.symm, by omega⟩
set_option maxHeartbeats 1000000 in
theorem sameTD_any (t u : Tb) (ss : List ByteArray) (rs : List (List Cl)) (w : World) (h : TbIs w t ss rs) (k : TbIs w u ss rs) :
    Calls Tryd.prog 6 #[t.val, u.val] w fun e w' => e = .returned (.bool true) ∧ Below w.heap.size w w' := by
  obtain ⟨a1, a2⟩ := tb_lensD h
  obtain ⟨b1, b2⟩ := tb_lensD k
  obtain ⟨an, ln, cn, tss, ar, lr, cr, trs⟩ := t
  obtain ⟨bn, mn, dn, uss, br, mr, dr, urs⟩ := u
  obtain ⟨h1, _, h1r, _, h2, h3⟩ := h
  obtain ⟨k1, _, k1r, _, k2, k3⟩ := k
  simp only at a1 a2 b1 b2 h2 h3 k2 k3
  subst h2
  have e1 : uss = tss := k2
  subst e1
  have e2 : mn = ln := by omega
  have e3 : mr = lr := by omega
  subst e2 e3
  have B2 : Below w.heap.size w ((w.alloc (.cells #[.slice an mn cn, .slice ar mr cr] 32)).alloc (.cells #[.slice bn mn dn, .slice br mr dr] 32)) := ((Below.refl _ w).alloc (Nat.le_refl _) _).alloc (by simp) _
  have KN := Lib.hid (p := ∀ W, Below w.heap.size w W → Calls Tryd.prog 18 #[.slice an mn cn, .slice bn mn dn] W fun e w' => e = .returned (.bool true) ∧ ∃ q, w' = W.drewN q) (fun W b => sameNames_any an bn mn cn dn uss W (h1.later b) (k1.later b))
  have KR := Lib.hid (p := ∀ W, Below w.heap.size w W → Calls Tryd.prog 19 #[.slice ar mr cr, .slice br mr dr] W fun e w' => e = .returned (.bool true) ∧ ∃ q, w' = W.drewN q) (fun W b => sameRows_any ar br mr cr dr trs urs W (h1r.later b) (k1r.later b) (h3.trans k3.symm))
  have BB := Lib.hid B2
  have c0 : ∀ q, (((w.alloc (.cells #[.slice an mn cn, .slice ar mr cr] 32)).alloc (.cells #[.slice bn mn dn, .slice br mr dr] 32)).drewN q).cell? ⟨w.heap.size, 1, none⟩ = some (.slice ar mr cr) := fun q => by
    show ((w.alloc (.cells #[.slice an mn cn, .slice ar mr cr] 32)).alloc (.cells #[.slice bn mn dn, .slice br mr dr] 32)).cell? ⟨w.heap.size, 1, none⟩ = _
    go_simp
  have c1 : ∀ q, (((w.alloc (.cells #[.slice an mn cn, .slice ar mr cr] 32)).alloc (.cells #[.slice bn mn dn, .slice br mr dr] 32)).drewN q).cell? ⟨w.heap.size + 1, 1, none⟩ = some (.slice br mr dr) := fun q => by
    show ((w.alloc (.cells #[.slice an mn cn, .slice ar mr cr] 32)).alloc (.cells #[.slice bn mn dn, .slice br mr dr] 32)).cell? ⟨w.heap.size + 1, 1, none⟩ = _
    go_simp
  clear h1 h1r h3 k1 k1r k3 k2 B2 a1 a2 b1 b2
  show Calls Tryd.prog 6 #[.agg #[.slice an mn cn, .slice ar mr cr], .agg #[.slice bn mn dn, .slice br mr dr]] w _
  go_enter Tryd.func6, Tryd.ntmps6
  go_wp2_with (first
    | (go_at_call 18; refine (KN.out _ BB.out).mono ?_; rintro e w1 ⟨rfl, q, rfl⟩)
    | (go_at_call 19; refine (KR.out _ (belowTD_drewN BB.out _)).mono ?_; rintro e w1 ⟨rfl, q2, rfl⟩))
  go_ret
  exact ⟨rfl, belowTD_drewN BB.out _⟩

end Go.Proofs.YtldplmchgmoopaaDoor
