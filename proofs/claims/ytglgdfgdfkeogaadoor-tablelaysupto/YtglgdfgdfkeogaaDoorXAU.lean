import Derived.Test.YtglgdfgdfkeogaaDoorXAT
import Derived.Test.YtglgdfgdfkeogaaDoorXAM
import Derived.Test.YtglgdfgdfkeogaaDoorXAH
import Derived.Deep.RegionHeld3
import Derived.Test.YtglgdfgdfkeogaaDoorXAD
import Derived.Deep.Cut
import Derived.Deep.CutRange
import Derived.Deep.DeepCutAuto
namespace Go.Proofs.YtglgdfgdfkeogaaDoor
open Go.RowKit
set_option linter.unusedVariables false
set_option linter.unusedSimpArgs false

theorem atC_fit {r : List Cl} {c : Int} (h : ∀ x ∈ r, (Lit.int .i64 x.v).wf = true) : (Lit.int .i64 (atC r c).v).wf = true := by
  unfold atC
  split
  · rfl
  · unfold List.getD
    by_cases q : c.toNat < r.length
    · rw [List.getElem?_eq_getElem q]; exact h _ (List.getElem_mem q)
    · rw [List.getElem?_eq_none (by omega)]; rfl
theorem TbIs.wf {w : World} {t : Tb} {ss : List ByteArray} {rs : List (List Cl)} (h : TbIs w t ss rs) : ∀ r ∈ rs, ∀ c ∈ r, (Lit.int .i64 c.v).wf = true := fun r hr c hc => by
  rw [← h.rs] at hr
  obtain ⟨q, hq, rfl⟩ := List.mem_map.1 hr
  exact (h.rl.2.2.1 q hq).1.2.2.1 c hc
theorem bnd_fit {w : World} {t : Tb} {ss : List ByteArray} {rs : List (List Cl)} {ns : List ByteArray} {qs : List Rw} (h : TbIs w t ss rs) (hq : qs.map (·.cs) = if bindE ss rs ns = 0 then bndR ss rs ns else []) (hn : ns.length ≤ 2000000) : qs.length ≤ 4096 ∧ ∀ q ∈ qs, q.cs.length ≤ 2000000 ∧ ∀ c ∈ q.cs, (Lit.int .i64 c.v).wf = true := by
  by_cases e : bindE ss rs ns = 0
  · rw [if_pos e] at hq
    have g := gd_valid (bind_ok e).1 h.wf
    refine ⟨?_, fun q hq' => ?_⟩
    · have := congrArg List.length hq
      simp [bndR] at this
      rw [this]
      exact g.r4
    · have m : q.cs ∈ bndR ss rs ns := by rw [← hq]; exact List.mem_map.2 ⟨q, hq', rfl⟩
      unfold bndR at m
      obtain ⟨r, hr, er⟩ := List.mem_map.1 m
      rw [← er]
      refine ⟨by simpa using hn, fun c hc => ?_⟩
      obtain ⟨s, _, es⟩ := List.mem_map.1 hc
      rw [← es]
      exact atC_fit (h.wf r hr)
  · rw [if_neg e] at hq
    have : qs = [] := by simpa using hq
    subst this
    exact ⟨by simp, fun q hq => by cases hq⟩
theorem box_three {w : World} {x : Nat} {u v y : Value} {t : TypeId} (h : w.heap[x]? = some (.cells #[u, v, y] t)) : w.cell? ⟨x, 0, none⟩ = some u ∧ w.cell? ⟨x, 1, none⟩ = some v ∧ w.cell? ⟨x, 2, none⟩ = some y := by
  refine ⟨?_, ?_, ?_⟩ <;> simp [World.cell?, h]
/-- The boxes that ask lays. -/
def askW (w : World) (ta tb : Tb) (kd : Int) (na : Option Addr) (nn nc : Nat) (N : Int) : World := ((w.alloc (.cells #[.slice ta.an ta.ln ta.cn, .slice ta.ar ta.lr ta.cr] 25)).alloc (.cells #[.slice tb.an tb.ln tb.cn, .slice tb.ar tb.lr tb.cr] 25)).alloc (.cells #[.int .i64 kd, .slice na nn nc, .int .i64 N] 40)
structure AskC (W : World) (x : Nat) (ta tb : Tb) (kd : Int) (na : Option Addr) (nn nc : Nat) (N : Int) : Prop where
  a0 : W.cell? ⟨x, 0, none⟩ = some (.slice ta.an ta.ln ta.cn)
  a1 : W.cell? ⟨x, 1, none⟩ = some (.slice ta.ar ta.lr ta.cr)
  b0 : W.cell? ⟨x + 1, 0, none⟩ = some (.slice tb.an tb.ln tb.cn)
  b1 : W.cell? ⟨x + 1, 1, none⟩ = some (.slice tb.ar tb.lr tb.cr)
  x0 : W.cell? ⟨x + 1 + 1, 0, none⟩ = some (.int .i64 kd)
  x1 : W.cell? ⟨x + 1 + 1, 1, none⟩ = some (.slice na nn nc)
  x2 : W.cell? ⟨x + 1 + 1, 2, none⟩ = some (.int .i64 N)
theorem askW_all (w : World) (ta tb : Tb) (kd : Int) (na : Option Addr) (nn nc : Nat) (N : Int) : Below w.heap.size w (askW w ta tb kd na nn nc N) ∧ ∀ W, Below (askW w ta tb kd na nn nc N).heap.size (askW w ta tb kd na nn nc N) W → AskC W w.heap.size ta tb kd na nn nc N := by
  refine ⟨(((Below.refl _ w).alloc (Nat.le_refl _) _).alloc (by simp) _).alloc (by simp; omega) _, fun W b => ?_⟩
  unfold askW at b
  have s1 := World.alloc_heap_new w (.cells #[.slice ta.an ta.ln ta.cn, .slice ta.ar ta.lr ta.cr] 25)
  have s2 := World.alloc_heap_new (w.alloc (.cells #[.slice ta.an ta.ln ta.cn, .slice ta.ar ta.lr ta.cr] 25)) (.cells #[.slice tb.an tb.ln tb.cn, .slice tb.ar tb.lr tb.cr] 25)
  have s3 := World.alloc_heap_new ((w.alloc (.cells #[.slice ta.an ta.ln ta.cn, .slice ta.ar ta.lr ta.cr] 25)).alloc (.cells #[.slice tb.an tb.ln tb.cn, .slice tb.ar tb.lr tb.cr] 25)) (.cells #[.int .i64 kd, .slice na nn nc, .int .i64 N] 40)
  have s1b := (Below.heap_alloc _ (.cells #[.slice tb.an tb.ln tb.cn, .slice tb.ar tb.lr tb.cr] 25) _ (blk_lt s1)).trans s1
  have s1c := (Below.heap_alloc _ (.cells #[.int .i64 kd, .slice na nn nc, .int .i64 N] 40) _ (blk_lt s1b)).trans s1b
  have s2c := (Below.heap_alloc _ (.cells #[.int .i64 kd, .slice na nn nc, .int .i64 N] 40) _ (blk_lt s2)).trans s2
  have t1 := (b.block _ (blk_lt s1c)).trans s1c
  have t2 := (b.block _ (blk_lt s2c)).trans s2c
  have t3 := (b.block _ (blk_lt s3)).trans s3
  simp only [World.size_alloc] at t2 t3
  obtain ⟨p0, p1, _, _⟩ := box_all2 t1
  obtain ⟨q0, q1, _, _⟩ := box_all2 t2
  obtain ⟨r0, r1, r2⟩ := box_three t3
  exact ⟨p0, p1, q0, q1, r0, r1, r2⟩
/-- What ask leaves. -/
def AskE (B bk : Nat) (late : Bool) (K : Nat) (w : World) (e : Ending) (w' : World) : Prop := e = .returned (.bool true) ∧ BkS w' B bk late (K + 2) [] ∧ Fr B bk w w'
set_option maxRecDepth 100000 in
set_option maxHeartbeats 8000000 in
theorem ask_bind (B bk : Nat) (late : Bool) (K : Nat) (ta tb : Tb) (ss : List ByteArray) (ra : List (List Cl)) (na : Option Addr) (nn nc : Nat) (ns : List ByteArray) (N : Int) (w : World) (h : BkS w B bk late K []) (hA : TbIs w ta ss ra) (hN : NL w na nn ns) (hn0 : na = none → nn = 0 ∧ nc = 0) (hl : nn ≤ 1048576) (G : Gl B bk w) (hB : B ≤ w.heap.size) (hK : K ≤ 30000000) :
    Calls Tryd.prog 10 #[ta.val, tb.val, .agg #[.int .i64 1, .slice na nn nc, .int .i64 N], .pointer (some ⟨bk, 0, none⟩)] w fun e w' => AskE B bk late K w e w' := by
  obtain ⟨hb0, hce⟩ := askW_all w ta tb 1 na nn nc N
  have CE := Lib.hid hce
  obtain ⟨w1, hw1⟩ : ∃ u, askW w ta tb 1 na nn nc N = u := ⟨_, rfl⟩
  rw [hw1] at hb0 CE
  have B0 := Lib.hid hb0
  have nl : ns.length = nn := hN.1
  have KO := Lib.hid (fun (W : World) (b : Below w.heap.size w W) => ownNames_any na nn nc ns W (hN.later b) hn0)
  have KB := Lib.hid (fun (W : World) (b : Below w.heap.size w W) (x : Option Addr) (m c : Nat) (k : NL W x m ns) (hm : m ≤ 1048576) => bind_any ta ss ra x m c ns W (hA.later b) k (by omega))
  have KR := Lib.hid (fun (W : World) (b : Below w.heap.size w W) => rBind_any ta ss ra na nn nc ns W (hA.later b) (hN.later b) (by omega))
  have KI := Lib.hid (fun (W : World) (b : Below w.heap.size w W) (Bx : Nat) (x : Option Addr) (m c : Nat) (k : NO W Bx na (.slice x m c) nn ns) => intactNames_any Bx na x nn m nc c ns W (hN.later b) hn0 k)
  have NF := Lib.hid (p := ∀ (Bx : Nat) (W : World) (x : Option Addr) (m c : Nat), NO W Bx na (.slice x m c) nn ns → m = nn ∧ NL W x nn ns) (fun Bx W x m c k => k.nl nl hN.2.1 hN.2.2.1)
  have FT := Lib.hid (p := ∀ qs : List Rw, qs.map (·.cs) = (if bindE ss ra ns = 0 then bndR ss ra ns else []) → qs.length ≤ 4096 ∧ ∀ q ∈ qs, q.cs.length ≤ 2000000 ∧ ∀ c ∈ q.cs, (Lit.int .i64 c.v).wf = true) (fun qs hq => bnd_fit hA hq (by omega))
  have HS := Lib.hid h
  have GG := Lib.hid (p := ∀ W, Below w.heap.size w W → Gl B bk W ∧ B ≤ W.heap.size) (fun W b => ⟨G.fr (Fr.below b hB), Nat.le_trans hB b.size⟩)
  obtain ⟨E, hE⟩ : ∃ E, bindE ss ra ns = E := ⟨_, rfl⟩
  unfold BndE at KB
  unfold RBE at KR
  simp only [hE] at KB KR FT
  have c1 := CE.out w1 (Below.refl _ _)
  obtain ⟨a0, a1, b0, b1, x0, x1, x2⟩ := c1
  clear h hA hN hn0 hb0 hce G hE
  unfold askW at hw1
  obtain ⟨an, ln, cn, tss, ar, lr, cr, trs⟩ := ta
  obtain ⟨bn, mn, dn, uss, br, mr, dr, urs⟩ := tb
  simp only [Tb.val] at *
  subst hw1
  go_enter Tryd.func10, Tryd.ntmps10
  go_wp2_with (first
    | (go_at_call 20; refine (KO.out _ B0.out).mono ?_; rintro e w2 ⟨ia, im, ic, rfl, hO, hb⟩; have D2 := Lib.hid hb; have E2 := Lib.hid (B0.out.trans (hb.mono B0.out.size)); have O2 := Lib.hid hO; obtain ⟨em, hnl⟩ := NF.out _ _ _ _ _ hO; subst em; have N2 := Lib.hid hnl; obtain ⟨a0, a1, b0, b1, x0, x1, x2⟩ := CE.out _ hb; clear hO hb hnl)
    | (go_at_call 14; refine (KB.out _ E2.out _ _ _ N2.out hl).mono ?_; rintro e w3 ⟨la, lm, lc, rfl, qs, hR, hQ, hb⟩; have R3 := Lib.hid hR; have Q3 := Lib.hid hQ; have D3 := Lib.hid hb; have T3 := Lib.hid (D2.out.trans (hb.mono D2.out.size)); have E3 := Lib.hid (E2.out.trans (hb.mono E2.out.size)); obtain ⟨a0, a1, b0, b1, x0, x1, x2⟩ := CE.out _ T3.out; clear hR hQ hb)
    | (go_at_call 16; refine (KR.out _ E3.out).mono ?_; rintro e w4 ⟨ka, km, kc, rfl, ps, hR, hQ, hb⟩; have R4 := Lib.hid hR; have Q4 := Lib.hid hQ; have D4 := Lib.hid (D3.out.trans (hb.mono D3.out.size)); have T4 := Lib.hid (T3.out.trans (hb.mono T3.out.size)); have E4 := Lib.hid (E3.out.trans (hb.mono E3.out.size)); have L4 := Lib.hid (R3.out.below hb); obtain ⟨a0, a1, b0, b1, x0, x1, x2⟩ := CE.out _ T4.out; clear hR hQ hb))
  obtain ⟨f1, f2⟩ := FT.out qs Q3.out
  obtain ⟨g1, g2⟩ := FT.out ps Q4.out
  obtain ⟨el, rl, _⟩ := (rwo_rwa L4.out (fun q hq => (f2 q hq).1)).rl f1 (fun q hq => by have := (f2 q hq).1; omega) (fun q hq => (f2 q hq).2)
  obtain ⟨ek, rk, _⟩ := R4.out.rl g1 (fun q hq => by have := (g2 q hq).1; omega) (fun q hq => (g2 q hq).2)
  have elk : km = lm := by
    have := congrArg List.length (Q3.out.trans Q4.out.symm)
    simp at this
    omega
  subst elk
  have KS := Lib.hid (sameRows_any la ka km lc kc qs ps w4 rl rk (Q3.out.trans Q4.out.symm))
  have FQ := Lib.hid (p := km ≤ 4096 ∧ ∀ q ∈ qs, q.cs.length ≤ 2000000 ∧ ∀ c ∈ q.cs, (Lit.int .i64 c.v).wf = true) ⟨by omega, f2⟩
  clear f1 f2 g1 g2 el rl ek rk
  go_wp2_with (first
    | (go_at_call 18; refine KS.out.mono ?_; rintro e w5 ⟨rfl, q5, hq5⟩; have B5 := Lib.hid (p := Below w4.heap.size w4 w5) (by rw [hq5]; exact drewN_below w4 q5); have D5 := Lib.hid (D4.out.trans (B5.out.mono D4.out.size)); have E5 := Lib.hid (E4.out.trans (B5.out.mono E4.out.size)); have T5 := Lib.hid (T4.out.trans (B5.out.mono T4.out.size)); obtain ⟨a0, a1, b0, b1, x0, x1, x2⟩ := CE.out _ T5.out; clear hq5)
    | (go_at_call 21; refine (KI.out _ E5.out _ _ _ _ (O2.out.later D5.out)).mono ?_; rintro e w6 ⟨rfl, q6, hq6⟩; have B6 := Lib.hid (p := Below w5.heap.size w5 w6) (by rw [hq6]; exact drewN_below w5 q6); have D6 := Lib.hid (D5.out.trans (B6.out.mono D5.out.size)); have E6 := Lib.hid (E5.out.trans (B6.out.mono E5.out.size)); have L6 := Lib.hid ((L4.out.below B5.out).below B6.out); clear hq6))
  obtain ⟨Y, y1, y2, y3, y4⟩ := (HS.out.below E2.out).keepR D6.out L6.out (fun q hq => (FQ.out.2 q hq).1)
  have KW := Lib.hid (rows_X B bk late K Y [] la km lc qs w6 y1 (by omega) (GG.out _ E6.out).2 (RwO.mono L6.out (GG.out _ E2.out).2) y2 y3 (GG.out _ E6.out).1 FQ.out.1 FQ.out.2)
  have F6 := Lib.hid (Fr.below (bk := bk) E6.out hB)
  clear y1 y2 y3 y4
  go_wp2_with (go_at_call 22; refine KW.out.mono ?_; rintro e w7 ⟨rfl, hS, hF⟩; have S7 := Lib.hid hS; have F7 := Lib.hid (F6.out.trans hF); clear hS hF)
  go_ret
  exact ⟨rfl, S7.out.mono (by omega), F7.out⟩
end Go.Proofs.YtglgdfgdfkeogaaDoor

namespace Go.Proofs.YtglgdfgdfkeogaaDoor
open Go.RowKit
set_option linter.unusedVariables false
set_option linter.unusedSimpArgs false

/-- A table that was handed out: its memory is its own. -/
structure OwT (B : Nat) (W : World) (u : Tb) : Prop where
  o1 : W.ownsRow B 9 1 (.slice u.an u.ln u.cn) u.ln (u.ss.map Value.string)
  o2 : RwO W B (.slice u.ar u.lr u.cr) u.rs
  n : u.ln ≤ 1000000
  s : ∀ s ∈ u.ss, s.size ≤ 140737488351232
  r : u.lr ≤ 4096
  q : ∀ q ∈ u.rs, q.cs.length ≤ 2000000 ∧ ∀ c ∈ q.cs, (Lit.int .i64 c.v).wf = true
theorem OwT.below {B : Nat} {W W' : World} {u : Tb} (h : OwT B W u) (b : Below W.heap.size W W') : OwT B W' u := ⟨own_back h.o1 b, h.o2.below b, h.n, h.s, h.r, h.q⟩
theorem owT_of {B : Nat} {W : World} {u : Tb} {R : PR} (p : PsT B W u R) (h1 : R.ns.length ≤ 64) (h2 : R.rs.length ≤ 4096) (h3 : ∀ r ∈ R.rs, r.length ≤ 64) : OwT B W u := by
  have e1 : u.ss.length = u.ln := p.ok.nl.1
  have e2 : u.rs.length = u.lr := p.ok.rl.1
  have no := p.no
  rw [← p.ns] at no
  rw [e1] at no
  refine ⟨no, p.ro, by rw [← e1, p.ns]; omega, p.ok.nl.2.2.1, ?_, fun q hq => ⟨?_, (p.ok.rl.2.2.1 q hq).1.2.2.1⟩⟩
  · have := congrArg List.length p.rs
    simp at this
    omega
  · have : q.cs ∈ R.rs := by rw [← p.rs]; exact List.mem_map.2 ⟨q, hq, rfl⟩
    have := h3 _ this
    omega
theorem owT_nil (B : Nat) (W : World) : OwT B W nilT := ⟨World.ownsRow_nil _ _ _ _, ⟨World.ownsRow_nil _ _ _ _, (fun q h => by cases h), List.Pairwise.nil⟩, Nat.zero_le _, (fun s h => by cases h), Nat.zero_le _, fun q h => by cases h⟩
theorem tabP_own {w0 w w' : World} {t : Tb} {ss : List ByteArray} {rs : List (List Cl)} {k : Int} {u : Tb} (h : TbIs w0 t ss rs) (q : (cutE ss rs k = 0 → PsT w.heap.size w' u ⟨0, 0, ss, rs.take k.toNat⟩) ∧ (cutE ss rs k ≠ 0 → u = nilT)) : OwT w.heap.size w' u := by
  by_cases e : cutE ss rs k = 0
  · have v : validE ss rs = 0 := by
      unfold cutE at e
      split at e
      · omega
      · exact e
    have g := gd_valid v h.wf
    refine owT_of (q.1 e) g.n64 ?_ (fun r hr => ?_)
    · have := g.r4
      simp
      omega
    · rw [g.rw r (List.mem_of_mem_take hr)]; exact g.n64
  · rw [q.2 e]; exact owT_nil _ _
theorem nilT_is (w : World) : TbIs w nilT [] [] := by
  obtain ⟨u, e, q, _⟩ := tabE_nil (ss := []) (rs := []) (E := 1) (w := w) (w' := w) (by omega) (Below.refl _ _)
  injection e with e
  injection e with e
  have : u.an = none ∧ u.ln = 0 ∧ u.cn = 0 ∧ u.ar = none ∧ u.lr = 0 ∧ u.cr = 0 := by
    simp [Tb.val] at e
    obtain ⟨⟨a1, a2, a3⟩, a4, a5, a6⟩ := e
    exact ⟨a1.symm, a2.symm, a3.symm, a4.symm, a5.symm, a6.symm⟩
  exact ⟨⟨rfl, Nat.zero_le _, (fun s h => by cases h), .inl rfl⟩, fun _ => ⟨rfl, rfl⟩, ⟨rfl, Nat.zero_le _, (fun s h => by cases h), .inl rfl⟩, fun _ => ⟨rfl, rfl⟩, rfl, rfl⟩
theorem tabP_is {w w' : World} {ss : List ByteArray} {rs : List (List Cl)} {E : Int} {u : Tb} (q : (E = 0 → PsT w.heap.size w' u ⟨0, 0, ss, rs⟩) ∧ (E ≠ 0 → u = nilT)) : TbIs w' u (if E = 0 then ss else []) (if E = 0 then rs else []) := by
  by_cases e : E = 0
  · rw [if_pos e, if_pos e]; exact (q.1 e).is
  · rw [if_neg e, if_neg e, q.2 e]; exact nilT_is w'
/-- A table that was handed out. -/
def HoE (ss : List ByteArray) (rs : List (List Cl)) (E : Int) (w : World) (e : Ending) (w' : World) : Prop := ∃ u : Tb, e = .returned (.tuple #[u.val, .int .i64 E]) ∧ TbIs w' u ss rs ∧ OwT w.heap.size w' u ∧ Below w.heap.size w w'
set_option maxRecDepth 100000 in
set_option maxHeartbeats 8000000 in
theorem ask_cut (B bk : Nat) (late : Bool) (K : Nat) (ta tb : Tb) (ss : List ByteArray) (ra : List (List Cl)) (na : Option Addr) (nn nc : Nat) (N : Int) (w : World) (h : BkS w B bk late K []) (hA : TbIs w ta ss ra) (hc : ta.lr ≤ ta.cr) (hl : N ≤ 9223372036854775807) (G : Gl B bk w) (hB : B ≤ w.heap.size) (hK : K ≤ 30000000) :
    Calls Tryd.prog 10 #[ta.val, tb.val, .agg #[.int .i64 2, .slice na nn nc, .int .i64 N], .pointer (some ⟨bk, 0, none⟩)] w fun e w' => AskE B bk late K w e w' := by
  obtain ⟨hb0, hce⟩ := askW_all w ta tb 2 na nn nc N
  have CE := Lib.hid hce
  obtain ⟨w1, hw1⟩ : ∃ u, askW w ta tb 2 na nn nc N = u := ⟨_, rfl⟩
  rw [hw1] at hb0 CE
  have B0 := Lib.hid hb0
  have KB := Lib.hid (p := ∀ (W : World), Below w.heap.size w W → Calls Tryd.prog 15 #[ta.val, .int .i64 N] W fun e w' => HoE (if cutE ss ra N = 0 then ss else []) (if cutE ss ra N = 0 then ra.take N.toNat else []) (cutE ss ra N) W e w') (fun W b => (cutP_any ta ss ra N W (hA.later b) hl).mono (fun e w' q => by
    obtain ⟨u, e1, e2, e3⟩ := q
    exact ⟨u, e1, tabP_is e2, tabP_own hA e2, e3⟩))
  have KR := Lib.hid (fun (W : World) (b : Below w.heap.size w W) => rCut_any ta ss ra N W (hA.later b) hc hl)
  unfold TabE at KR
  unfold HoE at KB
  have HS := Lib.hid h
  have GG := Lib.hid (p := ∀ W, Below w.heap.size w W → Gl B bk W ∧ B ≤ W.heap.size) (fun W b => ⟨G.fr (Fr.below b hB), Nat.le_trans hB b.size⟩)
  obtain ⟨E, hE⟩ : ∃ E, cutE ss ra N = E := ⟨_, rfl⟩
  simp only [hE] at KB KR
  generalize (if E = 0 then ss else []) = us at *
  generalize (if E = 0 then ra.take N.toNat else []) = ur at *
  have c1 := CE.out w1 (Below.refl _ _)
  obtain ⟨a0, a1, b0, b1, x0, x1, x2⟩ := c1
  clear h hA hc hb0 hce G hE
  unfold askW at hw1
  obtain ⟨an, ln, cn, tss, ar, lr, cr, trs⟩ := ta
  obtain ⟨bn, mn, dn, uss, br, mr, dr, urs⟩ := tb
  simp only [Tb.val] at *
  subst hw1
  go_enter Tryd.func10, Tryd.ntmps10
  go_wp2_with (first
    | (go_at_call 15; refine (KB.out _ B0.out).mono ?_; rintro e w2 ⟨u, rfl, hI, hO, hb⟩; obtain ⟨ua, ul, uc, uq, va, vl, vc, vq⟩ := u; have I2 := Lib.hid hI; have O2 := Lib.hid hO; have D2 := Lib.hid (hb.trans ((below_al w2 (.cells #[.slice ua ul uc, .slice va vl vc] 25)).mono hb.size)); have E2 := Lib.hid (B0.out.trans (D2.out.mono B0.out.size)); obtain ⟨a0, a1, b0, b1, x0, x1, x2⟩ := CE.out _ D2.out; have HX := Lib.hid (p := ∀ W, Below (w2.alloc (.cells #[.slice ua ul uc, .slice va vl vc] 25)).heap.size (w2.alloc (.cells #[.slice ua ul uc, .slice va vl vc] 25)) W → W.cell? ⟨w2.heap.size, 0, none⟩ = some (.slice ua ul uc) ∧ W.cell? ⟨w2.heap.size, 1, none⟩ = some (.slice va vl vc)) (fun W b => by obtain ⟨q0, q1, _, _⟩ := box_all2 ((b.block _ (by simp)).trans (World.alloc_heap_new w2 _)); exact ⟨q0, q1⟩); clear hI hO hb)
    | (go_at_call 17; refine (KR.out _ E2.out).mono ?_; rintro e w3 ⟨u3, rfl, hI, hb⟩; obtain ⟨ya, yl, yc, yq, za, zl, zc, zq⟩ := u3; have I3 := Lib.hid hI; have D3 := Lib.hid (hb.trans ((below_al w3 (.cells #[.slice ya yl yc, .slice za zl zc] 25)).mono hb.size)); obtain ⟨t0, t1⟩ := HX.out _ D3.out; have E3 := Lib.hid (E2.out.trans (D3.out.mono E2.out.size)); have T3 := Lib.hid (D2.out.trans (D3.out.mono D2.out.size)); have KS := Lib.hid (sameT_any ⟨ua, ul, uc, uq, va, vl, vc, vq⟩ ⟨ya, yl, yc, yq, za, zl, zc, zq⟩ us ur _ (I2.out.later ((below_al w2 (.cells #[.slice ua ul uc, .slice va vl vc] 25)).trans (D3.out.mono (below_al w2 (.cells #[.slice ua ul uc, .slice va vl vc] 25)).size))) (I3.out.later (below_al w3 (.cells #[.slice ya yl yc, .slice za zl zc] 25)))); clear hI hb)
    | (go_at_call 19; refine KS.out.mono ?_; rintro e w4 ⟨rfl, hb⟩; have D4 := Lib.hid (D3.out.trans (hb.mono D3.out.size)); have E4 := Lib.hid (E3.out.trans (hb.mono E3.out.size)); have T4 := Lib.hid (T3.out.trans (hb.mono T3.out.size)); obtain ⟨t2, t3⟩ := HX.out _ D4.out; clear hb))
  have O4 := Lib.hid (O2.out.below ((below_al w2 (.cells #[.slice ua ul uc, .slice va vl vc] 25)).trans (D4.out.mono (below_al w2 (.cells #[.slice ua ul uc, .slice va vl vc] 25)).size)))
  have KW := Lib.hid (table_X B bk late K ua va ul uc vl vc uq vq _ w4 (HS.out.below B0.out) T4.out hK (GG.out _ B0.out).2 O4.out.o1 O4.out.o2 (GG.out _ E4.out).1 O4.out.n O4.out.s O4.out.r O4.out.q)
  have F4 := Lib.hid (Fr.below (bk := bk) E4.out hB)
  go_wp2_with (go_at_call 23; refine KW.out.mono ?_; rintro e w7 ⟨rfl, hS, hF⟩; have S7 := Lib.hid hS; have F7 := Lib.hid (F4.out.trans hF); clear hS hF)
  go_ret
  exact ⟨rfl, S7.out, F7.out⟩
end Go.Proofs.YtglgdfgdfkeogaaDoor

namespace Go.Proofs.YtglgdfgdfkeogaaDoor
open Go.RowKit
set_option linter.unusedVariables false
set_option linter.unusedSimpArgs false

/-- A question. -/
structure Aq where
  kd : Int
  na : Option Addr
  nn : Nat
  nc : Nat
  ns : List ByteArray
  N : Int
instance : Inhabited Aq := ⟨⟨0, none, 0, 0, [], 0⟩⟩
structure AqOk (w : World) (x : Aq) : Prop where
  nl : NL w x.na x.nn x.ns
  n0 : x.na = none → x.nn = 0 ∧ x.nc = 0
  le : x.nn ≤ 1048576
  N : -9223372036854775808 ≤ x.N ∧ x.N ≤ 9223372036854775807
theorem AqOk.later {w w' : World} {x : Aq} (h : AqOk w x) (b : Below w.heap.size w w') : AqOk w' x := ⟨h.nl.later b, h.n0, h.le, h.N⟩
/-- Questions as they lie. -/
def AqL (w : World) (a : Option Addr) (n : Nat) (xs : List Aq) : Prop :=
  xs.length = n ∧ n ≤ 1048576 ∧ (∀ x ∈ xs, AqOk w x) ∧ (n = 0 ∨ ∃ b o, a = some ⟨b, o, none⟩ ∧ b < w.heap.size ∧ ∀ i, i < n → w.cell? ⟨b, o + i * 3, none⟩ = some (.int .i64 (xs.getD i default).kd) ∧ w.cell? ⟨b, o + i * 3 + 1, none⟩ = some (.slice (xs.getD i default).na (xs.getD i default).nn (xs.getD i default).nc) ∧ w.cell? ⟨b, o + i * 3 + 2, none⟩ = some (.int .i64 (xs.getD i default).N))
theorem AqL.at {w w' : World} {a : Option Addr} {n i : Nat} {xs : List Aq} (h : AqL w a n xs) (b : Below w.heap.size w w') (hi : i < n) : ∃ z o x, a = some ⟨z, o, none⟩ ∧ AqOk w' x ∧ w'.cell? ⟨z, o + i * 3, none⟩ = some (.int .i64 x.kd) ∧ w'.cell? ⟨z, o + i * 3 + 1, none⟩ = some (.slice x.na x.nn x.nc) ∧ w'.cell? ⟨z, o + i * 3 + 2, none⟩ = some (.int .i64 x.N) := by
  obtain ⟨h1, h2, h3, h4⟩ := h
  rcases h4 with h4 | ⟨z, o, e, hz, hc⟩
  · omega
  · obtain ⟨c0, c1, c2⟩ := hc i hi
    have hi' : i < xs.length := by omega
    exact ⟨z, o, xs.getD i default, e, (h3 _ (by rw [show xs.getD i default = xs[i] by simp [List.getD, hi']]; exact List.getElem_mem hi')).later b, (b.cell (p := ⟨z, o + i * 3, none⟩) hz).trans c0, (b.cell (p := ⟨z, o + i * 3 + 1, none⟩) hz).trans c1, (b.cell (p := ⟨z, o + i * 3 + 2, none⟩) hz).trans c2⟩
theorem AqL.atAll {w : World} {a : Option Addr} {n i : Nat} {xs : List Aq} (h : AqL w a n xs) (hi : i < n) : ∃ z o x, a = some ⟨z, o, none⟩ ∧ AqOk w x ∧ ∀ w', Below w.heap.size w w' → w'.cell? ⟨z, o + i * 3, none⟩ = some (.int .i64 x.kd) ∧ w'.cell? ⟨z, o + i * 3 + 1, none⟩ = some (.slice x.na x.nn x.nc) ∧ w'.cell? ⟨z, o + i * 3 + 2, none⟩ = some (.int .i64 x.N) := by
  obtain ⟨h1, h2, h3, h4⟩ := h
  rcases h4 with h4 | ⟨z, o, e, hz, hc⟩
  · omega
  · obtain ⟨c0, c1, c2⟩ := hc i hi
    have hi' : i < xs.length := by omega
    exact ⟨z, o, xs.getD i default, e, h3 _ (by rw [show xs.getD i default = xs[i] by simp [List.getD, hi']]; exact List.getElem_mem hi'), fun w' b => ⟨(b.cell (p := ⟨z, o + i * 3, none⟩) hz).trans c0, (b.cell (p := ⟨z, o + i * 3 + 1, none⟩) hz).trans c1, (b.cell (p := ⟨z, o + i * 3 + 2, none⟩) hz).trans c2⟩⟩
/-- What is asked of ask. -/
def AskK (lo hi : Int) : Prop := ∀ (B bk : Nat) (late : Bool) (K : Nat) (ta tb : Tb) (ss tt : List ByteArray) (ra rb : List (List Cl)) (x : Aq) (w : World), lo ≤ x.kd → x.kd ≤ hi → BkS w B bk late K [] → TbIs w ta ss ra → TbIs w tb tt rb → ta.lr ≤ ta.cr → tb.lr ≤ tb.cr → AqOk w x → Gl B bk w → B ≤ w.heap.size → K ≤ 30000000 → ta.ln ≤ 1048576 → tb.ln ≤ 1048576 →
    Calls Tryd.prog 10 #[ta.val, tb.val, .agg #[.int .i64 x.kd, .slice x.na x.nn x.nc, .int .i64 x.N], .pointer (some ⟨bk, 0, none⟩)] w fun e w' => AskE B bk late K w e w'
theorem askK_binds : AskK 1 2 := by
  intro B bk late K ta tb ss tt ra rb x w h1 h2 hS hA hB hca hcb hx G hB2 hK _ _
  rcases (show x.kd = 1 ∨ x.kd = 2 by omega) with e | e
  · rw [e]
    exact ask_bind B bk late K ta tb ss ra x.na x.nn x.nc x.ns x.N w hS hA hx.nl hx.n0 hx.le G hB2 hK
  · rw [e]
    exact ask_cut B bk late K ta tb ss ra x.na x.nn x.nc x.N w hS hA hca hx.N.2 G hB2 hK
/-- A book that is new. -/
def newB (late : Bool) : List Value := List.replicate 11 (.slice none 0 0) ++ [.int .i64 0, .bool late] ++ List.replicate 6 (.slice none 0 0)
theorem bkS_new {w : World} {bk : Nat} {late : Bool} (B : Nat) (h : w.heap[bk]? = some (.cells (newB late).toArray 36)) : BkS w B bk late 0 [] := by
  refine ⟨newB late, ⟨[], [], [], [], [], [], [], [], [], [], [], [], [], [], [], [], []⟩, [], [], [], [], 0, ⟨⟨⟨⟨h, rfl, fun f hf => ?_, ?_, fun p hp => by cases hp⟩, rfl, rfl⟩, List.nodup_nil, ?_⟩, ?_⟩, ?_, fun _ => ⟨rfl, rfl, rfl⟩⟩
  · unfold Bg.fs nats at hf
    simp only [List.map_nil, List.length_nil, List.mem_cons, List.not_mem_nil, or_false] at hf
    rcases hf with e | e | e | e | e | e | e | e | e | e | e | e | e | e | e | e | e <;> subst e <;> exact ⟨World.ownsRow_nil _ _ _ _, by decide, by decide⟩
  · unfold Bg.fs nats newB
    simp [List.getD, Value.ownBlock]
  · exact ⟨rfl, rfl, rfl, rfl, rfl, rfl, rfl, (fun k hk => absurd hk (Nat.not_lt_zero _)), (fun k hk => absurd hk (Nat.not_lt_zero _)), (fun k hk => absurd hk (Nat.not_lt_zero _)), (fun k hk => absurd hk (Nat.not_lt_zero _))⟩
  · exact ⟨rfl, rfl, rfl, rfl, rfl, rfl, (fun k hk => absurd hk (Nat.not_lt_zero _)), (fun k hk => absurd hk (Nat.not_lt_zero _)), (fun k hk => absurd hk (Nat.not_lt_zero _))⟩
  · exact ⟨⟨Int.le_refl _, Int.le_refl _⟩, Nat.le_refl _, Nat.le_refl _, Nat.le_refl _, Nat.le_refl _, Nat.le_refl _, Nat.le_refl _, Nat.le_refl _⟩
theorem Fr.split {B bk : Nat} {w w' : World} (f : Fr B bk w w') (hB : w.heap.size ≤ B) (hb : bk < w.heap.size) : ∃ v, w.grownBy v (some bk) ∧ Below v.heap.size v w' := by
  obtain ⟨o, ho⟩ : ∃ o, w'.heap[bk]? = some o := ⟨_, Array.getElem?_eq_getElem (Nat.lt_of_lt_of_le hb f.size)⟩
  refine ⟨{ w with heap := w.heap.setIfInBounds bk o }, ⟨rfl, rfl, rfl, by simp, fun k hk hr => ?_⟩, ⟨f.os, f.tape, f.out, by simpa using f.size, fun k hk => ?_⟩⟩
  · have : ¬ bk = k := fun e => hr (by rw [e])
    simp [Array.getElem?_setIfInBounds, this]
  · have hk' : k < w.heap.size := by simpa using hk
    simp only [Array.getElem?_setIfInBounds]
    by_cases e : bk = k
    · subst e
      rw [if_pos rfl, if_pos hb]
      exact ho
    · rw [if_neg e]
      exact f.blk k (by omega) (fun z => e z.symm)
theorem Fr.old {B bk s : Nat} {w0 w w' : World} (b : Below s w0 w) (f : Fr B bk w w') (h1 : s ≤ bk) (h2 : s ≤ B) : Below s w0 w' :=
  ⟨f.os.trans b.os, f.tape.trans b.tape, f.out.trans b.output, Nat.le_trans b.size f.size, fun k hk => (f.blk k (by omega) (by omega)).trans (b.block k hk)⟩
/-- A table of own, as it reads. -/
theorem tb_of_own {W : World} {B : Nat} {an b b2 : Option Addr} {ln m c lr m2 c2 : Nat} {ss : List ByteArray} {rs : List Rw} {w0 : World} {ar : Option Addr} (hn : NL w0 an ln ss) (hr : RL w0 ar lr rs) (N : NO W B an (.slice b m c) ln ss) (R : RO W B (.slice b2 m2 c2) lr rs) : ∃ qs, TbIs W ⟨b, m, c, ss, b2, m2, c2, qs⟩ ss (rs.map (·.cs)) ∧ m2 ≤ c2 := by
  obtain ⟨e1, nl⟩ := N.nl hn.1 hn.2.1 hn.2.2.1
  obtain ⟨e2, qs, rl, ec⟩ := ro_rl R (fun r hr' => ⟨(hr.2.2.1 r hr').1.2.2.1, by have := (hr.2.2.1 r hr').1; rw [this.1]; exact this.2.1⟩) hr.1 hr.2.1
  subst e1 e2
  refine ⟨qs, ⟨nl, ?_, rl, ?_, rfl, ec⟩, ?_⟩
  · intro e
    rcases N with ⟨_, h, h0⟩ | ⟨g, c', h, _⟩
    · injection h with _ _ h; exact ⟨h0, h⟩
    · injection h with h; simp only at e; rw [e] at h; cases h
  · intro e
    rcases R with ⟨h, h0⟩ | ⟨g, c', qs', h, _⟩
    · injection h with _ _ h; exact ⟨h0, h⟩
    · injection h with h; simp only at e; rw [e] at h; cases h
  · rcases R with ⟨h, h0⟩ | ⟨g, c', qs', h, hc, _⟩
    · omega
    · injection h with _ _ h; omega
end Go.Proofs.YtglgdfgdfkeogaaDoor

namespace Go.Proofs.YtglgdfgdfkeogaaDoor
open Go.ChangeShapes Go.WideShapes Go.ChangeAt Go.RowKit Go.Deep
set_option linter.unusedVariables false

theorem bulkA_one {H : Type} (d : DataW H) : 1 ≤ Rows.uptoBulk d := by
  cases d with
  | lit l => cases l <;> simp [Rows.uptoBulk]
  | nil => simp [Rows.uptoBulk]
  | ptr d => simp [Rows.uptoBulk]
  | slice elems spare => simp [Rows.uptoBulk]
  | agg parts => simp [Rows.uptoBulk]
  | iface t d => simp [Rows.uptoBulk]
  | map entries => simp [Rows.uptoBulk]
  | held h => simp [Rows.uptoBulk]
theorem bulkA_len {H : Type} (l : List (DataW H)) : l.length ≤ Rows.uptoBulkAll l := by
  induction l with
  | nil => simp [Rows.uptoBulkAll]
  | cons x r ih => have := bulkA_one x; simp only [Rows.uptoBulkAll, List.length_cons]; omega
theorem bulkA_part {H : Type} {d : DataW H} {l : List (DataW H)} (h : d ∈ l) : Rows.uptoBulk d ≤ Rows.uptoBulkAll l := by
  induction l with
  | nil => cases h
  | cons x r ih =>
    simp only [Rows.uptoBulkAll]
    cases List.mem_cons.1 h with
    | inl e => subst e; omega
    | inr e => have := ih e; omega
theorem lit_in {v : Int} (h : (Lit.int .i64 v).wf = true) : -9223372036854775808 ≤ v ∧ v ≤ 9223372036854775807 := by
  simp [Lit.wf, IntKind.min, IntKind.max, IntKind.bits, IntKind.signed] at h
  omega
section
variable {H : Type} {enc : TypeId × Value → H} {P : Program} {W : World} {base : Nat} {sp : Nat → Bool} {held : Bool}

theorem open_ask {t e L s : TypeId} {fs : Array Field} {fuel : Nat} {cs : List Value} {x : DataW H × List MemPlace}
    (ht : P.underlying t = some (.struct fs)) (hfs : fs.toList.map (fun f => (f.type, f.offset)) = [(e, 0), (L, 1), (e, 2)]) (he : P.underlying e = some (.int .i64)) (hL : P.underlying L = some (.slice s)) (hs : P.underlying s = some .string) (hce : P.cellsOf e = 1) (hcL : P.cellsOf L = 1) (hct : P.cellsOf t = 3) (hcs : P.cellsOf s = 1) (hbs : P.bytesOf s = 16)
    (h : DataW.trod enc P W base sp held fuel t cs = some x) (hz : ∀ n ∈ x.1.weights P t, n ≤ reachBytes) (hk : Rows.uptoBulk x.1 ≤ 1048576) : ∃ q : Aq, cs = [.int .i64 q.kd, .slice q.na q.nn q.nc, .int .i64 q.N] ∧ AqOk W q := by
  obtain ⟨xs, n, _, hd, hl, hlen, hfld⟩ := DataW.trod_struct ht h
  rw [hct] at hl
  obtain ⟨c0, c1, c2, rfl⟩ : ∃ a b c, cs = [a, b, c] := by
    match cs, hl with
    | [a, b, c], _ => exact ⟨a, b, c, rfl⟩
  have h3 : fs.size = 3 := by have := congrArg List.length hfs; simpa using this
  have fat : ∀ i (hi : i < 3), ∃ f, fs[i]? = some f ∧ (f.type, f.offset) = [(e, 0), (L, 1), (e, 2)][i] := fun i hi => by
    refine ⟨fs[i]'(by omega), by simp [show i < fs.size by omega], ?_⟩
    have : (fs.toList.map (fun f => (f.type, f.offset)))[i]? = [(e, 0), (L, 1), (e, 2)][i]? := by rw [hfs]
    simpa [show i < fs.size by omega, hi] using this
  have ex : ∀ i, i < 3 → ∃ y, xs[i]? = some y := fun i hi => ⟨xs[i]'(by omega), by simp [show i < xs.length by omega]⟩
  obtain ⟨f0, g0, e0⟩ := fat 0 (by omega)
  obtain ⟨f1, g1, e1⟩ := fat 1 (by omega)
  obtain ⟨f2, g2, e2⟩ := fat 2 (by omega)
  obtain ⟨y0, q0⟩ := ex 0 (by omega)
  obtain ⟨y1, q1⟩ := ex 1 (by omega)
  obtain ⟨y2, q2⟩ := ex 2 (by omega)
  have k0 := hfld 0 f0 g0
  have k1 := hfld 1 f1 g1
  have k2 := hfld 2 f2 g2
  simp only [List.getElem_cons_zero, List.getElem_cons_succ, Prod.mk.injEq] at e0 e1 e2
  rw [q0, e0.1, e0.2, hce] at k0
  rw [q1, e1.1, e1.2, hcL] at k1
  rw [q2, e2.1, e2.2, hce] at k2
  simp at k0 k1 k2
  have hd1 : x.1 = .agg (xs.map (·.1)) := by have := congrArg Prod.fst hd; simpa using this
  have tys : fs.toList.map (·.type) = [e, L, e] := by
    have := congrArg (List.map Prod.fst) hfs
    simpa [List.map_map, Function.comp_def] using this
  have wz : ∀ n ∈ DataW.weightsEach P [e, L, e] (xs.map (·.1)), n ≤ reachBytes := fun n hn => hz n (by rw [hd1]; simp only [DataW.weights, ht, tys]; exact hn)
  have z1 : ∀ n ∈ y1.1.weights P L, n ≤ reachBytes := fun n hn => wz n (DataW.weights_mem_each (j := 1) rfl (by simp [q1]) n hn)
  obtain ⟨v0, r0, _, w0⟩ := DataW.trod_int he k0
  obtain ⟨v2, r2, _, w2⟩ := DataW.trod_int he k2
  simp at r0 r2
  obtain ⟨na, nn, nc, rfl⟩ := slice_form hL k1
  obtain ⟨ns, p1, p2, p3, p4⟩ := open_names hL hs hcs hbs k1 z1
  subst r0 r2
  refine ⟨⟨v0, na, nn, nc, ns, v2⟩, rfl, p1, p2, ?_, lit_in w2⟩
  have b1 : Rows.uptoBulk y1.1 ≤ Rows.uptoBulkAll (xs.map (·.1)) := bulkA_part (List.mem_map.2 ⟨y1, by
    have hi : 1 < xs.length := by omega
    have : xs[1] = y1 := by simpa [hi] using q1
    rw [← this]
    exact List.getElem_mem hi, rfl⟩)
  rw [hd1] at hk
  simp only [Rows.uptoBulk] at hk
  show nn ≤ 1048576
  rcases open_slice hL k1 with ⟨h0, _⟩ | ⟨y, l, c, m, n', D, Pl, h0, hbb, hl', hm, hmm, xe, hx⟩
  · simp at h0; omega
  · simp at h0
    obtain ⟨rfl, rfl, rfl⟩ := h0
    rw [xe] at b1
    simp only [Rows.uptoBulk] at b1
    have := bulkA_len ((List.range nn).map D)
    simp only [List.length_map, List.length_range] at this
    omega
theorem open_asks {T t e L s : TypeId} {fs : Array Field} {fuel : Nat} {a : Option Addr} {len cap : Nat} {x : DataW H × List MemPlace}
    (hT : P.underlying T = some (.slice t)) (ht : P.underlying t = some (.struct fs)) (hfs : fs.toList.map (fun f => (f.type, f.offset)) = [(e, 0), (L, 1), (e, 2)]) (he : P.underlying e = some (.int .i64)) (hL : P.underlying L = some (.slice s)) (hs : P.underlying s = some .string) (hce : P.cellsOf e = 1) (hcL : P.cellsOf L = 1) (hct : P.cellsOf t = 3) (hcs : P.cellsOf s = 1) (hbs : P.bytesOf s = 16)
    (h : DataW.trod enc P W base sp held fuel T [.slice a len cap] = some x) (hz : ∀ n ∈ x.1.weights P T, n ≤ reachBytes) (hk : Rows.uptoBulk x.1 ≤ 1048576) : ∃ xs, AqL W a len xs := by
  rcases open_slice hT h with ⟨h0, _⟩ | ⟨y, l, c, m, n, D, Pl, h0, hbb, hl, hm, hmm, xe, hx⟩
  · simp at h0
    obtain ⟨rfl, rfl, rfl⟩ := h0
    exact ⟨[], rfl, by omega, (fun c hc => by cases hc), .inl rfl⟩
  · simp at h0
    obtain ⟨rfl, rfl, rfl⟩ := h0
    have hlm : len ≤ m := by rw [hmm]; split <;> omega
    rw [xe] at hk
    simp only [Rows.uptoBulk] at hk
    have lb := bulkA_len ((List.range len).map D)
    simp only [List.length_map, List.length_range] at lb
    obtain ⟨F, hF⟩ := choose_lt (α := Aq) (n := len) (p := fun i q => AqOk W q ∧ W.cell? (y.add (i * 3)) = some (.int .i64 q.kd) ∧ W.cell? (y.add (i * 3 + 1)) = some (.slice q.na q.nn q.nc) ∧ W.cell? (y.add (i * 3 + 2)) = some (.int .i64 q.N)) (fun i hi => by
      obtain ⟨cs', h1, h2⟩ := hx i (by omega)
      rw [hct] at h1
      obtain ⟨_, _, h3⟩ := World.cells?_some h1
      obtain ⟨q, rfl, w⟩ := open_ask ht hfs he hL hs hce hcL hct hcs hbs h2 (fun n hn => hz n (by
        rw [xe]
        simp only [DataW.weights, hT, List.mem_cons, List.mem_append]
        exact .inr (.inl (weights_all (d := D i) (List.mem_map.2 ⟨i, by simpa using hi, rfl⟩) _ hn)))) (by
        have := bulkA_part (d := D i) (l := (List.range len).map D) (List.mem_map.2 ⟨i, by simpa using hi, rfl⟩)
        show Rows.uptoBulk (D i) ≤ 1048576
        omega)
      have a0 := h3 0 (by omega)
      have a1 := h3 1 (by omega)
      have a2 := h3 2 (by omega)
      rw [addT_add] at a0 a1 a2
      exact ⟨q, w, a0, a1, a2⟩)
    have g : ∀ i, i < len → ((List.range len).map F).getD i default = F i := fun i hi => by simp [hi]
    refine ⟨(List.range len).map F, by simp, by omega, ?_, ?_⟩
    · intro f hf
      simp at hf
      obtain ⟨i, hi, rfl⟩ := hf
      exact (hF i hi).1
    · by_cases h0 : len = 0
      · exact .inl h0
      · have h00 := (hF 0 (by omega)).2.1
        have e0 : y.add (0 * 3) = y := by simp [Addr.add]
        rw [e0] at h00
        obtain ⟨b, o, rfl, hlt⟩ := addr_of h00
        refine .inr ⟨b, o, rfl, hlt, fun i hi => ?_⟩
        rw [g i hi]
        have := (hF i hi).2
        rw [Go.Addr.add_lit, Go.Addr.add_lit, Go.Addr.add_lit] at this
        exact this
end
end Go.Proofs.YtglgdfgdfkeogaaDoor

namespace Go.Proofs.YtglgdfgdfkeogaaDoor
open Go.RowKit
set_option linter.unusedVariables false
set_option linter.unusedSimpArgs false

/-- What stays while questions are asked. -/
structure PsI (W : World) (A X2 X3 : Nat) (Bx By : Nat) (ta tb : Tb) (xa xb : Option Addr) (xm xc xn xd : Nat) (ya yb : Option Addr) (ym yc yn yd : Nat) (w0 : World) : Prop where
  a0 : W.cell? ⟨A, 0, none⟩ = some (.slice ta.an ta.ln ta.cn)
  a1 : W.cell? ⟨A, 1, none⟩ = some (.slice ta.ar ta.lr ta.cr)
  b0 : W.cell? ⟨A + 1, 0, none⟩ = some (.slice tb.an tb.ln tb.cn)
  b1 : W.cell? ⟨A + 1, 1, none⟩ = some (.slice tb.ar tb.lr tb.cr)
  x0 : W.cell? ⟨X2, 0, none⟩ = some (.slice xa xm xc)
  x1 : W.cell? ⟨X2, 1, none⟩ = some (.slice xb xn xd)
  y0 : W.cell? ⟨X3, 0, none⟩ = some (.slice ya ym yc)
  y1 : W.cell? ⟨X3, 1, none⟩ = some (.slice yb yn yd)
  xN : NO W Bx ta.an (.slice xa xm xc) ta.ln ta.ss
  xR : RO W Bx (.slice xb xn xd) ta.lr ta.rs
  yN : NO W By tb.an (.slice ya ym yc) tb.ln tb.ss
  yR : RO W By (.slice yb yn yd) tb.lr tb.rs
  old : Below w0.heap.size w0 W
theorem psI_go {W0 W : World} {B bk A X2 X3 Bx By : Nat} {ta tb : Tb} {xa xb : Option Addr} {xm xc xn xd : Nat} {ya yb : Option Addr} {ym yc yn yd : Nat} {w0 : World} (h : PsI W0 A X2 X3 Bx By ta tb xa xb xm xc xn xd ya yb ym yc yn yd w0) (f : Fr B bk W0 W) (hB : W0.heap.size = B) (h1 : w0.heap.size ≤ bk) (h2 : bk < A) (h3 : A + 1 < B) (h4 : bk < X2 ∧ X2 < B) (h5 : bk < X3 ∧ X3 < B) (h6 : bk < Bx) (h7 : bk < By) : PsI W A X2 X3 Bx By ta tb xa xb xm xc xn xd ya yb ym yc yn yd w0 := by
  have cl : ∀ z o, z < B → bk < z → ∀ v, W0.cell? ⟨z, o, none⟩ = some v → W.cell? ⟨z, o, none⟩ = some v := fun z o hz hb v e => by
    have := f.blk z hz (by omega)
    unfold World.cell? at e ⊢
    rw [this]
    exact e
  obtain ⟨v, g, b⟩ := f.split (by omega) (by omega)
  exact ⟨cl _ _ (by omega) (by omega) _ h.a0, cl _ _ (by omega) (by omega) _ h.a1, cl _ _ (by omega) (by omega) _ h.b0, cl _ _ (by omega) (by omega) _ h.b1, cl _ _ h4.2 h4.1 _ h.x0, cl _ _ h4.2 h4.1 _ h.x1, cl _ _ h5.2 h5.1 _ h.y0, cl _ _ h5.2 h5.1 _ h.y1, (h.xN.kept g h6).later b, (h.xR.kept g h6).later b, (h.yN.kept g h7).later b, (h.yR.kept g h7).later b, Fr.old h.old f h1 (by omega)⟩
set_option maxRecDepth 100000 in
set_option maxHeartbeats 8000000 in
theorem pass_any (lo hi : Int) (KA : AskK lo hi) (ta tb : Tb) (sa : Option Addr) (sl sc : Nat) (xs : List Aq) (late : Bool) (bk : Nat) (w0 w : World) (b : Below w0.heap.size w0 w) (hbk : w0.heap.size ≤ bk) (hn : w.heap[bk]? = some (.cells (newB late).toArray 36)) (hA : TbOk w0 ta) (hB : TbOk w0 tb) (hS : AqL w0 sa sl xs) (bh : Bh w0) (ot : Ot w0) (ho : 1 < w0.heap.size) (sm1 : ta.ln ≤ 1048576) (sm2 : tb.ln ≤ 1048576) :
    Calls Tryd.prog 7 #[ta.val, tb.val, .slice sa sl sc, .int .i64 lo, .int .i64 hi, .pointer (some ⟨bk, 0, none⟩)] w fun e w' => e = .returned (.bool true) ∧ Below w0.heap.size w0 w' := by
  have bkl := blk_lt hn
  have OTB := Lib.hid (p := ∀ W, Below w0.heap.size w0 W → Ot W ∧ Bh W) (fun W q => ⟨⟨(q.cell (p := ⟨1, 0, none⟩) ho).trans ot.1, (q.cell (p := ⟨1, 1, none⟩) ho).trans ot.2⟩, bh.later q⟩)
  have KOA := Lib.hid (fun (W : World) (q : Below w0.heap.size w0 W) => own_any ta.an ta.ar ta.ln ta.cn ta.lr ta.cr ta.ss ta.rs W (hA.nl.later q) (hA.rl.later q) hA.nn hA.rn (bh.later q))
  have KOB := Lib.hid (fun (W : World) (q : Below w0.heap.size w0 W) => own_any tb.an tb.ar tb.ln tb.cn tb.lr tb.cr tb.ss tb.rs W (hB.nl.later q) (hB.rl.later q) hB.nn hB.rn (bh.later q))
  have KIA := Lib.hid (fun (W : World) (q : Below w0.heap.size w0 W) (Bx : Nat) (x y : Option Addr) (m c n d : Nat) (hN : NO W Bx ta.an (.slice x m c) ta.ln ta.ss) (hR : RO W Bx (.slice y n d) ta.lr ta.rs) => intact_any Bx ta.an ta.ar x y ta.ln ta.cn ta.lr ta.cr m c n d ta.ss ta.rs W (hA.nl.later q) (hA.rl.later q) hA.nn (bh.later q) hN hR)
  have KIB := Lib.hid (fun (W : World) (q : Below w0.heap.size w0 W) (Bx : Nat) (x y : Option Addr) (m c n d : Nat) (hN : NO W Bx tb.an (.slice x m c) tb.ln tb.ss) (hR : RO W Bx (.slice y n d) tb.lr tb.rs) => intact_any Bx tb.an tb.ar x y tb.ln tb.cn tb.lr tb.cr m c n d tb.ss tb.rs W (hB.nl.later q) (hB.rl.later q) hB.nn (bh.later q) hN hR)
  have TBA := Lib.hid (fun (W : World) (Bx : Nat) (x y : Option Addr) (m c n d : Nat) (hN : NO W Bx ta.an (.slice x m c) ta.ln ta.ss) (hR : RO W Bx (.slice y n d) ta.lr ta.rs) => tb_of_own hA.nl hA.rl hN hR)
  have TBB := Lib.hid (fun (W : World) (Bx : Nat) (x y : Option Addr) (m c n d : Nat) (hN : NO W Bx tb.an (.slice x m c) tb.ln tb.ss) (hR : RO W Bx (.slice y n d) tb.lr tb.rs) => tb_of_own hB.nl hB.rl hN hR)
  have NLA := Lib.hid (p := ∀ (W : World) (B : Nat) (x : Option Addr) (m c : Nat), NO W B ta.an (.slice x m c) ta.ln ta.ss → m ≤ 1048576) (fun W B x m c q => by rw [(q.nl hA.nl.1 hA.nl.2.1 hA.nl.2.2.1).1]; exact sm1)
  have NLB := Lib.hid (p := ∀ (W : World) (B : Nat) (x : Option Addr) (m c : Nat), NO W B tb.an (.slice x m c) tb.ln tb.ss → m ≤ 1048576) (fun W B x m c q => by rw [(q.nl hB.nl.1 hB.nl.2.1 hB.nl.2.2.1).1]; exact sm2)
  have SCR := Lib.hid hS
  have HN := Lib.hid hn
  have sll : sl ≤ 1048576 := hS.2.1
  have KAA := Lib.hid KA
  obtain ⟨an, ln, cn, tss, ar, lr, cr, trs⟩ := ta
  obtain ⟨bn, mn, dn, uss, br, mr, dr, urs⟩ := tb
  have B1 := Lib.hid (two_boxes w (.slice an ln cn) (.slice ar lr cr) (.slice bn mn dn) (.slice br mr dr) 25)
  have C1 := Lib.hid (p := Below w0.heap.size w0 ((w.alloc (.cells #[.slice an ln cn, .slice ar lr cr] 25)).alloc (.cells #[.slice bn mn dn, .slice br mr dr] 25))) (b.trans (B1.out.mono b.size))
  have CE := Lib.hid (fun W (q : Below ((w.alloc (.cells #[.slice an ln cn, .slice ar lr cr] 25)).alloc (.cells #[.slice bn mn dn, .slice br mr dr] 25)).heap.size ((w.alloc (.cells #[.slice an ln cn, .slice ar lr cr] 25)).alloc (.cells #[.slice bn mn dn, .slice br mr dr] 25)) W) => two_cells q)
  obtain ⟨q0, q1⟩ := CE.out _ (Below.refl _ _)
  obtain ⟨a0, a1, _, _⟩ := box_all2 q0
  obtain ⟨b0, b1, _, _⟩ := box_all2 q1
  have BB := Lib.hid b
  clear b hn hA hB hS bh ot KA q0 q1
  simp only [Tb.val] at *
  go_enter Tryd.func7, Tryd.ntmps7
  go_upto_region 2 with (go_at_call 9; refine (KOA.out _ C1.out).mono ?_; rintro e w2 ⟨xa, xm, xc, v2, rfl, hNO, hRO, hb⟩; obtain ⟨xb, xn, xd, hv2, _⟩ := ro_hd hRO; subst hv2; have N2 := Lib.hid hNO; have R2 := Lib.hid hRO; have D2 := Lib.hid (hb.trans ((below_al w2 (.cells #[.slice xa xm xc, .slice xb xn xd] 25)).mono hb.size)); have S2 := Lib.hid hb.size; have A2 := Lib.hid (below_al w2 (.cells #[.slice xa xm xc, .slice xb xn xd] 25)); have C2 := Lib.hid (C1.out.trans (D2.out.mono C1.out.size)); obtain ⟨q0, q1⟩ := CE.out _ D2.out; obtain ⟨a2, a3, _, _⟩ := box_all2 q0; obtain ⟨b2, b3, _, _⟩ := box_all2 q1; clear hNO hRO hb q0 q1)
  go_upto_region 3 with (go_at_call 9; refine (KOB.out _ C2.out).mono ?_; rintro e w3 ⟨ya, ym, yc, v3, rfl, hNO, hRO, hb⟩; obtain ⟨yb, yn, yd, hv3, _⟩ := ro_hd hRO; subst hv3; have N3 := Lib.hid hNO; have R3 := Lib.hid hRO; have D3 := Lib.hid (hb.trans ((below_al w3 (.cells #[.slice ya ym yc, .slice yb yn yd] 25)).mono hb.size)); have S3 := Lib.hid hb.size; have A3 := Lib.hid (below_al w3 (.cells #[.slice ya ym yc, .slice yb yn yd] 25)); clear hNO hRO hb)
  have P0 := Lib.hid (p := PsI (w3.alloc (.cells #[.slice ya ym yc, .slice yb yn yd] 25)) w.heap.size w2.heap.size w3.heap.size ((w.alloc (.cells #[.slice an ln cn, .slice ar lr cr] 25)).alloc (.cells #[.slice bn mn dn, .slice br mr dr] 25)).heap.size (w2.alloc (.cells #[.slice xa xm xc, .slice xb xn xd] 25)).heap.size ⟨an, ln, cn, tss, ar, lr, cr, trs⟩ ⟨bn, mn, dn, uss, br, mr, dr, urs⟩ xa xb xm xc xn xd ya yb ym yc yn yd w0) (by
    have DD := D2.out.trans (D3.out.mono D2.out.size)
    obtain ⟨q0, q1⟩ := CE.out _ DD
    obtain ⟨c0, c1, _, _⟩ := box_all2 q0
    obtain ⟨c2, c3, _, _⟩ := box_all2 q1
    obtain ⟨c4, c5, _, _⟩ := box_all2 ((D3.out.block _ (by simp)).trans (World.alloc_heap_new w2 (.cells #[.slice xa xm xc, .slice xb xn xd] 25)))
    obtain ⟨c6, c7, _, _⟩ := box_all2 (World.alloc_heap_new w3 (.cells #[.slice ya ym yc, .slice yb yn yd] 25))
    exact ⟨c0, c1, c2, c3, c4, c5, c6, c7, (N2.out.later A2.out).later D3.out, (R2.out.later A2.out).later D3.out, N3.out.later A3.out, R3.out.later A3.out, C2.out.trans (D3.out.mono C2.out.size)⟩)
  have s2 : (w.heap.size + 1 + 1 ≤ w2.heap.size) ∧ w2.heap.size + 1 ≤ w3.heap.size := by
    have e1 := S2.out
    have e2 := S3.out
    simp only [World.size_alloc] at e1 e2
    exact ⟨e1, e2⟩
  have SZ := Lib.hid s2
  have NB := Lib.hid (p := (w3.alloc (.cells #[.slice ya ym yc, .slice yb yn yd] 25)).heap[bk]? = some (.cells (newB late).toArray 36)) (by
    have DD := B1.out.trans ((D2.out.trans (D3.out.mono D2.out.size)).mono B1.out.size)
    exact (DD.block bk bkl).trans HN.out)
  have SW : (w3.alloc (.cells #[.slice ya ym yc, .slice yb yn yd] 25)).heap.size = w3.heap.size + 1 := World.size_alloc _ _
  have SX : ((w.alloc (.cells #[.slice an ln cn, .slice ar lr cr] 25)).alloc (.cells #[.slice bn mn dn, .slice br mr dr] 25)).heap.size = w.heap.size + 1 + 1 := by simp only [World.size_alloc]
  have SY : (w2.alloc (.cells #[.slice xa xm xc, .slice xb xn xd] 25)).heap.size = w2.heap.size + 1 := World.size_alloc _ _
  rw [SX, SY] at P0
  obtain ⟨W0, hW0⟩ : ∃ u, w3.alloc (.cells #[.slice ya ym yc, .slice yb yn yd] 25) = u := ⟨_, rfl⟩
  rw [hW0] at P0 NB SW
  rw [hW0]
  have c12 : W0.cell? ⟨bk, 12, none⟩ = some (.bool late) := by rw [Joins.cell_of_block NB.out]; simp [newB]
  have BK0 := Lib.hid (bkS_new W0.heap.size NB.out)
  have PG := Lib.hid (p := ∀ W, Fr W0.heap.size bk W0 W → PsI W w.heap.size w2.heap.size w3.heap.size (w.heap.size + 1 + 1) (w2.heap.size + 1) ⟨an, ln, cn, tss, ar, lr, cr, trs⟩ ⟨bn, mn, dn, uss, br, mr, dr, urs⟩ xa xb xm xc xn xd ya yb ym yc yn yd w0 ∧ Gl W0.heap.size bk W ∧ W0.heap.size ≤ W.heap.size) (fun W f => by
    have p := psI_go P0.out f rfl hbk (by omega) (by omega) ⟨by omega, by omega⟩ ⟨by omega, by omega⟩ (by omega) (by omega)
    exact ⟨p, ⟨(OTB.out W p.old).1, ⟨by have := P0.out.old.size; omega, by omega⟩⟩, f.size⟩)
  clear KOA KOB C1 CE B1 D2 D3 A2 A3 C2 N2 R2 N3 R3 S2 S3 SZ P0 NB HN a0 a1 a2 a3 b0 b1 b2 b3 hW0 SX SY
  go_wp2
  clear c12
  go_loopw [16] (fun t ws => ∃ i : Nat, i ≤ sl ∧ t = .int .i64 (i : Int) ∧ RowKit.Hid (BkS ws W0.heap.size bk late (4 * i) [] ∧ Fr W0.heap.size bk W0 ws)) (fun t _ => sl - (intOf t).toNat)
  case atStart => exact ⟨0, Nat.zero_le _, rfl, BK0.out, Fr.refl _ _ _⟩
  case round =>
    obtain ⟨i, hil, rfl, hQ⟩ := hrel
    rename World => ws
    have KS := Lib.hid hQ.out.1
    have FS := Lib.hid hQ.out.2
    clear hQ
    obtain ⟨ps, gs, bs⟩ := PG.out ws FS.out
    by_cases hlt : i < sl
    · have kc : (i : Int) < (sl : Int) := by omega
      have kw : IntKind.i64.wrap ((i : Int) + 1) = (i : Int) + 1 := by simp [IntKind.wrap, IntKind.bits, IntKind.signed]; omega
      obtain ⟨z, o, x, rfl, ax0, DX0⟩ := SCR.out.atAll hlt
      obtain ⟨d0, d1, d2⟩ := DX0 ws ps.old
      obtain ⟨a0, a1, b0, b1, x0, x1, y0, y1, xN, xR, yN, yR, old⟩ := ps
      obtain ⟨kd, na, nn, nc, ns, N⟩ := x
      simp only at d0 d1 d2
      have AX := Lib.hid (p := ∀ W, Below w0.heap.size w0 W → AqOk W ⟨kd, na, nn, nc, ns, N⟩) (fun W q => ax0.later q)
      have DX := Lib.hid (p := ∀ W, Below w0.heap.size w0 W → W.cell? ⟨z, o + i * 3, none⟩ = some (.int .i64 kd) ∧ W.cell? ⟨z, o + i * 3 + 1, none⟩ = some (.slice na nn nc) ∧ W.cell? ⟨z, o + i * 3 + 2, none⟩ = some (.int .i64 N)) DX0
      clear ax0 DX0
      by_cases hk : kd < lo ∨ hi < kd
      · have NX := Lib.hid (p := BkS ws W0.heap.size bk late (4 * (i + 1)) []) (KS.out.mono (by omega))
        by_cases k1 : kd < lo
        · go_wp2
          go_roundw
          case rel => exact ⟨i + 1, by omega, by go_num, NX.out, FS.out⟩
          case measure => simp [intOf]; omega
        · have k2 : hi < kd := by omega
          go_wp2
          go_roundw
          case rel => exact ⟨i + 1, by omega, by go_num, NX.out, FS.out⟩
          case measure => simp [intOf]; omega
      · have k1 : ¬ kd < lo := fun q => hk (.inl q)
        have k2 : ¬ hi < kd := fun q => hk (.inr q)
        have KQ := Lib.hid (p := ∀ (k : Nat) (W : World), k ≤ 30000000 → BkS W W0.heap.size bk late k [] → Fr W0.heap.size bk W0 W → Calls Tryd.prog 10 #[.agg #[.slice xa xm xc, .slice xb xn xd], .agg #[.slice ya ym yc, .slice yb yn yd], .agg #[.int .i64 kd, .slice na nn nc, .int .i64 N], .pointer (some ⟨bk, 0, none⟩)] W fun e w' => AskE W0.heap.size bk late k W e w') (fun k W hk hS fW => by
          obtain ⟨pW, gW, bW⟩ := PG.out W fW
          obtain ⟨qa, ia, ca⟩ := TBA.out W _ _ _ _ _ _ _ pW.xN pW.xR
          obtain ⟨qb, ib, cb⟩ := TBB.out W _ _ _ _ _ _ _ pW.yN pW.yR
          exact KAA.out W0.heap.size bk late k ⟨xa, xm, xc, tss, xb, xn, xd, qa⟩ ⟨ya, ym, yc, uss, yb, yn, yd, qb⟩ _ _ _ _ ⟨kd, na, nn, nc, ns, N⟩ W (by simp only; omega) (by simp only; omega) hS ia ib ca cb (AX.out W pW.old) gW bW hk (NLA.out _ _ _ _ _ pW.xN) (NLB.out _ _ _ _ _ pW.yN))
        have SB := Lib.hid (p := ∀ W, Fr W0.heap.size bk W0 W → W.cell? ⟨w2.heap.size, 0, none⟩ = some (.slice xa xm xc) ∧ W.cell? ⟨w2.heap.size, 1, none⟩ = some (.slice xb xn xd) ∧ W.cell? ⟨w3.heap.size, 0, none⟩ = some (.slice ya ym yc) ∧ W.cell? ⟨w3.heap.size, 1, none⟩ = some (.slice yb yn yd) ∧ W.cell? ⟨z, o + i * 3, none⟩ = some (.int .i64 kd) ∧ W.cell? ⟨z, o + i * 3 + 1, none⟩ = some (.slice na nn nc) ∧ W.cell? ⟨z, o + i * 3 + 2, none⟩ = some (.int .i64 N)) (fun W fW => by
          obtain ⟨pW, _, _⟩ := PG.out W fW
          exact ⟨pW.x0, pW.x1, pW.y0, pW.y1, DX.out W pW.old⟩)
        clear hk
        go_upto_region 8 with fail
        have FD := Lib.hid (FS.out.trans (Fr.below (bk := bk) (Below.refl _ ws).drew bs))
        have KD := Lib.hid (KQ.out (4 * i) ws.drew (by omega) (KS.out.below (Below.refl _ ws).drew) FD.out)
        go_region_held3 (fun w' => w'.cell? ⟨w2.heap.size, 0, none⟩ = some (.slice xa xm xc) ∧ w'.cell? ⟨w2.heap.size, 1, none⟩ = some (.slice xb xn xd) ∧ w'.cell? ⟨w3.heap.size, 0, none⟩ = some (.slice ya ym yc) ∧ w'.cell? ⟨w3.heap.size, 1, none⟩ = some (.slice yb yn yd) ∧ w'.cell? ⟨z, o + i * 3, none⟩ = some (.int .i64 kd) ∧ w'.cell? ⟨z, o + i * 3 + 1, none⟩ = some (.slice na nn nc) ∧ w'.cell? ⟨z, o + i * 3 + 2, none⟩ = some (.int .i64 N)) (first | exact ⟨x0, x1, y0, y1, d0, d1, d2⟩ | exact SB.out _ F4.out) (first | (go_at_call 10; refine KD.out.mono ?_; rintro e w4 ⟨rfl, hS, hF⟩; have S4 := Lib.hid hS; have F4 := Lib.hid (FD.out.trans hF); clear hS hF))
        go_upto_if 60 with fail
        go_cut [17] (fun v wx => v = .bool true ∧ RowKit.Hid (BkS wx W0.heap.size bk late (4 * i + 4) [] ∧ Fr W0.heap.size bk W0 wx))
        case first =>
          cases late with
          | false =>
            go_wp2
            go_meet
            case rel => exact ⟨rfl, S4.out.mono (by omega), F4.out⟩
          | true =>
            go_upto_region 10 with fail
            obtain ⟨u0, u1, u2, u3, u4, u5, u6⟩ := SB.out _ F4.out
            have FE := Lib.hid (F4.out.trans (Fr.below (bk := bk) (Below.refl _ w4).drew (PG.out _ F4.out).2.2))
            have KE := Lib.hid (KQ.out (4 * i + 2) w4.drew (by omega) (S4.out.below (Below.refl _ w4).drew) FE.out)
            go_region_held3 (fun w' => w'.cell? ⟨w2.heap.size, 0, none⟩ = some (.slice xa xm xc) ∧ w'.cell? ⟨w2.heap.size, 1, none⟩ = some (.slice xb xn xd) ∧ w'.cell? ⟨w3.heap.size, 0, none⟩ = some (.slice ya ym yc) ∧ w'.cell? ⟨w3.heap.size, 1, none⟩ = some (.slice yb yn yd) ∧ w'.cell? ⟨z, o + i * 3, none⟩ = some (.int .i64 kd) ∧ w'.cell? ⟨z, o + i * 3 + 1, none⟩ = some (.slice na nn nc) ∧ w'.cell? ⟨z, o + i * 3 + 2, none⟩ = some (.int .i64 N)) (first | exact ⟨u0, u1, u2, u3, u4, u5, u6⟩ | exact SB.out _ F5.out) (first | (go_at_call 10; refine KE.out.mono ?_; rintro e w5 ⟨rfl, hS, hF⟩; have S5 := Lib.hid hS; have F5 := Lib.hid (FE.out.trans hF); clear hS hF))
            go_wp2
            go_meet
            case rel => exact ⟨rfl, S5.out.mono (by omega), F5.out⟩
        case rest =>
          as_aux_lemma =>
            obtain ⟨rfl, hD⟩ := hcut
            rename World => wc
            have S6 := Lib.hid hD.out.1
            have F6 := Lib.hid hD.out.2
            clear hD S4 F4
            obtain ⟨p6, g6, b6⟩ := PG.out _ F6.out
            have P6 := Lib.hid p6
            obtain ⟨e0, e1, e2, e3, e4, e5, e6, e7, _, _, _, _, _⟩ := p6
            have KI1 := Lib.hid (KIA.out wc P6.out.old _ _ _ _ _ _ _ P6.out.xN P6.out.xR)
            clear x0 x1 y0 y1 d0 d1 d2 a0 a1 b0 b1
            go_wp2_with (first
              | (go_at_call 11; have mk1 := KI1; refine KI1.out.mono ?_; rintro e w7 ⟨rfl, hb⟩; have F7 := Lib.hid (F6.out.trans (Fr.below (bk := bk) hb b6)); have S7 := Lib.hid (S6.out.below hb); obtain ⟨p7, g7, b7⟩ := PG.out _ F7.out; have KI2 := Lib.hid (KIB.out w7 p7.old _ _ _ _ _ _ _ p7.yN p7.yR); obtain ⟨h0, h1, h2, h3, h4, h5, h6, h7, _, _, _, _, _⟩ := p7; clear KI1 mk1 hb)
              | (go_at_call 11; refine KI2.out.mono ?_; rintro e w8 ⟨rfl, hb⟩; have F8 := Lib.hid (F7.out.trans (Fr.below (bk := bk) hb b7)); have S8 := Lib.hid (S7.out.below hb); have KK := Lib.hid (kept_S W0.heap.size bk late (4 * i + 4) [] w8 S8.out (by omega) (PG.out _ F8.out).2.1 (PG.out _ F8.out).2.2); clear hb)
              | (go_at_call 12; refine KK.out.mono ?_; rintro e w9 ⟨rfl, hb⟩; have F9 := Lib.hid (F8.out.trans (Fr.below (bk := bk) hb (PG.out _ F8.out).2.2)); have S9 := Lib.hid (S8.out.below hb); clear hb))
            go_roundw
            case rel => exact ⟨i + 1, by omega, by go_num, S9.out.mono (by omega), F9.out⟩
            case measure => simp [intOf]; omega
    · obtain rfl : i = sl := by omega
      have kc : ¬ (i : Int) < (i : Int) := by omega
      have OLD := Lib.hid ps.old
      cases late with
      | false =>
        clear ps
        go_wp2
        go_ret
        exact ⟨rfl, OLD.out⟩
      | true =>
        have KT := Lib.hid (settled_any W0.heap.size bk (4 * i) ws KS.out (by omega) bs gs)
        clear ps
        go_wp2_with (go_at_call 13; refine KT.out.mono ?_; rintro e w9 ⟨rfl, hF⟩; have F9 := Lib.hid (PG.out _ (FS.out.trans hF)).1.old; clear hF)
        go_ret
        exact ⟨rfl, F9.out⟩
end Go.Proofs.YtglgdfgdfkeogaaDoor
