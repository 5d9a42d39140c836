import Derived.Test.YtglgdfgdfkeogaaDoorXAM
import Derived.Test.YtglgdfgdfkeogaaDoorXAH
namespace Go.Proofs.YtglgdfgdfkeogaaDoor
open Go.RowKit
set_option linter.unusedVariables false
set_option linter.unusedSimpArgs false

theorem own_apart {W : World} {B B' : Nat} {E F : TypeId} {s s' n n' : Nat} {v v' : Value} {xs xs' : List Value} (h : W.ownsRow B E s v n xs) (k : W.ownsRow B' F s' v' n' xs') (ne : E ≠ F) : v.ownBlock = none ∨ v.ownBlock ≠ v'.ownBlock := by
  rcases h.2 with ⟨rfl, _⟩ | ⟨g, cap, cur, rfl, _, hg, _⟩
  · exact .inl rfl
  · exact .inr (fun e => ty_apart k hg ne e.symm)
/-- A list of rows of one's own, each with room behind its end. -/
structure RwA (W : World) (B : Nat) (v : Value) (qs : List Rw) : Prop where
  own : W.ownsRow B 49 1 v qs.length (qs.map qv)
  ok : ∀ q ∈ qs, W.ownsRow B 53 2 (qv q) q.cs.length (clv q.cs) ∧ q.n = q.cs.length
theorem RwA.below {W W' : World} {B : Nat} {v : Value} {qs : List Rw} (h : RwA W B v qs) (b : Below W.heap.size W W') : RwA W' B v qs :=
  ⟨own_back h.own b, fun q hq => ⟨own_back (h.ok q hq).1 b, (h.ok q hq).2⟩⟩
theorem RwA.mono {W : World} {B B' : Nat} {v : Value} {qs : List Rw} (h : RwA W B v qs) (hB : B' ≤ B) : RwA W B' v qs := ⟨own_mono h.own hB, fun q hq => ⟨own_mono (h.ok q hq).1 hB, (h.ok q hq).2⟩⟩
theorem RwA.nil (W : World) (B : Nat) : RwA W B (.slice none 0 0) [] := ⟨World.ownsRow_nil _ _ _ _, fun q h => by cases h⟩
theorem RwA.push {W W' : World} {B : Nat} {v v' : Value} {qs : List Rw} {q : Rw} (h : RwA W B v qs) (k : W.ownsRow B 53 2 (qv q) q.cs.length (clv q.cs)) (hn : q.n = q.cs.length) (o : W'.ownsRow B 49 1 v' (qs.length + 1) (qs.map qv ++ [qv q])) (g : W.grownBy W' v.ownBlock) : RwA W' B v' (qs ++ [q]) := by
  refine ⟨by rw [List.length_append, List.map_append]; exact o, fun p hp => ?_⟩
  rcases List.mem_append.1 hp with hp | hp
  · exact ⟨(h.ok p hp).1.kept g (own_apart (h.ok p hp).1 h.own (by decide)), (h.ok p hp).2⟩
  · rw [List.mem_singleton.1 hp]
    exact ⟨k.kept g (own_apart k h.own (by decide)), hn⟩
theorem rc_own {W : World} {B n c : Nat} {a : Option Addr} {cs : List Cl} (h : W.ownsRow B 53 2 (.slice a n c) cs.length (clv cs)) (hn : n = cs.length) (hl : n ≤ 8796093021952) (hw : ∀ c ∈ cs, (Lit.int .i64 c.v).wf = true) : RC W a n cs ∧ (a = none → n = 0 ∧ c = 0) ∧ n ≤ c ∧ c ≤ maxLen := by
  subst hn
  have h0 := h
  rcases h.2 with ⟨e, e0⟩ | ⟨g, cap, cur, e, _, hg, k1, k2, _⟩
  · injection e with e1 e2 e3
    subst e1 e3
    exact ⟨⟨rfl, hl, hw, .inl e0⟩, fun _ => ⟨e0, rfl⟩, by omega, by unfold maxLen; omega⟩
  · injection e with e1 e2 e3
    subst e1 e3
    refine ⟨⟨rfl, hl, hw, .inr ⟨g, 0, rfl, blk_lt hg, fun i hi => ?_⟩⟩, (fun e => by cases e), k1, k2⟩
    have a0 := clv_at cs i hi 0 (by omega)
    have a1 := clv_at cs i hi 1 (by omega)
    refine ⟨?_, ?_⟩
    · rw [World.ownsRow.cellAt h0 (0 + i * 2) (by omega), Nat.zero_add]; simpa [Cl.two] using a0
    · rw [World.ownsRow.cellAt h0 (0 + i * 2 + 1) (by omega), Nat.zero_add]; simpa [Cl.two] using a1
theorem RwA.rl {W : World} {B n c : Nat} {a : Option Addr} {qs : List Rw} (h : RwA W B (.slice a n c) qs) (h1 : qs.length ≤ 4096) (h2 : ∀ q ∈ qs, q.cs.length ≤ 8796093021952) (h3 : ∀ q ∈ qs, ∀ c ∈ q.cs, (Lit.int .i64 c.v).wf = true) : n = qs.length ∧ RL W a n qs ∧ (a = none → n = 0 ∧ c = 0) := by
  have hc := h.own
  have ok : ∀ r ∈ qs, RC W r.a r.n r.cs ∧ (r.a = none → r.n = 0 ∧ r.cap = 0) ∧ r.n ≤ r.cap ∧ r.cap ≤ maxLen := fun r hr => rc_own (h.ok r hr).1 (h.ok r hr).2 (by rw [(h.ok r hr).2]; exact h2 r hr) (h3 r hr)
  rcases h.own.2 with ⟨e, e0⟩ | ⟨g, cap, cur, e, hB, hg, k1, k2, k3, k4⟩
  · injection e with e1 e2 e3
    subst e1 e2 e3
    exact ⟨e0.symm, ⟨e0, by omega, ok, .inl rfl⟩, fun _ => ⟨rfl, rfl⟩⟩
  · injection e with e1 e2 e3
    subst e1 e2 e3
    refine ⟨rfl, ⟨rfl, by omega, ok, .inr ⟨g, 0, rfl, blk_lt hg, fun i hi => ?_⟩⟩, (fun e => by cases e)⟩
    rw [Nat.zero_add, World.ownsRow.cellAt hc i (by omega)]
    rw [List.getElem?_map, List.getElem?_eq_getElem hi]
    simp [List.getD, hi, qv]
set_option maxHeartbeats 2000000 in
theorem rCapitals_any (a : Option Addr) (n cap : Nat) (ss : List ByteArray) (w : World) (h : NL w a n ss) :
    Calls Tryd.prog 41 #[.slice a n cap] w fun e w' => e = .returned (.bool (ss.all nameB)) ∧ w' = w := by
  obtain ⟨hl, hn, hw, h3⟩ := h
  have HA := Lib.hid (p := ∀ i, i < n → ∃ x o, a = some ⟨x, o, none⟩ ∧ w.cell? ⟨x, o + i, none⟩ = some (.string (ss.getD i default)) ∧ (ss.getD i default).size ≤ 140737488351232) (fun i hi => by
    have hi' : i < ss.length := by omega
    rcases h3 with z | ⟨x, o, e, _, hc⟩
    · omega
    · exact ⟨x, o, e, hc i hi, by rw [show ss.getD i default = ss[i] by simp [List.getD, hi']]; exact hw _ (List.getElem_mem hi')⟩)
  have SL := Lib.hid hl
  clear h3 hw hl
  have KR := Lib.hid (fun (s : ByteArray) (hs : s.size ≤ 140737488351232) => rCapital_any s w hs)
  have NO := Lib.hid (p := ∀ i, i < n → nameB (ss.getD i default) = false → ss.all nameB = false) (fun i hi hb => by
    rw [List.all_eq_false]
    exact ⟨_, getD_mem (by rw [SL.out]; exact hi), by rw [hb]; simp⟩)
  have YES := Lib.hid (p := (∀ i, i < n → nameB (ss.getD i default) = true) → ss.all nameB = true) (fun k => by
    rw [List.all_eq_true]
    intro x hx
    obtain ⟨i, hi, e⟩ := List.getElem_of_mem hx
    have := k i (by rw [← SL.out]; exact hi)
    rwa [show ss.getD i default = ss[i] by simp [List.getD, hi], e] at this)
  go_enter Tryd.func41, Tryd.ntmps41
  go_wp2
  go_loopw [3] (fun t ws => ∃ i : Nat, i ≤ n ∧ t = .int .i64 (i : Int) ∧ RowKit.Hid (∀ j, j < i → nameB (ss.getD j default) = true) ∧ ws = w) (fun t _ => n - (intOf t).toNat)
  case atStart => exact ⟨0, Nat.zero_le _, rfl, (fun j hj => absurd hj (by omega)), rfl⟩
  case round =>
    obtain ⟨i, hi, rfl, hA, rfl⟩ := hrel
    have AL := Lib.hid hA.out
    clear hA
    by_cases hlt : i < n
    · obtain ⟨x, o, rfl, hc, hs⟩ := HA.out i hlt
      have kc : (i : Int) < (n : Int) := by omega
      have kw : IntKind.i64.wrap ((i : Int) + 1) = (i : Int) + 1 := by simp [IntKind.wrap, IntKind.bits, IntKind.signed]; omega
      have K := Lib.hid (KR.out _ hs)
      have NX := Lib.hid (p := nameB (ss.getD i default) = true → ∀ j, j < i + 1 → nameB (ss.getD j default) = true) (fun e j hj => by
        by_cases q : j = i
        · rw [q]; exact e
        · exact AL.out j (by omega))
      have NO2 := Lib.hid (NO.out i hlt)
      clear hs
      generalize ss.getD i default = f at *
      cases hb : nameB f with
      | true =>
        have NX2 := Lib.hid (NX.out hb)
        rw [hb] at K
        clear hb NX
        go_wp2_with (go_at_call 53; refine K.out.mono ?_; rintro e w' ⟨rfl, rfl⟩)
        go_roundw
        case rel => exact ⟨i + 1, by omega, by go_num, NX2.out, trivial⟩
        case measure => simp [intOf]; omega
      | false =>
        have R := Lib.hid (NO2.out hb)
        rw [hb] at K
        clear hb NX
        go_wp2_with (go_at_call 53; refine K.out.mono ?_; rintro e w' ⟨rfl, rfl⟩)
        go_ret
        exact ⟨by rw [R.out]; rfl, rfl⟩
    · have ei : n = i := by omega
      subst ei
      have kc : ¬ (n : Int) < (n : Int) := by omega
      have R := Lib.hid (YES.out AL.out)
      go_wp2
      go_ret
      exact ⟨by rw [R.out]; rfl, rfl⟩
/-- Of a valid table a cell is said as it lies. -/
theorem cell_raw {ss : List ByteArray} {rs : List (List Cl)} (g : Gd ss rs) (s : ByteArray) (d : Nat) : cellT ss rs s d = rawT ss rs s d := by
  unfold cellT
  split
  · rfl
  · rename_i h
    unfold rawT at h ⊢
    by_cases q : colF ss s 0 < 0
    · rw [if_pos q]
    · rw [if_neg q] at h ⊢
      obtain ⟨c, hc⟩ : ∃ c, (colF ss s 0).toNat = c := ⟨_, rfl⟩
      rw [hc] at h ⊢
      by_cases z : c < (rs.getD d []).length
      · have hd : d < rs.length := by
          refine Nat.lt_of_not_le fun k => ?_
          rw [row_at k] at z
          simp at z
        have m1 : rs.getD d [] ∈ rs := by rw [show rs.getD d [] = rs[d] by simp [List.getD, hd]]; exact List.getElem_mem hd
        have e : (rs.getD d []).getD c default = (rs.getD d [])[c] := by rw [List.getD_eq_getElem?_getD, List.getElem?_eq_getElem z]; rfl
        have m2 : (rs.getD d []).getD c default ∈ rs.getD d [] := by rw [e]; exact List.getElem_mem z
        have := (g.st _ m1 _ m2).1
        unfold stB at this
        generalize (rs.getD d []).getD c default = x at *
        obtain ⟨xh, xv⟩ := x
        simp only [Bool.not_eq_true] at h
        subst h
        simp at this
        rw [this]
        rfl
      · exact (atD_nil _ _ (by omega)).symm
theorem bnd_cell {ss : List ByteArray} {rs : List (List Cl)} (g : Gd ss rs) (ns : List ByteArray) {d : Nat} (hd : d < rs.length) : (bndR ss rs ns)[d]? = some (ns.map fun s => cellT ss rs s d) := by
  unfold bndR
  rw [List.getElem?_map, List.getElem?_eq_getElem hd]
  simp only [Option.map_some, Option.some.injEq]
  refine List.map_congr_left fun s _ => ?_
  rw [cell_raw g, raw_at, show rs.getD d [] = rs[d] by simp [List.getD, hd]]
def RBE (ss : List ByteArray) (rs : List (List Cl)) (ns : List ByteArray) (w : World) (e : Ending) (w' : World) : Prop :=
  ∃ a n c, e = .returned (.tuple #[.slice a n c, .int .i64 (bindE ss rs ns)]) ∧ ∃ qs, RwA w' w.heap.size (.slice a n c) qs ∧ qs.map (·.cs) = (if bindE ss rs ns = 0 then bndR ss rs ns else []) ∧ Below w.heap.size w w'
theorem own_form2 {W : World} {B n : Nat} {v : Value} {T : TypeId} {k : Nat} {xs : List Value} (h : W.ownsRow B T k v n xs) : ∃ a c, v = .slice a n c := by
  rcases h.2 with ⟨rfl, e⟩ | ⟨g, cap, cur, rfl, _⟩
  · exact ⟨none, 0, by rw [e]⟩
  · exact ⟨_, _, rfl⟩
theorem clv_snoc (cs : List Cl) (c : Cl) : clv (cs ++ [c]) = clv cs ++ [.bool c.h, .int .i64 c.v] := by rw [clv_app]; rfl
theorem step_app_run {ops : Array Oper} {o : Oper} {a : Act} {K : Act → World → Prop} {Q : Exit → Act → World → Prop} {E : Prop} {w : World} (hgd : o.guard = none) (s x : Operand) (T : TypeId)
    (ho : o.op = .call { callee := .builtin .append, args := #[s, x], argTypes := #[T, T] }) (v u r : Value) (W1 : World) (hs : a.eval s = v) (hx : a.eval x = u) (hr : ∀ ty, (Builtin.append_ #[T, T] ty #[v, u]).run Tryd.prog w = .ok r W1)
    (h : K (a.put o.dst r) W1) : if Region.wanted o (yielded ops a.tmps) = true then Oper.wp Tryd.prog o a w K Q else E := by
  rw [if_pos (by simp [Region.wanted, hgd])]
  unfold Oper.wp execOp
  simp only [ho, resolve, invoke, builtin, Sem.run_bind, Sem.run_pure, Result.andThen_ok, List.map_toArray, List.map_cons, List.map_nil, hs, hx, hr]
  exact h
/-- A cell is appended to a row of one's own. -/
theorem app_cell {w : World} {B m : Nat} {v : Value} {xs : List Value} (ch : Bool) (cv : Int) (h : w.ownsRow B 53 2 v m xs) (hm : m ≤ 2000000000) (hB : B ≤ w.heap.size) :
    ∃ v5 w5, (∀ ty, (Builtin.append_ #[49, 49] ty #[v, .slice (some ⟨w.heap.size, 0, none⟩) 1 1]).run Tryd.prog (w.alloc (.cells #[.bool ch, .int .i64 cv] 53)) = .ok v5 w5) ∧ w5.ownsRow B 53 2 v5 (m + 1) (xs ++ [.bool ch, .int .i64 cv]) ∧ ∀ (B' : Nat) (w' : World), B' ≤ B → Below B' w' w → Below B' w' w5 := by
  obtain ⟨i0, hi0, hz0, hz1, hz2⟩ := info_parts infoC
  obtain ⟨v5, w5, hr, O5, G5, _, _⟩ := run_append_own_at (P := Tryd.prog) (w.alloc (.cells #[.bool ch, .int .i64 cv] 53)) B 49 49 53 i0 _ 2 16 Tryd.underlying49 hi0 hz0 hz1 hz2 rfl (by decide) v m xs (h.alloc _) ⟨w.heap.size, 0, none⟩ 1 1 [.bool ch, .int .i64 cv] rfl (two_news w _ _ _ _ rfl) (by simp [Value.oneCell']) (by unfold maxLen; omega) (by omega) (Nat.le_trans hB (by simp))
  exact ⟨v5, w5, fun ty => hr, O5, fun B' w' h1 h2 => (h2.alloc (Nat.le_trans h1 hB) _).grown G5 (Nat.le_trans (Nat.le_trans h1 hB) (by simp)) (fun k e => Nat.le_trans h1 (h.lt k e).1)⟩
set_option maxRecDepth 100000 in
set_option maxHeartbeats 8000000 in
theorem rBind_any (t : Tb) (ss : List ByteArray) (rs : List (List Cl)) (a : Option Addr) (n c : Nat) (ns : List ByteArray) (w : World) (h : TbIs w t ss rs) (k : NL w a n ns) (hn : n ≤ 1000000000) :
    Calls Tryd.prog 16 #[t.val, .slice a n c] w fun e w' => RBE ss rs ns w e w' := by
  unfold RBE
  obtain ⟨V, hV⟩ : ∃ V, validE ss rs = V := ⟨_, rfl⟩
  obtain ⟨N, hN⟩ : ∃ N, ns.all nameB = N := ⟨_, rfl⟩
  obtain ⟨E, hE⟩ : ∃ E, bindE ss rs ns = E := ⟨_, rfl⟩
  rw [hE]
  obtain ⟨RR, hRR⟩ : ∃ RR, (if E = 0 then bndR ss rs ns else []) = RR := ⟨_, rfl⟩
  rw [hRR]
  have HRR := Lib.hid hRR
  have HE := Lib.hid (p := E = if V = 0 then (if N then 0 else 52) else V) (by rw [← hE, ← hV, ← hN]; rfl)
  have KV := Lib.hid (fun (W : World) (b : Below w.heap.size w W) => rValid_any t.an t.ar t.ln t.cn t.lr t.cr t.ss t.rs W (h.nl.later b) (h.rl.later b))
  rw [h.rs, h.ns, hV] at KV
  have KC := Lib.hid (fun (W : World) (b : Below w.heap.size w W) => rCapitals_any a n c ns W (k.later b))
  rw [hN] at KC
  have GV := Lib.hid (p := V = 0 → Gd ss rs) (fun e => gd_valid (hV.trans e) (fun r hr c hc => by
    rw [← h.rs] at hr
    obtain ⟨q, hq, rfl⟩ := List.mem_map.1 hr
    exact (h.rl.2.2.1 q hq).1.2.2.1 c hc))
  have hlr := (tb_lens h).2
  have KL := Lib.hid (fun (W : World) (b : Below w.heap.size w W) (s : ByteArray) (d : Nat) (hd : d ≤ 5864062014640) => rCell_any t.an t.ar t.ln t.cn t.lr t.cr d s t.ss t.rs W (h.nl.later b) (h.rl.later b) hd)
  rw [h.rs, h.ns] at KL
  obtain ⟨an, ln, cn, tss, ar, lr, cr, trs⟩ := t
  simp only at KV KL
  have LRL := Lib.hid (p := lr = rs.length) hlr
  have NSL := Lib.hid (p := ns.length = n) k.1
  have NC := Lib.hid (p := ∀ i, i < n → ∃ x o, a = some ⟨x, o, none⟩ ∧ x < w.heap.size ∧ w.cell? ⟨x, o + i, none⟩ = some (.string (ns.getD i default))) (fun i hi => by
    rcases k.2.2.2 with z | ⟨x, o, z1, z2, z3⟩
    · omega
    · exact ⟨x, o, z1, z2, z3 i hi⟩)
  have B0 := Lib.hid (below_al w (.cells #[.slice an ln cn, .slice ar lr cr] 25))
  have HB0 := Lib.hid (World.alloc_heap_new w (.cells #[.slice an ln cn, .slice ar lr cr] 25))
  obtain ⟨w1, hw1⟩ : ∃ w1, w.alloc (.cells #[.slice an ln cn, .slice ar lr cr] 25) = w1 := ⟨_, rfl⟩
  rw [hw1] at B0 HB0
  obtain ⟨c0, c1, _, _⟩ := box_all2 HB0.out
  have CE := Lib.hid (p := ∀ W, Below w1.heap.size w1 W → W.cell? ⟨w.heap.size, 0, none⟩ = some (.slice an ln cn) ∧ W.cell? ⟨w.heap.size, 1, none⟩ = some (.slice ar lr cr)) (fun W b => by
    obtain ⟨q0, q1, _, _⟩ := box_all2 ((b.block _ (blk_lt HB0.out)).trans HB0.out)
    exact ⟨q0, q1⟩)
  have Q := Lib.hid (p := ∀ w', E ≠ 0 → Below w.heap.size w w' → ∃ a n c, Ending.returned (.tuple #[.slice none 0 0, .int .i64 E]) = .returned (.tuple #[.slice a n c, .int .i64 E]) ∧ ∃ qs, RwA w' w.heap.size (.slice a n c) qs ∧ qs.map (·.cs) = RR ∧ Below w.heap.size w w') (fun w' q b => ⟨none, 0, 0, rfl, [], RwA.nil _ _, by rw [← HRR.out, if_neg q]; rfl, b⟩)
  clear h k hE hV hN hRR hlr
  show Calls Tryd.prog 16 #[.agg #[.slice an ln cn, .slice ar lr cr], .slice a n c] w _
  by_cases h0 : V = 0
  · subst h0
    cases N with
    | false =>
      have e5 : E = 52 := by rw [HE.out]; rfl
      subst e5
      go_enter Tryd.func16, Tryd.ntmps16
      go_wp2_with (first
        | (go_at_call 40; refine (KV.out _ B0.out).mono ?_; rintro e w2 ⟨rfl, hB⟩; have E2 := Lib.hid (B0.out.trans (hB.mono B0.out.size)); clear hB)
        | (go_at_call 41; refine (KC.out _ E2.out).mono ?_; rintro e w3 ⟨rfl, rfl⟩))
      go_ret2
      exact Q.out _ (by decide) E2.out
    | true =>
      have e5 : E = 0 := by rw [HE.out]; rfl
      subst e5
      have g := Lib.hid (GV.out (by trivial))
      have RRE := Lib.hid (p := RR = bndR ss rs ns) (by rw [← HRR.out]; simp)
      have l4 : lr ≤ 4096 := by have := g.out.r4; have := LRL.out; omega
      obtain ⟨i0, hi0, hz0, hz1, hz2⟩ := info_parts infoC
      clear Q HE GV HRR
      go_enter Tryd.func16, Tryd.ntmps16
      go_wp2_with (first
        | (go_at_call 40; refine (KV.out _ B0.out).mono ?_; rintro e w2 ⟨rfl, hB⟩; have E2 := Lib.hid (B0.out.trans (hB.mono B0.out.size)); have D2 := Lib.hid hB; clear hB)
        | (go_at_call 41; refine (KC.out _ E2.out).mono ?_; rintro e w3 ⟨rfl, rfl⟩))
      rename World => w2
      clear c0 c1
      go_loopw [8, 9] (fun v t ws => ∃ (d : Nat) (qs : List Rw), d ≤ lr ∧ t = .int .i64 (d : Int) ∧ RowKit.Hid (qs.length = d) ∧ RowKit.Hid (qs.map (·.cs) = (bndR ss rs ns).take d) ∧ RwA ws w2.heap.size v qs ∧ Below w2.heap.size w2 ws) (fun _ t _ => lr - (intOf t).toNat)
      case atStart => exact ⟨0, [], Nat.zero_le _, rfl, rfl, by show _ = _; simp, RwA.nil _ _, Below.refl _ _⟩
      case round =>
        rename World => wt
        obtain ⟨d, qs, hd, rfl, hql, hqm, hR, hA⟩ := hrel
        have RA := Lib.hid hR
        have AA := Lib.hid hA
        have QL := Lib.hid hql.out
        have QM := Lib.hid hqm.out
        have ET := Lib.hid (E2.out.trans (hA.mono E2.out.size))
        have FT := Lib.hid (D2.out.trans (hA.mono D2.out.size))
        obtain ⟨t0, t1⟩ := CE.out _ FT.out
        clear hR hA hql hqm
        by_cases hdl : d < lr
        · have dc : (d : Int) < (lr : Int) := by omega
          have kw : IntKind.i64.wrap ((d : Int) + 1) = (d : Int) + 1 := by simp [IntKind.wrap, IntKind.bits, IntKind.signed]; omega
          obtain ⟨f, hf⟩ : ∃ f : ByteArray → Cl, (fun s => cellT ss rs s d) = f := ⟨_, rfl⟩
          have HF := Lib.hid (p := ∀ s, cellT ss rs s d = f s) (fun s => by rw [← hf])
          have NXT := Lib.hid (p := (bndR ss rs ns).take (d + 1) = (bndR ss rs ns).take d ++ [ns.map f]) (by
            rw [List.take_add_one, bnd_cell g.out ns (by rw [← LRL.out]; exact hdl), ← hf]; rfl)
          have I0 := Lib.hid (p := wt.ownsRow wt.heap.size 53 2 (.slice none 0 0) 0 (clv ((ns.take 0).map f))) (World.ownsRow_nil _ _ _ _)
          clear hf
          go_wp2
          go_loopw [10, 11] (fun v t wu => ∃ i : Nat, i ≤ n ∧ t = .int .i64 (i : Int) ∧ wu.ownsRow wt.heap.size 53 2 v i (clv ((ns.take i).map f)) ∧ Below wt.heap.size wt wu) (fun _ t _ => n - (intOf t).toNat)
          case atStart => exact ⟨0, Nat.zero_le _, rfl, I0.out, Below.refl _ _⟩
          case round =>
            rename World => wu
            obtain ⟨i, hi, rfl, hO, hA⟩ := hrel
            have OU := Lib.hid hO
            have AU := Lib.hid hA
            have EU := Lib.hid (ET.out.trans (hA.mono ET.out.size))
            have FU := Lib.hid (FT.out.trans (hA.mono FT.out.size))
            clear hO hA
            by_cases hil : i < n
            · obtain ⟨x, o, rfl, hx, hcx⟩ := NC.out i hil
              have kc : (i : Int) < (n : Int) := by omega
              have kwi : IntKind.i64.wrap ((i : Int) + 1) = (i : Int) + 1 := by simp [IntKind.wrap, IntKind.bits, IntKind.signed]; omega
              have hiu : i < ns.length := by rw [NSL.out]; exact hil
              have STEP := Lib.hid (p := (ns.take (i + 1)).map f = (ns.take i).map f ++ [f (ns.getD i default)]) (by
                rw [List.take_add_one, List.getElem?_eq_getElem hiu, List.map_append]; simp [List.getD, hiu])
              have KX := Lib.hid (fun (W : World) (b : Below w.heap.size w W) => KL.out W b (ns.getD i default) d (by omega))
              rw [HF.out] at KX
              have ST := Lib.hid (p := ∀ W, Below w1.heap.size w1 W → W.cell? ⟨w.heap.size, 0, none⟩ = some (.slice an ln cn) ∧ W.cell? ⟨w.heap.size, 1, none⟩ = some (.slice ar lr cr) ∧ W.cell? ⟨x, o + i, none⟩ = some (.string (ns.getD i default))) (fun W b => ⟨(CE.out W b).1, (CE.out W b).2, ((B0.out.trans (b.mono B0.out.size)).cell (p := ⟨x, o + i, none⟩) hx).trans hcx⟩)
              generalize ns.getD i default = nm at *
              generalize f nm = cc at *
              obtain ⟨ch, cv⟩ := cc
              obtain ⟨s0, s1, s2⟩ := ST.out _ FU.out
              have ed := Lib.hid EU.out.drew
              have WTL := Lib.hid (p := w1.heap.size ≤ wt.heap.size) FT.out.size
              clear hcx
              go_wp2
              go_region_held3 (fun w' => w'.cell? ⟨w.heap.size, 0, none⟩ = some (.slice an ln cn) ∧ w'.cell? ⟨w.heap.size, 1, none⟩ = some (.slice ar lr cr) ∧ w'.cell? ⟨x, o + i, none⟩ = some (.string nm)) (first | exact ST.out _ FU.out | exact ST.out _ FU.out.drew | exact ST.out _ F9.out | exact ST.out _ F5.out | exact ST.out _ (F9.out.alloc F9.out.size _)) (first
                | (go_at_call 42; refine (KX.out _ ed.out).mono ?_; rintro e w9 ⟨rfl, hB⟩; have F9 := Lib.hid (FU.out.drew.trans (hB.mono FU.out.drew.size)); have A9 := Lib.hid (AU.out.drew.trans (hB.mono AU.out.drew.size)); have O9 := own_back (own_back OU.out (Below.refl _ _).drew) hB; obtain ⟨v5, w5, hr, hO5, hK5⟩ := app_cell ch cv O9 (by omega) A9.out.size; have R5 := Lib.hid hO5; have F5 := Lib.hid (hK5 _ _ WTL.out F9.out); have A5 := Lib.hid (hK5 _ _ (Nat.le_refl _) A9.out); clear hB O9 hO5 hK5)
                | (refine step_app_run rfl _ _ 49 rfl _ _ _ w5 rfl rfl hr ?_))
              all_goals
                go_wp2
                refine ⟨⟨i + 1, by omega, by go_num, by rw [STEP.out, clv_snoc]; exact R5.out, A5.out⟩, ?_⟩
                simp [intOf]; omega
            · have ei : n = i := by omega
              subst ei
              have kc : ¬ (n : Int) < (n : Int) := by omega
              have TK := Lib.hid (p := ns.take n = ns) (List.take_of_length_le (by rw [NSL.out]; omega))
              rw [TK.out] at OU
              obtain ⟨qa, qc, rfl⟩ := own_form2 OU.out
              have RU := Lib.hid ((RA.out.below AU.out).below (below_al wu (.cells #[.slice qa n qc] 49)))
              have OQ := Lib.hid (p := (wu.alloc (.cells #[.slice qa n qc] 49)).ownsRow w2.heap.size 53 2 (qv ⟨qa, n, qc, ns.map f⟩) (ns.map f).length (clv (ns.map f))) (by
                rw [List.length_map, NSL.out]
                exact own_mono (OU.out.alloc _) AA.out.size)
              have QL4 := Lib.hid (p := qs.length ≤ 4096) (by rw [QL.out]; omega)
              have BA := Lib.hid ((Below.refl wu.heap.size wu).alloc (Nat.le_refl _) (.cells #[.slice qa n qc] 49))
              have NX2 := Lib.hid (p := (qs ++ [(⟨qa, n, qc, ns.map f⟩ : Rw)]).map (·.cs) = (bndR ss rs ns).take (d + 1)) (by rw [List.map_append, QM.out, NXT.out]; rfl)
              have EW := Lib.hid (p := w2.heap.size ≤ wu.heap.size) (Nat.le_trans AA.out.size AU.out.size)
              go_wp2_with (at_builtin; refine wp_appG Tryd.underlying23 infoR rfl (by decide) _ w2.heap.size (Nat.le_trans EW.out BA.out.size) (some ⟨wu.heap.size, 0, none⟩) 1 1 [.slice qa n qc] rfl (one_news wu _ _) (fun e => by cases e) (by simp [Value.oneCell']) rfl _ _ rfl _ _ _ rfl RU.out.own rfl (by have := QL4.out; unfold maxLen; omega) (by have := QL4.out; omega) ?_; intro v2 w5 O2 G2; have R5 := Lib.hid (RU.out.push OQ.out (by rw [List.length_map]; exact NSL.out.symm) O2 G2); have A5 := Lib.hid ((AA.out.trans (AU.out.mono AA.out.size)).alloc (Nat.le_trans AA.out.size AU.out.size) _ |>.grown G2 (Nat.le_trans (Nat.le_trans AA.out.size AU.out.size) BA.out.size) (fun k e => (RU.out.own.lt k e).1)); clear O2 G2)
              go_roundw
              case rel => exact ⟨d + 1, _, by omega, by go_num, by show _ = d + 1; rw [List.length_append, QL.out]; rfl, NX2.out, R5.out, A5.out⟩
              case measure => simp [intOf]; omega
        · have ed : lr = d := by omega
          subst ed
          have kd : ¬ (lr : Int) < (lr : Int) := by omega
          obtain ⟨oa, oc, rfl⟩ := own_form2 RA.out.own
          have FIN := Lib.hid (p := qs.map (·.cs) = RR) (by rw [QM.out, RRE.out, List.take_of_length_le (by unfold bndR; rw [List.length_map, ← LRL.out]; omega)])
          go_wp2
          go_ret2
          exact ⟨oa, _, oc, rfl, qs, RA.out.mono E2.out.size, FIN.out, ET.out⟩
  · have v0 : (V == 0) = false := by rw [beq_eq_false_iff_ne]; exact h0
    have e5 : E = V := by rw [HE.out, if_neg h0]
    subst e5
    go_enter Tryd.func16, Tryd.ntmps16
    go_wp2_with (first
      | (go_at_call 40; refine (KV.out _ B0.out).mono ?_; rintro e w2 ⟨rfl, hB⟩; have E2 := Lib.hid (B0.out.trans (hB.mono B0.out.size)); clear hB))
    go_ret2
    exact Q.out _ h0 E2.out
end Go.Proofs.YtglgdfgdfkeogaaDoor

namespace Go.Proofs.YtglgdfgdfkeogaaDoor
open Go.RowKit
set_option linter.unusedVariables false
set_option linter.unusedSimpArgs false

/-- A list of the book: its field, its elements' type and size, how many, and its cells. -/
structure BkF where
  k : Nat
  T : TypeId
  s : Nat
  n : Nat
  xs : List Value
/-- The book: its cells, its lists, and the blocks that stay. -/
structure BkO (W : World) (B : Nat) (bk : Nat) (vs : List Value) (fs : List BkF) (sn : List (Nat × Obj)) : Prop where
  hb : W.heap[bk]? = some (.cells vs.toArray 36)
  hl : vs.length = 19
  own : ∀ f ∈ fs, W.ownsRow B f.T f.s (vs.getD f.k default) f.n f.xs ∧ f.k < 19 ∧ f.T ≠ 36
  ap : fs.Pairwise fun f g => f.k ≠ g.k ∧ ((vs.getD f.k default).ownBlock = none ∨ (vs.getD f.k default).ownBlock ≠ (vs.getD g.k default).ownBlock)
  st : ∀ p ∈ sn, W.heap[p.1]? = some p.2 ∧ p.1 ≠ bk ∧ ∀ f ∈ fs, (vs.getD f.k default).ownBlock ≠ some p.1
theorem own_keep {W W' : World} {B : Nat} {E : TypeId} {s n : Nat} {v : Value} {xs : List Value} (h : W.ownsRow B E s v n xs) (hk : ∀ b, v.ownBlock = some b → W'.heap[b]? = W.heap[b]?) : W'.ownsRow B E s v n xs := by
  refine ⟨h.1, ?_⟩
  rcases h.2 with z | ⟨g, cap, cur, rfl, h1, hg, r⟩
  · exact .inl z
  · exact .inr ⟨g, cap, cur, rfl, h1, (hk g rfl).trans hg, r⟩
theorem own_blk {W : World} {B b : Nat} {E : TypeId} {s n : Nat} {v : Value} {xs : List Value} (h : W.ownsRow B E s v n xs) (hb : v.ownBlock = some b) : ∃ cur, W.heap[b]? = some (.cells cur E) := by
  rcases h.2 with ⟨rfl, _⟩ | ⟨g, cap, cur, rfl, _, hg, _⟩
  · cases hb
  · injection hb with hb
    subst hb
    exact ⟨cur, hg⟩
/-- What is kept where none of its blocks turns. -/
theorem BkO.keep {W W' : World} {B bk : Nat} {vs : List Value} {fs : List BkF} {sn : List (Nat × Obj)} (h : BkO W B bk vs fs sn) (h1 : W'.heap[bk]? = W.heap[bk]?) (h2 : ∀ f ∈ fs, ∀ b, (vs.getD f.k default).ownBlock = some b → W'.heap[b]? = W.heap[b]?) (h3 : ∀ p ∈ sn, W'.heap[p.1]? = W.heap[p.1]?) : BkO W' B bk vs fs sn :=
  ⟨h1.trans h.hb, h.hl, fun f hf => ⟨own_keep (h.own f hf).1 (h2 f hf), (h.own f hf).2⟩, h.ap, fun p hp => ⟨(h3 p hp).trans (h.st p hp).1, (h.st p hp).2⟩⟩
theorem BkO.lt {W : World} {B bk : Nat} {vs : List Value} {fs : List BkF} {sn : List (Nat × Obj)} (h : BkO W B bk vs fs sn) : bk < W.heap.size ∧ (∀ f ∈ fs, ∀ b, (vs.getD f.k default).ownBlock = some b → b < W.heap.size) ∧ ∀ p ∈ sn, p.1 < W.heap.size :=
  ⟨blk_lt h.hb, fun f hf b e => by obtain ⟨cur, hc⟩ := own_blk (h.own f hf).1 e; exact blk_lt hc, fun p hp => blk_lt (h.st p hp).1⟩
theorem BkO.below {W W' : World} {B bk : Nat} {vs : List Value} {fs : List BkF} {sn : List (Nat × Obj)} (h : BkO W B bk vs fs sn) (b : Below W.heap.size W W') : BkO W' B bk vs fs sn := by
  obtain ⟨l1, l2, l3⟩ := h.lt
  exact h.keep (b.block _ l1) (fun f hf x e => b.block _ (l2 f hf x e)) (fun p hp => b.block _ (l3 p hp))
/-- A block that is none of the book's. -/
def BkO.Free (bk : Nat) (vs : List Value) (fs : List BkF) (sn : List (Nat × Obj)) (z : Nat) : Prop := z ≠ bk ∧ (∀ f ∈ fs, (vs.getD f.k default).ownBlock ≠ some z) ∧ ∀ p ∈ sn, p.1 ≠ z
theorem BkO.new {W : World} {B bk z : Nat} {vs : List Value} {fs : List BkF} {sn : List (Nat × Obj)} (h : BkO W B bk vs fs sn) (hz : W.heap.size ≤ z) : BkO.Free bk vs fs sn z := by
  obtain ⟨l1, l2, l3⟩ := h.lt
  exact ⟨by omega, fun f hf e => by have := l2 f hf z e; omega, fun p hp e => by have := l3 p hp; omega⟩
/-- Another's block turns. -/
theorem BkO.other {W W' : World} {B bk : Nat} {r : Option Nat} {vs : List Value} {fs : List BkF} {sn : List (Nat × Obj)} (h : BkO W B bk vs fs sn) (g : W.grownBy W' r) (hz : ∀ z, r = some z → BkO.Free bk vs fs sn z) : BkO W' B bk vs fs sn := by
  obtain ⟨l1, l2, l3⟩ := h.lt
  refine h.keep (g.block _ l1 ?_) (fun f hf x e => g.block _ (l2 f hf x e) ?_) (fun p hp => g.block _ (l3 p hp) ?_)
  · intro e; exact (hz bk e.symm).1 rfl
  · intro q; exact (hz x q.symm).2.1 f hf e
  · intro q; exact (hz p.1 q.symm).2.2 p hp rfl
theorem BkO.cell {W : World} {B bk : Nat} {vs : List Value} {fs : List BkF} {sn : List (Nat × Obj)} (h : BkO W B bk vs fs sn) (k : Nat) (hk : k < 19) : W.cell? ⟨bk, k, none⟩ = some (vs.getD k default) ∧ W.frozen? ⟨bk, k, none⟩ = false := by
  refine ⟨?_, Joins.unfrozen_of_block h.hb _⟩
  rw [Joins.cell_of_block h.hb, List.getElem?_toArray]
  have : k < vs.length := by rw [h.hl]; exact hk
  simp [List.getD, this]
/-- A field that is no list is set. -/
theorem BkO.set {W : World} {B bk : Nat} {vs : List Value} {fs : List BkF} {sn : List (Nat × Obj)} (h : BkO W B bk vs fs sn) (k : Nat) (v : Value) (hk : ∀ f ∈ fs, f.k ≠ k) : BkO (W.setCell ⟨bk, k, none⟩ v) B bk (vs.set k v) fs sn := by
  have e : ∀ f ∈ fs, (vs.set k v).getD f.k default = vs.getD f.k default := fun f hf => by
    simp only [List.getD]
    rw [List.getElem?_set_ne (fun q => hk f hf q.symm)]
  have g := grT_set W bk k v
  obtain ⟨l1, l2, l3⟩ := h.lt
  have nb : ∀ f ∈ fs, ∀ b, (vs.getD f.k default).ownBlock = some b → b ≠ bk := fun f hf b q z => by
    subst z
    exact ty_apart (h.own f hf).1 h.hb (fun z => (h.own f hf).2.2 z.symm) q
  refine ⟨by rw [Joins.block_setCell (i := k) h.hb, List.setIfInBounds_toArray], by rw [List.length_set]; exact h.hl, fun f hf => ?_, ?_, fun p hp => ?_⟩
  · rw [e f hf]
    exact ⟨own_keep (h.own f hf).1 (fun b q => g.block _ (l2 f hf b q) (by intro z; injection z with z; exact nb f hf b q z)), (h.own f hf).2⟩
  · refine h.ap.imp_of_mem ?_
    intro f g' hf hg' q
    rw [e f hf, e g' hg']
    exact q
  · refine ⟨(g.block _ (l3 p hp) (by intro z; injection z with z; exact (h.st p hp).2.1 z)).trans (h.st p hp).1, (h.st p hp).2.1, fun f hf => ?_⟩
    rw [e f hf]
    exact (h.st p hp).2.2 f hf
/-- A list grows, and its field is set. -/
theorem BkO.app {W W' : World} {B bk : Nat} {vs : List Value} {f : BkF} {fa fb : List BkF} {sn : List (Nat × Obj)} {v' : Value} {m : Nat} {us : List Value} (h : BkO W B bk vs (fa ++ f :: fb) sn) (o : W'.ownsRow B f.T f.s v' (f.n + m) (f.xs ++ us)) (g : W.grownBy W' (vs.getD f.k default).ownBlock) (hb : v'.ownBlock = (vs.getD f.k default).ownBlock ∨ v'.ownBlock = some W.heap.size) :
    BkO (W'.setCell ⟨bk, f.k, none⟩ v') B bk (vs.set f.k v') (fa ++ ⟨f.k, f.T, f.s, f.n + m, f.xs ++ us⟩ :: fb) sn := by
  obtain ⟨l1, l2, l3⟩ := h.lt
  have mf : f ∈ fa ++ f :: fb := List.mem_append.2 (.inr (List.mem_cons_self ..))
  have of := h.own f mf
  have ap := List.pairwise_append.1 h.ap
  have ap2 := List.pairwise_cons.1 ap.2.1
  have sep : ∀ x ∈ fa ++ fb, x ∈ fa ++ f :: fb ∧ x.k ≠ f.k ∧ ((vs.getD x.k default).ownBlock = none ∨ (vs.getD x.k default).ownBlock ≠ (vs.getD f.k default).ownBlock) := fun x hx => by
    rcases List.mem_append.1 hx with hx | hx
    · have q := ap.2.2 x hx f (List.mem_cons_self ..)
      exact ⟨List.mem_append.2 (.inl hx), q.1, q.2⟩
    · have q := ap2.1 x hx
      refine ⟨List.mem_append.2 (.inr (List.mem_cons_of_mem _ hx)), q.1.symm, ?_⟩
      rcases q.2 with z | z
      · cases y : (vs.getD x.k default).ownBlock with
        | none => exact .inl rfl
        | some b => exact .inr (by rw [z]; simp)
      · exact .inr z.symm
  have e : ∀ x ∈ fa ++ fb, (vs.set f.k v').getD x.k default = vs.getD x.k default := fun x hx => by
    simp only [List.getD]
    rw [List.getElem?_set_ne (sep x hx).2.1.symm]
  have ef : (vs.set f.k v').getD f.k default = v' := by
    have : f.k < vs.length := by rw [h.hl]; exact of.2.1
    simp [List.getD, this]
  have nbf : v'.ownBlock ≠ some bk := by
    intro z
    rcases hb with q | q
    · rw [z] at q
      exact ty_apart of.1 h.hb (fun z => of.2.2 z.symm) q.symm
    · rw [z] at q; injection q with q; omega
  have nb0 : (vs.getD f.k default).ownBlock ≠ some bk := fun z => ty_apart of.1 h.hb (fun z => of.2.2 z.symm) z
  have hb1 : W'.heap[bk]? = some (.cells vs.toArray 36) := (g.block _ l1 (fun z => nb0 z.symm)).trans h.hb
  have gs := grT_set W' bk f.k v'
  have kp : ∀ b, b < W.heap.size → (vs.getD f.k default).ownBlock ≠ some b → b ≠ bk → (W'.setCell ⟨bk, f.k, none⟩ v').heap[b]? = W.heap[b]? := fun b h1 h2 h3 => (gs.block b (Nat.lt_of_lt_of_le h1 g.size) (by intro z; injection z with z; exact h3 z)).trans (g.block b h1 (fun z => h2 z.symm))
  have nbx : ∀ x ∈ fa ++ fb, ∀ b, (vs.getD x.k default).ownBlock = some b → b ≠ bk ∧ (vs.getD f.k default).ownBlock ≠ some b := fun x hx b q => by
    obtain ⟨m1, m2, m3⟩ := sep x hx
    refine ⟨fun z => ?_, fun z => ?_⟩
    · subst z
      exact ty_apart (h.own x m1).1 h.hb (fun z => (h.own x m1).2.2 z.symm) q
    · rcases m3 with y | y
      · rw [q] at y; cases y
      · exact y (q.trans z.symm)
  have apv : ∀ x ∈ fa ++ fb, (vs.getD x.k default).ownBlock = none ∨ (vs.getD x.k default).ownBlock ≠ v'.ownBlock := fun x hx => by
    cases y : (vs.getD x.k default).ownBlock with
    | none => exact .inl rfl
    | some b =>
      refine .inr fun z => ?_
      rcases hb with q | q
      · exact (nbx x hx b y).2 (q.symm.trans z.symm)
      · rw [q] at z; injection z with z; have := l2 x (sep x hx).1 b y; omega
  have mem : ∀ x ∈ fa ++ ⟨f.k, f.T, f.s, f.n + m, f.xs ++ us⟩ :: fb, x = ⟨f.k, f.T, f.s, f.n + m, f.xs ++ us⟩ ∨ x ∈ fa ++ fb := fun x hx => by
    rcases List.mem_append.1 hx with q | q
    · exact .inr (List.mem_append.2 (.inl q))
    · rcases List.mem_cons.1 q with q | q
      · exact .inl q
      · exact .inr (List.mem_append.2 (.inr q))
  refine ⟨by rw [Joins.block_setCell (i := f.k) hb1, List.setIfInBounds_toArray], by rw [List.length_set]; exact h.hl, fun x hx => ?_, ?_, fun p hp => ?_⟩
  · rcases mem x hx with q | q
    · subst q
      simp only
      rw [ef]
      exact ⟨own_keep o (fun b z => gs.block b (by obtain ⟨cur, hc⟩ := own_blk o z; exact blk_lt hc) (by intro y; injection y with y; subst y; exact nbf z)), of.2⟩
    · rw [e x q]
      have m1 := (sep x q).1
      exact ⟨own_keep (h.own x m1).1 (fun b z => kp b (l2 x m1 b z) (nbx x q b z).2 (nbx x q b z).1), (h.own x m1).2⟩
  · refine List.pairwise_append.2 ⟨?_, List.pairwise_cons.2 ⟨fun x hx => ?_, ?_⟩, fun x hx y hy => ?_⟩
    · refine ap.1.imp_of_mem ?_
      intro a b ha hb' q
      rw [e a (List.mem_append.2 (.inl ha)), e b (List.mem_append.2 (.inl hb'))]
      exact q
    · have hx' : x ∈ fa ++ fb := List.mem_append.2 (.inr hx)
      simp only
      rw [ef, e x hx']
      refine ⟨(sep x hx').2.1.symm, ?_⟩
      rcases apv x hx' with z | z
      · cases y : v'.ownBlock with
        | none => exact .inl rfl
        | some b => exact .inr (by rw [z]; simp)
      · exact .inr z.symm
    · refine ap2.2.imp_of_mem ?_
      intro a b ha hb' q
      rw [e a (List.mem_append.2 (.inr ha)), e b (List.mem_append.2 (.inr hb'))]
      exact q
    · have hx' : x ∈ fa ++ fb := List.mem_append.2 (.inl hx)
      rcases List.mem_cons.1 hy with q | q
      · subst q
        simp only
        rw [ef, e x hx']
        exact ⟨(sep x hx').2.1, apv x hx'⟩
      · have hy' : y ∈ fa ++ fb := List.mem_append.2 (.inr q)
        rw [e x hx', e y hy']
        exact ap.2.2 x hx y (List.mem_cons_of_mem _ q)
  · obtain ⟨s1, s2, s3⟩ := h.st p hp
    refine ⟨(kp p.1 (l3 p hp) (s3 f mf) s2).trans s1, s2, fun x hx => ?_⟩
    rcases mem x hx with q | q
    · subst q
      simp only
      rw [ef]
      rcases hb with z | z
      · rw [z]; exact s3 f mf
      · rw [z]; intro y; injection y with y; have := l3 p hp; omega
    · rw [e x q]
      exact s3 x (sep x q).1
/-- A block that is none of the book's is left as it is. -/
theorem BkO.leave {W : World} {B bk z : Nat} {o : Obj} {vs : List Value} {fs : List BkF} {sn : List (Nat × Obj)} (h : BkO W B bk vs fs sn) (hz : W.heap[z]? = some o) (hf : BkO.Free bk vs fs sn z) : BkO W B bk vs fs ((z, o) :: sn) :=
  ⟨h.hb, h.hl, h.own, h.ap, fun p hp => by
    rcases List.mem_cons.1 hp with q | q
    · subst q; exact ⟨hz, hf.1, hf.2.1⟩
    · exact h.st p q⟩
end Go.Proofs.YtglgdfgdfkeogaaDoor

namespace Go.Proofs.YtglgdfgdfkeogaaDoor
open Go.RowKit
set_option linter.unusedVariables false
set_option linter.unusedSimpArgs false

/-- An append of one list to another, both where they lie. -/
theorem wp_appB {T E : TypeId} {z : Value} {size bytes : Nat} (hT : Tryd.prog.underlying T = some (.slice E)) (hinfo : (Tryd.prog.info? E).map (fun i => (i.zero, i.size, i.bytes)) = some (some z, size, bytes)) (hzs : z.cells.size = size) (hsz : 0 < size)
    {ops : Array Oper} {rest : List Oper} {o : Oper} {a : Act} {Q : Exit → Act → World → Prop} (w : World) (B : Nat) (hB : B ≤ w.heap.size) (x1 : Addr) (n cap : Nat) (us : List Value) (hl : us.length = n * size) (hnews : ∀ y, some x1 = some y → ∀ j u, us[j]? = some u → w.cell? (y.add j) = some u) (one : ∀ u ∈ us, u.oneCell' = true)
    (hgd : o.guard = none) (s x : Operand) (ho : o.op = .call { callee := .builtin .append, args := #[s, x], argTypes := #[T, T] }) (v : Value) (m : Nat) (xs : List Value) (hs : a.eval s = v) (hown : w.ownsRow B E size v m xs) (hx : a.eval x = .slice (some x1) n cap) (h63 : m + n ≤ maxLen) (hby : (m + n) * bytes ≤ 140737488355328)
    (h : ∀ v' w', w'.ownsRow B E size v' (m + n) (xs ++ us) → w.grownBy w' v.ownBlock → (v'.ownBlock = v.ownBlock ∨ v'.ownBlock = some w.heap.size) → wpList Tryd.prog ops Q rest (a.put o.dst v') w') : wpList Tryd.prog ops Q (o :: rest) a w := by
  obtain ⟨i0, hi, hz0, hz1, hz2⟩ := info_parts hinfo
  exact wpList_append_own_at _ hgd s x T ho B E i0 z size bytes hT hi hz0 hz1 hz2 hzs hsz v m xs hs hown x1 n cap us hx hl (hnews x1 rfl) one h63 hby hB (fun v' w' h1 h2 _ h4 => h v' w' h1 h2 h4)
/-- A row of one's own is written at a place. -/
theorem own_write {W : World} {B n c i : Nat} {E : TypeId} {g : Nat} {xs : List Value} (h : W.ownsRow B E 1 (.slice (some ⟨g, 0, none⟩) n c) n xs) (hi : i < n) (u : Value) : (W.setCell ⟨g, i, none⟩ u).ownsRow B E 1 (.slice (some ⟨g, 0, none⟩) n c) n (xs.set i u) := by
  refine ⟨by rw [List.length_set]; exact h.1, ?_⟩
  rcases h.2 with ⟨e, e0⟩ | ⟨g', cap, cur, e, h1, hg, h2, h3, h4, h5⟩
  · cases e
  · injection e with e1 e2 e3
    injection e1 with e1
    injection e1 with e1
    subst e1 e3
    refine .inr ⟨g, c, cur.setIfInBounds i u, rfl, h1, Joins.block_setCell (i := i) hg u, h2, h3, by simpa using h4, ?_⟩
    rw [Array.toList_setIfInBounds, List.take_set, h5]
/-- The text that names are written over with. -/
def mine : Nat → ByteArray
  | 0 => ⟨#[77, 105, 110, 101]⟩
  | k + 1 => mine k ++ ⟨#[120]⟩
theorem mine_size : ∀ k, (mine k).size = k + 4
  | 0 => rfl
  | k + 1 => by unfold mine; rw [ByteArray.size_append, mine_size k]; rfl
theorem catM (k : Nat) (h : k ≤ 4000000000000000000) (W : World) : (Op.stringOp .add (mine k) ⟨#[120]⟩).run Tryd.prog W = .ok (.string (mine (k + 1))) W := by
  have hs := mine_size k
  have e : mine (k + 1) = mine k ++ ⟨#[120]⟩ := rfl
  have h1 : (⟨#[120]⟩ : ByteArray).size = 1 := rfl
  rw [e]
  simp [Op.stringOp, go_sem]
  omega
/-- What the book's lists say. -/
structure Bg where
  rv : List Value
  ms : List Int
  nn : List Nat
  ov : List Value
  fr : List Nat
  nv : List Value
  sy : List ByteArray
  lg : List Nat
  pv : List Value
  tl : List Int
  wd : List Nat
  rr : List Value
  wr : List Value
  rn : List Value
  wn : List Value
  rp : List Value
  wp : List Value
def nats (l : List Nat) : List Value := l.map fun (n : Nat) => Value.int .i64 (n : Int)
def Bg.fs (g : Bg) : List BkF := [⟨0, 49, 1, g.rv.length, g.rv⟩, ⟨1, 3, 1, g.ms.length, g.ms.map (Value.int .i64)⟩, ⟨2, 3, 1, g.nn.length, nats g.nn⟩, ⟨3, 23, 1, g.ov.length, g.ov⟩, ⟨4, 3, 1, g.fr.length, nats g.fr⟩, ⟨5, 22, 1, g.nv.length, g.nv⟩, ⟨6, 9, 1, g.sy.length, g.sy.map Value.string⟩, ⟨7, 3, 1, g.lg.length, nats g.lg⟩, ⟨8, 59, 1, g.pv.length, g.pv⟩, ⟨9, 3, 1, g.tl.length, g.tl.map (Value.int .i64)⟩, ⟨10, 3, 1, g.wd.length, nats g.wd⟩, ⟨13, 23, 1, g.rr.length, g.rr⟩, ⟨14, 23, 1, g.wr.length, g.wr⟩, ⟨15, 22, 1, g.rn.length, g.rn⟩, ⟨16, 22, 1, g.wn.length, g.wn⟩, ⟨17, 59, 1, g.rp.length, g.rp⟩, ⟨18, 59, 1, g.wp.length, g.wp⟩]
/-- A book with its mark. -/
structure Bk (W : World) (B : Nat) (bk : Nat) (vs : List Value) (g : Bg) (sn : List (Nat × Obj)) (mark : Int) (late : Bool) : Prop where
  o : BkO W B bk vs g.fs sn
  mt : vs.getD 11 default = .int .i64 mark
  lt : vs.getD 12 default = .bool late
theorem Bk.below {W W' : World} {B bk : Nat} {vs : List Value} {g : Bg} {sn : List (Nat × Obj)} {mark : Int} {late : Bool} (h : Bk W B bk vs g sn mark late) (b : Below W.heap.size W W') : Bk W' B bk vs g sn mark late := ⟨h.o.below b, h.mt, h.lt⟩
theorem Bk.other {W W' : World} {B bk : Nat} {r : Option Nat} {vs : List Value} {g : Bg} {sn : List (Nat × Obj)} {mark : Int} {late : Bool} (h : Bk W B bk vs g sn mark late) (k : W.grownBy W' r) (hz : ∀ z, r = some z → BkO.Free bk vs g.fs sn z) : Bk W' B bk vs g sn mark late := ⟨h.o.other k hz, h.mt, h.lt⟩
theorem Bk.cells {W : World} {B bk : Nat} {vs : List Value} {g : Bg} {sn : List (Nat × Obj)} {mark : Int} {late : Bool} (h : Bk W B bk vs g sn mark late) : W.cell? ⟨bk, 11, none⟩ = some (.int .i64 mark) ∧ W.cell? ⟨bk, 12, none⟩ = some (.bool late) ∧ W.frozen? ⟨bk, 11, none⟩ = false := by
  have a := h.o.cell 11 (by omega)
  have b := h.o.cell 12 (by omega)
  rw [h.mt] at a
  rw [h.lt] at b
  exact ⟨a.1, b.1, a.2⟩
theorem Bg.keys (g : Bg) : ∀ f ∈ g.fs, f.k ≠ 11 ∧ f.k ≠ 12 := by
  intro f hf
  unfold Bg.fs at hf
  simp only [List.mem_cons, List.not_mem_nil, or_false] at hf
  rcases hf with h | h | h | h | h | h | h | h | h | h | h | h | h | h | h | h | h <;> rw [h] <;> simp
theorem Bk.mark {W : World} {B bk : Nat} {vs : List Value} {g : Bg} {sn : List (Nat × Obj)} {mark : Int} {late : Bool} (h : Bk W B bk vs g sn mark late) (m : Int) : Bk (W.setCell ⟨bk, 11, none⟩ (.int .i64 m)) B bk (vs.set 11 (.int .i64 m)) g sn m late := by
  refine ⟨h.o.set 11 _ (fun f hf => (g.keys f hf).1), ?_, ?_⟩
  · have : 11 < vs.length := by rw [h.o.hl]; omega
    simp [List.getD, this]
  · rw [← h.lt]
    simp only [List.getD]
    rw [List.getElem?_set_ne (by omega)]
theorem Bk.appd {W W' : World} {B bk : Nat} {vs : List Value} {g g' : Bg} {sn : List (Nat × Obj)} {mark : Int} {late : Bool} {f : BkF} {fa fb : List BkF} {v' : Value} {m : Nat} {us : List Value} (h : Bk W B bk vs g sn mark late) (e : g.fs = fa ++ f :: fb) (e' : g'.fs = fa ++ ⟨f.k, f.T, f.s, f.n + m, f.xs ++ us⟩ :: fb) (o : W'.ownsRow B f.T f.s v' (f.n + m) (f.xs ++ us)) (k : W.grownBy W' (vs.getD f.k default).ownBlock) (hb : v'.ownBlock = (vs.getD f.k default).ownBlock ∨ v'.ownBlock = some W.heap.size) :
    Bk (W'.setCell ⟨bk, f.k, none⟩ v') B bk (vs.set f.k v') g' sn mark late := by
  have h0 := h.o
  rw [e] at h0
  have kk := g.keys f (by rw [e]; exact List.mem_append.2 (.inr (List.mem_cons_self ..)))
  refine ⟨by rw [e']; exact h0.app o k hb, ?_, ?_⟩
  · rw [← h.mt]; simp only [List.getD]; rw [List.getElem?_set_ne kk.1]
  · rw [← h.lt]; simp only [List.getD]; rw [List.getElem?_set_ne kk.2]
/-- Behind the growth of one list the other blocks are free as they were. -/
theorem free_app {bk z : Nat} {vs : List Value} {g g' : Bg} {sn : List (Nat × Obj)} {f f' : BkF} {fa fb : List BkF} {v' : Value} (e : g.fs = fa ++ f :: fb) (e' : g'.fs = fa ++ f' :: fb) (hk : f'.k = f.k) (hl : vs.length = 19) (hk2 : f.k < 19) (nd : ∀ x ∈ fa ++ fb, x.k ≠ f.k) (h : BkO.Free bk vs g.fs sn z) (hv : v'.ownBlock ≠ some z) : BkO.Free bk (vs.set f.k v') g'.fs sn z := by
  refine ⟨h.1, fun x hx => ?_, h.2.2⟩
  rw [e'] at hx
  have h2 := h.2.1
  rw [e] at h2
  rcases List.mem_append.1 hx with q | q
  · rw [show (vs.set f.k v').getD x.k default = vs.getD x.k default by simp only [List.getD]; rw [List.getElem?_set_ne (nd x (List.mem_append.2 (.inl q))).symm]]
    exact h2 x (List.mem_append.2 (.inl q))
  · rcases List.mem_cons.1 q with q | q
    · rw [q, hk, show (vs.set f.k v').getD f.k default = v' by simp [List.getD, hl, hk2]]
      exact hv
    · rw [show (vs.set f.k v').getD x.k default = vs.getD x.k default by simp only [List.getD]; rw [List.getElem?_set_ne (nd x (List.mem_append.2 (.inr q))).symm]]
      exact h2 x (List.mem_append.2 (.inr (List.mem_cons_of_mem _ q)))
/-- An append leaves the row as it was, seen through the old slice. -/
theorem append_keepsB {w : World} (base : Nat) (t ty e : TypeId) (i : TypeInfo) (z : Value) (size bytes : Nat) (ht : Tryd.prog.underlying t = some (.slice e)) (hi : Tryd.prog.info? e = some i) (hz : i.zero = some z)
    (hsize : i.size = size) (hby : i.bytes = bytes) (hzs : z.cells.size = size) (hsz : 0 < size)
    (v : Value) (n : Nat) (xs : List Value) (hown : w.ownsRow base e size v n xs)
    (a : Addr) (m c : Nat) (news : List Value) (hl : news.length = m * size) (hnews : ∀ j u, news[j]? = some u → w.cell? (a.add j) = some u) (h1 : ∀ u ∈ news, u.oneCell' = true)
    (h63 : n + m ≤ maxLen) (hbytes : (n + m) * bytes ≤ 140737488355328) (hbase : base ≤ w.heap.size) (v' : Value) (w' : World)
    (hr : (Builtin.append_ #[t, t] ty #[v, .slice (some a) m c]).run Tryd.prog w = .ok v' w') (g : Nat) (hg : v.ownBlock = some g) : w'.heap[g]? = w.heap[g]? ∨ v'.ownBlock = some g := by
  subst hsize
  subst hby
  have hsmall : n + m ≤ 9223372036854775807 := by simp only [maxLen] at h63; omega
  rcases hown.2 with ⟨rfl, rfl⟩ | ⟨g', cap, cur, rfl, hbg, hgg, hnc, hcm, hcs, htake⟩
  · simp [Value.ownBlock] at hg
  · simp only [Value.ownBlock, Option.some.injEq] at hg
    subst hg
    by_cases hroom : n + m ≤ cap
    · have hfit : n * i.size + news.length ≤ cur.size := by rw [hl, hcs, ← Nat.add_mul]; exact Nat.mul_le_mul_right _ hroom
      rw [run_append_room (P := Tryd.prog) w t ty e i ht hi g' n cap cur hgg a m c news hl hnews h1 hroom hfit] at hr
      injection hr with hr1 hr2
      subst hr1
      exact .inr rfl
    · have holds : ∀ j u, xs[j]? = some u → w.cell? ((⟨g', 0, none⟩ : Addr).add j) = some u := hown.cells (g := g') rfl
      rw [run_append_grow (P := Tryd.prog) w t ty e i z ht hi hz ⟨g', 0, none⟩ n cap xs hown.1 holds a m c news hl hnews (by omega) (by omega) (growslice_fits (by omega) hbytes)] at hr
      injection hr with hr1 hr2
      subst hr2
      exact .inl (Below.heap_alloc w.drew _ g' (Array.getElem?_eq_some_iff.1 hgg).1)
/-- An append; where the list lay it lies as it was, or the list lies there still. -/
theorem wp_appK {T E : TypeId} {z : Value} {size bytes : Nat} (hT : Tryd.prog.underlying T = some (.slice E)) (hinfo : (Tryd.prog.info? E).map (fun i => (i.zero, i.size, i.bytes)) = some (some z, size, bytes)) (hzs : z.cells.size = size) (hsz : 0 < size)
    {ops : Array Oper} {rest : List Oper} {o : Oper} {a : Act} {Q : Exit → Act → World → Prop} (w : World) (B : Nat) (hB : B ≤ w.heap.size) (x1 : Addr) (n cap : Nat) (us : List Value) (hl : us.length = n * size) (hnews : ∀ y, some x1 = some y → ∀ j u, us[j]? = some u → w.cell? (y.add j) = some u) (one : ∀ u ∈ us, u.oneCell' = true)
    (hgd : o.guard = none) (s x : Operand) (ho : o.op = .call { callee := .builtin .append, args := #[s, x], argTypes := #[T, T] }) (v : Value) (m : Nat) (xs : List Value) (hs : a.eval s = v) (hown : w.ownsRow B E size v m xs) (hx : a.eval x = .slice (some x1) n cap) (h63 : m + n ≤ maxLen) (hby : (m + n) * bytes ≤ 140737488355328)
    (h : ∀ v' w', w'.ownsRow B E size v' (m + n) (xs ++ us) → w.grownBy w' v.ownBlock → (v'.ownBlock = v.ownBlock ∨ v'.ownBlock = some w.heap.size) → (∀ g, v.ownBlock = some g → w'.heap[g]? = w.heap[g]? ∨ v'.ownBlock = some g) → wpList Tryd.prog ops Q rest (a.put o.dst v') w') : wpList Tryd.prog ops Q (o :: rest) a w := by
  obtain ⟨i0, hi, hz0, hz1, hz2⟩ := info_parts hinfo
  refine wpList_plain hgd fun K hK => ?_
  obtain ⟨v', w', hr, h2, h3, h4, h5⟩ := run_append_own_at (P := Tryd.prog) w B T o.type E i0 z size bytes hT hi hz0 hz1 hz2 hzs hsz v m xs hown x1 n cap us hl (hnews x1 rfl) one h63 hby hB
  unfold Oper.wp execOp
  simp only [ho, resolve, invoke, builtin, Sem.run_bind, Sem.run_pure, Result.andThen_ok, List.map_toArray, List.map_cons, List.map_nil, hs, hx, hr]
  exact hK _ _ (h v' w' h2 h3 h5 (fun g hg => append_keepsB B T o.type E i0 z size bytes hT hi hz0 hz1 hz2 hzs hsz v m xs hown x1 n cap us hl (hnews x1 rfl) one h63 hby hB v' w' hr g hg))
/-- Where a list lay that grows: it lies there still, or its firsts are as they were. -/
def Old (W : World) (T : TypeId) (a : Option Addr) (v : Value) (k : Nat) (us : List Value) : Prop := ∀ z, a = some ⟨z, 0, none⟩ → v.ownBlock = some z ∨ ∃ cur, W.heap[z]? = some (.cells cur T) ∧ cur.toList.take k = us
theorem own_firsts {W : World} {B m s k z : Nat} {T : TypeId} {v : Value} {us xs : List Value} (o : W.ownsRow B T s v m (us ++ xs)) (hk : us.length = k) (hz : v.ownBlock = some z) : ∃ cur, W.heap[z]? = some (.cells cur T) ∧ cur.toList.take k = us := by
  rcases o.2 with ⟨e, e0⟩ | ⟨g, cap, cur, e, _, q1, q2, _, q4, q5⟩
  · rw [e] at hz; cases hz
  · rw [e] at hz
    injection hz with hz
    subst hz
    refine ⟨cur, q1, ?_⟩
    have l := o.1
    rw [List.length_append] at l
    have : cur.toList.take k = (cur.toList.take (m * s)).take k := by rw [List.take_take, Nat.min_eq_left (by omega)]
    rw [this, q5, ← hk]
    exact List.take_left
theorem Old.step {W W2 : World} {B m s k : Nat} {T : TypeId} {a : Option Addr} {v v' : Value} {us xs : List Value} (h : Old W T a v k us) (o : W.ownsRow B T s v m (us ++ xs)) (hk : us.length = k) (g : W.grownBy W2 v.ownBlock) (kp : ∀ z, v.ownBlock = some z → W2.heap[z]? = W.heap[z]? ∨ v'.ownBlock = some z) : Old W2 T a v' k us := by
  intro z e
  by_cases q : v.ownBlock = some z
  · rcases kp z q with r | r
    · obtain ⟨cur, h1, h2⟩ := own_firsts o hk q
      exact .inr ⟨cur, r.trans h1, h2⟩
    · exact .inl r
  · rcases h z e with r | ⟨cur, h1, h2⟩
    · exact absurd r q
    · exact .inr ⟨cur, (g.block z (blk_lt h1) (fun e => q e.symm)).trans h1, h2⟩
theorem Old.below {W W2 : World} {k : Nat} {T : TypeId} {a : Option Addr} {v : Value} {us : List Value} (h : Old W T a v k us) (b : Below W.heap.size W W2) : Old W2 T a v k us := by
  intro z e
  rcases h z e with r | ⟨cur, h1, h2⟩
  · exact .inl r
  · exact .inr ⟨cur, (b.block z (blk_lt h1)).trans h1, h2⟩
/-- Where a list lay: its firsts, in a block that stays. -/
def OldIt (sn : List (Nat × Obj)) (T : TypeId) (a : Option Addr) (k : Nat) (us : List Value) : Prop := ∀ z, a = some ⟨z, 0, none⟩ → ∃ cur, (z, Obj.cells cur T) ∈ sn ∧ cur.toList.take k = us
theorem OldIt.more {sn sn' : List (Nat × Obj)} {T : TypeId} {a : Option Addr} {k : Nat} {us : List Value} (h : OldIt sn T a k us) (q : ∀ p ∈ sn, p ∈ sn') : OldIt sn' T a k us := fun z e => by
  obtain ⟨cur, h1, h2⟩ := h z e
  exact ⟨cur, q _ h1, h2⟩
/-- A list that has grown is left, and where it lay ahead. -/
theorem Bk.leave2 {W : World} {B bk gg k : Nat} {vs : List Value} {g : Bg} {sn : List (Nat × Obj)} {mark : Int} {late : Bool} {T : TypeId} {a : Option Addr} {v : Value} {cur : Array Value} {us : List Value} (h : Bk W B bk vs g sn mark late) (hv : v.ownBlock = some gg) (hc : W.heap[gg]? = some (.cells cur T)) (hf : BkO.Free bk vs g.fs sn gg) (hu : cur.toList.take k = us) (old : Old W T a v k us) (fa : ∀ z, a = some ⟨z, 0, none⟩ → BkO.Free bk vs g.fs sn z) :
    ∃ add, Bk W B bk vs g (add ++ sn) mark late ∧ (gg, Obj.cells cur T) ∈ add ∧ OldIt add T a k us ∧ ((sn.map (·.1)).Nodup → ((add ++ sn).map (·.1)).Nodup) := by
  have ndc : ∀ (z : Nat) (l : List (Nat × Obj)), (∀ p ∈ l, p.1 ≠ z) → (l.map (·.1)).Nodup → (z :: l.map (·.1)).Nodup := fun z l h k =>
    List.nodup_cons.2 ⟨fun q => by obtain ⟨p, hp, e⟩ := List.mem_map.1 q; exact h p hp e, k⟩
  have h1 : Bk W B bk vs g ((gg, Obj.cells cur T) :: sn) mark late := ⟨h.o.leave hc hf, h.mt, h.lt⟩
  by_cases hz : ∃ z, a = some ⟨z, 0, none⟩ ∧ z ≠ gg
  · obtain ⟨z, e, ne⟩ := hz
    rcases old z e with r | ⟨cz, k1, k2⟩
    · rw [hv] at r; injection r with r; exact absurd r.symm ne
    · have fz := fa z e
      refine ⟨[(z, .cells cz T), (gg, .cells cur T)], ⟨h1.o.leave k1 ⟨fz.1, fz.2.1, fun p hp => ?_⟩, h1.mt, h1.lt⟩, by simp, fun y ey => ?_, fun nd => ?_⟩
      · rcases List.mem_cons.1 hp with q | q
        · rw [q]; exact fun e => ne e.symm
        · exact fz.2.2 p q
      · rw [e] at ey; injection ey with ey; injection ey with ey; subst ey
        exact ⟨cz, by simp, k2⟩
      · refine ndc z ((gg, .cells cur T) :: sn) (fun p hp => ?_) (ndc gg sn hf.2.2 nd)
        rcases List.mem_cons.1 hp with q | q
        · rw [q]; exact fun e => ne e.symm
        · exact fz.2.2 p q
  · refine ⟨[(gg, .cells cur T)], h1, by simp, fun y ey => ?_, fun nd => ndc gg sn hf.2.2 nd⟩
    have : y = gg := Classical.byContradiction fun q => hz ⟨y, ey, q⟩
    subst this
    exact ⟨cur, by simp, hu⟩
end Go.Proofs.YtglgdfgdfkeogaaDoor
