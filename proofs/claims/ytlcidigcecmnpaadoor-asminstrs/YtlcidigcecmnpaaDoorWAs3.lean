/-
  WALK: the law's copyProgram (made by gen_was3.py).
-/
import Derived.Test.YtlcidigcecmnpaaDoorWAs1
namespace Go.Proofs.YtlcidigcecmnpaaDoor
open Go.RowKit
set_option linter.unusedVariables false
set_option linter.unusedSimpArgs false
/-- An append of a list, in a region that draws; where the answer lies. -/
theorem step_appG4 {ops : Array Oper} {o : Oper} {a : Act} {K : Act → World → Prop} {Q : Exit → Act → World → Prop} {E : Prop} (w : World) (hgd : o.guard = none) (s x : Operand) (t : TypeId)
    (ho : o.op = .call { callee := .builtin .append, args := #[s, x], argTypes := #[t, t] }) (B : Nat) (e : TypeId) (i0 : TypeInfo) (z : Value) (size bytes : Nat) (ht : Tryd.prog.underlying t = some (.slice e)) (hi : Tryd.prog.info? e = some i0) (hz : i0.zero = some z) (h4 : i0.size = size) (h5 : i0.bytes = bytes) (h6 : z.cells.size = size) (h7 : 0 < size)
    (v : Value) (n : Nat) (xs : List Value) (hs : a.eval s = v) (hown : w.ownsRow B e size v n xs) (ad : Addr) (m c : Nat) (news : List Value) (hx : a.eval x = .slice (some ad) m c) (hl : news.length = m * size) (hnews : ∀ j u, news[j]? = some u → w.cell? (ad.add j) = some u) (h1 : ∀ u ∈ news, u.oneCell' = true)
    (h63 : n + m ≤ maxLen) (hbytes : (n + m) * bytes ≤ 140737488355328) (hb : B ≤ w.heap.size)
    (h : ∀ v' w', w'.ownsRow B e size v' (n + m) (xs ++ news) → w.grownBy w' v.ownBlock → (v' = .slice none 0 0 ↔ v = .slice none 0 0 ∧ m = 0) → (v'.ownBlock = v.ownBlock ∨ v'.ownBlock = some w.heap.size) → K (a.put o.dst v') w') :
    if Region.wanted o (yielded ops a.tmps) = true then Oper.wp Tryd.prog o a w K Q else E := by
  rw [if_pos (by simp [Region.wanted, hgd])]
  obtain ⟨v', w', hr, h2, h3, h8, h9⟩ := run_append_own_at (P := Tryd.prog) w B t o.type e i0 z size bytes ht hi hz h4 h5 h6 h7 v n xs hown ad m c news hl hnews h1 h63 hbytes hb
  unfold Oper.wp execOp
  simp only [ho, resolve, invoke, builtin, Sem.run_bind, Sem.run_pure, Result.andThen_ok, List.map_toArray, List.map_cons, List.map_nil, hs, hx, hr]
  exact h v' w' h2 h3 h8 h9
set_option maxRecDepth 100000 in
set_option maxHeartbeats 40000000 in
theorem copyP_any {w : World} {p : Pg} (h : PV w p) :
    Calls Tryd.prog 4 #[p.agg] w fun e w' => ∃ q : Pg, e = .returned q.agg ∧ CpE w' p q ∧ Below w.heap.size w w' := by
  have SS0 := cs_start w p
  obtain ⟨iS, hiS, hziS0, hziS1, hziS2⟩ := info_parts infoPS
  obtain ⟨iN, hiN, hziN0, hziN1, hziN2⟩ := info_parts infoPN
  obtain ⟨iI, hiI, hziI0, hziI1, hziI2⟩ := info_parts infoPI
  obtain ⟨iG, hiG, hziG0, hziG1, hziG2⟩ := info_parts infoPG
  have HP := Lib.hid h
  clear h
  obtain ⟨na, nc, names, ua, uc, curs, pa, pc, pool, hor, cells, slots, stack, da, dc, days⟩ := p
  unfold Pg.agg
  unfold Pg.arr pz at SS0
  simp only at SS0 ⊢
  generalize hW0 : (w.alloc (.cells #[.slice na names.length nc, .slice ua curs.length uc, .slice pa pool.length pc, .int .i64 hor, .int .i64 cells, .int .i64 slots, .int .i64 stack, .slice da days.length dc] 26)).alloc (.cells #[.slice none 0 0, .slice none 0 0, .slice none 0 0, .int .i64 0, .int .i64 0, .int .i64 0, .int .i64 0, .slice none 0 0] 26) = W0 at SS0
  have S0 := Lib.hid SS0
  have z00 := SS0.b0.cell 0
  have z01 := (SS0.alloc (.cells #[] 9)).b0.cell 0
  simp at z00 z01
  clear SS0
  have HN := Lib.hid HP.out.names
  simp only at HN
  have NWN := Lib.hid (fun W (b : Below w.heap.size w W) => sr_newsH (HN.out.later b))
  have STN := Lib.hid (p := ∀ u ∈ strsP names, u.oneCell' = true) (by intro u hu; obtain ⟨z, _, rfl⟩ := List.mem_map.1 hu; rfl)
  have SLN := Lib.hid (p := (strsP names).length = names.length * 1) (by simp [strsP])
  have NLN := Lib.hid (p := names.length + 2 ≤ maxLen ∧ (names.length + 2) * 16 ≤ 140737488355328) (by have := HN.out.2.2.1; unfold maxLen; omega)
  have HU := Lib.hid HP.out.curs
  simp only at HU
  have NWU := Lib.hid (fun W (b : Below w.heap.size w W) => sr_newsH (HU.out.later b))
  have STU := Lib.hid (p := ∀ u ∈ strsP curs, u.oneCell' = true) (by intro u hu; obtain ⟨z, _, rfl⟩ := List.mem_map.1 hu; rfl)
  have SLU := Lib.hid (p := (strsP curs).length = curs.length * 1) (by simp [strsP])
  have NLU := Lib.hid (p := curs.length + 2 ≤ maxLen ∧ (curs.length + 2) * 16 ≤ 140737488355328) (by have := HU.out.2.2.1; unfold maxLen; omega)
  have HQ := Lib.hid HP.out.pool
  simp only at HQ
  have NWQ := Lib.hid (fun W (b : Below w.heap.size w W) => nr_newsH (HQ.out.later b))
  have STQ := Lib.hid (p := ∀ u ∈ intsP pool, u.oneCell' = true) (by intro u hu; obtain ⟨z, _, rfl⟩ := List.mem_map.1 hu; rfl)
  have SLQ := Lib.hid (p := (intsP pool).length = pool.length * 1) (by simp [intsP])
  have NLQ := Lib.hid (p := pool.length + 2 ≤ maxLen ∧ (pool.length + 2) * 8 ≤ 140737488355328) (by have := HQ.out.2.2.1; unfold maxLen; omega)
  have A0 : True := trivial
  go_enter Tryd.func4, Tryd.ntmps4
  go_wp2_with (first
    | (at_builtin; have qq := A0; refine wp_appH rfl _ _ 22 rfl W0.heap.size 9 iS _ 1 16 Tryd.underlying22 hiS hziS0 hziS1 hziS2 rfl (by decide) (.slice (some ⟨W0.heap.size, 0, none⟩) 0 0) 0 [] rfl (lit_rowP W0 _ 1) (by simp) na names.length nc (strsP names) HN.out.1 rfl SLN.out (NWN.out _ (S0.out.alloc _).bel) STN.out (by have := NLN.out; omega) (by have := NLN.out; omega) (by simp) ?_; intro v2 w2 k1 k2 k3; rw [Nat.zero_add, List.nil_append] at k1; obtain ⟨g2, c2, rfl, _, _, _⟩ := row_someP k1 k3; have O0 := Lib.hid k1; have B2 := Lib.hid (show Below W0.heap.size W0 w2 from (allocBP W0 _).grown k2 (by simp) (fun k e => Nat.le_of_eq (Option.some.inj e))); clear k1 k2 k3 A0 z00 z01)
    | (at_builtin; have qq := O0; refine wpList_append_own_at _ rfl _ _ 22 rfl W0.heap.size 9 iS _ 1 16 Tryd.underlying22 hiS hziS0 hziS1 hziS2 rfl (by decide) _ names.length (strsP names) rfl (O0.out.alloc _) ⟨w2.heap.size, 0, none⟩ 2 2 [mkV, mkV] rfl rfl (cell_two_new w2 _ _ _) (by intro u hu; simp at hu; subst hu; rfl) NLN.out.1 NLN.out.2 (Nat.le_trans B2.out.size (by simp)) ?_; intro v3 x0 k1 k2 k3 k4; obtain ⟨g0, c0, rfl, e3, _, _⟩ := row_someP k1 (fun e => by have := (k3.1 e).1; cases this); have e04 : names.length ≤ c0 := (by omega); have B3 := Lib.hid (show Below W0.heap.size W0 x0 from (B2.out.alloc B2.out.size _).grown k2 (Nat.le_trans B2.out.size (by simp)) (fun k e => (O0.out.lt k e).1)); have S3a := Lib.hid (S0.out.later B3.out); have y3 := S3a.out.b0.cell 0; have y5 := S3a.out.b0.frozen 0; simp at y3; have S1 := Lib.hid ((S3a.out.add ⟨W0.heap.size, x0.heap.size, 9, 1, .slice (some ⟨g0, 0, none⟩) (names.length + 2) c0, names.length + 2, strsP names ++ [mkV, mkV]⟩ ⟨k1, fun b e => (k1.lt b e).2⟩ S0.out.sz (Nat.le_refl _)).setQ 0 (by simp) (.slice (some ⟨g0, 0, none⟩) names.length c0)); clear S3a O0 B2 B3 k1 k2 k3 k4 e3; obtain ⟨W1, hW1⟩ : ∃ W, x0.setCell ⟨w.heap.size, 0, none⟩ (.slice (some ⟨g0, 0, none⟩) names.length c0) = W := ⟨_, rfl⟩; rw [hW1] at S1; simp at S1; have z10 := S1.out.b0.cell 1; have z11 := (S1.out.alloc (.cells #[] 9)).b0.cell 1; simp at z10 z11; have A1 : True := trivial)
    | (at_builtin; have qq := A1; refine wp_appH rfl _ _ 22 rfl W1.heap.size 9 iS _ 1 16 Tryd.underlying22 hiS hziS0 hziS1 hziS2 rfl (by decide) (.slice (some ⟨W1.heap.size, 0, none⟩) 0 0) 0 [] rfl (lit_rowP W1 _ 1) (by simp) ua curs.length uc (strsP curs) HU.out.1 rfl SLU.out (NWU.out _ (S1.out.alloc _).bel) STU.out (by have := NLU.out; omega) (by have := NLU.out; omega) (by simp) ?_; intro v2 w2 k1 k2 k3; rw [Nat.zero_add, List.nil_append] at k1; obtain ⟨g2, c2, rfl, _, _, _⟩ := row_someP k1 k3; have O1 := Lib.hid k1; have B2 := Lib.hid (show Below W1.heap.size W1 w2 from (allocBP W1 _).grown k2 (by simp) (fun k e => Nat.le_of_eq (Option.some.inj e))); clear k1 k2 k3 A1 z10 z11)
    | (at_builtin; have qq := O1; refine wpList_append_own_at _ rfl _ _ 22 rfl W1.heap.size 9 iS _ 1 16 Tryd.underlying22 hiS hziS0 hziS1 hziS2 rfl (by decide) _ curs.length (strsP curs) rfl (O1.out.alloc _) ⟨w2.heap.size, 0, none⟩ 2 2 [mkV, mkV] rfl rfl (cell_two_new w2 _ _ _) (by intro u hu; simp at hu; subst hu; rfl) NLU.out.1 NLU.out.2 (Nat.le_trans B2.out.size (by simp)) ?_; intro v3 x1 k1 k2 k3 k4; obtain ⟨g1, c1, rfl, e3, _, _⟩ := row_someP k1 (fun e => by have := (k3.1 e).1; cases this); have e14 : curs.length ≤ c1 := (by omega); have B3 := Lib.hid (show Below W1.heap.size W1 x1 from (B2.out.alloc B2.out.size _).grown k2 (Nat.le_trans B2.out.size (by simp)) (fun k e => (O1.out.lt k e).1)); have S3a := Lib.hid (S1.out.later B3.out); have y3 := S3a.out.b0.cell 1; have y5 := S3a.out.b0.frozen 1; simp at y3; have S2 := Lib.hid ((S3a.out.add ⟨W1.heap.size, x1.heap.size, 9, 1, .slice (some ⟨g1, 0, none⟩) (curs.length + 2) c1, curs.length + 2, strsP curs ++ [mkV, mkV]⟩ ⟨k1, fun b e => (k1.lt b e).2⟩ S1.out.sz (Nat.le_refl _)).setQ 1 (by simp) (.slice (some ⟨g1, 0, none⟩) curs.length c1)); clear S3a O1 B2 B3 k1 k2 k3 k4 e3; obtain ⟨W2, hW2⟩ : ∃ W, x1.setCell ⟨w.heap.size, 1, none⟩ (.slice (some ⟨g1, 0, none⟩) curs.length c1) = W := ⟨_, rfl⟩; rw [hW2] at S2; simp at S2; have z20 := S2.out.b0.cell 2; have z21 := (S2.out.alloc (.cells #[] 3)).b0.cell 2; simp at z20 z21; have A2 : True := trivial)
    | (at_builtin; have qq := A2; refine wp_appH rfl _ _ 23 rfl W2.heap.size 3 iN _ 1 8 Tryd.underlying23 hiN hziN0 hziN1 hziN2 rfl (by decide) (.slice (some ⟨W2.heap.size, 0, none⟩) 0 0) 0 [] rfl (lit_rowP W2 _ 1) (by simp) pa pool.length pc (intsP pool) HQ.out.1 rfl SLQ.out (NWQ.out _ (S2.out.alloc _).bel) STQ.out (by have := NLQ.out; omega) (by have := NLQ.out; omega) (by simp) ?_; intro v2 w2 k1 k2 k3; rw [Nat.zero_add, List.nil_append] at k1; obtain ⟨g2, c2, rfl, _, _, _⟩ := row_someP k1 k3; have O2 := Lib.hid k1; have B2 := Lib.hid (show Below W2.heap.size W2 w2 from (allocBP W2 _).grown k2 (by simp) (fun k e => Nat.le_of_eq (Option.some.inj e))); clear k1 k2 k3 A2 z20 z21)
    | (at_builtin; have qq := O2; refine wpList_append_own_at _ rfl _ _ 23 rfl W2.heap.size 3 iN _ 1 8 Tryd.underlying23 hiN hziN0 hziN1 hziN2 rfl (by decide) _ pool.length (intsP pool) rfl (O2.out.alloc _) ⟨w2.heap.size, 0, none⟩ 2 2 [m77, m77] rfl rfl (cell_two_new w2 _ _ _) (by intro u hu; simp at hu; subst hu; rfl) NLQ.out.1 NLQ.out.2 (Nat.le_trans B2.out.size (by simp)) ?_; intro v3 x2 k1 k2 k3 k4; obtain ⟨g2, c2, rfl, e3, _, _⟩ := row_someP k1 (fun e => by have := (k3.1 e).1; cases this); have e24 : pool.length ≤ c2 := (by omega); have B3 := Lib.hid (show Below W2.heap.size W2 x2 from (B2.out.alloc B2.out.size _).grown k2 (Nat.le_trans B2.out.size (by simp)) (fun k e => (O2.out.lt k e).1)); have S3a := Lib.hid (S2.out.later B3.out); have y3 := S3a.out.b0.cell 2; have y5 := S3a.out.b0.frozen 2; simp at y3; have S3 := Lib.hid ((S3a.out.add ⟨W2.heap.size, x2.heap.size, 3, 1, .slice (some ⟨g2, 0, none⟩) (pool.length + 2) c2, pool.length + 2, intsP pool ++ [m77, m77]⟩ ⟨k1, fun b e => (k1.lt b e).2⟩ S2.out.sz (Nat.le_refl _)).setQ 2 (by simp) (.slice (some ⟨g2, 0, none⟩) pool.length c2)); clear S3a O2 B2 B3 k1 k2 k3 k4 e3; obtain ⟨W3, hW3⟩ : ∃ W, x2.setCell ⟨w.heap.size, 2, none⟩ (.slice (some ⟨g2, 0, none⟩) pool.length c2) = W := ⟨_, rfl⟩; rw [hW3] at S3; simp at S3; have z30 := S3.out.b0.cell 7; simp at z30)
    )
  clear hW0 hW1 hW2 hW3 z30
  have HD := Lib.hid HP.out.days
  simp only at HD
  have SZ := Lib.hid S3.out.sz
  have C1 := Lib.hid (p := CpL (some ⟨g0, 0, none⟩) c0 names.length 9 1 (strsP names ++ [mkV, mkV]) ([⟨W2.heap.size, x2.heap.size, 3, 1, .slice (some ⟨g2, 0, none⟩) (pool.length + 2) c2, pool.length + 2, intsP pool ++ [m77, m77]⟩, ⟨W1.heap.size, x1.heap.size, 9, 1, .slice (some ⟨g1, 0, none⟩) (curs.length + 2) c1, curs.length + 2, strsP curs ++ [mkV, mkV]⟩, ⟨W0.heap.size, x0.heap.size, 9, 1, .slice (some ⟨g0, 0, none⟩) (names.length + 2) c0, names.length + 2, strsP names ++ [mkV, mkV]⟩] : List RF)) ⟨g0, _, _, rfl, List.mem_cons_of_mem _ (List.mem_cons_of_mem _ List.mem_cons_self)⟩
  have C2 := Lib.hid (p := CpL (some ⟨g1, 0, none⟩) c1 curs.length 9 1 (strsP curs ++ [mkV, mkV]) ([⟨W2.heap.size, x2.heap.size, 3, 1, .slice (some ⟨g2, 0, none⟩) (pool.length + 2) c2, pool.length + 2, intsP pool ++ [m77, m77]⟩, ⟨W1.heap.size, x1.heap.size, 9, 1, .slice (some ⟨g1, 0, none⟩) (curs.length + 2) c1, curs.length + 2, strsP curs ++ [mkV, mkV]⟩, ⟨W0.heap.size, x0.heap.size, 9, 1, .slice (some ⟨g0, 0, none⟩) (names.length + 2) c0, names.length + 2, strsP names ++ [mkV, mkV]⟩] : List RF)) ⟨g1, _, _, rfl, List.mem_cons_of_mem _ List.mem_cons_self⟩
  have C3 := Lib.hid (p := CpL (some ⟨g2, 0, none⟩) c2 pool.length 3 1 (intsP pool ++ [m77, m77]) ([⟨W2.heap.size, x2.heap.size, 3, 1, .slice (some ⟨g2, 0, none⟩) (pool.length + 2) c2, pool.length + 2, intsP pool ++ [m77, m77]⟩, ⟨W1.heap.size, x1.heap.size, 9, 1, .slice (some ⟨g1, 0, none⟩) (curs.length + 2) c1, curs.length + 2, strsP curs ++ [mkV, mkV]⟩, ⟨W0.heap.size, x0.heap.size, 9, 1, .slice (some ⟨g0, 0, none⟩) (names.length + 2) c0, names.length + 2, strsP names ++ [mkV, mkV]⟩] : List RF)) ⟨g2, _, _, rfl, List.mem_cons_self⟩
  have D0 := Lib.hid (p := CD w W3 ⟨na, nc, names, ua, uc, curs, pa, pc, pool, hor, cells, slots, stack, da, dc, days⟩ (#[.slice (some ⟨g0, 0, none⟩) names.length c0, .slice (some ⟨g1, 0, none⟩) curs.length c1, .slice (some ⟨g2, 0, none⟩) pool.length c2, .int .i64 hor, .int .i64 cells, .int .i64 slots, .int .i64 stack, .slice da days.length dc]) W3.heap.size (.slice none 0 0) [] ([⟨W2.heap.size, x2.heap.size, 3, 1, .slice (some ⟨g2, 0, none⟩) (pool.length + 2) c2, pool.length + 2, intsP pool ++ [m77, m77]⟩, ⟨W1.heap.size, x1.heap.size, 9, 1, .slice (some ⟨g1, 0, none⟩) (curs.length + 2) c1, curs.length + 2, strsP curs ++ [mkV, mkV]⟩, ⟨W0.heap.size, x0.heap.size, 9, 1, .slice (some ⟨g0, 0, none⟩) (names.length + 2) c0, names.length + 2, strsP names ++ [mkV, mkV]⟩] : List RF)) ⟨S3.out, World.ownsRow_nil _ _ _ _, (fun r hr b e => by cases e), ⟨S3.out.sz, Nat.le_refl _⟩, by simp, rfl, fun i hi => absurd hi (by simp)⟩
  clear S0 S1 S2 S3 HN HU HQ NWN NWU NWQ STN STU STQ SLN SLU SLQ NLN NLU NLQ e04 e14 e24
  generalize ([⟨W2.heap.size, x2.heap.size, 3, 1, .slice (some ⟨g2, 0, none⟩) (pool.length + 2) c2, pool.length + 2, intsP pool ++ [m77, m77]⟩, ⟨W1.heap.size, x1.heap.size, 9, 1, .slice (some ⟨g1, 0, none⟩) (curs.length + 2) c1, curs.length + 2, strsP curs ++ [mkV, mkV]⟩, ⟨W0.heap.size, x0.heap.size, 9, 1, .slice (some ⟨g0, 0, none⟩) (names.length + 2) c0, names.length + 2, strsP names ++ [mkV, mkV]⟩] : List RF) = L0 at *
  go_loopw [4, 5] (fun t u wr => ∃ D L v, v = t ∧ u = .int .i64 (List.length D : Int) ∧ CD w wr ⟨na, nc, names, ua, uc, curs, pa, pc, pool, hor, cells, slots, stack, da, dc, days⟩ (#[.slice (some ⟨g0, 0, none⟩) names.length c0, .slice (some ⟨g1, 0, none⟩) curs.length c1, .slice (some ⟨g2, 0, none⟩) pool.length c2, .int .i64 hor, .int .i64 cells, .int .i64 slots, .int .i64 stack, .slice da days.length dc]) W3.heap.size v D L ∧ CpL (some ⟨g0, 0, none⟩) c0 names.length 9 1 (strsP names ++ [mkV, mkV]) L ∧ CpL (some ⟨g1, 0, none⟩) c1 curs.length 9 1 (strsP curs ++ [mkV, mkV]) L ∧ CpL (some ⟨g2, 0, none⟩) c2 pool.length 3 1 (intsP pool ++ [m77, m77]) L) (fun t u _ => days.length - (intOf u).toNat)
  case atStart => exact ⟨[], L0, _, rfl, rfl, D0.out, C1.out, C2.out, C3.out⟩
  case round =>
    clear D0 C1 C2 C3
    rename World => wr
    obtain ⟨D, L, v, rfl, rfl, hD, hM1, hM2, hM3⟩ := hrel
    have DD := Lib.hid hD
    have MM1 := Lib.hid hM1
    have MM2 := Lib.hid hM2
    have MM3 := Lib.hid hM3
    have c7 := hD.cs.b0.cell 7
    simp at c7
    by_cases hlt : D.length < days.length
    · have kc : (D.length : Int) < (days.length : Int) := by omega
      have nb2 := HD.out.2.2.1
      have kq : IntKind.i64.wrap ((D.length : Int) + 1) = (D.length : Int) + 1 := by simp [IntKind.wrap, IntKind.bits, IntKind.signed]; omega
      obtain ⟨xb, xo, rfl, hx, hc⟩ : ∃ xb xo, da = some ⟨xb, xo, none⟩ ∧ xb < w.heap.size ∧ ∀ i, i < days.length → ∀ j, j < 2 → w.cell? ⟨xb, xo + i * 2 + j, none⟩ = some (((days.getD i default).cs).getD j default) := by
        rcases HD.out.2.2.2.2 with q | ⟨b, o, e, h1, h2⟩
        · omega
        · exact ⟨b, o, e, h1, h2⟩
      have i0 := hc D.length hlt 0 (by omega)
      have i1 := hc D.length hlt 1 (by omega)
      have IRf := (HD.out.2.2.2.1 _ (sg_mem (i := D.length) hlt)).2
      obtain ⟨s, hs⟩ : ∃ s, days.getD D.length default = s := ⟨_, rfl⟩
      rw [hs] at i0 i1 IRf
      have HS := Lib.hid hs
      obtain ⟨sd, sa, sc, sl⟩ := s
      simp only [Sg.cs, Nat.add_zero, List.getD_cons_zero, List.getD_cons_succ] at i0 i1 IRf
      have I0 := Lib.hid (fun W (b : Below w.heap.size w W) => (b.cell (p := ⟨xb, xo + D.length * 2, none⟩) hx).trans i0)
      have I1 := Lib.hid (fun W (b : Below w.heap.size w W) => (b.cell (p := ⟨xb, xo + D.length * 2 + 1, none⟩) hx).trans i1)
      have e0 := I0.out _ hD.cs.bel
      have e1 := I1.out _ hD.cs.bel
      have E1 := Lib.hid (hD.later (allocBP wr (.cells #[] 28)))
      have f7 := E1.out.cs.b0.cell 7
      have f1 := I1.out _ E1.out.cs.bel
      simp at f7
      have IRF := Lib.hid IRf
      have NB := Lib.hid (p := sl.length + 2 ≤ maxLen ∧ (sl.length + 2) * 24 ≤ 140737488355328) (by have := IRf.2.2.1; unfold maxLen; omega)
      have NG := Lib.hid (p := D.length + 1 ≤ maxLen ∧ (D.length + 1) * 32 ≤ 140737488355328) (by unfold maxLen; omega)
      have ST := Lib.hid (icsP_one sl)
      have SL := Lib.hid (icsP_len sl)
      have NW := Lib.hid (fun W (b : Below w.heap.size w W) => ir_newsH (IRF.out.later b))
      clear hc i0 i1 hs IRf hD hM1 hM2 hM3 hx nb2
      have A0 : True := trivial
      go_wp2_with (first
        | (at_builtin; have qq := A0; refine wp_appH rfl _ _ 36 rfl wr.heap.size 28 iI _ 3 24 Tryd.underlying36 hiI hziI0 hziI1 hziI2 rfl (by decide) (.slice (some ⟨wr.heap.size, 0, none⟩) 0 0) 0 [] rfl (lit_rowP wr _ 3) (by simp) sa sl.length sc (icsP sl) IRF.out.1 rfl SL.out (NW.out _ E1.out.cs.bel) ST.out (by have := NB.out; omega) (by have := NB.out; omega) (by simp) ?_; intro v2 w2 k1 k2 k3; rw [Nat.zero_add, List.nil_append] at k1; obtain ⟨g2, c2, rfl, _, _, _⟩ := row_someP k1 k3; have O2 := Lib.hid k1; have B2 := Lib.hid (show Below wr.heap.size wr w2 from (allocBP wr _).grown k2 (by simp) (fun k e => Nat.le_of_eq (Option.some.inj e))); clear k1 k2 k3 A0 c7 e0 e1 f7 f1)
        | (at_builtin; have qq := O2; refine wpList_append_own_at _ rfl _ _ 36 rfl wr.heap.size 28 iI _ 3 24 Tryd.underlying36 hiI hziI0 hziI1 hziI2 rfl (by decide) _ sl.length (icsP sl) rfl (O2.out.alloc _) ⟨w2.heap.size, 0, none⟩ 2 2 [.int .i64 (-77), .int .i64 0, .int .i64 0, .int .i64 (-77), .int .i64 0, .int .i64 0] rfl rfl (cell_six_new w2 _ _ _ _ _ _ _) (by intro u hu; simp at hu; rcases hu with rfl | rfl | rfl | rfl | rfl | rfl <;> rfl) NB.out.1 NB.out.2 (Nat.le_trans B2.out.size (by simp)) ?_; intro v3 w3 k1 k2 k3 k4; obtain ⟨g3, c3, rfl, e3, _, _⟩ := row_someP k1 (fun e => by have := (k3.1 e).1; cases this); have e4 : sl.length ≤ c3 := (by omega); have B3 := Lib.hid (show Below wr.heap.size wr w3 from (B2.out.alloc B2.out.size _).grown k2 (Nat.le_trans B2.out.size (by simp)) (fun k e => (O2.out.lt k e).1)); have O3 := Lib.hid k1; have D3 := Lib.hid (DD.out.later B3.out); have y7 := D3.out.cs.b0.cell 7; have y0 := I0.out _ D3.out.cs.bel; have y1 := I1.out _ D3.out.cs.bel; simp at y7; clear k1 k2 k3 k4 e3 O2 B2))
      have OWH := Lib.hid (p := ∀ W, Below w3.heap.size w3 W → W.ownsRow W3.heap.size 38 2 v D.length (sgsP D)) (fun W b => row_farP D3.out.own (gr_below b none) (fun k q e => by cases e))
      have GRH := Lib.hid (p := ∀ W w5 r, W.grownBy w5 r → Below w3.heap.size w3 W → w3.grownBy w5 r) (fun W w5 r g b => (gr_below b r).trans g)
      have BSH := Lib.hid (p := ∀ W, Below w3.heap.size w3 W → W3.heap.size ≤ W.heap.size ∧ w3.heap.size ≤ W.heap.size) (fun W b => ⟨Nat.le_trans D3.out.bb.2 b.size, b.size⟩)
      go_region_law (refine step_appG4 _ rfl _ _ 24 rfl W3.heap.size 38 iG _ 2 32 Tryd.underlying24 hiG hziG0 hziG1 hziG2 rfl (by decide) v D.length (sgsP D) rfl (OWH.out _ (allocBP w3 _).drew) ⟨w3.heap.size, 0, none⟩ 1 1 [.int .i64 sd, .slice (some ⟨g3, 0, none⟩) sl.length c3] rfl rfl (cell_two_new w3 _ _ _) (by intro u hu; simp at hu; rcases hu with rfl | rfl <;> rfl) NG.out.1 NG.out.2 (BSH.out _ (allocBP w3 _).drew).1 ?_; intro v5 w5 k1 k2 k3 k4; have G5 := Lib.hid (GRH.out _ _ _ k2 (allocBP w3 _).drew); have P5 := Lib.hid (p := v5.ownBlock = Value.ownBlock v ∨ ∃ k, v5.ownBlock = some k ∧ w3.heap.size ≤ k) (k4.imp id (fun q => ⟨_, q, (BSH.out _ (allocBP w3 _).drew).2⟩)); have O5 := Lib.hid k1; clear k1 k2 k3 k4)
      all_goals
        go_wp2
        go_roundw
        case rel =>
          have O3' : w3.ownsRow wr.heap.size 28 3 (.slice (some ⟨g3, 0, none⟩) (sl.length + 2) c3) (sl.length + 2) (icsP sl ++ icell i77 ++ icell i77) := by rw [List.append_assoc]; exact O3.out
          have X := D3.out.add ⟨wr.heap.size, w3.heap.size, 28, 3, .slice (some ⟨g3, 0, none⟩) (sl.length + 2) c3, sl.length + 2, icsP sl ++ icell i77 ++ icell i77⟩ ⟨O3', fun b e => (O3'.lt b e).2⟩ DD.out.cs.sz (Nat.le_refl _) (fun b e => (DD.out.own.lt b e).2)
          refine ⟨D ++ [⟨sd, some ⟨g3, 0, none⟩, c3, sl⟩], _, _, rfl, ?_, X.next ⟨sd, some ⟨g3, 0, none⟩, c3, sl⟩ G5.out O5.out P5.out hlt ?_ ⟨g3, _, _, rfl, List.mem_cons_self⟩, cp_more MM1.out, cp_more MM2.out, cp_more MM3.out⟩
          · simp
          · show _ = (days.getD D.length default).key; rw [HS.out]; rfl
        case measure => simp [intOf]; omega
    · have el : D.length = days.length := by have := hD.le; simp only at this; omega
      have NG := Lib.hid (p := D.length + 2 ≤ maxLen ∧ (D.length + 2) * 32 ≤ 140737488355328) (by have := HD.out.2.2.1; unfold maxLen; omega)
      have KY := Lib.hid hD.keys
      have MKS := Lib.hid hD.mks
      have elc : days.length ≤ D.length := by omega
      have EL := Lib.hid el
      clear hD hM1 hM2 hM3 el
      go_wp2_with (at_builtin; refine wpList_append_own_at _ rfl _ _ 24 rfl W3.heap.size 38 iG _ 2 32 Tryd.underlying24 hiG hziG0 hziG1 hziG2 rfl (by decide) v D.length (sgsP D) rfl (DD.out.own.alloc _) ⟨wr.heap.size, 0, none⟩ 2 2 [.int .i64 (-77), .slice none 0 0, .int .i64 (-77), .slice none 0 0] rfl rfl (cell_four_new wr _ _ _ _ _) (by intro u hu; simp at hu; rcases hu with rfl | rfl | rfl | rfl <;> rfl) NG.out.1 NG.out.2 (Nat.le_trans DD.out.bb.2 (by simp)) ?_; intro v5 w5 k1 k2 k3 k4; obtain ⟨g5, c5, rfl, e5, _, _⟩ := row_someP k1 (fun e => by have := (k3.1 e).2; omega); have e6 : days.length ≤ c5 := (by omega); have O5 := Lib.hid k1; have S5 := Lib.hid (((DD.out.cs.alloc _).far k2 (fun k e => Nat.le_trans DD.out.bb.1 (DD.out.own.lt k e).1) (fun r hr k e => DD.out.far r hr k e)).add ⟨W3.heap.size, w5.heap.size, 38, 2, .slice (some ⟨g5, 0, none⟩) (D.length + 2) c5, D.length + 2, _⟩ ⟨k1, fun b e => (k1.lt b e).2⟩ DD.out.bb.1 (Nat.le_refl _)); have y7 := S5.out.b0.cell 7; have y8 := S5.out.b0.frozen 7; simp at y7; have S6 := Lib.hid (S5.out.setQ 7 (by simp) (.slice (some ⟨g5, 0, none⟩) days.length c5)); clear k1 k2 k3 k4 e5; obtain ⟨W6, hW6⟩ : ∃ W, w5.setCell ⟨w.heap.size, 7, none⟩ (.slice (some ⟨g5, 0, none⟩) days.length c5) = W := ⟨_, rfl⟩; rw [hW6] at S6; simp at S6; have x0 := S6.out.b0.cell 0; have x1 := S6.out.b0.cell 1; have x2 := S6.out.b0.cell 2; have x3 := S6.out.b0.cell 3; have x4 := S6.out.b0.cell 4; have x5 := S6.out.b0.cell 5; have x6 := S6.out.b0.cell 6; have x7 := S6.out.b0.cell 7; have r0 := S6.out.b1.cell 0; have r1 := S6.out.b1.cell 1; have r2 := S6.out.b1.cell 2; have r3 := S6.out.b1.cell 3; have r4 := S6.out.b1.cell 4; have r5 := S6.out.b1.cell 5; have r6 := S6.out.b1.cell 6; have r7 := S6.out.b1.cell 7; have f0 := S6.out.b1.frozen 0; have f1 := S6.out.b1.frozen 1; have f2 := S6.out.b1.frozen 2; have f3 := S6.out.b1.frozen 3; have f4 := S6.out.b1.frozen 4; have f5 := S6.out.b1.frozen 5; have f6 := S6.out.b1.frozen 6; have f7 := S6.out.b1.frozen 7; simp [pz] at x0 x1 x2 x3 x4 x5 x6 x7 r0 r1 r2 r3 r4 r5 r6 r7)
      have FF := Lib.hid (S6.out.fin (.slice (some ⟨g0, 0, none⟩) names.length c0) (.slice (some ⟨g1, 0, none⟩) curs.length c1) (.slice (some ⟨g2, 0, none⟩) pool.length c2) (.int .i64 hor) (.int .i64 cells) (.int .i64 slots) (.int .i64 stack) (.slice (some ⟨g5, 0, none⟩) days.length c5))
      obtain ⟨f1, f2, f3, f4⟩ := FF.out _ rfl
      have k0 := f3.cell 0
      have k1 := f3.cell 1
      have k2 := f3.cell 2
      have k3 := f3.cell 3
      have k4 := f3.cell 4
      have k5 := f3.cell 5
      have k6 := f3.cell 6
      have k7 := f3.cell 7
      simp only [List.getElem?_toArray, List.getElem?_cons_zero, List.getElem?_cons_succ] at k0 k1 k2 k3 k4 k5 k6 k7
      refine bodyPost_ret (v := .agg #[.slice (some ⟨g0, 0, none⟩) names.length c0, .slice (some ⟨g1, 0, none⟩) curs.length c1, .slice (some ⟨g2, 0, none⟩) pool.length c2, .int .i64 hor, .int .i64 cells, .int .i64 slots, .int .i64 stack, .slice (some ⟨g5, 0, none⟩) days.length c5]) (by simp [results, Tryd.results4, go_sem, k0, k1, k2, k3, k4, k5, k6, k7]) rfl ?_
      refine ⟨⟨some ⟨g0, 0, none⟩, c0, names, some ⟨g1, 0, none⟩, c1, curs, some ⟨g2, 0, none⟩, c2, pool, hor, cells, slots, stack, some ⟨g5, 0, none⟩, c5, D⟩, ?_, ?_, ?_⟩
      · show Ending.returned _ = Ending.returned (.agg _); simp only [EL.out]
      · refine ⟨?_, (cp_more MM1.out).out f2, (cp_more MM2.out).out f2, (cp_more MM3.out).out f2, ?_, fun i hi => (cp_more (MKS.out i hi)).out f2⟩
        · have := KY.out
          simp only [EL.out, List.take_length] at this
          unfold Pg.key
          simp only [this]
        · have := (f2 _ List.mem_cons_self).own
          refine ⟨g5, W3.heap.size, rfl, ?_⟩
          rw [List.append_assoc]
          exact this
      · exact f1
end Go.Proofs.YtlcidigcecmnpaaDoor
