import Derived.Test.YtldplmchgmoopaaDoorXAQ
import Derived.Deep.Cut
import Derived.Deep.CutRange
import Derived.Deep.DeepCutAuto
namespace Go.Proofs.YtldplmchgmoopaaDoor
open Go.RowKit
set_option linter.unusedVariables false
set_option linter.unusedSimpArgs false

def mkC (m : Int) : Cl := ⟨true, -1000 - m⟩
def mkQ (q : Rw) (m : Int) : Rw := ⟨q.a, q.n, q.cap, List.replicate q.cs.length (mkC m)⟩
/-- So many rows are written full. -/
structure MkQ (qs qs' : List Rw) (mark : Int) (i : Nat) : Prop where
  len : qs'.length = qs.length
  old : ∀ k, k < i → qs'.getD k default = mkQ (qs.getD k default) (mark + 1 + k)
  new : ∀ k, i ≤ k → k < qs.length → qs'.getD k default = qs.getD k default
theorem MkQ.step {qs qs' : List Rw} {mark : Int} {i : Nat} (h : MkQ qs qs' mark i) (hi : i < qs.length) : MkQ qs (qs'.set i (mkQ (qs.getD i default) (mark + 1 + i))) mark (i + 1) := by
  have hi' : i < qs'.length := by rw [h.len]; exact hi
  refine ⟨by rw [List.length_set]; exact h.len, fun k hk => ?_, fun k h1 h2 => ?_⟩
  · by_cases q : k = i
    · subst q; simp [List.getD, hi']
    · rw [← h.old k (by omega)]; simp only [List.getD]; rw [List.getElem?_set_ne (fun e => q e.symm)]
  · rw [← h.new k (by omega) h2]; simp only [List.getD]; rw [List.getElem?_set_ne (by omega)]
/-- A cell of 'other'. -/
def oC : Cl := ⟨true, 99⟩
/-- A row that was left, grown. -/
def RowIt (sn : List (Nat × Obj)) (rv : Value) (m : Int) (n : Nat) : Prop := ∃ gg cap cur, rv = .slice (some ⟨gg, 0, none⟩) (n + 80) cap ∧ (gg, Obj.cells cur 65) ∈ sn ∧ cur.toList.take ((n + 80) * 2) = clv (List.replicate n (mkC m) ++ List.replicate 80 oC)
theorem RowIt.more {sn sn' : List (Nat × Obj)} {rv : Value} {m : Int} {n : Nat} (h : RowIt sn rv m n) (k : ∀ p ∈ sn, p ∈ sn') : RowIt sn' rv m n := by
  obtain ⟨gg, cap, cur, h1, h2, h3⟩ := h
  exact ⟨gg, cap, cur, h1, k _ h2, h3⟩
/-- The book behind so many rows. -/
def rowsG (g : Bg) (rvs : List Value) (mark : Int) (ns : List Nat) : Bg := { g with rv := g.rv ++ rvs, ms := g.ms ++ (List.range rvs.length).map (fun (k : Nat) => mark + 1 + (k : Int)), nn := g.nn ++ ns }
structure RowsIt (qs : List Rw) (sn : List (Nat × Obj)) (rvs : List Value) (mark : Int) (ns : List Nat) (i : Nat) : Prop where
  l1 : rvs.length = i
  l2 : ns = (qs.take i).map (·.cs.length)
  it : ∀ k, k < i → RowIt sn (rvs.getD k default) (mark + 1 + k) (qs.getD k default).cs.length
theorem RowsIt.step {qs : List Rw} {sn sn' : List (Nat × Obj)} {rvs : List Value} {mark : Int} {ns : List Nat} {i L : Nat} {x : Value} (h : RowsIt qs sn rvs mark ns i) (hi : i < qs.length) (hs : ∀ p ∈ sn, p ∈ sn') (hL : (qs.getD i default).cs.length = L) (hx : RowIt sn' x (mark + 1 + i) L) : RowsIt qs sn' (rvs ++ [x]) mark (ns ++ [L]) (i + 1) := by
  refine ⟨by rw [List.length_append, h.l1]; rfl, ?_, fun k hk => ?_⟩
  · rw [h.l2, List.take_add_one, List.getElem?_eq_getElem hi, List.map_append, ← hL]
    simp [List.getD, hi]
  · by_cases q : k = i
    · subst q
      rw [hL, show (rvs ++ [x]).getD k default = x by simp [List.getD, List.getElem?_append_right (show rvs.length ≤ k by rw [h.l1]; exact Nat.le_refl _), h.l1]]
      exact hx
    · rw [show (rvs ++ [x]).getD k default = rvs.getD k default by simp only [List.getD]; rw [List.getElem?_append_left (by rw [h.l1]; omega)]]
      exact (h.it k (by omega)).more hs
theorem rowsG_step {g : Bg} {rvs : List Value} {mark : Int} {ns : List Nat} {i L : Nat} {x : Value} (h : rvs.length = i) : rowsG g (rvs ++ [x]) mark (ns ++ [L]) = { rowsG g rvs mark ns with rv := (rowsG g rvs mark ns).rv ++ [x], ms := (rowsG g rvs mark ns).ms ++ [mark + 1 + (i : Int)], nn := (rowsG g rvs mark ns).nn ++ [L] } := by
  unfold rowsG
  simp [List.range_succ, h, List.append_assoc]
theorem set_at {qs : List Rw} {i : Nat} {q : Rw} (hi : i < qs.length) : (qs.set i q).getD i default = q := by simp [List.getD, hi]
theorem RwO.write2 {W : World} {B i j z L : Nat} {v : Value} {qs : List Rw} {rc : List Cl} (h : RwO W B v (qs.set i ⟨some ⟨z, 0, none⟩, L, L, rc⟩)) (hi : i < qs.length) (hj : j < rc.length) (c : Cl) :
    RwO ((W.setCell ⟨z, j * 2, none⟩ (.bool c.h)).setCell ⟨z, j * 2 + 1, none⟩ (.int .i64 c.v)) B v (qs.set i ⟨some ⟨z, 0, none⟩, L, L, rc.set j c⟩) := by
  have hi' : i < (qs.set i (⟨some ⟨z, 0, none⟩, L, L, rc⟩ : Rw)).length := by rw [List.length_set]; exact hi
  have := h.write hi' (by rw [set_at hi]) (by rw [set_at hi]; exact hj) c
  rwa [set_at hi, List.set_set] at this
theorem RwO.row {W : World} {B i z L : Nat} {v : Value} {qs : List Rw} {rc : List Cl} (h : RwO W B v (qs.set i ⟨some ⟨z, 0, none⟩, L, L, rc⟩)) (hi : i < qs.length) : W.heap[z]? = some (.cells (clv rc).toArray 65) ∧ B ≤ z ∧ rc.length = L := by
  have hi' : i < (qs.set i (⟨some ⟨z, 0, none⟩, L, L, rc⟩ : Rw)).length := by rw [List.length_set]; exact hi
  obtain ⟨y, e1, e2, e3, _, hb⟩ := h.ok ⟨some ⟨z, 0, none⟩, L, L, rc⟩ (by
    have := List.getElem_mem hi'
    rwa [List.getElem_set_self] at this)
  simp only at e1 e3 hb
  injection e1 with e1
  injection e1 with e1
  subst e1
  exact ⟨hb, e2, e3.symm⟩
theorem cells2 {W : World} {z j : Nat} {rc : List Cl} (h : W.heap[z]? = some (.cells (clv rc).toArray 65)) (hj : j < rc.length) : W.cell? ⟨z, j * 2, none⟩ = some (.bool (rc.getD j default).h) ∧ W.cell? ⟨z, j * 2 + 1, none⟩ = some (.int .i64 (rc.getD j default).v) ∧ W.frozen? ⟨z, j * 2, none⟩ = false ∧ W.frozen? ⟨z, j * 2 + 1, none⟩ = false := by
  refine ⟨?_, ?_, Joins.unfrozen_of_block h _, Joins.unfrozen_of_block h _⟩
  · have := clv_at rc j hj 0 (by omega)
    rw [Joins.cell_of_block h]
    simpa [Cl.two] using this
  · have := clv_at rc j hj 1 (by omega)
    rw [Joins.cell_of_block h]
    simpa [Cl.two] using this
theorem Fr.drew (B bk : Nat) (w : World) : Fr B bk w w.drew := ⟨rfl, rfl, rfl, Nat.le_refl _, fun _ _ _ => rfl⟩
theorem gr_two (W : World) (z i j : Nat) (u v : Value) : W.grownBy ((W.setCell ⟨z, i, none⟩ u).setCell ⟨z, j, none⟩ v) (some z) := by
  refine ⟨rfl, rfl, rfl, by simp, fun k hk hr => ?_⟩
  have : ¬ z = k := fun e => hr (by rw [e])
  simp [World.setCell, Array.getElem?_modify, this]
theorem nd_cons {gg : Nat} {sn : List (Nat × Obj)} (h : ∀ p ∈ sn, p.1 ≠ gg) (k : (sn.map (·.1)).Nodup) : (gg :: sn.map (·.1)).Nodup :=
  List.nodup_cons.2 ⟨fun q => by obtain ⟨p, hp, e⟩ := List.mem_map.1 q; exact h p hp e, k⟩
theorem infoRR : (Tryd.prog.info? 23).map (fun i => (i.zero, i.size, i.bytes)) = some (some (.slice none 0 0), 1, 24) := by kernel_rfl
/-- An outer list that was left, grown. -/
def OutIt (sn : List (Nat × Obj)) (gv : Value) (n : Nat) : Prop := ∃ gg cap cur es, gv = .slice (some ⟨gg, 0, none⟩) (n + 20) cap ∧ (gg, Obj.cells cur 50) ∈ sn ∧ cur.toList.take (n + 20) = List.replicate n (.slice none 0 0) ++ es ∧ es.length = 20 ∧ ∀ e ∈ es, ∃ b, e = Value.slice (some ⟨b, 0, none⟩) 1 1
theorem OutIt.more {sn sn' : List (Nat × Obj)} {gv : Value} {n : Nat} (h : OutIt sn gv n) (k : ∀ p ∈ sn, p ∈ sn') : OutIt sn' gv n := by
  obtain ⟨gg, cap, cur, es, h1, h2, h3⟩ := h
  exact ⟨gg, cap, cur, es, h1, k _ h2, h3⟩
theorem RowsIt.more {qs : List Rw} {sn sn' : List (Nat × Obj)} {rvs : List Value} {mark : Int} {ns : List Nat} {i : Nat} (h : RowsIt qs sn rvs mark ns i) (k : ∀ p ∈ sn, p ∈ sn') : RowsIt qs sn' rvs mark ns i := ⟨h.l1, h.l2, fun j hj => (h.it j hj).more k⟩
/-- What rows are left as. -/
def RwE (B bk : Nat) (g : Bg) (sn : List (Nat × Obj)) (mark : Int) (a : Option Addr) (qs : List Rw) (n : Nat) (w w' : World) : Prop :=
  ∃ vs' rvs ns gv add, Bk w' B bk vs' { rowsG g rvs mark ns with ov := (rowsG g rvs mark ns).ov ++ [gv], fr := (rowsG g rvs mark ns).fr ++ [n] } (add ++ sn) (mark + n) false ∧ RowsIt qs add rvs mark ns n ∧ OutIt add gv n ∧ OldIt add 50 a n (List.replicate n (.slice none 0 0)) ∧ (((add ++ sn).map (·.1)).Nodup) ∧ Fr B bk w w'
set_option maxRecDepth 100000 in
set_option maxHeartbeats 8000000 in
theorem rows_early (B bk : Nat) (vs : List Value) (g : Bg) (sn : List (Nat × Obj)) (mark : Int) (a : Option Addr) (n c : Nat) (qs : List Rw) (w : World) (h : Bk w B bk vs g sn mark false) (hB : B ≤ w.heap.size) (o : RwO w B (.slice a n c) qs) (fr : FrR bk vs g.fs sn (.slice a n c) qs) (ot : Ot w) (hO : 0 < B ∧ 0 ≠ bk)
    (hs : (sn.map (·.1)).Nodup) (hn : n ≤ 1000000) (hq : ∀ q ∈ qs, q.cs.length ≤ 2000000) (hm : 0 ≤ mark ∧ mark ≤ 1000000000000000) (hg : g.rv.length ≤ 1000000000000 ∧ g.ms.length ≤ 1000000000000 ∧ g.nn.length ≤ 1000000000000 ∧ g.ov.length ≤ 1000000000000 ∧ g.fr.length ≤ 1000000000000) :
    Calls Tryd.prog 20 #[.pointer (some ⟨bk, 0, none⟩), .slice a n c] w fun e w' => e = .returned (.tuple #[]) ∧ RwE B bk g sn mark a qs n w w' := by
  have QN := Lib.hid (p := qs.length = n) (own_len o.own).symm
  have H0 := Lib.hid h
  have O0 := Lib.hid o
  have FR0 := Lib.hid fr
  have HQ := Lib.hid hq
  have NDS := Lib.hid hs
  obtain ⟨c0, c1, c2⟩ := h.cells
  clear h o fr hq hs
  go_enter Tryd.func20, Tryd.ntmps20
  go_wp2
  go_loopw [7] (fun t ws => ∃ (i : Nat) (qs' : List Rw) (vs' : List Value), i ≤ n ∧ t = .int .i64 (i : Int) ∧ RowKit.Hid (MkQ qs qs' mark i ∧ RwO ws B (.slice a n c) qs' ∧ Bk ws B bk vs' g sn (mark + i) false ∧ FrR bk vs' g.fs sn (.slice a n c) qs' ∧ Fr B bk w ws)) (fun t _ => n - (intOf t).toNat)
  case atStart => exact ⟨0, qs, vs, Nat.zero_le _, rfl, ⟨rfl, (fun k hk => absurd hk (by omega)), fun _ _ _ => rfl⟩, O0.out, by simpa using H0.out, FR0.out, Fr.refl _ _ _⟩
  case round =>
    obtain ⟨i, qs', vs', hi, rfl, hQ⟩ := hrel
    rename World => ws
    have MQ := Lib.hid hQ.out.1
    have OS := Lib.hid hQ.out.2.1
    have HS := Lib.hid hQ.out.2.2.1
    have RS := Lib.hid hQ.out.2.2.2.1
    have FS := Lib.hid hQ.out.2.2.2.2
    clear hQ
    by_cases hlt : i < n
    · have kc : (i : Int) < (n : Int) := by omega
      have kwi : IntKind.i64.wrap ((i : Int) + 1) = (i : Int) + 1 := by simp [IntKind.wrap, IntKind.bits, IntKind.signed]; omega
      obtain ⟨m, hm2⟩ : ∃ m : Int, mark + i + 1 = m := ⟨_, rfl⟩
      have kwm : IntKind.i64.wrap (mark + (i : Int) + 1) = m := by rw [← hm2]; simp [IntKind.wrap, IntKind.bits, IntKind.signed]; omega
      have mb : 1 ≤ m ∧ m ≤ 1000000001000000 := by omega
      have EM := Lib.hid (p := mark + 1 + (i : Int) = m) (by omega)
      obtain ⟨rb, rfl⟩ : ∃ z, a = some ⟨z, 0, none⟩ := by
        rcases OS.out.own.2 with ⟨e, e0⟩ | ⟨z, _, _, e, _⟩
        · have := MQ.out.len; have := QN.out; omega
        · injection e with e1 e2 e3; exact ⟨z, e1⟩
      have hiq : i < qs.length := by rw [QN.out]; exact hlt
      have hiq' : i < qs'.length := by rw [MQ.out.len]; exact hiq
      have EQ := Lib.hid (MQ.out.new i (Nat.le_refl _) hiq)
      obtain ⟨x0, x1, x2⟩ := HS.out.cells
      have H1 := Lib.hid (HS.out.mark m)
      have R1 := Lib.hid (frR_mark (u := .int .i64 m) RS.out)
      have F1 := Lib.hid (FS.out.trans (Fr.set (o := 11) (.int .i64 m)))
      have O1 := Lib.hid (p := RwO (ws.setCell ⟨bk, 11, none⟩ (.int .i64 m)) B (.slice (some ⟨rb, 0, none⟩) n c) qs') (OS.out.turn HS.out.o.hb (by decide) (by decide) (grT_set ws bk 11 _))
      obtain ⟨w1, hw1⟩ : ∃ u, ws.setCell ⟨bk, 11, none⟩ (.int .i64 m) = u := ⟨_, rfl⟩
      obtain ⟨vs1, hvs1⟩ : ∃ u, vs'.set 11 (.int .i64 m) = u := ⟨_, rfl⟩
      rw [hw1] at H1 O1 F1
      rw [hvs1] at H1 R1
      clear hvs1
      obtain ⟨Q, hQe⟩ : ∃ q, qs.getD i default = q := ⟨_, rfl⟩
      have hQm : Q ∈ qs := by rw [← hQe, show qs.getD i default = qs[i] by simp [List.getD, hiq]]; exact List.getElem_mem hiq
      have QL := Lib.hid (HQ.out Q hQm)
      have QE := Lib.hid (p := qs.getD i default = Q ∧ qs'.getD i default = Q) ⟨hQe, by rw [EQ.out]; exact hQe⟩
      clear hQe hQm EQ
      obtain ⟨z, qa, qz, qn, qc, _⟩ := O1.out.ok (qs'.getD i default) (by rw [show qs'.getD i default = qs'[i] by simp [List.getD, hiq']]; exact List.getElem_mem hiq')
      rw [QE.out.2] at qa qn qc
      obtain ⟨Qa, Qn, Qc, Qcs⟩ := Q
      simp only at qa qn qc QL
      subst qa qn qc
      obtain ⟨L, hL⟩ : ∃ L, Qcs.length = L := ⟨_, rfl⟩
      rw [hL] at QL
      go_wp2
      have zfree := Lib.hid (R1.out.2 (qs'.getD i default) (by rw [show qs'.getD i default = qs'[i] by simp [List.getD, hiq']]; exact List.getElem_mem hiq') z (by rw [QE.out.2]))
      have OI := Lib.hid (p := RwO w1 B (.slice (some ⟨rb, 0, none⟩) n c) (qs'.set i ⟨some ⟨z, 0, none⟩, L, L, Qcs⟩)) (by
        have e : qs'.set i ⟨some ⟨z, 0, none⟩, L, L, Qcs⟩ = qs' := by
          have := QE.out.2
          rw [hL] at this
          rw [← this, show qs'.getD i default = qs'[i] by simp [List.getD, hiq'], List.set_getElem_self]
        rw [e]; exact O1.out)
      have HL := Lib.hid hL
      clear hL
      go_loopw [8] (fun t wu => ∃ (j : Nat) (rc : List Cl), j ≤ L ∧ t = .int .i64 (j : Int) ∧ RowKit.Hid (rc.take j = List.replicate j (mkC m) ∧ RwO wu B (.slice (some ⟨rb, 0, none⟩) n c) (qs'.set i ⟨some ⟨z, 0, none⟩, L, L, rc⟩) ∧ Bk wu B bk vs1 g sn m false ∧ Fr B bk w1 wu)) (fun t _ => L - (intOf t).toNat)
      case atStart => exact ⟨0, Qcs, Nat.zero_le _, rfl, rfl, OI.out, H1.out, Fr.refl _ _ _⟩
      case round =>
        obtain ⟨j, rc, hj, rfl, hQ⟩ := hrel
        rename World => wu
        have YT := Lib.hid hQ.out.1
        have OU := Lib.hid hQ.out.2.1
        have HU := Lib.hid hQ.out.2.2.1
        have FU := Lib.hid hQ.out.2.2.2
        clear hQ
        obtain ⟨zb, zB, rl⟩ := OU.out.row hiq'
        have l0 := OU.out.cell (i := i) (by rw [List.length_set]; exact hiq')
        rw [set_at hiq'] at l0
        simp only at l0
        have RC := Lib.hid (p := ∀ (W : World) (r : List Cl), RwO W B (.slice (some ⟨rb, 0, none⟩) n c) (qs'.set i ⟨some ⟨z, 0, none⟩, L, L, r⟩) → W.cell? ⟨rb, i, none⟩ = some (.slice (some ⟨z, 0, none⟩) L L)) (fun W r hr => by
          have q := hr.cell (i := i) (by rw [List.length_set]; exact hiq')
          rw [set_at hiq'] at q
          exact q)
        by_cases hjl : j < L
        · have kj : (j : Int) < (L : Int) := by omega
          have lb := QL.out
          have kwj : IntKind.i64.wrap ((j : Int) + 1) = (j : Int) + 1 := by simp [IntKind.wrap, IntKind.bits, IntKind.signed]; omega
          have kws : IntKind.i64.wrap (-1000 - m) = -1000 - m := by simp [IntKind.wrap, IntKind.bits, IntKind.signed]; omega
          obtain ⟨f0, f1, f2, f3⟩ := cells2 zb (j := j) (by rw [rl]; exact hjl)
          obtain ⟨b0, _, _⟩ := HU.out.cells
          have O2 := Lib.hid (OU.out.write2 hiq' (j := j) (by rw [rl]; exact hjl) (mkC m))
          have H2 := Lib.hid (HU.out.other (gr_two wu z (j * 2) (j * 2 + 1) (.bool true) (.int .i64 (-1000 - m))) (fun x e => by injection e with e; subst e; exact zfree.out))
          have F2 := Lib.hid (FU.out.trans ((Fr.put (o := j * 2) zB (.bool true)).trans (Fr.put (o := j * 2 + 1) zB (.int .i64 (-1000 - m)))))
          have Y2 := Lib.hid (p := (rc.set j (mkC m)).take (j + 1) = List.replicate (j + 1) (mkC m)) (by
            rw [List.take_set, List.take_add_one, YT.out, List.getElem?_eq_getElem (by omega), List.replicate_succ', List.set_append_right _ _ (by simp)]
            simp)
          have S2 := Lib.hid (p := ((wu.setCell ⟨z, j * 2, none⟩ (.bool true)).setCell ⟨z, j * 2 + 1, none⟩ (.int .i64 (-1000 - m))).cell? ⟨rb, i, none⟩ = some (.slice (some ⟨z, 0, none⟩) L L) ∧ ((wu.setCell ⟨z, j * 2, none⟩ (.bool true)).setCell ⟨z, j * 2 + 1, none⟩ (.int .i64 (-1000 - m))).cell? ⟨bk, 11, none⟩ = some (.int .i64 m)) ⟨RC.out _ _ O2.out, H2.out.cells.1⟩
          clear zb
          generalize rc.getD j default = old at f0 f1
          go_wp2
          go_region_held3 (fun w' => w'.cell? ⟨rb, i, none⟩ = some (.slice (some ⟨z, 0, none⟩) L L) ∧ w'.cell? ⟨bk, 11, none⟩ = some (.int .i64 m)) (first | exact ⟨l0, b0⟩ | exact S2.out) (fail)
          go_wp2
          refine ⟨⟨j + 1, _, by omega, by go_num, Y2.out, O2.out.below (Below.refl _ _).drew, H2.out.below (Below.refl _ _).drew, F2.out.trans (Fr.drew _ _ _)⟩, ?_⟩
          simp [intOf]; omega
        · have ej : L = j := by omega
          subst ej
          have kj : ¬ (L : Int) < (L : Int) := by omega
          have RE : rc = List.replicate L (mkC m) := by have := YT.out; rwa [List.take_of_length_le (by omega)] at this
          subst RE
          have MQ2 := Lib.hid (p := MkQ qs (qs'.set i ⟨some ⟨z, 0, none⟩, L, L, List.replicate L (mkC m)⟩) mark (i + 1)) (by
            have := MQ.out.step hiq
            rw [QE.out.1, EM.out] at this
            unfold mkQ at this
            simp only [HL.out] at this
            exact this)
          have HE := Lib.hid (p := Bk wu B bk vs1 g sn (mark + ((i + 1 : Nat) : Int)) false) (by rw [show mark + ((i + 1 : Nat) : Int) = m by omega]; exact HU.out)
          have RE2 := Lib.hid (p := FrR bk vs1 g.fs sn (.slice (some ⟨rb, 0, none⟩) n c) (qs'.set i ⟨some ⟨z, 0, none⟩, L, L, List.replicate L (mkC m)⟩)) (frR_set R1.out (fun _ => by
            have := QE.out.2
            rw [show qs'.getD i default = qs'[i] by simp [List.getD, hiq']] at this
            rw [this]))
          have FE := Lib.hid (F1.out.trans FU.out)
          clear zb
          go_wp2
          go_roundw
          case rel => exact ⟨i + 1, _, vs1, by omega, by go_num, MQ2.out, OU.out, HE.out, RE2.out, FE.out⟩
          case measure => simp [intOf]; omega
    · have ei : n = i := by omega
      subst ei
      have kc : ¬ (n : Int) < (n : Int) := by omega
      have P0 := Lib.hid OS.out.part
      have R0 := Lib.hid RS.out.part
      have QL' := Lib.hid (p := qs'.length = n) (by rw [MQ.out.len]; exact QN.out)
      have QK := Lib.hid (p := ∀ k, k < n → ∃ z, qs'.getD k default = ⟨some ⟨z, 0, none⟩, (qs.getD k default).cs.length, (qs.getD k default).cs.length, List.replicate (qs.getD k default).cs.length (mkC (mark + 1 + k))⟩ ∧ (qs.getD k default).cs.length ≤ 2000000) (fun k hk => by
        have hkq : k < qs.length := by rw [QN.out]; exact hk
        have hkq' : k < qs'.length := by rw [QL'.out]; exact hk
        obtain ⟨z, e1, _, e3, e4, _⟩ := OS.out.ok (qs'.getD k default) (by rw [show qs'.getD k default = qs'[k] by simp [List.getD, hkq']]; exact List.getElem_mem hkq')
        have e := MQ.out.old k hk
        rw [e] at e1 e3 e4 ⊢
        unfold mkQ at e1 e3 e4 ⊢
        simp only [List.length_replicate] at e1 e3 e4
        refine ⟨z, by rw [e1, e3, e4], HQ.out _ (by rw [show qs.getD k default = qs[k] by simp [List.getD, hkq]]; exact List.getElem_mem hkq)⟩)
      go_wp2
      go_loopw [9] (fun t ws => ∃ (i : Nat) (rvs : List Value) (ns : List Nat) (sn' : List (Nat × Obj)) (vs' : List Value), i ≤ n ∧ t = .int .i64 (i : Int) ∧ RowKit.Hid ((∃ ad, sn' = ad ++ sn ∧ RowsIt qs ad rvs mark ns i) ∧ RwP ws B (.slice a n c) qs' i ∧ Bk ws B bk vs' (rowsG g rvs mark ns) sn' (mark + n) false ∧ FrP bk vs' (rowsG g rvs mark ns).fs sn' (.slice a n c) qs' i ∧ ((∃ ad, sn' = ad ++ sn) ∧ (sn'.map (·.1)).Nodup) ∧ Fr B bk w ws)) (fun t _ => n - (intOf t).toNat)
      case atStart => exact ⟨0, [], [], sn, vs', Nat.zero_le _, rfl, ⟨[], rfl, rfl, rfl, fun k hk => absurd hk (by omega)⟩, P0.out, by simpa [rowsG] using HS.out, by simpa [rowsG] using R0.out, ⟨⟨[], rfl⟩, NDS.out⟩, FS.out⟩
      case round =>
        obtain ⟨i, rvs, ns, sn', vs2, hi, rfl, hQ⟩ := hrel
        rename World => wr
        obtain ⟨ad, ead, hIT⟩ := hQ.out.1
        have IT := Lib.hid hIT
        have EAD := Lib.hid ead
        clear hIT ead
        have PR := Lib.hid hQ.out.2.1
        have HR := Lib.hid hQ.out.2.2.1
        have RR := Lib.hid hQ.out.2.2.2.1
        have SR := Lib.hid hQ.out.2.2.2.2.1
        have FR := Lib.hid hQ.out.2.2.2.2.2
        clear hQ
        by_cases hlt : i < n
        · have kc : (i : Int) < (n : Int) := by omega
          have kwi : IntKind.i64.wrap ((i : Int) + 1) = (i : Int) + 1 := by simp [IntKind.wrap, IntKind.bits, IntKind.signed]; omega
          obtain ⟨rb, rfl⟩ : ∃ z, a = some ⟨z, 0, none⟩ := by
            rcases PR.out.own.2 with ⟨e, e0⟩ | ⟨z, _, _, e, _⟩
            · have := QL'.out; omega
            · injection e with e1 e2 e3; exact ⟨z, e1⟩
          have hiq' : i < qs'.length := by rw [QL'.out]; exact hlt
          obtain ⟨z, hqz, hlb⟩ := QK.out i hlt
          obtain ⟨L, hL⟩ : ∃ L, (qs.getD i default).cs.length = L := ⟨_, rfl⟩
          rw [hL] at hqz hlb
          have l0 := PR.out.cell (k := i) hiq'
          have qo := PR.out.ok i (Nat.le_refl _) hiq'
          rw [hqz] at l0 qo
          have OW := Lib.hid (q_own qo (by simpa using hlb))
          have ZF := Lib.hid (RR.out.2 i (Nat.le_refl _) hiq' z (by rw [hqz]))
          have ZN := Lib.hid (p := ∀ k, i < k → k < qs'.length → (qs'.getD k default).a ≠ some ⟨z, 0, none⟩) (fun k h1 h2 e => by
            have nd := PR.out.nd
            rw [List.pairwise_iff_getElem] at nd
            have := nd i k hiq' h2 h1
            rw [show qs'.getD i default = qs'[i] by simp [List.getD, hiq']] at hqz
            rw [show qs'.getD k default = qs'[k] by simp [List.getD, h2]] at e
            rw [hqz, e] at this
            exact this rfl)
          have ZO := Lib.hid (p := rb ≠ z) (fun e => by
            obtain ⟨cur, q⟩ := own_blk PR.out.own (b := rb) rfl
            obtain ⟨_, _, _, _, _, q2⟩ := qo
            subst e
            obtain ⟨y, y1, _, _, _, y5⟩ := PR.out.ok i (Nat.le_refl _) hiq'
            rw [hqz] at y1
            simp only at y1
            injection y1 with y1
            injection y1 with y1
            subst y1
            exact blk_ty q y5 (by decide) rfl)
          have HLL := Lib.hid hL
          have OTW := Lib.hid (ot.fr FR.out hO.1 hO.2)
          clear qo hL
          simp only at l0
          go_wp2
          obtain ⟨gi, hgi⟩ : ∃ x, rowsG g rvs mark ns = x := ⟨_, rfl⟩
          rw [hgi] at HR RR ZF
          have HGI := Lib.hid hgi
          clear hgi
          go_loopw [10, 11] (fun v t wu => ∃ j : Nat, j ≤ 80 ∧ t = .int .i64 (j : Int) ∧ RowKit.Hid (wu.ownsRow B 65 2 v (L + j) (clv (List.replicate L (mkC (mark + 1 + i)) ++ List.replicate j oC)) ∧ (∀ y, v.ownBlock = some y → BkO.Free bk vs2 gi.fs sn' y ∧ (∀ k, i < k → k < qs'.length → (qs'.getD k default).a ≠ some ⟨y, 0, none⟩) ∧ rb ≠ y) ∧ RwP wu B (.slice (some ⟨rb, 0, none⟩) n c) qs' (i + 1) ∧ Bk wu B bk vs2 gi sn' (mark + n) false ∧ Fr B bk w wu)) (fun _ t _ => 80 - (intOf t).toNat)
          case atStart => exact ⟨0, Nat.zero_le _, rfl, by simpa [qv] using OW.out, (fun y e => by injection e with e; subst e; exact ⟨ZF.out, ZN.out, ZO.out⟩), PR.out.next, HR.out, FR.out⟩
          case round =>
            obtain ⟨j, hj, rfl, hQ⟩ := hrel
            rename World => wu
            have OU := Lib.hid hQ.out.1
            have YU := Lib.hid hQ.out.2.1
            have PU := Lib.hid hQ.out.2.2.1
            have HU := Lib.hid hQ.out.2.2.2.1
            have FU := Lib.hid hQ.out.2.2.2.2
            clear hQ
            have hBu : B ≤ wu.heap.size := by have := FU.out.size; omega
            by_cases hj8 : j < 80
            · have kj : (j : Int) < 80 := by omega
              have kwj : IntKind.i64.wrap ((j : Int) + 1) = (j : Int) + 1 := by simp [IntKind.wrap, IntKind.bits, IntKind.signed]; omega
              obtain ⟨u0, u1⟩ := ot.fr FU.out hO.1 hO.2
              have BA := Lib.hid (below_al wu (.cells #[.bool true, .int .i64 99] 65))
              have OA := Lib.hid (own_back OU.out BA.out)
              have HA := Lib.hid (HU.out.below BA.out)
              have PA := Lib.hid (PU.out.below BA.out)
              have FA := Lib.hid (FU.out.trans (Fr.below BA.out hBu))
              have RPL := Lib.hid (p := List.replicate L (mkC (mark + 1 + i)) ++ List.replicate (j + 1) oC = (List.replicate L (mkC (mark + 1 + i)) ++ List.replicate j oC) ++ [oC]) (by rw [List.append_assoc, ← List.replicate_succ'])
              go_wp2_with (at_builtin; refine wp_appB Tryd.underlying50 infoC rfl (by decide) _ B (Nat.le_trans hBu BA.out.size) ⟨wu.heap.size, 0, none⟩ 1 1 [.bool true, .int .i64 99] rfl (two_news wu (.bool true) (.int .i64 99) 65) (by simp [Value.oneCell']) rfl _ _ rfl _ _ _ rfl OA.out rfl (by unfold maxLen; omega) (by omega) ?_; intro v2 w2 O2 G2 E2; have O3 := Lib.hid O2; have G3 := Lib.hid G2; have E3 := Lib.hid E2; clear O2 G2 E2)
              have R3 := Lib.hid (p := ∀ y, v2.ownBlock = some y → BkO.Free bk vs2 gi.fs sn' y ∧ (∀ k, i < k → k < qs'.length → (qs'.getD k default).a ≠ some ⟨y, 0, none⟩) ∧ rb ≠ y) (fun y e => by
                rcases E3.out with q | q
                · exact YU.out y (q.symm.trans e)
                · rw [q] at e
                  injection e with e
                  refine ⟨HA.out.o.new (Nat.le_of_eq e), fun k h1 h2 x => ?_, fun x => ?_⟩
                  · have := (PA.out.lt y (.inr ⟨k, h1, h2, x⟩)).1; omega
                  · have := (PA.out.lt rb (.inl rfl)).1; omega)
              have H3 := Lib.hid (HA.out.other G3.out (fun y e => (YU.out y e).1))
              have P3 := Lib.hid (PA.out.keep (fun y e => G3.out.block y (PA.out.lt y (.inl e)).1 (fun q => by injection e with e; exact (YU.out y q.symm).2.2 e)) (fun k h1 h2 y e => G3.out.block y (PA.out.lt y (.inr ⟨k, h1, h2, e⟩)).1 (fun q => (YU.out y q.symm).2.1 k h1 h2 e)))
              have F3 := Lib.hid (FA.out.trans (Fr.grown G3.out (Nat.le_trans hBu BA.out.size) (fun y e => (OA.out.lt y e).1)))
              go_roundw
              case rel => exact ⟨j + 1, by omega, by go_num, by rw [RPL.out, clv_snoc]; exact O3.out, R3.out, P3.out, H3.out, F3.out⟩
              case measure => simp [intOf]; omega
            · have ej : j = 80 := by omega
              subst ej
              have kj : ¬ (80 : Int) < 80 := by omega
              obtain ⟨va, vc, hv⟩ := own_form2 OU.out
              subst hv
              obtain ⟨gg, cur, rfl, hcur, hck⟩ : ∃ gg cur, va = some ⟨gg, 0, none⟩ ∧ wu.heap[gg]? = some (.cells cur 65) ∧ cur.toList.take ((L + 80) * 2) = clv (List.replicate L (mkC (mark + 1 + i)) ++ List.replicate 80 oC) := by
                rcases OU.out.2 with ⟨e, e0⟩ | ⟨gg, cap, cur, e, _, q1, _, _, _, q5⟩
                · omega
                · injection e with e1 e2 e3
                  exact ⟨gg, cur, e1, q1, q5⟩
              have HL := Lib.hid (p := Bk wu B bk vs2 gi ((gg, .cells cur 65) :: sn') (mark + n) false) ⟨HU.out.o.leave hcur (YU.out gg rfl).1, HU.out.mt, HU.out.lt⟩
              have FL := Lib.hid (p := FrP bk vs2 gi.fs ((gg, .cells cur 65) :: sn') (.slice (some ⟨rb, 0, none⟩) n c) qs' (i + 1)) (RR.out.leave (Nat.le_succ _) (fun y hy e => by
                subst e
                rcases hy with q | ⟨k, h1, h2, q⟩
                · injection q with q; exact (YU.out gg rfl).2.2 q
                · exact (YU.out gg rfl).2.1 k h1 h2 q))
              have CK := Lib.hid hck
              have GL := Lib.hid (p := gi.rv.length ≤ 1000001000000 ∧ gi.ms.length ≤ 1000001000000 ∧ gi.nn.length ≤ 1000001000000) (by
                have l1 := IT.out.l1
                have l2 := congrArg List.length IT.out.l2
                rw [← HGI.out]
                simp only [rowsG, List.length_append, List.length_map, List.length_range, List.length_take] at l2 ⊢
                omega)
              obtain ⟨V0, hV0⟩ : ∃ V, vs2.getD 0 default = V := ⟨_, rfl⟩
              obtain ⟨V1, hV1⟩ : ∃ V, vs2.getD 1 default = V := ⟨_, rfl⟩
              obtain ⟨V2, hV2⟩ : ∃ V, vs2.getD 2 default = V := ⟨_, rfl⟩
              have S0 := Lib.hid (HL.out.grow (g' := { gi with rv := gi.rv ++ [.slice (some ⟨gg, 0, none⟩) (L + 80) vc] }) 0 50 gi.rv.length gi.rv (.slice (some ⟨gg, 0, none⟩) (L + 80) vc) (gi.fs.take 0) (gi.fs.drop 1) rfl (by simp [Bg.fs]) hBu)
              have T0 := Lib.hid (fun v' w' g2 eb => HL.out.grow3 (g' := { gi with rv := gi.rv ++ [.slice (some ⟨gg, 0, none⟩) (L + 80) vc] }) (v' := v') (w' := w') 0 50 gi.rv.length gi.rv (.slice (some ⟨gg, 0, none⟩) (L + 80) vc) (gi.fs.take 0) (gi.fs.drop 1) rfl (by simp [Bg.fs]) g2 eb PU.out FL.out)
              rw [hV0] at S0 T0
              have HV := Lib.hid (p := vs2.getD 1 default = V1 ∧ vs2.getD 2 default = V2) ⟨hV1, hV2⟩
              obtain ⟨c00, o00, _⟩ := S0.out
              have N5 := Lib.hid True.intro
              have kw1 : IntKind.i64.wrap (mark + 1) = mark + 1 := by simp [IntKind.wrap, IntKind.bits, IntKind.signed]; omega
              have kw2 : IntKind.i64.wrap (mark + 1 + (i : Int)) = mark + 1 + (i : Int) := by simp [IntKind.wrap, IntKind.bits, IntKind.signed]; omega
              clear hcur hck hV0 hV1 hV2
              go_upto_region 27 with (first
                | (at_builtin; have qq := N5; refine wp_appB Tryd.underlying23 infoR rfl (by decide) _ B (Nat.le_trans hBu (by simp)) ⟨wu.heap.size, 0, none⟩ 1 1 [.slice (some ⟨gg, 0, none⟩) (L + 80) vc] rfl (one_news wu _ _) (by simp [Value.oneCell']) rfl _ _ rfl _ _ _ rfl o00 rfl (by have := GL.out; unfold maxLen; omega) (by have := GL.out; omega) ?_; intro v2 w2 O2 G2 E2; obtain ⟨xa, xc, hx⟩ := own_form2 O2; subst hx; obtain ⟨⟨p0, p1⟩, hP, hF⟩ := S0.out.2.2 _ w2 O2 G2 E2; obtain ⟨hRP, hFP⟩ := T0.out _ w2 G2 E2; obtain ⟨wA, hwA⟩ : ∃ u, w2.setCell ⟨bk, 0, none⟩ (.slice xa (gi.rv.length + 1) xc) = u := ⟨_, rfl⟩; rw [hwA] at hP hF hRP; have P5 := Lib.hid hP; have F5 := Lib.hid hF; have RP5 := Lib.hid hRP; have FP5 := Lib.hid hFP; have S1 := Lib.hid (P5.out.grow (g' := { gi with rv := gi.rv ++ [.slice (some ⟨gg, 0, none⟩) (L + 80) vc], ms := gi.ms ++ [mark + 1 + (i : Int)] }) 1 3 gi.ms.length (gi.ms.map (Value.int .i64)) (.int .i64 (mark + 1 + (i : Int))) (({ gi with rv := gi.rv ++ [.slice (some ⟨gg, 0, none⟩) (L + 80) vc] } : Bg).fs.take 1) (({ gi with rv := gi.rv ++ [.slice (some ⟨gg, 0, none⟩) (L + 80) vc] } : Bg).fs.drop 2) rfl (by simp [Bg.fs]) (Nat.le_trans hBu F5.out.size)); have T1 := Lib.hid (fun v' w' g2 eb => P5.out.grow3 (g' := { gi with rv := gi.rv ++ [.slice (some ⟨gg, 0, none⟩) (L + 80) vc], ms := gi.ms ++ [mark + 1 + (i : Int)] }) (v' := v') (w' := w') 1 3 gi.ms.length (gi.ms.map (Value.int .i64)) (.int .i64 (mark + 1 + (i : Int))) (({ gi with rv := gi.rv ++ [.slice (some ⟨gg, 0, none⟩) (L + 80) vc] } : Bg).fs.take 1) (({ gi with rv := gi.rv ++ [.slice (some ⟨gg, 0, none⟩) (L + 80) vc] } : Bg).fs.drop 2) rfl (by simp [Bg.fs]) g2 eb RP5.out FP5.out); rw [getD_ne (by decide), HV.out.1] at S1 T1; obtain ⟨c01, o01, _⟩ := S1.out; clear O2 G2 E2 hP hF hRP hFP N5 qq)
                | (at_builtin; refine wp_appB Tryd.underlying24 info3 rfl (by decide) _ B (Nat.le_trans (Nat.le_trans hBu F5.out.size) (by simp)) ⟨wA.heap.size, 0, none⟩ 1 1 [.int .i64 (mark + 1 + (i : Int))] rfl (one_news wA _ _) (by simp [Value.oneCell']) rfl _ _ rfl _ _ _ rfl o01 rfl (by have := GL.out; unfold maxLen; omega) (by have := GL.out; omega) ?_; intro v2 w3 O2 G2 E2; obtain ⟨ya, yc, hx⟩ := own_form2 O2; subst hx; obtain ⟨⟨q0, q1⟩, hP, hF⟩ := S1.out.2.2 _ w3 O2 G2 E2; obtain ⟨hRP, hFP⟩ := T1.out _ w3 G2 E2; obtain ⟨wC, hwC⟩ : ∃ u, w3.setCell ⟨bk, 1, none⟩ (.slice ya (gi.ms.length + 1) yc) = u := ⟨_, rfl⟩; rw [hwC] at hP hF hRP; have P6 := Lib.hid hP; have F6 := Lib.hid hF; have RP6 := Lib.hid hRP; have FP6 := Lib.hid hFP; clear O2 G2 E2 hP hF hRP hFP))
              have RD := Lib.hid (RP6.out.below (Below.refl _ _).drew)
              have PD := Lib.hid (P6.out.below (Below.refl _ _).drew)
              have hBC : B ≤ wC.drew.heap.size := Nat.le_trans (Nat.le_trans hBu F5.out.size) F6.out.size
              have S2 := Lib.hid (PD.out.grow (g' := { gi with rv := gi.rv ++ [.slice (some ⟨gg, 0, none⟩) (L + 80) vc], ms := gi.ms ++ [mark + 1 + (i : Int)], nn := gi.nn ++ [L] }) 2 3 gi.nn.length (nats gi.nn) (.int .i64 (L : Int)) (({ gi with rv := gi.rv ++ [.slice (some ⟨gg, 0, none⟩) (L + 80) vc], ms := gi.ms ++ [mark + 1 + (i : Int)] } : Bg).fs.take 2) (({ gi with rv := gi.rv ++ [.slice (some ⟨gg, 0, none⟩) (L + 80) vc], ms := gi.ms ++ [mark + 1 + (i : Int)] } : Bg).fs.drop 3) rfl (by simp [Bg.fs, nats]) hBC)
              have T2 := Lib.hid (fun v' w' g2 eb => PD.out.grow3 (g' := { gi with rv := gi.rv ++ [.slice (some ⟨gg, 0, none⟩) (L + 80) vc], ms := gi.ms ++ [mark + 1 + (i : Int)], nn := gi.nn ++ [L] }) (v' := v') (w' := w') 2 3 gi.nn.length (nats gi.nn) (.int .i64 (L : Int)) (({ gi with rv := gi.rv ++ [.slice (some ⟨gg, 0, none⟩) (L + 80) vc], ms := gi.ms ++ [mark + 1 + (i : Int)] } : Bg).fs.take 2) (({ gi with rv := gi.rv ++ [.slice (some ⟨gg, 0, none⟩) (L + 80) vc], ms := gi.ms ++ [mark + 1 + (i : Int)] } : Bg).fs.drop 3) rfl (by simp [Bg.fs, nats]) g2 eb RD.out FP6.out)
              rw [getD_ne (by decide), getD_ne (by decide), HV.out.2] at S2 T2
              have o02 : wC.drew.ownsRow B 3 1 V2 gi.nn.length (nats gi.nn) := by
                have := (PD.out.o.own ⟨2, 3, 1, gi.nn.length, nats gi.nn⟩ (by simp [Bg.fs])).1
                simp only at this
                rwa [getD_ne (by decide), getD_ne (by decide), HV.out.2] at this
              obtain ⟨v5, w5, hr, O5, G5, E5⟩ := app_int (L : Int) o02 (by have := GL.out; omega) hBC
              obtain ⟨na, nc, hv5⟩ := own_form2 O5
              subst hv5
              obtain ⟨⟨p0, p1⟩, hP7, hF7⟩ := S2.out.2.2 _ w5 O5 G5 E5
              obtain ⟨hRP, hFP⟩ := T2.out _ w5 G5 E5
              have P7 := Lib.hid hP7
              have F7 := Lib.hid hF7
              have RP7 := Lib.hid hRP
              have FP7 := Lib.hid hFP
              have c02 := S2.out.1
              have c02a : (wC.drew.alloc (.cells #[.int .i64 (L : Int)] 3)).cell? ⟨bk, 2, none⟩ = some V2 := (((below_al wC.drew (.cells #[.int .i64 (L : Int)] 3)).cell (p := ⟨bk, 2, none⟩) PD.out.o.lt.1)).trans c02
              have LI := Lib.hid (p := ∀ W : World, RwP W B (.slice (some ⟨rb, 0, none⟩) n c) qs' (i + 1) → W.cell? ⟨rb, i, none⟩ = some (.slice (some ⟨z, 0, none⟩) L L)) (fun W hW => by
                have := hW.cell (k := i) hiq'
                rw [hqz] at this
                exact this)
              have rbk : ¬ bk = rb := fun e => (FP6.out.1 rb rfl).1 e.symm
              have L5 := Lib.hid (p := w5.cell? ⟨rb, i, none⟩ = some (.slice (some ⟨z, 0, none⟩) L L)) (by
                have := LI.out _ RP7.out
                rwa [World.cell?_setCell_other _ _ _ _ (by simp [rbk])] at this)
              have lC := LI.out _ RP6.out
              clear hP7 hF7 hRP hFP o02 O5 G5 E5 rbk
              have NDN := Lib.hid (p := (gg :: sn'.map (·.1)).Nodup) (nd_cons (YU.out gg rfl).1.2.2 SR.out.2)
              have ITN := Lib.hid (IT.out.step (sn' := (gg, .cells cur 65) :: ad) (x := .slice (some ⟨gg, 0, none⟩) (L + 80) vc) (by rw [QN.out]; exact hlt) (fun p hp => List.mem_cons_of_mem _ hp) HLL.out ⟨gg, vc, cur, rfl, List.mem_cons_self .., CK.out⟩)
              have GE := rowsG_step (g := g) (mark := mark) (ns := ns) (L := L) (x := .slice (some ⟨gg, 0, none⟩) (L + 80) vc) IT.out.l1
              rw [HGI.out] at GE
              have P8 := Lib.hid P7.out
              have FP8 := Lib.hid FP7.out
              rw [← GE] at P8 FP8
              have FE := Lib.hid (((FU.out.trans F5.out).trans F6.out).trans ((Fr.drew B bk wC).trans F7.out))
              clear GE
              have lD : wC.drew.cell? ⟨rb, i, none⟩ = some (.slice (some ⟨z, 0, none⟩) L L) := lC
              have c02c : wC.cell? ⟨bk, 2, none⟩ = some V2 := c02
              have c02b : (wC.alloc (.cells #[.int .i64 (L : Int)] 3)).cell? ⟨bk, 2, none⟩ = some V2 := c02a
              have hrb : ∀ ty, (Builtin.append_ #[24, 24] ty #[V2, .slice (some ⟨wC.heap.size, 0, none⟩) 1 1]).run Tryd.prog (wC.alloc (.cells #[.int .i64 (L : Int)] 3)).drew = .ok (.slice na (gi.nn.length + 1) nc) w5 := hr
              clear c02a hr c02
              go_region_law (first | (refine step_app_run rfl _ _ 24 rfl _ _ _ w5 rfl rfl hrb ?_))
              all_goals
                go_wp2
                refine ⟨⟨i + 1, _, _, _, _, by omega, by go_num, ⟨_, by rw [EAD.out]; rfl, ITN.out⟩, RP7.out, P8.out, FP8.out, ⟨(by obtain ⟨ad, e⟩ := SR.out.1; exact ⟨_ :: ad, by rw [e]; rfl⟩), NDN.out⟩, FE.out⟩, ?_⟩
                simp [intOf]; omega
        · have ei : n = i := by omega
          subst ei
          have kc : ¬ (n : Int) < (n : Int) := by omega
          obtain ⟨gi, hgi⟩ : ∃ x, rowsG g rvs mark ns = x := ⟨_, rfl⟩
          rw [hgi] at HR RR
          have HGI := Lib.hid hgi
          have OR := Lib.hid (p := wr.ownsRow B 50 1 (.slice a n c) n (qs'.map qv)) (by have := PR.out.own; rwa [QL'.out] at this)
          have FZ := Lib.hid RR.out.1
          have GL := Lib.hid (p := gi.ov.length ≤ 1000000000000 ∧ gi.fr.length ≤ 1000000000000) (by rw [← hgi]; exact ⟨hg.2.2.2.1, hg.2.2.2.2⟩)
          clear hgi
          go_wp2
          go_loopw [12] (fun t ws => ∃ (j : Nat) (ys : List Value), j ≤ n ∧ t = .int .i64 (j : Int) ∧ RowKit.Hid (ys.take j = List.replicate j (.slice none 0 0) ∧ ws.ownsRow B 50 1 (.slice a n c) n ys ∧ Bk ws B bk vs2 gi sn' (mark + n) false ∧ Fr B bk w ws)) (fun t _ => n - (intOf t).toNat)
          case atStart => exact ⟨0, _, Nat.zero_le _, rfl, rfl, OR.out, HR.out, FR.out⟩
          case round =>
            obtain ⟨j, ys, hj, rfl, hQ⟩ := hrel
            rename World => wj
            have YT := Lib.hid hQ.out.1
            have OJ := Lib.hid hQ.out.2.1
            have HJ := Lib.hid hQ.out.2.2.1
            have FJ := Lib.hid hQ.out.2.2.2
            clear hQ
            by_cases hjn : j < n
            · have kj : (j : Int) < (n : Int) := by omega
              have kwj : IntKind.i64.wrap ((j : Int) + 1) = (j : Int) + 1 := by simp [IntKind.wrap, IntKind.bits, IntKind.signed]; omega
              obtain ⟨z, rfl⟩ : ∃ z, a = some ⟨z, 0, none⟩ := by
                rcases OJ.out.2 with ⟨e, e0⟩ | ⟨z, _, _, e, _⟩
                · omega
                · injection e with e1 e2 e3; exact ⟨z, e1⟩
              obtain ⟨cur, hcur⟩ := own_blk OJ.out (b := z) rfl
              have zf := Joins.unfrozen_of_block hcur j
              have yl : ys.length = n := by have := OJ.out.1; omega
              have zc : wj.cell? ⟨z, j, none⟩ = some (ys.getD j default) := by
                rw [World.ownsRow.cellAt OJ.out j (by omega), List.getElem?_eq_getElem (by omega)]
                simp [List.getD, show j < ys.length by omega]
              have zB : B ≤ z := (OJ.out.lt z rfl).1
              have O2 := Lib.hid (own_write OJ.out hjn (.slice none 0 0))
              have H2 := Lib.hid (HJ.out.other (grT_set wj z j (.slice none 0 0)) (fun x e => by injection e with e; subst e; exact FZ.out z rfl))
              have F2 := Lib.hid (FJ.out.trans (Fr.put (o := j) zB (.slice none 0 0)))
              have Y2 := Lib.hid (p := (ys.set j (.slice none 0 0)).take (j + 1) = List.replicate (j + 1) (.slice none 0 0)) (by
                rw [List.take_set, List.take_add_one, YT.out, List.getElem?_eq_getElem (by omega), List.replicate_succ', List.set_append_right _ _ (by simp)]
                simp)
              clear hcur
              generalize ys.getD j default = old at zc
              go_wp2
              go_roundw
              case rel => exact ⟨j + 1, _, by omega, by go_num, Y2.out, O2.out, H2.out, F2.out⟩
              case measure => simp [intOf]; omega
            · have ej : n = j := by omega
              subst ej
              have kj : ¬ (n : Int) < (n : Int) := by omega
              have YA := Lib.hid (p := ys = List.replicate n (.slice none 0 0)) (by have := YT.out; rwa [List.take_of_length_le (by have := OJ.out.1; omega)] at this)
              rw [YA.out] at OJ
              clear YT YA
              go_wp2
              go_loopw [13, 14] (fun v t ws => ∃ (j : Nat) (es : List Value), j ≤ 20 ∧ t = .int .i64 (j : Int) ∧ RowKit.Hid ((es.length = j ∧ ∀ e ∈ es, ∃ b, e = .slice (some ⟨b, 0, none⟩) 1 1) ∧ ws.ownsRow B 50 1 v (n + j) (List.replicate n (.slice none 0 0) ++ es) ∧ (∀ z, v.ownBlock = some z → BkO.Free bk vs2 gi.fs sn' z) ∧ Bk ws B bk vs2 gi sn' (mark + n) false ∧ Fr B bk w ws ∧ Old ws 50 a v n (List.replicate n (.slice none 0 0)))) (fun _ t _ => 20 - (intOf t).toNat)
              case atStart => exact ⟨0, [], Nat.zero_le _, rfl, ⟨rfl, (fun e he => by cases he)⟩, by simpa using OJ.out, FZ.out, HJ.out, FJ.out, fun z e => .inl (by rw [e]; rfl)⟩
              case round =>
                obtain ⟨j, es, hj, rfl, hQ⟩ := hrel
                rename World => wk
                have ES := Lib.hid hQ.out.1
                have OK := Lib.hid hQ.out.2.1
                have RK := Lib.hid hQ.out.2.2.1
                have HK := Lib.hid hQ.out.2.2.2.1
                have FK := Lib.hid hQ.out.2.2.2.2.1
                have OL := Lib.hid hQ.out.2.2.2.2.2
                clear hQ
                have hBk : B ≤ wk.heap.size := by have := FK.out.size; omega
                by_cases hj2 : j < 20
                · have kj : (j : Int) < 20 := by omega
                  have kwj : IntKind.i64.wrap ((j : Int) + 1) = (j : Int) + 1 := by simp [IntKind.wrap, IntKind.bits, IntKind.signed]; omega
                  obtain ⟨u0, u1⟩ := ot.fr FK.out hO.1 hO.2
                  have B1 := Lib.hid (below_al wk (.cells #[.bool true, .int .i64 99] 65))
                  obtain ⟨wl, hwl⟩ : ∃ u, wk.alloc (.cells #[.bool true, .int .i64 99] 65) = u := ⟨_, rfl⟩
                  rw [hwl] at B1
                  have BA := Lib.hid (B1.out.trans ((below_al wl (.cells #[.slice (some ⟨wk.heap.size, 0, none⟩) 1 1] 50)).mono B1.out.size))
                  have OA := Lib.hid (own_back OK.out BA.out)
                  have HA := Lib.hid (HK.out.below BA.out)
                  have FA := Lib.hid (FK.out.trans (Fr.below BA.out hBk))
                  go_wp2_with (at_builtin; refine wp_appK Tryd.underlying23 infoR rfl (by decide) _ B (Nat.le_trans hBk BA.out.size) ⟨wl.heap.size, 0, none⟩ 1 1 [.slice (some ⟨wk.heap.size, 0, none⟩) 1 1] rfl (one_news wl _ _) (by simp [Value.oneCell']) rfl _ _ rfl _ _ _ rfl OA.out rfl (by unfold maxLen; omega) (by omega) ?_; intro v2 w2 O2 G2 E2 K2; have O3 := Lib.hid O2; have L3 := Lib.hid (p := Old w2 50 a v2 n (List.replicate n (.slice none 0 0))) ((OL.out.below BA.out).step OA.out (by simp) G2 K2); have R3 := Lib.hid (p := ∀ z, v2.ownBlock = some z → BkO.Free bk vs2 gi.fs sn' z) (fun z e => by rcases E2 with q | q; exact RK.out z (q ▸ e); rw [q] at e; injection e with e; exact HA.out.o.new (Nat.le_of_eq e)); have H3 := Lib.hid (HA.out.other G2 RK.out); have F3 := Lib.hid (FA.out.trans (Fr.grown G2 (Nat.le_trans hBk BA.out.size) (fun z e => (OA.out.lt z e).1))); clear O2 G2 E2 K2)
                  go_roundw
                  case rel => exact ⟨j + 1, es ++ [.slice (some ⟨wk.heap.size, 0, none⟩) 1 1], by omega, by go_num, ⟨by rw [List.length_append, ES.out.1]; rfl, fun e he => (List.mem_append.1 he).elim (ES.out.2 e) (fun q => ⟨_, List.mem_singleton.1 q⟩)⟩, by have := O3.out; rw [List.append_assoc] at this; exact this, R3.out, H3.out, F3.out, L3.out⟩
                  case measure => simp [intOf]; omega
                · have ej : j = 20 := by omega
                  subst ej
                  have kj : ¬ (20 : Int) < 20 := by omega
                  obtain ⟨va, vc, hv⟩ := own_form2 OK.out
                  subst hv
                  obtain ⟨gg, cur, rfl, hcur, hck⟩ : ∃ gg cur, va = some ⟨gg, 0, none⟩ ∧ wk.heap[gg]? = some (.cells cur 50) ∧ cur.toList.take (n + 20) = List.replicate n (.slice none 0 0) ++ es := by
                    rcases OK.out.2 with ⟨e, e0⟩ | ⟨gg, cap, cur, e, _, q1, _, _, _, q5⟩
                    · omega
                    · injection e with e1 e2 e3
                      exact ⟨gg, cur, e1, q1, by simpa using q5⟩
                  obtain ⟨add, hL, mG, oI, nD⟩ := HK.out.leave2 (a := a) (v := .slice (some ⟨gg, 0, none⟩) (n + 20) vc) rfl hcur (RK.out gg rfl) (take_first hck (by simp) (by omega)) OL.out (fun z e => FZ.out z (by rw [e]; rfl))
                  have HL := Lib.hid hL
                  have CK := Lib.hid (p := OutIt add (.slice (some ⟨gg, 0, none⟩) (n + 20) vc) n ∧ OldIt add 50 a n (List.replicate n (.slice none 0 0)) ∧ ((add ++ sn').map (·.1)).Nodup) ⟨⟨gg, vc, cur, es, rfl, mG, hck, ES.out.1, ES.out.2⟩, oI, nD SR.out.2⟩
                  clear hL mG oI nD
                  obtain ⟨sn2, hsn2⟩ : ∃ x, add ++ sn' = x := ⟨_, rfl⟩
                  have HS2 := Lib.hid hsn2
                  rw [hsn2] at HL CK
                  clear hsn2
                  have S5 := Lib.hid (HL.out.grow (g' := { gi with ov := gi.ov ++ [.slice (some ⟨gg, 0, none⟩) (n + 20) vc] }) 3 23 gi.ov.length gi.ov (.slice (some ⟨gg, 0, none⟩) (n + 20) vc) (gi.fs.take 3) (gi.fs.drop 4) rfl (by simp [Bg.fs]) hBk)
                  obtain ⟨V5, hV5⟩ : ∃ V, vs2.getD 3 default = V := ⟨_, rfl⟩
                  obtain ⟨V6, hV6⟩ : ∃ V, vs2.getD 4 default = V := ⟨_, rfl⟩
                  rw [hV5] at S5
                  have HV := Lib.hid (p := vs2.getD 4 default = V6) hV6
                  obtain ⟨c5, o5, _⟩ := S5.out
                  have N5 := Lib.hid True.intro
                  clear hcur hck hV5 hV6
                  go_wp2_with (first
                    | (at_builtin; have qq := N5; refine wp_appB Tryd.underlying25 infoRR rfl (by decide) _ B (Nat.le_trans hBk (by simp)) ⟨wk.heap.size, 0, none⟩ 1 1 [.slice (some ⟨gg, 0, none⟩) (n + 20) vc] rfl (one_news wk _ _) (by simp [Value.oneCell']) rfl _ _ rfl _ _ _ rfl o5 rfl (by have := GL.out; unfold maxLen; omega) (by have := GL.out; omega) ?_; intro v2 w2 O2 G2 E2; obtain ⟨xa, xc, hx⟩ := own_form2 O2; subst hx; obtain ⟨⟨p0, p1⟩, hP, hF⟩ := S5.out.2.2 _ w2 O2 G2 E2; obtain ⟨wA, hwA⟩ : ∃ u, w2.setCell ⟨bk, 3, none⟩ (.slice xa (gi.ov.length + 1) xc) = u := ⟨_, rfl⟩; rw [hwA] at hP hF; have P5 := Lib.hid hP; have F5 := Lib.hid hF; have S6 := Lib.hid (P5.out.grow (g' := { gi with ov := gi.ov ++ [.slice (some ⟨gg, 0, none⟩) (n + 20) vc], fr := gi.fr ++ [n] }) 4 3 gi.fr.length (nats gi.fr) (.int .i64 (n : Int)) (({ gi with ov := gi.ov ++ [.slice (some ⟨gg, 0, none⟩) (n + 20) vc] } : Bg).fs.take 4) (({ gi with ov := gi.ov ++ [.slice (some ⟨gg, 0, none⟩) (n + 20) vc] } : Bg).fs.drop 5) rfl (by simp [Bg.fs, nats]) (Nat.le_trans hBk F5.out.size)); rw [getD_ne (by decide), HV.out] at S6; obtain ⟨c6, o6, _⟩ := S6.out; clear O2 G2 E2 hP hF N5 qq)
                    | (at_builtin; refine wp_appB Tryd.underlying24 info3 rfl (by decide) _ B (Nat.le_trans (Nat.le_trans hBk F5.out.size) (by simp)) ⟨wA.heap.size, 0, none⟩ 1 1 [.int .i64 (n : Int)] rfl (one_news wA _ _) (by simp [Value.oneCell']) rfl _ _ rfl _ _ _ rfl o6 rfl (by have := GL.out; unfold maxLen; omega) (by have := GL.out; omega) ?_; intro v2 w4 O2 G2 E2; obtain ⟨za, zc, hx⟩ := own_form2 O2; subst hx; obtain ⟨⟨t0, t1⟩, hP, hF⟩ := S6.out.2.2 _ w4 O2 G2 E2; have P7 := Lib.hid hP; have F7 := Lib.hid hF; clear O2 G2 E2 hP hF))
                  have FF := Lib.hid ((FK.out.trans F5.out).trans F7.out)
                  go_end0
                  refine ⟨rfl, ?_⟩
                  unfold RwE
                  have e := HGI.out
                  subst e
                  have e2 := HS2.out
                  have it := IT.out.more (sn' := add ++ ad) (fun p hp => List.mem_append.2 (.inr hp))
                  have e3 : sn2 = (add ++ ad) ++ sn := by rw [← e2, EAD.out, List.append_assoc]
                  have p7 := P7.out
                  have ck := CK.out
                  rw [e3] at p7 ck
                  exact ⟨_, rvs, ns, _, add ++ ad, p7, it, ck.1.more (fun p hp => List.mem_append.2 (.inl hp)), ck.2.1.more (fun p hp => List.mem_append.2 (.inl hp)), ck.2.2, FF.out⟩
end Go.Proofs.YtldplmchgmoopaaDoor
