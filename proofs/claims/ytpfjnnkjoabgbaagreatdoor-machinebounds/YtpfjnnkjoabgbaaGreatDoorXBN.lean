import Derived.Test.YtpfjnnkjoabgbaaGreatDoorXBM
namespace Go.Proofs.YtpfjnnkjoabgbaaGreatDoor
open Go.RowKit
set_option linter.unusedVariables false
set_option linter.unusedSimpArgs false
/-- The cells of a row, for an append. -/
theorem rw_news {w : World} {a : Addr} {z : Nat} {l : List Cl} (h : RwV w (.slice (some a) l.length z) l) : ∀ j u, (clv l)[j]? = some u → w.cell? (a.add j) = some u := by
  intro j u hj
  have lt : j < l.length * 2 := by rw [← clv_len]; exact (List.getElem?_eq_some_iff.1 hj).1
  obtain ⟨a', z', e, h⟩ := h
  injection e with e1 e2 e3
  subst e1
  rcases h with h | ⟨y, o, cur, fr, e, _, hc⟩
  · rw [h] at lt; simp at lt
  · injection e with e
    subst e
    obtain ⟨c0, c1⟩ := hc (j / 2) (by omega)
    have q := clv_at l (j / 2) (by omega) (j % 2) (Nat.mod_lt _ (by omega))
    have e : j / 2 * 2 + j % 2 = j := by omega
    rw [e, hj] at q
    rw [Addr.add_lit]
    rcases (show j % 2 = 0 ∨ j % 2 = 1 by omega) with z | z
    · rw [z] at q
      rw [show o + j = o + j / 2 * 2 by omega, c0]
      exact q.symm
    · rw [z] at q
      rw [show o + j = o + j / 2 * 2 + 1 by omega, c1]
      exact q.symm
theorem own_rwv {V : World} {B : Nat} {v : Value} {n : Nat} {cs : List Cl} (q : V.ownsRow B 73 2 v n (clv cs)) (hl : cs.length = n) : RwV V v cs := by
  rcases q.2 with ⟨rfl, h0⟩ | ⟨g, cap, cur, rfl, _, e3, z4, z5, _⟩
  · have : cs = [] := List.length_eq_zero_iff.1 (by omega)
    subst this
    exact ⟨none, 0, rfl, .inl rfl⟩
  · refine ⟨_, cap, by rw [hl], .inr ⟨g, 0, cur, _, rfl, e3, fun i hi => ?_⟩⟩
    have z : ∀ j, j < 2 → V.cell? ⟨g, 0 + i * 2 + j, none⟩ = (cs.getD i default).two[j]? := by
      intro j hj
      rw [Nat.zero_add, World.ownsRow.cellAt q (i * 2 + j) (by omega)]
      exact clv_at cs i hi j hj
    exact ⟨z 0 (by omega), z 1 (by omega)⟩
set_option maxRecDepth 100000 in
set_option maxHeartbeats 1600000 in
theorem cloneC_any {w : World} {v : Value} {l : List Cl} (h : RwV w v l) (hb : l.length ≤ 1000000) : Calls Tryz.prog 48 #[v] w fun e w' => ∃ a' c', e = .returned (.slice a' l.length c') ∧ RowKit.Hid (RwV w' (.slice a' l.length c') l) ∧ Below w.heap.size w w' := by
  obtain ⟨i0, hi, hz0, hz1, hz2⟩ := info_parts infoCl
  have h0 := h
  obtain ⟨a, z, rfl, h⟩ := h
  cases a with
  | none =>
    have hl : l = [] := by
      rcases h with h | ⟨y, u, cur, fr, e, _⟩
      · exact h
      · cases e
    subst hl
    have nn : ∀ W, (binOp .eql 47 (.slice none 0 z) (.slice none 0 0)).run Tryz.prog W = .ok (.bool true) W := fun W => Lib.run_eql_slice_nil W 47 73 none 0 z 0 0 (by kernel_rfl)
    have N := Lib.hid (p := RwV w (.slice none 0 0) []) ⟨none, 0, rfl, .inl rfl⟩
    simp only [List.length_nil]
    clear h h0
    go_enter Tryz.func48, Tryz.ntmps48
    go_wp2
    go_ret
    exact ⟨_, _, rfl, N, Below.refl _ _⟩
  | some ad =>
    have nn : ∀ W, (binOp .eql 47 (.slice (some ad) l.length z) (.slice none 0 0)).run Tryz.prog W = .ok (.bool false) W := fun W => Lib.run_eql_slice_nil W 47 73 (some ad) l.length z 0 0 (by kernel_rfl)
    have B0 := allocBP w (.cells #[] 73)
    have NW := Lib.hid (rw_news (h0.lat B0))
    have LN := Lib.hid (clv_len l)
    have ON := Lib.hid (clv_one l)
    have OW := Lib.hid (World.ownsRow_made (e := 73) (size := 2) w #[] 0 (Nat.le_refl w.heap.size) (by unfold maxLen; omega) rfl)
    have M := Lib.hid (p := 0 + l.length ≤ maxLen ∧ (0 + l.length) * 16 ≤ 140737488355328 ∧ w.heap.size ≤ (w.alloc (.cells #[] 73)).heap.size) ⟨by unfold maxLen; omega, by omega, by simp⟩
    have FE := Lib.hid (p := ∀ v' w', w'.ownsRow w.heap.size 73 2 v' (0 + l.length) ([] ++ clv l) → (w.alloc (.cells #[] 73)).grownBy w' (some w.heap.size) → ∃ a' c', v' = .slice a' l.length c' ∧ RowKit.Hid (RwV w' (.slice a' l.length c') l ∧ Below w.heap.size w w')) (fun v' w' q g => by
      rw [Nat.zero_add, List.nil_append] at q
      obtain ⟨a', c', rfl⟩ := own_form q
      refine ⟨a', c', rfl, own_rwv q rfl, ⟨g.os, g.tape, g.output, by have := g.size; simp at this; omega, fun x hx => ?_⟩⟩
      exact (g.block x (by simp; omega) (by intro z; injection z with z; omega)).trans (B0.block x hx))
    clear h h0 B0
    generalize clv l = fl at *
    generalize hn : l.length = n at *
    go_enter Tryz.func48, Tryz.ntmps48
    go_wp2_with (at_builtin; refine wpList_append_own _ rfl _ _ 47 rfl w.heap.size 73 i0 (.agg #[.bool false, .int .i64 0]) 2 16 Tryz.underlying47 hi hz0 hz1 hz2 rfl (by decide) _ 0 [] rfl OW.out ad n z fl rfl LN.out NW.out ON.out M.out.1 M.out.2.1 M.out.2.2 ?_; intro v' w' q1 q2 _; obtain ⟨a', c', rfl, Q⟩ := FE.out v' w' q1 q2; clear q1 q2)
    go_ret
    exact ⟨_, _, rfl, Q.out.1, Q.out.2⟩
/-- The rows that have been, for an append. -/
theorem pa_news {w : World} {a : Addr} {z : Nat} {l : List (List Cl)} {vs : List Value} (h : PaV w (.slice (some a) l.length z) l vs) : ∀ j u, vs[j]? = some u → w.cell? (a.add j) = some u := by
  intro j u hj
  have lt : j < vs.length := (List.getElem?_eq_some_iff.1 hj).1
  rcases h.form with ⟨e, _⟩ | ⟨g, o, cap, cur, e, e2, _, _, _, hc⟩
  · injection e with e; cases e
  · injection e with e1
    injection e1 with e1
    subst e1
    rw [Addr.add_lit]
    have q := hc j (by rw [← h.len]; exact lt)
    have : vs.getD j default = u := by simp [List.getD, hj]
    rw [this] at q
    simpa [World.cell?, e2] using q
set_option maxRecDepth 100000 in
set_option maxHeartbeats 1600000 in
theorem cloneR_any {w : World} {v : Value} {l : List (List Cl)} {vs : List Value} (h : PaV w v l vs) (hb : l.length ≤ 1000000) : Calls Tryz.prog 47 #[v] w fun e w' => ∃ a' c', e = .returned (.slice a' l.length c') ∧ RowKit.Hid (w'.ownsRow w.heap.size 47 1 (.slice a' l.length c') l.length vs) ∧ Below w.heap.size w w' := by
  obtain ⟨i0, hi, hz0, hz1, hz2⟩ := info_parts infoRw
  rcases h.form with ⟨rfl, hl⟩ | ⟨g, o, cap, cur, rfl, _⟩
  · subst hl
    have e0 : vs = [] := List.length_eq_zero_iff.1 h.len
    subst e0
    have nn : ∀ W, (binOp .eql 27 (.slice none 0 0) (.slice none 0 0)).run Tryz.prog W = .ok (.bool true) W := fun W => Lib.run_eql_slice_nil W 27 47 none 0 0 0 0 (by kernel_rfl)
    have N := Lib.hid (World.ownsRow_nil w w.heap.size 47 1)
    simp only [List.length_nil]
    clear h
    go_enter Tryz.func47, Tryz.ntmps47
    go_wp2
    go_ret
    exact ⟨_, _, rfl, N, Below.refl _ _⟩
  · have nn : ∀ W, (binOp .eql 27 (.slice (some ⟨g, o, none⟩) l.length cap) (.slice none 0 0)).run Tryz.prog W = .ok (.bool false) W := fun W => Lib.run_eql_slice_nil W 27 47 (some ⟨g, o, none⟩) l.length cap 0 0 (by kernel_rfl)
    have B0 := allocBP w (.cells #[] 47)
    have NW := Lib.hid (pa_news (h.lat B0))
    have LN := Lib.hid (p := vs.length = l.length * 1) (by rw [h.len]; omega)
    have ON := Lib.hid h.one
    have OW := Lib.hid (World.ownsRow_made (e := 47) (size := 1) w #[] 0 (Nat.le_refl w.heap.size) (by unfold maxLen; omega) rfl)
    have M := Lib.hid (p := 0 + l.length ≤ maxLen ∧ (0 + l.length) * 24 ≤ 140737488355328 ∧ w.heap.size ≤ (w.alloc (.cells #[] 47)).heap.size) ⟨by unfold maxLen; omega, by omega, by simp⟩
    have FE := Lib.hid (p := ∀ v' w', w'.ownsRow w.heap.size 47 1 v' (0 + l.length) ([] ++ vs) → (w.alloc (.cells #[] 47)).grownBy w' (some w.heap.size) → ∃ a' c', v' = .slice a' l.length c' ∧ RowKit.Hid (w'.ownsRow w.heap.size 47 1 (.slice a' l.length c') l.length vs ∧ Below w.heap.size w w')) (fun v' w' q g => by
      rw [Nat.zero_add, List.nil_append] at q
      obtain ⟨a', c', rfl⟩ := own_form q
      refine ⟨a', c', rfl, q, ⟨g.os, g.tape, g.output, by have := g.size; simp at this; omega, fun x hx => ?_⟩⟩
      exact (g.block x (by simp; omega) (by intro z; injection z with z; omega)).trans (B0.block x hx))
    clear h B0
    generalize hn : l.length = n at *
    go_enter Tryz.func47, Tryz.ntmps47
    go_wp2_with (at_builtin; refine wpList_append_own _ rfl _ _ 27 rfl w.heap.size 47 i0 (.slice none 0 0) 1 24 Tryz.underlying27 hi hz0 hz1 hz2 rfl (by decide) _ 0 [] rfl OW.out ⟨g, o, none⟩ n cap vs rfl LN.out NW.out ON.out M.out.1 M.out.2.1 M.out.2.2 ?_; intro v' w' q1 q2 _; obtain ⟨a', c', rfl, Q⟩ := FE.out v' w' q1 q2; clear q1 q2)
    go_ret
    exact ⟨_, _, rfl, Q.out.1, Q.out.2⟩
theorem cloneZ_any {w : World} {v : Value} {l : List Int} (h : CeR w v l) (hb : l.length ≤ 1000000) : Calls Tryz.prog 41 #[v] w fun e w' => ∃ a' c', e = .returned (.slice a' l.length c') ∧ RowKit.Hid (OwZ w' w.heap.size (.slice a' l.length c') l) ∧ Below w.heap.size w w' := by
  have nilC : ∀ c, Calls Tryz.prog 41 #[.slice none 0 c] w fun e w' => ∃ a' c', e = .returned (.slice a' 0 c') ∧ RowKit.Hid (OwZ w' w.heap.size (.slice a' 0 c') []) ∧ Below w.heap.size w w' := fun c => (Tryz.slices_Clone_int_nil 0 c w).mono (by
    rintro e w' ⟨rfl, rfl⟩
    exact ⟨_, _, rfl, OwZ.nil _ _, Below.refl _ _⟩)
  have zeroC : ∀ ad c, Calls Tryz.prog 41 #[.slice (some ad) 0 c] w fun e w' => ∃ a' c', e = .returned (.slice a' 0 c') ∧ RowKit.Hid (OwZ w' w.heap.size (.slice a' 0 c') []) ∧ Below w.heap.size w w' := fun ad c => (Tryz.slices_Clone_int_zero ad c w).mono (by
    rintro e w' ⟨v', rfl, q1, _, q2⟩
    obtain ⟨a', c', rfl⟩ := own_form q1
    exact ⟨_, _, rfl, q1, q2⟩)
  rcases h with ⟨rfl, a, c, rfl, _⟩ | h
  · cases a with
    | none => exact nilC c
    | some ad => exact zeroC ad c
  · obtain ⟨a, cap, rfl, hcap, hne⟩ := h.form
    by_cases h0 : l = []
    · subst h0
      cases a with
      | none => exact nilC cap
      | some ad => exact zeroC ad cap
    · obtain ⟨g, rfl, _, _⟩ := hne h0
      refine (Tryz.slices_Clone_int g 0 l.length cap l w (Nat.le_refl _) (by omega) ?_).mono ?_
      · intro j hj
        rw [Nat.zero_add]
        have := h.cell hj
        rw [this]
      · rintro e w' ⟨v', rfl, q1, _, q2⟩
        rw [List.take_length] at q1
        obtain ⟨a', c', rfl⟩ := own_form q1
        exact ⟨_, _, rfl, q1, q2⟩
end Go.Proofs.YtpfjnnkjoabgbaaGreatDoor

namespace Go.Proofs.YtpfjnnkjoabgbaaGreatDoor
open Go.RowKit
set_option linter.unusedVariables false
set_option linter.unusedSimpArgs false
/-- A state that is being copied. -/
structure CsI (w : World) (t st ft dy : Int) (cells : List Int) (past : List (List Cl)) (ca : Option Addr) (cc : Nat) (ga : Option Addr) (gc : Nat) (vs : List Value) (W : World) : Prop where
  bel : Below w.heap.size w W
  box : BkP W w.heap.size #[.int .i64 t, .int .i64 st, .slice ca cells.length cc, .slice ga past.length gc, .int .i64 ft, .int .i64 dy] 51
  zb : BkP W (w.heap.size + 1) #[.int .i64 0, .int .i64 0, .slice none 0 0, .slice none 0 0, .int .i64 0, .int .i64 0] 51
  ce : OwZ W w.heap.size (.slice ca cells.length cc) cells
  pa : W.ownsRow w.heap.size 47 1 (.slice ga past.length gc) past.length vs
  rows : ∀ i, i < past.length → RwV W (vs.getD i default) (past.getD i [])
  one : ∀ u ∈ vs, u.oneCell' = true
/-- A list of rows of one's own, and its rows. -/
theorem own_pav {w : World} {B : Nat} {a : Option Addr} {c : Nat} {past : List (List Cl)} {vs : List Value} (h : w.ownsRow B 47 1 (.slice a past.length c) past.length vs) (hr : ∀ i, i < past.length → RwV w (vs.getD i default) (past.getD i [])) (h1 : ∀ u ∈ vs, u.oneCell' = true) : PaV w (.slice a past.length c) past vs := by
  have hl : vs.length = past.length := by have := h.1; omega
  refine ⟨hl, hr, h1, ?_⟩
  rcases h.2 with ⟨e, h0⟩ | ⟨g, cap, cur, e, e2, e3, e4, e5, e6, e7⟩
  · have : past = [] := List.length_eq_zero_iff.1 h0
    subst this
    exact .inl ⟨e, rfl⟩
  · rw [e] at h ⊢
    refine .inr ⟨g, 0, cap, cur, rfl, e3, by omega, e4, e5, fun i hi => ?_⟩
    have q := World.ownsRow.cellAt h i (by omega)
    simp only [World.cell?, e3] at q
    have z : vs[i]? = some (vs.getD i default) := by simp [List.getD, hl, hi]
    rw [Nat.zero_add, ← z]
    simpa using q
section
variable {w : World} {t st ft dy : Int} {cells : List Int} {past : List (List Cl)} {ca : Option Addr} {cc : Nat} {ga : Option Addr} {gc : Nat} {vs : List Value} {W : World}
theorem CsI.lat {W' : World} (h : CsI w t st ft dy cells past ca cc ga gc vs W) (b : Below W.heap.size W W') : CsI w t st ft dy cells past ca cc ga gc vs W' :=
  ⟨h.bel.trans (b.mono h.bel.size), h.box.lat b, h.zb.lat b, h.ce.lat b, own_blkG h.pa (fun g hg => b.block g (World.ownsRow.lt h.pa g hg).2), fun i hi => (h.rows i hi).lat b, h.one⟩
theorem own_bk {B n k : Nat} {ty : TypeId} {g cap : Nat} {xs : List Value} (h : W.ownsRow B ty k (.slice (some ⟨g, 0, none⟩) n cap) n xs) : (∃ cur, BkP W g cur ty) ∧ B ≤ g := by
  rcases h.2 with ⟨e, _⟩ | ⟨g', cap', cur, e, e2, e3, _⟩
  · cases e
  · injection e with e _ _
    injection e with e
    injection e with e
    subst e
    exact ⟨⟨cur, e3⟩, e2⟩
theorem CsI.next {g : Nat} (h : CsI w t st ft dy cells past ca cc (some ⟨g, 0, none⟩) gc vs W) {k : Nat} (hk : k < past.length) {ra : Option Addr} {rc : Nat} (hc : RwV W (.slice ra (past.getD k []).length rc) (past.getD k [])) : CsI w t st ft dy cells past ca cc (some ⟨g, 0, none⟩) gc (vs.set k (.slice ra (past.getD k []).length rc)) (W.setCell ⟨g, k, none⟩ (.slice ra (past.getD k []).length rc)) := by
  obtain ⟨⟨cur, bk⟩, gB⟩ := own_bk h.pa
  have kp : Kp W (W.setCell ⟨g, k, none⟩ (.slice ra (past.getD k []).length rc)) (fun x => x = g) := ⟨rfl, rfl, rfl, by rw [set_size]; exact Nat.le_refl _, fun x _ hn => bk_block hn⟩
  have nt : ∀ (y : Nat) (c : Array Value) (fr : Nat × Nat), y = g → W.heap[y]? ≠ some (.cells c 73 fr) := by
    rintro y c fr rfl z
    have := bk.symm.trans z
    injection this with this
    injection this with _ q
    exact absurd q (by decide)
  have hl : vs.length = past.length := by have := h.pa.1; omega
  refine ⟨h.bel.setCell (by exact gB) _, h.box.other _ _ _ (bk_ne bk h.box (by decide)), h.zb.other _ _ _ (bk_ne bk h.zb (by decide)), own_blkG h.ce (fun x hx => bk_block (fun z => own_neB h.ce bk (by decide) (by rw [hx, z]))), (World.ownsRow.stored h.pa k _).1, fun i hi => ?_, fun u hu => ?_⟩
  · by_cases z : i = k
    · subst z
      have : (vs.set i (.slice ra (past.getD i []).length rc)).getD i default = .slice ra (past.getD i []).length rc := by
        simp only [List.getD]
        rw [List.getElem?_set_self (by omega)]
        rfl
      rw [this]
      exact hc.keep kp nt
    · have : (vs.set k (.slice ra (past.getD k []).length rc)).getD i default = vs.getD i default := by
        simp only [List.getD]
        rw [List.getElem?_set_ne (Ne.symm z)]
      rw [this]
      exact (h.rows i hi).keep kp nt
  · rcases List.mem_or_eq_of_mem_set hu with q | q
    · exact h.one u q
    · rw [q]; rfl
end
/-- Six cells of a block are stored. -/
theorem set6 {W : World} {b : Nat} {t : TypeId} {c0 c1 c2 c3 c4 c5 : Value} (h : BkP W b #[c0, c1, c2, c3, c4, c5] t) (v0 v1 v2 v3 v4 v5 : Value) : BkP ((((((W.setCell ⟨b, 0, none⟩ v0).setCell ⟨b, 1, none⟩ v1).setCell ⟨b, 2, none⟩ v2).setCell ⟨b, 3, none⟩ v3).setCell ⟨b, 4, none⟩ v4).setCell ⟨b, 5, none⟩ v5) b #[v0, v1, v2, v3, v4, v5] t ∧ (∀ k, k ≠ b → ((((((W.setCell ⟨b, 0, none⟩ v0).setCell ⟨b, 1, none⟩ v1).setCell ⟨b, 2, none⟩ v2).setCell ⟨b, 3, none⟩ v3).setCell ⟨b, 4, none⟩ v4).setCell ⟨b, 5, none⟩ v5).heap[k]? = W.heap[k]?) ∧ ((((((W.setCell ⟨b, 0, none⟩ v0).setCell ⟨b, 1, none⟩ v1).setCell ⟨b, 2, none⟩ v2).setCell ⟨b, 3, none⟩ v3).setCell ⟨b, 4, none⟩ v4).setCell ⟨b, 5, none⟩ v5).heap.size = W.heap.size := by
  refine ⟨?_, fun k hk => ?_, by simp only [set_size]⟩
  · have := (((((h.set2 0 v0 (by simp)).set2 1 v1 (by simp)).set2 2 v2 (by simp)).set2 3 v3 (by simp)).set2 4 v4 (by simp)).set2 5 v5 (by simp)
    simpa using this
  · simp only [bk_block hk]
/-- What copyState answers. -/
structure CsE (w : World) (t st ft dy : Int) (cells : List Int) (past : List (List Cl)) (e : Ending) (w' : World) : Prop where
  bel : Below w.heap.size w w'
  ret : ∃ ca cc ga gc vs, e = .returned (.agg #[.int .i64 t, .int .i64 st, .slice ca cells.length cc, .slice ga past.length gc, .int .i64 ft, .int .i64 dy]) ∧ OwZ w' w.heap.size (.slice ca cells.length cc) cells ∧ PaV w' (.slice ga past.length gc) past vs ∧ w'.ownsRow w.heap.size 47 1 (.slice ga past.length gc) past.length vs
theorem cs_fin {w : World} {t st ft dy : Int} {cells : List Int} {past : List (List Cl)} {ca : Option Addr} {cc : Nat} {ga : Option Addr} {gc : Nat} {us : List Value} {W : World} (c : CsI w t st ft dy cells past ca cc ga gc us W) {V : World} (hb : Below w.heap.size w V) (h4 : ∀ k, k ≠ w.heap.size + 1 → V.heap[k]? = W.heap[k]?) (h5 : V.heap.size = W.heap.size) : CsE w t st ft dy cells past (.returned (.agg #[.int .i64 t, .int .i64 st, .slice ca cells.length cc, .slice ga past.length gc, .int .i64 ft, .int .i64 dy])) V := by
  have kp : Kp W V (fun x => x = w.heap.size + 1) := ⟨hb.os.trans c.bel.os.symm, hb.tape.trans c.bel.tape.symm, hb.output.trans c.bel.output.symm, by omega, fun x _ hn => h4 x hn⟩
  have nt : ∀ (y : Nat) (cc : Array Value) (fr : Nat × Nat), y = w.heap.size + 1 → W.heap[y]? ≠ some (.cells cc 73 fr) := by
    rintro y c' fr rfl z
    have := c.zb.symm.trans z
    injection this with this
    injection this with _ q
    exact absurd q (by decide)
  have oz := own_blkG c.ce (fun g hg => h4 g (fun z => own_neB c.ce c.zb (by decide) (by rw [hg, z])))
  have op := own_blkG c.pa (fun g hg => h4 g (fun z => own_neB c.pa c.zb (by decide) (by rw [hg, z])))
  exact ⟨hb, ca, cc, ga, gc, us, rfl, oz, own_pav op (fun i hi => (c.rows i hi).keep kp nt) c.one, op⟩
theorem CeR.lat {w w' : World} {v : Value} {l : List Int} (h : CeR w v l) (b : Below w.heap.size w w') : CeR w' v l := h.blk (fun g hg => by
  obtain ⟨cur, fr, e⟩ := h.lt g hg
  exact b.block g (Array.getElem?_eq_some_iff.1 e).1)
set_option maxRecDepth 100000 in
set_option maxHeartbeats 3200000 in
theorem copyState_any {w : World} {t st ft dy : Int} {cells : List Int} {past : List (List Cl)} {ca pa : Option Addr} {cc pc : Nat} {vs : List Value} (hc : CeR w (.slice ca cells.length cc) cells) (hp : PaV w (.slice pa past.length pc) past vs) (n1 : cells.length ≤ 1000000) (n2 : past.length ≤ 1000000) (n3 : ∀ i, i < past.length → (past.getD i []).length ≤ 1000000) : Calls Tryz.prog 32 #[.agg #[.int .i64 t, .int .i64 st, .slice ca cells.length cc, .slice pa past.length pc, .int .i64 ft, .int .i64 dy]] w fun e w' => CsE w t st ft dy cells past e w' := by
  obtain ⟨W0, hW0⟩ : ∃ W, (w.alloc (.cells #[.int .i64 t, .int .i64 st, .slice ca cells.length cc, .slice pa past.length pc, .int .i64 ft, .int .i64 dy] 51)).alloc (.cells #[.int .i64 0, .int .i64 0, .slice none 0 0, .slice none 0 0, .int .i64 0, .int .i64 0] 51) = W := ⟨_, rfl⟩
  have B0 : Below w.heap.size w W0 := by rw [← hW0]; exact (allocBP w _).trans ((allocBP (w.alloc _) _).mono (by simp))
  have S0 : W0.heap.size = w.heap.size + 2 := by rw [← hW0]; simp
  have P0 : BkP W0 w.heap.size #[.int .i64 t, .int .i64 st, .slice ca cells.length cc, .slice pa past.length pc, .int .i64 ft, .int .i64 dy] 51 := by rw [← hW0]; exact BkP.lat (heapN w _) (allocBP _ _)
  have Z0 : BkP W0 (w.heap.size + 1) #[.int .i64 0, .int .i64 0, .slice none 0 0, .slice none 0 0, .int .i64 0, .int .i64 0] 51 := by
    rw [← hW0]
    have := heapN (w.alloc (.cells #[.int .i64 t, .int .i64 st, .slice ca cells.length cc, .slice pa past.length pc, .int .i64 ft, .int .i64 dy] 51)) (.cells #[.int .i64 0, .int .i64 0, .slice none 0 0, .slice none 0 0, .int .i64 0, .int .i64 0] 51)
    rw [show (w.alloc (.cells #[.int .i64 t, .int .i64 st, .slice ca cells.length cc, .slice pa past.length pc, .int .i64 ft, .int .i64 dy] 51)).heap.size = w.heap.size + 1 by simp] at this
    exact this
  obtain ⟨a0, a1, a2, a3, a4, a5⟩ := box_all6 P0
  have KZ := Lib.hid (cloneZ_any (hc.lat B0) n1)
  have CE := Lib.hid (p := ∀ V, Below W0.heap.size W0 V → V.frozen? ⟨w.heap.size, 2, none⟩ = false ∧ V.cell? ⟨w.heap.size, 2, none⟩ = some (.slice ca cells.length cc) ∧ V.cell? ⟨w.heap.size, 3, none⟩ = some (.slice pa past.length pc)) (fun V b => by
    have q := P0.lat b
    exact ⟨q.frozen 2, by rw [q.cell]; rfl, by rw [q.cell]; rfl⟩)
  have KR := Lib.hid (p := ∀ w1 ca1 cc1, Below W0.heap.size W0 w1 → OwZ w1 W0.heap.size (.slice ca1 cells.length cc1) cells → Calls Tryz.prog 47 #[.slice pa past.length pc] (w1.setCell ⟨w.heap.size, 2, none⟩ (.slice ca1 cells.length cc1)) fun e w2 => ∃ ga gc, e = .returned (.slice ga past.length gc) ∧ w2.frozen? ⟨w.heap.size, 3, none⟩ = false ∧ w2.cell? ⟨w.heap.size, 3, none⟩ = some (.slice pa past.length pc) ∧ RowKit.Hid (CsI w t st ft dy cells past ca1 cc1 ga gc vs (w2.setCell ⟨w.heap.size, 3, none⟩ (.slice ga past.length gc)))) (fun w1 ca1 cc1 b1 o1 => by
    have bw := B0.trans (b1.mono B0.size)
    have q1 := (P0.lat b1)
    have q2 := q1.set2 2 (.slice ca1 cells.length cc1) (by simp)
    have z2 := (Z0.lat b1).other w.heap.size 2 (.slice ca1 cells.length cc1) (by omega)
    have bs : Below w.heap.size w (w1.setCell ⟨w.heap.size, 2, none⟩ (.slice ca1 cells.length cc1)) := bw.setCell (by exact Nat.le_refl _) _
    have o2 : OwZ (w1.setCell ⟨w.heap.size, 2, none⟩ (.slice ca1 cells.length cc1)) w.heap.size (.slice ca1 cells.length cc1) cells := own_blkG (ownsRow_base o1 B0.size) (fun g hg => bk_block (fun z => own_neB o1 q1 (by decide) (by rw [hg, z])))
    have hp1 : PaV (w1.setCell ⟨w.heap.size, 2, none⟩ (.slice ca1 cells.length cc1)) (.slice pa past.length pc) past vs := hp.lat bs
    refine (cloneR_any hp1 n2).mono ?_
    rintro e w2 ⟨ga, gc, rfl, o3, b3⟩
    have bw2 := bs.trans (b3.mono bs.size)
    have q3 := q2.lat b3
    have q4 := q3.set2 3 (.slice ga past.length gc) (by simp)
    have kp : Kp w2 (w2.setCell ⟨w.heap.size, 3, none⟩ (.slice ga past.length gc)) (fun x => x = w.heap.size) := ⟨rfl, rfl, rfl, by rw [set_size]; exact Nat.le_refl _, fun x _ hn => bk_block hn⟩
    refine ⟨ga, gc, rfl, q3.frozen 3, by rw [q3.cell]; rfl, ⟨bw2.setCell (by exact Nat.le_refl _) _, by simpa using q4, (z2.lat b3).other _ _ _ (by omega), own_blkG (o2.lat b3) (fun g hg => bk_block (fun z => own_neB (o2.lat b3) q3 (by decide) (by rw [hg, z]))), own_blkG (ownsRow_base o3.out bs.size) (fun g hg => bk_block (fun z => own_neB o3.out q3 (by decide) (by rw [hg, z]))), fun i hi => ((hp1.rows i hi).lat b3).keep kp ?_, hp.one⟩⟩
    rintro y c fr rfl z
    have := q3.symm.trans z
    injection this with this
    injection this with _ q
    exact absurd q (by decide))
  have HW := Lib.hid hW0
  clear B0 S0 P0 Z0 hW0 hc hp
  generalize hcn : cells.length = cn at *
  generalize hpn : past.length = pn at *
  go_enter Tryz.func32, Tryz.ntmps32
  go_wp2_with fail
  go_at_call 41
  rw [HW.out]
  refine KZ.out.mono ?_
  rintro e w1 ⟨ca1, cc1, rfl, o1, b1⟩
  obtain ⟨f2, x2, x3⟩ := CE.out w1 b1
  have KR1 := Lib.hid (KR.out w1 ca1 cc1 b1 o1.out)
  clear KR KZ CE o1 b1 a0 a1 a2 a3 a4 a5
  go_wp2_with fail
  go_at_call 47
  refine KR1.out.mono ?_
  rintro e w2 ⟨ga, gc, rfl, f3, y3, C4⟩
  clear KR1 f2 x2 x3
  go_wp2
  subst hcn hpn
  clear f3 y3
  go_loopw [15] (fun t0 wr => ∃ (k : Nat) (us : List Value), k ≤ past.length ∧ t0 = .int .i64 (k : Int) ∧ RowKit.Hid (CsI w t st ft dy cells past ca1 cc1 ga gc us wr)) (fun t0 _ => past.length - (intOf t0).toNat)
  case atStart => exact ⟨0, vs, by omega, rfl, C4.out⟩
  case round =>
    clear C4
    rename World => wr
    obtain ⟨k, us, hk, rfl, hC⟩ := hrel
    have c := hC.out
    by_cases hlt : k < past.length
    · have kc : (k : Int) < (past.length : Int) := by omega
      have k0 : ¬ (k : Int) < 0 := by omega
      have ks : IntKind.i64.wrap ((k : Int) + 1) = (k : Int) + 1 := by simp [IntKind.wrap, IntKind.bits, IntKind.signed]; omega
      obtain ⟨g, rfl⟩ : ∃ g, ga = some ⟨g, 0, none⟩ := by
        rcases c.pa.2 with ⟨_, z⟩ | ⟨g, cap, cur, e, _⟩
        · omega
        · injection e with e; exact ⟨g, e⟩
      have x3 : wr.cell? ⟨w.heap.size, 3, none⟩ = some (.slice (some ⟨g, 0, none⟩) past.length gc) := by rw [c.box.cell]; rfl
      have ul : us.length = past.length := by have := c.pa.1; omega
      obtain ⟨ra, rz, hv, _⟩ := c.rows k hlt
      have g1 : wr.cell? ⟨g, k, none⟩ = some (.slice ra (past.getD k []).length rz) := by
        rw [World.ownsRow.cellAt c.pa k (by omega), ← hv]
        simp [List.getD, ul, hlt]
      have rv : RwV wr (.slice ra (past.getD k []).length rz) (past.getD k []) := by rw [← hv]; exact c.rows k hlt
      have KI := Lib.hid (fun V (b : Below wr.heap.size wr V) => cloneC_any (rv.lat b) (n3 k hlt))
      have NX := Lib.hid (p := ∀ V, Below wr.heap.size wr V → ∀ ca cc, RwV V (.slice ca (past.getD k []).length cc) (past.getD k []) → V.cell? ⟨w.heap.size, 3, none⟩ = some (.slice (some ⟨g, 0, none⟩) past.length gc) ∧ V.cell? ⟨g, k, none⟩ = some (.slice ra (past.getD k []).length rz) ∧ V.frozen? ⟨g, k, none⟩ = false ∧ RowKit.Hid (CsI w t st ft dy cells past ca1 cc1 (some ⟨g, 0, none⟩) gc (us.set k (.slice ca (past.getD k []).length cc)) (V.setCell ⟨g, k, none⟩ (.slice ca (past.getD k []).length cc)))) (fun V b ca cc o => by
        have cV := c.lat b
        obtain ⟨⟨cur, bk⟩, _⟩ := own_bk cV.pa
        exact ⟨below_cell b x3, below_cell b g1, bk.frozen _, cV.next hlt o⟩)
      generalize past.getD k [] = row at *
      generalize row.length = rn at *
      clear hC c rv hv
      go_wp2
      go_region_with (go_at_call 48; refine (KI.out _ (by first | exact Below.refl _ _ | exact drew1 _)).mono ?_; rintro e w6 ⟨ca6, cc6, rfl, o6, b6⟩; obtain ⟨y1, y2, y3, y4⟩ := NX.out w6 (by first | exact b6 | exact (drew1 wr).trans b6) ca6 cc6 o6.out; clear b6)
      all_goals
        go_wp2
        refine ⟨⟨k + 1, _, by omega, by simp, y4⟩, ?_⟩
        simp [intOf]
        omega
    · have e : k = past.length := by omega
      subst e
      have kc : ¬ (past.length : Int) < (past.length : Int) := by omega
      obtain ⟨x0, x1, x2, x3, x4, x5⟩ := box_all6 c.box
      obtain ⟨z0, z1, z2, z3, z4, z5⟩ := box_all6 c.zb
      have f0 := c.zb.frozen 0
      have f1 := c.zb.frozen 1
      have f2 := c.zb.frozen 2
      have f3 := c.zb.frozen 3
      have f4 := c.zb.frozen 4
      have f5 := c.zb.frozen 5
      obtain ⟨s1, s2, s3⟩ := set6 c.zb (.int .i64 t) (.int .i64 st) (.slice ca1 cells.length cc1) (.slice ga past.length gc) (.int .i64 ft) (.int .i64 dy)
      have S1 := Lib.hid s1
      have S2 := Lib.hid s2
      have S3 := Lib.hid s3
      have CC := Lib.hid c
      clear c s1 s2 s3 hC
      go_wp2
      refine bodyPost_ret (v := .agg #[.int .i64 t, .int .i64 st, .slice ca1 cells.length cc1, .slice ga past.length gc, .int .i64 ft, .int .i64 dy]) ?r rfl ?s
      case r => exact results_cell_row rfl _ _ (w.heap.size + 1) 51 _ (0, 0) _ rfl S1.out Tryz.underlying51 rfl (by kernel_rfl)
      case s => exact cs_fin CC.out ((((((CC.out.bel.setCell (by exact Nat.le_succ _) _).setCell (by exact Nat.le_succ _) _).setCell (by exact Nat.le_succ _) _).setCell (by exact Nat.le_succ _) _).setCell (by exact Nat.le_succ _) _).setCell (by exact Nat.le_succ _) _) S2.out S3.out
end Go.Proofs.YtpfjnnkjoabgbaaGreatDoor

namespace Go.Proofs.YtpfjnnkjoabgbaaGreatDoor
open Go.RowKit
set_option linter.unusedVariables false
set_option linter.unusedSimpArgs false
theorem CeR.form {w : World} {v : Value} {l : List Int} (h : CeR w v l) : ∃ a c, v = .slice a l.length c := by
  rcases h with ⟨rfl, a, c, rfl, _⟩ | h
  · exact ⟨a, c, rfl⟩
  · obtain ⟨a, cap, e, _⟩ := h.form
    exact ⟨a, cap, e⟩
theorem PaV.sl {w : World} {v : Value} {l : List (List Cl)} {vs : List Value} (h : PaV w v l vs) : ∃ a c, v = .slice a l.length c := by
  rcases h.form with ⟨rfl, rfl⟩ | ⟨g, o, cap, cur, rfl, _⟩
  · exact ⟨_, _, rfl⟩
  · exact ⟨_, _, rfl⟩
set_option maxRecDepth 100000 in
set_option maxHeartbeats 1600000 in
theorem state_any {D : Nat → Prop} {w : World} {mb : Nat} {p : Pg} {cev pav : Value} {s : Ms} (m : McV D w mb p (vfyA p).2.2.2 cev pav s) (hv : (vfyA p).1 = 0) : Calls Tryz.prog 19 #[.pointer (some ⟨mb, 0, none⟩)] w fun e w' => CsE w s.today s.steps s.fault s.day s.cells s.past e w' := by
  obtain ⟨n1, n2, n3, n4, n5, n6, n7, n8, hcan⟩ := nds_of hv
  obtain ⟨ca, cc, hc⟩ := m.ce.form
  obtain ⟨vs, hp⟩ := m.pa
  obtain ⟨pa, pc, hpv⟩ := hp.sl
  have b1 : s.cells.length ≤ 1000000 := by rw [m.ok.ce]; omega
  have b2 : s.past.length ≤ 1000000 := by have := m.ok.pl; have := m.ok.t1; omega
  have b3 : ∀ i, i < s.past.length → (s.past.getD i []).length ≤ 1000000 := by
    intro i hi
    have := (m.ok.pr (s.past.getD i []) (by simp [List.getD, hi])).1
    omega
  have bx := m.box
  rw [hc, hpv] at bx
  rw [hpv] at hp
  have hce := m.ce
  rw [hc] at hce
  obtain ⟨W0, hW0⟩ : ∃ W, w.alloc (.cells #[.int .i64 0, .int .i64 0, .slice none 0 0, .slice none 0 0, .int .i64 0, .int .i64 0] 51) = W := ⟨_, rfl⟩
  have B0 : Below w.heap.size w W0 := by rw [← hW0]; exact allocBP w _
  have Z0 : BkP W0 w.heap.size #[.int .i64 0, .int .i64 0, .slice none 0 0, .slice none 0 0, .int .i64 0, .int .i64 0] 51 := by rw [← hW0]; exact heapN w _
  have bx0 := bx.lat B0
  unfold mArr at bx0
  have x11 : W0.cell? ⟨mb, 11, none⟩ = some (.int .i64 s.today) := by rw [bx0.cell]; rfl
  have x12 : W0.cell? ⟨mb, 12, none⟩ = some (.int .i64 s.steps) := by rw [bx0.cell]; rfl
  have x13 : W0.cell? ⟨mb, 13, none⟩ = some (.slice ca s.cells.length cc) := by rw [bx0.cell]; rfl
  have x14 : W0.cell? ⟨mb, 14, none⟩ = some (.slice pa s.past.length pc) := by rw [bx0.cell]; rfl
  have x15 : W0.cell? ⟨mb, 15, none⟩ = some (.int .i64 s.fault) := by rw [bx0.cell]; rfl
  have x16 : W0.cell? ⟨mb, 16, none⟩ = some (.int .i64 s.day) := by rw [bx0.cell]; rfl
  have KC := Lib.hid (copyState_any (t := s.today) (st := s.steps) (ft := s.fault) (dy := s.day) (hce.lat B0) (hp.lat B0) b1 b2 b3)
  have ZZ := Lib.hid (p := ∀ V, Below W0.heap.size W0 V → BkP V w.heap.size #[.int .i64 0, .int .i64 0, .slice none 0 0, .slice none 0 0, .int .i64 0, .int .i64 0] 51) (fun V b => Z0.lat b)
  have BB := Lib.hid (p := ∀ V, Below W0.heap.size W0 V → Below w.heap.size w V) (fun V b => B0.trans (b.mono B0.size))
  have FE := Lib.hid (p := ∀ w1, Below W0.heap.size W0 w1 → ∀ ca1 cc1 ga gc us, OwZ w1 W0.heap.size (.slice ca1 s.cells.length cc1) s.cells → PaV w1 (.slice ga s.past.length gc) s.past us → w1.ownsRow W0.heap.size 47 1 (.slice ga s.past.length gc) s.past.length us → ∀ V : World, Below w.heap.size w V → (∀ k, k ≠ w.heap.size → V.heap[k]? = w1.heap[k]?) → V.heap.size = w1.heap.size → CsE w s.today s.steps s.fault s.day s.cells s.past (.returned (.agg #[.int .i64 s.today, .int .i64 s.steps, .slice ca1 s.cells.length cc1, .slice ga s.past.length gc, .int .i64 s.fault, .int .i64 s.day])) V) (fun w1 b1 ca1 cc1 ga gc us oz pv op V hb h4 h5 => by
    have zb := Z0.lat b1
    have bw := B0.trans (b1.mono B0.size)
    have kp : Kp w1 V (fun x => x = w.heap.size) := ⟨hb.os.trans bw.os.symm, hb.tape.trans bw.tape.symm, hb.output.trans bw.output.symm, by omega, fun x _ hn => h4 x hn⟩
    have nt : ∀ (y : Nat) (cc : Array Value) (fr : Nat × Nat), y = w.heap.size → w1.heap[y]? ≠ some (.cells cc 73 fr) := by
      rintro y c' fr rfl z
      have := zb.symm.trans z
      injection this with this
      injection this with _ q
      exact absurd q (by decide)
    have oz' := own_blkG (ownsRow_base oz B0.size) (fun g hg => h4 g (fun z => own_neB oz zb (by decide) (by rw [hg, z])))
    have op' := own_blkG (ownsRow_base op B0.size) (fun g hg => h4 g (fun z => own_neB op zb (by decide) (by rw [hg, z])))
    exact ⟨hb, ca1, cc1, ga, gc, us, rfl, oz', own_pav op' (fun i hi => (pv.rows i hi).keep kp nt) pv.one, op'⟩)
  have HW := Lib.hid hW0
  clear B0 Z0 hW0 bx bx0 hce hp m hc hpv n1 n2 n3 n4 n5 n6 n7 n8 hcan b1 b2 b3
  obtain ⟨td, sp, ce, ps, fl, dd⟩ := s
  simp only at *
  go_enter Tryz.func19, Tryz.ntmps19
  go_upto_region 1 with fail
  rw [HW.out]
  go_wp2_with fail
  go_at_call 32
  refine KC.out.mono ?_
  rintro e w1 ⟨b1, ca1, cc1, ga, gc, us, rfl, oz, pv, op⟩
  have zb := ZZ.out w1 b1
  obtain ⟨z0, z1, z2, z3, z4, z5⟩ := box_all6 zb
  have f0 := zb.frozen 0
  have f1 := zb.frozen 1
  have f2 := zb.frozen 2
  have f3 := zb.frozen 3
  have f4 := zb.frozen 4
  have f5 := zb.frozen 5
  obtain ⟨s1, s2, s3⟩ := set6 zb (.int .i64 td) (.int .i64 sp) (.slice ca1 ce.length cc1) (.slice ga ps.length gc) (.int .i64 fl) (.int .i64 dd)
  have S1 := Lib.hid s1
  have S2 := Lib.hid s2
  have S3 := Lib.hid s3
  have BX := Lib.hid (BB.out w1 b1)
  have FX := Lib.hid (FE.out w1 b1 ca1 cc1 ga gc us oz pv op)
  clear zb s1 s2 s3 KC ZZ FE b1 oz pv op x11 x12 x13 x14 x15 x16
  go_wp2
  refine bodyPost_ret (v := .agg #[.int .i64 td, .int .i64 sp, .slice ca1 ce.length cc1, .slice ga ps.length gc, .int .i64 fl, .int .i64 dd]) ?r rfl ?s
  case r => exact results_cell_row rfl _ _ w.heap.size 51 _ (0, 0) _ rfl S1.out Tryz.underlying51 rfl (by kernel_rfl)
  case s => exact FX.out _ ((((((BX.out.setCell (by exact Nat.le_refl _) _).setCell (by exact Nat.le_refl _) _).setCell (by exact Nat.le_refl _) _).setCell (by exact Nat.le_refl _) _).setCell (by exact Nat.le_refl _) _).setCell (by exact Nat.le_refl _) _) S2.out S3.out
end Go.Proofs.YtpfjnnkjoabgbaaGreatDoor

namespace Go.Proofs.YtpfjnnkjoabgbaaGreatDoor
open Go.RowKit
set_option linter.unusedVariables false
set_option linter.unusedSimpArgs false
theorem mDo_fll (E : EvM) (i : In) (r : Rn) : (mDo E i r).2.fl.length ≤ r.fl.length + 1 := by
  unfold mDo
  split <;> try (simp [Rn.put, Rn.cut]; done)
  · split <;> simp [Rn.put]
  · split <;> simp [Rn.cut]
  · split <;> simp [Rn.cut, Rn.put]
theorem mGo_fll (E : EvM) (code : List In) : ∀ (n : Nat) (r : Rn), (mGo E code n r).2.2.fl.length ≤ r.fl.length + n
  | 0, r => by simp [mGo]
  | n + 1, r => by
    simp only [mGo]
    have q := mDo_fll E (code.getD r.nx default) { r with nx := r.nx + 1 }
    have q : (mAt E code r).2.fl.length ≤ r.fl.length + 1 := q
    split
    · simp only; omega
    · have := mGo_fll E code n (mAt E code r).2
      simp only
      omega
theorem dayCode_len {p : Pg} (h : (vfyA p).1 = 0) (t : Int) : (dayCode p.days t).length ≤ 262144 := by
  by_cases q : dayCode p.days t = []
  · rw [q]; simp
  · exact (dayOk_of h q).len
theorem dayFl_len {p : Pg} (h : (vfyA p).1 = 0) (s : Ms) (row : List Cl) : (dayFl p s row).length ≤ 262144 := by
  have := mGo_fll (p.env s row) (dayCode p.days s.today) (dayCode p.days s.today).length s.begun
  have l := dayCode_len h s.today
  have : (dayFl p s row).length ≤ (dayCode p.days s.today).length := by simpa [Ms.begun, dayFl, dayGo] using this
  omega
theorem runMs_fllM {p : Pg} {M : Nat} (h : ∀ s row, (dayFl p s row).length ≤ M) (back : Int) (a : Nat → List Cl) (s : Ms) : ∀ n, (runMs p back a n s).2.length ≤ n * M
  | 0 => by simp [runMs]
  | n + 1 => by
    have ih := runMs_fllM h back a s n
    have e : (n + 1) * M = n * M + M := Nat.succ_mul n M
    rw [e]
    have q := h (runMs p back a n s).1 (a n)
    simp only [runMs]
    split
    · exact Nat.le_trans ih (Nat.le_add_right _ _)
    · simp only [List.length_append]
      exact Nat.add_le_add ih q
theorem runMs_fll {p : Pg} (h : (vfyA p).1 = 0) (back : Int) (a : Nat → List Cl) (s : Ms) {n : Nat} (hn : n ≤ 4000) : (runMs p back a n s).2.length ≤ 1048576000 := by
  have q := runMs_fllM (M := 262144) (fun s row => dayFl_len h s row) back a s n
  exact Nat.le_trans q (Nat.le_trans (Nat.mul_le_mul_right _ hn) (by decide))
/-- 'l = append(l, more...)' of flows. -/
theorem wp_flws {ops : Array Oper} {rest : List Oper} {o : Oper} {a : Act} {Q : Exit → Act → World → Prop} (w : World) (hgd : o.guard = none) (s y : Operand)
    (ho : o.op = .call { callee := .builtin .append, args := #[s, y], argTypes := #[29, 29] }) (B C : Nat) (v u : Value) (l k : List Fl) (hs : a.eval s = v) (hy : a.eval y = u)
    (hv : OwF w B v l) (hu : OwF w C u k) (hl : l.length + k.length ≤ 4000000000000) (hb : B ≤ w.heap.size)
    (h : ∀ a' n' c' w', OwF w' B (.slice a' n' c') (l ++ k) → w.grownBy w' v.ownBlock → wpList Tryz.prog ops Q rest (a.put o.dst (.slice a' n' c')) w') : wpList Tryz.prog ops Q (o :: rest) a w := by
  obtain ⟨i0, hi, hz0, hz1, hz2⟩ := info_parts infoFo
  have one : ∀ x ∈ focs k, x.oneCell' = true := by
    intro x hx
    unfold focs at hx
    obtain ⟨f, _, hx⟩ := List.mem_flatMap.1 hx
    simp [fo3] at hx
    rcases hx with rfl | rfl | rfl <;> rfl
  rcases hu.2 with ⟨rfl, h0⟩ | ⟨g, cap, cur, rfl, e2, e3, e4, e5, e6, e7⟩
  · have : k = [] := List.length_eq_zero_iff.1 h0
    subst this
    obtain ⟨a', c', rfl⟩ := own_form hv
    refine wpList_append_own_none hgd s y 29 ho B 54 i0 3 Tryz.underlying29 hi (.slice a' l.length c') l.length (focs l) hs hv hy ?_
    exact h a' l.length c' w (by rw [List.append_nil]; exact hv) ⟨rfl, rfl, rfl, Nat.le_refl _, fun _ _ _ => rfl⟩
  · refine wpList_append_own _ hgd s y 29 ho B 54 i0 (.agg #[.int .i64 0, .string ⟨#[]⟩, .int .i64 0]) 3 32 Tryz.underlying29 hi hz0 hz1 hz2 rfl (by decide) v _ _ hs hv ⟨g, 0, none⟩ k.length cap (focs k) hy (focs_len k) ?_ one (by unfold maxLen; omega) (by omega) hb ?_
    · intro j x hj
      have hj' : j < k.length * 3 := by rw [← focs_len]; exact (List.getElem?_eq_some_iff.1 hj).1
      rw [Addr.add_lit, Nat.zero_add]
      simp only [World.cell?, e3]
      rw [← e7, List.getElem?_take_of_lt hj'] at hj
      simpa using hj
    · intro v' w' h1 h2 _
      obtain ⟨a', c', rfl⟩ := own_form h1
      have e : l.length + k.length = (l ++ k).length := by simp
      have q : OwF w' B (.slice a' (l ++ k).length c') (l ++ k) := by
        unfold OwF
        rw [focs_append, ← e]
        exact h1
      rw [e]
      exact h a' _ c' w' q h2
/-- The row of a day, as Run takes it. -/
def rowsF (rs : List Rw) (d : Nat) : List Cl := (rs.getD d default).cs
/-- What Run answers. -/
structure RnE (w : World) (p : Pg) (rows : Nat → List Cl) (e : Ending) (w' : World) : Prop where
  bel : Below w.heap.size w w'
  bad : (vfyA p).1 ≠ 0 → e = .returned (.tuple #[.agg #[.slice none 0 0, .int .i64 0, .int .i64 0], .int .i64 (vfyA p).1])
  ok : (vfyA p).1 = 0 → ∃ fa fn fc, e = .returned (.tuple #[.agg #[.slice fa fn fc, .int .i64 (runMs p (vfyA p).2.2.2.back rows (p.hor + 1).toNat p.born).1.fault, .int .i64 (runMs p (vfyA p).2.2.2.back rows (p.hor + 1).toNat p.born).1.day], .int .i64 0]) ∧ OwF w' w.heap.size (.slice fa fn fc) (runMs p (vfyA p).2.2.2.back rows (p.hor + 1).toNat p.born).2
/-- A run that is going on: behind d days. -/
structure RnI (w : World) (N mb ob : Nat) (p' : Pg) (cev : Value) (D : Nat → Prop) (rows : Nat → List Cl) (d : Nat) (fa : Option Addr) (fn fc : Nat) (W : World) : Prop where
  bel : Below w.heap.size w W
  mc : ∃ pav, McV D W mb p' (vfyA p').2.2.2 cev pav (runMs p' (vfyA p').2.2.2.back rows d p'.born).1 ∧ ∀ g, pav.ownBlock = some g → w.heap.size ≤ g
  zb : BkP W (w.heap.size + 1) #[.slice none 0 0, .int .i64 0, .int .i64 0] 32
  obx : BkP W ob #[.slice fa fn fc, .int .i64 0, .int .i64 0] 32
  fl : OwF W N (.slice fa fn fc) (runMs p' (vfyA p').2.2.2.back rows d p'.born).2
  gm : w.heap.size ≤ mb
  gc : ∀ g, cev.ownBlock = some g → w.heap.size ≤ g
  gd : ∀ k, D k → k < N
  go : N ≤ ob ∧ w.heap.size + 1 < ob ∧ w.heap.size ≤ N ∧ N ≤ W.heap.size
section
variable {w : World} {N mb ob : Nat} {p' : Pg} {cev : Value} {D : Nat → Prop} {rows : Nat → List Cl} {d : Nat} {fa : Option Addr} {fn fc : Nat} {W : World}
theorem RnI.lat {W' : World} (h : RnI w N mb ob p' cev D rows d fa fn fc W) (b : Below W.heap.size W W') : RnI w N mb ob p' cev D rows d fa fn fc W' := by
  obtain ⟨pav, m, q⟩ := h.mc
  exact ⟨h.bel.trans (b.mono h.bel.size), ⟨pav, m.lat b, q⟩, h.zb.lat b, h.obx.lat b, own_blkG h.fl (fun g hg => b.block g (World.ownsRow.lt h.fl g hg).2), h.gm, h.gc, h.gd, ⟨h.go.1, h.go.2.1, h.go.2.2.1, Nat.le_trans h.go.2.2.2 b.size⟩⟩
end
end Go.Proofs.YtpfjnnkjoabgbaaGreatDoor

namespace Go.Proofs.YtpfjnnkjoabgbaaGreatDoor
open Go.RowKit
set_option linter.unusedVariables false
set_option linter.unusedSimpArgs false
section
variable {w : World} {N mb ob : Nat} {p' : Pg} {cev : Value} {D : Nat → Prop} {rows : Nat → List Cl} {d : Nat} {fa : Option Addr} {fn fc : Nat} {W : World}
/-- Behind a day, ahead of the append. -/
structure RnD (w : World) (N mb ob : Nat) (p' : Pg) (cev : Value) (D : Nat → Prop) (rows : Nat → List Cl) (d : Nat) (fa : Option Addr) (fn fc : Nat) (flv : Value) (W : World) : Prop where
  bel : Below w.heap.size w W
  mc : ∃ pav, McV D W mb p' (vfyA p').2.2.2 cev pav (runMs p' (vfyA p').2.2.2.back rows (d + 1) p'.born).1 ∧ ∀ g, pav.ownBlock = some g → w.heap.size ≤ g
  zb : BkP W (w.heap.size + 1) #[.slice none 0 0, .int .i64 0, .int .i64 0] 32
  obx : BkP W ob #[.slice fa fn fc, .int .i64 0, .int .i64 0] 32
  fl : OwF W N (.slice fa fn fc) (runMs p' (vfyA p').2.2.2.back rows d p'.born).2
  nf : OwF W 0 flv (dayFl p' (runMs p' (vfyA p').2.2.2.back rows d p'.born).1 (rows d))
  ne : Value.ownBlock (.slice fa fn fc) = none ∨ Value.ownBlock (.slice fa fn fc) ≠ flv.ownBlock
  gm : w.heap.size ≤ mb
  gc : ∀ g, cev.ownBlock = some g → w.heap.size ≤ g
  gd : ∀ k, D k → k < N
  go : N ≤ ob ∧ w.heap.size + 1 < ob ∧ w.heap.size ≤ N ∧ N ≤ W.heap.size
theorem keep_ty {S : Nat → Prop} {A V : World} (k : Kp A V S) {x : Nat} {cur : Array Value} {t : TypeId} {fr : Nat × Nat} (e : A.heap[x]? = some (.cells cur t fr)) (hS : ∀ y, S y → ∃ c u f, A.heap[y]? = some (.cells c u f) ∧ u ≠ t) : V.heap[x]? = A.heap[x]? := by
  refine k.blk x (Array.getElem?_eq_some_iff.1 e).1 (fun z => ?_)
  obtain ⟨c, u, f, e2, ne⟩ := hS x z
  have := e.symm.trans e2
  injection this with this
  injection this with _ q
  exact ne q.symm
theorem RnI.day (h : RnI w N mb ob p' cev D rows d fa fn fc W) {pav : Value} (m : McV D W mb p' (vfyA p').2.2.2 cev pav (runMs p' (vfyA p').2.2.2.back rows d p'.born).1) (gp : ∀ g, pav.ownBlock = some g → w.heap.size ≤ g) (no : ¬ (runMs p' (vfyA p').2.2.2.back rows d p'.born).1.over p'.hor) {e : Ending} {W' : World} (dy : DyE D W mb p' (vfyA p').2.2.2 cev pav (runMs p' (vfyA p').2.2.2.back rows d p'.born).1 (rows d) e W') : ∃ flv f, e = .returned (.tuple #[flv, .int .i64 f, .int .i64 0]) ∧ RnD w N mb ob p' cev D rows d fa fn fc flv W' := by
  obtain ⟨kp, flv, pav', rfl, m', fl', g'⟩ := dy
  have ty : ∀ y, turnS mb cev pav y → ∃ c u f, W.heap[y]? = some (.cells c u f) ∧ (u = 75 ∨ u = 3 ∨ u = 47) := fun y hy => m.turn hy
  have ne : ∀ t, t ≠ 75 → t ≠ 3 → t ≠ 47 → ∀ y, turnS mb cev pav y → ∃ c u f, W.heap[y]? = some (.cells c u f) ∧ u ≠ t := by
    intro t t1 t2 t3 y hy
    obtain ⟨c, u, f, e, q⟩ := ty y hy
    refine ⟨c, u, f, e, ?_⟩
    rcases q with rfl | rfl | rfl
    · exact Ne.symm t1
    · exact Ne.symm t2
    · exact Ne.symm t3
  have bW : Below w.heap.size W W' := kp.bel (fun k hk => by
    rcases hk with rfl | hk | hk
    · exact h.gm
    · exact h.gc k hk
    · exact gp k hk) h.bel.size
  have st : (runMs p' (vfyA p').2.2.2.back rows (d + 1) p'.born).1 = dayMs p' (vfyA p').2.2.2.back (runMs p' (vfyA p').2.2.2.back rows d p'.born).1 (rows d) := by
    simp only [runMs]
    rw [if_neg no]
  refine ⟨flv, _, rfl, ⟨h.bel.trans bW, ⟨pav', by rw [st]; exact m', fun g hg => ?_⟩, (keep_ty kp h.zb (ne _ (by decide) (by decide) (by decide))).trans h.zb, (keep_ty kp h.obx (ne _ (by decide) (by decide) (by decide))).trans h.obx, own_blkG h.fl (fun g hg => ?_), ownsRow_base fl' (Nat.zero_le _), ?_, h.gm, h.gc, h.gd, ⟨h.go.1, h.go.2.1, h.go.2.2.1, Nat.le_trans h.go.2.2.2 kp.size⟩⟩⟩
  · rcases g' g hg with q | q
    · exact gp g q
    · have := h.bel.size; omega
  · rcases h.fl.2 with ⟨z, _⟩ | ⟨g2, cap, cur, z, _, e3, _⟩
    · rw [z] at hg; cases hg
    · rw [z] at hg
      simp only [Value.ownBlock, Option.some.injEq] at hg
      subst hg
      exact keep_ty kp e3 (ne _ (by decide) (by decide) (by decide))
  · cases e1 : Value.ownBlock (.slice fa fn fc) with
    | none => exact .inl rfl
    | some x =>
      right
      intro z
      have a := (World.ownsRow.lt h.fl x e1).2
      have b := (World.ownsRow.lt fl' x z.symm).1
      omega
theorem RnD.next {flv : Value} (h : RnD w N mb ob p' cev D rows d fa fn fc flv W) (no : ¬ (runMs p' (vfyA p').2.2.2.back rows d p'.born).1.over p'.hor) {W' : World} {fa' : Option Addr} {fn' fc' : Nat} (g : W.grownBy W' (Value.ownBlock (.slice fa fn fc))) (o : OwF W' N (.slice fa' fn' fc') ((runMs p' (vfyA p').2.2.2.back rows d p'.born).2 ++ dayFl p' (runMs p' (vfyA p').2.2.2.back rows d p'.born).1 (rows d))) : W'.cell? ⟨ob, 0, none⟩ = some (.slice fa fn fc) ∧ W'.frozen? ⟨ob, 0, none⟩ = false ∧ RnI w N mb ob p' cev D rows (d + 1) fa' fn' fc' (W'.setCell ⟨ob, 0, none⟩ (.slice fa' fn' fc')) := by
  obtain ⟨pav, m, gp⟩ := h.mc
  have lt : ∀ {x : Nat} {oo : Obj}, W.heap[x]? = some oo → x < W.heap.size := fun e => (Array.getElem?_eq_some_iff.1 e).1
  have fb : ∀ x, Value.ownBlock (.slice fa fn fc) = some x → N ≤ x ∧ ∃ cur fr, W.heap[x]? = some (.cells cur 54 fr) := by
    intro x hx
    refine ⟨(World.ownsRow.lt h.fl x hx).1, ?_⟩
    rcases h.fl.2 with ⟨z, _⟩ | ⟨g2, cap, cur, z, _, e3, _⟩
    · rw [z] at hx; cases hx
    · rw [z] at hx
      simp only [Value.ownBlock, Option.some.injEq] at hx
      subst hx
      exact ⟨cur, _, e3⟩
  have kp : Kp W W' (fun k => Value.ownBlock (.slice fa fn fc) = some k) := ⟨g.os, g.tape, g.output, g.size, fun k hk hn => g.block k hk (fun z => hn z.symm)⟩
  have nt : ∀ t, t ≠ 54 → ∀ y, Value.ownBlock (.slice fa fn fc) = some y → ∃ c u f, W.heap[y]? = some (.cells c u f) ∧ u ≠ t := by
    intro t ht y hy
    obtain ⟨_, cur, fr, e⟩ := fb y hy
    exact ⟨cur, _, fr, e, Ne.symm ht⟩
  have ob' : BkP W' ob #[.slice fa fn fc, .int .i64 0, .int .i64 0] 32 := (keep_ty kp h.obx (nt _ (by decide))).trans h.obx
  have zb' : BkP W' (w.heap.size + 1) #[.slice none 0 0, .int .i64 0, .int .i64 0] 32 := (keep_ty kp h.zb (nt _ (by decide))).trans h.zb
  have st : (runMs p' (vfyA p').2.2.2.back rows (d + 1) p'.born).2 = (runMs p' (vfyA p').2.2.2.back rows d p'.born).2 ++ dayFl p' (runMs p' (vfyA p').2.2.2.back rows d p'.born).1 (rows d) := by
    simp only [runMs]
    rw [if_neg no]
  have bW : Below w.heap.size W W' := kp.bel (fun k hk => Nat.le_trans h.go.2.2.1 (fb k hk).1) h.bel.size
  have m1 : McV D W' mb p' (vfyA p').2.2.2 cev pav (runMs p' (vfyA p').2.2.2.back rows (d + 1) p'.born).1 := by
    refine m.keep kp (fun x hx => ?_)
    obtain ⟨gx, cur, fr, e⟩ := fb x hx
    refine ⟨fun z => ?_, fun z => ?_, fun c f z => ?_⟩
    · have := h.gd x z; omega
    · obtain ⟨c, u, f, e2, q⟩ := m.turn z
      have := e.symm.trans e2
      injection this with this
      injection this with _ q2
      rcases q with q | q | q <;> (rw [q] at q2; exact absurd q2 (by decide))
    · have := e.symm.trans z
      injection this with this
      injection this with _ q2
      exact absurd q2 (by decide)
  have kb : Kp W' (W'.setCell ⟨ob, 0, none⟩ (.slice fa' fn' fc')) (fun k => k = ob) := ⟨rfl, rfl, rfl, by rw [set_size]; exact Nat.le_refl _, fun k hk hn => bk_block hn⟩
  have m2 : McV D (W'.setCell ⟨ob, 0, none⟩ (.slice fa' fn' fc')) mb p' (vfyA p').2.2.2 cev pav (runMs p' (vfyA p').2.2.2.back rows (d + 1) p'.born).1 := by
    refine m1.keep kb ?_
    rintro x rfl
    refine ⟨fun z => ?_, fun z => ?_, fun c f z => ?_⟩
    · have := h.gd x z; have := h.go.1; omega
    · obtain ⟨c, u, f, e2, q⟩ := m1.turn z
      have := ob'.symm.trans e2
      injection this with this
      injection this with _ q2
      rcases q with q | q | q <;> (rw [q] at q2; exact absurd q2 (by decide))
    · have := ob'.symm.trans z
      injection this with this
      injection this with _ q2
      exact absurd q2 (by decide)
  have o1 := ob'.set2 0 (.slice fa' fn' fc') (by simp)
  refine ⟨by rw [ob'.cell]; rfl, ob'.frozen 0, ⟨(h.bel.trans bW).setCell (by exact (by have := h.go.2.1; omega : w.heap.size ≤ ob)) _, ⟨pav, m2, gp⟩, zb'.other _ _ _ (by have := h.go.2.1; omega), by simpa using o1, ?_, h.gm, h.gc, h.gd, ⟨h.go.1, h.go.2.1, h.go.2.2.1, by rw [set_size]; exact Nat.le_trans h.go.2.2.2 kp.size⟩⟩⟩
  rw [st]
  exact own_blkG o (fun g hg => bk_block (fun z => own_neB o ob' (by decide) (by rw [hg, z])))
end
end Go.Proofs.YtpfjnnkjoabgbaaGreatDoor
