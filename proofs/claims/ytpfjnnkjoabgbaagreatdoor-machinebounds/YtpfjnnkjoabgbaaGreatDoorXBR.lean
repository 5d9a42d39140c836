import Derived.Test.YtpfjnnkjoabgbaaGreatDoorXBO
namespace Go.Proofs.YtpfjnnkjoabgbaaGreatDoor
open Go.RowKit
set_option linter.unusedVariables false
set_option linter.unusedSimpArgs false
theorem make_cells0 (m : Nat) (hm : m ≤ 8796093022000) (W : World) : (Instr.makeSlice 47 (.int .i64 0) (.int .i64 (m : Int))).run Tryz.prog W = .ok (.slice (some ⟨W.heap.size, 0, none⟩) 0 m) (W.alloc (.cells (madeCells #[.bool false, .int .i64 0] (m * 2)) 73)) := by
  obtain ⟨i0, hi, hz0, hz1, hz2⟩ := info_parts infoCl
  have := run_make (P := Tryz.prog) W 47 73 i0 _ Tryz.underlying47 hi hz0 .i64 .i64 0 m (by omega) (by omega) (by rw [hz2]; omega) (by omega)
  rw [hz1] at this
  simpa [Value.cells] using this
/-- The cells of a row, for an append. -/
theorem rc_news {w : World} {a : Addr} {m : Nat} {row : List Cl} (h : RC w (some a) m row) : ∀ j u, (clv row)[j]? = some u → w.cell? (a.add j) = some u := by
  intro j u hj
  have lt : j < row.length * 2 := by rw [← clv_len]; exact (List.getElem?_eq_some_iff.1 hj).1
  rcases h.2.2.2 with h0 | ⟨b, o, e, hb, hc⟩
  · have := h.1; omega
  · injection e with e
    subst e
    have i1 : j / 2 < m := by have := h.1; omega
    obtain ⟨c0, c1⟩ := hc (j / 2) i1
    have q := clv_at row (j / 2) (by omega) (j % 2) (Nat.mod_lt _ (by omega))
    have e : j / 2 * 2 + j % 2 = j := by omega
    rw [e, hj] at q
    rw [Addr.add_lit]
    rcases (show j % 2 = 0 ∨ j % 2 = 1 by omega) with z | z
    · rw [z] at q
      rw [show o + j = o + j / 2 * 2 by omega, c0]
      exact q.symm
    · rw [z] at q
      rw [show o + j = o + j / 2 * 2 + 1 by omega, c1]
      exact q.symm
theorem rc_own {w : World} {B g n cap : Nat} {row : List Cl} {xs : List Value} (h : w.ownsRow B 73 2 (.slice (some ⟨g, 0, none⟩) n cap) n (clv row ++ xs)) (hl : row.length ≤ n) (hb : row.length ≤ 8796093021952) (hw : ∀ c ∈ row, (Lit.int .i64 c.v).wf = true) : RC w (some ⟨g, 0, none⟩) row.length row := by
  refine ⟨rfl, hb, hw, .inr ⟨g, 0, rfl, (World.ownsRow.lt h g rfl).2, fun i hi => ?_⟩⟩
  have q : ∀ j, j < 2 → w.cell? ⟨g, 0 + i * 2 + j, none⟩ = (row.getD i default).two[j]? := by
    intro j hj
    rw [Nat.zero_add, World.ownsRow.cellAt h (i * 2 + j) (by omega), List.getElem?_append_left (by rw [clv_len]; omega)]
    exact clv_at row i hi j hj
  exact ⟨q 0 (by omega), q 1 (by omega)⟩
/-- A row that was copied. -/
structure RwE (w : World) (row : List Cl) (e : Ending) (w' : World) : Prop where
  bel : Below w.heap.size w w'
  ret : ∃ a n c, e = .returned (.slice a n c) ∧ RC w' a n row ∧ (a = none → n = 0 ∧ c = 0) ∧ n ≤ c ∧ c ≤ maxLen ∧ RwV w' (.slice a n c) row
set_option maxRecDepth 100000 in
set_option maxHeartbeats 1600000 in
theorem row_any {w : World} {a : Option Addr} {m cap : Nat} {row : List Cl} (h : RC w a m row) (hcap : a = none → m = 0 ∧ cap = 0) (hmm : m ≤ 8796093021952) : Calls Tryz.prog 31 #[.slice a m cap] w fun e w' => RwE w row e w' := by
  cases a with
  | none =>
    obtain ⟨rfl, rfl⟩ := hcap rfl
    have nn : ∀ W, (binOp .eql 47 (.slice none 0 0) (.slice none 0 0)).run Tryz.prog W = .ok (.bool true) W := fun W => Lib.run_eql_slice_nil W 47 73 none 0 0 0 0 (by kernel_rfl)
    have E := Lib.hid (p := RwE w row (.returned (.slice none 0 0)) w) ⟨Below.refl _ _, none, 0, 0, rfl, h, fun _ => ⟨rfl, rfl⟩, Nat.le_refl _, Nat.zero_le _, ⟨none, 0, by rw [h.1], .inl (List.length_eq_zero_iff.1 h.1)⟩⟩
    clear h
    go_enter Tryz.func31, Tryz.ntmps31
    go_wp2
    go_ret
    exact E.out
  | some ad =>
    obtain ⟨i0, hi, hz0, hz1, hz2⟩ := info_parts infoCl
    have nn : ∀ W, (binOp .eql 47 (.slice (some ad) m cap) (.slice none 0 0)).run Tryz.prog W = .ok (.bool false) W := fun W => Lib.run_eql_slice_nil W 47 73 (some ad) m cap 0 0 (by kernel_rfl)
    have ks : IntKind.i64.wrap ((m : Int) + 2) = (m : Int) + 2 := by simp [IntKind.wrap, IntKind.bits, IntKind.signed]; omega
    have mk := make_cells0 (m + 2) (by omega)
    simp only [Int.natCast_add, Int.cast_ofNat_Int] at mk
    have hl := h.1
    have B0 := allocBP w (.cells (madeCells #[.bool false, .int .i64 0] ((m + 2) * 2)) 73)
    have NW := Lib.hid (rc_news (h.later B0))
    have OW := Lib.hid (World.ownsRow_made (e := 73) (size := 2) w (madeCells #[.bool false, .int .i64 0] ((m + 2) * 2)) (m + 2) (Nat.le_refl w.heap.size) (by unfold maxLen; omega) (by simp [madeCells]))
    have LN := Lib.hid (p := (clv row).length = m * 2) (by rw [clv_len, hl])
    have M := Lib.hid (p := (0 + m ≤ maxLen ∧ (0 + m) * 16 ≤ 140737488355328 ∧ w.heap.size ≤ (w.alloc (.cells (madeCells #[.bool false, .int .i64 0] ((m + 2) * 2)) 73)).heap.size) ∧ m + 2 ≤ maxLen ∧ (m + 2) * 16 ≤ 140737488355328) ⟨⟨by unfold maxLen; omega, by omega, by simp⟩, by unfold maxLen; omega, by omega⟩
    have ON := Lib.hid (clv_one row)
    have HC := Lib.hid h
    have B0H := Lib.hid B0
    clear h B0
    go_enter Tryz.func31, Tryz.ntmps31
    have M1 : True := trivial
    have L4 := Lib.hid (p := ∀ w1 a1 c1, w1.ownsRow w.heap.size 73 2 (.slice a1 (0 + m) c1) (0 + m) ([] ++ clv row) → (w.alloc (.cells (madeCells #[.bool false, .int .i64 0] ((m + 2) * 2)) 73)).grownBy w1 (some w.heap.size) → (w1.alloc (.cells #[.bool true, .int .i64 (-4711), .bool true, .int .i64 (-4712)] 73)).ownsRow w.heap.size 73 2 (.slice a1 m c1) m (clv row) ∧ (∀ j u, [Value.bool true, .int .i64 (-4711), .bool true, .int .i64 (-4712)][j]? = some u → (w1.alloc (.cells #[.bool true, .int .i64 (-4711), .bool true, .int .i64 (-4712)] 73)).cell? ((⟨w1.heap.size, 0, none⟩ : Addr).add j) = some u) ∧ w.heap.size ≤ (w1.alloc (.cells #[.bool true, .int .i64 (-4711), .bool true, .int .i64 (-4712)] 73)).heap.size ∧ ∀ V, (w1.alloc (.cells #[.bool true, .int .i64 (-4711), .bool true, .int .i64 (-4712)] 73)).grownBy V (Value.ownBlock (.slice a1 m c1)) → Below w.heap.size w V) (fun w1 a1 c1 q1 q2 => by
      rw [Nat.zero_add, List.nil_append] at q1
      have al := allocBP w1 (.cells #[.bool true, .int .i64 (-4711), .bool true, .int .i64 (-4712)] 73)
      have o2 := own_blkG q1 (fun g hg => al.block g (World.ownsRow.lt q1 g hg).2)
      have bw : Below w.heap.size w w1 := ⟨q2.os, q2.tape, q2.output, by have := q2.size; simp at this; omega, fun k hk => (q2.block k (by simp; omega) (by intro z; injection z with z; omega)).trans (B0H.out.block k hk)⟩
      have b2 := bw.trans (al.mono bw.size)
      exact ⟨o2, World.news_of_block (heapN w1 _), b2.size, fun V g => b2.trans ⟨g.os, g.tape, g.output, g.size, fun k hk => g.block k (by have := b2.size; omega) (fun z => by have := (World.ownsRow.lt o2 k z.symm).1; omega)⟩⟩)
    have FE := Lib.hid (p := ∀ V a2 c2, V.ownsRow w.heap.size 73 2 (.slice a2 (m + 2) c2) (m + 2) (clv row ++ [Value.bool true, .int .i64 (-4711), .bool true, .int .i64 (-4712)]) → Below w.heap.size w V → ∃ g, a2 = some ⟨g, 0, none⟩ ∧ m + 2 ≤ c2 ∧ RowKit.Hid (RwE w row (.returned (.slice (some ⟨g, 0, none⟩) m c2)) V)) (fun V a2 c2 q b => by
      obtain ⟨g, cp, e, _, _⟩ := q.form (by omega)
      injection e with e1 _ e3
      subst e1 e3
      have cc : m + 2 ≤ c2 ∧ c2 ≤ maxLen := by
        rcases q.2 with ⟨z, _⟩ | ⟨_, _, _, z, _, _, z4, z5, _⟩
        · cases z
        · injection z with _ _ z; subst z; exact ⟨z4, z5⟩
      have r := rc_own q (by omega) (by omega) HC.out.2.2.1
      rw [hl] at r
      obtain ⟨cur, e3⟩ : ∃ cur, V.heap[g]? = some (.cells cur 73 (0, 0)) := by
        rcases q.2 with ⟨z, _⟩ | ⟨_, _, cur, z, _, e3, _⟩
        · cases z
        · injection z with z _ _; injection z with z; injection z with z; subst z; exact ⟨cur, e3⟩
      refine ⟨g, rfl, cc.1, ⟨b, some ⟨g, 0, none⟩, m, c2, rfl, r, fun z => (by cases z), by omega, cc.2, ⟨_, _, by rw [hl], ?_⟩⟩⟩
      rcases r.2.2.2 with z | ⟨y, u, e, _, hc⟩
      · exact .inl (List.length_eq_zero_iff.1 (by rw [hl]; exact z))
      · injection e with e
        injection e with e1 e2
        subst e1 e2
        exact .inr ⟨g, 0, cur, _, rfl, e3, fun i hi => hc i (by omega)⟩)
    generalize clv row = fl at *
    go_wp2_with (first
      | (at_builtin; have mm := M1; refine wpList_append_own _ rfl _ _ 47 rfl w.heap.size 73 i0 (.agg #[.bool false, .int .i64 0]) 2 16 Tryz.underlying47 hi hz0 hz1 hz2 rfl (by decide) _ 0 [] rfl OW.out ad m cap fl rfl LN.out NW.out ON.out M.out.1.1 M.out.1.2.1 M.out.1.2.2 ?_; intro v1 w1 q1 q2 _; obtain ⟨a1, c1, rfl⟩ := own_form q1; obtain ⟨y1, y2, y3, y4⟩ := L4.out w1 a1 c1 q1 q2; have Y1 := Lib.hid y1; have Y2 := Lib.hid y2; have Y3 := Lib.hid y3; have Y4 := Lib.hid y4; rw [Nat.zero_add]; clear M1 mm q1 q2 y1 y2 y3 y4)
      | (at_builtin; refine wpList_append_own _ rfl _ _ 47 rfl w.heap.size 73 i0 (.agg #[.bool false, .int .i64 0]) 2 16 Tryz.underlying47 hi hz0 hz1 hz2 rfl (by decide) _ m fl rfl Y1.out ⟨w1.heap.size, 0, none⟩ 2 2 [Value.bool true, .int .i64 (-4711), .bool true, .int .i64 (-4712)] rfl rfl Y2.out (by intro u hu; simp at hu; rcases hu with rfl | rfl | rfl | rfl <;> rfl) M.out.2.1 M.out.2.2 Y3.out ?_; intro v2 w2 q1 q2 _; obtain ⟨a2, c2, rfl⟩ := own_form q1; obtain ⟨g, rfl, cc, hE⟩ := FE.out w2 a2 c2 q1 (Y4.out w2 q2); clear q1 q2))
    go_ret
    exact hE.out
set_option maxRecDepth 100000 in
set_option maxHeartbeats 1600000 in
theorem at_any {w : World} {ra : Option Addr} {rn rc : Nat} {rs : List Rw} (h : RL w ra rn rs) (hrn : rn ≤ 9223372036854775807) (day : Int) : Calls Tryz.prog 17 #[.slice ra rn rc, .int .i64 day] w fun e w' => RwE w (if 0 ≤ day then rowsF rs day.toNat else []) e w' := by
  by_cases h0 : 0 ≤ day
  · rw [if_pos h0]
    obtain ⟨d, rfl⟩ : ∃ d : Nat, day = (d : Int) := ⟨day.toNat, by omega⟩
    rw [Int.toNat_natCast]
    by_cases hlt : d < rn
    · have mem : rs.getD d default ∈ rs := by simp [List.getD, h.1, hlt]
      obtain ⟨q1, q2, q3, q4⟩ := h.2.2.1 _ mem
      have KR := Lib.hid (row_any (cap := (rs.getD d default).cap) q1 q2 q1.2.1)
      have KR : RowKit.Hid (Calls Tryz.prog 31 #[.slice (rs.getD d default).a (rs.getD d default).n (rs.getD d default).cap] w fun e w' => RwE w (rowsF rs d) e w') := KR
      obtain ⟨x, o, hra, hx, hc⟩ : ∃ b o, ra = some ⟨b, o, none⟩ ∧ b < w.heap.size ∧ ∀ i, i < rn → w.cell? ⟨b, o + i, none⟩ = some (.slice (rs.getD i default).a (rs.getD i default).n (rs.getD i default).cap) := by
        rcases h.2.2.2 with q | q
        · omega
        · exact q
      have c0 := hc d hlt
      have k0 : ¬ (d : Int) < 0 := by omega
      have k1 : ¬ (rn : Int) ≤ (d : Int) := by omega
      have k2 : decide ((rn : Int) ≤ (d : Int)) = false := by simp; omega
      have k3 : (d : Int) < (rn : Int) := by omega
      have k4 : decide (rn ≤ d) = false := by simp; omega
      generalize rowsF rs d = rr at *
      generalize rs.getD d default = r0 at *
      obtain ⟨r1, r2, r3, r4⟩ := r0
      simp only at c0 KR
      subst hra
      clear q1 q2 q3 q4 hc h mem
      go_enter Tryz.func17, Tryz.ntmps17
      go_wp2_with (go_at_call 31; refine KR.out.mono ?_; intro e w1 hq; obtain ⟨b1, ax, nx, cx, rfl, hx⟩ := hq; have E := Lib.hid (p := RwE w rr (.returned (.slice ax nx cx)) w1) ⟨b1, ax, nx, cx, rfl, hx⟩; clear b1 hx)
      go_ret
      exact E.out
    · have e0 : rowsF rs d = [] := by
        unfold rowsF
        simp only [List.getD, List.getElem?_eq_none (by rw [h.1]; omega : rs.length ≤ d)]
        rfl
      have E := Lib.hid (p := RwE w (rowsF rs d) (.returned (.slice none 0 0)) w) ⟨Below.refl _ _, none, 0, 0, rfl, by rw [e0]; exact ⟨rfl, by omega, by simp, .inl rfl⟩, fun _ => ⟨rfl, rfl⟩, Nat.le_refl _, Nat.zero_le _, ⟨none, 0, by rw [e0]; rfl, .inl e0⟩⟩
      have k0 : ¬ (d : Int) < 0 := by omega
      have k1 : (rn : Int) ≤ (d : Int) := by omega
      clear h e0
      go_enter Tryz.func17, Tryz.ntmps17
      go_wp2
      go_ret
      exact E.out
  · rw [if_neg h0]
    have E := Lib.hid (p := RwE w [] (.returned (.slice none 0 0)) w) ⟨Below.refl _ _, none, 0, 0, rfl, ⟨rfl, by omega, by simp, .inl rfl⟩, fun _ => ⟨rfl, rfl⟩, Nat.le_refl _, Nat.zero_le _, ⟨none, 0, rfl, .inl rfl⟩⟩
    have k0 : day < 0 := by omega
    have k1 : decide (day < 0) = true := by simp; omega
    clear h
    go_enter Tryz.func17, Tryz.ntmps17
    go_wp2
    go_ret
    exact E.out
end Go.Proofs.YtpfjnnkjoabgbaaGreatDoor

namespace Go.Proofs.YtpfjnnkjoabgbaaGreatDoor
open Go.RowKit
set_option linter.unusedVariables false
set_option linter.unusedSimpArgs false
/-- An append whose run is known, where the order is drawn. -/
theorem step_app_run {ops : Array Oper} {o : Oper} {a : Act} {K : Act → World → Prop} {Q : Exit → Act → World → Prop} {E : Prop} {w : World} (hgd : o.guard = none) (s x : Operand) (T : TypeId)
    (ho : o.op = .call { callee := .builtin .append, args := #[s, x], argTypes := #[T, T] }) (v u r : Value) (W1 : World) (hs : a.eval s = v) (hx : a.eval x = u) (hr : ∀ ty, (Builtin.append_ #[T, T] ty #[v, u]).run Tryz.prog w = .ok r W1)
    (h : K (a.put o.dst r) W1) : if Region.wanted o (yielded ops a.tmps) = true then Oper.wp Tryz.prog o a w K Q else E := by
  have hw : Region.wanted o (yielded ops a.tmps) = true := by simp [Region.wanted, hgd]
  rw [if_pos hw]
  unfold Oper.wp execOp
  simp only [ho, resolve, invoke, builtin, Sem.run_bind, Sem.run_pure, Result.andThen_ok, List.map_toArray, List.map_cons, List.map_nil, hs, hx, hr]
  exact h
/-- 'append(own, l...)' of any list. -/
theorem run_rowapp {T E k bz : Nat} {i0 : TypeInfo} {z : Value} (hT : Tryz.prog.underlying T = some (.slice E)) (hi : Tryz.prog.info? E = some i0) (hz0 : i0.zero = some z) (hz1 : i0.size = k) (hz2 : i0.bytes = bz) (hzs : z.cells.size = k) (hk : 0 < k) {w : World} {B : Nat} {v : Value} {m : Nat} {xs : List Value} (hv : w.ownsRow B E k v m xs) {a : Option Addr} {n c : Nat} {V : Nat → List Value} (hh : Hd a n c) (hr : Row w a n k V) (hV : ∀ i, (V i).length = k) (h1 : ∀ i, ∀ u ∈ V i, u.oneCell' = true) (hm : m + n ≤ maxLen) (hb : (m + n) * bz ≤ 140737488355328) (hB : B ≤ w.heap.size) :
    ∃ a' c' w', (∀ ty, (Builtin.append_ #[T, T] ty #[v, .slice a n c]).run Tryz.prog w = .ok (.slice a' (m + n) c') w') ∧ w'.ownsRow B E k (.slice a' (m + n) c') (m + n) (xs ++ flatV n V) ∧ w.grownBy w' v.ownBlock ∧ (Value.ownBlock (.slice a' (m + n) c') = v.ownBlock ∨ Value.ownBlock (.slice a' (m + n) c') = some w.heap.size) := by
  cases a with
  | none =>
    obtain ⟨rfl, rfl⟩ := hh.1 rfl
    obtain ⟨a', c', rfl⟩ := own_form hv
    refine ⟨a', c', w, fun ty => ?_, by simpa [flatV] using hv, ⟨rfl, rfl, rfl, Nat.le_refl _, fun _ _ _ => rfl⟩, .inl rfl⟩
    have q := run_append_owned_none (P := Tryz.prog) (w := w) B T ty E i0 k hT hi _ _ _ hv
    simpa using q
  | some ad =>
    have nw : ∀ j u, (flatV n V)[j]? = some u → w.cell? (ad.add j) = some u := by
      rcases hr with rfl | ⟨b, o, e, hb, hc⟩
      · intro j u hj; simp [flatV] at hj
      · injection e with e
        subst e
        exact row_news hk (fun i _ => hV i) hc
    have q := fun ty => run_append_own_at (P := Tryz.prog) w B T ty E i0 z k bz hT hi hz0 hz1 hz2 hzs hk v m xs hv ad n c (flatV n V) (flatV_len V n (fun i _ => hV i)) nw (flatV_one (k := k) V n (fun i _ => h1 i)) hm hb hB
    obtain ⟨v', w', r, o, g, _, p⟩ := q 0
    obtain ⟨a', c', rfl⟩ := own_form o
    refine ⟨a', c', w', fun ty => ?_, o, g, p⟩
    have : (Builtin.append_ #[T, T] ty #[v, .slice (some ad) n c]) = (Builtin.append_ #[T, T] 0 #[v, .slice (some ad) n c]) := rfl
    rw [this]
    exact r
/-- 'append([]T{}, l...)' of any list. -/
theorem run_fresh {T E k bz : Nat} {i0 : TypeInfo} {z : Value} (hT : Tryz.prog.underlying T = some (.slice E)) (hi : Tryz.prog.info? E = some i0) (hz0 : i0.zero = some z) (hz1 : i0.size = k) (hz2 : i0.bytes = bz) (hzs : z.cells.size = k) (hk : 0 < k) {W : World} {B : Nat} (hB : B ≤ W.heap.size) {a : Option Addr} {n c : Nat} {V : Nat → List Value} (hh : Hd a n c) (hr : Row W a n k V) (hV : ∀ i, (V i).length = k) (h1 : ∀ i, ∀ u ∈ V i, u.oneCell' = true) (hm : n ≤ maxLen) (hb : n * bz ≤ 140737488355328) :
    ∃ a' c' w', (∀ ty, (Builtin.append_ #[T, T] ty #[.slice (some ⟨W.heap.size, 0, none⟩) 0 0, .slice a n c]).run Tryz.prog (W.alloc (.cells #[] E)) = .ok (.slice a' n c') w') ∧ OwL w' B E k a' n c' V ∧ Below W.heap.size W w' := by
  have al := allocBP W (.cells #[] E)
  obtain ⟨a', c', w', r, o, g, _⟩ := run_rowapp hT hi hz0 hz1 hz2 hzs hk (World.ownsRow_made (e := E) (size := k) W #[] 0 hB (by unfold maxLen; omega) (by simp)) hh (hr.later al) hV h1 (by omega) (by rw [Nat.zero_add]; exact hb) (Nat.le_trans hB al.size)
  rw [Nat.zero_add] at r
  rw [Nat.zero_add, List.nil_append] at o
  exact ⟨a', c', w', r, o, ⟨g.os, g.tape, g.output, Nat.le_trans al.size g.size, fun x hx => (g.block x (by simp; omega) (by intro z; simp only [Value.ownBlock, Option.some.injEq] at z; omega)).trans (al.block x hx)⟩⟩
theorem infoSt : (Tryz.prog.info? 9).map (fun i => (i.zero, i.size, i.bytes)) = some (some (.string ⟨#[]⟩), 1, 16) := by kernel_rfl
theorem fresh_st {W : World} {B : Nat} (hB : B ≤ W.heap.size) {a : Option Addr} {n c : Nat} {l : List ByteArray} (h : SR W a n c l) : ∃ a' c' w', (∀ ty, (Builtin.append_ #[22, 22] ty #[.slice (some ⟨W.heap.size, 0, none⟩) 0 0, .slice a n c]).run Tryz.prog (W.alloc (.cells #[] 9)) = .ok (.slice a' n c') w') ∧ OwL w' B 9 1 a' n c' (stV l) ∧ Below W.heap.size W w' := by
  obtain ⟨i0, hi, hz0, hz1, hz2⟩ := info_parts infoSt
  have := h.2.2.1
  exact run_fresh Tryz.underlying22 hi hz0 hz1 hz2 rfl (by omega) hB h.1 h.2.2.2.2 (fun _ => rfl) (fun i u hu => by simp [stV] at hu; rw [hu]; rfl) (by unfold maxLen; omega) (by omega)
theorem fresh_nu {W : World} {B : Nat} (hB : B ≤ W.heap.size) {a : Option Addr} {n c : Nat} {l : List Int} (h : NR W a n c l) : ∃ a' c' w', (∀ ty, (Builtin.append_ #[23, 23] ty #[.slice (some ⟨W.heap.size, 0, none⟩) 0 0, .slice a n c]).run Tryz.prog (W.alloc (.cells #[] 3)) = .ok (.slice a' n c') w') ∧ OwL w' B 3 1 a' n c' (nuV l) ∧ Below W.heap.size W w' := by
  obtain ⟨i0, hi, hz0, hz1, hz2⟩ := info_parts infoZ
  have := h.2.2.1
  exact run_fresh Tryz.underlying23 hi hz0 hz1 hz2 rfl (by omega) hB h.1 h.2.2.2.2 (fun _ => rfl) (fun i u hu => by simp [nuV] at hu; rw [hu]; rfl) (by unfold maxLen; omega) (by omega)
theorem fresh_in {W : World} {B : Nat} (hB : B ≤ W.heap.size) {a : Option Addr} {n c : Nat} {l : List In} (h : IR W a n c l) : ∃ a' c' w', (∀ ty, (Builtin.append_ #[69, 69] ty #[.slice (some ⟨W.heap.size, 0, none⟩) 0 0, .slice a n c]).run Tryz.prog (W.alloc (.cells #[] 68)) = .ok (.slice a' n c') w') ∧ OwL w' B 68 3 a' n c' (inW l) ∧ Below W.heap.size W w' := by
  obtain ⟨i0, hi, hz0, hz1, hz2⟩ := info_parts infoIn
  have := h.2.2.1
  exact run_fresh Tryz.underlying69 hi hz0 hz1 hz2 rfl (by omega) hB h.1 h.2.2.2.2 (fun i => inW_len l i) (fun i => inW_one l i) (by unfold maxLen; omega) (by omega)
end Go.Proofs.YtpfjnnkjoabgbaaGreatDoor

namespace Go.Proofs.YtpfjnnkjoabgbaaGreatDoor
open Go.RowKit
set_option linter.unusedVariables false
set_option linter.unusedSimpArgs false
/-- The boxes of owned. -/
structure OdS (w : World) (p : Pg) (arr : Array Value) (W : World) : Prop where
  bel : Below w.heap.size w W
  pb : BkP W w.heap.size #[.slice p.na p.names.length p.nc, .slice p.ua p.curs.length p.uc, .slice p.pa p.pool.length p.pc, .int .i64 p.hor, .int .i64 p.cells, .int .i64 p.slots, .int .i64 p.stack, .slice p.da p.days.length p.dc] 26
  zb : BkP W (w.heap.size + 1) #[.slice none 0 0, .slice none 0 0, .slice none 0 0, .int .i64 0, .int .i64 0, .int .i64 0, .int .i64 0, .slice none 0 0] 26
  qb : BkP W (w.heap.size + 2) arr 26
  sz : w.heap.size + 3 ≤ W.heap.size
theorem OdS.lat {w : World} {p : Pg} {arr : Array Value} {W W' : World} (h : OdS w p arr W) (b : Below W.heap.size W W') : OdS w p arr W' := ⟨h.bel.trans (b.mono h.bel.size), h.pb.lat b, h.zb.lat b, h.qb.lat b, Nat.le_trans h.sz b.size⟩
theorem OdS.set {w : World} {p : Pg} {arr : Array Value} {W : World} (h : OdS w p arr W) (k : Nat) (v : Value) (hk : k < arr.size) : OdS w p (arr.set! k v) (W.setCell ⟨w.heap.size + 2, k, none⟩ v) := ⟨h.bel.setCell (by exact (by omega : w.heap.size ≤ w.heap.size + 2)) _, h.pb.other _ _ _ (by omega), h.zb.other _ _ _ (by omega), h.qb.set2 k v hk, by rw [set_size]; exact h.sz⟩
theorem OwL.setQ {w : World} {B : Nat} {t : TypeId} {k : Nat} {a : Option Addr} {n c : Nat} {V : Nat → List Value} {w0 : World} {p : Pg} {arr : Array Value} (h : OwL w B t k a n c V) (s : OdS w0 p arr w) (ne : t ≠ 26) (j : Nat) (x : Value) : OwL (w.setCell ⟨w0.heap.size + 2, j, none⟩ x) B t k a n c V := h.set s.qb ne j x
end Go.Proofs.YtpfjnnkjoabgbaaGreatDoor

namespace Go.Proofs.YtpfjnnkjoabgbaaGreatDoor
open Go.RowKit
set_option linter.unusedVariables false
set_option linter.unusedSimpArgs false
def odA (p : Pg) (na : Option Addr) (nc : Nat) (ua : Option Addr) (uc : Nat) (pa : Option Addr) (pc : Nat) (da : Option Addr) (k dc : Nat) : Array Value := #[.slice na p.names.length nc, .slice ua p.curs.length uc, .slice pa p.pool.length pc, .int .i64 p.hor, .int .i64 p.cells, .int .i64 p.slots, .int .i64 p.stack, .slice da k dc]
/-- The first k days are copied. -/
structure OdL (w : World) (p : Pg) (na : Option Addr) (nc : Nat) (ua : Option Addr) (uc : Nat) (pa : Option Addr) (pc : Nat) (da : Option Addr) (dc : Nat) (segs : List Sg) (k : Nat) (W : World) : Prop where
  s : OdS w p (odA p na nc ua uc pa pc da k dc) W
  names : OwL W w.heap.size 9 1 na p.names.length nc (stV p.names)
  curs : OwL W w.heap.size 9 1 ua p.curs.length uc (stV p.curs)
  pool : OwL W w.heap.size 3 1 pa p.pool.length pc (nuV p.pool)
  days : OwL W w.heap.size 71 2 da k dc (sgV segs)
  len : segs.length = k
  like : ∀ i, i < k → (segs.getD i default).day = (p.days.getD i default).day ∧ (segs.getD i default).code = (p.days.getD i default).code
  new : ∀ i, i < k → OwL W w.heap.size 68 3 (segs.getD i default).ca (segs.getD i default).code.length (segs.getD i default).cc (inW (segs.getD i default).code)
section
variable {w : World} {p : Pg} {na : Option Addr} {nc : Nat} {ua : Option Addr} {uc : Nat} {pa : Option Addr} {pc : Nat} {da : Option Addr} {dc : Nat} {segs : List Sg} {k : Nat} {W : World}
theorem OdL.lat {W' : World} (h : OdL w p na nc ua uc pa pc da dc segs k W) (b : Below W.heap.size W W') : OdL w p na nc ua uc pa pc da dc segs k W' := ⟨h.s.lat b, h.names.lat b, h.curs.lat b, h.pool.lat b, h.days.lat b, h.len, h.like, fun i hi => (h.new i hi).lat b⟩
/-- What is only read: the program's box, the day's segment. -/
def odR (w : World) (p : Pg) (x o k : Nat) (V : World) : Prop := V.cell? ⟨w.heap.size, 7, none⟩ = some (.slice (some ⟨x, o, none⟩) p.days.length p.dc) ∧ V.cell? ⟨x, o + k * 2, none⟩ = some (.int .i64 (p.days.getD k default).day) ∧ V.cell? ⟨x, o + k * 2 + 1, none⟩ = some (.slice (p.days.getD k default).ca (p.days.getD k default).code.length (p.days.getD k default).cc)
theorem odr_of {x o : Nat} (hp : PV w p) (hda : p.da = some ⟨x, o, none⟩) (hx : x < w.heap.size) (hk : k < p.days.length) {arr : Array Value} {V : World} (s : OdS w p arr V) : odR w p x o k V := by
  have R := hp.days.2.2.2.2.later s.bel
  rcases R with z | ⟨x', o', e, _, c⟩
  · omega
  · rw [hda] at e
    injection e with e
    injection e with e1 e2
    subst e1 e2
    have c0 := c k hk 0 (by omega)
    have c1 := c k hk 1 (by omega)
    simp only [Sg.cs, Nat.add_zero, List.getD_cons_zero, List.getD_cons_succ] at c0 c1
    exact ⟨by rw [s.pb.cell, ← hda]; rfl, c0, c1⟩
theorem flatV_snoc (V V' : Nat → List Value) (n : Nat) (h : ∀ i, i < n → V' i = V i) : flatV n V ++ V' n = flatV (n + 1) V' := by
  unfold flatV
  rw [List.range_succ, List.flatMap_append]
  have : (List.range n).flatMap V = (List.range n).flatMap V' := by
    rw [List.flatMap_def, List.flatMap_def]
    congr 1
    exact List.map_congr_left (fun i hi => (h i (List.mem_range.1 hi)).symm)
  rw [this]
  simp
/-- A round. -/
theorem od_round (h : OdL w p na nc ua uc pa pc da dc segs k W) (hp : PV w p) (hk : k < p.days.length) : ∃ x o ca cc w7 da2 dc2 w9, p.da = some ⟨x, o, none⟩ ∧ (∀ ty, (Builtin.append_ #[69, 69] ty #[.slice (some ⟨W.heap.size, 0, none⟩) 0 0, .slice (p.days.getD k default).ca (p.days.getD k default).code.length (p.days.getD k default).cc]).run Tryz.prog (W.drew.alloc (.cells #[] 68)) = .ok (.slice ca (p.days.getD k default).code.length cc) w7) ∧ (∀ ty, (Builtin.append_ #[24, 24] ty #[.slice da k dc, .slice (some ⟨w7.heap.size, 0, none⟩) 1 1]).run Tryz.prog (w7.alloc (.cells #[.int .i64 (p.days.getD k default).day, .slice ca (p.days.getD k default).code.length cc] 71)) = .ok (.slice da2 (k + 1) dc2) w9) ∧ RowKit.Hid (odR w p x o k W ∧ (∀ ob, odR w p x o k (W.drew.alloc ob)) ∧ odR w p x o k w7 ∧ (∀ ob, odR w p x o k (w7.alloc ob)) ∧ odR w p x o k w9 ∧ odR w p x o k (w9.setCell ⟨w.heap.size + 2, 7, none⟩ (.slice da2 (k + 1) dc2))) ∧ W.cell? ⟨w.heap.size + 2, 7, none⟩ = some (.slice da k dc) ∧ (∀ ob, (W.drew.alloc ob).cell? ⟨w.heap.size + 2, 7, none⟩ = some (.slice da k dc)) ∧ w7.cell? ⟨w.heap.size + 2, 7, none⟩ = some (.slice da k dc) ∧ (∀ ob, (w7.alloc ob).cell? ⟨w.heap.size + 2, 7, none⟩ = some (.slice da k dc)) ∧ w9.cell? ⟨w.heap.size + 2, 7, none⟩ = some (.slice da k dc) ∧ w9.frozen? ⟨w.heap.size + 2, 7, none⟩ = false ∧ RowKit.Hid (∃ segs', OdL w p na nc ua uc pa pc da2 dc2 segs' (k + 1) (w9.setCell ⟨w.heap.size + 2, 7, none⟩ (.slice da2 (k + 1) dc2))) := by
  obtain ⟨x, o, hda, hx, _⟩ := hp.days.2.2.2.2.oneP (by omega)
  have g0 := hp.days.2.2.2.1 _ (sg_mem hk)
  have d0 := h.lat (drew1 W)
  obtain ⟨ca, cc, w7, r7, o7, b7⟩ := fresh_in (W := W.drew) (B := w.heap.size) d0.s.bel.size (g0.2.later d0.s.bel)
  have d7 := d0.lat b7
  have a8 := allocBP w7 (.cells #[.int .i64 (p.days.getD k default).day, .slice ca (p.days.getD k default).code.length cc] 71)
  have d8 := d7.lat a8
  obtain ⟨i0, hi, hz0, hz1, hz2⟩ := info_parts infoSg
  have nd := hp.days.2.2.1
  obtain ⟨da2, dc2, w9, r9, o9, g9, _⟩ := run_rowapp (V := fun _ => [.int .i64 (p.days.getD k default).day, .slice ca (p.days.getD k default).code.length cc]) Tryz.underlying24 hi hz0 hz1 hz2 rfl (by omega) d8.days (a := some ⟨w7.heap.size, 0, none⟩) (n := 1) (c := 1) ⟨fun z => (by cases z), Nat.le_refl _, by unfold maxLen; omega⟩ (.inr ⟨w7.heap.size, 0, rfl, by simp, fun i hi j hj => by
    have i0 : i = 0 := by omega
    subst i0
    have := heapN w7 (.cells #[.int .i64 (p.days.getD k default).day, .slice ca (p.days.getD k default).code.length cc] 71)
    have bk : BkP (w7.alloc (.cells #[.int .i64 (p.days.getD k default).day, .slice ca (p.days.getD k default).code.length cc] 71)) w7.heap.size _ _ := this
    rw [bk.cell]
    rcases (show j = 0 ∨ j = 1 by omega) with rfl | rfl <;> rfl⟩) (fun _ => rfl) (fun i u hu => by simp at hu; rcases hu with rfl | rfl <;> rfl) (by unfold maxLen; omega) (by omega) d8.s.bel.size
  have kp : Kp (w7.alloc (.cells #[.int .i64 (p.days.getD k default).day, .slice ca (p.days.getD k default).code.length cc] 71)) w9 (fun y => Value.ownBlock (.slice da k dc) = some y) := ⟨g9.os, g9.tape, g9.output, g9.size, fun y hy hn => g9.block y hy (fun z => hn z.symm)⟩
  have fb : ∀ y, Value.ownBlock (.slice da k dc) = some y → w.heap.size ≤ y ∧ ∃ c u f, (w7.alloc (.cells #[.int .i64 (p.days.getD k default).day, .slice ca (p.days.getD k default).code.length cc] 71)).heap[y]? = some (.cells c u f) ∧ u = 71 := by
    intro y hy
    refine ⟨(World.ownsRow.lt d8.days y hy).1, ?_⟩
    rcases d8.days.2 with ⟨z, _⟩ | ⟨g2, cap, cur, z, _, e3, _⟩
    · rw [z] at hy; cases hy
    · rw [z] at hy
      simp only [Value.ownBlock, Option.some.injEq] at hy
      subst hy
      exact ⟨cur, _, _, e3, rfl⟩
  have nt : ∀ t, t ≠ 71 → ∀ y, Value.ownBlock (.slice da k dc) = some y → ∃ c u f, (w7.alloc (.cells #[.int .i64 (p.days.getD k default).day, .slice ca (p.days.getD k default).code.length cc] 71)).heap[y]? = some (.cells c u f) ∧ u ≠ t := by
    intro t ht y hy
    obtain ⟨_, c, u, f, e, rfl⟩ := fb y hy
    exact ⟨c, _, f, e, Ne.symm ht⟩
  have kb : ∀ {b : Nat} {arr : Array Value} {t : TypeId}, BkP (w7.alloc (.cells #[.int .i64 (p.days.getD k default).day, .slice ca (p.days.getD k default).code.length cc] 71)) b arr t → t ≠ 71 → BkP w9 b arr t := fun hb ht => (keep_ty kp hb (nt _ ht)).trans hb
  have ko : ∀ {t : TypeId} {kk : Nat} {a : Option Addr} {n c : Nat} {U : Nat → List Value}, OwL (w7.alloc (.cells #[.int .i64 (p.days.getD k default).day, .slice ca (p.days.getD k default).code.length cc] 71)) w.heap.size t kk a n c U → t ≠ 71 → OwL w9 w.heap.size t kk a n c U := by
    intro t kk a n c U hO ht
    refine own_blkG hO (fun g hg => ?_)
    rcases hO.2 with ⟨z, _⟩ | ⟨g2, cap, cur, z, _, e3, _⟩
    · rw [z] at hg; cases hg
    · rw [z] at hg
      simp only [Value.ownBlock, Option.some.injEq] at hg
      subst hg
      exact keep_ty kp e3 (nt _ ht)
  have s9 : OdS w p (odA p na nc ua uc pa pc da k dc) w9 := ⟨d8.s.bel.trans (kp.bel (fun y hy => (fb y hy).1) d8.s.bel.size), kb d8.s.pb (by decide), kb d8.s.zb (by decide), kb d8.s.qb (by decide), Nat.le_trans d8.s.sz g9.size⟩
  have s10 := s9.set 7 (.slice da2 (k + 1) dc2) (by simp [odA])
  have q7 : ∀ {V : World}, OdS w p (odA p na nc ua uc pa pc da k dc) V → V.cell? ⟨w.heap.size + 2, 7, none⟩ = some (.slice da k dc) := fun s => by rw [s.qb.cell]; rfl
  refine ⟨x, o, ca, cc, w7, da2, dc2, w9, hda, r7, r9, ⟨odr_of hp hda hx hk h.s, fun ob => odr_of hp hda hx hk (d0.s.lat (allocBP _ ob)), odr_of hp hda hx hk d7.s, fun ob => odr_of hp hda hx hk (d7.s.lat (allocBP _ ob)), odr_of hp hda hx hk s9, odr_of hp hda hx hk s10⟩, q7 h.s, fun ob => q7 (d0.s.lat (allocBP _ ob)), q7 d7.s, fun ob => q7 (d7.s.lat (allocBP _ ob)), q7 s9, s9.qb.frozen 7, segs ++ [⟨(p.days.getD k default).day, ca, cc, (p.days.getD k default).code⟩], ?_⟩
  have hl := h.len
  have gl : ∀ i, i < k → (segs ++ [(⟨(p.days.getD k default).day, ca, cc, (p.days.getD k default).code⟩ : Sg)]).getD i default = segs.getD i default := fun i hi => getD_snoc_lt (by omega)
  have gk : (segs ++ [(⟨(p.days.getD k default).day, ca, cc, (p.days.getD k default).code⟩ : Sg)]).getD k default = ⟨(p.days.getD k default).day, ca, cc, (p.days.getD k default).code⟩ := by rw [← hl]; exact getD_snoc_eq
  have o9' : OwL w9 w.heap.size 71 2 da2 (k + 1) dc2 (sgV (segs ++ [(⟨(p.days.getD k default).day, ca, cc, (p.days.getD k default).code⟩ : Sg)])) := by
    unfold OwL
    have e1 := flatV_snoc (sgV segs) (sgV (segs ++ [(⟨(p.days.getD k default).day, ca, cc, (p.days.getD k default).code⟩ : Sg)])) k (fun i hi => by unfold sgV; rw [gl i hi])
    have e2 : sgV (segs ++ [(⟨(p.days.getD k default).day, ca, cc, (p.days.getD k default).code⟩ : Sg)]) k = flatV 1 (fun _ => [Value.int .i64 (p.days.getD k default).day, .slice ca (p.days.getD k default).code.length cc]) := by
      unfold sgV
      rw [gk]
      rfl
    rw [e2] at e1
    rw [← e1]
    exact o9
  refine ⟨by simpa [odA] using s10, (ko d8.names (by decide)).setQ s9 (by decide) _ _, (ko d8.curs (by decide)).setQ s9 (by decide) _ _, (ko d8.pool (by decide)).setQ s9 (by decide) _ _, o9'.setQ s9 (by decide) _ _, by simp [hl], ?_, ?_⟩
  · intro i hi
    by_cases z : i = k
    · subst z; rw [gk]; exact ⟨rfl, rfl⟩
    · rw [gl i (by omega)]; exact h.like i (by omega)
  · intro i hi
    by_cases z : i = k
    · subst z; rw [gk]; exact (ko (o7.lat a8) (by decide)).setQ s9 (by decide) _ _
    · rw [gl i (by omega)]; exact (ko (d8.new i (by omega)) (by decide)).setQ s9 (by decide) _ _
end
end Go.Proofs.YtpfjnnkjoabgbaaGreatDoor
