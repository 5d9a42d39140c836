import Derived.Test.YtpfjnnkjoabgbaaGreatDoorXBT
namespace Go.Proofs.YtpfjnnkjoabgbaaGreatDoor
open Go.RowKit
set_option linter.unusedVariables false
set_option linter.unusedSimpArgs false
def rwV (rs : List Rw) (i : Nat) : List Value := [.slice (rs.getD i default).a (rs.getD i default).n (rs.getD i default).cap]
/-- A row that lies in memory. -/
def RwOk (W : World) (r : Rw) : Prop := RwV W (.slice r.a r.n r.cap) r.cs ∧ r.cs.length = r.n ∧ r.n ≤ 8796093021952 ∧ (∀ c ∈ r.cs, (Lit.int .i64 c.v).wf = true) ∧ (r.a = none → r.n = 0 ∧ r.cap = 0) ∧ r.n ≤ r.cap ∧ r.cap ≤ maxLen
theorem RwOk.keep {W W' : World} {r : Rw} {S : Nat → Prop} (h : RwOk W r) (k : Kp W W' S) (ht : ∀ y cur fr, S y → W.heap[y]? ≠ some (.cells cur 73 fr)) : RwOk W' r := ⟨h.1.keep k ht, h.2⟩
theorem RwOk.rc {W : World} {r : Rw} (h : RwOk W r) : RC W r.a r.n r.cs := by
  obtain ⟨⟨a, z, e, q⟩, h2, h3, h4, _⟩ := h
  injection e with e1 e2 e3
  subst e1 e3
  refine ⟨h2, h3, h4, ?_⟩
  rcases q with q | ⟨y, u, cur, fr, e, hy, c⟩
  · left; rw [← h2, q]; rfl
  · exact .inr ⟨y, u, e, (Array.getElem?_eq_some_iff.1 hy).1, fun i hi => c i (by omega)⟩
/-- Rows that are laid one behind the other in a list of one's own. -/
structure MxS (w : World) (rs : List Rw) (ma : Option Addr) (k mc : Nat) (W : World) : Prop where
  bel : Below w.heap.size w W
  own : OwL W w.heap.size 47 1 ma k mc (rwV rs)
  len : rs.length = k
  rows : ∀ r ∈ rs, RwOk W r
theorem MxS.lat {w : World} {rs : List Rw} {ma : Option Addr} {k mc : Nat} {W W' : World} (h : MxS w rs ma k mc W) (b : Below W.heap.size W W') : MxS w rs ma k mc W' := ⟨h.bel.trans (b.mono h.bel.size), h.own.lat b, h.len, fun r hr => (h.rows r hr).keep (Kp.below b (fun _ => False)) (fun _ _ _ z => z.elim)⟩
theorem MxS.rl {w : World} {rs : List Rw} {ma : Option Addr} {k mc : Nat} {W : World} (h : MxS w rs ma k mc W) (hk : k ≤ 5864062014635) : RL W ma k rs := by
  refine ⟨h.len, hk, fun r hr => ⟨(h.rows r hr).rc, (h.rows r hr).2.2.2.2⟩, ?_⟩
  rcases (h.own.list (by omega) (fun _ => rfl)).2 W (fun _ _ => rfl) with z | ⟨b, o, e, hb, c⟩
  · exact .inl z
  · refine .inr ⟨b, o, e, hb, fun i hi => ?_⟩
    have := c i hi 0 (by omega)
    rw [Nat.mul_one, Nat.add_zero] at this
    exact this
theorem MxS.next {w : World} {rs : List Rw} {ma : Option Addr} {k mc : Nat} {W : World} (h : MxS w rs ma k mc W) (hk : k + 1 ≤ 5864062014635) {r : Rw} (hr : RwOk W r) : ∃ ma2 mc2 w3, (∀ ty, (Builtin.append_ #[27, 27] ty #[.slice ma k mc, .slice (some ⟨W.heap.size, 0, none⟩) 1 1]).run Tryz.prog (W.alloc (.cells #[.slice r.a r.n r.cap] 47)) = .ok (.slice ma2 (k + 1) mc2) w3) ∧ RowKit.Hid (MxS w (rs ++ [r]) ma2 (k + 1) mc2 w3 ∧ Kp W w3 (fun y => Value.ownBlock (.slice ma k mc) = some y) ∧ (Value.ownBlock (.slice ma2 (k + 1) mc2) = Value.ownBlock (.slice ma k mc) ∨ ∃ y, Value.ownBlock (.slice ma2 (k + 1) mc2) = some y ∧ W.heap.size ≤ y)) := by
  have al := allocBP W (.cells #[.slice r.a r.n r.cap] 47)
  have h1 := h.lat al
  obtain ⟨i0, hi, hz0, hz1, hz2⟩ := info_parts infoRw
  obtain ⟨ma2, mc2, w3, r3, o3, g3, pl⟩ := run_rowapp (V := fun _ => [.slice r.a r.n r.cap]) Tryz.underlying27 hi hz0 hz1 hz2 rfl (by omega) h1.own (a := some ⟨W.heap.size, 0, none⟩) (n := 1) (c := 1) ⟨fun z => (by cases z), Nat.le_refl _, by unfold maxLen; omega⟩ (.inr ⟨W.heap.size, 0, rfl, by simp, fun i hi j hj => by
    have i0 : i = 0 := by omega
    have j0 : j = 0 := by omega
    subst i0 j0
    have bk : BkP (W.alloc (.cells #[.slice r.a r.n r.cap] 47)) W.heap.size #[.slice r.a r.n r.cap] 47 := heapN W _
    rw [bk.cell]
    rfl⟩) (fun _ => rfl) (fun i u hu => by simp at hu; rw [hu]; rfl) (by unfold maxLen; omega) (by omega) h1.bel.size
  have kp : Kp (W.alloc (.cells #[.slice r.a r.n r.cap] 47)) w3 (fun y => Value.ownBlock (.slice ma k mc) = some y) := ⟨g3.os, g3.tape, g3.output, g3.size, fun y hy hn => g3.block y hy (fun z => hn z.symm)⟩
  have fb : ∀ y, Value.ownBlock (.slice ma k mc) = some y → w.heap.size ≤ y ∧ ∃ c f, (W.alloc (.cells #[.slice r.a r.n r.cap] 47)).heap[y]? = some (.cells c 47 f) := by
    intro y hy
    refine ⟨(World.ownsRow.lt h1.own y hy).1, ?_⟩
    rcases h1.own.2 with ⟨z, _⟩ | ⟨g2, cap, cur, z, _, e3, _⟩
    · rw [z] at hy; cases hy
    · rw [z] at hy
      simp only [Value.ownBlock, Option.some.injEq] at hy
      subst hy
      exact ⟨cur, _, e3⟩
  have nt : ∀ (y : Nat) (c : Array Value) (fr : Nat × Nat), Value.ownBlock (.slice ma k mc) = some y → (W.alloc (.cells #[.slice r.a r.n r.cap] 47)).heap[y]? ≠ some (.cells c 73 fr) := by
    intro y c fr hy z
    obtain ⟨_, c2, f, e⟩ := fb y hy
    have := e.symm.trans z
    injection this with this
    injection this with _ q
    exact absurd q (by decide)
  refine ⟨ma2, mc2, w3, r3, ⟨h1.bel.trans (kp.bel (fun y hy => (fb y hy).1) h1.bel.size), ?_, by simp [h.len], ?_⟩, (Kp.below al _).trans kp (fun _ _ z => z), by rcases pl with z | z; exact .inl z; exact .inr ⟨_, z, by simp⟩⟩
  · unfold OwL
    have gl : ∀ i, i < k → (rs ++ [r]).getD i default = rs.getD i default := fun i hi => getD_snoc_lt (by rw [h.len]; exact hi)
    have gk : (rs ++ [r]).getD k default = r := by rw [← h.len]; exact getD_snoc_eq
    have e1 := flatV_snoc (rwV rs) (rwV (rs ++ [r])) k (fun i hi => by unfold rwV; rw [gl i hi])
    have e2 : rwV (rs ++ [r]) k = flatV 1 (fun _ => [Value.slice r.a r.n r.cap]) := by
      unfold rwV
      rw [gk]
      rfl
    rw [e2] at e1
    rw [← e1]
    exact o3
  · intro x hx
    simp at hx
    rcases hx with hx | rfl
    · exact (h1.rows x hx).keep kp nt
    · exact (hr.keep (Kp.below al (fun _ => False)) (fun _ _ _ z => z.elim)).keep kp nt
end Go.Proofs.YtpfjnnkjoabgbaaGreatDoor

namespace Go.Proofs.YtpfjnnkjoabgbaaGreatDoor
open Go.RowKit
set_option linter.unusedVariables false
set_option linter.unusedSimpArgs false
theorem wf_inM {x : Int} (h : inR x) : (Lit.int .i64 x).wf = true := WalkArith.wf_i64 (by unfold inR at h; omega)
set_option maxRecDepth 100000 in
theorem row_nil (c : Nat) (w : World) : Calls Tryz.prog 31 #[.slice none 0 c] w fun e w' => e = .returned (.slice none 0 0) ∧ w' = w := by
  have nn : ∀ W, (binOp .eql 47 (.slice none 0 c) (.slice none 0 0)).run Tryz.prog W = .ok (.bool true) W := fun W => Lib.run_eql_slice_nil W 47 73 none 0 c 0 0 (by kernel_rfl)
  go_enter Tryz.func31, Tryz.ntmps31
  go_wp2
  go_ret
  exact ⟨rfl, rfl⟩
/-- row of a row that lies in memory. -/
theorem row_ok {w : World} {a : Option Addr} {z : Nat} {l : List Cl} (h : RwV w (.slice a l.length z) l) (hi : ∀ c ∈ l, inR c.v) (hn : l.length ≤ 1000000) : Calls Tryz.prog 31 #[.slice a l.length z] w fun e w' => ∃ a' n' c', e = .returned (.slice a' n' c') ∧ RowKit.Hid (RwOk w' ⟨a', n', c', l⟩ ∧ Below w.heap.size w w') := by
  have hw : ∀ c ∈ l, (Lit.int .i64 c.v).wf = true := fun c hc => wf_inM (hi c hc)
  cases a with
  | none =>
    have e0 : l = [] := by
      obtain ⟨a', z', e, h⟩ := h
      injection e with e1 _ e3
      subst e1
      rcases h with h | ⟨y, u, cur, fr, e, _⟩
      · exact h
      · cases e
    subst e0
    refine (row_nil z w).mono (fun e w' q => ?_)
    obtain ⟨rfl, rfl⟩ := q
    exact ⟨none, 0, 0, rfl, ⟨⟨none, 0, rfl, .inl rfl⟩, rfl, by simp, by simp, fun _ => ⟨rfl, rfl⟩, Nat.le_refl _, Nat.zero_le _⟩, Below.refl _ _⟩
  | some ad =>
    have rc : RC w (some ad) l.length l := by
      obtain ⟨a', z', e, h⟩ := h
      injection e with e1 _ e3
      subst e1
      refine ⟨rfl, by omega, hw, ?_⟩
      rcases h with h | ⟨y, u, cur, fr, e, e2, hc⟩
      · left; rw [h]; rfl
      · exact .inr ⟨y, u, e, (Array.getElem?_eq_some_iff.1 e2).1, hc⟩
    refine (row_any (cap := z) rc (fun q => by cases q) (by omega)).mono (fun e w' q => ?_)
    obtain ⟨b, a', n', c', rfl, r1, r2, r3, r4, r5⟩ := q
    exact ⟨a', n', c', rfl, ⟨r5, r1.1, r1.2.1, hw, r2, r3, r4⟩, b⟩
/-- A state that is being copied by the law. -/
structure CdI (w : World) (t st ft dy : Int) (cells : List Int) (past : List (List Cl)) (ca0 : Option Addr) (cc0 : Nat) (pa0 : Option Addr) (pc0 : Nat) (ca : Option Addr) (cc : Nat) (ms : List Rw) (ma : Option Addr) (k mc : Nat) (W : World) : Prop where
  mx : MxS w ms ma k mc W
  sbx : BkP W w.heap.size #[.int .i64 t, .int .i64 st, .slice ca0 cells.length cc0, .slice pa0 past.length pc0, .int .i64 ft, .int .i64 dy] 51
  zb : BkP W (w.heap.size + 1) #[.int .i64 0, .int .i64 0, .slice none 0 0, .slice none 0 0, .int .i64 0, .int .i64 0] 51
  box : BkP W (w.heap.size + 2) #[.int .i64 t, .int .i64 st, .slice ca cells.length cc, .slice ma k mc, .int .i64 ft, .int .i64 dy] 51
  ce : OwZ W w.heap.size (.slice ca cells.length cc) cells
  like : ∀ i, i < k → (ms.getD i default).cs = past.getD i []
section
variable {w : World} {t st ft dy : Int} {cells : List Int} {past : List (List Cl)} {ca0 : Option Addr} {cc0 : Nat} {pa0 : Option Addr} {pc0 : Nat} {ca : Option Addr} {cc : Nat} {ms : List Rw} {ma : Option Addr} {k mc : Nat} {W : World}
theorem CdI.lat {W' : World} (h : CdI w t st ft dy cells past ca0 cc0 pa0 pc0 ca cc ms ma k mc W) (b : Below W.heap.size W W') : CdI w t st ft dy cells past ca0 cc0 pa0 pc0 ca cc ms ma k mc W' :=
  ⟨h.mx.lat b, h.sbx.lat b, h.zb.lat b, h.box.lat b, h.ce.lat b, h.like⟩
/-- One row more. -/
theorem CdI.next (h : CdI w t st ft dy cells past ca0 cc0 pa0 pc0 ca cc ms ma k mc W) (hk : k + 1 ≤ 1000000) {r : Rw} (hr : RwOk W r) (hc : r.cs = past.getD k []) : ∃ ma2 mc2 w3, (∀ ty, (Builtin.append_ #[27, 27] ty #[.slice ma k mc, .slice (some ⟨W.heap.size, 0, none⟩) 1 1]).run Tryz.prog (W.alloc (.cells #[.slice r.a r.n r.cap] 47)) = .ok (.slice ma2 (k + 1) mc2) w3) ∧ w3.cell? ⟨w.heap.size + 2, 3, none⟩ = some (.slice ma k mc) ∧ w3.frozen? ⟨w.heap.size + 2, 3, none⟩ = false ∧ Below w.heap.size w w3 ∧ w3.cell? ⟨w.heap.size, 3, none⟩ = some (.slice pa0 past.length pc0) ∧ RowKit.Hid (CdI w t st ft dy cells past ca0 cc0 pa0 pc0 ca cc (ms ++ [r]) ma2 (k + 1) mc2 (w3.setCell ⟨w.heap.size + 2, 3, none⟩ (.slice ma2 (k + 1) mc2))) := by
  obtain ⟨ma2, mc2, w3, r3, x3⟩ := h.mx.next (by omega) hr
  obtain ⟨m3, kp, _⟩ := x3.out
  have ty : ∀ y, Value.ownBlock (.slice ma k mc) = some y → ∃ c u f, W.heap[y]? = some (.cells c u f) ∧ u = 47 := by
    intro y hy
    rcases h.mx.own.2 with ⟨z, _⟩ | ⟨g2, cap, cur, z, _, e3, _⟩
    · rw [z] at hy; cases hy
    · rw [z] at hy
      simp only [Value.ownBlock, Option.some.injEq] at hy
      subst hy
      exact ⟨cur, _, _, e3, rfl⟩
  have nt : ∀ u, u ≠ 47 → ∀ y, Value.ownBlock (.slice ma k mc) = some y → ∃ c v f, W.heap[y]? = some (.cells c v f) ∧ v ≠ u := by
    intro u hu y hy
    obtain ⟨c, v, f, e, rfl⟩ := ty y hy
    exact ⟨c, _, f, e, Ne.symm hu⟩
  have bx3 : BkP w3 (w.heap.size + 2) _ _ := (keep_ty kp h.box (nt _ (by decide))).trans h.box
  have sb3 : BkP w3 w.heap.size _ _ := (keep_ty kp h.sbx (nt _ (by decide))).trans h.sbx
  have zb3 : BkP w3 (w.heap.size + 1) _ _ := (keep_ty kp h.zb (nt _ (by decide))).trans h.zb
  have ce3 : OwZ w3 w.heap.size (.slice ca cells.length cc) cells := own_blkG h.ce (fun g hg => by
    rcases h.ce.2 with ⟨z, _⟩ | ⟨g2, cap, cur, z, _, e3, _⟩
    · rw [z] at hg; cases hg
    · rw [z] at hg
      simp only [Value.ownBlock, Option.some.injEq] at hg
      subst hg
      exact keep_ty kp e3 (nt _ (by decide)))
  refine ⟨ma2, mc2, w3, r3, by rw [bx3.cell]; rfl, bx3.frozen 3, m3.bel, by rw [sb3.cell]; rfl, ?_⟩
  have kb : Kp w3 (w3.setCell ⟨w.heap.size + 2, 3, none⟩ (.slice ma2 (k + 1) mc2)) (fun y => y = w.heap.size + 2) := ⟨rfl, rfl, rfl, by rw [set_size]; exact Nat.le_refl _, fun y _ hn => bk_block hn⟩
  have q := bx3.set2 3 (.slice ma2 (k + 1) mc2) (by simp)
  refine ⟨⟨m3.bel.trans (kb.bel (fun y hy => by omega) m3.bel.size), own_blkG m3.own (fun g hg => bk_block (fun z => own_neB m3.own bx3 (by decide) (by rw [hg, z]))), m3.len, fun x hx => (m3.rows x hx).keep kb (fun y cur fr hy z => by
    subst hy
    have := bx3.symm.trans z
    injection this with this
    injection this with _ q
    exact absurd q (by decide))⟩, sb3.other _ _ _ (by omega), zb3.other _ _ _ (by omega), by simpa using q, own_blkG ce3 (fun g hg => bk_block (fun z => own_neB ce3 bx3 (by decide) (by rw [hg, z]))), fun i hi => ?_⟩
  have ml := h.mx.len
  by_cases z : i = k
  · subst z
    have : (ms ++ [r]).getD i default = r := by subst ml; exact getD_snoc_eq
    rw [this]
    exact hc
  · rw [getD_snoc_lt (by rw [ml]; omega)]
    exact h.like i (by omega)
theorem cd_fin (c : CdI w t st ft dy cells past ca0 cc0 pa0 pc0 ca cc ms ma past.length mc W) {V : World} (hb : Below w.heap.size w V) (h4 : ∀ k, k ≠ w.heap.size + 1 → V.heap[k]? = W.heap[k]?) (h5 : V.heap.size = W.heap.size) : CsE w t st ft dy cells past (.returned (.agg #[.int .i64 t, .int .i64 st, .slice ca cells.length cc, .slice ma past.length mc, .int .i64 ft, .int .i64 dy])) V := by
  have bel := c.mx.bel
  have kp : Kp W V (fun x => x = w.heap.size + 1) := ⟨hb.os.trans bel.os.symm, hb.tape.trans bel.tape.symm, hb.output.trans bel.output.symm, by omega, fun x _ hn => h4 x hn⟩
  have nt : ∀ (y : Nat) (cc : Array Value) (fr : Nat × Nat), y = w.heap.size + 1 → W.heap[y]? ≠ some (.cells cc 73 fr) := by
    rintro y c' fr rfl z
    have := c.zb.symm.trans z
    injection this with this
    injection this with _ q
    exact absurd q (by decide)
  have oz := own_blkG c.ce (fun g hg => h4 g (fun z => own_neB c.ce c.zb (by decide) (by rw [hg, z])))
  have op := own_blkG c.mx.own (fun g hg => h4 g (fun z => own_neB c.mx.own c.zb (by decide) (by rw [hg, z])))
  have vg : ∀ i, i < past.length → (flatV past.length (rwV ms)).getD i default = .slice (ms.getD i default).a (ms.getD i default).n (ms.getD i default).cap := by
    intro i hi
    have := flatV_at (k := 1) (by omega) (rwV ms) past.length (fun _ _ => rfl) i hi 0 (by omega)
    rw [Nat.mul_one, Nat.add_zero] at this
    simp only [List.getD, this]
    rfl
  refine ⟨hb, ca, cc, ma, mc, _, rfl, oz, own_pav op (fun i hi => ?_) (fun u hu => ?_), op⟩
  · rw [vg i hi]
    have mem : ms.getD i default ∈ ms := by have := c.mx.len; simp [List.getD, this, hi]
    have r := (c.mx.rows _ mem).1.keep kp nt
    rw [c.like i hi] at r
    exact r
  · exact flatV_one (k := 1) (rwV ms) past.length (fun i _ => fun u hu => by simp [rwV] at hu; rw [hu]; rfl) u hu
end
set_option maxRecDepth 100000 in
set_option maxHeartbeats 3200000 in
theorem copied_any {w : World} {t st ft dy : Int} {cells : List Int} {past : List (List Cl)} {B : Nat} {ca pa : Option Addr} {cc pc : Nat} {vs : List Value} (hz : OwZ w B (.slice ca cells.length cc) cells) (hp : PaV w (.slice pa past.length pc) past vs) (n1 : cells.length ≤ 1000000) (n2 : past.length ≤ 1000000) (n3 : ∀ i, i < past.length → (past.getD i []).length ≤ 1000000 ∧ ∀ c ∈ past.getD i [], inR c.v) : Calls Tryz.prog 24 #[.agg #[.int .i64 t, .int .i64 st, .slice ca cells.length cc, .slice pa past.length pc, .int .i64 ft, .int .i64 dy]] w fun e w' => CsE w t st ft dy cells past e w' := by
  obtain ⟨W0, hW0⟩ : ∃ W, ((w.alloc (.cells #[.int .i64 t, .int .i64 st, .slice ca cells.length cc, .slice pa past.length pc, .int .i64 ft, .int .i64 dy] 51)).alloc (.cells #[.int .i64 0, .int .i64 0, .slice none 0 0, .slice none 0 0, .int .i64 0, .int .i64 0] 51)).alloc (.cells #[.int .i64 t, .int .i64 st, .slice ca cells.length cc, .slice pa past.length pc, .int .i64 ft, .int .i64 dy] 51) = W := ⟨_, rfl⟩
  obtain ⟨WA, hWA⟩ : ∃ W, w.alloc (.cells #[.int .i64 t, .int .i64 st, .slice ca cells.length cc, .slice pa past.length pc, .int .i64 ft, .int .i64 dy] 51) = W := ⟨_, rfl⟩
  obtain ⟨WB, hWB⟩ : ∃ W, WA.alloc (.cells #[.int .i64 0, .int .i64 0, .slice none 0 0, .slice none 0 0, .int .i64 0, .int .i64 0] 51) = W := ⟨_, rfl⟩
  have e0 : WB.alloc (.cells #[.int .i64 t, .int .i64 st, .slice ca cells.length cc, .slice pa past.length pc, .int .i64 ft, .int .i64 dy] 51) = W0 := by rw [← hW0, ← hWB, ← hWA]
  have sA : WA.heap.size = w.heap.size + 1 := by rw [← hWA]; simp
  have sB : WB.heap.size = w.heap.size + 2 := by rw [← hWB]; simp [sA]
  have bA : Below w.heap.size w WA := by rw [← hWA]; exact allocBP _ _
  have bB : Below WA.heap.size WA WB := by rw [← hWB]; exact allocBP _ _
  have bC : Below WB.heap.size WB W0 := by rw [← e0]; exact allocBP _ _
  have B0 : Below w.heap.size w W0 := (bA.trans (bB.mono bA.size)).trans (bC.mono (bA.trans (bB.mono bA.size)).size)
  have S0 : BkP W0 w.heap.size #[.int .i64 t, .int .i64 st, .slice ca cells.length cc, .slice pa past.length pc, .int .i64 ft, .int .i64 dy] 51 := by
    have : BkP WA w.heap.size #[.int .i64 t, .int .i64 st, .slice ca cells.length cc, .slice pa past.length pc, .int .i64 ft, .int .i64 dy] 51 := by rw [← hWA]; exact heapN _ _
    exact (this.lat bB).lat bC
  have Z0 : BkP W0 (w.heap.size + 1) #[.int .i64 0, .int .i64 0, .slice none 0 0, .slice none 0 0, .int .i64 0, .int .i64 0] 51 := by
    have : BkP WB WA.heap.size #[.int .i64 0, .int .i64 0, .slice none 0 0, .slice none 0 0, .int .i64 0, .int .i64 0] 51 := by rw [← hWB]; exact heapN _ _
    rw [sA] at this
    exact this.lat bC
  have X0 : BkP W0 (w.heap.size + 2) #[.int .i64 t, .int .i64 st, .slice ca cells.length cc, .slice pa past.length pc, .int .i64 ft, .int .i64 dy] 51 := by
    have : BkP W0 WB.heap.size #[.int .i64 t, .int .i64 st, .slice ca cells.length cc, .slice pa past.length pc, .int .i64 ft, .int .i64 dy] 51 := by rw [← e0]; exact heapN _ _
    rw [sB] at this
    exact this
  obtain ⟨i0, hi, hz0, hz1, hz2⟩ := info_parts infoZ
  have hzl := hz
  unfold OwZ at hzl
  rw [flatV_nu] at hzl
  obtain ⟨ca', cc', ev, hd, rw'⟩ := own_list (k := 1) (by omega) (fun _ _ => rfl) hzl
  injection ev with ev1 _ ev3
  subst ev1 ev3
  have rowW : Row W0 ca cells.length 1 (nuV cells) := (rw' w (fun _ _ => rfl)).later B0
  obtain ⟨a1, c1, w1, r1, o1, b1⟩ := run_fresh (B := w.heap.size) (T := 23) Tryz.underlying23 hi hz0 hz1 hz2 rfl (by decide) B0.size (a := ca) (n := cells.length) (c := cc) hd rowW (fun _ => rfl) (fun i u hu => by simp [nuV] at hu; rw [hu]; rfl) (by unfold maxLen; omega) (by omega)
  have R1 := Lib.hid r1
  have oz1 : OwZ w1 w.heap.size (.slice a1 cells.length c1) cells := by
    unfold OwZ
    rw [flatV_nu]
    exact o1
  have s1 := S0.lat b1
  have z1 := Z0.lat b1
  have x1 := X0.lat b1
  have q1 := x1.set2 2 (.slice a1 cells.length c1) (by simp)
  have q2 := q1.set2 3 (.slice none 0 0) (by simp)
  have bel1 := B0.trans (b1.mono B0.size)
  have C0 := Lib.hid (p := CdI w t st ft dy cells past ca cc pa pc a1 c1 [] none 0 0 ((w1.setCell ⟨w.heap.size + 2, 2, none⟩ (.slice a1 cells.length c1)).setCell ⟨w.heap.size + 2, 3, none⟩ (.slice none 0 0))) ⟨⟨(bel1.setCell (by exact Nat.le_add_right _ _) _).setCell (by exact Nat.le_add_right _ _) _, World.ownsRow_nil _ _ _ _, rfl, by simp⟩, (s1.other _ _ _ (by omega)).other _ _ _ (by omega), (z1.other _ _ _ (by omega)).other _ _ _ (by omega), by simpa using q2, own_blkG oz1 (fun g hg => by
    have n0 : g ≠ w.heap.size + 2 := fun z => own_neB oz1 x1 (by decide) (by rw [hg, z])
    rw [bk_block n0, bk_block n0]), fun i hi => by omega⟩
  have f2 := x1.frozen 2
  have f3 := x1.frozen 3
  have y2 : w1.cell? ⟨w.heap.size + 2, 2, none⟩ = some (.slice ca cells.length cc) := by rw [x1.cell]; rfl
  have y3 : w1.cell? ⟨w.heap.size + 2, 3, none⟩ = some (.slice pa past.length pc) := by rw [x1.cell]; rfl
  obtain ⟨a0, a1', a2, a3, a4, a5⟩ := box_all6 S0
  have al2 : (W0.alloc (.cells #[] 3)).cell? ⟨w.heap.size, 2, none⟩ = some (.slice ca cells.length cc) := below_cell (allocBP W0 _) a2
  have HW := Lib.hid hW0
  have HP := Lib.hid hp
  have RK := Lib.hid (p := ∀ k, k < past.length → ∃ g o ra rz, pa = some ⟨g, o, none⟩ ∧ g < w.heap.size ∧ (∀ V, Below w.heap.size w V → V.cell? ⟨g, o + k, none⟩ = some (.slice ra (past.getD k []).length rz) ∧ Calls Tryz.prog 31 #[.slice ra (past.getD k []).length rz] V fun e w' => ∃ a' n' c', e = .returned (.slice a' n' c') ∧ RowKit.Hid (RwOk w' ⟨a', n', c', past.getD k []⟩ ∧ Below V.heap.size V w'))) (fun k hk => by
    obtain ⟨g, o, ra, rz, e1, l1, q1, r1⟩ := pa_cells hp hk
    exact ⟨g, o, ra, rz, e1, l1, fun V b => ⟨(b.cell (p := ⟨g, o + k, none⟩) l1).trans q1, row_ok (r1.lat b) (n3 k hk).2 (n3 k hk).1⟩⟩)
  clear hW0 hWA hWB e0 sA sB bA bB bC B0 S0 Z0 X0 hz hzl rw' rowW o1 b1 oz1 s1 z1 x1 q1 q2 bel1 hp HP r1 hd n3 a0 a1' a4 a5
  generalize hcn : cells.length = cn at *
  generalize hpn : past.length = pn at *
  go_enter Tryz.func24, Tryz.ntmps24
  go_upto_region 2 with fail
  rw [HW.out, show w.heap.size + 1 + 1 = w.heap.size + 2 from rfl]
  go_wp2_with (at_builtin; refine wp_app_run rfl _ _ 23 rfl _ _ _ w1 rfl rfl R1.out ?_)
  subst hcn hpn
  clear f2 f3 y2 y3 a2 a3 R1 al2
  go_loopw [4] (fun t0 wr => ∃ (k : Nat) (ms : List Rw) (ma : Option Addr) (mc : Nat), k ≤ past.length ∧ t0 = .int .i64 (k : Int) ∧ RowKit.Hid (CdI w t st ft dy cells past ca cc pa pc a1 c1 ms ma k mc wr)) (fun t0 _ => past.length - (intOf t0).toNat)
  case atStart => exact ⟨0, [], none, 0, by omega, rfl, C0.out⟩
  case round =>
    clear C0
    rename World => wr
    obtain ⟨k, ms, ma, mc, hk, rfl, hC⟩ := hrel
    have c := hC.out
    have xs3 : wr.cell? ⟨w.heap.size, 3, none⟩ = some (.slice pa past.length pc) := by rw [c.sbx.cell]; rfl
    by_cases hlt : k < past.length
    · have kc : (k : Int) < (past.length : Int) := by omega
      have k0 : ¬ (k : Int) < 0 := by omega
      have ks : IntKind.i64.wrap ((k : Int) + 1) = (k : Int) + 1 := by simp [IntKind.wrap, IntKind.bits, IntKind.signed]; omega
      have x3 : wr.cell? ⟨w.heap.size + 2, 3, none⟩ = some (.slice ma k mc) := by rw [c.box.cell]; rfl
      have xd : wr.drew.cell? ⟨w.heap.size + 2, 3, none⟩ = some (.slice ma k mc) := x3
      obtain ⟨g, o, ra, rz, rfl, gl, hrk⟩ := RK.out k hlt
      have gn1 : ¬ g = w.heap.size + 2 := by omega
      have gn2 : ¬ w.heap.size + 2 = g := by omega
      have gn3 : ¬ w.heap.size = w.heap.size + 2 := by omega
      have gn4 : ¬ w.heap.size + 2 = w.heap.size := by omega
      have g1 := (hrk wr c.mx.bel).1
      have KI := Lib.hid (p := ∀ V, Below wr.heap.size wr V → Calls Tryz.prog 31 #[.slice ra (past.getD k []).length rz] V fun e w' => ∃ a' n' c', e = .returned (.slice a' n' c') ∧ RowKit.Hid (RwOk w' ⟨a', n', c', past.getD k []⟩ ∧ Below V.heap.size V w')) (fun V b => (hrk V (c.mx.bel.trans (b.mono c.mx.bel.size))).2)
      have NX := Lib.hid (p := ∀ V, Below wr.heap.size wr V → ∀ a' n' c', RwOk V ⟨a', n', c', past.getD k []⟩ → V.cell? ⟨w.heap.size + 2, 3, none⟩ = some (.slice ma k mc) ∧ ∃ ma2 mc2 w3, RowKit.Hid (∀ ty, (Builtin.append_ #[27, 27] ty #[.slice ma k mc, .slice (some ⟨V.heap.size, 0, none⟩) 1 1]).run Tryz.prog (V.alloc (.cells #[.slice a' n' c'] 47)) = .ok (.slice ma2 (k + 1) mc2) w3) ∧ w3.cell? ⟨w.heap.size + 2, 3, none⟩ = some (.slice ma k mc) ∧ w3.frozen? ⟨w.heap.size + 2, 3, none⟩ = false ∧ w3.cell? ⟨w.heap.size, 3, none⟩ = some (.slice (some ⟨g, o, none⟩) past.length pc) ∧ w3.cell? ⟨g, o + k, none⟩ = some (.slice ra (past.getD k []).length rz) ∧ (w3.setCell ⟨w.heap.size + 2, 3, none⟩ (.slice ma2 (k + 1) mc2)).cell? ⟨w.heap.size, 3, none⟩ = some (.slice (some ⟨g, o, none⟩) past.length pc) ∧ (w3.setCell ⟨w.heap.size + 2, 3, none⟩ (.slice ma2 (k + 1) mc2)).cell? ⟨g, o + k, none⟩ = some (.slice ra (past.getD k []).length rz) ∧ RowKit.Hid (CdI w t st ft dy cells past ca cc (some ⟨g, o, none⟩) pc a1 c1 (ms ++ [⟨a', n', c', past.getD k []⟩]) ma2 (k + 1) mc2 (w3.setCell ⟨w.heap.size + 2, 3, none⟩ (.slice ma2 (k + 1) mc2)))) (fun V b a' n' c' ok => by
        obtain ⟨ma2, mc2, w3, r3, y1, y2, yb, ys, y3⟩ := (c.lat b).next (by omega) ok rfl
        exact ⟨below_cell b x3, ma2, mc2, w3, r3, y1, y2, ys, (hrk w3 yb).1, by rw [y3.out.sbx.cell]; rfl, (hrk _ y3.out.mx.bel).1, y3⟩)
      generalize past.getD k [] = row at *
      generalize row.length = rn at *
      clear hC c hrk RK
      go_wp2
      refine wp_region_held_drew (S := (fun w' => w'.cell? ⟨w.heap.size, 3, none⟩ = some (.slice (some ⟨g, o, none⟩) past.length pc) ∧ w'.cell? ⟨g, o + k, none⟩ = some (.slice ra rn rz))) (by kernel_rfl) ?_ (fun hHeld => ?_)
      · (try dsimp only)
        exact ⟨xs3, g1⟩
      refine wpAnyH_take (i := 0) (oi := { dst := some 19, op := Op.fieldAddr 51 (Operand.tmp 3) 3, type := 0, pos := "law.go:85", after := #[], guard := none }) (v := ?_) rfl (by kernel_rfl) (by kernel_rfl) (by kernel_rfl) (fun _ _ _ h => h) (Or.inl ⟨by rfl, ?_⟩) (by assumption) ?_
      rotate_left 1
      · intro w' hSw; (try dsimp only at hSw); go_simp; try with_reducible rfl
      (try simp only [Act.put, List.setIfInBounds_toArray, List.set_cons_zero, List.set_cons_succ])
      refine wpAnyH_take (i := 2) (oi := { dst := some 21, op := Op.fieldAddr 51 (Operand.tmp 1) 3, type := 0, pos := "law.go:85", after := #[], guard := none }) (v := ?_) rfl (by kernel_rfl) (by kernel_rfl) (by kernel_rfl) (fun _ _ _ h => h) (Or.inl ⟨by rfl, ?_⟩) (by assumption) ?_
      rotate_left 1
      · intro w' hSw; (try dsimp only at hSw); go_simp; try with_reducible rfl
      (try simp only [Act.put, List.setIfInBounds_toArray, List.set_cons_zero, List.set_cons_succ])
      refine wpAnyH_take (i := 3) (oi := { dst := some 22, op := Op.load 27 (Operand.tmp 21), type := 27, pos := "law.go:85", after := #[{ on := 2, ground := Ground.data }], guard := none }) (v := ?_) rfl (by kernel_rfl) (by kernel_rfl) (by kernel_rfl) (fun _ _ _ h => h) (Or.inl ⟨by rfl, ?_⟩) (by assumption) ?_
      rotate_left 1
      · intro w' hSw; (try dsimp only at hSw); go_simp; try with_reducible rfl
      (try simp only [Act.put, List.setIfInBounds_toArray, List.set_cons_zero, List.set_cons_succ])
      refine wpAnyH_take (i := 4) (oi := { dst := some 23, op := Op.move (Operand.tmp 4), type := 3, pos := "law.go:85", after := #[], guard := none }) (v := ?_) rfl (by kernel_rfl) (by kernel_rfl) (by kernel_rfl) (fun _ _ _ h => h) (Or.inl ⟨by rfl, ?_⟩) (by assumption) ?_
      rotate_left 1
      · intro w' hSw; (try dsimp only at hSw); go_simp; try with_reducible rfl
      (try simp only [Act.put, List.setIfInBounds_toArray, List.set_cons_zero, List.set_cons_succ])
      refine wpAnyH_take (i := 5) (oi := { dst := some 24, op := Op.indexAddr 27 (Operand.tmp 22) (Operand.tmp 23), type := 0, pos := "law.go:85", after := #[{ on := 3, ground := Ground.data }, { on := 4, ground := Ground.data }], guard := none }) (v := ?_) rfl (by kernel_rfl) (by kernel_rfl) (by kernel_rfl) (fun _ _ _ h => h) (Or.inl ⟨by rfl, ?_⟩) (by assumption) ?_
      rotate_left 1
      · intro w' hSw; (try dsimp only at hSw); go_simp; try with_reducible rfl
      (try simp only [Act.put, List.setIfInBounds_toArray, List.set_cons_zero, List.set_cons_succ])
      refine wpAnyH_take (i := 6) (oi := { dst := some 25, op := Op.load 47 (Operand.tmp 24), type := 47, pos := "law.go:85", after := #[{ on := 5, ground := Ground.data }], guard := none }) (v := ?_) rfl (by kernel_rfl) (by kernel_rfl) (by kernel_rfl) (fun _ _ _ h => h) (Or.inl ⟨by rfl, ?_⟩) (by assumption) ?_
      rotate_left 1
      · intro w' hSw; (try dsimp only at hSw); go_simp; try with_reducible rfl
      (try simp only [Act.put, List.setIfInBounds_toArray, List.set_cons_zero, List.set_cons_succ])
      refine wpAnyH_ready (rs := [1, 7]) (by kernel_rfl) (by simp) ?_
      refine AllReadyH.cons (o := { dst := some 20, op := Op.load 27 (Operand.tmp 19), type := 27, pos := "law.go:85", after := #[{ on := 0, ground := Ground.data }], guard := none }) rfl (fun K' hK => ?_) (AllReadyH.cons (o := { dst := some 26, op := Op.call { callee := Callee.value (Operand.func 31), args := #[Operand.tmp 25], argTypes := #[47] }, type := 47, pos := "law.go:85", after := #[{ on := 6, ground := Ground.data }], guard := none }) rfl (fun K' hK => ?_) AllReadyH.nil)
      · go_simp
        refine hK.out _ _ ?_ (fun hHeld => ?_)
        · (try dsimp only)
          exact hHeld
        clear hK K'
        (try simp only [Act.put, List.setIfInBounds_toArray, List.set_cons_zero, List.set_cons_succ])
        refine wpAnyH_ready (rs := [7]) (by kernel_rfl) (by simp) ?_
        refine AllReadyH.cons (o := { dst := some 26, op := Op.call { callee := Callee.value (Operand.func 31), args := #[Operand.tmp 25], argTypes := #[47] }, type := 47, pos := "law.go:85", after := #[{ on := 6, ground := Ground.data }], guard := none }) rfl (fun K' hK => ?_) AllReadyH.nil
        go_simp
        go_at_call 31; refine (KI.out _ (by first | exact Below.refl _ _ | exact drew1 _)).mono ?_; rintro e w6 ⟨ra6, rn6, rc6, rfl, o6⟩; obtain ⟨v3, ma7, mc7, w7, R7, v1, v2, v4, v5, v8, v9, C7⟩ := NX.out w6 (by first | exact o6.out.2 | exact (drew1 wr).trans o6.out.2) ra6 rn6 rc6 o6.out.1; have u1 := below_cell o6.out.2 xs3; have u2 := below_cell o6.out.2 g1; have v6 : (w6.alloc (.cells #[.slice ra6 rn6 rc6] 47)).cell? ⟨w.heap.size + 2, 3, none⟩ = some (.slice ma k mc) := below_cell (allocBP w6 _) v3
        (try go_wp2_with fail)
        refine hK.out _ _ ?_ (fun hHeld => ?_)
        · (try dsimp only)
          exact ⟨u1, u2⟩
        clear hK K'
        (try simp only [Act.put, List.setIfInBounds_toArray, List.set_cons_zero, List.set_cons_succ])
        refine wpAnyH_ready (rs := [8]) (by kernel_rfl) (by simp) ?_
        refine AllReadyH.cons (o := { dst := some 27, op := Op.buildSlice 27 1 #[(0, Operand.tmp 26)], type := 27, pos := "law.go:85", after := #[{ on := 7, ground := Ground.data }], guard := none }) rfl (fun K' hK => ?_) AllReadyH.nil
        go_simp
        refine hK.out _ _ ?_ (fun hHeld => ?_)
        · (try dsimp only)
          exact ⟨below_cell (allocBP w6 _) u1, below_cell (allocBP w6 _) u2⟩
        clear hK K'
        (try simp only [Act.put, List.setIfInBounds_toArray, List.set_cons_zero, List.set_cons_succ])
        refine wpAnyH_ready (rs := [9]) (by kernel_rfl) (by simp) ?_
        refine AllReadyH.cons (o := { dst := some 28, op := Op.call { callee := Callee.builtin Builtin.append, args := #[Operand.tmp 20, Operand.tmp 27], argTypes := #[27, 27] }, type := 27, pos := "law.go:85", after := #[{ on := 1, ground := Ground.data }, { on := 8, ground := Ground.data }, { on := 7, ground := Ground.chain }], guard := none }) rfl (fun K' hK => ?_) AllReadyH.nil
        refine step_app_run rfl _ _ 27 rfl _ _ _ w7 rfl rfl R7.out ?_
        refine hK.out _ _ ?_ (fun hHeld => ?_)
        · (try dsimp only)
          exact ⟨v4, v5⟩
        clear hK K'
        (try simp only [Act.put, List.setIfInBounds_toArray, List.set_cons_zero, List.set_cons_succ])
        refine wpAnyH_take (i := 10) (oi := { dst := some 29, op := Op.fieldAddr 51 (Operand.tmp 3) 3, type := 0, pos := "law.go:85", after := #[{ on := 0, ground := Ground.phase }, { on := 1, ground := Ground.phase }, { on := 2, ground := Ground.phase }, { on := 3, ground := Ground.phase }, { on := 4, ground := Ground.phase }, { on := 5, ground := Ground.phase }, { on := 6, ground := Ground.phase }, { on := 7, ground := Ground.phase }, { on := 8, ground := Ground.phase }, { on := 9, ground := Ground.phase }], guard := none }) (v := ?_) rfl (by kernel_rfl) (by kernel_rfl) (by kernel_rfl) (fun _ _ _ h => h) (Or.inl ⟨by rfl, ?_⟩) (by assumption) ?_
        rotate_left 1
        · intro w' hSw; (try dsimp only at hSw); go_simp; try with_reducible rfl
        (try simp only [Act.put, List.setIfInBounds_toArray, List.set_cons_zero, List.set_cons_succ])
        refine wpAnyH_ready (rs := [11]) (by kernel_rfl) (by simp) ?_
        refine AllReadyH.cons (o := { dst := none, op := Op.store 27 (Operand.tmp 29) (Operand.tmp 28), type := 0, pos := "law.go:85", after := #[{ on := 10, ground := Ground.data }, { on := 9, ground := Ground.data }, { on := 9, ground := Ground.chain }, { on := 0, ground := Ground.phase }, { on := 1, ground := Ground.phase }, { on := 2, ground := Ground.phase }, { on := 3, ground := Ground.phase }, { on := 4, ground := Ground.phase }, { on := 5, ground := Ground.phase }, { on := 6, ground := Ground.phase }, { on := 7, ground := Ground.phase }, { on := 8, ground := Ground.phase }, { on := 9, ground := Ground.phase }], guard := none }) rfl (fun K' hK => ?_) AllReadyH.nil
        go_simp
        refine hK.out _ _ ?_ (fun hHeld => ?_)
        · (try dsimp only)
          exact ⟨v8, v9⟩
        clear hK K'
        (try simp only [Act.put, List.setIfInBounds_toArray, List.set_cons_zero, List.set_cons_succ])
        refine wpAnyH_done (by kernel_rfl) ?_ _
        go_wp2
        refine ⟨⟨k + 1, _, ma7, mc7, by omega, by simp, C7⟩, ?_⟩
        simp [intOf]
        omega
      · go_simp
        go_at_call 31; refine (KI.out _ (by first | exact Below.refl _ _ | exact drew1 _)).mono ?_; rintro e w6 ⟨ra6, rn6, rc6, rfl, o6⟩; obtain ⟨v3, ma7, mc7, w7, R7, v1, v2, v4, v5, v8, v9, C7⟩ := NX.out w6 (by first | exact o6.out.2 | exact (drew1 wr).trans o6.out.2) ra6 rn6 rc6 o6.out.1; have u1 := below_cell o6.out.2 xs3; have u2 := below_cell o6.out.2 g1; have v6 : (w6.alloc (.cells #[.slice ra6 rn6 rc6] 47)).cell? ⟨w.heap.size + 2, 3, none⟩ = some (.slice ma k mc) := below_cell (allocBP w6 _) v3
        (try go_wp2_with fail)
        refine hK.out _ _ ?_ (fun hHeld => ?_)
        · (try dsimp only)
          exact ⟨u1, u2⟩
        clear hK K'
        (try simp only [Act.put, List.setIfInBounds_toArray, List.set_cons_zero, List.set_cons_succ])
        refine wpAnyH_ready (rs := [1, 8]) (by kernel_rfl) (by simp) ?_
        refine AllReadyH.cons (o := { dst := some 20, op := Op.load 27 (Operand.tmp 19), type := 27, pos := "law.go:85", after := #[{ on := 0, ground := Ground.data }], guard := none }) rfl (fun K' hK => ?_) (AllReadyH.cons (o := { dst := some 27, op := Op.buildSlice 27 1 #[(0, Operand.tmp 26)], type := 27, pos := "law.go:85", after := #[{ on := 7, ground := Ground.data }], guard := none }) rfl (fun K' hK => ?_) AllReadyH.nil)
        · go_simp
          refine hK.out _ _ ?_ (fun hHeld => ?_)
          · (try dsimp only)
            exact hHeld
          clear hK K'
          (try simp only [Act.put, List.setIfInBounds_toArray, List.set_cons_zero, List.set_cons_succ])
          refine wpAnyH_ready (rs := [8]) (by kernel_rfl) (by simp) ?_
          refine AllReadyH.cons (o := { dst := some 27, op := Op.buildSlice 27 1 #[(0, Operand.tmp 26)], type := 27, pos := "law.go:85", after := #[{ on := 7, ground := Ground.data }], guard := none }) rfl (fun K' hK => ?_) AllReadyH.nil
          go_simp
          refine hK.out _ _ ?_ (fun hHeld => ?_)
          · (try dsimp only)
            exact ⟨below_cell (allocBP w6 _) u1, below_cell (allocBP w6 _) u2⟩
          clear hK K'
          (try simp only [Act.put, List.setIfInBounds_toArray, List.set_cons_zero, List.set_cons_succ])
          refine wpAnyH_ready (rs := [9]) (by kernel_rfl) (by simp) ?_
          refine AllReadyH.cons (o := { dst := some 28, op := Op.call { callee := Callee.builtin Builtin.append, args := #[Operand.tmp 20, Operand.tmp 27], argTypes := #[27, 27] }, type := 27, pos := "law.go:85", after := #[{ on := 1, ground := Ground.data }, { on := 8, ground := Ground.data }, { on := 7, ground := Ground.chain }], guard := none }) rfl (fun K' hK => ?_) AllReadyH.nil
          refine step_app_run rfl _ _ 27 rfl _ _ _ w7 rfl rfl R7.out ?_
          refine hK.out _ _ ?_ (fun hHeld => ?_)
          · (try dsimp only)
            exact ⟨v4, v5⟩
          clear hK K'
          (try simp only [Act.put, List.setIfInBounds_toArray, List.set_cons_zero, List.set_cons_succ])
          refine wpAnyH_take (i := 10) (oi := { dst := some 29, op := Op.fieldAddr 51 (Operand.tmp 3) 3, type := 0, pos := "law.go:85", after := #[{ on := 0, ground := Ground.phase }, { on := 1, ground := Ground.phase }, { on := 2, ground := Ground.phase }, { on := 3, ground := Ground.phase }, { on := 4, ground := Ground.phase }, { on := 5, ground := Ground.phase }, { on := 6, ground := Ground.phase }, { on := 7, ground := Ground.phase }, { on := 8, ground := Ground.phase }, { on := 9, ground := Ground.phase }], guard := none }) (v := ?_) rfl (by kernel_rfl) (by kernel_rfl) (by kernel_rfl) (fun _ _ _ h => h) (Or.inl ⟨by rfl, ?_⟩) (by assumption) ?_
          rotate_left 1
          · intro w' hSw; (try dsimp only at hSw); go_simp; try with_reducible rfl
          (try simp only [Act.put, List.setIfInBounds_toArray, List.set_cons_zero, List.set_cons_succ])
          refine wpAnyH_ready (rs := [11]) (by kernel_rfl) (by simp) ?_
          refine AllReadyH.cons (o := { dst := none, op := Op.store 27 (Operand.tmp 29) (Operand.tmp 28), type := 0, pos := "law.go:85", after := #[{ on := 10, ground := Ground.data }, { on := 9, ground := Ground.data }, { on := 9, ground := Ground.chain }, { on := 0, ground := Ground.phase }, { on := 1, ground := Ground.phase }, { on := 2, ground := Ground.phase }, { on := 3, ground := Ground.phase }, { on := 4, ground := Ground.phase }, { on := 5, ground := Ground.phase }, { on := 6, ground := Ground.phase }, { on := 7, ground := Ground.phase }, { on := 8, ground := Ground.phase }, { on := 9, ground := Ground.phase }], guard := none }) rfl (fun K' hK => ?_) AllReadyH.nil
          go_simp
          refine hK.out _ _ ?_ (fun hHeld => ?_)
          · (try dsimp only)
            exact ⟨v8, v9⟩
          clear hK K'
          (try simp only [Act.put, List.setIfInBounds_toArray, List.set_cons_zero, List.set_cons_succ])
          refine wpAnyH_done (by kernel_rfl) ?_ _
          go_wp2
          refine ⟨⟨k + 1, _, ma7, mc7, by omega, by simp, C7⟩, ?_⟩
          simp [intOf]
          omega
        · go_simp
          refine hK.out _ _ ?_ (fun hHeld => ?_)
          · (try dsimp only)
            exact ⟨below_cell (allocBP w6 _) u1, below_cell (allocBP w6 _) u2⟩
          clear hK K'
          (try simp only [Act.put, List.setIfInBounds_toArray, List.set_cons_zero, List.set_cons_succ])
          refine wpAnyH_ready (rs := [1]) (by kernel_rfl) (by simp) ?_
          refine AllReadyH.cons (o := { dst := some 20, op := Op.load 27 (Operand.tmp 19), type := 27, pos := "law.go:85", after := #[{ on := 0, ground := Ground.data }], guard := none }) rfl (fun K' hK => ?_) AllReadyH.nil
          go_simp
          refine hK.out _ _ ?_ (fun hHeld => ?_)
          · (try dsimp only)
            exact hHeld
          clear hK K'
          (try simp only [Act.put, List.setIfInBounds_toArray, List.set_cons_zero, List.set_cons_succ])
          refine wpAnyH_ready (rs := [9]) (by kernel_rfl) (by simp) ?_
          refine AllReadyH.cons (o := { dst := some 28, op := Op.call { callee := Callee.builtin Builtin.append, args := #[Operand.tmp 20, Operand.tmp 27], argTypes := #[27, 27] }, type := 27, pos := "law.go:85", after := #[{ on := 1, ground := Ground.data }, { on := 8, ground := Ground.data }, { on := 7, ground := Ground.chain }], guard := none }) rfl (fun K' hK => ?_) AllReadyH.nil
          refine step_app_run rfl _ _ 27 rfl _ _ _ w7 rfl rfl R7.out ?_
          refine hK.out _ _ ?_ (fun hHeld => ?_)
          · (try dsimp only)
            exact ⟨v4, v5⟩
          clear hK K'
          (try simp only [Act.put, List.setIfInBounds_toArray, List.set_cons_zero, List.set_cons_succ])
          refine wpAnyH_take (i := 10) (oi := { dst := some 29, op := Op.fieldAddr 51 (Operand.tmp 3) 3, type := 0, pos := "law.go:85", after := #[{ on := 0, ground := Ground.phase }, { on := 1, ground := Ground.phase }, { on := 2, ground := Ground.phase }, { on := 3, ground := Ground.phase }, { on := 4, ground := Ground.phase }, { on := 5, ground := Ground.phase }, { on := 6, ground := Ground.phase }, { on := 7, ground := Ground.phase }, { on := 8, ground := Ground.phase }, { on := 9, ground := Ground.phase }], guard := none }) (v := ?_) rfl (by kernel_rfl) (by kernel_rfl) (by kernel_rfl) (fun _ _ _ h => h) (Or.inl ⟨by rfl, ?_⟩) (by assumption) ?_
          rotate_left 1
          · intro w' hSw; (try dsimp only at hSw); go_simp; try with_reducible rfl
          (try simp only [Act.put, List.setIfInBounds_toArray, List.set_cons_zero, List.set_cons_succ])
          refine wpAnyH_ready (rs := [11]) (by kernel_rfl) (by simp) ?_
          refine AllReadyH.cons (o := { dst := none, op := Op.store 27 (Operand.tmp 29) (Operand.tmp 28), type := 0, pos := "law.go:85", after := #[{ on := 10, ground := Ground.data }, { on := 9, ground := Ground.data }, { on := 9, ground := Ground.chain }, { on := 0, ground := Ground.phase }, { on := 1, ground := Ground.phase }, { on := 2, ground := Ground.phase }, { on := 3, ground := Ground.phase }, { on := 4, ground := Ground.phase }, { on := 5, ground := Ground.phase }, { on := 6, ground := Ground.phase }, { on := 7, ground := Ground.phase }, { on := 8, ground := Ground.phase }, { on := 9, ground := Ground.phase }], guard := none }) rfl (fun K' hK => ?_) AllReadyH.nil
          go_simp
          refine hK.out _ _ ?_ (fun hHeld => ?_)
          · (try dsimp only)
            exact ⟨v8, v9⟩
          clear hK K'
          (try simp only [Act.put, List.setIfInBounds_toArray, List.set_cons_zero, List.set_cons_succ])
          refine wpAnyH_done (by kernel_rfl) ?_ _
          go_wp2
          refine ⟨⟨k + 1, _, ma7, mc7, by omega, by simp, C7⟩, ?_⟩
          simp [intOf]
          omega
    · have e : k = past.length := by omega
      subst e
      have kc : ¬ (past.length : Int) < (past.length : Int) := by omega
      obtain ⟨x0, x1, x2, x3, x4, x5⟩ := box_all6 c.box
      obtain ⟨z0, z1, z2, z3, z4, z5⟩ := box_all6 c.zb
      have f0 := c.zb.frozen 0
      have f1 := c.zb.frozen 1
      have f2 := c.zb.frozen 2
      have f3 := c.zb.frozen 3
      have f4 := c.zb.frozen 4
      have f5 := c.zb.frozen 5
      obtain ⟨s1, s2, s3⟩ := set6 c.zb (.int .i64 t) (.int .i64 st) (.slice a1 cells.length c1) (.slice ma past.length mc) (.int .i64 ft) (.int .i64 dy)
      have S1 := Lib.hid s1
      have S2 := Lib.hid s2
      have S3 := Lib.hid s3
      have CC := Lib.hid c
      clear c s1 s2 s3 hC RK
      go_wp2
      refine bodyPost_ret (v := .agg #[.int .i64 t, .int .i64 st, .slice a1 cells.length c1, .slice ma past.length mc, .int .i64 ft, .int .i64 dy]) ?r rfl ?s
      case r => exact results_cell_row rfl _ _ (w.heap.size + 1) 51 _ (0, 0) _ rfl S1.out Tryz.underlying51 rfl (by kernel_rfl)
      case s => exact cd_fin CC.out ((((((CC.out.mx.bel.setCell (by exact Nat.le_succ _) _).setCell (by exact Nat.le_succ _) _).setCell (by exact Nat.le_succ _) _).setCell (by exact Nat.le_succ _) _).setCell (by exact Nat.le_succ _) _).setCell (by exact Nat.le_succ _) _) S2.out S3.out
end Go.Proofs.YtpfjnnkjoabgbaaGreatDoor
