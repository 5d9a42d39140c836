import Derived.Test.YtpfjnnkjoabgbaaGreatDoorXAZ
import Derived.Test.YtpfjnnkjoabgbaaGreatDoorXBL
import Derived.Deep.Cut
import Derived.Deep.CutRange
import Derived.Deep.DeepCutAuto
import Derived.Deep.RegionWith
namespace Go.Proofs.YtpfjnnkjoabgbaaGreatDoor
open Go.RowKit
set_option linter.unusedVariables false
set_option linter.unusedSimpArgs false
/-- An own row of w, from B on. -/
def OwL (w : World) (B : Nat) (t : TypeId) (k : Nat) (a : Option Addr) (n c : Nat) (V : Nat → List Value) : Prop := w.ownsRow B t k (.slice a n c) n (flatV n V)
theorem own_form {w : World} {B n k : Nat} {t : TypeId} {v : Value} {xs : List Value} (h : w.ownsRow B t k v n xs) : ∃ a c, v = .slice a n c := by
  rcases h.2 with ⟨rfl, h0⟩ | ⟨g, cap, cur, rfl, _⟩
  · subst h0; exact ⟨_, _, rfl⟩
  · exact ⟨_, _, rfl⟩
theorem OwL.lat {w w' : World} {B : Nat} {t : TypeId} {k : Nat} {a : Option Addr} {n c : Nat} {V : Nat → List Value} (h : OwL w B t k a n c V) (b : Below w.heap.size w w') : OwL w' B t k a n c V := own_blkG h (fun g hg => b.block g (World.ownsRow.lt h g hg).2)
theorem OwL.set {w : World} {B : Nat} {t : TypeId} {k : Nat} {a : Option Addr} {n c : Nat} {V : Nat → List Value} (h : OwL w B t k a n c V) {b : Nat} {cs : Array Value} {u : TypeId} (hb : BkP w b cs u) (ne : t ≠ u) (j : Nat) (x : Value) : OwL (w.setCell ⟨b, j, none⟩ x) B t k a n c V := own_blkG h (fun g hg => bk_block (fun z => own_neB h hb ne (by rw [hg, z])))
theorem OwL.list {w : World} {B : Nat} {t : TypeId} {k : Nat} {a : Option Addr} {n c : Nat} {V : Nat → List Value} (h : OwL w B t k a n c V) (hk : 0 < k) (hV : ∀ i, (V i).length = k) : Hd a n c ∧ ∀ W, (∀ g, Value.ownBlock (.slice a n c) = some g → W.heap[g]? = w.heap[g]?) → Row W a n k V := by
  obtain ⟨a', c', e, d, r⟩ := own_list hk (fun i _ => hV i) h
  injection e with e1 _ e3
  subst e1 e3
  exact ⟨d, r⟩
theorem cloneS_sl {w : World} {a : Option Addr} {n c : Nat} {l : List ByteArray} (h : SR w a n c l) {B : Nat} (hB : B ≤ w.heap.size) : Calls Tryz.prog 40 #[.slice a n c] w fun e w' => ∃ a' c', e = .returned (.slice a' n c') ∧ RowKit.Hid (OwL w' B 9 1 a' n c' (stV l)) ∧ Below w.heap.size w w' := by
  refine (cloneS_any h).mono ?_
  rintro e w' ⟨v', rfl, q1, q2⟩
  obtain ⟨a', c', rfl⟩ := own_form q1
  exact ⟨a', c', rfl, ownsRow_base q1 hB, q2⟩
theorem cloneN_sl {w : World} {a : Option Addr} {n c : Nat} {l : List Int} (h : NR w a n c l) {B : Nat} (hB : B ≤ w.heap.size) : Calls Tryz.prog 41 #[.slice a n c] w fun e w' => ∃ a' c', e = .returned (.slice a' n c') ∧ RowKit.Hid (OwL w' B 3 1 a' n c' (nuV l)) ∧ Below w.heap.size w w' := by
  refine (cloneN_any h).mono ?_
  rintro e w' ⟨v', rfl, q1, q2⟩
  obtain ⟨a', c', rfl⟩ := own_form q1
  exact ⟨a', c', rfl, ownsRow_base q1 hB, q2⟩
theorem cloneI_sl {w : World} {a : Option Addr} {n c : Nat} {l : List In} (h : IR w a n c l) {B : Nat} (hB : B ≤ w.heap.size) : Calls Tryz.prog 43 #[.slice a n c] w fun e w' => ∃ a' c', e = .returned (.slice a' n c') ∧ RowKit.Hid (OwL w' B 68 3 a' n c' (inW l)) ∧ Below w.heap.size w w' := by
  refine (cloneI_any h).mono ?_
  rintro e w' ⟨v', rfl, q1, q2⟩
  obtain ⟨a', c', rfl⟩ := own_form q1
  exact ⟨a', c', rfl, ownsRow_base q1 hB, q2⟩
theorem cloneG_sl {w : World} {a : Option Addr} {n c : Nat} {l : List Sg} (h1 : Hd a n c) (h3 : n ≤ 4398046510976) (h5 : Row w a n 2 (fun i => (l.getD i default).cs)) {B : Nat} (hB : B ≤ w.heap.size) : Calls Tryz.prog 42 #[.slice a n c] w fun e w' => ∃ a' c', e = .returned (.slice a' n c') ∧ RowKit.Hid (OwL w' B 71 2 a' n c' (sgV l)) ∧ Below w.heap.size w w' := by
  refine (cloneG_any h1 h3 h5).mono ?_
  rintro e w' ⟨v', rfl, q1, q2⟩
  obtain ⟨a', c', rfl⟩ := own_form q1
  exact ⟨a', c', rfl, ownsRow_base q1 hB, q2⟩
/-- The three lists are copied. -/
structure Cp3 (w : World) (pb : Nat) (p : Pg) (na : Option Addr) (nc : Nat) (ua : Option Addr) (uc : Nat) (pa : Option Addr) (pc : Nat) (W : World) : Prop where
  bel : Below w.heap.size w W
  box : BkP W pb #[.slice na p.names.length nc, .slice ua p.curs.length uc, .slice pa p.pool.length pc, .int .i64 p.hor, .int .i64 p.cells, .int .i64 p.slots, .int .i64 p.stack, .slice p.da p.days.length p.dc] 26
  names : OwL W w.heap.size 9 1 na p.names.length nc (stV p.names)
  curs : OwL W w.heap.size 9 1 ua p.curs.length uc (stV p.curs)
  pool : OwL W w.heap.size 3 1 pa p.pool.length pc (nuV p.pool)
theorem sg_set {n : Nat} {segs : List Sg} (hl : segs.length = n) {k : Nat} (hk : k < n) (ca : Option Addr) (cc : Nat) : (flatV n (sgV segs)).set (k * 2 + 1) (.slice ca (segs.getD k default).code.length cc) = flatV n (sgV (segs.set k { segs.getD k default with ca := ca, cc := cc })) := by
  have L1 := flatV_len (k := 2) (sgV segs) n (fun i _ => rfl)
  have L2 := flatV_len (k := 2) (sgV (segs.set k { segs.getD k default with ca := ca, cc := cc })) n (fun i _ => rfl)
  apply List.ext_getElem?
  intro j
  by_cases hj : j < n * 2
  · have e : j = (j / 2) * 2 + j % 2 := by omega
    have i1 : j / 2 < n := by omega
    have q2 := flatV_at (k := 2) (by omega) (sgV (segs.set k { segs.getD k default with ca := ca, cc := cc })) n (fun i _ => rfl) (j / 2) i1 (j % 2) (by omega)
    rw [← e] at q2
    rw [q2]
    by_cases z : j = k * 2 + 1
    · subst z
      rw [List.getElem?_set_self (by rw [L1]; exact hj)]
      have a : (k * 2 + 1) / 2 = k := by omega
      have b : (k * 2 + 1) % 2 = 1 := by omega
      rw [a, b]
      have : (segs.set k { segs.getD k default with ca := ca, cc := cc }).getD k default = { segs.getD k default with ca := ca, cc := cc } := by
        simp only [List.getD]
        rw [List.getElem?_set_self (by omega)]
        rfl
      unfold sgV Sg.cs
      rw [this]
      rfl
    · rw [List.getElem?_set_ne (Ne.symm z)]
      have q1 := flatV_at (k := 2) (by omega) (sgV segs) n (fun i _ => rfl) (j / 2) i1 (j % 2) (by omega)
      rw [← e] at q1
      rw [q1]
      by_cases y : j / 2 = k
      · have b : j % 2 = 0 := by omega
        rw [y, b]
        have : (segs.set k { segs.getD k default with ca := ca, cc := cc }).getD k default = { segs.getD k default with ca := ca, cc := cc } := by
          simp only [List.getD]
          rw [List.getElem?_set_self (by omega)]
          rfl
        unfold sgV Sg.cs
        rw [this]
        rfl
      · have : (segs.set k { segs.getD k default with ca := ca, cc := cc }).getD (j / 2) default = segs.getD (j / 2) default := by
          simp only [List.getD]
          rw [List.getElem?_set_ne (Ne.symm y)]
        unfold sgV
        rw [this]
  · rw [List.getElem?_eq_none (by rw [List.length_set, L1]; omega), List.getElem?_eq_none (by rw [L2]; omega)]
/-- The days are being copied. -/
structure CpD (w : World) (pb : Nat) (p : Pg) (na : Option Addr) (nc : Nat) (ua : Option Addr) (uc : Nat) (pa : Option Addr) (pc : Nat) (da : Option Addr) (dc : Nat) (segs : List Sg) (k : Nat) (W : World) : Prop where
  bel : Below w.heap.size w W
  box : BkP W pb #[.slice na p.names.length nc, .slice ua p.curs.length uc, .slice pa p.pool.length pc, .int .i64 p.hor, .int .i64 p.cells, .int .i64 p.slots, .int .i64 p.stack, .slice da p.days.length dc] 26
  zb : BkP W (pb + 1) #[.slice none 0 0, .slice none 0 0, .slice none 0 0, .int .i64 0, .int .i64 0, .int .i64 0, .int .i64 0, .slice none 0 0] 26
  names : OwL W w.heap.size 9 1 na p.names.length nc (stV p.names)
  curs : OwL W w.heap.size 9 1 ua p.curs.length uc (stV p.curs)
  pool : OwL W w.heap.size 3 1 pa p.pool.length pc (nuV p.pool)
  days : OwL W w.heap.size 71 2 da p.days.length dc (sgV segs)
  len : segs.length = p.days.length
  like : ∀ i, i < p.days.length → (segs.getD i default).day = (p.days.getD i default).day ∧ (segs.getD i default).code = (p.days.getD i default).code
  old : ∀ i, k ≤ i → i < p.days.length → segs.getD i default = p.days.getD i default
  new : ∀ i, i < k → i < p.days.length → OwL W w.heap.size 68 3 (segs.getD i default).ca (segs.getD i default).code.length (segs.getD i default).cc (inW (segs.getD i default).code)
section
variable {w : World} {pb : Nat} {p : Pg} {na : Option Addr} {nc : Nat} {ua : Option Addr} {uc : Nat} {pa : Option Addr} {pc : Nat} {da : Option Addr} {dc : Nat} {segs : List Sg} {k : Nat} {W : World}
theorem CpD.lat {W' : World} (h : CpD w pb p na nc ua uc pa pc da dc segs k W) (b : Below W.heap.size W W') : CpD w pb p na nc ua uc pa pc da dc segs k W' :=
  ⟨h.bel.trans (b.mono h.bel.size), h.box.lat b, h.zb.lat b, h.names.lat b, h.curs.lat b, h.pool.lat b, h.days.lat b, h.len, h.like, h.old, fun i a c => (h.new i a c).lat b⟩
theorem CpD.next {g : Nat} (h : CpD w pb p na nc ua uc pa pc (some ⟨g, 0, none⟩) dc segs k W) (hk : k < p.days.length) {ca : Option Addr} {cc : Nat} (hc : OwL W w.heap.size 68 3 ca (segs.getD k default).code.length cc (inW (segs.getD k default).code)) : CpD w pb p na nc ua uc pa pc (some ⟨g, 0, none⟩) dc (segs.set k { segs.getD k default with ca := ca, cc := cc }) (k + 1) (W.setCell ⟨g, k * 2 + 1, none⟩ (.slice ca (segs.getD k default).code.length cc)) := by
  have hk2 : k < segs.length := by rw [h.len]; exact hk
  obtain ⟨⟨cur, bk, _⟩, gB, gl, _, _, _⟩ := own_row (by omega) (fun i _ => sgV_len segs i) h.days
  have gs : ∀ i, i ≠ k → (segs.set k { segs.getD k default with ca := ca, cc := cc }).getD i default = segs.getD i default := fun i hi => by
    simp only [List.getD]
    rw [List.getElem?_set_ne (Ne.symm hi)]
  have gk : (segs.set k { segs.getD k default with ca := ca, cc := cc }).getD k default = { segs.getD k default with ca := ca, cc := cc } := by
    simp only [List.getD]
    rw [List.getElem?_set_self hk2]
    rfl
  refine ⟨h.bel.setCell (by exact gB) _, h.box.other _ _ _ (bk_ne bk h.box (by decide)), h.zb.other _ _ _ (bk_ne bk h.zb (by decide)), h.names.set bk (by decide) _ _, h.curs.set bk (by decide) _ _, h.pool.set bk (by decide) _ _, ?_, by rw [List.length_set]; exact h.len, ?_, ?_, ?_⟩
  · have := (World.ownsRow.stored h.days (k * 2 + 1) (.slice ca (segs.getD k default).code.length cc)).1
    rw [sg_set h.len hk] at this
    exact this
  · intro i hi
    by_cases z : i = k
    · subst z; rw [gk]; exact h.like i hi
    · rw [gs i z]; exact h.like i hi
  · intro i h1 h2
    rw [gs i (by omega)]
    exact h.old i (by omega) h2
  · intro i h1 h2
    by_cases z : i = k
    · subst z; rw [gk]; exact hc.set bk (by decide) _ _
    · rw [gs i z]; exact (h.new i (by omega) h2).set bk (by decide) _ _
end
theorem cp_pv {w : World} {p : Pg} {na : Option Addr} {nc : Nat} {ua : Option Addr} {uc : Nat} {pa : Option Addr} {pc : Nat} {da : Option Addr} {dc : Nat} {segs : List Sg} {W V : World} (c : CpD w w.heap.size p na nc ua uc pa pc da dc segs p.days.length W) (h : PV w p) (hV : ∀ k, w.heap.size ≤ k → k < W.heap.size → k ≠ w.heap.size + 1 → V.heap[k]? = W.heap[k]?) : PV V { p with na := na, nc := nc, ua := ua, uc := uc, pa := pa, pc := pc, da := da, dc := dc, days := segs } := by
  have own : ∀ {t : TypeId} {k : Nat} {a : Option Addr} {n cc : Nat} {U : Nat → List Value}, OwL W w.heap.size t k a n cc U → t ≠ 26 → ∀ g, Value.ownBlock (.slice a n cc) = some g → V.heap[g]? = W.heap[g]? := by
    intro t k a n cc U o ht g hg
    have lt := World.ownsRow.lt o g hg
    exact hV g lt.1 lt.2 (fun z => own_neB o c.zb ht (by rw [hg, z]))
  obtain ⟨d1, r1⟩ := c.names.list (by omega) (fun _ => rfl)
  obtain ⟨d2, r2⟩ := c.curs.list (by omega) (fun _ => rfl)
  obtain ⟨d3, r3⟩ := c.pool.list (by omega) (fun _ => rfl)
  obtain ⟨d4, r4⟩ := c.days.list (by omega) (fun i => sgV_len segs i)
  refine ⟨⟨d1, rfl, h.names.2.2.1, h.names.2.2.2.1, r1 V (own c.names (by decide))⟩, ⟨d2, rfl, h.curs.2.2.1, h.curs.2.2.2.1, r2 V (own c.curs (by decide))⟩, ⟨d3, rfl, h.pool.2.2.1, h.pool.2.2.2.1, r3 V (own c.pool (by decide))⟩, h.hor, h.cells, h.slots, h.stack, ?_⟩
  have hl := c.len
  refine ⟨by simp only; rw [hl]; exact d4, rfl, by simp only; rw [hl]; exact h.days.2.2.1, ?_, by simp only; rw [hl]; exact r4 V (own c.days (by decide))⟩
  intro s hs
  obtain ⟨i, hi, rfl⟩ := List.getElem_of_mem hs
  have hi2 : i < p.days.length := by rw [← hl]; exact hi
  have ge : segs[i] = segs.getD i default := by simp [List.getD, hi]
  rw [ge]
  obtain ⟨q1, q2⟩ := c.like i hi2
  have g0 := h.days.2.2.2.1 _ (sg_mem hi2)
  have o := c.new i hi2 hi2
  obtain ⟨d5, r5⟩ := o.list (by omega) (fun j => inW_len _ j)
  exact ⟨by rw [q1]; exact g0.1, d5, rfl, by rw [q2]; exact g0.2.2.2.1, by rw [q2]; exact g0.2.2.2.2.1, r5 V (own o (by decide))⟩
theorem cp_key {w : World} {pb : Nat} {p : Pg} {na : Option Addr} {nc : Nat} {ua : Option Addr} {uc : Nat} {pa : Option Addr} {pc : Nat} {da : Option Addr} {dc : Nat} {segs : List Sg} {W : World} {k : Nat} (c : CpD w pb p na nc ua uc pa pc da dc segs k W) : Pg.key { p with na := na, nc := nc, ua := ua, uc := uc, pa := pa, pc := pc, da := da, dc := dc, days := segs } = p.key := by
  have e : segs.map Sg.key = p.days.map Sg.key := by
    apply List.ext_getElem?
    intro i
    rw [List.getElem?_map, List.getElem?_map]
    by_cases hi : i < p.days.length
    · have hi1 : i < segs.length := by rw [c.len]; exact hi
      obtain ⟨q1, q2⟩ := c.like i hi
      have g1 : segs[i]? = some (segs.getD i default) := by simp [List.getD, hi1]
      have g2 : p.days[i]? = some (p.days.getD i default) := by simp [List.getD, hi]
      rw [g1, g2]
      simp only [Option.map_some, Sg.key, q1, q2]
    · rw [List.getElem?_eq_none (by rw [c.len]; omega), List.getElem?_eq_none (by omega)]
  unfold Pg.key
  simp only [e]
/-- Eight cells of a block are stored. -/
theorem set8 {W : World} {b : Nat} {t : TypeId} {c0 c1 c2 c3 c4 c5 c6 c7 : Value} (h : BkP W b #[c0, c1, c2, c3, c4, c5, c6, c7] t) (v0 v1 v2 v3 v4 v5 v6 v7 : Value) : BkP ((((((((W.setCell ⟨b, 0, none⟩ v0).setCell ⟨b, 1, none⟩ v1).setCell ⟨b, 2, none⟩ v2).setCell ⟨b, 3, none⟩ v3).setCell ⟨b, 4, none⟩ v4).setCell ⟨b, 5, none⟩ v5).setCell ⟨b, 6, none⟩ v6).setCell ⟨b, 7, none⟩ v7) b #[v0, v1, v2, v3, v4, v5, v6, v7] t ∧ (∀ k, k ≠ b → ((((((((W.setCell ⟨b, 0, none⟩ v0).setCell ⟨b, 1, none⟩ v1).setCell ⟨b, 2, none⟩ v2).setCell ⟨b, 3, none⟩ v3).setCell ⟨b, 4, none⟩ v4).setCell ⟨b, 5, none⟩ v5).setCell ⟨b, 6, none⟩ v6).setCell ⟨b, 7, none⟩ v7).heap[k]? = W.heap[k]?) ∧ ((((((((W.setCell ⟨b, 0, none⟩ v0).setCell ⟨b, 1, none⟩ v1).setCell ⟨b, 2, none⟩ v2).setCell ⟨b, 3, none⟩ v3).setCell ⟨b, 4, none⟩ v4).setCell ⟨b, 5, none⟩ v5).setCell ⟨b, 6, none⟩ v6).setCell ⟨b, 7, none⟩ v7).heap.size = W.heap.size := by
  refine ⟨?_, fun k hk => ?_, by simp only [set_size]⟩
  · have := (((((((h.set2 0 v0 (by simp)).set2 1 v1 (by simp)).set2 2 v2 (by simp)).set2 3 v3 (by simp)).set2 4 v4 (by simp)).set2 5 v5 (by simp)).set2 6 v6 (by simp)).set2 7 v7 (by simp)
    simpa using this
  · simp only [bk_block hk]
/-- What copyProgram answers. -/
def CpE (w : World) (p : Pg) (e : Ending) (w' : World) : Prop := ∃ p' : Pg, e = .returned p'.agg ∧ p'.key = p.key ∧ Below w.heap.size w w' ∧ ∀ V, (∀ k, w.heap.size ≤ k → k < w'.heap.size → V.heap[k]? = w'.heap[k]?) → PV V p'
set_option maxRecDepth 100000 in
set_option maxHeartbeats 3200000 in
theorem copyProgram_any {w : World} {p : Pg} (h : PV w p) : Calls Tryz.prog 27 #[p.agg] w fun e w' => CpE w p e w' := by
  have zz : ∃ z : Array Value, Tryz.prog.info? 26 = Tryz.prog.info? 26 := ⟨#[], rfl⟩
  obtain ⟨W0, hW0⟩ : ∃ W, (w.alloc p.box).alloc (.cells #[.slice none 0 0, .slice none 0 0, .slice none 0 0, .int .i64 0, .int .i64 0, .int .i64 0, .int .i64 0, .slice none 0 0] 26) = W := ⟨_, rfl⟩
  have B0 : Below w.heap.size w W0 := by rw [← hW0]; exact (allocBP w p.box).trans ((allocBP (w.alloc p.box) _).mono (by simp))
  have P0 : BkP W0 w.heap.size #[.slice p.na p.names.length p.nc, .slice p.ua p.curs.length p.uc, .slice p.pa p.pool.length p.pc, .int .i64 p.hor, .int .i64 p.cells, .int .i64 p.slots, .int .i64 p.stack, .slice p.da p.days.length p.dc] 26 := by rw [← hW0]; exact BkP.lat (heapN w p.box) (allocBP _ _)
  have Z0 : BkP W0 (w.heap.size + 1) #[.slice none 0 0, .slice none 0 0, .slice none 0 0, .int .i64 0, .int .i64 0, .int .i64 0, .int .i64 0, .slice none 0 0] 26 := by
    rw [← hW0]
    have := heapN (w.alloc p.box) (.cells #[.slice none 0 0, .slice none 0 0, .slice none 0 0, .int .i64 0, .int .i64 0, .int .i64 0, .int .i64 0, .slice none 0 0] 26)
    rw [show (w.alloc p.box).heap.size = w.heap.size + 1 by simp] at this
    exact this
  have hP := h.later B0
  have SZ : w.heap.size ≤ W0.heap.size := B0.size
  have CE := Lib.hid (p := ∀ V, Below W0.heap.size W0 V → V.cell? ⟨w.heap.size, 0, none⟩ = some (.slice p.na p.names.length p.nc) ∧ V.cell? ⟨w.heap.size, 1, none⟩ = some (.slice p.ua p.curs.length p.uc) ∧ V.cell? ⟨w.heap.size, 2, none⟩ = some (.slice p.pa p.pool.length p.pc) ∧ V.frozen? ⟨w.heap.size, 0, none⟩ = false ∧ V.frozen? ⟨w.heap.size, 1, none⟩ = false ∧ V.frozen? ⟨w.heap.size, 2, none⟩ = false) (fun V b => by
    have q := P0.lat b
    exact ⟨by rw [q.cell]; rfl, by rw [q.cell]; rfl, by rw [q.cell]; rfl, q.frozen 0, q.frozen 1, q.frozen 2⟩)
  have KN := Lib.hid (fun V (b : Below W0.heap.size W0 V) => cloneS_sl (B := w.heap.size) (hP.names.later b) (Nat.le_trans SZ b.size))
  have KU := Lib.hid (fun V (b : Below W0.heap.size W0 V) => cloneS_sl (B := w.heap.size) (hP.curs.later b) (Nat.le_trans SZ b.size))
  have KP := Lib.hid (fun V (b : Below W0.heap.size W0 V) => cloneN_sl (B := w.heap.size) (hP.pool.later b) (Nat.le_trans SZ b.size))
  have E3 := Lib.hid (p := ∀ w1 w2 w3, Below W0.heap.size W0 w1 → Below w1.heap.size w1 w2 → Below w2.heap.size w2 w3 → ∀ na nc ua uc pa pc, OwL w1 w.heap.size 9 1 na p.names.length nc (stV p.names) → OwL w2 w.heap.size 9 1 ua p.curs.length uc (stV p.curs) → OwL w3 w.heap.size 3 1 pa p.pool.length pc (nuV p.pool) → Cp3 w w.heap.size p na nc ua uc pa pc (((w3.setCell ⟨w.heap.size, 0, none⟩ (.slice na p.names.length nc)).setCell ⟨w.heap.size, 1, none⟩ (.slice ua p.curs.length uc)).setCell ⟨w.heap.size, 2, none⟩ (.slice pa p.pool.length pc)) ∧ BkP (((w3.setCell ⟨w.heap.size, 0, none⟩ (.slice na p.names.length nc)).setCell ⟨w.heap.size, 1, none⟩ (.slice ua p.curs.length uc)).setCell ⟨w.heap.size, 2, none⟩ (.slice pa p.pool.length pc)) (w.heap.size + 1) #[.slice none 0 0, .slice none 0 0, .slice none 0 0, .int .i64 0, .int .i64 0, .int .i64 0, .int .i64 0, .slice none 0 0] 26) (fun w1 w2 w3 b1 b2 b3 na nc ua uc pa pc o1 o2 o3 => by
    have b := (b1.trans (b2.mono b1.size)).trans (b3.mono (b1.trans (b2.mono b1.size)).size)
    have q := P0.lat b
    have q1 := q.set2 0 (.slice na p.names.length nc) (by simp)
    have q2 := q1.set2 1 (.slice ua p.curs.length uc) (by simp)
    have q3 := q2.set2 2 (.slice pa p.pool.length pc) (by simp)
    have bel := B0.trans (b.mono B0.size)
    have z := Z0.lat b
    exact ⟨⟨((bel.setCell (by exact Nat.le_refl _) _).setCell (by exact Nat.le_refl _) _).setCell (by exact Nat.le_refl _) _, by simpa using q3, ((((o1.lat b2).lat b3).set q (by decide) _ _).set q1 (by decide) _ _).set q2 (by decide) _ _, (((o2.lat b3).set q (by decide) _ _).set q1 (by decide) _ _).set q2 (by decide) _ _, ((o3.set q (by decide) _ _).set q1 (by decide) _ _).set q2 (by decide) _ _⟩, ((z.other _ _ _ (by omega)).other _ _ _ (by omega)).other _ _ _ (by omega)⟩)
  have HW := Lib.hid hW0
  have HH := Lib.hid h
  clear zz P0 Z0 hW0 h hP B0
  unfold Pg.agg Pg.box at *
  obtain ⟨na, nc, names, ua, uc, curs, pa, pc, pool, hor, cells, slots, stack, da, dc, days⟩ := p
  simp only at *
  go_enter Tryz.func27, Tryz.ntmps27
  go_wp2
  rw [HW.out]
  go_cut [] (fun wx => ∃ na' nc' ua' uc' pa' pc', Cp3 w w.heap.size ⟨na, nc, names, ua, uc, curs, pa, pc, pool, hor, cells, slots, stack, da, dc, days⟩ na' nc' ua' uc' pa' pc' wx ∧ BkP wx (w.heap.size + 1) #[.slice none 0 0, .slice none 0 0, .slice none 0 0, .int .i64 0, .int .i64 0, .int .i64 0, .int .i64 0, .slice none 0 0] 26)
  case first =>
    obtain ⟨x0, x1, x2, x3, x4, x5⟩ := CE.out W0 (Below.refl _ _)
    have M1 : True := trivial
    have M2 : True := trivial
    go_region_with (first
      | (go_at_call 40; have mm := M1; refine (KN.out _ (by first | exact Below.refl _ _ | exact drew1 _)).mono ?_; rintro e w1 ⟨na1, nc1, rfl, o1, b1⟩; clear M1 mm; have B1 := Lib.hid (p := Below W0.heap.size W0 w1) (by first | exact b1 | exact (drew1 W0).trans b1); obtain ⟨y0, y1, y2, y3, y4, y5⟩ := CE.out w1 B1.out; clear b1)
      | (go_at_call 40; have mm := M2; refine (KU.out _ B1.out).mono ?_; rintro e w2 ⟨ua1, uc1, rfl, o2, b2⟩; clear M2 mm; have B2 := Lib.hid b2; have B12 := Lib.hid (p := Below W0.heap.size W0 w2) (B1.out.trans (b2.mono B1.out.size)); obtain ⟨z0, z1, z2, z3, z4, z5⟩ := CE.out w2 B12.out; clear b2)
      | (go_at_call 41; refine (KP.out _ B12.out).mono ?_; rintro e w3 ⟨pa1, pc1, rfl, o3, b3⟩; have B3 := Lib.hid b3; obtain ⟨t0, t1, t2, t3, t4, t5⟩ := CE.out w3 (B12.out.trans (b3.mono B12.out.size)); clear b3))
    all_goals
      go_wp2
      go_meet
      case rel => exact ⟨na1, nc1, ua1, uc1, pa1, pc1, E3.out w1 w2 w3 B1.out B2.out B3.out na1 nc1 ua1 uc1 pa1 pc1 o1.out o2.out o3.out⟩
  case rest =>
    obtain ⟨na', nc', ua', uc', pa', pc', c3, zb⟩ := hcut
    have hd := HH.out.days
    simp only at hd
    have K4 := Lib.hid (cloneG_sl (B := w.heap.size) hd.1 hd.2.2.1 (hd.2.2.2.2.later c3.bel) c3.bel.size)
    have x7 : wc.cell? ⟨w.heap.size, 7, none⟩ = some (.slice da days.length dc) := by rw [c3.box.cell]; rfl
    have E4 := Lib.hid (p := ∀ w4 da' dc', Below wc.heap.size wc w4 → OwL w4 w.heap.size 71 2 da' days.length dc' (sgV days) → w4.frozen? ⟨w.heap.size, 7, none⟩ = false ∧ w4.cell? ⟨w.heap.size, 7, none⟩ = some (.slice da days.length dc) ∧ CpD w w.heap.size ⟨na, nc, names, ua, uc, curs, pa, pc, pool, hor, cells, slots, stack, da, dc, days⟩ na' nc' ua' uc' pa' pc' da' dc' days 0 (w4.setCell ⟨w.heap.size, 7, none⟩ (.slice da' days.length dc'))) (fun w4 da' dc' b o => by
      have q := c3.box.lat b
      have q1 := q.set2 7 (.slice da' days.length dc') (by simp)
      refine ⟨q.frozen 7, by rw [q.cell]; rfl, ⟨(c3.bel.trans (b.mono c3.bel.size)).setCell (by exact Nat.le_refl _) _, by simpa using q1, (zb.lat b).other _ _ _ (by omega), (c3.names.lat b).set q (by decide) _ _, (c3.curs.lat b).set q (by decide) _ _, (c3.pool.lat b).set q (by decide) _ _, o.set q (by decide) _ _, rfl, fun i _ => ⟨rfl, rfl⟩, fun _ _ _ => rfl, fun i hi => by omega⟩⟩)
    clear c3 zb
    go_wp2_with (go_at_call 42; refine K4.out.mono ?_; rintro e w4 ⟨da4, dc4, rfl, o4, b4⟩; obtain ⟨y1, y2, c4⟩ := E4.out w4 da4 dc4 b4 o4.out; have C4 := Lib.hid c4; clear b4 o4 c4)
    have GV0 := Lib.hid hd.2.2.2.1
    have nd := hd.2.2.1
    clear E4 K4 CE KN KU KP E3 x7 y1 y2 hd
    go_loopw [23] (fun t wr => ∃ (k : Nat) (segs : List Sg), k ≤ days.length ∧ t = .int .i64 (k : Int) ∧ RowKit.Hid (CpD w w.heap.size ⟨na, nc, names, ua, uc, curs, pa, pc, pool, hor, cells, slots, stack, da, dc, days⟩ na' nc' ua' uc' pa' pc' da4 dc4 segs k wr)) (fun t _ => days.length - (intOf t).toNat)
    case atStart => exact ⟨0, days, by omega, rfl, C4.out⟩
    case round =>
      clear C4
      rename World => wr
      obtain ⟨k, segs, hk, rfl, hC⟩ := hrel
      have c := hC.out
      by_cases hlt : k < days.length
      · have kc : (k : Int) < (days.length : Int) := by omega
        have k0 : ¬ (k : Int) < 0 := by omega
        have ks : IntKind.i64.wrap ((k : Int) + 1) = (k : Int) + 1 := by simp [IntKind.wrap, IntKind.bits, IntKind.signed]; omega
        obtain ⟨g, rfl⟩ : ∃ g, da4 = some ⟨g, 0, none⟩ := by
          rcases c.days.2 with ⟨_, z⟩ | ⟨g, cap, cur, e, _⟩
          · simp only at z; omega
          · injection e with e; exact ⟨g, e⟩
        have so := c.old k (Nat.le_refl _) hlt
        simp only at so
        have x7 : wr.cell? ⟨w.heap.size, 7, none⟩ = some (.slice (some ⟨g, 0, none⟩) days.length dc4) := by rw [c.box.cell]; rfl
        obtain ⟨_, gB, gl, _, _, gc⟩ := own_row (by omega) (fun i _ => sgV_len segs i) c.days
        have g1 : wr.cell? ⟨g, k * 2 + 1, none⟩ = some (.slice (segs.getD k default).ca (segs.getD k default).code.length (segs.getD k default).cc) := by
          have q := gc k hlt 1 (by omega)
          rw [Nat.zero_add] at q
          exact q
        have ir : IR wr (segs.getD k default).ca (segs.getD k default).code.length (segs.getD k default).cc (segs.getD k default).code := by rw [so]; exact (GV0.out _ (sg_mem hlt)).2.later c.bel
        have KI := Lib.hid (fun V (b : Below wr.heap.size wr V) => cloneI_sl (B := w.heap.size) (ir.later b) (Nat.le_trans c.bel.size b.size))
        have NX := Lib.hid (p := ∀ V, Below wr.heap.size wr V → ∀ ca cc, OwL V w.heap.size 68 3 ca (segs.getD k default).code.length cc (inW (segs.getD k default).code) → V.cell? ⟨w.heap.size, 7, none⟩ = some (.slice (some ⟨g, 0, none⟩) days.length dc4) ∧ V.cell? ⟨g, k * 2 + 1, none⟩ = some (.slice (segs.getD k default).ca (segs.getD k default).code.length (segs.getD k default).cc) ∧ V.frozen? ⟨g, k * 2 + 1, none⟩ = false ∧ RowKit.Hid (CpD w w.heap.size ⟨na, nc, names, ua, uc, curs, pa, pc, pool, hor, cells, slots, stack, da, dc, days⟩ na' nc' ua' uc' pa' pc' (some ⟨g, 0, none⟩) dc4 (segs.set k { segs.getD k default with ca := ca, cc := cc }) (k + 1) (V.setCell ⟨g, k * 2 + 1, none⟩ (.slice ca (segs.getD k default).code.length cc)))) (fun V b ca cc o => by
          have cV := c.lat b
          obtain ⟨⟨cur, bk, _⟩, _⟩ := own_row (by omega) (fun i _ => sgV_len segs i) cV.days
          exact ⟨below_cell b x7, below_cell b g1, bk.frozen _, cV.next hlt o⟩)
        generalize segs.getD k default = sg at *
        obtain ⟨sd, sa, sc, sl⟩ := sg
        simp only at g1 KI NX
        clear hC c so gc ir
        go_wp2
        go_region_with (go_at_call 43; refine (KI.out _ (by first | exact Below.refl _ _ | exact drew1 _)).mono ?_; rintro e w6 ⟨ca6, cc6, rfl, o6, b6⟩; obtain ⟨y1, y2, y3, y4⟩ := NX.out w6 (by first | exact b6 | exact (drew1 wr).trans b6) ca6 cc6 o6.out; clear b6)
        all_goals
          go_wp2
          refine ⟨⟨k + 1, _, by omega, by simp, y4⟩, ?_⟩
          simp [intOf]
          omega
      · have e : k = days.length := by omega
        subst e
        have kc : ¬ (days.length : Int) < (days.length : Int) := by omega
        obtain ⟨x0, x1, x2, x3, x4, x5, x6, x7⟩ := box_all8 c.box
        obtain ⟨z0, z1, z2, z3, z4, z5, z6, z7⟩ := box_all8 c.zb
        have f0 := c.zb.frozen 0
        have f1 := c.zb.frozen 1
        have f2 := c.zb.frozen 2
        have f3 := c.zb.frozen 3
        have f4 := c.zb.frozen 4
        have f5 := c.zb.frozen 5
        have f6 := c.zb.frozen 6
        have f7 := c.zb.frozen 7
        simp only at x0 x1 x2 x3 x4 x5 x6 x7
        obtain ⟨s1, s2, s3⟩ := set8 c.zb (.slice na' names.length nc') (.slice ua' curs.length uc') (.slice pa' pool.length pc') (.int .i64 hor) (.int .i64 cells) (.int .i64 slots) (.int .i64 stack) (.slice da4 days.length dc4)
        have S1 := Lib.hid s1
        have S2 := Lib.hid s2
        have S3 := Lib.hid s3
        have CC := Lib.hid c
        clear c s1 s2 s3 hC
        go_wp2
        refine bodyPost_ret (v := .agg #[.slice na' names.length nc', .slice ua' curs.length uc', .slice pa' pool.length pc', .int .i64 hor, .int .i64 cells, .int .i64 slots, .int .i64 stack, .slice da4 days.length dc4]) ?r rfl ?s
        case r => exact results_cell_row rfl _ _ (w.heap.size + 1) 26 _ (0, 0) _ rfl S1.out Tryz.underlying26 rfl (by kernel_rfl)
        case s =>
          refine ⟨{ (⟨na, nc, names, ua, uc, curs, pa, pc, pool, hor, cells, slots, stack, da, dc, days⟩ : Pg) with na := na', nc := nc', ua := ua', uc := uc', pa := pa', pc := pc', da := da4, dc := dc4, days := segs }, ?_, cp_key CC.out, ?_, ?_⟩
          · have := CC.out.len
            simp only at this
            simp only [Pg.agg, this]
          · have b := CC.out.bel
            exact (((((((b.setCell (by exact Nat.le_succ _) _).setCell (by exact Nat.le_succ _) _).setCell (by exact Nat.le_succ _) _).setCell (by exact Nat.le_succ _) _).setCell (by exact Nat.le_succ _) _).setCell (by exact Nat.le_succ _) _).setCell (by exact Nat.le_succ _) _).setCell (by exact Nat.le_succ _) _
          · intro V hV
            refine cp_pv CC.out HH.out (fun k h1 h2 h3 => ?_)
            rw [hV k h1 (by rw [S3.out]; exact h2), S2.out k h3]
end Go.Proofs.YtpfjnnkjoabgbaaGreatDoor

namespace Go.Proofs.YtpfjnnkjoabgbaaGreatDoor
open Go.RowKit
set_option linter.unusedVariables false
set_option linter.unusedSimpArgs false
/-- What New answers (B: the heap's size ahead of it). -/
structure NwE (w : World) (p : Pg) (e : Ending) (w' : World) : Prop where
  bel : Below w.heap.size w w'
  bad : (vfyA p).1 ≠ 0 → e = .returned (.tuple #[.pointer none, .int .i64 (vfyA p).1])
  ok : (vfyA p).1 = 0 → ∃ mb p' cev D, e = .returned (.tuple #[.pointer (some ⟨mb, 0, none⟩), .int .i64 0]) ∧ p'.key = p.key ∧ McV D w' mb p' (vfyA p').2.2.2 cev (.slice none 0 0) p'.born ∧ w.heap.size ≤ mb ∧ (∀ g, cev.ownBlock = some g → w.heap.size ≤ g) ∧ (∀ k, D k → w.heap.size ≤ k)
theorem born_cells {p : Pg} (h : 0 ≤ p.cells) (w : World) (B : Nat) (hB : B ≤ w.heap.size) (h2 : p.cells ≤ 32768) : OwZ (w.alloc (.cells (madeCells #[.int .i64 0] p.cells.toNat) 3)) B (.slice (some ⟨w.heap.size, 0, none⟩) p.cells.toNat p.cells.toNat) (List.replicate p.cells.toNat 0) := by
  refine ⟨by simp [zcs], .inr ⟨w.heap.size, p.cells.toNat, _, by simp, hB, heapN _ _, by simp, by unfold maxLen; omega, by simp [madeCells], ?_⟩⟩
  simp only [List.length_replicate, Nat.mul_one]
  apply List.ext_getElem?
  intro i
  by_cases hi : i < p.cells.toNat
  · rw [List.getElem?_take_of_lt hi]
    simp [madeCells, zcs, hi, Nat.mod_one]
  · rw [List.getElem?_eq_none (by simp [madeCells]; omega), List.getElem?_eq_none (by simp [zcs]; omega)]
/-- A machine that was made. -/
theorem born_mc {w w2 : World} {p p' : Pg} (hv : (vfyA p).1 = 0) (hk : p'.key = p.key) (h : PV w p) (bel : Below w.heap.size w w2) (pv : ∀ V, (∀ k, w.heap.size ≤ k → k < w2.heap.size → V.heap[k]? = w2.heap[k]?) → PV V p') (w3 : World) (b : Below w2.heap.size w2 w3) (cb : Nat) (hc : OwZ w3 0 (.slice (some ⟨cb, 0, none⟩) p.cells.toNat p.cells.toNat) (List.replicate p.cells.toNat 0)) (hcb : cb < w.heap.size ∨ w2.heap.size ≤ cb) (mb : Nat) (hm : BkP w3 mb (mArr p' (vfyA p).2.2.2 0 0 (.slice (some ⟨cb, 0, none⟩) p.cells.toNat p.cells.toNat) (.slice none 0 0) 0 0) 75) (gm : w2.heap.size ≤ mb) : McV (fun k => w.heap.size ≤ k ∧ k < w2.heap.size) w3 mb p' (vfyA p').2.2.2 (.slice (some ⟨cb, 0, none⟩) p.cells.toNat p.cells.toNat) (.slice none 0 0) p'.born := by
  obtain ⟨n1, n2, n3, n4, n5, n6, n7, n8, hcan⟩ := nds_of hv
  have ev := vfyA_keyM hk
  have ec : p'.cells = p.cells := congrArg (fun k => k.2.2.2.2.1) hk
  have eh : p'.hor = p.hor := congrArg (fun k => k.2.2.2.1) hk
  have sz := b.size
  refine ⟨?_, fun k hkk => Nat.lt_of_lt_of_le hkk.2 sz, fun V a => pv V (fun k h1 h2 => (a k ⟨h1, h2⟩).trans (b.block k h2)), ?_, ⟨[], ⟨rfl, by simp [Pg.born], by simp, .inl ⟨rfl, rfl⟩⟩⟩, fun z => by have := z.2; omega, ?_, fun g hg => by simp [Value.ownBlock] at hg, ?_⟩
  · rw [ev]; exact hm
  · refine .inr ?_
    show OwZ w3 0 _ (List.replicate p'.cells.toNat 0)
    rw [ec]
    exact hc
  · intro g hg z
    simp only [Value.ownBlock, Option.some.injEq] at hg
    subst hg
    have := z.1
    have := z.2
    omega
  · rw [ev]
    exact born_ok (by rw [eh]; exact n4) (by rw [ec]; exact n6) n1
theorem make_intN (n : Nat) (hn : n ≤ 262144) (W : World) : (Instr.makeSlice 23 (.int .i64 (n : Int)) (.int .i64 (n : Int))).run Tryz.prog W = .ok (.slice (some ⟨W.heap.size, 0, none⟩) n n) (W.alloc (.cells (madeCells #[.int .i64 0] n) 3)) := make_intsV n hn W
set_option maxRecDepth 100000 in
set_option maxHeartbeats 3200000 in
theorem new_any {w : World} {p : Pg} (h : PV w p) (hR : Rws w) (hU : Rul w) : Calls Tryz.prog 12 #[p.agg] w fun e w' => NwE w p e w' := by
  have B0 := allocBP w p.box
  have KV := Lib.hid (verify_any (h.later B0) (hR.below B0) (hU.lat B0))
  have P0 : BkP (w.alloc p.box) w.heap.size #[.slice p.na p.names.length p.nc, .slice p.ua p.curs.length p.uc, .slice p.pa p.pool.length p.pc, .int .i64 p.hor, .int .i64 p.cells, .int .i64 p.slots, .int .i64 p.stack, .slice p.da p.days.length p.dc] 26 := heapN w p.box
  have PH := Lib.hid P0
  have HB0 := Lib.hid B0
  have HH := Lib.hid h
  have pe : p.agg = p.agg := rfl
  by_cases hv : (vfyA p).1 = 0
  · obtain ⟨n1, n2, n3, n4, n5, n6, n7, n8, hcan⟩ := nds_of hv
    obtain ⟨cn, hcn⟩ : ∃ cn : Nat, p.cells = (cn : Int) := ⟨p.cells.toNat, by omega⟩
    have cnn : p.cells.toNat = cn := by omega
    have mk := make_intN cn (by omega)
    unfold vfV at KV
    rw [hv] at KV
    have FE := Lib.hid (p := ∀ mb p' cb D w', Below w.heap.size w w' → p'.key = p.key → McV D w' mb p' (vfyA p').2.2.2 (.slice (some ⟨cb, 0, none⟩) p.cells.toNat p.cells.toNat) (.slice none 0 0) p'.born → w.heap.size ≤ mb → w.heap.size ≤ cb → (∀ k, D k → w.heap.size ≤ k) → NwE w p (.returned (.tuple #[.pointer (some ⟨mb, 0, none⟩), .int .i64 0])) w') (fun mb p' cb D w' b k m g1 g2 g3 => ⟨b, fun z => absurd hv z, fun _ => ⟨mb, p', _, D, rfl, k, m, g1, fun g hg => by simp only [Value.ownBlock, Option.some.injEq] at hg; omega, g3⟩⟩)
    rw [cnn] at FE
    have CC := Lib.hid (p := ∀ V, Below w.heap.size w V → Calls Tryz.prog 27 #[p.agg] V fun e w' => ∃ p' : Pg, e = .returned (.agg #[.slice p'.na p'.names.length p'.nc, .slice p'.ua p'.curs.length p'.uc, .slice p'.pa p'.pool.length p'.pc, .int .i64 p'.hor, .int .i64 p'.cells, .int .i64 p'.slots, .int .i64 p'.stack, .slice p'.da p'.days.length p'.dc]) ∧ RowKit.Hid (p'.key = p.key ∧ Below V.heap.size V w' ∧ ∀ U, (∀ k, V.heap.size ≤ k → k < w'.heap.size → U.heap[k]? = w'.heap[k]?) → PV U p')) (fun V b => (copyProgram_any (h.later b)).mono (fun e w' ⟨p', h1, h2, h3, h4⟩ => ⟨p', h1, h2, h3, h4⟩))
    have OC := Lib.hid (p := ∀ V, OwZ (V.alloc (.cells (madeCells #[.int .i64 0] p.cells.toNat) 3)) 0 (.slice (some ⟨V.heap.size, 0, none⟩) p.cells.toNat p.cells.toNat) (List.replicate p.cells.toNat 0)) (fun V => born_cells n6 V 0 (Nat.zero_le _) n7)
    have MC := Lib.hid (p := ∀ W p' w2, Below w.heap.size w W → p'.key = p.key → Below W.heap.size W w2 → (∀ V, (∀ k, W.heap.size ≤ k → k < w2.heap.size → V.heap[k]? = w2.heap[k]?) → PV V p') → ∀ w3 cb mb, Below w2.heap.size w2 w3 → OwZ w3 0 (.slice (some ⟨cb, 0, none⟩) p.cells.toNat p.cells.toNat) (List.replicate p.cells.toNat 0) → (cb < W.heap.size ∨ w2.heap.size ≤ cb) → w.heap.size ≤ cb → BkP w3 mb (mArr p' (vfyA p).2.2.2 0 0 (.slice (some ⟨cb, 0, none⟩) p.cells.toNat p.cells.toNat) (.slice none 0 0) 0 0) 75 → w2.heap.size ≤ mb → NwE w p (.returned (.tuple #[.pointer (some ⟨mb, 0, none⟩), .int .i64 0])) w3) (fun W p' w2 bW k b2 pv w3 cb mb b3 oc oc2 oc3 bm g => by
      have b02 := bW.trans (b2.mono bW.size)
      have b03 := b02.trans (b3.mono b02.size)
      have m := born_mc hv k (h.later bW) b2 pv w3 b3 cb oc oc2 mb bm g
      have s1 := bW.size
      have s2 := b2.size
      have := FE.out mb p' cb (fun k => W.heap.size ≤ k ∧ k < w2.heap.size) w3 b03 k (by rw [cnn] at m; exact m) (by omega) oc3 (fun k hk => by have := hk.1; omega)
      exact this)
    rw [cnn] at MC OC
    obtain ⟨nn, hnn⟩ : ∃ nn, (vfyA p).2.2.2 = nn := ⟨_, rfl⟩
    rw [hnn] at MC KV
    generalize (vfyA p).2.1 = n21 at *
    generalize (vfyA p).2.2.1 = n22 at *
    clear FE P0 B0 h hR hU n1 n2 n3 n4 n5 n6 n7 n8 hcan hnn hv pe cnn
    unfold Pg.agg Pg.box at *
    obtain ⟨na, nc, names, ua, uc, curs, pa, pc, pool, hor, cells, slots, stack, da, dc, days⟩ := p
    simp only at *
    subst hcn
    obtain ⟨ns, nf, nb, nsl, nce⟩ := nn
    simp only at *
    go_enter Tryz.func12, Tryz.ntmps12
    go_wp2_with (go_at_call 26; refine KV.out.mono ?_; rintro e w1 ⟨rfl, h1⟩; have B1 := Lib.hid h1; clear h1)
    obtain ⟨W1, hW1⟩ : ∃ W, w1.alloc (.cells #[.int .i64 ns, .int .i64 nf, .int .i64 nb] 41) = W := ⟨_, rfl⟩
    have BW : Below w.heap.size w W1 := by rw [← hW1]; exact ((HB0.out.trans (B1.out.mono HB0.out.size)).trans ((allocBP w1 _).mono (HB0.out.trans (B1.out.mono HB0.out.size)).size))
    have P1 : BkP W1 w.heap.size #[.slice na names.length nc, .slice ua curs.length uc, .slice pa pool.length pc, .int .i64 hor, .int .i64 (cn : Int), .int .i64 slots, .int .i64 stack, .slice da days.length dc] 26 := by rw [← hW1]; exact (PH.out.lat B1.out).lat (allocBP _ _)
    have Q1 : BkP W1 w1.heap.size #[.int .i64 ns, .int .i64 nf, .int .i64 nb] 41 := by rw [← hW1]; exact heapN _ _
    rw [hW1]
    generalize w1.heap.size = qb at *
    have CL := Lib.hid (p := ∀ V, Below W1.heap.size W1 V → V.cell? ⟨w.heap.size, 0, none⟩ = some (.slice na names.length nc) ∧ V.cell? ⟨w.heap.size, 1, none⟩ = some (.slice ua curs.length uc) ∧ V.cell? ⟨w.heap.size, 2, none⟩ = some (.slice pa pool.length pc) ∧ V.cell? ⟨w.heap.size, 3, none⟩ = some (.int .i64 hor) ∧ V.cell? ⟨w.heap.size, 4, none⟩ = some (.int .i64 (cn : Int)) ∧ V.cell? ⟨w.heap.size, 5, none⟩ = some (.int .i64 slots) ∧ V.cell? ⟨w.heap.size, 6, none⟩ = some (.int .i64 stack) ∧ V.cell? ⟨w.heap.size, 7, none⟩ = some (.slice da days.length dc) ∧ V.cell? ⟨qb, 0, none⟩ = some (.int .i64 ns) ∧ V.cell? ⟨qb, 1, none⟩ = some (.int .i64 nf) ∧ V.cell? ⟨qb, 2, none⟩ = some (.int .i64 nb)) (fun V b => by
      obtain ⟨a0, a1, a2, a3, a4, a5, a6, a7⟩ := box_all8 (P1.lat b)
      obtain ⟨q0, q1, q2⟩ := box_all3P (Q1.lat b)
      exact ⟨a0, a1, a2, a3, a4, a5, a6, a7, q0, q1, q2⟩)
    obtain ⟨a0, a1, a2, a3, a4, a5, a6, a7, q0, q1, q2⟩ := CL.out W1 (Below.refl _ _)
    have nw1 := World.new_ne W1 ⟨w.heap.size, 0, none⟩ a0
    have nw2 := World.new_ne W1 ⟨qb, 0, none⟩ q0
    simp only at nw1 nw2
    have BWH := Lib.hid BW
    have EA := Lib.hid (p := ∀ (p' : Pg) (w2 : World), (p'.key = Pg.key (⟨na, nc, names, ua, uc, curs, pa, pc, pool, hor, (cn : Int), slots, stack, da, dc, days⟩ : Pg) ∧ Below W1.drew.heap.size W1.drew w2 ∧ ∀ U, (∀ k, W1.drew.heap.size ≤ k → k < w2.heap.size → U.heap[k]? = w2.heap[k]?) → PV U p') → NwE w (⟨na, nc, names, ua, uc, curs, pa, pc, pool, hor, (cn : Int), slots, stack, da, dc, days⟩ : Pg) (.returned (.tuple #[.pointer (some ⟨w2.heap.size + 1, 0, none⟩), .int .i64 0])) ((w2.alloc (Obj.cells (madeCells #[Value.int IntKind.i64 0] cn) 3)).alloc (Obj.cells #[.slice p'.na p'.names.length p'.nc, .slice p'.ua p'.curs.length p'.uc, .slice p'.pa p'.pool.length p'.pc, .int .i64 p'.hor, .int .i64 p'.cells, .int .i64 p'.slots, .int .i64 p'.stack, .slice p'.da p'.days.length p'.dc, .int .i64 ns, .int .i64 nf, .int .i64 nb, .int .i64 0, .int .i64 0, .slice (some ⟨w2.heap.size, 0, none⟩) cn cn, .slice none 0 0, .int .i64 0, .int .i64 0] 75))) (fun p' w2 hp => by
      have bw := BWH.out.trans ((drew1 W1).mono BWH.out.size)
      have a1 := allocBP w2 (Obj.cells (madeCells #[Value.int IntKind.i64 0] cn) 3)
      have a2 := allocBP (w2.alloc (Obj.cells (madeCells #[Value.int IntKind.i64 0] cn) 3)) (Obj.cells #[.slice p'.na p'.names.length p'.nc, .slice p'.ua p'.curs.length p'.uc, .slice p'.pa p'.pool.length p'.pc, .int .i64 p'.hor, .int .i64 p'.cells, .int .i64 p'.slots, .int .i64 p'.stack, .slice p'.da p'.days.length p'.dc, .int .i64 ns, .int .i64 nf, .int .i64 nb, .int .i64 0, .int .i64 0, .slice (some ⟨w2.heap.size, 0, none⟩) cn cn, .slice none 0 0, .int .i64 0, .int .i64 0] 75)
      have sz : (w2.alloc (Obj.cells (madeCells #[Value.int IntKind.i64 0] cn) 3)).heap.size = w2.heap.size + 1 := by simp
      have bm := heapN (w2.alloc (Obj.cells (madeCells #[Value.int IntKind.i64 0] cn) 3)) (Obj.cells #[.slice p'.na p'.names.length p'.nc, .slice p'.ua p'.curs.length p'.uc, .slice p'.pa p'.pool.length p'.pc, .int .i64 p'.hor, .int .i64 p'.cells, .int .i64 p'.slots, .int .i64 p'.stack, .slice p'.da p'.days.length p'.dc, .int .i64 ns, .int .i64 nf, .int .i64 nb, .int .i64 0, .int .i64 0, .slice (some ⟨w2.heap.size, 0, none⟩) cn cn, .slice none 0 0, .int .i64 0, .int .i64 0] 75)
      rw [sz] at bm
      exact MC.out W1.drew p' w2 bw hp.1 hp.2.1 hp.2.2 _ w2.heap.size (w2.heap.size + 1) (a1.trans (a2.mono a1.size)) ((OC.out w2).lat a2) (.inr (Nat.le_refl _)) (Nat.le_trans bw.size hp.2.1.size) bm (Nat.le_succ _))
    have EB := Lib.hid (p := ∀ (W : World), (W = (W1.alloc (Obj.cells (madeCells #[Value.int IntKind.i64 0] cn) 3)).drew ∨ W = W1.alloc (Obj.cells (madeCells #[Value.int IntKind.i64 0] cn) 3)) → ∀ (p' : Pg) (w2 : World), (p'.key = Pg.key (⟨na, nc, names, ua, uc, curs, pa, pc, pool, hor, (cn : Int), slots, stack, da, dc, days⟩ : Pg) ∧ Below W.heap.size W w2 ∧ ∀ U, (∀ k, W.heap.size ≤ k → k < w2.heap.size → U.heap[k]? = w2.heap[k]?) → PV U p') → NwE w (⟨na, nc, names, ua, uc, curs, pa, pc, pool, hor, (cn : Int), slots, stack, da, dc, days⟩ : Pg) (.returned (.tuple #[.pointer (some ⟨w2.heap.size, 0, none⟩), .int .i64 0])) (w2.alloc (Obj.cells #[.slice p'.na p'.names.length p'.nc, .slice p'.ua p'.curs.length p'.uc, .slice p'.pa p'.pool.length p'.pc, .int .i64 p'.hor, .int .i64 p'.cells, .int .i64 p'.slots, .int .i64 p'.stack, .slice p'.da p'.days.length p'.dc, .int .i64 ns, .int .i64 nf, .int .i64 nb, .int .i64 0, .int .i64 0, .slice (some ⟨W1.heap.size, 0, none⟩) cn cn, .slice none 0 0, .int .i64 0, .int .i64 0] 75))) (fun W hW p' w2 hp => by
      have bW : Below W1.heap.size W1 W := by
        rcases hW with rfl | rfl
        · exact adr _ _
        · exact allocBP _ _
      have ow : OwZ W 0 (.slice (some ⟨W1.heap.size, 0, none⟩) cn cn) (List.replicate cn 0) := by
        rcases hW with rfl | rfl
        · exact (OC.out W1).lat (drew1 _)
        · exact OC.out W1
      have sW : W1.heap.size < W.heap.size := by rcases hW with rfl | rfl <;> simp
      have bw := BWH.out.trans (bW.mono BWH.out.size)
      have a2 := allocBP w2 (Obj.cells #[.slice p'.na p'.names.length p'.nc, .slice p'.ua p'.curs.length p'.uc, .slice p'.pa p'.pool.length p'.pc, .int .i64 p'.hor, .int .i64 p'.cells, .int .i64 p'.slots, .int .i64 p'.stack, .slice p'.da p'.days.length p'.dc, .int .i64 ns, .int .i64 nf, .int .i64 nb, .int .i64 0, .int .i64 0, .slice (some ⟨W1.heap.size, 0, none⟩) cn cn, .slice none 0 0, .int .i64 0, .int .i64 0] 75)
      exact MC.out W p' w2 bw hp.1 hp.2.1 hp.2.2 _ W1.heap.size w2.heap.size a2 ((ow.lat hp.2.1).lat a2) (.inl sW) BWH.out.size (heapN _ _) (Nat.le_refl _))
    clear P1 Q1 BW hW1 KV PH HB0 HH MC OC
    go_region_held3 (fun w' => w'.cell? ⟨w.heap.size, 0, none⟩ = some (.slice na names.length nc) ∧ w'.cell? ⟨w.heap.size, 1, none⟩ = some (.slice ua curs.length uc) ∧ w'.cell? ⟨w.heap.size, 2, none⟩ = some (.slice pa pool.length pc) ∧ w'.cell? ⟨w.heap.size, 3, none⟩ = some (.int .i64 hor) ∧ w'.cell? ⟨w.heap.size, 4, none⟩ = some (.int .i64 (cn : Int)) ∧ w'.cell? ⟨w.heap.size, 5, none⟩ = some (.int .i64 slots) ∧ w'.cell? ⟨w.heap.size, 6, none⟩ = some (.int .i64 stack) ∧ w'.cell? ⟨w.heap.size, 7, none⟩ = some (.slice da days.length dc) ∧ w'.cell? ⟨qb, 0, none⟩ = some (.int .i64 ns) ∧ w'.cell? ⟨qb, 1, none⟩ = some (.int .i64 nf) ∧ w'.cell? ⟨qb, 2, none⟩ = some (.int .i64 nb))
      (go_keep)
      (first | (go_at_call 27; refine (CC.out _ (by first | exact BWH.out.trans ((drew1 W1).mono BWH.out.size) | exact BWH.out.trans ((adr W1 _).mono BWH.out.size) | exact BWH.out.trans ((allocBP W1 _).mono BWH.out.size))).mono ?_; rintro e w2 ⟨p', rfl, hp⟩; obtain ⟨b0, b1, b2, b3, b4, b5, b6, b7, r0, r1, r2⟩ := CL.out w2 (by first | exact hp.out.2.1 | exact (drew1 W1).trans hp.out.2.1 | exact (adr W1 _).trans (hp.out.2.1.mono (adr W1 _).size) | exact (allocBP W1 _).trans (hp.out.2.1.mono (allocBP W1 _).size)); have nw3 := World.new_ne w2 ⟨w.heap.size, 0, none⟩ b0; have nw4 := World.new_ne w2 ⟨qb, 0, none⟩ r0; simp only at nw3 nw4))
    all_goals go_wp2
    all_goals go_ret2
    all_goals first
      | exact EA.out p' w2 hp.out
      | exact EB.out _ (.inl rfl) p' w2 hp.out
      | exact EB.out _ (.inr rfl) p' w2 hp.out
  · have z : ((vfyA p).1 != 0) = true := by simpa using hv
    have FE := Lib.hid (p := ∀ w', Below w.heap.size w w' → NwE w p (.returned (.tuple #[.pointer none, .int .i64 (vfyA p).1])) w') (fun w' b => ⟨b, fun _ => rfl, fun z => absurd z hv⟩)
    unfold vfV at KV
    generalize (vfyA p).2.2.2 = nn at *
    generalize (vfyA p).2.1 = n21 at *
    generalize (vfyA p).2.2.1 = n22 at *
    generalize (vfyA p).1 = n23 at *
    unfold Pg.agg Pg.box at *
    obtain ⟨na, nc, names, ua, uc, curs, pa, pc, pool, hor, cells, slots, stack, da, dc, days⟩ := p
    simp only at *
    clear P0 B0 h hR hU hv pe
    go_enter Tryz.func12, Tryz.ntmps12
    go_wp2_with (go_at_call 26; refine KV.out.mono ?_; rintro e w1 ⟨rfl, h1⟩; have B1 := Lib.hid h1; clear h1)
    go_ret2
    exact FE.out _ ((HB0.out.trans (B1.out.mono HB0.out.size)).trans ((allocBP w1 _).mono (HB0.out.trans (B1.out.mono HB0.out.size)).size))
end Go.Proofs.YtpfjnnkjoabgbaaGreatDoor
