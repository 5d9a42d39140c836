import Derived.Test.YtccjeipkljdhdaaGreatDoorXAU
import Derived.Test.YtccjeipkljdhdaaGreatDoorXAY
import Derived.Test.YtccjeipkljdhdaaGreatDoorXBC
import Derived.Test.YtccjeipkljdhdaaGreatDoorXAK
import Derived.Lib.AppendStr
import Derived.Lib.AppendIntMem
import Derived.Lib.OthersKept
import Derived.Lib.ItoaLen
import Derived.Lib.ConvBytes
import Derived.Laws.AppendOwn
import Derived.Laws.IdiomStrings
import Derived.Test.YtccjeipkljdhdaaGreatDoorXAL
namespace Go.Proofs.YtccjeipkljdhdaaGreatDoor
open Go.RowKit
set_option linter.unusedVariables false
set_option linter.unusedSimpArgs false

theorem getD_keyQ (l : List Sg) (i : Nat) : (l.getD i default).key = (l.map Sg.key).getD i (Sg.key default) := by
  rw [List.getD_eq_getElem?_getD, List.getD_eq_getElem?_getD, List.getElem?_map]
  cases l[i]? <;> rfl
theorem sg_partsQ {s t : Sg} (h : s.key = t.key) : s.day = t.day ∧ s.code = t.code := by
  unfold Sg.key at h
  simp only [Prod.mk.injEq] at h
  exact h
theorem at_keyQ {l m : List Sg} (h : l.map Sg.key = m.map Sg.key) (i : Nat) : (l.getD i default).day = (m.getD i default).day ∧ (l.getD i default).code = (m.getD i default).code := sg_partsQ (by rw [getD_keyQ, getD_keyQ, h])
theorem len_keyQ {l m : List Sg} (h : l.map Sg.key = m.map Sg.key) : l.length = m.length := by
  have := congrArg List.length h
  simpa using this
theorem tot_keyQ {l m : List Sg} (h : l.map Sg.key = m.map Sg.key) (k : Nat) : totN l k = totN m k := by
  have e : ∀ l : List Sg, totN l k = (((l.map Sg.key).take k).map (fun s => s.2.length)).sum := fun l => by
    unfold totN
    rw [← List.map_take, List.map_map]
    rfl
  rw [e l, e m, h]
theorem mk_keyQ {l m : List Sg} (h : l.map Sg.key = m.map Sg.key) (op : Int) (bs : List Bool) : mkAll op l bs = mkAll op m bs := by
  have e : ∀ l : List Sg, mkAll op l bs = (l.map Sg.key).foldl (fun b s => s.2.foldl (mkB op) b) bs := fun l => by
    unfold mkAll
    rw [List.foldl_map]
    rfl
  rw [e l, e m, h]
theorem pre_keyQ {l m : List Sg} (h : l.map Sg.key = m.map Sg.key) (i : Nat) : preD l i = preD m i := by
  cases i with
  | zero => rfl
  | succ i => exact (at_keyQ h i).1
theorem can_key1Q {p q : Pg} (h : q.key = p.key) (c : canP q) : canP p := by
  obtain ⟨e0, e1, e2, e3, e4, e5, e6, e7⟩ := key_of h
  obtain ⟨na, nc, names, ua, uc, curs, pa, pc, pool, hor, cells, slots, stack, da, dc, days⟩ := p
  obtain ⟨na', nc', names', ua', uc', curs', pa', pc', pool', hor', cells', slots', stack', da', dc', days'⟩ := q
  simp only at e0 e1 e2 e3 e4 e5 e6 e7
  subst e0 e1 e2 e3 e4 e5 e6
  obtain ⟨h1, h2, ⟨h3, h4⟩, h5, h6⟩ := c
  simp only at h3 h4 h5 h6
  refine ⟨h1, h2, ⟨fun i hi => ?_, ?_⟩, fun i hi => ?_, ?_⟩
  · have z := h3 i (by rw [len_keyQ e7]; exact hi)
    unfold dayI at z ⊢
    simp only
    rw [← pre_keyQ e7 i, ← (at_keyQ e7 i).1]
    exact z
  · simp only
    rw [← len_keyQ e7, ← tot_keyQ e7]
    exact h4
  · have z := h5 i (by rw [len_keyQ e7]; exact hi)
    simp only
    rw [← (at_keyQ e7 i).2]
    exact z
  · simp only
    rw [← mk_keyQ e7, ← mk_keyQ e7, ← mk_keyQ e7]
    exact h6
/-- A program that was read, with no place. -/
def Ap.pg (p : Ap) : Pg := ⟨none, 0, p.ns, none, 0, p.cs, none, 0, p.pl, p.hor, p.cells, p.slots, p.stack, none, 0, p.days.map fun d => ⟨d.1, none, 0, d.2⟩⟩
/-- What reading leaves within bounds. -/
structure ApOk (p : Ap) : Prop where
  nl : p.ns.length ≤ 16777216
  ul : p.cs.length ≤ 16777216
  ll : p.pl.length ≤ 16777216
  nz : ∀ s ∈ p.ns, s.size ≤ 16777216
  uz : ∀ s ∈ p.cs, s.size ≤ 16777216
  pv : ∀ x ∈ p.pl, inR x
  h0 : inR p.hor
  h1 : inR p.cells
  h2 : inR p.slots
  h3 : inR p.stack
  dv : ∀ d ∈ p.days, inR d.1 ∧ ∀ i ∈ d.2, In.okP i
theorem inR_zero : inR 0 := by unfold inR; omega
theorem ApOk.zero : ApOk Ap.zero := ⟨by simp [Ap.zero], by simp [Ap.zero], by simp [Ap.zero], by simp [Ap.zero], by simp [Ap.zero], by simp [Ap.zero], inR_zero, inR_zero, inR_zero, inR_zero, by simp [Ap.zero]⟩
theorem numW_in {w : ByteArray} {n : Int} (h : numW w = some n) : inR n := by
  unfold numW at h
  obtain ⟨v, h1, h2⟩ := Option.bind_eq_some_iff.1 h
  split at h2
  · injection h2 with h2
    subst h2
    exact valW_in h1
  · cases h2
theorem valsW_len : ∀ {a : List ByteArray} {l : List Int}, valsW a = some l → l.length = a.length
  | [], l, h => by simp only [valsW, Option.some.injEq] at h; subst h; rfl
  | w :: a, l, h => by
    simp only [valsW] at h
    cases hv : valW w with
    | none => rw [hv] at h; cases h
    | some v =>
      rw [hv] at h
      obtain ⟨m, hm, rfl⟩ := Option.map_eq_some_iff.1 h
      simp [valsW_len hm]
theorem insW_ok {p : Ap} {w : ByteArray} {ws : List ByteArray} {i : In} (h : insW p w ws = some i) : i.okP := by
  unfold insW at h
  obtain ⟨k, _, h⟩ := Option.bind_eq_some_iff.1 h
  unfold insK at h
  split at h
  · obtain ⟨a, _, h⟩ := Option.bind_eq_some_iff.1 h
    obtain ⟨b, _, h⟩ := Option.bind_eq_some_iff.1 h
    split at h
    · injection h with h; subst h; assumption
    · cases h
  · cases h
theorem apNum_ok {k : Nat} {ws : List ByteArray} {p q : Ap} (h : ApOk p) (e : apNum k ws p = some q) : ApOk q := by
  unfold apNum at e
  split at e
  · obtain ⟨n, h1, rfl⟩ := Option.map_eq_some_iff.1 e
    have hn := numW_in h1
    split
    · exact { h with h0 := hn }
    · split
      · exact { h with h1 := hn }
      · split
        · exact { h with h2 := hn }
        · split
          · exact { h with h3 := hn }
          · refine { h with dv := fun d hd => ?_ }
            simp only [List.mem_append, List.mem_singleton] at hd
            rcases hd with hd | rfl
            · exact h.dv d hd
            · exact ⟨hn, fun i hi => by cases hi⟩
  · cases e
theorem apList_ok {k : Nat} {ws : List ByteArray} {p q : Ap} (h : ApOk p) (wl : ws.length ≤ 16777216) (wz : ∀ s ∈ ws, s.size ≤ 16777216) (e : apList k ws p = some q) : ApOk q := by
  unfold apList at e
  split at e
  · cases e
  · split at e
    · split at e
      · injection e with e; subst e; exact { h with nl := wl, nz := wz }
      · cases e
    · split at e
      · split at e
        · injection e with e; subst e; exact { h with ul := wl, uz := wz }
        · cases e
      · obtain ⟨l, h1, rfl⟩ := Option.map_eq_some_iff.1 e
        exact { h with ll := by have := valsW_len h1; simp only; omega, pv := valsW_in h1 }
theorem apLine_ok {st st' : Nat × Ap} {w : ByteArray} {ws : List ByteArray} (h : ApOk st.2) (wl : ws.length ≤ 16777216) (wz : ∀ s ∈ ws, s.size ≤ 16777216) (e : apLine st w ws = some st') : ApOk st'.2 := by
  unfold apLine at e
  split at e
  · split at e
    · obtain ⟨q, h1, rfl⟩ := Option.map_eq_some_iff.1 e
      split at h1
      · exact apNum_ok h h1
      · exact apList_ok h wl wz h1
    · cases e
  · split at e
    · cases e
    · obtain ⟨i, h1, rfl⟩ := Option.map_eq_some_iff.1 e
      refine { h with dv := fun d hd => ?_ }
      simp only [addI] at hd
      cases hl : st.2.days.getLast? with
      | none => rw [hl] at hd; cases hd
      | some d0 =>
        rw [hl] at hd
        simp only [List.mem_append, List.mem_singleton] at hd
        have m0 := List.mem_of_getLast? hl
        rcases hd with hd | rfl
        · exact h.dv d (List.dropLast_subset _ hd)
        · refine ⟨(h.dv d0 m0).1, fun j hj => ?_⟩
          simp only [List.mem_append, List.mem_singleton] at hj
          rcases hj with hj | rfl
          · exact (h.dv d0 m0).2 j hj
          · exact insW_ok h1
theorem apAll_ok : ∀ (ls : List ByteArray) (n : Nat) (st : Nat × Ap) {n' : Nat} {st' : Nat × Ap}, ApOk st.2 → (∀ l ∈ ls, l.size ≤ 16777216) → apAll ls n st = .ok (n', st') → ApOk st'.2
  | [], n, st, n', st', h, hl, e => by
    simp only [apAll, Except.ok.injEq, Prod.mk.injEq] at e
    obtain ⟨_, rfl⟩ := e
    exact h
  | l :: ls, n, st, n', st', h, hl, e => by
    have wb := wds_bd l _ 0 rfl
    have lz := hl l (by simp)
    have hl' : ∀ x ∈ ls, x.size ≤ 16777216 := fun x hx => hl x (List.mem_cons_of_mem _ hx)
    simp only [apAll] at e
    cases hw : wdsL l 0 with
    | nil => rw [hw] at e; exact apAll_ok ls (n + 1) st h hl' e
    | cons w ws =>
      rw [hw] at e wb
      simp only [List.length_cons] at wb
      simp only at e
      cases ha : apLine st w ws with
      | none => rw [ha] at e; cases e
      | some st2 =>
        rw [ha] at e
        exact apAll_ok ls (n + 1) st2 (apLine_ok h (by omega) (fun x hx => Nat.le_trans (wb.2 x (List.mem_cons_of_mem _ hx)) lz) ha) hl' e
theorem lnsR_bd : ∀ (n : Nat) (t : ByteArray), t.size = n → ∀ l ∈ lnsR t, l.size ≤ t.size := by
  intro n
  induction n using Nat.strongRecOn with
  | _ n ih =>
    intro t hn l hl
    by_cases h : 0 < t.size
    · rw [lnsR_cons h] at hl
      rcases List.mem_cons.1 hl with rfl | hl
      · rw [ByteArray.size_extract]; omega
      · have e : (t.extract (fy lfA t 0 + 1) t.size).size < t.size := by rw [ByteArray.size_extract]; omega
        have := ih _ (by omega) _ rfl l hl
        omega
    · rw [lnsR_nil (by omega)] at hl; cases hl
theorem okP_i64Q {i : In} (h : i.okP) : i64 i.o ∧ i64 i.a ∧ i64 i.b := by
  obtain ⟨h1, h2, h3, h4, h5, h6⟩ := h
  have tf := tab_facts i.o.toNat (by omega)
  exact ⟨inR_i64Q (by unfold inR; omega), inR_i64Q (by unfold inR; omega), inR_i64Q (by unfold inR; omega)⟩
theorem own_highQ {W W' : World} {B s n : Nat} {e : TypeId} {v : Value} {xs : List Value} (h : W.ownsRow B e s v n xs) (k : ∀ i, B ≤ i → i < W.heap.size → W'.heap[i]? = W.heap[i]?) : W'.ownsRow B e s v n xs :=
  ⟨h.1, h.2.imp_right fun ⟨g, cap, cur, e1, e2, e3, e4⟩ => ⟨g, cap, cur, e1, e2, (k g e2 (Array.getElem?_eq_some_iff.1 e3).1).trans e3, e4⟩⟩
/-- The program that a reader has. -/
theorem RsP.pv {rb : Nat} {W : World} {t : ByteArray} {cnt next m : Nat} {av : Option Nat} {p : Ap} (h : RsP rb W t cnt next p m av) (ok : ApOk p) (hm : m ≤ 16777216) :
    ∃ (an au pa da : Option Addr) (cn cu pc dc : Nat) (D : List Sg), (∀ W' : World, (∀ i, rb + 1 ≤ i → i < W.heap.size → W'.heap[i]? = W.heap[i]?) → PV W' ⟨an, cn, p.ns, au, cu, p.cs, pa, pc, p.pl, p.hor, p.cells, p.slots, p.stack, da, dc, D⟩) ∧ D.map Sg.key = p.days ∧ WrS W an p.ns ∧ WrS W au p.cs ∧ rb < W.heap.size ∧
      W.cell? ⟨rb, 3, none⟩ = some (.slice an p.ns.length cn) ∧ W.cell? ⟨rb, 4, none⟩ = some (.slice au p.cs.length cu) ∧ W.cell? ⟨rb, 5, none⟩ = some (.slice pa p.pl.length pc) ∧ W.cell? ⟨rb, 6, none⟩ = some (.int .i64 p.hor) ∧ W.cell? ⟨rb, 7, none⟩ = some (.int .i64 p.cells) ∧ W.cell? ⟨rb, 8, none⟩ = some (.int .i64 p.slots) ∧ W.cell? ⟨rb, 9, none⟩ = some (.int .i64 p.stack) ∧ W.cell? ⟨rb, 10, none⟩ = some (.slice da D.length dc) := by
  obtain ⟨vn, vu, vp, vd, fn, fu, fp, D, hb, hl⟩ := h
  obtain ⟨an, cn, rfl⟩ := own_slQ hl.on
  obtain ⟨au, cu, rfl⟩ := own_slQ hl.ou
  obtain ⟨pa, pc, rfl⟩ := own_slQ hl.op
  obtain ⟨da, dc, rfl⟩ := own_slQ hl.od
  obtain ⟨_, _, _, c3, c4, c5, c6, c7, c8, c9, c10, _, _, _⟩ := rd_cells hb
  have nl := ok.nl
  have ul := ok.ul
  have ll := ok.ll
  have dl := hl.dl
  refine ⟨an, au, pa, da, cn, cu, pc, dc, D, fun W' kk => ⟨own_sr (own_highQ hl.on kk) (Nat.le_trans nl (by omega)) (fun s q => Nat.le_trans (ok.nz s q) (by omega)), own_sr (own_highQ hl.ou kk) (Nat.le_trans ul (by omega)) (fun s q => Nat.le_trans (ok.uz s q) (by omega)), own_nr (own_highQ hl.op kk) (Nat.le_trans ll (by omega)) (fun x q => inR_i64Q (ok.pv x q)), inR_i64Q ok.h0, inR_i64Q ok.h1, inR_i64Q ok.h2, inR_i64Q ok.h3, own_gl (own_highQ hl.od kk) (Nat.le_trans dl (Nat.le_trans hm (by omega))) (fun s hs => ?_)⟩, hl.days, wrs_of hl.on, wrs_of hl.ou, hl.sz, c3, c4, c5, c6, c7, c8, c9, c10⟩
  have dm : s.key ∈ p.days := by rw [← hl.days]; exact List.mem_map_of_mem hs
  have dv := ok.dv _ dm
  obtain ⟨i, hi, rfl⟩ := List.getElem_of_mem hs
  have oc := hl.oc i hi
  have cl := hl.cl i hi
  rw [show D.getD i default = D[i] by simp [List.getD, hi]] at oc cl
  exact ⟨inR_i64Q dv.1, own_ir (own_highQ oc kk) (Nat.le_trans cl (Nat.le_trans hm (by omega))) (fun j hj => okP_i64Q (dv.2 j hj))⟩
/-- What reading comes to. -/
noncomputable def outA (s : ByteArray) : Ap × Int × Int :=
  if 16777216 < s.size then (Ap.zero, 0, 6) else
  match apAll (lnsR s) 0 (0, Ap.zero) with
  | .error n => (Ap.zero, (n : Int), 131)
  | .ok (n, st) => if mayC st.1 8 = true then (if canP st.2.pg then (st.2, 0, 0) else (Ap.zero, 0, 121)) else (Ap.zero, ((n + 1 : Nat) : Int), 131)
/-- What Parse answers. -/
def PaE (s : ByteArray) (w : World) (e : Ending) (w' : World) : Prop := ∃ P : Pg, e = .returned (.tuple #[P.agg, .int .i64 (outA s).2.1, .int .i64 (outA s).2.2]) ∧ PV w' P ∧ P.key = (outA s).1.pg.key ∧ Below w.heap.size w w'
theorem zero_pv (W : World) : PV W (Ap.pg Ap.zero) := by
  have z : ∀ {n c : Nat}, n = 0 → c = 0 → Hd none n c := fun e f => by subst e f; exact ⟨fun _ => ⟨rfl, rfl⟩, Nat.le_refl _, by unfold maxLen; omega⟩
  exact ⟨⟨z rfl rfl, rfl, by simp [Ap.pg, Ap.zero], by simp [Ap.pg, Ap.zero], .inl rfl⟩, ⟨z rfl rfl, rfl, by simp [Ap.pg, Ap.zero], by simp [Ap.pg, Ap.zero], .inl rfl⟩, ⟨z rfl rfl, rfl, by simp [Ap.pg, Ap.zero], by simp [Ap.pg, Ap.zero], .inl rfl⟩, inR_i64Q inR_zero, inR_i64Q inR_zero, inR_i64Q inR_zero, inR_i64Q inR_zero, ⟨z rfl rfl, rfl, by simp [Ap.pg, Ap.zero], by simp [Ap.pg, Ap.zero], .inl rfl⟩⟩
theorem rd_new (W : World) (s : ByteArray) (rb : Nat) (h : BkP W rb (rdA s 0 0 (.slice none 0 0) (.slice none 0 0) (.slice none 0 0) 0 0 0 0 (.slice none 0 0) (.map none) (.map none) (.map none)) 52) : RsP rb W s 0 0 Ap.zero 0 none :=
  ⟨_, _, _, _, _, _, _, [], h, ⟨World.ownsRow_nil _ _ _ _, World.ownsRow_nil _ _ _ _, World.ownsRow_nil _ _ _ _, World.ownsRow_nil _ _ _ _, (fun i hi => absurd hi (by simp)), (fun i j _ hj => absurd hj (by simp)), .inl ⟨rfl, fun c => rfl⟩, .inl ⟨rfl, fun c => rfl⟩, .inl ⟨rfl, fun c => rfl⟩, rfl, Nat.le_refl _, (fun i hi => absurd hi (by simp)), h.lt, .inl rfl, .inl rfl, .inl rfl⟩⟩
end Go.Proofs.YtccjeipkljdhdaaGreatDoor

namespace Go.Proofs.YtccjeipkljdhdaaGreatDoor
open Go.RowKit
set_option linter.unusedVariables false
set_option linter.unusedSimpArgs false

def zP : Array Value := #[.slice none 0 0, .slice none 0 0, .slice none 0 0, .int .i64 0, .int .i64 0, .int .i64 0, .int .i64 0, .slice none 0 0]
/-- The answer's box is filled. -/
theorem fill8 {w W : World} (b : Below w.heap.size w W) (v0 v1 v2 v3 v4 v5 v6 v7 : Value) : Below w.heap.size w ((((((((W.setCell ⟨w.heap.size, 0, none⟩ v0).setCell ⟨w.heap.size, 1, none⟩ v1).setCell ⟨w.heap.size, 2, none⟩ v2).setCell ⟨w.heap.size, 3, none⟩ v3).setCell ⟨w.heap.size, 4, none⟩ v4).setCell ⟨w.heap.size, 5, none⟩ v5).setCell ⟨w.heap.size, 6, none⟩ v6).setCell ⟨w.heap.size, 7, none⟩ v7) :=
  (((((((b.setCell (p := ⟨w.heap.size, 0, none⟩) (Nat.le_refl _) _).setCell (p := ⟨w.heap.size, 1, none⟩) (Nat.le_refl _) _).setCell (p := ⟨w.heap.size, 2, none⟩) (Nat.le_refl _) _).setCell (p := ⟨w.heap.size, 3, none⟩) (Nat.le_refl _) _).setCell (p := ⟨w.heap.size, 4, none⟩) (Nat.le_refl _) _).setCell (p := ⟨w.heap.size, 5, none⟩) (Nat.le_refl _) _).setCell (p := ⟨w.heap.size, 6, none⟩) (Nat.le_refl _) _).setCell (p := ⟨w.heap.size, 7, none⟩) (Nat.le_refl _) _
theorem pg_key {p : Ap} {D : List Sg} (h : D.map Sg.key = p.days) (an au pa da : Option Addr) (cn cu pc dc : Nat) : (⟨an, cn, p.ns, au, cu, p.cs, pa, pc, p.pl, p.hor, p.cells, p.slots, p.stack, da, dc, D⟩ : Pg).key = p.pg.key := by
  have e : (p.days.map fun d => (⟨d.1, none, 0, d.2⟩ : Sg)).map Sg.key = p.days := by
    rw [List.map_map]
    exact List.map_id p.days
  unfold Pg.key Ap.pg
  simp only
  rw [h, e]
theorem apAll_cnt : ∀ (ls : List ByteArray) (n : Nat) (st : Nat × Ap) {n' : Nat} {st' : Nat × Ap}, apAll ls n st = .ok (n', st') → n' = n + ls.length
  | [], n, st, n', st', e => by
    simp only [apAll, Except.ok.injEq, Prod.mk.injEq] at e
    simp [e.1]
  | l :: ls, n, st, n', st', e => by
    simp only [apAll] at e
    split at e
    · have := apAll_cnt ls (n + 1) st e
      simp; omega
    · split at e
      · cases e
      · have := apAll_cnt ls (n + 1) _ e
        simp; omega
theorem lnsR_len : ∀ (n : Nat) (t : ByteArray), t.size = n → (lnsR t).length ≤ t.size := by
  intro n
  induction n using Nat.strongRecOn with
  | _ n ih =>
    intro t hn
    by_cases h : 0 < t.size
    · rw [lnsR_cons h, List.length_cons]
      have e : (t.extract (fy lfA t 0 + 1) t.size).size < t.size := by rw [ByteArray.size_extract]; omega
      have := ih _ (by omega) (t.extract (fy lfA t 0 + 1) t.size) rfl
      omega
    · rw [lnsR_nil (by omega)]; exact Nat.zero_le _
end Go.Proofs.YtccjeipkljdhdaaGreatDoor

namespace Go.Proofs.YtccjeipkljdhdaaGreatDoor
open Go.RowKit
set_option linter.unusedVariables false
set_option linter.unusedSimpArgs false

/-- A program whose lists lie in rows of a call's own, in blocks B to U. -/
structure PO (W : World) (B U : Nat) (P : Pg) : Prop where
  on : OwQ W B (.slice P.na P.names.length P.nc) P.names
  ou : OwQ W B (.slice P.ua P.curs.length P.uc) P.curs
  op : OwZs W B (.slice P.pa P.pool.length P.pc) P.pool
  od : W.ownsRow B 39 2 (.slice P.da P.days.length P.dc) P.days.length (sgsP P.days)
  oc : ∀ i, i < P.days.length → W.ownsRow B 42 3 (P.days.getD i default).cv (P.days.getD i default).code.length (icsP (P.days.getD i default).code)
  ap : ∀ i j, i < j → j < P.days.length → (P.days.getD i default).cv.ownBlock = none ∨ (P.days.getD i default).cv.ownBlock ≠ (P.days.getD j default).cv.ownBlock
  nu : (Value.slice P.na P.names.length P.nc).ownBlock = none ∨ (Value.slice P.na P.names.length P.nc).ownBlock ≠ (Value.slice P.ua P.curs.length P.uc).ownBlock
  un : ∀ z, (Value.slice P.na P.names.length P.nc).ownBlock = some z → z < U
  uu : ∀ z, (Value.slice P.ua P.curs.length P.uc).ownBlock = some z → z < U
  up : ∀ z, (Value.slice P.pa P.pool.length P.pc).ownBlock = some z → z < U
  ud : ∀ z, (Value.slice P.da P.days.length P.dc).ownBlock = some z → z < U
  uc : ∀ i, i < P.days.length → ∀ z, (P.days.getD i default).cv.ownBlock = some z → z < U
  ln : P.names.length ≤ 16777216
  lu : P.curs.length ≤ 16777216
  lp : P.pool.length ≤ 16777216
  ld : P.days.length ≤ 16777216
  lc : ∀ i, i < P.days.length → (P.days.getD i default).code.length ≤ 16777216
theorem PO.wide {W : World} {B U B' U' : Nat} {P : Pg} (h : PO W B U P) (hB : B' ≤ B) (hU : U ≤ U') : PO W B' U' P :=
  ⟨own_monoQ h.on hB, own_monoQ h.ou hB, own_monoQ h.op hB, own_monoQ h.od hB, fun i hi => own_monoQ (h.oc i hi) hB, h.ap, h.nu, fun z e => Nat.lt_of_lt_of_le (h.un z e) hU, fun z e => Nat.lt_of_lt_of_le (h.uu z e) hU, fun z e => Nat.lt_of_lt_of_le (h.up z e) hU, fun z e => Nat.lt_of_lt_of_le (h.ud z e) hU, fun i hi z e => Nat.lt_of_lt_of_le (h.uc i hi z e) hU, h.ln, h.lu, h.lp, h.ld, h.lc⟩
theorem PO.later {W W' : World} {B U : Nat} {P : Pg} (h : PO W B U P) (b : Below W.heap.size W W') : PO W' B U P :=
  ⟨own_belQ h.on b, own_belQ h.ou b, own_belQ h.op b, own_belQ h.od b, fun i hi => own_belQ (h.oc i hi) b, h.ap, h.nu, h.un, h.uu, h.up, h.ud, h.uc, h.ln, h.lu, h.lp, h.ld, h.lc⟩
theorem zero_po (W : World) (B U : Nat) : PO W B U (Ap.pg Ap.zero) := by
  have z : ∀ {e : TypeId} {s : Nat}, W.ownsRow B e s (.slice none 0 0) 0 [] := World.ownsRow_nil _ _ _ _
  exact ⟨z, z, z, z, (fun i hi => absurd hi (by simp [Ap.pg, Ap.zero])), (fun i j _ hj => absurd hj (by simp [Ap.pg, Ap.zero])), .inl rfl, (fun z e => by cases e), (fun z e => by cases e), (fun z e => by cases e), (fun z e => by cases e), (fun i hi => absurd hi (by simp [Ap.pg, Ap.zero])), by simp [Ap.pg, Ap.zero], by simp [Ap.pg, Ap.zero], by simp [Ap.pg, Ap.zero], by simp [Ap.pg, Ap.zero], (fun i hi => absurd hi (by simp [Ap.pg, Ap.zero]))⟩
/-- The program that a reader has: its lists are the reader's own. -/
theorem RsP.po {rb : Nat} {W : World} {t : ByteArray} {cnt next m : Nat} {av : Option Nat} {p : Ap} (h : RsP rb W t cnt next p m av) (ok : ApOk p) (hm : m ≤ 16777216) :
    ∃ (an au pa da : Option Addr) (cn cu pc dc : Nat) (D : List Sg), (∀ W' : World, (∀ i, rb + 1 ≤ i → i < W.heap.size → W'.heap[i]? = W.heap[i]?) → PV W' ⟨an, cn, p.ns, au, cu, p.cs, pa, pc, p.pl, p.hor, p.cells, p.slots, p.stack, da, dc, D⟩) ∧ (∀ W' : World, (∀ i, rb + 1 ≤ i → i < W.heap.size → W'.heap[i]? = W.heap[i]?) → PO W' (rb + 1) W.heap.size ⟨an, cn, p.ns, au, cu, p.cs, pa, pc, p.pl, p.hor, p.cells, p.slots, p.stack, da, dc, D⟩) ∧ D.map Sg.key = p.days ∧ WrS W an p.ns ∧ WrS W au p.cs ∧ rb < W.heap.size ∧
      W.cell? ⟨rb, 3, none⟩ = some (.slice an p.ns.length cn) ∧ W.cell? ⟨rb, 4, none⟩ = some (.slice au p.cs.length cu) ∧ W.cell? ⟨rb, 5, none⟩ = some (.slice pa p.pl.length pc) ∧ W.cell? ⟨rb, 6, none⟩ = some (.int .i64 p.hor) ∧ W.cell? ⟨rb, 7, none⟩ = some (.int .i64 p.cells) ∧ W.cell? ⟨rb, 8, none⟩ = some (.int .i64 p.slots) ∧ W.cell? ⟨rb, 9, none⟩ = some (.int .i64 p.stack) ∧ W.cell? ⟨rb, 10, none⟩ = some (.slice da D.length dc) := by
  obtain ⟨vn, vu, vp, vd, fn, fu, fp, D, hb, hl⟩ := h
  obtain ⟨an, cn, rfl⟩ := own_slQ hl.on
  obtain ⟨au, cu, rfl⟩ := own_slQ hl.ou
  obtain ⟨pa, pc, rfl⟩ := own_slQ hl.op
  obtain ⟨da, dc, rfl⟩ := own_slQ hl.od
  obtain ⟨_, _, _, c3, c4, c5, c6, c7, c8, c9, c10, _, _, _⟩ := rd_cells hb
  have nl := ok.nl
  have ul := ok.ul
  have ll := ok.ll
  have dl := hl.dl
  refine ⟨an, au, pa, da, cn, cu, pc, dc, D, fun W' kk => ⟨own_sr (own_highQ hl.on kk) (Nat.le_trans nl (by omega)) (fun s q => Nat.le_trans (ok.nz s q) (by omega)), own_sr (own_highQ hl.ou kk) (Nat.le_trans ul (by omega)) (fun s q => Nat.le_trans (ok.uz s q) (by omega)), own_nr (own_highQ hl.op kk) (Nat.le_trans ll (by omega)) (fun x q => inR_i64Q (ok.pv x q)), inR_i64Q ok.h0, inR_i64Q ok.h1, inR_i64Q ok.h2, inR_i64Q ok.h3, own_gl (own_highQ hl.od kk) (Nat.le_trans dl (Nat.le_trans hm (by omega))) (fun s hs => ?_)⟩, (fun W' kk => ⟨own_highQ hl.on kk, own_highQ hl.ou kk, own_highQ hl.op kk, own_highQ hl.od kk, fun i hi => own_highQ (hl.oc i hi) kk, hl.ap, hl.nu, fun z e => (hl.on.lt z e).2, fun z e => (hl.ou.lt z e).2, fun z e => (hl.op.lt z e).2, fun z e => (hl.od.lt z e).2, fun i hi z e => ((hl.oc i hi).lt z e).2, nl, ul, ll, Nat.le_trans dl hm, fun i hi => Nat.le_trans (hl.cl i hi) hm⟩), hl.days, wrs_of hl.on, wrs_of hl.ou, hl.sz, c3, c4, c5, c6, c7, c8, c9, c10⟩
  have dm : s.key ∈ p.days := by rw [← hl.days]; exact List.mem_map_of_mem hs
  have dv := ok.dv _ dm
  obtain ⟨i, hi, rfl⟩ := List.getElem_of_mem hs
  have oc := hl.oc i hi
  have cl := hl.cl i hi
  rw [show D.getD i default = D[i] by simp [List.getD, hi]] at oc cl
  exact ⟨inR_i64Q dv.1, own_ir (own_highQ oc kk) (Nat.le_trans cl (Nat.le_trans hm (by omega))) (fun j hj => okP_i64Q (dv.2 j hj))⟩
/-- What Parse answers; the program's lists are its own. -/
def PaO (s : ByteArray) (w : World) (e : Ending) (w' : World) : Prop := ∃ P : Pg, e = .returned (.tuple #[P.agg, .int .i64 (outA s).2.1, .int .i64 (outA s).2.2]) ∧ PV w' P ∧ P.key = (outA s).1.pg.key ∧ Below w.heap.size w w' ∧ PO w' w.heap.size w'.heap.size P
set_option maxRecDepth 100000 in
set_option maxHeartbeats 4000000 in
theorem parseO_any {w : World} (s : ByteArray) (hG : ∀ W, Below w.heap.size w W → GlA W) :
    Calls Tryz.prog 7 #[.string s] w fun e w' => PaO s w e w' := by
  by_cases hs : s.size ≤ 16777216
  · have c0 : ((s.size : Nat) : Int) ≤ 16777216 := by omega
    have A1 := Lib.hid (((Below.refl w.heap.size w).alloc (Nat.le_refl _) (.cells zP 27)).alloc (by simp) (.cells (rdA s 0 0 (.slice none 0 0) (.slice none 0 0) (.slice none 0 0) 0 0 0 0 (.slice none 0 0) (.map none) (.map none) (.map none)) 52))
    obtain ⟨tb1, tb2⟩ := two_boxQ w (.cells zP 27) (.cells (rdA s 0 0 (.slice none 0 0) (.slice none 0 0) (.slice none 0 0) 0 0 0 0 (.slice none 0 0) (.map none) (.map none) (.map none)) 52)
    have sz : ((w.alloc (.cells zP 27)).alloc (.cells (rdA s 0 0 (.slice none 0 0) (.slice none 0 0) (.slice none 0 0) 0 0 0 0 (.slice none 0 0) (.map none) (.map none) (.map none)) 52)).heap.size = w.heap.size + 2 := by simp
    unfold zP rdA at A1 tb1 tb2 sz
    obtain ⟨W0, hW0⟩ : ∃ x, ((w.alloc (.cells #[.slice none 0 0, .slice none 0 0, .slice none 0 0, .int .i64 0, .int .i64 0, .int .i64 0, .int .i64 0, .slice none 0 0] 27)).alloc (.cells #[.string s, .int .i64 0, .int .i64 0, .slice none 0 0, .slice none 0 0, .slice none 0 0, .int .i64 0, .int .i64 0, .int .i64 0, .int .i64 0, .slice none 0 0, .map none, .map none, .map none] 52)) = x := ⟨_, rfl⟩
    rw [hW0] at A1 tb1 tb2 sz
    have R0 := Lib.hid (rd_new W0 s (w.heap.size + 1) tb2)
    have TB1 := Lib.hid tb1
    have SZ := Lib.hid sz
    have HG := Lib.hid hG
    have BL := Lib.hid (p := ∀ W, Below (w.heap.size + 1) W0 W → Below w.heap.size w W) (fun W b => A1.out.trans (b.mono (Nat.le_succ _)))
    have KR := Lib.hid (readLines_any hs R0.out (fun W b => HG.out W (BL.out W b)))
    have OU : outA s = match apAll (lnsR s) 0 (0, Ap.zero) with
        | .error n => (Ap.zero, (n : Int), 131)
        | .ok (n, st) => if mayC st.1 8 = true then (if canP st.2.pg then (st.2, 0, 0) else (Ap.zero, 0, 121)) else (Ap.zero, ((n + 1 : Nat) : Int), 131) := by
      unfold outA
      rw [if_neg (by omega)]
      first | done | rfl
    have OK := Lib.hid (p := ∀ n st, apAll (lnsR s) 0 (0, Ap.zero) = .ok (n, st) → ApOk st.2) (fun n st e => apAll_ok _ _ _ ApOk.zero (fun l hl => Nat.le_trans (lnsR_bd _ s rfl l hl) hs) e)
    have BX := Lib.hid (p := ∀ W, Below (w.heap.size + 1) W0 W → W.heap[w.heap.size]? = W0.heap[w.heap.size]?) (fun W b => b.block _ (Nat.lt_succ_self _))
    clear tb1 tb2 sz hG
    -- a line that can't stand there
    have BAD : ∀ N : Int, outA s = (Ap.zero, N, 131) → (∀ W e, RlE (w.heap.size + 1) s W0 e W → e = .returned (.tuple #[.int .i64 N, .int .i64 131])) → Calls Tryz.prog 7 #[.string s] w fun e w' => PaO s w e w' := by
      intro N hN hE
      have HE := Lib.hid hE
      have HN := Lib.hid hN
      clear hN hE OU
      go_enter Tryz.func7, Tryz.ntmps7
      go_wp2_with (first
        | (with_reducible show Calls _ _ _ _ _; rw [hW0])
        | (go_at_call 16; refine KR.out.mono ?_; intro e w1 h1; obtain rfl := HE.out w1 e h1; have B1 := Lib.hid h1.1; have fz := fun i => BkP.frozen (show BkP w1 w.heap.size _ _ from (BX.out w1 h1.1).trans TB1.out) i; have f0 := fz 0; have f1 := fz 1; have f2 := fz 2; have f3 := fz 3; have f4 := fz 4; have f5 := fz 5; have f6 := fz 6; have f7 := fz 7; obtain ⟨y0, y1, y2, y3, y4, y5, y6, y7⟩ := box_8Q ((BX.out w1 h1.1).trans TB1.out); clear fz h1))
      refine bodyPost_ret (v := .tuple #[.agg #[.slice none 0 0, .slice none 0 0, .slice none 0 0, .int .i64 0, .int .i64 0, .int .i64 0, .int .i64 0, .slice none 0 0], .int .i64 N, .int .i64 131]) (by simp [results, Tryz.results7, go_sem, y0, y1, y2, y3, y4, y5, y6, y7]) rfl ?_
      exact ⟨Ap.pg Ap.zero, by rw [HN.out]; rfl, zero_pv _, by rw [HN.out], fill8 (BL.out w1 B1.out) _ _ _ _ _ _ _ _, zero_po _ _ _⟩
    cases hA : apAll (lnsR s) 0 (0, Ap.zero) with
    | error n => exact BAD n (by rw [OU, hA]) (fun W e h => by have z := h.2; rw [hA] at z; exact z)
    | ok r =>
      obtain ⟨n, st⟩ := r
      cases hm : mayC st.1 8 with
      | false => exact BAD _ (by rw [OU, hA]; simp only; rw [if_neg (by rw [hm]; decide)]) (fun W e h => by have z := h.2; rw [hA] at z; simp only at z; rw [if_neg (by rw [hm]; decide)] at z; exact z)
      | true =>
        have O1 : outA s = if canP st.2.pg then (st.2, 0, 0) else (Ap.zero, 0, 121) := by rw [OU, hA]; simp only; rw [if_pos hm]
        have HE := Lib.hid (p := ∀ W e, RlE (w.heap.size + 1) s W0 e W → e = .returned (.tuple #[.int .i64 0, .int .i64 0]) ∧ ∃ t av, RsP (w.heap.size + 1) W t n st.1 st.2 n av) (fun W e h => by have z := h.2; rw [hA] at z; simp only at z; rw [if_pos hm] at z; exact z)
        have ok := OK.out n st hA
        have NB := Lib.hid (p := n ≤ 16777216) (by have := apAll_cnt _ _ _ hA; have l := lnsR_len _ s rfl; omega)
        have OKP := Lib.hid ok
        clear BAD OU hA hm ok
        by_cases hc : canP st.2.pg
        · rw [if_pos hc] at O1
          have HO := Lib.hid O1
          have HC := Lib.hid hc
          clear O1 hc
          go_enter Tryz.func7, Tryz.ntmps7
          go_wp2_with (first
            | (with_reducible show Calls _ _ _ _ _; rw [hW0])
            | (go_at_call 16; refine KR.out.mono ?_; intro e w1 h1; obtain ⟨rfl, t, av, hr⟩ := HE.out w1 e h1; obtain ⟨an, au, pa, da, cn, cu, pc, dc, D, hpv, hpo, hdays, wn, wu, rl, c3, c4, c5, c6, c7, c8, c9, c10⟩ := hr.po OKP.out NB.out; have B1 := Lib.hid h1.1; have HK := Lib.hid (pg_key (p := st.2) hdays); have PVv := Lib.hid hpv; have POv := Lib.hid hpo; have KC := Lib.hid (canon_any (hpv w1 (fun _ _ _ => rfl)) (HG.out w1 (BL.out w1 h1.1)).rw_); have WN := Lib.hid wn; have WU := Lib.hid wu; have RL := Lib.hid rl; have CC := Lib.hid (And.intro c3 (And.intro c4 (And.intro c5 (And.intro c6 (And.intro c7 (And.intro c8 (And.intro c9 c10))))))); clear hr h1 hpv hpo wn wu hdays rl)
            | (go_at_call 10; refine KC.out.mono ?_; rintro e w2 ⟨rfl, h2⟩; rw [if_pos (can_key1Q (HK.out _ _ _ _ _ _ _ _).symm HC.out)]; have B2 := Lib.hid h2; have d3 := (h2.cell (p := ⟨w.heap.size + 1, 3, none⟩) RL.out).trans CC.out.1; have d4 := (h2.cell (p := ⟨w.heap.size + 1, 4, none⟩) RL.out).trans CC.out.2.1; have d5 := (h2.cell (p := ⟨w.heap.size + 1, 5, none⟩) RL.out).trans CC.out.2.2.1; have d6 := (h2.cell (p := ⟨w.heap.size + 1, 6, none⟩) RL.out).trans CC.out.2.2.2.1; have d7 := (h2.cell (p := ⟨w.heap.size + 1, 7, none⟩) RL.out).trans CC.out.2.2.2.2.1; have d8 := (h2.cell (p := ⟨w.heap.size + 1, 8, none⟩) RL.out).trans CC.out.2.2.2.2.2.1; have d9 := (h2.cell (p := ⟨w.heap.size + 1, 9, none⟩) RL.out).trans CC.out.2.2.2.2.2.2.1; have d10 := (h2.cell (p := ⟨w.heap.size + 1, 10, none⟩) RL.out).trans CC.out.2.2.2.2.2.2.2; have KO := Lib.hid (ownTexts_any (w := w2) (an := an) (au := au) (pa := pa) (da := da) (cn := cn) (cu := cu) (pn := st.2.pl.length) (pc := pc) (dn := D.length) (dc := dc) (hor := st.2.hor) (cells := st.2.cells) (slots := st.2.slots) (stack := st.2.stack) (WN.out.later h2) (WU.out.later h2) (fun s q => Nat.le_trans (OKP.out.nz s q) (by omega)) (fun s q => Nat.le_trans (OKP.out.uz s q) (by omega)) OKP.out.nl OKP.out.ul); clear h2)
            | (go_at_call 17; refine KO.out.mono ?_; rintro e w3 ⟨rfl, h3⟩; have B3 := Lib.hid (B2.out.trans (h3.mono B2.out.size)); have TB3 := (B3.out.block _ (by have := B1.out.size; have := SZ.out; omega)).trans ((BX.out w1 B1.out).trans TB1.out); have fz := fun i => BkP.frozen (show BkP w3 w.heap.size _ _ from TB3) i; have f0 := fz 0; have f1 := fz 1; have f2 := fz 2; have f3 := fz 3; have f4 := fz 4; have f5 := fz 5; have f6 := fz 6; have f7 := fz 7; obtain ⟨y0, y1, y2, y3, y4, y5, y6, y7⟩ := box_8Q TB3; clear fz h3 TB3))
          refine bodyPost_ret (v := .tuple #[.agg #[.slice an st.2.ns.length cn, .slice au st.2.cs.length cu, .slice pa st.2.pl.length pc, .int .i64 st.2.hor, .int .i64 st.2.cells, .int .i64 st.2.slots, .int .i64 st.2.stack, .slice da D.length dc], .int .i64 0, .int .i64 0]) (by simp [results, Tryz.results7, go_sem, y0, y1, y2, y3, y4, y5, y6, y7]) rfl ?_
          refine ⟨⟨an, cn, st.2.ns, au, cu, st.2.cs, pa, pc, st.2.pl, st.2.hor, st.2.cells, st.2.slots, st.2.stack, da, dc, D⟩, by rw [HO.out]; rfl, ?_, by rw [HO.out]; exact HK.out _ _ _ _ _ _ _ _, fill8 ((BL.out w1 B1.out).trans (B3.out.mono (BL.out w1 B1.out).size)) _ _ _ _ _ _ _ _, ?_⟩
          · refine PVv.out _ (fun i hi hl => ?_)
            have ne : w.heap.size ≠ i := by omega
            have st : ∀ (X : World) (j : Nat) (v : Value), (X.setCell ⟨w.heap.size, j, none⟩ v).heap[i]? = X.heap[i]? := fun X j v => by simp only [World.setCell, Array.getElem?_modify, if_neg ne]
            rw [st, st, st, st, st, st, st, st]
            exact B3.out.block i hl
          · refine (POv.out _ (fun i hi hl => ?_)).wide (by omega) (by simpa using B3.out.size)
            have ne : w.heap.size ≠ i := by omega
            have st : ∀ (X : World) (j : Nat) (v : Value), (X.setCell ⟨w.heap.size, j, none⟩ v).heap[i]? = X.heap[i]? := fun X j v => by simp only [World.setCell, Array.getElem?_modify, if_neg ne]
            rw [st, st, st, st, st, st, st, st]
            exact B3.out.block i hl
        · rw [if_neg hc] at O1
          have HO := Lib.hid O1
          have HC := Lib.hid hc
          clear O1 hc
          go_enter Tryz.func7, Tryz.ntmps7
          go_wp2_with (first
            | (with_reducible show Calls _ _ _ _ _; rw [hW0])
            | (go_at_call 16; refine KR.out.mono ?_; intro e w1 h1; obtain ⟨rfl, t, av, hr⟩ := HE.out w1 e h1; obtain ⟨an, au, pa, da, cn, cu, pc, dc, D, hpv, hpo, hdays, wn, wu, _, c3, c4, c5, c6, c7, c8, c9, c10⟩ := hr.po OKP.out NB.out; have B1 := Lib.hid h1.1; have HK := Lib.hid (pg_key (p := st.2) hdays); have KC := Lib.hid (canon_any (hpv w1 (fun _ _ _ => rfl)) (HG.out w1 (BL.out w1 h1.1)).rw_); clear hr h1 hpv hpo wn wu hdays)
            | (go_at_call 10; refine KC.out.mono ?_; rintro e w2 ⟨rfl, h2⟩; rw [if_neg (fun z => HC.out (can_key1Q (HK.out _ _ _ _ _ _ _ _) z))]; have B2 := Lib.hid h2; have TB2 := (h2.block _ (by have := B1.out.size; have := SZ.out; omega)).trans ((BX.out w1 B1.out).trans TB1.out); have fz := fun i => BkP.frozen (show BkP w2 w.heap.size _ _ from TB2) i; have f0 := fz 0; have f1 := fz 1; have f2 := fz 2; have f3 := fz 3; have f4 := fz 4; have f5 := fz 5; have f6 := fz 6; have f7 := fz 7; obtain ⟨y0, y1, y2, y3, y4, y5, y6, y7⟩ := box_8Q TB2; clear fz h2 TB2))
          refine bodyPost_ret (v := .tuple #[.agg #[.slice none 0 0, .slice none 0 0, .slice none 0 0, .int .i64 0, .int .i64 0, .int .i64 0, .int .i64 0, .slice none 0 0], .int .i64 0, .int .i64 121]) (by simp [results, Tryz.results7, go_sem, y0, y1, y2, y3, y4, y5, y6, y7]) rfl ?_
          exact ⟨Ap.pg Ap.zero, by rw [HO.out]; rfl, zero_pv _, by rw [HO.out], fill8 ((BL.out w1 B1.out).trans (B2.out.mono (BL.out w1 B1.out).size)) _ _ _ _ _ _ _ _, zero_po _ _ _⟩
  · have c0 : ¬ ((s.size : Nat) : Int) ≤ 16777216 := by omega
    have OU := Lib.hid (p := outA s = (Ap.zero, 0, 6)) (by unfold outA; rw [if_pos (by omega)])
    have A1 := Lib.hid ((Below.refl w.heap.size w).alloc (Nat.le_refl _) (.cells zP 27))
    go_enter Tryz.func7, Tryz.ntmps7
    obtain ⟨y0, y1, y2, y3, y4, y5, y6, y7⟩ := box_8Q (heapN w (.cells #[.slice none 0 0, .slice none 0 0, .slice none 0 0, .int .i64 0, .int .i64 0, .int .i64 0, .int .i64 0, .slice none 0 0] 27))
    go_wp2
    refine bodyPost_ret (v := .tuple #[.agg #[.slice none 0 0, .slice none 0 0, .slice none 0 0, .int .i64 0, .int .i64 0, .int .i64 0, .int .i64 0, .slice none 0 0], .int .i64 0, .int .i64 6]) (by simp [results, Tryz.results7, go_sem, y0, y1, y2, y3, y4, y5, y6, y7]) rfl ?_
    exact ⟨Ap.pg Ap.zero, by rw [OU.out]; rfl, zero_pv _, by rw [OU.out], A1.out, zero_po _ _ _⟩
end Go.Proofs.YtccjeipkljdhdaaGreatDoor

namespace Go.Proofs.YtccjeipkljdhdaaGreatDoor
open Go.RowKit
set_option linter.unusedVariables false
set_option linter.unusedSimpArgs false

end Go.Proofs.YtccjeipkljdhdaaGreatDoor

namespace Go.Proofs.YtccjeipkljdhdaaGreatDoor
open Go.RowKit
set_option linter.unusedVariables false
set_option linter.unusedSimpArgs false
theorem conv_bytes13 {w : World} {B : Nat} {v : Value} {bs : List UInt8} (h : w.ownsRow B 5 1 v bs.length (Lib.byteCells bs)) (h0 : bs ≠ []) : ∃ g cap, v = .slice (some ⟨g, 0, none⟩) bs.length cap ∧ (convert 78 9 v).run Tryz.prog w = .ok (.string ⟨bs.toArray⟩) w := by
  have hh := h
  obtain ⟨h1, h2⟩ := h
  rcases h2 with ⟨h3, h2⟩ | ⟨g, cap, cur, rfl, hB, hg, hn, hm, hs, ht⟩
  · exact absurd (List.length_eq_zero_iff.1 h2) h0
  · refine ⟨g, cap, rfl, run_convert_bytes_back (P := Tryz.prog) w 78 9 5 ⟨g, 0, none⟩ cap bs (by kernel_rfl) (by kernel_rfl) (by kernel_rfl) (fun j hj => ?_)⟩
    rw [Lib.add_plain, Nat.zero_add, hh.cellAt j (by omega)]
    simp [Lib.byteCells, hj]
end Go.Proofs.YtccjeipkljdhdaaGreatDoor
