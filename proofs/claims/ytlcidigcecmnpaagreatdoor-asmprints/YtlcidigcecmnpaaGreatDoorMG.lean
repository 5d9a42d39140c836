/-
  WALKS: a builder of texts (what else stands, stays).
-/
import Derived.Test.YtlcidigcecmnpaaGreatDoorWImg7
import Derived.Test.YtlcidigcecmnpaaGreatDoorShelf
import Derived.Lib.Strings
import Derived.Lib.Builder
import Derived.Lib.AppendStr
import Derived.Lib.OthersKept
import Derived.Lib.FrozenHead
import Derived.Test.YtlcidigcecmnpaaGreatDoorPlainAsm
import Derived.Test.YtlcidigcecmnpaaGreatDoorMC
import Derived.Test.YtlcidigcecmnpaaGreatDoorMB
namespace Go.Proofs.YtlcidigcecmnpaaGreatDoor
open Go.RowKit
set_option linter.unusedVariables false
set_option linter.unusedSimpArgs false
abbrev OK8 (b : Nat) (w w' : World) : Prop := Lib.OthersKept 5 (some b) w w'
/-- A builder that holds bytes. -/
abbrev Bd (B b : Nat) (l : List UInt8) (w : World) : Prop := Lib.IsBuilder 49 5 B b (Lib.byteCells l) w
abbrev BdU (B b : Nat) (l : List UInt8) (w : World) : Prop := Lib.BuilderAt 49 5 B b (.pointer (some ⟨b, 0, none⟩)) (Lib.byteCells l) w
theorem info8b : (Tryz.prog.info? 5).map (fun i => (i.zero, i.size, i.bytes)) = some (some (.int .u8 0), 1, 1) := by kernel_rfl
theorem infoB2 : (Tryz.prog.info? 49).map (·.size) = some 2 := by kernel_rfl
theorem liesB : liesAt Tryz.prog Tryz.prog.depth 49 (2 / Tryz.prog.cellsOf 49) 0 49 1 = true := by kernel_rfl
theorem row_kind {w : World} {B : Nat} {e : TypeId} {v : Value} {n : Nat} {xs : List Value} (h : w.ownsRow B e 1 v n xs) : ∀ g, v.ownBlock = some g → ∃ c fz, w.heap[g]? = some (.cells c e fz) := by
  intro g hg
  rcases h.2 with ⟨rfl, _⟩ | ⟨g', cap, cur, rfl, _, hb, _⟩
  · cases hg
  · have : g' = g := Option.some.inj hg
    subst this
    exact ⟨_, _, hb⟩
theorem ok8_gr {b : Nat} {w w1 w2 : World} {r : Option Nat} (h : OK8 b w w1) (g : w1.grownBy w2 r) (hr : ∀ k, r = some k → ∃ c fz, w1.heap[k]? = some (.cells c 5 fz)) : OK8 b w w2 := by
  intro k o ho h1 h2
  have hk := h k o ho h1 h2
  have hlt : k < w1.heap.size := (Array.getElem?_eq_some_iff.1 hk).1
  rw [g.block k hlt (fun e => ?_)]
  · exact hk
  · obtain ⟨c, fz, hc⟩ := hr k e.symm
    rw [hc] at hk
    exact h2 c fz (Option.some.inj hk).symm
set_option maxHeartbeats 1000000 in
set_option maxRecDepth 100000 in
theorem bdCheck_any {B b : Nat} {l : List UInt8} {w : World} (h : Bd B b l w) :
    Calls Tryz.prog 40 #[.pointer (some ⟨b, 0, none⟩)] w fun e w' => e = .returned (.tuple #[]) ∧ BdU B b l w' ∧ Below B w w' ∧ OK8 b w w' ∧ w.heap.size ≤ w'.heap.size := by
  obtain ⟨j, hj, hjs⟩ := Option.map_eq_some_iff.1 infoB2
  rcases h with h | h
  · have h0 := h.cell0
    have hsh := h.shape
    have hfz := h.frozen0
    go_enter Tryz.func40, Tryz.ntmps40
    go_wp2
    rw [Lib.run_to_unsafe w ⟨b, 0, none⟩ Tryz.underlying47 Tryz.underlying101 hj (by rw [hjs]; decide) hsh (Nat.zero_lt_succ 1)]
    simp only [Result.andThen]
    rw [Oper.upon_value]
    go_wp2
    rw [run_callFunc_extern Tryz.func62 (by kernel_rfl) (by kernel_rfl) (by kernel_rfl) (e := Extern.AbiNoEscape.same) (by kernel_rfl)]
    rw [Lib.run_noEscape]
    simp only [Result.andThen]
    rw [Oper.upon_value]
    go_wp2
    rw [Lib.run_from_unsafe w ⟨b, 0, none⟩ Tryz.underlying101 Tryz.underlying47 hj hsh liesB]
    simp only [Result.andThen]
    rw [Oper.upon_value]
    go_wp2
    go_end0
    exact ⟨rfl, h.used _, (Below.refl B w).setCell (p := ⟨b, 0, none⟩) h.1 _, (Lib.OthersKept.refl _ _ w).setCell ⟨b, 0, none⟩ rfl _, by simp⟩
  · have h0 := h.cell0
    go_enter Tryz.func40, Tryz.ntmps40
    go_wp2
    rw [Lib.run_neq_ptr_same w _ Tryz.underlying47 hj]
    go_wp2
    go_end0
    exact ⟨rfl, h, Below.refl B _, Lib.OthersKept.refl _ _ w, Nat.le_refl _⟩
set_option maxHeartbeats 2000000 in
set_option maxRecDepth 100000 in
theorem bdByte_any {B b : Nat} {l : List UInt8} {w : World} (h : Bd B b l w) (c : UInt8) (hl : l.length + 1 ≤ 140737488355328) (hB : B ≤ w.heap.size) :
    Calls Tryz.prog 35 #[.pointer (some ⟨b, 0, none⟩), .int .u8 (c.toNat : Int)] w fun e w' => e = .returned .nilIface ∧ BdU B b (l ++ [c]) w' ∧ Below B w w' ∧ OK8 b w w' ∧ w.heap.size ≤ w'.heap.size := by
  obtain ⟨i0, hi, hz0, hz1, hz2⟩ := info_parts info8b
  have KC := Lib.hid (bdCheck_any h)
  clear h
  go_enter Tryz.func35, Tryz.ntmps35
  go_wp2_with (first
    | (go_at_call 40; refine KC.out.mono ?_; rintro e w1 ⟨rfl, ⟨hb, v, hbk, hown, hne⟩, b1, o1, z1⟩; have c0 : w1.cell? ⟨b, 0, none⟩ = some (.pointer (some ⟨b, 0, none⟩)) := (by simp [World.cell?, hbk]); have c1 : w1.cell? ⟨b, 1, none⟩ = some v := (by simp [World.cell?, hbk]); have BK := Lib.hid hbk; have OW := Lib.hid hown; have NE := Lib.hid hne; have B1 := Lib.hid b1; have O1 := Lib.hid o1; have Z1 := Lib.hid z1; have HB := Lib.hid hb; clear hbk hown hne b1 o1 z1 hb)
    | (at_builtin; refine wpList_append_own_at _ rfl _ _ 40 rfl B 5 i0 _ 1 1 Tryz.underlying40 hi hz0 hz1 hz2 rfl (by decide) v _ (Lib.byteCells l) rfl (OW.out.alloc _) ⟨w1.heap.size, 0, none⟩ 1 1 [.int .u8 (c.toNat : Int)] rfl rfl (cell_one_new w1 _ _) (by intro u hu; simp at hu; subst hu; rfl) (by rw [Lib.byteCells_length]; unfold maxLen; omega) (by rw [Lib.byteCells_length]; omega) (Nat.le_trans (Nat.le_trans hB Z1.out) (by simp)) ?_; intro v2 w2 k1 k2 k3 k4; obtain ⟨g2, c2, rfl, _, _, _⟩ := row_someP k1 (fun e => by have := (k3.1 e).2; omega); have lb : b < w1.heap.size := (Array.getElem?_eq_some_iff.1 BK.out).1; have BK2 := Lib.hid (show w2.heap[b]? = some (.cells #[.pointer (some ⟨b, 0, none⟩), v] 49 (0, 0)) from (k2.block b (by simp; omega) (fun e => NE.out e.symm)).trans ((Below.heap_alloc _ _ _ lb).trans BK.out)); have d0 : w2.cell? ⟨b, 0, none⟩ = some (.pointer (some ⟨b, 0, none⟩)) := (by have := BK2.out; simp [World.cell?, this]); have d1 : w2.cell? ⟨b, 1, none⟩ = some v := (by have := BK2.out; simp [World.cell?, this]); have f1 : w2.frozen? ⟨b, 1, none⟩ = false := (by have := BK2.out; simp [World.frozen?, this]); have O2 := Lib.hid k1; have B2 := Lib.hid ((B1.out.alloc (Nat.le_trans hB Z1.out) _).grown k2 (Nat.le_trans (Nat.le_trans hB Z1.out) (by simp)) (fun k e => (OW.out.lt k e).1)); have X2 := Lib.hid (ok8_gr (O1.out.alloc _) k2 (fun k e => row_kind (OW.out.alloc _) k e)); have Z2 := Lib.hid (Nat.le_trans (Nat.le_trans Z1.out (by simp)) k2.size); clear k1 k2 k3 k4 c0 c1 lb))
  go_ret
  refine ⟨rfl, Lib.BuilderAt.put HB.out BK2.out (by have := O2.out; rw [Lib.byteCells_length]; simp only [Lib.byteCells_length] at this; simpa [Lib.byteCells] using this) (by decide), B2.out.setCell (p := ⟨b, 1, none⟩) HB.out _, X2.out.setCell ⟨b, 1, none⟩ rfl _, ?_⟩
  have := Z2.out
  simpa using this
end Go.Proofs.YtlcidigcecmnpaaGreatDoor

namespace Go.Proofs.YtlcidigcecmnpaaGreatDoor
open Go.RowKit
set_option linter.unusedVariables false
set_option linter.unusedSimpArgs false
theorem str_bytes (s : ByteArray) : Lib.strCells s = Lib.byteCells s.data.toList := by
  unfold Lib.strCells Lib.byteCells
  first | rfl | simp
set_option maxHeartbeats 2000000 in
set_option maxRecDepth 100000 in
theorem bdText_any {B b : Nat} {l : List UInt8} {w : World} (h : Bd B b l w) (s : ByteArray) (hl : l.length + s.size ≤ 140737488355328) (hB : B ≤ w.heap.size) :
    Calls Tryz.prog 22 #[.pointer (some ⟨b, 0, none⟩), .string s] w fun e w' => e = .returned (.tuple #[.int .i64 (s.size : Int), .nilIface]) ∧ BdU B b (l ++ s.data.toList) w' ∧ Below B w w' ∧ OK8 b w w' ∧ w.heap.size ≤ w'.heap.size := by
  obtain ⟨i0, hi, hz0, hz1, hz2⟩ := info_parts info8b
  have KC := Lib.hid (bdCheck_any h)
  clear h
  go_enter Tryz.func22, Tryz.ntmps22
  go_wp2_with (first
    | (go_at_call 40; refine KC.out.mono ?_; rintro e w1 ⟨rfl, ⟨hb, v, hbk, hown, hne⟩, b1, o1, z1⟩; have c0 : w1.cell? ⟨b, 0, none⟩ = some (.pointer (some ⟨b, 0, none⟩)) := (by simp [World.cell?, hbk]); have c1 : w1.cell? ⟨b, 1, none⟩ = some v := (by simp [World.cell?, hbk]); have BK := Lib.hid hbk; have OW := Lib.hid hown; have NE := Lib.hid hne; have B1 := Lib.hid b1; have O1 := Lib.hid o1; have Z1 := Lib.hid z1; have HB := Lib.hid hb; clear hbk hown hne b1 o1 z1 hb)
    | (at_builtin; refine Lib.wpList_append_own_string _ rfl _ _ 40 9 rfl B 5 i0 Tryz.underlying40 Tryz.underlying9 hi hz0 hz1 hz2 _ _ _ rfl OW.out s rfl (by rw [Lib.byteCells_length]; unfold maxLen; omega) (by rw [Lib.byteCells_length]; omega) (Nat.le_trans hB Z1.out) ?_; intro v2 w2 k1 k2 k3; have lb : b < w1.heap.size := (Array.getElem?_eq_some_iff.1 BK.out).1; have BK2 := Lib.hid (show w2.heap[b]? = some (.cells #[.pointer (some ⟨b, 0, none⟩), v] 49 (0, 0)) from (k2.block b lb (fun e => NE.out e.symm)).trans BK.out); have d0 : w2.cell? ⟨b, 0, none⟩ = some (.pointer (some ⟨b, 0, none⟩)) := (by have := BK2.out; simp [World.cell?, this]); have d1 : w2.cell? ⟨b, 1, none⟩ = some v := (by have := BK2.out; simp [World.cell?, this]); have f1 : w2.frozen? ⟨b, 1, none⟩ = false := (by have := BK2.out; simp [World.frozen?, this]); obtain ⟨ao, n2, c2, rfl⟩ : ∃ ao n' cap, v2 = .slice ao n' cap := (by rcases k1.2 with ⟨q, _⟩ | ⟨g, cap, cur, q, _⟩ <;> exact ⟨_, _, _, q⟩); have O2 := Lib.hid k1; have B2 := Lib.hid (B1.out.grown k2 (Nat.le_trans hB Z1.out) (fun k e => (OW.out.lt k e).1)); have X2 := Lib.hid (ok8_gr O1.out k2 (fun k e => row_kind OW.out k e)); have Z2 := Lib.hid (Nat.le_trans Z1.out k2.size); clear k1 k2 k3 c0 c1 lb))
  go_ret2
  refine ⟨rfl, Lib.BuilderAt.put HB.out BK2.out ?_ (by decide), B2.out.setCell (p := ⟨b, 1, none⟩) HB.out _, X2.out.setCell ⟨b, 1, none⟩ rfl _, ?_⟩
  · have := O2.out
    rw [str_bytes] at this
    have e1 : s.data.toList.length = s.size := Array.length_toList
    have e2 : Lib.byteCells (l ++ s.data.toList) = Lib.byteCells l ++ Lib.byteCells s.data.toList := by simp [Lib.byteCells]
    rw [e2, List.length_append, Lib.byteCells_length, Lib.byteCells_length, e1]
    rw [Lib.byteCells_length] at this
    exact this
  · have := Z2.out
    simpa using this
theorem bd_of {B b : Nat} {l : List UInt8} {w : World} (h : BdU B b l w) : Bd B b l w := .inr h
theorem Bd.lt {B b : Nat} {l : List UInt8} {w : World} (h : Bd B b l w) : b < w.heap.size ∧ B ≤ b ∧ ∃ cs, w.heap[b]? = some (.cells cs 49 (0, 0)) := by
  rcases h with h | h
  · obtain ⟨h1, v, h2, _⟩ := h; exact ⟨(Array.getElem?_eq_some_iff.1 h2).1, h1, _, h2⟩
  · obtain ⟨h1, v, h2, _⟩ := h; exact ⟨(Array.getElem?_eq_some_iff.1 h2).1, h1, _, h2⟩
theorem Bd.later {B b : Nat} {l : List UInt8} {w w' : World} (h : Bd B b l w) (k : Below w.heap.size w w') : Bd B b l w' := by
  have go : ∀ p, Lib.BuilderAt 49 5 B b p (Lib.byteCells l) w → Lib.BuilderAt 49 5 B b p (Lib.byteCells l) w' := fun p h => by
    obtain ⟨h1, v, h2, h3, h4⟩ := h
    exact ⟨h1, v, (k.block b (Array.getElem?_eq_some_iff.1 h2).1).trans h2, row_farP h3 (gr_below k none) (fun k q e => by cases e), h4⟩
  exact h.imp (go _) (go _)
theorem ok8_bel {b : Nat} {w w' : World} (k : Below w.heap.size w w') : OK8 b w w' := fun j o ho _ _ => (k.block j (Array.getElem?_eq_some_iff.1 ho).1).trans ho
/-- What a call that writes into a builder leaves. -/
structure BdR (B b : Nat) (l : List UInt8) (w w' : World) : Prop where
  bd : Bd B b l w'
  bel : Below B w w'
  ok : OK8 b w w'
  sz : w.heap.size ≤ w'.heap.size
theorem BdR.trans {B b : Nat} {l l' : List UInt8} {w w' w'' : World} (h : BdR B b l w w') (k : BdR B b l' w' w'') : BdR B b l' w w'' := ⟨k.bd, h.bel.trans k.bel, h.ok.trans k.ok, Nat.le_trans h.sz k.sz⟩
theorem BdR.later {B b : Nat} {l : List UInt8} {w w' w'' : World} (h : BdR B b l w w') (hB : B ≤ w'.heap.size) (k : Below w'.heap.size w' w'') : BdR B b l w w'' := ⟨h.bd.later k, h.bel.trans (k.mono hB), h.ok.trans (ok8_bel k), Nat.le_trans h.sz k.size⟩
theorem BdR.start {B b : Nat} {l : List UInt8} {w : World} (h : Bd B b l w) : BdR B b l w w := ⟨h, Below.refl _ _, Lib.OthersKept.refl _ _ _, Nat.le_refl _⟩
theorem BdR.hB {B b : Nat} {l : List UInt8} {w w' : World} (h : BdR B b l w w') : B ≤ w'.heap.size := by have := h.bd.lt; omega
/-- A list of words, where the world holds it: below B, or in a row of texts. -/
def WL (B : Nat) (W : World) (a : Option Addr) (n : Nat) (ws : List ByteArray) : Prop :=
  ws.length = n ∧ (n = 0 ∨ ∃ g o, a = some ⟨g, o, none⟩ ∧ g < W.heap.size ∧ (g < B ∨ ∃ cs fz, W.heap[g]? = some (.cells cs 9 fz)) ∧ ∀ j x, ws[j]? = some x → W.cell? ⟨g, o + j, none⟩ = some (.string x))
theorem cell_block {w w' : World} {g k : Nat} (h : w'.heap[g]? = w.heap[g]?) : w'.cell? ⟨g, k, none⟩ = w.cell? ⟨g, k, none⟩ := by unfold World.cell?; simp only [h]
theorem WL.keep {B b : Nat} {l l' : List UInt8} {w w' : World} {a : Option Addr} {n : Nat} {ws : List ByteArray} (h : WL B w a n ws) (hb : Bd B b l w) (k : BdR B b l' w w') : WL B w' a n ws := by
  refine ⟨h.1, h.2.imp id ?_⟩
  rintro ⟨g, o, e, h1, h2, h3⟩
  have hg : w'.heap[g]? = w.heap[g]? := by
    rcases h2 with q | ⟨cs, fz, q⟩
    · exact k.bel.block g q
    · rw [q]
      refine k.ok g _ q (fun e => ?_) (fun c f e => ?_)
      · injection e with e
        subst e
        obtain ⟨cs', hc⟩ := hb.lt.2.2
        rw [q] at hc
        injection hc with hc
        injection hc with _ hc _
        revert hc; decide
      · injection e with _ e _
        revert e; decide
  refine ⟨g, o, e, Nat.lt_of_lt_of_le h1 k.sz, h2.imp id (fun ⟨cs, fz, q⟩ => ⟨cs, fz, hg.trans q⟩), fun j x hj => (cell_block hg).trans (h3 j x hj)⟩
theorem WL.later {B : Nat} {w w' : World} {a : Option Addr} {n : Nat} {ws : List ByteArray} (h : WL B w a n ws) (k : Below w.heap.size w w') : WL B w' a n ws := by
  refine ⟨h.1, h.2.imp id ?_⟩
  rintro ⟨g, o, e, h1, h2, h3⟩
  have hg := k.block g h1
  exact ⟨g, o, e, Nat.lt_of_lt_of_le h1 k.size, h2.imp id (fun ⟨cs, fz, q⟩ => ⟨cs, fz, hg.trans q⟩), fun j x hj => (cell_block hg).trans (h3 j x hj)⟩
theorem WL.size {B : Nat} {w : World} {a : Option Addr} {n : Nat} {ws : List ByteArray} (h : WL B w a n ws) : ws.length = n := h.1
/-- Words joined, as bytes. -/
def jnL (ws : List ByteArray) : List UInt8 := Lib.join (ws.map (·.data.toList)) [32]
theorem joinW_any {B : Nat} {w : World} {a : Option Addr} {n c : Nat} {ws : List ByteArray} (h : WL B w a n ws) (hc : n ≤ c) (hn : n ≤ 140737488355328) (hz : (jnL ws).length ≤ 140737488355328) :
    Calls Tryz.prog 41 #[.slice a n c, .string ⟨#[32]⟩] w fun e w' => e = .returned (.string ⟨(jnL ws).toArray⟩) ∧ Below w.heap.size w w' := by
  obtain ⟨h1, h2⟩ := h
  rcases h2 with q | ⟨g, o, rfl, q1, _, q3⟩
  · subst q
    have e : ws = [] := List.length_eq_zero_iff.1 h1
    subst e
    refine (Tryz.strings_Join_none a c ⟨#[32]⟩ w).mono ?_
    rintro e w' ⟨rfl, rfl⟩
    exact ⟨by simp [jnL, Lib.join_nil], Below.refl _ _⟩
  · subst h1
    exact Tryz.strings_Join g o c ws ⟨#[32]⟩ w q3 q1 hn hc hz
set_option maxHeartbeats 2000000 in
set_option maxRecDepth 100000 in
theorem writeWords_any {B b : Nat} {l : List UInt8} {w : World} (h : Bd B b l w) {a : Option Addr} {n c : Nat} {ws : List ByteArray} (hw : WL B w a n ws) (hc : n ≤ c) (hz : l.length + (jnL ws).length + 1 ≤ 140737488355328) (hn : n ≤ 140737488355328) :
    Calls Tryz.prog 23 #[.pointer (some ⟨b, 0, none⟩), .slice a n c] w fun e w' => e = .returned (.tuple #[]) ∧ BdR B b (l ++ jnL ws ++ [10]) w w' := by
  have hB : B ≤ w.heap.size := by have := h.lt; omega
  have KJ := Lib.hid (joinW_any hw hc hn (by omega))
  have R0 := Lib.hid (BdR.start h)
  have sz : (⟨(jnL ws).toArray⟩ : ByteArray).size = (jnL ws).length := by simp [ByteArray.size]
  have KT := Lib.hid (fun W (q : Bd B b l W) (z : B ≤ W.heap.size) => bdText_any q ⟨(jnL ws).toArray⟩ (by rw [sz]; omega) z)
  have KB := Lib.hid (fun W (q : Bd B b (l ++ jnL ws) W) (z : B ≤ W.heap.size) => bdByte_any q 10 (by simp; omega) z)
  clear hw h sz hz hn
  generalize jnL ws = js at *
  simp only at KT
  go_enter Tryz.func23, Tryz.ntmps23
  go_wp2_with (first
    | (go_at_call 41; refine KJ.out.mono ?_; rintro e w1 ⟨rfl, b1⟩; have R1 := Lib.hid (R0.out.later hB b1); clear b1)
    | (go_at_call 22; refine (KT.out _ R1.out.bd R1.out.hB).mono ?_; rintro e w2 ⟨rfl, u2, b2, o2, z2⟩; have R2 := Lib.hid (R1.out.trans ⟨bd_of u2, b2, o2, z2⟩); clear u2 b2 o2 z2)
    | (go_at_call 35; refine (KB.out _ R2.out.bd R2.out.hB).mono ?_; rintro e w3 ⟨rfl, u2, b2, o2, z2⟩; have R3 := Lib.hid (R2.out.trans ⟨bd_of u2, b2, o2, z2⟩); clear u2 b2 o2 z2))
  go_end0
  exact ⟨rfl, R3.out⟩
end Go.Proofs.YtlcidigcecmnpaaGreatDoor

namespace Go.Proofs.YtlcidigcecmnpaaGreatDoor
open Go.RowKit
set_option linter.unusedVariables false
set_option linter.unusedSimpArgs false
def lnAL : List ByteArray := [⟨#[110, 97, 109, 101, 115]⟩, ⟨#[99, 117, 114, 115]⟩, ⟨#[112, 111, 111, 108]⟩, ⟨#[104, 111, 114, 105, 122, 111, 110]⟩, ⟨#[99, 101, 108, 108, 115]⟩, ⟨#[115, 108, 111, 116, 115]⟩, ⟨#[115, 116, 97, 99, 107]⟩, ⟨#[100, 97, 121]⟩]
/-- A line's first word. -/
def lnA (k : Nat) : ByteArray := lnAL.getD k ⟨#[]⟩
theorem ln_size : ∀ k, k < 8 → (lnA k).size ≤ 7 := by
  intro k hk
  match k, hk with
  | 0, _ => decide
  | 1, _ => decide
  | 2, _ => decide
  | 3, _ => decide
  | 4, _ => decide
  | 5, _ => decide
  | 6, _ => decide
  | 7, _ => decide
/-- The lines' words, where the program keeps them. -/
def LnG (w : World) : Prop := 0 < w.heap.size ∧ ∀ k, k < 8 → w.cell? ⟨0, k * 2, none⟩ = some (.string (lnA k))
theorem LnG.later {w w' : World} {B : Nat} (h : LnG w) (hB : w.heap.size ≤ B) (b : Below B w w') (hz : w.heap.size ≤ w'.heap.size) : LnG w' := ⟨Nat.lt_of_lt_of_le h.1 hz, fun k hk => (b.cell (p := ⟨0, k * 2, none⟩) (Nat.lt_of_lt_of_le h.1 hB)).trans (h.2 k hk)⟩
/-- What a list's line says. -/
def lnL (k : Nat) (ws : List ByteArray) : List UInt8 := if ws = [] then [] else (lnA k).data.toList ++ [32] ++ jnL ws ++ [10]
/-- What a number's line says. -/
def nmLn (k : Nat) (v : Int) : List UInt8 := jnL [lnA k, txA v] ++ [10]
set_option maxHeartbeats 2000000 in
set_option maxRecDepth 100000 in
theorem writeList_any {B b : Nat} {l : List UInt8} {w : World} (h : Bd B b l w) (hG : ∀ W, Below B w W → LnG W) (k : Nat) (hk : k < 3) {a : Option Addr} {n c : Nat} {ws : List ByteArray} (hw : WL B w a n ws) (hc : n ≤ c) (hz : l.length + (jnL ws).length + 100 ≤ 140737488355328) (hn : n ≤ 140737488355328) :
    Calls Tryz.prog 18 #[.pointer (some ⟨b, 0, none⟩), .int .i64 (k : Int), .slice a n c] w fun e w' => e = .returned (.tuple #[]) ∧ BdR B b (l ++ lnL k ws) w w' := by
  by_cases h0 : n = 0
  · subst h0
    have e0 : ws = [] := List.length_eq_zero_iff.1 hw.1
    subst e0
    have R0 := Lib.hid (BdR.start h)
    have el : l ++ lnL k [] = l := by simp [lnL]
    rw [el]
    clear h hG hw hz hn hc el
    go_enter Tryz.func18, Tryz.ntmps18
    go_wp2
    refine bodyPost_ret (results_none rfl _ _ _) rfl ?_
    exact ⟨rfl, R0.out⟩
  · have ne : ws ≠ [] := fun q => h0 (by rw [← hw.1, q]; rfl)
    have n0 : ((n : Int) == 0) = false := by simp; omega
    have n1 : ¬ (n : Int) = 0 := by omega
    have R0 := Lib.hid (BdR.start h)
    have g0 := (hG w (Below.refl _ _)).2 k (by omega)
    have ls := ln_size k (by omega)
    have lz : (lnA k).data.toList.length = (lnA k).size := Array.length_toList
    have KT := Lib.hid (bdText_any h (lnA k) (by omega) (by have := h.lt; omega))
    have KB := Lib.hid (fun W (q : Bd B b (l ++ (lnA k).data.toList) W) (z : B ≤ W.heap.size) => bdByte_any q 32 (by simp only [List.length_append, lz]; omega) z)
    have KW := Lib.hid (fun W (q : Bd B b (l ++ (lnA k).data.toList ++ [32]) W) (z : WL B W a n ws) => writeWords_any q z hc (by simp only [List.length_append, lz]; simp; omega) hn)
    have el : l ++ lnL k ws = l ++ (lnA k).data.toList ++ [32] ++ jnL ws ++ [10] := by unfold lnL; rw [if_neg ne]; simp
    have kc : (k : Int) < 8 := by omega
    rw [el]
    have HB := Lib.hid h
    have HW := Lib.hid hw
    clear h hG hw hz hn el ne ls lz h0
    generalize lnA k = nm at *
    go_enter Tryz.func18, Tryz.ntmps18
    go_wp2_with (first
      | (go_at_call 22; refine KT.out.mono ?_; rintro e w2 ⟨rfl, u2, b2, o2, z2⟩; have R2 := Lib.hid (R0.out.trans ⟨bd_of u2, b2, o2, z2⟩); clear u2 b2 o2 z2)
      | (go_at_call 35; refine (KB.out _ R2.out.bd R2.out.hB).mono ?_; rintro e w3 ⟨rfl, u2, b2, o2, z2⟩; have R3 := Lib.hid (R2.out.trans ⟨bd_of u2, b2, o2, z2⟩); clear u2 b2 o2 z2)
      | (go_at_call 23; refine (KW.out _ R3.out.bd (HW.out.keep HB.out R3.out)).mono ?_; rintro e w4 ⟨rfl, r4⟩; have R4 := Lib.hid (R3.out.trans r4); clear r4))
    go_end0
    exact ⟨rfl, R4.out⟩
theorem wl_lit2 {B : Nat} (W : World) (x y : ByteArray) : WL B (W.alloc (.cells #[.string x, .string y] 9)) (some ⟨W.heap.size, 0, none⟩) 2 [x, y] := by
  refine ⟨rfl, .inr ⟨W.heap.size, 0, rfl, by simp, .inr ⟨_, _, heapN W _⟩, fun j z hj => ?_⟩⟩
  rw [Nat.zero_add]
  match j, hj with
  | 0, hj => simp at hj; subst hj; simp
  | 1, hj => simp at hj; subst hj; simp
set_option maxHeartbeats 2000000 in
set_option maxRecDepth 100000 in
theorem writeNumber_any {B b : Nat} {l : List UInt8} {w : World} (h : Bd B b l w) (hG : LnG w) (hP : Pows w) (k : Nat) (hk : k < 8) (v : Int) (hv : i64 v) (hz : l.length + 100 ≤ 140737488355328) :
    Calls Tryz.prog 20 #[.pointer (some ⟨b, 0, none⟩), .int .i64 (k : Int), .int .i64 v] w fun e w' => e = .returned (.tuple #[]) ∧ BdR B b (l ++ nmLn k v) w w' := by
  have R0 := Lib.hid (BdR.start h)
  have g0 := hG.2 k hk
  have gl := Lib.hid hG.1
  have ls := ln_size k hk
  have ts := txA_len hv
  have kc : (k : Int) < 8 := by omega
  have jl : (jnL [lnA k, txA v]).length ≤ 30 := by
    have e1 : (lnA k).data.toList.length = (lnA k).size := Array.length_toList
    have e2 : (txA v).data.toList.length = (txA v).size := Array.length_toList
    unfold jnL
    simp only [List.map_cons, List.map_nil, Lib.join_cons, Lib.joinTail, List.flatten_cons, List.flatten_nil, List.length_append, List.append_nil, List.length_cons, List.length_nil, e1, e2]
    omega
  have KV := Lib.hid (fun W (b : Below w.heap.size w W) => valueText_any v hv W (hP.later b))
  have KW := Lib.hid (fun W (q : Bd B b l W) (a : Nat) (z : WL B W (some ⟨a, 0, none⟩) 2 [lnA k, txA v]) => writeWords_any q z (c := 2) (by omega) (by omega) (by omega))
  have el : l ++ nmLn k v = l ++ jnL [lnA k, txA v] ++ [10] := by unfold nmLn; simp
  have hB : B ≤ w.heap.size := by have := h.lt; omega
  rw [el]
  clear h hG hP hv hz ls ts jl el
  generalize hj : jnL [lnA k, txA v] = js at *
  clear hj
  generalize lnA k = nm at *
  generalize txA v = tv at *
  go_enter Tryz.func20, Tryz.ntmps20
  go_wp2
  go_region_law (first
    | (go_simp; go_at_call 36; refine (KV.out _ (Below.refl _ _).drew).mono ?_; rintro e w1 ⟨rfl, b1⟩; have B1 := Lib.hid (show Below w.heap.size w w1 from (Below.refl _ _).drew.trans b1); have R1 := Lib.hid (R0.out.later hB B1.out); have g1 := (B1.out.cell (p := ⟨0, k * 2, none⟩) gl.out).trans g0; clear b1)
    | (go_simp; go_at_call 23; refine (KW.out _ (R1.out.later R1.out.hB (allocBP w1 _)).bd _ (wl_lit2 w1 nm tv)).mono ?_; rintro e w2 ⟨rfl, r2⟩; have R2 := Lib.hid ((R1.out.later R1.out.hB (allocBP w1 _)).trans r2); clear r2))
  all_goals
    go_wp2
    go_end0
    exact ⟨rfl, R2.out⟩
/-- A row of texts of one's own. -/
def OwT13 (W : World) (B : Nat) (v : Value) (ws : List ByteArray) : Prop := W.ownsRow B 9 1 v ws.length (strsP ws)
theorem OwT13.wl {W : World} {B B' : Nat} {v : Value} {ws : List ByteArray} (h : OwT13 W B' v ws) : ∃ a c, v = .slice a ws.length c ∧ ws.length ≤ c ∧ WL B W a ws.length ws := by
  have hh : W.ownsRow B' 9 1 v ws.length (strsP ws) := h
  rcases hh.2 with ⟨rfl, q⟩ | ⟨g, cap, cur, rfl, h1, h2, h3, h4, _⟩
  · exact ⟨none, 0, by rw [q], by omega, rfl, .inl q⟩
  · refine ⟨_, _, rfl, h3, rfl, .inr ⟨g, 0, rfl, (Array.getElem?_eq_some_iff.1 h2).1, .inr ⟨_, _, h2⟩, fun j x hj => ?_⟩⟩
    have := hh.cells (g := g) rfl j (.string x) (by simp [strsP, hj])
    rw [Go.Addr.add_lit] at this
    exact this
set_option maxHeartbeats 2000000 in
set_option maxRecDepth 100000 in
theorem valueTexts_any {w : World} {a : Option Addr} {n c : Nat} {l : List Int} (h : NR w a n c l) (hn : n ≤ 1000000) (hP : Pows w) :
    Calls Tryz.prog 19 #[.slice a n c] w fun e w' => ∃ v, e = .returned v ∧ OwT13 w' w.heap.size v (l.map txA) ∧ Below w.heap.size w w' := by
  obtain ⟨iS, hiS, hziS0, hziS1, hziS2⟩ := info_parts infoPS
  obtain ⟨_, l1, b1, hi, r1⟩ := h
  have KV := Lib.hid (fun W (b : Below w.heap.size w W) (v : Int) (hv : i64 v) => valueText_any v hv W (hP.later b))
  have RR := Lib.hid r1
  have HI := Lib.hid hi
  have L1 := Lib.hid l1
  clear r1 hi hP l1
  go_enter Tryz.func19, Tryz.ntmps19
  go_wp2
  go_loopw [3, 8] (fun t u wr => ∃ (k : Nat) (v : Value), k ≤ n ∧ v = t ∧ u = .int .i64 (k : Int) ∧ OwT13 wr w.heap.size v ((l.take k).map txA) ∧ Below w.heap.size w wr) (fun t u _ => n - (intOf u).toNat)
  case atStart => exact ⟨0, _, by omega, rfl, rfl, World.ownsRow_nil _ _ _ _, Below.refl _ _⟩
  case round =>
    rename World => wr
    obtain ⟨k, v, hk, rfl, rfl, hO, hB⟩ := hrel
    have O := Lib.hid hO
    have BB := Lib.hid hB
    clear hO hB
    by_cases hlt : k < n
    · have kc : (k : Int) < (n : Int) := by omega
      have kl : k < l.length := by rw [L1.out]; exact hlt
      obtain ⟨x, o, rfl, hx⟩ : ∃ x o, a = some ⟨x, o, none⟩ ∧ ∀ W, Below w.heap.size w W → W.cell? ⟨x, o + k, none⟩ = some (.int .i64 (l.getD k 0)) := by
        rcases RR.out with q | ⟨b, o, e, h1, h2⟩
        · omega
        · refine ⟨b, o, e, fun W bb => ?_⟩
          have := h2 k hlt 0 (by omega)
          simp only [Nat.mul_one, Nat.add_zero, List.getD_cons_zero] at this
          exact (bb.cell (p := ⟨b, o + k, none⟩) h1).trans this
      have c0 := hx _ BB.out
      have hv : i64 (l.getD k 0) := HI.out _ (by simp [List.getD, kl])
      have KV1 := Lib.hid (fun W b => KV.out W b _ hv)
      have ST := Lib.hid (p := (l.take (k + 1)).map txA = (l.take k).map txA ++ [txA (l.getD k 0)]) (by
        rw [List.take_succ_eq_append_getElem kl, List.map_append]
        simp [List.getD, kl])
      have LT := Lib.hid (p := ((l.take k).map txA).length = k) (by simp; omega)
      generalize l.getD k 0 = z at *
      generalize txA z = tz at *
      generalize hp : (l.take k).map txA = pre at *
      have NB := Lib.hid (p := k + 1 ≤ maxLen ∧ (k + 1) * 16 ≤ 140737488355328) (by unfold maxLen; omega)
      clear hp hv hx kl
      have O1 := O.out
      unfold OwT13 at O1
      rw [LT.out] at O1
      have O1 := Lib.hid O1
      go_wp2_with (first
        | (go_at_call 36; refine (KV1.out _ BB.out).mono ?_; rintro e w1 ⟨rfl, b1⟩; have B1 := Lib.hid (BB.out.trans (b1.mono BB.out.size)); have O2 := Lib.hid (row_farP O1.out (gr_below b1 none) (fun k q e => by cases e)); clear b1)
        | (at_builtin; refine wpList_append_own_at _ rfl _ _ 22 rfl w.heap.size 9 iS _ 1 16 Tryz.underlying22 hiS hziS0 hziS1 hziS2 rfl (by decide) v k (strsP pre) rfl (O2.out.alloc _) ⟨w1.heap.size, 0, none⟩ 1 1 [.string tz] rfl rfl (cell_one_new w1 _ _) (by intro u hu; simp at hu; subst hu; rfl) NB.out.1 (by have := NB.out.2; omega) (Nat.le_trans B1.out.size (by simp)) ?_; intro v2 w2 k1 k2 k3 k4; have O3 := Lib.hid k1; have B2 := Lib.hid ((B1.out.alloc B1.out.size _).grown k2 (Nat.le_trans B1.out.size (by simp)) (fun k e => (O2.out.lt k e).1)); clear k1 k2 k3 k4))
      go_roundw
      case rel =>
        refine ⟨k + 1, _, by omega, rfl, by go_num, ?_, B2.out⟩
        rw [ST.out]
        unfold OwT13
        rw [List.length_append, LT.out]
        have e : strsP (pre ++ [tz]) = strsP pre ++ [.string tz] := by simp [strsP]
        rw [e]
        exact O3.out
      case measure => simp [intOf]; omega
    · obtain rfl : k = n := by omega
      have e : l.take l.length = l := List.take_length
      have O1 := O.out
      rw [← L1.out, e] at O1
      have O1 := Lib.hid O1
      clear O
      go_wp2
      go_ret
      exact ⟨_, rfl, O1.out, BB.out⟩
end Go.Proofs.YtlcidigcecmnpaaGreatDoor
