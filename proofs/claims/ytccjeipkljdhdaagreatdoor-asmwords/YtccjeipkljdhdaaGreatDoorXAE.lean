import Derived.Test.YtccjeipkljdhdaaGreatDoorXAC
import Derived.Test.YtccjeipkljdhdaaGreatDoorXAD
namespace Go.Proofs.YtccjeipkljdhdaaGreatDoor
open Go.RowKit
set_option linter.unusedVariables false
set_option linter.unusedSimpArgs false
theorem str_bytes (s : ByteArray) : Lib.strCells s = Lib.byteCells s.data.toList := by
  unfold Lib.strCells Lib.byteCells
  first | rfl | simp
set_option maxHeartbeats 2000000 in
set_option maxRecDepth 100000 in
theorem bdText_any {B b : Nat} {l : List UInt8} {w : World} (h : Bd B b l w) (s : ByteArray) (hl : l.length + s.size ≤ 140737488355328) (hB : B ≤ w.heap.size) :
    Calls Tryz.prog 41 #[.pointer (some ⟨b, 0, none⟩), .string s] w fun e w' => e = .returned (.tuple #[.int .i64 (s.size : Int), .nilIface]) ∧ BdU B b (l ++ s.data.toList) w' ∧ Below B w w' ∧ OK8 b w w' ∧ w.heap.size ≤ w'.heap.size := by
  obtain ⟨i0, hi, hz0, hz1, hz2⟩ := info_parts info8b
  have KC := Lib.hid (bdCheck_any h)
  clear h
  go_enter Tryz.func41, Tryz.ntmps41
  go_wp2_with (first
    | (go_at_call 73; refine KC.out.mono ?_; rintro e w1 ⟨rfl, ⟨hb, v, hbk, hown, hne⟩, b1, o1, z1⟩; have c0 : w1.cell? ⟨b, 0, none⟩ = some (.pointer (some ⟨b, 0, none⟩)) := (by simp [World.cell?, hbk]); have c1 : w1.cell? ⟨b, 1, none⟩ = some v := (by simp [World.cell?, hbk]); have BK := Lib.hid hbk; have OW := Lib.hid hown; have NE := Lib.hid hne; have B1 := Lib.hid b1; have O1 := Lib.hid o1; have Z1 := Lib.hid z1; have HB := Lib.hid hb; clear hbk hown hne b1 o1 z1 hb)
    | (at_builtin; refine Lib.wpList_append_own_string _ rfl _ _ 78 9 rfl B 5 i0 Tryz.underlying78 Tryz.underlying9 hi hz0 hz1 hz2 _ _ _ rfl OW.out s rfl (by rw [Lib.byteCells_length]; unfold maxLen; omega) (by rw [Lib.byteCells_length]; omega) (Nat.le_trans hB Z1.out) ?_; intro v2 w2 k1 k2 k3; have lb : b < w1.heap.size := (Array.getElem?_eq_some_iff.1 BK.out).1; have BK2 := Lib.hid (show w2.heap[b]? = some (.cells #[.pointer (some ⟨b, 0, none⟩), v] 80 (0, 0)) from (k2.block b lb (fun e => NE.out e.symm)).trans BK.out); have d0 : w2.cell? ⟨b, 0, none⟩ = some (.pointer (some ⟨b, 0, none⟩)) := (by have := BK2.out; simp [World.cell?, this]); have d1 : w2.cell? ⟨b, 1, none⟩ = some v := (by have := BK2.out; simp [World.cell?, this]); have f1 : w2.frozen? ⟨b, 1, none⟩ = false := (by have := BK2.out; simp [World.frozen?, this]); obtain ⟨ao, n2, c2, rfl⟩ : ∃ ao n' cap, v2 = .slice ao n' cap := (by rcases k1.2 with ⟨q, _⟩ | ⟨g, cap, cur, q, _⟩ <;> exact ⟨_, _, _, q⟩); have O2 := Lib.hid k1; have B2 := Lib.hid (B1.out.grown k2 (Nat.le_trans hB Z1.out) (fun k e => (OW.out.lt k e).1)); have X2 := Lib.hid (ok8_gr O1.out k2 (fun k e => row_kind OW.out k e)); have Z2 := Lib.hid (Nat.le_trans Z1.out k2.size); clear k1 k2 k3 c0 c1 lb))
  go_ret2
  refine ⟨rfl, Lib.BuilderAt.put HB.out BK2.out ?_ (by decide), B2.out.setCell (p := ⟨b, 1, none⟩) HB.out _, X2.out.setCell ⟨b, 1, none⟩ rfl _, ?_⟩
  · have := O2.out
    rw [str_bytes] at this
    have e1 : s.data.toList.length = s.size := Array.length_toList
    have e2 : Lib.byteCells (l ++ s.data.toList) = Lib.byteCells l ++ Lib.byteCells s.data.toList := by simp [Lib.byteCells]
    rw [e2, List.length_append, Lib.byteCells_length, Lib.byteCells_length, e1]
    rw [Lib.byteCells_length] at this
    exact this
  · have := Z2.out
    simpa using this
theorem bd_of {B b : Nat} {l : List UInt8} {w : World} (h : BdU B b l w) : Bd B b l w := .inr h
theorem Bd.lt {B b : Nat} {l : List UInt8} {w : World} (h : Bd B b l w) : b < w.heap.size ∧ B ≤ b ∧ ∃ cs, w.heap[b]? = some (.cells cs 80 (0, 0)) := by
  rcases h with h | h
  · obtain ⟨h1, v, h2, _⟩ := h; exact ⟨(Array.getElem?_eq_some_iff.1 h2).1, h1, _, h2⟩
  · obtain ⟨h1, v, h2, _⟩ := h; exact ⟨(Array.getElem?_eq_some_iff.1 h2).1, h1, _, h2⟩
theorem Bd.later {B b : Nat} {l : List UInt8} {w w' : World} (h : Bd B b l w) (k : Below w.heap.size w w') : Bd B b l w' := by
  have go : ∀ p, Lib.BuilderAt 80 5 B b p (Lib.byteCells l) w → Lib.BuilderAt 80 5 B b p (Lib.byteCells l) w' := fun p h => by
    obtain ⟨h1, v, h2, h3, h4⟩ := h
    exact ⟨h1, v, (k.block b (Array.getElem?_eq_some_iff.1 h2).1).trans h2, row_farP h3 (gr_below k none) (fun k q e => by cases e), h4⟩
  exact h.imp (go _) (go _)
theorem ok8_bel {b : Nat} {w w' : World} (k : Below w.heap.size w w') : OK8 b w w' := fun j o ho _ _ => (k.block j (Array.getElem?_eq_some_iff.1 ho).1).trans ho
/-- What a call that writes into a builder leaves. -/
structure BdR (B b : Nat) (l : List UInt8) (w w' : World) : Prop where
  bd : Bd B b l w'
  bel : Below B w w'
  ok : OK8 b w w'
  sz : w.heap.size ≤ w'.heap.size
theorem BdR.trans {B b : Nat} {l l' : List UInt8} {w w' w'' : World} (h : BdR B b l w w') (k : BdR B b l' w' w'') : BdR B b l' w w'' := ⟨k.bd, h.bel.trans k.bel, h.ok.trans k.ok, Nat.le_trans h.sz k.sz⟩
theorem BdR.later {B b : Nat} {l : List UInt8} {w w' w'' : World} (h : BdR B b l w w') (hB : B ≤ w'.heap.size) (k : Below w'.heap.size w' w'') : BdR B b l w w'' := ⟨h.bd.later k, h.bel.trans (k.mono hB), h.ok.trans (ok8_bel k), Nat.le_trans h.sz k.size⟩
theorem BdR.start {B b : Nat} {l : List UInt8} {w : World} (h : Bd B b l w) : BdR B b l w w := ⟨h, Below.refl _ _, Lib.OthersKept.refl _ _ _, Nat.le_refl _⟩
theorem BdR.hB {B b : Nat} {l : List UInt8} {w w' : World} (h : BdR B b l w w') : B ≤ w'.heap.size := by have := h.bd.lt; omega
/-- A list of words, where the world holds it: below B, or in a row of texts. -/
def WL (B : Nat) (W : World) (a : Option Addr) (n : Nat) (ws : List ByteArray) : Prop :=
  ws.length = n ∧ (n = 0 ∨ ∃ g o, a = some ⟨g, o, none⟩ ∧ g < W.heap.size ∧ (g < B ∨ ∃ cs fz, W.heap[g]? = some (.cells cs 9 fz)) ∧ ∀ j x, ws[j]? = some x → W.cell? ⟨g, o + j, none⟩ = some (.string x))
theorem cell_block {w w' : World} {g k : Nat} (h : w'.heap[g]? = w.heap[g]?) : w'.cell? ⟨g, k, none⟩ = w.cell? ⟨g, k, none⟩ := by unfold World.cell?; simp only [h]
theorem WL.keep {B b : Nat} {l l' : List UInt8} {w w' : World} {a : Option Addr} {n : Nat} {ws : List ByteArray} (h : WL B w a n ws) (hb : Bd B b l w) (k : BdR B b l' w w') : WL B w' a n ws := by
  refine ⟨h.1, h.2.imp id ?_⟩
  rintro ⟨g, o, e, h1, h2, h3⟩
  have hg : w'.heap[g]? = w.heap[g]? := by
    rcases h2 with q | ⟨cs, fz, q⟩
    · exact k.bel.block g q
    · rw [q]
      refine k.ok g _ q (fun e => ?_) (fun c f e => ?_)
      · injection e with e
        subst e
        obtain ⟨cs', hc⟩ := hb.lt.2.2
        rw [q] at hc
        injection hc with hc
        injection hc with _ hc _
        revert hc; decide
      · injection e with _ e _
        revert e; decide
  refine ⟨g, o, e, Nat.lt_of_lt_of_le h1 k.sz, h2.imp id (fun ⟨cs, fz, q⟩ => ⟨cs, fz, hg.trans q⟩), fun j x hj => (cell_block hg).trans (h3 j x hj)⟩
theorem WL.later {B : Nat} {w w' : World} {a : Option Addr} {n : Nat} {ws : List ByteArray} (h : WL B w a n ws) (k : Below w.heap.size w w') : WL B w' a n ws := by
  refine ⟨h.1, h.2.imp id ?_⟩
  rintro ⟨g, o, e, h1, h2, h3⟩
  have hg := k.block g h1
  exact ⟨g, o, e, Nat.lt_of_lt_of_le h1 k.size, h2.imp id (fun ⟨cs, fz, q⟩ => ⟨cs, fz, hg.trans q⟩), fun j x hj => (cell_block hg).trans (h3 j x hj)⟩
theorem WL.size {B : Nat} {w : World} {a : Option Addr} {n : Nat} {ws : List ByteArray} (h : WL B w a n ws) : ws.length = n := h.1
/-- Words joined, as bytes. -/
def jnL (ws : List ByteArray) : List UInt8 := Lib.join (ws.map (·.data.toList)) [32]
theorem joinW_any {B : Nat} {w : World} {a : Option Addr} {n c : Nat} {ws : List ByteArray} (h : WL B w a n ws) (hc : n ≤ c) (hn : n ≤ 140737488355328) (hz : (jnL ws).length ≤ 140737488355328) :
    Calls Tryz.prog 25 #[.slice a n c, .string ⟨#[32]⟩] w fun e w' => e = .returned (.string ⟨(jnL ws).toArray⟩) ∧ Below w.heap.size w w' := by
  obtain ⟨h1, h2⟩ := h
  rcases h2 with q | ⟨g, o, rfl, q1, _, q3⟩
  · subst q
    have e : ws = [] := List.length_eq_zero_iff.1 h1
    subst e
    refine (Tryz.strings_Join_none a c ⟨#[32]⟩ w).mono ?_
    rintro e w' ⟨rfl, rfl⟩
    exact ⟨by simp [jnL, Lib.join_nil], Below.refl _ _⟩
  · subst h1
    exact Tryz.strings_Join g o c ws ⟨#[32]⟩ w q3 q1 hn hc hz
set_option maxHeartbeats 2000000 in
set_option maxRecDepth 100000 in
theorem writeWords_any {B b : Nat} {l : List UInt8} {w : World} (h : Bd B b l w) {a : Option Addr} {n c : Nat} {ws : List ByteArray} (hw : WL B w a n ws) (hc : n ≤ c) (hz : l.length + (jnL ws).length + 1 ≤ 140737488355328) (hn : n ≤ 140737488355328) :
    Calls Tryz.prog 42 #[.pointer (some ⟨b, 0, none⟩), .slice a n c] w fun e w' => e = .returned (.tuple #[]) ∧ BdR B b (l ++ jnL ws ++ [10]) w w' := by
  have hB : B ≤ w.heap.size := by have := h.lt; omega
  have KJ := Lib.hid (joinW_any hw hc hn (by omega))
  have R0 := Lib.hid (BdR.start h)
  have sz : (⟨(jnL ws).toArray⟩ : ByteArray).size = (jnL ws).length := by simp [ByteArray.size]
  have KT := Lib.hid (fun W (q : Bd B b l W) (z : B ≤ W.heap.size) => bdText_any q ⟨(jnL ws).toArray⟩ (by rw [sz]; omega) z)
  have KB := Lib.hid (fun W (q : Bd B b (l ++ jnL ws) W) (z : B ≤ W.heap.size) => bdByte_any q 10 (by simp; omega) z)
  clear hw h sz hz hn
  generalize jnL ws = js at *
  simp only at KT
  go_enter Tryz.func42, Tryz.ntmps42
  go_wp2_with (first
    | (go_at_call 25; refine KJ.out.mono ?_; rintro e w1 ⟨rfl, b1⟩; have R1 := Lib.hid (R0.out.later hB b1); clear b1)
    | (go_at_call 41; refine (KT.out _ R1.out.bd R1.out.hB).mono ?_; rintro e w2 ⟨rfl, u2, b2, o2, z2⟩; have R2 := Lib.hid (R1.out.trans ⟨bd_of u2, b2, o2, z2⟩); clear u2 b2 o2 z2)
    | (go_at_call 72; refine (KB.out _ R2.out.bd R2.out.hB).mono ?_; rintro e w3 ⟨rfl, u2, b2, o2, z2⟩; have R3 := Lib.hid (R2.out.trans ⟨bd_of u2, b2, o2, z2⟩); clear u2 b2 o2 z2))
  go_end0
  exact ⟨rfl, R3.out⟩
end Go.Proofs.YtccjeipkljdhdaaGreatDoor
