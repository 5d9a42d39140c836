/-
  LISTS OF INSTRUCTIONS IN MEMORY; WALKS: Encode of both.
-/
import Derived.Test.YtdbjdieegocdfaaDoorWCode8
namespace Go.Proofs.YtdbjdieegocdfaaDoor
open Go.RowKit
set_option linter.unusedVariables false
set_option linter.unusedSimpArgs false

def NC (w : World) (b o : Nat) (i : In) : Prop := w.cell? ⟨b, o, none⟩ = some (.int .i64 i.o) ∧ w.cell? ⟨b, o + 1, none⟩ = some (.int .i64 i.a) ∧ w.cell? ⟨b, o + 2, none⟩ = some (.int .i64 i.b)
/-- A list of instructions, where the world holds it. -/
def LI (w : World) (a : Option Addr) (n : Nat) (l : List In) : Prop :=
  l.length = n ∧ n ≤ 5864062014805 ∧ (n = 0 ∨ ∃ b o, a = some ⟨b, o, none⟩ ∧ b < w.heap.size ∧ ∀ i, i < n → NC w b (o + i * 3) (l.getD i default))
theorem NC.later {w w' : World} {B b o : Nat} {f : In} (h : NC w b o f) (hb : Below B w w') (hB : b < B) : NC w' b o f :=
  ⟨(hb.cell (p := ⟨b, o, none⟩) hB).trans h.1, (hb.cell (p := ⟨b, o + 1, none⟩) hB).trans h.2.1, (hb.cell (p := ⟨b, o + 2, none⟩) hB).trans h.2.2⟩
theorem LI.later {w w' : World} {a n l} (h : LI w a n l) (b : Below w.heap.size w w') : LI w' a n l := by
  obtain ⟨h1, h2, h3⟩ := h
  refine ⟨h1, h2, ?_⟩
  rcases h3 with h3 | ⟨x, o, rfl, hx, hc⟩
  · exact .inl h3
  · exact .inr ⟨x, o, rfl, Nat.lt_of_lt_of_le hx b.size, fun i hi => (hc i hi).later b hx⟩
/-- What Encode answers. -/
def encR (l : List In) : List Int × Int := if 262144 < l.length then ([], 6) else if ∀ i ∈ l, i.okP then (encs l, 0) else ([], 111)
theorem encR_long {l : List In} (h : 262144 < l.length) : encR l = ([], 6) := if_pos h
theorem encR_ok {l : List In} (h : ¬ 262144 < l.length) (k : ∀ i ∈ l, i.okP) : encR l = (encs l, 0) := by unfold encR; rw [if_neg h, if_pos k]
theorem encR_odd {l : List In} (h : ¬ 262144 < l.length) (k : ¬ ∀ i ∈ l, i.okP) : encR l = ([], 111) := by unfold encR; rw [if_neg h, if_neg k]
theorem tk_ok {l : List In} {j : Nat} (h : ∀ i, i < j → (l.getD i default).okP) : ∀ i ∈ l.take j, i.okP := by
  intro i hi
  obtain ⟨m, hm, rfl⟩ := List.mem_iff_getElem.1 hi
  simp at hm ⊢
  have := h m (by omega)
  rwa [List.getD_eq_getElem?_getD, List.getElem?_eq_getElem (by omega), Option.getD_some] at this
theorem take_snoc {l : List In} {j : Nat} (h : j < l.length) : l.take (j + 1) = l.take j ++ [l.getD j default] := by
  rw [List.take_add_one, List.getElem?_eq_getElem h, List.getD_eq_getElem?_getD, List.getElem?_eq_getElem h]
  rfl
def EncE (w : World) (l : List In) (e : Ending) (w' : World) : Prop := ∃ v', e = .returned (.tuple #[v', .int .i64 (encR l).2]) ∧ Own w' w.heap.size v' (encR l).1.length (encR l).1 ∧ Below w.heap.size w w'
theorem okP_nat {i : In} (h : i.okP) : ∃ k x y : Nat, i = ⟨k, x, y⟩ ∧ k < 29 ∧ x ≤ baA k ∧ y ≤ bbA k := by
  obtain ⟨k, hk, e1, e2, x, y, e3, e4, e5, e6, hx, hy⟩ := okP_tab h
  exact ⟨k, x, y, by obtain ⟨o, a, b⟩ := i; simp at e1 e3 e4 ⊢; exact ⟨e1, e3, e4⟩, hk, hx, hy⟩
theorem getD_mem {l : List In} {j : Nat} (h : j < l.length) : l.getD j default ∈ l := by
  rw [List.getD_eq_getElem?_getD, List.getElem?_eq_getElem h, Option.getD_some]; exact List.getElem_mem h
set_option maxRecDepth 100000 in
set_option maxHeartbeats 2000000 in
theorem encode_any (a : Option Addr) (n cap : Nat) (l : List In) (w : World) (h : LI w a n l) (hR : Rws w) :
    Calls Tryd.prog 5 #[.slice a n cap] w fun e w' => EncE w l e w' := by
  obtain ⟨h1, h2, h3⟩ := h
  by_cases hl : 262144 < n
  · have EE := Lib.hid (encR_long (l := l) (by omega))
    have hl' : (262144 : Int) < (n : Int) := by omega
    clear h3 hR
    go_enter Tryd.func5, Tryd.ntmps5
    go_wp2
    go_ret2
    exact (show EncE _ _ _ _ from ⟨_, by rw [EE.out]; rfl, by rw [EE.out]; exact own_nil _ _, Below.refl _ _⟩)
  · have hl' : ¬ (262144 : Int) < (n : Int) := by omega
    have HA := Lib.hid (p := ∀ W, Below w.heap.size w W → ∀ j, j < n → ∃ b o, a = some ⟨b, o, none⟩ ∧ NC W b (o + j * 3) (l.getD j default)) (fun W bw j hj => by
      rcases h3 with h3 | ⟨b, o, e, hb, hc⟩
      · omega
      · exact ⟨b, o, e, (hc j hj).later bw hb⟩)
    have HG := Lib.hid hR.1
    have RR := Lib.hid hR
    have HL := Lib.hid h1
    have EOk := Lib.hid (encR_ok (l := l) (by omega))
    have EOdd := Lib.hid (encR_odd (l := l) (by omega))
    have KV := Lib.hid (fun (i : In) W (q : Rws W) => valid_any i.o i.a i.b W q)
    have KA := Lib.hid (fun (v : Value) (m : Nat) (xs : List Int) (k x y : Nat) (hk : k < 29) (hx : x ≤ baA k) (hy : y ≤ bbA k) (W : World) (ho : Own W w.heap.size v m xs) (hm : m ≤ 140737488353000) (hB : w.heap.size ≤ W.heap.size) (q : Rws W) => appendInstr_any v w.heap.size m xs k x y hk hx hy W ho hm hB hR.1 q)
    clear h1 h3 hR h2
    go_enter Tryd.func5, Tryd.ntmps5
    go_wp2
    go_loopw [4, 13] (fun b t wr => ∃ j : Nat, j ≤ n ∧ t = .int .i64 (j : Int) ∧ RowKit.Hid (∀ i, i < j → (l.getD i default).okP) ∧ Own wr w.heap.size b (encs (l.take j)).length (encs (l.take j)) ∧ Below w.heap.size w wr) (fun _ t _ => n - (intOf t).toNat)
    case atStart => exact ⟨0, by omega, rfl, fun i hi => absurd hi (by omega), by simpa [encs] using own_nil _ _, Below.refl _ _⟩
    case round =>
      rename World => wr
      obtain ⟨j, hj, rfl, hN, hO, hB⟩ := hrel
      have OO := Lib.hid hO
      have BB := Lib.hid hB
      clear hO hB
      by_cases hlt : j < n
      · have jc : (j : Int) < (n : Int) := by omega
        obtain ⟨b, o, rfl, c0, c1, c2⟩ := HA.out wr BB.out j hlt
        have HB1 := Lib.hid (BB.out.alloc BB.out.size (.cells #[.int .i64 (l.getD j default).o, .int .i64 (l.getD j default).a, .int .i64 (l.getD j default).b] 24))
        have O1 := Lib.hid (OO.out.alloc (.cells #[.int .i64 (l.getD j default).o, .int .i64 (l.getD j default).a, .int .i64 (l.getD j default).b] 24))
        have KVj := Lib.hid (KV.out (l.getD j default) _ (RR.out.below HB1.out))
        have BX := Lib.hid (heap_new wr (.cells #[.int .i64 (l.getD j default).o, .int .i64 (l.getD j default).a, .int .i64 (l.getD j default).b] 24))
        have SN := Lib.hid (take_snoc (l := l) (j := j) (by rw [HL.out]; exact hlt))
        have LN := Lib.hid (p := (encs (l.take j)).length ≤ 1048576) (by have := (encs_len (tk_ok hN.out)).1; simp at this; omega)
        by_cases hv : (l.getD j default).okP
        · obtain ⟨k, x, y, hi, hk, hx, hy⟩ := okP_nat hv
          have NX := Lib.hid (p := ∀ i, i < j + 1 → (l.getD i default).okP) (fun i hi => by
            rcases (show i < j ∨ i = j by omega) with q | q
            · exact hN.out i q
            · rw [q]; exact hv)
          have VZ := Lib.hid (p := okV ⟨(k : Int), (x : Int), (y : Int)⟩ = 0) (okV_pos (by rw [← hi]; exact hv))
          rw [hi] at SN KVj HB1 O1 BX c0 c1 c2
          simp only at SN KVj HB1 O1 BX c0 c1 c2
          rw [VZ.out] at KVj
          have P0 := Lib.hid hx
          have P1 := Lib.hid hy
          clear hi hv hx hy
          go_wp2_with (first
            | (go_at_call 11; refine KVj.out.mono ?_; rintro e w1 ⟨rfl, h1⟩; have B1 := Lib.hid (HB1.out.trans (h1.mono HB1.out.size)); have O2 := Lib.hid (own_later O1.out (below_gr h1 none)); obtain ⟨d0, d1, d2⟩ := box3 ((h1.block _ (by simp)).trans BX.out); clear h1)
            | (go_at_call 12; refine (KA.out _ _ _ k x y hk P0.out P1.out _ O2.out (by have := LN.out; omega) B1.out.size (RR.out.below B1.out)).mono ?_; rintro e w2 ⟨v2, rfl, h1, h2⟩; have O3 := Lib.hid h1; have B3 := Lib.hid (B1.out.trans h2); clear h1 h2))
          go_roundw
          case rel => exact ⟨j + 1, by omega, by go_num, NX.out, by rw [SN.out, encs_snoc, List.length_append]; exact O3.out, B3.out⟩
          case measure => simp [intOf]; omega
        · have VZ := Lib.hid (p := okV (l.getD j default) = 111) (okV_neg hv)
          have EE := Lib.hid (EOdd.out (fun q => hv (q _ (getD_mem (by rw [HL.out]; exact hlt)))))
          have KV2 := Lib.hid (p := Calls Tryd.prog 11 #[.agg #[.int .i64 (l.getD j default).o, .int .i64 (l.getD j default).a, .int .i64 (l.getD j default).b]] (wr.alloc (.cells #[.int .i64 (l.getD j default).o, .int .i64 (l.getD j default).a, .int .i64 (l.getD j default).b] 24)) fun e w' => e = .returned (.int .i64 111) ∧ Below (wr.alloc (.cells #[.int .i64 (l.getD j default).o, .int .i64 (l.getD j default).a, .int .i64 (l.getD j default).b] 24)).heap.size (wr.alloc (.cells #[.int .i64 (l.getD j default).o, .int .i64 (l.getD j default).a, .int .i64 (l.getD j default).b] 24)) w') (by have := KVj.out; rw [VZ.out] at this; exact this)
          clear hv KVj VZ
          generalize l.getD j default = i at *
          obtain ⟨io, ia, ib⟩ := i
          simp only at KV2 HB1 O1 BX c0 c1 c2
          go_wp2_with (first
            | (go_at_call 11; refine KV2.out.mono ?_; rintro e w1 ⟨rfl, h1⟩; have B1 := Lib.hid (HB1.out.trans (h1.mono HB1.out.size)); clear h1))
          go_ret2
          exact (show EncE _ _ _ _ from ⟨_, by rw [EE.out]; rfl, by rw [EE.out]; exact own_nil _ _, B1.out⟩)
      · obtain rfl : j = n := by omega
        have EE := Lib.hid (EOk.out (by have := tk_ok hN.out; rwa [List.take_of_length_le (by rw [HL.out]; exact Nat.le_refl _)] at this))
        have q0 := OO.out
        rw [List.take_of_length_le (by rw [HL.out]; exact Nat.le_refl _)] at q0
        have OX := Lib.hid q0
        clear q0
        go_wp2
        go_ret2
        exact (show EncE _ _ _ _ from ⟨_, by rw [EE.out]; rfl, by rw [EE.out]; exact OX.out, BB.out⟩)
end Go.Proofs.YtdbjdieegocdfaaDoor
