/-
  ROWS OF INSTRUCTIONS OF ONE'S OWN; WALKS: readAll, Decode.
-/
import Derived.Test.YtdbjdieegocdfaaDoorWCodeE
import Derived.Laws.MakeOwn
namespace Go.Proofs.YtdbjdieegocdfaaDoor
open Go.RowKit
set_option linter.unusedVariables false
set_option linter.unusedSimpArgs false

def In.cells (i : In) : List Value := [.int .i64 i.o, .int .i64 i.a, .int .i64 i.b]
def ics (l : List In) : List Value := l.flatMap In.cells
theorem ics_len (l : List In) : (ics l).length = l.length * 3 := by
  induction l with
  | nil => rfl
  | cons f l ih => simp [ics, In.cells] at ih ⊢; omega
theorem ics_app (l m : List In) : ics (l ++ m) = ics l ++ ics m := by simp [ics]
theorem ics_at (l : List In) : ∀ i, i < l.length → ∀ j, j < 3 → (ics l)[i * 3 + j]? = (l.getD i default).cells[j]? := by
  induction l with
  | nil => intro i hi; simp at hi
  | cons f l ih =>
    intro i hi j hj
    have e : ics (f :: l) = f.cells ++ ics l := rfl
    rw [e]
    match i with
    | 0 => rw [Nat.zero_mul, Nat.zero_add, List.getElem?_append_left (by simp [In.cells]; omega)]; rfl
    | i + 1 =>
      rw [List.getElem?_append_right (by simp [In.cells]; omega)]
      rw [show (i + 1) * 3 + j - f.cells.length = i * 3 + j by simp [In.cells]; omega, ih i (by simpa using hi) j hj]
      rfl
theorem infoI : (Tryd.prog.info? 24).map (fun i => (i.zero, i.size, i.bytes)) = some (some (.agg #[.int .i64 0, .int .i64 0, .int .i64 0]), 3, 24) := by kernel_rfl
abbrev OwI (w : World) (B : Nat) (v : Value) (l : List In) : Prop := w.ownsRow B 24 3 v l.length (ics l)
theorem owi_nil (w : World) (B : Nat) : OwI w B (.slice none 0 0) [] := ⟨rfl, .inl ⟨rfl, rfl⟩⟩
theorem owi_ne {w : World} {B : Nat} {v : Value} {l : List In} (h : OwI w B v l) {p : Nat} {cs : Array Value} {T : TypeId} {fz : Nat × Nat} (hp : w.heap[p]? = some (.cells cs T fz)) (hT : T ≠ 24) : v.ownBlock ≠ some p := by
  intro e
  rcases h.2 with ⟨rfl, h0⟩ | ⟨g, c, cur, rfl, _, hg, _⟩
  · cases e
  · simp [Value.ownBlock] at e
    subst e
    rw [hg] at hp
    injection hp with hp
    injection hp with _ hp _
    exact hT hp.symm
/-- An append to a row of one's own keeps a reader. -/
theorem RB.appI {w w' : World} {B p : Nat} {a : Option Addr} {n cap : Nat} {xs : List Int} {k : Nat} (h : RB w B p a n cap xs k) {B' : Nat} {v : Value} {l : List In} (ho : OwI w B' v l) (g : w.grownBy w' v.ownBlock) : RB w' B p a n cap xs k := by
  obtain ⟨cs, fz, ht⟩ := h.ty
  refine h.kept g (owi_ne ho ht (by decide)) (fun q hq => ?_)
  rcases h.own.2 with ⟨e', h0⟩ | ⟨g', c, cur, e', _, hg, _⟩
  · rw [e'] at hq; cases hq
  · rw [e'] at hq
    simp [Value.ownBlock] at hq
    subst hq
    exact owi_ne ho hg (by decide)
theorem own_snocI {w : World} {B : Nat} {v : Value} {l : List In} {i : In} (h : w.ownsRow B 24 3 v (l.length + 1) (ics l ++ i.cells)) : OwI w B v (l ++ [i]) := by
  unfold OwI
  rw [ics_app]
  simpa [ics] using h
/-- 'list = append(list, i)'. -/
theorem wp_instr {ops : Array Oper} {rest : List Oper} {o : Oper} {a : Act} {Q : Exit → Act → World → Prop} (w : World) (i : In) (hgd : o.guard = none) (s x : Operand)
    (ho : o.op = .call { callee := .builtin .append, args := #[s, x], argTypes := #[22, 22] }) (base : Nat) (v : Value) (l : List In) (hs : a.eval s = v) (N : Nat) (hN : N = w.heap.size)
    (hx : a.eval x = .slice (some ⟨N, 0, none⟩) 1 1) (hown : OwI w base v l) (hl : l.length ≤ 5864062014804) (hb : base ≤ w.heap.size) (C : Array Value) (hC : C = #[.int .i64 i.o, .int .i64 i.a, .int .i64 i.b])
    (h : ∀ v' w', OwI w' base v' (l ++ [i]) → (w.alloc (.cells #[.int .i64 i.o, .int .i64 i.a, .int .i64 i.b] 24)).grownBy w' v.ownBlock → wpList Tryd.prog ops Q rest (a.put o.dst v') w') :
    wpList Tryd.prog ops Q (o :: rest) a (w.alloc (.cells C 24)) := by
  subst hN hC
  obtain ⟨i0, hi, hz0, hz1, hz2⟩ := info_parts infoI
  refine wpList_append_own _ hgd s x 22 ho base 24 i0 _ 3 24 Tryd.underlying22 hi hz0 hz1 hz2 rfl (by decide) v _ _ hs (hown.alloc _) ⟨w.heap.size, 0, none⟩ 1 1 i.cells hx rfl ?_ ?_ (by unfold maxLen; omega) (by omega) (Nat.le_trans hb (by simp)) ?_
  · intro j u hj
    match j, hj with
    | 0, hj => simp [In.cells] at hj; subst hj; simp [Addr.add]
    | 1, hj => simp [In.cells] at hj; subst hj; simp [Addr.add]
    | 2, hj => simp [In.cells] at hj; subst hj; simp [Addr.add]
  · intro u hu
    simp [In.cells] at hu
    rcases hu with rfl | rfl | rfl <;> rfl
  · intro v' w' h1 h2 _
    exact h v' w' (own_snocI h1) h2
theorem below_of {a b : World} (h : a.grownBy b none) : Below a.heap.size a b := ⟨h.os, h.tape, h.output, h.size, fun i hi => h.block i hi (by simp)⟩
/-- What Decode answers. -/
structure DcE (w : World) (r : List In × Int × Nat) (e : Ending) (w' : World) : Prop where
  say : ∃ v', e = .returned (.tuple #[v', .int .i64 (r.2.2 : Int), .int .i64 r.2.1]) ∧ OwI w' w.heap.size v' r.1
  bel : Below w.heap.size w w'
set_option maxRecDepth 100000 in
set_option maxHeartbeats 2000000 in
theorem readAll_any (a : Option Addr) (n cap : Nat) (xs : List Int) (cnt : Nat) (w : World) (h : BL w a n xs) (h0 : a = none → n = 0) (hc : cnt ≤ 262144) (hR : Rws w) :
    Calls Tryd.prog 16 #[.slice a n cap, .int .i64 (cnt : Int)] w fun e w' => DcE w (decs cnt xs) e w' := by
  have KN := Lib.hid (newReader_any a n cap xs w h h0)
  have XB := Lib.hid h.2.2.1
  have XL := Lib.hid h.1
  have XN := h.2.1
  have RR := Lib.hid hR
  have GW := hR.1
  obtain ⟨m, hm⟩ : ∃ m : Nat, min (cnt : Int) (n : Int) = (m : Int) := ⟨(min (cnt : Int) (n : Int)).toNat, by omega⟩
  have ML : m ≤ 262144 := by omega
  have MK := Lib.hid (p := ∀ W : World, w.heap.size ≤ W.heap.size → ∃ w', (Instr.makeSlice 22 (.int .i64 0) (.int .i64 (m : Int))).run Tryd.prog W = .ok (.slice (some ⟨W.heap.size, 0, none⟩) 0 m) w' ∧ w'.ownsRow w.heap.size 24 3 (.slice (some ⟨W.heap.size, 0, none⟩) 0 m) 0 [] ∧ W.grownBy w' none) (fun W hW => by
    obtain ⟨i0, hi, hz0, hz1, hz2⟩ := info_parts infoI
    exact run_make_own (P := Tryd.prog) W w.heap.size 22 24 i0 _ 3 Tryd.underlying22 hi hz0 hz1 .i64 .i64 m (by rw [hz2]; omega) (by unfold maxLen; omega) hW)
  have KR := Lib.hid (fun p a' cap' pos W (q : RB W w.heap.size p a' n cap' xs pos) (g : Rws W) (hp : 0 < p) => readInstr_any w.heap.size p a' n cap' xs pos W q g hp)
  have KL := Lib.hid (fun p a' cap' pos W (q : RB W w.heap.size p a' n cap' xs pos) => left_any w.heap.size p a' n cap' xs pos W q)
  have KP := Lib.hid (fun p a' cap' pos W (q : RB W w.heap.size p a' n cap' xs pos) => place_any w.heap.size p a' n cap' xs pos W q)
  clear h h0 hR
  go_enter Tryd.func16, Tryd.ntmps16
  go_wp2_with (first
    | (go_at_call 27; refine KN.out.mono ?_; rintro e w1 ⟨p, a1, c1, rfl, h1, h2⟩; obtain ⟨w2, hmk, ho2, hg2⟩ := MK.out w1 h2.size; have O2 := Lib.hid ho2; have R2 := Lib.hid (h1.later hg2); have B2 := Lib.hid (h2.trans ((below_of hg2).mono h2.size)); clear h1 h2 ho2 hg2))
  go_loopw [8, 20] (fun b t wr => ∃ (acc : List In) (pos : Nat), t = .int .i64 (acc.length : Int) ∧ DJ xs cnt acc pos ∧ OwI wr w.heap.size b acc ∧ RB wr w.heap.size p a1 n c1 xs pos ∧ Below w.heap.size w wr) (fun _ t _ => cnt - (intOf t).toNat)
  case atStart => exact ⟨[], 0, rfl, DJ.start xs XB.out cnt, O2.out, R2.out, B2.out⟩
  case round =>
    rename World => wr
    obtain ⟨acc, pos, rfl, hJ, hO, hRd, hB⟩ := hrel
    have JJ := Lib.hid hJ
    have OO := Lib.hid hO
    have RD := Lib.hid hRd
    have BB := Lib.hid hB
    have al := hJ.1
    have pG : 0 < p := Nat.lt_of_lt_of_le GW hRd.base
    clear hJ hO hRd hB
    by_cases hlt : acc.length < cnt
    · have jc : (acc.length : Int) < (cnt : Int) := by omega
      have KI := Lib.hid (KR.out p a1 c1 pos wr RD.out (RR.out.below BB.out) pG)
      by_cases he : (dec1 (xs.drop pos)).2.1 = 0
      · obtain ⟨i, er, u, pl, hd⟩ : ∃ i er u pl, dec1 (xs.drop pos) = (i, er, u, pl) := ⟨_, _, _, _, rfl⟩
        have JS := Lib.hid (JJ.out.step XB.out hlt he)
        rw [hd] at JS he
        simp only at JS he
        subst he
        obtain ⟨io, ia, ib⟩ := i
        have EV := Lib.hid (p := rdV (xs.drop pos) pos = .tuple #[.agg #[.int .i64 io, .int .i64 ia, .int .i64 ib], .int .i64 0, .int .i64 0]) (by rw [rdV_of hd]; rfl)
        have HD := Lib.hid hd
        clear hd
        go_wp2_with (first
          | (go_at_call 28; refine KI.out.mono ?_; rintro e w3 ⟨he3, ⟨pos3, hr3, hp3⟩, hg3⟩; rw [EV.out] at he3; subst he3; have hp3 := hp3 (by rw [HD.out]); rw [HD.out] at hp3; simp only at hp3; subst hp3; have O3 := Lib.hid (OO.out.kept hg3 (.inr (by obtain ⟨cs, fz, ht⟩ := RD.out.ty; exact owi_ne OO.out ht (by decide)))); have R3 := Lib.hid (hr3.later (below_gr ((Below.refl w3.heap.size w3).alloc (Nat.le_refl _) (.cells #[.int .i64 io, .int .i64 ia, .int .i64 ib] 24)) none)); have B3 := Lib.hid ((BB.out.trans (gr_out hg3 RD.out.base BB.out.size))); clear hg3 hr3)
          | (at_builtin; refine wp_instr _ ⟨io, ia, ib⟩ rfl _ _ rfl w.heap.size _ acc rfl _ (by simp) rfl (O3.out.alloc _) (by omega) (by have := B3.out.size; simp; omega) _ rfl ?_; intro v4 w4 o4 g4; have O4 := Lib.hid o4; have G4 := Lib.hid g4; clear o4 g4))
        go_roundw
        case rel => exact ⟨acc ++ [⟨io, ia, ib⟩], pos + u, by simp, JS.out, O4.out, (R3.out.later (below_gr ((Below.refl _ _).alloc (Nat.le_refl _) _) none)).appI ((O3.out.alloc _).alloc _) G4.out, (((B3.out.alloc B3.out.size _).alloc (by have := B3.out.size; simp; omega) _).grown G4.out (by have := B3.out.size; simp; omega) (fun k e => ((O3.out).lt k e).1))⟩
        case measure => simp [intOf]; omega
      · have ST := Lib.hid (JJ.out.stop hlt he)
        have EV := Lib.hid (p := ∃ i : In, rdV (xs.drop pos) pos = .tuple #[.agg #[.int .i64 i.o, .int .i64 i.a, .int .i64 i.b], .int .i64 ((pos + (dec1 (xs.drop pos)).2.2.2 : Nat) : Int), .int .i64 (dec1 (xs.drop pos)).2.1]) ⟨_, by unfold rdV; rw [if_neg he]⟩
        obtain ⟨⟨io, ia, ib⟩, hev⟩ := EV.out
        have EW := Lib.hid hev
        clear hev EV
        generalize pos + (dec1 (xs.drop pos)).2.2.2 = PL at *
        generalize (dec1 (xs.drop pos)).2.1 = er at *
        have he' : (er == 0) = false := by simpa using he
        go_wp2_with (first
          | (go_at_call 28; refine KI.out.mono ?_; rintro e w3 ⟨he3, _, hg3⟩; rw [EW.out] at he3; subst he3; have B3 := Lib.hid ((BB.out.trans (gr_out hg3 RD.out.base BB.out.size))); clear hg3))
        go_ret3
        exact ⟨⟨_, by rw [ST.out]; rfl, by rw [ST.out]; exact owi_nil _ _⟩, B3.out.alloc B3.out.size _⟩
    · have hl : acc.length = cnt := by omega
      by_cases hp : pos = n
      · have DN := Lib.hid (JJ.out.done hl (by rw [XL.out]; exact hp))
        have LZ := Lib.hid (KL.out p a1 c1 pos wr RD.out)
        rw [show n - pos = 0 by omega] at LZ
        have ac : ¬ (acc.length : Int) < (cnt : Int) := by omega
        clear hp hl
        go_wp2_with (first
          | (go_at_call 29; refine LZ.out.mono ?_; rintro e w3 ⟨rfl, h1⟩; have O3 := Lib.hid (OO.out.kept h1 (by cases (Value.ownBlock _) <;> simp)); have B3 := Lib.hid (BB.out.trans ((below_of h1).mono BB.out.size)); clear h1))
        go_ret3
        exact ⟨⟨_, by rw [DN.out]; rfl, by rw [DN.out]; exact O3.out⟩, B3.out⟩
      · have pn : pos < n := by have := RD.out.le; omega
        have DN := Lib.hid (JJ.out.extra hl (by rw [XL.out]; exact pn))
        have LZ := Lib.hid (KL.out p a1 c1 pos wr RD.out)
        have ac : ¬ (acc.length : Int) < (cnt : Int) := by omega
        obtain ⟨lf, hlf⟩ : ∃ lf : Nat, n - pos = lf := ⟨_, rfl⟩
        have lf0 : (0 : Int) < (lf : Int) := by omega
        rw [hlf] at LZ
        clear hlf hp hl pn
        go_wp2_with (first
          | (go_at_call 29; refine LZ.out.mono ?_; rintro e w3 ⟨rfl, h1⟩; have R3 := Lib.hid (RD.out.later h1); have B3 := Lib.hid (BB.out.trans ((below_of h1).mono BB.out.size)); clear h1)
          | (go_at_call 30; refine (KP.out p a1 c1 pos _ R3.out).mono ?_; rintro e w4 ⟨rfl, h1⟩; have B4 := Lib.hid (B3.out.trans ((below_of h1).mono B3.out.size)); clear h1))
        go_ret3
        exact ⟨⟨_, by rw [DN.out]; rfl, by rw [DN.out]; exact owi_nil _ _⟩, B4.out⟩
/-- What Decode answers of any count. -/
def decA (bs : List Int) (c : Int) : List In × Int × Nat := if c < 0 then ([], 1, 0) else if 262144 < c then ([], 6, 0) else decs c.toNat bs
theorem decode_any (a : Option Addr) (n cap : Nat) (xs : List Int) (c : Int) (w : World) (h : BL w a n xs) (h0 : a = none → n = 0) (hR : Rws w) :
    Calls Tryd.prog 9 #[.slice a n cap, .int .i64 c] w fun e w' => DcE w (decA xs c) e w' := by
  by_cases c0 : c < 0
  · have E := Lib.hid (p := decA xs c = ([], 1, 0)) (by unfold decA; rw [if_pos c0])
    clear h hR
    go_enter Tryd.func9, Tryd.ntmps9
    go_wp2
    go_ret3
    exact ⟨⟨_, by rw [E.out]; rfl, by rw [E.out]; exact owi_nil _ _⟩, Below.refl _ _⟩
  · by_cases c1 : 262144 < c
    · have E := Lib.hid (p := decA xs c = ([], 6, 0)) (by unfold decA; rw [if_neg c0, if_pos c1])
      clear h hR
      go_enter Tryd.func9, Tryd.ntmps9
      go_wp2
      go_ret3
      exact ⟨⟨_, by rw [E.out]; rfl, by rw [E.out]; exact owi_nil _ _⟩, Below.refl _ _⟩
    · obtain ⟨k, rfl⟩ : ∃ k : Nat, c = (k : Int) := ⟨c.toNat, by omega⟩
      have E := Lib.hid (p := decA xs (k : Int) = decs k xs) (by unfold decA; rw [if_neg c0, if_neg c1, Int.toNat_natCast])
      have K := Lib.hid (readAll_any a n cap xs k w h h0 (by omega) hR)
      rw [← E.out] at K
      clear h hR
      generalize decA xs (k : Int) = r at *
      go_enter Tryd.func9, Tryd.ntmps9
      go_wp2_with (go_at_call 16; refine K.out.mono ?_; rintro e w1 ⟨⟨v1, rfl, h1⟩, h2⟩; have O1 := Lib.hid h1; have B1 := Lib.hid h2; clear h1 h2)
      go_ret3
      exact ⟨⟨_, rfl, O1.out⟩, B1.out⟩
end Go.Proofs.YtdbjdieegocdfaaDoor
