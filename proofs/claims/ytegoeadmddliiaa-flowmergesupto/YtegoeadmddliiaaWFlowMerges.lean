/-
  WALK: FlowMerges.
-/
import Derived.Test.YtegoeadmddliiaaWRMerge
import Derived.Test.YtegoeadmddliiaaWRoomy
import Derived.Test.YtegoeadmddliiaaWUntil
import Derived.Test.YtegoeadmddliiaaWHold
import Derived.Deep.AppendLies
namespace Go.Proofs.Ytegoeadmddliiaa
open Go.RowKit
set_option linter.unusedVariables false
set_option linter.unusedSimpArgs false

/-- 'held = append(held, f)' of a row of slices that the call itself gathers. -/
theorem wp_sl {ops : Array Oper} {rest : List Oper} {o : Oper} {a : Act} {Q : Exit → Act → World → Prop} (w : World) (u : Value) (hu : u.oneCell' = true) (hgd : o.guard = none) (s x : Operand)
    (ho : o.op = .call { callee := .builtin .append, args := #[s, x], argTypes := #[22, 22] }) (base : Nat) (v : Value) (vs : List Value) (hs : a.eval s = v)
    (hx : a.eval x = .slice (some ⟨w.heap.size, 0, none⟩) 1 1) (hown : w.ownsRow base 23 1 v vs.length vs) (hl : vs.length ≤ 1048576) (hb : base ≤ w.heap.size)
    (h : ∀ g cap w', w'.ownsRow base 23 1 (.slice (some ⟨g, 0, none⟩) (vs.length + 1) cap) (vs ++ [u]).length (vs ++ [u]) → (w.alloc (.cells #[u] 23)).grownBy w' v.ownBlock → (v.ownBlock = some g ∨ g = w.heap.size + 1) → wpList Try.prog ops Q rest (a.put o.dst (.slice (some ⟨g, 0, none⟩) (vs.length + 1) cap)) w') :
    wpList Try.prog ops Q (o :: rest) a (w.alloc (.cells #[u] 23)) := by
  obtain ⟨i0, hi, hz0, hz1, hz2⟩ := info_parts infoFs
  refine wpList_append_lies _ hgd s x 22 ho base 23 i0 (.slice none 0 0) 1 24 Try.underlying22 hi hz0 hz1 hz2 rfl (by decide) v _ _ hs (hown.alloc _) ⟨w.heap.size, 0, none⟩ 1 1 [u] hx rfl ?_ ?_ (by decide) (by unfold maxLen; omega) (by omega) (by simp; omega) (w.heap.size + 1) (by simp) ?_
  · intro j v hj
    match j, hj with
    | 0, hj => simp at hj; subst hj; simp [Addr.add]
  · intro v hv
    rw [List.mem_singleton.1 hv]; exact hu
  · intro g cap w' h1 h2 h3 _
    exact h g cap w' (by rw [List.length_append]; exact h1) h2 h3
theorem rf_flM {w : World} {g n : Nat} {fs : List Fl} {x y z : Fl} (h : Rf w g (fs ++ [x, y, z])) (hl : fs.length = n) (hn : n ≤ 4398046511000) : FL w (some ⟨g, 0, none⟩) n fs := by
  refine ⟨hl, hn, .inr ⟨g, 0, rfl, h.lt, fun i hi => ?_⟩⟩
  have := h.fc i (by simp; omega)
  rw [show (fs ++ [x, y, z]).getD i default = fs.getD i default by rw [List.getD_eq_getElem?_getD, List.getElem?_append_left (by omega), ← List.getD_eq_getElem?_getD]] at this
  rw [Nat.zero_add]
  exact this
/-- Rows of slices lie apart from rows of flows. -/
theorem rf_apart {w : World} {B g n : Nat} {v : Value} {vs : List Value} {gs : List Fl} (h : w.ownsRow B 23 1 v n vs) (k : Rf w g gs) : some g ≠ v.ownBlock := by
  intro e
  rcases k.2 with ⟨q, _⟩ | ⟨g', c', cur', q, _, hg', _⟩
  · cases q
  · injection q with q
    injection q with q
    injection q with q
    subst q
    rcases h.2 with ⟨q, _⟩ | ⟨g2, c2, cur2, q, _, hg2, _⟩
    · rw [q] at e; cases e
    · rw [q] at e
      have e' : g = g2 := by simpa [Value.ownBlock] using e
      subst e'
      rw [hg'] at hg2
      injection hg2 with hg2
      injection hg2 with _ q
      exact absurd q (by decide)
theorem Rf.kept {w w' : World} {g : Nat} {gs : List Fl} {row : Option Nat} (h : Rf w g gs) (hg : w.grownBy w' row) (hne : some g ≠ row) : Rf w' g gs := World.ownsRow.kept h hg (.inr hne)
theorem Rf.later {w w' : World} {g : Nat} {gs : List Fl} (h : Rf w g gs) (b : Below w.heap.size w w') : Rf w' g gs := World.ownsRow.kept h (⟨b.os, b.tape, b.output, b.size, fun k hk _ => b.block k hk⟩ : w.grownBy w' none) (Classical.em _)
abbrev mks (l : List Fl) : List Fl := l ++ [mkFl l.length, mkFl (l.length + 1), mkFl (l.length + 2)]
/-- A room of the lists that are handed in. -/
def Rm (wr : World) (B : Nat) (l : List Fl) (h n : Option Value) : Prop := ∃ g, h = some (.slice (some ⟨g, 0, none⟩) (l.length + 3) (l.length + 3)) ∧ n = some (.slice (some ⟨g, 0, none⟩) l.length (l.length + 3)) ∧ B ≤ g ∧ Rf wr g (mks l)
structure FMg (w wr : World) (ih iN : Nat) (hv nv : Value) (hs ns : List Value) (Ls : List (List Fl)) : Prop where
  bel : Below w.heap.size w wr
  hl : hs.length = ih
  nl : ns.length = iN
  oh : wr.ownsRow w.heap.size 23 1 hv hs.length hs
  on : wr.ownsRow w.heap.size 23 1 nv ns.length ns
  ap : hv.ownBlock = none ∨ hv.ownBlock ≠ nv.ownBlock
  rm : ∀ j, j < iN → Rm wr w.heap.size (Ls.getD j []) hs[j]? ns[j]?
theorem FMg.later {w wr w2 : World} {ih iN : Nat} {hv nv : Value} {hs ns : List Value} {Ls : List (List Fl)} (h : FMg w wr ih iN hv nv hs ns Ls) (b : Below wr.heap.size wr w2) : FMg w w2 ih iN hv nv hs ns Ls := by
  have g : wr.grownBy w2 none := ⟨b.os, b.tape, b.output, b.size, fun k hk _ => b.block k hk⟩
  refine ⟨h.bel.trans (b.mono h.bel.size), h.hl, h.nl, World.ownsRow.kept h.oh g (Classical.em _), World.ownsRow.kept h.on g (Classical.em _), h.ap, fun j hj => ?_⟩
  obtain ⟨g, r1, r2, r3, r4⟩ := h.rm j hj
  exact ⟨g, r1, r2, r3, r4.later b⟩
theorem FMg.addH {w W w3 : World} {i gH cap : Nat} {hv nv u : Value} {hs ns : List Value} {Ls : List (List Fl)} (h : FMg w W i i hv nv hs ns Ls) (o : w3.ownsRow w.heap.size 23 1 (.slice (some ⟨gH, 0, none⟩) (hs.length + 1) cap) (hs ++ [u]).length (hs ++ [u])) (hg : (W.alloc (.cells #[u] 23)).grownBy w3 hv.ownBlock) (hy : hv.ownBlock = some gH ∨ gH = W.heap.size + 1) :
    FMg w w3 (i + 1) i (.slice (some ⟨gH, 0, none⟩) (hs.length + 1) cap) nv (hs ++ [u]) ns Ls := by
  have bA := h.bel.alloc h.bel.size (.cells #[u] 23)
  refine ⟨bA.grown hg (Nat.le_trans h.bel.size (by simp)) (fun k e => (h.oh.lt k e).1), by rw [List.length_append, h.hl]; rfl, h.nl, o, ?_, ?_, fun j hj => ?_⟩
  · refine World.ownsRow.kept (h.on.alloc _) hg ?_
    rcases h.ap with q | q
    · rw [q]; exact Classical.em _
    · exact .inr (fun e => q e.symm)
  · right
    show some gH ≠ nv.ownBlock
    intro e
    rcases hy with q | q
    · rcases h.ap with r | r
      · rw [r] at q; cases q
      · exact r (q.trans e)
    · have := (h.on.lt gH e.symm).2
      omega
  · obtain ⟨g, r1, r2, r3, r4⟩ := h.rm j hj
    have lt : j < hs.length := by rw [h.hl]; exact hj
    refine ⟨g, by rw [List.getElem?_append_left lt]; exact r1, r2, r3, ?_⟩
    exact Rf.kept (World.ownsRow.alloc r4 _) hg (rf_apart h.oh r4)
theorem FMg.addN {w W w4 : World} {i gN cap : Nat} {hv nv u : Value} {hs ns : List Value} {Ls : List (List Fl)} (h : FMg w W (i + 1) i hv nv hs ns Ls) (hr : Rm W w.heap.size (Ls.getD i []) hs[i]? (some u)) (o : w4.ownsRow w.heap.size 23 1 (.slice (some ⟨gN, 0, none⟩) (ns.length + 1) cap) (ns ++ [u]).length (ns ++ [u])) (hg : (W.alloc (.cells #[u] 23)).grownBy w4 nv.ownBlock) (hy : nv.ownBlock = some gN ∨ gN = W.heap.size + 1) :
    FMg w w4 (i + 1) (i + 1) hv (.slice (some ⟨gN, 0, none⟩) (ns.length + 1) cap) hs (ns ++ [u]) Ls := by
  have bA := h.bel.alloc h.bel.size (.cells #[u] 23)
  refine ⟨bA.grown hg (Nat.le_trans h.bel.size (by simp)) (fun k e => (h.on.lt k e).1), h.hl, by rw [List.length_append, h.nl]; rfl, ?_, o, ?_, fun j hj => ?_⟩
  · exact World.ownsRow.kept (h.oh.alloc _) hg h.ap
  · by_cases q0 : hv.ownBlock = none
    · exact .inl q0
    · right
      show hv.ownBlock ≠ some gN
      intro e
      rcases hy with q | q
      · rcases h.ap with r | r
        · exact q0 r
        · exact r (e.trans q.symm)
      · have := (h.oh.lt gN e).2
        omega
  · by_cases e : j = i
    · subst e
      obtain ⟨g, r1, r2, r3, r4⟩ := hr
      refine ⟨g, r1, ?_, r3, Rf.kept (World.ownsRow.alloc r4 _) hg (rf_apart h.on r4)⟩
      rw [List.getElem?_append_right (by rw [h.nl]; exact Nat.le_refl _), h.nl, Nat.sub_self]
      exact r2
    · obtain ⟨g, r1, r2, r3, r4⟩ := h.rm j (by omega)
      refine ⟨g, r1, by rw [List.getElem?_append_left (by rw [h.nl]; omega)]; exact r2, r3, Rf.kept (World.ownsRow.alloc r4 _) hg (rf_apart h.on r4)⟩
theorem FMg.start (w : World) (Ls : List (List Fl)) : FMg w w 0 0 (.slice none 0 0) (.slice none 0 0) [] [] Ls :=
  ⟨Below.refl _ _, rfl, rfl, World.ownsRow_nil _ _ _ _, World.ownsRow_nil _ _ _ _, .inl rfl, fun j hj => by omega⟩
theorem own_cell {w : World} {B j : Nat} {v u : Value} {vs : List Value} (h : w.ownsRow B 23 1 v vs.length vs) (hu : vs[j]? = some u) : ∃ g cap, v = .slice (some ⟨g, 0, none⟩) vs.length cap ∧ B ≤ g ∧ g < w.heap.size ∧ w.cell? ⟨g, j, none⟩ = some u := by
  have hj : j < vs.length := (List.getElem?_eq_some_iff.1 hu).1
  obtain ⟨g, cap, rfl, h1, h2⟩ := h.form (by omega)
  exact ⟨g, cap, rfl, h1, h2, by rw [h.cellAt j (by omega)]; exact hu⟩
theorem FMg.ll {w wr : World} {n : Nat} {hv nv : Value} {hs ns : List Value} {Ls : List (List Fl)} (h : FMg w wr n n hv nv hs ns Ls) (hl : Ls.length = n) (hn : n ≤ 1048576) (ht : ltot Ls ≤ 1048576) : ∃ x c, nv = .slice x n c ∧ LL wr x n Ls := by
  by_cases h0 : n = 0
  · subst h0
    have e : ns = [] := List.length_eq_zero_iff.1 h.nl
    have o := h.on
    rw [e] at o
    rcases o.2 with ⟨q, _⟩ | ⟨g, cap, cur, q, _⟩
    · exact ⟨_, _, q, hl, by omega, .inl rfl⟩
    · exact ⟨_, _, q, hl, by omega, .inl rfl⟩
  · obtain ⟨g, cap, q, h1, h2⟩ := h.on.form (by rw [h.nl]; omega)
    rw [h.nl] at q
    refine ⟨_, _, q, hl, hn, .inr ⟨g, 0, rfl, h2, fun i hi => ?_⟩⟩
    obtain ⟨gg, r1, r2, r3, r4⟩ := h.rm i hi
    have lt := ltot_two Ls i
    refine ⟨_, ?_, some ⟨gg, 0, none⟩, (Ls.getD i []).length + 3, rfl, rf_flM r4 rfl (by omega), fun q => (by cases q), by omega⟩
    have o := h.on
    rw [q] at o
    rw [Nat.zero_add]
    have c := World.ownsRow.cellAt (n := ns.length) (by rw [h.nl] at o ⊢; exact o) i (by rw [h.nl]; omega)
    rw [c]
    exact r2
/-- What both answer. -/
def Mq (Ls : List (List Fl)) (T : List Fl) (q : Int) : Prop := ((∃ l ∈ Ls, srtB l = false) ∧ T = [] ∧ q = 1) ∨ ((∀ l ∈ Ls, srtB l = true) ∧ q = 0 ∧ Srt T ∧ ∀ D, onDay D T = Ls.flatMap (onDay D))
theorem Mq.one {Ls : List (List Fl)} {T T' : List Fl} {q q' : Int} (h : Mq Ls T q) (h' : Mq Ls T' q') : T' = T ∧ q' = q := by
  rcases h with ⟨⟨l, hl, hf⟩, h2, h3⟩ | ⟨h1, h2, h3, h4⟩ <;> rcases h' with ⟨⟨l', hl', hf'⟩, k2, k3⟩ | ⟨k1, k2, k3, k4⟩
  · exact ⟨by rw [h2, k2], by rw [h3, k3]⟩
  · have := k1 l hl; rw [hf] at this; cases this
  · have := h1 l' hl'; rw [hf'] at this; cases this
  · exact ⟨srt_only k3 h3 (fun D => by rw [k4 D, h4 D]), by rw [h2, k2]⟩
theorem mergeM (a : Option Addr) (n cap : Nat) (Ls : List (List Fl)) (w : World) (h : LL w a n Ls) (ht : ltot Ls ≤ 1048576) :
    Calls Try.prog 5 #[.slice a n cap] w fun e w' => ∃ T v q, e = .returned (.tuple #[v, .int .i64 q]) ∧ Below w.heap.size w w' ∧ OV w' w.heap.size v T ∧ Mq Ls T q ∧ T.length ≤ 1048576 := by
  refine (merge_own a n cap Ls w h ht).mono ?_
  rintro e w' ⟨hb, ⟨h1, rfl⟩ | ⟨h1, T, v, rfl, h3, h4⟩⟩
  · exact ⟨[], _, _, rfl, hb, World.ownsRow_nil _ _ _ _, .inl ⟨h1, rfl, rfl⟩, by simp⟩
  · exact ⟨T, v, _, rfl, hb, h3, .inr ⟨h1, rfl, h4.srt, h4.day⟩, by have := h4.len; omega⟩
theorem rmergeM (a : Option Addr) (n cap : Nat) (Ls : List (List Fl)) (w : World) (h : LL w a n Ls) (ht : ltot Ls ≤ 1048576) :
    Calls Try.prog 6 #[.slice a n cap] w fun e w' => ∃ T v q, e = .returned (.tuple #[v, .int .i64 q]) ∧ Below w.heap.size w w' ∧ SV w' v T ∧ Mq Ls T q := by
  refine (rmerge_any a n cap Ls w h ht).mono ?_
  rintro e w' ⟨hb, ⟨h1, rfl⟩ | ⟨h1, T, v, rfl, h3, h4, h5, _⟩⟩
  · exact ⟨[], _, _, rfl, hb, ⟨none, 0, rfl, ⟨rfl, by simp, .inl rfl⟩, fun _ => rfl, by simp⟩, .inl ⟨h1, rfl, rfl⟩⟩
  · exact ⟨T, v, _, rfl, hb, h3, .inr ⟨h1, rfl, h4, h5⟩⟩
set_option maxRecDepth 100000 in
set_option maxHeartbeats 8000000 in
theorem flowMerges_walk (a : Option Addr) (n cap : Nat) (Ls : List (List Fl)) (w : World) (h : LL w a n Ls) (ht : ltot Ls ≤ 1048576) :
    Calls Try.prog 3 #[.slice a n cap] w fun e w' => e = .returned (.bool true) ∧ Below w.heap.size w w' := by
  have H := Lib.hid h
  have HL := Lib.hid h.1
  have hn := h.2.1
  clear h
  go_enter Try.func3, Try.ntmps3
  go_wp2
  go_loopw [3, 4, 5] (fun nv hv x wr => ∃ (i : Nat) (hs ns : List Value), i ≤ n ∧ x = .int .i64 (i : Int) ∧ FMg w wr i i hv nv hs ns Ls) (fun _ _ x _ => n - (intOf x).toNat)
  case atStart => exact ⟨0, [], [], by omega, rfl, FMg.start w Ls⟩
  case round =>
    obtain ⟨i, hs, ns, hi, rfl, hF⟩ := hrel
    rename World => wr
    have FF := Lib.hid hF
    by_cases hlt : i < n
    · obtain ⟨b, o, rfl, hb, hc⟩ := H.out.row (by omega)
      obtain ⟨v, qv, fv⟩ := hc i hlt
      have l2 := ltot_two Ls i
      obtain ⟨l, hl0⟩ : ∃ l, Ls.getD i [] = l := ⟨_, rfl⟩
      have HLI := Lib.hid hl0
      rw [hl0] at fv l2
      obtain ⟨x, c, rfl, fl, _⟩ := fv
      have FW := Lib.hid fl
      have HN := Lib.hid (p := hs.length = i ∧ ns.length = i) ⟨hF.hl, hF.nl⟩
      obtain ⟨ln, hln⟩ : ∃ ln, l.length = ln := ⟨_, rfl⟩
      have LN := Lib.hid hln
      rw [hln] at qv FW l2
      have QV := Lib.hid (p := ∀ W, Below w.heap.size w W → W.cell? ⟨b, o + i, none⟩ = some (.slice x ln c)) (fun W bb => (bb.cell (p := ⟨b, o + i, none⟩) hb).trans qv)
      have qr := QV.out wr hF.bel
      have KR := Lib.hid (fun W (bb : Below w.heap.size w W) => roomy_any x ln c l W (FW.out.later bb))
      have ki : (i : Int) < (n : Int) := by omega
      have kwi : IntKind.i64.wrap ((i : Int) + 1) = (i : Int) + 1 := by simp [IntKind.wrap, IntKind.bits, IntKind.signed]; omega
      have kl0 : (0 : Int) ≤ (ln : Int) := by omega
      have kl3 : (ln : Int) ≤ (ln : Int) + 3 := by omega
      clear fl qv hc hl0 hln hF
      go_wp2_with fail
      go_at_call 4
      refine (KR.out _ FF.out.bel).mono ?_
      rintro e w2 ⟨rfl, b2, r2⟩
      have F2 := Lib.hid (FF.out.later b2)
      have R2 := Lib.hid (p := Rf w2 wr.heap.size (mks l)) (by unfold mks; rw [LN.out]; exact r2)
      have q2 := QV.out w2 F2.out.bel
      clear b2 r2 qr
      have RMk := Lib.hid (p := ∀ W u, Rf W wr.heap.size (mks l) → u = Value.slice (some ⟨wr.heap.size, 0, none⟩) (ln + 3) (ln + 3) → Rm W w.heap.size (Ls.getD i []) (hs ++ [u])[i]? (some (.slice (some ⟨wr.heap.size, 0, none⟩) ln (ln + 3)))) (fun W u r hu => by
        rw [HLI.out]
        refine ⟨wr.heap.size, ?_, by rw [LN.out], FF.out.bel.size, r⟩
        rw [List.getElem?_append_right (by rw [HN.out.1]; exact Nat.le_refl _), HN.out.1, Nat.sub_self, hu, LN.out]
        rfl)
      go_wp2_with (first
        | (at_builtin; refine wp_sl _ _ rfl rfl _ _ rfl w.heap.size _ hs rfl rfl F2.out.oh (by rw [F2.out.hl]; omega) F2.out.bel.size ?_; intro gH capH w3 o3 hg3 hy3; have F3 := Lib.hid (F2.out.addH o3 hg3 hy3); have R3 := Lib.hid (Rf.kept (World.ownsRow.alloc R2.out _) hg3 (rf_apart F2.out.oh R2.out)); have q3 := QV.out w3 F3.out.bel; clear o3 hg3 hy3 q2)
        | (at_builtin; refine wp_sl _ _ rfl rfl _ _ rfl w.heap.size _ ns rfl rfl F3.out.on (by rw [F3.out.nl]; omega) F3.out.bel.size ?_; intro gN capN w4 o4 hg4 hy4; have F4 := Lib.hid (F3.out.addN (RMk.out _ _ R3.out rfl) o4 hg4 hy4); clear o4 hg4 hy4 q3))
      go_roundw
      case rel => exact ⟨i + 1, _, _, by omega, by simp, F4.out⟩
      case measure => simp [intOf]; omega
    · obtain ⟨i_, hi_⟩ : ∃ i_, i = i_ := ⟨_, rfl⟩
      obtain rfl : i_ = i := hi_.symm
      obtain rfl : i_ = n := by omega
      have ki : ¬ (i_ : Int) < (i_ : Int) := by omega
      obtain ⟨xN, cN, rfl, hLL⟩ := hF.ll HL.out hn ht
      have KM := Lib.hid (mergeM xN i_ cN Ls wr hLL ht)
      have KR := Lib.hid (fun W (bb : Below w.heap.size w W) => rmergeM a i_ cap Ls W (H.out.later bb) ht)
      have BR := Lib.hid hF.bel
      clear hF hLL
      go_wp2_with fail
      go_at_call 5
      refine KM.out.mono ?_
      rintro e w5 ⟨T, va, qa, rfl, b5, ov, mq, tl⟩
      have B5 := Lib.hid b5
      have B5' := Lib.hid (BR.out.trans (b5.mono BR.out.size))
      have OA := Lib.hid ov
      have MQ := Lib.hid mq
      obtain ⟨xa, ca, rfl, _⟩ := ov.sv (by omega)
      clear b5 ov mq
      go_wp2_with fail
      go_at_call 6
      refine (KR.out _ B5'.out).mono ?_
      rintro e w6 ⟨T', vb, qb, rfl, b6, sv, mq⟩
      obtain ⟨rfl, rfl⟩ := MQ.out.one mq
      have B6 := Lib.hid (B5.out.trans (b6.mono B5.out.size))
      have O6 := Lib.hid (OA.out.later b6)
      obtain ⟨xb, cb, rfl, fb, _⟩ := sv
      have FB := Lib.hid fb
      have FA := Lib.hid (p := FL w6 xa T'.length T') (by
        obtain ⟨x, c, q, f, _⟩ := O6.out.sv (by omega)
        injection q with q
        subst q
        exact f)
      have KS := Lib.hid (same_fl xa xb T'.length ca cb T' w6 FA.out FB.out)
      have KHf := Lib.hid (fun W (o : OV W wr.heap.size (.slice xa T'.length ca) T') (hs : wr.heap.size ≤ W.heap.size) => hold_any (.slice xa T'.length ca) T'.length wr.heap.size (fcs T') (-9) W o (by omega) hs)
      generalize T'.length = tln at *
      clear b6 fb mq
      go_wp2_with fail
      go_at_call 7
      refine KS.out.mono ?_
      rintro e w7 ⟨rfl, b7⟩
      have B7 := Lib.hid (B6.out.trans (b7.mono B6.out.size))
      have O7 := Lib.hid (O6.out.later b7)
      clear b7
      have KH := Lib.hid (KHf.out w7 O7.out B7.out.size)
      go_wp2_with fail
      go_at_call 8
      refine KH.out.mono ?_
      rintro e w8 ⟨r8, rfl, b8⟩
      have B8 := Lib.hid (p := Below wr.heap.size wr w8) (B7.out.trans b8)
      clear b8
      go_wp2
      go_loopw [12] (fun x wy => ∃ i : Nat, i ≤ i_ ∧ x = .int .i64 (i : Int) ∧ Below wr.heap.size wr wy) (fun x _ => i_ - (intOf x).toNat)
      case atStart => exact ⟨0, by omega, rfl, B8.out⟩
      case round =>
        obtain ⟨i, hi, rfl, hB⟩ := hrel
        rename World => wy
        have BY := Lib.hid hB
        have BW := Lib.hid (BR.out.trans (hB.mono BR.out.size))
        by_cases hlt : i < i_
        · obtain ⟨b, o, rfl, hb, hc⟩ := H.out.row (by omega)
          obtain ⟨v, qv, fv⟩ := hc i hlt
          obtain ⟨g, r1, _, r3, r4⟩ := FF.out.rm i hlt
          obtain ⟨gh, caph, rfl, _, hgh, ch⟩ := own_cell FF.out.oh r1
          have l2 := ltot_two Ls i
          obtain ⟨l, hl0⟩ : ∃ l, Ls.getD i [] = l := ⟨_, rfl⟩
          rw [hl0] at fv l2 r1 r4 ch
          obtain ⟨x, c, rfl, fl, _⟩ := fv
          have KU := Lib.hid (fun W (bb : Below wr.heap.size wr W) => untouched_any x l.length c g l W (fl.later (BR.out.trans (bb.mono BR.out.size))) (Nat.lt_of_lt_of_le r4.lt bb.size) (fun k hk => ((r4.fc k (by simp; omega)).later bb r4.lt)))
          have qy := (BW.out.cell (p := ⟨b, o + i, none⟩) hb).trans qv
          have qh := (BY.out.cell (p := ⟨gh, i, none⟩) hgh).trans ch
          generalize l.length = ln at *
          have ki : (i : Int) < (i_ : Int) := by omega
          have kih : (i : Int) < (hs.length : Int) := by have := FF.out.hl; omega
          have kwi : IntKind.i64.wrap ((i : Int) + 1) = (i : Int) + 1 := by simp [IntKind.wrap, IntKind.bits, IntKind.signed]; omega
          have Q0 := Lib.hid qv
          have Q1 := Lib.hid ch
          clear fl qv hc hl0 hB ch r1 r4
          go_wp2_with fail
          go_region_held3 (fun w' => w'.cell? ⟨b, o + i, none⟩ = some (.slice x ln c) ∧ w'.cell? ⟨gh, i, none⟩ = some (.slice (some ⟨g, 0, none⟩) (ln + 3) (ln + 3)))
            (refine ⟨?_, ?_⟩ <;> first | assumption | (go_simp; done))
            (first
            | (go_at_call 9; refine (KU.out _ BY.out.drew).mono ?_; rintro e w9 ⟨rfl, b9⟩; have C9 := Lib.hid (show Below wr.heap.size wr w9 from BY.out.drew.trans (b9.mono BY.out.drew.size)); have v0 := ((BR.out.trans (C9.out.mono BR.out.size)).cell (p := ⟨b, o + i, none⟩) hb).trans Q0.out; have v1 := (C9.out.cell (p := ⟨gh, i, none⟩) hgh).trans Q1.out; clear b9))
          go_wp2
          go_roundw
          case rel => exact ⟨i + 1, by omega, by simp, C9.out⟩
          case measure => simp [intOf]; omega
        · obtain rfl : i = i_ := by omega
          have ki : ¬ (i : Int) < (i : Int) := by omega
          clear hB
          go_wp2
          go_ret
          exact ⟨rfl, BW.out⟩
end Go.Proofs.Ytegoeadmddliiaa
