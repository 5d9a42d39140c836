import Derived.Test.YtkjmkhmjaknfhaaGreatDoorXAW
import Derived.Test.YtkjmkhmjaknfhaaGreatDoorXAU
import Derived.Test.YtkjmkhmjaknfhaaGreatDoorXAJ
import Derived.ChangeArms
import Derived.Lib.LaidTab
import Derived.Lib.AppendStr
import Derived.Lib.AppendIntMem
import Derived.Lib.OthersKept
import Derived.Lib.ItoaLen
import Derived.Lib.ConvBytes
import Derived.Laws.AppendOwn
import Derived.Laws.IdiomStrings
import Derived.Test.YtkjmkhmjaknfhaaGreatDoorXAK
namespace Go.Proofs.YtkjmkhmjaknfhaaGreatDoor
open Go.RowKit
set_option linter.unusedVariables false
set_option linter.unusedSimpArgs false

/-- A cell is written as it is. -/
theorem set_same {W : World} {b k : Nat} {v : Value} (h : W.cell? ⟨b, k, none⟩ = some v) : W.setCell ⟨b, k, none⟩ v = W := by
  unfold World.setCell
  have e : W.heap.modify b (fun | .cells c elem frozen => .cells (if (⟨b, k, none⟩ : Addr).spot.isSome then c else c.setIfInBounds k v) elem frozen | o => o) = W.heap := by
    apply Array.ext
    · simp
    · intro i h1 h2
      rw [Array.getElem_modify]
      split
      · rename_i q
        subst q
        unfold World.cell? at h
        simp only at h
        rw [Array.getElem?_eq_getElem h2] at h
        cases hb : W.heap[b] with
        | cells c el fz =>
          rw [hb] at h
          simp only at h ⊢
          congr 1
          simp at h
          simp
          apply Array.ext
          · simp
          · intro j j1 j2
            rw [Array.getElem_setIfInBounds]
            split
            · rename_i q
              subst q
              have := (Array.getElem?_eq_some_iff.1 h).2
              exact this.symm
            · rfl
        | _ => rfl
      · rfl
  exact congrArg (fun z => ({ W with heap := z } : World)) e
theorem cloneT_any (s : ByteArray) (hs : s.size ≤ 140737488351232) (w : World) :
    Calls Tryz.prog 41 #[.string s] w fun e w' => e = .returned (.string s) ∧ Below w.heap.size w w' := by
  have K := Lib.hid (Tryz.stringslite_Clone s w (by omega))
  go_enter Tryz.func41, Tryz.ntmps41
  go_wp2_with (go_at_call 75; refine K.out.mono ?_; rintro e w1 ⟨rfl, h2⟩; have B := Lib.hid h2; clear h2)
  go_ret
  exact ⟨rfl, B.out⟩
/-- A list of texts, each cell of which may be written. -/
def WrS (w : World) (a : Option Addr) (ss : List ByteArray) : Prop := ss = [] ∨ ∃ g, a = some ⟨g, 0, none⟩ ∧ g < w.heap.size ∧ ∀ i (h : i < ss.length), w.cell? ⟨g, i, none⟩ = some (.string ss[i]) ∧ w.frozen? ⟨g, i, none⟩ = false
theorem wrs_of {w : World} {B c : Nat} {a : Option Addr} {ss : List ByteArray} (h : OwQ w B (.slice a ss.length c) ss) : WrS w a ss := by
  rcases h.2 with ⟨q, q0⟩ | ⟨g, cap, cur, q, _⟩
  · exact .inl (List.length_eq_zero_iff.1 q0)
  · injection q with q1 q2 q3
    subst q1
    refine .inr ⟨g, rfl, (h.lt g rfl).2, fun i hi => ⟨?_, h.frozenAt i⟩⟩
    have := h.cells (g := g) rfl i (.string ss[i]) (by simp [hi])
    rw [Go.Addr.add_lit, Nat.zero_add] at this
    exact this
theorem WrS.later {w W : World} {a : Option Addr} {ss : List ByteArray} (h : WrS w a ss) (b : Below w.heap.size w W) : WrS W a ss := by
  rcases h with h | ⟨g, e, h1, h2⟩
  · exact .inl h
  · exact .inr ⟨g, e, Nat.lt_of_lt_of_le h1 b.size, fun i hi => ⟨(b.cell (p := ⟨g, i, none⟩) h1).trans (h2 i hi).1, (World.frozen?_of_block (a := ⟨g, i, none⟩) (b.block g h1)).trans (h2 i hi).2⟩⟩
theorem two_boxQ (w : World) (o1 o2 : Obj) : ((w.alloc o1).alloc o2).heap[w.heap.size]? = some o1 ∧ ((w.alloc o1).alloc o2).heap[w.heap.size + 1]? = some o2 :=
  ⟨(Below.heap_alloc _ _ _ (by simp)).trans (heapN w o1), by simpa using heapN (w.alloc o1) o2⟩
theorem box_8Q {w : World} {x : Nat} {a b c d e f g h : Value} {t : TypeId} (k : w.heap[x]? = some (.cells #[a, b, c, d, e, f, g, h] t)) : w.cell? ⟨x, 0, none⟩ = some a ∧ w.cell? ⟨x, 1, none⟩ = some b ∧ w.cell? ⟨x, 2, none⟩ = some c ∧ w.cell? ⟨x, 3, none⟩ = some d ∧ w.cell? ⟨x, 4, none⟩ = some e ∧ w.cell? ⟨x, 5, none⟩ = some f ∧ w.cell? ⟨x, 6, none⟩ = some g ∧ w.cell? ⟨x, 7, none⟩ = some h := by
  refine ⟨?_, ?_, ?_, ?_, ?_, ?_, ?_, ?_⟩ <;> simp [World.cell?, k]
theorem index_two {x y : Value} {k : Nat} (hk : k < 2) (W : World) {a b : Option Addr} {n c m d : Nat} : (Instr.index 80 (.agg #[.slice a n c, .slice b m d]) (.int .i64 (k : Int))).run Tryz.prog W = .ok (if k = 0 then .slice a n c else .slice b m d) W := by
  have h1 : (0 : Int) ≤ (k : Int) ∧ (k : Int) < ((2 : Nat) : Int) := by omega
  obtain ⟨i, hi, hs⟩ : ∃ i, Tryz.prog.info? 23 = some i ∧ i.size = 1 := by
    have : (Tryz.prog.info? 23).map (·.size) = some 1 := by kernel_rfl
    cases hq : Tryz.prog.info? 23 with
    | none => rw [hq] at this; cases this
    | some i => rw [hq] at this; exact ⟨i, rfl, by simpa using this⟩
  have hagg : (isAgg 23).run Tryz.prog W = .ok false W := by
    unfold isAgg
    rw [Sem.run_bind, run_underlying Tryz.underlying23 W]
    simp
  rcases (show k = 0 ∨ k = 1 by omega) with rfl | rfl <;>
  simp [Instr.index, run_underlying Tryz.underlying80, asIntOf, sizeOf, typeInfo, hi, hs, part, Sem.run_bind, hagg]
set_option maxRecDepth 100000 in
set_option maxHeartbeats 4000000 in
theorem ownTexts_any {w : World} {an au pa da : Option Addr} {cn cu pn pc dn dc : Nat} {ns us : List ByteArray} {hor cells slots stack : Int} (hn : WrS w an ns) (hu : WrS w au us) (zn : ∀ s ∈ ns, s.size ≤ 140737488351232) (zu : ∀ s ∈ us, s.size ≤ 140737488351232) (ln : ns.length ≤ 16777216) (lu : us.length ≤ 16777216) :
    Calls Tryz.prog 21 #[.agg #[.slice an ns.length cn, .slice au us.length cu, .slice pa pn pc, .int .i64 hor, .int .i64 cells, .int .i64 slots, .int .i64 stack, .slice da dn dc]] w fun e w' => e = .returned (.agg #[.slice an ns.length cn, .slice au us.length cu, .slice pa pn pc, .int .i64 hor, .int .i64 cells, .int .i64 slots, .int .i64 stack, .slice da dn dc]) ∧ Below w.heap.size w w' := by
  have IX := Lib.hid (fun (k : Nat) (hk : k < 2) W => index_two (x := .bool false) (y := .bool false) (a := an) (n := ns.length) (c := cn) (b := au) (m := us.length) (d := cu) hk W)
  have HN := Lib.hid hn
  have HU := Lib.hid hu
  have ZN := Lib.hid zn
  have ZU := Lib.hid zu
  have A0 := Lib.hid (((Below.refl w.heap.size w).alloc (Nat.le_refl _) (.cells #[.slice an ns.length cn, .slice au us.length cu, .slice pa pn pc, .int .i64 hor, .int .i64 cells, .int .i64 slots, .int .i64 stack, .slice da dn dc] 27)).alloc (by simp) (.cells #[.slice none 0 0, .slice none 0 0, .slice none 0 0, .int .i64 0, .int .i64 0, .int .i64 0, .int .i64 0, .slice none 0 0] 27))
  obtain ⟨tb1, tb2⟩ := two_boxQ w (.cells #[.slice an ns.length cn, .slice au us.length cu, .slice pa pn pc, .int .i64 hor, .int .i64 cells, .int .i64 slots, .int .i64 stack, .slice da dn dc] 27) (.cells #[.slice none 0 0, .slice none 0 0, .slice none 0 0, .int .i64 0, .int .i64 0, .int .i64 0, .int .i64 0, .slice none 0 0] 27)
  clear hn hu zn zu
  go_enter Tryz.func21, Tryz.ntmps21
  go_wp2
  obtain ⟨W0, hW0⟩ : ∃ x, ((w.alloc (.cells #[.slice an ns.length cn, .slice au us.length cu, .slice pa pn pc, .int .i64 hor, .int .i64 cells, .int .i64 slots, .int .i64 stack, .slice da dn dc] 27)).alloc (.cells #[.slice none 0 0, .slice none 0 0, .slice none 0 0, .int .i64 0, .int .i64 0, .int .i64 0, .int .i64 0, .slice none 0 0] 27)) = x := ⟨_, rfl⟩
  rw [hW0] at A0 tb1 tb2
  try rw [hW0]
  clear hW0
  have TB1 := Lib.hid tb1
  have TB2 := Lib.hid tb2
  have nz := Array.getElem?_eq_some_iff.1 tb2
  have NZ := Lib.hid nz.1
  clear tb1 tb2 nz
  go_loopw [12] (fun t W => ∃ k : Nat, k ≤ 2 ∧ t = .int .i64 (k : Int) ∧ RowKit.Hid (Below W0.heap.size W0 W)) (fun t _ => 2 - (intOf t).toNat)
  case atStart => exact ⟨0, by omega, rfl, Below.refl _ _⟩
  case round =>
    obtain ⟨k, hk, rfl, HB⟩ := hrel
    rename World => W
    by_cases hlt : k < 2
    · have ix := IX.out k hlt W
      have kc : (k : Int) < 2 := by omega
      rcases (show k = 0 ∨ k = 1 by omega) with rfl | rfl
      · have HQ := HN
        have ZS := ZN
        have LN : ns.length ≤ 16777216 := ln
        have ix0 : (Instr.index 80 (.agg #[.slice an ns.length cn, .slice au us.length cu]) (.int .i64 0)).run Tryz.prog W = .ok (.slice an ns.length cn) W := ix
        go_wp2
        go_loopw [17] (fun t W2 => ∃ j : Nat, j ≤ ns.length ∧ t = .int .i64 (j : Int) ∧ RowKit.Hid (Below W0.heap.size W0 W2)) (fun t _ => ns.length - (intOf t).toNat)
        case atStart => exact ⟨0, by omega, rfl, HB⟩
        case round =>
          obtain ⟨j, hj, rfl, HB2⟩ := hrel
          rename World => W2
          by_cases hlj : j < ns.length
          · have jc : (j : Int) < (ns.length : Int) := by omega
            have wr := HQ.out.later (A0.out.trans (HB2.out.mono A0.out.size))
            rcases wr with q | ⟨g, rfl, hg, hc⟩
            · rw [q] at hlj; exact absurd hlj (by simp)
            · have c1 := (hc j hlj).1
              have KC := Lib.hid (cloneT_any ns[j] (ZS.out _ (List.getElem_mem hlj)) W2)
              have CF := Lib.hid (fun W3 (b : Below W2.heap.size W2 W3) => And.intro ((b.cell (p := ⟨g, j, none⟩) hg).trans (hc j hlj).1) ((World.frozen?_of_block (a := ⟨g, j, none⟩) (b.block g hg)).trans (hc j hlj).2))
              generalize ns[j] = z at *
              clear hc
              go_wp2_with (go_at_call 41; refine KC.out.mono ?_; rintro e W3 ⟨rfl, h2⟩; have c3 := (CF.out W3 h2).1; have f3 := (CF.out W3 h2).2; have C3 := Lib.hid c3; have B3 := Lib.hid (HB2.out.trans (h2.mono HB2.out.size)); clear h2)
              go_roundw
              case rel => exact ⟨j + 1, by omega, by go_num, by rw [set_same C3.out]; exact B3⟩
              case measure => simp [intOf]; omega
          · obtain rfl : j = ns.length := by omega
            go_wp2
            go_roundw
            case rel => exact ⟨1, by omega, by go_num, HB2⟩
            case measure => simp [intOf]
      · have HQ := HU
        have ZS := ZU
        have LN : us.length ≤ 16777216 := lu
        have ix0 : (Instr.index 80 (.agg #[.slice an ns.length cn, .slice au us.length cu]) (.int .i64 1)).run Tryz.prog W = .ok (.slice au us.length cu) W := ix
        rw [show ((1 : Nat) : Int) = 1 from rfl]
        go_wp2
        go_loopw [17] (fun t W2 => ∃ j : Nat, j ≤ us.length ∧ t = .int .i64 (j : Int) ∧ RowKit.Hid (Below W0.heap.size W0 W2)) (fun t _ => us.length - (intOf t).toNat)
        case atStart => exact ⟨0, by omega, rfl, HB⟩
        case round =>
          obtain ⟨j, hj, rfl, HB2⟩ := hrel
          rename World => W2
          by_cases hlj : j < us.length
          · have jc : (j : Int) < (us.length : Int) := by omega
            have wr := HQ.out.later (A0.out.trans (HB2.out.mono A0.out.size))
            rcases wr with q | ⟨g, rfl, hg, hc⟩
            · rw [q] at hlj; exact absurd hlj (by simp)
            · have c1 := (hc j hlj).1
              have KC := Lib.hid (cloneT_any us[j] (ZS.out _ (List.getElem_mem hlj)) W2)
              have CF := Lib.hid (fun W3 (b : Below W2.heap.size W2 W3) => And.intro ((b.cell (p := ⟨g, j, none⟩) hg).trans (hc j hlj).1) ((World.frozen?_of_block (a := ⟨g, j, none⟩) (b.block g hg)).trans (hc j hlj).2))
              generalize us[j] = z at *
              clear hc
              go_wp2_with (go_at_call 41; refine KC.out.mono ?_; rintro e W3 ⟨rfl, h2⟩; have c3 := (CF.out W3 h2).1; have f3 := (CF.out W3 h2).2; have C3 := Lib.hid c3; have B3 := Lib.hid (HB2.out.trans (h2.mono HB2.out.size)); clear h2)
              go_roundw
              case rel => exact ⟨j + 1, by omega, by go_num, by rw [set_same C3.out]; exact B3⟩
              case measure => simp [intOf]; omega
          · obtain rfl : j = us.length := by omega
            go_wp2
            go_roundw
            case rel => exact ⟨2, by omega, by go_num, HB2⟩
            case measure => simp [intOf]
    · obtain rfl : k = 2 := by omega
      obtain ⟨x0, x1, x2, x3, x4, x5, x6, x7⟩ := box_8Q ((HB.out.block _ (by have := NZ.out; omega)).trans TB1.out)
      have b2 := (HB.out.block _ NZ.out).trans TB2.out
      obtain ⟨y0, y1, y2, y3, y4, y5, y6, y7⟩ := box_8Q b2
      have fz : ∀ i, W.frozen? ⟨w.heap.size + 1, i, none⟩ = false := fun i => BkP.frozen b2 i
      have f0 := fz 0
      have f1 := fz 1
      have f2 := fz 2
      have f3 := fz 3
      have f4 := fz 4
      have f5 := fz 5
      have f6 := fz 6
      have f7 := fz 7
      clear fz b2
      go_wp2
      refine bodyPost_ret (v := .agg #[.slice an ns.length cn, .slice au us.length cu, .slice pa pn pc, .int .i64 hor, .int .i64 cells, .int .i64 slots, .int .i64 stack, .slice da dn dc]) (by simp [results, Tryz.results21, go_sem, y0, y1, y2, y3, y4, y5, y6, y7]) rfl ⟨rfl, ?_⟩
      exact (((((((((A0.out.trans (HB.out.mono A0.out.size)).setCell (p := ⟨w.heap.size + 1, 0, none⟩) (by simp) _).setCell (p := ⟨w.heap.size + 1, 1, none⟩) (by simp) _).setCell (p := ⟨w.heap.size + 1, 2, none⟩) (by simp) _).setCell (p := ⟨w.heap.size + 1, 3, none⟩) (by simp) _).setCell (p := ⟨w.heap.size + 1, 4, none⟩) (by simp) _).setCell (p := ⟨w.heap.size + 1, 5, none⟩) (by simp) _).setCell (p := ⟨w.heap.size + 1, 6, none⟩) (by simp) _).setCell (p := ⟨w.heap.size + 1, 7, none⟩) (by simp) _)
end Go.Proofs.YtkjmkhmjaknfhaaGreatDoor

namespace Go.Proofs.YtkjmkhmjaknfhaaGreatDoor
open Go.RowKit
set_option linter.unusedVariables false
set_option linter.unusedSimpArgs false

theorem owq_wrw {W : World} {B xb n c : Nat} {l : List ByteArray} (h : OwQ W B (.slice (some ⟨xb, 0, none⟩) n c) l) (hn : n = l.length) : WrW xb 0 W l := by
  subst hn
  refine ⟨(h.lt xb rfl).2, fun i hi => ?_⟩
  rcases wrs_of h with q | ⟨g, e, _, q⟩
  · subst q; simp at hi
  · injection e with e
    injection e with e1 e2
    subst e1
    simpa using (q i hi).1
/-- A value more. -/
theorem DsP.num1 {pb B m : Nat} {W W' : World} {p : Ap} {vn vu vp vp' vd : Value} {D : List Sg} (hb : BkP W pb (dsA vn vu vp p.hor p.cells p.slots p.stack vd) 27) (hl : DsL pb B W p vn vu vp vd D m) (u : Int)
    (gr : W.grownBy W' vp.ownBlock) (o : OwZs W' B vp' (p.pl ++ [u])) :
    DsP pb B (W'.setCell ⟨pb, 2, none⟩ vp') { p with pl := p.pl ++ [u] } m ∧ W'.cell? ⟨pb, 2, none⟩ = some vp ∧ W'.frozen? ⟨pb, 2, none⟩ = false ∧ FrB pb B W (W'.setCell ⟨pb, 2, none⟩ vp') := by
  have np : some pb ≠ vp.ownBlock := fun e => by have := (hl.op.lt pb e.symm).1; have := hl.pb_lt; omega
  have hb1 := hb.grown gr np
  have hl1 := hl.num u gr o
  exact ⟨⟨_, _, _, _, D, hb1.set 2 _ (by simp [dsA]), hl1.setB 2 _⟩, hb1.cell 2, hb1.frozen 2, (FrB.grown gr (fun z e => .inl (hl.op.lt z e).1)).trans (FrB.set _ 2 _)⟩
set_option maxRecDepth 100000 in
set_option maxHeartbeats 4000000 in
theorem listZ_any {w : World} {pb B B0 m : Nat} {p : Ap} {xb xo n c : Nat} {w0 : ByteArray} {ws : List ByteArray} (hne : ws ≠ []) (h : DsP pb B w p m) (h0 : p.pl = []) (hxo : xo = 0) (hs : OwQ w B0 (.slice (some ⟨xb, xo, none⟩) n c) (w0 :: ws)) (hB0 : pb < B0) (hn : n = ws.length + 1) (hc : n ≤ 16777216) (hz : ∀ s ∈ w0 :: ws, s.size ≤ 16777216) :
    Calls Tryz.prog 59 #[.pointer (some ⟨pb, 0, none⟩), .slice (some ⟨xb, xo, none⟩) n c, .int .i64 2] w fun e w' => LsE pb B m (apList 2 ws p) w e w' := by
  have HS := Lib.hid hs
  have HZ := Lib.hid hz
  have HX := Lib.hid h
  have H0 := Lib.hid h0
  have NN := Lib.hid hn
  have XO := Lib.hid hxo
  have PB0 := Lib.hid hB0
  have CS := Lib.hid (p := ∀ W, OwQ W B0 (.slice (some ⟨xb, xo, none⟩) n c) (w0 :: ws) → WrW xb xo W (w0 :: ws)) (fun W q => by subst hxo; exact owq_wrw q (by rw [hn]; rfl))
  have e0 : apList 2 ws p = (valsW ws).map fun l => { p with pl := l } := by
    unfold apList
    rw [if_neg hne]
    rfl
  have n2 : ¬ (n : Int) < 2 := by
    have : 0 < ws.length := List.length_pos_iff.2 hne
    omega
  have n2' : 1 ≤ n := by omega
  rw [e0]
  clear e0 h h0 hs hz hn hne hxo hB0
  go_enter Tryz.func59, Tryz.ntmps59
  go_wp2
  go_loopw [7] (fun t W => ∃ (j : Nat) (us : List Int), 1 ≤ j ∧ j ≤ n ∧ t = .int .i64 (j : Int) ∧ RowKit.Hid (us.length = j - 1) ∧ RowKit.Hid (valsW (ws.take (j - 1)) = some us) ∧ RowKit.Hid (DsP pb B W { p with pl := us } m) ∧ RowKit.Hid (FrB pb B w W) ∧ RowKit.Hid (OwQ W B0 (.slice (some ⟨xb, xo, none⟩) n c) (w0 :: ws))) (fun t _ => n - (intOf t).toNat)
  case atStart => exact ⟨1, [], Nat.le_refl _, n2', rfl, rfl, by rw [show 1 - 1 = 0 from rfl, List.take_zero]; rfl, by have z := HX.out; rw [show ({ p with pl := [] } : Ap) = p by rw [← H0.out]]; exact z, FrB.refl _ _ _, HS.out⟩
  case round =>
    rename World => W
    obtain ⟨j, us, j1, jn, rfl, HU, HA, HD, HF, HW⟩ := hrel
    by_cases hlt : j < n
    · have jc : (j : Int) < (n : Int) := by omega
      have jl : j < (w0 :: ws).length := by rw [List.length_cons, ← NN.out]; exact hlt
      have jl2 : j - 1 < ws.length := by have := NN.out; omega
      have cw := (CS.out W HW.out).2 j jl
      have zz := HZ.out _ (List.getElem_mem jl)
      have ez : (w0 :: ws)[j] = ws[j - 1] := by
        obtain ⟨i, rfl⟩ : ∃ i, j = i + 1 := ⟨j - 1, by omega⟩
        rfl
      have tk : ws.take (j + 1 - 1) = ws.take (j - 1) ++ [(w0 :: ws)[j]] := by rw [ez, show j + 1 - 1 = (j - 1) + 1 by omega, List.take_succ_eq_append_getElem jl2]
      have TK := Lib.hid (p := valsW (ws.take (j + 1 - 1)) = (valW (w0 :: ws)[j]).map fun v => us ++ [v]) (by rw [tk, valsW_snoc, HA.out]; rfl)
      have TB := Lib.hid (p := valW (w0 :: ws)[j] = none → valsW ws = none) (fun q => by
        rw [← List.take_append_drop (j + 1 - 1) ws]
        refine valsW_bad ?_
        rw [TK.out, q]; rfl)
      have LN := Lib.hid (p := us.length ≤ 1073741824) (by have := HU.out; omega)
      generalize (w0 :: ws)[j] = z at *
      have KV := Lib.hid (valueT_any z zz W)
      clear ez jl zz tk
      obtain ⟨vn, vu, vp, vd, D, hb, hl⟩ := HD.out
      have HB := Lib.hid hb
      have HL := Lib.hid hl
      have cv := hb.cell 2
      simp only [dsA, List.getElem?_toArray, List.getElem?_cons_zero, List.getElem?_cons_succ] at cv
      have OW := Lib.hid hl.op
      have BZ := Lib.hid hl.sz
      have PB := Lib.hid hl.pb_lt
      have OX := Lib.hid (p := ∀ W', W.grownBy W' vp.ownBlock → OwQ W' B0 (.slice (some ⟨xb, xo, none⟩) n c) (w0 :: ws)) (fun W' g => own_typQ HW.out hl.op (by decide) g)
      have ND := Lib.hid (fun (u : Int) (v5 : Value) (w5 : World) gr o => DsP.num1 (W := W.alloc (.cells #[.int .i64 u] 3)) (W' := w5) (vp' := v5) (p := { p with pl := us }) ((allocBP W (.cells #[.int .i64 u] 3)).block pb HB.out.lt |>.trans HB.out) (HL.out.later (allocBP W (.cells #[.int .i64 u] 3))) u gr o)
      have NX := Lib.hid (fun (u : Int) (w5 : World) gr => own_typQ (W := W.alloc (.cells #[.int .i64 u] 3)) (W' := w5) (own_belQ HW.out (allocBP W (.cells #[.int .i64 u] 3))) (own_belQ HL.out.op (allocBP W (.cells #[.int .i64 u] 3))) (by decide) gr)
      clear hb hl HD
      obtain ⟨O, hO⟩ : ∃ O, valW z = O := ⟨_, rfl⟩
      rw [hO] at KV TB TK
      clear hO
      cases O with
      | none =>
        have AF := Lib.hid (TB.out rfl)
        clear TB TK
        go_wp2_with (first
          | (go_at_call 33; refine KV.out.mono ?_; rintro e w2 ⟨⟨i, rfl, hi⟩, rfl⟩; clear hi)
          | (at_builtin; refine wp_intA _ B i us rfl _ _ rfl vp rfl rfl OW.out LN.out BZ.out ?_; intro v5 w5 o5 g5; obtain ⟨a5, c5, rfl⟩ := own_slQ o5; have N5 := ND.out i _ w5 g5 o5; rw [show (us ++ [i]).length = us.length + 1 from by simp] at N5; have N5 := Lib.hid N5; have k1 := N5.out.2.1; have k2 := N5.out.2.2.1; clear o5 g5))
        go_ret
        rw [AF.out]
        exact ⟨rfl, HF.out.trans ((FrB.below (allocBP _ _)).trans N5.out.2.2.2), fun q hq => by cases hq⟩
      | some v =>
        clear TB
        go_wp2_with (first
          | (go_at_call 33; refine KV.out.mono ?_; rintro e w2 ⟨⟨i, rfl, hi⟩, rfl⟩; obtain rfl := hi v rfl; clear hi)
          | (at_builtin; refine wp_intA _ B i us rfl _ _ rfl vp rfl rfl OW.out LN.out BZ.out ?_; intro v5 w5 o5 g5; obtain ⟨a5, c5, rfl⟩ := own_slQ o5; have N5 := ND.out i _ w5 g5 o5; rw [show (us ++ [i]).length = us.length + 1 from by simp] at N5; have N5 := Lib.hid N5; have W5 := Lib.hid (NX.out i w5 g5); have k1 := N5.out.2.1; have k2 := N5.out.2.2.1; clear o5 g5))
        go_roundw
        case rel => exact ⟨j + 1, us ++ [i], by omega, by omega, by go_num, by have := HU.out; simp; show us.length + 1 = j; omega, by rw [TK.out]; rfl, N5.out.1, HF.out.trans ((FrB.below (allocBP _ _)).trans N5.out.2.2.2), own_setQ W5.out PB0.out⟩
        case measure => simp [intOf]; omega
    · obtain rfl : j = n := by omega
      have AL := Lib.hid (p := valsW ws = some us) (by have := HA.out; rwa [List.take_of_length_le (by have := NN.out; omega)] at this)
      go_wp2
      go_ret
      rw [AL.out]
      exact ⟨rfl, HF.out, fun q hq => by injection hq with hq; subst hq; exact HD.out⟩
end Go.Proofs.YtkjmkhmjaknfhaaGreatDoor

namespace Go.Proofs.YtkjmkhmjaknfhaaGreatDoor
open Go.RowKit
set_option linter.unusedVariables false
set_option linter.unusedSimpArgs false
/-- The document's heads, in memory. -/
def HdR (w : World) : Prop := 0 < w.heap.size ∧ ∀ k, k < 7 → w.cell? ⟨0, k, none⟩ = some (.string (hdA k))
theorem HdR.later {w w' : World} (h : HdR w) (b : Below w.heap.size w w') : HdR w' := ⟨Nat.lt_of_lt_of_le h.1 b.size, fun k hk => (b.cell (p := ⟨0, k, none⟩) h.1).trans (h.2 k hk)⟩
def hdD {H : Type} (k : Nat) : DataW H := .lit (.string (hdA k).data.toList)
theorem hds_of_laid {w : World} {rest : List (String × DataW Unit)} (h : laidMet Tryz.prog (("payoff/payoffref13.heads", Rows.laid_payoff_payoffref13_heads) :: rest) w) : HdR w := by
  have hg : Tryz.prog.globalNamed "payoff/payoffref13.heads" = some 0 := by kernel_rfl
  have hty : (Tryz.prog.globals[0]?).map (·.type) = some 104 := by kernel_rfl
  obtain ⟨ps, ⟨g', t', cs, fuel, p, q, hg', ht', hvar, hd, _, _⟩, _⟩ := h
  obtain rfl := Option.some.inj (hg.symm.trans hg')
  obtain rfl := Option.some.inj (hty.symm.trans ht')
  rw [show (Rows.laid_payoff_payoffref13_heads : DataW Unit) = .agg ((List.range 7).map hdD) from rfl] at hd
  obtain ⟨xs, m, _, hx, hl, hlen, hel⟩ := DataW.trod_array Tryz.underlying104 hd
  rw [show Tryz.prog.cellsOf 104 = 7 by kernel_rfl] at hl
  rw [show Tryz.prog.cellsOf 9 = 1 by kernel_rfl] at hel
  have hx1 : xs.map (·.1) = (List.range 7).map hdD := by
    have := congrArg Prod.fst hx
    simp only [DataW.agg.injEq] at this
    exact this.symm
  have key : ∀ k, k < 7 → (cs.toList.drop (k * 1)).take 1 = [.string (hdA k)] := by
    intro k hk
    have h1 := hel k hk
    have hk' : k < xs.length := by omega
    rw [List.getElem?_eq_getElem hk'] at h1
    have h2 : (xs[k]).1 = hdD k := by
      have : (xs.map (·.1))[k]? = ((List.range 7).map hdD)[k]? := by rw [hx1]
      simpa [hk', hk] using this
    obtain ⟨z0, r0, q0, _⟩ := DataW.trod_string Tryz.underlying9 h1
    rw [q0] at h2
    unfold hdD at h2
    simp only [DataW.lit.injEq, Lit.string.injEq] at h2
    rw [r0]
    exact congrArg (fun t => [Value.string t]) (by
      have : z0.data.toList = (hdA k).data.toList := h2
      obtain ⟨⟨z0⟩⟩ := z0
      generalize hdA k = y at *
      obtain ⟨⟨y⟩⟩ := y
      simp at this
      rw [this])
  have cell : ∀ k, k < 7 → w.cell? ⟨0, k, none⟩ = some (.string (hdA k)) := by
    intro k hk
    rw [World.var?_cell hg hvar k]
    have := congrArg (fun l => l[0]?) (key k hk)
    simp only [List.getElem?_take_of_lt (show 0 < 1 by omega), List.getElem?_drop, Nat.mul_one, Nat.add_zero] at this
    simpa using this
  have lt : 0 < w.heap.size := by
    have c0 := cell 0 (by omega)
    unfold World.cell? at c0
    by_cases g : 0 < w.heap.size
    · exact g
    · rw [Array.getElem?_eq_none (by show w.heap.size ≤ 0; omega)] at c0
      simp at c0
  exact ⟨lt, cell⟩

theorem trod_pairQ {H : Type} {enc : TypeId × Value → H} {P : Program} {W : World} {base : Nat} {sp : Nat → Bool} {held : Bool} {t s u : TypeId} {fs : Array Field} {fuel : Nat} {n : List UInt8} {f : Bool} {x : DataW H × List MemPlace} {cs : List Value}
    (ht : P.underlying t = some (.struct fs)) (hfs : fs.toList.map (fun f => (f.type, f.offset)) = [(s, 0), (u, 1)]) (hs : P.underlying s = some .string) (hcs : P.cellsOf s = 1) (hu : P.underlying u = some .bool) (hcu : P.cellsOf u = 1)
    (h : DataW.trod enc P W base sp held fuel t cs = some x) (hx1 : x.1 = .agg [.lit (.string n), .lit (.bool f)]) : cs[0]? = some (.string ⟨n.toArray⟩) ∧ cs[1]? = some (.bool f) := by
  obtain ⟨xs, m, _, hx, hl, hlen, hfld⟩ := DataW.trod_struct ht h
  have h3 : fs.size = 2 := by have := congrArg List.length hfs; simpa using this
  have fat : ∀ j (hj : j < 2), ∃ f, fs[j]? = some f ∧ (f.type, f.offset) = [(s, 0), (u, 1)][j] := by
    intro j hj
    refine ⟨fs[j]'(by omega), by simp [show j < fs.size by omega], ?_⟩
    have : (fs.toList.map (fun f => (f.type, f.offset)))[j]? = [(s, 0), (u, 1)][j]? := by rw [hfs]
    simpa [show j < fs.size by omega, hj] using this
  obtain ⟨f0, g0, e0⟩ := fat 0 (by omega)
  obtain ⟨f1, g1, e1⟩ := fat 1 (by omega)
  obtain ⟨y0, y1, rfl⟩ : ∃ a b, xs = [a, b] := by
    have : xs.length = 2 := by omega
    match xs, this with
    | [a, b], _ => exact ⟨a, b, rfl⟩
  have k0 := hfld 0 f0 g0
  have k1 := hfld 1 f1 g1
  simp at e0 e1
  simp only [List.getElem?_cons_zero, List.getElem?_cons_succ] at k0 k1
  rw [e0.1, e0.2, hcs] at k0
  rw [e1.1, e1.2, hcu] at k1
  obtain ⟨z0, r0, q0, _⟩ := DataW.trod_string hs k0
  obtain ⟨z1, r1, q1⟩ := DataW.trod_bool hu k1
  rw [hx] at hx1
  simp only [List.map_cons, List.map_nil, DataW.agg.injEq, List.cons.injEq, and_true] at hx1
  rw [q0, q1] at hx1
  simp at hx1
  have a0 := congrArg (fun l => l[0]?) r0
  have a1 := congrArg (fun l => l[0]?) r1
  simp only [List.drop_zero, List.getElem?_cons_zero] at a0
  simp only [List.getElem?_cons_zero] at a1
  rw [List.getElem?_take_of_lt (by omega)] at a0 a1
  rw [List.getElem?_drop] at a1
  refine ⟨?_, ?_⟩
  · rw [a0]
    obtain ⟨⟨z0⟩⟩ := z0
    have := hx1.1
    simp at this
    simp [this]
  · rw [show (1 : Nat) = 1 + 0 from rfl, a1, hx1.2]
/-- A line's rule, as the list says it. -/
def lnDQ {H : Type} (k : Nat) : DataW H := .agg [.lit (.string (hdA k).data.toList), .lit (.bool (optA k))]
theorem lnr_of_laid {w : World} {rest : List (String × DataW Unit)} (h : laidMet Tryz.prog (("payoff/asm.lines", Rows.laid_payoff_asm_lines) :: rest) w) : LnR w := by
  have hg : Tryz.prog.globalNamed "payoff/asm.lines" = some 2 := by kernel_rfl
  have hty : (Tryz.prog.globals[2]?).map (·.type) = some 123 := by kernel_rfl
  obtain ⟨ps, ⟨g', t', cs, fuel, p, q, hg', ht', hvar, hd, _, _⟩, _⟩ := h
  obtain rfl := Option.some.inj (hg.symm.trans hg')
  obtain rfl := Option.some.inj (hty.symm.trans ht')
  rw [show (Rows.laid_payoff_asm_lines : DataW Unit) = .agg ((List.range 8).map lnDQ) from rfl] at hd
  obtain ⟨xs, m, _, hx, hl, hlen, hel⟩ := DataW.trod_array Tryz.underlying123 hd
  rw [show Tryz.prog.cellsOf 122 = 2 by kernel_rfl] at hel
  have hx1 : xs.map (·.1) = (List.range 8).map lnDQ := by
    have := congrArg Prod.fst hx
    simp only [DataW.agg.injEq] at this
    exact this.symm
  have cell : ∀ k, k < 8 → w.cell? ⟨2, k * 2, none⟩ = some (.string (hdA k)) ∧ w.cell? ⟨2, k * 2 + 1, none⟩ = some (.bool (optA k)) := by
    intro k hk
    have h1 := hel k hk
    have hk' : k < xs.length := by omega
    rw [List.getElem?_eq_getElem hk'] at h1
    have h2 : (xs[k]).1 = lnDQ k := by
      have : (xs.map (·.1))[k]? = ((List.range 8).map lnDQ)[k]? := by rw [hx1]
      simpa [hk', hk] using this
    obtain ⟨h3, h4⟩ := trod_pairQ (t := 122) (s := 9) (u := 4) Tryz.underlying122 rfl Tryz.underlying9 (by kernel_rfl) Tryz.underlying4 (by kernel_rfl) h1 h2
    rw [List.getElem?_take_of_lt (by omega), List.getElem?_drop] at h3 h4
    rw [Nat.add_zero] at h3
    rw [World.var?_cell hg hvar (k * 2), World.var?_cell hg hvar (k * 2 + 1)]
    exact ⟨by simpa using h3, by simpa using h4⟩
  have lt : 2 < w.heap.size := by
    have c0 := (cell 0 (by omega)).1
    unfold World.cell? at c0
    by_cases g : 2 < w.heap.size
    · exact g
    · rw [Array.getElem?_eq_none (by show w.heap.size ≤ 2; omega)] at c0
      simp at c0
  exact ⟨lt, cell⟩
end Go.Proofs.YtkjmkhmjaknfhaaGreatDoor

namespace Go.Proofs.YtkjmkhmjaknfhaaGreatDoor
open Go.RowKit
set_option linter.unusedVariables false
set_option linter.unusedSimpArgs false

theorem lsD_nil (k : Nat) (p : Ap) : lsD k [] p = none := by
  unfold lsD
  split
  · rfl
  · unfold apList; rw [if_pos rfl]
theorem lsD_two (k : Nat) (h : 3 ≤ k) (u v : ByteArray) (ws : List ByteArray) (p : Ap) : lsD k (u :: v :: ws) p = none := by
  unfold lsD
  rw [if_pos h]
  rfl
set_option maxRecDepth 100000 in
set_option maxHeartbeats 2000000 in
theorem list_any {w : World} {pb B B0 m : Nat} {p : Ap} {xb n c : Nat} {w0 : ByteArray} {ws : List ByteArray} (k : Nat) (k7 : k < 7) (h : DsX pb B xb w p m) (h0 : k = 0 → p.ns = []) (h1 : k = 1 → p.cs = []) (h2 : k = 2 → p.pl = []) (hs : OwQ w B0 (.slice (some ⟨xb, 0, none⟩) n c) (w0 :: ws)) (hB0 : pb < B0) (hn : n = ws.length + 1) (hc : n ≤ 16777216) (hz : ∀ s ∈ w0 :: ws, s.size ≤ 16777216) :
    Calls Tryz.prog 59 #[.pointer (some ⟨pb, 0, none⟩), .slice (some ⟨xb, 0, none⟩) n c, .int .i64 (k : Int)] w fun e w' => LsE pb B m (lsD k ws p) w e w' := by
  cases ws with
  | nil =>
    subst hn
    rw [lsD_nil]
    clear h h0 h1 h2 hs hz
    go_enter Tryz.func59, Tryz.ntmps59
    go_wp2
    go_ret
    exact ⟨rfl, FrB.refl _ _ _, fun q hq => by cases hq⟩
  | cons u us =>
    by_cases k3 : 3 ≤ k
    · cases us with
      | nil =>
        subst hn
        refine listN_any (w0 := w0) k k3 k7 h.ds ?_ (hz u (by simp))
        exact own_sr hs (by simp) (fun s q => Nat.le_trans (hz s q) (by omega))
      | cons v us =>
        rw [lsD_two k k3]
        have n2 : ¬ (n : Int) < 2 := by rw [hn]; simp only [List.length_cons]; omega
        have n3 : ((n : Int) == 2) = false := by rw [hn]; simp only [List.length_cons, beq_eq_false_iff_ne]; omega
        have k3' : (3 : Int) ≤ (k : Int) := by omega
        have k3'' : ¬ (k : Int) < 3 := by omega
        clear h h0 h1 h2 hs hz hn k3
        go_enter Tryz.func59, Tryz.ntmps59
        go_wp2
        go_ret
        exact ⟨rfl, FrB.refl _ _ _, fun q hq => by cases hq⟩
    · have e : lsD k (u :: us) p = apList k (u :: us) p := by unfold lsD; rw [if_neg k3]
      rw [e]
      have hw := owq_wrw hs (by rw [hn]; rfl)
      rcases (show k = 0 ∨ k = 1 ∨ k = 2 by omega) with rfl | rfl | rfl
      · exact listns_any (by simp) h (h0 rfl) hw hn hc hz
      · exact listcs_any (by simp) h (h1 rfl) hw hn hc hz
      · exact listZ_any (by simp) h.ds (h2 rfl) rfl hs hB0 hn hc hz
/-- What a line ahead of the days leaves. -/
def HeE (pb B m : Nat) (o : Option Ap) (nx : Nat) (w : World) (e : Ending) (w' : World) : Prop := ∃ v : Int, e = .returned (.tuple #[.int .i64 v, .bool o.isSome]) ∧ FrB pb B w w' ∧ ∀ q, o = some q → DsP pb B w' q m ∧ v = (nx : Int)
theorem mayD_yes {next : Nat} {w0 : ByteArray} {k : Nat} (h : w0 = hdA k) (k7 : k < 7) (hn : next ≤ k) (hj : ∀ j, j < k → next ≤ j → w0 ≠ hdA j ∧ j < 3) : hdI w0 = k ∧ mayD next (hdI w0) = true := by
  have e : hdI w0 = k := by
    rw [h]
    have : ∀ k, k < 8 → hdI (hdA k) = k := by decide
    exact this k (by omega)
  refine ⟨e, ?_⟩
  rw [e]
  unfold mayD
  simp only [Bool.and_eq_true, decide_eq_true_eq, List.all_eq_true, List.mem_range, Bool.or_eq_true]
  exact ⟨⟨k7, hn⟩, fun j q => by
    by_cases g : j < next
    · exact .inl g
    · exact .inr (hj j q (by omega)).2⟩
theorem mayD_no {next : Nat} {w0 : ByteArray} {k : Nat} (h : w0 ≠ hdA k) (k3 : 3 ≤ k) (hn : next ≤ k) (hj : ∀ j, j < k → next ≤ j → w0 ≠ hdA j ∧ j < 3) : mayD next (hdI w0) = false := by
  rw [Bool.eq_false_iff]
  intro q
  unfold mayD at q
  simp only [Bool.and_eq_true, decide_eq_true_eq, List.all_eq_true, List.mem_range, Bool.or_eq_true] at q
  obtain ⟨⟨h7, hx⟩, ha⟩ := q
  have e := hdI_eq (w := w0) (by omega)
  generalize hdI w0 = i at *
  rcases Nat.lt_trichotomy i k with g | g | g
  · exact (hj i g hx).1 e
  · subst g; exact h e
  · rcases ha k g with q | q <;> omega
set_option maxRecDepth 100000 in
set_option maxHeartbeats 4000000 in
theorem head_any {w : World} {pb B B0 m : Nat} {p : Ap} {xb n c next : Nat} {w0 : ByteArray} {ws : List ByteArray} (n6 : next ≤ 6) (h : DsX pb B xb w p m) (h0 : next ≤ 0 → p.ns = []) (h1 : next ≤ 1 → p.cs = []) (h2 : next ≤ 2 → p.pl = []) (hs : OwQ w B0 (.slice (some ⟨xb, 0, none⟩) n c) (w0 :: ws)) (hB0 : pb < B0) (hn : n = ws.length + 1) (hc : n ≤ 16777216) (hz : ∀ s ∈ w0 :: ws, s.size ≤ 16777216) (hd : HdR w) :
    Calls Tryz.prog 32 #[.pointer (some ⟨pb, 0, none⟩), .slice (some ⟨xb, 0, none⟩) n c, .int .i64 (next : Int)] w fun e w' => HeE pb B m (if mayD next (hdI w0) = true then lsD (hdI w0) ws p else none) (hdI w0 + 1) w e w' := by
  have KL := Lib.hid (p := ∀ k, k < 7 → next ≤ k → ∀ W, Below w.heap.size w W → Calls Tryz.prog 59 #[.pointer (some ⟨pb, 0, none⟩), .slice (some ⟨xb, 0, none⟩) n c, .int .i64 (k : Int)] W fun e w' => LsE pb B m (lsD k ws p) W e w') (fun k k7 kn W b => list_any k k7 (h.later b) (fun q => h0 (by omega)) (fun q => h1 (by omega)) (fun q => h2 (by omega)) (own_belQ hs b) hB0 hn hc hz)
  have CW := Lib.hid (p := ∀ W, Below w.heap.size w W → W.cell? ⟨xb, 0, none⟩ = some (.string w0)) (fun W b => by have := (owq_wrw (own_belQ hs b) (by rw [hn]; rfl)).2 0 (by simp); simpa using this)
  have CH := Lib.hid (p := ∀ W, Below w.heap.size w W → ∀ k, k < 7 → W.cell? ⟨0, k, none⟩ = some (.string (hdA k))) (fun W b k hk => (hd.later b).2 k hk)
  have n1 : (0 : Int) < (n : Int) := by omega
  have ND := Lib.hid hn
  clear h h0 h1 h2 hs hz hd hn
  obtain ⟨O, hO⟩ : ∃ O, (if mayD next (hdI w0) = true then lsD (hdI w0) ws p else none) = O := ⟨_, rfl⟩
  have EO := Lib.hid hO
  rw [hO]
  clear hO
  obtain ⟨N, hN⟩ : ∃ N, hdI w0 + 1 = N := ⟨_, rfl⟩
  have EN := Lib.hid hN
  rw [hN]
  clear hN
  go_enter Tryz.func32, Tryz.ntmps32
  go_wp2
  go_loopw [8] (fun t W => ∃ k : Nat, next ≤ k ∧ k ≤ 6 ∧ t = .int .i64 (k : Int) ∧ RowKit.Hid (∀ j, j < k → next ≤ j → w0 ≠ hdA j ∧ j < 3) ∧ RowKit.Hid (Below w.heap.size w W)) (fun t _ => 7 - (intOf t).toNat)
  case atStart => exact ⟨next, Nat.le_refl _, n6, rfl, fun j q q2 => absurd q (by omega), Below.refl _ _⟩
  case round =>
    rename World => W
    obtain ⟨k, kn, k6, rfl, HJ, HB⟩ := hrel
    have kc : (k : Int) < 7 := by omega
    have cw := CW.out W HB.out
    have ch := CH.out W HB.out k (by omega)
    have KK := Lib.hid (KL.out k (by omega) kn W.drew HB.out.drew)
    by_cases hs : w0 = hdA k
    · obtain ⟨e1, e2⟩ := mayD_yes hs (by omega) kn HJ.out
      have EE := EO.out
      rw [if_pos e2, e1] at EE
      rw [EE] at KK
      have E2 := Lib.hid (p := N = k + 1) (by rw [← EN.out, e1])
      rw [← hs] at ch
      clear EE e1 e2 hs EO
      go_wp2_with (go_at_call 59; refine KK.out.mono ?_; rintro e w2 ⟨rfl, f2, d2⟩; have F2 := Lib.hid f2; have D2 := Lib.hid d2; clear f2 d2)
      go_region
      all_goals
        go_wp2_with (go_at_call 59; refine KK.out.mono ?_; rintro e w2 ⟨rfl, f2, d2⟩; have F2 := Lib.hid f2; have D2 := Lib.hid d2; clear f2 d2)
        go_ret2
        exact ⟨_, rfl, (FrB.below HB.out.drew).trans F2.out, fun q hq => ⟨D2.out q hq, by rw [E2.out]; go_num⟩⟩
    · have hs' : (w0.toList == (hdA k).toList) = false := by
        rw [beq_eq_false_iff_ne]; exact fun q => hs (bytes_eq q)
      by_cases k3 : 3 ≤ k
      · have EE := EO.out
        rw [mayD_no hs k3 kn HJ.out, if_neg (by decide)] at EE
        subst EE
        have k3' : (3 : Int) ≤ (k : Int) := by omega
        have k3'' : ¬ (k : Int) < 3 := by omega
        generalize hdA k = y at *
        clear hs KK HJ EO
        go_wp2
        go_region
        all_goals
          go_wp2
          go_ret2
          exact ⟨_, rfl, FrB.below (HB.out.drew), fun q hq => by cases hq⟩
      · have k3' : (k : Int) < 3 := by omega
        have k3'' : ¬ (3 : Int) ≤ (k : Int) := by omega
        have HN := Lib.hid (p := ∀ j, j < k + 1 → next ≤ j → w0 ≠ hdA j ∧ j < 3) (fun j q q2 => by
          rcases (show j < k ∨ j = k by omega) with g | rfl
          · exact HJ.out j g q2
          · exact ⟨hs, by omega⟩)
        generalize hdA k = y at *
        clear hs KK HJ
        go_wp2
        go_region
        all_goals
          go_wp2
          go_roundw
          case rel => exact ⟨k + 1, by omega, by omega, by go_num, HN, HB.out.drew⟩
          case measure => simp [intOf]; omega
end Go.Proofs.YtkjmkhmjaknfhaaGreatDoor

namespace Go.Proofs.YtkjmkhmjaknfhaaGreatDoor
open Go.RowKit
set_option linter.unusedVariables false
set_option linter.unusedSimpArgs false

end Go.Proofs.YtkjmkhmjaknfhaaGreatDoor

namespace Go.Proofs.YtkjmkhmjaknfhaaGreatDoor
open Go.RowKit
set_option linter.unusedVariables false
set_option linter.unusedSimpArgs false

end Go.Proofs.YtkjmkhmjaknfhaaGreatDoor

namespace Go.Proofs.YtkjmkhmjaknfhaaGreatDoor
open Go.RowKit
set_option linter.unusedVariables false
set_option linter.unusedSimpArgs false
end Go.Proofs.YtkjmkhmjaknfhaaGreatDoor
