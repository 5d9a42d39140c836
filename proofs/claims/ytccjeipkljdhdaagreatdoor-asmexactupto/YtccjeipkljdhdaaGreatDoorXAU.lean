import Derived.Test.YtccjeipkljdhdaaGreatDoorXAT
namespace Go.Proofs.YtccjeipkljdhdaaGreatDoor
open Go.RowKit
set_option linter.unusedVariables false
set_option linter.unusedSimpArgs false

/-- A cell is written as it is. -/
theorem set_same {W : World} {b k : Nat} {v : Value} (h : W.cell? ⟨b, k, none⟩ = some v) : W.setCell ⟨b, k, none⟩ v = W := by
  unfold World.setCell
  have e : W.heap.modify b (fun | .cells c elem frozen => .cells (if (⟨b, k, none⟩ : Addr).spot.isSome then c else c.setIfInBounds k v) elem frozen | o => o) = W.heap := by
    apply Array.ext
    · simp
    · intro i h1 h2
      rw [Array.getElem_modify]
      split
      · rename_i q
        subst q
        unfold World.cell? at h
        simp only at h
        rw [Array.getElem?_eq_getElem h2] at h
        cases hb : W.heap[b] with
        | cells c el fz =>
          rw [hb] at h
          simp only at h ⊢
          congr 1
          simp at h
          simp
          apply Array.ext
          · simp
          · intro j j1 j2
            rw [Array.getElem_setIfInBounds]
            split
            · rename_i q
              subst q
              have := (Array.getElem?_eq_some_iff.1 h).2
              exact this.symm
            · rfl
        | _ => rfl
      · rfl
  exact congrArg (fun z => ({ W with heap := z } : World)) e
theorem cloneT_any (s : ByteArray) (hs : s.size ≤ 140737488351232) (w : World) :
    Calls Tryz.prog 37 #[.string s] w fun e w' => e = .returned (.string s) ∧ Below w.heap.size w w' := by
  have K := Lib.hid (Tryz.stringslite_Clone s w (by omega))
  go_enter Tryz.func37, Tryz.ntmps37
  go_wp2_with (go_at_call 71; refine K.out.mono ?_; rintro e w1 ⟨rfl, h2⟩; have B := Lib.hid h2; clear h2)
  go_ret
  exact ⟨rfl, B.out⟩
/-- A list of texts, each cell of which may be written. -/
def WrS (w : World) (a : Option Addr) (ss : List ByteArray) : Prop := ss = [] ∨ ∃ g, a = some ⟨g, 0, none⟩ ∧ g < w.heap.size ∧ ∀ i (h : i < ss.length), w.cell? ⟨g, i, none⟩ = some (.string ss[i]) ∧ w.frozen? ⟨g, i, none⟩ = false
theorem wrs_of {w : World} {B c : Nat} {a : Option Addr} {ss : List ByteArray} (h : OwQ w B (.slice a ss.length c) ss) : WrS w a ss := by
  rcases h.2 with ⟨q, q0⟩ | ⟨g, cap, cur, q, _⟩
  · exact .inl (List.length_eq_zero_iff.1 q0)
  · injection q with q1 q2 q3
    subst q1
    refine .inr ⟨g, rfl, (h.lt g rfl).2, fun i hi => ⟨?_, h.frozenAt i⟩⟩
    have := h.cells (g := g) rfl i (.string ss[i]) (by simp [hi])
    rw [Go.Addr.add_lit, Nat.zero_add] at this
    exact this
theorem WrS.later {w W : World} {a : Option Addr} {ss : List ByteArray} (h : WrS w a ss) (b : Below w.heap.size w W) : WrS W a ss := by
  rcases h with h | ⟨g, e, h1, h2⟩
  · exact .inl h
  · exact .inr ⟨g, e, Nat.lt_of_lt_of_le h1 b.size, fun i hi => ⟨(b.cell (p := ⟨g, i, none⟩) h1).trans (h2 i hi).1, (World.frozen?_of_block (a := ⟨g, i, none⟩) (b.block g h1)).trans (h2 i hi).2⟩⟩
theorem two_boxQ (w : World) (o1 o2 : Obj) : ((w.alloc o1).alloc o2).heap[w.heap.size]? = some o1 ∧ ((w.alloc o1).alloc o2).heap[w.heap.size + 1]? = some o2 :=
  ⟨(Below.heap_alloc _ _ _ (by simp)).trans (heapN w o1), by simpa using heapN (w.alloc o1) o2⟩
theorem box_8Q {w : World} {x : Nat} {a b c d e f g h : Value} {t : TypeId} (k : w.heap[x]? = some (.cells #[a, b, c, d, e, f, g, h] t)) : w.cell? ⟨x, 0, none⟩ = some a ∧ w.cell? ⟨x, 1, none⟩ = some b ∧ w.cell? ⟨x, 2, none⟩ = some c ∧ w.cell? ⟨x, 3, none⟩ = some d ∧ w.cell? ⟨x, 4, none⟩ = some e ∧ w.cell? ⟨x, 5, none⟩ = some f ∧ w.cell? ⟨x, 6, none⟩ = some g ∧ w.cell? ⟨x, 7, none⟩ = some h := by
  refine ⟨?_, ?_, ?_, ?_, ?_, ?_, ?_, ?_⟩ <;> simp [World.cell?, k]
theorem index_two {x y : Value} {k : Nat} (hk : k < 2) (W : World) {a b : Option Addr} {n c m d : Nat} : (Instr.index 75 (.agg #[.slice a n c, .slice b m d]) (.int .i64 (k : Int))).run Tryz.prog W = .ok (if k = 0 then .slice a n c else .slice b m d) W := by
  have h1 : (0 : Int) ≤ (k : Int) ∧ (k : Int) < ((2 : Nat) : Int) := by omega
  obtain ⟨i, hi, hs⟩ : ∃ i, Tryz.prog.info? 23 = some i ∧ i.size = 1 := by
    have : (Tryz.prog.info? 23).map (·.size) = some 1 := by kernel_rfl
    cases hq : Tryz.prog.info? 23 with
    | none => rw [hq] at this; cases this
    | some i => rw [hq] at this; exact ⟨i, rfl, by simpa using this⟩
  have hagg : (isAgg 23).run Tryz.prog W = .ok false W := by
    unfold isAgg
    rw [Sem.run_bind, run_underlying Tryz.underlying23 W]
    simp
  rcases (show k = 0 ∨ k = 1 by omega) with rfl | rfl <;>
  simp [Instr.index, run_underlying Tryz.underlying75, asIntOf, sizeOf, typeInfo, hi, hs, part, Sem.run_bind, hagg]
set_option maxRecDepth 100000 in
set_option maxHeartbeats 4000000 in
theorem ownTexts_any {w : World} {an au pa da : Option Addr} {cn cu pn pc dn dc : Nat} {ns us : List ByteArray} {hor cells slots stack : Int} (hn : WrS w an ns) (hu : WrS w au us) (zn : ∀ s ∈ ns, s.size ≤ 140737488351232) (zu : ∀ s ∈ us, s.size ≤ 140737488351232) (ln : ns.length ≤ 16777216) (lu : us.length ≤ 16777216) :
    Calls Tryz.prog 17 #[.agg #[.slice an ns.length cn, .slice au us.length cu, .slice pa pn pc, .int .i64 hor, .int .i64 cells, .int .i64 slots, .int .i64 stack, .slice da dn dc]] w fun e w' => e = .returned (.agg #[.slice an ns.length cn, .slice au us.length cu, .slice pa pn pc, .int .i64 hor, .int .i64 cells, .int .i64 slots, .int .i64 stack, .slice da dn dc]) ∧ Below w.heap.size w w' := by
  have IX := Lib.hid (fun (k : Nat) (hk : k < 2) W => index_two (x := .bool false) (y := .bool false) (a := an) (n := ns.length) (c := cn) (b := au) (m := us.length) (d := cu) hk W)
  have HN := Lib.hid hn
  have HU := Lib.hid hu
  have ZN := Lib.hid zn
  have ZU := Lib.hid zu
  have A0 := Lib.hid (((Below.refl w.heap.size w).alloc (Nat.le_refl _) (.cells #[.slice an ns.length cn, .slice au us.length cu, .slice pa pn pc, .int .i64 hor, .int .i64 cells, .int .i64 slots, .int .i64 stack, .slice da dn dc] 27)).alloc (by simp) (.cells #[.slice none 0 0, .slice none 0 0, .slice none 0 0, .int .i64 0, .int .i64 0, .int .i64 0, .int .i64 0, .slice none 0 0] 27))
  obtain ⟨tb1, tb2⟩ := two_boxQ w (.cells #[.slice an ns.length cn, .slice au us.length cu, .slice pa pn pc, .int .i64 hor, .int .i64 cells, .int .i64 slots, .int .i64 stack, .slice da dn dc] 27) (.cells #[.slice none 0 0, .slice none 0 0, .slice none 0 0, .int .i64 0, .int .i64 0, .int .i64 0, .int .i64 0, .slice none 0 0] 27)
  clear hn hu zn zu
  go_enter Tryz.func17, Tryz.ntmps17
  go_wp2
  obtain ⟨W0, hW0⟩ : ∃ x, ((w.alloc (.cells #[.slice an ns.length cn, .slice au us.length cu, .slice pa pn pc, .int .i64 hor, .int .i64 cells, .int .i64 slots, .int .i64 stack, .slice da dn dc] 27)).alloc (.cells #[.slice none 0 0, .slice none 0 0, .slice none 0 0, .int .i64 0, .int .i64 0, .int .i64 0, .int .i64 0, .slice none 0 0] 27)) = x := ⟨_, rfl⟩
  rw [hW0] at A0 tb1 tb2
  try rw [hW0]
  clear hW0
  have TB1 := Lib.hid tb1
  have TB2 := Lib.hid tb2
  have nz := Array.getElem?_eq_some_iff.1 tb2
  have NZ := Lib.hid nz.1
  clear tb1 tb2 nz
  go_loopw [12] (fun t W => ∃ k : Nat, k ≤ 2 ∧ t = .int .i64 (k : Int) ∧ RowKit.Hid (Below W0.heap.size W0 W)) (fun t _ => 2 - (intOf t).toNat)
  case atStart => exact ⟨0, by omega, rfl, Below.refl _ _⟩
  case round =>
    obtain ⟨k, hk, rfl, HB⟩ := hrel
    rename World => W
    by_cases hlt : k < 2
    · have ix := IX.out k hlt W
      have kc : (k : Int) < 2 := by omega
      rcases (show k = 0 ∨ k = 1 by omega) with rfl | rfl
      · have HQ := HN
        have ZS := ZN
        have LN : ns.length ≤ 16777216 := ln
        have ix0 : (Instr.index 75 (.agg #[.slice an ns.length cn, .slice au us.length cu]) (.int .i64 0)).run Tryz.prog W = .ok (.slice an ns.length cn) W := ix
        go_wp2
        go_loopw [17] (fun t W2 => ∃ j : Nat, j ≤ ns.length ∧ t = .int .i64 (j : Int) ∧ RowKit.Hid (Below W0.heap.size W0 W2)) (fun t _ => ns.length - (intOf t).toNat)
        case atStart => exact ⟨0, by omega, rfl, HB⟩
        case round =>
          obtain ⟨j, hj, rfl, HB2⟩ := hrel
          rename World => W2
          by_cases hlj : j < ns.length
          · have jc : (j : Int) < (ns.length : Int) := by omega
            have wr := HQ.out.later (A0.out.trans (HB2.out.mono A0.out.size))
            rcases wr with q | ⟨g, rfl, hg, hc⟩
            · rw [q] at hlj; exact absurd hlj (by simp)
            · have c1 := (hc j hlj).1
              have KC := Lib.hid (cloneT_any ns[j] (ZS.out _ (List.getElem_mem hlj)) W2)
              have CF := Lib.hid (fun W3 (b : Below W2.heap.size W2 W3) => And.intro ((b.cell (p := ⟨g, j, none⟩) hg).trans (hc j hlj).1) ((World.frozen?_of_block (a := ⟨g, j, none⟩) (b.block g hg)).trans (hc j hlj).2))
              generalize ns[j] = z at *
              clear hc
              go_wp2_with (go_at_call 37; refine KC.out.mono ?_; rintro e W3 ⟨rfl, h2⟩; have c3 := (CF.out W3 h2).1; have f3 := (CF.out W3 h2).2; have C3 := Lib.hid c3; have B3 := Lib.hid (HB2.out.trans (h2.mono HB2.out.size)); clear h2)
              go_roundw
              case rel => exact ⟨j + 1, by omega, by go_num, by rw [set_same C3.out]; exact B3⟩
              case measure => simp [intOf]; omega
          · obtain rfl : j = ns.length := by omega
            go_wp2
            go_roundw
            case rel => exact ⟨1, by omega, by go_num, HB2⟩
            case measure => simp [intOf]
      · have HQ := HU
        have ZS := ZU
        have LN : us.length ≤ 16777216 := lu
        have ix0 : (Instr.index 75 (.agg #[.slice an ns.length cn, .slice au us.length cu]) (.int .i64 1)).run Tryz.prog W = .ok (.slice au us.length cu) W := ix
        rw [show ((1 : Nat) : Int) = 1 from rfl]
        go_wp2
        go_loopw [17] (fun t W2 => ∃ j : Nat, j ≤ us.length ∧ t = .int .i64 (j : Int) ∧ RowKit.Hid (Below W0.heap.size W0 W2)) (fun t _ => us.length - (intOf t).toNat)
        case atStart => exact ⟨0, by omega, rfl, HB⟩
        case round =>
          obtain ⟨j, hj, rfl, HB2⟩ := hrel
          rename World => W2
          by_cases hlj : j < us.length
          · have jc : (j : Int) < (us.length : Int) := by omega
            have wr := HQ.out.later (A0.out.trans (HB2.out.mono A0.out.size))
            rcases wr with q | ⟨g, rfl, hg, hc⟩
            · rw [q] at hlj; exact absurd hlj (by simp)
            · have c1 := (hc j hlj).1
              have KC := Lib.hid (cloneT_any us[j] (ZS.out _ (List.getElem_mem hlj)) W2)
              have CF := Lib.hid (fun W3 (b : Below W2.heap.size W2 W3) => And.intro ((b.cell (p := ⟨g, j, none⟩) hg).trans (hc j hlj).1) ((World.frozen?_of_block (a := ⟨g, j, none⟩) (b.block g hg)).trans (hc j hlj).2))
              generalize us[j] = z at *
              clear hc
              go_wp2_with (go_at_call 37; refine KC.out.mono ?_; rintro e W3 ⟨rfl, h2⟩; have c3 := (CF.out W3 h2).1; have f3 := (CF.out W3 h2).2; have C3 := Lib.hid c3; have B3 := Lib.hid (HB2.out.trans (h2.mono HB2.out.size)); clear h2)
              go_roundw
              case rel => exact ⟨j + 1, by omega, by go_num, by rw [set_same C3.out]; exact B3⟩
              case measure => simp [intOf]; omega
          · obtain rfl : j = us.length := by omega
            go_wp2
            go_roundw
            case rel => exact ⟨2, by omega, by go_num, HB2⟩
            case measure => simp [intOf]
    · obtain rfl : k = 2 := by omega
      obtain ⟨x0, x1, x2, x3, x4, x5, x6, x7⟩ := box_8Q ((HB.out.block _ (by have := NZ.out; omega)).trans TB1.out)
      have b2 := (HB.out.block _ NZ.out).trans TB2.out
      obtain ⟨y0, y1, y2, y3, y4, y5, y6, y7⟩ := box_8Q b2
      have fz : ∀ i, W.frozen? ⟨w.heap.size + 1, i, none⟩ = false := fun i => BkP.frozen b2 i
      have f0 := fz 0
      have f1 := fz 1
      have f2 := fz 2
      have f3 := fz 3
      have f4 := fz 4
      have f5 := fz 5
      have f6 := fz 6
      have f7 := fz 7
      clear fz b2
      go_wp2
      refine bodyPost_ret (v := .agg #[.slice an ns.length cn, .slice au us.length cu, .slice pa pn pc, .int .i64 hor, .int .i64 cells, .int .i64 slots, .int .i64 stack, .slice da dn dc]) (by simp [results, Tryz.results17, go_sem, y0, y1, y2, y3, y4, y5, y6, y7]) rfl ⟨rfl, ?_⟩
      exact (((((((((A0.out.trans (HB.out.mono A0.out.size)).setCell (p := ⟨w.heap.size + 1, 0, none⟩) (by simp) _).setCell (p := ⟨w.heap.size + 1, 1, none⟩) (by simp) _).setCell (p := ⟨w.heap.size + 1, 2, none⟩) (by simp) _).setCell (p := ⟨w.heap.size + 1, 3, none⟩) (by simp) _).setCell (p := ⟨w.heap.size + 1, 4, none⟩) (by simp) _).setCell (p := ⟨w.heap.size + 1, 5, none⟩) (by simp) _).setCell (p := ⟨w.heap.size + 1, 6, none⟩) (by simp) _).setCell (p := ⟨w.heap.size + 1, 7, none⟩) (by simp) _)
end Go.Proofs.YtccjeipkljdhdaaGreatDoor
