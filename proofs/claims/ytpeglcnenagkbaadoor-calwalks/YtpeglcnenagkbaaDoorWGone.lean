/-
  WALK: gone: an iterator gone over whole.
-/
import Derived.Test.YtpeglcnenagkbaaDoorWTiles2
namespace Go.Proofs.YtpeglcnenagkbaaDoor
open Go.RowKit Go.Shelf
attribute [local go_sem] Oper.semAt_some
set_option linter.unusedVariables false
set_option linter.unusedSimpArgs false

set_option maxHeartbeats 4000000 in
theorem gone_any (st sb : Nat) (la : Option Addr) (ln lcap : Nat) (L : List Int) (w : World) (hI : ItC w st sb L) (hL : Ls w la ln L) (hN : L.length ≤ 109573) :
    Calls Tryd.prog 13 #[.func (.func 48) #[] #[.pointer (some ⟨st, 0, none⟩), .pointer (some ⟨sb, 0, none⟩)], .slice la ln lcap] w fun e w' => e = .returned (.bool true) ∧ Below w.heap.size w w' := by
  obtain ⟨w0, hw0⟩ : ∃ w0, (w.alloc (.cells #[.slice la ln lcap] 22)).alloc (.cells #[.bool false] 4) = w0 := ⟨_, rfl⟩
  have IT := Lib.hid hI
  have B0 := Lib.hid (p := Below w.heap.size w w0) (by rw [← hw0]; exact ((Below.refl _ _).alloc (Nat.le_refl _) _).alloc (by simp) _)
  have C0 := Lib.hid (p := Boxed w0 w.heap.size 22 (.slice la ln lcap)) (by rw [← hw0]; exact (Boxed.new _ _ _).alloc _)
  have R0 := Lib.hid (p := Boxed w0 (w.heap.size + 1) 4 (.bool false)) (by rw [← hw0]; have := Boxed.new (w.alloc (.cells #[.slice la ln lcap] 22)) 4 (.bool false); rwa [World.size_alloc] at this)
  have Z0 := Lib.hid (p := w0.heap.size = w.heap.size + 1 + 1) (by rw [← hw0]; simp)
  have LS := Lib.hid (hL.later B0.out)
  have hln := hL.1
  clear hI hL
  refine (callsIn_wide (n := 5)).1 ?_
  refine callsIn_of_wp_marks Tryd.func13 rfl trivial ?_ rfl
  simp only [Tryd.ntmps13, List.size_toArray, List.length_cons, List.length_nil, Nat.reduceAdd, Nat.reduceSub, Array.replicate_succ, Array.replicate_zero, List.push_toArray, List.append_toArray, List.nil_append, List.cons_append]
  refine wpIn_wide.2 ?_
  go_wp2_with fail
  try simp only [hw0]
  try rw [show w.heap.size + 1 + 1 = w0.heap.size from Z0.out.symm]
  clear hw0
  refine (wpIn_wide (n := 5)).1 ?_
  refine' wpIn_rangeFunc_ownF (w := w0.alloc (.cells #[.int .i64 0] 3)) rfl (by omega) (gf := 48) (lb := #[.pointer (some ⟨st, 0, none⟩), .pointer (some ⟨sb, 0, none⟩)]) rfl trivial (enters_of Tryd.func48 (by kernel_rfl) rfl)
    (IT.out 4 (by omega)) belowK_t (belowK_b (B0.out.trans ((Below.refl _ _).alloc B0.out.size _)).size) (B0.out.trans ((Below.refl _ _).alloc B0.out.size _)) (fun _ => rfl)
    (fun pre W => Boxed W w0.heap.size 3 (.int .i64 (pre.length : Int)) ∧ Below w0.heap.size w0 W ∧ pre.map (·.1) <+: L)
    (fun _ pre _ => ¬ pre.map (·.1) <+: L)
    (fun s A B row hs hg hr => ⟨hs.1.kept hg (fun e => by obtain ⟨_, o, ho, hcc⟩ := hr _ e.symm; rw [show A.heap[w0.heap.size]? = _ from hs.1] at ho; cases ho; cases hcc), hs.2.1.grown hg hs.2.1.size (fun k e => Nat.le_trans (by simp) (hr k e).1), hs.2.2⟩)
    (fun _ _ _ _ _ hs _ _ => hs)
    ⟨Boxed.new w0 3 _, (Below.refl _ _).alloc (Nat.le_refl _) _, by simp⟩
    _ ?assign3 ?body3 ?done3 ?stop3
  case assign3 =>
    intro l x W K hK
    gi_wp2
    exact hK
  case stop3 =>
    rintro D cc pre W hD hp h hK
    exact absurd hp h
  case body3 =>
    rintro l pre ⟨x, hx⟩ W ⟨hbx, hBW, hpre⟩ hlt
    have cr := (box_bel R0.out hBW).cell
    have fr := (box_bel R0.out hBW).frozen
    have hbl := (box_bel C0.out hBW).cell
    obtain ⟨_, _, hcase⟩ := LS.out.later hBW
    obtain ⟨g, o, rfl, hg, hcell⟩ : ∃ b o, la = some ⟨b, o, none⟩ ∧ b < W.heap.size ∧ ∀ i, i < ln → W.cell? ⟨b, o + i, none⟩ = some (.int .i64 (L.getD i 0)) := by
      rcases hcase with q | q
      · omega
      · exact q
    have qk := hcell pre.length (by omega)
    have hk1 := hbx.cell
    have hk2 := hbx.frozen
    have HX := Lib.hid hbx
    have HBW := Lib.hid hBW
    have PS := Lib.hid (fun (e : L.getD pre.length 0 = x) => pre_snoc (x := x) hpre (by simpa using hlt) (by simpa using e))
    have PL := Lib.hid (p := pre.map (·.1) ++ [x] <+: L → L.getD pre.length 0 = x) (fun h => by have := pre_last h; rwa [List.length_map] at this)
    have EL : ((pre ++ [(⟨x, hx⟩ : { x : Int // x ∈ L })]).length : Int) = (pre.length : Int) + 1 := by simp
    have EM : (pre ++ [(⟨x, hx⟩ : { x : Int // x ∈ L })]).map (·.1) = pre.map (·.1) ++ [x] := by simp
    have EE := Lib.hid (And.intro EL EM)
    clear hcell hcase hbx hBW hpre EL EM
    obtain ⟨y, hy⟩ : ∃ y, L.getD pre.length 0 = y := ⟨_, rfl⟩
    rw [hy] at qk PS PL
    obtain ⟨k, hk⟩ : ∃ k, pre.length = k := ⟨_, rfl⟩
    rw [hk] at qk hk1 hlt HX EE
    have HH := Lib.hid (And.intro hy hk)
    clear hy hk
    have g1 : decide ((ln : Int) ≤ (k : Int)) = false := decide_eq_false (by omega)
    have g2 : (k : Int) < (ln : Int) := by omega
    have kwk : IntKind.i64.wrap ((k : Int) + 1) = (k : Int) + 1 := by simp [IntKind.wrap, IntKind.bits, IntKind.signed]; omega
    have HLN := Lib.hid hln
    clear hln
    by_cases hxe : y = x
    · subst hxe
      have PS1 := Lib.hid (PS.out rfl)
      clear PS PL
      gi_wp2
      refine ⟨KeepsOthers.setCell _ _ _, (Below.refl w.heap.size W).setCell (p := ⟨w0.heap.size, 0, none⟩) B0.out.size _, ?_, HBW.out.setCell (p := ⟨w0.heap.size, 0, none⟩) (Nat.le_refl _) _, ?_⟩
      · rw [EE.out.1]; exact HX.out.set _
      · have r := PS1.out; rw [← EE.out.2] at r; exact r
    · have g3 : (y != x) = true := by simpa using hxe
      have g4 : (y == x) = false := by simpa using hxe
      gi_wp2
      refine ⟨KeepsOthers.setCell _ _ _, ?_⟩
      intro h
      have h' : (pre ++ [(⟨x, hx⟩ : { x : Int // x ∈ L })]).map (·.1) <+: L := h
      rw [EE.out.2] at h'
      exact hxe (PL.out h')
  case done3 =>
    rintro E3 ys W10 hE3 hy ⟨hbx, hBW, hpre⟩ hK10
    have hyl : (ys.length : Int) = (ln : Int) := by have := congrArg List.length hy; rw [List.length_map] at this; omega
    rw [hyl] at hbx
    have cr := (box_bel R0.out hBW).cell
    have fr := (box_bel R0.out hBW).frozen
    have hbl := (box_bel C0.out hBW).cell
    have hk1 := hbx.cell
    have G3 := Lib.hid (p := w.heap.size ≤ E3) (by have := B0.out.size; simp at hE3; omega)
    have e1 := World.cell?_setCell_same' W10 ⟨w.heap.size + 1, 0, none⟩ (.bool true) (by rw [cr]; rfl)
    have p3 := Lib.hid ((KeepsOthers.setCell W10 ⟨w.heap.size + 1, 0, none⟩ (.bool true)).same E3 _ hK10 rfl)
    have BE := Lib.hid ((B0.out.trans (hBW.mono B0.out.size)).setCell (p := ⟨w.heap.size + 1, 0, none⟩) (by simp) (.bool true))
    have CE := Lib.hid e1
    clear hy hyl hbx hBW hpre hK10 hE3 e1 hln
    go_wp2
    refine ⟨by simp, .inl ⟨_, _, rfl, run_takeDeferred p3.out, ?_⟩⟩
    have c1 := cell_kept CE.out (grownBy_putObj' _ E3 (.deferred none)) (fun r e => by cases e; exact ⟨_, p3.out, rfl⟩)
    refine ⟨.bool true, by simp [results, Tryd.f13, go_sem, c1], rfl, ?_⟩
    exact BE.out.trans (belowK_b (w := w) (Nat.le_refl _) _ E3 _ _ G3.out p3.out rfl rfl)
end Go.Proofs.YtpeglcnenagkbaaDoor
