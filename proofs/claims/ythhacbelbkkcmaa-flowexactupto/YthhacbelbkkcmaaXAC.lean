import Derived.Test.YthhacbelbkkcmaaXAA
import Derived.Laws.MakeOwn
import Derived.Laws.CopyOwn
import Derived.Test.YthhacbelbkkcmaaXAB
import Derived.Deep.RegionHeld3
import Derived.Maps.Own
import Derived.Maps.OwnOps
import Derived.Maps.Views
namespace Go.Proofs.Ythhacbelbkkcmaa
open Go.RowKit
set_option linter.unusedVariables false
set_option linter.unusedSimpArgs false

def zFl : Fl := ⟨0, ⟨#[]⟩, 0⟩
def mkFl (i : Int) : Fl := ⟨-77, ⟨#[109, 97, 114, 107]⟩, i⟩
theorem fcs_app (a b : List Fl) : fcs (a ++ b) = fcs a ++ fcs b := by simp [fcs]
theorem fcs_set : ∀ (gs : List Fl) (i : Nat) (f : Fl), i < gs.length → (((fcs gs).set (i * 3) (.int .i64 f.d)).set (i * 3 + 1) (.string f.c)).set (i * 3 + 2) (.int .i64 f.a) = fcs (gs.set i f)
  | [], i, f, h => by simp at h
  | g :: gs, 0, f, h => rfl
  | g :: gs, i + 1, f, h => by
    have ih := fcs_set gs i f (by simpa using h)
    show (((g.cells ++ fcs gs).set ((i + 1) * 3) _).set ((i + 1) * 3 + 1) _).set ((i + 1) * 3 + 2) _ = g.cells ++ fcs (gs.set i f)
    have e : g.cells.length = 3 := rfl
    rw [List.set_append_right _ _ (by omega), List.set_append_right _ _ (by omega), List.set_append_right _ _ (by omega), e, show (i + 1) * 3 - 3 = i * 3 by omega, show (i + 1) * 3 + 1 - 3 = i * 3 + 1 by omega, show (i + 1) * 3 + 2 - 3 = i * 3 + 2 by omega, ih]
theorem made_fcs (N : Nat) : (madeCells #[.int .i64 0, .string ⟨#[]⟩, .int .i64 0] (N * 3)).toList = fcs (List.replicate N zFl) := by
  apply List.ext_getElem?
  intro k
  by_cases hk : k < N * 3
  · have e : k = (k / 3) * 3 + k % 3 := by omega
    have h3 : k % 3 < 3 := Nat.mod_lt _ (by omega)
    rw [e, fcs_at _ (k / 3) (by simp; omega) (k % 3) h3, ← e]
    have hr : (List.replicate N zFl).getD (k / 3) default = zFl := by simp [List.getD, List.getElem?_replicate, show k / 3 < N by omega]
    rw [hr]
    unfold madeCells
    simp only [Array.toList_map, Array.toList_range, List.getElem?_map, List.getElem?_range hk, Option.map_some]
    rcases (show k % 3 = 0 ∨ k % 3 = 1 ∨ k % 3 = 2 by omega) with h | h | h <;> rw [show (#[Value.int .i64 0, .string ⟨#[]⟩, .int .i64 0] : Array Value).size = 3 from rfl, h] <;> rfl
  · rw [List.getElem?_eq_none (by simp [madeCells]; omega), List.getElem?_eq_none (by rw [fcs_len]; simp; omega)]

theorem make_flows (n : Nat) (hn : n ≤ 4398046511100) (W : World) : (Instr.makeSlice 24 (.int .i64 (n : Int)) (.int .i64 (n : Int))).run Try.prog W = .ok (.slice (some ⟨W.heap.size, 0, none⟩) n n) (W.alloc (.cells (madeCells #[.int .i64 0, .string ⟨#[]⟩, .int .i64 0] (n * 3)) 40)) := by
  obtain ⟨i0, hi, hz0, hz1, hz2⟩ := info_parts infoF
  have := run_make (P := Try.prog) W 24 40 i0 _ Try.underlying24 hi hz0 .i64 .i64 n n (by omega) (by omega) (by rw [hz2]; omega) (by omega)
  rw [hz1] at this
  simpa [Value.cells] using this

/-- A row of flows that fills its block. -/
def Rf (w : World) (g : Nat) (gs : List Fl) : Prop := w.ownsRow g 40 3 (.slice (some ⟨g, 0, none⟩) gs.length gs.length) gs.length (fcs gs)
theorem rf_of {w : World} {g : Nat} {gs : List Fl} {cur : Array Value} (h : w.heap[g]? = some (.cells cur 40 (0, 0))) (hc : cur.toList = fcs gs) (hl : gs.length ≤ 4398046511100) : Rf w g gs := by
  have hs : cur.size = gs.length * 3 := by rw [← fcs_len, ← hc]; simp
  exact ⟨fcs_len gs, .inr ⟨g, _, cur, rfl, Nat.le_refl _, h, Nat.le_refl _, by unfold maxLen; omega, hs, by rw [hc, List.take_of_length_le (by rw [fcs_len]; omega)]⟩⟩
theorem Rf.lt {w : World} {g : Nat} {gs : List Fl} (h : Rf w g gs) : g < w.heap.size := (World.ownsRow.lt h g rfl).2
theorem Rf.fc {w : World} {g : Nat} {gs : List Fl} (h : Rf w g gs) (i : Nat) (hi : i < gs.length) : FC w g (i * 3) (gs.getD i default) := by
  refine ⟨?_, ?_, ?_⟩
  · rw [World.ownsRow.cellAt h (i * 3) (by omega)]; exact fcs_at gs i hi 0 (by omega)
  · rw [World.ownsRow.cellAt h (i * 3 + 1) (by omega)]; exact fcs_at gs i hi 1 (by omega)
  · rw [World.ownsRow.cellAt h (i * 3 + 2) (by omega)]; exact fcs_at gs i hi 2 (by omega)
theorem Rf.set {w : World} {g : Nat} {gs : List Fl} (h : Rf w g gs) (i : Nat) (hi : i < gs.length) (f : Fl) :
    Rf (((w.setCell ⟨g, i * 3, none⟩ (.int .i64 f.d)).setCell ⟨g, i * 3 + 1, none⟩ (.string f.c)).setCell ⟨g, i * 3 + 2, none⟩ (.int .i64 f.a)) g (gs.set i f) := by
  have := (((World.ownsRow.stored h (i * 3) (.int .i64 f.d)).1.stored (i * 3 + 1) (.string f.c)).1.stored (i * 3 + 2) (.int .i64 f.a)).1
  rw [fcs_set gs i f hi] at this
  unfold Rf
  rw [List.length_set]
  exact this

/-- copy(f, l). -/
theorem copy_flows (a : Option Addr) (n cap : Nat) (fs : List Fl) (w : World) (h : FL w a n fs) :
    ∃ W2, (∀ ty, (Builtin.copy_ #[24, 24] ty #[.slice (some ⟨w.heap.size, 0, none⟩) (n + 3) (n + 3), .slice a n cap]).run Try.prog (w.alloc (.cells (madeCells #[.int .i64 0, .string ⟨#[]⟩, .int .i64 0] ((n + 3) * 3)) 40)) = .ok (goInt n) W2) ∧ Below w.heap.size w W2 ∧ Rf W2 w.heap.size (fs ++ [zFl, zFl, zFl]) := by
  obtain ⟨i0, hi, hz0, hz1, hz2⟩ := info_parts infoF
  obtain ⟨h1, h2, h3⟩ := h
  have hu : Try.prog.underlying 24 = some (.slice 40) := Try.underlying24
  have hmin : Nat.min n (n + 3) = n := Nat.min_eq_left (by omega)
  have hg : (w.alloc (.cells (madeCells #[.int .i64 0, .string ⟨#[]⟩, .int .i64 0] ((n + 3) * 3)) 40)).heap[w.heap.size]? = some (.cells (madeCells #[.int .i64 0, .string ⟨#[]⟩, .int .i64 0] ((n + 3) * 3)) 40 (0, 0)) := by
    show (w.heap.push _)[w.heap.size]? = _
    simp
  have rep : fcs (List.replicate (n + 3) zFl) = fcs (List.replicate n zFl) ++ fcs [zFl, zFl, zFl] := by rw [← fcs_app, show [zFl, zFl, zFl] = List.replicate 3 zFl from rfl, List.replicate_append_replicate]
  rcases h3 with h3 | ⟨b, o, rfl, hb, hc⟩
  · subst h3
    have hz : fs = [] := List.length_eq_zero_iff.1 h1
    subst hz
    refine ⟨_, fun ty => ?_, (Below.refl _ _).alloc (Nat.le_refl _) _, rf_of hg (made_fcs 3) (by decide)⟩
    cases a <;> simp [Builtin.copy_, run_underlying hu, Builtin.lenOf, Builtin.firstCells, sizeOf, typeInfo, hi, hz1, storeCells, loadCells, loadCellsFrom]
  · have hlen : (fcs fs).length = n * 3 := by rw [fcs_len, h1]
    have hl := run_loadCells_list (P := Try.prog) (w.alloc (.cells (madeCells #[.int .i64 0, .string ⟨#[]⟩, .int .i64 0] ((n + 3) * 3)) 40)) ⟨b, o, none⟩ (fcs fs) (by
      intro j v hj
      have hjn : j < n * 3 := by
        refine Nat.lt_of_not_le fun hc => ?_
        rw [List.getElem?_eq_none (by omega)] at hj
        cases hj
      rw [Go.Addr.add_lit, (((Below.refl w.heap.size w).alloc (Nat.le_refl _) _).cell (p := ⟨b, o + j, none⟩) hb)]
      have e : j = (j / 3) * 3 + j % 3 := by omega
      rw [← hj]
      obtain ⟨p0, p1, p2⟩ := hc (j / 3) (by omega)
      have hat := fcs_at fs (j / 3) (by omega) (j % 3) (Nat.mod_lt _ (by omega))
      rw [← e] at hat
      rw [hat]
      rcases (show j % 3 = 0 ∨ j % 3 = 1 ∨ j % 3 = 2 by omega) with q | q | q
      · rw [q, show o + j = o + j / 3 * 3 by omega]; exact p0
      · rw [q, show o + j = o + j / 3 * 3 + 1 by omega]; exact p1
      · rw [q, show o + j = o + j / 3 * 3 + 2 by omega]; exact p2)
    have one : ∀ v ∈ fcs fs, v.oneCell' = true := by
      intro v hv
      unfold fcs at hv
      obtain ⟨f, _, hv⟩ := List.mem_flatMap.1 hv
      simp [Fl.cells] at hv
      rcases hv with rfl | rfl | rfl <;> rfl
    have hst := run_storeCells_at Try.prog w.heap.size 0 40 (fcs fs) 0 _ _ hg (by rw [hlen, size_madeCells]; omega) one
    rw [hlen] at hl
    refine ⟨((w.alloc (.cells (madeCells #[.int .i64 0, .string ⟨#[]⟩, .int .i64 0] ((n + 3) * 3)) 40)).setRow w.heap.size ((madeCells #[.int .i64 0, .string ⟨#[]⟩, .int .i64 0] ((n + 3) * 3)).toList.take (0 + 0) ++ fcs fs ++ (madeCells #[.int .i64 0, .string ⟨#[]⟩, .int .i64 0] ((n + 3) * 3)).toList.drop (0 + 0 + (fcs fs).length)).toArray), fun ty => ?_, ?_, ?_⟩
    rotate_left
    · exact below_setRow ((Below.refl _ _).alloc (Nat.le_refl _) _) (Nat.le_refl _) _
    · refine rf_of (setRow_heap _ _ _ _ _ _ hg) ?_ (by simp; omega)
      rw [made_fcs, rep, hlen, fcs_app]
      simp only [Nat.add_zero, List.take_zero, List.nil_append, Nat.zero_add]
      rw [List.drop_left' (by rw [fcs_len]; simp)]
    · simp [Builtin.copy_, run_underlying hu, Builtin.lenOf, Builtin.firstCells, sizeOf, typeInfo, hi, hz1, hmin, hl, hst]

set_option maxHeartbeats 2000000 in
theorem roomy_any (a : Option Addr) (n cap : Nat) (fs : List Fl) (w : World) (h : FL w a n fs) :
    Calls Try.prog 5 #[.slice a n cap] w fun e w' => e = .returned (.slice (some ⟨w.heap.size, 0, none⟩) (n + 3) (n + 3)) ∧ Below w.heap.size w w' ∧ Rf w' w.heap.size (fs ++ [mkFl n, mkFl (n + 1), mkFl (n + 2)]) := by
  have hn : n ≤ 4398046511000 := h.2.1
  have hl := h.1
  have mk := make_flows (n + 3) (by omega)
  simp only [Int.natCast_add, Int.cast_ofNat_Int] at mk
  obtain ⟨W2, cp, hB2, hR2⟩ := copy_flows a n cap fs w h
  have B2 := Lib.hid hB2
  have R2 := Lib.hid hR2
  clear h hB2 hR2
  go_enter Try.func5, Try.ntmps5
  go_wp2
  clear mk cp
  go_loopw [4] (fun t wr => ∃ (j : Nat) (x y z : Fl), j ≤ 3 ∧ t = .int .i64 ((n : Int) + j) ∧ Below w.heap.size w wr ∧ Rf wr w.heap.size (fs ++ [x, y, z]) ∧ (0 < j → x = mkFl n) ∧ (1 < j → y = mkFl (n + 1)) ∧ (2 < j → z = mkFl (n + 2))) (fun t _ => n + 3 - (intOf t).toNat)
  case atStart => exact ⟨0, zFl, zFl, zFl, by omega, by first | rfl | simp, B2.out, R2.out, fun h => absurd h (by omega), fun h => absurd h (by omega), fun h => absurd h (by omega)⟩
  case round =>
    obtain ⟨j, x, y, z, hj, rfl, hB, hR, hx, hy, hz⟩ := hrel
    have BB := Lib.hid hB
    have RR := Lib.hid hR
    by_cases hlt : j < 3
    · have len : (fs ++ [x, y, z]).length = n + 3 := by simp [hl]
      obtain ⟨c0, c1, c2⟩ := hR.fc (n + j) (by omega)
      have f0 := World.ownsRow.frozenAt hR ((n + j) * 3)
      have f1 := World.ownsRow.frozenAt hR ((n + j) * 3 + 1)
      have f2 := World.ownsRow.frozenAt hR ((n + j) * 3 + 2)
      have R' := Lib.hid (RR.out.set (n + j) (by omega) (mkFl (n + j)))
      generalize (fs ++ [x, y, z]).getD (n + j) default = old at *
      have kc : ((n : Int) + j) < (n : Int) + 3 := by omega
      have kw : IntKind.i64.wrap ((n : Int) + j + 1) = (n : Int) + j + 1 := by simp [IntKind.wrap, IntKind.bits, IntKind.signed]; omega
      have k0 : ¬ ((n : Int) + j) < 0 := by omega
      have kt : ((n : Int) + j).toNat = n + j := by omega
      have X := Lib.hid hx
      have Y := Lib.hid hy
      have Z := Lib.hid hz
      clear hB hR hx hy hz
      go_wp2
      go_roundw
      case rel =>
        have BL := ((BB.out.setCell (p := ⟨w.heap.size, (n + j) * 3, none⟩) (by simp) (.int .i64 (-77))).setCell (p := ⟨w.heap.size, (n + j) * 3 + 1, none⟩) (by simp) (.string ⟨#[109, 97, 114, 107]⟩)).setCell (p := ⟨w.heap.size, (n + j) * 3 + 2, none⟩) (by simp) (.int .i64 ((n : Int) + j))
        have RS := R'.out
        rw [List.set_append_right _ _ (by omega), hl, show n + j - n = j by omega] at RS
        rcases (show j = 0 ∨ j = 1 ∨ j = 2 by omega) with rfl | rfl | rfl
        · exact ⟨1, mkFl ((n : Int) + (0 : Nat)), y, z, by omega, by simp, BL, RS, fun _ => by simp, fun h => absurd h (by omega), fun h => absurd h (by omega)⟩
        · exact ⟨2, x, mkFl ((n : Int) + (1 : Nat)), z, by omega, by congr 1, BL, RS, fun _ => X.out (by omega), fun _ => by simp, fun h => absurd h (by omega)⟩
        · exact ⟨3, x, y, mkFl ((n : Int) + (2 : Nat)), by omega, by congr 1, BL, RS, fun _ => X.out (by omega), fun _ => Y.out (by omega), fun _ => by simp⟩
      case measure => simp [intOf]; omega
    · obtain rfl : j = 3 := by omega
      rw [hx (by omega), hy (by omega), hz (by omega)] at RR
      clear hB hR hx hy hz
      go_wp2
      go_ret
      exact ⟨by first | rfl | simp, BB.out, RR.out⟩

set_option maxHeartbeats 2000000 in
theorem untouched_any (a : Option Addr) (n cap g : Nat) (fs : List Fl) (w : World) (h : FL w a n fs) (hg : g < w.heap.size) (hR : ∀ i, i < n + 3 → FC w g (i * 3) ((fs ++ [mkFl n, mkFl (n + 1), mkFl (n + 2)]).getD i default)) :
    Calls Try.prog 9 #[.slice (some ⟨g, 0, none⟩) (n + 3) (n + 3), .slice a n cap] w fun e w' => e = .returned (.bool true) ∧ Below w.heap.size w w' := by
  obtain ⟨hl, hn, h3⟩ := h
  have HS := Lib.hid (p := ∀ i, i < n → FC w g (i * 3) (fs.getD i default)) (fun i hi => by
    have := hR i (by omega)
    rwa [show (fs ++ [mkFl n, mkFl (n + 1), mkFl (n + 2)]).getD i default = fs.getD i default by simp only [List.getD]; rw [List.getElem?_append_left (by omega)]] at this)
  have HM := Lib.hid (p := ∀ j, j < 3 → FC w g ((n + j) * 3) (mkFl ((n : Int) + j))) (fun j hj => by
    have := hR (n + j) (by omega)
    rwa [show (fs ++ [mkFl n, mkFl (n + 1), mkFl (n + 2)]).getD (n + j) default = mkFl ((n : Int) + j) by
      simp only [List.getD]
      rw [List.getElem?_append_right (by omega), hl, show n + j - n = j by omega]
      rcases (show j = 0 ∨ j = 1 ∨ j = 2 by omega) with rfl | rfl | rfl <;> simp] at this)
  have HA := Lib.hid (p := 0 < n → ∃ b o, a = some ⟨b, o, none⟩ ∧ b < w.heap.size ∧ ∀ i, i < n → FC w b (o + i * 3) (fs.getD i default)) (fun h => by
    rcases h3 with h3 | h3
    · omega
    · exact h3)
  clear hR h3
  go_enter Try.func9, Try.ntmps9
  go_wp2
  go_loopw [5] (fun t wr => ∃ k : Nat, k ≤ n ∧ t = .int .i64 k ∧ Below w.heap.size w wr) (fun t _ => n - (intOf t).toNat)
  case atStart => exact ⟨0, by omega, rfl, Below.refl _ _⟩
  case round =>
    obtain ⟨k, hk, rfl, hB⟩ := hrel
    have BB := Lib.hid hB
    by_cases hlt : k < n
    · obtain ⟨b, o, rfl, hb, hc⟩ := HA.out (by omega)
      obtain ⟨c0, c1, c2⟩ := (hc k hlt).later hB hb
      obtain ⟨e0, e1, e2⟩ := (HS.out k hlt).later hB hg
      have kc : (k : Int) < (n : Int) := by omega
      generalize fs.getD k default = f at *
      obtain ⟨fd, fc, fa⟩ := f
      simp only at c0 c1 c2 e0 e1 e2
      clear hB hc
      go_wp2
      go_region
      all_goals
        go_wp2
        go_roundw
        case rel => exact ⟨k + 1, by omega, by go_num, BB.out.drew⟩
        case measure => simp [intOf]; omega
    · obtain rfl : k = n := by omega
      clear hB
      go_wp2
      go_loopw [6] (fun t ws => ∃ j : Nat, j ≤ 3 ∧ t = .int .i64 ((k : Int) + j) ∧ Below w.heap.size w ws) (fun t _ => k + 3 - (intOf t).toNat)
      case atStart => exact ⟨0, by omega, by simp, BB.out⟩
      case round =>
        rename World => ws
        obtain ⟨j, hj, rfl, hC⟩ := hrel
        have CC := Lib.hid hC
        by_cases hj3 : j < 3
        · obtain ⟨c0, c1, c2⟩ := (HM.out j hj3).later hC hg
          have kc : ((k : Int) + j) < (k : Int) + 3 := by omega
          have kw : IntKind.i64.wrap ((k : Int) + j + 1) = (k : Int) + j + 1 := by simp [IntKind.wrap, IntKind.bits, IntKind.signed]; omega
          have k0 : ¬ ((k : Int) + j) < 0 := by omega
          have kt : ((k : Int) + j).toNat = k + j := by omega
          simp only [mkFl] at c0 c1 c2
          clear hC
          go_wp2
          go_roundw
          case rel => exact ⟨j + 1, by omega, by first | rfl | (congr 1; omega) | (simp; omega), CC.out⟩
          case measure => simp [intOf]; omega
        · obtain rfl : j = 3 := by omega
          clear hC
          go_wp2
          go_ret
          exact ⟨rfl, CC.out⟩
end Go.Proofs.Ythhacbelbkkcmaa

namespace Go.Proofs.Ythhacbelbkkcmaa
open Go.RowKit
set_option linter.unusedVariables false
set_option linter.unusedSimpArgs false

/-- The row of the sums so far. -/
abbrev OwnF (w : World) (B : Nat) (v : Value) (fs : List Fl) : Prop := w.ownsRow B 40 3 v fs.length (fcs fs)
theorem formF {w : World} {B : Nat} {v : Value} {fs : List Fl} (h : OwnF w B v fs) : (v = .slice none 0 0 ∧ fs.length = 0) ∨ ∃ g cap, v = .slice (some ⟨g, 0, none⟩) fs.length cap := by
  rcases h.2 with q | ⟨g, c, cur, q, _⟩
  · exact .inl q
  · exact .inr ⟨g, c, q⟩
theorem formF' {w : World} {B : Nat} {v : Value} {fs : List Fl} (h : OwnF w B v fs) : ∃ a cap, v = .slice a fs.length cap := by
  rcases formF h with ⟨q, q0⟩ | ⟨g, c, q⟩
  · exact ⟨none, 0, by rw [q, q0]⟩
  · exact ⟨_, c, q⟩
theorem fcF {w : World} {B g cap : Nat} {fs : List Fl} (h : OwnF w B (.slice (some ⟨g, 0, none⟩) fs.length cap) fs) (i : Nat) (hi : i < fs.length) : FC w g (i * 3) (fs.getD i default) := by
  have key : ∀ j, j < 3 → w.cell? ⟨g, i * 3 + j, none⟩ = (fs.getD i default).cells[j]? := fun j hj => by
    rw [World.ownsRow.cellAt h (i * 3 + j) (by omega), fcs_at fs i hi j hj]
  exact ⟨key 0 (by omega), key 1 (by omega), key 2 (by omega)⟩
theorem ownF_drewN {w : World} {B : Nat} {v : Value} {fs : List Fl} (h : OwnF w B v fs) (q : Nat) : OwnF (w.drewN q) B v fs := h
theorem below_dN {B : Nat} {a w : World} (h : Below B a w) (n : Nat) : Below B a (w.drewN n) := ⟨h.os, h.tape, h.output, h.size, h.block⟩
theorem str_eq {x y : ByteArray} (h : x ≠ y) : (x.toList == y.toList) = false := by
  rw [beq_eq_false_iff_ne]
  exact fun e => h (toList_one e)
theorem below_gr0F {a b : World} (h : Below a.heap.size a b) : a.grownBy b none := ⟨h.os, h.tape, h.output, h.size, fun i hi _ => h.block i hi⟩
theorem frozenF {w : World} {B g n cap : Nat} {fs : List Fl} (h : OwnF w B (.slice (some ⟨g, 0, none⟩) n cap) fs) (hn : fs.length = n) (j : Nat) : w.frozen? ⟨g, j, none⟩ = false := by
  subst hn
  exact World.ownsRow.frozenAt h j
theorem wp_flowN {ops : Array Oper} {rest : List Oper} {o : Oper} {a : Act} {Q : Exit → Act → World → Prop} (w : World) (N : Nat) (hN : w.heap.size = N) (d m : Int) (c : ByteArray) (hgd : o.guard = none) (s x : Operand)
    (ho : o.op = .call { callee := .builtin .append, args := #[s, x], argTypes := #[24, 24] }) (base : Nat) (v : Value) (fs : List Fl) (hs : a.eval s = v)
    (hx : a.eval x = .slice (some ⟨N, 0, none⟩) 1 1) (hown : w.ownsRow base 40 3 v fs.length (fcs fs)) (hl : fs.length ≤ 4398046511000) (hb : base ≤ w.heap.size)
    (h : ∀ v' w', w'.ownsRow base 40 3 v' (fs ++ [Fl.mk d c m]).length (fcs (fs ++ [Fl.mk d c m])) → (w.alloc (.cells #[.int .i64 d, .string c, .int .i64 m] 40)).grownBy w' v.ownBlock → wpList Try.prog ops Q rest (a.put o.dst v') w') :
    wpList Try.prog ops Q (o :: rest) a (w.alloc (.cells #[.int .i64 d, .string c, .int .i64 m] 40)) := by
  subst hN
  exact wp_flow w d m c hgd s x ho base v fs hs hx hown hl hb h
/-- A flow put into its place, in memory. -/
theorem ownF_put {w : World} {B g cap n : Nat} {fs : List Fl} (h : OwnF w B (.slice (some ⟨g, 0, none⟩) n cap) fs) (hn : fs.length = n) (i : Nat) (hi : i < n) (f : Fl) :
    OwnF (((w.setCell ⟨g, i * 3, none⟩ (.int .i64 f.d)).setCell ⟨g, i * 3 + 1, none⟩ (.string f.c)).setCell ⟨g, i * 3 + 2, none⟩ (.int .i64 f.a)) B (.slice (some ⟨g, 0, none⟩) n cap) (fs.set i f) := by
  subst hn
  have := (((World.ownsRow.stored h (i * 3) (.int .i64 f.d)).1.stored (i * 3 + 1) (.string f.c)).1.stored (i * 3 + 2) (.int .i64 f.a)).1
  rw [fcs_set fs i f hi] at this
  rw [OwnF, List.length_set]
  exact this
theorem fcF' {w : World} {B g cap n : Nat} {fs : List Fl} (h : OwnF w B (.slice (some ⟨g, 0, none⟩) n cap) fs) (hn : fs.length = n) (i : Nat) (hi : i < n) (f : Fl) (hf : fs[i]? = some f) : w.cell? ⟨g, i * 3, none⟩ = some (.int .i64 f.d) ∧ w.cell? ⟨g, i * 3 + 1, none⟩ = some (.string f.c) ∧ w.cell? ⟨g, i * 3 + 2, none⟩ = some (.int .i64 f.a) := by
  subst hn
  have := fcF h i hi
  rw [show fs.getD i default = f by simp [List.getD, hf]] at this
  exact this
theorem at_head {done mid r : List Fl} {x : Fl} : (done ++ x :: (mid ++ r))[done.length]? = some x := by simp
theorem at_mid {done mid r : List Fl} {x y : Fl} {k : Nat} (hk : k = done.length + 1 + mid.length) : (done ++ x :: (mid ++ y :: r))[k]? = some y := by
  subst hk
  rw [List.getElem?_append_right (by omega), show done.length + 1 + mid.length - done.length = mid.length + 1 by omega, List.getElem?_cons_succ, List.getElem?_append_right (by omega)]
  simp
theorem set_head {done mid r : List Fl} {x y : Fl} : (done ++ x :: (mid ++ r)).set done.length y = done ++ y :: (mid ++ r) := by
  rw [List.set_append_right _ _ (by omega)]
  simp
theorem set_mid {done mid r : List Fl} {x y z : Fl} {k : Nat} (hk : k = done.length + 1 + mid.length) : (done ++ x :: (mid ++ y :: r)).set k z = done ++ x :: (mid ++ z :: r) := by
  subst hk
  rw [List.set_append_right _ _ (by omega), show done.length + 1 + mid.length - done.length = mid.length + 1 by omega, List.set_cons_succ, List.set_append_right _ _ (by omega)]
  simp
end Go.Proofs.Ythhacbelbkkcmaa

/-
  SUMS BY KIND, AND THE EXCHANGE SORT: plain facts on lists (for Net and Totals).
-/
namespace Go.Proofs.Ythhacbelbkkcmaa
set_option linter.unusedVariables false
set_option linter.unusedSimpArgs false

/-! ### The exchange sort: 'for i, for k > i: if l[k] < l[i], exchange them' -/
section
variable {α : Type}

/-- The inner loop: what stands at i at its end, and what stands behind. -/
def sel (lt : α → α → Bool) : α → List α → α × List α
  | x, [] => (x, [])
  | x, y :: r => if lt y x then ((sel lt y r).1, x :: (sel lt y r).2) else ((sel lt x r).1, y :: (sel lt x r).2)

theorem sel_len (lt : α → α → Bool) : ∀ (r : List α) (x : α), (sel lt x r).2.length = r.length
  | [], x => rfl
  | y :: r, x => by
    unfold sel; split
    · simp [sel_len lt r y]
    · simp [sel_len lt r x]

theorem sel_perm (lt : α → α → Bool) : ∀ (r : List α) (x : α), ((sel lt x r).1 :: (sel lt x r).2).Perm (x :: r)
  | [], x => List.Perm.refl _
  | y :: r, x => by
    unfold sel; split
    · exact (List.Perm.swap _ _ _).trans ((sel_perm lt r y).cons x)
    · exact ((List.Perm.swap _ _ _).trans ((sel_perm lt r x).cons y)).trans (List.Perm.swap _ _ _)

/-- What the inner loop leaves at i is not greater than anything it has seen. -/
theorem sel_least (lt : α → α → Bool) (tr : ∀ a b c, lt b a = false → lt c b = false → lt c a = false) (asy : ∀ a b, lt a b = true → lt b a = false) :
    ∀ (r : List α) (x : α), lt x (sel lt x r).1 = false ∧ ∀ z, z ∈ r → lt z (sel lt x r).1 = false
  | [], x => ⟨by cases h : lt x x with
      | false => simp [sel, h]
      | true => exact absurd (asy x x h) (by simp [h]), by simp⟩
  | y :: r, x => by
    unfold sel; split
    · rename_i h
      obtain ⟨i1, i2⟩ := sel_least lt tr asy r y
      refine ⟨tr _ _ _ i1 (asy y x h), fun z hz => ?_⟩
      rcases List.mem_cons.1 hz with rfl | hz
      · exact i1
      · exact i2 z hz
    · rename_i h
      obtain ⟨i1, i2⟩ := sel_least lt tr asy r x
      refine ⟨i1, fun z hz => ?_⟩
      rcases List.mem_cons.1 hz with rfl | hz
      · exact tr _ _ _ i1 (by simpa using h)
      · exact i2 z hz

/-- Both loops. -/
def exsort (lt : α → α → Bool) : List α → List α
  | [] => []
  | x :: r => (sel lt x r).1 :: exsort lt (sel lt x r).2
termination_by l => l.length
decreasing_by simp [sel_len]

theorem exsort_nil (lt : α → α → Bool) : exsort lt [] = [] := by unfold exsort; rfl
theorem exsort_cons (lt : α → α → Bool) (x : α) (r : List α) : exsort lt (x :: r) = (sel lt x r).1 :: exsort lt (sel lt x r).2 := by
  conv => lhs; unfold exsort

theorem exsort_perm (lt : α → α → Bool) : ∀ (n : Nat) (l : List α), l.length = n → (exsort lt l).Perm l
  | 0, l, h => by
    have : l = [] := List.eq_nil_of_length_eq_zero h
    subst this; rw [exsort_nil]
  | n + 1, [], h => by simp at h
  | n + 1, x :: r, h => by
    rw [exsort_cons]
    exact ((exsort_perm lt n _ (by simp [sel_len] at h ⊢; omega)).cons _).trans (sel_perm lt r x)

theorem exsort_sorted (lt : α → α → Bool) (tr : ∀ a b c, lt b a = false → lt c b = false → lt c a = false) (asy : ∀ a b, lt a b = true → lt b a = false) :
    ∀ (n : Nat) (l : List α), l.length = n → (exsort lt l).Pairwise (fun a b => lt b a = false)
  | 0, l, h => by
    have : l = [] := List.eq_nil_of_length_eq_zero h
    subst this; rw [exsort_nil]; exact List.Pairwise.nil
  | n + 1, [], h => by simp at h
  | n + 1, x :: r, h => by
    rw [exsort_cons]
    have hl : (sel lt x r).2.length = n := by simp [sel_len] at h ⊢; omega
    refine List.Pairwise.cons (fun z hz => ?_) (exsort_sorted lt tr asy n _ hl)
    have hz' : z ∈ (sel lt x r).2 := (exsort_perm lt n _ hl).mem_iff.1 hz
    have hz2 : z ∈ x :: r := (sel_perm lt r x).mem_iff.1 (List.mem_cons_of_mem _ hz')
    obtain ⟨i1, i2⟩ := sel_least lt tr asy r x
    rcases List.mem_cons.1 hz2 with rfl | hz2
    · exact i1
    · exact i2 z hz2

/-- Whatever is ordered and has the same members is the exchange sort's list, if only the same compare as the same. -/
theorem exsort_only (lt : α → α → Bool) (tr : ∀ a b c, lt b a = false → lt c b = false → lt c a = false) (asy : ∀ a b, lt a b = true → lt b a = false)
    {l s : List α} (hp : s.Perm l) (hs : s.Pairwise (fun a b => lt b a = false)) (an : ∀ a b, a ∈ l → b ∈ l → lt a b = false → lt b a = false → a = b) :
    s = exsort lt l :=
  List.Perm.eq_of_pairwise (le := fun a b => lt b a = false)
    (fun a b ha hb h1 h2 => an a b (hp.mem_iff.1 ha) ((exsort_perm lt _ l rfl).mem_iff.1 hb) h2 h1) hs (exsort_sorted lt tr asy _ l rfl) (hp.trans (exsort_perm lt _ l rfl).symm)
end

/-! ### Sums by kind -/
section
variable {κ : Type} [DecidableEq κ]

/-- The sum that stands under a key. -/
def sumAt (k : κ) : List (κ × Int) → Option Int
  | [] => none
  | e :: l => if e.1 = k then some e.2 else sumAt k l
/-- A sum set under a key: in its place, or at the end. -/
def setAt (k : κ) (v : Int) : List (κ × Int) → List (κ × Int)
  | [] => [(k, v)]
  | e :: l => if e.1 = k then (k, v) :: l else e :: setAt k v l
/-- The sums of a list, first to last; none: one of them does not fit. -/
def tally (fits : Int → Bool) : List (κ × Int) → List (κ × Int) → Option (List (κ × Int))
  | acc, [] => some acc
  | acc, e :: l => if fits ((sumAt e.1 acc).getD 0 + e.2) then tally fits (setAt e.1 ((sumAt e.1 acc).getD 0 + e.2) acc) l else none

theorem sumAt_none {k : κ} : ∀ {l : List (κ × Int)}, sumAt k l = none ↔ ∀ e, e ∈ l → e.1 ≠ k
  | [] => by simp [sumAt]
  | e :: l => by
    unfold sumAt; split
    · rename_i h; simp [h]
    · rename_i h; rw [sumAt_none]; simp [h]
theorem setAt_new {k : κ} {v : Int} : ∀ {l : List (κ × Int)}, sumAt k l = none → setAt k v l = l ++ [(k, v)]
  | [], _ => rfl
  | e :: l, h => by
    unfold sumAt at h; unfold setAt
    split at h
    · cases h
    · rename_i hk; rw [if_neg hk, setAt_new h]; rfl
theorem setAt_keys {k : κ} {v : Int} : ∀ {l : List (κ × Int)}, (setAt k v l).map (·.1) = if sumAt k l = none then l.map (·.1) ++ [k] else l.map (·.1)
  | [] => by simp [setAt, sumAt]
  | e :: l => by
    unfold sumAt setAt
    by_cases hk : e.1 = k
    · simp [hk]
    · simp only [hk, if_false, List.map_cons]
      rw [setAt_keys]; split <;> simp
theorem setAt_apart {k : κ} {v : Int} {l : List (κ × Int)} (h : (l.map (·.1)).Nodup) : ((setAt k v l).map (·.1)).Nodup := by
  rw [setAt_keys]
  split
  · rename_i hk
    rw [List.nodup_append]
    refine ⟨h, by simp, fun a ha b hb => ?_⟩
    simp at hb; subst hb
    obtain ⟨e, he, rfl⟩ := List.mem_map.1 ha
    exact sumAt_none.1 hk e he
  · exact h
theorem tally_apart {fits : Int → Bool} : ∀ {l acc out : List (κ × Int)}, (acc.map (·.1)).Nodup → tally fits acc l = some out → (out.map (·.1)).Nodup
  | [], acc, out, h, ht => by cases ht; exact h
  | e :: l, acc, out, h, ht => by
    unfold tally at ht
    split at ht
    · exact tally_apart (setAt_apart h) ht
    · cases ht
theorem tally_snoc {fits : Int → Bool} : ∀ {l acc : List (κ × Int)} {e : κ × Int}, tally fits acc (l ++ [e]) = (tally fits acc l).bind fun s => if fits ((sumAt e.1 s).getD 0 + e.2) then some (setAt e.1 ((sumAt e.1 s).getD 0 + e.2) s) else none
  | [], acc, e => by simp [tally]
  | x :: l, acc, e => by
    rw [List.cons_append]; unfold tally
    split
    · exact tally_snoc
    · rfl
omit [DecidableEq κ] in
end
end Go.Proofs.Ythhacbelbkkcmaa

namespace Go.Proofs.Ythhacbelbkkcmaa
open Go.RowKit Go.Maps
set_option linter.unusedVariables false
set_option linter.unusedSimpArgs false

section
variable {κ : Type} [DecidableEq κ]
theorem sumAt_set {k : κ} {v : Int} : ∀ {l : List (κ × Int)}, sumAt k (setAt k v l) = some v
  | [] => by simp [setAt, sumAt]
  | e :: l => by
    unfold setAt; split
    · simp [sumAt]
    · rename_i h; unfold sumAt; rw [if_neg h, sumAt_set]
theorem sumAt_set_other {k k' : κ} {v : Int} (h : k' ≠ k) : ∀ {l : List (κ × Int)}, sumAt k' (setAt k v l) = sumAt k' l
  | [] => by simp [setAt, sumAt, h.symm]
  | e :: l => by
    unfold setAt; split
    · rename_i g; unfold sumAt; rw [if_neg h.symm, if_neg (by rw [g]; exact h.symm)]
    · unfold sumAt; split
      · rfl
      · exact sumAt_set_other h
end

def fitB (s : Int) : Bool := decide (-9223372036854775808 ≤ s ∧ s ≤ 9223372036854775807)
theorem fitB_in {s : Int} (h : inR s) : fitB s = true := decide_eq_true (by unfold inR at h; omega)
theorem fitB_out {s : Int} (h : ¬ inR s) : fitB s = false := decide_eq_false (by unfold inR at h; omega)
def lit (c : ByteArray) : Lit := .string c.data.toList
theorem lit_ne {c c' : ByteArray} (h : c' ≠ c) : lit c' ≠ lit c := fun e => h (by
  unfold lit at e
  injection e with e
  obtain ⟨⟨x⟩⟩ := c; obtain ⟨⟨y⟩⟩ := c'
  simp at e; rw [e])
/-- A map that holds just these sums. -/
def Sums (D : DataW Unit) (acc : List (ByteArray × Int)) : Prop :=
  IsMap D ∧ (∀ c, D.atKey (lit c) (.lit (.int .i64 0)) = .lit (.int .i64 ((sumAt c acc).getD 0))) ∧ ∀ c, Maps.has D (lit c) = (sumAt c acc).isSome
theorem sums_none : Sums (.map []) [] := ⟨isMap_empty, fun _ => rfl, fun _ => rfl⟩
theorem Sums.set {D : DataW Unit} {acc : List (ByteArray × Int)} (h : Sums D acc) (c : ByteArray) (v : Int) : Sums (D.put (lit c) (.lit (.int .i64 v))) (setAt c v acc) := by
  obtain ⟨h1, h2, h3⟩ := h
  refine ⟨h1.put _ _, fun c' => ?_, fun c' => ?_⟩
  · by_cases e : c' = c
    · subst e; rw [atKey_put_same h1 (k := lit c') trivial, sumAt_set]; rfl
    · rw [atKey_put_other (lit_ne e), h2, sumAt_set_other e]
  · by_cases e : c' = c
    · subst e; rw [has_put_same h1 (k := lit c') trivial, sumAt_set]; rfl
    · rw [has_put_other (lit_ne e), h3, sumAt_set_other e]

/-- The sums by currency. -/
def tots (fs : List Fl) : Option (List (ByteArray × Int)) := tally fitB [] (fs.map fun f => (f.c, f.a))
theorem tots_step {fs : List Fl} {k : Nat} {f : Fl} (hk : k < fs.length) (hf : fs.getD k default = f) : tots (fs.take (k + 1)) = (tots (fs.take k)).bind fun s => if fitB ((sumAt f.c s).getD 0 + f.a) then some (setAt f.c ((sumAt f.c s).getD 0 + f.a) s) else none := by
  have e : fs[k]? = some f := by rw [List.getElem?_eq_getElem hk, ← hf]; simp [List.getD, hk]
  unfold tots
  rw [List.take_add_one, e]
  simp only [Option.toList_some, List.map_append, List.map_cons, List.map_nil]
  rw [tally_snoc]
theorem tally_no {κ : Type} [DecidableEq κ] {fits : Int → Bool} : ∀ {l r acc : List (κ × Int)}, tally fits acc l = none → tally fits acc (l ++ r) = none
  | [], r, acc, h => by cases h
  | x :: l, r, acc, h => by
    rw [List.cons_append]; unfold tally at h ⊢
    split at h
    · rename_i g; rw [if_pos g]; exact tally_no h
    · rename_i g; rw [if_neg g]
theorem tots_no {fs : List Fl} {k : Nat} (h : tots (fs.take k) = none) : tots fs = none := by
  unfold tots at *
  rw [← List.take_append_drop k fs, List.map_append]
  exact tally_no h
end Go.Proofs.Ythhacbelbkkcmaa
