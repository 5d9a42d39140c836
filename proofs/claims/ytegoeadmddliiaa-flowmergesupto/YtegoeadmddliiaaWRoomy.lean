/-
  WALKS: roomy, untouched.
-/
import Derived.Test.YtegoeadmddliiaaWFlows
import Derived.Laws.MakeOwn
import Derived.Laws.CopyOwn
namespace Go.Proofs.Ytegoeadmddliiaa
open Go.RowKit
set_option linter.unusedVariables false
set_option linter.unusedSimpArgs false

def zFl : Fl := ⟨0, ⟨#[]⟩, 0⟩
def mkFl (i : Int) : Fl := ⟨-77, ⟨#[109, 97, 114, 107]⟩, i⟩
theorem fcs_app (a b : List Fl) : fcs (a ++ b) = fcs a ++ fcs b := by simp [fcs]
theorem fcs_set : ∀ (gs : List Fl) (i : Nat) (f : Fl), i < gs.length → (((fcs gs).set (i * 3) (.int .i64 f.d)).set (i * 3 + 1) (.string f.c)).set (i * 3 + 2) (.int .i64 f.a) = fcs (gs.set i f)
  | [], i, f, h => by simp at h
  | g :: gs, 0, f, h => rfl
  | g :: gs, i + 1, f, h => by
    have ih := fcs_set gs i f (by simpa using h)
    show (((g.cells ++ fcs gs).set ((i + 1) * 3) _).set ((i + 1) * 3 + 1) _).set ((i + 1) * 3 + 2) _ = g.cells ++ fcs (gs.set i f)
    have e : g.cells.length = 3 := rfl
    rw [List.set_append_right _ _ (by omega), List.set_append_right _ _ (by omega), List.set_append_right _ _ (by omega), e, show (i + 1) * 3 - 3 = i * 3 by omega, show (i + 1) * 3 + 1 - 3 = i * 3 + 1 by omega, show (i + 1) * 3 + 2 - 3 = i * 3 + 2 by omega, ih]
theorem made_fcs (N : Nat) : (madeCells #[.int .i64 0, .string ⟨#[]⟩, .int .i64 0] (N * 3)).toList = fcs (List.replicate N zFl) := by
  apply List.ext_getElem?
  intro k
  by_cases hk : k < N * 3
  · have e : k = (k / 3) * 3 + k % 3 := by omega
    have h3 : k % 3 < 3 := Nat.mod_lt _ (by omega)
    rw [e, fcs_at _ (k / 3) (by simp; omega) (k % 3) h3, ← e]
    have hr : (List.replicate N zFl).getD (k / 3) default = zFl := by simp [List.getD, List.getElem?_replicate, show k / 3 < N by omega]
    rw [hr]
    unfold madeCells
    simp only [Array.toList_map, Array.toList_range, List.getElem?_map, List.getElem?_range hk, Option.map_some]
    rcases (show k % 3 = 0 ∨ k % 3 = 1 ∨ k % 3 = 2 by omega) with h | h | h <;> rw [show (#[Value.int .i64 0, .string ⟨#[]⟩, .int .i64 0] : Array Value).size = 3 from rfl, h] <;> rfl
  · rw [List.getElem?_eq_none (by simp [madeCells]; omega), List.getElem?_eq_none (by rw [fcs_len]; simp; omega)]

theorem make_flows (n : Nat) (hn : n ≤ 4398046511100) (W : World) : (Instr.makeSlice 23 (.int .i64 (n : Int)) (.int .i64 (n : Int))).run Try.prog W = .ok (.slice (some ⟨W.heap.size, 0, none⟩) n n) (W.alloc (.cells (madeCells #[.int .i64 0, .string ⟨#[]⟩, .int .i64 0] (n * 3)) 36)) := by
  obtain ⟨i0, hi, hz0, hz1, hz2⟩ := info_parts infoF
  have := run_make (P := Try.prog) W 23 36 i0 _ Try.underlying23 hi hz0 .i64 .i64 n n (by omega) (by omega) (by rw [hz2]; omega) (by omega)
  rw [hz1] at this
  simpa [Value.cells] using this

/-- A row of flows that fills its block. -/
def Rf (w : World) (g : Nat) (gs : List Fl) : Prop := w.ownsRow g 36 3 (.slice (some ⟨g, 0, none⟩) gs.length gs.length) gs.length (fcs gs)
theorem rf_of {w : World} {g : Nat} {gs : List Fl} {cur : Array Value} (h : w.heap[g]? = some (.cells cur 36 (0, 0))) (hc : cur.toList = fcs gs) (hl : gs.length ≤ 4398046511100) : Rf w g gs := by
  have hs : cur.size = gs.length * 3 := by rw [← fcs_len, ← hc]; simp
  exact ⟨fcs_len gs, .inr ⟨g, _, cur, rfl, Nat.le_refl _, h, Nat.le_refl _, by unfold maxLen; omega, hs, by rw [hc, List.take_of_length_le (by rw [fcs_len]; omega)]⟩⟩
theorem Rf.lt {w : World} {g : Nat} {gs : List Fl} (h : Rf w g gs) : g < w.heap.size := (World.ownsRow.lt h g rfl).2
theorem Rf.fc {w : World} {g : Nat} {gs : List Fl} (h : Rf w g gs) (i : Nat) (hi : i < gs.length) : FC w g (i * 3) (gs.getD i default) := by
  refine ⟨?_, ?_, ?_⟩
  · rw [World.ownsRow.cellAt h (i * 3) (by omega)]; exact fcs_at gs i hi 0 (by omega)
  · rw [World.ownsRow.cellAt h (i * 3 + 1) (by omega)]; exact fcs_at gs i hi 1 (by omega)
  · rw [World.ownsRow.cellAt h (i * 3 + 2) (by omega)]; exact fcs_at gs i hi 2 (by omega)
theorem Rf.set {w : World} {g : Nat} {gs : List Fl} (h : Rf w g gs) (i : Nat) (hi : i < gs.length) (f : Fl) :
    Rf (((w.setCell ⟨g, i * 3, none⟩ (.int .i64 f.d)).setCell ⟨g, i * 3 + 1, none⟩ (.string f.c)).setCell ⟨g, i * 3 + 2, none⟩ (.int .i64 f.a)) g (gs.set i f) := by
  have := (((World.ownsRow.stored h (i * 3) (.int .i64 f.d)).1.stored (i * 3 + 1) (.string f.c)).1.stored (i * 3 + 2) (.int .i64 f.a)).1
  rw [fcs_set gs i f hi] at this
  unfold Rf
  rw [List.length_set]
  exact this

/-- copy(f, l). -/
theorem copy_flows (a : Option Addr) (n cap : Nat) (fs : List Fl) (w : World) (h : FL w a n fs) :
    ∃ W2, (∀ ty, (Builtin.copy_ #[23, 23] ty #[.slice (some ⟨w.heap.size, 0, none⟩) (n + 3) (n + 3), .slice a n cap]).run Try.prog (w.alloc (.cells (madeCells #[.int .i64 0, .string ⟨#[]⟩, .int .i64 0] ((n + 3) * 3)) 36)) = .ok (goInt n) W2) ∧ Below w.heap.size w W2 ∧ Rf W2 w.heap.size (fs ++ [zFl, zFl, zFl]) := by
  obtain ⟨i0, hi, hz0, hz1, hz2⟩ := info_parts infoF
  obtain ⟨h1, h2, h3⟩ := h
  have hu : Try.prog.underlying 23 = some (.slice 36) := Try.underlying23
  have hmin : Nat.min n (n + 3) = n := Nat.min_eq_left (by omega)
  have hg : (w.alloc (.cells (madeCells #[.int .i64 0, .string ⟨#[]⟩, .int .i64 0] ((n + 3) * 3)) 36)).heap[w.heap.size]? = some (.cells (madeCells #[.int .i64 0, .string ⟨#[]⟩, .int .i64 0] ((n + 3) * 3)) 36 (0, 0)) := by
    show (w.heap.push _)[w.heap.size]? = _
    simp
  have rep : fcs (List.replicate (n + 3) zFl) = fcs (List.replicate n zFl) ++ fcs [zFl, zFl, zFl] := by rw [← fcs_app, show [zFl, zFl, zFl] = List.replicate 3 zFl from rfl, List.replicate_append_replicate]
  rcases h3 with h3 | ⟨b, o, rfl, hb, hc⟩
  · subst h3
    have hz : fs = [] := List.length_eq_zero_iff.1 h1
    subst hz
    refine ⟨_, fun ty => ?_, (Below.refl _ _).alloc (Nat.le_refl _) _, rf_of hg (made_fcs 3) (by decide)⟩
    cases a <;> simp [Builtin.copy_, run_underlying hu, Builtin.lenOf, Builtin.firstCells, sizeOf, typeInfo, hi, hz1, storeCells, loadCells, loadCellsFrom]
  · have hlen : (fcs fs).length = n * 3 := by rw [fcs_len, h1]
    have hl := run_loadCells_list (P := Try.prog) (w.alloc (.cells (madeCells #[.int .i64 0, .string ⟨#[]⟩, .int .i64 0] ((n + 3) * 3)) 36)) ⟨b, o, none⟩ (fcs fs) (by
      intro j v hj
      have hjn : j < n * 3 := by
        refine Nat.lt_of_not_le fun hc => ?_
        rw [List.getElem?_eq_none (by omega)] at hj
        cases hj
      rw [Go.Addr.add_lit, (((Below.refl w.heap.size w).alloc (Nat.le_refl _) _).cell (p := ⟨b, o + j, none⟩) hb)]
      have e : j = (j / 3) * 3 + j % 3 := by omega
      rw [← hj]
      obtain ⟨p0, p1, p2⟩ := hc (j / 3) (by omega)
      have hat := fcs_at fs (j / 3) (by omega) (j % 3) (Nat.mod_lt _ (by omega))
      rw [← e] at hat
      rw [hat]
      rcases (show j % 3 = 0 ∨ j % 3 = 1 ∨ j % 3 = 2 by omega) with q | q | q
      · rw [q, show o + j = o + j / 3 * 3 by omega]; exact p0
      · rw [q, show o + j = o + j / 3 * 3 + 1 by omega]; exact p1
      · rw [q, show o + j = o + j / 3 * 3 + 2 by omega]; exact p2)
    have one : ∀ v ∈ fcs fs, v.oneCell' = true := by
      intro v hv
      unfold fcs at hv
      obtain ⟨f, _, hv⟩ := List.mem_flatMap.1 hv
      simp [Fl.cells] at hv
      rcases hv with rfl | rfl | rfl <;> rfl
    have hst := run_storeCells_at Try.prog w.heap.size 0 36 (fcs fs) 0 _ _ hg (by rw [hlen, size_madeCells]; omega) one
    rw [hlen] at hl
    refine ⟨((w.alloc (.cells (madeCells #[.int .i64 0, .string ⟨#[]⟩, .int .i64 0] ((n + 3) * 3)) 36)).setRow w.heap.size ((madeCells #[.int .i64 0, .string ⟨#[]⟩, .int .i64 0] ((n + 3) * 3)).toList.take (0 + 0) ++ fcs fs ++ (madeCells #[.int .i64 0, .string ⟨#[]⟩, .int .i64 0] ((n + 3) * 3)).toList.drop (0 + 0 + (fcs fs).length)).toArray), fun ty => ?_, ?_, ?_⟩
    rotate_left
    · exact below_setRow ((Below.refl _ _).alloc (Nat.le_refl _) _) (Nat.le_refl _) _
    · refine rf_of (setRow_heap _ _ _ _ _ _ hg) ?_ (by simp; omega)
      rw [made_fcs, rep, hlen, fcs_app]
      simp only [Nat.add_zero, List.take_zero, List.nil_append, Nat.zero_add]
      rw [List.drop_left' (by rw [fcs_len]; simp)]
    · simp [Builtin.copy_, run_underlying hu, Builtin.lenOf, Builtin.firstCells, sizeOf, typeInfo, hi, hz1, hmin, hl, hst]

set_option maxHeartbeats 2000000 in
theorem roomy_any (a : Option Addr) (n cap : Nat) (fs : List Fl) (w : World) (h : FL w a n fs) :
    Calls Try.prog 4 #[.slice a n cap] w fun e w' => e = .returned (.slice (some ⟨w.heap.size, 0, none⟩) (n + 3) (n + 3)) ∧ Below w.heap.size w w' ∧ Rf w' w.heap.size (fs ++ [mkFl n, mkFl (n + 1), mkFl (n + 2)]) := by
  have hn : n ≤ 4398046511000 := h.2.1
  have hl := h.1
  have mk := make_flows (n + 3) (by omega)
  simp only [Int.natCast_add, Int.cast_ofNat_Int] at mk
  obtain ⟨W2, cp, hB2, hR2⟩ := copy_flows a n cap fs w h
  have B2 := Lib.hid hB2
  have R2 := Lib.hid hR2
  clear h hB2 hR2
  go_enter Try.func4, Try.ntmps4
  go_wp2
  clear mk cp
  go_loopw [4] (fun t wr => ∃ (j : Nat) (x y z : Fl), j ≤ 3 ∧ t = .int .i64 ((n : Int) + j) ∧ Below w.heap.size w wr ∧ Rf wr w.heap.size (fs ++ [x, y, z]) ∧ (0 < j → x = mkFl n) ∧ (1 < j → y = mkFl (n + 1)) ∧ (2 < j → z = mkFl (n + 2))) (fun t _ => n + 3 - (intOf t).toNat)
  case atStart => exact ⟨0, zFl, zFl, zFl, by omega, by first | rfl | simp, B2.out, R2.out, fun h => absurd h (by omega), fun h => absurd h (by omega), fun h => absurd h (by omega)⟩
  case round =>
    obtain ⟨j, x, y, z, hj, rfl, hB, hR, hx, hy, hz⟩ := hrel
    have BB := Lib.hid hB
    have RR := Lib.hid hR
    by_cases hlt : j < 3
    · have len : (fs ++ [x, y, z]).length = n + 3 := by simp [hl]
      obtain ⟨c0, c1, c2⟩ := hR.fc (n + j) (by omega)
      have f0 := World.ownsRow.frozenAt hR ((n + j) * 3)
      have f1 := World.ownsRow.frozenAt hR ((n + j) * 3 + 1)
      have f2 := World.ownsRow.frozenAt hR ((n + j) * 3 + 2)
      have R' := Lib.hid (RR.out.set (n + j) (by omega) (mkFl (n + j)))
      generalize (fs ++ [x, y, z]).getD (n + j) default = old at *
      have kc : ((n : Int) + j) < (n : Int) + 3 := by omega
      have kw : IntKind.i64.wrap ((n : Int) + j + 1) = (n : Int) + j + 1 := by simp [IntKind.wrap, IntKind.bits, IntKind.signed]; omega
      have k0 : ¬ ((n : Int) + j) < 0 := by omega
      have kt : ((n : Int) + j).toNat = n + j := by omega
      have X := Lib.hid hx
      have Y := Lib.hid hy
      have Z := Lib.hid hz
      clear hB hR hx hy hz
      go_wp2
      go_roundw
      case rel =>
        have BL := ((BB.out.setCell (p := ⟨w.heap.size, (n + j) * 3, none⟩) (by simp) (.int .i64 (-77))).setCell (p := ⟨w.heap.size, (n + j) * 3 + 1, none⟩) (by simp) (.string ⟨#[109, 97, 114, 107]⟩)).setCell (p := ⟨w.heap.size, (n + j) * 3 + 2, none⟩) (by simp) (.int .i64 ((n : Int) + j))
        have RS := R'.out
        rw [List.set_append_right _ _ (by omega), hl, show n + j - n = j by omega] at RS
        rcases (show j = 0 ∨ j = 1 ∨ j = 2 by omega) with rfl | rfl | rfl
        · exact ⟨1, mkFl ((n : Int) + (0 : Nat)), y, z, by omega, by simp, BL, RS, fun _ => by simp, fun h => absurd h (by omega), fun h => absurd h (by omega)⟩
        · exact ⟨2, x, mkFl ((n : Int) + (1 : Nat)), z, by omega, by congr 1, BL, RS, fun _ => X.out (by omega), fun _ => by simp, fun h => absurd h (by omega)⟩
        · exact ⟨3, x, y, mkFl ((n : Int) + (2 : Nat)), by omega, by congr 1, BL, RS, fun _ => X.out (by omega), fun _ => Y.out (by omega), fun _ => by simp⟩
      case measure => simp [intOf]; omega
    · obtain rfl : j = 3 := by omega
      rw [hx (by omega), hy (by omega), hz (by omega)] at RR
      clear hB hR hx hy hz
      go_wp2
      go_ret
      exact ⟨by first | rfl | simp, BB.out, RR.out⟩

set_option maxHeartbeats 2000000 in
theorem untouched_any (a : Option Addr) (n cap g : Nat) (fs : List Fl) (w : World) (h : FL w a n fs) (hg : g < w.heap.size) (hR : ∀ i, i < n + 3 → FC w g (i * 3) ((fs ++ [mkFl n, mkFl (n + 1), mkFl (n + 2)]).getD i default)) :
    Calls Try.prog 9 #[.slice (some ⟨g, 0, none⟩) (n + 3) (n + 3), .slice a n cap] w fun e w' => e = .returned (.bool true) ∧ Below w.heap.size w w' := by
  obtain ⟨hl, hn, h3⟩ := h
  have HS := Lib.hid (p := ∀ i, i < n → FC w g (i * 3) (fs.getD i default)) (fun i hi => by
    have := hR i (by omega)
    rwa [show (fs ++ [mkFl n, mkFl (n + 1), mkFl (n + 2)]).getD i default = fs.getD i default by simp only [List.getD]; rw [List.getElem?_append_left (by omega)]] at this)
  have HM := Lib.hid (p := ∀ j, j < 3 → FC w g ((n + j) * 3) (mkFl ((n : Int) + j))) (fun j hj => by
    have := hR (n + j) (by omega)
    rwa [show (fs ++ [mkFl n, mkFl (n + 1), mkFl (n + 2)]).getD (n + j) default = mkFl ((n : Int) + j) by
      simp only [List.getD]
      rw [List.getElem?_append_right (by omega), hl, show n + j - n = j by omega]
      rcases (show j = 0 ∨ j = 1 ∨ j = 2 by omega) with rfl | rfl | rfl <;> simp] at this)
  have HA := Lib.hid (p := 0 < n → ∃ b o, a = some ⟨b, o, none⟩ ∧ b < w.heap.size ∧ ∀ i, i < n → FC w b (o + i * 3) (fs.getD i default)) (fun h => by
    rcases h3 with h3 | h3
    · omega
    · exact h3)
  clear hR h3
  go_enter Try.func9, Try.ntmps9
  go_wp2
  go_loopw [5] (fun t wr => ∃ k : Nat, k ≤ n ∧ t = .int .i64 k ∧ Below w.heap.size w wr) (fun t _ => n - (intOf t).toNat)
  case atStart => exact ⟨0, by omega, rfl, Below.refl _ _⟩
  case round =>
    obtain ⟨k, hk, rfl, hB⟩ := hrel
    have BB := Lib.hid hB
    by_cases hlt : k < n
    · obtain ⟨b, o, rfl, hb, hc⟩ := HA.out (by omega)
      obtain ⟨c0, c1, c2⟩ := (hc k hlt).later hB hb
      obtain ⟨e0, e1, e2⟩ := (HS.out k hlt).later hB hg
      have kc : (k : Int) < (n : Int) := by omega
      generalize fs.getD k default = f at *
      obtain ⟨fd, fc, fa⟩ := f
      simp only at c0 c1 c2 e0 e1 e2
      clear hB hc
      go_wp2
      go_region
      all_goals
        go_wp2
        go_roundw
        case rel => exact ⟨k + 1, by omega, by go_num, BB.out.drew⟩
        case measure => simp [intOf]; omega
    · obtain rfl : k = n := by omega
      clear hB
      go_wp2
      go_loopw [6] (fun t ws => ∃ j : Nat, j ≤ 3 ∧ t = .int .i64 ((k : Int) + j) ∧ Below w.heap.size w ws) (fun t _ => k + 3 - (intOf t).toNat)
      case atStart => exact ⟨0, by omega, by simp, BB.out⟩
      case round =>
        rename World => ws
        obtain ⟨j, hj, rfl, hC⟩ := hrel
        have CC := Lib.hid hC
        by_cases hj3 : j < 3
        · obtain ⟨c0, c1, c2⟩ := (HM.out j hj3).later hC hg
          have kc : ((k : Int) + j) < (k : Int) + 3 := by omega
          have kw : IntKind.i64.wrap ((k : Int) + j + 1) = (k : Int) + j + 1 := by simp [IntKind.wrap, IntKind.bits, IntKind.signed]; omega
          have k0 : ¬ ((k : Int) + j) < 0 := by omega
          have kt : ((k : Int) + j).toNat = k + j := by omega
          simp only [mkFl] at c0 c1 c2
          clear hC
          go_wp2
          go_roundw
          case rel => exact ⟨j + 1, by omega, by first | rfl | (congr 1; omega) | (simp; omega), CC.out⟩
          case measure => simp [intOf]; omega
        · obtain rfl : j = 3 := by omega
          clear hC
          go_wp2
          go_ret
          exact ⟨rfl, CC.out⟩
end Go.Proofs.Ytegoeadmddliiaa
