import Derived.Test.YthhacbelbkkcmaaXAB
import Derived.Test.YthhacbelbkkcmaaXAF
import Derived.Shelf.GgSortFunc.InsertionK
import Derived.Sort.Statements
import Derived.Shelf.SlSortCmp.WholeK
import Derived.Shelf.Lay
import Derived.Ground.SlsfProg
import Derived.Deep.RegionHeld3
import Derived.Test.YthhacbelbkkcmaaXAH
import Derived.Test.YthhacbelbkkcmaaXAI
namespace Go.Proofs.Ythhacbelbkkcmaa
open Go.RowKit Go.Shelf Go.Lib Go.Sort
set_option linter.unusedVariables false
set_option linter.unusedSimpArgs false

theorem fcs_cell : ∀ (ts : List Fl) (j : Nat), j < ts.length * 3 → (fcs ts)[j]? = some ((Fl.cells (ts.toArray[j / 3]!))[j % 3]!)
  | [], j, h => by simp at h
  | t :: ts, 0, _ => by simp [fcs, Fl.cells]
  | t :: ts, 1, _ => by simp [fcs, Fl.cells]
  | t :: ts, 2, _ => by simp [fcs, Fl.cells]
  | t :: ts, j + 3, h => by
    have ih := fcs_cell ts j (by simp at h; omega)
    have e : fcs (t :: ts) = Fl.cells t ++ fcs ts := rfl
    have e1 : (fcs (t :: ts))[j + 3]? = (fcs ts)[j]? := by rw [e]; simp [Fl.cells]
    have e2 : (j + 3) / 3 = j / 3 + 1 := by omega
    have e3 : (j + 3) % 3 = j % 3 := by omega
    rw [e1, ih, e2, e3]
    simp
theorem holdsF {w : World} {B g cap : Nat} {ts : List (Fl)} (h : w.ownsRow B 40 3 (.slice (some ⟨g, 0, none⟩) ts.length cap) ts.length (fcs ts)) : HoldsK Fl.cells 3 w g 0 ts.toArray := by
  intro j hj
  have hj' : j < ts.length * 3 := by simpa using hj
  rw [Nat.zero_add]
  refine ⟨?_, h.frozenAt j⟩
  rw [h.cellAt j hj', fcs_cell ts j hj', get_flatK _ _ _ _ (by simpa using hj')]
  rfl

theorem flat_fcs (ts : List (Fl)) : (flatK Fl.cells 3 ts.toArray).toList = fcs ts := by
  apply List.ext_getElem?
  intro j
  by_cases hj : j < ts.length * 3
  · rw [fcs_cell ts j hj, Array.getElem?_toList, ← get_flatK Fl.cells 3 ts.toArray j (by simpa using hj)]
    rw [getElem!_pos _ j (by simpa using hj)]
    exact Array.getElem?_eq_getElem (by simpa using hj)
  · rw [List.getElem?_eq_none (by simp; omega), List.getElem?_eq_none (by rw [fcs_len]; omega)]
theorem take_putF (cur : Array Value) (F : Array Value) (h : F.size ≤ cur.size) : (putCells id 0 F cur).toList.take F.size = F.toList := by
  apply List.ext_getElem?
  intro j
  by_cases hj : j < F.size
  · rw [List.getElem?_take_of_lt hj, Array.getElem?_toList]
    simp [putCells, hj, show j < cur.size by omega]
  · rw [List.getElem?_take_eq_none (by omega), List.getElem?_eq_none (by simp; omega)]
theorem grown_sortedF {w : World} {g n : Nat} {os : Array Obj} (d : Array (Fl)) : w.grownBy (sortWorldK Fl.cells 3 w g 0 n d os) (some g) := by
  refine ⟨rfl, rfl, rfl, by simp [sortWorldK, putRowK, Sort.ahead], fun k hk hne => ?_⟩
  unfold sortWorldK putRowK
  rw [heap_grow_old _ _ (by simpa [Sort.ahead] using hk)]
  have : g ≠ k := fun e => hne (by rw [e])
  simp [putRow, mapBlock, Sort.ahead, Array.getElem?_modify, this]
theorem own_sortedF {w : World} {base g cap n : Nat} {os : Array Obj} {ts ts' : List (Fl)} (hl : ts'.length = ts.length) (h : w.ownsRow base 40 3 (.slice (some ⟨g, 0, none⟩) ts.length cap) ts.length (fcs ts)) :
    (sortWorldK Fl.cells 3 w g 0 n ts'.toArray os).ownsRow base 40 3 (.slice (some ⟨g, 0, none⟩) ts.length cap) ts'.length (fcs ts') := by
  rcases h.2 with ⟨h0, _⟩ | ⟨g', cap', cur, hv, hg, hb, hn, hcap, hs, ht⟩
  · cases h0
  cases hv
  have hlt : g < w.heap.size := (Array.getElem?_eq_some_iff.1 hb).1
  refine ⟨by rw [fcs_len], .inr ⟨g, cap, putCells id 0 (flatK Fl.cells 3 ts'.toArray) cur, by rw [hl], hg, ?_, by omega, hcap, by simp [putCells, hs], ?_⟩⟩
  · unfold sortWorldK putRowK
    rw [heap_grow_old _ _ (by simpa [Sort.ahead] using hlt)]
    simp [putRow, mapBlock, Sort.ahead, Array.getElem?_modify, hb, onCells]
  · have := take_putF cur (flatK Fl.cells 3 ts'.toArray) (by simp [hs]; omega)
    rw [flat_fcs] at this
    simpa using this
theorem perm_inF {d d' : Array (Fl)} (h : PermIn 0 d.size d d') : d'.toList.Perm d.toList := by
  obtain ⟨hz, _, hp⟩ := h
  rw [Array.extract_eq_self_of_le (by omega), Array.extract_eq_self_of_le (by omega)] at hp
  exact hp
theorem sortsN_of (C : ∀ (g cap : Nat) (d : Array (Fl)) (w : World), HoldsK Fl.cells 3 w g 0 d → g < w.heap.size → d.size < 4611686018427387904 →
    Calls Try.prog 42 #[.slice (some ⟨g, 0, none⟩) d.size cap, .func (.func 27) #[] #[]] w fun e w' => e = .returned (.tuple #[]) ∧ ∃ d' n os, PermIn 0 d.size d d' ∧ SortedIn fLt 0 d.size d' ∧ w' = sortWorldK Fl.cells 3 w g 0 n d' os) : SortsN := fun B g cap ts w hm h => by
  have hlt : g < w.heap.size := (h.lt g rfl).2
  have hn : ts.length < 4611686018427387904 := by omega
  have K := C g cap ts.toArray w (holdsF h) hlt (by simpa using hn)
  rw [show ts.toArray.size = ts.length by simp] at K
  refine K.mono ?_
  rintro e w' ⟨rfl, d', n, os, hp, hs, rfl⟩
  have hp' : PermIn 0 ts.toArray.size ts.toArray d' := by simpa using hp
  have q := perm_inF hp'
  have hsz : d'.toList.length = ts.length := by simpa using q.length_eq
  refine ⟨rfl, d'.toList, by simpa using q, ?_, fun N h1 h2 => (Below.refl _ _).grown (grown_sortedF d') h2 (fun k e => by cases e; exact h1), ?_⟩
  · rw [List.pairwise_iff_getElem]
    intro i j hi hj hij
    have := hs i j (by omega) hij (by omega)
    rw [getElem!_pos d' i (by simpa using hi), getElem!_pos d' j (by simpa using hj)] at this
    simpa using this
  · have := own_sortedF (n := n) (os := os) (ts' := d'.toList) hsz h
    simpa using this

shelf_lay_g SlLaysF0.n6 Slsf 6 at Try 42 as sortF

theorem swoF : SWO (ltOf cmpF) where
  irrefl x := fLt_irrefl x
  trans x y z h1 h2 := fLt_trans h1 h2
  ntrans x y z h1 h2 := fLt_ntrans h1 h2
set_option maxHeartbeats 2000000 in
theorem compareW (d a d' a' : Int) (c c' : ByteArray) (w : World) :
    Calls Try.prog 27 #[.agg #[.int .i64 d, .string c, .int .i64 a], .agg #[.int .i64 d', .string c', .int .i64 a']] w fun e w' => e = .returned (.int .i64 (cmpF ⟨d, c, a⟩ ⟨d', c', a'⟩)) ∧ ∃ q os', w' = grow (w.drewN q) os' := by
  have HC := Lib.hid (p := ∀ x y z, cmpI d d' = x → cmpS c c' = y → cmpI a a' = z → cmpF ⟨d, c, a⟩ ⟨d', c', a'⟩ = orI x y z) (fun x y z h1 h2 h3 => by rw [← h1, ← h2, ← h3]; rfl)
  generalize cmpF ⟨d, c, a⟩ ⟨d', c', a'⟩ = C at HC ⊢
  have K1 := fun W => compare_str c c' W
  have K2 := fun W => compare_int a a' W
  have K0 := fun W => byDay_any d a d' a' c c' W
  generalize cmpI d d' = x at *
  generalize cmpS c c' = y at *
  generalize cmpI a a' = z at *
  have HD := Lib.hid (HC.out x y z rfl rfl rfl)
  clear HC
  go_enter Try.func27, Try.ntmps27
  go_wp2
  go_region_held3 (fun w' => w'.cell? ⟨w.heap.size, 0, none⟩ = some (.int .i64 d) ∧ w'.cell? ⟨w.heap.size, 1, none⟩ = some (.string c) ∧ w'.cell? ⟨w.heap.size, 2, none⟩ = some (.int .i64 a) ∧ w'.cell? ⟨w.heap.size + 1, 0, none⟩ = some (.int .i64 d') ∧ w'.cell? ⟨w.heap.size + 1, 1, none⟩ = some (.string c') ∧ w'.cell? ⟨w.heap.size + 1, 2, none⟩ = some (.int .i64 a'))
    (refine ⟨?_, ?_, ?_, ?_, ?_, ?_⟩ <;> first | assumption | (simp [World.cell?_alloc_old, *]; done) | (go_simp; done))
    (first
    | (go_at_call 35; refine (K0 _).mono ?_; rintro e w1 ⟨rfl, rfl⟩)
    | (go_at_call 33; refine (K1 _).mono ?_; rintro e w2 ⟨rfl, rfl⟩)
    | (go_at_call 44; refine (K2 _).mono ?_; rintro e w3 ⟨rfl, rfl⟩)
    | (go_at_call 43; refine (or_any _ x y z _ (by go_simp) (by go_simp) (by go_simp)).mono ?_; rintro e w4 ⟨rfl, rfl⟩))
  all_goals go_wp2
  all_goals go_ret
  all_goals exact ⟨ret_i HD.out.symm, 1, _, by rw [alloc_eq_grow, alloc_eq_grow, alloc_eq_grow, alloc_eq_grow, alloc_eq_grow, grow_grow, grow_grow, grow_grow, grow_grow]; rfl⟩

theorem cmpLaysF (blk off size : Nat) (w : World) : CmpLays Try.prog 27 #[] Fl.cells 3 cmpF blk off size w :=
  fun m os dk hd x y => by
    refine (compareW x.d x.a y.d y.a x.c y.c _).mono ?_
    rintro e w' ⟨rfl, q, os', hw⟩
    exact ⟨rfl, q, os', hw⟩
theorem sortF_any (blk off cap : Nat) (d : Array Fl) (w : World) (hH : HoldsK Fl.cells 3 w blk off d) (hblk : blk < w.heap.size) (hsz : d.size < 4611686018427387904) :
    Calls Try.prog 42 #[.slice (some ⟨blk, off, none⟩) d.size cap, .func (.func 27) #[] #[]] w fun e w' => e = .returned (.tuple #[]) ∧ ∃ d' n os, PermIn 0 d.size d d' ∧ SortedIn (ltOf cmpF) 0 d.size d' ∧ w' = sortWorldK Fl.cells 3 w blk off n d' os := by
  have eg : ∀ args w, (callFunc 27 args).run Try.prog w = .ok (.enter 27 args) w := enters_of Try.func27 (by kernel_rfl) rfl
  exact AnyQ.slices_SortFunc sortF 3 Try.isAgg40 Try.sizeOf40 Fl.cells (fun _ => rfl) (fun x v hv => by simp [Fl.cells] at hv; rcases hv with rfl | rfl | rfl <;> rfl) cmpF swoF 27 #[] blk off cap d w eg (cmpLaysF blk off d.size w) hH hblk hsz
theorem sortsN : SortsN := sortsN_of fun g cap d w hH hg hn => (sortF_any g 0 cap d w hH hg hn).mono fun e w' ⟨he, d', n, os, hp, hs, hw⟩ => ⟨he, d', n, os, hp, hs, hw⟩
end Go.Proofs.Ythhacbelbkkcmaa

namespace Go.Proofs.Ythhacbelbkkcmaa
open Go.RowKit Go.Sort Go.Shelf Go.Lib
set_option linter.unusedVariables false
set_option linter.unusedSimpArgs false

theorem tcs_at : ∀ (ts : List (ByteArray × Int)) (j : Nat), j < ts.length * 2 → (tcs ts)[j]? = some ((tc (ts.toArray[j / 2]!))[j % 2]!)
  | [], j, h => by simp at h
  | t :: ts, 0, _ => by simp [tcs, tc]
  | t :: ts, 1, _ => by simp [tcs, tc]
  | t :: ts, j + 2, h => by
    have ih := tcs_at ts j (by simp at h; omega)
    have e : tcs (t :: ts) = tc t ++ tcs ts := rfl
    have e1 : (tcs (t :: ts))[j + 2]? = (tcs ts)[j]? := by rw [e]; simp [tc]
    have e2 : (j + 2) / 2 = j / 2 + 1 := by omega
    have e3 : (j + 2) % 2 = j % 2 := by omega
    rw [e1, ih, e2, e3]
    simp
theorem holdsT {w : World} {B g cap : Nat} {ts : List (ByteArray × Int)} (h : w.ownsRow B 57 2 (.slice (some ⟨g, 0, none⟩) ts.length cap) ts.length (tcs ts)) : HoldsK tc 2 w g 0 ts.toArray := by
  intro j hj
  have hj' : j < ts.length * 2 := by simpa using hj
  rw [Nat.zero_add]
  refine ⟨?_, h.frozenAt j⟩
  rw [h.cellAt j hj', tcs_at ts j hj', get_flatK _ _ _ _ (by simpa using hj')]
  rfl

theorem flat_tcs (ts : List (ByteArray × Int)) : (flatK tc 2 ts.toArray).toList = tcs ts := by
  apply List.ext_getElem?
  intro j
  by_cases hj : j < ts.length * 2
  · rw [tcs_at ts j hj, Array.getElem?_toList, ← get_flatK tc 2 ts.toArray j (by simpa using hj)]
    rw [getElem!_pos _ j (by simpa using hj)]
    exact Array.getElem?_eq_getElem (by simpa using hj)
  · rw [List.getElem?_eq_none (by simp; omega), List.getElem?_eq_none (by rw [tcs_len]; omega)]
theorem take_put (cur : Array Value) (F : Array Value) (h : F.size ≤ cur.size) : (putCells id 0 F cur).toList.take F.size = F.toList := by
  apply List.ext_getElem?
  intro j
  by_cases hj : j < F.size
  · rw [List.getElem?_take_of_lt hj, Array.getElem?_toList]
    simp [putCells, hj, show j < cur.size by omega]
  · rw [List.getElem?_take_eq_none (by omega), List.getElem?_eq_none (by simp; omega)]
theorem grown_sortedT {w : World} {g n : Nat} {os : Array Obj} (d : Array (ByteArray × Int)) : w.grownBy (sortWorldK tc 2 w g 0 n d os) (some g) := by
  refine ⟨rfl, rfl, rfl, by simp [sortWorldK, putRowK, Sort.ahead], fun k hk hne => ?_⟩
  unfold sortWorldK putRowK
  rw [heap_grow_old _ _ (by simpa [Sort.ahead] using hk)]
  have : g ≠ k := fun e => hne (by rw [e])
  simp [putRow, mapBlock, Sort.ahead, Array.getElem?_modify, this]
theorem own_sortedT {w : World} {base g cap n : Nat} {os : Array Obj} {ts ts' : List (ByteArray × Int)} (hl : ts'.length = ts.length) (h : w.ownsRow base 57 2 (.slice (some ⟨g, 0, none⟩) ts.length cap) ts.length (tcs ts)) :
    (sortWorldK tc 2 w g 0 n ts'.toArray os).ownsRow base 57 2 (.slice (some ⟨g, 0, none⟩) ts.length cap) ts'.length (tcs ts') := by
  rcases h.2 with ⟨h0, _⟩ | ⟨g', cap', cur, hv, hg, hb, hn, hcap, hs, ht⟩
  · cases h0
  cases hv
  have hlt : g < w.heap.size := (Array.getElem?_eq_some_iff.1 hb).1
  refine ⟨by rw [tcs_len], .inr ⟨g, cap, putCells id 0 (flatK tc 2 ts'.toArray) cur, by rw [hl], hg, ?_, by omega, hcap, by simp [putCells, hs], ?_⟩⟩
  · unfold sortWorldK putRowK
    rw [heap_grow_old _ _ (by simpa [Sort.ahead] using hlt)]
    simp [putRow, mapBlock, Sort.ahead, Array.getElem?_modify, hb, onCells]
  · have := take_put cur (flatK tc 2 ts'.toArray) (by simp [hs]; omega)
    rw [flat_tcs] at this
    simpa using this
end Go.Proofs.Ythhacbelbkkcmaa

namespace Go.Proofs.Ythhacbelbkkcmaa
open Go.RowKit
open Go.Sort (HoldsK PermIn SortedIn)
set_option linter.unusedVariables false
set_option linter.unusedSimpArgs false

theorem perm_in {d d' : Array (ByteArray × Int)} (h : PermIn 0 d.size d d') : d'.toList.Perm d.toList := by
  obtain ⟨hz, _, hp⟩ := h
  rw [Array.extract_eq_self_of_le (by omega), Array.extract_eq_self_of_le (by omega)] at hp
  exact hp
theorem sortsT_of (C : ∀ (g cap : Nat) (d : Array (ByteArray × Int)) (w : World), HoldsK tc 2 w g 0 d → g < w.heap.size → d.size < 4611686018427387904 →
    Calls Try.prog 47 #[.slice (some ⟨g, 0, none⟩) d.size cap, .func (.func 32) #[] #[]] w fun e w' => e = .returned (.tuple #[]) ∧ ∃ d' n os, PermIn 0 d.size d d' ∧ SortedIn (fun x y => sLt x.1 y.1) 0 d.size d' ∧ w' = sortWorldK tc 2 w g 0 n d' os) : SortsT := fun B g cap ts w hm h => by
  have hlt : g < w.heap.size := (h.lt g rfl).2
  have hn : ts.length < 4611686018427387904 := by omega
  have K := C g cap ts.toArray w (holdsT h) hlt (by simpa using hn)
  rw [show ts.toArray.size = ts.length by simp] at K
  refine K.mono ?_
  rintro e w' ⟨rfl, d', n, os, hp, hs, rfl⟩
  have hp' : PermIn 0 ts.toArray.size ts.toArray d' := by simpa using hp
  have q := perm_in hp'
  have hsz : d'.toList.length = ts.length := by simpa using q.length_eq
  refine ⟨rfl, d'.toList, by simpa using q, ?_, fun N h1 h2 => (Below.refl _ _).grown (grown_sortedT d') h2 (fun k e => by cases e; exact h1), ?_⟩
  · rw [List.pairwise_iff_getElem]
    intro i j hi hj hij
    have := hs i j (by omega) hij (by omega)
    rw [getElem!_pos d' i (by simpa using hi), getElem!_pos d' j (by simpa using hj)] at this
    simpa using this
  · have := own_sortedT (n := n) (os := os) (ts' := d'.toList) hsz h
    simpa using this
end Go.Proofs.Ythhacbelbkkcmaa

namespace Go.Proofs.Ythhacbelbkkcmaa
open Go.RowKit Go.Shelf Go.Lib Go.Sort
set_option linter.unusedVariables false
set_option linter.unusedSimpArgs false

shelf_lay_g SlLaysF0.n6 Slsf 6 at Try 47 as sortT

def cmpT (x y : ByteArray × Int) : Int := cmpS x.1 y.1
theorem ltT (x y : ByteArray × Int) : ltOf cmpT x y = sLt x.1 y.1 := by
  unfold ltOf cmpT
  cases h : sLt x.1 y.1 with
  | true => exact decide_eq_true (cmpS_lt.2 h)
  | false => exact decide_eq_false (fun c => by rw [cmpS_lt.1 c] at h; cases h)
theorem swoT : SWO (ltOf cmpT) where
  irrefl x := by rw [ltT]; exact sLt_irrefl _
  trans x y z h1 h2 := by rw [ltT] at *; exact sLt_trans h1 h2
  ntrans x y z h1 h2 := by rw [ltT] at *; exact sLt_ntrans h1 h2
theorem cmpLaysT (blk off size : Nat) (w : World) : CmpLays Try.prog 32 #[] tc 2 cmpT blk off size w :=
  fun m os dk hd x y => by
    refine (totOrder_any x.2 y.2 x.1 y.1 _).mono ?_
    rintro e w' ⟨rfl, rfl⟩
    exact ⟨rfl, 0, _, by rw [alloc_eq_grow, alloc_eq_grow, grow_grow]; rfl⟩
theorem sortT_any (blk off cap : Nat) (d : Array (ByteArray × Int)) (w : World) (hH : HoldsK tc 2 w blk off d) (hblk : blk < w.heap.size) (hsz : d.size < 4611686018427387904) :
    Calls Try.prog 47 #[.slice (some ⟨blk, off, none⟩) d.size cap, .func (.func 32) #[] #[]] w fun e w' => e = .returned (.tuple #[]) ∧ ∃ d' n os, PermIn 0 d.size d d' ∧ SortedIn (ltOf cmpT) 0 d.size d' ∧ w' = sortWorldK tc 2 w blk off n d' os := by
  have eg : ∀ args w, (callFunc 32 args).run Try.prog w = .ok (.enter 32 args) w := enters_of Try.func32 (by kernel_rfl) rfl
  exact AnyQ.slices_SortFunc sortT 2 Try.isAgg57 Try.sizeOf57 tc (fun _ => rfl) (fun x v hv => by simp [tc] at hv; rcases hv with rfl | rfl <;> rfl) cmpT swoT 32 #[] blk off cap d w eg (cmpLaysT blk off d.size w) hH hblk hsz

theorem sortsT : SortsT := sortsT_of fun g cap d w hH hg hn => (sortT_any g 0 cap d w hH hg hn).mono fun e w' ⟨he, d', n, os, hp, hs, hw⟩ => ⟨he, d', n, os, hp, fun i j h1 h2 h3 => (ltT _ _).symm.trans (hs i j h1 h2 h3), hw⟩
end Go.Proofs.Ythhacbelbkkcmaa
