/-
  WALK: adjustAll.
-/
import Derived.Test.YtpeglcnenagkbaaDoorWSch1
import Derived.Test.YtpeglcnenagkbaaDoorWAdjust3
import Derived.Deep.RegionHeld3
import Derived.Laws.IdiomCopy
namespace Go.Proofs.YtpeglcnenagkbaaDoor
open Go.RowKit
open Cal
set_option linter.unusedVariables false
set_option linter.unusedSimpArgs false

theorem own_wi {w : World} {B : Nat} {v : Value} {L : List Int} (h : OwnD w B v L) (h0 : 0 < L.length) : ∃ g cap, v = .slice (some ⟨g, 0, none⟩) L.length cap ∧ B ≤ g ∧ L.length ≤ cap ∧ Wi w g L := by
  rcases h.2 with ⟨_, q⟩ | ⟨g, cap, cur, rfl, hb, hg, h1, h2, h3, h4⟩
  · omega
  · refine ⟨g, cap, rfl, hb, h1, (Array.getElem?_eq_some_iff.1 hg).1, fun i hi => ⟨?_, by simp [World.frozen?, hg]⟩⟩
    have e : cur.toList[i]? = some (.int .i64 (L.getD i 0)) := by
      have := congrArg (fun l => l[i]?) h4
      simp only [Nat.mul_one, List.getElem?_take, if_pos hi, List.getElem?_map, List.getElem?_eq_getElem hi, Option.map_some] at this
      rw [this]
      simp only [List.getD, List.getElem?_eq_getElem hi, Option.getD_some]
    rw [Array.getElem?_toList] at e
    simp [World.cell?, hg, e]
theorem below_setCells {B g : Nat} {w : World} (hB : B ≤ g) : ∀ (vs : List Value) (o : Nat) {W : World}, Below B w W → Below B w (W.setCells g o vs)
  | [], _, _, h => h
  | v :: vs, o, _, h => below_setCells hB vs (o + 1) (h.setCell (p := ⟨g, o, none⟩) hB v)
theorem below_drN {B : Nat} {a w : World} (h : Below B a w) (q : Nat) : Below B a (w.drewN q) := ⟨h.os, h.tape, h.output, h.size, h.block⟩
/-- Each day adjusted. -/
def AdjL (conv : Int) (zs L rs : List Int) : Prop := rs.length = L.length ∧ ∀ i, i < L.length → AdjIs (L.getD i 0) conv zs (rs.getD i 0) 0
/-- How adjustAll ends. -/
def AllE (g cap : Nat) (conv : Int) (zs L : List Int) (e : Ending) (w' : World) : Prop :=
  (∃ rs, e = .returned (.tuple #[.slice (some ⟨g, 0, none⟩) (Lib.compact rs).length cap, .int .i64 0]) ∧ AdjL conv zs L rs ∧ Ls w' (some ⟨g, 0, none⟩) (Lib.compact rs).length (Lib.compact rs)) ∨
  (∃ x : Int, e = .returned (.tuple #[.slice none 0 0, .int .i64 x]) ∧ x ≠ 0 ∧ ∃ i r, i < L.length ∧ AdjIs (L.getD i 0) conv zs r x)
set_option maxHeartbeats 4000000 in
theorem adjustAll_any (g cap B : Nat) (conv : Int) (a : Option Addr) (c hcap : Nat) (zs L : List Int) (w : World) (hg : B ≤ g) (hW : Wi w g L) (hcp : L.length ≤ cap) (hn : L.length ≤ 200000) (hd : ∀ i, i < L.length → 0 ≤ L.getD i 0 ∧ L.getD i 0 < 109573) (hc : conv = 0 ∨ conv = 1 ∨ conv = 2 ∨ conv = 3) (hL : Ls w a c zs)
    (hT : ∀ W, Below B w W → Tz W) (hM : ∀ W, Below B w W → Mon W) :
    Calls Tryd.prog 35 #[.slice (some ⟨g, 0, none⟩) L.length cap, .int .i64 conv, .slice a c hcap] w fun e w' => AllE g cap conv zs L e w' ∧ Below B w w' := by
  have gl := hW.1
  have KO := Lib.hid (open_whole a c hcap w zs hL)
  have HT := Lib.hid hT
  have HM := Lib.hid hM
  have HW := Lib.hid hW
  have HD := Lib.hid hd
  have HC := Lib.hid hc
  obtain ⟨n, hln⟩ : ∃ n, L.length = n := ⟨_, rfl⟩
  have LN := Lib.hid hln
  rw [hln] at hcp hn HD ⊢
  clear hT hM hW hd hc hL hln
  go_enter Tryd.func35, Tryd.ntmps35
  go_wp2_with fail
  go_at_call 26
  refine KO.out.mono ?_
  rintro e w1 ⟨ws, rfl, hwd, hwh, b1⟩
  obtain ⟨wa, hwa⟩ : ∃ wa, w1.alloc (.cells #[.int .i64 0, .slice (some ⟨w.heap.size + 1, 0, none⟩) 1713 1713] 58) = wa := ⟨_, rfl⟩
  have BA := Lib.hid (p := Below w1.heap.size w1 wa) (by rw [← hwa]; exact (Below.refl _ _).alloc (Nat.le_refl _) _)
  have XA := Lib.hid (p := wa.cell? ⟨w1.heap.size, 0, none⟩ = some (.int .i64 0) ∧ wa.cell? ⟨w1.heap.size, 1, none⟩ = some (.slice (some ⟨w.heap.size + 1, 0, none⟩) 1713 1713) ∧ wa.heap.size = w1.heap.size + 1) (by subst hwa; exact ⟨by go_simp, by go_simp, by simp⟩)
  have B1 := Lib.hid (p := Below w.heap.size w wa) (b1.trans (BA.out.mono b1.size))
  have WD := Lib.hid (p := Wd wa (w.heap.size + 1) ws) (wd_below BA.out hwd.1 BA.out.size hwd)
  have WH := Lib.hid hwh
  have S1 := Lib.hid (p := w.heap.size + 1 < w1.heap.size) hwd.1
  clear b1 hwd hwh
  go_wp2_with fail
  try simp only [hwa]
  clear hwa
  obtain ⟨sb, hsb⟩ : ∃ sb, w1.heap.size = sb := ⟨_, rfl⟩
  rw [hsb] at XA S1 ⊢
  have SB := Lib.hid hsb
  clear hsb
  go_loopw [16] (fun t wr => ∃ (k : Nat) (xs : List Int), k ≤ n ∧ t = .int .i64 (k : Int) ∧ xs.length = n ∧ RowKit.Hid (Wi wr g xs ∧ (∀ i, i < k → AdjIs (L.getD i 0) conv zs (xs.getD i 0) 0) ∧ (∀ i, k ≤ i → xs.getD i 0 = L.getD i 0)) ∧ RowKit.Hid (wr.cell? ⟨sb, 0, none⟩ = some (.int .i64 0) ∧ wr.cell? ⟨sb, 1, none⟩ = some (.slice (some ⟨w.heap.size + 1, 0, none⟩) 1713 1713) ∧ sb < wr.heap.size ∧ Wd wr (w.heap.size + 1) ws) ∧ Below B w wr) (fun t _ => n - (intOf t).toNat)
  case atStart => exact ⟨0, L, by omega, rfl, LN.out, ⟨HW.out.later B1.out, fun i hi => absurd hi (by omega), fun i _ => rfl⟩, ⟨XA.out.1, XA.out.2.1, by have := XA.out.2.2; omega, WD.out⟩, B1.out.mono (by omega)⟩
  case round =>
    obtain ⟨k, xs, hk, rfl, hx, hX, hS, hB⟩ := hrel
    rename World => wr
    have BB := Lib.hid hB
    by_cases hlt : k < n
    · have c0 := hS.out.1
      have c1 := hS.out.2.1
      have c2 := (hX.out.1.2 k (by omega)).1
      rw [hX.out.2.2 k (Nat.le_refl _)] at c2
      obtain ⟨dy, hdy⟩ : ∃ dy : Nat, L.getD k 0 = (dy : Int) := ⟨(L.getD k 0).toNat, by have := HD.out k hlt; omega⟩
      have hdl : dy < 109573 := by have := HD.out k hlt; omega
      rw [hdy] at c2
      have HDY := Lib.hid hdy
      have KA := Lib.hid (fun W (p1 : Wd W (w.heap.size + 1) ws) (p2 : Tz W) (p3 : Mon W) => adjust_one dy conv (w.heap.size + 1) 1713 ws zs W p1 p2 p3 WH.out hdl HC.out)
      have kc : (k : Int) < (n : Int) := by omega
      have kwk : IntKind.i64.wrap ((k : Int) + 1) = (k : Int) + 1 := by simp [IntKind.wrap, IntKind.bits, IntKind.signed]; omega
      have BD := Lib.hid (p := Below B w wr.drew) (⟨hB.os, hB.tape, hB.output, hB.size, hB.block⟩)
      have WDD := Lib.hid (p := Wd wr.drew (w.heap.size + 1) ws) hS.out.2.2.2.draw
      clear hdy hB
      go_wp2_with fail
      go_region_held3 (fun w' => w'.cell? ⟨sb, 0, none⟩ = some (.int .i64 0) ∧ w'.cell? ⟨sb, 1, none⟩ = some (.slice (some ⟨w.heap.size + 1, 0, none⟩) 1713 1713) ∧ w'.cell? ⟨g, k, none⟩ = some (.int .i64 (dy : Int)))
        (refine ⟨?_, ?_, ?_⟩ <;> first | assumption | (go_simp; done))
        (first
        | (go_at_call 41; refine (KA.out _ WDD.out (HT.out _ BD.out) (HM.out _ BD.out)).mono ?_; rintro e w3 ⟨⟨r, x, rfl, hA⟩, b3⟩; have HA := Lib.hid hA; have B3 := Lib.hid (p := Below wr.heap.size wr w3) ⟨b3.os, b3.tape, b3.output, b3.size, b3.block⟩; have d0 := (b3.cell (p := ⟨sb, 0, none⟩) hS.out.2.2.1).trans c0; have d1 := (b3.cell (p := ⟨sb, 1, none⟩) hS.out.2.2.1).trans c1; have d2 := (b3.cell (p := ⟨g, k, none⟩) hX.out.1.1).trans c2; clear hA b3))
      have B4 := Lib.hid (p := Below B w w3) (BB.out.trans (B3.out.mono (Nat.le_trans (by omega) BB.out.size)))
      have W4 := Lib.hid (hX.out.1.later B3.out)
      have S4 := Lib.hid (p := w3.cell? ⟨sb, 0, none⟩ = some (.int .i64 0) ∧ w3.cell? ⟨sb, 1, none⟩ = some (.slice (some ⟨w.heap.size + 1, 0, none⟩) 1713 1713) ∧ sb < w3.heap.size ∧ Wd w3 (w.heap.size + 1) ws) ⟨d0, d1, Nat.lt_of_lt_of_le hS.out.2.2.1 B3.out.size, wd_below B3.out hS.out.2.2.2.1 B3.out.size hS.out.2.2.2⟩
      have f2 := (W4.out.2 k (by omega)).2
      clear c0 c1 c2 d0 d1
      by_cases hx0 : x = 0
      · subst hx0
        go_wp2
        go_roundw
        case rel => exact ⟨k + 1, xs.set k r, by omega, by first | rfl | simp, by simpa using hx, ⟨W4.out.set k r (by omega), fun i hi => by
            by_cases e : i = k
            · subst e
              rw [getD_set' _ _ _ _ (by omega), if_pos rfl, HDY.out]; exact HA.out
            · rw [getD_set' _ _ _ _ (by omega), if_neg (by omega)]; exact hX.out.2.1 i (by omega), fun i hi => by
            rw [getD_set' _ _ _ _ (by omega), if_neg (by omega)]; exact hX.out.2.2 i (by omega)⟩,
          ⟨(World.cell?_setCell_other _ _ _ _ (by simp; have := S1.out; omega)).trans S4.out.1, (World.cell?_setCell_other _ _ _ _ (by simp; have := S1.out; omega)).trans S4.out.2.1, by simpa using S4.out.2.2.1, S4.out.2.2.2.other g k (by omega) _⟩, B4.out.setCell (p := ⟨g, k, none⟩) hg _⟩
        case measure => simp [intOf]; omega
      · have g1 : (x != 0) = true := by simpa using hx0
        go_wp2
        go_ret2
        exact ⟨.inr ⟨x, rfl, hx0, k, r, by rw [LN.out]; exact hlt, by rw [HDY.out]; exact HA.out⟩, B4.out⟩
    · obtain rfl : k = n := by omega
      have kc : ¬ (k : Int) < (k : Int) := by omega
      have KC := Lib.hid (Tryd.slices_Compact_int_cells g 0 k cap xs wr (by omega) (by omega) hcp (fun j hj => by rw [Nat.zero_add]; exact (hX.out.1.2 j hj).1) (fun j hj => by rw [Nat.zero_add]; exact (hX.out.1.2 j (by omega)).2))
      rw [List.take_of_length_le (by omega)] at KC
      clear hB
      go_wp2_with fail
      go_at_call 51
      refine KC.out.mono ?_
      rintro e w6 ⟨rfl, q, hw6⟩
      have hcl : (Lib.compact xs).length ≤ k := by
        have h1 : (Lib.compact xs).length ≤ xs.length := by
          unfold Lib.compact Lib.compactUpTo
          simp only [List.length_map]
          exact Nat.le_trans (List.length_filter_le _ _) (by simp)
        omega
      have R6 := Lib.hid (p := Ls w6 (some ⟨g, 0, none⟩) (Lib.compact xs).length (Lib.compact xs) ∧ Below B w w6) (by
        rw [hw6]
        refine ⟨⟨rfl, by omega, .inr ⟨g, 0, rfl, ?_, fun i hi => ?_⟩⟩, below_setCells hg _ _ (below_drN BB.out q)⟩
        · have := (below_setCells (B := 0) (g := g) (Nat.zero_le _) ((Lib.compact xs ++ List.replicate (k - (Lib.compact xs).length) 0).map (Value.int .i64)) 0 (Below.refl 0 (wr.drewN q))).size
          exact Nat.lt_of_lt_of_le hX.out.1.1 this
        · have hj : i < ((Lib.compact xs ++ List.replicate (k - (Lib.compact xs).length) 0).map (Value.int .i64)).length := by simp; omega
          have := World.cell?_setCells_in g ((Lib.compact xs ++ List.replicate (k - (Lib.compact xs).length) 0).map (Value.int .i64)) 0 (wr.drewN q) (fun j hj => by
            simp at hj
            have c := (hX.out.1.2 j (by omega)).1
            rw [Nat.zero_add]
            show (wr.cell? ⟨g, j, none⟩).isSome = true
            rw [c]; rfl) i hj
          rw [this]
          simp only [List.getElem_map, List.getD]
          rw [List.getElem_append_left hi, List.getElem?_eq_getElem hi]
          rfl)
      have HL := Lib.hid (p := AdjL conv zs L xs) ⟨by rw [hx, LN.out], fun i hi => hX.out.2.1 i (by have := LN.out; omega)⟩
      clear hw6
      go_wp2
      go_ret2
      exact ⟨.inl ⟨xs, rfl, HL.out, R6.out.1⟩, R6.out.2⟩
end Go.Proofs.YtpeglcnenagkbaaDoor
