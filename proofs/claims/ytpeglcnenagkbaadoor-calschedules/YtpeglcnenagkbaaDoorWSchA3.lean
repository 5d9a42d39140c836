/-
  WALK: adjustAll, with the row that it hands out.
-/
import Derived.Test.YtpeglcnenagkbaaDoorWSch3
import Derived.Laws.OwnMore
import Derived.Test.YtpeglcnenagkbaaDoorPlainSch3
import Derived.Laws.AppendOwn
import Derived.Laws.AppendOwnNone
import Derived.Maps.AppendAt
import Derived.Deep.AppendLies
namespace Go.Proofs.YtpeglcnenagkbaaDoor
open Go.RowKit
open Cal
set_option linter.unusedVariables false
set_option linter.unusedSimpArgs false

/-- A row of numbers that is one's own, in its block. -/
abbrev OwR (w : World) (B g n cap : Nat) (xs : List Int) : Prop := w.ownsRow B 3 1 (.slice (some ⟨g, 0, none⟩) n cap) n (xs.map (Value.int .i64))
theorem OwR.wi {w : World} {B g n cap : Nat} {xs : List Int} (h : OwR w B g n cap xs) (hx : xs.length = n) : Wi w g xs := by
  subst hx
  by_cases h0 : 0 < xs.length
  · obtain ⟨g', cap', e, _, _, hw⟩ := own_wi (v := .slice (some ⟨g, 0, none⟩) xs.length cap) h h0
    simp only [Value.slice.injEq, Option.some.injEq, Addr.mk.injEq, and_true, true_and] at e
    obtain ⟨rfl, rfl⟩ := e
    exact hw
  · refine ⟨?_, fun i hi => absurd hi (by omega)⟩
    rcases h.2 with ⟨q, _⟩ | ⟨g', cap', cur, q, _, hg, _⟩
    · simp at q
    · simp only [Value.slice.injEq, Option.some.injEq, Addr.mk.injEq, and_true, true_and] at q
      obtain ⟨rfl, rfl⟩ := q
      exact (Array.getElem?_eq_some_iff.1 hg).1
theorem OwR.base {w : World} {B g n cap : Nat} {xs : List Int} (h : OwR w B g n cap xs) : B ≤ g ∧ n ≤ cap := by
  rcases h.2 with ⟨q, _⟩ | ⟨g', cap', cur, q, hb, _, hc, _⟩
  · simp at q
  · simp only [Value.slice.injEq, Option.some.injEq, Addr.mk.injEq, and_true, true_and] at q
    obtain ⟨rfl, rfl⟩ := q
    exact ⟨hb, hc⟩
theorem OwR.set {w : World} {B g n cap : Nat} {xs : List Int} (h : OwR w B g n cap xs) (k : Nat) (r : Int) : OwR (w.setCell ⟨g, k, none⟩ (.int .i64 r)) B g n cap (xs.set k r) := by
  have := (World.ownsRow.stored h k (.int .i64 r)).1
  rwa [← List.map_set] at this
theorem OwR.bel {w w' : World} {B g n cap : Nat} {xs : List Int} (h : OwR w B g n cap xs) (b : Below w.heap.size w w') : OwR w' B g n cap xs :=
  World.ownsRow.kept h (row := none) ⟨b.os, b.tape, b.output, b.size, fun k hk _ => b.block k hk⟩ (Classical.em _)
theorem OwR.cells {B g n cap : Nat} : ∀ (vs : List Value) (o : Nat) {w : World} {xs : List Value}, w.ownsRow B 3 1 (.slice (some ⟨g, 0, none⟩) n cap) n xs → o + vs.length = xs.length → (w.setCells g o vs).ownsRow B 3 1 (.slice (some ⟨g, 0, none⟩) n cap) n (xs.take o ++ vs)
  | [], o, w, xs, h, hl => by
    rw [List.take_of_length_le (by simp at hl; omega), List.append_nil]; exact h
  | v :: vs, o, w, xs, h, hl => by
    have := OwR.cells vs (o + 1) ((World.ownsRow.stored h o v).1) (by simp at hl ⊢; omega)
    rw [World.setCells]
    have e : (xs.set o v).take (o + 1) ++ vs = xs.take o ++ (v :: vs) := by
      rw [List.take_set, List.take_add_one, List.getElem?_eq_getElem (show o < xs.length by simp at hl; omega)]
      simp only [Option.toList]
      rw [List.set_append_right _ _ (by simp; omega)]
      simp at hl
      rw [List.length_take, Nat.min_eq_left (by omega), Nat.sub_self]
      simp
    rwa [e] at this
theorem OwR.cut {w : World} {B g n cap k : Nat} {xs : List Int} (h : OwR w B g n cap xs) (hk : k ≤ n) : OwR w B g k cap (xs.take k) := by
  have l := h.1
  rcases h.2 with ⟨q, _⟩ | ⟨g', cap', cur, q, hb, hg, h1, h2, h3, h4⟩
  · simp at q
  · simp only [Value.slice.injEq, Option.some.injEq, Addr.mk.injEq, and_true, true_and] at q
    obtain ⟨rfl, rfl⟩ := q
    refine ⟨by simp at l ⊢; omega, .inr ⟨g, cap, cur, rfl, hb, hg, by omega, h2, h3, ?_⟩⟩
    have := congrArg (List.take k) h4
    rw [List.take_take, Nat.min_eq_left (by omega), ← List.map_take] at this
    simpa using this
/-- How adjustAll ends. -/
def AllO (B g cap : Nat) (conv : Int) (zs L : List Int) (e : Ending) (w' : World) : Prop :=
  (∃ rs, e = .returned (.tuple #[.slice (some ⟨g, 0, none⟩) (Lib.compact rs).length cap, .int .i64 0]) ∧ AdjL conv zs L rs ∧ OwR w' B g (Lib.compact rs).length cap (Lib.compact rs)) ∨
  (∃ x : Int, e = .returned (.tuple #[.slice none 0 0, .int .i64 x]) ∧ x ≠ 0 ∧ ∃ i r, i < L.length ∧ AdjIs (L.getD i 0) conv zs r x)
set_option maxHeartbeats 4000000 in
theorem adjustAll_own (g cap B : Nat) (conv : Int) (a : Option Addr) (c hcap : Nat) (zs L : List Int) (w : World) (hO : OwR w B g L.length cap L) (hn : L.length ≤ 200000) (hd : ∀ i, i < L.length → 0 ≤ L.getD i 0 ∧ L.getD i 0 < 109573) (hc : conv = 0 ∨ conv = 1 ∨ conv = 2 ∨ conv = 3) (hL : Ls w a c zs)
    (hT : ∀ W, Below B w W → Tz W) (hM : ∀ W, Below B w W → Mon W) :
    Calls Tryd.prog 35 #[.slice (some ⟨g, 0, none⟩) L.length cap, .int .i64 conv, .slice a c hcap] w fun e w' => AllO B g cap conv zs L e w' ∧ Below B w w' := by
  have hg := hO.base.1
  have hcp := hO.base.2
  have gl := (hO.wi rfl).1
  have KO := Lib.hid (open_whole a c hcap w zs hL)
  have HT := Lib.hid hT
  have HM := Lib.hid hM
  have HW := Lib.hid hO
  have HD := Lib.hid hd
  have HC := Lib.hid hc
  obtain ⟨n, hln⟩ : ∃ n, L.length = n := ⟨_, rfl⟩
  have LN := Lib.hid hln
  rw [hln] at hcp hn HD HW ⊢
  clear hT hM hO hd hc hL hln
  go_enter Tryd.func35, Tryd.ntmps35
  go_wp2_with fail
  go_at_call 26
  refine KO.out.mono ?_
  rintro e w1 ⟨ws, rfl, hwd, hwh, b1⟩
  obtain ⟨wa, hwa⟩ : ∃ wa, w1.alloc (.cells #[.int .i64 0, .slice (some ⟨w.heap.size + 1, 0, none⟩) 1713 1713] 58) = wa := ⟨_, rfl⟩
  have BA := Lib.hid (p := Below w1.heap.size w1 wa) (by rw [← hwa]; exact (Below.refl _ _).alloc (Nat.le_refl _) _)
  have XA := Lib.hid (p := wa.cell? ⟨w1.heap.size, 0, none⟩ = some (.int .i64 0) ∧ wa.cell? ⟨w1.heap.size, 1, none⟩ = some (.slice (some ⟨w.heap.size + 1, 0, none⟩) 1713 1713) ∧ wa.heap.size = w1.heap.size + 1) (by subst hwa; exact ⟨by go_simp, by go_simp, by simp⟩)
  have B1 := Lib.hid (p := Below w.heap.size w wa) (b1.trans (BA.out.mono b1.size))
  have WD := Lib.hid (p := Wd wa (w.heap.size + 1) ws) (wd_below BA.out hwd.1 BA.out.size hwd)
  have WH := Lib.hid hwh
  have S1 := Lib.hid (p := w.heap.size + 1 < w1.heap.size) hwd.1
  clear b1 hwd hwh
  go_wp2_with fail
  try simp only [hwa]
  clear hwa
  obtain ⟨sb, hsb⟩ : ∃ sb, w1.heap.size = sb := ⟨_, rfl⟩
  rw [hsb] at XA S1 ⊢
  have SB := Lib.hid hsb
  clear hsb
  go_loopw [16] (fun t wr => ∃ (k : Nat) (xs : List Int), k ≤ n ∧ t = .int .i64 (k : Int) ∧ xs.length = n ∧ RowKit.Hid (OwR wr B g n cap xs ∧ (∀ i, i < k → AdjIs (L.getD i 0) conv zs (xs.getD i 0) 0) ∧ (∀ i, k ≤ i → xs.getD i 0 = L.getD i 0)) ∧ RowKit.Hid (wr.cell? ⟨sb, 0, none⟩ = some (.int .i64 0) ∧ wr.cell? ⟨sb, 1, none⟩ = some (.slice (some ⟨w.heap.size + 1, 0, none⟩) 1713 1713) ∧ sb < wr.heap.size ∧ Wd wr (w.heap.size + 1) ws) ∧ Below B w wr) (fun t _ => n - (intOf t).toNat)
  case atStart => exact ⟨0, L, by omega, rfl, LN.out, ⟨HW.out.bel B1.out, fun i hi => absurd hi (by omega), fun i _ => rfl⟩, ⟨XA.out.1, XA.out.2.1, by have := XA.out.2.2; omega, WD.out⟩, B1.out.mono (by omega)⟩
  case round =>
    obtain ⟨k, xs, hk, rfl, hx, hX, hS, hB⟩ := hrel
    rename World => wr
    have BB := Lib.hid hB
    by_cases hlt : k < n
    · have c0 := hS.out.1
      have c1 := hS.out.2.1
      have c2 := ((hX.out.1.wi hx).2 k (by omega)).1
      rw [hX.out.2.2 k (Nat.le_refl _)] at c2
      obtain ⟨dy, hdy⟩ : ∃ dy : Nat, L.getD k 0 = (dy : Int) := ⟨(L.getD k 0).toNat, by have := HD.out k hlt; omega⟩
      have hdl : dy < 109573 := by have := HD.out k hlt; omega
      rw [hdy] at c2
      have HDY := Lib.hid hdy
      have KA := Lib.hid (fun W (p1 : Wd W (w.heap.size + 1) ws) (p2 : Tz W) (p3 : Mon W) => adjust_one dy conv (w.heap.size + 1) 1713 ws zs W p1 p2 p3 WH.out hdl HC.out)
      have kc : (k : Int) < (n : Int) := by omega
      have kwk : IntKind.i64.wrap ((k : Int) + 1) = (k : Int) + 1 := by simp [IntKind.wrap, IntKind.bits, IntKind.signed]; omega
      have BD := Lib.hid (p := Below B w wr.drew) (⟨hB.os, hB.tape, hB.output, hB.size, hB.block⟩)
      have WDD := Lib.hid (p := Wd wr.drew (w.heap.size + 1) ws) hS.out.2.2.2.draw
      clear hdy hB
      go_wp2_with fail
      go_region_held3 (fun w' => w'.cell? ⟨sb, 0, none⟩ = some (.int .i64 0) ∧ w'.cell? ⟨sb, 1, none⟩ = some (.slice (some ⟨w.heap.size + 1, 0, none⟩) 1713 1713) ∧ w'.cell? ⟨g, k, none⟩ = some (.int .i64 (dy : Int)))
        (refine ⟨?_, ?_, ?_⟩ <;> first | assumption | (go_simp; done))
        (first
        | (go_at_call 41; refine (KA.out _ WDD.out (HT.out _ BD.out) (HM.out _ BD.out)).mono ?_; rintro e w3 ⟨⟨r, x, rfl, hA⟩, b3⟩; have HA := Lib.hid hA; have B3 := Lib.hid (p := Below wr.heap.size wr w3) ⟨b3.os, b3.tape, b3.output, b3.size, b3.block⟩; have d0 := (b3.cell (p := ⟨sb, 0, none⟩) hS.out.2.2.1).trans c0; have d1 := (b3.cell (p := ⟨sb, 1, none⟩) hS.out.2.2.1).trans c1; have d2 := (b3.cell (p := ⟨g, k, none⟩) (hX.out.1.wi hx).1).trans c2; clear hA b3))
      have B4 := Lib.hid (p := Below B w w3) (BB.out.trans (B3.out.mono (Nat.le_trans (by omega) BB.out.size)))
      have W4 := Lib.hid (hX.out.1.bel B3.out)
      have S4 := Lib.hid (p := w3.cell? ⟨sb, 0, none⟩ = some (.int .i64 0) ∧ w3.cell? ⟨sb, 1, none⟩ = some (.slice (some ⟨w.heap.size + 1, 0, none⟩) 1713 1713) ∧ sb < w3.heap.size ∧ Wd w3 (w.heap.size + 1) ws) ⟨d0, d1, Nat.lt_of_lt_of_le hS.out.2.2.1 B3.out.size, wd_below B3.out hS.out.2.2.2.1 B3.out.size hS.out.2.2.2⟩
      have f2 := ((W4.out.wi hx).2 k (by omega)).2
      clear c0 c1 c2 d0 d1
      by_cases hx0 : x = 0
      · subst hx0
        go_wp2
        go_roundw
        case rel => exact ⟨k + 1, xs.set k r, by omega, by first | rfl | simp, by simpa using hx, ⟨W4.out.set k r, fun i hi => by
            by_cases e : i = k
            · subst e
              rw [getD_set' _ _ _ _ (by omega), if_pos rfl, HDY.out]; exact HA.out
            · rw [getD_set' _ _ _ _ (by omega), if_neg (by omega)]; exact hX.out.2.1 i (by omega), fun i hi => by
            rw [getD_set' _ _ _ _ (by omega), if_neg (by omega)]; exact hX.out.2.2 i (by omega)⟩,
          ⟨(World.cell?_setCell_other _ _ _ _ (by simp; have := S1.out; omega)).trans S4.out.1, (World.cell?_setCell_other _ _ _ _ (by simp; have := S1.out; omega)).trans S4.out.2.1, by simpa using S4.out.2.2.1, S4.out.2.2.2.other g k (by omega) _⟩, B4.out.setCell (p := ⟨g, k, none⟩) hg _⟩
        case measure => simp [intOf]; omega
      · have g1 : (x != 0) = true := by simpa using hx0
        go_wp2
        go_ret2
        exact ⟨.inr ⟨x, rfl, hx0, k, r, by rw [LN.out]; exact hlt, by rw [HDY.out]; exact HA.out⟩, B4.out⟩
    · obtain rfl : k = n := by omega
      have kc : ¬ (k : Int) < (k : Int) := by omega
      have KC := Lib.hid (Tryd.slices_Compact_int_cells g 0 k cap xs wr (by omega) (by omega) hcp (fun j hj => by rw [Nat.zero_add]; exact ((hX.out.1.wi hx).2 j hj).1) (fun j hj => by rw [Nat.zero_add]; exact ((hX.out.1.wi hx).2 j (by omega)).2))
      rw [List.take_of_length_le (by omega)] at KC
      clear hB
      go_wp2_with fail
      go_at_call 51
      refine KC.out.mono ?_
      rintro e w6 ⟨rfl, q, hw6⟩
      have hcl : (Lib.compact xs).length ≤ k := by
        have h1 : (Lib.compact xs).length ≤ xs.length := by
          unfold Lib.compact Lib.compactUpTo
          simp only [List.length_map]
          exact Nat.le_trans (List.length_filter_le _ _) (by simp)
        omega
      have R6 := Lib.hid (p := OwR w6 B g (Lib.compact xs).length cap (Lib.compact xs) ∧ Below B w w6) (by
        rw [hw6]
        refine ⟨?_, below_setCells hg _ _ (below_drN BB.out q)⟩
        have hd : OwR (wr.drewN q) B g k cap xs := hX.out.1.bel ⟨rfl, rfl, rfl, Nat.le_refl _, fun _ _ => rfl⟩
        have o2 := OwR.cells (((Lib.compact xs ++ List.replicate (k - (Lib.compact xs).length) 0).map (Value.int .i64))) 0 hd (by simp; omega)
        rw [List.take_zero, List.nil_append] at o2
        have o3 : OwR _ B g (Lib.compact xs).length cap ((Lib.compact xs ++ List.replicate (k - (Lib.compact xs).length) 0).take (Lib.compact xs).length) := OwR.cut (xs := Lib.compact xs ++ List.replicate (k - (Lib.compact xs).length) 0) o2 hcl
        rwa [List.take_left] at o3)
      have HL := Lib.hid (p := AdjL conv zs L xs) ⟨by rw [hx, LN.out], fun i hi => hX.out.2.1 i (by have := LN.out; omega)⟩
      clear hw6
      go_wp2
      go_ret2
      exact ⟨.inl ⟨xs, rfl, HL.out, R6.out.1⟩, R6.out.2⟩
end Go.Proofs.YtpeglcnenagkbaaDoor

namespace Go.Proofs.YtpeglcnenagkbaaDoor
open Go.RowKit
set_option linter.unusedVariables false
set_option linter.unusedSimpArgs false

def ics (xs : List Int) : List Value := xs.map (Value.int .i64)
theorem ics_len (xs : List Int) : (ics xs).length = xs.length := by simp [ics]
theorem ics_app (xs ys : List Int) : ics (xs ++ ys) = ics xs ++ ics ys := by simp [ics]
/-- The row v of n numbers xs, one's own. -/
abbrev OwI (w : World) (B : Nat) (v : Value) (n : Nat) (xs : List Int) : Prop := w.ownsRow B 3 1 v n (ics xs)

/-- An append leaves the row as it was, seen through the old slice. -/
theorem append_keeps {w : World} (base : Nat) (t ty e : TypeId) (i : TypeInfo) (z : Value) (size bytes : Nat) (ht : Tryd.prog.underlying t = some (.slice e)) (hi : Tryd.prog.info? e = some i) (hz : i.zero = some z)
    (hsize : i.size = size) (hby : i.bytes = bytes) (hzs : z.cells.size = size) (hsz : 0 < size)
    (v : Value) (n : Nat) (xs : List Value) (hown : w.ownsRow base e size v n xs)
    (a : Addr) (m c : Nat) (news : List Value) (hl : news.length = m * size) (hnews : ∀ j u, news[j]? = some u → w.cell? (a.add j) = some u) (h1 : ∀ u ∈ news, u.oneCell' = true)
    (h63 : n + m ≤ maxLen) (hbytes : (n + m) * bytes ≤ 140737488355328) (hbase : base ≤ w.heap.size) (v' : Value) (w' : World)
    (hr : (Builtin.append_ #[t, t] ty #[v, .slice (some a) m c]).run Tryd.prog w = .ok v' w') : w'.ownsRow base e size v n xs := by
  subst hsize
  subst hby
  have hsmall : n + m ≤ 9223372036854775807 := by simp only [maxLen] at h63; omega
  rcases hown.2 with ⟨rfl, rfl⟩ | ⟨g, cap, cur, rfl, hbg, hg, hnc, hcm, hcs, htake⟩
  · exact ⟨hown.1, .inl ⟨rfl, rfl⟩⟩
  · by_cases hroom : n + m ≤ cap
    · have hfit : n * i.size + news.length ≤ cur.size := by rw [hl, hcs, ← Nat.add_mul]; exact Nat.mul_le_mul_right _ hroom
      rw [run_append_room (P := Tryd.prog) w t ty e i ht hi g n cap cur hg a m c news hl hnews h1 hroom hfit] at hr
      injection hr with hr1 hr2
      subst hr2
      refine ⟨hown.1, .inr ⟨g, cap, _, rfl, hbg, setRow_heap w g cur _ e _ hg, hnc, hcm, ?_, ?_⟩⟩
      · simp only [List.size_toArray, List.length_append, List.length_take, List.length_drop, Array.length_toList]
        omega
      · simp only [List.append_assoc]
        rw [htake, ← hown.1]
        exact List.take_left
    · have holds : ∀ j u, xs[j]? = some u → w.cell? ((⟨g, 0, none⟩ : Addr).add j) = some u := hown.cells (g := g) rfl
      rw [run_append_grow (P := Tryd.prog) w t ty e i z ht hi hz ⟨g, 0, none⟩ n cap xs hown.1 holds a m c news hl hnews (by omega) (by omega) (growslice_fits (by omega) hbytes)] at hr
      injection hr with hr1 hr2
      subst hr2
      exact hown.kept (row := none) ⟨rfl, rfl, rfl, by simp, fun k hk _ => Below.heap_alloc w.drew _ k hk⟩ (by simp [Value.ownBlock])

/-- v' is the row v grown (in its memory, or in memory that is new). -/
structure Ext (B : Nat) (w : World) (v : Value) (n : Nat) (xs : List Int) (w' : World) (v' : Value) (m : Nat) (ys : List Int) : Prop where
  own : OwI w' B v' m ys
  grown : w.grownBy w' v.ownBlock
  old : OwI w' B v n xs
  at_ : v'.ownBlock = v.ownBlock ∨ ∃ g, v'.ownBlock = some g ∧ w.heap.size ≤ g
  lt : ∀ k, v.ownBlock = some k → B ≤ k ∧ k < w.heap.size
theorem Ext.start {B : Nat} {w : World} {v : Value} {n : Nat} {xs : List Int} (h : OwI w B v n xs) : Ext B w v n xs w v n xs :=
  ⟨h, ⟨rfl, rfl, rfl, Nat.le_refl _, fun _ _ _ => rfl⟩, h, .inl rfl, h.lt⟩
theorem own_shrinkI {w : World} {B g m cap n : Nat} {xs ys : List Int} (h : OwI w B (.slice (some ⟨g, 0, none⟩) m cap) m (xs ++ ys)) (hn : xs.length = n) : OwI w B (.slice (some ⟨g, 0, none⟩) n cap) n xs := by
  obtain ⟨h1, h2⟩ := h
  rcases h2 with ⟨h2, _⟩ | ⟨g', cap', cur, h2, hB, hg, hnc, hm, hs, ht⟩
  · cases h2
  · injection h2 with h2 _ h3
    injection h2 with h2
    injection h2 with h2
    subst h2 h3
    have hl : m = n + ys.length := by rw [ics_len] at h1; simp at h1; omega
    refine ⟨by rw [ics_len]; omega, .inr ⟨g, cap, cur, rfl, hB, hg, by omega, hm, hs, ?_⟩⟩
    have : (cur.toList.take (m * 1)).take n = ics xs := by rw [ht, ics_app, ← hn, ← ics_len xs]; exact List.take_left
    rw [List.take_take, show min n (m * 1) = n by omega] at this
    rw [Nat.mul_one]; exact this

/-- One step more. -/
theorem Ext.step {B : Nat} {w : World} {v : Value} {n : Nat} {xs : List Int} {w1 : World} {v1 : Value} {m : Nat} {ys : List Int} {w2 : World} {v2 : Value} {m2 : Nat} {zs : List Int}
    (h : Ext B w v n xs w1 v1 m (xs ++ ys)) (k : Ext B w1 v1 m (xs ++ ys) w2 v2 m2 (xs ++ ys ++ zs)) : Ext B w v n xs w2 v2 m2 (xs ++ ys ++ zs) := by
  obtain ⟨a1, a2, a3, a4, a5⟩ := h
  obtain ⟨b1, b2, b3, b4, b5⟩ := k
  have hx : xs.length = n := by have := a3.1; rw [ics_len] at this; omega
  refine ⟨b1, ⟨b2.os.trans a2.os, b2.tape.trans a2.tape, b2.output.trans a2.output, Nat.le_trans a2.size b2.size, fun k hk hr => ?_⟩, ?_, ?_, a5⟩
  · rw [b2.block k (Nat.lt_of_lt_of_le hk a2.size) ?_, a2.block k hk hr]
    rcases a4 with a4 | ⟨g, a4, hg⟩
    · rw [a4]; exact hr
    · rw [a4]; intro e; injection e with e; omega
  · rcases a4 with a4 | ⟨g, a4, hg⟩
    · rcases a3.2 with ⟨hv, h0⟩ | ⟨g, cap, cur, rfl, hB, hgg, hnc, hm, hs, ht⟩
      · exact ⟨a3.1, .inl ⟨hv, h0⟩⟩
      · rcases a1.2 with ⟨rfl, _⟩ | ⟨g', cap', cur', rfl, hB', hgg', hnc', hm', hs', ht'⟩
        · simp [Value.ownBlock] at a4
        · simp [Value.ownBlock] at a4
          subst a4
          rw [hgg] at hgg'
          injection hgg' with hgg'
          injection hgg' with hcur
          subst hcur
          have : cap = cap' := by omega
          subst this
          exact own_shrinkI b3 hx
    · refine a3.kept b2 ?_
      rcases hv : v.ownBlock with _ | q
      · exact .inl rfl
      · right
        rw [a4]
        intro e
        injection e with e
        have := (a5 q hv).2
        omega
  · rcases b4 with b4 | ⟨g, b4, hg⟩
    · rw [b4]; exact a4
    · exact .inr ⟨g, b4, Nat.le_trans a2.size hg⟩
theorem Ext.below {B : Nat} {w w' : World} {v v' : Value} {n m : Nat} {xs ys : List Int} (h : Ext B w v n xs w' v' m ys) (hB : B ≤ w.heap.size) : Below B w w' :=
  (Below.refl B w).grown h.grown hB (fun k e => (h.lt k e).1)

/-- An append of one byte. -/
theorem wp_intK {ops : Array Oper} {rest : List Oper} {o : Oper} {a : Act} {Q : Exit → Act → World → Prop} (w : World) (c : Int) (hgd : o.guard = none) (s x : Operand)
    (ho : o.op = .call { callee := .builtin .append, args := #[s, x], argTypes := #[22, 22] }) (B : Nat) (v : Value) (n : Nat) (xs : List Int) (hs : a.eval s = v)
    (hx : a.eval x = .slice (some ⟨w.heap.size, 0, none⟩) 1 1) (hown : OwI w B v n xs) (hl : n ≤ 10000000000000) (hb : B ≤ w.heap.size)
    (h : ∀ v' w', Ext B w v n xs w' v' (n + 1) (xs ++ [c]) → wpList Tryd.prog ops Q rest (a.put o.dst v') w') :
    wpList Tryd.prog ops Q (o :: rest) a (w.alloc (.cells #[.int .i64 c] 3)) := by
  obtain ⟨i0, hi, hz0, hz1, hz2⟩ := info_parts infoInt
  have o1 : (w.alloc (.cells #[.int .i64 c] 3)).ownsRow B 3 1 v n (ics xs) := hown.alloc _
  have hnews : ∀ j u, [Value.int .i64 c][j]? = some u → (w.alloc (.cells #[.int .i64 c] 3)).cell? ((⟨w.heap.size, 0, none⟩ : Addr).add j) = some u := by
    intro j u hj
    match j, hj with
    | 0, hj => simp at hj; subst hj; simp [Addr.add]
  have h1 : ∀ u ∈ [Value.int .i64 c], u.oneCell' = true := by intro u hu; simp at hu; subst hu; rfl
  have hB' : B ≤ (w.alloc (.cells #[.int .i64 c] 3)).heap.size := Nat.le_trans hb (by simp)
  obtain ⟨v', w', hr, h2, h3, h4, h5⟩ := run_append_own_at (P := Tryd.prog) (w.alloc (.cells #[.int .i64 c] 3)) B 22 o.type 3 i0 (.int .i64 0) 1 8 Tryd.underlying22 hi hz0 hz1 hz2 rfl (by decide) v n (ics xs) o1 ⟨w.heap.size, 0, none⟩ 1 1 [.int .i64 c] rfl hnews h1 (by unfold maxLen; omega) (by omega) hB'
  have hk := append_keeps (w := w.alloc (.cells #[.int .i64 c] 3)) B 22 o.type 3 i0 (.int .i64 0) 1 8 Tryd.underlying22 hi hz0 hz1 hz2 rfl (by decide) v n (ics xs) o1 ⟨w.heap.size, 0, none⟩ 1 1 [.int .i64 c] rfl hnews h1 (by unfold maxLen; omega) (by omega) hB' v' w' hr
  have E : Ext B w v n xs w' v' (n + 1) (xs ++ [c]) := by
    refine ⟨by show w'.ownsRow _ _ _ _ _ (ics (xs ++ [c])); rw [ics_app]; exact h2, ⟨h3.os, h3.tape, h3.output, Nat.le_trans (by simp) h3.size, fun k hk hr => ?_⟩, hk, ?_, hown.lt⟩
    · rw [h3.block k (Nat.lt_of_lt_of_le hk (by simp)) hr]
      exact Below.heap_alloc w _ k hk
    · rcases h5 with h5 | h5
      · exact .inl h5
      · exact .inr ⟨_, h5, by simp⟩
  refine wpList_plain hgd fun K hK => ?_
  unfold Oper.wp execOp
  simp only [ho, resolve, invoke, builtin, Sem.run_bind, Sem.run_pure, Result.andThen_ok, List.map_toArray, List.map_cons, List.map_nil, hs, hx, hr]
  exact hK _ _ (h v' w' E)

end Go.Proofs.YtpeglcnenagkbaaDoor
