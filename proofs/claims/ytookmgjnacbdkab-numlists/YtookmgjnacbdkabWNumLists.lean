/-
  WALK: NumLists.
-/
import Derived.Test.YtookmgjnacbdkabWRefSum
import Derived.Test.YtookmgjnacbdkabWRefTimes
import Derived.Laws.CopyOwn
namespace Go.Proofs.Ytookmgjnacbdkab
open Go.RowKit
set_option linter.unusedVariables false

/-- A row of the call's own, of N numbers, at the head of block g. -/
structure IRow (wr : World) (g N : Nat) (xs : List Int) : Prop where
  len : xs.length = N
  own : wr.ownsRow g 3 1 (.slice (some ⟨g, 0, none⟩) N N) N (xs.map (Value.int .i64))
theorem IRow.cell {wr : World} {g N : Nat} {xs : List Int} (h : IRow wr g N xs) (j : Nat) (hj : j < N) : wr.cell? ⟨g, j, none⟩ = some (.int .i64 (xs.getD j 0)) := own_cell h.own h.len j hj
theorem IRow.frozen {wr : World} {g N : Nat} {xs : List Int} (h : IRow wr g N xs) (j : Nat) : wr.frozen? ⟨g, j, none⟩ = false := h.own.frozenAt j
theorem IRow.lt {wr : World} {g N : Nat} {xs : List Int} (h : IRow wr g N xs) : g < wr.heap.size := (h.own.lt g rfl).2
theorem IRow.set {wr : World} {g N : Nat} {xs : List Int} (h : IRow wr g N xs) (j : Nat) (d : Int) : IRow (wr.setCell ⟨g, j, none⟩ (.int .i64 d)) g N (xs.set j d) := ⟨by simp [h.len], own_set h.own j d⟩
theorem IRow.other {wr : World} {g N k j : Nat} {xs : List Int} (h : IRow wr g N xs) (hk : ¬ k = g) (u : Value) : IRow (wr.setCell ⟨k, j, none⟩ u) g N xs := by
  refine ⟨h.len, ?_⟩
  refine ⟨h.own.1, ?_⟩
  rcases h.own.2 with h0 | ⟨g', cap, cur, hv, hg, hh, rest⟩
  · exact Or.inl h0
  · refine Or.inr ⟨g', cap, cur, hv, hg, ?_, rest⟩
    injection hv with e1 e2 e3
    injection e1 with e1
    injection e1 with e1
    subst e1
    rw [Below.heap_setCell _ _ _ _ (by simpa using fun e => hk e.symm)]; exact hh
theorem IRow.later {wa wb : World} {g N : Nat} {xs : List Int} (h : IRow wa g N xs) (hb : Below wa.heap.size wa wb) : IRow wb g N xs := by
  refine ⟨h.len, h.own.1, ?_⟩
  rcases h.own.2 with h0 | ⟨g', cap, cur, hv, hg, hh, rest⟩
  · exact Or.inl h0
  · refine Or.inr ⟨g', cap, cur, hv, hg, ?_, rest⟩
    have hlt := (h.own.lt g' (by rw [hv]; rfl)).2
    rw [hb.block g' hlt]; exact hh
theorem IRow.draws {wr : World} {g N : Nat} {xs : List Int} (h : IRow wr g N xs) (n : Nat) : IRow (wr.drewN n) g N xs := ⟨h.len, h.own⟩
theorem IRow.made {w w1 : World} {N : Nat} (h : w1.ownsRow w.heap.size 3 1 (.slice (some ⟨w.heap.size, 0, none⟩) N N) N (madeCells (Value.int .i64 0).cells (N * 1)).toList) : IRow w1 w.heap.size N (List.replicate N 0) := by
  refine ⟨by simp, ?_⟩
  rw [List.map_replicate]
  have e := toList_madeCells_one (.int .i64 0) N
  rw [← e]
  rw [Nat.mul_one] at h
  exact h

/-- What is known of the list that came in. -/
structure LIn (w : World) (a : Option Addr) (n : Nat) (zs : List Int) : Prop where
  inr : ∀ i, inR (zs.getD i 0)
  cell : ∀ i, i < n → ∃ b off, a = some ⟨b, off, none⟩ ∧ b < w.heap.size ∧ ∀ j, j < n → w.cell? ⟨b, off + j, none⟩ = some (.int .i64 (zs.getD j 0))
theorem LIn.later {w w' : World} {a : Option Addr} {n : Nat} {zs : List Int} (h : LIn w a n zs) (hb : Below w.heap.size w w') : LIn w' a n zs :=
  ⟨h.inr, fun i hi => by
    obtain ⟨b, off, e, hlt, hc⟩ := h.cell i hi
    exact ⟨b, off, e, Nat.lt_of_lt_of_le hlt hb.size, fun j hj => (hb.cell (p := ⟨b, off + j, none⟩) hlt).trans (hc j hj)⟩⟩
theorem LIn.refSum {w : World} {a : Option Addr} {n : Nat} {zs : List Int} (h : LIn w a n zs) (cap : Nat) (hn : n ≤ maxLen) :
    Calls Try.prog 9 #[.slice a n cap] w fun e w' => e = .returned (.tuple #[.int .i64 (sumV zs n), .int .i64 (sumF zs n)]) ∧ Below w.heap.size w w' := by
  by_cases h0 : n = 0
  · subst h0; exact refSum_zero a cap w
  · obtain ⟨b, off, rfl, hlt, hc⟩ := h.cell 0 (by omega)
    exact refSum_any b off n cap zs w hn hlt hc h.inr
theorem IRow.lin {wr : World} {g N n : Nat} {xs zs : List Int} (h : IRow wr g N xs) (hn : n ≤ N) (hz : ∀ i, inR (zs.getD i 0)) (he : ∀ i, i < n → xs.getD i 0 = zs.getD i 0) : LIn wr (some ⟨g, 0, none⟩) n zs :=
  ⟨hz, fun i hi => ⟨g, 0, rfl, h.lt, fun j hj => by rw [Nat.zero_add, h.cell j (by omega), he j hj]⟩⟩
theorem LIn.sum {w : World} {g n : Nat} {zs : List Int} (h : LIn w (some ⟨g, 0, none⟩) n zs) (cap : Nat) (hn : n ≤ maxLen) :
    Calls Try.prog 8 #[.slice (some ⟨g, 0, none⟩) n cap] w fun e w' => e = .returned (.tuple #[.int .i64 (sumV zs n), .int .i64 (sumF zs n)]) ∧ w = w' := by
  have := sum_any g 0 n cap zs w hn (fun i hi => by
    obtain ⟨b, off, e, hlt, hc⟩ := h.cell i hi
    injection e with e
    injection e with e1 e2
    subst e1 e2
    exact hc i hi) h.inr
  refine this.mono ?_
  rintro e w' ⟨rfl, rfl⟩
  exact ⟨rfl, rfl⟩

/-- copy(in, list). -/
theorem copy_list {w1 : World} {g N n cap : Nat} {a : Option Addr} {zs : List Int} (hr : IRow w1 g N (List.replicate N 0)) (hl : LIn w1 a n zs) (hn : n ≤ N) (hg : ∀ b off, a = some ⟨b, off, none⟩ → n ≠ 0 → b ≠ g) :
    ∃ w2 xs, (∀ ty, (Builtin.copy_ #[22, 22] ty #[.slice (some ⟨g, 0, none⟩) N N, .slice a n cap]).run Try.prog w1 = .ok (goInt n) w2) ∧ IRow w2 g N xs ∧ (∀ i, i < n → xs.getD i 0 = zs.getD i 0) ∧ (∀ B, B ≤ g → Below B w1 w2) := by
  have hsz : (Try.prog.info? 3).map (·.size) = some 1 := by
    obtain ⟨i0, hi, hz0, hz1, hz2⟩ := info_parts info3
    rw [hi]; simp [hz1]
  by_cases h0 : n = 0
  · subst h0
    exact ⟨w1, _, fun ty => by simpa using run_copy_none (P := Try.prog) w1 22 22 ty 3 (some ⟨g, 0, none⟩) a N N 0 cap Try.underlying22 hsz (by simp), hr, fun i hi => by omega, fun B _ => Below.refl _ _⟩
  · obtain ⟨b, off, rfl, hlt, hc⟩ := hl.cell 0 (by omega)
    rcases hr.own.2 with h1 | ⟨g', cap', cur, hv, hb, hh, hcap, hm, hs, ht⟩
    · cases h1.1
    · injection hv with e1 e2 e3
      injection e1 with e1
      injection e1 with e1
      subst e1 e3
      have hcs : ((List.range n).map fun i => Value.int .i64 (zs.getD i 0)).length = n := by simp
      have hrun := fun ty => run_copy_row (P := Try.prog) w1 22 22 ty 3 g 0 N N ⟨b, off, none⟩ n cap cur 3 ((List.range n).map fun i => Value.int .i64 (zs.getD i 0)) Try.underlying22 hsz hh (by rw [hcs]; exact (Nat.min_eq_left hn).symm) (by
        intro j v hj
        have hjn : j < n := by
          refine Nat.lt_of_not_le fun hc => ?_
          rw [List.getElem?_eq_none (by simpa using hc)] at hj
          cases hj
        have e2 : (⟨b, off, none⟩ : Addr).add j = ⟨b, off + j, none⟩ := by simp [Addr.add]
        rw [e2, hc j hjn, ← hj]
        simp [hjn]) (by rw [hcs, hs]; omega) (by
        intro v hv
        simp only [List.mem_map] at hv
        obtain ⟨i, _, rfl⟩ := hv
        rfl)
      refine ⟨_, (List.range n).map (fun i => zs.getD i 0) ++ List.replicate (N - n) 0, fun ty => by rw [hrun ty, hcs], ⟨by simp; omega, ?_⟩, ?_, ?_⟩
      · refine ⟨by simp; omega, Or.inr ⟨g, N, ((cur.toList.take 0 ++ (List.range n).map (fun i => Value.int .i64 (zs.getD i 0))) ++ cur.toList.drop (0 + n)).toArray, rfl, hb, setRow_heap w1 g _ _ 3 _ hh, Nat.le_refl _, hm, by simp; omega, ?_⟩⟩
        have hcur : cur.toList = List.replicate N (Value.int .i64 0) := by
          have := ht
          rw [List.take_of_length_le (by simp [hs])] at this
          rw [this]; simp
        rw [hcur, Nat.mul_one, List.take_of_length_le (by simp; omega)]
        simp only [List.take_zero, List.nil_append, Nat.zero_add, List.drop_replicate, List.map_append, List.map_map, List.map_replicate]
        rfl
      · intro i hi
        simp [List.getElem?_append_left, hi]
      · intro B hB
        exact below_setRow (Below.refl _ _) hB _

/-- The numbers of the second list. -/
def othN (zs : List Int) (n i : Nat) : Int := (zs.getD (n - 1 - i) 0).tdiv 3 + i
def othL (zs : List Int) (n : Nat) : List Int := (List.range n).map (othN zs n)
theorem othL_at (zs : List Int) (n i : Nat) (hi : i < n) : (othL zs n).getD i 0 = othN zs n i := by simp [othL, hi]
theorem tdiv3 (z : Int) (h : inR z) : -3074457345618258603 ≤ z.tdiv 3 ∧ z.tdiv 3 ≤ 3074457345618258602 := by
  have e := Int.mul_tdiv_add_tmod z 3
  have h1 : (z.tmod 3).natAbs = z.natAbs % 3 := Int.natAbs_tmod z 3
  unfold inR at h
  omega
theorem othL_in (zs : List Int) (n : Nat) (hn : n ≤ 20000000000000) (hz : ∀ i, inR (zs.getD i 0)) : ∀ i, inR ((othL zs n).getD i 0) := by
  intro i
  by_cases hi : i < n
  · rw [othL_at zs n i hi]
    have := tdiv3 _ (hz (n - 1 - i))
    unfold othN inR; omega
  · have : (othL zs n).getD i 0 = 0 := by
      have : (othL zs n)[i]? = none := List.getElem?_eq_none (by simp [othL]; omega)
      simp [this]
    rw [this]; unfold inR; omega

/-- The first row, as far as it is filled behind the list. -/
structure R1 (w wr : World) (n k : Nat) (zs : List Int) : Prop where
  row : ∃ xs, IRow wr w.heap.size (n + 6) xs ∧ (∀ i, i < n → xs.getD i 0 = zs.getD i 0) ∧ ∀ j, j < k → xs.getD (n + j) 0 = 1000 + (j : Int)
  bel : Below w.heap.size w wr
theorem getD_set (xs : List Int) (i j : Nat) (d : Int) : (xs.set j d).getD i 0 = if j = i ∧ i < xs.length then d else xs.getD i 0 := by
  simp only [List.getD_eq_getElem?_getD, List.getElem?_set]
  by_cases h : j = i
  · subst h
    by_cases h2 : j < xs.length
    · simp [h2]
    · simp [h2]
  · simp [h]
theorem R1.step {w wr : World} {n k : Nat} {zs : List Int} (h : R1 w wr n k zs) (hk : k < 6) : R1 w (wr.setCell ⟨w.heap.size, n + k, none⟩ (.int .i64 (1000 + (k : Int)))) n (k + 1) zs := by
  obtain ⟨xs, r, h1, h2⟩ := h.row
  refine ⟨⟨xs.set (n + k) (1000 + (k : Int)), r.set (n + k) _, fun i hi => ?_, fun j hj => ?_⟩, h.bel.setCell (Nat.le_refl _) _⟩
  · rw [getD_set, if_neg (by omega)]; exact h1 i hi
  · rw [getD_set]
    by_cases e : j = k
    · subst e; rw [if_pos ⟨rfl, by rw [r.len]; omega⟩]
    · rw [if_neg (by omega)]; exact h2 j (by omega)
theorem R1.cell {w wr : World} {n k : Nat} {zs : List Int} (h : R1 w wr n k zs) (j : Nat) (hj : j < n + 6) : ∃ v, wr.cell? ⟨w.heap.size, j, none⟩ = some (.int .i64 v) ∧ wr.frozen? ⟨w.heap.size, j, none⟩ = false ∧ (j < n → v = zs.getD j 0) ∧ (n ≤ j → j < n + k → v = 1000 + (j : Int) - n) := by
  obtain ⟨xs, r, h1, h2⟩ := h.row
  refine ⟨xs.getD j 0, r.cell j hj, r.frozen j, h1 j, fun a b => ?_⟩
  have := h2 (j - n) (by omega)
  rw [show n + (j - n) = j by omega] at this
  rw [this]; omega
theorem R1.later {w wa wb : World} {n k : Nat} {zs : List Int} (h : R1 w wa n k zs) (hb : Below wa.heap.size wa wb) : R1 w wb n k zs := by
  obtain ⟨xs, r, h1, h2⟩ := h.row
  exact ⟨⟨xs, r.later hb, h1, h2⟩, h.bel.trans (hb.mono (Nat.le_of_lt r.lt))⟩
theorem R1.lin {w wr : World} {n k : Nat} {zs : List Int} (h : R1 w wr n k zs) (hz : ∀ i, inR (zs.getD i 0)) : LIn wr (some ⟨w.heap.size, 0, none⟩) n zs := by
  obtain ⟨xs, r, h1, h2⟩ := h.row
  exact r.lin (by omega) hz h1

/-- Both rows, as far as the second list is written. -/
structure R2 (w wr : World) (h n k : Nat) (zs : List Int) : Prop where
  lt : w.heap.size < h
  row : ∃ xs, IRow wr w.heap.size (n + 6) xs ∧ ∀ i, i < k → xs.getD i 0 = othN zs n i
  oth : ∃ ys, IRow wr h n ys ∧ ∀ i, i < k → ys.getD i 0 = othN zs n i
  bel : Below w.heap.size w wr
theorem R2.step {w wr : World} {h n k : Nat} {zs : List Int} (r : R2 w wr h n k zs) (hk : k < n) (d : Int) (hd : d = othN zs n k) :
    R2 w ((wr.setCell ⟨h, k, none⟩ (.int .i64 d)).setCell ⟨w.heap.size, k, none⟩ (.int .i64 d)) h n (k + 1) zs := by
  obtain ⟨xs, rx, hx⟩ := r.row
  obtain ⟨ys, ry, hy⟩ := r.oth
  have hlt := r.lt
  refine ⟨hlt, ⟨xs.set k d, (rx.other (by omega) _).set k d, fun i hi => ?_⟩, ⟨ys.set k d, (ry.set k d).other (by omega) _, fun i hi => ?_⟩, (r.bel.setCell (by simp; omega) _).setCell (Nat.le_refl _) _⟩
  · rw [getD_set]
    by_cases e : i = k
    · subst e; rw [if_pos ⟨rfl, by rw [rx.len]; omega⟩, hd]
    · rw [if_neg (by omega)]; exact hx i (by omega)
  · rw [getD_set]
    by_cases e : i = k
    · subst e; rw [if_pos ⟨rfl, by rw [ry.len]; omega⟩, hd]
    · rw [if_neg (by omega)]; exact hy i (by omega)
theorem R2.cells {w wr : World} {h n k : Nat} {zs : List Int} (r : R2 w wr h n k zs) (hk : k < n) : ∃ u v, wr.cell? ⟨h, k, none⟩ = some (.int .i64 u) ∧ wr.frozen? ⟨h, k, none⟩ = false ∧ wr.cell? ⟨w.heap.size, k, none⟩ = some (.int .i64 v) ∧ wr.frozen? ⟨w.heap.size, k, none⟩ = false := by
  obtain ⟨xs, rx, hx⟩ := r.row
  obtain ⟨ys, ry, hy⟩ := r.oth
  exact ⟨_, _, ry.cell k hk, ry.frozen k, rx.cell k (by omega), rx.frozen k⟩
theorem R2.lins {w wr : World} {h n : Nat} {zs : List Int} (r : R2 w wr h n n zs) (hn : n ≤ 20000000000000) (hz : ∀ i, inR (zs.getD i 0)) : LIn wr (some ⟨w.heap.size, 0, none⟩) n (othL zs n) ∧ LIn wr (some ⟨h, 0, none⟩) n (othL zs n) := by
  obtain ⟨xs, rx, hx⟩ := r.row
  obtain ⟨ys, ry, hy⟩ := r.oth
  exact ⟨rx.lin (by omega) (othL_in zs n hn hz) fun i hi => by rw [hx i hi, othL_at zs n i hi], ry.lin (Nat.le_refl _) (othL_in zs n hn hz) fun i hi => by rw [hy i hi, othL_at zs n i hi]⟩

set_option maxRecDepth 100000 in
set_option maxHeartbeats 3200000 in
theorem numLists_walk (a : Option Addr) (n cap : Nat) (zs : List Int) (w : World) (hn : n ≤ 20000000000000) (hl : LIn w a n zs) :
    Calls Try.prog 3 #[.slice a n cap] w fun e w' => e = .returned (.bool true) ∧ Below w.heap.size w w' := by
  obtain ⟨i0, hi, hz0, hz1, hz2⟩ := info_parts info3
  have HL := veil hl
  have hmax : n ≤ maxLen := by unfold maxLen; omega
  have HM := veil hmax
  clear hl hmax
  go_enter Try.func3, Try.ntmps3
  go_wp2_with (at_make; refine wpList_make_full _ rfl _ _ 22 rfl w.heap.size 3 i0 (.int .i64 0) 1 Try.underlying22 hi hz0 hz1 .i64 .i64 _ _ (n + 6) rfl rfl (by omega) (by omega) (by rw [hz2]; omega) (by unfold maxLen; omega) (Nat.le_refl _) ?_; intro w1 hown1 hgrow1; have hrow := IRow.made hown1; have bel1 : Below w.heap.size w w1 := (Below.refl _ _).grown hgrow1 (Nat.le_refl _) (by simp); obtain ⟨w2, xs, hcopy, row2, pre2, bel2⟩ := copy_list (cap := cap) hrow ((unveil HL).later bel1) (by omega) (fun b off e hn0 => by obtain ⟨b', off', e', hlt, _⟩ := (unveil HL).cell 0 (by omega); rw [e] at e'; injection e' with e'; injection e' with e1 e2; omega); have bel := veil (bel1.trans (bel2 _ (Nat.le_refl _))); have R2 := veil row2; have P2 := veil pre2; clear hown1 hgrow1 hrow bel1 bel2 row2 pre2)
  have R0 := veil (show R1 w w2 n 0 zs from ⟨⟨xs, unveil R2, unveil P2, fun j hj => by omega⟩, unveil bel⟩)
  clear R2 P2 bel hcopy
  go_loopw [4] (fun i wr => ∃ k : Nat, k ≤ 6 ∧ i = .int .i64 k ∧ R1 w wr n k zs) (fun i _ => 6 - (intOf i).toNat)
  case atStart => exact ⟨0, by omega, rfl, unveil R0⟩
  case round =>
    obtain ⟨k, hk, rfl, r1⟩ := hrel
    have RR := veil r1
    by_cases hk6 : k < 6
    · obtain ⟨v0, c0, f0, _, _⟩ := r1.cell (n + k) (by omega)
      have R1' := veil (r1.step hk6)
      clear r1
      go_wp2_with fail
      go_roundw
      case rel => exact ⟨k + 1, by omega, by go_num, unveil R1'⟩
      case measure => simp [intOf]; omega
    · have hk6' : k = 6 := by omega
      subst hk6'
      have LS := veil (r1.lin (unveil HL).inr)
      have LR := veil ((unveil HL).later r1.bel)
      clear r1
      go_wp2_with fail
      refine ((unveil LS).sum _ (unveil HM)).mono ?_
      rintro e w' ⟨rfl, rfl⟩
      go_wp2_with fail
      refine ((unveil LR).refSum _ (unveil HM)).mono ?_
      rintro e w3 ⟨rfl, hb3⟩
      have R3 := veil ((unveil RR).later hb3)
      have L3 := veil ((unveil LR).later hb3)
      clear hb3
      go_wp2_with fail
      go_loopw [9] (fun i wr => ∃ (k q : Nat), k ≤ n + 6 ∧ i = .int .i64 k ∧ wr = w3.drewN q) (fun i _ => n + 6 - (intOf i).toNat)
      case atStart => exact ⟨0, 0, by omega, rfl, rfl⟩
      case round =>
        obtain ⟨k, q, hk, rfl, rfl⟩ := hrel
        by_cases h1 : k < n
        · obtain ⟨v, c1, f1, e1, _⟩ := (unveil R3).cell k (by omega)
          obtain ⟨b, off, rfl, hb, hcs⟩ := (unveil L3).cell k h1
          have c2 := hcs k h1
          rw [← e1 h1] at c2
          have h2 : decide ((n : Int) ≤ (k : Int)) = false := by simp; omega
          clear hcs e1
          go_wp2_with fail
          go_quiet (fail)
          go_wp2_with fail
          go_roundw
          case rel => exact ⟨k + 1, _, by omega, by go_num, by first | rfl | rw [World.drewN_drewN]⟩
          case measure => simp [intOf]; omega
        · have h1' : decide ((k : Int) < (n : Int)) = false := by simp; omega
          by_cases h3 : k < n + 6
          · obtain ⟨v, c1, f1, _, e1⟩ := (unveil R3).cell k (by omega)
            rw [e1 (by omega) (by omega)] at c1
            clear e1
            go_wp2_with fail
            go_quiet (fail)
            go_wp2_with fail
            go_roundw
            case rel => exact ⟨k + 1, _, by omega, by go_num, by first | rfl | rw [World.drewN_drewN]⟩
            case measure => simp [intOf]; omega
          · have hkn : k = n + 6 := by omega
            subst hkn
            have R4 := veil (show R1 w (w3.drewN q) n 6 zs from ⟨by obtain ⟨xs, r, h1, h2⟩ := (unveil R3).row; exact ⟨xs, r.draws q, h1, h2⟩, below_nq (unveil R3).bel q⟩)
            have L4 := veil (show LIn (w3.drewN q) a n zs from (unveil L3).later (below_nq (Below.refl _ _) q))
            clear R3 L3
            generalize w3.drewN q = wq at *
            go_wp2_with (at_make; refine wpList_make_full _ rfl _ _ 22 rfl wq.heap.size 3 i0 (.int .i64 0) 1 Try.underlying22 hi hz0 hz1 .i64 .i64 _ _ n rfl rfl (by omega) (by omega) (by rw [hz2]; omega) (by unfold maxLen; omega) (Nat.le_refl _) ?_; intro w5 hown5 hgrow5; have row5 := IRow.made hown5; have bel5 : Below wq.heap.size wq w5 := (Below.refl _ _).grown hgrow5 (Nat.le_refl _) (by simp); have R5 := veil (show R2 w w5 wq.heap.size n 0 zs from by have r := (unveil R4).later bel5; obtain ⟨xs, rx, _, _⟩ := r.row; obtain ⟨_, r4, _, _⟩ := (unveil R4).row; exact ⟨r4.lt, ⟨xs, rx, fun i hi => by omega⟩, ⟨_, row5, fun i hi => by omega⟩, r.bel⟩); clear hown5 hgrow5 row5 bel5)
            go_loopw [11] (fun i wr => ∃ k : Nat, k ≤ n ∧ i = .int .i64 k ∧ R2 w wr wq.heap.size n k zs) (fun i _ => n - (intOf i).toNat)
            case atStart => exact ⟨0, by omega, rfl, unveil R5⟩
            case round =>
              obtain ⟨k, hk, rfl, r2⟩ := hrel
              by_cases h5 : k < n
              · obtain ⟨u, v, c1, f1, c2, f2⟩ := r2.cells h5
                obtain ⟨b, off, rfl, hb, hcs⟩ := ((unveil HL).later r2.bel).cell (n - 1 - k) (by omega)
                have c3 := hcs (n - 1 - k) (by omega)
                have hne : ¬ wq.heap.size = w.heap.size := by have := r2.lt; omega
                have t := tdiv3 _ ((unveil HL).inr (n - 1 - k))
                have ST := veil (fun d hd => r2.step h5 d hd)
                have OT := veil (show othN zs n k = (zs.getD (n - 1 - k) 0).tdiv 3 + (k : Int) from rfl)
                clear hcs r2
                generalize zs.getD (n - 1 - k) 0 = z at *
                generalize hq : z.tdiv 3 = q3 at *
                obtain ⟨t1, t2⟩ := t
                go_wp2_with fail
                go_roundw
                case rel => exact ⟨k + 1, by omega, by go_num, unveil ST (q3 + (k : Int)) (unveil OT).symm⟩
                case measure => simp [intOf]; omega
              · have hkn : k = n := by omega
                subst hkn
                have LL := r2.lins hn (unveil HL).inr
                have LS := veil LL.1
                have LO := veil LL.2
                have BB := veil r2.bel
                clear LL r2
                go_wp2_with fail
                refine ((unveil LS).sum _ (unveil HM)).mono ?_
                rintro e w' ⟨rfl, rfl⟩
                go_wp2_with fail
                refine ((unveil LO).refSum _ (unveil HM)).mono ?_
                rintro e w7 ⟨rfl, hb7⟩
                have B7 := veil (chain (unveil BB) (Nat.le_refl _) hb7)
                clear hb7
                go_wp2_with fail
                go_ret
                exact ⟨rfl, unveil B7⟩

theorem numLists_row (a : Option Addr) (len cap : Nat) (zs : List Int) (w : World) (h : RowIn w a len cap zs) (hb : len * 8 ≤ 140737488351232) :
    Calls Try.prog 3 #[.slice a len cap] w fun e w' => e = .returned (.bool true) ∧ Below w.heap.size w w' := by
  obtain ⟨hl, hcap, hz, hd⟩ := isRow_cells h
  refine numLists_walk a len cap zs w (by omega) ⟨hz, fun i hi => ?_⟩
  rcases hd with h0 | ⟨b, off, ha, hlt, hc⟩
  · omega
  · exact ⟨b, off, ha, hlt, hc⟩

end Go.Proofs.Ytookmgjnacbdkab
