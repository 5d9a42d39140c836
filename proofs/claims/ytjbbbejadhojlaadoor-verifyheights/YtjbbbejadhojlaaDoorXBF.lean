import Derived.Test.YtjbbbejadhojlaaDoorXBE
namespace Go.Proofs.YtjbbbejadhojlaaDoor
open Go.RowKit
set_option linter.unusedVariables false
set_option linter.unusedSimpArgs false
/-- Cells, the first t of them written. -/
def mixA (G Z : Nat → Value) (t n : Nat) : Array Value := ((List.range n).map (fun j => if j < t then G j else Z j)).toArray
def fullA (G : Nat → Value) (n : Nat) : Array Value := ((List.range n).map G).toArray
theorem mixA_size (G Z : Nat → Value) (t n : Nat) : (mixA G Z t n).size = n := by simp [mixA]
theorem fullA_size (G : Nat → Value) (n : Nat) : (fullA G n).size = n := by simp [fullA]
theorem mixA_at (G Z : Nat → Value) (t n j : Nat) (hj : j < n) : (mixA G Z t n)[j]? = some (if j < t then G j else Z j) := by simp [mixA, hj]
theorem fullA_at (G : Nat → Value) (n j : Nat) (hj : j < n) : (fullA G n)[j]? = some (G j) := by simp [fullA, hj]
theorem mixA_end (G Z : Nat → Value) (n : Nat) : mixA G Z n n = fullA G n := by
  unfold mixA fullA
  congr 1
  apply List.map_congr_left
  intro j hj
  rw [if_pos (List.mem_range.1 hj)]
theorem mixA_set (G Z : Nat → Value) (t n : Nat) : (mixA G Z t n).set! t (G t) = mixA G Z (t + 1) n := by
  apply Array.ext_getElem?
  intro j
  simp only [Array.set!_eq_setIfInBounds, Array.getElem?_setIfInBounds, mixA_size]
  by_cases hj : j < n
  · rw [mixA_at _ _ _ _ _ hj, mixA_at _ _ _ _ _ hj]
    by_cases z : t = j
    · subst z
      simp [hj]
    · rw [if_neg z]
      have : (j < t) ↔ (j < t + 1) := by omega
      simp [this]
  · have e : ∀ s, (mixA G Z s n)[j]? = none := fun s => Array.getElem?_eq_none (by rw [mixA_size]; omega)
    rw [e, e]
    by_cases z : t = j
    · subst z
      simp [hj]
    · rw [if_neg z]
theorem mixA_set2 (G Z : Nat → Value) (t n : Nat) (x : Value) : ((mixA G Z t n).set! t x).set! t (G t) = mixA G Z (t + 1) n := by
  rw [← mixA_set]
  simp
theorem mixA_made (G : Nat → Value) (z : Array Value) (n : Nat) : madeCells z n = mixA G (fun j => z[j % z.size]!) 0 n := by
  apply Array.ext_getElem?
  intro j
  by_cases hj : j < n
  · rw [mixA_at _ _ _ _ _ hj]
    simp [madeCells, hj]
  · rw [Array.getElem?_eq_none (by rw [size_madeCells]; omega), Array.getElem?_eq_none (by rw [mixA_size]; omega)]
/-- Three cells more. -/
theorem mix3 {W : World} {g : Nat} {G Z : Nat → Value} {i N : Nat} {t : TypeId} {d0 d1 d2 : Value} (h : BkP W g (mixA G Z (i * 3) N) t) (hi : i * 3 + 2 < N) (e0 : G (i * 3) = d0) (e1 : G (i * 3 + 1) = d1) (e2 : G (i * 3 + 2) = d2) : BkP (set3 W g (i * 3) d0 d1 d2) g (mixA G Z ((i + 1) * 3) N) t := by
  have := set3_blk (o := i * 3) (d0 := d0) (d1 := d1) (d2 := d2) h (by rw [mixA_size]; exact hi)
  rw [← e0, ← e1, ← e2, mixA_set, mixA_set, mixA_set] at this
  rw [show (i + 1) * 3 = i * 3 + 1 + 1 + 1 by omega]
  rw [← e0, ← e1, ← e2]
  exact this
theorem set33 (cs : Array Value) (o : Nat) (x0 x1 x2 d0 d1 d2 : Value) : ((((((cs.set! o x0).set! (o + 1) x1).set! (o + 2) x2).set! o d0).set! (o + 1) d1).set! (o + 2) d2) = ((cs.set! o d0).set! (o + 1) d1).set! (o + 2) d2 := by
  apply Array.ext_getElem?
  intro j
  simp only [Array.set!_eq_setIfInBounds, Array.getElem?_setIfInBounds, Array.size_setIfInBounds]
  repeat' split
  all_goals first | rfl | omega
theorem mix33 {W : World} {g : Nat} {G Z : Nat → Value} {i N : Nat} {t : TypeId} {x0 x1 x2 d0 d1 d2 : Value} (h : BkP W g (mixA G Z (i * 3) N) t) (hi : i * 3 + 2 < N) (e0 : G (i * 3) = d0) (e1 : G (i * 3 + 1) = d1) (e2 : G (i * 3 + 2) = d2) : BkP (set3 (set3 W g (i * 3) x0 x1 x2) g (i * 3) d0 d1 d2) g (mixA G Z ((i + 1) * 3) N) t := by
  have h1 := set3_blk (o := i * 3) (d0 := x0) (d1 := x1) (d2 := x2) h (by rw [mixA_size]; exact hi)
  have h2 := set3_blk (o := i * 3) (d0 := d0) (d1 := d1) (d2 := d2) h1 (by simp [mixA_size]; exact hi)
  rw [set33] at h2
  rw [← e0, ← e1, ← e2, mixA_set, mixA_set, mixA_set] at h2
  rw [show (i + 1) * 3 = i * 3 + 1 + 1 + 1 by omega]
  rw [← e0, ← e1, ← e2]
  exact h2
def txG (l : List ByteArray) (j : Nat) : Value := if j < l.length then .string (l.getD j default) else .string ⟨#[63]⟩
def inG (l : List In) (j : Nat) : Value := if j / 3 < l.length then (icell (l.getD (j / 3) default)).getD (j % 3) default else ([.int .i64 (-77), .int .i64 0, .int .i64 0] : List Value).getD (j % 3) default
theorem inG_at (l : List In) (i c : Nat) (hc : c < 3) : inG l (i * 3 + c) = if i < l.length then (icell (l.getD i default)).getD c default else ([.int .i64 (-77), .int .i64 0, .int .i64 0] : List Value).getD c default := by
  unfold inG
  rw [show (i * 3 + c) / 3 = i by omega, show (i * 3 + c) % 3 = c by omega]
theorem infoHS : (Tryd.prog.info? 9).map (fun i => (i.zero, i.size, i.bytes)) = some (some (.string ⟨#[]⟩), 1, 16) := by kernel_rfl
theorem infoHI : (Tryd.prog.info? 51).map (fun i => (i.zero, i.size, i.bytes)) = some (some (.agg #[.int .i64 0, .int .i64 0, .int .i64 0]), 3, 24) := by kernel_rfl
theorem make_strH (n : Nat) (hn : n ≤ 8796093021956) (W : World) : (Instr.makeSlice 22 (.int .i64 (n : Int)) (.int .i64 (n : Int))).run Tryd.prog W = .ok (.slice (some ⟨W.heap.size, 0, none⟩) n n) (W.alloc (.cells (madeCells #[.string ⟨#[]⟩] n) 9)) := by
  obtain ⟨i0, hi, hz0, hz1, hz2⟩ := info_parts infoHS
  have := run_make (P := Tryd.prog) W 22 9 i0 _ Tryd.underlying22 hi hz0 .i64 .i64 n n (by omega) (by omega) (by rw [hz2]; omega) (by omega)
  rw [hz1] at this
  simpa [Value.cells] using this
theorem make_insH (n : Nat) (hn : n ≤ 5864062014640) (W : World) : (Instr.makeSlice 41 (.int .i64 (n : Int)) (.int .i64 (n : Int))).run Tryd.prog W = .ok (.slice (some ⟨W.heap.size, 0, none⟩) n n) (W.alloc (.cells (madeCells #[.int .i64 0, .int .i64 0, .int .i64 0] (n * 3)) 51)) := by
  obtain ⟨i0, hi, hz0, hz1, hz2⟩ := info_parts infoHI
  have := run_make (P := Tryd.prog) W 41 51 i0 _ Tryd.underlying41 hi hz0 .i64 .i64 n n (by omega) (by omega) (by rw [hz2]; omega) (by omega)
  rw [hz1] at this
  simpa [Value.cells] using this
/-- What handTexts answers. -/
def HtxE (w : World) (l : List ByteArray) (e : Ending) (w' : World) : Prop := ∃ g, e = .returned (.slice (some ⟨g, 0, none⟩) l.length (l.length + 3)) ∧ w.heap.size ≤ g ∧ BkP w' g (fullA (txG l) (l.length + 3)) 9 ∧ Below w.heap.size w w'
set_option maxRecDepth 100000 in
set_option maxHeartbeats 1600000 in
theorem handTexts_any {w : World} {a : Option Addr} {c : Nat} {l : List ByteArray} (h : SR w a l.length c l) : Calls Tryd.prog 13 #[.slice a l.length c] w fun e w' => HtxE w l e w' := by
  obtain ⟨n, hn⟩ : ∃ n, l.length = n := ⟨_, rfl⟩
  obtain ⟨N, hN⟩ : ∃ N, n + 3 = N := ⟨_, rfl⟩
  have nb : n ≤ 8796093021952 := by rw [← hn]; exact h.2.2.1
  have MK := make_strH N (by omega)
  have CC := Lib.hid (p := ∀ k, k < n → ∃ y u, a = some ⟨y, u, none⟩ ∧ y < w.heap.size ∧ w.cell? ⟨y, u + k, none⟩ = some (.string (l.getD k default))) (fun k hk => by
    rcases h.2.2.2.2 with z | ⟨y, u, e, ly, hc⟩
    · omega
    · have := hc k (by omega) 0 (by omega)
      rw [Nat.mul_one, Nat.add_zero] at this
      exact ⟨y, u, e, ly, this⟩)
  have GA := Lib.hid (p := ∀ k, txG l k = if k < n then .string (l.getD k default) else .string ⟨#[63]⟩) (fun k => by unfold txG; rw [hn])
  have FE := Lib.hid (p := ∀ V, BkP V w.heap.size (mixA (txG l) (fun j => (#[Value.string ⟨#[]⟩])[j % (#[Value.string ⟨#[]⟩]).size]!) N N) 9 → Below w.heap.size w V → HtxE w l (.returned (.slice (some ⟨w.heap.size, 0, none⟩) n N)) V) (fun V b bb => by
    rw [mixA_end] at b
    exact ⟨w.heap.size, by rw [hn, hN], Nat.le_refl _, by rw [hn, hN]; exact b, bb⟩)
  have M0 := Lib.hid (p := BkP (w.alloc (.cells (madeCells #[.string ⟨#[]⟩] N) 9)) w.heap.size (mixA (txG l) (fun j => (#[Value.string ⟨#[]⟩])[j % (#[Value.string ⟨#[]⟩]).size]!) 0 N) 9 ∧ Below w.heap.size w (w.alloc (.cells (madeCells #[.string ⟨#[]⟩] N) 9))) ⟨by rw [← mixA_made]; exact heapN _ _, allocBP _ _⟩
  have kN : IntKind.i64.wrap ((n : Int) + 3) = (N : Int) := by simp [IntKind.wrap, IntKind.bits, IntKind.signed]; omega
  have hnN : n ≤ N := by omega
  generalize (fun j => (#[Value.string ⟨#[]⟩])[j % (#[Value.string ⟨#[]⟩]).size]!) = Z at *
  simp only [hn]
  clear h
  go_enter Tryd.func13, Tryd.ntmps13
  go_wp2
  clear MK
  generalize hW : w.alloc _ = W1 at *
  clear hW
  go_loopw [4] (fun t wr => ∃ k : Nat, k ≤ N ∧ t = .int .i64 (k : Int) ∧ RowKit.Hid (BkP wr w.heap.size (mixA (txG l) Z k N) 9 ∧ Below w.heap.size w wr)) (fun t _ => N - (intOf t).toNat)
  case atStart => exact ⟨0, by omega, rfl, M0.out⟩
  case round =>
    clear M0
    rename World => wr
    obtain ⟨k, hk, rfl, hH⟩ := hrel
    obtain ⟨b1, bw⟩ := hH.out
    by_cases hlt : k < N
    · have kc : (k : Int) < (N : Int) := by omega
      have k0 : ¬ (k : Int) < 0 := by omega
      have ks : IntKind.i64.wrap ((k : Int) + 1) = (k : Int) + 1 := by simp [IntKind.wrap, IntKind.bits, IntKind.signed]; omega
      have cg : wr.cell? ⟨w.heap.size, k, none⟩ = some (Z k) := by rw [b1.cell, mixA_at _ _ _ _ _ hlt, if_neg (by omega)]
      have fg := b1.frozen k
      by_cases hm : k < n
      · obtain ⟨y, u, rfl, ly, hc⟩ := CC.out k hm
        have km : (k : Int) < (n : Int) := by omega
        have b2 := bw.setCell (p := ⟨w.heap.size, k, none⟩) (Nat.le_refl _) (.string ⟨#[63]⟩)
        have c2 : (wr.setCell ⟨w.heap.size, k, none⟩ (.string ⟨#[63]⟩)).cell? ⟨y, u + k, none⟩ = some (.string (l.getD k default)) := (b2.cell (p := ⟨y, u + k, none⟩) ly).trans hc
        have NX := Lib.hid (p := BkP ((wr.setCell ⟨w.heap.size, k, none⟩ (.string ⟨#[63]⟩)).setCell ⟨w.heap.size, k, none⟩ (.string (l.getD k default))) w.heap.size (mixA (txG l) Z (k + 1) N) 9 ∧ Below w.heap.size w ((wr.setCell ⟨w.heap.size, k, none⟩ (.string ⟨#[63]⟩)).setCell ⟨w.heap.size, k, none⟩ (.string (l.getD k default)))) ⟨by
          have q := (b1.set2 k (.string ⟨#[63]⟩) (by rw [mixA_size]; exact hlt)).set2 k (.string (l.getD k default)) (by simp [mixA_size]; exact hlt)
          have e := mixA_set2 (txG l) Z k N (.string ⟨#[63]⟩)
          rw [GA.out k, if_pos hm] at e
          rw [e] at q
          exact q, b2.setCell (Nat.le_refl _) _⟩
        clear hH b1 bw b2 hc
        generalize l.getD k default = tx at *
        go_wp2
        refine ⟨⟨k + 1, by omega, by go_num, ?_⟩, ?_⟩
        · exact NX.out
        · simp [intOf]
          omega
      · have km : ¬ (k : Int) < (n : Int) := by omega
        have NX := Lib.hid (p := BkP (wr.setCell ⟨w.heap.size, k, none⟩ (.string ⟨#[63]⟩)) w.heap.size (mixA (txG l) Z (k + 1) N) 9 ∧ Below w.heap.size w (wr.setCell ⟨w.heap.size, k, none⟩ (.string ⟨#[63]⟩))) ⟨by
          have q := b1.set2 k (.string ⟨#[63]⟩) (by rw [mixA_size]; exact hlt)
          have e := mixA_set (txG l) Z k N
          rw [GA.out k, if_neg hm] at e
          rw [e] at q
          exact q, bw.setCell (Nat.le_refl _) _⟩
        clear hH b1 bw
        go_wp2
        refine ⟨⟨k + 1, by omega, by go_num, ?_⟩, ?_⟩
        · exact NX.out
        · simp [intOf]
          omega
    · obtain rfl : k = N := by omega
      have E := Lib.hid (FE.out wr b1 bw)
      clear hH b1 bw
      go_wp2
      go_ret
      exact E.out
/-- What handCode answers. -/
def HcdE (w : World) (l : List In) (e : Ending) (w' : World) : Prop := ∃ g, e = .returned (.slice (some ⟨g, 0, none⟩) l.length (l.length + 3)) ∧ w.heap.size ≤ g ∧ BkP w' g (fullA (inG l) ((l.length + 3) * 3)) 51 ∧ Below w.heap.size w w'
set_option maxRecDepth 100000 in
set_option maxHeartbeats 1600000 in
theorem handCode_any {w : World} {a : Option Addr} {c : Nat} {l : List In} (h : IR w a l.length c l) : Calls Tryd.prog 14 #[.slice a l.length c] w fun e w' => HcdE w l e w' := by
  obtain ⟨n, hn⟩ : ∃ n, l.length = n := ⟨_, rfl⟩
  obtain ⟨N, hN⟩ : ∃ N, n + 3 = N := ⟨_, rfl⟩
  have nb : n ≤ 5864062014634 := by rw [← hn]; exact h.2.2.1
  have MK := make_insH N (by omega)
  have CC := Lib.hid (p := ∀ k, k < n → ∃ y u, a = some ⟨y, u, none⟩ ∧ y < w.heap.size ∧ w.cell? ⟨y, u + k * 3, none⟩ = some (.int .i64 (l.getD k default).o) ∧ w.cell? ⟨y, u + k * 3 + 1, none⟩ = some (.int .i64 (l.getD k default).a) ∧ w.cell? ⟨y, u + k * 3 + 2, none⟩ = some (.int .i64 (l.getD k default).b)) (fun k hk => by
    rcases h.2.2.2.2 with z | ⟨y, u, e, ly, hc⟩
    · omega
    · exact ⟨y, u, e, ly, hc k (by omega) 0 (by omega), hc k (by omega) 1 (by omega), hc k (by omega) 2 (by omega)⟩)
  have GA := Lib.hid (p := ∀ k c, c < 3 → inG l (k * 3 + c) = if k < n then (icell (l.getD k default)).getD c default else ([.int .i64 (-77), .int .i64 0, .int .i64 0] : List Value).getD c default) (fun k c hc => by rw [inG_at l k c hc, hn])
  have FE := Lib.hid (p := ∀ V, BkP V w.heap.size (mixA (inG l) (fun j => (#[Value.int .i64 0, .int .i64 0, .int .i64 0])[j % (#[Value.int .i64 0, .int .i64 0, .int .i64 0]).size]!) (N * 3) (N * 3)) 51 → Below w.heap.size w V → HcdE w l (.returned (.slice (some ⟨w.heap.size, 0, none⟩) n N)) V) (fun V b bb => by
    rw [mixA_end] at b
    exact ⟨w.heap.size, by rw [hn, hN], Nat.le_refl _, by rw [hn, hN]; exact b, bb⟩)
  have M0 := Lib.hid (p := BkP (w.alloc (.cells (madeCells #[.int .i64 0, .int .i64 0, .int .i64 0] (N * 3)) 51)) w.heap.size (mixA (inG l) (fun j => (#[Value.int .i64 0, .int .i64 0, .int .i64 0])[j % (#[Value.int .i64 0, .int .i64 0, .int .i64 0]).size]!) (0 * 3) (N * 3)) 51 ∧ Below w.heap.size w (w.alloc (.cells (madeCells #[.int .i64 0, .int .i64 0, .int .i64 0] (N * 3)) 51))) ⟨by rw [Nat.zero_mul, ← mixA_made]; exact heapN _ _, allocBP _ _⟩
  have kN : IntKind.i64.wrap ((n : Int) + 3) = (N : Int) := by simp [IntKind.wrap, IntKind.bits, IntKind.signed]; omega
  have hnN : n ≤ N := by omega
  generalize (fun j => (#[Value.int .i64 0, .int .i64 0, .int .i64 0])[j % (#[Value.int .i64 0, .int .i64 0, .int .i64 0]).size]!) = Z at *
  simp only [hn]
  clear h
  go_enter Tryd.func14, Tryd.ntmps14
  go_wp2
  clear MK
  generalize hW : w.alloc _ = W1 at *
  clear hW
  go_loopw [4] (fun t wr => ∃ k : Nat, k ≤ N ∧ t = .int .i64 (k : Int) ∧ RowKit.Hid (BkP wr w.heap.size (mixA (inG l) Z (k * 3) (N * 3)) 51 ∧ Below w.heap.size w wr)) (fun t _ => N - (intOf t).toNat)
  case atStart => exact ⟨0, by omega, rfl, M0.out⟩
  case round =>
    clear M0
    rename World => wr
    obtain ⟨k, hk, rfl, hH⟩ := hrel
    obtain ⟨b1, bw⟩ := hH.out
    by_cases hlt : k < N
    · have kc : (k : Int) < (N : Int) := by omega
      have k0 : ¬ (k : Int) < 0 := by omega
      have ks : IntKind.i64.wrap ((k : Int) + 1) = (k : Int) + 1 := by simp [IntKind.wrap, IntKind.bits, IntKind.signed]; omega
      have cg0 : wr.cell? ⟨w.heap.size, k * 3, none⟩ = some (Z (k * 3)) := by rw [b1.cell, mixA_at _ _ _ _ _ (by omega), if_neg (by omega)]
      have cg1 : wr.cell? ⟨w.heap.size, k * 3 + 1, none⟩ = some (Z (k * 3 + 1)) := by rw [b1.cell, mixA_at _ _ _ _ _ (by omega), if_neg (by omega)]
      have cg2 : wr.cell? ⟨w.heap.size, k * 3 + 2, none⟩ = some (Z (k * 3 + 2)) := by rw [b1.cell, mixA_at _ _ _ _ _ (by omega), if_neg (by omega)]
      have fg0 := b1.frozen (k * 3)
      have fg1 := b1.frozen (k * 3 + 1)
      have fg2 := b1.frozen (k * 3 + 2)
      by_cases hm : k < n
      · obtain ⟨y, u, rfl, ly, hc0, hc1, hc2⟩ := CC.out k hm
        have km : (k : Int) < (n : Int) := by omega
        have b2 : Below w.heap.size w (set3 wr w.heap.size (k * 3) (.int .i64 (-77)) (.int .i64 0) (.int .i64 0)) := by
          unfold set3
          exact ((bw.setCell (Nat.le_refl _) _).setCell (Nat.le_refl _) _).setCell (Nat.le_refl _) _
        have c0 := (b2.cell (p := ⟨y, u + k * 3, none⟩) ly).trans hc0
        have c1 := (b2.cell (p := ⟨y, u + k * 3 + 1, none⟩) ly).trans hc1
        have c2 := (b2.cell (p := ⟨y, u + k * 3 + 2, none⟩) ly).trans hc2
        have NX := Lib.hid (p := BkP (set3 (set3 wr w.heap.size (k * 3) (.int .i64 (-77)) (.int .i64 0) (.int .i64 0)) w.heap.size (k * 3) (.int .i64 (l.getD k default).o) (.int .i64 (l.getD k default).a) (.int .i64 (l.getD k default).b)) w.heap.size (mixA (inG l) Z ((k + 1) * 3) (N * 3)) 51 ∧ Below w.heap.size w (set3 (set3 wr w.heap.size (k * 3) (.int .i64 (-77)) (.int .i64 0) (.int .i64 0)) w.heap.size (k * 3) (.int .i64 (l.getD k default).o) (.int .i64 (l.getD k default).a) (.int .i64 (l.getD k default).b))) ⟨by
          have e0 := GA.out k 0 (by omega)
          have e1 := GA.out k 1 (by omega)
          have e2 := GA.out k 2 (by omega)
          rw [if_pos hm] at e0 e1 e2
          exact mix33 b1 (by omega) e0 e1 e2, by
          have b3 := b2
          unfold set3 at b3 ⊢
          exact ((b3.setCell (Nat.le_refl _) _).setCell (Nat.le_refl _) _).setCell (Nat.le_refl _) _⟩
        unfold set3 at c0 c1 c2
        clear hH b1 bw b2 hc0 hc1 hc2
        generalize l.getD k default = i at *
        obtain ⟨io, ia, ib⟩ := i
        simp only at c0 c1 c2 NX
        go_wp2
        refine ⟨⟨k + 1, by omega, by go_num, ?_⟩, ?_⟩
        · exact NX.out
        · simp [intOf]
          omega
      · have km : ¬ (k : Int) < (n : Int) := by omega
        have NX := Lib.hid (p := BkP (set3 wr w.heap.size (k * 3) (.int .i64 (-77)) (.int .i64 0) (.int .i64 0)) w.heap.size (mixA (inG l) Z ((k + 1) * 3) (N * 3)) 51 ∧ Below w.heap.size w (set3 wr w.heap.size (k * 3) (.int .i64 (-77)) (.int .i64 0) (.int .i64 0))) ⟨by
          have e0 := GA.out k 0 (by omega)
          have e1 := GA.out k 1 (by omega)
          have e2 := GA.out k 2 (by omega)
          rw [if_neg hm] at e0 e1 e2
          exact mix3 b1 (by omega) e0 e1 e2, by
          unfold set3
          exact ((bw.setCell (Nat.le_refl _) _).setCell (Nat.le_refl _) _).setCell (Nat.le_refl _) _⟩
        clear hH b1 bw
        go_wp2
        refine ⟨⟨k + 1, by omega, by go_num, ?_⟩, ?_⟩
        · exact NX.out
        · simp [intOf]
          omega
    · obtain rfl : k = N := by omega
      have E := Lib.hid (FE.out wr b1 bw)
      clear hH b1 bw
      go_wp2
      go_ret
      exact E.out
end Go.Proofs.YtjbbbejadhojlaaDoor

namespace Go.Proofs.YtjbbbejadhojlaaDoor
open Go.RowKit
set_option linter.unusedVariables false
set_option linter.unusedSimpArgs false
theorem mixA_skip (G Z : Nat → Value) (t n : Nat) (h : G t = Z t) : mixA G Z (t + 1) n = mixA G Z t n := by
  unfold mixA
  congr 1
  apply List.map_congr_left
  intro j _
  by_cases z : j = t
  · subst z
    simp [h]
  · have : (j < t + 1) ↔ (j < t) := by omega
    simp [this]
theorem mixA_congr {G G' Z : Nat → Value} {t n : Nat} (h : ∀ j, j < t → G j = G' j) : mixA G Z t n = mixA G' Z t n := by
  unfold mixA
  congr 1
  apply List.map_congr_left
  intro j _
  by_cases z : j < t
  · rw [if_pos z, if_pos z, h j z]
  · rw [if_neg z, if_neg z]
def poG (l : List Int) (j : Nat) : Value := if j < l.length then .int .i64 (l.getD j 0) else .int .i64 (-77)
def sgc (s : Sg) (c : Nat) : List Value := [.int .i64 s.day, .slice (some ⟨c, 0, none⟩) s.code.length (s.code.length + 3)]
def sgG (l : List Sg) (cg : Nat → Nat) (j : Nat) : Value := if j / 2 < l.length then (sgc (l.getD (j / 2) default) (cg (j / 2))).getD (j % 2) default else ([.int .i64 (-77), .slice none 0 0] : List Value).getD (j % 2) default
theorem sgG_at (l : List Sg) (cg : Nat → Nat) (i c : Nat) (hc : c < 2) : sgG l cg (i * 2 + c) = if i < l.length then (sgc (l.getD i default) (cg i)).getD c default else ([.int .i64 (-77), .slice none 0 0] : List Value).getD c default := by
  unfold sgG
  rw [show (i * 2 + c) / 2 = i by omega, show (i * 2 + c) % 2 = c by omega]
/-- A block that is known. -/
structure Blk where
  b : Nat
  cs : Array Value
  t : TypeId
/-- handProgram is at work: its boxes, the blocks that it made. -/
structure HsI (w : World) (p : Pg) (xs : Array Value) (L : List Blk) (W : World) : Prop where
  be : Below w.heap.size w W
  pb : BkP W w.heap.size p.arr 26
  rb : BkP W (w.heap.size + 1) #[.slice none 0 0, .slice none 0 0, .slice none 0 0, .int .i64 0, .int .i64 0, .int .i64 0, .int .i64 0, .slice none 0 0] 26
  xb : BkP W (w.heap.size + 2) xs 26
  bl : ∀ x ∈ L, BkP W x.b x.cs x.t ∧ w.heap.size + 2 < x.b
  nd : (L.map Blk.b).Nodup
section
variable {w : World} {p : Pg} {xs : Array Value} {L : List Blk} {W : World}
theorem HsI.lat {W' : World} (h : HsI w p xs L W) (b : Below W.heap.size W W') : HsI w p xs L W' := ⟨h.be.trans (b.mono h.be.size), h.pb.lat b, h.rb.lat b, h.xb.lat b, fun x hx => ⟨(h.bl x hx).1.lat b, (h.bl x hx).2⟩, h.nd⟩
theorem HsI.setX (h : HsI w p xs L W) (k : Nat) (v : Value) (hk : k < xs.size) : HsI w p (xs.set! k v) L (W.setCell ⟨w.heap.size + 2, k, none⟩ v) := by
  refine ⟨h.be.setCell (by exact Nat.le_add_right _ _) _, h.pb.other _ _ _ (by omega), h.rb.other _ _ _ (by omega), h.xb.set2 k v hk, fun x hx => ?_, h.nd⟩
  have := (h.bl x hx).2
  exact ⟨(h.bl x hx).1.other _ _ _ (by omega), this⟩
theorem HsI.add {W' : World} (h : HsI w p xs L W) (b : Below W.heap.size W W') (x : Blk) (hx : BkP W' x.b x.cs x.t) (hb : W.heap.size ≤ x.b) : HsI w p xs (x :: L) W' := by
  have hl := h.lat b
  refine ⟨hl.be, hl.pb, hl.rb, hl.xb, fun y hy => ?_, ?_⟩
  · rcases List.mem_cons.1 hy with rfl | hy
    · exact ⟨hx, by have := h.xb.lt; omega⟩
    · exact hl.bl y hy
  · rw [List.map_cons, List.nodup_cons]
    refine ⟨fun z => ?_, h.nd⟩
    obtain ⟨y, hy, e⟩ := List.mem_map.1 z
    have := (h.bl y hy).1.lt
    omega
/-- The newest block is written. -/
theorem HsI.setH {x : Blk} (h : HsI w p xs (x :: L) W) {V : World} {cs : Array Value} (far : ∀ u, u ≠ x.b → V.heap[u]? = W.heap[u]?) (be : Below w.heap.size w V) (hx : BkP V x.b cs x.t) : HsI w p xs (⟨x.b, cs, x.t⟩ :: L) V := by
  have hn := h.nd
  rw [List.map_cons, List.nodup_cons] at hn
  have xg := (h.bl x List.mem_cons_self).2
  refine ⟨be, (far _ (by omega)).trans h.pb, (far _ (by omega)).trans h.rb, (far _ (by omega)).trans h.xb, fun y hy => ?_, by rw [List.map_cons, List.nodup_cons]; exact hn⟩
  rcases List.mem_cons.1 hy with rfl | hy
  · exact ⟨hx, xg⟩
  · have q := h.bl y (List.mem_cons_of_mem _ hy)
    exact ⟨(far _ (fun z => hn.1 (by rw [← z]; exact List.mem_map.2 ⟨y, hy, rfl⟩))).trans q.1, q.2⟩
end
theorem infoHN : (Tryd.prog.info? 3).map (fun i => (i.zero, i.size, i.bytes)) = some (some (.int .i64 0), 1, 8) := by kernel_rfl
theorem infoHG : (Tryd.prog.info? 43).map (fun i => (i.zero, i.size, i.bytes)) = some (some (.agg #[.int .i64 0, .slice none 0 0]), 2, 32) := by kernel_rfl
theorem make_intH (n : Nat) (hn : n ≤ 17592186043910) (W : World) : (Instr.makeSlice 23 (.int .i64 (n : Int)) (.int .i64 (n : Int))).run Tryd.prog W = .ok (.slice (some ⟨W.heap.size, 0, none⟩) n n) (W.alloc (.cells (madeCells #[.int .i64 0] n) 3)) := by
  obtain ⟨i0, hi, hz0, hz1, hz2⟩ := info_parts infoHN
  have := run_make (P := Tryd.prog) W 23 3 i0 _ Tryd.underlying23 hi hz0 .i64 .i64 n n (by omega) (by omega) (by rw [hz2]; omega) (by omega)
  rw [hz1] at this
  simpa [Value.cells] using this
theorem make_segH (n : Nat) (hn : n ≤ 4398046510980) (W : World) : (Instr.makeSlice 24 (.int .i64 (n : Int)) (.int .i64 (n : Int))).run Tryd.prog W = .ok (.slice (some ⟨W.heap.size, 0, none⟩) n n) (W.alloc (.cells (madeCells #[.int .i64 0, .slice none 0 0] (n * 2)) 43)) := by
  obtain ⟨i0, hi, hz0, hz1, hz2⟩ := info_parts infoHG
  have := run_make (P := Tryd.prog) W 24 43 i0 _ Tryd.underlying24 hi hz0 .i64 .i64 n n (by omega) (by omega) (by rw [hz2]; omega) (by omega)
  rw [hz1] at this
  simpa [Value.cells] using this
/-- The program that was handed over: its lists lie elsewhere, each with room; cd: its code, day by day. -/
def hdP (p : Pg) (gn gc gp gd : Nat) (cg : Nat → Nat) (cd : Nat → List In) : Pg := { na := some ⟨gn, 0, none⟩, nc := p.names.length + 3, names := p.names, ua := some ⟨gc, 0, none⟩, uc := p.curs.length + 3, curs := p.curs, pa := some ⟨gp, 0, none⟩, pc := p.pool.length + 3, pool := p.pool, hor := p.hor, cells := p.cells, slots := p.slots, stack := p.stack, da := some ⟨gd, 0, none⟩, dc := p.days.length + 3, days := (List.range p.days.length).map (fun d => ⟨(p.days.getD d default).day, some ⟨cg d, 0, none⟩, (p.days.getD d default).code.length + 3, cd d⟩) }
structure HnP (W : World) (B : Nat) (p : Pg) (gn gc gp gd : Nat) (cg : Nat → Nat) (cd : Nat → List In) : Prop where
  bn : BkP W gn (fullA (txG p.names) (p.names.length + 3)) 9
  bc : BkP W gc (fullA (txG p.curs) (p.curs.length + 3)) 9
  bp : BkP W gp (fullA (poG p.pool) (p.pool.length + 3)) 3
  bd : BkP W gd (fullA (sgG p.days cg) ((p.days.length + 3) * 2)) 43
  bi : ∀ d, d < p.days.length → BkP W (cg d) (fullA (inG (cd d)) (((p.days.getD d default).code.length + 3) * 3)) 51 ∧ (cd d).length = (p.days.getD d default).code.length ∧ B ≤ cg d
  lo : B ≤ gn ∧ B ≤ gc ∧ B ≤ gp ∧ B ≤ gd
  inj : ∀ d e, d < p.days.length → e < p.days.length → cg d = cg e → d = e
theorem HnP.lat {W W' : World} {B : Nat} {p : Pg} {gn gc gp gd : Nat} {cg : Nat → Nat} {cd : Nat → List In} (h : HnP W B p gn gc gp gd cg cd) (b : Below W.heap.size W W') : HnP W' B p gn gc gp gd cg cd := ⟨h.bn.lat b, h.bc.lat b, h.bp.lat b, h.bd.lat b, fun d hd => ⟨(h.bi d hd).1.lat b, (h.bi d hd).2⟩, h.lo, h.inj⟩
theorem full_row {W : World} {g N n k : Nat} {G : Nat → Value} {t : TypeId} (h : BkP W g (fullA G N) t) (hn : n * k ≤ N) {V : Nat → List Value} (e : ∀ i, i < n → ∀ j, j < k → G (i * k + j) = (V i).getD j default) : Row W (some ⟨g, 0, none⟩) n k V := by
  refine .inr ⟨g, 0, rfl, h.lt, fun i hi j hj => ?_⟩
  have q : i * k + j < N := by
    have : (i + 1) * k ≤ n * k := Nat.mul_le_mul_right _ (by omega)
    have : (i + 1) * k = i * k + k := Nat.succ_mul i k
    omega
  rw [Nat.zero_add, h.cell, fullA_at _ _ _ q, e i hi j hj]
/-- It lies in memory as programs do. -/
theorem HnP.pv {W : World} {B : Nat} {p : Pg} {gn gc gp gd : Nat} {cg : Nat → Nat} {cd : Nat → List In} (h : HnP W B p gn gc gp gd cg cd) {w : World} (hp : PV w p) (hc : ∀ d, d < p.days.length → ∀ i ∈ cd d, i64 i.o ∧ i64 i.a ∧ i64 i.b) : PV W (hdP p gn gc gp gd cg cd) := by
  have ll : ((List.range p.days.length).map (fun d => (⟨(p.days.getD d default).day, some ⟨cg d, 0, none⟩, (p.days.getD d default).code.length + 3, cd d⟩ : Sg))).length = p.days.length := by simp
  have n1 := hp.names.2.2.1
  have n2 := hp.curs.2.2.1
  have n3 := hp.pool.2.2.1
  have n4 := hp.days.2.2.1
  refine ⟨?_, ?_, ?_, hp.hor, hp.cells, hp.slots, hp.stack, ?_⟩
  · refine ⟨⟨fun z => (by cases z), Nat.le_add_right _ _, ?_⟩, rfl, hp.names.2.2.1, hp.names.2.2.2.1, ?_⟩
    · show p.names.length + 3 ≤ maxLen
      unfold maxLen
      omega
    · refine full_row (k := 1) h.bn (by show p.names.length * 1 ≤ _; omega) (fun i hi j hj => ?_)
      have j0 : j = 0 := by omega
      subst j0
      rw [Nat.mul_one, Nat.add_zero]
      unfold txG
      rw [if_pos (show i < p.names.length from hi)]
      rfl
  · refine ⟨⟨fun z => (by cases z), Nat.le_add_right _ _, ?_⟩, rfl, hp.curs.2.2.1, hp.curs.2.2.2.1, ?_⟩
    · show p.curs.length + 3 ≤ maxLen
      unfold maxLen
      omega
    · refine full_row (k := 1) h.bc (by show p.curs.length * 1 ≤ _; omega) (fun i hi j hj => ?_)
      have j0 : j = 0 := by omega
      subst j0
      rw [Nat.mul_one, Nat.add_zero]
      unfold txG
      rw [if_pos (show i < p.curs.length from hi)]
      rfl
  · refine ⟨⟨fun z => (by cases z), Nat.le_add_right _ _, ?_⟩, rfl, hp.pool.2.2.1, hp.pool.2.2.2.1, ?_⟩
    · show p.pool.length + 3 ≤ maxLen
      unfold maxLen
      omega
    · refine full_row (k := 1) h.bp (by show p.pool.length * 1 ≤ _; omega) (fun i hi j hj => ?_)
      have j0 : j = 0 := by omega
      subst j0
      rw [Nat.mul_one, Nat.add_zero]
      unfold poG
      rw [if_pos (show i < p.pool.length from hi)]
      rfl
  · have e1 : (hdP p gn gc gp gd cg cd).days.length = p.days.length := ll
    have at' : ∀ d, d < p.days.length → (hdP p gn gc gp gd cg cd).days.getD d default = ⟨(p.days.getD d default).day, some ⟨cg d, 0, none⟩, (p.days.getD d default).code.length + 3, cd d⟩ := fun d hd => by
      show ((List.range p.days.length).map _).getD d default = _
      simp [hd]
    rw [e1]
    refine ⟨⟨fun z => (by cases z), Nat.le_add_right _ _, ?_⟩, e1, n4, fun s hs => ?_, ?_⟩
    · show p.days.length + 3 ≤ maxLen
      unfold maxLen
      omega
    · obtain ⟨d, hd, rfl⟩ := List.mem_map.1 hs
      have hd : d < p.days.length := List.mem_range.1 hd
      have g := hp.days.2.2.2.1 _ (sg_mem hd)
      obtain ⟨b1, b2, b3⟩ := h.bi d hd
      have n5 := g.2.2.2.1
      refine ⟨g.1, ⟨fun z => (by cases z), ?_, ?_⟩, rfl, ?_, hc d hd, ?_⟩
      · show (cd d).length ≤ (p.days.getD d default).code.length + 3
        omega
      · show (p.days.getD d default).code.length + 3 ≤ maxLen
        unfold maxLen
        omega
      · show (cd d).length ≤ _
        omega
      · refine full_row (k := 3) b1 (by show (cd d).length * 3 ≤ _; omega) (fun i hi j hj => ?_)
        rw [inG_at _ _ _ hj, if_pos (show i < (cd d).length from hi)]
    · refine full_row (k := 2) h.bd (by omega) (fun i hi j hj => ?_)
      rw [sgG_at _ _ _ _ hj, if_pos hi, at' i hi]
      have := (h.bi i hi).2.1
      unfold sgc Sg.cs
      simp only [this]
end Go.Proofs.YtjbbbejadhojlaaDoor
