/-
  WALK: Print of the document.
-/
import Derived.Test.YtlcidigcecmnpaaGreatDoorME
import Derived.Test.YtlcidigcecmnpaaGreatDoorMK
import Derived.Test.YtlcidigcecmnpaaGreatDoorMH
import Derived.Test.YtlcidigcecmnpaaGreatDoorMB
import Derived.Test.YtlcidigcecmnpaaGreatDoorMD
import Derived.Test.YtlcidigcecmnpaaGreatDoorMG
import Derived.Test.YtlcidigcecmnpaaGreatDoorRows
import Derived.Test.YtlcidigcecmnpaaGreatDoorOpenP
import Derived.Test.YtlcidigcecmnpaaGreatDoorMA
import Derived.Lib.LaidTab
import Derived.Stop.LaidErr
namespace Go.Proofs.YtlcidigcecmnpaaGreatDoor
open Go.RowKit
set_option linter.unusedVariables false
set_option linter.unusedSimpArgs false
/-- What a line comes to. -/
def lnTx (ws : List ByteArray) : List UInt8 := (if ws.getD 0 ⟨#[]⟩ = ⟨#[]⟩ then [32, 32] ++ jnL (ws.drop 1) else jnL ws) ++ [10]
theorem jn_cons (x : ByteArray) (ws : List ByteArray) (h : ws ≠ []) : jnL (x :: ws) = x.data.toList ++ [32] ++ jnL ws := by
  cases ws with
  | nil => exact absurd rfl h
  | cons y r => unfold jnL; simp only [List.map_cons]; rw [Lib.join_cons, Lib.join_cons]; simp [Lib.joinTail]
theorem ln_ne : ∀ k, k < 8 → ¬ lnA k = ⟨#[]⟩ := by
  intro k hk
  have h : ∀ k, k < 8 → (lnA k).data.toList ≠ [] := by
    intro k hk
    match k, hk with
    | 0, _ => decide
    | 1, _ => decide
    | 2, _ => decide
    | 3, _ => decide
    | 4, _ => decide
    | 5, _ => decide
    | 6, _ => decide
    | 7, _ => decide
  intro e
  exact h k hk (by rw [e])
theorem tx_ls1 (k : Nat) (hk : k < 8) (ws : List ByteArray) : (ls1 k ws).flatMap lnTx = lnL k ws := by
  unfold ls1 lnL
  split
  · rfl
  · rename_i h
    simp only [List.flatMap_cons, List.flatMap_nil, List.append_nil]
    unfold lnTx
    rw [if_neg (by simpa [List.getD] using ln_ne k hk), jn_cons _ _ h]
theorem tx_two (k : Nat) (hk : k < 8) (v : Int) : lnTx [lnA k, txA v] = nmLn k v := by
  unfold lnTx nmLn
  rw [if_neg (by simpa [List.getD] using ln_ne k hk)]
theorem tx_in (p : Pg) (i : In) : lnTx (inLs p i) = inLn p i := by
  unfold lnTx inLs inLn
  rw [if_pos (by simp [List.getD])]
  rfl
theorem tx_dy (p : Pg) (s : Sg) : (dyLs p s).flatMap lnTx = dyLn p s := by
  unfold dyLs dyLn
  rw [List.flatMap_cons, tx_two 7 (by omega), List.flatMap_map]
  congr 1
theorem tx_lines (p : Pg) : (linesP p).flatMap lnTx = txtP p := by
  unfold linesP hdLs txtP hdT ls4
  simp only [List.flatMap_append, List.nil_append]
  rw [tx_ls1 0 (by omega), tx_ls1 1 (by omega), tx_ls1 2 (by omega)]
  simp only [List.flatMap_cons, List.flatMap_nil, List.append_nil]
  rw [tx_two 3 (by omega), tx_two 4 (by omega), tx_two 5 (by omega), tx_two 6 (by omega)]
  have e : (p.days.flatMap (dyLs p)).flatMap lnTx = p.days.flatMap (dyLn p) := by
    rw [List.flatMap_assoc]
    exact congrArg (fun f => p.days.flatMap f) (funext (fun s => tx_dy p s))
  rw [e]
  simp [List.flatMap_nil]
set_option maxRecDepth 100000 in
set_option maxHeartbeats 4000000 in
theorem joinedO_any (w : World) (g o n c : Nat) (xs : List ByteArray) (hl : xs.length = n) (hn : n ≤ 1000000) (hc : ∀ j x, xs[j]? = some x → w.cell? ⟨g, o + j, none⟩ = some (.string x)) (hg : g < w.heap.size) (hz : (jP xs n).length ≤ 140737488355328) (h0 : jP xs n ≠ []) :
    Calls Tryz.prog 13 #[.slice (some ⟨g, o, none⟩) n c] w fun e w' => e = .returned (.string ⟨(jP xs n).toArray⟩) ∧ Below w.heap.size w w' := by
  obtain ⟨i0, hi, hz0, hz1, hz2⟩ := info_parts info8a
  have HZ := Lib.hid (p := ∀ k, k ≤ n → (jP xs k).length ≤ 140737488355328) (fun k hk => by
    have := jP_mono xs (n - k) k (by omega)
    rw [show k + (n - k) = n by omega] at this
    omega)
  have HC := Lib.hid (p := ∀ W, Below w.heap.size w W → ∀ k, k < n → W.cell? ⟨g, o + k, none⟩ = some (.string (xs.getD k ⟨#[]⟩))) (fun W b k hk => (b.cell (p := ⟨g, o + k, none⟩) hg).trans (hc k _ (by simp [List.getD, show k < xs.length by omega])))
  have H0 := Lib.hid h0
  have HL := Lib.hid hl
  clear hc hz h0 hl
  go_enter Tryz.func13, Tryz.ntmps13
  go_wp2
  go_loopw [3, 4] (fun t u wr => ∃ (k : Nat) (v : Value), k ≤ n ∧ v = t ∧ u = .int .i64 (k : Int) ∧ wr.ownsRow w.heap.size 5 1 v (jP xs k).length (Lib.byteCells (jP xs k)) ∧ Below w.heap.size w wr) (fun t u _ => n - (intOf u).toNat)
  case atStart => exact ⟨0, _, by omega, rfl, rfl, World.ownsRow_nil _ _ _ _, Below.refl _ _⟩
  case round =>
    rename World => wr
    obtain ⟨k, v, hk, rfl, rfl, hO, hB⟩ := hrel
    have O := Lib.hid hO
    have B := Lib.hid hB
    clear hO hB
    by_cases hlt : k < n
    · have kc : (k : Int) < (n : Int) := by omega
      have ST := Lib.hid (jP_step (xs := xs) (k := k) (by rw [HL.out]; exact hlt))
      have Z1 := HZ.out (k + 1) (by omega)
      rw [ST.out] at Z1
      have sz : (xs.getD k ⟨#[]⟩).data.toList.length = (xs.getD k ⟨#[]⟩).size := Array.length_toList
      by_cases hk0 : k = 0
      · subst hk0
        simp only [if_true, List.nil_append] at ST Z1
        have x0 := HC.out _ B.out 0 hlt
        rw [Nat.add_zero] at x0
        generalize xs.getD 0 ⟨#[]⟩ = s at *
        have j0 : jP xs 0 = [] := by simp [jP, Lib.join_nil]
        have O' := O.out
        rw [j0] at O'
        have O1 := Lib.hid O'
        have Z2 := Lib.hid (p := 0 + s.size ≤ maxLen ∧ 0 + s.size ≤ 140737488355328) (by unfold maxLen; omega)
        clear O' Z1 sz j0
        go_wp2_with (at_builtin; refine Lib.wpList_append_own_string _ rfl _ _ 40 9 rfl w.heap.size 5 i0 Tryz.underlying40 Tryz.underlying9 hi hz0 hz1 hz2 _ 0 [] rfl O1.out s rfl Z2.out.1 Z2.out.2 B.out.size ?_; intro v1 w1 k1 k2 _; have O2 := Lib.hid k1; have B2 := Lib.hid (B.out.grown k2 B.out.size (fun k e => (O.out.lt k e).1)); clear k1 k2)
        go_roundw
        case rel =>
          refine ⟨1, _, by omega, rfl, rfl, ?_, B2.out⟩
          have := O2.out
          rw [strCells_bytes, List.nil_append] at this
          rw [show (1 : Nat) = 0 + 1 from rfl, ST.out]
          have e : s.data.toList.length = s.size := Array.length_toList
          rw [e, show s.size = 0 + s.size by omega]
          exact this
        case measure => simp [intOf]; omega
      · simp only [if_neg hk0] at ST Z1
        have kp : (0 : Int) < (k : Int) := by omega
        have x0 := HC.out _ B.out k hlt
        have XC := Lib.hid (fun W b => HC.out W b k hlt)
        generalize xs.getD k ⟨#[]⟩ = s at *
        have Z2 := Lib.hid (p := (jP xs k).length + 1 + s.size ≤ maxLen ∧ (jP xs k).length + 1 + s.size ≤ 140737488355328) (by unfold maxLen; simp at Z1; omega)
        clear Z1 sz
        have A0 : True := trivial
        go_wp2_with (first
          | (at_builtin; have qq := A0; refine wpList_append_own_at _ rfl _ _ 40 rfl w.heap.size 5 i0 _ 1 1 Tryz.underlying40 hi hz0 hz1 hz2 rfl (by decide) v (jP xs k).length (Lib.byteCells (jP xs k)) rfl (O.out.alloc _) ⟨wr.heap.size, 0, none⟩ 1 1 [.int .u8 32] rfl rfl (cell_one_new wr _ _) (by intro u hu; simp at hu; subst hu; rfl) (by have := Z2.out; omega) (by have := Z2.out; omega) (Nat.le_trans B.out.size (by simp)) ?_; intro v1 w1 k1 k2 k3 k4; have O1 := Lib.hid k1; have B1 := Lib.hid ((B.out.alloc B.out.size _).grown k2 (Nat.le_trans B.out.size (by simp)) (fun k e => (O.out.lt k e).1)); clear k1 k2 k3 k4 A0 x0; have x1 := XC.out _ B1.out)
          | (at_builtin; have qq := O1; refine Lib.wpList_append_own_string _ rfl _ _ 40 9 rfl w.heap.size 5 i0 Tryz.underlying40 Tryz.underlying9 hi hz0 hz1 hz2 _ _ _ rfl O1.out s rfl Z2.out.1 Z2.out.2 B1.out.size ?_; intro v2 w2 k1 k2 _; have O2 := Lib.hid k1; have B2 := Lib.hid (B1.out.grown k2 B1.out.size (fun k e => (O1.out.lt k e).1)); clear k1 k2))
        go_roundw
        case rel =>
          refine ⟨k + 1, _, by omega, rfl, by go_num, ?_, B2.out⟩
          have := O2.out
          rw [strCells_bytes] at this
          rw [ST.out]
          have e : s.data.toList.length = s.size := Array.length_toList
          have e2 : Lib.byteCells (jP xs k ++ [32] ++ s.data.toList) = Lib.byteCells (jP xs k) ++ [.int .u8 32] ++ Lib.byteCells s.data.toList := by simp [Lib.byteCells]
          rw [e2, List.length_append, List.length_append, e]
          exact this
        case measure => simp [intOf]; omega
    · obtain rfl : k = n := by omega
      obtain ⟨g', cap, rfl, CV⟩ := conv_bytes13 O.out H0.out
      clear O
      go_wp2
      go_ret
      exact ⟨rfl, B.out⟩
theorem jn_jP (ws : List ByteArray) : jP ws ws.length = jnL ws := by unfold jP jnL; rw [List.take_length]
/-- A line joined. -/
theorem lineJ {W : World} {g n c : Nat} {ws : List ByteArray} (h : LnV W (.slice (some ⟨g, 0, none⟩) n c) ws) (o : Nat) (ho : o ≤ ws.length) (hn : ws.length ≤ 1000000) (hz : (jnL (ws.drop o)).length ≤ 140737488355328) (h0 : jnL (ws.drop o) ≠ []) (c' : Nat) :
    Calls Tryz.prog 13 #[.slice (some ⟨g, o, none⟩) (ws.length - o) c'] W fun e w' => e = .returned (.string ⟨(jnL (ws.drop o)).toArray⟩) ∧ Below W.heap.size W w' := by
  obtain ⟨g', c2, cs, fz, e, _, h3, h4⟩ := h
  injection e with e _ _
  injection e with e
  injection e with e
  subst e
  have el : (ws.drop o).length = ws.length - o := List.length_drop
  have := joinedO_any W g o (ws.length - o) c' (ws.drop o) el (by omega) (fun j x hj => h4 (o + j) x (by rw [List.getElem?_drop] at hj; exact hj)) (Array.getElem?_eq_some_iff.1 h3).1 (by rw [← el, jn_jP]; exact hz) (by rw [← el, jn_jP]; exact h0)
  rw [← el, jn_jP, el] at this
  exact this
end Go.Proofs.YtlcidigcecmnpaaGreatDoor

namespace Go.Proofs.YtlcidigcecmnpaaGreatDoor
open Go.RowKit
set_option linter.unusedVariables false
set_option linter.unusedSimpArgs false
/-- What the document's lines answer. -/
def LinesA (w : World) (p : Pg) : Prop := ∀ W, Below w.heap.size w W → Calls Tryz.prog 12 #[p.agg] W fun e w' => ∃ v vs, e = .returned v ∧ LW w' (W.heap.size + 1) v vs (linesP p) ∧ Below W.heap.size W w'
theorem ln_ok {p : Pg} (h : SmP p) : ∀ i, i < (linesP p).length → 1 ≤ ((linesP p).getD i []).length ∧ jnL (((linesP p).getD i []).drop (if ((linesP p).getD i []).getD 0 ⟨#[]⟩ = ⟨#[]⟩ then 1 else 0)) ≠ [] ∧ ((linesP p).getD i []).length ≤ 1000000 := by
  have key : ∀ ws ∈ linesP p, 1 ≤ ws.length ∧ jnL (ws.drop (if ws.getD 0 ⟨#[]⟩ = ⟨#[]⟩ then 1 else 0)) ≠ [] ∧ ws.length ≤ 1000000 := by
    have a : ∀ k, k < 8 → ∀ l : List ByteArray, l ≠ [] → l.length ≤ 999999 → 1 ≤ (lnA k :: l).length ∧ jnL ((lnA k :: l).drop (if (lnA k :: l).getD 0 ⟨#[]⟩ = ⟨#[]⟩ then 1 else 0)) ≠ [] ∧ (lnA k :: l).length ≤ 1000000 := by
      intro k hk l hl hb
      refine ⟨by simp, ?_, by simp; omega⟩
      rw [if_neg (by simpa [List.getD] using ln_ne k hk), List.drop_zero, jn_cons _ _ hl]
      simp
    intro ws hw
    unfold linesP hdLs ls4 ls1 at hw
    simp only [List.nil_append, List.mem_append, List.mem_flatMap] at hw
    rcases hw with (((hw | hw) | hw) | hw) | ⟨s, hs, hw⟩
    · split at hw
      · simp at hw
      · rename_i q; simp at hw; subst hw; exact a 0 (by omega) _ q (by have := h.nl; omega)
    · split at hw
      · simp at hw
      · rename_i q; simp at hw; subst hw; exact a 1 (by omega) _ q (by have := h.ul; omega)
    · split at hw
      · simp at hw
      · rename_i q; simp at hw; subst hw; exact a 2 (by omega) _ (by simpa using q) (by have := h.pl; simp; omega)
    · simp at hw
      rcases hw with rfl | rfl | rfl | rfl
      · exact a 3 (by omega) _ (by simp) (by simp)
      · exact a 4 (by omega) _ (by simp) (by simp)
      · exact a 5 (by omega) _ (by simp) (by simp)
      · exact a 6 (by omega) _ (by simp) (by simp)
    · unfold dyLs at hw
      rw [List.mem_cons, List.mem_map] at hw
      rcases hw with rfl | ⟨i, hi, rfl⟩
      · exact a 7 (by omega) _ (by simp) (by simp)
      · have ho := h.ok s hs i hi
        unfold inLs
        refine ⟨by simp, ?_, ?_⟩
        · rw [if_pos (by simp [List.getD]), List.drop_one, List.tail_cons]
          exact wds_ne _ _ _ i ho
        · have := wds_l3 p.names p.curs p.pool i; simp; omega
  intro i hi
  exact key _ (by simp [List.getD, hi])
end Go.Proofs.YtlcidigcecmnpaaGreatDoor

namespace Go.Proofs.YtlcidigcecmnpaaGreatDoor
open Go.RowKit
set_option linter.unusedVariables false
set_option linter.unusedSimpArgs false
theorem flat_preL (l : List (List ByteArray)) (k : Nat) : ((l.take k).flatMap lnTx).length ≤ (l.flatMap lnTx).length := flat_pre lnTx l k
theorem l_cell {W : World} {B gl n cl k : Nat} {vs : List Value} {L : List (List ByteArray)} (h : LW W B (.slice (some ⟨gl, 0, none⟩) n cl) vs L) (hk : k < L.length) : W.cell? ⟨gl, k, none⟩ = some (vs.getD k default) := by
  have := h.own.cells (g := gl) rfl k (vs.getD k default) (by have := h.len; simp [List.getD, show k < vs.length by omega])
  rw [Go.Addr.add_lit, Nat.zero_add] at this
  exact this
theorem lnv_gr8 {W W' : World} {B n : Nat} {v x : Value} {xs : List Value} {ws : List ByteArray} (h : LnV W x ws) (o : W.ownsRow B 5 1 v n xs) (g : W.grownBy W' v.ownBlock) : LnV W' x ws :=
  h.blk (fun k cs fz hk => g.block k (Array.getElem?_eq_some_iff.1 hk).1 (fun e => by
    obtain ⟨c, f, hc⟩ := row_kind o k e.symm
    rw [hk] at hc
    injection hc with hc
    injection hc with _ hc _
    revert hc; decide))
set_option maxHeartbeats 8000000 in
set_option maxRecDepth 100000 in
theorem refPrint_any {w : World} {p : Pg} (h : PV w p) (hL : canP p → LinesA w p) :
    Calls Tryz.prog 6 #[p.agg] w fun e w' => e = .returned (.tuple #[.string (if canP p then ⟨(txtP p).toArray⟩ else ⟨#[]⟩), .int .i64 (if canP p then 0 else 121)]) ∧ Below w.heap.size w w' := by
  have A1 := allocBP w (.cells p.arr 26)
  have X1 : BkP (w.alloc (.cells p.arr 26)) w.heap.size p.arr 26 := heapN w _
  have KC := Lib.hid (fun W (b : Below w.heap.size w W) => canonR_any (h.later b))
  by_cases hc : canP p
  · have SM := sm_of_can h hc
    have LO := Lib.hid (ln_ok SM)
    have KL := Lib.hid (hL hc)
    have TX : (txtP p).length ≤ 1000000000 := SM.tx
    have TL := tx_lines p
    have NL : 4 ≤ (linesP p).length := by unfold linesP hdLs ls4; simp only [List.length_append, List.length_cons, List.length_nil]; omega
    have NU : (linesP p).length ≤ 2000000000 := by
      have a := flat_leL (dyLs p) 262145 p.days (fun s hs => by have := SM.cl s hs; unfold dyLs; simp only [List.length_cons, List.length_map]; omega)
      have d := SM.dl
      have b : (hdLs p).length ≤ 20 := by unfold hdLs ls1 ls4; (repeat' split) <;> simp
      unfold linesP
      rw [List.length_append]
      omega
    simp only [if_pos hc] at KC ⊢
    have CE := Lib.hid (p := ∀ W, Below (w.alloc (.cells p.arr 26)).heap.size (w.alloc (.cells p.arr 26)) W → BkP W w.heap.size p.arr 26) (fun W b => X1.grown (gr_below b none) (fun e => by cases e))
    have B1 := Lib.hid A1
    obtain ⟨c0, c1, c2, c3, c4, c5, c6, c7⟩ := pcells13 X1
    obtain ⟨i0, hi, hz0, hz1, hz2⟩ := info_parts info8a
    rw [← TL] at TX ⊢
    have TE := Lib.hid (p := (linesP p).flatMap lnTx ≠ []) (by
      intro q
      have z := LO.out 0 (by omega)
      have y := flat_preL (linesP p) 1
      rw [q] at y
      have e1 : (linesP p).take 1 = [(linesP p).getD 0 []] := by
        cases hq : linesP p with
        | nil => rw [hq] at NL; simp at NL
        | cons a r => simp [List.getD]
      rw [e1] at y
      simp only [List.flatMap_cons, List.flatMap_nil, List.append_nil, List.length_nil] at y
      unfold lnTx at y
      simp at y)
    clear A1 X1 h hL hc SM TL
    unfold LinesA at KL
    unfold Pg.arr at *
    unfold Pg.agg at *
    generalize linesP p = LL at *
    obtain ⟨tt, htt⟩ : ∃ t, LL.flatMap lnTx = t := ⟨_, rfl⟩
    rw [htt] at TX TE ⊢
    have HTT := Lib.hid htt
    clear htt
    generalize hW1 : w.alloc _ = W1 at *
    go_enter Tryz.func6, Tryz.ntmps6
    go_wp2_with (first
      | (go_at_call 11; refine (KC.out _ B1.out).mono ?_; rintro e w2 ⟨rfl, b1⟩; have B2 := Lib.hid (B1.out.trans (b1.mono B1.out.size)); have X2 := CE.out _ b1; clear b1 c0 c1 c2 c3 c4 c5 c6 c7; obtain ⟨c0, c1, c2, c3, c4, c5, c6, c7⟩ := pcells13 X2; clear X2)
      | (go_at_call 12; refine (KL.out _ B2.out).mono ?_; rintro e w3 ⟨v, vs, rfl, hW, b1⟩; have B3 := Lib.hid (B2.out.trans (b1.mono B2.out.size)); obtain ⟨gl, cl, rfl, _, _, _⟩ := row_someP hW.own (fun q => by
          subst q
          rcases hW.own.2 with ⟨_, q⟩ | ⟨g, cap, cur, q, _⟩
          · omega
          · cases q); have LWH := Lib.hid hW; clear b1 hW c0 c1 c2 c3 c4 c5 c6 c7))
    clear KC KL CE hW1 B1 B2
    go_loopw [5, 7] (fun t u wr => ∃ (k : Nat) (y : Value), k ≤ LL.length ∧ y = t ∧ u = .int .i64 (k : Int) ∧ wr.ownsRow w3.heap.size 5 1 y ((LL.take k).flatMap lnTx).length (Lib.byteCells ((LL.take k).flatMap lnTx)) ∧ Below w3.heap.size w3 wr) (fun t u _ => LL.length - (intOf u).toNat)
    case atStart => exact ⟨0, _, by omega, rfl, rfl, World.ownsRow_nil _ _ _ _, Below.refl _ _⟩
    case round =>
      rename World => wr
      obtain ⟨k, y, hk, rfl, rfl, hO, hB⟩ := hrel
      have O := Lib.hid hO
      have BB := Lib.hid hB
      have LR := Lib.hid (LWH.out.later hB)
      clear hO hB
      by_cases hlt : k < LL.length
      · have kc : (k : Int) < (LL.length : Int) := by omega
        obtain ⟨g, c, cs, fz, ex, hcc, hh, hcl⟩ := LR.out.ln k hlt
        have l0 : wr.cell? ⟨gl, k, none⟩ = some (vs.getD k default) := by
          have := LR.out.own.cells (g := gl) rfl k (vs.getD k default) (by have := LR.out.len; simp [List.getD, show k < vs.length by omega])
          rw [Go.Addr.add_lit, Nat.zero_add] at this
          exact this
        have LV := Lib.hid (LR.out.ln k hlt)
        have EX := Lib.hid ex
        rw [ex] at l0 LV
        obtain ⟨z1, z2, z3⟩ := LO.out k hlt
        have NX := Lib.hid (flat_next lnTx LL k hlt)
        have P1 := flat_preL LL (k + 1)
        rw [flat_next lnTx LL k hlt, List.length_append, HTT.out] at P1
        rw [show LL.getD k default = LL.getD k [] from rfl] at NX P1
        obtain ⟨ws, hws⟩ : ∃ ws, LL.getD k [] = ws := ⟨_, rfl⟩
        rw [hws] at l0 LV z1 z2 z3 NX P1 hcl hcc EX
        have f0 : wr.cell? ⟨g, 0, none⟩ = some (.string (ws.getD 0 ⟨#[]⟩)) := hcl 0 _ (by simp [List.getD, show 0 < ws.length by omega])
        have m0 : (0 : Int) < (ws.length : Int) := by omega
        clear hcl hh ex hws
        generalize hpre : (LL.take k).flatMap lnTx = pre at *
        clear hpre
        have tl : (lnTx ws).length = (if ws.getD 0 ⟨#[]⟩ = ⟨#[]⟩ then [32, 32] ++ jnL (ws.drop 1) else jnL ws).length + 1 := by unfold lnTx; simp
        by_cases e : ws.getD 0 ⟨#[]⟩ = ⟨#[]⟩
        · rw [if_pos e] at z2 tl
          simp only [List.length_append, List.length_cons, List.length_nil] at tl
          have w2 : 2 ≤ ws.length := by
            refine Decidable.byContradiction fun q => z2 ?_
            rw [List.drop_eq_nil_of_le (by omega)]
            simp [jnL, Lib.join_nil]
          have q1 : ¬ c = 1 := by omega
          have q2 : ¬ c - 1 = 0 := by omega
          have q3 : ¬ c ≤ 1 := by omega
          have q4 : ¬ 1 = c := by omega
          have LT : lnTx ws = [32, 32] ++ jnL (ws.drop 1) ++ [10] := by unfold lnTx; rw [if_pos e]
          have KJ := Lib.hid (fun W (b : LnV W (.slice (some ⟨g, 0, none⟩) ws.length c) ws) => lineJ b 1 (by omega) z3 (by omega) z2 (c - 1))
          rw [e] at f0
          have LTH := Lib.hid LT
          have SZ := Lib.hid (p := pre.length + 2 + (jnL (ws.drop 1)).length + 1 ≤ 1000000000) (by omega)
          have s1 : (⟨(jnL (ws.drop 1)).toArray⟩ : ByteArray).size = (jnL (ws.drop 1)).length := by simp [ByteArray.size]
          have S1 := Lib.hid s1
          have D1 := Lib.hid (p := (⟨(jnL (ws.drop 1)).toArray⟩ : ByteArray).data.toList = jnL (ws.drop 1)) (by simp)
          clear LT tl e P1 s1 z2
          generalize jnL (ws.drop 1) = js at *
          generalize hsb : (⟨js.toArray⟩ : ByteArray) = jb at *
          have A0 : True := trivial
          have ne : (⟨#[]⟩ : ByteArray).toList.isEmpty = true := by rw [isEmpty_lst]; rfl
          go_wp2_with (first
            | (at_builtin; have qq := A0; refine Lib.wpList_append_own_string _ rfl _ _ 40 9 rfl w3.heap.size 5 i0 Tryz.underlying40 Tryz.underlying9 hi hz0 hz1 hz2 _ _ _ rfl O.out ⟨#[32, 32]⟩ rfl (by have := SZ.out; unfold maxLen; show _ + 2 ≤ _; omega) (by have := SZ.out; show _ + 2 ≤ _; omega) BB.out.size ?_; intro v4 w4 k1 k2 _; have O4 := Lib.hid k1; have G4 := Lib.hid (BB.out.grown k2 BB.out.size (fun k e => (O.out.lt k e).1)); have L4 := Lib.hid (LWH.out.later G4.out); have l4 := l_cell L4.out hlt; rw [EX.out] at l4; have B4 := Lib.hid (lnv_gr8 LV.out O.out k2); clear k1 k2 A0 l0 f0)
            | (go_at_call 13; refine (KJ.out _ B4.out).mono ?_; rintro e w5 ⟨rfl, b5⟩; have O5 := Lib.hid (row_farP O4.out (gr_below b5 none) (fun k q e => by cases e)); have B5 := Lib.hid (G4.out.trans (b5.mono G4.out.size)); clear b5)
            | (at_builtin; have qq := O5; refine Lib.wpList_append_own_string _ rfl _ _ 40 9 rfl w3.heap.size 5 i0 Tryz.underlying40 Tryz.underlying9 hi hz0 hz1 hz2 _ _ _ rfl O5.out jb rfl (by have := SZ.out; have := S1.out; unfold maxLen; show _ + 2 + _ ≤ _; omega) (by have := SZ.out; have := S1.out; show _ + 2 + _ ≤ _; omega) B5.out.size ?_; intro v6 w6 k1 k2 _; have O6 := Lib.hid k1; have B6 := Lib.hid (B5.out.grown k2 B5.out.size (fun k e => (O5.out.lt k e).1)); clear k1 k2 O5)
            | (at_builtin; have qq := O6; refine wpList_append_own_at _ rfl _ _ 40 rfl w3.heap.size 5 i0 _ 1 1 Tryz.underlying40 hi hz0 hz1 hz2 rfl (by decide) _ _ _ rfl (O6.out.alloc _) ⟨w6.heap.size, 0, none⟩ 1 1 [.int .u8 10] rfl rfl (cell_one_new w6 _ _) (by intro u hu; simp at hu; subst hu; rfl) (by have := SZ.out; have := S1.out; unfold maxLen; show _ + 2 + _ + 1 ≤ _; omega) (by have := SZ.out; have := S1.out; show (_ + 2 + _ + 1) * 1 ≤ _; omega) (Nat.le_trans B6.out.size (by simp)) ?_; intro v7 w7 k1 k2 k3 k4; have O7 := Lib.hid k1; have B7 := Lib.hid ((B6.out.alloc B6.out.size _).grown k2 (Nat.le_trans B6.out.size (by simp)) (fun k e => (O6.out.lt k e).1)); clear k1 k2 k3 k4))
          go_roundw
          case rel =>
            have OO := O7.out
            refine ⟨k + 1, _, by omega, rfl, by go_num, ?_, B7.out⟩
            rw [NX.out, LTH.out]
            rw [str_bytes, str_bytes, D1.out] at OO
            have e2 : Lib.byteCells (pre ++ ([32, 32] ++ js ++ [10])) = Lib.byteCells pre ++ Lib.byteCells [32, 32] ++ Lib.byteCells js ++ [.int .u8 10] := by simp [Lib.byteCells]
            have e3 : (pre ++ ([32, 32] ++ js ++ [10])).length = pre.length + 2 + jb.size + 1 := by rw [S1.out]; simp; omega
            rw [e2, e3]
            exact OO
          case measure => simp [intOf]; omega
        · rw [if_neg e] at z2 tl
          rw [List.drop_zero] at z2
          have LT : lnTx ws = jnL ws ++ [10] := by unfold lnTx; rw [if_neg e]
          have KJ := Lib.hid (fun W (b : LnV W (.slice (some ⟨g, 0, none⟩) ws.length c) ws) => lineJ b 0 (by omega) z3 (by rw [List.drop_zero]; omega) (by rw [List.drop_zero]; exact z2) c)
          rw [List.drop_zero] at KJ
          simp only [Nat.sub_zero] at KJ
          have ne : (ws.getD 0 ⟨#[]⟩).toList.isEmpty = false := by
            rw [isEmpty_lst]
            cases hq : lst (ws.getD 0 ⟨#[]⟩) with
            | nil => exact absurd (by rw [← bs_lst (ws.getD 0 ⟨#[]⟩), hq]; rfl) e
            | cons _ _ => rfl
          have LTH := Lib.hid LT
          have SZ := Lib.hid (p := pre.length + (jnL ws).length + 1 ≤ 1000000000) (by omega)
          have S1 := Lib.hid (p := (⟨(jnL ws).toArray⟩ : ByteArray).size = (jnL ws).length) (by simp [ByteArray.size])
          have D1 := Lib.hid (p := (⟨(jnL ws).toArray⟩ : ByteArray).data.toList = jnL ws) (by simp)
          clear LT tl e P1 z2
          generalize jnL ws = js at *
          generalize hsb : (⟨js.toArray⟩ : ByteArray) = jb at *
          generalize ws.getD 0 ⟨#[]⟩ = fw at *
          have A0 : True := trivial
          go_wp2_with (first
            | (go_at_call 13; refine (KJ.out _ LV.out).mono ?_; rintro e w5 ⟨rfl, b5⟩; have O5 := Lib.hid (row_farP O.out (gr_below b5 none) (fun k q e => by cases e)); have B5 := Lib.hid (BB.out.trans (b5.mono BB.out.size)); clear b5)
            | (at_builtin; have qq := O5; refine Lib.wpList_append_own_string _ rfl _ _ 40 9 rfl w3.heap.size 5 i0 Tryz.underlying40 Tryz.underlying9 hi hz0 hz1 hz2 _ _ _ rfl O5.out jb rfl (by have := SZ.out; have := S1.out; unfold maxLen; omega) (by have := SZ.out; have := S1.out; omega) B5.out.size ?_; intro v6 w6 k1 k2 _; have O6 := Lib.hid k1; have B6 := Lib.hid (B5.out.grown k2 B5.out.size (fun k e => (O5.out.lt k e).1)); clear k1 k2 O5)
            | (at_builtin; have qq := O6; refine wpList_append_own_at _ rfl _ _ 40 rfl w3.heap.size 5 i0 _ 1 1 Tryz.underlying40 hi hz0 hz1 hz2 rfl (by decide) _ _ _ rfl (O6.out.alloc _) ⟨w6.heap.size, 0, none⟩ 1 1 [.int .u8 10] rfl rfl (cell_one_new w6 _ _) (by intro u hu; simp at hu; subst hu; rfl) (by have := SZ.out; have := S1.out; unfold maxLen; omega) (by have := SZ.out; have := S1.out; omega) (Nat.le_trans B6.out.size (by simp)) ?_; intro v7 w7 k1 k2 k3 k4; have O7 := Lib.hid k1; have B7 := Lib.hid ((B6.out.alloc B6.out.size _).grown k2 (Nat.le_trans B6.out.size (by simp)) (fun k e => (O6.out.lt k e).1)); clear k1 k2 k3 k4))
          go_roundw
          case rel =>
            have OO := O7.out
            refine ⟨k + 1, _, by omega, rfl, by go_num, ?_, B7.out⟩
            rw [NX.out, LTH.out]
            rw [str_bytes, D1.out] at OO
            have e2 : Lib.byteCells (pre ++ (js ++ [10])) = Lib.byteCells pre ++ Lib.byteCells js ++ [.int .u8 10] := by simp [Lib.byteCells]
            have e3 : (pre ++ (js ++ [10])).length = pre.length + jb.size + 1 := by rw [S1.out]; simp; omega
            rw [e2, e3]
            exact OO
          case measure => simp [intOf]; omega
      · obtain rfl : k = LL.length := by omega
        have O1 := O.out
        rw [List.take_length, HTT.out] at O1
        obtain ⟨g', cap, rfl, CV⟩ := conv_bytes13 O1 TE.out
        clear O1 O
        go_wp2
        go_ret2
        exact ⟨rfl, B3.out.trans (BB.out.mono B3.out.size)⟩
  · simp only [if_neg hc] at KC ⊢
    clear h hc hL
    have B1 := Lib.hid A1
    obtain ⟨c0, c1, c2, c3, c4, c5, c6, c7⟩ := pcells13 X1
    clear A1 X1
    unfold Pg.arr at *
    unfold Pg.agg at *
    generalize hW1 : w.alloc _ = W1 at *
    go_enter Tryz.func6, Tryz.ntmps6
    go_wp2_with (first
      | (go_at_call 11; refine (KC.out _ B1.out).mono ?_; rintro e w2 ⟨rfl, b1⟩; have B2 := Lib.hid (B1.out.trans (b1.mono B1.out.size)); clear b1))
    go_ret2
    exact ⟨rfl, B2.out⟩
end Go.Proofs.YtlcidigcecmnpaaGreatDoor

namespace Go.Proofs.YtlcidigcecmnpaaGreatDoor
open Go.RowKit
set_option linter.unusedVariables false
set_option linter.unusedSimpArgs false
theorem getD_key (l : List Sg) (i : Nat) : (l.getD i default).key = (l.map Sg.key).getD i (Sg.key default) := by
  rw [List.getD_eq_getElem?_getD, List.getD_eq_getElem?_getD, List.getElem?_map]
  cases l[i]? <;> rfl
theorem sg_parts {s t : Sg} (h : s.key = t.key) : s.day = t.day ∧ s.code = t.code := by
  unfold Sg.key at h
  simp only [Prod.mk.injEq] at h
  exact h
theorem at_key {l m : List Sg} (h : l.map Sg.key = m.map Sg.key) (i : Nat) : (l.getD i default).day = (m.getD i default).day ∧ (l.getD i default).code = (m.getD i default).code := sg_parts (by rw [getD_key, getD_key, h])
theorem len_key {l m : List Sg} (h : l.map Sg.key = m.map Sg.key) : l.length = m.length := by
  have := congrArg List.length h
  simpa using this
theorem tot_key {l m : List Sg} (h : l.map Sg.key = m.map Sg.key) (k : Nat) : totN l k = totN m k := by
  have e : ∀ l : List Sg, totN l k = (((l.map Sg.key).take k).map (fun s => s.2.length)).sum := fun l => by
    unfold totN
    rw [← List.map_take, List.map_map]
    rfl
  rw [e l, e m, h]
theorem mk_key {l m : List Sg} (h : l.map Sg.key = m.map Sg.key) (op : Int) (bs : List Bool) : mkAll op l bs = mkAll op m bs := by
  have e : ∀ l : List Sg, mkAll op l bs = (l.map Sg.key).foldl (fun b s => s.2.foldl (mkB op) b) bs := fun l => by
    unfold mkAll
    rw [List.foldl_map]
    rfl
  rw [e l, e m, h]
theorem pre_key {l m : List Sg} (h : l.map Sg.key = m.map Sg.key) (i : Nat) : preD l i = preD m i := by
  cases i with
  | zero => rfl
  | succ i => exact (at_key h i).1
theorem can_key1 {p q : Pg} (h : q.key = p.key) (c : canP q) : canP p := by
  obtain ⟨e0, e1, e2, e3, e4, e5, e6, e7⟩ := key_of h
  obtain ⟨na, nc, names, ua, uc, curs, pa, pc, pool, hor, cells, slots, stack, da, dc, days⟩ := p
  obtain ⟨na', nc', names', ua', uc', curs', pa', pc', pool', hor', cells', slots', stack', da', dc', days'⟩ := q
  simp only at e0 e1 e2 e3 e4 e5 e6 e7
  subst e0 e1 e2 e3 e4 e5 e6
  obtain ⟨h1, h2, ⟨h3, h4⟩, h5, h6⟩ := c
  simp only at h3 h4 h5 h6
  refine ⟨h1, h2, ⟨fun i hi => ?_, ?_⟩, fun i hi => ?_, ?_⟩
  · have z := h3 i (by rw [len_key e7]; exact hi)
    unfold dayI at z ⊢
    simp only
    rw [← pre_key e7 i, ← (at_key e7 i).1]
    exact z
  · simp only
    rw [← len_key e7, ← tot_key e7]
    exact h4
  · have z := h5 i (by rw [len_key e7]; exact hi)
    simp only
    rw [← (at_key e7 i).2]
    exact z
  · simp only
    rw [← mk_key e7, ← mk_key e7, ← mk_key e7]
    exact h6
theorem can_key {p q : Pg} (h : q.key = p.key) : (if canP q then (0 : Int) else 121) = (if canP p then 0 else 121) := by
  by_cases e : canP p
  · rw [if_pos e, if_pos (can_key1 h.symm e)]
  · rw [if_neg e, if_neg (fun z => e (can_key1 h z))]
theorem txt_key {p q : Pg} (h : q.key = p.key) : txtP q = txtP p := by
  obtain ⟨e0, e1, e2, e3, e4, e5, e6, e7⟩ := key_of h
  have d : ∀ x : Pg, x.days.flatMap (dyLn x) = (x.days.map Sg.key).flatMap (fun k => nmLn 7 k.1 ++ k.2.flatMap (inLn x)) := fun x => by
    rw [List.flatMap_map]
    rfl
  have il : inLn q = inLn p := by funext i; unfold inLn; rw [e0, e1, e2]
  unfold txtP hdT
  rw [d q, d p, e0, e1, e2, e3, e4, e5, e6, e7, il]
/-- What stands in the law. -/
structure ZP (w W : World) (p q : Pg) (g : Nat) : Prop where
  bel : Below w.heap.size w W
  bp : BkP W w.heap.size p.arr 26
  bq : BkP W g q.arr 26
  cp : CpE W p q
theorem ZP.later {w W W' : World} {p q : Pg} {g : Nat} (h : ZP w W p q g) (b : Below W.heap.size W W') : ZP w W' p q g :=
  ⟨h.bel.trans (b.mono h.bel.size), h.bp.grown (gr_below b none) (fun e => by cases e), h.bq.grown (gr_below b none) (fun e => by cases e), h.cp.later b⟩
set_option maxRecDepth 100000 in
set_option maxHeartbeats 8000000 in
theorem asmPrints_any {w : World} {p : Pg} (h : PV w p) (hR : Rws w) (hP : Pows w) (hM : Mds w) (hG : LnG w) (hL : canP p → LinesA w p) :
    Calls Tryz.prog 3 #[p.agg] w fun e w' => e = .returned (.bool true) ∧ Below w.heap.size w w' := by
  have A1 := allocBP w (.cells p.arr 26)
  have X1 : BkP (w.alloc (.cells p.arr 26)) w.heap.size p.arr 26 := heapN w _
  obtain ⟨c0, c1, c2, c3, c4, c5, c6, c7⟩ := pcells13 X1
  have KC := Lib.hid (fun W (b : Below w.heap.size w W) => copyP_any (h.later b))
  have KR := Lib.hid (fun W (b' : Below w.heap.size w W) => refPrint_any (h.later b') (fun c W' b'' => hL c W' (b'.trans (b''.mono b'.size))))
  have KP := Lib.hid (p := ∀ W (b' : Below w.heap.size w W) (q : Pg) (e : CpE W p q), Calls Tryz.prog 5 #[q.agg] W fun e w' => e = .returned (.tuple #[.string (if canP p then ⟨(txtP p).toArray⟩ else ⟨#[]⟩), .int .i64 (if canP p then 0 else 121)]) ∧ Below W.heap.size W w') (fun W b' q e => by
    have := print_any (e.pv h) (hR.below b') (hP.later b') (hM.later b') (hG.later (Nat.le_refl _) b' b'.size)
    have ct : (if canP q then (⟨(txtP q).toArray⟩ : ByteArray) else ⟨#[]⟩) = (if canP p then ⟨(txtP p).toArray⟩ else ⟨#[]⟩) := by
      rw [txt_key e.key]
      by_cases z : canP p
      · rw [if_pos z, if_pos (can_key1 e.key.symm z)]
      · rw [if_neg z, if_neg (fun y => z (can_key1 e.key y))]
    rw [can_key e.key, ct] at this
    exact this)
  have KS := Lib.hid (fun W (b' : Below w.heap.size w W) (q : Pg) (e : CpE W p q) => same13_any (h.later b') (e.pv h) e.key)
  have KL := Lib.hid (fun W (q : Pg) (e : CpE W p q) => left_any h e)
  have XH := Lib.hid X1
  have AH := Lib.hid A1
  clear h hR hP hM hG hL X1 A1
  generalize (if canP p then (⟨(txtP p).toArray⟩ : ByteArray) else ⟨#[]⟩) = T at *
  generalize (if canP p then (0 : Int) else 121) = E at *
  unfold Pg.arr at *
  unfold Pg.agg at *
  generalize hW0 : w.alloc _ = W0 at *
  go_enter Tryz.func3, Tryz.ntmps3
  go_wp2_with (first
    | (go_at_call 4; refine (KC.out _ AH.out).mono ?_; rintro e w1 ⟨q, rfl, hq, b1⟩; have Z1 := Lib.hid (p := ZP w (w1.alloc (.cells #[.slice q.na q.names.length q.nc, .slice q.ua q.curs.length q.uc, .slice q.pa q.pool.length q.pc, .int .i64 q.hor, .int .i64 q.cells, .int .i64 q.slots, .int .i64 q.stack, .slice q.da q.days.length q.dc] 26)) p q w1.heap.size) ⟨(AH.out.trans (b1.mono AH.out.size)).alloc (Nat.le_trans AH.out.size b1.size) _, (XH.out.grown (gr_below b1 none) (fun e => by cases e)).grown (gr_below (allocBP w1 _) none) (fun e => by cases e), heapN _ _, hq.later (allocBP _ _)⟩; obtain ⟨W1, hW1⟩ : ∃ W, w1.alloc (.cells #[.slice q.na q.names.length q.nc, .slice q.ua q.curs.length q.uc, .slice q.pa q.pool.length q.pc, .int .i64 q.hor, .int .i64 q.cells, .int .i64 q.slots, .int .i64 q.stack, .slice q.da q.days.length q.dc] 26) = W := ⟨_, rfl⟩; rw [hW1] at Z1; clear b1 hq c0 c1 c2 c3 c4 c5 c6 c7; obtain ⟨c0, c1, c2, c3, c4, c5, c6, c7⟩ := pcells13 Z1.out.bp; obtain ⟨y0, y1, y2, y3, y4, y5, y6, y7⟩ := pcells13 Z1.out.bq)
    | (go_at_call 5; refine (KP.out _ Z1.out.bel q Z1.out.cp).mono ?_; rintro e w2 ⟨rfl, b1⟩; have Z2 := Lib.hid (Z1.out.later b1); clear b1 c0 c1 c2 c3 c4 c5 c6 c7 y0 y1 y2 y3 y4 y5 y6 y7; obtain ⟨c0, c1, c2, c3, c4, c5, c6, c7⟩ := pcells13 Z2.out.bp; obtain ⟨y0, y1, y2, y3, y4, y5, y6, y7⟩ := pcells13 Z2.out.bq)
    | (go_at_call 6; refine (KR.out _ Z2.out.bel).mono ?_; rintro e w3 ⟨rfl, b1⟩; have Z3 := Lib.hid (Z2.out.later b1); clear b1 c0 c1 c2 c3 c4 c5 c6 c7 y0 y1 y2 y3 y4 y5 y6 y7; obtain ⟨c0, c1, c2, c3, c4, c5, c6, c7⟩ := pcells13 Z3.out.bp; obtain ⟨y0, y1, y2, y3, y4, y5, y6, y7⟩ := pcells13 Z3.out.bq)
    | (go_at_call 7; refine (KS.out _ Z3.out.bel q Z3.out.cp).mono ?_; rintro e w4 ⟨rfl, b1⟩; have Z4 := Lib.hid (Z3.out.later b1); clear b1 c0 c1 c2 c3 c4 c5 c6 c7 y0 y1 y2 y3 y4 y5 y6 y7; obtain ⟨y0, y1, y2, y3, y4, y5, y6, y7⟩ := pcells13 Z4.out.bq)
    | (go_at_call 8; refine (KL.out _ q Z4.out.cp).mono ?_; rintro e w5 ⟨rfl, b1⟩; have Z5 := Lib.hid (Z4.out.later b1); clear b1))
  go_ret
  exact ⟨rfl, Z5.out.bel⟩
end Go.Proofs.YtlcidigcecmnpaaGreatDoor

namespace Go.Proofs.YtlcidigcecmnpaaGreatDoor
open Go.RowKit
set_option linter.unusedVariables false
set_option linter.unusedSimpArgs false
theorem fst_of_in {p : Pg} {i : In} (h : inB p i) : fstB p.names p.curs p.pool i = true := by
  obtain ⟨h1, h2, h3, _, _⟩ := h
  unfold fstB
  by_cases e1 : i.o = 1
  · rw [if_pos e1]; exact decide_eq_true (h1 e1)
  · rw [if_neg e1]
    by_cases e2 : i.o = 3
    · rw [if_pos e2]; exact decide_eq_true (h2 e2)
    · rw [if_neg e2]
      by_cases e3 : i.o = 28
      · rw [if_pos e3]; exact decide_eq_true (h3 e3)
      · rw [if_neg e3]
theorem fst_of_can {p : Pg} (hc : canP p) : ∀ s ∈ p.days, ∀ i ∈ s.code, fstB p.names p.curs p.pool i = true := by
  intro s hs i hi
  have u1 := hc.2.2.2.1
  obtain ⟨k, hk, rfl⟩ := List.getElem_of_mem hs
  have a := u1 k hk
  rw [show p.days.getD k default = p.days[k] by simp [List.getD, hk]] at a
  obtain ⟨m, hm, rfl⟩ := List.getElem_of_mem hi
  have b := (a.2 m hm).2.2
  rw [show (p.days[k]).code.getD m default = (p.days[k]).code[m] by simp [List.getD, hm]] at b
  exact fst_of_in b
theorem linesA_of {w : World} {p : Pg} (h : PV w p) (hM : RMd w) (hc : canP p) : LinesA w p :=
  fun W b => lines_any (h.later b) (sm_of_can h hc) (fst_of_can hc) (hM.later b)
theorem asmPrints_law {w : World} {p : Pg} (h : PV w p) (hR : Rws w) (hP : Pows w) (hM : Mds w) (hG : LnG w) (hN : RMd w) :
    Calls Tryz.prog 3 #[p.agg] w fun e w' => e = .returned (.bool true) ∧ Below w.heap.size w w' :=
  asmPrints_any h hR hP hM hG (linesA_of h hN)
end Go.Proofs.YtlcidigcecmnpaaGreatDoor

namespace Go.Proofs.YtlcidigcecmnpaaGreatDoor
open Go.RowKit
set_option linter.unusedVariables false
set_option linter.unusedSimpArgs false
/-- A rounding's word, as the list says it. -/
def mdD {H : Type} (k : Nat) : DataW H := .lit (.string (mdA k).data.toList)
theorem mds_of_laid {w : World} {rest : List (String × DataW Unit)} (h : laidMet Tryz.prog (("payoff/asm.modes", Rows.laid_payoff_asm_modes) :: rest) w) : Mds w := by
  have hg : Tryz.prog.globalNamed "payoff/asm.modes" = some 2 := by kernel_rfl
  have hty : (Tryz.prog.globals[2]?).map (·.type) = some 85 := by kernel_rfl
  obtain ⟨ps, ⟨g', t', cs, fuel, p, q, hg', ht', hvar, hd, _, _⟩, _⟩ := h
  obtain rfl := Option.some.inj (hg.symm.trans hg')
  obtain rfl := Option.some.inj (hty.symm.trans ht')
  rw [show (Rows.laid_payoff_asm_modes : DataW Unit) = .agg ((List.range 5).map mdD) from rfl] at hd
  obtain ⟨xs, m, _, hx, hl, hlen, hel⟩ := DataW.trod_array Tryz.underlying85 hd
  rw [show Tryz.prog.cellsOf 85 = 5 by kernel_rfl] at hl
  rw [show Tryz.prog.cellsOf 9 = 1 by kernel_rfl] at hel
  have hx1 : xs.map (·.1) = (List.range 5).map mdD := by
    have := congrArg Prod.fst hx
    simp only [DataW.agg.injEq] at this
    exact this.symm
  have key : ∀ k, k < 5 → (cs.toList.drop (k * 1)).take 1 = [.string (mdA k)] := by
    intro k hk
    have h1 := hel k hk
    have hk' : k < xs.length := by omega
    rw [List.getElem?_eq_getElem hk'] at h1
    have h2 : (xs[k]).1 = mdD k := by
      have : (xs.map (·.1))[k]? = ((List.range 5).map mdD)[k]? := by rw [hx1]
      simpa [hk', hk] using this
    obtain ⟨z0, r0, q0, _⟩ := DataW.trod_string Tryz.underlying9 h1
    rw [q0] at h2
    unfold mdD at h2
    simp only [DataW.lit.injEq, Lit.string.injEq] at h2
    rw [r0]
    exact congrArg (fun t => [Value.string t]) (by
      have : z0.data.toList = (mdA k).data.toList := h2
      obtain ⟨⟨z0⟩⟩ := z0
      generalize mdA k = y at *
      obtain ⟨⟨y⟩⟩ := y
      simp at this
      rw [this])
  have cell : ∀ k, k < 5 → w.cell? ⟨2, k, none⟩ = some (.string (mdA k)) := by
    intro k hk
    rw [World.var?_cell hg hvar k]
    have := congrArg (fun l => l[0]?) (key k hk)
    simp only [List.getElem?_take_of_lt (show 0 < 1 by omega), List.getElem?_drop, Nat.mul_one, Nat.add_zero] at this
    simpa using this
  have lt : 2 < w.heap.size := by
    have c0 := cell 0 (by omega)
    unfold World.cell? at c0
    by_cases g : 2 < w.heap.size
    · exact g
    · rw [Array.getElem?_eq_none (by show w.heap.size ≤ 2; omega)] at c0
      simp at c0
  exact ⟨lt, cell⟩
theorem rmd_of_laid {w : World} {rest : List (String × DataW Unit)} (h : laidMet Tryz.prog (("payoff/payoffref13.modes", Rows.laid_payoff_payoffref13_modes) :: rest) w) : RMd w := by
  have hg : Tryz.prog.globalNamed "payoff/payoffref13.modes" = some 1 := by kernel_rfl
  have hty : (Tryz.prog.globals[1]?).map (·.type) = some 85 := by kernel_rfl
  obtain ⟨ps, ⟨g', t', cs, fuel, p, q, hg', ht', hvar, hd, _, _⟩, _⟩ := h
  obtain rfl := Option.some.inj (hg.symm.trans hg')
  obtain rfl := Option.some.inj (hty.symm.trans ht')
  rw [show (Rows.laid_payoff_payoffref13_modes : DataW Unit) = .agg ((List.range 5).map mdD) from rfl] at hd
  obtain ⟨xs, m, _, hx, hl, hlen, hel⟩ := DataW.trod_array Tryz.underlying85 hd
  rw [show Tryz.prog.cellsOf 85 = 5 by kernel_rfl] at hl
  rw [show Tryz.prog.cellsOf 9 = 1 by kernel_rfl] at hel
  have hx1 : xs.map (·.1) = (List.range 5).map mdD := by
    have := congrArg Prod.fst hx
    simp only [DataW.agg.injEq] at this
    exact this.symm
  have key : ∀ k, k < 5 → (cs.toList.drop (k * 1)).take 1 = [.string (mdA k)] := by
    intro k hk
    have h1 := hel k hk
    have hk' : k < xs.length := by omega
    rw [List.getElem?_eq_getElem hk'] at h1
    have h2 : (xs[k]).1 = mdD k := by
      have : (xs.map (·.1))[k]? = ((List.range 5).map mdD)[k]? := by rw [hx1]
      simpa [hk', hk] using this
    obtain ⟨z0, r0, q0, _⟩ := DataW.trod_string Tryz.underlying9 h1
    rw [q0] at h2
    unfold mdD at h2
    simp only [DataW.lit.injEq, Lit.string.injEq] at h2
    rw [r0]
    exact congrArg (fun t => [Value.string t]) (by
      have : z0.data.toList = (mdA k).data.toList := h2
      obtain ⟨⟨z0⟩⟩ := z0
      generalize mdA k = y at *
      obtain ⟨⟨y⟩⟩ := y
      simp at this
      rw [this])
  have cell : ∀ k, k < 5 → w.cell? ⟨1, k, none⟩ = some (.string (mdA k)) := by
    intro k hk
    rw [World.var?_cell hg hvar k]
    have := congrArg (fun l => l[0]?) (key k hk)
    simp only [List.getElem?_take_of_lt (show 0 < 1 by omega), List.getElem?_drop, Nat.mul_one, Nat.add_zero] at this
    simpa using this
  have lt : 1 < w.heap.size := by
    have c0 := cell 0 (by omega)
    unfold World.cell? at c0
    by_cases g : 1 < w.heap.size
    · exact g
    · rw [Array.getElem?_eq_none (by show w.heap.size ≤ 1; omega)] at c0
      simp at c0
  exact ⟨lt, cell⟩

theorem trod_first {H : Type} {enc : TypeId × Value → H} {P : Program} {W : World} {base : Nat} {sp : Nat → Bool} {held : Bool} {t s u : TypeId} {fs : Array Field} {fuel : Nat} {n : List UInt8} {r : DataW H} {x : DataW H × List MemPlace} {cs : List Value}
    (ht : P.underlying t = some (.struct fs)) (hfs : fs.toList.map (fun f => (f.type, f.offset)) = [(s, 0), (u, 1)]) (hs : P.underlying s = some .string) (hcs : P.cellsOf s = 1)
    (h : DataW.trod enc P W base sp held fuel t cs = some x) (hx1 : x.1 = .agg [.lit (.string n), r]) : cs[0]? = some (.string ⟨n.toArray⟩) := by
  obtain ⟨xs, m, _, hx, hl, hlen, hfld⟩ := DataW.trod_struct ht h
  have h3 : fs.size = 2 := by have := congrArg List.length hfs; simpa using this
  have fat : ∃ f, fs[0]? = some f ∧ (f.type, f.offset) = (s, 0) := by
    refine ⟨fs[0]'(by omega), by simp [show 0 < fs.size by omega], ?_⟩
    have : (fs.toList.map (fun f => (f.type, f.offset)))[0]? = [(s, 0), (u, 1)][0]? := by rw [hfs]
    simpa [show 0 < fs.size by omega] using this
  obtain ⟨f0, g0, e0⟩ := fat
  obtain ⟨y0, y1, rfl⟩ : ∃ a b, xs = [a, b] := by
    have : xs.length = 2 := by omega
    match xs, this with
    | [a, b], _ => exact ⟨a, b, rfl⟩
  have k0 := hfld 0 f0 g0
  simp at e0
  simp only [List.getElem?_cons_zero] at k0
  rw [e0.1, e0.2, hcs] at k0
  obtain ⟨z0, r0, q0, _⟩ := DataW.trod_string hs k0
  rw [hx] at hx1
  simp only [List.map_cons, List.map_nil, DataW.agg.injEq, List.cons.injEq, and_true] at hx1
  rw [q0] at hx1
  simp at hx1
  have e := congrArg (fun l => l[0]?) r0
  simp only [List.drop_zero, List.getElem?_cons_zero] at e
  rw [List.getElem?_take_of_lt (by omega)] at e
  rw [e]
  obtain ⟨⟨z0⟩⟩ := z0
  have := hx1.1
  simp at this
  simp [this]
/-- A line's word, as the list says it. -/
def lnD {H : Type} (k : Nat) : DataW H := .agg [.lit (.string (lnA k).data.toList), .lit (.bool (decide (k < 3 ∨ k = 7)))]
theorem lns_of_laid {w : World} {rest : List (String × DataW Unit)} (h : laidMet Tryz.prog (("payoff/asm.lines", Rows.laid_payoff_asm_lines) :: rest) w) : LnG w := by
  have hg : Tryz.prog.globalNamed "payoff/asm.lines" = some 0 := by kernel_rfl
  have hty : (Tryz.prog.globals[0]?).map (·.type) = some 72 := by kernel_rfl
  obtain ⟨ps, ⟨g', t', cs, fuel, p, q, hg', ht', hvar, hd, _, _⟩, _⟩ := h
  obtain rfl := Option.some.inj (hg.symm.trans hg')
  obtain rfl := Option.some.inj (hty.symm.trans ht')
  rw [show (Rows.laid_payoff_asm_lines : DataW Unit) = .agg ((List.range 8).map lnD) from rfl] at hd
  obtain ⟨xs, m, _, hx, hl, hlen, hel⟩ := DataW.trod_array Tryz.underlying72 hd
  rw [show Tryz.prog.cellsOf 71 = 2 by kernel_rfl] at hel
  have hx1 : xs.map (·.1) = (List.range 8).map lnD := by
    have := congrArg Prod.fst hx
    simp only [DataW.agg.injEq] at this
    exact this.symm
  have cell : ∀ k, k < 8 → w.cell? ⟨0, k * 2, none⟩ = some (.string (lnA k)) := by
    intro k hk
    have h1 := hel k hk
    have hk' : k < xs.length := by omega
    rw [List.getElem?_eq_getElem hk'] at h1
    have h2 : (xs[k]).1 = lnD k := by
      have : (xs.map (·.1))[k]? = ((List.range 8).map lnD)[k]? := by rw [hx1]
      simpa [hk', hk] using this
    have h3 := trod_first (t := 71) (s := 9) (u := 4) Tryz.underlying71 rfl Tryz.underlying9 (by kernel_rfl) h1 h2
    rw [List.getElem?_take_of_lt (by omega), List.getElem?_drop, Nat.add_zero] at h3
    rw [World.var?_cell hg hvar (k * 2)]
    simpa using h3
  have lt : 0 < w.heap.size := by
    have c0 := cell 0 (by omega)
    unfold World.cell? at c0
    by_cases g : 0 < w.heap.size
    · exact g
    · rw [Array.getElem?_eq_none (by show w.heap.size ≤ 0; omega)] at c0
      simp at c0
  exact ⟨lt, cell⟩
end Go.Proofs.YtlcidigcecmnpaaGreatDoor

namespace Go.Proofs.YtlcidigcecmnpaaGreatDoor
open Go.RowKit
def pt : PT Tryz.prog where
  I := 3
  hI := Tryz.underlying3
  cI := by kernel_rfl
  bI := by kernel_rfl
  SI := 23
  hSI := Tryz.underlying23
  cSI := by kernel_rfl
  S := 9
  hS := Tryz.underlying9
  cS := by kernel_rfl
  bS := by kernel_rfl
  SS := 22
  hSS := Tryz.underlying22
  cSS := by kernel_rfl
  J := 37
  fJ := _
  hJ := Tryz.underlying37
  lJ := rfl
  cJ := by kernel_rfl
  bJ := by kernel_rfl
  SJ := 33
  hSJ := Tryz.underlying33
  cSJ := by kernel_rfl
  G := 35
  fG := _
  hG := Tryz.underlying35
  lG := rfl
  cG := by kernel_rfl
  bG := by kernel_rfl
  SG := 24
  hSG := Tryz.underlying24
  cSG := by kernel_rfl
  Q := 26
  fQ := _
  hQ := Tryz.underlying26
  lQ := rfl
  cQ := by kernel_rfl
end Go.Proofs.YtlcidigcecmnpaaGreatDoor

namespace Go.Proofs.YtlcidigcecmnpaaGreatDoor

theorem pows_eq : (Rows.laid_internal_strconv_uint64pow10 : DataW Unit) = Lib.tabData .u64 Lib.pow10Tab := by kernel_rfl
theorem pows_of_laid {w : World} {rest : List (String × DataW Unit)} (h : laidMet Tryz.prog (("internal/strconv.uint64pow10", Rows.laid_internal_strconv_uint64pow10) :: rest) w) : Pows w := by
  rw [pows_eq] at h
  exact Lib.tabIs_of_head (g := 5) (t := 152) (e := 132) (n := 20) (by kernel_rfl) (by kernel_rfl) Tryz.underlying152 Tryz.underlying132 (by kernel_rfl) (by kernel_rfl) h
end Go.Proofs.YtlcidigcecmnpaaGreatDoor
