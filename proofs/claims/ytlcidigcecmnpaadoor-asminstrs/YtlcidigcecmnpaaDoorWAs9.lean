/-
  WALK: words joined (the document's).
-/
import Derived.Test.YtlcidigcecmnpaaDoorWDig13
import Derived.Test.YtlcidigcecmnpaaDoorWAs1
namespace Go.Proofs.YtlcidigcecmnpaaDoor
open Go.RowKit
set_option linter.unusedVariables false
set_option linter.unusedSimpArgs false
theorem info8a : (Tryd.prog.info? 5).map (fun i => (i.zero, i.size, i.bytes)) = some (some (.int .u8 0), 1, 1) := by kernel_rfl
theorem conv_bytes13 {w : World} {B : Nat} {v : Value} {bs : List UInt8} (h : w.ownsRow B 5 1 v bs.length (Lib.byteCells bs)) (h0 : bs ≠ []) : ∃ g cap, v = .slice (some ⟨g, 0, none⟩) bs.length cap ∧ (convert 61 9 v).run Tryd.prog w = .ok (.string ⟨bs.toArray⟩) w := by
  have hh := h
  obtain ⟨h1, h2⟩ := h
  rcases h2 with ⟨h3, h2⟩ | ⟨g, cap, cur, rfl, hB, hg, hn, hm, hs, ht⟩
  · exact absurd (List.length_eq_zero_iff.1 h2) h0
  · refine ⟨g, cap, rfl, run_convert_bytes_back (P := Tryd.prog) w 61 9 5 ⟨g, 0, none⟩ cap bs (by kernel_rfl) (by kernel_rfl) (by kernel_rfl) (fun j hj => ?_)⟩
    rw [Lib.add_plain, Nat.zero_add, hh.cellAt j (by omega)]
    simp [Lib.byteCells, hj]
/-- The first words, joined. -/
def jP (xs : List ByteArray) (k : Nat) : List UInt8 := Lib.join ((xs.take k).map (·.data.toList)) [32]
theorem join_snoc (l : List (List UInt8)) (x sep : List UInt8) (h : l ≠ []) : Lib.join (l ++ [x]) sep = Lib.join l sep ++ sep ++ x := by
  cases l with
  | nil => exact absurd rfl h
  | cons y r => rw [List.cons_append, Lib.join_cons, Lib.join_cons]; simp [Lib.joinTail]
theorem jP_step {xs : List ByteArray} {k : Nat} (hk : k < xs.length) : jP xs (k + 1) = (if k = 0 then [] else jP xs k ++ [32]) ++ (xs.getD k ⟨#[]⟩).data.toList := by
  unfold jP
  have e : xs[k]? = some (xs.getD k ⟨#[]⟩) := by simp [List.getD, hk]
  rw [List.take_add_one, e]
  by_cases h : k = 0
  · subst h; simp [Lib.join_one]
  · rw [if_neg h, List.map_append]
    rw [show ((some (xs.getD k ⟨#[]⟩)).toList.map (·.data.toList)) = [(xs.getD k ⟨#[]⟩).data.toList] from rfl, join_snoc _ _ _ (by simp; exact ⟨h, fun q => by subst q; simp at hk⟩)]
theorem jP_mono (xs : List ByteArray) : ∀ (d k : Nat), k + d ≤ xs.length → (jP xs k).length ≤ (jP xs (k + d)).length
  | 0, k, _ => Nat.le_refl _
  | d + 1, k, h => by
    refine Nat.le_trans (jP_mono xs d k (by omega)) ?_
    rw [show k + (d + 1) = (k + d) + 1 by omega, jP_step (by omega)]
    by_cases q : k + d = 0
    · rw [q]; simp [jP, Lib.join_nil]
    · rw [if_neg q]; simp
theorem strCells_bytes (s : ByteArray) : Lib.strCells s = Lib.byteCells s.data.toList := by
  unfold Lib.strCells Lib.byteCells
  first | rfl | simp
set_option maxRecDepth 100000 in
set_option maxHeartbeats 4000000 in
theorem joined_any (w : World) (g n c : Nat) (xs : List ByteArray) (hl : xs.length = n) (hn : n ≤ 1000000) (hc : ∀ j x, xs[j]? = some x → w.cell? ⟨g, j, none⟩ = some (.string x)) (hg : g < w.heap.size) (hz : (jP xs n).length ≤ 140737488355328) (h0 : jP xs n ≠ []) :
    Calls Tryd.prog 13 #[.slice (some ⟨g, 0, none⟩) n c] w fun e w' => e = .returned (.string ⟨(jP xs n).toArray⟩) ∧ Below w.heap.size w w' := by
  obtain ⟨i0, hi, hz0, hz1, hz2⟩ := info_parts info8a
  have HZ := Lib.hid (p := ∀ k, k ≤ n → (jP xs k).length ≤ 140737488355328) (fun k hk => by
    have := jP_mono xs (n - k) k (by omega)
    rw [show k + (n - k) = n by omega] at this
    omega)
  have HC := Lib.hid (p := ∀ W, Below w.heap.size w W → ∀ k, k < n → W.cell? ⟨g, k, none⟩ = some (.string (xs.getD k ⟨#[]⟩))) (fun W b k hk => (b.cell (p := ⟨g, k, none⟩) hg).trans (hc k _ (by simp [List.getD, show k < xs.length by omega])))
  have H0 := Lib.hid h0
  have HL := Lib.hid hl
  clear hc hz h0 hl
  go_enter Tryd.func13, Tryd.ntmps13
  go_wp2
  go_loopw [3, 4] (fun t u wr => ∃ (k : Nat) (v : Value), k ≤ n ∧ v = t ∧ u = .int .i64 (k : Int) ∧ wr.ownsRow w.heap.size 5 1 v (jP xs k).length (Lib.byteCells (jP xs k)) ∧ Below w.heap.size w wr) (fun t u _ => n - (intOf u).toNat)
  case atStart => exact ⟨0, _, by omega, rfl, rfl, World.ownsRow_nil _ _ _ _, Below.refl _ _⟩
  case round =>
    rename World => wr
    obtain ⟨k, v, hk, rfl, rfl, hO, hB⟩ := hrel
    have O := Lib.hid hO
    have B := Lib.hid hB
    clear hO hB
    by_cases hlt : k < n
    · have kc : (k : Int) < (n : Int) := by omega
      have ST := Lib.hid (jP_step (xs := xs) (k := k) (by rw [HL.out]; exact hlt))
      have Z1 := HZ.out (k + 1) (by omega)
      rw [ST.out] at Z1
      have sz : (xs.getD k ⟨#[]⟩).data.toList.length = (xs.getD k ⟨#[]⟩).size := Array.length_toList
      by_cases hk0 : k = 0
      · subst hk0
        simp only [if_true, List.nil_append] at ST Z1
        have x0 := HC.out _ B.out 0 hlt
        generalize xs.getD 0 ⟨#[]⟩ = s at *
        have j0 : jP xs 0 = [] := by simp [jP, Lib.join_nil]
        have O' := O.out
        rw [j0] at O'
        have O1 := Lib.hid O'
        have Z2 := Lib.hid (p := 0 + s.size ≤ maxLen ∧ 0 + s.size ≤ 140737488355328) (by unfold maxLen; omega)
        clear O' Z1 sz j0
        go_wp2_with (at_builtin; refine Lib.wpList_append_own_string _ rfl _ _ 61 9 rfl w.heap.size 5 i0 Tryd.underlying61 Tryd.underlying9 hi hz0 hz1 hz2 _ 0 [] rfl O1.out s rfl Z2.out.1 Z2.out.2 B.out.size ?_; intro v1 w1 k1 k2 _; have O2 := Lib.hid k1; have B2 := Lib.hid (B.out.grown k2 B.out.size (fun k e => (O.out.lt k e).1)); clear k1 k2)
        go_roundw
        case rel =>
          refine ⟨1, _, by omega, rfl, rfl, ?_, B2.out⟩
          have := O2.out
          rw [strCells_bytes, List.nil_append] at this
          rw [show (1 : Nat) = 0 + 1 from rfl, ST.out]
          have e : s.data.toList.length = s.size := Array.length_toList
          rw [e, show s.size = 0 + s.size by omega]
          exact this
        case measure => simp [intOf]; omega
      · simp only [if_neg hk0] at ST Z1
        have kp : (0 : Int) < (k : Int) := by omega
        have x0 := HC.out _ B.out k hlt
        have XC := Lib.hid (fun W b => HC.out W b k hlt)
        generalize xs.getD k ⟨#[]⟩ = s at *
        have Z2 := Lib.hid (p := (jP xs k).length + 1 + s.size ≤ maxLen ∧ (jP xs k).length + 1 + s.size ≤ 140737488355328) (by unfold maxLen; simp at Z1; omega)
        clear Z1 sz
        have A0 : True := trivial
        go_wp2_with (first
          | (at_builtin; have qq := A0; refine wpList_append_own_at _ rfl _ _ 61 rfl w.heap.size 5 i0 _ 1 1 Tryd.underlying61 hi hz0 hz1 hz2 rfl (by decide) v (jP xs k).length (Lib.byteCells (jP xs k)) rfl (O.out.alloc _) ⟨wr.heap.size, 0, none⟩ 1 1 [.int .u8 32] rfl rfl (cell_one_new wr _ _) (by intro u hu; simp at hu; subst hu; rfl) (by have := Z2.out; omega) (by have := Z2.out; omega) (Nat.le_trans B.out.size (by simp)) ?_; intro v1 w1 k1 k2 k3 k4; have O1 := Lib.hid k1; have B1 := Lib.hid ((B.out.alloc B.out.size _).grown k2 (Nat.le_trans B.out.size (by simp)) (fun k e => (O.out.lt k e).1)); clear k1 k2 k3 k4 A0 x0; have x1 := XC.out _ B1.out)
          | (at_builtin; have qq := O1; refine Lib.wpList_append_own_string _ rfl _ _ 61 9 rfl w.heap.size 5 i0 Tryd.underlying61 Tryd.underlying9 hi hz0 hz1 hz2 _ _ _ rfl O1.out s rfl Z2.out.1 Z2.out.2 B1.out.size ?_; intro v2 w2 k1 k2 _; have O2 := Lib.hid k1; have B2 := Lib.hid (B1.out.grown k2 B1.out.size (fun k e => (O1.out.lt k e).1)); clear k1 k2))
        go_roundw
        case rel =>
          refine ⟨k + 1, _, by omega, rfl, by go_num, ?_, B2.out⟩
          have := O2.out
          rw [strCells_bytes] at this
          rw [ST.out]
          have e : s.data.toList.length = s.size := Array.length_toList
          have e2 : Lib.byteCells (jP xs k ++ [32] ++ s.data.toList) = Lib.byteCells (jP xs k) ++ [.int .u8 32] ++ Lib.byteCells s.data.toList := by simp [Lib.byteCells]
          rw [e2, List.length_append, List.length_append, e]
          exact this
        case measure => simp [intOf]; omega
    · obtain rfl : k = n := by omega
      obtain ⟨g', cap, rfl, CV⟩ := conv_bytes13 O.out H0.out
      clear O
      go_wp2
      go_ret
      exact ⟨rfl, B.out⟩
end Go.Proofs.YtlcidigcecmnpaaDoor
