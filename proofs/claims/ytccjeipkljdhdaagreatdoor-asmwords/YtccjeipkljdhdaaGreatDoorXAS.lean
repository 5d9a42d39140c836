import Derived.Test.YtccjeipkljdhdaaGreatDoorXAQ
import Derived.Lib.OthersKept
import Derived.WalkSmall
import Derived.Deep.AppendLies
import Derived.Test.YtccjeipkljdhdaaGreatDoorXAB
import Derived.Test.YtccjeipkljdhdaaGreatDoorXAF
namespace Go.Proofs.YtccjeipkljdhdaaGreatDoor
open Go.RowKit
set_option linter.unusedVariables false
set_option linter.unusedSimpArgs false

theorem isOfWord_any (c : Int) (w : World) : Calls Tryz.prog 65 #[.int .i32 c] w fun e w' => e = .returned (.bool (decide (c ≠ 32 ∧ c ≠ 9 ∧ c ≠ 13 ∧ c ≠ 59))) ∧ w' = w := by
  obtain ⟨R, hR⟩ : ∃ R : Bool, decide (c ≠ 32 ∧ c ≠ 9 ∧ c ≠ 13 ∧ c ≠ 59) = R := ⟨_, rfl⟩
  have HR := Lib.hid hR
  rw [hR]
  clear hR
  by_cases h1 : c = 32
  · subst h1
    obtain rfl : R = false := by rw [← HR.out]; rfl
    clear HR
    go_enter Tryz.func65, Tryz.ntmps65
    go_wp2
    go_ret
    exact ⟨rfl, rfl⟩
  by_cases h2 : c = 9
  · subst h2
    obtain rfl : R = false := by rw [← HR.out]; rfl
    clear HR h1
    go_enter Tryz.func65, Tryz.ntmps65
    go_wp2
    go_ret
    exact ⟨rfl, rfl⟩
  by_cases h3 : c = 13
  · subst h3
    obtain rfl : R = false := by rw [← HR.out]; rfl
    clear HR h1 h2
    go_enter Tryz.func65, Tryz.ntmps65
    go_wp2
    go_ret
    exact ⟨rfl, rfl⟩
  by_cases h4 : c = 59
  · subst h4
    obtain rfl : R = false := by rw [← HR.out]; rfl
    clear HR h1 h2 h3
    go_enter Tryz.func65, Tryz.ntmps65
    go_wp2
    go_ret
    exact ⟨rfl, rfl⟩
  obtain rfl : R = true := by rw [← HR.out]; simp [h1, h2, h3, h4]
  have k1 : (c != 32) = true := by simp [h1]
  have k2 : (c != 9) = true := by simp [h2]
  have k3 : (c != 13) = true := by simp [h3]
  have k4 : (c != 59) = true := by simp [h4]
  clear HR h1 h2 h3 h4
  go_enter Tryz.func65, Tryz.ntmps65
  go_wp2
  go_ret
  exact ⟨rfl, rfl⟩
theorem wdsL_len (s : ByteArray) : ∀ n i, s.size - i ≤ n → (wdsL s i).length ≤ s.size - i
  | 0, i, h => by rw [wdsL_end (by omega)]; simp
  | n + 1, i, h => by
    rw [wdsL]
    split
    · rename_i q
      have a := fy_ge bkA s i
      have b := fy_go q.1 q.2
      have c := fy_ge wrA s (fy bkA s i + 1)
      have d := fy_le (p := wrA) (s := s) (i := fy bkA s i) (by omega)
      have ih := wdsL_len s n (fy wrA s (fy bkA s i)) (by omega)
      simp only [List.length_cons]
      omega
    · simp
/-- The words so far. -/
def WI (s : ByteArray) (pos bg : Nat) (op : Bool) (ws : List ByteArray) : Prop :=
  (op = true ∧ bg ≤ pos ∧ wdsL s 0 = ws ++ (s.extract bg (fy wrA s pos) :: wdsL s (fy wrA s pos))) ∨ (op = false ∧ wdsL s 0 = ws ++ wdsL s pos)
theorem WI.len {s : ByteArray} {pos bg : Nat} {op : Bool} {ws : List ByteArray} (h : WI s pos bg op ws) : ws.length ≤ s.size := by
  have l := wdsL_len s _ 0 (Nat.le_refl _)
  rcases h with ⟨_, _, e⟩ | ⟨_, e⟩
  · rw [e, List.length_append] at l; omega
  · rw [e, List.length_append] at l; omega
/-- The row of words that grows. -/
structure ApW (w W : World) (B pos : Nat) (s : ByteArray) (v0 v : Value) (us : List ByteArray) : Prop where
  own : W.ownsRow B 9 1 v us.length (us.map Value.string)
  gr : w.grownBy W v0.ownBlock
  it : W.heap[w.heap.size]? = some (.stringIter s pos)
  lies : v.ownBlock = v0.ownBlock ∨ ∀ z, v.ownBlock = some z → w.heap.size < z
theorem it_ne {W : World} {B k n : Nat} {v : Value} {s : ByteArray} {pos : Nat} {xs : List Value} (h : W.ownsRow B 9 1 v n xs) (hk : W.heap[k]? = some (.stringIter s pos)) : v.ownBlock ≠ some k := by
  intro e
  rcases h.2 with ⟨rfl, _⟩ | ⟨g, cap, cur, rfl, _, hg, _⟩
  · cases e
  · simp only [Value.ownBlock, Option.some.injEq] at e
    subst e
    rw [hk] at hg
    cases hg
theorem ApW.move {w W : World} {B pos : Nat} {s : ByteArray} {v0 v : Value} {us : List ByteArray} (h : ApW w W B pos s v0 v us) (p : Nat) : ApW w (W.iterAt w.heap.size s p) B p s v0 v us := by
  have lt : w.heap.size < W.heap.size := (Array.getElem?_eq_some_iff.1 h.it).1
  have g : W.grownBy (W.iterAt w.heap.size s p) (some w.heap.size) := ⟨rfl, rfl, rfl, by rw [Lib.iterAt_size]; exact Nat.le_refl _, fun k _ hk => Lib.iterAt_other _ _ _ _ _ (fun e => hk (by rw [e]))⟩
  refine ⟨h.own.kept g (.inr (it_ne h.own h.it)), ⟨h.gr.os, h.gr.tape, h.gr.output, by rw [Lib.iterAt_size]; exact h.gr.size, fun k k1 k2 => ?_⟩, Lib.iterAt_heap _ _ _ _ _ h.it, h.lies⟩
  rw [Lib.iterAt_other _ _ _ _ _ (by omega)]
  exact h.gr.block k k1 k2
theorem infoStr : (Tryz.prog.info? 9).map (fun i => (i.zero, i.size, i.bytes)) = some (some (.string ⟨#[]⟩), 1, 16) := by kernel_rfl
/-- 'words = append(words, ..)'. -/
theorem wp_wd {ops : Array Oper} {rest : List Oper} {o : Oper} {a : Act} {Q : Exit → Act → World → Prop} (w W : World) (B pos : Nat) (s u : ByteArray) (v0 : Value) (us : List ByteArray) (hgd : o.guard = none) (sl x : Operand)
    (ho : o.op = .call { callee := .builtin .append, args := #[sl, x], argTypes := #[23, 23] }) (v : Value) (hs : a.eval sl = v)
    (hx : a.eval x = .slice (some ⟨W.heap.size, 0, none⟩) 1 1) (h0 : ApW w W B pos s v0 v us) (hl : us.length ≤ 1073741824) (hb : B ≤ W.heap.size) (hb0 : B ≤ w.heap.size)
    (h : ∀ v' w', ApW w w' B pos s v0 v' (us ++ [u]) → wpList Tryz.prog ops Q rest (a.put o.dst v') w') :
    wpList Tryz.prog ops Q (o :: rest) a (W.alloc (.cells #[.string u] 9)) := by
  obtain ⟨i0, hi, hz0, hz1, hz2⟩ := info_parts infoStr
  have hown := h0.own
  have lt : w.heap.size < W.heap.size := (Array.getElem?_eq_some_iff.1 h0.it).1
  refine wpList_append_lies _ hgd sl x 23 ho B 9 i0 (.string ⟨#[]⟩) 1 16 Tryz.underlying23 hi hz0 hz1 hz2 rfl (by decide) v _ _ hs (hown.alloc _) ⟨W.heap.size, 0, none⟩ 1 1 [.string u] hx rfl ?_ ?_ (by decide) (by unfold maxLen; omega) (by omega) (by simp; omega) (W.heap.size + 1) (by simp) ?_
  · intro j v hj
    match j, hj with
    | 0, hj => simp at hj; subst hj; simp [Addr.add]
  · intro v hv
    rw [List.mem_singleton.1 hv]; rfl
  · intro g cap w' h1 h2 h3 _
    have al := allocBP W (.cells #[.string u] 9)
    have ne : v.ownBlock ≠ some w.heap.size := it_ne hown h0.it
    refine h _ w' ⟨?_, ⟨h2.os.trans h0.gr.os, h2.tape.trans h0.gr.tape, h2.output.trans h0.gr.output, Nat.le_trans h0.gr.size (Nat.le_trans al.size h2.size), fun k k1 k2 => ?_⟩, ?_, ?_⟩
    · rw [List.length_append, List.map_append]; exact h1
    · have k3 : k < W.heap.size := Nat.lt_of_lt_of_le k1 h0.gr.size
      have k4 : some k ≠ v.ownBlock := by
        intro e
        rcases h0.lies with q | q
        · exact k2 (e.trans q)
        · have := q k e.symm; omega
      exact (h2.block k (Nat.lt_of_lt_of_le k3 al.size) k4).trans ((al.block k k3).trans (h0.gr.block k k1 k2))
    · exact (h2.block _ (Nat.lt_of_lt_of_le lt al.size) (fun e => ne e.symm)).trans ((al.block _ lt).trans h0.it)
    · rcases h3 with q | q
      · rcases h0.lies with r | r
        · left
          show some g = _
          rw [← r, q]
        · right
          intro z e
          exact r z (by rw [q]; exact e)
      · right
        intro z e
        simp only [Value.ownBlock, Option.some.injEq] at e
        omega
end Go.Proofs.YtccjeipkljdhdaaGreatDoor

namespace Go.Proofs.YtccjeipkljdhdaaGreatDoor
open Go.RowKit
set_option linter.unusedVariables false
set_option linter.unusedSimpArgs false

/-- What Find answers. -/
def FnE (s : ByteArray) (i er : Int) : Prop := (∃ k : Nat, k < 29 ∧ nmA k = s ∧ i = (k : Int) ∧ er = 0) ∨ ((∀ k : Nat, k < 29 → nmA k ≠ s) ∧ i = 0 ∧ er = 111)
theorem nm_one {k j : Nat} (hk : k < 29) (hj : j < 29) (h : nmA k = nmA j) : k = j := by
  by_cases e : k = j
  · exact e
  · exact absurd (by rw [h]) (nm_ne k hk j hj e)
theorem FnE.one {s : ByteArray} {i er i' er' : Int} (h : FnE s i er) (k : FnE s i' er') : i = i' ∧ er = er' := by
  rcases h with ⟨a, ha, e, rfl, rfl⟩ | ⟨hn, rfl, rfl⟩
  · rcases k with ⟨b, hb, e', rfl, rfl⟩ | ⟨hn, _⟩
    · rw [nm_one ha hb (e.trans e'.symm)]; exact ⟨rfl, rfl⟩
    · exact absurd e (hn a ha)
  · rcases k with ⟨b, hb, e', _⟩ | ⟨_, rfl, rfl⟩
    · exact absurd e' (hn b hb)
    · exact ⟨rfl, rfl⟩
theorem bytes_eq {a b : ByteArray} (h : a.toList = b.toList) : a = b := by
  obtain ⟨⟨l⟩⟩ := a
  obtain ⟨⟨m⟩⟩ := b
  rw [ByteArray.toList_mk, ByteArray.toList_mk] at h
  subst h
  rfl
/-- The whole table, as a value. -/
def tabC : List Value := (List.range 29).flatMap fun k => [Value.string (nmA k), .int .u8 (onA k : Int), .int .u8 (tkA k : Int), .int .u8 (ptA k : Int), .int .i32 (baA k : Int), .int .i32 (bbA k : Int)]
theorem tabC_part : ∀ k, k < 29 → List.take 6 (List.drop (k * 6) tabC) = [Value.string (nmA k), .int .u8 (onA k : Int), .int .u8 (tkA k : Int), .int .u8 (ptA k : Int), .int .i32 (baA k : Int), .int .i32 (bbA k : Int)]
  | 0, _ => by kernel_rfl
  | 1, _ => by kernel_rfl
  | 2, _ => by kernel_rfl
  | 3, _ => by kernel_rfl
  | 4, _ => by kernel_rfl
  | 5, _ => by kernel_rfl
  | 6, _ => by kernel_rfl
  | 7, _ => by kernel_rfl
  | 8, _ => by kernel_rfl
  | 9, _ => by kernel_rfl
  | 10, _ => by kernel_rfl
  | 11, _ => by kernel_rfl
  | 12, _ => by kernel_rfl
  | 13, _ => by kernel_rfl
  | 14, _ => by kernel_rfl
  | 15, _ => by kernel_rfl
  | 16, _ => by kernel_rfl
  | 17, _ => by kernel_rfl
  | 18, _ => by kernel_rfl
  | 19, _ => by kernel_rfl
  | 20, _ => by kernel_rfl
  | 21, _ => by kernel_rfl
  | 22, _ => by kernel_rfl
  | 23, _ => by kernel_rfl
  | 24, _ => by kernel_rfl
  | 25, _ => by kernel_rfl
  | 26, _ => by kernel_rfl
  | 27, _ => by kernel_rfl
  | 28, _ => by kernel_rfl
  | n + 29, h => absurd h (by omega)
theorem tabC_len : tabC.length = 174 := by kernel_rfl
theorem tabC_at (k : Nat) (hk : k < 29) (j : Nat) (hj : j < 6) : tabC[k * 6 + j]? = [Value.string (nmA k), .int .u8 (onA k : Int), .int .u8 (tkA k : Int), .int .u8 (ptA k : Int), .int .i32 (baA k : Int), .int .i32 (bbA k : Int)][j]? := by
  rw [← tabC_part k hk, List.getElem?_take_of_lt hj, List.getElem?_drop]
theorem Rws.range {w : World} (h : Rws w) : w.rangeAt 3 0 tabC := by
  intro j v hv
  have hj : j < 174 := by have := (List.getElem?_eq_some_iff.1 hv).1; rw [tabC_len] at this; exact this
  obtain ⟨k, m, hk, hm, rfl⟩ : ∃ k m, k < 29 ∧ m < 6 ∧ j = k * 6 + m := ⟨j / 6, j % 6, by omega, by omega, by omega⟩
  rw [tabC_at k hk m hm] at hv
  rw [Nat.zero_add, ← hv]
  obtain ⟨c0, c1, c2, c3, c4, c5⟩ := h.2 k hk
  have hh : m = 0 ∨ m = 1 ∨ m = 2 ∨ m = 3 ∨ m = 4 ∨ m = 5 := by omega
  rcases hh with rfl | rfl | rfl | rfl | rfl | rfl
  · exact c0
  · exact c1
  · exact c2
  · exact c3
  · exact c4
  · exact c5
theorem load_tab {ops : Array Oper} {rest : List Oper} {op : Oper} {a : Act} {w : World} {Q : Exit → Act → World → Prop} (hgd : op.guard = none) (x : Operand) (ho : op.op = .load 128 x) (hx : a.eval x = .pointer (some ⟨3, 0, none⟩)) (hR : Rws w) (h : wpList Tryz.prog ops Q rest (a.put op.dst (.agg tabC.toArray)) w) : wpList Tryz.prog ops Q (op :: rest) a w :=
  wpList_load_mid hgd 128 x ho 3 0 hx tabC _ hR.range Tryz.underlying128 rfl (by rw [tabC_len]; kernel_rfl) h
theorem index_tab {k : Nat} (hk : k < 29) (W : World) : (Instr.index 128 (.agg tabC.toArray) (.int .i64 (k : Int))).run Tryz.prog W = .ok (rowV (nmA k) (onA k : Int) (tkA k : Int) (ptA k : Int) (baA k : Int) (bbA k : Int)) W := by
  have h1 : (0 : Int) ≤ (k : Int) ∧ (k : Int) < ((29 : Nat) : Int) := by omega
  obtain ⟨i, hi, hs⟩ : ∃ i, Tryz.prog.info? 90 = some i ∧ i.size = 6 := by
    have : (Tryz.prog.info? 90).map (·.size) = some 6 := by kernel_rfl
    cases hq : Tryz.prog.info? 90 with
    | none => rw [hq] at this; cases this
    | some i => rw [hq] at this; exact ⟨i, rfl, by simpa using this⟩
  have hagg : (isAgg 90).run Tryz.prog W = .ok true W := by
    unfold isAgg
    rw [Sem.run_bind, run_underlying Tryz.underlying90 W]
    simp
  simp [Instr.index, run_underlying Tryz.underlying128, asIntOf, h1, sizeOf, typeInfo, hi, hs, part, Sem.run_bind, hagg, hk, tabC_part k hk]
set_option maxRecDepth 100000 in
set_option maxHeartbeats 2000000 in
theorem find_any (s : ByteArray) (i er : Int) (hF : FnE s i er) (w : World) (hR : Rws w) :
    Calls Tryz.prog 115 #[.string s] w fun e w' => e = .returned (.tuple #[.int .i64 i, .int .i64 er]) ∧ Below w.heap.size w w' := by
  have RR := Lib.hid hR
  have IX := Lib.hid (fun (k : Nat) (hk : k < 29) W => index_tab hk W)
  have HT := Lib.hid (p := ∀ k : Nat, k < 29 → nmA k = s → i = (k : Int) ∧ er = 0) (fun k hk e => (FnE.one (.inl ⟨k, hk, e, rfl, rfl⟩) hF).imp Eq.symm Eq.symm)
  have HM := Lib.hid (p := (∀ k : Nat, k < 29 → nmA k ≠ s) → i = 0 ∧ er = 111) (fun hn => (FnE.one (.inr ⟨hn, rfl, rfl⟩) hF).imp Eq.symm Eq.symm)
  have LT := Lib.hid (fun (ops : Array Oper) (rest : List Oper) (op : Oper) (a : Act) (Q : Exit → Act → World → Prop) => @load_tab ops rest op a w Q)
  clear hF hR
  generalize hA : tabC.toArray = A at *
  clear hA
  go_enter Tryz.func115, Tryz.ntmps115
  go_wp2_with (first | (with_reducible show wpList _ _ _ (Oper.mk _ (Op.load 128 _) _ _ _ _ :: _) _ _; refine LT.out _ _ _ _ _ rfl _ rfl rfl RR.out ?_))
  go_loopw [7] (fun t wr => ∃ k : Nat, k ≤ 29 ∧ t = .int .i64 (k : Int) ∧ RowKit.Hid (∀ j : Nat, j < k → nmA j ≠ s) ∧ Below w.heap.size w wr) (fun t _ => 29 - (intOf t).toNat)
  case atStart => exact ⟨0, by omega, rfl, fun j hj => absurd hj (by omega), Below.refl _ _⟩
  case round =>
    obtain ⟨k, hk, rfl, hN, hB⟩ := hrel
    rename World => wr
    have BB := Lib.hid hB
    clear hB
    by_cases hlt : k < 29
    · have kc : (k : Int) < 29 := by omega
      have ix := IX.out k hlt
      have HTk := Lib.hid (HT.out k hlt)
      have NX := Lib.hid (p := nmA k ≠ s → ∀ j : Nat, j < k + 1 → nmA j ≠ s) (fun g j hj => by
        rcases (show j < k ∨ j = k by omega) with q | q
        · exact hN.out j q
        · rw [q]; exact g)
      generalize nmA k = b at *
      generalize ((onA k : Nat) : Int) = x1 at *
      generalize ((tkA k : Nat) : Int) = x2 at *
      generalize ((ptA k : Nat) : Int) = x3 at *
      generalize ((baA k : Nat) : Int) = x4 at *
      generalize ((bbA k : Nat) : Int) = x5 at *
      by_cases hs : b = s
      · obtain ⟨rfl, rfl⟩ := HTk.out hs
        subst hs
        go_wp2
        go_ret2
        exact ⟨rfl, BB.out.alloc BB.out.size _⟩
      · have hs' : (b.toList == s.toList) = false := by
          rw [beq_eq_false_iff_ne]; exact fun q => hs (bytes_eq q)
        have NS := Lib.hid (NX.out hs)
        clear hs
        go_wp2
        go_roundw
        case rel => exact ⟨k + 1, by omega, by go_num, NS.out, BB.out.alloc BB.out.size _⟩
        case measure => simp [intOf]; omega
    · obtain rfl : k = 29 := by omega
      obtain ⟨rfl, rfl⟩ := HM.out hN.out
      go_wp2
      go_ret2
      exact ⟨rfl, BB.out⟩
end Go.Proofs.YtccjeipkljdhdaaGreatDoor
