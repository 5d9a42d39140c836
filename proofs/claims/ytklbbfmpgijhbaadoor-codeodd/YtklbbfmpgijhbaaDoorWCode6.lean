/-
  WALKS: Find of both; the statements CodeFinds, CodeNames.
-/
import Derived.Test.YtklbbfmpgijhbaaDoorWCode5
namespace Go.Proofs.YtklbbfmpgijhbaaDoor
open Go.RowKit
set_option linter.unusedVariables false
set_option linter.unusedSimpArgs false

/-- What Find answers. -/
def FnE (s : ByteArray) (i er : Int) : Prop := (∃ k : Nat, k < 29 ∧ nmA k = s ∧ i = (k : Int) ∧ er = 0) ∨ ((∀ k : Nat, k < 29 → nmA k ≠ s) ∧ i = 0 ∧ er = 111)
theorem nm_one {k j : Nat} (hk : k < 29) (hj : j < 29) (h : nmA k = nmA j) : k = j := by
  by_cases e : k = j
  · exact e
  · exact absurd (by rw [h]) (nm_ne k hk j hj e)
theorem FnE.one {s : ByteArray} {i er i' er' : Int} (h : FnE s i er) (k : FnE s i' er') : i = i' ∧ er = er' := by
  rcases h with ⟨a, ha, e, rfl, rfl⟩ | ⟨hn, rfl, rfl⟩
  · rcases k with ⟨b, hb, e', rfl, rfl⟩ | ⟨hn, _⟩
    · rw [nm_one ha hb (e.trans e'.symm)]; exact ⟨rfl, rfl⟩
    · exact absurd e (hn a ha)
  · rcases k with ⟨b, hb, e', _⟩ | ⟨_, rfl, rfl⟩
    · exact absurd e' (hn b hb)
    · exact ⟨rfl, rfl⟩
theorem fn_ex (s : ByteArray) : ∃ i er, FnE s i er := by
  by_cases h : ∃ k : Nat, k < 29 ∧ nmA k = s
  · obtain ⟨k, hk, e⟩ := h; exact ⟨_, _, .inl ⟨k, hk, e, rfl, rfl⟩⟩
  · exact ⟨_, _, .inr ⟨fun k hk e => h ⟨k, hk, e⟩, rfl, rfl⟩⟩
theorem bytes_eq {a b : ByteArray} (h : a.toList = b.toList) : a = b := by
  obtain ⟨⟨l⟩⟩ := a
  obtain ⟨⟨m⟩⟩ := b
  rw [ByteArray.toList_mk, ByteArray.toList_mk] at h
  subst h
  rfl
/-- The whole table, as a value. -/
def tabC : List Value := (List.range 29).flatMap fun k => [Value.string (nmA k), .int .u8 (onA k : Int), .int .u8 (tkA k : Int), .int .u8 (ptA k : Int), .int .i32 (baA k : Int), .int .i32 (bbA k : Int)]
theorem tabC_part : ∀ k, k < 29 → List.take 6 (List.drop (k * 6) tabC) = [Value.string (nmA k), .int .u8 (onA k : Int), .int .u8 (tkA k : Int), .int .u8 (ptA k : Int), .int .i32 (baA k : Int), .int .i32 (bbA k : Int)]
  | 0, _ => by kernel_rfl
  | 1, _ => by kernel_rfl
  | 2, _ => by kernel_rfl
  | 3, _ => by kernel_rfl
  | 4, _ => by kernel_rfl
  | 5, _ => by kernel_rfl
  | 6, _ => by kernel_rfl
  | 7, _ => by kernel_rfl
  | 8, _ => by kernel_rfl
  | 9, _ => by kernel_rfl
  | 10, _ => by kernel_rfl
  | 11, _ => by kernel_rfl
  | 12, _ => by kernel_rfl
  | 13, _ => by kernel_rfl
  | 14, _ => by kernel_rfl
  | 15, _ => by kernel_rfl
  | 16, _ => by kernel_rfl
  | 17, _ => by kernel_rfl
  | 18, _ => by kernel_rfl
  | 19, _ => by kernel_rfl
  | 20, _ => by kernel_rfl
  | 21, _ => by kernel_rfl
  | 22, _ => by kernel_rfl
  | 23, _ => by kernel_rfl
  | 24, _ => by kernel_rfl
  | 25, _ => by kernel_rfl
  | 26, _ => by kernel_rfl
  | 27, _ => by kernel_rfl
  | 28, _ => by kernel_rfl
  | n + 29, h => absurd h (by omega)
theorem tabC_len : tabC.length = 174 := by kernel_rfl
theorem tabC_at (k : Nat) (hk : k < 29) (j : Nat) (hj : j < 6) : tabC[k * 6 + j]? = [Value.string (nmA k), .int .u8 (onA k : Int), .int .u8 (tkA k : Int), .int .u8 (ptA k : Int), .int .i32 (baA k : Int), .int .i32 (bbA k : Int)][j]? := by
  rw [← tabC_part k hk, List.getElem?_take_of_lt hj, List.getElem?_drop]
theorem Rws.range {w : World} (h : Rws w) : w.rangeAt 0 0 tabC := by
  intro j v hv
  have hj : j < 174 := by have := (List.getElem?_eq_some_iff.1 hv).1; rw [tabC_len] at this; exact this
  obtain ⟨k, m, hk, hm, rfl⟩ : ∃ k m, k < 29 ∧ m < 6 ∧ j = k * 6 + m := ⟨j / 6, j % 6, by omega, by omega, by omega⟩
  rw [tabC_at k hk m hm] at hv
  rw [Nat.zero_add, ← hv]
  obtain ⟨c0, c1, c2, c3, c4, c5⟩ := h.2 k hk
  have hh : m = 0 ∨ m = 1 ∨ m = 2 ∨ m = 3 ∨ m = 4 ∨ m = 5 := by omega
  rcases hh with rfl | rfl | rfl | rfl | rfl | rfl
  · exact c0
  · exact c1
  · exact c2
  · exact c3
  · exact c4
  · exact c5
theorem load_tab {ops : Array Oper} {rest : List Oper} {op : Oper} {a : Act} {w : World} {Q : Exit → Act → World → Prop} (hgd : op.guard = none) (x : Operand) (ho : op.op = .load 55 x) (hx : a.eval x = .pointer (some ⟨0, 0, none⟩)) (hR : Rws w) (h : wpList Tryd.prog ops Q rest (a.put op.dst (.agg tabC.toArray)) w) : wpList Tryd.prog ops Q (op :: rest) a w :=
  wpList_load_mid hgd 55 x ho 0 0 hx tabC _ hR.range Tryd.underlying55 rfl (by rw [tabC_len]; kernel_rfl) h
theorem index_tab {k : Nat} (hk : k < 29) (W : World) : (Instr.index 55 (.agg tabC.toArray) (.int .i64 (k : Int))).run Tryd.prog W = .ok (rowV (nmA k) (onA k : Int) (tkA k : Int) (ptA k : Int) (baA k : Int) (bbA k : Int)) W := by
  have h1 : (0 : Int) ≤ (k : Int) ∧ (k : Int) < ((29 : Nat) : Int) := by omega
  obtain ⟨i, hi, hs⟩ : ∃ i, Tryd.prog.info? 54 = some i ∧ i.size = 6 := by
    have : (Tryd.prog.info? 54).map (·.size) = some 6 := by kernel_rfl
    cases hq : Tryd.prog.info? 54 with
    | none => rw [hq] at this; cases this
    | some i => rw [hq] at this; exact ⟨i, rfl, by simpa using this⟩
  have hagg : (isAgg 54).run Tryd.prog W = .ok true W := by
    unfold isAgg
    rw [Sem.run_bind, run_underlying Tryd.underlying54 W]
    simp
  simp [Instr.index, run_underlying Tryd.underlying55, asIntOf, h1, sizeOf, typeInfo, hi, hs, part, Sem.run_bind, hagg, hk, tabC_part k hk]
set_option maxRecDepth 100000 in
set_option maxHeartbeats 2000000 in
theorem find_any (s : ByteArray) (i er : Int) (hF : FnE s i er) (w : World) (hR : Rws w) :
    Calls Tryd.prog 14 #[.string s] w fun e w' => e = .returned (.tuple #[.int .i64 i, .int .i64 er]) ∧ Below w.heap.size w w' := by
  have RR := Lib.hid hR
  have IX := Lib.hid (fun (k : Nat) (hk : k < 29) W => index_tab hk W)
  have HT := Lib.hid (p := ∀ k : Nat, k < 29 → nmA k = s → i = (k : Int) ∧ er = 0) (fun k hk e => (FnE.one (.inl ⟨k, hk, e, rfl, rfl⟩) hF).imp Eq.symm Eq.symm)
  have HM := Lib.hid (p := (∀ k : Nat, k < 29 → nmA k ≠ s) → i = 0 ∧ er = 111) (fun hn => (FnE.one (.inr ⟨hn, rfl, rfl⟩) hF).imp Eq.symm Eq.symm)
  have LT := Lib.hid (fun (ops : Array Oper) (rest : List Oper) (op : Oper) (a : Act) (Q : Exit → Act → World → Prop) => @load_tab ops rest op a w Q)
  clear hF hR
  generalize hA : tabC.toArray = A at *
  clear hA
  go_enter Tryd.func14, Tryd.ntmps14
  go_wp2_with (first | (with_reducible show wpList _ _ _ (Oper.mk _ (Op.load 55 _) _ _ _ _ :: _) _ _; refine LT.out _ _ _ _ _ rfl _ rfl rfl RR.out ?_))
  go_loopw [7] (fun t wr => ∃ k : Nat, k ≤ 29 ∧ t = .int .i64 (k : Int) ∧ RowKit.Hid (∀ j : Nat, j < k → nmA j ≠ s) ∧ Below w.heap.size w wr) (fun t _ => 29 - (intOf t).toNat)
  case atStart => exact ⟨0, by omega, rfl, fun j hj => absurd hj (by omega), Below.refl _ _⟩
  case round =>
    obtain ⟨k, hk, rfl, hN, hB⟩ := hrel
    rename World => wr
    have BB := Lib.hid hB
    clear hB
    by_cases hlt : k < 29
    · have kc : (k : Int) < 29 := by omega
      have ix := IX.out k hlt
      have HTk := Lib.hid (HT.out k hlt)
      have NX := Lib.hid (p := nmA k ≠ s → ∀ j : Nat, j < k + 1 → nmA j ≠ s) (fun g j hj => by
        rcases (show j < k ∨ j = k by omega) with q | q
        · exact hN.out j q
        · rw [q]; exact g)
      generalize nmA k = b at *
      generalize ((onA k : Nat) : Int) = x1 at *
      generalize ((tkA k : Nat) : Int) = x2 at *
      generalize ((ptA k : Nat) : Int) = x3 at *
      generalize ((baA k : Nat) : Int) = x4 at *
      generalize ((bbA k : Nat) : Int) = x5 at *
      by_cases hs : b = s
      · obtain ⟨rfl, rfl⟩ := HTk.out hs
        subst hs
        go_wp2
        go_ret2
        exact ⟨rfl, BB.out.alloc BB.out.size _⟩
      · have hs' : (b.toList == s.toList) = false := by
          rw [beq_eq_false_iff_ne]; exact fun q => hs (bytes_eq q)
        have NS := Lib.hid (NX.out hs)
        clear hs
        go_wp2
        go_roundw
        case rel => exact ⟨k + 1, by omega, by go_num, NS.out, BB.out.alloc BB.out.size _⟩
        case measure => simp [intOf]; omega
    · obtain rfl : k = 29 := by omega
      obtain ⟨rfl, rfl⟩ := HM.out hN.out
      go_wp2
      go_ret2
      exact ⟨rfl, BB.out⟩
set_option maxRecDepth 100000 in
set_option maxHeartbeats 2000000 in
theorem refFind_any (s : ByteArray) (i er : Int) (hF : FnE s i er) (w : World) :
    Calls Tryd.prog 15 #[.string s] w fun e w' => e = .returned (.tuple #[.int .i64 i, .int .i64 er]) ∧ Below w.heap.size w w' := by
  have KT := Lib.hid (table_any w)
  have HT := Lib.hid (p := ∀ k : Nat, k < 29 → nmA k = s → i = (k : Int) ∧ er = 0) (fun k hk e => (FnE.one (.inl ⟨k, hk, e, rfl, rfl⟩) hF).imp Eq.symm Eq.symm)
  have HM := Lib.hid (p := (∀ k : Nat, k < 29 → nmA k ≠ s) → i = 0 ∧ er = 111) (fun hn => (FnE.one (.inr ⟨hn, rfl, rfl⟩) hF).imp Eq.symm Eq.symm)
  clear hF
  go_enter Tryd.func15, Tryd.ntmps15
  go_wp2_with (go_at_call 33; refine KT.out.mono ?_; rintro e w1 ⟨g, cap, rfl, hT, h1⟩; have TT := Lib.hid hT; have B1 := Lib.hid h1; clear h1 hT)
  go_loop [5] (fun t => ∃ k : Nat, k ≤ 29 ∧ t = .int .i64 (k : Int) ∧ RowKit.Hid (∀ j : Nat, j < k → nmA j ≠ s)) (fun t => 29 - (intOf t).toNat)
  case atStart => exact ⟨0, by omega, rfl, fun j hj => absurd hj (by omega)⟩
  case round =>
    obtain ⟨k, hk, rfl, hN⟩ := hrel
    by_cases hlt : k < 29
    · have kc : (k : Int) < 29 := by omega
      have c0 := (TT.out.2 k hlt).1
      have HTk := Lib.hid (HT.out k hlt)
      have NX := Lib.hid (p := nmA k ≠ s → ∀ j : Nat, j < k + 1 → nmA j ≠ s) (fun g j hj => by
        rcases (show j < k ∨ j = k by omega) with q | q
        · exact hN.out j q
        · rw [q]; exact g)
      generalize nmA k = b at *
      by_cases hs : b = s
      · obtain ⟨rfl, rfl⟩ := HTk.out hs
        subst hs
        go_wp2
        go_ret2
        exact ⟨rfl, B1.out⟩
      · have hs' : (b.toList == s.toList) = false := by
          rw [beq_eq_false_iff_ne]; exact fun q => hs (bytes_eq q)
        have NS := Lib.hid (NX.out hs)
        clear hs
        go_wp2
        go_round
        case rel => exact ⟨k + 1, by omega, by go_num, NS.out⟩
        case measure => simp [intOf]; omega
    · obtain rfl : k = 29 := by omega
      obtain ⟨rfl, rfl⟩ := HM.out hN.out
      go_wp2
      go_ret2
      exact ⟨rfl, B1.out⟩
theorem codeFinds_go (s : ByteArray) (w : World) (hR : Rws w) :
    Calls Tryd.prog 3 #[.string s] w fun e w' => e = .returned (.bool true) ∧ Below w.heap.size w w' := by
  obtain ⟨i, er, hF⟩ := fn_ex s
  have K0 := Lib.hid (find_any s i er hF w hR)
  have K1 := Lib.hid (fun W => refFind_any s i er hF W)
  clear hF hR
  go_enter Tryd.func3, Tryd.ntmps3
  go_wp2_with (first
    | (go_at_call 14; refine K0.out.mono ?_; rintro e w1 ⟨rfl, h1⟩; have B1 := Lib.hid h1; clear h1)
    | (go_at_call 15; refine (K1.out _).mono ?_; rintro e w2 ⟨rfl, h1⟩; have B2 := Lib.hid (B1.out.trans (h1.mono B1.out.size)); clear h1))
  go_ret
  exact ⟨rfl, B2.out⟩
end Go.Proofs.YtklbbfmpgijhbaaDoor
