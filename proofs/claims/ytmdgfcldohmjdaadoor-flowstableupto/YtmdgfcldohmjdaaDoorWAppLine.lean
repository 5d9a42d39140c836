/-
  WALK: appendLine.
-/
import Derived.Test.YtmdgfcldohmjdaaDoorWFlows
import Derived.Test.YtmdgfcldohmjdaaDoorShelf
import Derived.Lib.AppendStr
import Derived.Lib.AppendIntMem
import Derived.Lib.OthersKept
import Derived.Lib.ItoaLen
namespace Go.Proofs.YtmdgfcldohmjdaaDoor
open Go.RowKit
set_option linter.unusedVariables false
set_option linter.unusedSimpArgs false

/-- A flow's line, byte by byte. -/
def lineL (f : Fl) : List UInt8 := Lib.itoa f.d ++ [32] ++ f.c.data.toList ++ [32] ++ Lib.itoa f.a ++ [10]
theorem info8 : (Tryd.prog.info? 5).map (fun i => (i.zero, i.size, i.bytes)) = some (some (.int .u8 0), 1, 1) := by kernel_rfl

/-- An append of one byte. -/
theorem wp_byte {ops : Array Oper} {rest : List Oper} {o : Oper} {a : Act} {Q : Exit → Act → World → Prop} (w : World) (c : Int) (hgd : o.guard = none) (s x : Operand)
    (ho : o.op = .call { callee := .builtin .append, args := #[s, x], argTypes := #[55, 55] }) (base : Nat) (v : Value) (n : Nat) (xs : List Value) (hs : a.eval s = v)
    (hx : a.eval x = .slice (some ⟨w.heap.size, 0, none⟩) 1 1) (hown : w.ownsRow base 5 1 v n xs) (hl : n ≤ 4398046511000) (hb : base ≤ w.heap.size)
    (h : ∀ v' w', w'.ownsRow base 5 1 v' (n + 1) (xs ++ [.int .u8 c]) → (w.alloc (.cells #[.int .u8 c] 5)).grownBy w' v.ownBlock → wpList Tryd.prog ops Q rest (a.put o.dst v') w') :
    wpList Tryd.prog ops Q (o :: rest) a (w.alloc (.cells #[.int .u8 c] 5)) := by
  obtain ⟨i0, hi, hz0, hz1, hz2⟩ := info_parts info8
  refine wpList_append_own _ hgd s x 55 ho base 5 i0 (.int .u8 0) 1 1 Tryd.underlying55 hi hz0 hz1 hz2 rfl (by decide) v _ _ hs (hown.alloc _) ⟨w.heap.size, 0, none⟩ 1 1 [.int .u8 c] hx rfl ?_ ?_ (by unfold maxLen; omega) (by omega) (by simp; omega) ?_
  · intro j u hj
    match j, hj with
    | 0, hj => simp at hj; subst hj; simp [Addr.add]
  · intro u hu; simp at hu; subst hu; rfl
  · intro v' w' h1 h2 _
    exact h v' w' h1 h2

/-- The box of the flow. -/
def BoxL (w W : World) (d : Int) (c : ByteArray) (a : Int) : Prop := W.heap[w.heap.size]? = some (.cells #[.int .i64 d, .string c, .int .i64 a] 32 (0, 0))
theorem boxL_new (w : World) (d : Int) (c : ByteArray) (a : Int) : BoxL w (w.alloc (.cells #[.int .i64 d, .string c, .int .i64 a] 32)) d c a := by
  unfold BoxL
  show (w.heap.push _)[w.heap.size]? = _
  simp
theorem boxL_alloc {w W : World} {d : Int} {c : ByteArray} {a : Int} (h : BoxL w W d c a) (o : Obj) : BoxL w (W.alloc o) d c a := (Below.heap_alloc W o _ (Array.getElem?_eq_some_iff.1 h).1).trans h
theorem boxL_kept {w W W' : World} {d : Int} {c : ByteArray} {a : Int} (h : BoxL w W d c a) (k : Lib.OthersKept 5 none W W') : BoxL w W' d c a :=
  k _ _ h (fun e => by cases e) (fun c fz e => by injection e with _ e _; revert e; decide)
theorem boxL_grown {w W W' : World} {d : Int} {c : ByteArray} {a : Int} {row : Option Nat} {B n : Nat} {v : Value} {xs : List Value} (h : BoxL w W d c a) (hg : W.grownBy W' row) (ho : W.ownsRow B 5 1 v n xs) (hr : row = v.ownBlock) : BoxL w W' d c a := by
  refine (hg.block _ (Array.getElem?_eq_some_iff.1 h).1 (fun e => ?_)).trans h
  rw [hr] at e
  obtain ⟨_, h2⟩ := ho
  rcases h2 with ⟨rfl, _⟩ | ⟨g, cap, cur, rfl, _, hg', _⟩
  · cases e
  · simp [Value.ownBlock] at e
    rw [← e, h] at hg'
    injection hg' with hg'
    injection hg' with _ hg' _
    revert hg'; decide
theorem boxL_cells {w W : World} {d : Int} {c : ByteArray} {a : Int} (h : BoxL w W d c a) : W.cell? ⟨w.heap.size, 0, none⟩ = some (.int .i64 d) ∧ W.cell? ⟨w.heap.size, 1, none⟩ = some (.string c) ∧ W.cell? ⟨w.heap.size, 2, none⟩ = some (.int .i64 a) := by
  unfold BoxL at h
  refine ⟨?_, ?_, ?_⟩ <;> simp [World.cell?, h]

abbrev Pw (B : Nat) (w : World) : Prop := Lib.TabBelow Tryd.prog B w "internal/strconv.uint64pow10" .u64 Lib.pow10Tab
theorem Pw.later {B : Nat} {w w' : World} (h : Pw B w) (b : Below B w w') : Pw B w' := fun w2 b2 => h w2 (b.trans b2)

set_option maxRecDepth 100000 in
set_option maxHeartbeats 4000000 in
theorem appendLine_any (v : Value) (n B : Nat) (bs : List UInt8) (d a : Int) (c : ByteArray) (w : World) (ho : w.ownsRow B 5 1 v n (Lib.byteCells bs)) (hn : n ≤ 1048576) (hB : B ≤ w.heap.size) (hc : c.size = 3) (hd : (Lit.int .i64 d).wf = true) (ha : (Lit.int .i64 a).wf = true) (hP : Pw B w) :
    Calls Tryd.prog 23 #[v, .agg #[.int .i64 d, .string c, .int .i64 a]] w fun e w' => ∃ v', e = .returned v' ∧ w'.ownsRow B 5 1 v' (n + (lineL ⟨d, c, a⟩).length) (Lib.byteCells (bs ++ lineL ⟨d, c, a⟩)) ∧ Below B w w' := by
  have d0 : -9223372036854775808 ≤ d ∧ d ≤ 9223372036854775807 := by simpa [Lit.wf, IntKind.min, IntKind.max, IntKind.bits, IntKind.signed] using hd
  have a0 : -9223372036854775808 ≤ a ∧ a ≤ 9223372036854775807 := by simpa [Lit.wf, IntKind.min, IntKind.max, IntKind.bits, IntKind.signed] using ha
  have ld := Lib.itoa_length_le d d0.1 d0.2
  have la := Lib.itoa_length_le a a0.1 a0.2
  have HP := Lib.hid hP
  have X0 := Lib.hid (boxL_new w d c a)
  have B0 := Lib.hid ((Below.refl B w).alloc hB (.cells #[.int .i64 d, .string c, .int .i64 a] 32))
  have O0 := Lib.hid (ho.alloc (.cells #[.int .i64 d, .string c, .int .i64 a] 32))
  have S0 := Lib.hid (show B ≤ (w.alloc (.cells #[.int .i64 d, .string c, .int .i64 a] 32)).heap.size by simp; omega)
  have D0 := Lib.hid d0
  have A0 := Lib.hid a0
  obtain ⟨i0, hi, hz0, hz1, hz2⟩ := info_parts info8
  clear ho hP d0 a0 hd ha
  go_enter Tryd.func23, Tryd.ntmps23
  go_wp2_with (first
    | (go_at_call 42; have qq := O4; refine (Tryd.strconv_AppendInt_10 B _ a A0.out.1 A0.out.2 _ _ _ O4.out S4.out (by omega) (HP.out.later B4.out)).mono ?_; rintro e w5 ⟨v5, rfl, h1, h2, h3⟩; have O5 := Lib.hid h1; have B5 := Lib.hid (B4.out.trans h2); have S5 := Lib.hid (Nat.le_trans S4.out h2.size); clear h1 h2 h3)
    | (go_at_call 42; refine (Tryd.strconv_AppendInt_10 B n d D0.out.1 D0.out.2 _ _ _ O0.out S0.out (by omega) (HP.out.later B0.out)).mono ?_; rintro e w1 ⟨v1, rfl, h1, h2, h3⟩; have O1 := Lib.hid h1; have B1 := Lib.hid (B0.out.trans h2); have S1 := Lib.hid (Nat.le_trans S0.out h2.size); have X1 := Lib.hid (boxL_kept X0.out h3); clear h1 h2 h3; obtain ⟨x10, x11, x12⟩ := boxL_cells X1.out)
    | (at_builtin; have qq := O5; refine wp_byte _ 10 rfl _ _ rfl B _ _ _ rfl rfl O5.out (by omega) S5.out ?_; intro v6 w6 h1 h2; have O6 := Lib.hid h1; have B6 := Lib.hid ((B5.out.alloc S5.out _).grown h2 (Nat.le_trans S5.out (by simp)) (fun k e => (O5.out.lt k e).1)); clear h1 h2)
    | (at_builtin; have qq := O3; refine wp_byte _ 32 rfl _ _ rfl B _ _ _ rfl rfl O3.out (by omega) S3.out ?_; intro v4 w4 h1 h2; have O4 := Lib.hid h1; have B4 := Lib.hid ((B3.out.alloc S3.out _).grown h2 (Nat.le_trans S3.out (by simp)) (fun k e => (O3.out.lt k e).1)); have S4 := Lib.hid (Nat.le_trans (Nat.le_trans S3.out (by simp)) h2.size); have X4 := Lib.hid (boxL_grown (boxL_alloc X3.out _) h2 (O3.out.alloc _) rfl); clear h1 h2; obtain ⟨x40, x41, x42⟩ := boxL_cells X4.out)
    | (at_builtin; have qq := O2; refine Lib.wpList_append_own_string _ rfl _ _ 55 9 rfl B 5 i0 Tryd.underlying55 Tryd.underlying9 hi hz0 hz1 hz2 _ _ _ rfl O2.out c rfl (by unfold maxLen; omega) (by omega) S2.out ?_; intro v3 w3 h1 h2 _; have O3 := Lib.hid h1; have B3 := Lib.hid (B2.out.grown h2 S2.out (fun k e => (O2.out.lt k e).1)); have S3 := Lib.hid (Nat.le_trans S2.out h2.size); have X3 := Lib.hid (boxL_grown X2.out h2 O2.out rfl); clear h1 h2; obtain ⟨x30, x31, x32⟩ := boxL_cells X3.out)
    | (at_builtin; refine wp_byte _ 32 rfl _ _ rfl B _ _ _ rfl rfl O1.out (by omega) S1.out ?_; intro v2 w2 h1 h2; have O2 := Lib.hid h1; have B2 := Lib.hid ((B1.out.alloc S1.out _).grown h2 (Nat.le_trans S1.out (by simp)) (fun k e => (O1.out.lt k e).1)); have S2 := Lib.hid (Nat.le_trans (Nat.le_trans S1.out (by simp)) h2.size); have X2 := Lib.hid (boxL_grown (boxL_alloc X1.out _) h2 (O1.out.alloc _) rfl); clear h1 h2; obtain ⟨x20, x21, x22⟩ := boxL_cells X2.out))
  go_ret
  refine ⟨_, rfl, ?_, B6.out⟩
  have o := O6.out
  have e1 : n + (lineL ⟨d, c, a⟩).length = n + (Lib.itoa d).length + 1 + c.size + 1 + (Lib.itoa a).length + 1 := by
    have : c.data.toList.length = c.size := Array.length_toList
    simp only [lineL, List.length_append, List.length_cons, List.length_nil, this]; omega
  have e2 : Lib.byteCells (bs ++ lineL ⟨d, c, a⟩) = Lib.byteCells bs ++ Lib.byteCells (Lib.itoa d) ++ [.int .u8 32] ++ Lib.strCells c ++ [.int .u8 32] ++ Lib.byteCells (Lib.itoa a) ++ [.int .u8 10] := by
    simp [lineL, Lib.byteCells, Lib.strCells]
  rw [e1, e2]
  exact o
end Go.Proofs.YtmdgfcldohmjdaaDoor
