/-
  WALKS: instructions printed, by the program: the words, joined.
-/
import Derived.Test.YtlcidigcecmnpaaDoorWAs7
import Derived.Test.YtlcidigcecmnpaaDoorShelf
namespace Go.Proofs.YtlcidigcecmnpaaDoor
open Go.RowKit
set_option linter.unusedVariables false
set_option linter.unusedSimpArgs false
/-- Three texts in a row of their own. -/
def Tx3 (W : World) (g : Nat) (a b c : ByteArray) : Prop := g < W.heap.size ∧ W.cell? ⟨g, 0, none⟩ = some (.string a) ∧ W.cell? ⟨g, 1, none⟩ = some (.string b) ∧ W.cell? ⟨g, 2, none⟩ = some (.string c)
set_option maxRecDepth 100000 in
set_option maxHeartbeats 4000000 in
theorem instrWords_any {w : World} {p : Pg} (h : PV w p) (i : In) (hi : i.okP) (hR : Rws w) (hP : Pows w) (hM : Mds w) :
    Calls Tryd.prog 10 #[p.agg, .agg #[.int .i64 i.o, .int .i64 i.a, .int .i64 i.b]] w fun e w' => ∃ g, e = .returned (.tuple #[.slice (some ⟨g, 0, none⟩) (1 + onA i.o.toNat) 3, .bool (fstB p.names p.curs p.pool i)]) ∧ Tx3 w' g (nmA i.o.toNat) (fstW p.names p.curs p.pool i) (txA i.b) ∧ Below w.heap.size w w' := by
  have hi' := hi
  obtain ⟨h1, h2, h3, h4, h5, h6⟩ := hi
  obtain ⟨o, a, b⟩ := i
  simp only at h1 h2 h3 h4 h5 h6 hi'
  obtain ⟨k, rfl⟩ : ∃ x : Nat, o = x := ⟨o.toNat, by omega⟩
  have hk : k < 29 := by omega
  have tf := tab_facts k hk
  have hb : i64 b := by
    obtain ⟨y, rfl⟩ : ∃ x : Nat, b = x := ⟨b.toNat, by omega⟩
    refine i64_nat ?_
    simp only [Int.toNat_natCast] at h6
    omega
  have RE : RowE (k : Int) (nmA k) (onA k) (tkA k) (ptA k) (baA k) (bbA k) 0 := ⟨.inl ⟨k, hk, rfl, rfl, rfl, rfl, rfl, rfl, rfl, rfl⟩⟩
  have X0 := pi_start w p ⟨(k : Int), a, b⟩
  obtain ⟨c0, c1, c2, c3, c4, c5, c6, c7, d0, d1, d2⟩ := X0.get
  have X := Lib.hid X0
  have KN := Lib.hid (fun W (b : Below w.heap.size w W) => name_any RE W (hR.below b))
  have KO := Lib.hid (fun W (b : Below w.heap.size w W) => operands_any RE W (hR.below b))
  have KT := Lib.hid (fun W (b : Below w.heap.size w W) => operandText_any (h.later b) _ hi' (hP.later b) (hM.later b))
  have KV := Lib.hid (fun W (q : Below w.heap.size w W) => valueText_any b hb W (hP.later q))
  have on2 := tf.1
  unfold inC at *
  unfold Pg.arr at *
  unfold Pg.agg at *
  simp only [Int.toNat_natCast] at *
  clear h h3 h4 h5 h6 hi' hb RE tf hR hP hM X0 h1 h2
  generalize fstW p.names p.curs p.pool ⟨(k : Int), a, b⟩ = fw at *
  generalize fstB p.names p.curs p.pool ⟨(k : Int), a, b⟩ = fb at *
  generalize nmA k = nm at *
  generalize txA b = tb at *
  generalize onA k = on at *
  have wo : IntKind.i64.wrap (1 + (on : Int)) = ((1 + on : Nat) : Int) := by simp [IntKind.wrap, IntKind.bits, IntKind.signed]; omega
  have wo3 : (1 + on : Nat) ≤ 3 := by omega
  generalize hW0 : (w.alloc _).alloc _ = W0 at *
  go_enter Tryd.func10, Tryd.ntmps10
  go_wp2_with (first
    | (go_at_call 19; refine (KN.out _ X.out.bel).mono ?_; rintro e w1 ⟨rfl, b1⟩; have X1 := Lib.hid (X.out.later b1); clear b1 c0 c1 c2 c3 c4 c5 c6 c7 d0 d1 d2; obtain ⟨c0, c1, c2, c3, c4, c5, c6, c7, d0, d1, d2⟩ := X1.out.get; simp only at c0 c1 c2 c3 c4 c5 c6 c7 d0 d1 d2)
    | (go_at_call 20; refine (KO.out _ X1.out.bel).mono ?_; rintro e w2 ⟨rfl, b1⟩; have X2 := Lib.hid (X1.out.later b1); clear b1 c0 c1 c2 c3 c4 c5 c6 c7 d0 d1 d2; obtain ⟨c0, c1, c2, c3, c4, c5, c6, c7, d0, d1, d2⟩ := X2.out.get; simp only at c0 c1 c2 c3 c4 c5 c6 c7 d0 d1 d2)
    | (go_at_call 21; refine (KT.out _ X2.out.bel).mono ?_; rintro e w3 ⟨rfl, b1⟩; have X3 := Lib.hid (X2.out.later b1); clear b1 c0 c1 c2 c3 c4 c5 c6 c7 d0 d1 d2; obtain ⟨c0, c1, c2, c3, c4, c5, c6, c7, d0, d1, d2⟩ := X3.out.get; simp only at c0 c1 c2 c3 c4 c5 c6 c7 d0 d1 d2)
    | (go_at_call 22; refine (KV.out _ X3.out.bel).mono ?_; rintro e w4 ⟨rfl, b1⟩; have X4 := Lib.hid (X3.out.later b1); clear b1))
  go_ret2
  refine ⟨_, rfl, ⟨by simp, ?_, ?_, ?_⟩, X4.out.bel.alloc X4.out.bel.size _⟩ <;> simp
theorem tx3_cells {W : World} {g : Nat} {a b c : ByteArray} (h : Tx3 W g a b c) (n : Nat) : ∀ (j : Nat) x, ([a, b, c].take n)[j]? = some x → W.cell? ⟨g, 0 + j, none⟩ = some (.string x) := by
  intro j x hj
  have hj' : [a, b, c][j]? = some x := by
    rw [List.getElem?_take] at hj
    split at hj
    · exact hj
    · cases hj
  rw [Nat.zero_add]
  match j, hj' with
  | 0, hj => simp at hj; subst hj; exact h.2.1
  | 1, hj => simp at hj; subst hj; exact h.2.2.1
  | 2, hj => simp at hj; subst hj; exact h.2.2.2
theorem join_size (a b c : ByteArray) (n : Nat) (hn : 1 ≤ n ∧ n ≤ 3) (h : a.size + b.size + c.size ≤ 140737488355000) : (Lib.join (([a, b, c].take n).map (·.data.toList)) [32]).length ≤ 140737488355328 := by
  have la : a.data.toList.length = a.size := Array.length_toList
  have lb : b.data.toList.length = b.size := Array.length_toList
  have lc : c.data.toList.length = c.size := Array.length_toList
  match n, hn with
  | 1, _ => simp [Lib.join_cons, Lib.joinTail]; omega
  | 2, _ => simp [Lib.join_cons, Lib.joinTail]; omega
  | 3, _ => simp [Lib.join_cons, Lib.joinTail]; omega
theorem fst_size {w : World} {p : Pg} (h : PV w p) (i : In) (hi : i.okP) : (fstW p.names p.curs p.pool i).size ≤ 140737488351232 := by
  obtain ⟨h1, h2, h3, h4, h5, h6⟩ := hi
  have hx : i.a ≤ 262143 := by have := (tab_facts i.o.toNat (by omega)).2.1; omega
  have gs : ∀ (l : List ByteArray) (k : Nat), (∀ s ∈ l, s.size ≤ 140737488351232) → (l.getD k ⟨#[]⟩).size ≤ 140737488351232 := fun l k hl => by
    by_cases hk : k < l.length
    · exact hl _ (by simp [List.getD, hk])
    · rw [show l.getD k ⟨#[]⟩ = ⟨#[]⟩ by simp [List.getD, List.getElem?_eq_none (show l.length ≤ k by omega)]]; decide
  unfold fstW
  split
  · have := txA_len (pool_i64 h i.a.toNat); omega
  split
  · exact gs _ _ h.names.2.2.2.1
  split
  · exact gs _ _ h.curs.2.2.2.1
  split
  · rename_i e
    rw [e] at h4
    have : baA (18 : Int).toNat = 4 := rfl
    have := md_some i.a.toNat (by omega)
    omega
  · obtain ⟨x, hx'⟩ : ∃ x : Nat, i.a = x := ⟨i.a.toNat, by omega⟩
    rw [hx']
    have := txA_len (i64_nat (k := x) (by omega)); omega
set_option maxRecDepth 100000 in
set_option maxHeartbeats 4000000 in
theorem printInstr_any {w : World} {p : Pg} (h : PV w p) (i : In) (hR : Rws w) (hP : Pows w) (hM : Mds w) :
    Calls Tryd.prog 5 #[p.agg, .agg #[.int .i64 i.o, .int .i64 i.a, .int .i64 i.b]] w fun e w' => e = .returned (.tuple #[.string (prT p.names p.curs p.pool i), .int .i64 (prE p.names p.curs p.pool i)]) ∧ Below w.heap.size w w' := by
  have X0 := pi_start w p i
  obtain ⟨c0, c1, c2, c3, c4, c5, c6, c7, d0, d1, d2⟩ := X0.get
  have X := Lib.hid X0
  have KV := Lib.hid (fun W (b : Below w.heap.size w W) => valid_any i.o i.a i.b W (hR.below b))
  unfold prT prE
  by_cases hi : i.okP
  · have ov : okV ⟨i.o, i.a, i.b⟩ = 0 := okV_pos hi
    rw [ov] at KV
    simp only [if_pos hi]
    have KW := Lib.hid (fun W (b : Below w.heap.size w W) => instrWords_any (h.later b) i hi (hR.below b) (hP.later b) (hM.later b))
    have on2 := (tab_facts i.o.toNat (by have := hi.1; have := hi.2.1; omega)).1
    have hbb := (tab_facts i.o.toNat (by have := hi.1; have := hi.2.1; omega)).2.2.1
    have JL := Lib.hid (join_size (nmA i.o.toNat) (fstW p.names p.curs p.pool i) (txA i.b) (1 + onA i.o.toNat) (by omega) (by
      have e1 := nm_size i.o.toNat (by have := hi.1; have := hi.2.1; omega)
      have e2 := fst_size h i hi
      have e3 : (txA i.b).size ≤ 21 := by
        obtain ⟨y, hy⟩ : ∃ x : Nat, i.b = x := ⟨i.b.toNat, by have := hi.2.2.2.2.1; omega⟩
        rw [hy]
        exact txA_len (i64_nat (by have := hi.2.2.2.2.2; omega))
      omega))
    have WD : wdsA p.names p.curs p.pool i = [nmA i.o.toNat, fstW p.names p.curs p.pool i, txA i.b].take (1 + onA i.o.toNat) := rfl
    rw [WD]
    clear h hP hM hi ov WD hR hbb
    generalize fstW p.names p.curs p.pool i = fw at *
    generalize fstB p.names p.curs p.pool i = fb at *
    generalize nmA i.o.toNat = nm at *
    generalize txA i.b = tb at *
    generalize onA i.o.toNat = on at *
    obtain ⟨o, a, b⟩ := i
    unfold inC at *
    unfold Pg.arr at *
    unfold Pg.agg at *
    simp only at *
    have ln : ([nm, fw, tb].take (1 + on)).length = 1 + on := by simp; omega
    have JN := Lib.hid (fun W (g : Nat) (t : Tx3 W g nm fw tb) => Tryd.strings_Join g 0 3 ([nm, fw, tb].take (1 + on)) ⟨#[32]⟩ W (tx3_cells t _) t.1 (by rw [ln]; omega) (by rw [ln]; omega) JL.out)
    rw [ln] at JN
    unfold jnA
    generalize hJ : (Lib.join (([nm, fw, tb].take (1 + on)).map (·.data.toList)) [32]) = js at *
    have JN2 := Lib.hid (fun W (g : Nat) (t : Tx3 W g nm fw tb) => (JN.out W g t : Calls Tryd.prog 11 #[.slice (some ⟨g, 0, none⟩) (1 + on) 3, .string ⟨#[32]⟩] W fun e w' => e = .returned (.string ⟨js.toArray⟩) ∧ Below W.heap.size W w'))
    clear JN JL hJ ln on2
    generalize hW0 : (w.alloc _).alloc _ = W0 at *
    cases fb with
    | false =>
      go_enter Tryd.func5, Tryd.ntmps5
      go_wp2_with (first
        | (go_at_call 9; refine (KV.out _ X.out.bel).mono ?_; rintro e w1 ⟨rfl, b1⟩; have X1 := Lib.hid (X.out.later b1); clear b1 c0 c1 c2 c3 c4 c5 c6 c7 d0 d1 d2; obtain ⟨c0, c1, c2, c3, c4, c5, c6, c7, d0, d1, d2⟩ := X1.out.get; simp only at c0 c1 c2 c3 c4 c5 c6 c7 d0 d1 d2)
        | (go_at_call 10; refine (KW.out _ X1.out.bel).mono ?_; rintro e w2 ⟨g, rfl, t2, b1⟩; have X2 := Lib.hid (X1.out.later b1); clear b1))
      go_ret2
      exact ⟨rfl, X2.out.bel⟩
    | true =>
      go_enter Tryd.func5, Tryd.ntmps5
      go_wp2_with (first
        | (go_at_call 9; refine (KV.out _ X.out.bel).mono ?_; rintro e w1 ⟨rfl, b1⟩; have X1 := Lib.hid (X.out.later b1); clear b1 c0 c1 c2 c3 c4 c5 c6 c7 d0 d1 d2; obtain ⟨c0, c1, c2, c3, c4, c5, c6, c7, d0, d1, d2⟩ := X1.out.get; simp only at c0 c1 c2 c3 c4 c5 c6 c7 d0 d1 d2)
        | (go_at_call 10; refine (KW.out _ X1.out.bel).mono ?_; rintro e w2 ⟨g, rfl, t2, b1⟩; have X2 := Lib.hid (X1.out.later b1); have T2 := Lib.hid t2; clear b1 t2)
        | (go_at_call 11; refine (JN2.out _ _ T2.out).mono ?_; rintro e w3 ⟨rfl, b1⟩; have X3 := Lib.hid (X2.out.later b1); clear b1))
      go_ret2
      exact ⟨rfl, X3.out.bel⟩
  · have ov : okV ⟨i.o, i.a, i.b⟩ = 111 := okV_neg hi
    rw [ov] at KV
    simp only [if_neg hi]
    clear h hP hM hi ov hR
    obtain ⟨o, a, b⟩ := i
    unfold inC at *
    unfold Pg.arr at *
    unfold Pg.agg at *
    simp only at *
    generalize hW0 : (w.alloc _).alloc _ = W0 at *
    go_enter Tryd.func5, Tryd.ntmps5
    go_wp2_with (first
      | (go_at_call 9; refine (KV.out _ X.out.bel).mono ?_; rintro e w1 ⟨rfl, b1⟩; have X1 := Lib.hid (X.out.later b1); clear b1))
    go_ret2
    exact ⟨rfl, X1.out.bel⟩
end Go.Proofs.YtlcidigcecmnpaaDoor
