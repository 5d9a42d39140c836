/-
  WALK: ownNames: names in new memory, two more behind their end.
-/
import Derived.Test.YthkeoeobpdminaaDoorWTRValid
import Derived.Laws.AppendOwn
import Derived.Laws.AppendOwnNone
import Derived.Laws.OwnMore
import Derived.Maps.AppendAt
import Derived.Lib.LazyBuf
namespace Go.Proofs.YthkeoeobpdminaaDoor
open Go.RowKit
set_option linter.unusedVariables false
set_option linter.unusedSimpArgs false

/-- 'append(s, x...)' of a row that the call owns; x: any slice, its cells as they lie. -/
theorem wp_appG {T E : TypeId} {z : Value} {size bytes : Nat} (hT : Tryd.prog.underlying T = some (.slice E)) (hinfo : (Tryd.prog.info? E).map (fun i => (i.zero, i.size, i.bytes)) = some (some z, size, bytes)) (hzs : z.cells.size = size) (hsz : 0 < size)
    {ops : Array Oper} {rest : List Oper} {o : Oper} {a : Act} {Q : Exit → Act → World → Prop} (w : World) (B : Nat) (hB : B ≤ w.heap.size) (ad : Option Addr) (n cap : Nat) (us : List Value) (hl : us.length = n * size) (hnews : ∀ x, ad = some x → ∀ j u, us[j]? = some u → w.cell? (x.add j) = some u) (hn0 : ad = none → n = 0 ∧ cap = 0) (one : ∀ u ∈ us, u.oneCell' = true)
    (hgd : o.guard = none) (s x : Operand) (ho : o.op = .call { callee := .builtin .append, args := #[s, x], argTypes := #[T, T] }) (v : Value) (m : Nat) (xs : List Value) (hs : a.eval s = v) (hown : w.ownsRow B E size v m xs) (hx : a.eval x = .slice ad n cap) (h63 : m + n ≤ maxLen) (hby : (m + n) * bytes ≤ 140737488355328)
    (h : ∀ v' w', w'.ownsRow B E size v' (m + n) (xs ++ us) → w.grownBy w' v.ownBlock → wpList Tryd.prog ops Q rest (a.put o.dst v') w') : wpList Tryd.prog ops Q (o :: rest) a w := by
  obtain ⟨i0, hi, hz0, hz1, hz2⟩ := info_parts hinfo
  cases ad with
  | none =>
    obtain ⟨rfl, rfl⟩ := hn0 rfl
    have : us = [] := List.length_eq_zero_iff.1 (by omega)
    subst this
    exact wpList_append_own_none hgd s x T ho B E i0 size hT hi v m xs hs hown hx (h v w (by simpa using hown) ⟨rfl, rfl, rfl, Nat.le_refl _, fun _ _ _ => rfl⟩)
  | some x1 =>
    exact wpList_append_own _ hgd s x T ho B E i0 z size bytes hT hi hz0 hz1 hz2 hzs hsz v m xs hs hown x1 n cap us hx hl (hnews x1 rfl) one h63 hby hB (fun v' w' h1 h2 _ => h v' w' h1 h2)

theorem infoS : (Tryd.prog.info? 9).map (fun i => (i.zero, i.size, i.bytes)) = some (some (.string ⟨#[]⟩), 1, 16) := by kernel_rfl
theorem infoC : (Tryd.prog.info? 35).map (fun i => (i.zero, i.size, i.bytes)) = some (some (.agg #[.bool false, .int .i64 0]), 2, 16) := by kernel_rfl
theorem infoR : (Tryd.prog.info? 37).map (fun i => (i.zero, i.size, i.bytes)) = some (some (.slice none 0 0), 1, 24) := by kernel_rfl
theorem make_row {T E : TypeId} {z : Value} {size bytes : Nat} (hT : Tryd.prog.underlying T = some (.slice E)) (hinfo : (Tryd.prog.info? E).map (fun i => (i.zero, i.size, i.bytes)) = some (some z, size, bytes)) (c : Nat) (hb : bytes * c ≤ 281474976710656) (h63 : c ≤ 9223372036854775807) (W : World) :
    (Instr.makeSlice T (.int .i64 0) (.int .i64 (c : Int))).run Tryd.prog W = .ok (.slice (some ⟨W.heap.size, 0, none⟩) 0 c) (W.alloc (.cells (madeCells z.cells (c * size)) E)) := by
  obtain ⟨i0, hi, hz0, hz1, hz2⟩ := info_parts hinfo
  have hb' : (i0.bytes : Int) * (c : Int) ≤ 281474976710656 := by
    rw [hz2]
    have h : ((bytes * c : Nat) : Int) ≤ 281474976710656 := by omega
    rwa [Int.natCast_mul] at h
  have := run_make (P := Tryd.prog) W T E i0 z hT hi hz0 .i64 .i64 0 c (by omega) (by omega) hb' (by omega)
  rw [hz1] at this
  simpa using this
theorem make_strs (c : Nat) (hc : c ≤ 8796093021960) (W : World) : (Instr.makeSlice 22 (.int .i64 0) (.int .i64 (c : Int))).run Tryd.prog W = .ok (.slice (some ⟨W.heap.size, 0, none⟩) 0 c) (W.alloc (.cells (madeCells #[.string ⟨#[]⟩] c) 9)) := by
  have := make_row Tryd.underlying22 infoS c (by omega) (by omega) W
  simpa [Value.cells] using this
theorem make_cells (c : Nat) (hc : c ≤ 8796093021960) (W : World) : (Instr.makeSlice 37 (.int .i64 0) (.int .i64 (c : Int))).run Tryd.prog W = .ok (.slice (some ⟨W.heap.size, 0, none⟩) 0 c) (W.alloc (.cells (madeCells #[.bool false, .int .i64 0] (c * 2)) 35)) := by
  have := make_row Tryd.underlying37 infoC c (by omega) (by omega) W
  simpa [Value.cells] using this
theorem make_rows (c : Nat) (hc : c ≤ 5864062014640) (W : World) : (Instr.makeSlice 23 (.int .i64 0) (.int .i64 (c : Int))).run Tryd.prog W = .ok (.slice (some ⟨W.heap.size, 0, none⟩) 0 c) (W.alloc (.cells (madeCells #[.slice none 0 0] c) 37)) := by
  have := make_row Tryd.underlying23 infoR c (by omega) (by omega) W
  simpa [Value.cells] using this
theorem eql_names (a : Option Addr) (n c : Nat) (W : World) : (binOp .eql 22 (.slice a n c) (.slice none 0 0)).run Tryd.prog W = .ok (.bool a.isNone) W :=
  Lib.run_eql_slice_nil W 22 9 a n c 0 0 Tryd.underlying22
theorem eql_rows (a : Option Addr) (n c : Nat) (W : World) : (binOp .eql 23 (.slice a n c) (.slice none 0 0)).run Tryd.prog W = .ok (.bool a.isNone) W :=
  Lib.run_eql_slice_nil W 23 37 a n c 0 0 Tryd.underlying23

/-- 'Behind'. -/
def bhd : ByteArray := ⟨#[66, 101, 104, 105, 110, 100]⟩
/-- Names in new memory, two more behind their end (or none). -/
def NO (w : World) (B : Nat) (a : Option Addr) (v : Value) (n : Nat) (ss : List ByteArray) : Prop :=
  (a = none ∧ v = .slice none 0 0 ∧ n = 0) ∨ ∃ g c, v = .slice (some ⟨g, 0, none⟩) n c ∧ n + 2 ≤ c ∧ c ≤ maxLen ∧ (B ≤ g ∧ g < w.heap.size) ∧ ∀ i, i < n + 2 → w.cell? ⟨g, i, none⟩ = some (.string ((ss ++ [bhd, bhd]).getD i default))
theorem NO.later {w w' : World} {B : Nat} {a : Option Addr} {v : Value} {n : Nat} {ss : List ByteArray} (h : NO w B a v n ss) (b : Below w.heap.size w w') : NO w' B a v n ss := by
  rcases h with h | ⟨g, c, h1, h2, h2', h3, h4⟩
  · exact .inl h
  · exact .inr ⟨g, c, h1, h2, h2', ⟨h3.1, Nat.lt_of_lt_of_le h3.2 b.size⟩, fun i hi => (b.cell (p := ⟨g, i, none⟩) h3.2).trans (h4 i hi)⟩
theorem NO.kept {w w' : World} {B p : Nat} {a : Option Addr} {v : Value} {n : Nat} {ss : List ByteArray} (h : NO w B a v n ss) (b : w.grownBy w' (some p)) (hp : p < B) : NO w' B a v n ss := by
  rcases h with h | ⟨g, c, h1, h2, h2', h3, h4⟩
  · exact .inl h
  · exact .inr ⟨g, c, h1, h2, h2', ⟨h3.1, Nat.lt_of_lt_of_le h3.2 b.size⟩, fun i hi => (World.cell?_of_block (a := ⟨g, i, none⟩) (b.block g h3.2 (by simp; omega))).trans (h4 i hi)⟩
theorem NO.nl {w : World} {B : Nat} {a0 a : Option Addr} {n k c : Nat} {ss : List ByteArray} (h : NO w B a0 (.slice a n c) k ss) (hl : ss.length = k) (hn : k ≤ 8796093021952) (hw : ∀ s ∈ ss, s.size ≤ 140737488351232) : n = k ∧ NL w a k ss := by
  rcases h with ⟨_, h, rfl⟩ | ⟨g, c', h1, h2, h2', h3, h4⟩
  · injection h with e1 e2 e3; subst e1 e2; exact ⟨rfl, hl, hn, hw, .inl rfl⟩
  · injection h1 with e1 e2 e3
    refine ⟨e2, hl, hn, hw, .inr ⟨g, 0, e1, h3.2, fun i hi => ?_⟩⟩
    rw [Nat.zero_add, h4 i (by omega)]
    simp only [List.getD]
    rw [List.getElem?_append_left (by omega)]

theorem ownNames_nil (w : World) : Calls Tryd.prog 19 #[.slice none 0 0] w fun e w' => e = .returned (.slice none 0 0) ∧ w' = w := by
  have en := eql_names none 0 0
  go_enter Tryd.func19, Tryd.ntmps19
  go_wp2
  go_ret
  exact ⟨rfl, rfl⟩

theorem nl_news {w : World} {a : Option Addr} {n : Nat} {ss : List ByteArray} (h : NL w a n ss) : ∀ x, a = some x → ∀ j u, (ss.map Value.string)[j]? = some u → w.cell? (x.add j) = some u := by
  intro x e j u hj
  obtain ⟨h1, _, _, h4⟩ := h
  have hjl : j < ss.length := by have := (List.getElem?_eq_some_iff.1 hj).1; simpa using this
  rcases h4 with h4 | ⟨b, o, rfl, hb, hc⟩
  · omega
  · injection e with e; subst e
    rw [Go.Addr.add_lit, hc j (by omega)]
    rw [List.getElem?_map, List.getElem?_eq_getElem hjl] at hj
    simp at hj
    simp [List.getD, hjl, hj]
theorem strs_one (ss : List ByteArray) : ∀ u ∈ ss.map Value.string, u.oneCell' = true := by
  intro u hu
  obtain ⟨s, _, rfl⟩ := List.mem_map.1 hu
  rfl
theorem own_form {w : World} {B : Nat} {E : TypeId} {size : Nat} {v : Value} {n : Nat} {xs : List Value} (h : w.ownsRow B E size v (n + 2) xs) : ∃ g c, v = .slice (some ⟨g, 0, none⟩) (n + 2) c ∧ n + 2 ≤ c ∧ c ≤ maxLen ∧ g < w.heap.size ∧ B ≤ g := by
  rcases h.2 with ⟨_, h0⟩ | ⟨g, c, cur, rfl, hB, hg, h1, h2, _⟩
  · omega
  · exact ⟨g, c, rfl, h1, h2, (Array.getElem?_eq_some_iff.1 hg).1, hB⟩

theorem pair_news (W : World) (u v : Value) (E : TypeId) : ∀ y, some (⟨W.heap.size, 0, none⟩ : Addr) = some y → ∀ j z, [u, v][j]? = some z → (W.alloc (.cells #[u, v] E)).cell? (y.add j) = some z := by
  intro y e j z hj
  injection e with e; subst e
  match j, hj with
  | 0, hj => simp at hj; subst hj; simp [Addr.add]
  | 1, hj => simp at hj; subst hj; simp [Addr.add]
theorem pair_one : ∀ u ∈ [Value.string bhd, .string bhd], u.oneCell' = true := fun u hu => by simp at hu; subst hu; rfl
set_option maxRecDepth 100000 in
set_option maxHeartbeats 2000000 in
theorem ownNames_some (x : Addr) (n cap : Nat) (ss : List ByteArray) (w : World) (h : NL w (some x) n ss) :
    Calls Tryd.prog 19 #[.slice (some x) n cap] w fun e w' => ∃ v, e = .returned v ∧ NO w' w.heap.size (some x) v n ss ∧ Below w.heap.size w w' := by
  have hn := h.2.1
  have hl := h.1
  have mk := make_strs (n + 2) (by omega)
  simp only [Int.natCast_add, Int.cast_ofNat_Int] at mk
  have en := eql_names (some x) n cap
  have A0 := Lib.hid ((Below.refl w.heap.size w).alloc (Nat.le_refl _) (.cells (madeCells #[.string ⟨#[]⟩] (n + 2)) 9))
  have H0 := Lib.hid (nl_news (h.later A0.out))
  have W0 := Lib.hid (World.ownsRow_made (e := 9) (size := 1) (base := w.heap.size) w (madeCells #[.string ⟨#[]⟩] (n + 2)) (n + 2) (Nat.le_refl _) (by unfold maxLen; omega) (by rw [size_madeCells]; omega))
  have OF := Lib.hid (fun W v xs (o : World.ownsRow W w.heap.size 9 1 v (0 + n + 2) xs) => own_form (n := n) (by rw [Nat.zero_add] at o; exact o))
  have ML := Lib.hid (p := (ss.map Value.string).length = n * 1) (by simp [hl])
  have PM := Lib.hid True.intro
  clear h
  go_enter Tryd.func19, Tryd.ntmps19
  go_wp2_with (first
    | (have qq := PM; at_builtin; refine wp_appG Tryd.underlying22 infoS rfl (by decide) _ w.heap.size A0.out.size (some x) n cap (ss.map Value.string) ML.out H0.out (fun e => by cases e) (strs_one ss) rfl _ _ rfl _ 0 [] rfl W0.out rfl (by unfold maxLen; omega) (by omega) ?_; intro v1 w1 h1 h2; have O1 := Lib.hid h1; have B1 := Lib.hid (A0.out.grown h2 A0.out.size (fun k e => (W0.out.lt k e).1)); clear h1 h2 PM qq)
    | (at_builtin; refine wp_appG Tryd.underlying22 infoS rfl (by decide) _ w.heap.size (Nat.le_trans B1.out.size (by simp)) (some ⟨w1.heap.size, 0, none⟩) 2 2 [.string bhd, .string bhd] rfl (pair_news w1 _ _ _) (fun e => by cases e) pair_one rfl _ _ rfl _ (0 + n) ([] ++ ss.map Value.string) rfl (O1.out.alloc _) rfl (by unfold maxLen; omega) (by omega) ?_; intro v2 w2 h1 h2; obtain ⟨g, c, rfl, c1, c2, gl, gb⟩ := OF.out _ _ _ h1; have c3 : (n : Int) ≤ (c : Int) := (by omega); have O2 := Lib.hid h1; have B2 := Lib.hid ((B1.out.alloc B1.out.size _).grown h2 (Nat.le_trans B1.out.size (by simp)) (fun k e => (O1.out.lt k e).1)); clear h1 h2))
  go_ret
  refine ⟨_, rfl, .inr ⟨g, c, rfl, c1, c2, ⟨gb, gl⟩, fun i hi => ?_⟩, B2.out⟩
  have O3 := O2.out
  rw [Nat.zero_add] at O3
  rw [World.ownsRow.cellAt (n := n + 2) O3 i (by omega)]
  have e : [] ++ ss.map Value.string ++ [.string bhd, .string bhd] = (ss ++ [bhd, bhd]).map Value.string := by simp
  rw [e, List.getElem?_map]
  have hi2 : i < (ss ++ [bhd, bhd]).length := by simp; omega
  rw [List.getElem?_eq_getElem hi2]
  simp only [Option.map_some, List.getD, List.getElem?_eq_getElem hi2, Option.getD_some]
end Go.Proofs.YthkeoeobpdminaaDoor
