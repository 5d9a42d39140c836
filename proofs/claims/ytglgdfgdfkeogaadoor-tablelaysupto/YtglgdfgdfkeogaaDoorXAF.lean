import Derived.Test.YtglgdfgdfkeogaaDoorXAC
import Derived.Laws.AppendOwn
import Derived.Laws.AppendOwnNone
import Derived.Laws.OwnMore
import Derived.Maps.AppendAt
import Derived.Lib.LazyBuf
import Derived.Deep.AppendLies
import Derived.Deep.RegionLaw
namespace Go.Proofs.YtglgdfgdfkeogaaDoor
open Go.RowKit
set_option linter.unusedVariables false
set_option linter.unusedSimpArgs false

/-- 'append(s, x...)' of a row that the call owns; x: any slice, its cells as they lie. -/
theorem wp_appG {T E : TypeId} {z : Value} {size bytes : Nat} (hT : Tryd.prog.underlying T = some (.slice E)) (hinfo : (Tryd.prog.info? E).map (fun i => (i.zero, i.size, i.bytes)) = some (some z, size, bytes)) (hzs : z.cells.size = size) (hsz : 0 < size)
    {ops : Array Oper} {rest : List Oper} {o : Oper} {a : Act} {Q : Exit → Act → World → Prop} (w : World) (B : Nat) (hB : B ≤ w.heap.size) (ad : Option Addr) (n cap : Nat) (us : List Value) (hl : us.length = n * size) (hnews : ∀ x, ad = some x → ∀ j u, us[j]? = some u → w.cell? (x.add j) = some u) (hn0 : ad = none → n = 0 ∧ cap = 0) (one : ∀ u ∈ us, u.oneCell' = true)
    (hgd : o.guard = none) (s x : Operand) (ho : o.op = .call { callee := .builtin .append, args := #[s, x], argTypes := #[T, T] }) (v : Value) (m : Nat) (xs : List Value) (hs : a.eval s = v) (hown : w.ownsRow B E size v m xs) (hx : a.eval x = .slice ad n cap) (h63 : m + n ≤ maxLen) (hby : (m + n) * bytes ≤ 140737488355328)
    (h : ∀ v' w', w'.ownsRow B E size v' (m + n) (xs ++ us) → w.grownBy w' v.ownBlock → wpList Tryd.prog ops Q rest (a.put o.dst v') w') : wpList Tryd.prog ops Q (o :: rest) a w := by
  obtain ⟨i0, hi, hz0, hz1, hz2⟩ := info_parts hinfo
  cases ad with
  | none =>
    obtain ⟨rfl, rfl⟩ := hn0 rfl
    have : us = [] := List.length_eq_zero_iff.1 (by omega)
    subst this
    exact wpList_append_own_none hgd s x T ho B E i0 size hT hi v m xs hs hown hx (h v w (by simpa using hown) ⟨rfl, rfl, rfl, Nat.le_refl _, fun _ _ _ => rfl⟩)
  | some x1 =>
    exact wpList_append_own _ hgd s x T ho B E i0 z size bytes hT hi hz0 hz1 hz2 hzs hsz v m xs hs hown x1 n cap us hx hl (hnews x1 rfl) one h63 hby hB (fun v' w' h1 h2 _ => h v' w' h1 h2)

theorem infoS : (Tryd.prog.info? 9).map (fun i => (i.zero, i.size, i.bytes)) = some (some (.string ⟨#[]⟩), 1, 16) := by kernel_rfl
theorem infoC : (Tryd.prog.info? 53).map (fun i => (i.zero, i.size, i.bytes)) = some (some (.agg #[.bool false, .int .i64 0]), 2, 16) := by kernel_rfl
theorem infoR : (Tryd.prog.info? 49).map (fun i => (i.zero, i.size, i.bytes)) = some (some (.slice none 0 0), 1, 24) := by kernel_rfl
theorem make_row {T E : TypeId} {z : Value} {size bytes : Nat} (hT : Tryd.prog.underlying T = some (.slice E)) (hinfo : (Tryd.prog.info? E).map (fun i => (i.zero, i.size, i.bytes)) = some (some z, size, bytes)) (c : Nat) (hb : bytes * c ≤ 281474976710656) (h63 : c ≤ 9223372036854775807) (W : World) :
    (Instr.makeSlice T (.int .i64 0) (.int .i64 (c : Int))).run Tryd.prog W = .ok (.slice (some ⟨W.heap.size, 0, none⟩) 0 c) (W.alloc (.cells (madeCells z.cells (c * size)) E)) := by
  obtain ⟨i0, hi, hz0, hz1, hz2⟩ := info_parts hinfo
  have hb' : (i0.bytes : Int) * (c : Int) ≤ 281474976710656 := by
    rw [hz2]
    have h : ((bytes * c : Nat) : Int) ≤ 281474976710656 := by omega
    rwa [Int.natCast_mul] at h
  have := run_make (P := Tryd.prog) W T E i0 z hT hi hz0 .i64 .i64 0 c (by omega) (by omega) hb' (by omega)
  rw [hz1] at this
  simpa using this
theorem make_strs (c : Nat) (hc : c ≤ 8796093021960) (W : World) : (Instr.makeSlice 22 (.int .i64 0) (.int .i64 (c : Int))).run Tryd.prog W = .ok (.slice (some ⟨W.heap.size, 0, none⟩) 0 c) (W.alloc (.cells (madeCells #[.string ⟨#[]⟩] c) 9)) := by
  have := make_row Tryd.underlying22 infoS c (by omega) (by omega) W
  simpa [Value.cells] using this
theorem make_cells (c : Nat) (hc : c ≤ 8796093021960) (W : World) : (Instr.makeSlice 49 (.int .i64 0) (.int .i64 (c : Int))).run Tryd.prog W = .ok (.slice (some ⟨W.heap.size, 0, none⟩) 0 c) (W.alloc (.cells (madeCells #[.bool false, .int .i64 0] (c * 2)) 53)) := by
  have := make_row Tryd.underlying49 infoC c (by omega) (by omega) W
  simpa [Value.cells] using this
theorem make_rows (c : Nat) (hc : c ≤ 5864062014640) (W : World) : (Instr.makeSlice 23 (.int .i64 0) (.int .i64 (c : Int))).run Tryd.prog W = .ok (.slice (some ⟨W.heap.size, 0, none⟩) 0 c) (W.alloc (.cells (madeCells #[.slice none 0 0] c) 49)) := by
  have := make_row Tryd.underlying23 infoR c (by omega) (by omega) W
  simpa [Value.cells] using this
theorem eql_names (a : Option Addr) (n c : Nat) (W : World) : (binOp .eql 22 (.slice a n c) (.slice none 0 0)).run Tryd.prog W = .ok (.bool a.isNone) W :=
  Lib.run_eql_slice_nil W 22 9 a n c 0 0 Tryd.underlying22
theorem eql_rows (a : Option Addr) (n c : Nat) (W : World) : (binOp .eql 23 (.slice a n c) (.slice none 0 0)).run Tryd.prog W = .ok (.bool a.isNone) W :=
  Lib.run_eql_slice_nil W 23 49 a n c 0 0 Tryd.underlying23

/-- 'Behind'. -/
def bhd : ByteArray := ⟨#[66, 101, 104, 105, 110, 100]⟩
/-- Names in new memory, two more behind their end (or none). -/
def NO (w : World) (B : Nat) (a : Option Addr) (v : Value) (n : Nat) (ss : List ByteArray) : Prop :=
  (a = none ∧ v = .slice none 0 0 ∧ n = 0) ∨ ∃ g c, v = .slice (some ⟨g, 0, none⟩) n c ∧ n + 2 ≤ c ∧ c ≤ maxLen ∧ (B ≤ g ∧ g < w.heap.size) ∧ ∀ i, i < n + 2 → w.cell? ⟨g, i, none⟩ = some (.string ((ss ++ [bhd, bhd]).getD i default))
theorem NO.later {w w' : World} {B : Nat} {a : Option Addr} {v : Value} {n : Nat} {ss : List ByteArray} (h : NO w B a v n ss) (b : Below w.heap.size w w') : NO w' B a v n ss := by
  rcases h with h | ⟨g, c, h1, h2, h2', h3, h4⟩
  · exact .inl h
  · exact .inr ⟨g, c, h1, h2, h2', ⟨h3.1, Nat.lt_of_lt_of_le h3.2 b.size⟩, fun i hi => (b.cell (p := ⟨g, i, none⟩) h3.2).trans (h4 i hi)⟩
theorem NO.kept {w w' : World} {B p : Nat} {a : Option Addr} {v : Value} {n : Nat} {ss : List ByteArray} (h : NO w B a v n ss) (b : w.grownBy w' (some p)) (hp : p < B) : NO w' B a v n ss := by
  rcases h with h | ⟨g, c, h1, h2, h2', h3, h4⟩
  · exact .inl h
  · exact .inr ⟨g, c, h1, h2, h2', ⟨h3.1, Nat.lt_of_lt_of_le h3.2 b.size⟩, fun i hi => (World.cell?_of_block (a := ⟨g, i, none⟩) (b.block g h3.2 (by simp; omega))).trans (h4 i hi)⟩
theorem NO.nl {w : World} {B : Nat} {a0 a : Option Addr} {n k c : Nat} {ss : List ByteArray} (h : NO w B a0 (.slice a n c) k ss) (hl : ss.length = k) (hn : k ≤ 8796093021952) (hw : ∀ s ∈ ss, s.size ≤ 140737488351232) : n = k ∧ NL w a k ss := by
  rcases h with ⟨_, h, rfl⟩ | ⟨g, c', h1, h2, h2', h3, h4⟩
  · injection h with e1 e2 e3; subst e1 e2; exact ⟨rfl, hl, hn, hw, .inl rfl⟩
  · injection h1 with e1 e2 e3
    refine ⟨e2, hl, hn, hw, .inr ⟨g, 0, e1, h3.2, fun i hi => ?_⟩⟩
    rw [Nat.zero_add, h4 i (by omega)]
    simp only [List.getD]
    rw [List.getElem?_append_left (by omega)]

theorem ownNames_nil (w : World) : Calls Tryd.prog 20 #[.slice none 0 0] w fun e w' => e = .returned (.slice none 0 0) ∧ w' = w := by
  have en := eql_names none 0 0
  go_enter Tryd.func20, Tryd.ntmps20
  go_wp2
  go_ret
  exact ⟨rfl, rfl⟩

theorem nl_news {w : World} {a : Option Addr} {n : Nat} {ss : List ByteArray} (h : NL w a n ss) : ∀ x, a = some x → ∀ j u, (ss.map Value.string)[j]? = some u → w.cell? (x.add j) = some u := by
  intro x e j u hj
  obtain ⟨h1, _, _, h4⟩ := h
  have hjl : j < ss.length := by have := (List.getElem?_eq_some_iff.1 hj).1; simpa using this
  rcases h4 with h4 | ⟨b, o, rfl, hb, hc⟩
  · omega
  · injection e with e; subst e
    rw [Go.Addr.add_lit, hc j (by omega)]
    rw [List.getElem?_map, List.getElem?_eq_getElem hjl] at hj
    simp at hj
    simp [List.getD, hjl, hj]
theorem strs_one (ss : List ByteArray) : ∀ u ∈ ss.map Value.string, u.oneCell' = true := by
  intro u hu
  obtain ⟨s, _, rfl⟩ := List.mem_map.1 hu
  rfl
theorem own_form {w : World} {B : Nat} {E : TypeId} {size : Nat} {v : Value} {n : Nat} {xs : List Value} (h : w.ownsRow B E size v (n + 2) xs) : ∃ g c, v = .slice (some ⟨g, 0, none⟩) (n + 2) c ∧ n + 2 ≤ c ∧ c ≤ maxLen ∧ g < w.heap.size ∧ B ≤ g := by
  rcases h.2 with ⟨_, h0⟩ | ⟨g, c, cur, rfl, hB, hg, h1, h2, _⟩
  · omega
  · exact ⟨g, c, rfl, h1, h2, (Array.getElem?_eq_some_iff.1 hg).1, hB⟩

theorem pair_news (W : World) (u v : Value) (E : TypeId) : ∀ y, some (⟨W.heap.size, 0, none⟩ : Addr) = some y → ∀ j z, [u, v][j]? = some z → (W.alloc (.cells #[u, v] E)).cell? (y.add j) = some z := by
  intro y e j z hj
  injection e with e; subst e
  match j, hj with
  | 0, hj => simp at hj; subst hj; simp [Addr.add]
  | 1, hj => simp at hj; subst hj; simp [Addr.add]
theorem pair_one : ∀ u ∈ [Value.string bhd, .string bhd], u.oneCell' = true := fun u hu => by simp at hu; subst hu; rfl
set_option maxRecDepth 100000 in
set_option maxHeartbeats 2000000 in
theorem ownNames_some (x : Addr) (n cap : Nat) (ss : List ByteArray) (w : World) (h : NL w (some x) n ss) :
    Calls Tryd.prog 20 #[.slice (some x) n cap] w fun e w' => ∃ v, e = .returned v ∧ NO w' w.heap.size (some x) v n ss ∧ Below w.heap.size w w' := by
  have hn := h.2.1
  have hl := h.1
  have mk := make_strs (n + 2) (by omega)
  simp only [Int.natCast_add, Int.cast_ofNat_Int] at mk
  have en := eql_names (some x) n cap
  have A0 := Lib.hid ((Below.refl w.heap.size w).alloc (Nat.le_refl _) (.cells (madeCells #[.string ⟨#[]⟩] (n + 2)) 9))
  have H0 := Lib.hid (nl_news (h.later A0.out))
  have W0 := Lib.hid (World.ownsRow_made (e := 9) (size := 1) (base := w.heap.size) w (madeCells #[.string ⟨#[]⟩] (n + 2)) (n + 2) (Nat.le_refl _) (by unfold maxLen; omega) (by rw [size_madeCells]; omega))
  have OF := Lib.hid (fun W v xs (o : World.ownsRow W w.heap.size 9 1 v (0 + n + 2) xs) => own_form (n := n) (by rw [Nat.zero_add] at o; exact o))
  have ML := Lib.hid (p := (ss.map Value.string).length = n * 1) (by simp [hl])
  have PM := Lib.hid True.intro
  clear h
  go_enter Tryd.func20, Tryd.ntmps20
  go_wp2_with (first
    | (have qq := PM; at_builtin; refine wp_appG Tryd.underlying22 infoS rfl (by decide) _ w.heap.size A0.out.size (some x) n cap (ss.map Value.string) ML.out H0.out (fun e => by cases e) (strs_one ss) rfl _ _ rfl _ 0 [] rfl W0.out rfl (by unfold maxLen; omega) (by omega) ?_; intro v1 w1 h1 h2; have O1 := Lib.hid h1; have B1 := Lib.hid (A0.out.grown h2 A0.out.size (fun k e => (W0.out.lt k e).1)); clear h1 h2 PM qq)
    | (at_builtin; refine wp_appG Tryd.underlying22 infoS rfl (by decide) _ w.heap.size (Nat.le_trans B1.out.size (by simp)) (some ⟨w1.heap.size, 0, none⟩) 2 2 [.string bhd, .string bhd] rfl (pair_news w1 _ _ _) (fun e => by cases e) pair_one rfl _ _ rfl _ (0 + n) ([] ++ ss.map Value.string) rfl (O1.out.alloc _) rfl (by unfold maxLen; omega) (by omega) ?_; intro v2 w2 h1 h2; obtain ⟨g, c, rfl, c1, c2, gl, gb⟩ := OF.out _ _ _ h1; have c3 : (n : Int) ≤ (c : Int) := (by omega); have O2 := Lib.hid h1; have B2 := Lib.hid ((B1.out.alloc B1.out.size _).grown h2 (Nat.le_trans B1.out.size (by simp)) (fun k e => (O1.out.lt k e).1)); clear h1 h2))
  go_ret
  refine ⟨_, rfl, .inr ⟨g, c, rfl, c1, c2, ⟨gb, gl⟩, fun i hi => ?_⟩, B2.out⟩
  have O3 := O2.out
  rw [Nat.zero_add] at O3
  rw [World.ownsRow.cellAt (n := n + 2) O3 i (by omega)]
  have e : [] ++ ss.map Value.string ++ [.string bhd, .string bhd] = (ss ++ [bhd, bhd]).map Value.string := by simp
  rw [e, List.getElem?_map]
  have hi2 : i < (ss ++ [bhd, bhd]).length := by simp; omega
  rw [List.getElem?_eq_getElem hi2]
  simp only [Option.map_some, List.getD, List.getElem?_eq_getElem hi2, Option.getD_some]
end Go.Proofs.YtglgdfgdfkeogaaDoor

namespace Go.Proofs.YtglgdfgdfkeogaaDoor
open Go.RowKit
set_option linter.unusedVariables false
set_option linter.unusedSimpArgs false

/-- The cell behind a row's end, and the variable that holds it. -/
def bc : Cl := ⟨true, -77177⟩
def Bh (w : World) : Prop := 0 < w.heap.size ∧ w.cell? ⟨0, 0, none⟩ = some (.bool true) ∧ w.cell? ⟨0, 1, none⟩ = some (.int .i64 (-77177))
theorem Bh.later {w w' : World} (h : Bh w) (b : Below w.heap.size w w') : Bh w' :=
  ⟨Nat.lt_of_lt_of_le h.1 b.size, (b.cell (p := ⟨0, 0, none⟩) h.1).trans h.2.1, (b.cell (p := ⟨0, 1, none⟩) h.1).trans h.2.2⟩

/-- The cells of a list of cells. -/
def ccs (cs : List Cl) : List Value := cs.flatMap fun c => [.bool c.h, .int .i64 c.v]
theorem ccs_len (cs : List Cl) : (ccs cs).length = cs.length * 2 := by
  induction cs with
  | nil => rfl
  | cons f fs ih => simp [ccs] at ih ⊢; omega
theorem ccs_app (a b : List Cl) : ccs (a ++ b) = ccs a ++ ccs b := by simp [ccs]
theorem ccs_at : ∀ (cs : List Cl) (i : Nat), i < cs.length → (ccs cs)[i * 2]? = some (.bool (cs.getD i default).h) ∧ (ccs cs)[i * 2 + 1]? = some (.int .i64 (cs.getD i default).v)
  | [], i, h => by simp at h
  | c :: cs, 0, _ => by simp [ccs]
  | c :: cs, i + 1, h => by
    have := ccs_at cs i (by simpa using h)
    have e : ccs (c :: cs) = [.bool c.h, .int .i64 c.v] ++ ccs cs := by simp [ccs]
    rw [show (i + 1) * 2 = i * 2 + 2 by omega, show i * 2 + 2 + 1 = i * 2 + 1 + 2 by omega, e, List.getElem?_append_right (by simp), List.getElem?_append_right (by simp)]
    simpa using this
theorem ccs_one (cs : List Cl) : ∀ u ∈ ccs cs, u.oneCell' = true := by
  intro u hu
  obtain ⟨c, _, hc⟩ := List.mem_flatMap.1 hu
  simp at hc
  rcases hc with rfl | rfl <;> rfl
theorem rc_news {w : World} {a : Option Addr} {n : Nat} {cs : List Cl} (h : RC w a n cs) : ∀ x, a = some x → ∀ j u, (ccs cs)[j]? = some u → w.cell? (x.add j) = some u := by
  intro x e j u hj
  obtain ⟨h1, _, _, h4⟩ := h
  have hjl : j < cs.length * 2 := by have := (List.getElem?_eq_some_iff.1 hj).1; rwa [ccs_len] at this
  rcases h4 with h4 | ⟨b, o, rfl, hb, hc⟩
  · omega
  · injection e with e; subst e
    rw [Go.Addr.add_lit]
    obtain ⟨q, r, hr, rfl⟩ : ∃ q r, r < 2 ∧ j = q * 2 + r := ⟨j / 2, j % 2, Nat.mod_lt _ (by omega), by omega⟩
    obtain ⟨c0, c1⟩ := hc q (by omega)
    obtain ⟨d0, d1⟩ := ccs_at cs q (by omega)
    rcases (show r = 0 ∨ r = 1 by omega) with rfl | rfl
    · rw [Nat.add_zero] at hj ⊢
      rw [d0] at hj; rw [c0]; exact hj
    · rw [d1] at hj; rw [← Nat.add_assoc, c1]; exact hj
/-- A row in new memory, two cells behind its end. -/
def RowN (w : World) (B : Nat) (q : Rw) (cs : List Cl) : Prop := q.n = cs.length ∧ q.n + 2 ≤ q.cap ∧ q.cap ≤ maxLen ∧ w.ownsRow B 53 2 (.slice q.a (q.n + 2) q.cap) (q.n + 2) (ccs (cs ++ [bc, bc])) ∧ ∃ g, q.a = some ⟨g, 0, none⟩
theorem rowN_of {w : World} {B : Nat} {v : Value} {n : Nat} {cs : List Cl} (hl : cs.length = n) (h : w.ownsRow B 53 2 v (n + 2) (ccs (cs ++ [bc, bc]))) : ∃ g c, v = .slice (some ⟨g, 0, none⟩) (n + 2) c ∧ n + 2 ≤ c ∧ B ≤ g ∧ g < w.heap.size ∧ RowN w B ⟨some ⟨g, 0, none⟩, n, c, cs⟩ cs := by
  obtain ⟨g, c, rfl, h1, h2, h3, h4⟩ := own_form h
  exact ⟨g, c, rfl, h1, h4, h3, hl.symm, h1, h2, h, g, rfl⟩
theorem row_kept {w w' : World} {B : Nat} {q : Rw} {cs : List Cl} {r : Option Nat} (h : RowN w B q cs) (g : w.grownBy w' r) (hr : ∀ k, q.a = some ⟨k, 0, none⟩ → r ≠ some k) : RowN w' B q cs := by
  obtain ⟨h1, h2, h3, h4, g0, h5⟩ := h
  refine ⟨h1, h2, h3, ⟨h4.1, ?_⟩, g0, h5⟩
  rcases h4.2 with hn | ⟨k, cap, cur, e, hB, hg, rest⟩
  · exact .inl hn
  · refine .inr ⟨k, cap, cur, e, hB, ?_, rest⟩
    injection e with e1 _ _
    rw [g.block k (Array.getElem?_eq_some_iff.1 hg).1 (fun x => hr k e1 x.symm)]; exact hg
theorem row_later {w w' : World} {B : Nat} {q : Rw} {cs : List Cl} (h : RowN w B q cs) (b : Below w.heap.size w w') : RowN w' B q cs := by
  obtain ⟨h1, h2, h3, h4, g0, h5⟩ := h
  refine ⟨h1, h2, h3, ⟨h4.1, ?_⟩, g0, h5⟩
  rcases h4.2 with hn | ⟨k, cap, cur, e, hB, hg, rest⟩
  · exact .inl hn
  · exact .inr ⟨k, cap, cur, e, hB, by rw [b.block k (Array.getElem?_eq_some_iff.1 hg).1]; exact hg, rest⟩
theorem rowN_rc {w : World} {B : Nat} {q : Rw} {cs : List Cl} (h : RowN w B q cs) (hw : ∀ c ∈ cs, (Lit.int .i64 c.v).wf = true) (hn : cs.length ≤ 8796093021952) : RC w q.a q.n cs ∧ ∃ g, q.a = some ⟨g, 0, none⟩ ∧ g < w.heap.size ∧ ∀ i, i < q.n + 2 → CC w g (i * 2) ((cs ++ [bc, bc]).getD i default) := by
  obtain ⟨h1, h2, h3, h4, g, h5⟩ := h
  rw [h5] at h4
  have hg := (h4.lt g rfl).2
  have cc : ∀ i, i < q.n + 2 → CC w g (i * 2) ((cs ++ [bc, bc]).getD i default) := fun i hi => by
    obtain ⟨d0, d1⟩ := ccs_at (cs ++ [bc, bc]) i (by simp; omega)
    exact ⟨by rw [World.ownsRow.cellAt h4 (i * 2) (by omega)]; exact d0, by rw [World.ownsRow.cellAt h4 (i * 2 + 1) (by omega)]; exact d1⟩
  refine ⟨⟨h1.symm, by omega, hw, .inr ⟨g, 0, h5, hg, fun i hi => ?_⟩⟩, g, h5, hg, cc⟩
  have := cc i (by omega)
  rw [Nat.zero_add]
  rwa [show (cs ++ [bc, bc]).getD i default = cs.getD i default by simp only [List.getD]; rw [List.getElem?_append_left (by omega)]] at this

/-- 'x.Rows = append(x.Rows, row)' in a region that draws. -/
theorem step_rows {ops : Array Oper} {o : Oper} {a : Act} {K : Act → World → Prop} {Q : Exit → Act → World → Prop} {E : Prop} (w : World) (hgd : o.guard = none) (s x : Operand)
    (ho : o.op = .call { callee := .builtin .append, args := #[s, x], argTypes := #[23, 23] }) (base : Nat) (v : Value) (k : Nat) (xs : List Value) (hs : a.eval s = v)
    (hown : w.ownsRow base 49 1 v k xs) (Bn : Nat) (ad : Option Addr) (n c : Nat) (fr : Nat × Nat) (hx : a.eval x = .slice (some ⟨Bn, 0, none⟩) 1 1) (hb : w.heap[Bn]? = some (.cells #[.slice ad n c] 49 fr)) (hl : k ≤ 5864062014640) (hbase : base ≤ w.heap.size)
    (h : ∀ g cap w', w'.ownsRow base 49 1 (.slice (some ⟨g, 0, none⟩) (k + 1) cap) (k + 1) (xs ++ [.slice ad n c]) → w.grownBy w' v.ownBlock → K (a.put o.dst (.slice (some ⟨g, 0, none⟩) (k + 1) cap)) w') :
    if Region.wanted o (yielded ops a.tmps) = true then Oper.wp Tryd.prog o a w K Q else E := by
  obtain ⟨i0, hi, hz0, hz1, hz2⟩ := info_parts infoR
  refine step_append_lies w hgd s x 23 ho base 49 i0 (.slice none 0 0) 1 24 Tryd.underlying23 hi hz0 hz1 hz2 rfl (by decide) v k xs hs hown ⟨Bn, 0, none⟩ 1 1 [.slice ad n c] hx rfl (fun j u hj => World.news_of_block hb j u hj) ?_ (by omega) (by unfold maxLen; omega) (by omega) hbase w.heap.size rfl (fun g cap w' h1 h2 _ _ => h g cap w' h1 h2)
  intro u hu
  simp at hu; subst hu; rfl

/-- What lies while the rows are made: block X holds the new table. -/
structure OW (w1 wr : World) (v1 L : Value) (k : Nat) (qs : List Rw) (rs : List Rw) : Prop where
  bel : Below w1.heap.size w1 wr
  x0 : wr.cell? ⟨w1.heap.size, 0, none⟩ = some v1
  x1 : wr.cell? ⟨w1.heap.size, 1, none⟩ = some L
  xf : wr.frozen? ⟨w1.heap.size, 1, none⟩ = false
  xt : ∃ cs fz, wr.heap[w1.heap.size]? = some (.cells cs 25 fz)
  lo : wr.ownsRow w1.heap.size 49 1 L k (qs.map fun q => .slice q.a q.n q.cap)
  ql : qs.length = k
  rows : ∀ i, i < k → RowN wr w1.heap.size (qs.getD i default) (rs.getD i default).cs
theorem ty_apart {w : World} {B : Nat} {E F : TypeId} {size : Nat} {v : Value} {n : Nat} {xs : List Value} {q : Nat} {cs : Array Value} {fz : Nat × Nat} (h : w.ownsRow B E size v n xs) (hq : w.heap[q]? = some (.cells cs F fz)) (ht : F ≠ E) : v.ownBlock ≠ some q := by
  intro he
  rcases h.2 with ⟨rfl, _⟩ | ⟨g, cap, cur, rfl, _, hg, _⟩
  · cases he
  · simp [Value.ownBlock] at he
    subst he
    rw [hg] at hq
    injection hq with hq
    injection hq with _ hq _
    exact ht hq.symm
theorem rowN_block {w : World} {B : Nat} {q : Rw} {cs : List Cl} (h : RowN w B q cs) : ∀ k, q.a = some ⟨k, 0, none⟩ → ∃ cur fz, w.heap[k]? = some (.cells cur 53 fz) := by
  intro k e
  obtain ⟨h1, h2, h3, h4, g0, h5⟩ := h
  rcases h4.2 with ⟨hn, _⟩ | ⟨k', cap, cur, e', hB, hg, rest⟩
  · rw [h5] at hn; cases hn
  · injection e' with e1 _ _
    rw [e1] at e; injection e with e; injection e with e; subst e
    exact ⟨_, _, hg⟩
theorem OW.step {w1 wr w3 w4 w5 : World} {v1 L L' : Value} {k n g c : Nat} {qs rs : List Rw} (h : OW w1 wr v1 L k qs rs) (b3 : Below wr.heap.size wr w3) (b4 : Below w3.heap.size w3 w4) (g5 : w4.grownBy w5 L.ownBlock)
    (hr : RowN w3 w1.heap.size ⟨some ⟨g, 0, none⟩, n, c, (rs.getD k default).cs⟩ (rs.getD k default).cs) (hL : w5.ownsRow w1.heap.size 49 1 L' (k + 1) ((qs.map fun q => Value.slice q.a q.n q.cap) ++ [.slice (some ⟨g, 0, none⟩) n c])) :
    OW w1 (w5.setCell ⟨w1.heap.size, 1, none⟩ L') v1 L' (k + 1) (qs ++ [⟨some ⟨g, 0, none⟩, n, c, (rs.getD k default).cs⟩]) rs := by
  obtain ⟨cs, fz, ht⟩ := h.xt
  have hXr : w1.heap.size < wr.heap.size := (Array.getElem?_eq_some_iff.1 ht).1
  have b4' : Below wr.heap.size wr w4 := b3.trans (b4.mono b3.size)
  have hX4 : w4.heap[w1.heap.size]? = some (.cells cs 25 fz) := (b4'.block _ hXr).trans ht
  have hX4l : w1.heap.size < w4.heap.size := (Array.getElem?_eq_some_iff.1 hX4).1
  have lo4 : w4.ownsRow w1.heap.size 49 1 L k (qs.map fun q => .slice q.a q.n q.cap) := by
    refine ⟨h.lo.1, ?_⟩
    rcases h.lo.2 with hn | ⟨q, cap, cur, e, hB, hg, rest⟩
    · exact .inl hn
    · exact .inr ⟨q, cap, cur, e, hB, by rw [b4'.block q (Array.getElem?_eq_some_iff.1 hg).1]; exact hg, rest⟩
  have neX : L.ownBlock ≠ some w1.heap.size := ty_apart lo4 hX4 (by decide)
  have hX5 : w5.heap[w1.heap.size]? = some (.cells cs 25 fz) := (g5.block _ hX4l (fun e => neX e.symm)).trans hX4
  have neX' : L'.ownBlock ≠ some w1.heap.size := ty_apart hL hX5 (by decide)
  have row5 : ∀ q cs', RowN w4 w1.heap.size q cs' → RowN (w5.setCell ⟨w1.heap.size, 1, none⟩ L') w1.heap.size q cs' := fun q cs' hq => by
    have h5 : RowN w5 w1.heap.size q cs' := row_kept hq g5 (fun j e => by
      obtain ⟨cur, fz', hj⟩ := rowN_block hq j e
      exact ty_apart lo4 hj (by decide))
    refine row_kept h5 (grT_set w5 w1.heap.size 1 L') (fun j e => ?_)
    obtain ⟨cur, fz', hj⟩ := rowN_block h5 j e
    intro e2
    injection e2 with e2
    subst e2
    rw [hj] at hX5
    injection hX5 with hX5
    injection hX5 with _ hX5 _
    revert hX5; decide
  have B5 : Below w1.heap.size w1 w5 := (h.bel.trans (b4'.mono h.bel.size)).grown g5 (Nat.le_of_lt hX4l) (fun j e => (lo4.lt j e).1)
  have cX : ∀ j, w5.cell? ⟨w1.heap.size, j, none⟩ = wr.cell? ⟨w1.heap.size, j, none⟩ := fun j =>
    (World.cell?_of_block (a := ⟨w1.heap.size, j, none⟩) (g5.block _ hX4l (fun e => neX e.symm))).trans (b4'.cell (p := ⟨w1.heap.size, j, none⟩) hXr)
  have fX : w5.frozen? ⟨w1.heap.size, 1, none⟩ = false := ((World.frozen?_of_block (a := ⟨w1.heap.size, 1, none⟩) (g5.block _ hX4l (fun e => neX e.symm))).trans (b4'.frozen (p := ⟨w1.heap.size, 1, none⟩) hXr)).trans h.xf
  refine ⟨B5.setCell (p := ⟨w1.heap.size, 1, none⟩) (by simp) _, ?_, ?_, ?_, ⟨cs.setIfInBounds 1 L', fz, by simp [World.setCell, Array.getElem?_modify, hX5]⟩, ?_, by simp [h.ql], fun i hi => ?_⟩
  · rw [World.cell?_setCell_other _ _ _ _ (by simp), cX]; exact h.x0
  · exact World.cell?_setCell_same' _ _ _ (by rw [cX, h.x1]; rfl)
  · rw [World.frozen?_setCell]; exact fX
  · have : (qs ++ [(⟨some ⟨g, 0, none⟩, n, c, (rs.getD k default).cs⟩ : Rw)]).map (fun q => Value.slice q.a q.n q.cap) = (qs.map fun q => Value.slice q.a q.n q.cap) ++ [.slice (some ⟨g, 0, none⟩) n c] := by simp
    rw [this]
    refine ⟨hL.1, ?_⟩
    rcases hL.2 with hn | ⟨q, cap, cur, e, hB, hg, rest⟩
    · exact .inl hn
    · refine .inr ⟨q, cap, cur, e, hB, ?_, rest⟩
      have : w1.heap.size ≠ q := fun e2 => neX' (by rw [e, e2]; rfl)
      rw [(grT_set w5 w1.heap.size 1 L').block q (Array.getElem?_eq_some_iff.1 hg).1 (by simp; omega)]; exact hg
  · rcases (show i < k ∨ i = k by omega) with q | q
    · rw [show (qs ++ [(⟨some ⟨g, 0, none⟩, n, c, (rs.getD k default).cs⟩ : Rw)]).getD i default = qs.getD i default by simp only [List.getD]; rw [List.getElem?_append_left (by rw [h.ql]; exact q)]]
      exact row5 _ _ (row_later (h.rows i q) b4')
    · subst q
      rw [show (qs ++ [(⟨some ⟨g, 0, none⟩, n, c, (rs.getD i default).cs⟩ : Rw)]).getD i default = ⟨some ⟨g, 0, none⟩, n, c, (rs.getD i default).cs⟩ by simp only [List.getD]; rw [List.getElem?_append_right (by rw [h.ql]; omega), h.ql]; simp]
      exact row5 _ _ (row_later hr b4)
end Go.Proofs.YtglgdfgdfkeogaaDoor

namespace Go.Proofs.YtglgdfgdfkeogaaDoor
open Go.RowKit
set_option linter.unusedVariables false
set_option linter.unusedSimpArgs false

theorem ownNames_any (a : Option Addr) (n cap : Nat) (ss : List ByteArray) (w : World) (h : NL w a n ss) (hn : a = none → n = 0 ∧ cap = 0) :
    Calls Tryd.prog 20 #[.slice a n cap] w fun e w' => ∃ b m c, e = .returned (.slice b m c) ∧ NO w' w.heap.size a (.slice b m c) n ss ∧ Below w.heap.size w w' := by
  cases a with
  | none =>
    obtain ⟨rfl, rfl⟩ := hn rfl
    refine (ownNames_nil w).mono ?_
    rintro e w' ⟨rfl, rfl⟩
    exact ⟨none, 0, 0, rfl, .inl ⟨rfl, rfl, rfl⟩, Below.refl _ _⟩
  | some x =>
    refine (ownNames_some x n cap ss w h).mono ?_
    rintro e w' ⟨v, rfl, h1, h2⟩
    rcases h1 with ⟨h0, _⟩ | ⟨g, c, rfl, r⟩
    · cases h0
    · exact ⟨_, _, _, rfl, .inr ⟨g, c, rfl, r⟩, h2⟩
/-- Rows in new memory (or none). -/
def RO (w : World) (B : Nat) (v : Value) (n : Nat) (rs : List Rw) : Prop :=
  (v = .slice none 0 0 ∧ n = 0) ∨ ∃ (g c : Nat) (qs : List Rw), v = .slice (some ⟨g, 0, none⟩) n c ∧ n ≤ c ∧ (B ≤ g ∧ g < w.heap.size) ∧ qs.length = n ∧ (∀ i, i < n → w.cell? ⟨g, i, none⟩ = some (.slice (qs.getD i default).a (qs.getD i default).n (qs.getD i default).cap)) ∧ ∀ i, i < n → RowN w B (qs.getD i default) (rs.getD i default).cs
theorem RO.later {w w' : World} {B : Nat} {v : Value} {n : Nat} {rs : List Rw} (h : RO w B v n rs) (b : Below w.heap.size w w') : RO w' B v n rs := by
  rcases h with h | ⟨g, c, qs, h1, h2, h3, h4, h5, h6⟩
  · exact .inl h
  · exact .inr ⟨g, c, qs, h1, h2, ⟨h3.1, Nat.lt_of_lt_of_le h3.2 b.size⟩, h4, fun i hi => (b.cell (p := ⟨g, i, none⟩) h3.2).trans (h5 i hi), fun i hi => row_later (h6 i hi) b⟩
theorem RO.kept {w w' : World} {B p : Nat} {v : Value} {n : Nat} {rs : List Rw} (h : RO w B v n rs) (b : w.grownBy w' (some p)) (hp : p < B) : RO w' B v n rs := by
  rcases h with h | ⟨g, c, qs, h1, h2, h3, h4, h5, h6⟩
  · exact .inl h
  · refine .inr ⟨g, c, qs, h1, h2, ⟨h3.1, Nat.lt_of_lt_of_le h3.2 b.size⟩, h4, fun i hi => (World.cell?_of_block (a := ⟨g, i, none⟩) (b.block g h3.2 (by simp; omega))).trans (h5 i hi), fun i hi => row_kept (h6 i hi) b (fun j e => ?_)⟩
    obtain ⟨_, _, _, h4', g0, h5'⟩ := h6 i hi
    have := (h4'.lt j (by rw [e]; rfl)).1
    simp; omega
theorem OW.ro {w1 wr : World} {v1 L : Value} {k : Nat} {qs rs : List Rw} (h : OW w1 wr v1 L k qs rs) : RO wr w1.heap.size L k rs := by
  rcases h.lo.2 with ⟨h1, h2⟩ | ⟨g, c, cur, rfl, hB, hg, h1, h2, h3, h4⟩
  · exact .inl ⟨h1, h2⟩
  · refine .inr ⟨g, c, qs, rfl, h1, ⟨hB, (Array.getElem?_eq_some_iff.1 hg).1⟩, h.ql, fun i hi => ?_, h.rows⟩
    rw [World.ownsRow.cellAt h.lo i (by omega), List.getElem?_map]
    have hi' : i < qs.length := by rw [h.ql]; exact hi
    simp [List.getD, hi']

/-- The boxes of own, when the new table's lies. -/
structure OS (w w1 w2 : World) (ar : Option Addr) (lr cr : Nat) (v1 : Value) : Prop where
  p1 : w2.cell? ⟨w.heap.size, 1, none⟩ = some (.slice ar lr cr)
  x0 : w2.cell? ⟨w1.heap.size, 0, none⟩ = some v1
  x1 : w2.cell? ⟨w1.heap.size, 1, none⟩ = some (.slice none 0 0)
  xf : w2.frozen? ⟨w1.heap.size, 1, none⟩ = false
  xt : w2.heap[w1.heap.size]? = some (.cells #[v1, .slice none 0 0] 25)
  r0 : w2.cell? ⟨w.heap.size + 1, 0, none⟩ = some (.slice none 0 0)
  r1 : w2.cell? ⟨w.heap.size + 1, 1, none⟩ = some (.slice none 0 0)
  f0 : w2.frozen? ⟨w.heap.size + 1, 0, none⟩ = false
  f1 : w2.frozen? ⟨w.heap.size + 1, 1, none⟩ = false
  q1 : w1.cell? ⟨w.heap.size, 1, none⟩ = some (.slice ar lr cr)
  q2 : w1.cell? ⟨w.heap.size + 1, 0, none⟩ = some (.slice none 0 0) ∧ w1.cell? ⟨w.heap.size + 1, 1, none⟩ = some (.slice none 0 0) ∧ w1.frozen? ⟨w.heap.size + 1, 0, none⟩ = false ∧ w1.frozen? ⟨w.heap.size + 1, 1, none⟩ = false
  sz : w.heap.size + 1 < w1.heap.size
  s2 : w2.heap.size = w1.heap.size + 1
  bel : Below w1.heap.size w1 w2
theorem own_start (an ar : Option Addr) (ln cn lr cr : Nat) (w w1 : World) (h2 : Below ((w.alloc (.cells #[.slice an ln cn, .slice ar lr cr] 25)).alloc (.cells #[.slice none 0 0, .slice none 0 0] 25)).heap.size ((w.alloc (.cells #[.slice an ln cn, .slice ar lr cr] 25)).alloc (.cells #[.slice none 0 0, .slice none 0 0] 25)) w1) (b : Option Addr) (m c : Nat) :
    ∃ w2, w1.alloc (.cells #[.slice b m c, .slice none 0 0] 25) = w2 ∧ OS w w1 w2 ar lr cr (.slice b m c) := by
  have zz : w.heap.size + 1 + 1 ≤ w1.heap.size := by have := h2.size; simpa using this
  have bb : Below w1.heap.size w1 (w1.alloc (.cells #[.slice b m c, .slice none 0 0] 25)) := (Below.refl _ _).alloc (Nat.le_refl _) _
  have cc : ∀ k j, k < w.heap.size + 1 + 1 → (w1.alloc (.cells #[.slice b m c, .slice none 0 0] 25)).cell? ⟨k, j, none⟩ = ((w.alloc (.cells #[.slice an ln cn, .slice ar lr cr] 25)).alloc (.cells #[.slice none 0 0, .slice none 0 0] 25)).cell? ⟨k, j, none⟩ := fun k j hk => (bb.cell (p := ⟨k, j, none⟩) (show k < _ by omega)).trans (h2.cell (p := ⟨k, j, none⟩) (by simp; omega))
  have ff : ∀ k j, k < w.heap.size + 1 + 1 → (w1.alloc (.cells #[.slice b m c, .slice none 0 0] 25)).frozen? ⟨k, j, none⟩ = ((w.alloc (.cells #[.slice an ln cn, .slice ar lr cr] 25)).alloc (.cells #[.slice none 0 0, .slice none 0 0] 25)).frozen? ⟨k, j, none⟩ := fun k j hk => (bb.frozen (p := ⟨k, j, none⟩) (show k < _ by omega)).trans (h2.frozen (p := ⟨k, j, none⟩) (by simp; omega))
  refine ⟨_, rfl, ?_, by go_simp, by go_simp, by go_simp, ?_, ?_, ?_, ?_, ?_, ?_, ⟨?_, ?_, ?_, ?_⟩, by omega, by simp, bb⟩
  · rw [cc _ _ (by omega)]; go_simp
  · show (w1.heap.push _)[w1.heap.size]? = _; simp
  · rw [cc _ _ (by omega)]; go_simp
  · rw [cc _ _ (by omega)]; go_simp
  · rw [ff _ _ (by omega)]; go_simp
  · rw [ff _ _ (by omega)]; go_simp
  · rw [h2.cell (p := ⟨w.heap.size, 1, none⟩) (by simp; omega)]; go_simp
  · rw [h2.cell (p := ⟨w.heap.size + 1, 0, none⟩) (by simp)]; go_simp
  · rw [h2.cell (p := ⟨w.heap.size + 1, 1, none⟩) (by simp)]; go_simp
  · rw [h2.frozen (p := ⟨w.heap.size + 1, 0, none⟩) (by simp)]; go_simp
  · rw [h2.frozen (p := ⟨w.heap.size + 1, 1, none⟩) (by simp)]; go_simp

theorem NO.mono {w : World} {B B' : Nat} {a : Option Addr} {v : Value} {n : Nat} {ss : List ByteArray} (h : NO w B a v n ss) (hB : B' ≤ B) : NO w B' a v n ss := by
  rcases h with h | ⟨g, c, h1, h2, h2', h3, h4⟩
  · exact .inl h
  · exact .inr ⟨g, c, h1, h2, h2', ⟨Nat.le_trans hB h3.1, h3.2⟩, h4⟩
theorem RO.mono {w : World} {B B' : Nat} {v : Value} {n : Nat} {rs : List Rw} (h : RO w B v n rs) (hB : B' ≤ B) : RO w B' v n rs := by
  rcases h with h | ⟨g, c, qs, h1, h2, h3, h4, h5, h6⟩
  · exact .inl h
  · refine .inr ⟨g, c, qs, h1, h2, ⟨Nat.le_trans hB h3.1, h3.2⟩, h4, h5, fun i hi => ?_⟩
    obtain ⟨a1, a2, a3, a4, a5⟩ := h6 i hi
    refine ⟨a1, a2, a3, ⟨a4.1, ?_⟩, a5⟩
    rcases a4.2 with hn | ⟨q, cap, cur, e, hb, rest⟩
    · exact .inl hn
    · exact .inr ⟨q, cap, cur, e, Nat.le_trans hB hb, rest⟩
theorem own_back {w w' : World} {B : Nat} {E : TypeId} {size : Nat} {v : Value} {n : Nat} {xs : List Value} (h : w.ownsRow B E size v n xs) (b : Below w.heap.size w w') : w'.ownsRow B E size v n xs := by
  refine ⟨h.1, ?_⟩
  rcases h.2 with hn | ⟨q, cap, cur, e, hB, hg, rest⟩
  · exact .inl hn
  · exact .inr ⟨q, cap, cur, e, hB, by rw [b.block q (Array.getElem?_eq_some_iff.1 hg).1]; exact hg, rest⟩
/-- The end of own: the new table is laid into the answer's box. -/
theorem own_end {w w1 wr : World} {ln lr : Nat} {an ar b : Option Addr} {m c cr : Nat} {v2 L : Value} {ss : List ByteArray} {rs : List Rw} (hs : w.heap.size + 1 < w1.heap.size) (N : NO w1 (w.heap.size + 1 + 1) an (.slice b m c) ln ss) (bel : Below w1.heap.size w1 wr) (B1 : Below w.heap.size w w1) (R : RO wr w1.heap.size L lr rs) :
    NO ((wr.setCell ⟨w.heap.size + 1, 0, none⟩ (.slice b m c)).setCell ⟨w.heap.size + 1, 1, none⟩ L) w.heap.size an (.slice b m c) ln ss ∧ RO ((wr.setCell ⟨w.heap.size + 1, 0, none⟩ (.slice b m c)).setCell ⟨w.heap.size + 1, 1, none⟩ L) w.heap.size L lr rs ∧ Below w.heap.size w ((wr.setCell ⟨w.heap.size + 1, 0, none⟩ (.slice b m c)).setCell ⟨w.heap.size + 1, 1, none⟩ L) :=
  ⟨(((N.later bel).kept (grT_set _ _ 0 _) (by omega)).kept (grT_set _ _ 1 _) (by omega)).mono (by omega), ((R.kept (grT_set _ _ 0 _) (by omega)).kept (grT_set _ _ 1 _) (by omega)).mono (by omega),
    ((B1.trans (bel.mono B1.size)).setCell (p := ⟨w.heap.size + 1, 0, none⟩) (by simp) _).setCell (p := ⟨w.heap.size + 1, 1, none⟩) (by simp) _⟩
theorem ow_start (w1 : World) (v1 : Value) (rs : List Rw) (n : Nat) (hn : n ≤ 5864062014640) :
    OW w1 ((w1.alloc (.cells #[v1, .slice (some ⟨w1.heap.size + 1, 0, none⟩) 0 n] 25)).alloc (.cells (madeCells #[.slice none 0 0] n) 49)) v1 (.slice (some ⟨w1.heap.size + 1, 0, none⟩) 0 n) 0 [] rs := by
  have W0 := World.ownsRow_made (e := 49) (size := 1) (base := w1.heap.size) (w1.alloc (.cells #[v1, .slice (some ⟨w1.heap.size + 1, 0, none⟩) 0 n] 25)) (madeCells #[.slice none 0 0] n) n (by simp) (by unfold maxLen; omega) (by rw [size_madeCells]; omega)
  rw [World.size_alloc] at W0
  refine ⟨((Below.refl _ _).alloc (Nat.le_refl _) _).alloc (by simp) _, by go_simp, by go_simp, by go_simp, ⟨#[v1, .slice (some ⟨w1.heap.size + 1, 0, none⟩) 0 n], (0, 0), ?_⟩, W0, rfl, fun i hi => absurd hi (by omega)⟩
  exact (Below.heap_alloc _ _ _ (by simp)).trans (World.alloc_heap_new w1 _)
theorem own_mono {w : World} {B B' : Nat} {E : TypeId} {size : Nat} {v : Value} {n : Nat} {xs : List Value} (h : w.ownsRow B E size v n xs) (hB : B' ≤ B) : w.ownsRow B' E size v n xs := by
  refine ⟨h.1, ?_⟩
  rcases h.2 with hn | ⟨q, cap, cur, e, hb, rest⟩
  · exact .inl hn
  · exact .inr ⟨q, cap, cur, e, Nat.le_trans hB hb, rest⟩
theorem quad_news (W : World) (u v x z : Value) (E : TypeId) : ∀ y, some (⟨W.heap.size, 0, none⟩ : Addr) = some y → ∀ j q, [u, v, x, z][j]? = some q → (W.alloc (.cells #[u, v, x, z] E)).cell? (y.add j) = some q := by
  intro y e j q hj
  injection e with e; subst e
  match j, hj with
  | 0, hj => simp at hj; subst hj; simp [Addr.add]
  | 1, hj => simp at hj; subst hj; simp [Addr.add]
  | 2, hj => simp at hj; subst hj; simp [Addr.add]
  | 3, hj => simp at hj; subst hj; simp [Addr.add]
theorem quad_one : ∀ u ∈ [Value.bool true, .int .i64 (-77177), .bool true, .int .i64 (-77177)], u.oneCell' = true := fun u hu => by
  simp at hu
  rcases hu with rfl | rfl | rfl | rfl <;> rfl
theorem ccs_behind (cs : List Cl) : [] ++ ccs cs ++ [Value.bool true, .int .i64 (-77177), .bool true, .int .i64 (-77177)] = ccs (cs ++ [bc, bc]) := by rw [ccs_app]; rfl
theorem rowL_form {w : World} {e : TypeId} {B : Nat} {v : Value} {n : Nat} {xs : List Value} (h : w.ownsRow B e 1 v n xs) : ∃ a cap, v = .slice a n cap := by
  rcases h.2 with ⟨q, q0⟩ | ⟨g, cc, cur, q, _⟩
  · exact ⟨none, 0, by rw [q, q0]⟩
  · exact ⟨_, cc, q⟩

/-- The list of rows lies in a block of lists. -/
def LB (w : World) (v : Value) : Prop := ∀ z, v.ownBlock = some z → ∃ cur, w.heap[z]? = some (.cells cur 49)
theorem own_lb {w w1 wr : World} {n : Nat} {L : Value} {xs : List Value} {u v : Value} (hs : w.heap.size + 1 < w1.heap.size) (lo : wr.ownsRow w1.heap.size 49 1 L n xs) : LB ((wr.setCell ⟨w.heap.size + 1, 0, none⟩ u).setCell ⟨w.heap.size + 1, 1, none⟩ v) L := by
  intro z hz
  rcases lo.2 with ⟨e, _⟩ | ⟨g, cap, cur, e, hB, hg, _⟩
  · rw [e] at hz; cases hz
  · rw [e] at hz
    injection hz with hz
    subst hz
    have ne : ¬ w.heap.size + 1 = g := by omega
    exact ⟨cur, by simp [World.setCell, Array.getElem?_modify, ne, hg]⟩
set_option maxRecDepth 100000 in
set_option maxHeartbeats 4000000 in
theorem own_norows2 (an : Option Addr) (ln cn : Nat) (ss : List ByteArray) (rs : List Rw) (w : World) (h : NL w an ln ss) (hn : an = none → ln = 0 ∧ cn = 0) :
    Calls Tryd.prog 9 #[.agg #[.slice an ln cn, .slice none 0 0]] w fun e w' => ∃ b m c v2, e = .returned (.agg #[.slice b m c, v2]) ∧ NO w' w.heap.size an (.slice b m c) ln ss ∧ RO w' w.heap.size v2 0 rs ∧ Below w.heap.size w w' ∧ LB w' v2 := by
  have hB0 : Below w.heap.size w ((w.alloc (.cells #[.slice an ln cn, .slice none 0 0] 25)).alloc (.cells #[.slice none 0 0, .slice none 0 0] 25)) := ((Below.refl _ w).alloc (Nat.le_refl _) _).alloc (by simp) _
  have KN := Lib.hid (ownNames_any an ln cn ss _ (h.later hB0) hn)
  have B0 := Lib.hid hB0
  have en := eql_rows none 0 0
  clear hB0 h
  have TB := Lib.hid (fun W1 h2 b m c => own_start an none ln cn 0 0 w W1 h2 b m c)
  go_enter Tryd.func9, Tryd.ntmps9
  go_wp2_with (go_at_call 20; refine KN.out.mono ?_; rintro e w1 ⟨b, m, c, rfl, h1, h2⟩; have N1 := Lib.hid h1; have B1 := Lib.hid (B0.out.trans (h2.mono B0.out.size)); obtain ⟨w2, hw2, T2⟩ := TB.out w1 h2 b m c; subst hw2; have t1 := T2.p1; have t2 := T2.x0; have t3 := T2.x1; have t4 := T2.r0; have t5 := T2.r1; have t6 := T2.f0; have t7 := T2.f1; have S2 := Lib.hid T2; clear h1 h2)
  have E0 := own_end (ar := none) (cr := 0) (v2 := .slice none 0 0) (lr := 0) (rs := rs) S2.out.sz (by have := N1.out; simpa using this) S2.out.bel B1.out (.inl ⟨rfl, rfl⟩)
  refine bodyPost_ret (v := .agg #[.slice b m c, .slice none 0 0]) (by simp [results, Tryd.results9, go_sem, t4, t5]) rfl ⟨b, m, c, _, rfl, E0.1, E0.2.1, E0.2.2, fun z hz => by cases hz⟩

set_option maxRecDepth 100000 in
set_option maxHeartbeats 4000000 in
theorem own_rows2 (an : Option Addr) (xr : Addr) (ln cn lr cr : Nat) (ss : List ByteArray) (rs : List Rw) (w : World) (h : NL w an ln ss) (k : RL w (some xr) lr rs) (hn : an = none → ln = 0 ∧ cn = 0) (hb : Bh w) :
    Calls Tryd.prog 9 #[.agg #[.slice an ln cn, .slice (some xr) lr cr]] w fun e w' => ∃ b m c v2, e = .returned (.agg #[.slice b m c, v2]) ∧ NO w' w.heap.size an (.slice b m c) ln ss ∧ RO w' w.heap.size v2 lr rs ∧ Below w.heap.size w w' ∧ LB w' v2 := by
  have hB0 : Below w.heap.size w ((w.alloc (.cells #[.slice an ln cn, .slice (some xr) lr cr] 25)).alloc (.cells #[.slice none 0 0, .slice none 0 0] 25)) := ((Below.refl _ w).alloc (Nat.le_refl _) _).alloc (by simp) _
  have KN := Lib.hid (ownNames_any an ln cn ss _ (h.later hB0) hn)
  have B0 := Lib.hid hB0
  have en := eql_rows (some xr) lr cr
  have hlr := k.2.1
  have mk := make_rows (lr + 1) (by omega)
  simp only [Int.natCast_add, Int.cast_ofNat_Int] at mk
  clear hB0 h
  have TB := Lib.hid (fun W1 h2 b m c => own_start an (some xr) ln cn lr cr w W1 h2 b m c)
  go_enter Tryd.func9, Tryd.ntmps9
  go_wp2_with (go_at_call 20; refine KN.out.mono ?_; rintro e w1 ⟨b, m, c, rfl, h1, h2⟩; have N1 := Lib.hid h1; have B1 := Lib.hid (B0.out.trans (h2.mono B0.out.size)); obtain ⟨w2, hw2, T2⟩ := TB.out w1 h2 b m c; subst hw2; have t1 := T2.p1; have t2 := T2.x0; have t3 := T2.x1; have t8 := T2.xf; have S2 := Lib.hid T2; clear h1 h2)
  have OS0 := Lib.hid (ow_start w1 (.slice b m c) rs (lr + 1) (by omega))
  clear t1 t2 t3 t8 mk en
  go_loopw [4] (fun t wr => ∃ (i : Nat) (L : Value) (qs : List Rw), i ≤ lr ∧ t = .int .i64 i ∧ OW w1 wr (.slice b m c) L i qs rs) (fun t _ => lr - (intOf t).toNat)
  case atStart => exact ⟨0, _, [], by omega, rfl, OS0.out⟩
  case round =>
    rename World => wr
    obtain ⟨i, L, qs, hi, rfl, hO⟩ := hrel
    have O := Lib.hid hO
    have P1 := (hO.bel.cell (p := ⟨w.heap.size, 1, none⟩) (show w.heap.size < w1.heap.size by have := S2.out.sz; omega)).trans S2.out.q1
    by_cases hlt : i < lr
    · obtain ⟨x, o, rfl, hx, hcs⟩ : ∃ x o, xr = ⟨x, o, none⟩ ∧ x < w.heap.size ∧ ∀ j, j < lr → w.cell? ⟨x, o + j, none⟩ = some (.slice (rs.getD j default).a (rs.getD j default).n (rs.getD j default).cap) := by
        rcases k.2.2.2 with h0 | ⟨x, o, e, h1⟩
        · omega
        · injection e with e; exact ⟨x, o, e, h1⟩
      have BW := Lib.hid (B1.out.trans (hO.bel.mono B1.out.size))
      have c0 := (BW.out.cell (p := ⟨x, o + i, none⟩) hx).trans (hcs i hlt)
      obtain ⟨rc0, rc1, rc2, rc3⟩ := k.2.2.1 (rs.getD i default) (by
        have hk' : i < rs.length := by rw [k.1]; exact hlt
        rw [show rs.getD i default = rs[i] by simp [List.getD, hk']]; exact List.getElem_mem hk')
      have RC1 := Lib.hid (rc0.later BW.out)
      obtain ⟨bg, b0, b1⟩ := hb.later BW.out
      have ic : (i : Int) < (lr : Int) := by omega
      have hw1 := S2.out.sz
      obtain ⟨aL, cL, rfl⟩ := rowL_form hO.lo
      have x1 := hO.x1
      have xf := hO.xf
      obtain ⟨Xc, Xz, Xt⟩ := hO.xt
      have hXr : w1.heap.size < wr.heap.size := (Array.getElem?_eq_some_iff.1 Xt).1
      have STEP := Lib.hid (fun w3 w4 w5 L' n g c b3 b4 g5 hr hL => OW.step (w3 := w3) (w4 := w4) (w5 := w5) (L' := L') (n := n) (g := g) (c := c) hO b3 b4 g5 hr hL)
      clear hcs
      generalize rs.getD i default = r at *
      obtain ⟨ra, rn, rcap, rcs⟩ := r
      simp only at c0 RC1 rc1 rc2 STEP
      have rn1 := RC1.out.2.1
      have mkc := make_cells (rn + 2) (by omega)
      simp only [Int.natCast_add, Int.cast_ofNat_Int] at mkc
      have A0 := Lib.hid ((Below.refl wr.heap.size wr).alloc (Nat.le_refl _) (.cells (madeCells #[.bool false, .int .i64 0] ((rn + 2) * 2)) 53))
      have H0 := Lib.hid (rc_news (RC1.out.later A0.out))
      have W0 := Lib.hid (World.ownsRow_made (e := 53) (size := 2) (base := wr.heap.size) wr (madeCells #[.bool false, .int .i64 0] ((rn + 2) * 2)) (rn + 2) (Nat.le_refl _) (by unfold maxLen; omega) (by rw [size_madeCells]))
      have RF := Lib.hid (p := ∀ W v, World.ownsRow W wr.heap.size 53 2 v (0 + rn + 2) ([] ++ ccs rcs ++ [Value.bool true, .int .i64 (-77177), .bool true, .int .i64 (-77177)]) → ∃ g c, v = .slice (some ⟨g, 0, none⟩) (rn + 2) c ∧ rn + 2 ≤ c ∧ w1.heap.size ≤ g ∧ g < W.heap.size ∧ RowN W w1.heap.size ⟨some ⟨g, 0, none⟩, rn, c, rcs⟩ rcs) (fun W v o => by
        rw [ccs_behind, Nat.zero_add] at o
        exact rowN_of RC1.out.1 (own_mono o (Nat.le_of_lt hXr)))
      have ML := Lib.hid (p := (ccs rcs).length = rn * 2) (by rw [ccs_len, RC1.out.1])
      have PM := Lib.hid True.intro
      have CS := Lib.hid (p := ∀ W, Below wr.heap.size wr W → W.cell? ⟨w.heap.size, 1, none⟩ = some (.slice (some ⟨x, o, none⟩) lr cr) ∧ W.cell? ⟨x, o + i, none⟩ = some (.slice ra rn rcap) ∧ W.cell? ⟨0, 0, none⟩ = some (.bool true) ∧ W.cell? ⟨0, 1, none⟩ = some (.int .i64 (-77177)) ∧ W.cell? ⟨w1.heap.size, 1, none⟩ = some (.slice aL i cL) ∧ W.frozen? ⟨w1.heap.size, 1, none⟩ = false) (fun W hB => by
        have hxw : x < wr.heap.size := Nat.lt_of_lt_of_le hx BW.out.size
        exact ⟨(hB.cell (p := ⟨w.heap.size, 1, none⟩) (show w.heap.size < wr.heap.size by omega)).trans P1, (hB.cell (p := ⟨x, o + i, none⟩) hxw).trans c0, (hB.cell (p := ⟨0, 0, none⟩) bg).trans b0, (hB.cell (p := ⟨0, 1, none⟩) bg).trans b1, (hB.cell (p := ⟨w1.heap.size, 1, none⟩) hXr).trans x1, (hB.frozen (p := ⟨w1.heap.size, 1, none⟩) hXr).trans xf⟩)
      obtain ⟨e1, e2, e3, e4, e5, e6⟩ := CS.out _ A0.out
      clear hO bg
      go_wp2_with (first
        | (have qq := PM; at_builtin; refine wp_appG Tryd.underlying49 infoC rfl (by decide) _ wr.heap.size A0.out.size ra rn rcap (ccs rcs) ML.out H0.out rc1 (ccs_one rcs) rfl _ _ rfl _ 0 [] rfl W0.out rfl (by unfold maxLen; omega) (by omega) ?_; intro v1 w2 h1 h2; have O1 := Lib.hid h1; have B2 := Lib.hid (A0.out.grown h2 A0.out.size (fun k e => (W0.out.lt k e).1)); clear h1 h2 PM qq e1 e2 e3 e4 e5 e6; obtain ⟨e1, e2, e3, e4, e5, e6⟩ := CS.out _ B2.out)
        | (at_builtin; refine wp_appG Tryd.underlying49 infoC rfl (by decide) _ wr.heap.size (Nat.le_trans B2.out.size (by simp)) (some ⟨w2.heap.size, 0, none⟩) 2 2 [.bool true, .int .i64 (-77177), .bool true, .int .i64 (-77177)] rfl (quad_news w2 _ _ _ _ _) (fun e => by cases e) quad_one rfl _ _ rfl _ (0 + rn) ([] ++ ccs rcs) rfl (O1.out.alloc _) rfl (by unfold maxLen; omega) (by omega) ?_; intro v2 w3 h1 h2; obtain ⟨g, cg, rfl, cg1, gb, gl, RN⟩ := RF.out _ _ h1; have RN3 := Lib.hid RN; have B3 := Lib.hid ((B2.out.alloc B2.out.size _).grown h2 (Nat.le_trans B2.out.size (by simp)) (fun k e => (O1.out.lt k e).1)); clear h1 h2 RN e1 e2 e3 e4 e5 e6; obtain ⟨e1, e2, e3, e4, e5, e6⟩ := CS.out _ B3.out))
      have rg : (rn : Int) ≤ (cg : Int) := by omega
      have LO3 := own_back O.out.lo B3.out
      have LO4 := Lib.hid (LO3.alloc (.cells #[.slice (some ⟨g, 0, none⟩) rn cg] 49))
      have H4 := Lib.hid (World.alloc_heap_new w3 (.cells #[.slice (some ⟨g, 0, none⟩) rn cg] 49))
      have A4 := Lib.hid ((Below.refl w3.heap.size w3).alloc (Nat.le_refl _) (.cells #[.slice (some ⟨g, 0, none⟩) rn cg] 49))
      have D4 := Lib.hid (p := Below w3.heap.size w3 (w3.alloc (.cells #[.slice (some ⟨g, 0, none⟩) rn cg] 49)).drew) ⟨A4.out.os, A4.out.tape, A4.out.output, A4.out.size, A4.out.block⟩
      have SZ := Lib.hid (p := w1.heap.size ≤ (w3.alloc (.cells #[.slice (some ⟨g, 0, none⟩) rn cg] 49)).heap.size) (by have := B3.out.size; simp; omega)
      have hX3 := (B3.out.block w1.heap.size hXr).trans Xt
      have NEX := Lib.hid (ty_apart LO3 hX3 (by decide))
      have NF := Lib.hid (p := ∀ w5, (w3.alloc (.cells #[.slice (some ⟨g, 0, none⟩) rn cg] 49)).drew.grownBy w5 (Value.slice aL i cL).ownBlock → (w5.cell? ⟨w.heap.size, 1, none⟩ = some (.slice (some ⟨x, o, none⟩) lr cr) ∧ w5.cell? ⟨x, o + i, none⟩ = some (.slice ra rn rcap)) ∧ w5.cell? ⟨w1.heap.size, 1, none⟩ = some (.slice aL i cL) ∧ w5.frozen? ⟨w1.heap.size, 1, none⟩ = false) (fun w5 h5 => by
        have s3 : wr.heap.size ≤ w3.heap.size := B3.out.size
        have hxw : x < w3.heap.size := Nat.lt_of_lt_of_le (Nat.lt_of_lt_of_le hx BW.out.size) s3
        have low : ∀ q, q < w1.heap.size → some q ≠ (Value.slice aL i cL).ownBlock := fun q hq e => by have := (LO3.lt q e.symm).1; omega
        have bk : ∀ q, q < w3.heap.size → some q ≠ (Value.slice aL i cL).ownBlock → w5.heap[q]? = w3.heap[q]? := fun q hq hne => (h5.block q (Nat.lt_of_lt_of_le hq A4.out.size) hne).trans (A4.out.block q hq)
        exact ⟨⟨(World.cell?_of_block (a := ⟨w.heap.size, 1, none⟩) (bk w.heap.size (by omega) (low w.heap.size (by omega)))).trans e1, (World.cell?_of_block (a := ⟨x, o + i, none⟩) (bk x hxw (low x (by omega)))).trans e2⟩, (World.cell?_of_block (a := ⟨w1.heap.size, 1, none⟩) (bk w1.heap.size (by omega) (fun e => NEX.out e.symm))).trans e5, (World.frozen?_of_block (a := ⟨w1.heap.size, 1, none⟩) (bk w1.heap.size (by omega) (fun e => NEX.out e.symm))).trans e6⟩)
      clear LO3 hX3 Xt e3 e4
      have z1 := (A4.out.cell (p := ⟨w.heap.size, 1, none⟩) (World.block_lt_of_cell? w3 _ e1)).trans e1
      have z2 := (A4.out.cell (p := ⟨x, o + i, none⟩) (World.block_lt_of_cell? w3 _ e2)).trans e2
      have z3 := (A4.out.cell (p := ⟨w1.heap.size, 1, none⟩) (World.block_lt_of_cell? w3 _ e5)).trans e5
      go_wp2
      go_region_law (first | (refine step_rows _ rfl _ _ rfl w1.heap.size (.slice aL i cL) i (qs.map fun q : Rw => Value.slice q.a q.n q.cap) rfl LO4.out w3.heap.size (some ⟨g, 0, none⟩) rn cg (0, 0) rfl H4.out (by omega) SZ.out ?_; intro g' cap' w5 h1 h2; have T5 := Lib.hid h1; have G5 := Lib.hid h2; obtain ⟨⟨d1, d2⟩, d3, d4⟩ := NF.out w5 h2; clear h1 h2))
      all_goals
        go_wp2
        go_roundw
        case rel => exact ⟨i + 1, _, _, by omega, by go_num, STEP.out w3 _ w5 _ rn g cg B3.out D4.out G5.out RN3.out T5.out⟩
        case measure => simp [intOf]; omega
    · obtain rfl : i = lr := by omega
      have x0 := hO.x0
      have x1 := hO.x1
      have hw1 := S2.out.sz
      obtain ⟨aL, cL, rfl⟩ := rowL_form hO.lo
      obtain ⟨q0, q1, q2, q3⟩ := S2.out.q2
      have r0 := (hO.bel.cell (p := ⟨w.heap.size + 1, 0, none⟩) hw1).trans q0
      have r1 := (hO.bel.cell (p := ⟨w.heap.size + 1, 1, none⟩) hw1).trans q1
      have f0 := (hO.bel.frozen (p := ⟨w.heap.size + 1, 0, none⟩) hw1).trans q2
      have f1 := (hO.bel.frozen (p := ⟨w.heap.size + 1, 1, none⟩) hw1).trans q3
      have E0 := Lib.hid (own_end (ar := none) (cr := 0) (v2 := .slice none 0 0) (rs := rs) hw1 (by have := N1.out; simpa using this) hO.bel B1.out hO.ro)
      have LL := Lib.hid (p := LB ((wr.setCell ⟨w.heap.size + 1, 0, none⟩ (.slice b m c)).setCell ⟨w.heap.size + 1, 1, none⟩ (.slice aL i cL)) (.slice aL i cL)) (own_lb hw1 hO.lo)
      clear hO q0 q1 q2 q3
      go_wp2
      exact bodyPost_ret (v := .agg #[.slice b m c, .slice aL i cL]) (by simp [results, Tryd.results9, go_sem, r0, r1]) rfl ⟨b, m, c, _, rfl, E0.out.1, E0.out.2.1, E0.out.2.2, LL.out⟩

theorem own_any2 (an ar : Option Addr) (ln cn lr cr : Nat) (ss : List ByteArray) (rs : List Rw) (w : World) (h : NL w an ln ss) (k : RL w ar lr rs) (hn : an = none → ln = 0 ∧ cn = 0) (hr : ar = none → lr = 0 ∧ cr = 0) (hb : Bh w) :
    Calls Tryd.prog 9 #[.agg #[.slice an ln cn, .slice ar lr cr]] w fun e w' => ∃ b m c v2, e = .returned (.agg #[.slice b m c, v2]) ∧ NO w' w.heap.size an (.slice b m c) ln ss ∧ RO w' w.heap.size v2 lr rs ∧ Below w.heap.size w w' ∧ LB w' v2 := by
  cases ar with
  | none => obtain ⟨rfl, rfl⟩ := hr rfl; exact own_norows2 an ln cn ss rs w h hn
  | some xr => exact own_rows2 an xr ln cn lr cr ss rs w h k hn hb
theorem own_any (an ar : Option Addr) (ln cn lr cr : Nat) (ss : List ByteArray) (rs : List Rw) (w : World) (h : NL w an ln ss) (k : RL w ar lr rs) (hn : an = none → ln = 0 ∧ cn = 0) (hr : ar = none → lr = 0 ∧ cr = 0) (hb : Bh w) :
    Calls Tryd.prog 9 #[.agg #[.slice an ln cn, .slice ar lr cr]] w fun e w' => ∃ b m c v2, e = .returned (.agg #[.slice b m c, v2]) ∧ NO w' w.heap.size an (.slice b m c) ln ss ∧ RO w' w.heap.size v2 lr rs ∧ Below w.heap.size w w' :=
  (own_any2 an ar ln cn lr cr ss rs w h k hn hr hb).mono (fun e w' q => by obtain ⟨b, m, c, v2, e1, e2, e3, e4, _⟩ := q; exact ⟨b, m, c, v2, e1, e2, e3, e4⟩)
end Go.Proofs.YtglgdfgdfkeogaaDoor
