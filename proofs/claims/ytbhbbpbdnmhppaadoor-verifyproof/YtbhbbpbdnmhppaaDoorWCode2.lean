/-
  WALKS: the document's table (Table, row), and what it says of a number; Find of both.
-/
import Derived.Test.YtbhbbpbdnmhppaaDoorWCode1
import Derived.Laws.AppendOwn
import Derived.Laws.AppendOwnNone
import Derived.Laws.OwnMore
import Derived.Maps.AppendAt
namespace Go.Proofs.YtbhbbpbdnmhppaaDoor
open Go.RowKit
set_option linter.unusedVariables false
set_option linter.unusedSimpArgs false

/-- A row of the document's table. -/
structure Rf where
  n : ByteArray
  a : Int
  b : Int
  t : Int
  p : Int
  deriving Inhabited
def Rf.cells (r : Rf) : List Value := [.string r.n, .int .i64 r.a, .int .i64 r.b, .int .i64 r.t, .int .i64 r.p]
def rfc (l : List Rf) : List Value := l.flatMap Rf.cells
theorem rfc_len (l : List Rf) : (rfc l).length = l.length * 5 := by
  induction l with
  | nil => rfl
  | cons f l ih => simp [rfc, Rf.cells] at ih ⊢; omega
theorem rfc_app (l m : List Rf) : rfc (l ++ m) = rfc l ++ rfc m := by simp [rfc]
theorem rfc_at (l : List Rf) : ∀ i, i < l.length → ∀ j, j < 5 → (rfc l)[i * 5 + j]? = (l.getD i default).cells[j]? := by
  induction l with
  | nil => intro i hi; simp at hi
  | cons f l ih =>
    intro i hi j hj
    have e : rfc (f :: l) = f.cells ++ rfc l := rfl
    rw [e]
    match i with
    | 0 => rw [Nat.zero_mul, Nat.zero_add, List.getElem?_append_left (by simp [Rf.cells]; omega)]; rfl
    | i + 1 =>
      rw [List.getElem?_append_right (by simp [Rf.cells]; omega)]
      rw [show (i + 1) * 5 + j - f.cells.length = i * 5 + j by simp [Rf.cells]; omega, ih i (by simpa using hi) j hj]
      rfl
theorem infoR : (Tryd.prog.info? 159).map (fun i => (i.zero, i.size, i.bytes)) = some (some (.agg #[.string ⟨#[]⟩, .int .i64 0, .int .i64 0, .int .i64 0, .int .i64 0]), 5, 48) := by kernel_rfl
abbrev OwR (w : World) (B : Nat) (v : Value) (l : List Rf) : Prop := w.ownsRow B 159 5 v l.length (rfc l)
theorem own_litR (w : World) (B : Nat) (hB : B ≤ w.heap.size) (l : List Rf) (hl : l.length ≤ 1000) (C : Array Value) (hC : C = (rfc l).toArray) : OwR (w.alloc (.cells C 159)) B (.slice (some ⟨w.heap.size, 0, none⟩) l.length l.length) l := by
  subst hC
  refine ⟨rfc_len l, .inr ⟨w.heap.size, l.length, (rfc l).toArray, rfl, hB, heap_new w _, Nat.le_refl _, by unfold maxLen; omega, by simp [rfc_len], ?_⟩⟩
  rw [List.take_of_length_le]
  simp [rfc_len]
theorem wp_rowsR {ops : Array Oper} {rest : List Oper} {o : Oper} {a : Act} {Q : Exit → Act → World → Prop} (w : World) (ys : List Rf) (N : Nat) (hN : N = w.heap.size) (hgd : o.guard = none) (s x : Operand)
    (ho : o.op = .call { callee := .builtin .append, args := #[s, x], argTypes := #[168, 168] }) (base : Nat) (v : Value) (ss : List Rf) (hs : a.eval s = v) (m : Nat) (hm : m = ys.length)
    (hx : a.eval x = .slice (some ⟨N, 0, none⟩) m m) (hown : OwR w base v ss) (hl : ss.length ≤ 1000) (hy : ys.length ≤ 1000) (hb : base ≤ w.heap.size) (C : Array Value) (hC : C = (rfc ys).toArray)
    (h : ∀ v' w', OwR w' base v' (ss ++ ys) → Below base w w' → wpList Tryd.prog ops Q rest (a.put o.dst v') w') :
    wpList Tryd.prog ops Q (o :: rest) a (w.alloc (.cells C 159)) := by
  subst hN; subst hm; subst hC
  obtain ⟨i0, hi, hz0, hz1, hz2⟩ := info_parts infoR
  refine wpList_append_own _ hgd s x 168 ho base 159 i0 _ 5 48 Tryd.underlying168 hi hz0 hz1 hz2 rfl (by decide) v _ _ hs (hown.alloc _) ⟨w.heap.size, 0, none⟩ ys.length ys.length (rfc ys) hx (rfc_len ys) ?_ ?_ (by unfold maxLen; omega) (by omega) (by simp; omega) ?_
  · intro j u hj
    have e : ((⟨w.heap.size, 0, none⟩ : Addr).add j) = ⟨w.heap.size, j, none⟩ := by unfold Addr.add; rw [Nat.zero_add]; split <;> simp_all
    rw [e, World.cell?_alloc_at _ _ _ _ rfl]
    simpa using hj
  · intro u hu
    obtain ⟨r, _, hr⟩ := List.mem_flatMap.1 hu
    simp [Rf.cells] at hr
    rcases hr with rfl | rfl | rfl | rfl | rfl <;> rfl
  · intro v' w' h1 h2 _
    refine h v' w' ?_ ?_
    · unfold OwR
      rw [List.length_append, rfc_app]
      exact h1
    · exact ((Below.refl _ w).alloc hb _).grown h2 (by simp; omega) (fun k e => by
        rcases hown.2 with ⟨rfl, _⟩ | ⟨g, c, cur, rfl, hB, _⟩
        · simp [Value.ownBlock] at e
        · simp [Value.ownBlock] at e; omega)
def rp0 : List Rf := [⟨⟨#[101, 110, 100]⟩, (-1), (-1), 0, 0⟩, ⟨⟨#[99, 111, 110, 115, 116]⟩, 16383, (-1), 0, 1⟩, ⟨⟨#[98, 111, 111, 108]⟩, 1, (-1), 0, 1⟩, ⟨⟨#[111, 98, 115]⟩, 63, 3660, 0, 1⟩]
def rp1 : List Rf := [⟨⟨#[108, 111, 97, 100]⟩, 32767, (-1), 0, 1⟩, ⟨⟨#[115, 116, 111, 114, 101]⟩, 32767, (-1), 1, 0⟩]
def rp2 : List Rf := [⟨⟨#[107, 101, 101, 112]⟩, 16383, (-1), 1, 1⟩, ⟨⟨#[103, 101, 116]⟩, 16383, (-1), 0, 1⟩, ⟨⟨#[100, 114, 111, 112]⟩, (-1), (-1), 1, 0⟩]
def rp3 : List Rf := [⟨⟨#[97, 100, 100]⟩, (-1), (-1), 2, 1⟩, ⟨⟨#[115, 117, 98]⟩, (-1), (-1), 2, 1⟩, ⟨⟨#[109, 117, 108]⟩, (-1), (-1), 2, 1⟩, ⟨⟨#[110, 101, 103]⟩, (-1), (-1), 1, 1⟩]
def rp4 : List Rf := [⟨⟨#[100, 105, 118]⟩, (-1), (-1), 2, 1⟩, ⟨⟨#[109, 111, 100]⟩, (-1), (-1), 2, 1⟩, ⟨⟨#[97, 98, 115]⟩, (-1), (-1), 1, 1⟩, ⟨⟨#[109, 105, 110]⟩, (-1), (-1), 2, 1⟩, ⟨⟨#[109, 97, 120]⟩, (-1), (-1), 2, 1⟩]
def rp5 : List Rf := [⟨⟨#[114, 97, 116, 105, 111]⟩, 4, (-1), 3, 1⟩]
def rp6 : List Rf := [⟨⟨#[108, 116]⟩, (-1), (-1), 2, 1⟩, ⟨⟨#[108, 101]⟩, (-1), (-1), 2, 1⟩, ⟨⟨#[103, 116]⟩, (-1), (-1), 2, 1⟩, ⟨⟨#[103, 101]⟩, (-1), (-1), 2, 1⟩, ⟨⟨#[101, 113]⟩, (-1), (-1), 2, 1⟩, ⟨⟨#[110, 101]⟩, (-1), (-1), 2, 1⟩]
def rp7 : List Rf := [⟨⟨#[110, 111, 116]⟩, (-1), (-1), 1, 1⟩, ⟨⟨#[106, 117, 109, 112]⟩, 262143, (-1), 0, 0⟩, ⟨⟨#[122, 101, 114, 111]⟩, 262143, (-1), 1, 0⟩, ⟨⟨#[102, 108, 111, 119]⟩, 4095, (-1), 1, 0⟩]
/-- The k-th row. -/
def rfs (k : Nat) : Rf := ⟨nmA k, if 1 ≤ onA k then (baA k : Int) else -1, if 2 ≤ onA k then (bbA k : Int) else -1, (tkA k : Int), (ptA k : Int)⟩
def rtab : List Rf := rp0 ++ rp1 ++ rp2 ++ rp3 ++ rp4 ++ rp5 ++ rp6 ++ rp7
theorem rtab_at : ∀ k, k < 29 → rtab.getD k default = rfs k
  | 0, _ => rfl
  | 1, _ => rfl
  | 2, _ => rfl
  | 3, _ => rfl
  | 4, _ => rfl
  | 5, _ => rfl
  | 6, _ => rfl
  | 7, _ => rfl
  | 8, _ => rfl
  | 9, _ => rfl
  | 10, _ => rfl
  | 11, _ => rfl
  | 12, _ => rfl
  | 13, _ => rfl
  | 14, _ => rfl
  | 15, _ => rfl
  | 16, _ => rfl
  | 17, _ => rfl
  | 18, _ => rfl
  | 19, _ => rfl
  | 20, _ => rfl
  | 21, _ => rfl
  | 22, _ => rfl
  | 23, _ => rfl
  | 24, _ => rfl
  | 25, _ => rfl
  | 26, _ => rfl
  | 27, _ => rfl
  | 28, _ => rfl
  | n + 29, h => absurd h (by omega)
/-- The table that came, where the world holds it. -/
def RTb (w : World) (g : Nat) : Prop := g < w.heap.size ∧ ∀ k, k < 29 → w.cell? ⟨g, k * 5, none⟩ = some (.string (nmA k)) ∧ w.cell? ⟨g, k * 5 + 1, none⟩ = some (.int .i64 (rfs k).a) ∧ w.cell? ⟨g, k * 5 + 2, none⟩ = some (.int .i64 (rfs k).b) ∧ w.cell? ⟨g, k * 5 + 3, none⟩ = some (.int .i64 (tkA k : Int)) ∧ w.cell? ⟨g, k * 5 + 4, none⟩ = some (.int .i64 (ptA k : Int))
theorem rtb_of {w : World} {B : Nat} {v : Value} (h : OwR w B v rtab) : ∃ g cap, v = .slice (some ⟨g, 0, none⟩) 29 cap ∧ RTb w g := by
  obtain ⟨h1, h2⟩ := h
  have hl : rtab.length = 29 := rfl
  rw [hl] at h2
  rcases h2 with ⟨rfl, h2⟩ | ⟨g, cap, cur, rfl, hB, hg, hn, hm, hs, ht⟩
  · omega
  · refine ⟨g, cap, rfl, (Array.getElem?_eq_some_iff.1 hg).1, fun k hk => ?_⟩
    have key : ∀ j, j < 5 → w.cell? ⟨g, k * 5 + j, none⟩ = (rfs k).cells[j]? := fun j hj => by
      have e : w.cell? ⟨g, k * 5 + j, none⟩ = cur[k * 5 + j]? := by simp [World.cell?, hg]
      rw [e, ← rtab_at k hk, ← rfc_at rtab k hk j hj, ← ht, List.getElem?_take_of_lt (by omega)]
      simp
    exact ⟨key 0 (by omega), key 1 (by omega), key 2 (by omega), key 3 (by omega), key 4 (by omega)⟩
def TbE (w : World) (e : Ending) (w' : World) : Prop := ∃ g cap, e = .returned (.slice (some ⟨g, 0, none⟩) 29 cap) ∧ RTb w' g ∧ Below w.heap.size w w'
set_option maxRecDepth 100000 in
set_option maxHeartbeats 4000000 in
theorem table_any (w : World) : Calls Tryd.prog 99 #[] w fun e w' => TbE w e w' := by
  obtain ⟨w1, hw1⟩ : ∃ w1, w.alloc (.cells #[.string ⟨#[101, 110, 100]⟩, .int .i64 (-1), .int .i64 (-1), .int .i64 0, .int .i64 0, .string ⟨#[99, 111, 110, 115, 116]⟩, .int .i64 16383, .int .i64 (-1), .int .i64 0, .int .i64 1, .string ⟨#[98, 111, 111, 108]⟩, .int .i64 1, .int .i64 (-1), .int .i64 0, .int .i64 1, .string ⟨#[111, 98, 115]⟩, .int .i64 63, .int .i64 3660, .int .i64 0, .int .i64 1] 159) = w1 := ⟨_, rfl⟩
  have O1 := Lib.hid (p := OwR w1 w.heap.size (.slice (some ⟨w.heap.size, 0, none⟩) 4 4) rp0) (by rw [← hw1]; exact own_litR w w.heap.size (Nat.le_refl _) rp0 (by decide) _ rfl)
  have B1 := Lib.hid (p := Below w.heap.size w w1) (by rw [← hw1]; exact (Below.refl _ _).alloc (Nat.le_refl _) _)
  have C2 := Lib.hid (p := (#[.string ⟨#[108, 111, 97, 100]⟩, .int .i64 32767, .int .i64 (-1), .int .i64 0, .int .i64 1, .string ⟨#[115, 116, 111, 114, 101]⟩, .int .i64 32767, .int .i64 (-1), .int .i64 1, .int .i64 0] : Array Value) = (rfc rp1).toArray) rfl
  have C3 := Lib.hid (p := (#[.string ⟨#[107, 101, 101, 112]⟩, .int .i64 16383, .int .i64 (-1), .int .i64 1, .int .i64 1, .string ⟨#[103, 101, 116]⟩, .int .i64 16383, .int .i64 (-1), .int .i64 0, .int .i64 1, .string ⟨#[100, 114, 111, 112]⟩, .int .i64 (-1), .int .i64 (-1), .int .i64 1, .int .i64 0] : Array Value) = (rfc rp2).toArray) rfl
  have C4 := Lib.hid (p := (#[.string ⟨#[97, 100, 100]⟩, .int .i64 (-1), .int .i64 (-1), .int .i64 2, .int .i64 1, .string ⟨#[115, 117, 98]⟩, .int .i64 (-1), .int .i64 (-1), .int .i64 2, .int .i64 1, .string ⟨#[109, 117, 108]⟩, .int .i64 (-1), .int .i64 (-1), .int .i64 2, .int .i64 1, .string ⟨#[110, 101, 103]⟩, .int .i64 (-1), .int .i64 (-1), .int .i64 1, .int .i64 1] : Array Value) = (rfc rp3).toArray) rfl
  have C5 := Lib.hid (p := (#[.string ⟨#[100, 105, 118]⟩, .int .i64 (-1), .int .i64 (-1), .int .i64 2, .int .i64 1, .string ⟨#[109, 111, 100]⟩, .int .i64 (-1), .int .i64 (-1), .int .i64 2, .int .i64 1, .string ⟨#[97, 98, 115]⟩, .int .i64 (-1), .int .i64 (-1), .int .i64 1, .int .i64 1, .string ⟨#[109, 105, 110]⟩, .int .i64 (-1), .int .i64 (-1), .int .i64 2, .int .i64 1, .string ⟨#[109, 97, 120]⟩, .int .i64 (-1), .int .i64 (-1), .int .i64 2, .int .i64 1] : Array Value) = (rfc rp4).toArray) rfl
  have C6 := Lib.hid (p := (#[.string ⟨#[114, 97, 116, 105, 111]⟩, .int .i64 4, .int .i64 (-1), .int .i64 3, .int .i64 1] : Array Value) = (rfc rp5).toArray) rfl
  have C7 := Lib.hid (p := (#[.string ⟨#[108, 116]⟩, .int .i64 (-1), .int .i64 (-1), .int .i64 2, .int .i64 1, .string ⟨#[108, 101]⟩, .int .i64 (-1), .int .i64 (-1), .int .i64 2, .int .i64 1, .string ⟨#[103, 116]⟩, .int .i64 (-1), .int .i64 (-1), .int .i64 2, .int .i64 1, .string ⟨#[103, 101]⟩, .int .i64 (-1), .int .i64 (-1), .int .i64 2, .int .i64 1, .string ⟨#[101, 113]⟩, .int .i64 (-1), .int .i64 (-1), .int .i64 2, .int .i64 1, .string ⟨#[110, 101]⟩, .int .i64 (-1), .int .i64 (-1), .int .i64 2, .int .i64 1] : Array Value) = (rfc rp6).toArray) rfl
  have C8 := Lib.hid (p := (#[.string ⟨#[110, 111, 116]⟩, .int .i64 (-1), .int .i64 (-1), .int .i64 1, .int .i64 1, .string ⟨#[106, 117, 109, 112]⟩, .int .i64 262143, .int .i64 (-1), .int .i64 0, .int .i64 0, .string ⟨#[122, 101, 114, 111]⟩, .int .i64 262143, .int .i64 (-1), .int .i64 1, .int .i64 0, .string ⟨#[102, 108, 111, 119]⟩, .int .i64 4095, .int .i64 (-1), .int .i64 1, .int .i64 0] : Array Value) = (rfc rp7).toArray) rfl
  have P1 : True := trivial
  have P2 : True := trivial
  have P3 : True := trivial
  have P4 : True := trivial
  have P5 : True := trivial
  have P6 : True := trivial
  have P7 : True := trivial
  go_enter Tryd.func99, Tryd.ntmps99
  go_wp2_with (first
    | (at_builtin; have qq := P1; refine wp_rowsR _ rp1 _ rfl rfl _ _ rfl w.heap.size _ rp0 rfl 2 rfl rfl O1.out (by decide) (by decide) B1.out.size _ C2.out ?_; intro v2 w2 o2 b2; have O2 := Lib.hid o2; have B2 := Lib.hid (B1.out.trans b2); clear o2 b2 P1)
    | (at_builtin; have qq := P2; refine wp_rowsR _ rp2 _ rfl rfl _ _ rfl w.heap.size _ (rp0 ++ rp1) rfl 3 rfl rfl O2.out (by decide) (by decide) B2.out.size _ C3.out ?_; intro v3 w3 o3 b3; have O3 := Lib.hid o3; have B3 := Lib.hid (B2.out.trans b3); clear o3 b3 P2)
    | (at_builtin; have qq := P3; refine wp_rowsR _ rp3 _ rfl rfl _ _ rfl w.heap.size _ (rp0 ++ rp1 ++ rp2) rfl 4 rfl rfl O3.out (by decide) (by decide) B3.out.size _ C4.out ?_; intro v4 w4 o4 b4; have O4 := Lib.hid o4; have B4 := Lib.hid (B3.out.trans b4); clear o4 b4 P3)
    | (at_builtin; have qq := P4; refine wp_rowsR _ rp4 _ rfl rfl _ _ rfl w.heap.size _ (rp0 ++ rp1 ++ rp2 ++ rp3) rfl 5 rfl rfl O4.out (by decide) (by decide) B4.out.size _ C5.out ?_; intro v5 w5 o5 b5; have O5 := Lib.hid o5; have B5 := Lib.hid (B4.out.trans b5); clear o5 b5 P4)
    | (at_builtin; have qq := P5; refine wp_rowsR _ rp5 _ rfl rfl _ _ rfl w.heap.size _ (rp0 ++ rp1 ++ rp2 ++ rp3 ++ rp4) rfl 1 rfl rfl O5.out (by decide) (by decide) B5.out.size _ C6.out ?_; intro v6 w6 o6 b6; have O6 := Lib.hid o6; have B6 := Lib.hid (B5.out.trans b6); clear o6 b6 P5)
    | (at_builtin; have qq := P6; refine wp_rowsR _ rp6 _ rfl rfl _ _ rfl w.heap.size _ (rp0 ++ rp1 ++ rp2 ++ rp3 ++ rp4 ++ rp5) rfl 6 rfl rfl O6.out (by decide) (by decide) B6.out.size _ C7.out ?_; intro v7 w7 o7 b7; have O7 := Lib.hid o7; have B7 := Lib.hid (B6.out.trans b7); clear o7 b7 P6)
    | (at_builtin; have qq := P7; refine wp_rowsR _ rp7 _ rfl rfl _ _ rfl w.heap.size _ (rp0 ++ rp1 ++ rp2 ++ rp3 ++ rp4 ++ rp5 ++ rp6) rfl 4 rfl rfl O7.out (by decide) (by decide) B7.out.size _ C8.out ?_; intro v8 w8 o8 b8; have O8 := Lib.hid o8; have B8 := Lib.hid (B7.out.trans b8); clear o8 b8 P7))
  obtain ⟨g, cap, hv, hg⟩ := rtb_of O8.out
  subst hv
  go_ret
  exact (show TbE _ _ _ from ⟨g, cap, rfl, hg, B8.out⟩)
end Go.Proofs.YtbhbbpbdnmhppaaDoor
